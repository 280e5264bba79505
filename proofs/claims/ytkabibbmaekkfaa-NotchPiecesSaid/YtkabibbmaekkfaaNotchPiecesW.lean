/-
  LAYER 1: the walk of NotchPieces.
-/
import Derived.Test.YtkabibbmaekkfaaNotchHead
import Derived.Deep.QuietTactic
import Derived.BigQuiet
namespace Go.Proofs.Ytkabibbmaekkfaa
open Go.RowKit

theorem same_world {P : Program} {f : FuncId} {args : Array Value} {w : World} {v : Value} (h : Calls P f args w fun e w' => e = .returned v ∧ w = w') : Calls P f args w fun e w' => e = .returned v ∧ w' = w :=
  h.mono fun _ _ ⟨a, b⟩ => ⟨a, b.symm⟩

/-- What the loop of NotchPieces keeps: k pieces are taken, they and the rest make up the text. -/
def PieceRel (l : List UInt8) (len g B : Nat) (w : World) (all i : Value) (wr : World) : Prop :=
  ∃ (k : Nat) (done rest : List UInt8), k ≤ len ∧ i = .int .i64 (k : Int) ∧ all = .string (mk done) ∧ done ++ rest = l ∧ RD wr g rest 1 ∧ Below B w wr

theorem rTake_min {rest : List UInt8} {n : Nat} (h : n ≤ rest.length) : rTake rest 1 (n : Int) = (rest.take n, rest.drop n, 1) := by
  rw [rTake_ok, if_pos h]

theorem below_grown_drew {B g n : Nat} {a b c : World} (h : Below B a b) (k : (b.drewN n).grownBy c (some g)) (hB : B ≤ b.heap.size) (hg : B ≤ g) : Below B a c :=
  below_grown (b := b.drewN n) (⟨h.os, h.tape, h.output, h.size, h.block⟩ : Below B a (b.drewN n)) k hB hg

set_option maxHeartbeats 1000000 in
theorem pieces_long (s : ByteArray) (v : Value) (w : World) (h : 3000 < s.size) :
    Calls Try.prog 9 #[.string s, v] w fun e w' => e = .returned (.bool true) ∧ Below w.heap.size w w' := by
  have h' : (3000 : Int) < (s.size : Int) := by omega
  go_enter Try.func9, Try.ntmps9
  go_wp2_with (go_at_call 10; refine (head_any _).mono ?_; rintro e w1 ⟨rfl, b1⟩)
  go_ret
  exact ⟨rfl, b1⟩

set_option maxHeartbeats 2000000 in
theorem pieces_any (l : List UInt8) (A : Option Addr) (len cap : Nat) (z : Nat → Nat) (w : World) (hl : l.length ≤ 3000) (hlen : len ≤ 9223372036854775807) (hz : ∀ i, z i < 256)
    (hc : ∀ i, i < len → ∃ b off, A = some ⟨b, off, none⟩ ∧ b < w.heap.size ∧ w.cell? ⟨b, off + i, none⟩ = some (.int .u8 (z i : Int))) :
    Calls Try.prog 9 #[.string (mk l), .slice A len cap] w fun e w' => e = .returned (.bool true) ∧ Below w.heap.size w w' := by
  have hs : ((mk l).size : Int) ≤ 3000 := by rw [mk_size]; omega
  have HC := Lib.hid hc
  have HZ := Lib.hid hz
  clear hc hz
  go_enter Try.func9, Try.ntmps9
  go_wp2_with fail
  refine (open_any (mk l) _).mono ?_
  rintro e w1 ⟨rfl, h1, b1⟩
  rw [mk_toList] at h1
  go_wp2
  go_loopw [6, 7] (fun all i wr => PieceRel l len w.heap.size w.heap.size w all i wr) (fun _ i _ => len - (intOf i).toNat)
  case atStart => exact ⟨0, [], l, Nat.zero_le _, rfl, rfl, rfl, h1, b1⟩
  case round =>
    obtain ⟨k, done, rest, hk, rfl, rfl, hdr, hrd, hbel⟩ := hrel
    have hbs := hbel.size
    have HD := Lib.hid hdr
    have hll : done.length + rest.length ≤ 3000 := by have := congrArg List.length hdr; rw [List.length_append] at this; omega
    clear hdr
    by_cases hlt : k < len
    · obtain ⟨b, off, rfl, hbw, hcell0⟩ := HC.out k hlt
      have hcell : wr.cell? ⟨b, off + k, none⟩ = some (.int .u8 (z k : Int)) := (hbel.cell (p := ⟨b, off + k, none⟩) hbw).trans hcell0
      clear hcell0
      have hzk := HZ.out k
      generalize z k = x at *
      have hk0 : (0 : Int) ≤ (k : Int) := by omega
      have hkl : (k : Int) < (len : Int) := by omega
      have hdn := rTake_min (rest := rest) (n := min x rest.length) (by omega)
      have hmn : min (x : Int) (rest.length : Int) = ((min x rest.length : Nat) : Int) := by omega
      have hmle : min x rest.length ≤ rest.length := by omega
      have HT := Lib.hid hdn
      have HM := Lib.hid hmn
      clear hdn hmn
      go_wp2
      go_quiet ((go_at_call 24; exact Calls.quiet_of_same (same_world (leftR_good w.heap.size rest _ hrd))))
      go_wp2_with fail
      rw [HM.out]
      generalize min x rest.length = n at *
      refine (takeR_any w.heap.size rest 1 (n : Nat) (wr.drewN nq) hrd (.inl rfl) (by omega)).mono ?_
      rintro e w2 ⟨rfl, h2, g2⟩
      rw [HT.out] at h2
      rw [HT.out]
      have hsz : (mk (rest.take n)).size = n := by rw [mk_size, List.length_take]; omega
      have hb2 : Below w.heap.size w w2 := below_grown_drew hbel g2 hbs (Nat.le_refl _)
      have hnb : ((((mk (rest.take n)).size : Nat) : Int) != (n : Int)) = false := by rw [hsz]; simp
      have hadd : (mk done).size + (mk (rest.take n)).size ≤ 9223372036854775807 := by rw [hsz, mk_size]; omega
      have HA := Lib.hid (mk_append done (rest.take n))
      clear hsz
      go_wp2_with (go_at_call 25; refine (bad_any w.heap.size (rest.drop n) 1 _ h2 (.inl rfl)).mono ?_; rintro e w3 ⟨rfl, rfl⟩)
      go_roundw
      case rel => exact ⟨k + 1, _, _, by omega, by go_num, by rw [← HA.out], by rw [← HD.out, List.append_assoc, List.take_append_drop], h2, hb2⟩
      case measure => simp [intOf]; omega
    · have HT := Lib.hid (show rTake rest 1 ((rest.length : Nat) : Int) = (rest, [], 1) by rw [rTake_min (Nat.le_refl _)]; simp)
      have heq : ((mk done ++ mk rest).toList == (mk l).toList) = true := by rw [mk_append, HD.out]; simp
      have hadd : (mk done).size + (mk rest).size ≤ 9223372036854775807 := by rw [mk_size, mk_size]; omega
      go_wp2_with fail
      refine (leftR_good w.heap.size rest _ hrd).mono ?_
      rintro e w2 ⟨rfl, rfl⟩
      go_wp2_with fail
      refine (takeR_any w.heap.size rest 1 _ _ hrd (.inl rfl) (by omega)).mono ?_
      rintro e w2 ⟨rfl, h2, g2⟩
      rw [HT.out] at h2
      rw [HT.out]
      have hb2 : Below w.heap.size w w2 := below_grown hbel g2 hbs (Nat.le_refl _)
      go_wp2_with (first
        | (go_at_call 24; refine (leftR_good w.heap.size [] _ h2).mono ?_; rintro e w3 ⟨rfl, rfl⟩)
        | (go_at_call 25; refine (bad_any w.heap.size [] 1 _ h2 (.inl rfl)).mono ?_; rintro e w3 ⟨rfl, rfl⟩)
        | (go_at_call 10; refine (head_any _).mono ?_; rintro e w3 ⟨rfl, b3⟩))
      go_ret
      exact ⟨rfl, hb2.trans (b3.mono hb2.size)⟩
end Go.Proofs.Ytkabibbmaekkfaa
