/-
  LAYER 1: the document's answer: Num, Nums, Text, by contracts over the same plain mathematics.
-/
import Derived.Test.YtkabibbmaekkfaaNotchHead
namespace Go.Proofs.Ytkabibbmaekkfaa
open Go.RowKit

theorem wid_div {m : Nat} (h0 : m ≠ 0) (h : m < 2 ^ 64) : wid m = 1 + wid (m / 256) := by
  have e : wid (m / 256) = widA 7 (m / 256) := by
    refine wid_uniq (Nat.le_trans (widA_le 7 _) (by omega)) (widA_lt 7 _ (by omega)) (widA_pos 7 _)
  rw [e]
  show widA 8 m = _
  rw [widA, if_neg h0]

/-- A row of one byte, made a text. -/
theorem conv_one (w : World) (g : Nat) (hg : w.heap.size = g) (n : Nat) (hn : n < 256) :
    (convert 53 9 (.slice (some ⟨g, 0, none⟩) 1 1)).run Try.prog (w.alloc (.cells #[.int .u8 (n : Int)] 5)) = .ok (.string (mk [byt n])) (w.alloc (.cells #[.int .u8 (n : Int)] 5)) := by
  subst hg
  refine run_convert_bytes_back _ 53 9 5 ⟨w.heap.size, 0, none⟩ 1 [byt n] Try.underlying53 Try.underlying5 Try.underlying9 ?_
  intro j hj
  have hj0 : j = 0 := by simpa using hj
  subst hj0
  rw [show (⟨w.heap.size, 0, none⟩ : Addr).add 0 = ⟨w.heap.size, 0, none⟩ from rfl, World.cell?_alloc_at _ _ _ _ rfl]
  simp [byt_toNat, Nat.mod_eq_of_lt hn]

def RefRel (n B : Nat) (w : World) (m s : Value) (wr : World) : Prop :=
  ∃ (k : Nat) (d : List UInt8), k ≤ n ∧ m = .int .u64 (k : Int) ∧ s = .string (mk d) ∧ d.length ≤ 8 ∧ digs (wid k) k ++ d = digs (wid n) n ∧ Below B w wr

set_option maxHeartbeats 1000000 in
theorem refNum_any (n : Nat) (w : World) (hn : n < 2 ^ 64) :
    Calls Try.prog 12 #[.int .u64 (n : Int)] w fun e w' => e = .returned (.string (mk (numB n))) ∧ Below w.heap.size w w' := by
  go_enter Try.func12, Try.ntmps12
  go_wp2
  go_loopw [0, 3] (fun m s wr => RefRel n w.heap.size w m s wr) (fun m _ _ => (intOf m).toNat)
  case atStart => exact ⟨n, [], Nat.le_refl _, rfl, rfl, by simp, by simp, Below.refl _ _⟩
  case round =>
    obtain ⟨k, d, hk, rfl, rfl, hd8, hdig, hbel⟩ := hrel
    have hbs := hbel.size
    have HD := Lib.hid hdig
    clear hdig
    by_cases h0 : k = 0
    · have hlen : d.length = wid n := by
        have := congrArg List.length HD.out
        rw [h0] at this
        simp only [List.length_append, digs_length] at this
        have hz : wid 0 = 0 := rfl
        omega
      have hdd : d = digs (wid n) n := by
        have := HD.out
        rw [h0] at this
        simpa [show wid 0 = 0 from rfl, digs] using this
      have hw8 := wid_le n
      have HL := Lib.hid hlen
      have HDD := Lib.hid hdd
      have hk0 : (k : Int) ≤ 0 := by omega
      clear hlen hdd h0
      have hsz : (mk d).size ≤ 8 := by rw [mk_size]; omega
      have hcv := conv_one wr _ rfl (mk d).size (by omega)
      have hadd : (mk [byt (mk d).size]).size + (mk d).size ≤ 9223372036854775807 := by rw [mk_size]; simp; omega
      have HE := Lib.hid (show mk [byt (mk d).size] ++ mk d = mk (numB n) by rw [mk_append, mk_size, HL.out, HDD.out]; rfl)
      go_wp2
      go_ret
      exact ⟨by rw [← HE.out]; rfl, hbel.alloc hbs _⟩
    · have hkp : (0 : Int) < (k : Int) := by omega
      have hcv := conv_one wr _ rfl (k % 256) (by omega)
      rw [show ((k % 256 : Nat) : Int) = (k : Int) % 256 from by omega] at hcv
      have hwd := wid_div h0 (by omega)
      have hdl : d.length ≤ 7 := by
        have := congrArg List.length HD.out
        have h8 := wid_le n
        simp only [List.length_append, digs_length] at this
        omega
      have hnext : digs (wid (k / 256)) (k / 256) ++ ([byt (k % 256)] ++ d) = digs (wid n) n := by
        rw [← HD.out, hwd, Nat.add_comm 1, digs, List.append_assoc]
      have HN := Lib.hid hnext
      have HA := Lib.hid (mk_append [byt (k % 256)] d)
      have hadd : (mk [byt (k % 256)]).size + (mk d).size ≤ 9223372036854775807 := by rw [mk_size, mk_size]; simp; omega
      clear h0 hwd hnext
      go_wp2
      go_roundw
      case rel => exact ⟨k / 256, [byt (k % 256)] ++ d, by omega, by go_num, by rw [← HA.out], by simp; omega, HN.out, hbel.alloc hbs _⟩
      case measure => simp [intOf]; omega

/-- What is told of a slice of numbers, nil let in. -/
def NumsAt (w : World) (B : Nat) (A : Option Addr) (L : List Nat) : Prop := ∀ i, i < L.length → ∃ b off, A = some ⟨b, off, none⟩ ∧ b < B ∧ w.cell? ⟨b, off + i, none⟩ = some (.int .u64 ((L.getD i 0 : Nat) : Int))

theorem NumsAt.below {w w' : World} {B : Nat} {A : Option Addr} {L : List Nat} (h : NumsAt w B A L) (hb : Below B w w') : NumsAt w' B A L := fun i hi => by
  obtain ⟨b, off, e, hlt, hc⟩ := h i hi
  exact ⟨b, off, e, hlt, (hb.cell (p := ⟨b, off + i, none⟩) hlt).trans hc⟩

theorem num_at (A : Option Addr) (cap : Nat) (L : List Nat) (w : World) (hL : L.length ≤ 4294967296) (h64 : ∀ n ∈ L, n < 2 ^ 64) (hc : NumsAt w w.heap.size A L) :
    Calls Try.prog 13 #[.slice A L.length cap] w fun e w' => e = .returned (.string (mk (numsB L))) ∧ Below w.heap.size w w' := by
  rcases L with _ | ⟨x, L⟩
  · exact (num_nil A cap w).mono fun e w' ⟨he, hw⟩ => ⟨he, by subst hw; exact Below.refl _ _⟩
  · obtain ⟨b, off, rfl, hb, _⟩ := hc 0 (by simp)
    refine num_any b off cap (x :: L) w hL h64 hb (fun i hi => ?_)
    obtain ⟨b', off', e, _, h⟩ := hc i hi
    simp only [Option.some.injEq, Addr.mk.injEq, and_true] at e
    obtain ⟨rfl, rfl⟩ := e
    exact h

set_option maxHeartbeats 1000000 in
theorem refNums_at (A : Option Addr) (cap : Nat) (L : List Nat) (w : World) (hL : L.length ≤ 4294967296) (h64 : ∀ n ∈ L, n < 2 ^ 64) (hc : NumsAt w w.heap.size A L) :
    Calls Try.prog 14 #[.slice A L.length cap] w fun e w' => e = .returned (.string (mk (numsB L))) ∧ Below w.heap.size w w' := by
  have HC := Lib.hid hc
  have H64 := Lib.hid h64
  clear hc h64
  go_enter Try.func14, Try.ntmps14
  go_wp2
  go_loopw [3, 4] (fun s i wr => ∃ k : Nat, k ≤ L.length ∧ i = .int .i64 (k : Int) ∧ s = .string (mk (numsB (L.take k))) ∧ Below w.heap.size w wr) (fun _ i _ => L.length - (intOf i).toNat)
  case atStart => exact ⟨0, Nat.zero_le _, rfl, rfl, Below.refl _ _⟩
  case round =>
    obtain ⟨k, hk, rfl, rfl, hbel⟩ := hrel
    have hbs := hbel.size
    by_cases hlt : k < L.length
    · obtain ⟨b, off, rfl, hbw, hcell⟩ := (NumsAt.below HC.out hbel) k hlt
      obtain ⟨n, hn⟩ : ∃ n, n = L.getD k 0 := ⟨_, rfl⟩
      rw [← hn] at hcell
      have hn64 : n < 2 ^ 64 := by rw [hn, List.getD_eq_getElem?_getD, List.getElem?_eq_getElem hlt]; exact H64.out _ (List.getElem_mem _)
      have hsn : numsB (L.take (k + 1)) = numsB (L.take k) ++ numB n := by
        rw [List.take_succ_eq_append_getElem hlt, numsB_snoc, hn, List.getD_eq_getElem?_getD, List.getElem?_eq_getElem hlt]; rfl
      have HS := Lib.hid (show mk (numsB (L.take k)) ++ mk (numB n) = mk (numsB (L.take (k + 1))) by rw [mk_append, hsn])
      have hadd : (mk (numsB (L.take k))).size + (mk (numB n)).size ≤ 9223372036854775807 := by
        rw [mk_size, mk_size, numB_length]
        have h1 := numsB_length_le (L.take k)
        have h2 : (L.take k).length ≤ k := List.length_take_le _ _
        have h3 := wid_le n
        omega
      clear hsn hn
      have hk0 : (0 : Int) ≤ (k : Int) := by omega
      have hkl : (k : Int) < (L.length : Int) := by omega
      go_wp2_with (go_at_call 12; refine (refNum_any n _ hn64).mono ?_; rintro e w1 ⟨rfl, hb1⟩)
      go_roundw
      case rel => exact ⟨k + 1, by omega, by go_num, by rw [← HS.out], hbel.trans (hb1.mono hbs)⟩
      case measure => simp [intOf]; omega
    · go_wp2
      go_ret
      exact ⟨by rw [List.take_of_length_le (by omega)]; rfl, hbel⟩

set_option maxHeartbeats 400000 in
theorem refText_any (l : List UInt8) (w : World) (hl : l.length ≤ 1099511627776) :
    Calls Try.prog 16 #[.string (mk l)] w fun e w' => e = .returned (.string (mk (textB l))) ∧ Below w.heap.size w w' := by
  have HE := Lib.hid (show mk (numB l.length) ++ mk l = mk (textB l) by rw [mk_append]; rfl)
  have HS := Lib.hid (mk_size l)
  have hs : (mk l).size ≤ 1099511627776 := by rw [mk_size]; exact hl
  go_enter Try.func16, Try.ntmps16
  go_wp2_with fail
  refine (refNum_any (mk l).size _ (by omega)).mono ?_
  rintro e w1 ⟨rfl, hb⟩
  rw [HS.out]
  have hadd : (mk (numB l.length)).size + (mk l).size ≤ 9223372036854775807 := by
    rw [mk_size, mk_size, numB_length]; have := wid_le l.length; omega
  go_wp2
  go_ret
  exact ⟨by rw [← HE.out]; rfl, hb⟩
end Go.Proofs.Ytkabibbmaekkfaa
