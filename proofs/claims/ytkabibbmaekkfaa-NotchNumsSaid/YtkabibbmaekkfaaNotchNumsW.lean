/-
  LAYER 1: the walk of NotchNums.
-/
import Derived.Test.YtkabibbmaekkfaaNotchRef
import Derived.Deep.RegionHeld3
namespace Go.Proofs.Ytkabibbmaekkfaa
open Go.RowKit

set_option maxHeartbeats 1000000 in
theorem nums_long (s : ByteArray) (A : Option Addr) (len cap : Nat) (w : World) (h : 50 < len ∨ (len ≤ 50 ∧ 70000 < s.size)) :
    Calls Try.prog 3 #[.slice A len cap, .string s] w fun e w' => e = .returned (.bool true) ∧ Below w.heap.size w w' := by
  rcases h with h | ⟨h1, h2⟩
  · have h' : (50 : Int) < (len : Int) := by omega
    go_enter Try.func3, Try.ntmps3
    go_wp2_with (go_at_call 10; refine (head_any _).mono ?_; rintro e w1 ⟨rfl, b1⟩)
    go_ret
    exact ⟨rfl, b1⟩
  · have h1' : (len : Int) ≤ 50 := by omega
    have h2' : (70000 : Int) < (s.size : Int) := by omega
    go_enter Try.func3, Try.ntmps3
    go_wp2_with (go_at_call 10; refine (head_any _).mono ?_; rintro e w1 ⟨rfl, b1⟩)
    go_ret
    exact ⟨rfl, b1⟩

set_option maxHeartbeats 2000000 in
theorem nums_any (l : List UInt8) (A : Option Addr) (cap : Nat) (L : List Nat) (w : World) (hl : l.length ≤ 70000) (hL : L.length ≤ 50) (h64 : ∀ n ∈ L, n < 2 ^ 64) (hc : NumsAt w w.heap.size A L) :
    Calls Try.prog 3 #[.slice A L.length cap, .string (mk l)] w fun e w' => e = .returned (.bool true) ∧ Below w.heap.size w w' := by
  have HC := Lib.hid hc
  have H64 := Lib.hid h64
  clear hc h64
  have hs : ((mk l).size : Int) ≤ 70000 := by rw [mk_size]; omega
  have hLi : (L.length : Int) ≤ 50 := by omega
  go_enter Try.func3, Try.ntmps3
  go_wp2
  go_loopw [5] (fun i wr => ∃ k : Nat, k ≤ L.length ∧ i = .int .i64 (k : Int) ∧ Below w.heap.size w wr) (fun i _ => L.length - (intOf i).toNat)
  case atStart => exact ⟨0, Nat.zero_le _, rfl, Below.refl _ _⟩
  case round =>
    obtain ⟨k, hk, rfl, hbel⟩ := hrel
    have hbs := hbel.size
    by_cases hlt : k < L.length
    · obtain ⟨b, off, rfl, hbw, hcell⟩ := (NumsAt.below HC.out hbel) k hlt
      obtain ⟨n, hn⟩ : ∃ n, n = L.getD k 0 := ⟨_, rfl⟩
      rw [← hn] at hcell
      have hn64 : n < 2 ^ 64 := by rw [hn, List.getD_eq_getElem?_getD, List.getElem?_eq_getElem hlt]; exact H64.out _ (List.getElem_mem _)
      clear hn
      have hk0 : (0 : Int) ≤ (k : Int) := by omega
      have hkl : (k : Int) < (L.length : Int) := by omega
      have hbn : ((((numB n).length : Nat) : Int) != (((mk (numB n)).size : Nat) : Int)) = false := by rw [mk_size]; simp
      go_wp2
      go_region_held3 (fun w' => w'.cell? ⟨b, off + k, none⟩ = some (.int .u64 (n : Int))) (first | go_keep | exact (hb1.cell (p := ⟨b, off + k, none⟩) (Nat.lt_of_lt_of_le hbw hbs)).trans hcell)
        (first
          | (go_at_call 11; refine (long_any n _ hn64).mono ?_; rintro e w1 ⟨rfl, rfl⟩)
          | (go_at_call 12; refine (refNum_any n _ hn64).mono ?_; rintro e w1 ⟨rfl, hb1⟩))
      go_wp2
      go_roundw
      case rel => exact ⟨k + 1, by omega, by go_num, hbel.trans ((⟨hb1.os, hb1.tape, hb1.output, hb1.size, hb1.block⟩ : Below wr.heap.size wr w1).mono hbs)⟩
      case measure => simp [intOf]; omega
    · have hcr := NumsAt.below HC.out hbel
      have hcw : NumsAt wr wr.heap.size A L := fun i hi => by
        obtain ⟨b, off, e, hlt, hh⟩ := hcr i hi
        exact ⟨b, off, e, Nat.lt_of_lt_of_le hlt hbs, hh⟩
      have HN := Lib.hid (num_at A cap L wr (by omega) H64.out hcw)
      have HR : Hid (∀ w1, Below wr.heap.size wr w1 → Calls Try.prog 14 #[.slice A L.length cap] w1 fun e w' => e = .returned (.string (mk (numsB L))) ∧ Below w1.heap.size w1 w') :=
        Lib.hid (fun w1 hb => refNums_at A cap L w1 (by omega) H64.out (fun i hi => by
          obtain ⟨b, off, e, hlt, hh⟩ := (NumsAt.below hcw hb) i hi
          exact ⟨b, off, e, Nat.lt_of_lt_of_le hlt hb.size, hh⟩))
      clear hcr hcw
      have hsl : (mk l).size ≤ 140737488351232 := by omega
      go_wp2_with fail
      refine HN.out.mono ?_
      rintro e w1 ⟨rfl, hb1⟩
      have hb1' : Below w.heap.size w w1 := hbel.trans (hb1.mono hbs)
      go_wp2_with fail
      refine (HR.out w1 hb1).mono ?_
      rintro e w2 ⟨rfl, hb2⟩
      have hb2' : Below w.heap.size w w2 := hb1'.trans (hb2.mono hb1'.size)
      clear hb1 hb2 hb1' HN HR
      go_wp2_with fail
      refine (text_any (mk l) w2 hsl).mono ?_
      rintro e w3 ⟨rfl, hb3⟩
      rw [mk_toList]
      have hb3' : Below w.heap.size w w3 := hb2'.trans (hb3.mono hb2'.size)
      go_wp2_with fail
      refine (refText_any l w3 (by omega)).mono ?_
      rintro e w4 ⟨rfl, hb4⟩
      have hb4' : Below w.heap.size w w4 := hb3'.trans (hb4.mono hb3'.size)
      go_wp2_with (go_at_call 10; refine (head_any _).mono ?_; rintro e w5 ⟨rfl, b5⟩)
      go_ret
      exact ⟨rfl, hb4'.trans (b5.mono hb4'.size)⟩
end Go.Proofs.Ytkabibbmaekkfaa
