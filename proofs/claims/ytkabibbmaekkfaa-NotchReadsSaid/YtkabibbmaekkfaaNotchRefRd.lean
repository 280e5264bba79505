/-
  LAYER 1: the document's answer of a reader, as the same steps of a plain machine.
-/
import Derived.Test.YtkabibbmaekkfaaNotchRef
import Derived.Test.YtkabibbmaekkfaaNotchRead
import Derived.Test.YtkabibbmaekkfaaNotchReader
import Derived.Deep.RegionHeld3
namespace Go.Proofs.Ytkabibbmaekkfaa
open Go.RowKit

/-- Block g is the document's reader with so much left; is it bad? -/
def QD (w : World) (g : Nat) (l : List UInt8) (bad : Bool) : Prop := w.heap[g]? = some (.cells #[.string (mk l), .bool bad] 36 (0, 0))

theorem QD.lt {w : World} {g : Nat} {l : List UInt8} {b : Bool} (h : QD w g l b) : g < w.heap.size := (Array.getElem?_eq_some_iff.1 h).1
theorem QD.c0 {w : World} {g : Nat} {l : List UInt8} {b : Bool} (h : QD w g l b) : w.cell? ⟨g, 0, none⟩ = some (.string (mk l)) := by rw [cell_of_row w g 0 _ _ _ h]; rfl
theorem QD.c1 {w : World} {g : Nat} {l : List UInt8} {b : Bool} (h : QD w g l b) : w.cell? ⟨g, 1, none⟩ = some (.bool b) := by rw [cell_of_row w g 1 _ _ _ h]; rfl
theorem QD.free {w : World} {g : Nat} {l : List UInt8} {b : Bool} (h : QD w g l b) (i : Nat) : w.frozen? ⟨g, i, none⟩ = false := by unfold QD at h; simp [World.frozen?, h]
theorem QD.below {w w' : World} {g B : Nat} {l : List UInt8} {b : Bool} (h : QD w g l b) (hb : Below B w w') (hg : g < B) : QD w' g l b := (hb.block g hg).trans h
theorem QD.set0 {w : World} {g : Nat} {l : List UInt8} {b : Bool} (h : QD w g l b) (m : List UInt8) : QD (w.setCell ⟨g, 0, none⟩ (.string (mk m))) g m b := by
  unfold QD at h ⊢; simp [World.setCell, Array.getElem?_modify, h]
theorem QD.set1 {w : World} {g : Nat} {l : List UInt8} {b : Bool} (h : QD w g l b) (c : Bool) : QD (w.setCell ⟨g, 1, none⟩ (.bool c)) g l c := by
  unfold QD at h ⊢; simp [World.setCell, Array.getElem?_modify, h]

/-- Does a text begin with another one? -/
def begB (s t : List UInt8) : Bool := decide (t.length ≤ s.length) && (s.take t.length == t)

set_option maxHeartbeats 1000000 in
theorem begins_any (s t : List UInt8) (w : World) (hs : s.length ≤ 1099511627776) :
    Calls Try.prog 31 #[.string (mk s), .string (mk t)] w fun e w' => e = .returned (.bool (begB s t)) ∧ w = w' := by
  by_cases h : t.length ≤ s.length
  · have h1 : (((mk t).size : Nat) : Int) ≤ (((mk s).size : Nat) : Int) := by rw [mk_size, mk_size]; omega
    have h1n : (mk t).size ≤ (mk s).size := by omega
    have h2 : (mk s).size ≤ 1099511627776 := by rw [mk_size]; exact hs
    have he : (((mk s).extract 0 (mk t).size).toList == (mk t).toList) = begB s t := by
      rw [mk_extract, mk_size, List.drop_zero]
      rw [show (mk (s.take t.length)).toList = s.take t.length from ByteArray.toList_mk _, show (mk t).toList = t from ByteArray.toList_mk _]
      simp [begB, h]
    have HE := Lib.hid he
    clear he
    go_enter Try.func31, Try.ntmps31
    go_wp2
    go_ret
    exact ⟨by rw [← HE.out]; rfl, rfl⟩
  · have h1 : (((mk s).size : Nat) : Int) < (((mk t).size : Nat) : Int) := by rw [mk_size, mk_size]; omega
    have he : begB s t = false := by simp [begB, h]
    have HE := Lib.hid he
    clear he
    go_enter Try.func31, Try.ntmps31
    go_wp2
    go_ret
    exact ⟨by rw [HE.out]; rfl, rfl⟩

set_option maxHeartbeats 400000 in
theorem refSpoil_any (g : Nat) (l : List UInt8) (b : Bool) (w : World) (h : QD w g l b) :
    Calls Try.prog 32 #[.pointer (some ⟨g, 0, none⟩)] w fun e w' => e = .returned (.tuple #[]) ∧ QD w' g [] true ∧ w.grownBy w' (some g) := by
  have hc0 := h.c0
  have hc1 := h.c1
  have hf0 := h.free 0
  have hf1 := h.free 1
  have hq1 := (h.set0 []).c1
  have hq2 := (h.set0 []).free 1
  go_enter Try.func32, Try.ntmps32
  go_wp2
  go_end0
  exact ⟨rfl, (h.set0 []).set1 true, grown_trans (grown_set _ _ _ _) (grown_set _ _ _ _)⟩

def stB (b : Bool) (st : Nat) : Bool := if st = 1 then b else true
def RefStr (w : World) (g : Nat) (b : Bool) (x : List UInt8 × List UInt8 × Nat) (e : Ending) (w' : World) : Prop := e = .returned (.string (mk x.1)) ∧ QD w' g x.2.1 (stB b x.2.2) ∧ w.grownBy w' (some g)
def RefNum (w : World) (g : Nat) (b : Bool) (x : Nat × List UInt8 × Nat) (e : Ending) (w' : World) : Prop := e = .returned (.int .u64 (x.1 : Nat)) ∧ QD w' g x.2.1 (stB b x.2.2) ∧ w.grownBy w' (some g)

set_option maxHeartbeats 1000000 in
theorem refTake_any (g : Nat) (l : List UInt8) (b : Bool) (n : Int) (w : World) (h : QD w g l b) (hl : l.length ≤ 1099511627776) :
    Calls Try.prog 23 #[.pointer (some ⟨g, 0, none⟩), .int .i64 n] w (RefStr w g b (rTake l 1 n)) := by
  have hc := h.c0
  have hf := h.free 0
  by_cases h0 : n < 0
  · have HX := Lib.hid (show rTake l 1 n = ([], [], 2) by simp [rTake]; intro hx; omega)
    go_enter Try.func23, Try.ntmps23
    go_wp2_with (go_at_call 32; refine (refSpoil_any g l b _ h).mono ?_; rintro e w1 ⟨rfl, hq1, g1⟩)
    go_ret
    rw [HX.out]
    exact ⟨rfl, hq1, g1⟩
  · have h0' : 0 ≤ n := by omega
    by_cases h1 : n ≤ (l.length : Int)
    · have HX := Lib.hid (show rTake l 1 n = (l.take n.toNat, l.drop n.toNat, 1) by simp [rTake]; omega)
      obtain ⟨n, rfl⟩ := Int.eq_ofNat_of_zero_le h0'
      have hn : n ≤ (mk l).size := by rw [mk_size]; omega
      have hnI : (n : Int) ≤ (((mk l).size : Nat) : Int) := by omega
      have hs2 : (mk l).size ≤ 1099511627776 := by rw [mk_size]; exact hl
      have E1 := Lib.hid (show (mk l).extract 0 n = mk (l.take n) by rw [mk_extract]; simp)
      have E2 := Lib.hid (show (mk l).extract n (mk l).size = mk (l.drop n) by rw [mk_extract, mk_size]; simp)
      go_enter Try.func23, Try.ntmps23
      go_wp2
      go_ret
      rw [HX.out]
      exact ⟨by rw [Int.toNat_natCast, ← E1.out]; rfl, by rw [E2.out]; exact h.set0 _, grown_set _ _ _ _⟩
    · have HX := Lib.hid (show rTake l 1 n = ([], [], 2) by simp [rTake]; intro hx; omega)
      have h1' : (((mk l).size : Nat) : Int) < n := by rw [mk_size]; omega
      go_enter Try.func23, Try.ntmps23
      go_wp2_with (go_at_call 32; refine (refSpoil_any g l b _ h).mono ?_; rintro e w1 ⟨rfl, hq1, g1⟩)
      go_ret
      rw [HX.out]
      exact ⟨rfl, hq1, g1⟩

/-! ### ReadNum: the one place where a number's bytes can stand. -/
theorem begB_iff (s t : List UInt8) : begB s t = true ↔ ∃ x, s = t ++ x := by
  unfold begB
  rw [Bool.and_eq_true, decide_eq_true_eq, beq_iff_eq]
  constructor
  · rintro ⟨_, h⟩; exact ⟨s.drop t.length, by have := List.take_append_drop t.length s; rw [h] at this; exact this.symm⟩
  · rintro ⟨x, rfl⟩; exact ⟨by simp, by simp⟩

/-- The number that the first k bytes behind the first one tell. -/
def upTo (l : List UInt8) (k : Nat) : Nat := val ((l.drop 1).take k)
theorem upTo_zero (l : List UInt8) : upTo l 0 = 0 := by simp [upTo, val]
theorem upTo_succ (l : List UInt8) (k : Nat) (h : k + 1 < l.length) : upTo l (k + 1) = 256 * upTo l k + l[k + 1].toNat := by
  unfold upTo
  rw [List.take_succ_eq_append_getElem (by rw [List.length_drop]; omega), val_snoc, List.getElem_drop]
  simp [Nat.add_comm]
theorem upTo_lt (l : List UInt8) (k : Nat) : upTo l k < 256 ^ k := by
  unfold upTo
  refine Nat.lt_of_lt_of_le (val_lt _) (Nat.pow_le_pow_right (by omega) (by rw [List.length_take]; omega))

theorem hit_iff {l : List UInt8} {k : Nat} (h8 : k ≤ 8) : (begB l (numB (upTo l k)) = true ∧ (l.getD 0 0).toNat = k) ↔ (okNum l = true ∧ (l.getD 0 0).toNat = k) := by
  have hlt : upTo l k < 2 ^ 64 := by
    have h1 := upTo_lt l k
    have h2 : 256 ^ k ≤ 256 ^ 8 := Nat.pow_le_pow_right (by omega) h8
    omega
  constructor
  · rintro ⟨h, e⟩
    obtain ⟨x, hx⟩ := (begB_iff _ _).1 h
    exact ⟨by rw [hx]; exact (ok_numB hlt x).1, e⟩
  · rintro ⟨h, e⟩
    refine ⟨(begB_iff _ _).2 ⟨numRest l, ?_⟩, e⟩
    have h1 := numB_numOf h
    have h2 : upTo l k = numOf l := by unfold upTo numOf; rw [e]
    rw [h2]; exact h1.symm

end Go.Proofs.Ytkabibbmaekkfaa
