/-
  LAYER 1: the reader's small calls: left, cut, readable, spoil, Bad, Left, Open.
-/
import Derived.Test.YtkabibbmaekkfaaNotchNum
namespace Go.Proofs.Ytkabibbmaekkfaa
open Go.RowKit

/-- Block g is a reader with so much left, in this state. -/
def RD (w : World) (g : Nat) (l : List UInt8) (st : Nat) : Prop := w.heap[g]? = some (.cells #[.string (mk l), .int .u8 (st : Int)] 59 (0, 0))

theorem RD.lt {w : World} {g : Nat} {l : List UInt8} {st : Nat} (h : RD w g l st) : g < w.heap.size := (Array.getElem?_eq_some_iff.1 h).1
theorem RD.c0 {w : World} {g : Nat} {l : List UInt8} {st : Nat} (h : RD w g l st) : w.cell? ⟨g, 0, none⟩ = some (.string (mk l)) := by
  rw [cell_of_row w g 0 _ _ _ h]; rfl
theorem RD.c1 {w : World} {g : Nat} {l : List UInt8} {st : Nat} (h : RD w g l st) : w.cell? ⟨g, 1, none⟩ = some (.int .u8 (st : Int)) := by
  rw [cell_of_row w g 1 _ _ _ h]; rfl
theorem RD.free {w : World} {g : Nat} {l : List UInt8} {st : Nat} (h : RD w g l st) (i : Nat) : w.frozen? ⟨g, i, none⟩ = false := by
  unfold RD at h; simp [World.frozen?, h]
theorem RD.below {w w' : World} {g B : Nat} {l : List UInt8} {st : Nat} (h : RD w g l st) (hb : Below B w w') (hg : g < B) : RD w' g l st := (hb.block g hg).trans h
theorem RD.set0 {w : World} {g : Nat} {l : List UInt8} {st : Nat} (h : RD w g l st) (m : List UInt8) : RD (w.setCell ⟨g, 0, none⟩ (.string (mk m))) g m st := by
  unfold RD at h ⊢
  simp [World.setCell, Array.getElem?_modify, h]
theorem RD.set1 {w : World} {g : Nat} {l : List UInt8} {st : Nat} (h : RD w g l st) (k : Nat) : RD (w.setCell ⟨g, 1, none⟩ (.int .u8 (k : Int))) g l k := by
  unfold RD at h ⊢
  simp [World.setCell, Array.getElem?_modify, h]

theorem grown_set (w : World) (g i : Nat) (v : Value) : w.grownBy (w.setCell ⟨g, i, none⟩ v) (some g) :=
  ⟨rfl, rfl, rfl, by simp [World.setCell], fun k _ hk => Below.heap_setCell _ _ _ _ (by intro e; subst e; exact hk rfl)⟩
theorem grown_trans {a b c : World} {g : Nat} (h : a.grownBy b (some g)) (k : b.grownBy c (some g)) : a.grownBy c (some g) :=
  ⟨k.os.trans h.os, k.tape.trans h.tape, k.output.trans h.output, Nat.le_trans h.size k.size, fun i hi hg => (k.block i (Nat.lt_of_lt_of_le hi h.size) hg).trans (h.block i hi hg)⟩
theorem grown_below {a b : World} (g : Nat) (h : Below a.heap.size a b) : a.grownBy b (some g) :=
  ⟨h.os, h.tape, h.output, h.size, fun i hi _ => h.block i hi⟩

set_option maxHeartbeats 400000 in
theorem open_any (s : ByteArray) (w : World) :
    Calls Try.prog 17 #[.string s] w fun e w' => e = .returned (.pointer (some ⟨w.heap.size, 0, none⟩)) ∧ RD w' w.heap.size s.data.toList 1 ∧ Below w.heap.size w w' := by
  obtain ⟨l, rfl⟩ : ∃ l, s = mk l := ⟨s.data.toList, (mk_of s).symm⟩
  rw [mk_toList]
  go_enter Try.func17, Try.ntmps17
  go_wp2
  go_ret
  exact ⟨rfl, heap_alloc_new w _, (Below.refl _ _).alloc (Nat.le_refl _) _⟩

set_option maxHeartbeats 400000 in
theorem left_any (g : Nat) (l : List UInt8) (w : World) (hc : w.cell? ⟨g, 0, none⟩ = some (.string (mk l))) :
    Calls Try.prog 33 #[.pointer (some ⟨g, 0, none⟩)] w fun e w' => e = .returned (.int .i64 (l.length : Nat)) ∧ w = w' := by
  have HS := Lib.hid (mk_size l)
  go_enter Try.func33, Try.ntmps33
  go_wp2
  go_ret
  exact ⟨by rw [← HS.out]; rfl, rfl⟩

theorem mk_extract (l : List UInt8) (a b : Nat) : (mk l).extract a b = mk ((l.take b).drop a) := by
  apply ByteArray.ext
  simp [mk, ByteArray.data_extract, List.drop_take]

set_option maxHeartbeats 400000 in
theorem cut_any (g : Nat) (n : Int) (l : List UInt8) (st : Nat) (w : World) (h : RD w g l st) (h0 : 0 ≤ n) (hn : n ≤ (l.length : Int)) (hl : l.length ≤ 9223372036854775807) :
    Calls Try.prog 35 #[.pointer (some ⟨g, 0, none⟩), .int .i64 n] w fun e w' => e = .returned (.string (mk (l.take n.toNat))) ∧ RD w' g (l.drop n.toNat) st ∧ w.grownBy w' (some g) := by
  obtain ⟨n, rfl⟩ := Int.eq_ofNat_of_zero_le h0
  rw [Int.toNat_natCast]
  have hc := h.c0
  have hf := h.free 0
  have HS := Lib.hid (mk_size l)
  have E1 := Lib.hid (show (mk l).extract 0 n = mk (l.take n) by rw [mk_extract]; simp)
  have E2 := Lib.hid (show (mk l).extract n (mk l).size = mk (l.drop n) by rw [mk_extract, mk_size]; simp)
  have hs : n ≤ (mk l).size := by rw [mk_size]; omega
  have hs2 : (mk l).size ≤ 9223372036854775807 := by rw [mk_size]; exact hl
  go_enter Try.func35, Try.ntmps35
  go_wp2
  go_ret
  exact ⟨by rw [← E1.out]; rfl, by rw [E2.out]; exact h.set0 _, grown_set _ _ _ _⟩

set_option maxHeartbeats 400000 in
theorem readable_any (g : Nat) (l : List UInt8) (st : Nat) (w : World) (h : RD w g l st) (hst : st = 1 ∨ st = 2) :
    Calls Try.prog 28 #[.pointer (some ⟨g, 0, none⟩)] w fun e w' => e = .returned (.bool (decide (st = 1))) ∧ w = w' := by
  have hc := h.c1
  rcases hst with rfl | rfl
  all_goals
    go_enter Try.func28, Try.ntmps28
    go_wp2
    go_ret
    exact ⟨rfl, rfl⟩

set_option maxHeartbeats 400000 in
theorem readable_nil (w : World) :
    Calls Try.prog 28 #[.pointer none] w fun e w' => e = .returned (.bool false) ∧ w = w' := by
  go_enter Try.func28, Try.ntmps28
  go_wp2
  go_ret
  exact ⟨rfl, rfl⟩

set_option maxHeartbeats 400000 in
theorem spoil_any (g : Nat) (l : List UInt8) (st : Nat) (w : World) (h : RD w g l st) :
    Calls Try.prog 30 #[.pointer (some ⟨g, 0, none⟩)] w fun e w' => e = .returned (.tuple #[]) ∧ RD w' g [] 2 ∧ w.grownBy w' (some g) := by
  have hc0 := h.c0
  have hc1 := h.c1
  have hf0 := h.free 0
  have hf1 := h.free 1
  go_enter Try.func30, Try.ntmps30
  go_wp2
  go_end0
  exact ⟨rfl, (h.set0 []).set1 2, grown_trans (grown_set _ _ _ _) (grown_set _ _ _ _)⟩


set_option maxHeartbeats 400000 in
theorem bad_any (g : Nat) (l : List UInt8) (st : Nat) (w : World) (h : RD w g l st) (hst : st = 1 ∨ st = 2) :
    Calls Try.prog 25 #[.pointer (some ⟨g, 0, none⟩)] w fun e w' => e = .returned (.bool (decide (st = 2))) ∧ w = w' := by
  have hc := h.c1
  rcases hst with rfl | rfl
  all_goals
    go_enter Try.func25, Try.ntmps25
    go_wp2
    go_ret
    exact ⟨rfl, rfl⟩

set_option maxHeartbeats 400000 in
theorem bad_nil (w : World) :
    Calls Try.prog 25 #[.pointer none] w fun e w' => e = .returned (.bool true) ∧ w = w' := by
  go_enter Try.func25, Try.ntmps25
  go_wp2
  go_ret
  exact ⟨rfl, rfl⟩

set_option maxHeartbeats 400000 in
theorem leftR_good (g : Nat) (l : List UInt8) (w : World) (h : RD w g l 1) :
    Calls Try.prog 24 #[.pointer (some ⟨g, 0, none⟩)] w fun e w' => e = .returned (.int .i64 (l.length : Nat)) ∧ w = w' := by
  have hc := h.c0
  have hc1 := h.c1
  go_enter Try.func24, Try.ntmps24
  go_wp2_with (first
    | (go_at_call 28; refine (readable_any g l 1 _ h (.inl rfl)).mono ?_; rintro e w' ⟨rfl, rfl⟩)
    | (go_at_call 33; refine (left_any g l _ hc).mono ?_; rintro e w' ⟨rfl, rfl⟩))
  go_ret
  exact ⟨rfl, rfl⟩

set_option maxHeartbeats 400000 in
theorem leftR_bad (g : Nat) (l : List UInt8) (w : World) (h : RD w g l 2) :
    Calls Try.prog 24 #[.pointer (some ⟨g, 0, none⟩)] w fun e w' => e = .returned (.int .i64 0) ∧ w = w' := by
  go_enter Try.func24, Try.ntmps24
  go_wp2_with (go_at_call 28; refine (readable_any g l 2 _ h (.inr rfl)).mono ?_; rintro e w' ⟨rfl, rfl⟩)
  go_ret
  exact ⟨rfl, rfl⟩

set_option maxHeartbeats 400000 in
theorem leftR_nil (w : World) :
    Calls Try.prog 24 #[.pointer none] w fun e w' => e = .returned (.int .i64 0) ∧ w = w' := by
  go_enter Try.func24, Try.ntmps24
  go_wp2_with (go_at_call 28; refine (readable_nil _).mono ?_; rintro e w' ⟨rfl, rfl⟩)
  go_ret
  exact ⟨rfl, rfl⟩

end Go.Proofs.Ytkabibbmaekkfaa
