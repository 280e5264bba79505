/-
  LAYER 17: the laws: a maker of a law's own; what a call asks.
-/
import Derived.Test.YtofpcdjoljjnoaaDoorTapMayMM
import Derived.Test.YtofpcdjoljjnoaaDoorTapZ28
namespace Go.Proofs.YtofpcdjoljjnoaaDoor
open Go.RowKit Go.Maps

/-- A maker of blocks that are new since w0. -/
structure Mine (w0 w : World) (P : Nat → Prop) (m : Value) (S : MkS) : Prop where
  one : MkAt P w m S
  low : ∀ k, P k → w0.heap.size ≤ k
  grow : Grow w0 w
section
variable {w0 w w' : World} {P : Nat → Prop} {m : Value} {S : MkS}
theorem Mine.more (h : Mine w0 w P m S) (hg : Grow w w') : Mine w0 w' P m S := ⟨h.one.grow hg, h.low, h.grow.trans hg⟩
/-- Blocks of kinds that no call on a maker writes. -/
def KeptKinds (w w' : World) : Prop := ∀ b cs t, BlkOf w b cs t → t ≠ 68 → t ≠ 56 → BlkOf w' b cs t
/-- Behind a call on it. -/
def Told (w0 w : World) (m : Value) (r : Int × Int × MkS) (e : Ending) (w' : World) : Prop :=
  e = .returned (.tuple #[.int .i64 r.1, .int .i64 r.2.1]) ∧ KeptKinds w w' ∧ w.heap.size ≤ w'.heap.size ∧ ∃ P', Mine w0 w' P' m r.2.2
theorem Mine.told {r : Int × Int × MkS} {e : Ending} (h : Mine w0 w P m S) (hp : MkPost P m w r e w') : Told w0 w m r e w' := by
  obtain ⟨he, hs, P', hP, hP', hm⟩ := hp
  refine ⟨he, hs.kinds, hs.size, P', hm, fun k hk => ?_, ?_⟩
  · rcases hP' k hk with h1 | h1
    · exact h.low k h1
    · exact Nat.le_trans (Below.size h.grow) h1
  · exact Below.trans h.grow (hs.below h.low (Below.size h.grow))
theorem Mine.par (h : Mine w0 w P m S) : Calls Tryd.prog 14 #[m] w (Told w0 w m (parS S)) :=
  (par_some h.one).mono fun _ _ hp => h.told hp
theorem Mine.pair (h : Mine w0 w P m S) (ht : Tab w0) {op : Nat} {i j : Int} (hop : op < 256) (hi : I64 i) (hj : I64 j) : Calls Tryd.prog 13 #[m, .int .u8 (op : Int), .int .i64 i, .int .i64 j] w (Told w0 w m (twoS S op i j)) :=
  (two_some h.one hop hi hj (ht.grow h.grow)).mono fun _ _ hp => h.told hp
theorem Mine.single (h : Mine w0 w P m S) (ht : Tab w0) {op : Nat} {i : Int} (hop : op < 256) (hi : I64 i) : Calls Tryd.prog 12 #[m, .int .u8 (op : Int), .int .i64 i] w (Told w0 w m (oneS S op i)) :=
  (one_some h.one hop hi (ht.grow h.grow)).mono fun _ _ hp => h.told hp
theorem Mine.num (h : Mine w0 w P m S) {x : Fr} {vn vd : Value} (hx : FrAt 3 w x vn vd) : Calls Tryd.prog 11 #[m, .agg #[.bool x.s, vn, vd]] w (Told w0 w m (numS S x)) :=
  (num_some h.one hx (by decide)).mono fun _ _ hp => h.told hp
end
theorem new_mine {n : Int} (w : World) (hn : I64 n) (h1 : 1 ≤ n) (h2 : n ≤ 20000) : Calls Tryd.prog 7 #[.int .i64 n] w fun e w' => ∃ pm P, e = .returned (.tuple #[.pointer (some ⟨pm, 0, none⟩), .int .i64 0]) ∧ Mine w w' P (.pointer (some ⟨pm, 0, none⟩)) ⟨n.toNat, 0, []⟩ := by
  refine (new_any n w hn).mono ?_
  rintro e w' (⟨_, _, m, rfl, hb, hm⟩ | ⟨h, _⟩)
  · obtain ⟨pm, rfl⟩ := hm.ptr
    exact ⟨pm, _, rfl, hm, fun k hk => hk.1, hb⟩
  · exact absurd ⟨h1, h2⟩ h
theorem new_nomine {n : Int} (w : World) (hn : I64 n) (h : ¬ (1 ≤ n ∧ n ≤ 20000)) : Calls Tryd.prog 7 #[.int .i64 n] w (Same (.tuple #[.pointer none, .int .i64 2]) w) := by
  refine (new_any n w hn).mono ?_
  rintro e w' (⟨h1, h2, _⟩ | ⟨_, rfl, rfl⟩)
  · exact absurd ⟨h1, h2⟩ h
  · exact ⟨rfl, rfl⟩
end Go.Proofs.YtofpcdjoljjnoaaDoor
