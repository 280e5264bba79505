/-
  LAYER 17: the laws: what a maker's calls tell, told twice.
-/
import Derived.Test.YtofpcdjoljjnoaaDoorTapZ27
namespace Go.Proofs.YtofpcdjoljjnoaaDoor

/-- What holds of a call that makes a step: a place that is told is one of the maker's; where none is told, nothing is made; told once more, nothing is made. -/
structure Fine (f : MkS → Int × Int × MkS) (S : MkS) : Prop where
  place : (f S).2.1 = 0 → 0 ≤ (f S).1 ∧ (f S).1 < ((f S).2.2.l.length : Int)
  fail : (f S).2.1 ≠ 0 → (f S).2.2 = S
  twice : (f (f S).2.2).2.2 = (f S).2.2
  budget : (f S).2.2.budget = S.budget
theorem kyAt_some {L : List Ky} {k : Ky} {i : Nat} (h : kyAt L k = some i) : i < L.length := by
  unfold kyAt at h
  rw [List.findIdx?_eq_some_iff_getElem] at h
  exact h.1
theorem kyAt_snoc {L : List Ky} {k : Ky} : ∃ i, kyAt (L ++ [k]) k = some i := by
  cases h : kyAt (L ++ [k]) k with
  | some i => exact ⟨i, rfl⟩
  | none => exact absurd (by simp) (kyAt_none h)
theorem putS_fine (S : MkS) (x : Nd) : Fine (fun T => putS T x) S := by
  cases hk : kyAt (S.l.map keyN) (keyN x) with
  | some i =>
    have e : putS S x = ((i : Int), 0, S) := by unfold putS; rw [hk]
    have hi := kyAt_some hk
    rw [List.length_map] at hi
    refine ⟨fun _ => ?_, fun h => ?_, ?_, ?_⟩
    · rw [e]; exact ⟨by show 0 ≤ (i : Int); omega, by show (i : Int) < S.l.length; omega⟩
    · rw [e]
    · rw [e]; show (putS S x).2.2 = S; rw [e]
    · rw [e]
  | none =>
    by_cases hf : S.l.length = S.budget
    · have e : putS S x = (0, 171, S) := by unfold putS; rw [hk]; simp only [if_pos hf]
      refine ⟨fun h => ?_, fun h => ?_, ?_, ?_⟩
      · rw [e] at h; cases h
      · rw [e]
      · rw [e]; show (putS S x).2.2 = S; rw [e]
      · rw [e]
    · have e : putS S x = ((S.l.length : Int), 0, { S with l := S.l ++ [x] }) := by unfold putS; rw [hk]; simp only [if_neg hf]
      refine ⟨fun h => ?_, fun h => ?_, ?_, ?_⟩
      · rw [e]
        refine ⟨by show 0 ≤ (S.l.length : Int); omega, ?_⟩
        show (S.l.length : Int) < ((S.l ++ [x]).length : Nat)
        rw [List.length_append, List.length_singleton]; omega
      · rw [e] at h; exact absurd rfl h
      · rw [e]
        show (putS { S with l := S.l ++ [x] } x).2.2 = _
        obtain ⟨i, hi⟩ := kyAt_snoc (L := S.l.map keyN) (k := keyN x)
        unfold putS
        dsimp only
        rw [List.map_append, List.map_singleton, hi]
      · rw [e]
theorem putS_len (S : MkS) (x : Nd) : S.l.length ≤ (putS S x).2.2.l.length ∧ (putS S x).2.2.pars = S.pars := by
  unfold putS
  split
  · exact ⟨Nat.le_refl _, rfl⟩
  · split
    · exact ⟨Nat.le_refl _, rfl⟩
    · exact ⟨by show _ ≤ (S.l ++ [x]).length; simp, rfl⟩
theorem isB_mono {f : Nat} {a n n' p : Int} (h : isB f a n p = true) (hn : n ≤ n') : isB f a n' p = true := by
  unfold isB at *
  split at h <;> simp_all <;> omega
theorem stepB_mono {x : Nd} {n n' p : Int} (h : stepB x n p = true) (hn : n ≤ n') : stepB x n' p = true := by
  unfold stepB at *
  simp only [Bool.and_eq_true] at *
  exact ⟨h.1, isB_mono h.2.1 hn, isB_mono h.2.2.1 hn, h.2.2.2⟩
theorem ofS_fine (S : MkS) (f0 f1 f2 : Nat) (x : Nd) : Fine (fun T => ofS T f0 f1 f2 x) S := by
  by_cases h : (fld x.op 0 = f0 ∧ fld x.op 1 = f1 ∧ fld x.op 2 = f2) ∧ stepB x (S.l.length : Int) (S.pars : Int) = true
  · have e : ofS S f0 f1 f2 x = putS S x := by unfold ofS; rw [if_pos h]
    have hp := putS_fine S x
    have hl := putS_len S x
    have e2 : ofS (putS S x).2.2 f0 f1 f2 x = putS (putS S x).2.2 x := by
      unfold ofS
      rw [if_pos ⟨h.1, by rw [hl.2]; exact stepB_mono h.2 (by have := hl.1; omega)⟩]
    refine ⟨fun k => ?_, fun k => ?_, ?_, ?_⟩
    · rw [e] at k ⊢; exact hp.place k
    · rw [e] at k ⊢; exact hp.fail k
    · rw [e, e2]; exact hp.twice
    · rw [e]; exact hp.budget
  · have e : ofS S f0 f1 f2 x = (0, 2, S) := by unfold ofS; rw [if_neg h]
    refine ⟨fun k => ?_, fun k => ?_, ?_, ?_⟩
    · rw [e] at k; cases k
    · rw [e]
    · rw [e]; show (ofS S f0 f1 f2 x).2.2 = S; rw [e]
    · rw [e]
theorem numS_fine (S : MkS) (x : Fr) : Fine (fun T => numS T x) S := by
  by_cases h : okF (lv x.m) (lv x.d)
  · have e : ∀ T, numS T x = putS T (numNd x) := fun T => by unfold numS; rw [if_pos h]
    have hp := putS_fine S (numNd x)
    exact ⟨fun k => by rw [e] at k ⊢; exact hp.place k, fun k => by rw [e] at k ⊢; exact hp.fail k, by rw [e, e]; exact hp.twice, by rw [e]; exact hp.budget⟩
  · have e : numS S x = (0, 2, S) := by unfold numS; rw [if_neg h]
    refine ⟨fun k => ?_, fun k => ?_, ?_, ?_⟩
    · rw [e] at k; cases k
    · rw [e]
    · rw [e]; show (numS S x).2.2 = S; rw [e]
    · rw [e]
theorem oneS_fine (S : MkS) (op : Nat) (a : Int) : Fine (fun T => oneS T op a) S := ofS_fine S 3 0 0 _
theorem twoS_fine (S : MkS) (op : Nat) (a b : Int) : Fine (fun T => twoS T op a b) S := ofS_fine S 3 3 0 _
theorem parS_budget (S : MkS) : (parS S).2.2.budget = S.budget := by
  unfold parS
  split
  · rfl
  · split <;> rfl

/-- Steps that are the same have the same key. -/
theorem key_of_same {x y : Nd} (h : sameNd x y = true) : keyN x = keyN y := by
  unfold sameNd sameB at h
  simp only [Bool.and_eq_true, decide_eq_true_eq] at h
  obtain ⟨⟨⟨h1, h2⟩, h3⟩, ⟨h4, h5⟩, h6⟩ := h
  rw [beq_iff_eq] at h4
  unfold keyN
  rw [h1, h2, h3, h4, h5, h6]
theorem same_self (x : Nd) : sameNd x x = true := by
  unfold sameNd sameB
  simp
theorem sameNds_self : ∀ L : List Nd, sameNds L L = true
  | [] => rfl
  | x :: L => by unfold sameNds; rw [same_self, sameNds_self L]; rfl
theorem sameTp_self (t : Tp) : sameTp t t = true := by
  unfold sameTp
  rw [sameNds_self]
  simp
end Go.Proofs.YtofpcdjoljjnoaaDoor
