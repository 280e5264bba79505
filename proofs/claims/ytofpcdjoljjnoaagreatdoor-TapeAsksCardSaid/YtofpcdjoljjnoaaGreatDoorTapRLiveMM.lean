/-
  LAYER 17: the document's answer: which steps are live: the mathematics of its passes.
-/
import Derived.Test.YtofpcdjoljjnoaaGreatDoorTapZ21
namespace Go.Proofs.YtofpcdjoljjnoaaGreatDoor

/-- How many are not yet live. -/
def cf (X : List Bool) : Nat := X.count false
theorem cf_set {X : List Bool} {i : Nat} (h : X.getD i false = false) (hi : i < X.length) : cf (X.set i true) + 1 = cf X := by
  unfold cf
  induction X generalizing i with
  | nil => simp at hi
  | cons b X ih =>
    cases i with
    | zero =>
      simp at h
      subst h
      simp
    | succ i =>
      have h' : X.getD i false = false := by simpa using h
      have := ih h' (by simpa using hi)
      rw [List.set_cons_succ, List.count_cons, List.count_cons]
      omega
/-- What holds of what is marked. -/
structure Marked (L : List Nd) (F : List Bool) (out : Nat) (X : List Bool) : Prop where
  len : X.length = L.length
  out : X.getD out false = true
  sound : ∀ i, X.getD i false = true → F.getD i false = true
/-- All that hang on step j have been marked. -/
def Shut (L : List Nd) (X : List Bool) (j : Nat) : Prop := ∀ i, X.getD j false = true → Uses L j i → X.getD i false = true
/-- Within a pass, behind k steps. -/
structure Pass (L : List Nd) (F : List Bool) (out : Nat) (X0 : List Bool) (k : Nat) (X : List Bool) (m : Bool) : Prop where
  mark : Marked L F out X
  idle : m = false → X = X0 ∧ ∀ j, j < k → Shut L X j
  busy : m = true → cf X < cf X0
theorem Pass.start {L : List Nd} {F : List Bool} {out : Nat} {X0 : List Bool} (h : Marked L F out X0) : Pass L F out X0 0 X0 false := ⟨h, fun _ => ⟨rfl, fun j hj => by omega⟩, fun h => by cases h⟩
theorem Pass.le {L : List Nd} {F : List Bool} {out k : Nat} {X0 X : List Bool} {m : Bool} (h : Pass L F out X0 k X m) : cf X ≤ cf X0 := by
  cases m with
  | false => rw [(h.idle rfl).1]; exact Nat.le_refl _
  | true => exact Nat.le_of_lt (h.busy rfl)
section
variable {L : List Nd} {pars : Int} {out : Nat} {F X0 X : List Bool} {k : Nat} {m : Bool} (hv : stepsB pars 0 L = true) (ho : out < L.length) (hF : F = liveUp L (out : Int) L.length)
include hv ho hF
theorem live_of_uses {j i : Nat} (h1 : F.getD j false = true) (h2 : Uses L j i) : F.getD i false = true := by
  rw [hF] at h1 ⊢
  refine (liveUp_get hv ⟨by omega, by omega⟩ _ (Nat.le_refl _) i).2 (.inr ⟨j, by omega, ?_, h1, h2⟩)
  obtain ⟨x, hx, _⟩ := h2
  exact (List.getElem?_eq_some_iff.1 hx).1
theorem marked_start : Marked L F out ((List.replicate L.length false).set out true) := by
  refine ⟨by simp, by rw [getD_set (by simpa using ho), if_pos rfl], fun i hi => ?_⟩
  rw [getD_set (by simpa using ho)] at hi
  split at hi
  · rename_i e
    subst e
    rw [hF]
    exact (liveUp_get hv ⟨by omega, by omega⟩ _ (Nat.le_refl _) _).2 (.inl rfl)
  · rw [List.getD_eq_getElem?_getD, List.getElem?_replicate] at hi
    split at hi <;> simp at hi
/-- A step more is marked. -/
theorem Pass.mark1 {j i : Nat} (h : Pass L F out X0 k X m) (hj : X.getD j false = true) (hu : Uses L j i) (hi : X.getD i false = false) (hil : i < L.length) : Pass L F out X0 k (X.set i true) true := by
  have hc := cf_set hi (by rw [h.mark.len]; exact hil)
  have hle := h.le
  refine ⟨⟨by rw [List.length_set]; exact h.mark.len, ?_, fun a ha => ?_⟩, (fun h => by cases h), (fun _ => by omega)⟩
  · rw [getD_set (by rw [h.mark.len]; exact hil)]
    split
    · rfl
    · exact h.mark.out
  · rw [getD_set (by rw [h.mark.len]; exact hil)] at ha
    split at ha
    · rename_i e
      subst e
      exact live_of_uses hv ho hF (h.mark.sound j hj) hu
    · exact h.mark.sound a ha
omit hv ho hF in
/-- On to the next step. -/
theorem Pass.next (h : Pass L F out X0 k X m) (hs : m = false → Shut L X k) : Pass L F out X0 (k + 1) X m :=
  ⟨h.mark, fun hm => ⟨(h.idle hm).1, fun j hj => by
    rcases Nat.lt_or_ge j k with h1 | h1
    · exact (h.idle hm).2 j h1
    · obtain rfl : j = k := by omega
      exact hs hm⟩, h.busy⟩
/-- What is shut is what is live. -/
theorem shut_live (h : Marked L F out X) (hs : ∀ j, j < L.length → Shut L X j) : X = F := by
  have hFl : F.length = L.length := by rw [hF, liveUp_length]
  have key : ∀ d i, L.length - i = d → F.getD i false = true → X.getD i false = true := by
    intro d
    induction d using Nat.strongRecOn with
    | _ d ih =>
      intro i hd hi
      rw [hF] at hi
      rcases (liveUp_get hv ⟨by omega, by omega⟩ _ (Nat.le_refl _) i).1 hi with e | ⟨j, _, hj, h1, h2⟩
      · obtain rfl : i = out := by omega
        exact h.out
      · have hij := uses_lt hv h2
        refine hs j hj i (ih (L.length - j) (by omega) j rfl ?_) h2
        rw [hF]; exact h1
  refine List.ext_getElem (by rw [h.len, hFl]) fun i h1 h2 => ?_
  have e1 : X.getD i false = X[i] := by rw [List.getD_eq_getElem?_getD, List.getElem?_eq_getElem h1]; rfl
  have e2 : F.getD i false = F[i] := by rw [List.getD_eq_getElem?_getD, List.getElem?_eq_getElem h2]; rfl
  have h3 := h.sound i
  have h4 := key _ i rfl
  rw [e1, e2] at h3 h4
  cases hx : X[i] <;> cases hf : F[i] <;> simp_all
end
end Go.Proofs.YtofpcdjoljjnoaaGreatDoor
