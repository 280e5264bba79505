/-
  LAYER 17: the laws: which steps are live: each is Out, or a step of one that is; a step more leaves them as they were.
-/
import Derived.Test.YtofpcdjoljjnoaaDoorTapZ24
namespace Go.Proofs.YtofpcdjoljjnoaaDoor

/-- Step j hangs on step i. -/
def Uses (L : List Nd) (j i : Nat) : Prop := ∃ x, L[j]? = some x ∧ ((fld x.op 0 = 3 ∧ x.a = (i : Int)) ∨ (fld x.op 1 = 3 ∧ x.b = (i : Int)))
theorem getD_set {l : List Bool} {i j : Nat} {b : Bool} (hi : i < l.length) : (l.set i b).getD j false = if i = j then b else l.getD j false := by
  rw [List.getD_eq_getElem?_getD, List.getD_eq_getElem?_getD, List.getElem?_set]
  split
  · rename_i h
    subst h
    simp
  · rfl
theorem markL_get {f : Nat} {a n : Int} {l : List Bool} {i : Nat} (h : f = 3 → 0 ≤ a ∧ a < n) (hn : n ≤ l.length) : ((markL f a l).getD i false = true) ↔ (l.getD i false = true ∨ (f = 3 ∧ a = (i : Int))) := by
  unfold markL
  by_cases hf : f = 3
  · obtain ⟨h1, h2⟩ := h hf
    rw [if_pos hf, getD_set (by omega)]
    split
    · rename_i h3
      simp only [true_iff]
      exact .inr ⟨hf, by omega⟩
    · rename_i h3
      constructor
      · exact .inl
      · rintro (h4 | ⟨_, h4⟩)
        · exact h4
        · exfalso; apply h3; omega
  · rw [if_neg hf]
    constructor
    · exact .inl
    · rintro (h4 | ⟨h4, _⟩)
      · exact h4
      · exact absurd h4 hf
section
variable {L : List Nd} {pars out : Int} (hv : stepsB pars 0 L = true)
include hv
theorem liveAt_get {j i : Nat} {l : List Bool} (hj : j < L.length) (hl : l.length = L.length) : ((liveAt L j l).getD i false = true) ↔ (l.getD i false = true ∨ (l.getD j false = true ∧ Uses L j i)) := by
  have hx : L[j]? = some L[j] := List.getElem?_eq_getElem hj
  have hs := stepsB_at hv hx
  rw [Nat.zero_add] at hs
  unfold liveAt
  rw [hx]
  dsimp only
  have hu : Uses L j i ↔ ((fld L[j].op 0 = 3 ∧ L[j].a = (i : Int)) ∨ (fld L[j].op 1 = 3 ∧ L[j].b = (i : Int))) := by
    constructor
    · rintro ⟨x, h1, h2⟩
      rw [hx] at h1
      cases h1
      exact h2
    · exact fun h => ⟨_, hx, h⟩
  by_cases hb : l.getD j false = true
  · rw [if_pos hb, markL_get (stepB_b hs) (by rw [markL_length]; omega), markL_get (stepB_a hs) (by omega), hu]
    constructor
    · rintro ((h | h) | h)
      · exact .inl h
      · exact .inr ⟨hb, .inl h⟩
      · exact .inr ⟨hb, .inr h⟩
    · rintro (h | ⟨_, h | h⟩)
      · exact .inl (.inl h)
      · exact .inl (.inr h)
      · exact .inr h
  · rw [if_neg hb]
    constructor
    · exact .inl
    · rintro (h | ⟨h, _⟩)
      · exact h
      · exact absurd h hb
theorem uses_lt {j i : Nat} (h : Uses L j i) : i < j := by
  obtain ⟨x, hx, h⟩ := h
  have hs := stepsB_at hv hx
  rw [Nat.zero_add] at hs
  rcases h with ⟨h1, h2⟩ | ⟨h1, h2⟩
  · have := stepB_a hs h1; omega
  · have := stepB_b hs h1; omega
theorem liveUp_get (ho : 0 ≤ out ∧ out < L.length) : ∀ k, k ≤ L.length → ∀ i, ((liveUp L out k).getD i false = true) ↔ ((i : Int) = out ∨ ∃ j, L.length - k ≤ j ∧ j < L.length ∧ (liveUp L out k).getD j false = true ∧ Uses L j i)
  | 0, _, i => by
    rw [liveUp, getD_set (by simp; omega)]
    constructor
    · split
      · exact fun _ => .inl (by omega)
      · intro h
        rw [List.getD_eq_getElem?_getD, List.getElem?_replicate] at h
        split at h <;> simp at h
    · rintro (h | ⟨j, h1, h2, _⟩)
      · rw [if_pos (by omega)]
      · omega
  | k + 1, hk, i => by
    have ih := liveUp_get ho k (by omega)
    have hst := fun i => liveAt_get (j := L.length - 1 - k) (i := i) hv (by omega) (liveUp_length L out k)
    have hsame : ∀ j, L.length - 1 - k ≤ j → ((liveUp L out (k + 1)).getD j false = true ↔ (liveUp L out k).getD j false = true) := fun j hj => by
      rw [liveUp, hst]
      constructor
      · rintro (h | ⟨_, h⟩)
        · exact h
        · have := uses_lt hv h; omega
      · exact .inl
    rw [liveUp, hst, ih i]
    constructor
    · rintro ((h | ⟨j, h1, h2, h3, h4⟩) | ⟨h1, h2⟩)
      · exact .inl h
      · exact .inr ⟨j, by omega, h2, (hsame j (by omega)).2 h3, h4⟩
      · exact .inr ⟨L.length - 1 - k, by omega, by omega, (hsame _ (Nat.le_refl _)).2 h1, h2⟩
    · rintro (h | ⟨j, h1, h2, h3, h4⟩)
      · exact .inl (.inl h)
      · have h3' := (hsame j (by omega)).1 h3
        rcases Nat.lt_or_ge (L.length - 1 - k) j with h | h
        · exact .inl (.inr ⟨j, by omega, h2, h3', h4⟩)
        · obtain rfl : j = L.length - 1 - k := by omega
          exact .inr ⟨h3', h4⟩
end

/-- What the law marks: behind k rounds. -/
def usedUp (L : List Nd) (F : List Bool) : Nat → List Bool
  | 0 => List.replicate L.length false
  | k + 1 => match L[k]? with
    | some x => if F.getD k false && decide (3 ≤ x.op) then (if x.op ≤ 6 then ((usedUp L F k).set x.a.toNat true).set x.b.toNat true else (usedUp L F k).set x.a.toNat true) else usedUp L F k
    | none => usedUp L F k
theorem usedUp_length (L : List Nd) (F : List Bool) : ∀ k, (usedUp L F k).length = L.length
  | 0 => by simp [usedUp]
  | k + 1 => by
    unfold usedUp
    split
    · split
      · split <;> simp [usedUp_length L F k]
      · exact usedUp_length L F k
    · exact usedUp_length L F k
theorem fld_of_op {op : Nat} (h : op < 12) : (fld op 0 = 3 ↔ 3 ≤ op) ∧ (fld op 1 = 3 ↔ 3 ≤ op ∧ op ≤ 6) := by
  have : ∀ op, op < 12 → ((fld op 0 = 3 ↔ 3 ≤ op) ∧ (fld op 1 = 3 ↔ 3 ≤ op ∧ op ≤ 6)) := by decide
  exact this op h
theorem stepB_op {x : Nd} {i pars : Int} (h : stepB x i pars = true) : x.op < 12 := by
  rcases Nat.lt_or_ge x.op 12 with h1 | h1
  · exact h1
  · unfold stepB at h
    rw [fld_none h1, fld_none h1, fld_none h1] at h
    simp at h
section
variable {L : List Nd} {pars : Int} (hv : stepsB pars 0 L = true)
include hv
theorem used_ab {k : Nat} {x : Nd} (hx : L[k]? = some x) (h3 : 3 ≤ x.op) : (0 ≤ x.a ∧ x.a < (k : Int)) ∧ (x.op ≤ 6 → 0 ≤ x.b ∧ x.b < (k : Int)) := by
  have hs := stepsB_at hv hx
  rw [Nat.zero_add] at hs
  have ho := fld_of_op (stepB_op hs)
  exact ⟨stepB_a hs (ho.1.2 h3), fun h6 => stepB_b hs (ho.2.2 ⟨h3, h6⟩)⟩
theorem usedUp_get (F : List Bool) : ∀ k, k ≤ L.length → ∀ i, ((usedUp L F k).getD i false = true) ↔ ∃ j, j < k ∧ F.getD j false = true ∧ Uses L j i
  | 0, _, i => by
    unfold usedUp
    rw [List.getD_eq_getElem?_getD, List.getElem?_replicate]
    constructor
    · intro h; split at h <;> simp at h
    · rintro ⟨j, h, _⟩; omega
  | k + 1, hk, i => by
    have ih := usedUp_get F k (by omega) i
    have hx : L[k]? = some L[k] := List.getElem?_eq_getElem (by omega)
    have hs := stepsB_at hv hx
    rw [Nat.zero_add] at hs
    have ho := fld_of_op (stepB_op hs)
    have hu : Uses L k i ↔ ((fld L[k].op 0 = 3 ∧ L[k].a = (i : Int)) ∨ (fld L[k].op 1 = 3 ∧ L[k].b = (i : Int))) := by
      constructor
      · rintro ⟨x, h1, h2⟩
        rw [hx] at h1
        cases h1
        exact h2
      · exact fun h => ⟨_, hx, h⟩
    have hl := usedUp_length L F k
    have key : ((usedUp L F (k + 1)).getD i false = true) ↔ ((usedUp L F k).getD i false = true ∨ (F.getD k false = true ∧ Uses L k i)) := by
      rw [hu, ho.1, ho.2]
      rw [usedUp, hx]
      dsimp only
      by_cases hf : F.getD k false = true
      · by_cases h3 : 3 ≤ L[k].op
        · obtain ⟨⟨a1, a2⟩, hb⟩ := used_ab hv hx h3
          rw [hf, decide_eq_true h3, Bool.and_true, if_pos rfl]
          by_cases h6 : L[k].op ≤ 6
          · obtain ⟨b1, b2⟩ := hb h6
            rw [if_pos h6, getD_set (by simp [hl]; omega), getD_set (by rw [hl]; omega)]
            constructor
            · split
              · exact fun _ => .inr ⟨rfl, .inr ⟨⟨h3, h6⟩, by omega⟩⟩
              · split
                · exact fun _ => .inr ⟨rfl, .inl ⟨h3, by omega⟩⟩
                · exact .inl
            · rintro (h | ⟨_, ⟨_, h⟩ | ⟨_, h⟩⟩)
              · split
                · rfl
                · split
                  · rfl
                  · exact h
              · split
                · rfl
                · rw [if_pos (by omega)]
              · rw [if_pos (by omega)]
          · rw [if_neg h6, getD_set (by rw [hl]; omega)]
            constructor
            · split
              · exact fun _ => .inr ⟨rfl, .inl ⟨h3, by omega⟩⟩
              · exact .inl
            · rintro (h | ⟨_, ⟨_, h⟩ | ⟨h, _⟩⟩)
              · split
                · rfl
                · exact h
              · rw [if_pos (by omega)]
              · exact absurd h.2 h6
        · rw [decide_eq_false h3, Bool.and_false]
          constructor
          · exact .inl
          · rintro (h | ⟨_, ⟨h, _⟩ | ⟨h, _⟩⟩)
            · exact h
            · exact absurd h h3
            · exact absurd h.1 h3
      · have hf' : F.getD k false = false := by simpa using hf
        rw [hf', Bool.false_and]
        constructor
        · exact .inl
        · rintro (h | ⟨h, _⟩)
          · exact h
          · cases h
    rw [key, ih]
    constructor
    · rintro (⟨j, h1, h2, h3⟩ | ⟨h1, h2⟩)
      · exact ⟨j, by omega, h2, h3⟩
      · exact ⟨k, by omega, h1, h2⟩
    · rintro ⟨j, h1, h2, h3⟩
      rcases Nat.lt_or_ge j k with h | h
      · exact .inl ⟨j, h, h2, h3⟩
      · obtain rfl : j = k := by omega
        exact .inr ⟨h2, h3⟩
/-- What the law compares. -/
theorem live_used {out : Int} (ho : 0 ≤ out ∧ out < L.length) (i : Nat) : (liveUp L out L.length).getD i false = ((usedUp L (liveUp L out L.length) L.length).getD i false || decide ((i : Int) = out)) := by
  have h1 := liveUp_get hv ho L.length (Nat.le_refl _) i
  have h2 := usedUp_get hv (liveUp L out L.length) L.length (Nat.le_refl _) i
  rw [Bool.eq_iff_iff, h1, Bool.or_eq_true, h2, decide_eq_true_eq]
  constructor
  · rintro (h | ⟨j, _, h3, h4, h5⟩)
    · exact .inr h
    · exact .inl ⟨j, h3, h4, h5⟩
  · rintro (⟨j, h3, h4, h5⟩ | h)
    · exact .inr ⟨j, by omega, h3, h4, h5⟩
    · exact .inl h
end
/-- A step more. -/
theorem live_more {L : List Nd} {pars out : Int} (hv : stepsB pars 0 L = true) (ho : 0 ≤ out ∧ out < L.length) {x : Nd} (hx : fld x.op 0 = 3 ∧ x.a = out ∧ fld x.op 1 ≠ 3) :
    ∀ k, k ≤ L.length → liveUp (L ++ [x]) (L.length : Int) (k + 1) = liveUp L out k ++ [true]
  | 0, _ => by
    rw [liveUp, liveUp, liveUp]
    unfold liveAt
    rw [List.length_append, List.length_singleton, show L.length + 1 - 1 - 0 = L.length by omega, List.getElem?_append_right (Nat.le_refl _), Nat.sub_self]
    dsimp only [List.getElem?_cons_zero]
    rw [Int.toNat_natCast, getD_set (by simp), if_pos rfl, if_pos rfl]
    unfold markL
    rw [if_neg hx.2.2, if_pos hx.1, hx.2.1, List.replicate_succ', List.set_append_right _ _ (by simp), List.length_replicate, Nat.sub_self, List.set_cons_zero, List.set_append_left _ _ (by simp; omega)]
  | k + 1, hk => by
    rw [liveUp, live_more hv ho hx k (by omega), liveUp]
    have hy : L[L.length - 1 - k]? = some L[L.length - 1 - k] := List.getElem?_eq_getElem (by omega)
    have hs := stepsB_at hv hy
    rw [Nat.zero_add] at hs
    have hl := liveUp_length L out k
    unfold liveAt
    rw [List.length_append, List.length_singleton, show L.length + 1 - 1 - (k + 1) = L.length - 1 - k by omega, List.getElem?_append_left (by omega), hy]
    dsimp only
    rw [List.getD_eq_getElem?_getD, List.getElem?_append_left (by omega), ← List.getD_eq_getElem?_getD]
    split
    · unfold markL
      have hA : fld L[L.length - 1 - k].op 0 = 3 → (liveUp L out k ++ [true]).set L[L.length - 1 - k].a.toNat true = (liveUp L out k).set L[L.length - 1 - k].a.toNat true ++ [true] := fun h => by
        have := stepB_a hs h
        exact List.set_append_left _ _ (by omega)
      have hB : ∀ l : List Bool, l.length = L.length → fld L[L.length - 1 - k].op 1 = 3 → (l ++ [true]).set L[L.length - 1 - k].b.toNat true = l.set L[L.length - 1 - k].b.toNat true ++ [true] := fun l hl h => by
        have := stepB_b hs h
        exact List.set_append_left _ _ (by omega)
      by_cases h0 : fld L[L.length - 1 - k].op 0 = 3 <;> by_cases h1 : fld L[L.length - 1 - k].op 1 = 3
      · rw [if_pos h0, if_pos h1, if_pos h0, if_pos h1, hA h0, hB _ (by simp [hl]) h1]
      · rw [if_pos h0, if_neg h1, if_pos h0, if_neg h1, hA h0]
      · rw [if_neg h0, if_pos h1, if_neg h0, if_pos h1, hB _ hl h1]
      · rw [if_neg h0, if_neg h1, if_neg h0, if_neg h1]
    · rfl
end Go.Proofs.YtofpcdjoljjnoaaDoor
