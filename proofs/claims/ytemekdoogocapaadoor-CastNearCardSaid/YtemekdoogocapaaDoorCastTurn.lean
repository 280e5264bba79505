/-
  LAYER 2, plain mathematics: seven bytes beside each other, turned by a mask.
-/
import Derived.Test.YtemekdoogocapaaDoorCastMath
namespace Go.Proofs.YtemekdoogocapaaDoor
open Go

/-- The first k of the bytes from n on, turned. -/
def turn (l : List UInt8) (n mask : Nat) : Nat → List UInt8
  | 0 => l
  | k + 1 => (turn l n mask k).set (n + k) ((turn l n mask k).getD (n + k) 0 ^^^ byt (mask / 256 ^ k))

theorem turn_length (l : List UInt8) (n mask k : Nat) : (turn l n mask k).length = l.length := by
  induction k with
  | zero => rfl
  | succ k ih => simp [turn, ih]

theorem turn_getD (l : List UInt8) (n mask k : Nat) (h : n + k ≤ l.length) (j : Nat) : (turn l n mask k).getD j 0 = if n ≤ j ∧ j < n + k then l.getD j 0 ^^^ byt (mask / 256 ^ (j - n)) else l.getD j 0 := by
  induction k generalizing j with
  | zero => rw [if_neg (by omega)]; rfl
  | succ k ih =>
    have ih' := ih (by omega) j
    have hl := turn_length l n mask k
    simp only [turn, List.getD_eq_getElem?_getD, List.getElem?_set] at ih' ⊢
    by_cases e : n + k = j
    · subst e
      have h2 : (turn l n mask k).getD (n + k) 0 = l.getD (n + k) 0 := by
        rw [ih (by omega) (n + k), if_neg (by omega)]
      rw [if_pos rfl, if_pos (by omega), if_pos (by omega)]
      simp only [Option.getD_some]
      rw [← List.getD_eq_getElem?_getD, ← List.getD_eq_getElem?_getD, h2, Nat.add_sub_cancel_left]
    · rw [if_neg e, ih']
      by_cases hj : n ≤ j ∧ j < n + k
      · rw [if_pos hj, if_pos (by omega)]
      · rw [if_neg hj, if_neg (by omega)]

theorem mask_zero (mask k : Nat) (h : ∀ i, i < k → mask / 256 ^ i % 256 = 0) : mask % 256 ^ k = 0 := by
  induction k with
  | zero => simp [Nat.mod_one]
  | succ k ih =>
    rw [Nat.pow_succ, Nat.mod_mul, ih (fun i hi => h i (by omega)), h k (by omega)]
    simp

theorem xor_self_ne {a b : UInt8} (h : b ≠ 0) : a ^^^ b ≠ a := by
  intro e
  apply h
  have h1 : a ^^^ (a ^^^ b) = a ^^^ a := by rw [e]
  rw [← UInt8.xor_assoc, UInt8.xor_self, UInt8.zero_xor] at h1
  exact h1

/-- Turned by a mask that is not 0: it is not sealed. -/
theorem turn_near {s : List UInt8} {n mask : Nat} (hn : n + 7 ≤ (cseal s).length) (hm : mask % 256 ^ 7 ≠ 0) : copen (turn (cseal s) n mask 7) = ([], false) := by
  obtain ⟨l, hl⟩ : ∃ l, l = cseal s := ⟨_, rfl⟩
  rw [← hl] at hn ⊢
  have ht := turn_getD l n mask 7 hn
  have hlen := turn_length l n mask 7
  obtain ⟨i, hi7, hi0⟩ : ∃ i, i < 7 ∧ mask / 256 ^ i % 256 ≠ 0 := by
    apply Classical.byContradiction
    intro hno
    apply hm
    refine mask_zero mask 7 (fun i hi => ?_)
    apply Classical.byContradiction
    intro h
    exact hno ⟨i, hi, h⟩
  generalize turn l n mask 7 = l' at *
  have ext : ∀ a b : List UInt8, a.length = b.length → (∀ j, a.getD j 0 = b.getD j 0) → a = b := by
    intro a b h1 h2
    apply List.ext_getElem h1
    intro j h3 h4
    have := h2 j
    rw [List.getD_eq_getElem?_getD, List.getD_eq_getElem?_getD, List.getElem?_eq_getElem h3, List.getElem?_eq_getElem h4] at this
    exact this
  have e1 : l.take n = l'.take n := by
    refine ext _ _ (by simp [hlen]) (fun j => ?_)
    simp only [List.getD_eq_getElem?_getD, List.getElem?_take]
    split
    · have := ht j
      rw [if_neg (by omega)] at this
      simpa [List.getD_eq_getElem?_getD] using this.symm
    · rfl
  have e2 : l.drop (n + 7) = l'.drop (n + 7) := by
    refine ext _ _ (by simp [hlen]) (fun j => ?_)
    simp only [List.getD_eq_getElem?_getD, List.getElem?_drop]
    have := ht (n + 7 + j)
    rw [if_neg (by omega)] at this
    simpa [List.getD_eq_getElem?_getD] using this.symm
  have s1 : l = l.take n ++ ((l.drop n).take 7 ++ l.drop (n + 7)) := by
    rw [← List.drop_drop, List.take_append_drop, List.take_append_drop]
  have s2 : l' = l.take n ++ ((l'.drop n).take 7 ++ l.drop (n + 7)) := by
    rw [e1, e2, ← List.drop_drop, List.take_append_drop, List.take_append_drop]
  refine copen_not (fun u hu => ?_)
  have hne : (l.drop n).take 7 ≠ (l'.drop n).take 7 := by
    intro h
    have h1 := congrArg (fun x => x.getD i 0) h
    simp only [List.getD_eq_getElem?_getD, List.getElem?_take, if_pos hi7, List.getElem?_drop] at h1
    have h2 := ht (n + i)
    rw [if_pos (by omega), Nat.add_sub_cancel_left] at h2
    simp only [List.getD_eq_getElem?_getD] at h2
    rw [h2] at h1
    refine xor_self_ne (a := (l[n + i]?).getD 0) (b := byt (mask / 256 ^ i)) ?_ h1.symm
    intro h0
    have := congrArg UInt8.toNat h0
    rw [byt_toNat] at this
    exact hi0 (by simpa using this)
  exact cast_near (s := s) (u := u) (by simp; omega) (by simp; omega) hne (by rw [← hl]; exact s1) (by rw [← s2]; exact hu)
end Go.Proofs.YtemekdoogocapaaDoor
