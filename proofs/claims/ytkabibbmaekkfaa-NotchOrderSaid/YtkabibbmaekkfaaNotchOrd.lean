/-
  LAYER 1: the bytes of numbers lie in the numbers' order, and none begins another one's: plain mathematics.
-/
import Derived.Test.YtkabibbmaekkfaaNotchMath
import GoSem.Op.String
namespace Go.Proofs.Ytkabibbmaekkfaa
open Go

theorem less_nil_r (l : List UInt8) : Op.bytesLess l [] = false := by cases l <;> rfl
theorem less_cons (a b : UInt8) (x y : List UInt8) : Op.bytesLess (a :: x) (b :: y) = (decide (a < b) || (a == b && Op.bytesLess x y)) := rfl

theorem less_head {a b : UInt8} (h : a.toNat < b.toNat) (x y : List UInt8) : Op.bytesLess (a :: x) (b :: y) = true ∧ Op.bytesLess (b :: y) (a :: x) = false := by
  have h1 : a < b := UInt8.lt_iff_toNat_lt.2 h
  have h2 : ¬ b < a := fun hh => by have := UInt8.lt_iff_toNat_lt.1 hh; omega
  have h3 : b ≠ a := fun e => by subst e; omega
  simp [less_cons, h1, h2, h3]

theorem less_same (a : UInt8) (x y : List UInt8) : Op.bytesLess (a :: x) (a :: y) = Op.bytesLess x y := by
  have h2 : ¬ a < a := fun hh => by have := UInt8.lt_iff_toNat_lt.1 hh; omega
  simp [less_cons, h2]

theorem less_digs (k : Nat) : ∀ m n : Nat, m % 256 ^ k < n % 256 ^ k → ∀ x y, Op.bytesLess (digs k m ++ x) (digs k n ++ y) = true ∧ Op.bytesLess (digs k n ++ y) (digs k m ++ x) = false := by
  induction k with
  | zero => intro m n h; simp [Nat.mod_one] at h
  | succ k ih =>
    intro m n h x y
    rw [digs_head, digs_head, List.cons_append, List.cons_append]
    rw [Nat.pow_succ, Nat.mod_mul, Nat.mod_mul] at h
    have hp : 0 < 256 ^ k := Nat.pow_pos (by omega)
    have hm := Nat.mod_lt m hp
    have hn := Nat.mod_lt n hp
    have ha : (byt (m / 256 ^ k % 256)).toNat = m / 256 ^ k % 256 := by rw [byt_toNat]; omega
    have hb : (byt (n / 256 ^ k % 256)).toNat = n / 256 ^ k % 256 := by rw [byt_toNat]; omega
    rcases Nat.lt_trichotomy (m / 256 ^ k % 256) (n / 256 ^ k % 256) with hlt | heq | hgt
    · exact less_head (by omega) _ _
    · rw [heq, less_same, less_same]
      rw [heq] at h
      exact ih m n (by omega) x y
    · exfalso
      have h1 : 256 ^ k * (n / 256 ^ k % 256 + 1) ≤ 256 ^ k * (m / 256 ^ k % 256) := Nat.mul_le_mul_left _ hgt
      rw [Nat.mul_add] at h1
      omega

theorem less_numB {m n : Nat} (hn : n < 2 ^ 64) (h : m < n) (x y : List UInt8) : Op.bytesLess (numB m ++ x) (numB n ++ y) = true ∧ Op.bytesLess (numB n ++ y) (numB m ++ x) = false := by
  have hw := wid_mono (Nat.le_of_lt h)
  have h8 := wid_le n
  unfold numB
  rcases Nat.lt_or_ge (wid m) (wid n) with hlt | hge
  · simp only [List.cons_append]
    exact less_head (by rw [byt_toNat, byt_toNat]; omega) _ _
  · have e : wid m = wid n := by omega
    rw [e]
    simp only [List.cons_append]
    rw [less_same, less_same]
    have h1 := wid_lt hn
    exact less_digs _ m n (by rw [Nat.mod_eq_of_lt (by omega), Nat.mod_eq_of_lt h1]; exact h) x y

/-- No number's bytes begin another one's. -/
theorem prefix_numB {m n : Nat} (hm : m < 2 ^ 64) (hn : n < 2 ^ 64) {x : List UInt8} (h : numB m ++ x = numB n) : m = n := by
  have h1 := (ok_numB hm x).2.1
  have h2 := (ok_numB hn []).2.1
  rw [List.append_nil] at h2
  rw [h, h2] at h1
  exact h1.symm
theorem numB_inj {m n : Nat} (hm : m < 2 ^ 64) (hn : n < 2 ^ 64) (h : numB m = numB n) : m = n := prefix_numB hm hn (x := []) (by simpa using h)

end Go.Proofs.Ytkabibbmaekkfaa
