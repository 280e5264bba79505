/-
  LAYER 2: plain mathematics of the program's own way: a remainder that is turned, groups of eight bytes.
-/
import Derived.Test.YtemekdoogocapaaDoorCastMath
namespace Go.Proofs.YtemekdoogocapaaDoor
open Go

/-- A remainder's 61 bits, turned to the left. -/
def turnN (r t : Nat) : Nat := r * 2 ^ t % 2 ^ 61 + r / 2 ^ (61 - t)

theorem turn_or (r t : Nat) (hr : r < 2 ^ 61) (ht : t ≤ 60) : (r * 2 ^ t % 2 ^ 64 ||| r / 2 ^ (61 - t)) &&& (2 ^ 61 - 1) = turnN r t := by
  have hB : r / 2 ^ (61 - t) < 2 ^ t := by
    rw [Nat.div_lt_iff_lt_mul (Nat.two_pow_pos _), ← Nat.pow_add, show t + (61 - t) = 61 by omega]; exact hr
  have hB61 : r / 2 ^ (61 - t) < 2 ^ 61 := Nat.lt_of_le_of_lt (Nat.div_le_self _ _) hr
  have hA : r * 2 ^ t % 2 ^ 61 = 2 ^ t * (r % 2 ^ (61 - t)) := by
    rw [Nat.mul_comm, show (2 : Nat) ^ 61 = 2 ^ t * 2 ^ (61 - t) by rw [← Nat.pow_add, show t + (61 - t) = 61 by omega], Nat.mul_mod_mul_left]
  rw [Nat.and_two_pow_sub_one_eq_mod, Nat.or_mod_two_pow, Nat.mod_mod_of_dvd _ (Nat.pow_dvd_pow 2 (by omega)), Nat.mod_eq_of_lt hB61]
  unfold turnN
  rw [hA, Nat.two_pow_add_eq_or_of_lt hB]

theorem turn_lt (r t : Nat) (hr : r < 2 ^ 61) (ht : t ≤ 60) : turnN r t < 2 ^ 61 := by
  rw [← turn_or r t hr ht]
  exact Nat.lt_of_le_of_lt Nat.and_le_right (by omega)

theorem turn_mod (r t : Nat) (ht : t ≤ 60) : turnN r t % PR = r * 2 ^ t % PR := by
  have hq : r * 2 ^ t / 2 ^ 61 = r / 2 ^ (61 - t) := by
    rw [show (2 : Nat) ^ 61 = 2 ^ (61 - t) * 2 ^ t by rw [← Nat.pow_add, show 61 - t + t = 61 by omega], Nat.mul_div_mul_right _ _ (Nat.two_pow_pos _)]
  have hd := Nat.div_add_mod (r * 2 ^ t) (2 ^ 61)
  unfold turnN
  rw [← hq]
  generalize r * 2 ^ t = m at *
  rw [PR_eq]
  omega

theorem val_lt_of (l : List UInt8) (k : Nat) (h : l.length ≤ k) : val l < 256 ^ k := Nat.lt_of_lt_of_le (val_lt l) (Nat.pow_le_pow_right (by omega) h)

/-- The table's numbers: by so many bytes. -/
def tn : Nat → Nat
  | 0 => 0 | 1 => 8 | 2 => 16 | 3 => 24 | 4 => 32 | 5 => 40 | 6 => 48 | 7 => 56 | 8 => 3 | _ => 0
theorem tn_le (k : Nat) : tn k ≤ 60 := by unfold tn; split <;> omega
theorem tn_mod {k : Nat} (hk : k ≤ 8) : 2 ^ tn k % PR = 256 ^ k % PR := by
  have h : k = 0 ∨ k = 1 ∨ k = 2 ∨ k = 3 ∨ k = 4 ∨ k = 5 ∨ k = 6 ∨ k = 7 ∨ k = 8 := by omega
  rw [PR_eq]
  rcases h with rfl | rfl | rfl | rfl | rfl | rfl | rfl | rfl | rfl <;> decide

/-- A group of at most eight bytes, at once. -/
theorem group_step (r : Nat) (l : List UInt8) (h : l.length ≤ 8) (y : Nat) (hy : y % PR = turnN (r % PR) (tn l.length) % PR) : (y + val l % PR) % PR = cmore r l := by
  rw [cmore_eq, Nat.add_mod, hy, turn_mod _ _ (tn_le _), Nat.mod_mod, Nat.mul_mod, tn_mod h]
  rw [Nat.mod_mod, ← Nat.mul_mod, ← Nat.add_mod]

/-- What follows, bit by bit: a byte under a number that was moved. -/
theorem or_byte (a b : Nat) (hb : b < 256) : 256 * a ||| b = 256 * a + b := by
  have h := Nat.two_pow_add_eq_or_of_lt (i := 8) hb a
  rw [show (2 : Nat) ^ 8 = 256 from rfl] at h
  exact h.symm
end Go.Proofs.YtemekdoogocapaaDoor
