/-
  PLAIN MATHEMATICS OF LAYER 1 (no Go, no program): numbers as bytes, highest first, their count, their order; what a reader tells of bytes.
-/
import Derived.Lib.BitFns
namespace Go.Proofs.YtomcpgogiglpkaaDoor
open Go

/-- The byte of a number below 256 (of any number: modulo 256). -/
def byt (n : Nat) : UInt8 := UInt8.ofNat n
theorem byt_toNat (n : Nat) : (byt n).toNat = n % 256 := by simp [byt]
theorem byt_of (b : UInt8) : byt b.toNat = b := by simp [byt]
theorem byt_inj {m n : Nat} (hm : m < 256) (hn : n < 256) (h : byt m = byt n) : m = n := by
  have := congrArg UInt8.toNat h
  rw [byt_toNat, byt_toNat] at this
  omega

/-- The k low bytes of n, the highest first. -/
def digs : Nat → Nat → List UInt8
  | 0, _ => []
  | k + 1, n => digs k (n / 256) ++ [byt (n % 256)]

theorem digs_length (k : Nat) : ∀ n, (digs k n).length = k := by
  induction k with
  | zero => intro n; rfl
  | succ k ih => intro n; simp [digs, ih]

theorem digs_head (k : Nat) : ∀ n, digs (k + 1) n = byt (n / 256 ^ k % 256) :: digs k n := by
  induction k with
  | zero => intro n; simp [digs]
  | succ k ih =>
    intro n
    rw [digs, ih (n / 256), digs]
    have e : n / 256 / 256 ^ k = n / 256 ^ (k + 1) := by rw [Nat.div_div_eq_div_mul, Nat.pow_succ, Nat.mul_comm]
    rw [e]; rfl

theorem snoc_of {l : List UInt8} {k : Nat} (h : l.length = k + 1) : ∃ r b, l = r ++ [b] := by
  have hne : l ≠ [] := by intro e; subst e; simp at h
  exact ⟨l.dropLast, l.getLast hne, (List.dropLast_concat_getLast hne).symm⟩

/-- The number that bytes tell, the highest first. -/
def val (l : List UInt8) : Nat := l.foldl (fun a b => 256 * a + b.toNat) 0
theorem val_snoc (l : List UInt8) (b : UInt8) : val (l ++ [b]) = 256 * val l + b.toNat := by simp [val]
theorem val_nil : val [] = 0 := rfl

theorem val_digs (k : Nat) : ∀ n, val (digs k n) = n % 256 ^ k := by
  induction k with
  | zero => intro n; simp [digs, val]; omega
  | succ k ih =>
    intro n
    rw [digs, val_snoc, ih, byt_toNat, Nat.pow_succ, Nat.mul_comm (256 ^ k) 256, Nat.mod_mul]
    omega

theorem val_lt : ∀ l : List UInt8, val l < 256 ^ l.length := by
  intro l
  induction h : l.length generalizing l with
  | zero =>
    have : l = [] := List.eq_nil_of_length_eq_zero h
    subst this; simp [val]
  | succ k ih =>
    obtain ⟨r, b, rfl⟩ : ∃ r b, l = r ++ [b] := snoc_of h
    have hk : r.length = k := by simpa using h
    have h1 := ih r hk
    rw [val_snoc, Nat.pow_succ]
    have := b.toNat_lt
    omega

theorem digs_val (k : Nat) : ∀ l : List UInt8, l.length = k → digs k (val l) = l := by
  induction k with
  | zero => intro l h; rw [List.eq_nil_of_length_eq_zero h]; rfl
  | succ k ih =>
    intro l h
    obtain ⟨r, b, rfl⟩ : ∃ r b, l = r ++ [b] := snoc_of h
    have hb := b.toNat_lt
    rw [val_snoc, digs]
    have e1 : (256 * val r + b.toNat) / 256 = val r := by omega
    have e2 : (256 * val r + b.toNat) % 256 = b.toNat := by omega
    rw [e1, e2, ih r (by simpa using h), byt_of]

theorem val_cons (b : UInt8) (l : List UInt8) : val (b :: l) = b.toNat * 256 ^ l.length + val l := by
  induction h : l.length generalizing l with
  | zero =>
    have : l = [] := List.eq_nil_of_length_eq_zero h
    subst this; simp [val]
  | succ k ih =>
    obtain ⟨r, c, rfl⟩ : ∃ r c, l = r ++ [c] := snoc_of h
    have hk : r.length = k := by simpa using h
    rw [← List.cons_append, val_snoc, val_snoc, ih r hk, Nat.pow_succ, Nat.mul_add]
    rw [Nat.mul_left_comm, Nat.mul_comm 256 (256 ^ k)]
    omega

/-- How many bytes a number has: none of them the highest and 0. -/
def widA : Nat → Nat → Nat
  | 0, _ => 0
  | f + 1, n => if n = 0 then 0 else 1 + widA f (n / 256)
def wid (n : Nat) : Nat := widA 8 n

theorem widA_le (f : Nat) : ∀ n, widA f n ≤ f := by
  induction f with
  | zero => intro n; simp [widA]
  | succ f ih => intro n; have := ih (n / 256); unfold widA; split <;> omega
theorem wid_le (n : Nat) : wid n ≤ 8 := widA_le 8 n

theorem widA_lt (f : Nat) : ∀ n, n < 256 ^ f → n < 256 ^ widA f n := by
  induction f with
  | zero => intro n h; simpa [widA] using h
  | succ f ih =>
    intro n h
    unfold widA
    split
    · omega
    · have h1 := ih (n / 256) (by rw [Nat.pow_succ] at h; omega)
      rw [Nat.add_comm, Nat.pow_succ]
      omega
theorem wid_lt {n : Nat} (h : n < 2 ^ 64) : n < 256 ^ wid n := widA_lt 8 n (by omega)

theorem widA_uniq (f : Nat) : ∀ n k, k ≤ f → n < 256 ^ k → (k = 0 ∨ 256 ^ (k - 1) ≤ n) → widA f n = k := by
  induction f with
  | zero => intro n k hk _ _; simp [widA]; omega
  | succ f ih =>
    intro n k hk hlt hle
    unfold widA
    rcases k with _ | k
    · have : n = 0 := by simpa using hlt
      simp [this]
    · have hle' : 256 ^ k ≤ n := by simpa using hle
      have hp : 0 < 256 ^ k := Nat.pow_pos (by omega)
      rw [if_neg (by omega)]
      rw [Nat.pow_succ] at hlt
      have := ih (n / 256) k (by omega) (by omega) (by
        rcases k with _ | k
        · exact .inl rfl
        · right
          rw [Nat.pow_succ] at hle'
          simp only [Nat.add_sub_cancel]
          omega)
      omega
theorem wid_uniq {n k : Nat} (hk : k ≤ 8) (h1 : n < 256 ^ k) (h2 : k = 0 ∨ 256 ^ (k - 1) ≤ n) : wid n = k := widA_uniq 8 n k hk h1 h2

theorem widA_pos (f : Nat) : ∀ n, widA f n = 0 ∨ 256 ^ (widA f n - 1) ≤ n := by
  induction f with
  | zero => intro n; left; rfl
  | succ f ih =>
    intro n
    unfold widA
    split
    · left; rfl
    · right
      rename_i hn
      rcases ih (n / 256) with h | h
      · rw [h]; simp; omega
      · by_cases h0 : widA f (n / 256) = 0
        · rw [h0]; simp; omega
        · have e : 1 + widA f (n / 256) - 1 = (widA f (n / 256) - 1) + 1 := by omega
          rw [e, Nat.pow_succ]
          omega
theorem wid_pos (n : Nat) : wid n = 0 ∨ 256 ^ (wid n - 1) ≤ n := widA_pos 8 n
theorem wid_zero {n : Nat} (h : n < 2 ^ 64) : wid n = 0 ↔ n = 0 := by
  constructor
  · intro e; have := wid_lt h; rw [e] at this; omega
  · intro e; subst e; rfl

theorem widA_mono (f : Nat) : ∀ m n, m ≤ n → widA f m ≤ widA f n := by
  induction f with
  | zero => intro m n _; simp [widA]
  | succ f ih =>
    intro m n h
    have := ih (m / 256) (n / 256) (Nat.div_le_div_right h)
    unfold widA
    split <;> split <;> omega
theorem wid_mono {m n : Nat} (h : m ≤ n) : wid m ≤ wid n := widA_mono 8 m n h

/-- What the program computes: the bits' number, rounded up to bytes. -/
theorem widA_bits (f : Nat) : ∀ n, f ≤ 8 → n < 256 ^ f → widA f n = (Lib.bitLen n + 7) / 8 := by
  induction f with
  | zero => intro n _ h; have : n = 0 := by simpa using h
            subst this; rfl
  | succ f ih =>
    intro n hf h
    unfold widA
    split
    · rename_i e; subst e; rfl
    · have h64 : n < 2 ^ 64 := Nat.lt_of_lt_of_le h (by
        have : 256 ^ (f + 1) ≤ 256 ^ 8 := Nat.pow_le_pow_right (by omega) hf
        omega)
      rw [Nat.pow_succ] at h
      rw [ih (n / 256) (by omega) (by omega)]
      by_cases hb : 256 ≤ n
      · rw [Lib.bitLen_shift8 n hb (by omega)]; omega
      · have e : n / 256 = 0 := by omega
        rw [e]
        have h1 : Lib.bitLen n ≤ 8 := Lib.bitLen_le n 8 (by omega) (by omega)
        have h2 : 1 ≤ Lib.bitLen n := by
          rw [Lib.bitLen_half n (by assumption) h64]; omega
        have h3 : Lib.bitLen 0 = 0 := rfl
        rw [h3]; omega
theorem wid_bits {n : Nat} (h : n < 2 ^ 64) : wid n = (Lib.bitLen n + 7) / 8 := widA_bits 8 n (by omega) (by omega)

/-- A number's bytes. -/
def numB (n : Nat) : List UInt8 := byt (wid n) :: digs (wid n) n
theorem numB_length (n : Nat) : (numB n).length = 1 + wid n := by simp [numB, digs_length]; omega
def numsB (l : List Nat) : List UInt8 := (l.map numB).flatten
theorem numsB_snoc (l : List Nat) (n : Nat) : numsB (l ++ [n]) = numsB l ++ numB n := by simp [numsB]
theorem numsB_nil : numsB [] = [] := rfl
theorem numsB_length_le (l : List Nat) : (numsB l).length ≤ 9 * l.length := by
  induction l with
  | nil => simp [numsB]
  | cons a l ih =>
    have e : numsB (a :: l) = numB a ++ numsB l := rfl
    have := wid_le a
    rw [e, List.length_append, numB_length, List.length_cons]
    omega
def textB (s : List UInt8) : List UInt8 := numB s.length ++ s

/-- Is there a number at the beginning? -/
def okNum : List UInt8 → Bool
  | [] => false
  | b :: r => decide (b.toNat ≤ 8) && decide (b.toNat ≤ r.length) && (decide (b.toNat = 0) || !decide (r.getD 0 0 = 0))
def numOf (l : List UInt8) : Nat := val ((l.drop 1).take (l.getD 0 0).toNat)
def numRest (l : List UInt8) : List UInt8 := l.drop (1 + (l.getD 0 0).toNat)

/-- What is written is told. -/
theorem ok_numB {n : Nat} (h : n < 2 ^ 64) (r : List UInt8) : okNum (numB n ++ r) = true ∧ numOf (numB n ++ r) = n ∧ numRest (numB n ++ r) = r := by
  have hw := wid_le n
  have hb : (byt (wid n)).toNat = wid n := by rw [byt_toNat]; omega
  have hl := digs_length (wid n) n
  have hlt := wid_lt h
  refine ⟨?_, ?_, ?_⟩
  · simp only [numB, List.cons_append, okNum, hb, Bool.and_eq_true, decide_eq_true_eq, Bool.or_eq_true, List.length_append, hl]
    refine ⟨⟨hw, by omega⟩, ?_⟩
    rcases Nat.eq_zero_or_pos (wid n) with h0 | h0
    · exact .inl h0
    · right
      obtain ⟨k, hk⟩ : ∃ k, wid n = k + 1 := ⟨wid n - 1, by omega⟩
      have h2 := wid_pos n
      rw [hk] at h2 hlt ⊢
      rw [digs_head]
      have h3 : 256 ^ k ≤ n := by simpa using h2
      have hp : 0 < 256 ^ k := Nat.pow_pos (by omega)
      have h4 : 0 < n / 256 ^ k := Nat.div_pos h3 hp
      have h5 : n / 256 ^ k < 256 := by rw [Nat.div_lt_iff_lt_mul hp, Nat.mul_comm, ← Nat.pow_succ]; exact hlt
      simp only [List.cons_append, List.getD_cons_zero, Bool.not_eq_true', decide_eq_false_iff_not]
      intro e
      have := congrArg UInt8.toNat e
      rw [byt_toNat] at this
      have e0 : (0 : UInt8).toNat = 0 := rfl
      omega
  · simp only [numOf, numB, List.cons_append, List.getD_cons_zero, hb, List.drop_succ_cons, List.drop_zero]
    rw [List.take_left' hl, val_digs, Nat.mod_eq_of_lt hlt]
  · simp only [numRest, numB, List.cons_append, List.getD_cons_zero, hb]
    rw [Nat.add_comm, List.drop_succ_cons, List.drop_left' hl]

theorem numOf_lt {l : List UInt8} (h : okNum l = true) : numOf l < 2 ^ 64 := by
  rcases l with _ | ⟨b, r⟩
  · simp [okNum] at h
  · simp only [okNum, Bool.and_eq_true, decide_eq_true_eq] at h
    have h1 := val_lt ((List.drop 1 (b :: r)).take b.toNat)
    simp only [List.drop_succ_cons, List.drop_zero, List.length_take] at h1
    have h2 : 256 ^ min b.toNat r.length ≤ 256 ^ 8 := Nat.pow_le_pow_right (by omega) (by omega)
    simp only [numOf, List.getD_cons_zero, List.drop_succ_cons, List.drop_zero]
    omega

/-- What is told, written again, is what stood there. -/
theorem numB_numOf {l : List UInt8} (h : okNum l = true) : numB (numOf l) ++ numRest l = l := by
  rcases l with _ | ⟨b, r⟩
  · simp [okNum] at h
  · simp only [okNum, Bool.and_eq_true, decide_eq_true_eq, Bool.or_eq_true, Bool.not_eq_true', decide_eq_false_iff_not] at h
    obtain ⟨⟨h8, hr⟩, h0⟩ := h
    have hlen : (r.take b.toNat).length = b.toNat := by rw [List.length_take]; omega
    have hn : numOf (b :: r) = val (r.take b.toNat) := by simp [numOf]
    have hre : numRest (b :: r) = r.drop b.toNat := by simp [numRest, Nat.add_comm 1]
    have hlt := val_lt (r.take b.toNat)
    rw [hlen] at hlt
    have hw : wid (val (r.take b.toNat)) = b.toNat := by
      refine wid_uniq h8 hlt ?_
      rcases Nat.eq_zero_or_pos b.toNat with e | e
      · exact .inl e
      · right
        have hb0 : r.getD 0 0 ≠ 0 := by
          rcases h0 with h0 | h0
          · omega
          · exact h0
        rcases r with _ | ⟨c, r'⟩
        · simp at hr; omega
        · obtain ⟨k, hk⟩ : ∃ k, b.toNat = k + 1 := ⟨b.toNat - 1, by omega⟩
          rw [hk, List.take_succ_cons, val_cons]
          have hk' : (r'.take k).length = k := by rw [List.length_take]; simp at hr; omega
          rw [hk']
          simp only [Nat.add_sub_cancel]
          have hc : 1 ≤ c.toNat := by
            have : c.toNat ≠ 0 := fun e => hb0 (by simpa using UInt8.toNat_inj.1 (by simpa using e))
            omega
          have : 256 ^ k ≤ c.toNat * 256 ^ k := Nat.le_mul_of_pos_left _ hc
          omega
    rw [hn, hre, numB, hw, digs_val _ _ hlen, byt_of, List.cons_append, List.take_append_drop]

theorem okNum_length {l : List UInt8} (h : okNum l = true) : 1 + (l.getD 0 0).toNat ≤ l.length := by
  rcases l with _ | ⟨b, r⟩
  · simp [okNum] at h
  · simp only [okNum, Bool.and_eq_true, decide_eq_true_eq] at h
    simp; omega

end Go.Proofs.YtomcpgogiglpkaaDoor
