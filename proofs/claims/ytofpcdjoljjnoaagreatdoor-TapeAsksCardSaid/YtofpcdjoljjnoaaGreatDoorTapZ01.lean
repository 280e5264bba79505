/-
  The texts NotchMath, Base, NatMath, NatRef, NatRow, NatNorm, one behind the other.
-/
import Derived.Lib.BitFns
import Derived.Test.YtofpcdjoljjnoaaGreatDoorRows
import Derived.WalkKit
import Derived.WalkSpells
import Derived.WalkLawsBesides
import Derived.Lib.UnsafeStr
import Derived.Lib.Hide
import Derived.Lib.BufferRead
import Derived.Laws.OwnMore
import Derived.Below
import Derived.Laws.AppendOwnNone

namespace Go.Proofs.YtofpcdjoljjnoaaGreatDoor
open Go

/-- The byte of a number below 256 (of any number: modulo 256). -/
def byt (n : Nat) : UInt8 := UInt8.ofNat n
theorem byt_toNat (n : Nat) : (byt n).toNat = n % 256 := by simp [byt]
theorem byt_of (b : UInt8) : byt b.toNat = b := by simp [byt]
theorem byt_inj {m n : Nat} (hm : m < 256) (hn : n < 256) (h : byt m = byt n) : m = n := by
  have := congrArg UInt8.toNat h
  rw [byt_toNat, byt_toNat] at this
  omega

/-- The k low bytes of n, the highest first. -/
def digs : Nat → Nat → List UInt8
  | 0, _ => []
  | k + 1, n => digs k (n / 256) ++ [byt (n % 256)]

theorem digs_length (k : Nat) : ∀ n, (digs k n).length = k := by
  induction k with
  | zero => intro n; rfl
  | succ k ih => intro n; simp [digs, ih]

theorem digs_head (k : Nat) : ∀ n, digs (k + 1) n = byt (n / 256 ^ k % 256) :: digs k n := by
  induction k with
  | zero => intro n; simp [digs]
  | succ k ih =>
    intro n
    rw [digs, ih (n / 256), digs]
    have e : n / 256 / 256 ^ k = n / 256 ^ (k + 1) := by rw [Nat.div_div_eq_div_mul, Nat.pow_succ, Nat.mul_comm]
    rw [e]; rfl

theorem snoc_of {l : List UInt8} {k : Nat} (h : l.length = k + 1) : ∃ r b, l = r ++ [b] := by
  have hne : l ≠ [] := by intro e; subst e; simp at h
  exact ⟨l.dropLast, l.getLast hne, (List.dropLast_concat_getLast hne).symm⟩

/-- The number that bytes tell, the highest first. -/
def val (l : List UInt8) : Nat := l.foldl (fun a b => 256 * a + b.toNat) 0
theorem val_snoc (l : List UInt8) (b : UInt8) : val (l ++ [b]) = 256 * val l + b.toNat := by simp [val]
theorem val_nil : val [] = 0 := rfl

theorem val_digs (k : Nat) : ∀ n, val (digs k n) = n % 256 ^ k := by
  induction k with
  | zero => intro n; simp [digs, val]; omega
  | succ k ih =>
    intro n
    rw [digs, val_snoc, ih, byt_toNat, Nat.pow_succ, Nat.mul_comm (256 ^ k) 256, Nat.mod_mul]
    omega

theorem val_lt : ∀ l : List UInt8, val l < 256 ^ l.length := by
  intro l
  induction h : l.length generalizing l with
  | zero =>
    have : l = [] := List.eq_nil_of_length_eq_zero h
    subst this; simp [val]
  | succ k ih =>
    obtain ⟨r, b, rfl⟩ : ∃ r b, l = r ++ [b] := snoc_of h
    have hk : r.length = k := by simpa using h
    have h1 := ih r hk
    rw [val_snoc, Nat.pow_succ]
    have := b.toNat_lt
    omega

theorem digs_val (k : Nat) : ∀ l : List UInt8, l.length = k → digs k (val l) = l := by
  induction k with
  | zero => intro l h; rw [List.eq_nil_of_length_eq_zero h]; rfl
  | succ k ih =>
    intro l h
    obtain ⟨r, b, rfl⟩ : ∃ r b, l = r ++ [b] := snoc_of h
    have hb := b.toNat_lt
    rw [val_snoc, digs]
    have e1 : (256 * val r + b.toNat) / 256 = val r := by omega
    have e2 : (256 * val r + b.toNat) % 256 = b.toNat := by omega
    rw [e1, e2, ih r (by simpa using h), byt_of]

theorem val_cons (b : UInt8) (l : List UInt8) : val (b :: l) = b.toNat * 256 ^ l.length + val l := by
  induction h : l.length generalizing l with
  | zero =>
    have : l = [] := List.eq_nil_of_length_eq_zero h
    subst this; simp [val]
  | succ k ih =>
    obtain ⟨r, c, rfl⟩ : ∃ r c, l = r ++ [c] := snoc_of h
    have hk : r.length = k := by simpa using h
    rw [← List.cons_append, val_snoc, val_snoc, ih r hk, Nat.pow_succ, Nat.mul_add]
    rw [Nat.mul_left_comm, Nat.mul_comm 256 (256 ^ k)]
    omega

/-- How many bytes a number has: none of them the highest and 0. -/
def widA : Nat → Nat → Nat
  | 0, _ => 0
  | f + 1, n => if n = 0 then 0 else 1 + widA f (n / 256)
def wid (n : Nat) : Nat := widA 8 n

theorem widA_le (f : Nat) : ∀ n, widA f n ≤ f := by
  induction f with
  | zero => intro n; simp [widA]
  | succ f ih => intro n; have := ih (n / 256); unfold widA; split <;> omega
theorem wid_le (n : Nat) : wid n ≤ 8 := widA_le 8 n

theorem widA_lt (f : Nat) : ∀ n, n < 256 ^ f → n < 256 ^ widA f n := by
  induction f with
  | zero => intro n h; simpa [widA] using h
  | succ f ih =>
    intro n h
    unfold widA
    split
    · omega
    · have h1 := ih (n / 256) (by rw [Nat.pow_succ] at h; omega)
      rw [Nat.add_comm, Nat.pow_succ]
      omega
theorem wid_lt {n : Nat} (h : n < 2 ^ 64) : n < 256 ^ wid n := widA_lt 8 n (by omega)

theorem widA_uniq (f : Nat) : ∀ n k, k ≤ f → n < 256 ^ k → (k = 0 ∨ 256 ^ (k - 1) ≤ n) → widA f n = k := by
  induction f with
  | zero => intro n k hk _ _; simp [widA]; omega
  | succ f ih =>
    intro n k hk hlt hle
    unfold widA
    rcases k with _ | k
    · have : n = 0 := by simpa using hlt
      simp [this]
    · have hle' : 256 ^ k ≤ n := by simpa using hle
      have hp : 0 < 256 ^ k := Nat.pow_pos (by omega)
      rw [if_neg (by omega)]
      rw [Nat.pow_succ] at hlt
      have := ih (n / 256) k (by omega) (by omega) (by
        rcases k with _ | k
        · exact .inl rfl
        · right
          rw [Nat.pow_succ] at hle'
          simp only [Nat.add_sub_cancel]
          omega)
      omega
theorem wid_uniq {n k : Nat} (hk : k ≤ 8) (h1 : n < 256 ^ k) (h2 : k = 0 ∨ 256 ^ (k - 1) ≤ n) : wid n = k := widA_uniq 8 n k hk h1 h2

theorem widA_pos (f : Nat) : ∀ n, widA f n = 0 ∨ 256 ^ (widA f n - 1) ≤ n := by
  induction f with
  | zero => intro n; left; rfl
  | succ f ih =>
    intro n
    unfold widA
    split
    · left; rfl
    · right
      rename_i hn
      rcases ih (n / 256) with h | h
      · rw [h]; simp; omega
      · by_cases h0 : widA f (n / 256) = 0
        · rw [h0]; simp; omega
        · have e : 1 + widA f (n / 256) - 1 = (widA f (n / 256) - 1) + 1 := by omega
          rw [e, Nat.pow_succ]
          omega
theorem wid_pos (n : Nat) : wid n = 0 ∨ 256 ^ (wid n - 1) ≤ n := widA_pos 8 n
theorem wid_zero {n : Nat} (h : n < 2 ^ 64) : wid n = 0 ↔ n = 0 := by
  constructor
  · intro e; have := wid_lt h; rw [e] at this; omega
  · intro e; subst e; rfl

theorem widA_mono (f : Nat) : ∀ m n, m ≤ n → widA f m ≤ widA f n := by
  induction f with
  | zero => intro m n _; simp [widA]
  | succ f ih =>
    intro m n h
    have := ih (m / 256) (n / 256) (Nat.div_le_div_right h)
    unfold widA
    split <;> split <;> omega
theorem wid_mono {m n : Nat} (h : m ≤ n) : wid m ≤ wid n := widA_mono 8 m n h

/-- What the program computes: the bits' number, rounded up to bytes. -/
theorem widA_bits (f : Nat) : ∀ n, f ≤ 8 → n < 256 ^ f → widA f n = (Lib.bitLen n + 7) / 8 := by
  induction f with
  | zero => intro n _ h; have : n = 0 := by simpa using h
            subst this; rfl
  | succ f ih =>
    intro n hf h
    unfold widA
    split
    · rename_i e; subst e; rfl
    · have h64 : n < 2 ^ 64 := Nat.lt_of_lt_of_le h (by
        have : 256 ^ (f + 1) ≤ 256 ^ 8 := Nat.pow_le_pow_right (by omega) hf
        omega)
      rw [Nat.pow_succ] at h
      rw [ih (n / 256) (by omega) (by omega)]
      by_cases hb : 256 ≤ n
      · rw [Lib.bitLen_shift8 n hb (by omega)]; omega
      · have e : n / 256 = 0 := by omega
        rw [e]
        have h1 : Lib.bitLen n ≤ 8 := Lib.bitLen_le n 8 (by omega) (by omega)
        have h2 : 1 ≤ Lib.bitLen n := by
          rw [Lib.bitLen_half n (by assumption) h64]; omega
        have h3 : Lib.bitLen 0 = 0 := rfl
        rw [h3]; omega
theorem wid_bits {n : Nat} (h : n < 2 ^ 64) : wid n = (Lib.bitLen n + 7) / 8 := widA_bits 8 n (by omega) (by omega)

/-- A number's bytes. -/
def numB (n : Nat) : List UInt8 := byt (wid n) :: digs (wid n) n
theorem numB_length (n : Nat) : (numB n).length = 1 + wid n := by simp [numB, digs_length]; omega
def numsB (l : List Nat) : List UInt8 := (l.map numB).flatten
theorem numsB_snoc (l : List Nat) (n : Nat) : numsB (l ++ [n]) = numsB l ++ numB n := by simp [numsB]
theorem numsB_nil : numsB [] = [] := rfl
theorem numsB_length_le (l : List Nat) : (numsB l).length ≤ 9 * l.length := by
  induction l with
  | nil => simp [numsB]
  | cons a l ih =>
    have e : numsB (a :: l) = numB a ++ numsB l := rfl
    have := wid_le a
    rw [e, List.length_append, numB_length, List.length_cons]
    omega
def textB (s : List UInt8) : List UInt8 := numB s.length ++ s

/-- Is there a number at the beginning? -/
def okNum : List UInt8 → Bool
  | [] => false
  | b :: r => decide (b.toNat ≤ 8) && decide (b.toNat ≤ r.length) && (decide (b.toNat = 0) || !decide (r.getD 0 0 = 0))
def numOf (l : List UInt8) : Nat := val ((l.drop 1).take (l.getD 0 0).toNat)
def numRest (l : List UInt8) : List UInt8 := l.drop (1 + (l.getD 0 0).toNat)

/-- What is written is told. -/
theorem ok_numB {n : Nat} (h : n < 2 ^ 64) (r : List UInt8) : okNum (numB n ++ r) = true ∧ numOf (numB n ++ r) = n ∧ numRest (numB n ++ r) = r := by
  have hw := wid_le n
  have hb : (byt (wid n)).toNat = wid n := by rw [byt_toNat]; omega
  have hl := digs_length (wid n) n
  have hlt := wid_lt h
  refine ⟨?_, ?_, ?_⟩
  · simp only [numB, List.cons_append, okNum, hb, Bool.and_eq_true, decide_eq_true_eq, Bool.or_eq_true, List.length_append, hl]
    refine ⟨⟨hw, by omega⟩, ?_⟩
    rcases Nat.eq_zero_or_pos (wid n) with h0 | h0
    · exact .inl h0
    · right
      obtain ⟨k, hk⟩ : ∃ k, wid n = k + 1 := ⟨wid n - 1, by omega⟩
      have h2 := wid_pos n
      rw [hk] at h2 hlt ⊢
      rw [digs_head]
      have h3 : 256 ^ k ≤ n := by simpa using h2
      have hp : 0 < 256 ^ k := Nat.pow_pos (by omega)
      have h4 : 0 < n / 256 ^ k := Nat.div_pos h3 hp
      have h5 : n / 256 ^ k < 256 := by rw [Nat.div_lt_iff_lt_mul hp, Nat.mul_comm, ← Nat.pow_succ]; exact hlt
      simp only [List.cons_append, List.getD_cons_zero, Bool.not_eq_true', decide_eq_false_iff_not]
      intro e
      have := congrArg UInt8.toNat e
      rw [byt_toNat] at this
      have e0 : (0 : UInt8).toNat = 0 := rfl
      omega
  · simp only [numOf, numB, List.cons_append, List.getD_cons_zero, hb, List.drop_succ_cons, List.drop_zero]
    rw [List.take_left' hl, val_digs, Nat.mod_eq_of_lt hlt]
  · simp only [numRest, numB, List.cons_append, List.getD_cons_zero, hb]
    rw [Nat.add_comm, List.drop_succ_cons, List.drop_left' hl]

theorem numOf_lt {l : List UInt8} (h : okNum l = true) : numOf l < 2 ^ 64 := by
  rcases l with _ | ⟨b, r⟩
  · simp [okNum] at h
  · simp only [okNum, Bool.and_eq_true, decide_eq_true_eq] at h
    have h1 := val_lt ((List.drop 1 (b :: r)).take b.toNat)
    simp only [List.drop_succ_cons, List.drop_zero, List.length_take] at h1
    have h2 : 256 ^ min b.toNat r.length ≤ 256 ^ 8 := Nat.pow_le_pow_right (by omega) (by omega)
    simp only [numOf, List.getD_cons_zero, List.drop_succ_cons, List.drop_zero]
    omega

/-- What is told, written again, is what stood there. -/
theorem numB_numOf {l : List UInt8} (h : okNum l = true) : numB (numOf l) ++ numRest l = l := by
  rcases l with _ | ⟨b, r⟩
  · simp [okNum] at h
  · simp only [okNum, Bool.and_eq_true, decide_eq_true_eq, Bool.or_eq_true, Bool.not_eq_true', decide_eq_false_iff_not] at h
    obtain ⟨⟨h8, hr⟩, h0⟩ := h
    have hlen : (r.take b.toNat).length = b.toNat := by rw [List.length_take]; omega
    have hn : numOf (b :: r) = val (r.take b.toNat) := by simp [numOf]
    have hre : numRest (b :: r) = r.drop b.toNat := by simp [numRest, Nat.add_comm 1]
    have hlt := val_lt (r.take b.toNat)
    rw [hlen] at hlt
    have hw : wid (val (r.take b.toNat)) = b.toNat := by
      refine wid_uniq h8 hlt ?_
      rcases Nat.eq_zero_or_pos b.toNat with e | e
      · exact .inl e
      · right
        have hb0 : r.getD 0 0 ≠ 0 := by
          rcases h0 with h0 | h0
          · omega
          · exact h0
        rcases r with _ | ⟨c, r'⟩
        · simp at hr; omega
        · obtain ⟨k, hk⟩ : ∃ k, b.toNat = k + 1 := ⟨b.toNat - 1, by omega⟩
          rw [hk, List.take_succ_cons, val_cons]
          have hk' : (r'.take k).length = k := by rw [List.length_take]; simp at hr; omega
          rw [hk']
          simp only [Nat.add_sub_cancel]
          have hc : 1 ≤ c.toNat := by
            have : c.toNat ≠ 0 := fun e => hb0 (by simpa using UInt8.toNat_inj.1 (by simpa using e))
            omega
          have : 256 ^ k ≤ c.toNat * 256 ^ k := Nat.le_mul_of_pos_left _ hc
          omega
    rw [hn, hre, numB, hw, digs_val _ _ hlen, byt_of, List.cons_append, List.take_append_drop]

theorem okNum_length {l : List UInt8} (h : okNum l = true) : 1 + (l.getD 0 0).toNat ≤ l.length := by
  rcases l with _ | ⟨b, r⟩
  · simp [okNum] at h
  · simp only [okNum, Bool.and_eq_true, decide_eq_true_eq] at h
    simp; omega

end Go.Proofs.YtofpcdjoljjnoaaGreatDoor

namespace Go.Proofs.YtofpcdjoljjnoaaGreatDoor
open Go.RowKit

/-- A string of bytes. -/
def mk (l : List UInt8) : ByteArray := ⟨l.toArray⟩
theorem mk_toList (l : List UInt8) : (mk l).data.toList = l := by simp [mk]
theorem mk_toL (l : List UInt8) : (mk l).toList = l := ByteArray.toList_mk l
theorem mk_of (s : ByteArray) : mk s.data.toList = s := by simp [mk]
theorem mk_size (l : List UInt8) : (mk l).size = l.length := by simp [mk, ByteArray.size]
theorem mk_append (a b : List UInt8) : mk a ++ mk b = mk (a ++ b) := by
  apply ByteArray.ext
  simp [mk]
theorem mk_extract (l : List UInt8) (a b : Nat) : (mk l).extract a b = mk ((l.take b).drop a) := by
  apply ByteArray.ext
  simp [mk, ByteArray.data_extract, List.drop_take]
theorem mk_eq (a b : List UInt8) : ((mk a).toList == (mk b).toList) = (a == b) := by rw [mk_toL, mk_toL]

/-- A row of one byte, made a text. -/
theorem conv_one (w : World) (g : Nat) (hg : w.heap.size = g) (n : Nat) (hn : n < 256) :
    (convert 128 9 (.slice (some ⟨g, 0, none⟩) 1 1)).run Tryz.prog (w.alloc (.cells #[.int .u8 (n : Int)] 5)) = .ok (.string (mk [byt n])) (w.alloc (.cells #[.int .u8 (n : Int)] 5)) := by
  subst hg
  refine run_convert_bytes_back _ 128 9 5 ⟨w.heap.size, 0, none⟩ 1 [byt n] Tryz.underlying128 Tryz.underlying5 Tryz.underlying9 ?_
  intro j hj
  have hj0 : j = 0 := by simpa using hj
  subst hj0
  rw [show (⟨w.heap.size, 0, none⟩ : Addr).add 0 = ⟨w.heap.size, 0, none⟩ from rfl, World.cell?_alloc_at _ _ _ _ rfl]
  simp [byt_toNat, Nat.mod_eq_of_lt hn]

theorem info_u8 : (Tryz.prog.info? 5).map (fun i => (i.zero, i.size, i.bytes)) = some (some (.int .u8 0), 1, 1) := by kernel_rfl

/-- A row of bytes of the call's own, from block B on. -/
def ByteRow (B : Nat) (w : World) (v : Value) (l : List UInt8) : Prop := w.ownsRow B 5 1 v l.length (Lib.byteCells l)

theorem conv_row {B : Nat} {w : World} {v : Value} {l : List UInt8} (h : ByteRow B w v l) :
    (convert 128 9 v).run Tryz.prog w = .ok (.string (mk l)) w := by
  rcases h.2 with ⟨rfl, hl⟩ | ⟨g, cap, cur, rfl, _, hg, _, _, _, htk⟩
  · have : l = [] := List.eq_nil_of_length_eq_zero hl
    subst this
    exact Lib.run_convert_nil_bytes w 128 9 5 0 Tryz.underlying128 Tryz.underlying5 Tryz.underlying9
  · refine run_convert_bytes_back w 128 9 5 ⟨g, 0, none⟩ cap l Tryz.underlying128 Tryz.underlying5 Tryz.underlying9 ?_
    intro j hj
    have hc := cell_of_row w g j cur 5 (0, 0) hg
    have e : (⟨g, 0, none⟩ : Addr).add j = ⟨g, j, none⟩ := by unfold Addr.add; split <;> simp_all
    rw [e, hc]
    have h1 : (cur.toList.take (l.length * 1))[j]? = some (.int .u8 (l[j].toNat : Int)) := by
      rw [htk]; simp [Lib.byteCells, hj]
    rw [List.getElem?_take] at h1
    split at h1
    · simpa using h1
    · cases h1

/-- What 'make([]byte, n)' lays. -/
theorem made_row {w : World} {B n : Nat} {v : Value} (h : w.ownsRow B 5 1 v n (madeCells (Value.int .u8 0).cells (n * 1)).toList) : ByteRow B w v (List.replicate n 0) := by
  have e : (madeCells (Value.int .u8 0).cells (n * 1)).toList = Lib.byteCells (List.replicate n 0) := by
    rw [show (Value.int .u8 0).cells = #[.int .u8 0] from rfl]
    apply List.ext_getElem
    · simp [madeCells, Lib.byteCells]
    · intro i h1 h2
      simp [madeCells, Lib.byteCells, Nat.mod_one]
  unfold ByteRow
  rw [List.length_replicate, ← e]; exact h
end Go.Proofs.YtofpcdjoljjnoaaGreatDoor

namespace Go.Proofs.YtofpcdjoljjnoaaGreatDoor
set_option maxRecDepth 100000
open Go

/-- What a row of limbs tells. -/
def lv : List Nat → Nat
  | [] => 0
  | a :: l => a + 2 ^ 64 * lv l
/-- Each limb fits. -/
def Fits (l : List Nat) : Prop := ∀ a ∈ l, a < 2 ^ 64
theorem Fits.tail {a : Nat} {l : List Nat} (h : Fits (a :: l)) : Fits l := fun x hx => h x (List.mem_cons_of_mem _ hx)
theorem Fits.head {a : Nat} {l : List Nat} (h : Fits (a :: l)) : a < 2 ^ 64 := h a (List.mem_cons_self ..)
theorem lv_append (a b : List Nat) : lv (a ++ b) = lv a + 2 ^ (64 * a.length) * lv b := by
  induction a with
  | nil => simp [lv]
  | cons x a ih =>
    simp only [List.cons_append, lv, ih, List.length_cons]
    rw [Nat.mul_add, ← Nat.mul_assoc, ← Nat.pow_add, Nat.mul_add 64, Nat.mul_one, Nat.add_comm 64]
    omega
theorem lv_lt {l : List Nat} (h : Fits l) : lv l < 2 ^ (64 * l.length) := by
  induction l with
  | nil => simp [lv]
  | cons a l ih =>
    have h1 := ih h.tail
    have h2 := h.head
    simp only [lv, List.length_cons]
    rw [Nat.mul_add, Nat.mul_one, Nat.pow_add, Nat.mul_comm (2 ^ (64 * l.length))]
    have : 2 ^ 64 * (lv l + 1) ≤ 2 ^ 64 * 2 ^ (64 * l.length) := Nat.mul_le_mul_left _ h1
    omega

/-- The limb at a place; 0 behind the last. -/
theorem lv_limb {l : List Nat} (h : Fits l) (i : Nat) : lv l / 2 ^ (64 * i) % 2 ^ 64 = l.getD i 0 := by
  induction l generalizing i with
  | nil => simp [lv]
  | cons a l ih =>
    have h1 := h.head
    rcases i with _ | i
    · simp only [lv, Nat.mul_zero, Nat.pow_zero, Nat.div_one, List.getD_cons_zero]
      omega
    · have e : lv (a :: l) / 2 ^ (64 * (i + 1)) = lv l / 2 ^ (64 * i) := by
        rw [Nat.mul_add, Nat.mul_one, Nat.add_comm, Nat.pow_add, ← Nat.div_div_eq_div_mul]
        congr 1
        simp only [lv]
        omega
      rw [e, ih h.tail, List.getD_cons_succ]

/-- Normal: the last limb is not 0. -/
def Normal (l : List Nat) : Prop := l = [] ∨ l.getLastD 0 ≠ 0

/-- The row without its highest zeros. -/
def norm : List Nat → List Nat
  | [] => []
  | a :: l => if norm l = [] ∧ a = 0 then [] else a :: norm l
theorem lv_norm (l : List Nat) : lv (norm l) = lv l := by
  induction l with
  | nil => rfl
  | cons a l ih =>
    unfold norm
    split
    · rename_i h
      have h0 : lv l = 0 := by rw [← ih, h.1]; rfl
      simp [lv, h.2, h0]
    · simp [lv, ih]
theorem norm_fits {l : List Nat} (h : Fits l) : Fits (norm l) := by
  induction l with
  | nil => exact h
  | cons a l ih =>
    unfold norm
    split
    · intro x hx; cases hx
    · intro x hx
      rcases List.mem_cons.1 hx with rfl | hx
      · exact h.head
      · exact ih h.tail x hx
theorem norm_nil_iff {l : List Nat} : norm l = [] ↔ lv l = 0 := by
  constructor
  · intro h; rw [← lv_norm, h]; rfl
  · intro h
    induction l with
    | nil => rfl
    | cons a l ih =>
      simp only [lv] at h
      have ha : a = 0 := by omega
      have hl : lv l = 0 := by omega
      unfold norm
      rw [if_pos ⟨ih hl, ha⟩]
theorem norm_norm (l : List Nat) : norm (norm l) = norm l := by
  induction l with
  | nil => rfl
  | cons a l ih =>
    have e : ∀ m, norm (a :: m) = if norm m = [] ∧ a = 0 then [] else a :: norm m := fun _ => rfl
    by_cases h : norm l = [] ∧ a = 0
    · rw [e, if_pos h]; rfl
    · rw [e, if_neg h, e, ih, if_neg h]

/-- Of one number there is one normal row. -/
theorem norm_uniq {a b : List Nat} (ha : Fits a) (hb : Fits b) (h : lv a = lv b) : norm a = norm b := by
  induction a generalizing b with
  | nil =>
    have : lv b = 0 := by rw [← h]; rfl
    rw [norm_nil_iff.2 this]; rfl
  | cons x a ih =>
    rcases b with _ | ⟨y, b⟩
    · rw [norm_nil_iff.2 (show lv (x :: a) = 0 from h)]; rfl
    · have hx := ha.head
      have hy := hb.head
      simp only [lv] at h
      have e1 : x = y := by omega
      have e2 : lv a = lv b := by omega
      rw [norm, norm, ih ha.tail hb.tail e2, e1]

/-- The k low limbs of a number; its normal row. -/
def limbs : Nat → Nat → List Nat
  | 0, _ => []
  | k + 1, n => n % 2 ^ 64 :: limbs k (n / 2 ^ 64)
theorem limbs_fits (k : Nat) : ∀ n, Fits (limbs k n) := by
  induction k with
  | zero => intro n x hx; cases hx
  | succ k ih =>
    intro n x hx
    rcases List.mem_cons.1 hx with rfl | hx
    · exact Nat.mod_lt _ (by omega)
    · exact ih _ x hx
theorem limbs_length (k : Nat) : ∀ n, (limbs k n).length = k := by
  induction k with
  | zero => intro n; rfl
  | succ k ih => intro n; simp [limbs, ih]
theorem lv_limbs (k : Nat) : ∀ n, lv (limbs k n) = n % 2 ^ (64 * k) := by
  induction k with
  | zero => intro n; simp [limbs, lv, Nat.mod_one]
  | succ k ih =>
    intro n
    simp only [limbs, lv, ih]
    rw [Nat.mul_add, Nat.mul_one, Nat.add_comm, Nat.pow_add (m := 64 * k), Nat.mul_comm (2 ^ (64 * k)), Nat.mod_mul]
    omega

/-- A digit of 32 bits. -/
theorem lv_digit {l : List Nat} (h : Fits l) (i : Nat) : lv l / 2 ^ (32 * i) % 2 ^ 32 = if i % 2 = 0 then l.getD (i / 2) 0 % 2 ^ 32 else l.getD (i / 2) 0 / 2 ^ 32 := by
  have h1 := lv_limb h (i / 2)
  split
  · rename_i he
    rw [← h1, show 64 * (i / 2) = 32 * i by omega, Nat.mod_mod_of_dvd _ (by decide)]
  · rename_i he
    have e : 32 * i = 64 * (i / 2) + 32 := by omega
    rw [← h1, e, Nat.pow_add, ← Nat.div_div_eq_div_mul]
    omega

/-! ### Digits of 32 bits: what the document's answer counts with -/
def dv : List Nat → Nat
  | [] => 0
  | a :: l => a + 2 ^ 32 * dv l
def Small (l : List Nat) : Prop := ∀ a ∈ l, a < 2 ^ 32
theorem dv_snoc (l : List Nat) (a : Nat) : dv (l ++ [a]) = dv l + 2 ^ (32 * l.length) * a := by
  induction l with
  | nil => simp [dv]
  | cons x l ih =>
    simp only [List.cons_append, dv, ih, List.length_cons]
    rw [Nat.mul_add, ← Nat.mul_assoc, ← Nat.pow_add, Nat.mul_add 32, Nat.mul_one, Nat.add_comm 32]
    omega
theorem dv_lt {l : List Nat} (h : Small l) : dv l < 2 ^ (32 * l.length) := by
  induction l with
  | nil => simp [dv]
  | cons a l ih =>
    have h1 := ih (fun x hx => h x (List.mem_cons_of_mem _ hx))
    have h2 := h a (List.mem_cons_self ..)
    simp only [dv, List.length_cons]
    rw [Nat.mul_add, Nat.mul_one, Nat.pow_add, Nat.mul_comm (2 ^ (32 * l.length))]
    have : 2 ^ 32 * (dv l + 1) ≤ 2 ^ 32 * 2 ^ (32 * l.length) := Nat.mul_le_mul_left _ h1
    omega

/-- The digits of a sum, with what is carried: one step. -/
theorem add_step {a b c i o : Nat} (h : o + 2 ^ (32 * i) * c = a % 2 ^ (32 * i) + b % 2 ^ (32 * i)) :
    (o + 2 ^ (32 * i) * ((a / 2 ^ (32 * i) % 2 ^ 32 + b / 2 ^ (32 * i) % 2 ^ 32 + c) % 2 ^ 32)) + 2 ^ (32 * (i + 1)) * ((a / 2 ^ (32 * i) % 2 ^ 32 + b / 2 ^ (32 * i) % 2 ^ 32 + c) / 2 ^ 32) = a % 2 ^ (32 * (i + 1)) + b % 2 ^ (32 * (i + 1)) := by
  have ea : a % 2 ^ (32 * (i + 1)) = a % 2 ^ (32 * i) + 2 ^ (32 * i) * (a / 2 ^ (32 * i) % 2 ^ 32) := by
    rw [Nat.mul_add, Nat.mul_one, Nat.pow_add, Nat.mod_mul]
  have eb : b % 2 ^ (32 * (i + 1)) = b % 2 ^ (32 * i) + 2 ^ (32 * i) * (b / 2 ^ (32 * i) % 2 ^ 32) := by
    rw [Nat.mul_add, Nat.mul_one, Nat.pow_add, Nat.mod_mul]
  have ep : 2 ^ (32 * (i + 1)) = 2 ^ (32 * i) * 2 ^ 32 := by rw [Nat.mul_add, Nat.mul_one, Nat.pow_add]
  generalize a / 2 ^ (32 * i) % 2 ^ 32 = x at *
  generalize b / 2 ^ (32 * i) % 2 ^ 32 = y at *
  rw [ea, eb, ep]
  have hs := Nat.mod_add_div (x + y + c) (2 ^ 32)
  generalize (x + y + c) % 2 ^ 32 = r at *
  generalize (x + y + c) / 2 ^ 32 = q at *
  have e1 : 2 ^ (32 * i) * (x + y + c) = 2 ^ (32 * i) * r + 2 ^ (32 * i) * (2 ^ 32 * q) := by rw [← hs, Nat.mul_add]
  rw [Nat.mul_assoc (2 ^ (32 * i)) (2 ^ 32) q]
  rw [Nat.mul_add, Nat.mul_add] at e1
  omega

/-- The digits of a difference, with what is borrowed: one step. -/
theorem sub_step {a b c i o : Nat} (hc : c ≤ 1) (h : o + b % 2 ^ (32 * i) = a % 2 ^ (32 * i) + 2 ^ (32 * i) * c) :
    (o + 2 ^ (32 * i) * ((2 ^ 32 + a / 2 ^ (32 * i) % 2 ^ 32 - b / 2 ^ (32 * i) % 2 ^ 32 - c) % 2 ^ 32)) + b % 2 ^ (32 * (i + 1)) = a % 2 ^ (32 * (i + 1)) + 2 ^ (32 * (i + 1)) * (1 - (2 ^ 32 + a / 2 ^ (32 * i) % 2 ^ 32 - b / 2 ^ (32 * i) % 2 ^ 32 - c) / 2 ^ 32) := by
  have ea : a % 2 ^ (32 * (i + 1)) = a % 2 ^ (32 * i) + 2 ^ (32 * i) * (a / 2 ^ (32 * i) % 2 ^ 32) := by
    rw [Nat.mul_add, Nat.mul_one, Nat.pow_add, Nat.mod_mul]
  have eb : b % 2 ^ (32 * (i + 1)) = b % 2 ^ (32 * i) + 2 ^ (32 * i) * (b / 2 ^ (32 * i) % 2 ^ 32) := by
    rw [Nat.mul_add, Nat.mul_one, Nat.pow_add, Nat.mod_mul]
  have ep : 2 ^ (32 * (i + 1)) = 2 ^ (32 * i) * 2 ^ 32 := by rw [Nat.mul_add, Nat.mul_one, Nat.pow_add]
  have hx : a / 2 ^ (32 * i) % 2 ^ 32 < 2 ^ 32 := Nat.mod_lt _ (by omega)
  have hy : b / 2 ^ (32 * i) % 2 ^ 32 < 2 ^ 32 := Nat.mod_lt _ (by omega)
  generalize a / 2 ^ (32 * i) % 2 ^ 32 = x at *
  generalize b / 2 ^ (32 * i) % 2 ^ 32 = y at *
  rw [ea, eb, ep]
  have hs := Nat.mod_add_div (2 ^ 32 + x - y - c) (2 ^ 32)
  have hq : (2 ^ 32 + x - y - c) / 2 ^ 32 ≤ 1 := by omega
  generalize hr : (2 ^ 32 + x - y - c) % 2 ^ 32 = r at *
  generalize hqq : (2 ^ 32 + x - y - c) / 2 ^ 32 = q at *
  have e0 : r + y + c = x + 2 ^ 32 * (1 - q) := by omega
  have e1 : 2 ^ (32 * i) * (r + y + c) = 2 ^ (32 * i) * (x + 2 ^ 32 * (1 - q)) := by rw [e0]
  rw [Nat.mul_assoc (2 ^ (32 * i)) (2 ^ 32) (1 - q)]
  rw [Nat.mul_add, Nat.mul_add, Nat.mul_add] at e1
  omega

/-- A digit of a quotient is at most the quotient of the first digits. -/
theorem div_guess {r y K : Nat} (hk : 0 < y / K) : r / y ≤ r / K / (y / K) := by
  have hK : 0 < K := by
    rcases Nat.eq_zero_or_pos K with h | h
    · subst h; simp at hk
    · exact h
  rw [Nat.div_div_eq_div_mul]
  refine Nat.div_le_div_left ?_ (Nat.mul_pos hK hk)
  rw [Nat.mul_comm]; exact Nat.div_mul_le_self y K

/-- One bit more of a root. -/
theorem root_step {a o h : Nat} (h1 : o * o ≤ a) (h2 : a < (o + 2 * h) * (o + 2 * h)) :
    (if (o + h) * (o + h) ≤ a then (o + h) else o) * (if (o + h) * (o + h) ≤ a then (o + h) else o) ≤ a ∧ a < ((if (o + h) * (o + h) ≤ a then (o + h) else o) + h) * ((if (o + h) * (o + h) ≤ a then (o + h) else o) + h) := by
  split
  · rename_i h3
    refine ⟨h3, ?_⟩
    rw [show o + h + h = o + 2 * h by omega]; exact h2
  · exact ⟨h1, by omega⟩

theorem dv_set {l : List Nat} {j : Nat} (h : j < l.length) (v : Nat) : dv (l.set j v) + 2 ^ (32 * j) * l.getD j 0 = dv l + 2 ^ (32 * j) * v := by
  induction l generalizing j with
  | nil => simp at h
  | cons a l ih =>
    rcases j with _ | j
    · simp [dv]; omega
    · have h1 := ih (j := j) (by simpa using h)
      simp only [List.set_cons_succ, dv, List.getD_cons_succ]
      rw [Nat.mul_add 32, Nat.mul_one, Nat.add_comm (32 * j), Nat.pow_add, Nat.mul_assoc, Nat.mul_assoc]
      generalize dv (l.set j v) = p at *
      generalize 2 ^ (32 * j) * l.getD j 0 = q at *
      generalize 2 ^ (32 * j) * v = s at *
      omega
end Go.Proofs.YtofpcdjoljjnoaaGreatDoor

namespace Go.Proofs.YtofpcdjoljjnoaaGreatDoor
set_option maxRecDepth 100000
open Go.RowKit

/-- What is told of a number's limbs in memory, nil let in. -/
def NatAt (w : World) (A : Option Addr) (L : List Nat) : Prop := ∀ i, i < L.length → ∃ b off, A = some ⟨b, off, none⟩ ∧ w.cell? ⟨b, off + i, none⟩ = some (.int .u64 ((L.getD i 0 : Nat) : Int))

def dg (L : List Nat) (i : Nat) : Nat := if i % 2 = 0 then L.getD (i / 2) 0 % 4294967296 else L.getD (i / 2) 0 / 4294967296

theorem dg_eq {L : List Nat} (h : Fits L) (i : Nat) : dg L i = lv L / 2 ^ (32 * i) % 2 ^ 32 := by
  rw [lv_digit h]; rfl

def DigPost (w : World) (n : Nat) (e : Ending) (w' : World) : Prop := ∃ y : Int, y = (n : Int) ∧ e = .returned (.int .u64 y) ∧ w = w'

set_option maxHeartbeats 1000000 in
theorem ndigit_any (A : Option Addr) (cap : Nat) (L : List Nat) (j : Int) (i : Nat) (w : World) (hj : j = (i : Int)) (hi : i ≤ 2199023255552) (hf : Fits L) (hc : NatAt w A L) :
    Calls Tryz.prog 105 #[.slice A L.length cap, .int .i64 j] w (DigPost w (dg L i)) := by
  have hj0 : 0 ≤ j := by omega
  have hjm : j ≤ 2199023255552 := by omega
  by_cases hlt : i / 2 < L.length
  · obtain ⟨b, off, rfl, hcell⟩ := hc (i / 2) hlt
    obtain ⟨q, hq⟩ : ∃ q : Nat, q = i / 2 := ⟨_, rfl⟩
    have HQ : Hid (j / 2 = (q : Int)) := Lib.hid (by omega)
    have hqI : j / 2 < (L.length : Int) := by omega
    have hq0 : 0 ≤ j / 2 := by omega
    have hcell' : w.cell? ⟨b, off + (j / 2).toNat, none⟩ = some (.int .u64 ((L.getD (i / 2) 0 : Nat) : Int)) := by rw [HQ.out, Int.toNat_natCast, hq]; exact hcell
    obtain ⟨x, hx⟩ : ∃ x : Int, x = ((L.getD (i / 2) 0 : Nat) : Int) := ⟨_, rfl⟩
    rw [← hx] at hcell'
    have hx0 : 0 ≤ x := by omega
    have HX := Lib.hid hx
    have hxl : x < 18446744073709551616 := by
      have h0 := hf (L.getD (i / 2) 0) (by rw [List.getD_eq_getElem?_getD, List.getElem?_eq_getElem hlt]; exact List.getElem_mem hlt)
      omega
    by_cases hev : i % 2 = 0
    · have hevB : (j % 2 == 0) = true := beq_iff_eq.2 (by omega)
      have HD : Hid (dg L i = L.getD (i / 2) 0 % 4294967296) := Lib.hid (by unfold dg; rw [if_pos hev])
      clear hcell hc hj hi hq hlt hx hev
      go_enter Tryz.func105, Tryz.ntmps105
      go_wp2
      go_ret
      exact ⟨_, by rw [HD.out, HX.out]; omega, rfl, rfl⟩
    · have hevB : (j % 2 == 0) = false := beq_eq_false_iff_ne.2 (by omega)
      have HD : Hid (dg L i = L.getD (i / 2) 0 / 4294967296) := Lib.hid (by unfold dg; rw [if_neg hev])
      clear hcell hc hj hi hq hlt hx hev
      go_enter Tryz.func105, Tryz.ntmps105
      go_wp2
      go_ret
      exact ⟨_, by rw [HD.out, HX.out]; omega, rfl, rfl⟩
  · have hge : (L.length : Int) ≤ j / 2 := by omega
    have HD : Hid (dg L i = 0) := Lib.hid (by
      unfold dg
      have : L.getD (i / 2) 0 = 0 := by rw [List.getD_eq_getElem?_getD, List.getElem?_eq_none (by omega)]; rfl
      rw [this]; split <;> rfl)
    clear hc hj hi hlt
    go_enter Tryz.func105, Tryz.ntmps105
    go_wp2
    go_ret
    exact ⟨_, by rw [HD.out]; rfl, rfl, rfl⟩
end Go.Proofs.YtofpcdjoljjnoaaGreatDoor

namespace Go.Proofs.YtofpcdjoljjnoaaGreatDoor
set_option maxRecDepth 100000
open Go.RowKit

theorem lt_two_pow64 (v : Nat) : v < 2 ^ (64 * v) ∨ v = 0 := by
  rcases Nat.eq_zero_or_pos v with h | h
  · exact .inr h
  · exact .inl (Nat.lt_of_lt_of_le Nat.lt_two_pow_self (Nat.pow_le_pow_right (by omega) (by omega)))
/-- The normal row of a number. -/
def nrow (v : Nat) : List Nat := norm (limbs v v)
theorem lv_nrow (v : Nat) : lv (nrow v) = v := by
  unfold nrow
  rw [lv_norm, lv_limbs]
  rcases lt_two_pow64 v with h | h
  · exact Nat.mod_eq_of_lt h
  · subst h; rfl
theorem nrow_fits (v : Nat) : Fits (nrow v) := norm_fits (limbs_fits v v)
theorem norm_eq {L : List Nat} (h : Fits L) : norm L = nrow (lv L) := by
  have e : nrow (lv L) = norm (nrow (lv L)) := by unfold nrow; rw [norm_norm]
  rw [e]
  exact norm_uniq h (nrow_fits _) (lv_nrow _).symm
theorem norm_snoc (L : List Nat) {a : Nat} (h : a ≠ 0) : norm (L ++ [a]) = L ++ [a] := by
  induction L with
  | nil => show norm [a] = [a]; unfold norm; rw [if_neg (fun h' => h h'.2)]; rfl
  | cons b L ih =>
    show norm (b :: (L ++ [a])) = _
    unfold norm
    rw [ih, if_neg (fun h' => by simp at h')]; rfl
/-- A row that is normal is the one of its number. -/
theorem nrow_of {L : List Nat} (h : Fits L) (hn : L = [] ∨ L.getD (L.length - 1) 0 ≠ 0) : L = nrow (lv L) := by
  rw [← norm_eq h]
  rcases hn with rfl | hn
  · rfl
  · rcases List.eq_nil_or_concat L with rfl | ⟨M, a, rfl⟩
    · rfl
    · rw [List.concat_eq_append] at *
      rw [norm_snoc]
      simpa using hn
theorem nrow_last (v : Nat) : nrow v = [] ∨ (nrow v).getD ((nrow v).length - 1) 0 ≠ 0 := by
  unfold nrow
  generalize limbs v v = L
  induction L with
  | nil => exact .inl rfl
  | cons a L ih =>
    unfold norm
    split
    · exact .inl rfl
    · rename_i h
      right
      rcases ih with ih | ih
      · rw [ih]
        have ha : a ≠ 0 := fun e => h ⟨ih, e⟩
        simpa using ha
      · rcases hL : norm L with _ | ⟨b, M⟩
        · rw [hL] at ih; simp at ih
        · rw [hL] at ih
          simpa using ih
theorem nrow_zero : nrow 0 = [] := rfl
theorem nrow_nil {v : Nat} : nrow v = [] ↔ v = 0 := by
  constructor
  · intro h; rw [← lv_nrow v, h]; rfl
  · rintro rfl; rfl
theorem nrow_inj {a b : Nat} (h : nrow a = nrow b) : a = b := by rw [← lv_nrow a, ← lv_nrow b, h]
/-- How many limbs: a number below 2^(64 k) has at most k. -/
theorem nrow_length_le {v k : Nat} (h : v < 2 ^ (64 * k)) : (nrow v).length ≤ k := by
  rcases nrow_last v with hn | hn
  · rw [hn]; simp
  · apply Classical.byContradiction
    intro hlt
    have hlen : (nrow v).length - 1 < (nrow v).length := by omega
    have h1 := lv_limb (nrow_fits v) ((nrow v).length - 1)
    rw [lv_nrow] at h1
    have h2 : 2 ^ (64 * k) ≤ 2 ^ (64 * ((nrow v).length - 1)) := Nat.pow_le_pow_right (by omega) (by omega)
    rw [Nat.div_eq_of_lt (by omega)] at h1
    exact hn h1.symm
theorem nrow_length_gt {v k : Nat} (h : 2 ^ (64 * k) ≤ v) : k < (nrow v).length := by
  apply Classical.byContradiction
  intro hge
  have h1 := lv_lt (nrow_fits v)
  rw [lv_nrow] at h1
  have h2 : 2 ^ (64 * (nrow v).length) ≤ 2 ^ (64 * k) := Nat.pow_le_pow_right (by omega) (by omega)
  omega

/-- Limbs as cells. -/
def U (L : List Nat) : List Value := L.map fun x : Nat => .int .u64 (x : Int)
theorem U_length (L : List Nat) : (U L).length = L.length := by simp [U]
theorem U_append (A B : List Nat) : U (A ++ B) = U A ++ U B := by simp [U]
theorem U_get {L : List Nat} {i : Nat} (h : i < L.length) : (U L)[i]? = some (.int .u64 ((L.getD i 0 : Nat) : Int)) := by
  simp [U, h]
theorem U_set (L : List Nat) (i x : Nat) : (U L).set i (.int .u64 (x : Int)) = U (L.set i x) := by simp [U]
theorem U_one (L : List Nat) : ∀ u ∈ U L, u.oneCell' = true := by
  intro u hu
  simp only [U, List.mem_map] at hu
  obtain ⟨x, _, rfl⟩ := hu
  rfl

/-- A row of limbs of the call's own, from block B on. -/
def NRow (B : Nat) (w : World) (v : Value) (L : List Nat) : Prop := w.ownsRow B 100 1 v L.length (U L)
theorem NRow.nil (B : Nat) (w : World) : NRow B w (.slice none 0 0) [] := World.ownsRow_nil w B _ 1

/-- A row that may be read: its slice, and its cells. -/
theorem NRow.at_ {B : Nat} {w : World} {v : Value} {L : List Nat} (h : NRow B w v L) : ∃ A cap, v = .slice A L.length cap ∧ L.length ≤ cap ∧ cap ≤ maxLen ∧ NatAt w A L := by
  have h' := h
  rcases h.2 with ⟨rfl, h0⟩ | ⟨g, cap, cur, rfl, _, hg, hc, hm, hs, htk⟩
  · exact ⟨none, 0, by rw [h0], by omega, by unfold maxLen; omega, fun i hi => by omega⟩
  · refine ⟨_, cap, rfl, hc, hm, fun i hi => ⟨g, 0, rfl, ?_⟩⟩
    have e := World.ownsRow.cellAt h' i (by omega)
    rw [Nat.zero_add, e, U_get hi]
theorem NatAt.lt {w : World} {A : Option Addr} {L : List Nat} (h : NatAt w A L) {i : Nat} (hi : i < L.length) : ∃ b off, A = some ⟨b, off, none⟩ ∧ b < w.heap.size ∧ w.cell? ⟨b, off + i, none⟩ = some (.int .u64 ((L.getD i 0 : Nat) : Int)) := by
  obtain ⟨b, off, hA, hc⟩ := h i hi
  exact ⟨b, off, hA, World.block_lt_of_cell? w _ hc, hc⟩
theorem NatAt.below {w w' : World} {B : Nat} {A : Option Addr} {L : List Nat} (h : NatAt w A L) (hb : Below B w w') (hB : w.heap.size ≤ B) : NatAt w' A L := fun i hi => by
  obtain ⟨b, off, hA, hlt, hc⟩ := h.lt hi
  exact ⟨b, off, hA, (hb.cell (p := ⟨b, off + i, none⟩) (by show b < B; omega)).trans hc⟩
theorem NatAt.drewN {w : World} {n : Nat} {A : Option Addr} {L : List Nat} (h : NatAt w A L) : NatAt (w.drewN n) A L := h
theorem NRow.below {B B' : Nat} {w w' : World} {v : Value} {L : List Nat} (h : NRow B w v L) (hb : Below B' w w') (hB : w.heap.size ≤ B') : NRow B w' v L := by
  refine ⟨h.1, ?_⟩
  rcases h.2 with h0 | ⟨g, cap, cur, hv, hg0, hg, rest⟩
  · exact .inl h0
  · exact .inr ⟨g, cap, cur, hv, hg0, (hb.block g (by have := (Array.getElem?_eq_some_iff.1 hg).1; omega)).trans hg, rest⟩
theorem NRow.drewN {B n : Nat} {w : World} {v : Value} {L : List Nat} (h : NRow B w v L) : NRow B (w.drewN n) v L := h
theorem NRow.more {B B' : Nat} {w : World} {v : Value} {L : List Nat} (h : NRow B w v L) (hB : B' ≤ B) : NRow B' w v L := by
  refine ⟨h.1, ?_⟩
  rcases h.2 with h0 | ⟨g, cap, cur, hv, hg0, rest⟩
  · exact .inl h0
  · exact .inr ⟨g, cap, cur, hv, by omega, rest⟩

/-- What a call answers that tells a number: its one normal row, in memory of its own. -/
def NRes (w : World) (n : Nat) (e : Ending) (w' : World) : Prop := ∃ v, e = .returned v ∧ NRow w.heap.size w' v (nrow n) ∧ Below w.heap.size w w'

theorem info_u64 : (Tryz.prog.info? 100).map (fun i => (i.zero, i.size, i.bytes)) = some (some (.int .u64 0), 1, 8) := by kernel_rfl
theorem fits_take {L : List Nat} (h : Fits L) (k : Nat) : Fits (L.take k) := fun x hx => h x (List.mem_of_mem_take hx)
theorem lv_zeros (k : Nat) : lv (List.replicate k 0) = 0 := by
  induction k with
  | zero => rfl
  | succ k ih => simp [List.replicate_succ, lv, ih]
theorem lv_take_zero {L : List Nat} {k : Nat} (hk : k < L.length) (h0 : L.getD k 0 = 0) : lv (L.take (k + 1)) = lv (L.take k) := by
  rw [List.take_succ_eq_append_getElem hk, lv_append]
  have : L[k] = 0 := by rw [List.getD_eq_getElem?_getD, List.getElem?_eq_getElem hk] at h0; exact h0
  rw [this]; simp [lv]
end Go.Proofs.YtofpcdjoljjnoaaGreatDoor

namespace Go.Proofs.YtofpcdjoljjnoaaGreatDoor
set_option maxRecDepth 100000
open Go.RowKit

/-- How far the highest zeros have been left. -/
def NormRel (L : List Nat) (n : Value) : Prop := ∃ k : Nat, k ≤ L.length ∧ n = .int .i64 (k : Int) ∧ lv L = lv (L.take k)

theorem take_last {L : List Nat} {k : Nat} (hk : k + 1 ≤ L.length) : (L.take (k + 1)).getD ((L.take (k + 1)).length - 1) 0 = L.getD k 0 := by
  have hl : (L.take (k + 1)).length = k + 1 := by rw [List.length_take]; omega
  rw [hl, Nat.add_sub_cancel, List.getD_eq_getElem?_getD, List.getElem?_take, if_pos (by omega), ← List.getD_eq_getElem?_getD]

theorem addr_add (b off j : Nat) : (⟨b, off, none⟩ : Addr).add j = ⟨b, off + j, none⟩ := by unfold Addr.add; split <;> simp_all
theorem news_of {w : World} {ad : Addr} {L : List Nat} (h : NatAt w (some ad) L) (m : Nat) (hm : m ≤ L.length) (j : Nat) (u : Value) (hu : (U (L.take m))[j]? = some u) : w.cell? (ad.add j) = some u := by
  have hj : j < (L.take m).length := by
    rw [← U_length]
    exact (List.getElem?_eq_some_iff.1 hu).1
  have hjm : j < m := by rw [List.length_take] at hj; omega
  obtain ⟨b, off, he, hc⟩ := h j (by omega)
  cases he
  rw [addr_add, hc, ← hu, U_get hj]
  simp [hjm]

theorem nrow_first {B n : Nat} {w : World} {v : Value} {M : List Nat} (h : w.ownsRow B 100 1 v (0 + n) ([] ++ U M)) (hn : M.length = n) : NRow B w v M := by
  unfold NRow
  rw [hn]
  simpa using h

set_option maxHeartbeats 2000000 in
theorem nnorm_any (A : Option Addr) (cap : Nat) (L : List Nat) (w : World) (hl : L.length ≤ 1099511627776) (hcap : L.length ≤ cap) (hcn : A = none → cap = 0) (hf : Fits L) (hc : NatAt w A L) :
    Calls Tryz.prog 86 #[.slice A L.length cap] w (NRes w (lv L)) := by
  obtain ⟨i0, hi, hz0, hz1, hz2⟩ := info_parts info_u64
  have HC := Lib.hid hc
  have HF := Lib.hid hf
  have HN := Lib.hid hcn
  have hlI : (L.length : Int) ≤ 1099511627776 := by omega
  clear hc hf hcn
  go_enter Tryz.func86, Tryz.ntmps86
  go_wp2_with fail
  go_loop [3] (fun n => NormRel L n) (fun n => (intOf n).toNat)
  case atStart => exact ⟨L.length, Nat.le_refl _, rfl, by rw [List.take_length]⟩
  case round =>
    obtain ⟨k, hk, rfl, hv⟩ := hrel
    have HV := Lib.hid hv
    clear hv
    rcases k with _ | k
    · have HE : Hid (nrow (lv L) = []) := Lib.hid (by rw [HV.out]; rfl)
      rcases A with _ | ad
      · obtain rfl := HN.out rfl
        go_wp2_with (
          (at_builtin
           refine wpList_append_own_none _ rfl (.tmp 19) (.tmp 22) 42 rfl w.heap.size 100 i0 1 Tryz.underlying42 hi (.slice none 0 0) 0 [] rfl (World.ownsRow_nil _ _ _ _) rfl ?_))
        go_ret
        exact ⟨_, rfl, by rw [HE.out]; exact NRow.nil _ _, Below.refl _ _⟩
      · go_wp2_with (
          (at_builtin
           refine wpList_append_own _ rfl (.tmp 19) (.tmp 22) 42 rfl w.heap.size 100 i0 _ 1 8 Tryz.underlying42 hi hz0 hz1 hz2 rfl (by omega) (.slice none 0 0) 0 [] rfl (World.ownsRow_nil _ _ _ _) ad 0 cap [] rfl rfl ?c1 ?c2 ?c3 ?c4 ?c5 ?_
           case c1 => intro j u hu; simp at hu
           case c2 => intro u hu; simp at hu
           case c3 => unfold maxLen; omega
           case c4 => omega
           case c5 => exact Nat.le_refl _
           intro v1 w1 hown1 hg1 _
           have HO := Lib.hid hown1
           have HB : Hid (Below w.heap.size w w1) := Lib.hid ((Below.refl _ _).grown hg1 (Nat.le_refl _) (fun k hk => by cases hk))
           clear hown1 hg1))
        go_ret
        exact ⟨_, rfl, by rw [HE.out]; exact HO.out, HB.out⟩
    · obtain ⟨b, off, rfl, hcell⟩ := HC.out k (by omega)
      have hkI : (k : Int) < (L.length : Int) := by omega
      have hk0 : (0 : Int) ≤ (k : Int) := by omega
      obtain ⟨x, hx⟩ : ∃ x : Nat, x = L.getD k 0 := ⟨_, rfl⟩
      rw [← hx] at hcell
      by_cases h0 : x = 0
      · subst h0
        have HV2 : Hid (lv L = lv (L.take k)) := Lib.hid (HV.out.trans (lv_take_zero (by omega) hx.symm))
        clear hx
        go_wp2_with fail
        go_round
        case rel => exact ⟨k, by omega, by go_num, HV2.out⟩
        case measure => simp [intOf]
      · have hb : ((x : Int) == 0) = false := beq_eq_false_iff_ne.2 (by omega)
        have HE : Hid (nrow (lv L) = L.take (k + 1)) := Lib.hid (by
          rw [HV.out]
          exact (nrow_of (fits_take HF.out _) (.inr (by rw [take_last (by omega), ← hx]; exact h0))).symm)
        have htl : (L.take (k + 1)).length = k + 1 := by rw [List.length_take]; omega
        have HTL := Lib.hid htl
        have HNEW := Lib.hid (news_of HC.out (k + 1) (by omega))
        clear hx h0 htl
        go_wp2_with (
          (at_builtin
           refine wpList_append_own _ rfl (.tmp 19) (.tmp 22) 42 rfl w.heap.size 100 i0 _ 1 8 Tryz.underlying42 hi hz0 hz1 hz2 rfl (by omega) (.slice none 0 0) 0 [] rfl (World.ownsRow_nil _ _ _ _) ⟨b, off, none⟩ (k + 1) cap (U (L.take (k + 1))) rfl ?c0 ?c1 ?c2 ?c3 ?c4 ?c5 ?_
           case c0 => rw [U_length, HTL.out]; omega
           case c1 => exact HNEW.out
           case c2 => exact U_one _
           case c3 => unfold maxLen; omega
           case c4 => omega
           case c5 => exact Nat.le_refl _
           intro v1 w1 hown1 hg1 _
           have HO := Lib.hid (nrow_first hown1 HTL.out)
           have HB : Hid (Below w.heap.size w w1) := Lib.hid ((Below.refl _ _).grown hg1 (Nat.le_refl _) (fun k hk => by cases hk))
           clear hown1 hg1))
        go_ret
        exact ⟨_, rfl, by rw [HE.out]; exact HO.out, HB.out⟩
end Go.Proofs.YtofpcdjoljjnoaaGreatDoor
