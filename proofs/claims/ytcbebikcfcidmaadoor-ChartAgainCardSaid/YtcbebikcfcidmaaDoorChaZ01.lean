/-
  The texts Lift, NotchMath, Base, NatMath, NatRef, NatRow, NatNorm, NatMem, NatIter, NatRound, Shelf, one behind the other.
-/
import Derived.Test.YtcbebikcfcidmaaDoorRows
import Derived.ProofKit
import Derived.OpenShut
import Derived.ShutString
import Derived.ChangeOld
import Derived.Below
import Derived.Carry
import Derived.Lib.SmallJoins
import Derived.Deep.Slices
import Derived.Lib.BitFns
import Derived.WalkKit
import Derived.WalkSpells
import Derived.WalkLawsBesides
import Derived.Lib.UnsafeStr
import Derived.Lib.Hide
import Derived.Lib.BufferRead
import Derived.Laws.OwnMore
import Derived.Laws.AppendOwnNone
import Derived.RangeFuncNested
import Derived.RangeFuncBound
import Derived.RangeFuncCalls
import Derived.RangeFuncLeaves
import Derived.Shelf.Abstract
import Derived.Shelf.RegionOpen
import Derived.OwnWalkIn
import Derived.TacticsInMore
import Derived.LoopNIn
import Derived.LoopIn
import Derived.StillTailTactics
import Derived.OrdersHeld
import Derived.Shelf.Small.Bits
import Derived.Shelf.Strconv.Itoa0
import Derived.Shelf.Bits.Mul64
import Derived.Test.YtcbebikcfcidmaaDoorProg

namespace Go.Proofs.YtcbebikcfcidmaaDoor
open Go.ChangeShapes Go.WideShapes Go.ChangeAt Go.RowKit

theorem own : ownKnob Tryd.prog.godebug = none := by kernel_rfl
theorem laidOut : laidOutB Tryd.prog = true := by kernel_rfl

theorem nat_of_u8 {x : Int} (h : (Lit.int .u8 x).wf = true) : ∃ n : Nat, x = (n : Int) ∧ n < 256 := by
  have h2 : 0 ≤ x ∧ x < 256 := by
    simp [Lit.wf, IntKind.min, IntKind.max, IntKind.signed, IntKind.bits] at h
    omega
  obtain ⟨n, rfl⟩ := Int.eq_ofNat_of_zero_le h2.1
  exact ⟨n, rfl, by omega⟩
/-- What a walk is told of a slice of one-cell numbers: each place below its length holds one. -/
def Cells (k : IntKind) (w : World) (A : Option Addr) (len : Nat) (z : Nat → Int) : Prop :=
  ∀ i, i < len → ∃ b off, A = some ⟨b, off, none⟩ ∧ b < w.heap.size ∧ w.cell? ⟨b, off + i, none⟩ = some (.int k (z i))

end Go.Proofs.YtcbebikcfcidmaaDoor

namespace Go.Proofs.YtcbebikcfcidmaaDoor
open Go

/-- The byte of a number below 256 (of any number: modulo 256). -/
def byt (n : Nat) : UInt8 := UInt8.ofNat n
theorem byt_toNat (n : Nat) : (byt n).toNat = n % 256 := by simp [byt]
/-- The number that bytes tell, the highest first. -/
def val (l : List UInt8) : Nat := l.foldl (fun a b => 256 * a + b.toNat) 0
end Go.Proofs.YtcbebikcfcidmaaDoor

namespace Go.Proofs.YtcbebikcfcidmaaDoor
open Go.RowKit

/-- A string of bytes. -/
def mk (l : List UInt8) : ByteArray := ⟨l.toArray⟩
theorem mk_toL (l : List UInt8) : (mk l).toList = l := ByteArray.toList_mk l
theorem mk_size (l : List UInt8) : (mk l).size = l.length := by simp [mk, ByteArray.size]
theorem mk_append (a b : List UInt8) : mk a ++ mk b = mk (a ++ b) := by
  apply ByteArray.ext
  simp [mk]
theorem info_u8 : (Tryd.prog.info? 5).map (fun i => (i.zero, i.size, i.bytes)) = some (some (.int .u8 0), 1, 1) := by kernel_rfl

end Go.Proofs.YtcbebikcfcidmaaDoor

namespace Go.Proofs.YtcbebikcfcidmaaDoor
set_option maxRecDepth 100000
open Go

/-- What a row of limbs tells. -/
def lv : List Nat → Nat
  | [] => 0
  | a :: l => a + 2 ^ 64 * lv l
/-- Each limb fits. -/
def Fits (l : List Nat) : Prop := ∀ a ∈ l, a < 2 ^ 64
theorem Fits.tail {a : Nat} {l : List Nat} (h : Fits (a :: l)) : Fits l := fun x hx => h x (List.mem_cons_of_mem _ hx)
theorem Fits.head {a : Nat} {l : List Nat} (h : Fits (a :: l)) : a < 2 ^ 64 := h a (List.mem_cons_self ..)
theorem lv_append (a b : List Nat) : lv (a ++ b) = lv a + 2 ^ (64 * a.length) * lv b := by
  induction a with
  | nil => simp [lv]
  | cons x a ih =>
    simp only [List.cons_append, lv, ih, List.length_cons]
    rw [Nat.mul_add, ← Nat.mul_assoc, ← Nat.pow_add, Nat.mul_add 64, Nat.mul_one, Nat.add_comm 64]
    omega
theorem lv_lt {l : List Nat} (h : Fits l) : lv l < 2 ^ (64 * l.length) := by
  induction l with
  | nil => simp [lv]
  | cons a l ih =>
    have h1 := ih h.tail
    have h2 := h.head
    simp only [lv, List.length_cons]
    rw [Nat.mul_add, Nat.mul_one, Nat.pow_add, Nat.mul_comm (2 ^ (64 * l.length))]
    have : 2 ^ 64 * (lv l + 1) ≤ 2 ^ 64 * 2 ^ (64 * l.length) := Nat.mul_le_mul_left _ h1
    omega

/-- The limb at a place; 0 behind the last. -/
theorem lv_limb {l : List Nat} (h : Fits l) (i : Nat) : lv l / 2 ^ (64 * i) % 2 ^ 64 = l.getD i 0 := by
  induction l generalizing i with
  | nil => simp [lv]
  | cons a l ih =>
    have h1 := h.head
    rcases i with _ | i
    · simp only [lv, Nat.mul_zero, Nat.pow_zero, Nat.div_one, List.getD_cons_zero]
      omega
    · have e : lv (a :: l) / 2 ^ (64 * (i + 1)) = lv l / 2 ^ (64 * i) := by
        rw [Nat.mul_add, Nat.mul_one, Nat.add_comm, Nat.pow_add, ← Nat.div_div_eq_div_mul]
        congr 1
        simp only [lv]
        omega
      rw [e, ih h.tail, List.getD_cons_succ]

/-- The row without its highest zeros. -/
def norm : List Nat → List Nat
  | [] => []
  | a :: l => if norm l = [] ∧ a = 0 then [] else a :: norm l
theorem lv_norm (l : List Nat) : lv (norm l) = lv l := by
  induction l with
  | nil => rfl
  | cons a l ih =>
    unfold norm
    split
    · rename_i h
      have h0 : lv l = 0 := by rw [← ih, h.1]; rfl
      simp [lv, h.2, h0]
    · simp [lv, ih]
theorem norm_fits {l : List Nat} (h : Fits l) : Fits (norm l) := by
  induction l with
  | nil => exact h
  | cons a l ih =>
    unfold norm
    split
    · intro x hx; cases hx
    · intro x hx
      rcases List.mem_cons.1 hx with rfl | hx
      · exact h.head
      · exact ih h.tail x hx
theorem norm_nil_iff {l : List Nat} : norm l = [] ↔ lv l = 0 := by
  constructor
  · intro h; rw [← lv_norm, h]; rfl
  · intro h
    induction l with
    | nil => rfl
    | cons a l ih =>
      simp only [lv] at h
      have ha : a = 0 := by omega
      have hl : lv l = 0 := by omega
      unfold norm
      rw [if_pos ⟨ih hl, ha⟩]
theorem norm_norm (l : List Nat) : norm (norm l) = norm l := by
  induction l with
  | nil => rfl
  | cons a l ih =>
    have e : ∀ m, norm (a :: m) = if norm m = [] ∧ a = 0 then [] else a :: norm m := fun _ => rfl
    by_cases h : norm l = [] ∧ a = 0
    · rw [e, if_pos h]; rfl
    · rw [e, if_neg h, e, ih, if_neg h]

/-- Of one number there is one normal row. -/
theorem norm_uniq {a b : List Nat} (ha : Fits a) (hb : Fits b) (h : lv a = lv b) : norm a = norm b := by
  induction a generalizing b with
  | nil =>
    have : lv b = 0 := by rw [← h]; rfl
    rw [norm_nil_iff.2 this]; rfl
  | cons x a ih =>
    rcases b with _ | ⟨y, b⟩
    · rw [norm_nil_iff.2 (show lv (x :: a) = 0 from h)]; rfl
    · have hx := ha.head
      have hy := hb.head
      simp only [lv] at h
      have e1 : x = y := by omega
      have e2 : lv a = lv b := by omega
      rw [norm, norm, ih ha.tail hb.tail e2, e1]

/-- The k low limbs of a number; its normal row. -/
def limbs : Nat → Nat → List Nat
  | 0, _ => []
  | k + 1, n => n % 2 ^ 64 :: limbs k (n / 2 ^ 64)
theorem limbs_fits (k : Nat) : ∀ n, Fits (limbs k n) := by
  induction k with
  | zero => intro n x hx; cases hx
  | succ k ih =>
    intro n x hx
    rcases List.mem_cons.1 hx with rfl | hx
    · exact Nat.mod_lt _ (by omega)
    · exact ih _ x hx
theorem lv_limbs (k : Nat) : ∀ n, lv (limbs k n) = n % 2 ^ (64 * k) := by
  induction k with
  | zero => intro n; simp [limbs, lv, Nat.mod_one]
  | succ k ih =>
    intro n
    simp only [limbs, lv, ih]
    rw [Nat.mul_add, Nat.mul_one, Nat.add_comm, Nat.pow_add (m := 64 * k), Nat.mul_comm (2 ^ (64 * k)), Nat.mod_mul]
    omega

/-! ### Digits of 32 bits: what the document's answer counts with -/
def Small (l : List Nat) : Prop := ∀ a ∈ l, a < 2 ^ 32
/-- A digit of a quotient is at most the quotient of the first digits. -/
theorem div_guess {r y K : Nat} (hk : 0 < y / K) : r / y ≤ r / K / (y / K) := by
  have hK : 0 < K := by
    rcases Nat.eq_zero_or_pos K with h | h
    · subst h; simp at hk
    · exact h
  rw [Nat.div_div_eq_div_mul]
  refine Nat.div_le_div_left ?_ (Nat.mul_pos hK hk)
  rw [Nat.mul_comm]; exact Nat.div_mul_le_self y K

end Go.Proofs.YtcbebikcfcidmaaDoor

namespace Go.Proofs.YtcbebikcfcidmaaDoor
set_option maxRecDepth 100000
open Go.RowKit

/-- What is told of a number's limbs in memory, nil let in. -/
def NatAt (w : World) (A : Option Addr) (L : List Nat) : Prop := ∀ i, i < L.length → ∃ b off, A = some ⟨b, off, none⟩ ∧ w.cell? ⟨b, off + i, none⟩ = some (.int .u64 ((L.getD i 0 : Nat) : Int))

end Go.Proofs.YtcbebikcfcidmaaDoor

namespace Go.Proofs.YtcbebikcfcidmaaDoor
set_option maxRecDepth 100000
open Go.RowKit

theorem lt_two_pow64 (v : Nat) : v < 2 ^ (64 * v) ∨ v = 0 := by
  rcases Nat.eq_zero_or_pos v with h | h
  · exact .inr h
  · exact .inl (Nat.lt_of_lt_of_le Nat.lt_two_pow_self (Nat.pow_le_pow_right (by omega) (by omega)))
/-- The normal row of a number. -/
def nrow (v : Nat) : List Nat := norm (limbs v v)
theorem lv_nrow (v : Nat) : lv (nrow v) = v := by
  unfold nrow
  rw [lv_norm, lv_limbs]
  rcases lt_two_pow64 v with h | h
  · exact Nat.mod_eq_of_lt h
  · subst h; rfl
theorem nrow_fits (v : Nat) : Fits (nrow v) := norm_fits (limbs_fits v v)
theorem norm_eq {L : List Nat} (h : Fits L) : norm L = nrow (lv L) := by
  have e : nrow (lv L) = norm (nrow (lv L)) := by unfold nrow; rw [norm_norm]
  rw [e]
  exact norm_uniq h (nrow_fits _) (lv_nrow _).symm
theorem norm_snoc (L : List Nat) {a : Nat} (h : a ≠ 0) : norm (L ++ [a]) = L ++ [a] := by
  induction L with
  | nil => show norm [a] = [a]; unfold norm; rw [if_neg (fun h' => h h'.2)]; rfl
  | cons b L ih =>
    show norm (b :: (L ++ [a])) = _
    unfold norm
    rw [ih, if_neg (fun h' => by simp at h')]; rfl
/-- A row that is normal is the one of its number. -/
theorem nrow_of {L : List Nat} (h : Fits L) (hn : L = [] ∨ L.getD (L.length - 1) 0 ≠ 0) : L = nrow (lv L) := by
  rw [← norm_eq h]
  rcases hn with rfl | hn
  · rfl
  · rcases List.eq_nil_or_concat L with rfl | ⟨M, a, rfl⟩
    · rfl
    · rw [List.concat_eq_append] at *
      rw [norm_snoc]
      simpa using hn
theorem nrow_last (v : Nat) : nrow v = [] ∨ (nrow v).getD ((nrow v).length - 1) 0 ≠ 0 := by
  unfold nrow
  generalize limbs v v = L
  induction L with
  | nil => exact .inl rfl
  | cons a L ih =>
    unfold norm
    split
    · exact .inl rfl
    · rename_i h
      right
      rcases ih with ih | ih
      · rw [ih]
        have ha : a ≠ 0 := fun e => h ⟨ih, e⟩
        simpa using ha
      · rcases hL : norm L with _ | ⟨b, M⟩
        · rw [hL] at ih; simp at ih
        · rw [hL] at ih
          simpa using ih
theorem nrow_zero : nrow 0 = [] := rfl
theorem nrow_nil {v : Nat} : nrow v = [] ↔ v = 0 := by
  constructor
  · intro h; rw [← lv_nrow v, h]; rfl
  · rintro rfl; rfl
/-- How many limbs: a number below 2^(64 k) has at most k. -/
theorem nrow_length_le {v k : Nat} (h : v < 2 ^ (64 * k)) : (nrow v).length ≤ k := by
  rcases nrow_last v with hn | hn
  · rw [hn]; simp
  · apply Classical.byContradiction
    intro hlt
    have hlen : (nrow v).length - 1 < (nrow v).length := by omega
    have h1 := lv_limb (nrow_fits v) ((nrow v).length - 1)
    rw [lv_nrow] at h1
    have h2 : 2 ^ (64 * k) ≤ 2 ^ (64 * ((nrow v).length - 1)) := Nat.pow_le_pow_right (by omega) (by omega)
    rw [Nat.div_eq_of_lt (by omega)] at h1
    exact hn h1.symm
/-- Limbs as cells. -/
def U (L : List Nat) : List Value := L.map fun x : Nat => .int .u64 (x : Int)
theorem U_length (L : List Nat) : (U L).length = L.length := by simp [U]
theorem U_append (A B : List Nat) : U (A ++ B) = U A ++ U B := by simp [U]
theorem U_get {L : List Nat} {i : Nat} (h : i < L.length) : (U L)[i]? = some (.int .u64 ((L.getD i 0 : Nat) : Int)) := by
  simp [U, h]
theorem U_one (L : List Nat) : ∀ u ∈ U L, u.oneCell' = true := by
  intro u hu
  simp only [U, List.mem_map] at hu
  obtain ⟨x, _, rfl⟩ := hu
  rfl

/-- A row of limbs of the call's own, from block B on. -/
def NRow (B : Nat) (w : World) (v : Value) (L : List Nat) : Prop := w.ownsRow B 58 1 v L.length (U L)
theorem NRow.nil (B : Nat) (w : World) : NRow B w (.slice none 0 0) [] := World.ownsRow_nil w B _ 1

/-- A row that may be read: its slice, and its cells. -/
theorem NRow.at_ {B : Nat} {w : World} {v : Value} {L : List Nat} (h : NRow B w v L) : ∃ A cap, v = .slice A L.length cap ∧ L.length ≤ cap ∧ cap ≤ maxLen ∧ NatAt w A L := by
  have h' := h
  rcases h.2 with ⟨rfl, h0⟩ | ⟨g, cap, cur, rfl, _, hg, hc, hm, hs, htk⟩
  · exact ⟨none, 0, by rw [h0], by omega, by unfold maxLen; omega, fun i hi => by omega⟩
  · refine ⟨_, cap, rfl, hc, hm, fun i hi => ⟨g, 0, rfl, ?_⟩⟩
    have e := World.ownsRow.cellAt h' i (by omega)
    rw [Nat.zero_add, e, U_get hi]
theorem NatAt.lt {w : World} {A : Option Addr} {L : List Nat} (h : NatAt w A L) {i : Nat} (hi : i < L.length) : ∃ b off, A = some ⟨b, off, none⟩ ∧ b < w.heap.size ∧ w.cell? ⟨b, off + i, none⟩ = some (.int .u64 ((L.getD i 0 : Nat) : Int)) := by
  obtain ⟨b, off, hA, hc⟩ := h i hi
  exact ⟨b, off, hA, World.block_lt_of_cell? w _ hc, hc⟩
theorem NatAt.below {w w' : World} {B : Nat} {A : Option Addr} {L : List Nat} (h : NatAt w A L) (hb : Below B w w') (hB : w.heap.size ≤ B) : NatAt w' A L := fun i hi => by
  obtain ⟨b, off, hA, hlt, hc⟩ := h.lt hi
  exact ⟨b, off, hA, (hb.cell (p := ⟨b, off + i, none⟩) (by show b < B; omega)).trans hc⟩
theorem NatAt.drewN {w : World} {n : Nat} {A : Option Addr} {L : List Nat} (h : NatAt w A L) : NatAt (w.drewN n) A L := h
theorem NRow.below {B B' : Nat} {w w' : World} {v : Value} {L : List Nat} (h : NRow B w v L) (hb : Below B' w w') (hB : w.heap.size ≤ B') : NRow B w' v L := by
  refine ⟨h.1, ?_⟩
  rcases h.2 with h0 | ⟨g, cap, cur, hv, hg0, hg, rest⟩
  · exact .inl h0
  · exact .inr ⟨g, cap, cur, hv, hg0, (hb.block g (by have := (Array.getElem?_eq_some_iff.1 hg).1; omega)).trans hg, rest⟩
theorem NRow.drewN {B n : Nat} {w : World} {v : Value} {L : List Nat} (h : NRow B w v L) : NRow B (w.drewN n) v L := h
theorem NRow.more {B B' : Nat} {w : World} {v : Value} {L : List Nat} (h : NRow B w v L) (hB : B' ≤ B) : NRow B' w v L := by
  refine ⟨h.1, ?_⟩
  rcases h.2 with h0 | ⟨g, cap, cur, hv, hg0, rest⟩
  · exact .inl h0
  · exact .inr ⟨g, cap, cur, hv, by omega, rest⟩

/-- What a call answers that tells a number: its one normal row, in memory of its own. -/
def NRes (w : World) (n : Nat) (e : Ending) (w' : World) : Prop := ∃ v, e = .returned v ∧ NRow w.heap.size w' v (nrow n) ∧ Below w.heap.size w w'

theorem info_u64 : (Tryd.prog.info? 58).map (fun i => (i.zero, i.size, i.bytes)) = some (some (.int .u64 0), 1, 8) := by kernel_rfl
theorem fits_take {L : List Nat} (h : Fits L) (k : Nat) : Fits (L.take k) := fun x hx => h x (List.mem_of_mem_take hx)
theorem lv_zeros (k : Nat) : lv (List.replicate k 0) = 0 := by
  induction k with
  | zero => rfl
  | succ k ih => simp [List.replicate_succ, lv, ih]
theorem lv_take_zero {L : List Nat} {k : Nat} (hk : k < L.length) (h0 : L.getD k 0 = 0) : lv (L.take (k + 1)) = lv (L.take k) := by
  rw [List.take_succ_eq_append_getElem hk, lv_append]
  have : L[k] = 0 := by rw [List.getD_eq_getElem?_getD, List.getElem?_eq_getElem hk] at h0; exact h0
  rw [this]; simp [lv]
end Go.Proofs.YtcbebikcfcidmaaDoor

namespace Go.Proofs.YtcbebikcfcidmaaDoor
set_option maxRecDepth 100000
open Go.RowKit

theorem take_last {L : List Nat} {k : Nat} (hk : k + 1 ≤ L.length) : (L.take (k + 1)).getD ((L.take (k + 1)).length - 1) 0 = L.getD k 0 := by
  have hl : (L.take (k + 1)).length = k + 1 := by rw [List.length_take]; omega
  rw [hl, Nat.add_sub_cancel, List.getD_eq_getElem?_getD, List.getElem?_take, if_pos (by omega), ← List.getD_eq_getElem?_getD]

theorem addr_add (b off j : Nat) : (⟨b, off, none⟩ : Addr).add j = ⟨b, off + j, none⟩ := by unfold Addr.add; split <;> simp_all
theorem news_of {w : World} {ad : Addr} {L : List Nat} (h : NatAt w (some ad) L) (m : Nat) (hm : m ≤ L.length) (j : Nat) (u : Value) (hu : (U (L.take m))[j]? = some u) : w.cell? (ad.add j) = some u := by
  have hj : j < (L.take m).length := by
    rw [← U_length]
    exact (List.getElem?_eq_some_iff.1 hu).1
  have hjm : j < m := by rw [List.length_take] at hj; omega
  obtain ⟨b, off, he, hc⟩ := h j (by omega)
  cases he
  rw [addr_add, hc, ← hu, U_get hj]
  simp [hjm]

end Go.Proofs.YtcbebikcfcidmaaDoor

namespace Go.Proofs.YtcbebikcfcidmaaDoor
open Go.RowKit

/-- Limbs in block g, from off on, that may be written. -/
def Seg (w : World) (g off : Nat) (L : List Nat) : Prop :=
  ∃ cur : Array Value, w.heap[g]? = some (.cells cur 58 (0, 0)) ∧ ∀ i, i < L.length → cur[off + i]? = some (.int .u64 ((L.getD i 0 : Nat) : Int))

/-- But for new blocks, and for cells lo to hi of block g, w' is w. -/
structure Wrote (g lo hi : Nat) (w w' : World) : Prop where
  grown : w.grownBy w' (some g)
  row : ∀ cur T fr, w.heap[g]? = some (.cells cur T fr) → ∃ cur' : Array Value, w'.heap[g]? = some (.cells cur' T fr) ∧ cur'.size = cur.size ∧ ∀ o, (o < lo ∨ hi ≤ o) → cur'[o]? = cur[o]?

theorem heap_set {w : World} {g o : Nat} {cur : Array Value} {T : TypeId} {fr : Nat × Nat} (h : w.heap[g]? = some (.cells cur T fr)) (v : Value) :
    (w.setCell ⟨g, o, none⟩ v).heap[g]? = some (.cells (cur.setIfInBounds o v) T fr) := by
  simp [World.setCell, Array.getElem?_modify, h]
theorem size_set (w : World) (a : Addr) (v : Value) : (w.setCell a v).heap.size = w.heap.size := by simp [World.setCell]

section
variable {w w' w'' : World} {g off lo hi : Nat} {L : List Nat}
theorem Seg.block (h : Seg w g off L) : g < w.heap.size := by
  obtain ⟨cur, hg, _⟩ := h
  exact (Array.getElem?_eq_some_iff.1 hg).1
theorem Seg.cell (h : Seg w g off L) {i : Nat} (hi : i < L.length) : w.cell? ⟨g, off + i, none⟩ = some (.int .u64 ((L.getD i 0 : Nat) : Int)) := by
  obtain ⟨cur, hg, hc⟩ := h
  simp [World.cell?, hg, hc i hi]
theorem Seg.frozen (h : Seg w g off L) (o : Nat) : w.frozen? ⟨g, o, none⟩ = false := by
  obtain ⟨cur, hg, hc⟩ := h
  simp [World.frozen?, hg]
theorem Seg.natAt (h : Seg w g off L) : NatAt w (some ⟨g, off, none⟩) L := fun _ hi => ⟨g, off, rfl, h.cell hi⟩
theorem Seg.of_block (h : Seg w g off L) (e : w'.heap[g]? = w.heap[g]?) : Seg w' g off L := by
  obtain ⟨cur, hg, hc⟩ := h
  exact ⟨cur, e.trans hg, hc⟩
theorem Seg.alloc (h : Seg w g off L) (o : Obj) : Seg (w.alloc o) g off L := h.of_block (Below.heap_alloc _ _ _ h.block)
theorem Seg.drewN (h : Seg w g off L) (n : Nat) : Seg (w.drewN n) g off L := h
theorem Seg.drew (h : Seg w g off L) : Seg w.drew g off L := h
theorem Seg.below {B : Nat} (h : Seg w g off L) (hb : Below B w w') (hB : g < B) : Seg w' g off L := h.of_block (hb.block g hB)
theorem Seg.other (h : Seg w g off L) {p : Addr} (hp : p.block ≠ g) (v : Value) : Seg (w.setCell p v) g off L := h.of_block (Below.heap_setCell _ _ _ _ (fun e => hp e.symm))
theorem Seg.set (h : Seg w g off L) {k : Nat} (hk : k < L.length) (x : Nat) : Seg (w.setCell ⟨g, off + k, none⟩ (.int .u64 (x : Int))) g off (L.set k x) := by
  obtain ⟨cur, hg, hc⟩ := h
  refine ⟨_, heap_set hg _, fun i hi => ?_⟩
  rw [List.length_set] at hi
  rw [Array.getElem?_setIfInBounds]
  by_cases e : k = i
  · subst e
    have hlt : off + k < cur.size := (Array.getElem?_eq_some_iff.1 (hc k hk)).1
    rw [if_pos rfl, if_pos hlt]
    simp [hk]
  · rw [if_neg (by omega), hc i hi]
    simp [e]
theorem Seg.drop (h : Seg w g off L) (k : Nat) : Seg w g (off + k) (L.drop k) := by
  obtain ⟨cur, hg, hc⟩ := h
  refine ⟨cur, hg, fun i hi => ?_⟩
  rw [List.length_drop] at hi
  rw [Nat.add_assoc, hc (k + i) (by omega)]
  simp
theorem Seg.take (h : Seg w g off L) (k : Nat) : Seg w g off (L.take k) := by
  obtain ⟨cur, hg, hc⟩ := h
  refine ⟨cur, hg, fun i hi => ?_⟩
  rw [List.length_take] at hi
  rw [hc i (by omega)]
  simp [show i < k by omega]
theorem Seg.append {M : List Nat} (h : Seg w g off L) (h' : Seg w g (off + L.length) M) : Seg w g off (L ++ M) := by
  obtain ⟨cur, hg, hc⟩ := h
  obtain ⟨cur', hg', hc'⟩ := h'
  rw [hg] at hg'
  cases hg'
  refine ⟨cur, hg, fun i hi => ?_⟩
  rw [List.length_append] at hi
  by_cases h : i < L.length
  · rw [hc i h, List.getD_eq_getElem?_getD, List.getD_eq_getElem?_getD, List.getElem?_append_left h]
  · have := hc' (i - L.length) (by omega)
    rw [show off + L.length + (i - L.length) = off + i by omega] at this
    rw [this, List.getD_eq_getElem?_getD, List.getD_eq_getElem?_getD, List.getElem?_append_right (by omega)]

theorem Wrote.refl (g lo hi : Nat) (w : World) : Wrote g lo hi w w := ⟨⟨rfl, rfl, rfl, Nat.le_refl _, fun _ _ _ => rfl⟩, fun cur _ _ h => ⟨cur, h, rfl, fun _ _ => rfl⟩⟩
theorem Wrote.size (h : Wrote g lo hi w w') : w.heap.size ≤ w'.heap.size := h.grown.size
theorem Wrote.trans (h : Wrote g lo hi w w') (k : Wrote g lo hi w' w'') : Wrote g lo hi w w'' := by
  refine ⟨⟨k.grown.os.trans h.grown.os, k.grown.tape.trans h.grown.tape, k.grown.output.trans h.grown.output, Nat.le_trans h.size k.size, fun i hi hne => (k.grown.block i (by have := h.size; omega) hne).trans (h.grown.block i hi hne)⟩, fun cur T fr hg => ?_⟩
  obtain ⟨c1, h1, s1, o1⟩ := h.row cur T fr hg
  obtain ⟨c2, h2, s2, o2⟩ := k.row c1 T fr h1
  exact ⟨c2, h2, s2.trans s1, fun o ho => (o2 o ho).trans (o1 o ho)⟩
theorem Wrote.wide {lo' hi' : Nat} (h : Wrote g lo hi w w') (h1 : lo' ≤ lo) (h2 : hi ≤ hi') : Wrote g lo' hi' w w' := by
  refine ⟨h.grown, fun cur T fr hg => ?_⟩
  obtain ⟨c1, e1, s1, o1⟩ := h.row cur T fr hg
  exact ⟨c1, e1, s1, fun o ho => o1 o (by omega)⟩
/-- Whatever leaves all that was there as it was. -/
theorem Wrote.of_below (hb : Below w.heap.size w w') (g lo hi : Nat) : Wrote g lo hi w w' := by
  refine ⟨⟨hb.os, hb.tape, hb.output, hb.size, fun k hk _ => hb.block k hk⟩, fun cur _ _ hg => ⟨cur, (hb.block g (Array.getElem?_eq_some_iff.1 hg).1).trans hg, rfl, fun _ _ => rfl⟩⟩
theorem Wrote.after {W : World} (h : Wrote g lo hi W w) (hb : Below W.heap.size w w') (hg : g < W.heap.size) : Wrote g lo hi W w' := by
  refine ⟨⟨hb.os.trans h.grown.os, hb.tape.trans h.grown.tape, hb.output.trans h.grown.output, Nat.le_trans h.size hb.size, fun k hk hne => (hb.block k hk).trans (h.grown.block k hk hne)⟩, fun cur T fr hgg => ?_⟩
  obtain ⟨c1, e1, s1, o1⟩ := h.row cur T fr hgg
  exact ⟨c1, (hb.block g hg).trans e1, s1, o1⟩
theorem Wrote.alloc {W : World} (h : Wrote g lo hi W w) (hg : g < W.heap.size) (o : Obj) : Wrote g lo hi W (w.alloc o) := h.after ((Below.refl _ _).alloc h.size o) hg
theorem Wrote.drewN {W : World} (h : Wrote g lo hi W w) (n : Nat) : Wrote g lo hi W (w.drewN n) := ⟨⟨h.grown.os, h.grown.tape, h.grown.output, h.grown.size, h.grown.block⟩, h.row⟩
theorem Wrote.drew {W : World} (h : Wrote g lo hi W w) : Wrote g lo hi W w.drew := ⟨⟨h.grown.os, h.grown.tape, h.grown.output, h.grown.size, h.grown.block⟩, h.row⟩
theorem Wrote.setNew {W : World} (h : Wrote g lo hi W w) (hg : g < W.heap.size) {p : Addr} (hp : W.heap.size ≤ p.block) (v : Value) : Wrote g lo hi W (w.setCell p v) := h.after ((Below.refl _ _).setCell hp v) hg
theorem Wrote.setIn {W : World} (h : Wrote g lo hi W w) {o : Nat} (h1 : lo ≤ o) (h2 : o < hi) (v : Value) : Wrote g lo hi W (w.setCell ⟨g, o, none⟩ v) := by
  refine ⟨⟨h.grown.os, h.grown.tape, h.grown.output, by rw [size_set]; exact h.grown.size, fun k hk hne => (Below.heap_setCell _ _ _ _ (fun e => hne (by rw [e]))).trans (h.grown.block k hk hne)⟩, fun cur T fr hgg => ?_⟩
  obtain ⟨c1, e1, s1, o1⟩ := h.row cur T fr hgg
  refine ⟨_, heap_set e1 v, by simpa using s1, fun o' ho => ?_⟩
  rw [Array.getElem?_setIfInBounds, if_neg (by omega), o1 o' ho]
theorem Wrote.below {B : Nat} (h : Wrote g lo hi w w') (hB : B ≤ w.heap.size) (hg : B ≤ g) : Below B w w' :=
  (Below.refl _ _).grown h.grown hB (fun k e => by cases e; exact hg)
theorem Wrote.other {b : Nat} (h : Wrote g lo hi w w') (hb : b < w.heap.size) (hne : b ≠ g) : w'.heap[b]? = w.heap[b]? := h.grown.block b hb (fun e => hne (by cases e; rfl))
theorem Wrote.cell {b o : Nat} (h : Wrote g lo hi w w') (hb : b < w.heap.size) (hne : b ≠ g) : w'.cell? ⟨b, o, none⟩ = w.cell? ⟨b, o, none⟩ := World.cell?_of_block (a := ⟨b, o, none⟩) (h.other hb hne)
theorem Wrote.natAt {A : Option Addr} {M : List Nat} (h : Wrote g lo hi w w') (hm : NatAt w A M) (hne : 0 < M.length → ∀ b o, A = some ⟨b, o, none⟩ → b ≠ g) : NatAt w' A M := fun i hi => by
  obtain ⟨b, o, e, hlt, hc⟩ := hm.lt hi
  exact ⟨b, o, e, (h.cell hlt (hne (by omega) b o e)).trans hc⟩
theorem Wrote.seg {g' off' : Nat} {M : List Nat} (h : Wrote g lo hi w w') (hs : Seg w g' off' M) (hne : g' ≠ g) : Seg w' g' off' M := hs.of_block (h.other hs.block hne)
/-- Cells of the same block, apart from those that were written. -/
theorem Wrote.segOut {off' : Nat} {M : List Nat} (h : Wrote g lo hi w w') (hs : Seg w g off' M) (ho : off' + M.length ≤ lo ∨ hi ≤ off') : Seg w' g off' M := by
  obtain ⟨cur, hg, hc⟩ := hs
  obtain ⟨c1, e1, s1, o1⟩ := h.row cur _ _ hg
  exact ⟨c1, e1, fun i hi => by rw [o1 _ (by omega)]; exact hc i hi⟩

/-- A row of the call's own, and its cells. -/
theorem NRow.seg {B g cap : Nat} {n : Nat} (h : NRow B w (.slice (some ⟨g, off, none⟩) n cap) L) : off = 0 ∧ n = L.length ∧ B ≤ g ∧ L.length ≤ cap ∧ cap ≤ maxLen ∧ Seg w g 0 L := by
  have h' := h
  rcases h.2 with ⟨he, _⟩ | ⟨g1, cap1, cur, he, hB, hg, hc, hm, hs, htk⟩
  · injection he with h1; cases h1
  · injection he with h1 h2 h3
    cases h1; subst h2; subst h3
    refine ⟨rfl, rfl, hB, hc, hm, cur, hg, fun i hi => ?_⟩
    rw [Nat.mul_one] at htk
    have e : (cur.toList.take L.length)[i]? = (U L)[i]? := by rw [htk]
    rw [List.getElem?_take, if_pos hi, U_get hi] at e
    rw [Nat.zero_add]
    simpa using e
/-- A row of the call's own, written over. -/
theorem NRow.wrote {B g cap n : Nat} {M : List Nat} (h : NRow B w (.slice (some ⟨g, 0, none⟩) n cap) L) (hw : Wrote g lo hi w w') (hs : Seg w' g 0 M) (hl : M.length = L.length) : NRow B w' (.slice (some ⟨g, 0, none⟩) n cap) M := by
  have hsg := h.seg
  refine ⟨by rw [U_length, Nat.mul_one], ?_⟩
  rcases h.2 with ⟨he, _⟩ | ⟨g1, cap1, cur, he, hB, hg, hc, hm, hsz, htk⟩
  · injection he with h1; cases h1
  · injection he with h1 h2 h3
    cases h1; subst h2; subst h3
    obtain ⟨c1, e1, s1, _⟩ := hw.row cur _ _ hg
    obtain ⟨c2, e2, hc2⟩ := hs
    rw [e1] at e2
    cases e2
    refine .inr ⟨g, _, c1, by rw [hl], hB, e1, by omega, hm, by rw [s1, hsz], ?_⟩
    rw [Nat.mul_one]
    apply List.ext_getElem?
    intro i
    by_cases hi : i < M.length
    · rw [List.getElem?_take, if_pos hi, U_get hi]
      have := hc2 i hi
      rw [Nat.zero_add] at this
      simpa using this
    · rw [List.getElem?_take, if_neg hi, List.getElem?_eq_none (by rw [U_length]; omega)]
/-- Of a row of the call's own: its first limbs are one, too. -/
theorem NRow.take {B g cap n : Nat} {M : List Nat} (h : NRow B w (.slice (some ⟨g, 0, none⟩) n cap) (L ++ M)) : NRow B w (.slice (some ⟨g, 0, none⟩) L.length cap) L := by
  refine ⟨by rw [U_length, Nat.mul_one], ?_⟩
  rcases h.2 with ⟨he, _⟩ | ⟨g1, cap1, cur, he, hB, hg, hc, hm, hsz, htk⟩
  · injection he with h1; cases h1
  · injection he with h1 h2 h3
    cases h1; subst h2; subst h3
    rw [List.length_append] at hc htk
    refine .inr ⟨g, _, cur, rfl, hB, hg, by omega, hm, hsz, ?_⟩
    rw [Nat.mul_one] at htk ⊢
    rw [U_append] at htk
    have := congrArg (List.take L.length) htk
    rw [List.take_take, Nat.min_eq_left (by omega), List.take_append_of_le_length (by rw [U_length]; omega), List.take_of_length_le (l := U L) (by rw [U_length]; omega)] at this
    exact this
end

/-- What is read from place k on of a row that may be written meanwhile. -/
def NatFrom (k : Nat) (w : World) (a : Option Addr) (L : List Nat) : Prop := ∀ i, k ≤ i → i < L.length → ∃ b off, a = some ⟨b, off, none⟩ ∧ w.cell? ⟨b, off + i, none⟩ = some (.int .u64 ((L.getD i 0 : Nat) : Int))
theorem NatAt.from {w : World} {a : Option Addr} {L : List Nat} (h : NatAt w a L) (k : Nat) : NatFrom k w a L := fun i _ hi => h i hi
theorem Seg.from {w : World} {g off k : Nat} {O A : List Nat} (h : Seg w g off (O ++ A.drop k)) (hO : O.length = k) (hk : k ≤ A.length) : NatFrom k w (some ⟨g, off, none⟩) A := fun i h1 h2 => by
  refine ⟨g, off, rfl, ?_⟩
  rw [h.cell (i := i) (by rw [List.length_append, List.length_drop]; omega)]
  rw [List.getD_eq_getElem?_getD, List.getD_eq_getElem?_getD, List.getElem?_append_right (by omega), List.getElem?_drop, hO, show k + (i - k) = i by omega]

/-- A variable that lies in a block of its own. -/
def Box (w : World) (b : Nat) (v : Value) : Prop := w.cell? ⟨b, 0, none⟩ = some v ∧ w.frozen? ⟨b, 0, none⟩ = false
section
variable {w w' : World} {b : Nat} {v : Value}
theorem Box.lt (h : Box w b v) : b < w.heap.size := World.block_lt_of_cell? w _ h.1
theorem Box.of_block (h : Box w b v) (e : w'.heap[b]? = w.heap[b]?) : Box w' b v :=
  ⟨(World.cell?_of_block (a := ⟨b, 0, none⟩) e).trans h.1, (World.frozen?_of_block (a := ⟨b, 0, none⟩) e).trans h.2⟩
theorem Box.below {B : Nat} (h : Box w b v) (hb : Below B w w') (hB : b < B) : Box w' b v := h.of_block (hb.block b hB)
theorem Box.other (h : Box w b v) {p : Addr} (hp : p.block ≠ b) (u : Value) : Box (w.setCell p u) b v := h.of_block (Below.heap_setCell _ _ _ _ (fun e => hp e.symm))
theorem Box.set (h : Box w b v) (u : Value) : Box (w.setCell ⟨b, 0, none⟩ u) b u :=
  ⟨by rw [World.cell?_setCell_same' _ _ _ (by rw [h.1]; rfl)], by rw [World.frozen?_setCell]; exact h.2⟩
theorem Box.alloc (h : Box w b v) (o : Obj) : Box (w.alloc o) b v := h.of_block (Below.heap_alloc _ _ _ h.lt)
theorem Box.drew (h : Box w b v) : Box w.drew b v := h
theorem Box.new (w : World) (v : Value) (T : TypeId) : Box (w.alloc (.cells #[v] T)) w.heap.size v := by
  have e : (w.alloc (.cells #[v] T)).heap[w.heap.size]? = some (.cells #[v] T (0, 0)) := heap_alloc_new w _
  exact ⟨by unfold World.cell?; rw [e]; rfl, by unfold World.frozen?; rw [e]; rfl⟩
end

theorem NatAt.other {w : World} {a : Option Addr} {L : List Nat} (h : NatAt w a L) {p : Addr} (hp : 0 < L.length → ∀ bl o, a = some ⟨bl, o, none⟩ → bl ≠ p.block) (v : Value) : NatAt (w.setCell p v) a L := fun i hi => by
  obtain ⟨bl, o, e, hc⟩ := h i hi
  exact ⟨bl, o, e, (World.cell?_of_block (a := ⟨bl, o + i, none⟩) (Below.heap_setCell w p v bl (hp (by omega) bl o e))).trans hc⟩
theorem NatAt.drew {w : World} {a : Option Addr} {L : List Nat} (h : NatAt w a L) : NatAt w.drew a L := h
theorem NatAt.alloc {w : World} {a : Option Addr} {L : List Nat} (h : NatAt w a L) (o : Obj) : NatAt (w.alloc o) a L := h.below ((Below.refl _ _).alloc (Nat.le_refl _) o) (Nat.le_refl _)

/-- One variable more. -/
theorem box_next {w : World} {z : Nat} (hz : z = w.heap.size) (v : Value) (T : TypeId) : Box (w.alloc (.cells #[v] T)) z v ∧ z + 1 = (w.alloc (.cells #[v] T)).heap.size ∧ Below w.heap.size w (w.alloc (.cells #[v] T)) := by
  refine ⟨?_, by rw [World.size_alloc, hz], (Below.refl _ _).alloc (Nat.le_refl _) _⟩
  rw [hz]; exact Box.new w v T
theorem boxes5 {w : World} {z : Nat} (hz : z = w.heap.size) (v0 v1 v2 v3 v4 : Value) (T0 T1 T2 T3 T4 : TypeId) {W : World}
    (hW : W = ((((w.alloc (.cells #[v0] T0)).alloc (.cells #[v1] T1)).alloc (.cells #[v2] T2)).alloc (.cells #[v3] T3)).alloc (.cells #[v4] T4)) :
    Box W z v0 ∧ Box W (z + 1) v1 ∧ Box W (z + 2) v2 ∧ Box W (z + 3) v3 ∧ Box W (z + 4) v4 ∧ W.heap.size = z + 5 ∧ Below w.heap.size w W := by
  subst hW
  obtain ⟨b0, s0, l0⟩ := box_next hz v0 T0
  obtain ⟨b1, s1, l1⟩ := box_next s0 v1 T1
  obtain ⟨b2, s2, l2⟩ := box_next s1 v2 T2
  obtain ⟨b3, s3, l3⟩ := box_next s2 v3 T3
  obtain ⟨b4, s4, l4⟩ := box_next s3 v4 T4
  exact ⟨(((b0.alloc _).alloc _).alloc _).alloc _, ((b1.alloc _).alloc _).alloc _, (b2.alloc _).alloc _, b3.alloc _, b4, s4.symm,
    (((l0.trans (l1.mono l0.size)).trans (l2.mono (by omega))).trans (l3.mono (by omega))).trans (l4.mono (by omega))⟩
theorem boxes6 {w : World} {z : Nat} (hz : z = w.heap.size) (v0 v1 v2 v3 v4 v5 : Value) (T0 T1 T2 T3 T4 T5 : TypeId) {W : World}
    (hW : W = (((((w.alloc (.cells #[v0] T0)).alloc (.cells #[v1] T1)).alloc (.cells #[v2] T2)).alloc (.cells #[v3] T3)).alloc (.cells #[v4] T4)).alloc (.cells #[v5] T5)) :
    Box W z v0 ∧ Box W (z + 1) v1 ∧ Box W (z + 2) v2 ∧ Box W (z + 3) v3 ∧ Box W (z + 4) v4 ∧ Box W (z + 5) v5 ∧ W.heap.size = z + 6 ∧ Below w.heap.size w W := by
  subst hW
  obtain ⟨b0, b1, b2, b3, b4, s4, l4⟩ := boxes5 hz v0 v1 v2 v3 v4 T0 T1 T2 T3 T4 rfl
  obtain ⟨b5, s5, l5⟩ := box_next s4.symm v5 T5
  exact ⟨b0.alloc _, b1.alloc _, b2.alloc _, b3.alloc _, b4.alloc _, b5, s5.symm, l4.trans (l5.mono l4.size)⟩

theorem keeps_set {B : Nat} {W w : World} (h : KeepsFrom B W w) (p : Addr) (v : Value) : KeepsFrom B W (w.setCell p v) := h.trans ((KeepsOthers.setCell _ _ _).from B)
theorem keeps_drew {B : Nat} {W w : World} (h : KeepsFrom B W w) : KeepsFrom B W w.drew := h.trans ((KeepsOthers.drew _).from B)
theorem keeps_below {B : Nat} {W w w' : World} (h : KeepsFrom B W w) (hb : Below w.heap.size w w') : KeepsFrom B W w' :=
  h.trans ⟨hb.size, fun k _ _ hk _ => (hb.block k (Array.getElem?_eq_some_iff.1 hk).1).trans hk⟩
end Go.Proofs.YtcbebikcfcidmaaDoor

namespace Go.Proofs.YtcbebikcfcidmaaDoor
open Go.RowKit Go.Shelf

/-- A function that is ranged over, whose rounds are numbered: round k hands over 'args k', there are N of them, and ahead of round k it reads what 'Rd k' says. -/
def SeqAt (P : Program) (gf : Nat) (lb : Array Value) (N : Nat) (args : Nat → Array Value) (Rd : Nat → World → Prop) : Prop :=
  ∀ (m l : Nat) (J Jx : Nat → World → Prop) (W : World), (∀ k W1, J k W1 → Rd k W1) → (∀ k W1, J k W1 → J k W1.drew) →
    (∀ k W1, k < N → J k W1 → YieldAt Fence.wide m P l (args k) W1 fun e W' => (e = .returned (.bool true) ∧ J (k + 1) W') ∨ (e = .returned (.bool false) ∧ Jx (k + 1) W')) →
    J 0 W → CallsIn Fence.wide (m + 1) P gf (#[.func (.yield l) #[] #[]] ++ lb) W fun e W' => (∃ v, e = .returned v) ∧ (J N W' ∨ ∃ k, k ≤ N ∧ Jx k W')

/-- How a round's body may be left: off its end, or by a return. -/
def roundAt (B : Nat) (I Ir : Nat → World → Prop) (k : Nat) (W : World) : Exit → Act → World → Prop
  | .normal, _, W' => KeepsFrom B W W' ∧ I k W'
  | .ret, _, W' => KeepsFrom B W W' ∧ Ir k W'
  | _, _, _ => False

theorem below_putObj {B : Nat} (W : World) (l : Nat) (o : Obj) (hl : B ≤ l) (hB : B ≤ W.heap.size) : Below B W (W.putObj l o) :=
  (Below.refl B W).grown (grownBy_putObj' W l o) hB (fun k e => by cases e; exact hl)

variable {P : Program}
set_option maxHeartbeats 400000 in
/-- The statement 'for .. := range f', by numbered rounds. -/
theorem wpIn_range_at {m : Nat} {g : Operand} {ps : Array Tmp} {assign body : Code} {Q : Exit → Act → World → Prop} {a : Act} {w : World} {gf : Nat} {lb : Array Value}
    (hg : a.eval g = .func (.func gf) #[] lb) (eg : ∀ args w, (callFunc gf args).run P w = .ok (.enter gf args) w)
    {N : Nat} {args : Nat → Array Value} {Rd : Nat → World → Prop} (hseq : SeqAt P gf lb N args Rd) (hps : ∀ k, (args k).size = ps.size)
    (I Ir : Nat → World → Prop) (hI : ∀ k W W', Below w.heap.size W W' → I k W → I k W') (hIr : ∀ k W W', Below w.heap.size W W' → Ir k W → Ir k W')
    (hsz : ∀ k W, I k W → w.heap.size ≤ W.heap.size) (hszr : ∀ k W, Ir k W → w.heap.size ≤ W.heap.size)
    (hRd : ∀ k W, I k W → Rd k W) (h0 : I 0 w) (a₁ : Nat → Act)
    (hassign : ∀ (l k : Nat) (W : World) (K : Act → World → Prop), K (a₁ k) W →
      assign.wpIn (Fence.wide.inRound l) m P (Exit.then K (fun _ _ _ => False)) { tmps := (ps.zip (args k)).foldl (fun t (p, v) => t.setIfInBounds p v) a.tmps, defers := [] } W)
    (hbody : ∀ (l k : Nat) (W : World), k < N → I k W → body.wpIn (Fence.wide.inRound l) m P (roundAt w.heap.size I Ir (k + 1) W) (a₁ k) W)
    (hdone : ∀ (D : Nat) (W : World), w.heap.size ≤ D → I N W → W.heap[D]? = some (.deferred (some [])) → Q .normal { a with defers := { target := .collected D, args := #[] } :: a.defers } W)
    (hstop : ∀ (D k : Nat) (W : World), w.heap.size ≤ D → k ≤ N → Ir k W → W.heap[D]? = some (.deferred (some [])) → Code.ret.wpIn Fence.wide (m + 2) P Q { a with defers := { target := .collected D, args := #[] } :: a.defers } W) :
    (Code.rangeFunc g ps assign body).wpIn Fence.wide (m + 2) P Q a w := by
  refine wpIn_rangeFunc fun fn hfn => ?_
  obtain ⟨rec, hrec⟩ : ∃ rec : LoopState → Option Code → Loop, ∀ st pe, rec st pe = { state := st, pending := pe, fn, tmps := a.tmps, params := ps, assign, body, defers := w.heap.size } := ⟨_, fun _ _ => rfl⟩
  have hb1 : Below w.heap.size w ((w.alloc (.deferred (some []))).alloc (.loop (rec .ready none))) := Below.alloc (Below.alloc (Below.refl _ _) (Nat.le_refl _) _) (by rw [World.size_alloc]; omega) _
  have hD1 : ((w.alloc (.deferred (some []))).alloc (.loop (rec .ready none))).heap[w.heap.size]? = some (.deferred (some [])) := (Below.heap_alloc _ _ _ (by simp)).trans (World.alloc_heap_new w _)
  have hL1 : ((w.alloc (.deferred (some []))).alloc (.loop (rec .ready none))).heap[w.heap.size + 1]? = some (.loop (rec .ready none)) := by
    have := World.alloc_heap_new (w.alloc (.deferred (some []))) (.loop (rec .ready none))
    rwa [World.size_alloc] at this
  have he0 : (Instr.enterLoop fn a.tmps ps assign body none).run P w = .ok (w.heap.size + 1, [{ target := .collected w.heap.size, args := #[] }]) ((w.alloc (.deferred (some []))).alloc (.loop (rec .ready none))) := by
    rw [run_enterLoop_outer, hrec]
  generalize (w.alloc (.deferred (some []))).alloc (.loop (rec .ready none)) = W1 at hb1 hD1 hL1 he0
  have hcalls : CallsIn Fence.wide (m + 1) P gf (#[.func (.yield (w.heap.size + 1)) #[] #[]] ++ lb) W1
      (rangePost Fence.wide (m + 2) P (w.heap.size + 1) Q { a with defers := [{ target := .collected w.heap.size, args := #[] }] ++ a.defers }) := by
    refine (hseq m (w.heap.size + 1)
      (fun k W => I k W ∧ W.heap[w.heap.size]? = some (.deferred (some [])) ∧ W.heap[w.heap.size + 1]? = some (.loop (rec .ready none)))
      (fun k W => Ir k W ∧ W.heap[w.heap.size]? = some (.deferred (some [])) ∧ W.heap[w.heap.size + 1]? = some (.loop (rec .done (some .ret))))
      W1 (fun k W h => hRd k W h.1) (fun k W h => ⟨hI k W W.drew ((Below.refl _ _).drew) h.1, h.2⟩) ?_ ⟨hI 0 w W1 hb1 h0, hD1, hL1⟩).mono ?_
    · rintro k W hk ⟨hi, hD, hL⟩
      have hy := run_yield (P := P) (args := args k) hL (by rw [hrec]; exact hps k)
      rw [hrec] at hy
      have hB := hsz k W hi
      have hlt := (Array.getElem?_eq_some_iff.1 hL).1
      have hbr := run_beginRound (P := P) hL (by rw [hrec])
      have b2 : Below w.heap.size W (W.putObj (w.heap.size + 1) (.loop { rec .ready none with state := .busy })) := below_putObj W _ _ (by omega) hB
      have hL2 : (W.putObj (w.heap.size + 1) (.loop { rec .ready none with state := .busy })).heap[w.heap.size + 1]? = some (.loop (rec .busy none)) := by rw [World.putObj_heap_same hlt, hrec, hrec]
      have hD2 : (W.putObj (w.heap.size + 1) (.loop { rec .ready none with state := .busy })).heap[w.heap.size]? = some (.deferred (some [])) := (World.putObj_heap_other (by omega)).trans hD
      generalize W.putObj (w.heap.size + 1) (.loop { rec .ready none with state := .busy }) = W2 at hbr b2 hL2 hD2
      refine ⟨_, _, _, _, hy, roundIn_of_wpIn hfn (hassign _ k W _ ⟨W2, hbr, ?_⟩)⟩
      refine wpIn_mono (hbody _ k W2 hk (hI k W W2 b2 hi)) ?_
      have fin : ∀ (jump : Option Code) (W3 : World), KeepsFrom w.heap.size W2 W3 → ∃ W4, (Instr.endRound (w.heap.size + 1) jump).run P W3 = .ok (.bool jump.isNone) W4 ∧
          Below w.heap.size W3 W4 ∧ W4.heap[w.heap.size]? = some (.deferred (some [])) ∧ W4.heap[w.heap.size + 1]? = some (.loop (rec (if jump.isNone then .ready else .done) jump)) := by
        intro jump W3 k3
        have hL3 := k3.same _ _ (by omega) hL2 rfl
        have hD3 := k3.same _ _ (by omega) hD2 rfl
        have hlt3 := (Array.getElem?_eq_some_iff.1 hL3).1
        refine ⟨_, run_endRound jump hL3, below_putObj W3 _ _ (by omega) (by omega), (World.putObj_heap_other (by omega)).trans hD3, ?_⟩
        rw [World.putObj_heap_same hlt3, hrec, hrec]
      rintro e a3 W3 hp
      cases e with
      | normal =>
        obtain ⟨W4, r4, b4, d4, l4⟩ := fin none W3 hp.1
        exact ⟨_, W4, r4, .inl ⟨rfl, hI _ W3 W4 b4 hp.2, d4, l4⟩⟩
      | ret =>
        obtain ⟨W4, r4, b4, d4, l4⟩ := fin (some .ret) W3 hp.1
        exact ⟨_, W4, r4, .inr ⟨rfl, hIr _ W3 W4 b4 hp.2, d4, l4⟩⟩
      | exit id => exact hp.elim
      | goto t => exact hp.elim
      | panic ch => exact hp.elim
      | outgrown => exact hp.elim
    · rintro e W2 ⟨⟨v, rfl⟩, ⟨hi, hD, hL⟩ | ⟨k, hk, hi, hD, hL⟩⟩
      · have he := run_endLoop (P := P) hL (by rw [hrec]; simp)
        refine ⟨_, _, he, ?_⟩
        rw [show (rec .ready none).pending = none by rw [hrec]]
        exact hdone _ _ (Nat.le_refl _) (hI N W2 _ (below_putObj W2 _ _ (by omega) (hsz N W2 hi)) hi) ((World.putObj_heap_other (by omega)).trans hD)
      · have he := run_endLoop (P := P) hL (by rw [hrec]; simp)
        refine ⟨_, _, he, ?_⟩
        rw [show (rec .done (some .ret)).pending = some .ret by rw [hrec]]
        exact hstop _ k _ (Nat.le_refl _) hk (hIr k W2 _ (below_putObj W2 _ _ (by omega) (hszr k W2 hi)) hi) ((World.putObj_heap_other (by omega)).trans hD)
  have hr0 : (resolve a.eval (rangeCall g (w.heap.size + 1)) 0).run P W1 = .ok { target := .fn (.func gf) lb, args := #[.func (.yield (w.heap.size + 1)) #[] #[]] } W1 := by
    simp only [resolve, hg]
    simp [go_sem]
  have hi0 : (invoke (.fn (.func gf) lb) #[.func (.yield (w.heap.size + 1)) #[] #[]]).run P W1 = .ok (.enter gf (#[.func (.yield (w.heap.size + 1)) #[] #[]] ++ lb)) W1 := by
    simp [invoke, go_sem, eg]
  exact ⟨w.heap.size + 1, [{ target := .collected w.heap.size, args := #[] }], W1, _, W1, gf, _, W1, he0, hr0, fun _ _ => trivial, hi0, fun _ => Nat.succ_le_succ (Nat.zero_le _), hcalls⟩
/-- The wide fence lets every function in. -/
theorem wide_fn (f : Nat) : Fence.wide.fn f = True := by simp [Fence.wide]
end Go.Proofs.YtcbebikcfcidmaaDoor

namespace Go.Proofs.YtcbebikcfcidmaaDoor
open Go.RowKit

def noDefer (ops : Array Oper) : Bool := ops.all fun o => match o.op with | .defer _ => false | _ => true
theorem noDefer_at {ops : Array Oper} (h : noDefer ops = true) {i : Nat} {o : Oper} (hi : ops[i]? = some o) : ∀ c, o.op ≠ .defer c := by
  obtain ⟨hlt, e⟩ := Array.getElem?_eq_some_iff.1 hi
  have h1 := Array.all_eq_true.1 h i hlt
  rw [e] at h1
  intro c hc
  rw [hc] at h1
  cases h1

section
variable {P : Program} {l m : Nat} {ops : Array Oper} {Q : Exit → Act → World → Prop} {md : Region.Mode}
theorem depth_wide (n : Nat) : (Fence.wide.inRound l).depth.isSome = true → 1 ≤ n := fun h => Bool.noConfusion h
theorem operIn_of {o : Oper} {a : Act} {w : World} {K : Act → World → Prop} (hd : ∀ c, o.op ≠ .defer c) (h : o.wp P a w K Q) : o.wpIn (Fence.wide.inRound l) m P a w K Q := by
  refine ⟨fun _ _ => trivial, ?_⟩
  show o.uponIn _ _ _ _ _ _ ((o.semAt (some l) a.eval).run P w)
  rw [Oper.semAt_some l _ _ hd]
  unfold Oper.wp at h
  generalize (execOp a.eval o).run P w = r at h ⊢
  cases r with
  | halt x w' => cases x <;> first | exact h | exact h.elim
  | ok x w' =>
    cases x with
    | value v => exact h
    | skip => exact h
    | defer d => exact h
    | enter f args => exact ⟨depth_wide m, CallsIn.inRound l (callsIn_wide.2 h)⟩
    | row r args =>
      refine ⟨depth_wide m, fun c cs _ => ?_⟩
      obtain ⟨v, w'', hr, hs⟩ := h c cs
      exact ⟨v, w'', hr, stepsIn_wide.2 hs⟩
    | round l' f t a b => exact h.elim
    | _ => exact h.elim
theorem wpOpIn_of (hn : noDefer ops = true) (hq : ¬ LetsOut Q) {i : Nat} {a : Act} {w : World} {K : Act → World → Prop} (h : wpOp P ops Q i K a w) : wpOpIn (Fence.wide.inRound l) m P ops Q i K a w := by
  unfold wpOp at h
  unfold Go.wpOpIn
  cases hi : ops[i]? with
  | none => simpa [hi] using h
  | some o =>
    simp only [hi] at h ⊢
    split
    · rename_i hw
      rw [if_pos hw] at h
      exact operIn_of (noDefer_at hn hi) (h.resolve_right fun h' => hq h'.2)
    · rename_i hw
      rw [if_neg hw] at h
      exact ⟨fun _ _ => trivial, h⟩
theorem wpAnyIn_of (hn : noDefer ops = true) (hq : ¬ LetsOut Q) : ∀ (fuel : Nat) (listed : Array Bool) (a : Act) (w : World), wpAny P md ops Q fuel listed a w → wpAnyIn (Fence.wide.inRound l) m P md ops Q fuel listed a w
  | 0, _, _, _, h => h
  | fuel + 1, _, _, _, h => ⟨h.1, fun i hi => wpOpIn_mono (fun a w => wpAnyIn_of hn hq fuel _ a w) (wpOpIn_of hn hq (h.2 i hi))⟩

/-- A region, walked in the text's order: an operation that is marked yields its value in every world that meets S, and may come up at any time; one that is not marked is the only one that may come up. -/
def okS (md : Region.Mode) (ops : Array Oper) : List Bool → Nat → Array Bool → Bool
  | [], _, listed => (Region.ready md ops listed).isEmpty
  | true :: fl, k, listed => (Region.ready md ops listed).contains k && (Region.free md ops listed k && okS md ops fl (k + 1) (listed.setIfInBounds k true))
  | false :: fl, k, listed => Region.ready md ops listed == [k] && okS md ops fl (k + 1) (listed.setIfInBounds k true)
def walkS (P : Program) (ops : Array Oper) (Q : Exit → Act → World → Prop) (S : World → Prop) : List Oper → List Bool → Act → World → Prop
  | o :: r, true :: fl, a, w => S w ∧ ∃ v, (Region.wanted o (yielded ops a.tmps) = true ∧ ∀ w', S w' → (execOp a.eval o).run P w' = .ok (.value v) w') ∧ walkS P ops Q S r fl (a.put o.dst v) w
  | o :: r, false :: fl, a, w => Region.wanted o (yielded ops a.tmps) = true ∧ o.wp P a w (fun a' w' => S w' ∧ walkS P ops Q S r fl a' w') Q
  | _, _, a, w => Q .normal a w
theorem wpAnyH_walk {S : World → Prop} (hs : Region.noSelect ops = true) (hQ : ∀ c a d v w, Q (.panic c) (Act.put a d v) w → Q (.panic c) a w) :
    ∀ (L : List Oper) (fl : List Bool) (k : Nat) (listed : Array Bool) (a : Act) (w : World), (∀ j, L[j]? = ops[k + j]?) → fl.length = L.length → okS md ops fl k listed = true → walkS P ops Q S L fl a w → wpAnyH P md ops Q S L.length listed a w
  | [], fl, k, listed, a, w, _, hf, hok, h => by
    obtain rfl : fl = [] := List.eq_nil_of_length_eq_zero hf
    exact wpAnyH_done (List.isEmpty_iff.1 hok) h 0
  | o :: L, [], _, _, _, _, _, hf, _, _ => by simp at hf
  | o :: L, true :: fl, k, listed, a, w, hl, hf, hok, h => by
    have h0 : ops[k]? = some o := by simpa using (hl 0).symm
    simp only [okS, Bool.and_eq_true] at hok
    obtain ⟨hr, hfree, hok'⟩ := hok
    obtain ⟨hS, v, ⟨hw, hy⟩, hrest⟩ := h
    exact wpAnyH_take h0 hs hfree hr (fun c a w => hQ c a _ _ w) (.inl ⟨hw, hy⟩) hS
      (wpAnyH_walk hs hQ L fl (k + 1) _ _ w (fun j => by have := hl (j + 1); rw [List.getElem?_cons_succ] at this; rw [this]; congr 1; omega) (by simpa using hf) hok' hrest)
  | o :: L, false :: fl, k, listed, a, w, hl, hf, hok, h => by
    have h0 : ops[k]? = some o := by simpa using (hl 0).symm
    simp only [okS, Bool.and_eq_true] at hok
    obtain ⟨hr, hok'⟩ := hok
    have hr' : Region.ready md ops listed = [k] := by simpa using hr
    obtain ⟨hw, hop⟩ := h
    refine wpAnyH_all hr' (by simp) fun i hi => ?_
    have hik : i = k := by simpa using hi
    subst hik
    unfold wpOp
    simp only [h0]
    rw [if_pos hw]
    exact .inl (Oper.wp_mono (fun a' w' hh => ⟨hh.1, wpAnyH_walk hs hQ L fl (i + 1) _ _ w' (fun j => by have := hl (j + 1); rw [List.getElem?_cons_succ] at this; rw [this]; congr 1; omega) (by simpa using hf) hok' hh.2⟩) hop)
/-- In a round: a region, walked in the text's order. -/
theorem wpIn_region_walk {id : Nat} {a : Act} {w : World} {L : List Oper} (S : World → Prop) (fl : List Bool) (hm : P.follows .mixedOrders = true) (hs : Region.noSelect L.toArray = true) (hn : noDefer L.toArray = true)
    (hf : fl.length = L.length) (hok : okS .any L.toArray fl 0 (Array.replicate L.toArray.size false) = true) (hq : ¬ LetsOut Q) (hQ : ∀ c a d v w, Q (.panic c) (Act.put a d v) w → Q (.panic c) a w)
    (h : walkS P L.toArray Q S L fl a w.drew) : (Code.region id L.toArray true).wpIn (Fence.wide.inRound l) m P Q a w := by
  refine wpIn_region_any hm (wpAnyIn_of hn hq _ _ _ _ (wpAny_of_held (S := S) _ _ _ _ ?_))
  have := wpAnyH_walk (md := .any) hs hQ L fl 0 (Array.replicate L.toArray.size false) a w.drew (fun j => by simp) hf hok h
  simpa using this
/-- The same ahead of a plain walk. -/
theorem wp_region_walk {id : Nat} {a : Act} {w : World} {L : List Oper} (S : World → Prop) (fl : List Bool) (hm : P.follows .mixedOrders = true) (hs : Region.noSelect L.toArray = true)
    (hf : fl.length = L.length) (hok : okS .any L.toArray fl 0 (Array.replicate L.toArray.size false) = true) (hQ : ∀ c a d v w, Q (.panic c) (Act.put a d v) w → Q (.panic c) a w)
    (h : walkS P L.toArray Q S L fl a w.drew) : (Code.region id L.toArray true).wp P Q a w := by
  refine wp_region_any hm (wpAny_of_held (S := S) _ _ _ _ ?_)
  have := wpAnyH_walk (md := .any) hs hQ L fl 0 (Array.replicate L.toArray.size false) a w.drew (fun j => by simp) hf hok h
  simpa using this
/-- Two steps of it: marked, and not. -/
theorem walkS_yes {S : World → Prop} {o : Oper} {r : List Oper} {fl : List Bool} {a : Act} {w : World} (hS : S w) {v : Value} (hw : Region.wanted o (yielded ops a.tmps) = true) (hy : ∀ w', S w' → (execOp a.eval o).run P w' = .ok (.value v) w')
    (h : walkS P ops Q S r fl (a.put o.dst v) w) : walkS P ops Q S (o :: r) (true :: fl) a w := ⟨hS, v, ⟨hw, hy⟩, h⟩
theorem walkS_no {S : World → Prop} {o : Oper} {r : List Oper} {fl : List Bool} {a : Act} {w : World} (hw : Region.wanted o (yielded ops a.tmps) = true)
    (h : ∀ K : Act → World → Prop, (∀ a' w', S w' → walkS P ops Q S r fl a' w' → K a' w') → o.wp P a w K Q) : walkS P ops Q S (o :: r) (false :: fl) a w :=
  ⟨hw, h _ fun _ _ hS' h' => ⟨hS', h'⟩⟩
end
end Go.Proofs.YtcbebikcfcidmaaDoor

namespace Go.Proofs.YtcbebikcfcidmaaDoor
open Go.Shelf
def Tryd.lays134_ren : Go.Shelf.Ren := ⟨fun | 134 => 72 | 129 => 66 | n => n, fun | 53 => 58 | 3 => 3 | 4 => 4 | 46 => 126 | 5 => 5 | 9 => 9 | n => n, fun | n => n⟩
theorem Tryd.lays134 : Go.Proofs.Lays.n134 Tryd.prog Tryd.lays134_ren := {
  mixed := by kernel_rfl
  f129 := Tryd.func66.trans (congrArg some (by kernel_rfl))
  f134 := Tryd.func72.trans (congrArg some (by kernel_rfl))
  t3 := Tryd.underlying3
  a3 := Tryd.isAgg3
  z3 := Tryd.sizeOf3
  v3 := Tryd.zeroValue3
  t4 := Tryd.underlying4
  a4 := Tryd.isAgg4
  z4 := Tryd.sizeOf4
  v4 := Tryd.zeroValue4
  t5 := Tryd.underlying5
  a5 := Tryd.isAgg5
  z5 := Tryd.sizeOf5
  v5 := Tryd.zeroValue5
  t9 := Tryd.underlying9
  a9 := Tryd.isAgg9
  z9 := Tryd.sizeOf9
  v9 := Tryd.zeroValue9
  t46 := Tryd.underlying126
  a46 := Tryd.isAgg126
  z46 := Tryd.sizeOf126
  v46 := Tryd.zeroValue126
  t53 := Tryd.underlying58
  a53 := Tryd.isAgg58
  z53 := Tryd.sizeOf58
  v53 := Tryd.zeroValue58 }

theorem Tryd.bits_LeadingZeros64 (x : Int) (w : World) (h0 : 0 ≤ x) (h1 : x ≤ 18446744073709551615) :
    Calls Tryd.prog 72 #[.int .u64 x] w fun e w' => e = .returned (.int .i64 (64 - (Lib.bitLen x.toNat : Int))) ∧ w' = w := Any.bits_LeadingZeros64 Tryd.lays134 x w h0 h1
def Tryd.lays129_ren : Go.Shelf.Ren := ⟨fun | 129 => 66 | n => n, fun | 53 => 58 | 3 => 3 | 4 => 4 | 46 => 126 | 5 => 5 | 9 => 9 | n => n, fun | n => n⟩
theorem Tryd.lays129 : Go.Proofs.Lays.n129 Tryd.prog Tryd.lays129_ren := {
  mixed := by kernel_rfl
  f129 := Tryd.func66.trans (congrArg some (by kernel_rfl))
  t3 := Tryd.underlying3
  a3 := Tryd.isAgg3
  z3 := Tryd.sizeOf3
  v3 := Tryd.zeroValue3
  t4 := Tryd.underlying4
  a4 := Tryd.isAgg4
  z4 := Tryd.sizeOf4
  v4 := Tryd.zeroValue4
  t5 := Tryd.underlying5
  a5 := Tryd.isAgg5
  z5 := Tryd.sizeOf5
  v5 := Tryd.zeroValue5
  t9 := Tryd.underlying9
  a9 := Tryd.isAgg9
  z9 := Tryd.sizeOf9
  v9 := Tryd.zeroValue9
  t46 := Tryd.underlying126
  a46 := Tryd.isAgg126
  z46 := Tryd.sizeOf126
  v46 := Tryd.zeroValue126
  t53 := Tryd.underlying58
  a53 := Tryd.isAgg58
  z53 := Tryd.sizeOf58
  v53 := Tryd.zeroValue58 }

theorem Tryd.bits_Len64 (x : Int) (w : World) (h0 : 0 ≤ x) (h1 : x ≤ 18446744073709551615) :
    Calls Tryd.prog 66 #[.int .u64 x] w fun e w' => e = .returned (.int .i64 (Lib.bitLen x.toNat)) ∧ w' = w := Any.bits_Len64 Tryd.lays129 x w h0 h1
def Tryd.lays264_ren : Go.Shelf.Ren := ⟨fun | 264 => 90 | n => n, fun | 53 => 58 | 46 => 126 | n => n, fun | n => n⟩
theorem Tryd.lays264 : Go.Proofs.Lays.n264 Tryd.prog Tryd.lays264_ren := {
  mixed := by kernel_rfl
  f264 := Tryd.func90.trans (congrArg some (by kernel_rfl))
  t46 := Tryd.underlying126
  a46 := Tryd.isAgg126
  z46 := Tryd.sizeOf126
  v46 := Tryd.zeroValue126
  t53 := Tryd.underlying58
  a53 := Tryd.isAgg58
  z53 := Tryd.sizeOf58
  v53 := Tryd.zeroValue58 }
open Go.RowKit Go.Lib in
theorem Tryd.bits_Mul64 (x y : Nat) (hx : x < 18446744073709551616) (hy : y < 18446744073709551616) (w : World) :
    Calls Tryd.prog 90 #[.int .u64 x, .int .u64 y] w fun e w' => e = .returned (.tuple #[.int .u64 ((x * y / 18446744073709551616 : Nat) : Int), .int .u64 ((x * y % 18446744073709551616 : Nat) : Int)]) ∧ w' = w := Any.bits_Mul64 Tryd.lays264 x y hx hy w
end Go.Proofs.YtcbebikcfcidmaaDoor
