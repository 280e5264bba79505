/-
  The texts NatDiv, NatGcd, NatSet, NatSetW, NatRoot, NatTextM, NatParseM, NatQParse, NatQGroup, NatQFrom, NatByLimb, NatQFill, one behind the other.
-/
import Derived.Test.YtofpcdjoljjnoaaDoorTapZ06
import Derived.Test.YtofpcdjoljjnoaaDoorTapZ04
import Derived.Test.YtofpcdjoljjnoaaDoorTapZ03

namespace Go.Proofs.YtofpcdjoljjnoaaDoor
open Go.RowKit

def DivPost (w : World) (na nb : Nat) (e : Ending) (w' : World) : Prop :=
  ∃ vq vr, e = .returned (.tuple #[vq, vr]) ∧ NRow w.heap.size w' vq (nrow (na / nb)) ∧ NRow w.heap.size w' vr (nrow (na % nb)) ∧ Below w.heap.size w w'

/-- Digits of the quotient from t on have been laid. -/
def DivRel (K X Y N g : Nat) (vx vy : Value) (w : World) (r i : Value) (wr : World) : Prop :=
  ∃ (t : Nat) (o : List Nat), t ≤ N ∧ i = .int .i64 ((t : Int) - 1) ∧ NNum K wr r (X / 2 ^ (32 * t) % Y) ∧ r.ownBlock ≠ some g ∧ o.length = N ∧ Small o ∧ (∀ j, j < t → o.getD j 0 = 0) ∧
    dv o = 2 ^ (32 * t) * (X / 2 ^ (32 * t) / Y) ∧ NNum K wr vx X ∧ NNum K wr vy Y ∧ wr.ownsRow w.heap.size 64 1 (.slice (some ⟨g, 0, none⟩) N N) N (U o) ∧ Below w.heap.size w wr

/-- A guess is taken down. -/
def GuessRel (K X Y R N g : Nat) (o : List Nat) (vx vy vr : Value) (w : World) (gs p : Value) (wr : World) : Prop :=
  ∃ gn : Nat, R / Y ≤ gn ∧ gn ≤ 4294967295 ∧ gs = .int .u64 (gn : Int) ∧ NNum K wr p (Y * gn) ∧ NNum K wr vx X ∧ NNum K wr vy Y ∧ NNum K wr vr R ∧
    wr.ownsRow w.heap.size 64 1 (.slice (some ⟨g, 0, none⟩) N N) N (U o) ∧ Below w.heap.size w wr

theorem NRow.off {B g : Nat} {w : World} {v : Value} {L : List Nat} (h : NRow B w v L) (hg : w.heap.size ≤ g) : v.ownBlock ≠ some g := fun e => by
  have := (World.ownsRow.lt h _ e).2
  omega
theorem NRow.off2 {B g : Nat} {w : World} {v : Value} {L : List Nat} (h : NRow B w v L) (hg : g < B) : v.ownBlock ≠ some g := fun e => by
  have := (World.ownsRow.lt h _ e).1
  omega
theorem NNum.setCell {K n : Nat} {w : World} {v : Value} {p : Addr} (h : NNum K w v n) (hp : v.ownBlock ≠ some p.block) (u : Value) : NNum K (w.setCell p u) v n := by
  obtain ⟨a, cap, L, rfl, h2, h3, h4, h5, h6, h7⟩ := h
  refine ⟨a, cap, L, rfl, h2, h3, h4, fun i hi => ?_, h6, h7⟩
  obtain ⟨b, off, rfl, hc⟩ := h5 i hi
  refine ⟨b, off, rfl, ?_⟩
  rw [World.cell?_setCell_other]
  · exact hc
  · intro e
    apply hp
    subst e
    rfl

end Go.Proofs.YtofpcdjoljjnoaaDoor

namespace Go.Proofs.YtofpcdjoljjnoaaDoor
open Go.RowKit

/-- A slice tells one number. -/
theorem NNum.uniq {K n m : Nat} {w : World} {v : Value} (h : NNum K w v n) (k : NNum K w v m) : n = m := by
  obtain ⟨a, cap, L, rfl, _, _, _, h5, rfl, _⟩ := h
  obtain ⟨a', cap', L', he, _, _, _, k5, rfl, _⟩ := k
  injection he with e1 e2 e3
  subst e1
  congr 1
  apply List.ext_getElem e2
  intro i h1 h2
  obtain ⟨b, off, ha, hc⟩ := h5 i h1
  obtain ⟨b', off', ha', hc'⟩ := k5 i h2
  rw [ha] at ha'
  injection ha' with ha'
  cases ha'
  rw [hc] at hc'
  injection hc' with hc'
  injection hc' with _ hc'
  rw [List.getD_eq_getElem?_getD, List.getD_eq_getElem?_getD, List.getElem?_eq_getElem h1, List.getElem?_eq_getElem h2] at hc'
  have h : (L[i] : Int) = (L'[i] : Int) := by simpa using hc'
  omega
open Classical in
/-- The number that a slice tells (for a loop's measure). -/
noncomputable def toldBy (K : Nat) (w : World) (v : Value) : Nat := if h : ∃ n, NNum K w v n then h.choose else 0
theorem toldBy_eq {K n : Nat} {w : World} {v : Value} (h : NNum K w v n) : toldBy K w v = n := by
  unfold toldBy
  rw [dif_pos ⟨n, h⟩]
  exact (Exists.choose_spec (p := fun n => NNum K w v n) ⟨n, h⟩).uniq h

def GcdRel (K G : Nat) (w : World) (a b : Value) (wr : World) : Prop :=
  ∃ (x y : Nat) (A : Option Addr) (cap : Nat), Nat.gcd x y = G ∧ NNum K wr a x ∧ NRow w.heap.size wr a (nrow x) ∧ b = .slice A (nrow y).length cap ∧ NNum K wr b y ∧ NRow w.heap.size wr b (nrow y) ∧ Below w.heap.size w wr

end Go.Proofs.YtofpcdjoljjnoaaDoor

namespace Go.Proofs.YtofpcdjoljjnoaaDoor
open Go.RowKit

theorem lv_set {l : List Nat} {j : Nat} (h : j < l.length) (v : Nat) : lv (l.set j v) + 2 ^ (64 * j) * l.getD j 0 = lv l + 2 ^ (64 * j) * v := by
  induction l generalizing j with
  | nil => simp at h
  | cons a l ih =>
    rcases j with _ | j
    · simp [lv]; omega
    · have h1 := ih (j := j) (by simpa using h)
      simp only [List.set_cons_succ, lv, List.getD_cons_succ]
      rw [Nat.mul_add 64, Nat.mul_one, Nat.add_comm (64 * j), Nat.pow_add, Nat.mul_assoc, Nat.mul_assoc]
      generalize lv (l.set j v) = p at *
      generalize 2 ^ (64 * j) * l.getD j 0 = q at *
      generalize 2 ^ (64 * j) * v = s at *
      omega
theorem or_bit {x m : Nat} (h : x % 2 ^ (m + 1) = 0) : x ||| 2 ^ m = x + 2 ^ m := by
  have h1 : x = 2 ^ (m + 1) * (x / 2 ^ (m + 1)) := by have := Nat.div_add_mod x (2 ^ (m + 1)); omega
  rw [h1, ← Nat.two_pow_add_eq_or_of_lt (Nat.pow_lt_pow_right (by omega) (by omega))]

/-- The row with zeros on top, as long as the place wants. -/
def padded (L : List Nat) (q : Nat) : List Nat := L ++ List.replicate (q + 1 - L.length) 0
theorem padded_length (L : List Nat) (q : Nat) : (padded L q).length = max L.length (q + 1) := by
  unfold padded; rw [List.length_append, List.length_replicate]; omega
theorem lv_padded (L : List Nat) (q : Nat) : lv (padded L q) = lv L := by
  unfold padded; rw [lv_append, lv_zeros]; simp
theorem padded_fits {L : List Nat} (h : Fits L) (q : Nat) : Fits (padded L q) := by
  intro x hx
  rcases List.mem_append.1 hx with h1 | h1
  · exact h x h1
  · have := List.eq_of_mem_replicate h1; omega

/-- A limb's low bits are the number's. -/
theorem limb_low {L : List Nat} (h : Fits L) (i : Nat) (h0 : lv L % 2 ^ (i + 1) = 0) : L.getD (i / 64) 0 % 2 ^ (i % 64 + 1) = 0 := by
  rw [← lv_limb h (i / 64)]
  have hd : 2 ^ (i % 64 + 1) ∣ 2 ^ 64 := Nat.pow_dvd_pow 2 (by have := Nat.mod_lt i (show 0 < 64 by omega); omega)
  rw [Nat.mod_mod_of_dvd _ hd]
  have e : i + 1 = 64 * (i / 64) + (i % 64 + 1) := by omega
  rw [e, Nat.pow_add] at h0
  rw [← Nat.mod_mul_right_div_self, h0]; simp

/-- The bit set: the one normal row of the sum. -/
theorem set_row {V i : Nat} (h0 : V % 2 ^ (i + 1) = 0) : (padded (nrow V) (i / 64)).set (i / 64) ((padded (nrow V) (i / 64)).getD (i / 64) 0 + 2 ^ (i % 64)) = nrow (V + 2 ^ i) := by
  have hf := padded_fits (nrow_fits V) (i / 64)
  have hlv : lv (padded (nrow V) (i / 64)) = V := by rw [lv_padded, lv_nrow]
  have hlen := padded_length (nrow V) (i / 64)
  have hj : i / 64 < (padded (nrow V) (i / 64)).length := by rw [hlen]; omega
  have hlow := limb_low hf i (by rw [hlv]; exact h0)
  have hm : i % 64 < 64 := Nat.mod_lt _ (by omega)
  have hs := lv_set hj ((padded (nrow V) (i / 64)).getD (i / 64) 0 + 2 ^ (i % 64))
  rw [hlv, Nat.mul_add, ← Nat.pow_add, Nat.div_add_mod] at hs
  have hv : lv ((padded (nrow V) (i / 64)).set (i / 64) ((padded (nrow V) (i / 64)).getD (i / 64) 0 + 2 ^ (i % 64))) = V + 2 ^ i := by omega
  rw [← hv]
  have hx : (padded (nrow V) (i / 64)).getD (i / 64) 0 < 2 ^ 64 := hf _ (by rw [List.getD_eq_getElem?_getD, List.getElem?_eq_getElem hj]; exact List.getElem_mem hj)
  have hx2 : (padded (nrow V) (i / 64)).getD (i / 64) 0 + 2 ^ (i % 64) < 2 ^ 64 := by
    generalize (padded (nrow V) (i / 64)).getD (i / 64) 0 = x at *
    generalize i % 64 = m at *
    have e1 : x = 2 ^ (m + 1) * (x / 2 ^ (m + 1)) := by have := Nat.div_add_mod x (2 ^ (m + 1)); omega
    have e2 : (2 : Nat) ^ 64 = 2 ^ (m + 1) * 2 ^ (63 - m) := by rw [← Nat.pow_add]; congr 1; omega
    have h3 : x / 2 ^ (m + 1) < 2 ^ (63 - m) := by rw [Nat.div_lt_iff_lt_mul (Nat.two_pow_pos _), Nat.mul_comm, ← e2]; exact hx
    have h4 : 2 ^ (m + 1) * (x / 2 ^ (m + 1) + 1) ≤ 2 ^ (m + 1) * 2 ^ (63 - m) := Nat.mul_le_mul_left _ h3
    rw [Nat.mul_add, ← e1, ← e2] at h4
    have h5 : 2 ^ m < 2 ^ (m + 1) := Nat.pow_lt_pow_right (by omega) (by omega)
    omega
  apply nrow_of
  · intro y hy
    rcases List.mem_or_eq_of_mem_set hy with h1 | h1
    · exact hf y h1
    · subst h1; exact hx2
  · right
    rw [List.length_set, List.getD_eq_getElem?_getD]
    by_cases hlast : i / 64 = (padded (nrow V) (i / 64)).length - 1
    · rw [← hlast, List.getElem?_set_self hj]
      have := Nat.two_pow_pos (i % 64)
      simp only [Option.getD_some]; omega
    · rw [List.getElem?_set_ne hlast, ← List.getD_eq_getElem?_getD]
      have hL : padded (nrow V) (i / 64) = nrow V := by
        unfold padded
        rw [show i / 64 + 1 - (nrow V).length = 0 by omega]; simp
      rw [hL]
      rcases nrow_last V with h1 | h1
      · exfalso; rw [hL, h1] at hj; simp at hj
      · exact h1
end Go.Proofs.YtofpcdjoljjnoaaDoor

namespace Go.Proofs.YtofpcdjoljjnoaaDoor
open Go.RowKit

def SetRel (B q : Nat) (L : List Nat) (w : World) (v : Value) (wr : World) : Prop :=
  ∃ (k len : Nat) (A : Option Addr) (cap : Nat), k ≤ q + 1 - L.length ∧ v = .slice A len cap ∧ len = L.length + k ∧ wr.ownsRow B 64 1 (.slice A len cap) len (U (L ++ List.replicate k 0)) ∧ Below B w wr
def SetPost (B n : Nat) (w : World) (e : Ending) (w' : World) : Prop := ∃ v, e = .returned v ∧ NRow B w' v (nrow n) ∧ Below B w w'
def sliceLen : Value → Nat | .slice _ n _ => n | _ => 0

end Go.Proofs.YtofpcdjoljjnoaaDoor

namespace Go.Proofs.YtofpcdjoljjnoaaDoor
open Go.RowKit

/-- There is one root. -/
theorem root_uniq {a x y : Nat} (h1 : x * x ≤ a) (h2 : a < (x + 1) * (x + 1)) (k1 : y * y ≤ a) (k2 : a < (y + 1) * (y + 1)) : x = y := by
  rcases Nat.lt_trichotomy x y with h | h | h
  · have : (x + 1) * (x + 1) ≤ y * y := Nat.mul_le_mul h h
    omega
  · exact h
  · have : (y + 1) * (y + 1) ≤ x * x := Nat.mul_le_mul h h
    omega

def RootPost (a : Nat) (w : World) (e : Ending) (w' : World) : Prop :=
  ∃ x v, e = .returned v ∧ NRow w.heap.size w' v (nrow x) ∧ x * x ≤ a ∧ a < (x + 1) * (x + 1) ∧ Below w.heap.size w w'

def RootRel (K a T : Nat) (w : World) (o i : Value) (wr : World) : Prop :=
  ∃ t x : Nat, t ≤ T ∧ i = .int .i64 ((t : Int) - 1) ∧ NRow w.heap.size wr o (nrow x) ∧ NNum K wr o x ∧ x % 2 ^ t = 0 ∧ x * x ≤ a ∧ a < (x + 2 ^ t) * (x + 2 ^ t) ∧ Below w.heap.size w wr

theorem root_next {a x t : Nat} (h0 : x % 2 ^ (t + 1) = 0) (h2 : a < (x + 2 ^ (t + 1)) * (x + 2 ^ (t + 1))) :
    ((x + 2 ^ t) * (x + 2 ^ t) ≤ a → (x + 2 ^ t) % 2 ^ t = 0 ∧ a < (x + 2 ^ t + 2 ^ t) * (x + 2 ^ t + 2 ^ t)) ∧ (¬ (x + 2 ^ t) * (x + 2 ^ t) ≤ a → x % 2 ^ t = 0 ∧ a < (x + 2 ^ t) * (x + 2 ^ t)) := by
  have hx : x % 2 ^ t = 0 := by
    have hd : 2 ^ t ∣ 2 ^ (t + 1) := Nat.pow_dvd_pow 2 (by omega)
    exact Nat.mod_eq_zero_of_dvd (Nat.dvd_trans hd (Nat.dvd_of_mod_eq_zero h0))
  have e : x + 2 ^ t + 2 ^ t = x + 2 ^ (t + 1) := by rw [Nat.pow_succ]; omega
  constructor
  · intro _
    refine ⟨?_, by rw [e]; exact h2⟩
    rw [Nat.add_mod, hx, Nat.mod_self]; simp
  · intro h
    exact ⟨hx, by omega⟩

theorem root_start {a : Nat} : a < (0 + 2 ^ (blen a / 2 + 1)) * (0 + 2 ^ (blen a / 2 + 1)) := by
  rw [Nat.zero_add, ← Nat.pow_add]
  exact Nat.lt_of_lt_of_le (lt_blen a) (Nat.pow_le_pow_right (by omega) (by omega))

end Go.Proofs.YtofpcdjoljjnoaaDoor

namespace Go.Proofs.YtofpcdjoljjnoaaDoor
open Go.RowKit

/-- Decimal digits; none for 0. -/
def dec (v : Nat) : List UInt8 := if _h : v = 0 then [] else dec (v / 10) ++ [byt (48 + v % 10)]
termination_by v
decreasing_by omega
theorem dec_zero : dec 0 = [] := by rw [dec]; simp
theorem dec_step {v : Nat} (h : v ≠ 0) : dec v = dec (v / 10) ++ [byt (48 + v % 10)] := by rw [dec, dif_neg h]
theorem dec_length {v k : Nat} (h : v < 10 ^ k) : (dec v).length ≤ k := by
  induction k generalizing v with
  | zero =>
    have : v = 0 := by simpa using h
    subst this; rw [dec_zero]; simp
  | succ k ih =>
    by_cases h0 : v = 0
    · subst h0; rw [dec_zero]; simp
    · rw [dec_step h0, List.length_append]
      have := ih (v := v / 10) (by rw [Nat.div_lt_iff_lt_mul (by omega)]; rw [Nat.pow_succ] at h; exact h)
      simp; omega
/-- A number's text. -/
def decT (v : Nat) : List UInt8 := if v = 0 then [48] else dec v
theorem dec_ne {v : Nat} (h : v ≠ 0) : dec v ≠ [] := by rw [dec_step h]; simp

theorem num_ten {w : World} (T : TypeId) : NNum 1 (w.alloc (.cells #[.int .u64 10] T)) (.slice (some ⟨w.heap.size, 0, none⟩) 1 1) 10 := num_lit (d := 10) T (by decide)

def TextRel (K na : Nat) (w : World) (a s : Value) (wr : World) : Prop :=
  ∃ (x : Nat) (A : Option Addr) (cap : Nat) (l : List UInt8), a = .slice A (nrow x).length cap ∧ NNum K wr a x ∧ s = .string (mk l) ∧ dec x ++ l = dec na ∧ Below w.heap.size w wr
def StrPost (l : List UInt8) (w : World) (e : Ending) (w' : World) : Prop := e = .returned (.string (mk l)) ∧ Below w.heap.size w w'
end Go.Proofs.YtofpcdjoljjnoaaDoor

namespace Go.Proofs.YtofpcdjoljjnoaaDoor
open Go.RowKit

/-- The number that digits tell. -/
def val10 (l : List UInt8) : Nat := l.foldl (fun a b => a * 10 + (b.toNat - 48)) 0
theorem val10_snoc (l : List UInt8) (b : UInt8) : val10 (l ++ [b]) = val10 l * 10 + (b.toNat - 48) := by simp [val10]
/-- Is it a digit? -/
def isD (b : UInt8) : Prop := 48 ≤ b.toNat ∧ b.toNat ≤ 57
def allD (l : List UInt8) : Prop := ∀ b ∈ l, isD b
theorem allD_snoc {l : List UInt8} {b : UInt8} (h : allD l) (hb : isD b) : allD (l ++ [b]) := by
  intro x hx
  rcases List.mem_append.1 hx with hx | hx
  · exact h x hx
  · simp at hx; subst hx; exact hb
theorem val10_lt {l : List UInt8} (h : allD l) : val10 l < 10 ^ l.length := by
  induction hn : l.length generalizing l with
  | zero =>
    have : l = [] := List.eq_nil_of_length_eq_zero hn
    subst this; simp [val10]
  | succ k ih =>
    obtain ⟨r, c, rfl⟩ := snoc_of hn
    have hk : r.length = k := by simpa using hn
    have h1 := ih (l := r) (fun b hb => h b (by simp [hb])) hk
    have h2 := h c (by simp)
    unfold isD at h2
    rw [val10_snoc, Nat.pow_succ]
    omega
theorem val10_big {l : List UInt8} (h : allD l) (hl : l.length ≤ 40000) (K : Nat) (hK : 2500 ≤ K) : val10 l < 2 ^ (64 * K) := by
  have h1 := val10_lt h
  have h2 : 10 ^ l.length ≤ 16 ^ l.length := Nat.pow_le_pow_left (by omega) _
  have h3 : (16 : Nat) ^ l.length = 2 ^ (4 * l.length) := by rw [Nat.pow_mul]
  have h4 : 2 ^ (4 * l.length) ≤ 2 ^ (64 * K) := Nat.pow_le_pow_right (by omega) (by omega)
  omega

open Classical in
/-- What a text is read as, and the error's number. -/
noncomputable def parseV (l : List UInt8) : Nat × Int := if 40000 < l.length then (0, 3) else if l = [] then (0, 5) else if allD l then (val10 l, 0) else (0, 5)
def ParsePost (n : Nat) (c : Int) (w : World) (e : Ending) (w' : World) : Prop := ∃ v, e = .returned (.tuple #[v, .int .i64 c]) ∧ NRow w.heap.size w' v (nrow n) ∧ Below w.heap.size w w'

def ParseRel (l : List UInt8) (w : World) (v i : Value) (wr : World) : Prop :=
  ∃ k : Nat, k ≤ l.length ∧ i = .int .i64 (k : Int) ∧ NRow w.heap.size wr v (nrow (val10 (l.take k))) ∧ allD (l.take k) ∧ Below w.heap.size w wr

theorem below_of_drew {w w1 : World} (h : Below w.drew.heap.size w.drew w1) : Below w.heap.size w w1 := ⟨h.os, h.tape, h.output, h.size, h.block⟩
theorem lit_at {w : World} {d g : Nat} (T : TypeId) (hd : d < 2 ^ 64) (hg : g = w.heap.size) : NNum 1 (w.alloc (.cells #[.int .u64 (d : Int)] T)) (.slice (some ⟨g, 0, none⟩) 1 1) d := by subst hg; exact num_lit T hd
theorem ten_at {w : World} {g : Nat} (T : TypeId) (hg : g = w.heap.size) : NNum 1 (w.alloc (.cells #[.int .u64 10] T)) (.slice (some ⟨g, 0, none⟩) 1 1) 10 := by subst hg; exact num_ten T
end Go.Proofs.YtofpcdjoljjnoaaDoor

namespace Go.Proofs.YtofpcdjoljjnoaaDoor
open Go.RowKit

def isDb (b : UInt8) : Bool := decide (48 ≤ b.toNat) && decide (b.toNat ≤ 57)
theorem isDb_iff (b : UInt8) : isDb b = true ↔ isD b := by unfold isDb isD; simp
def cntD (l : List UInt8) : Nat := (l.filter isDb).length
theorem cntD_snoc (l : List UInt8) (b : UInt8) : cntD (l ++ [b]) = cntD l + (if isDb b then 1 else 0) := by
  unfold cntD
  rw [List.filter_append, List.length_append]
  cases h : isDb b <;> simp [h]
theorem cntD_le (l : List UInt8) : cntD l ≤ l.length := List.length_filter_le _ _
theorem cntD_all {l : List UInt8} : cntD l = l.length ↔ allD l := by
  unfold cntD
  rw [List.length_filter_eq_length_iff]
  exact ⟨fun h b hb => (isDb_iff b).1 (h b hb), fun h b hb => (isDb_iff b).2 (h b hb)⟩

end Go.Proofs.YtofpcdjoljjnoaaDoor

namespace Go.Proofs.YtofpcdjoljjnoaaDoor
open Go.RowKit

theorem NRow.form {B : Nat} {w : World} {v : Value} {L : List Nat} (h : NRow B w v L) (hl : 0 < L.length) : ∃ g cap, v = .slice (some ⟨g, 0, none⟩) L.length cap := by
  rcases h.2 with ⟨_, h0⟩ | ⟨g, cap, _, hv, _⟩
  · omega
  · exact ⟨g, cap, hv⟩
theorem NRow.above {B n ca bl o : Nat} {w : World} {L : List Nat} (h : NRow B w (.slice (some ⟨bl, o, none⟩) n ca) L) : B ≤ bl := by
  rcases h.2 with ⟨h0, _⟩ | ⟨g, cap, _, hv, hg, _⟩
  · cases h0
  · cases hv; exact hg
/-- A row of the call's own, not nil. -/
def GRes (B n : Nat) (w : World) (e : Ending) (w' : World) : Prop :=
  ∃ g cap, e = .returned (.slice (some ⟨g, 0, none⟩) (nrow n).length cap) ∧ NRow B w' (.slice (some ⟨g, 0, none⟩) (nrow n).length cap) (nrow n) ∧ Below B w w'

theorem allD_take {l : List UInt8} (h : allD l) (k : Nat) : allD (l.take k) := fun b hb => h b (List.mem_of_mem_take hb)
theorem pow10_le {k : Nat} (hk : k ≤ 18) : 10 ^ k ≤ 1000000000000000000 := Nat.pow_le_pow_right (j := 18) (by omega) hk

end Go.Proofs.YtofpcdjoljjnoaaDoor

namespace Go.Proofs.YtofpcdjoljjnoaaDoor
open Go.RowKit

theorem val10_app (p q : List UInt8) : val10 (p ++ q) = val10 p * 10 ^ q.length + val10 q := by
  induction hn : q.length generalizing q with
  | zero =>
    obtain rfl : q = [] := List.eq_nil_of_length_eq_zero hn
    simp [val10]
  | succ k ih =>
    obtain ⟨r, c, rfl⟩ := snoc_of hn
    have hk : r.length = k := by simpa using hn
    rw [← List.append_assoc, val10_snoc, ih r hk, val10_snoc, Nat.pow_succ, Nat.add_mul, Nat.mul_assoc, Nat.add_assoc]
/-- One group more. -/
theorem val10_group (p q : List UInt8) (h : p = [] ∨ q.length = 19) : val10 p * 10000000000000000000 + val10 q = val10 (p ++ q) := by
  rw [val10_app]
  rcases h with rfl | h
  · simp [val10]
  · rw [h]

def FromAt (B : Nat) (l : List UInt8) (w : World) (s v : Value) (wr : World) : Prop :=
  ∃ (p m : List UInt8) (g cap : Nat), p ++ m = l ∧ s = .string (mk m) ∧ (p = [] ∨ m.length % 19 = 0) ∧ v = .slice (some ⟨g, 0, none⟩) (nrow (val10 p)).length cap ∧ NRow B wr (.slice (some ⟨g, 0, none⟩) (nrow (val10 p)).length cap) (nrow (val10 p)) ∧ Below B w wr
def strLen : Value → Nat
  | .string s => s.size
  | _ => 0

theorem val10_K {l : List UInt8} (h : allD l) (K : Nat) (hK : 4 * l.length ≤ 64 * K) : val10 l < 2 ^ (64 * K) := by
  have h1 := val10_lt h
  have h2 : 10 ^ l.length ≤ 16 ^ l.length := Nat.pow_le_pow_left (by omega) _
  have h3 : (16 : Nat) ^ l.length = 2 ^ (4 * l.length) := by rw [Nat.pow_mul]
  have h4 : 2 ^ (4 * l.length) ≤ 2 ^ (64 * K) := Nat.pow_le_pow_right (by omega) hK
  omega
theorem GRes.cells {B n : Nat} {w w' : World} {e : Ending} (h : GRes B n w e w') : ∃ v, e = .returned v ∧ NRow B w' v (nrow n) ∧ Below B w w' := by
  obtain ⟨g, cap, h1, h2, h3⟩ := h
  exact ⟨_, h1, h2, h3⟩

end Go.Proofs.YtofpcdjoljjnoaaDoor

namespace Go.Proofs.YtofpcdjoljjnoaaDoor
open Go.RowKit

def ByLimbPost (g off b : Nat) (A : List Nat) (w : World) (e : Ending) (w' : World) : Prop :=
  ∃ (O : List Nat) (r : Nat), e = .returned (.int .u64 (r : Int)) ∧ O.length = A.length ∧ Fits O ∧ lv O = lv A / b ∧ r = lv A % b ∧ Seg w' g off O ∧ Wrote g off (off + A.length) w w'

/-- The highest limbs divided. -/
def ByLimbAt (g off b : Nat) (A : List Nat) (w : World) (l i : Value) (W : World) : Prop :=
  ∃ (j r : Nat) (O : List Nat), j ≤ A.length ∧ i = .int .i64 ((j : Int) - 1) ∧ l = .int .u64 (r : Int) ∧ r < b ∧ O.length = A.length - j ∧ Fits O ∧ lv (A.drop j) = lv O * b + r ∧ Seg W g off (A.take j ++ O) ∧ Wrote g off (off + A.length) w W

theorem drop_pred {A : List Nat} {j : Nat} (hj : j < A.length) : lv (A.drop j) = A.getD j 0 + 18446744073709551616 * lv (A.drop (j + 1)) := by
  rw [List.drop_eq_getElem_cons hj]
  simp [lv, hj]
theorem set_pred {A O : List Nat} {j x : Nat} (hj : j < A.length) : (A.take (j + 1) ++ O).set j x = A.take j ++ (x :: O) := by
  have hl : (A.take j).length = j := by rw [List.length_take]; omega
  rw [List.take_succ_eq_append_getElem hj, List.append_assoc, List.set_append_right _ _ (by omega), hl, Nat.sub_self]
  rfl

set_option maxRecDepth 100000 in
set_option maxHeartbeats 4000000 in
theorem divideByLimb_any (g off ca b : Nat) (A : List Nat) (w : World) (hA : A.length ≤ 1099511627776) (fA : Fits A) (hb0 : 0 < b) (hb : b < 18446744073709551616) (hs : Seg w g off A) :
    Calls Tryd.prog 60 #[.slice (some ⟨g, off, none⟩) A.length ca, .int .u64 (b : Int)] w (ByLimbPost g off b A w) := by
  have FA := Lib.hid fA
  have HS := Lib.hid hs
  clear fA hs
  go_enter Tryd.func60, Tryd.ntmps60
  go_wp2_with fail
  go_loopw [5, 6] (fun l i W => ByLimbAt g off b A w l i W) (fun _ i _ => (intOf i + 1).toNat)
  case atStart => exact ⟨A.length, 0, [], Nat.le_refl _, rfl, rfl, hb0, by simp, fun x hx => (by cases hx), by simp [lv], by rw [List.take_length, List.append_nil]; exact HS.out, Wrote.refl _ _ _ _⟩
  case round =>
    obtain ⟨j, r, O, hj, rfl, rfl, hr, hO, fO, hv, hsg, hw⟩ := hrel
    have HO := Lib.hid hO
    have HFO := Lib.hid fO
    have HV := Lib.hid hv
    have HSG := Lib.hid hsg
    have HW := Lib.hid hw
    clear hO fO hv hsg hw
    rcases j with _ | j
    · have HR : Hid (lv O = lv A / b ∧ r = lv A % b) := Lib.hid (by
        have h := HV.out
        rw [List.drop_zero] at h
        rw [h, Nat.mul_comm, Nat.mul_add_div hb0, Nat.div_eq_of_lt hr, Nat.add_zero, Nat.mul_add_mod, Nat.mod_eq_of_lt hr]
        exact ⟨rfl, rfl⟩)
      go_wp2_with fail
      go_ret
      exact ⟨O, r, rfl, by have := HO.out; omega, HFO.out, HR.out.1, HR.out.2, by have := HSG.out; rwa [List.take_zero, List.nil_append] at this, HW.out⟩
    · have hjI : (((j + 1 : Nat) : Int) - 1) = (j : Int) := by omega
      rw [hjI]
      have hj0 : (0 : Int) ≤ (j : Int) := by omega
      have hjA : (j : Int) < (A.length : Int) := by omega
      obtain ⟨x, hx⟩ : ∃ x, x = A.getD j 0 := ⟨_, rfl⟩
      have hlen : (A.take (j + 1) ++ O).length = A.length := by rw [List.length_append, List.length_take, HO.out]; omega
      have hcell := HSG.out.cell (i := j) (by omega)
      have hxe : (A.take (j + 1) ++ O).getD j 0 = x := by
        rw [hx, List.getD_eq_getElem?_getD, List.getD_eq_getElem?_getD, List.getElem?_append_left (by rw [List.length_take]; omega)]
        simp
      rw [hxe] at hcell
      have hfr := HSG.out.frozen (off + j)
      have hxb : x < 18446744073709551616 := by rw [hx]; exact getD_fits FA.out j
      have HD := Lib.hid (div64_any r x b hxb hb hr wr)
      have hq1 : (r * 18446744073709551616 + x) / b < 18446744073709551616 := by
        rw [Nat.div_lt_iff_lt_mul hb0]
        have : (r + 1) * 18446744073709551616 ≤ b * 18446744073709551616 := Nat.mul_le_mul_right _ hr
        rw [Nat.mul_comm 18446744073709551616]
        omega
      have hq2 := Nat.div_add_mod' (r * 18446744073709551616 + x) b
      have hq3 := Nat.mod_lt (r * 18446744073709551616 + x) hb0
      have HJ := Lib.hid hjI
      have HXX := Lib.hid hx
      have HQ1 := Lib.hid hq1
      have HQ2 := Lib.hid hq2
      have HQ3 := Lib.hid hq3
      clear hjI hlen hxe hx hq1 hq2 hq3
      go_wp2_with fail
      refine HD.out.mono ?_
      rintro e w1 ⟨q, r', rfl, hq, hr', k, rfl⟩
      have hv2 : lv (A.drop j) = lv (q :: O) * b + r' := by
        rw [drop_pred (by omega), ← HXX.out, HV.out]
        have h := HQ2.out
        rw [← hq, ← hr'] at h
        show _ = (q + 2 ^ 64 * lv O) * b + r'
        rw [Nat.add_mul, Nat.mul_add, Nat.mul_assoc]
        omega
      have HV2 := Lib.hid hv2
      have s1 := (HSG.out.drewN k).set (k := j) (by rw [List.length_append, List.length_take, HO.out]; omega) q
      rw [set_pred (by omega)] at s1
      have HS1 := Lib.hid s1
      have HW1 : Hid (Wrote g off (off + A.length) w ((wr.drewN k).setCell ⟨g, off + j, none⟩ (.int .u64 (q : Int)))) := Lib.hid ((HW.out.drewN k).setIn (by omega) (by omega) _)
      have HF1 : Hid (Fits (q :: O)) := Lib.hid (fun y hy => by
        rcases List.mem_cons.1 hy with rfl | hy
        · rw [hq]; exact HQ1.out
        · exact HFO.out y hy)
      have HR1 : Hid (r' < b) := Lib.hid (by rw [hr']; exact HQ3.out)
      clear hv2 s1 hq hr'
      go_wp2_with fail
      go_roundw
      case rel => exact ⟨j, r', q :: O, by omega, rfl, rfl, HR1.out, by rw [List.length_cons, HO.out]; omega, HF1.out, HV2.out, HS1.out, HW1.out⟩
      case measure => simp [intOf]
end Go.Proofs.YtofpcdjoljjnoaaDoor

namespace Go.Proofs.YtofpcdjoljjnoaaDoor
open Go.RowKit

/-- Bytes in block g, that may be written. -/
def BS (w : World) (g : Nat) (l : List UInt8) : Prop :=
  ∃ cur : Array Value, w.heap[g]? = some (.cells cur 5 (0, 0)) ∧ ∀ i, i < l.length → cur[i]? = some (.int .u8 ((l.getD i 0).toNat : Int))
section
variable {w w' : World} {g : Nat} {l : List UInt8}
theorem BS.block (h : BS w g l) : g < w.heap.size := by
  obtain ⟨cur, hg, _⟩ := h
  exact (Array.getElem?_eq_some_iff.1 hg).1
theorem BS.cell (h : BS w g l) {i : Nat} (hi : i < l.length) : w.cell? ⟨g, i, none⟩ = some (.int .u8 ((l.getD i 0).toNat : Int)) := by
  obtain ⟨cur, hg, hc⟩ := h
  simp [World.cell?, hg, hc i hi]
theorem BS.frozen (h : BS w g l) (o : Nat) : w.frozen? ⟨g, o, none⟩ = false := by
  obtain ⟨cur, hg, hc⟩ := h
  simp [World.frozen?, hg]
theorem BS.of_block (h : BS w g l) (e : w'.heap[g]? = w.heap[g]?) : BS w' g l := by
  obtain ⟨cur, hg, hc⟩ := h
  exact ⟨cur, e.trans hg, hc⟩
theorem BS.set (h : BS w g l) {k : Nat} (hk : k < l.length) (x : UInt8) : BS (w.setCell ⟨g, k, none⟩ (.int .u8 (x.toNat : Int))) g (l.set k x) := by
  obtain ⟨cur, hg, hc⟩ := h
  refine ⟨_, heap_set hg _, fun i hi => ?_⟩
  rw [List.length_set] at hi
  rw [Array.getElem?_setIfInBounds]
  by_cases e : k = i
  · subst e
    have hlt : k < cur.size := (Array.getElem?_eq_some_iff.1 (hc k hk)).1
    rw [if_pos rfl, if_pos hlt]
    simp [hk]
  · rw [if_neg (by omega), hc i hi]
    simp [e]
theorem BS.conv (h : BS w g l) (k c : Nat) (hk : k ≤ l.length) : (convert 112 9 (.slice (some ⟨g, k, none⟩) (l.length - k) c)).run Tryd.prog w = .ok (.string (mk (l.drop k))) w := by
  have e0 : l.length - k = (l.drop k).length := by rw [List.length_drop]
  rw [e0]
  refine run_convert_bytes_back w 112 9 5 ⟨g, k, none⟩ c (l.drop k) Tryd.underlying112 Tryd.underlying5 Tryd.underlying9 ?_
  intro j hj
  rw [List.length_drop] at hj
  have e : (⟨g, k, none⟩ : Addr).add j = ⟨g, k + j, none⟩ := by unfold Addr.add; split <;> simp_all
  rw [e, h.cell (i := k + j) (by omega)]
  simp [List.getD_eq_getElem?_getD, List.getElem?_eq_getElem (show k + j < l.length by omega)]
end

/-- The last k decimal digits. -/
def pad : Nat → Nat → List UInt8
  | 0, _ => []
  | k + 1, n => pad k (n / 10) ++ [byt (48 + n % 10)]
theorem pad_length (k n : Nat) : (pad k n).length = k := by
  induction k generalizing n with
  | zero => rfl
  | succ k ih => simp [pad, ih]
theorem pad_cons (k n : Nat) : pad (k + 1) n = byt (48 + n / 10 ^ k % 10) :: pad k n := by
  induction k generalizing n with
  | zero => simp [pad]
  | succ k ih =>
    rw [pad, ih, List.cons_append, Nat.div_div_eq_div_mul, Nat.pow_succ, Nat.mul_comm (10 ^ k) 10]
    rfl
theorem pad_add (a b n : Nat) : pad (a + b) n = pad a (n / 10 ^ b) ++ pad b n := by
  induction b generalizing n with
  | zero => simp [pad]
  | succ b ih =>
    show pad (a + b) (n / 10) ++ [byt (48 + n % 10)] = _
    rw [ih, List.append_assoc, Nat.div_div_eq_div_mul, Nat.pow_succ, Nat.mul_comm (10 ^ b) 10]
    rfl
theorem pad_mod (k n : Nat) : pad k (n % 10 ^ k) = pad k n := by
  induction k generalizing n with
  | zero => rfl
  | succ k ih =>
    have h1 : n % 10 ^ (k + 1) / 10 = n / 10 % 10 ^ k := by rw [Nat.pow_succ, Nat.mul_comm, Nat.mod_mul_right_div_self]
    have h2 : n % 10 ^ (k + 1) % 10 = n % 10 := Nat.mod_mod_of_dvd _ (by rw [Nat.pow_succ]; exact Nat.dvd_mul_left _ _)
    show pad k (n % 10 ^ (k + 1) / 10) ++ [byt (48 + n % 10 ^ (k + 1) % 10)] = _
    rw [h1, h2, ih]; rfl
theorem pad_zero (k : Nat) : pad k 0 = List.replicate k 48 := by
  induction k with
  | zero => rfl
  | succ k ih => rw [pad, List.replicate_succ', Nat.zero_div, ih]; rfl
theorem pad_dec (k n : Nat) (h : n < 10 ^ k) : pad k n = List.replicate (k - (dec n).length) 48 ++ dec n := by
  induction k generalizing n with
  | zero =>
    obtain rfl : n = 0 := by simpa using h
    simp [pad, dec_zero]
  | succ k ih =>
    by_cases h0 : n = 0
    · subst h0; rw [pad_zero, dec_zero]; simp
    · rw [pad, dec_step h0, ih (n / 10) (by rw [Nat.pow_succ] at h; omega), List.length_append]
      rw [← List.append_assoc]
      simp
theorem dec_head {n : Nat} (h : n ≠ 0) : ∃ c t, dec n = c :: t ∧ c.toNat ≠ 48 := by
  induction n using Nat.strongRecOn with
  | _ n ih =>
    rw [dec_step h]
    by_cases h1 : n / 10 = 0
    · rw [h1, dec_zero]
      refine ⟨_, [], rfl, ?_⟩
      rw [byt_toNat]
      omega
    · obtain ⟨c, t, e, hc⟩ := ih (n / 10) (by omega) h1
      exact ⟨c, t ++ _, by rw [e]; rfl, hc⟩
theorem set_zeros (m : Nat) (P : List UInt8) (y : UInt8) : (List.replicate (m + 1) 0 ++ P).set m y = List.replicate m 0 ++ y :: P := by
  rw [List.replicate_succ', List.append_assoc, List.set_append_right _ _ (by simp)]
  simp

def FillAt (g q n : Nat) (P : List UInt8) (w : World) (x i : Value) (W : World) : Prop :=
  ∃ k : Nat, k ≤ 19 ∧ x = .int .u64 ((n / 10 ^ k : Nat) : Int) ∧ i = .int .i64 (k : Int) ∧ BS W g (List.replicate (q + (19 - k)) 0 ++ (pad k n ++ P)) ∧ w.grownBy W (some g)
def FillPost (g q n : Nat) (P : List UInt8) (w : World) (e : Ending) (w' : World) : Prop :=
  e = .returned (.tuple #[]) ∧ BS w' g (List.replicate q 0 ++ (pad 19 n ++ P)) ∧ w.grownBy w' (some g)

theorem grown_set {w W : World} {g : Nat} (h : w.grownBy W (some g)) (o : Nat) (v : Value) : w.grownBy (W.setCell ⟨g, o, none⟩ v) (some g) :=
  ⟨h.os, h.tape, h.output, by rw [size_set]; exact h.size, fun k hk hne => (Below.heap_setCell _ _ _ _ (fun e => hne (by rw [e]))).trans (h.block k hk hne)⟩

set_option maxRecDepth 100000 in
set_option maxHeartbeats 4000000 in
theorem fill_any (g q cap n : Nat) (P : List UInt8) (w : World) (hn : n < 18446744073709551616) (hs : BS w g (List.replicate (q + 19) 0 ++ P)) :
    Calls Tryd.prog 61 #[.slice (some ⟨g, q, none⟩) 19 cap, .int .u64 (n : Int)] w (FillPost g q n P w) := by
  have HS := Lib.hid hs
  have HN := Lib.hid hn
  clear hs hn
  go_enter Tryd.func61, Tryd.ntmps61
  go_wp2_with fail
  go_loopw [1, 7] (fun x i W => FillAt g q n P w x i W) (fun _ i _ => 19 - (intOf i).toNat)
  case atStart => exact ⟨0, by omega, by rw [Nat.pow_zero, Nat.div_one], rfl, HS.out, World.grownBy.refl _ _⟩
  case round =>
    obtain ⟨k, hk, rfl, rfl, hbs, hgr⟩ := hrel
    have HBS := Lib.hid hbs
    have HGR := Lib.hid hgr
    clear hbs hgr
    by_cases hlt : k < 19
    · obtain ⟨j, hj⟩ : ∃ j, j = 18 - k := ⟨_, rfl⟩
      have e1 : (18 : Int) - (k : Int) = (j : Int) := by omega
      have hkI : (k : Int) < 19 := by omega
      have hk0 : (0 : Int) ≤ (k : Int) := by omega
      have j0 : (0 : Int) ≤ (j : Int) := by omega
      have j1 : (j : Int) < 19 := by omega
      obtain ⟨y, hy⟩ : ∃ y, y = n / 10 ^ k := ⟨_, rfl⟩
      have hyb : y < 18446744073709551616 := by rw [hy]; exact Nat.lt_of_le_of_lt (Nat.div_le_self _ _) HN.out
      have HY : Hid (y / 10 = n / 10 ^ (k + 1)) := Lib.hid (by rw [hy, Nat.div_div_eq_div_mul, Nat.pow_succ])
      have hbs := HBS.out
      rw [show q + (19 - k) = (q + j) + 1 by omega] at hbs
      have hcell := hbs.cell (i := q + j) (by simp; omega)
      have hfr := hbs.frozen (q + j)
      obtain ⟨b, hb⟩ : ∃ b, b = byt (48 + y % 10) := ⟨_, rfl⟩
      have hbn : (b.toNat : Int) = 48 + (y : Int) % 10 := by rw [hb, byt_toNat]; omega
      have hset := hbs.set (k := q + j) (by simp; omega) b
      rw [set_zeros] at hset
      have HNX : Hid (BS (wr.setCell ⟨g, q + j, none⟩ (.int .u8 (b.toNat : Int))) g (List.replicate (q + (19 - (k + 1))) 0 ++ (pad (k + 1) n ++ P))) := Lib.hid (by
        rw [pad_cons, ← hy, ← hb, show q + (19 - (k + 1)) = q + j by omega]
        exact hset)
      have HG2 := Lib.hid (grown_set HGR.out (q + j) (.int .u8 (b.toNat : Int)))
      have HK : Hid (k + 1 ≤ 19) := Lib.hid (by omega)
      rw [← hy]
      have hyI : (y : Int) < 18446744073709551616 := by omega
      have hy0 : (0 : Int) ≤ (y : Int) := by omega
      obtain ⟨d, hd⟩ : ∃ d : Int, d = (y : Int) % 10 := ⟨_, rfl⟩
      have d0 : 0 ≤ d := by omega
      have d9 : d ≤ 9 := by omega
      rw [← hd] at hbn
      generalize (List.replicate (q + j + 1) (0 : UInt8) ++ (pad k n ++ P)).getD (q + j) 0 = z at hcell
      clear hset hbs hb hy hyb hj hlt
      go_wp2_with fail
      rw [hd] at hbn
      rw [hbn] at HNX HG2
      refine ⟨⟨k + 1, HK.out, ?_, by go_num, HNX.out, HG2.out⟩, ?_⟩
      · rw [← HY.out]; go_num
      · have := HK.out; simp [intOf]; omega
    · obtain rfl : k = 19 := by omega
      clear hlt hk
      go_wp2_with fail
      go_end0
      exact ⟨rfl, HBS.out, HGR.out⟩
end Go.Proofs.YtofpcdjoljjnoaaDoor
