/-
  The texts NatStepsM, NatMix, NatSteps, NatTop, NatNextM, one behind the other.
-/
import Derived.Test.YtcbebikcfcidmaaDoorChaZ01
import Derived.Test.YtcbebikcfcidmaaDoorChaZ08
import Derived.Laws.Rows
import Derived.Test.YtcbebikcfcidmaaDoorChaZ09
import Derived.Deep.QuietTactic
import Derived.Test.YtcbebikcfcidmaaDoorChaZ06
import Derived.Test.YtcbebikcfcidmaaDoorChaZ07

namespace Go.Proofs.YtcbebikcfcidmaaDoor

def dl (odd : Bool) : Int := if odd then 1 else -1
theorem dl_not (odd : Bool) : dl (!odd) = - dl odd := by cases odd <;> rfl

/-- What the last two remainders are, if there are two. -/
def LastOK (A B LA LB : Nat) (odd : Bool) (X : Nat) : Prop :=
  LB = 0 ∨ ∃ L : Nat, (L : Int) = - dl odd * ((A : Int) * LA - B * LB) ∧ X < L ∧ L ≤ B ∧ Nat.gcd L X = Nat.gcd A B
/-- The state of the steps. -/
structure TS (A B xh yh x y LA LB NA NB AA AB X : Nat) (odd : Bool) : Prop where
  h1 : xh = x * AB + y * NB
  h2 : yh = x * AA + y * NA
  det : (NA : Int) * AB - NB * AA = dl odd
  le1 : AA ≤ AB
  le2 : NA + AA ≤ NB + AB
  pos1 : 1 ≤ AB
  pos2 : 1 ≤ NA + AA
  yx : y ≤ x
  tr : (X : Int) = dl odd * ((A : Int) * NA - B * NB)
  top : NB = 0 ∨ X ≤ B
  gcd : Int.gcd X (dl odd * ((B : Int) * AB - A * AA)) = Nat.gcd A B
  last : LastOK A B LA LB odd X

theorem TS.start {A B xh yh : Nat} (h : yh ≤ xh) : TS A B xh yh xh yh 0 0 1 0 0 1 A true :=
  ⟨by omega, by omega, by simp [dl], by omega, by omega, by omega, by omega, h, by simp [dl], .inl rfl, by simp [dl, Int.gcd], .inl rfl⟩

theorem certify {A B xh yh E ea eb x y LA LB NA NB AA AB X : Nat} {odd : Bool} (hA : A = xh * E + ea) (hB : B = yh * E + eb) (ha : ea < E) (hb : eb < E) (h : TS A B xh yh x y LA LB NA NB AA AB X odd)
    (c1 : AB ≤ y) (c2 : y + (NB + AB) ≤ x) : 0 ≤ dl odd * ((B : Int) * AB - A * AA) ∧ dl odd * ((B : Int) * AB - A * AA) < X := by
  obtain ⟨h1, h2, det, le1, le2, pos1, pos2, yx, tr, _, _, _⟩ := h
  have m1 : E * AB ≤ E * y := Nat.mul_le_mul_left E c1
  have m2 : ea * AA ≤ E * AB := Nat.mul_le_mul (Nat.le_of_lt ha) le1
  have m3 : eb * AB ≤ E * AB := Nat.mul_le_mul_right _ (Nat.le_of_lt hb)
  have m4 : E * y + E * (NB + AB) ≤ E * x := by rw [← Nat.mul_add]; exact Nat.mul_le_mul_left E c2
  have m5 : eb * (NB + AB) < E * (NB + AB) := Nat.mul_lt_mul_of_pos_right hb (by omega)
  have m6 : ea * (NA + AA) < E * (NA + AA) := Nat.mul_lt_mul_of_pos_right ha (by omega)
  have m7 : E * (NA + AA) ≤ E * (NB + AB) := Nat.mul_le_mul_left E le2
  rw [tr]
  have eA : (A : Int) = xh * E + ea := by rw [hA]; simp
  have eB : (B : Int) = yh * E + eb := by rw [hB]; simp
  have eh1 : (xh : Int) = x * AB + y * NB := by rw [h1]; simp
  have eh2 : (yh : Int) = x * AA + y * NA := by rw [h2]; simp
  cases odd
  · have d : (NA : Int) * AB - NB * AA = -1 := det
    have y1 : -1 * ((B : Int) * AB - A * AA) = E * y - eb * AB + ea * AA := by
      rw [eA, eB, eh1, eh2]; grind
    have y2 : -1 * ((A : Int) * NA - B * NB) = E * x - ea * NA + eb * NB := by
      rw [eA, eB, eh1, eh2]; grind
    show 0 ≤ -1 * ((B : Int) * AB - A * AA) ∧ -1 * ((B : Int) * AB - A * AA) < -1 * ((A : Int) * NA - B * NB)
    rw [y1, y2]
    have n1 : (E : Int) * AB ≤ E * y := by exact_mod_cast m1
    have n3 : (eb : Int) * AB ≤ E * AB := by exact_mod_cast m3
    have n2 : (0 : Int) ≤ ea * AA := by exact_mod_cast Nat.zero_le (ea * AA)
    have n4 : (E : Int) * y + E * (NB + AB) ≤ E * x := by exact_mod_cast m4
    have n6 : (ea : Int) * (NA + AA) < E * (NA + AA) := by exact_mod_cast m6
    have n7 : (E : Int) * (NA + AA) ≤ E * (NB + AB) := by exact_mod_cast m7
    have n8 : (0 : Int) ≤ eb * (NB + AB) := by exact_mod_cast Nat.zero_le (eb * (NB + AB))
    rw [Int.mul_add] at n4 n6 n7 n8
    rw [Int.mul_add] at n6 n7
    constructor <;> omega
  · have d : (NA : Int) * AB - NB * AA = 1 := det
    have y1 : 1 * ((B : Int) * AB - A * AA) = E * y + eb * AB - ea * AA := by
      rw [eA, eB, eh1, eh2]; grind
    have y2 : 1 * ((A : Int) * NA - B * NB) = E * x + ea * NA - eb * NB := by
      rw [eA, eB, eh1, eh2]; grind
    show 0 ≤ 1 * ((B : Int) * AB - A * AA) ∧ 1 * ((B : Int) * AB - A * AA) < 1 * ((A : Int) * NA - B * NB)
    rw [y1, y2]
    have n1 : (E : Int) * AB ≤ E * y := by exact_mod_cast m1
    have n2 : (ea : Int) * AA ≤ E * AB := by exact_mod_cast m2
    have n3 : (0 : Int) ≤ eb * AB := by exact_mod_cast Nat.zero_le (eb * AB)
    have n4 : (E : Int) * y + E * (NB + AB) ≤ E * x := by exact_mod_cast m4
    have n5 : (eb : Int) * (NB + AB) < E * (NB + AB) := by exact_mod_cast m5
    have n8 : (0 : Int) ≤ ea * (NA + AA) := by exact_mod_cast Nat.zero_le (ea * (NA + AA))
    rw [Int.mul_add] at n4 n5 n8
    rw [Int.mul_add] at n5
    constructor <;> omega

theorem TS.step {A B xh yh E ea eb x y LA LB NA NB AA AB X q r : Nat} {odd : Bool} (hA : A = xh * E + ea) (hB : B = yh * E + eb) (ha : ea < E) (hb : eb < E) (h : TS A B xh yh x y LA LB NA NB AA AB X odd)
    (c1 : AB ≤ y) (c2 : y + (NB + AB) ≤ x) (hq : q = x / y) (hr : r = x % y) : ∃ Y, TS A B xh yh y r NA NB AA AB (NA + q * AA) (NB + q * AB) Y (!odd) := by
  obtain ⟨p1, p2⟩ := certify hA hB ha hb h c1 c2
  obtain ⟨h1, h2, det, le1, le2, pos1, pos2, yx, tr, top, gc, last⟩ := h
  obtain ⟨Y, hY⟩ := Int.eq_ofNat_of_zero_le p1
  rw [hY] at p2 gc
  have hYX : Y < X := by omega
  have hdm := Nat.div_add_mod x y
  rw [← hq, ← hr] at hdm
  have hrl : r < y := by rw [hr]; exact Nat.mod_lt _ (by omega)
  have hq1 : 1 ≤ q := by rw [hq]; exact Nat.div_pos (by omega) (by omega)
  have hqa : q * AA ≤ q * AB := Nat.mul_le_mul_left q le1
  have hqa2 : AA ≤ q * AA := Nat.le_mul_of_pos_left AA hq1
  have hqb2 : AB ≤ q * AB := Nat.le_mul_of_pos_left AB hq1
  have hq3 : NA + q * AA ≤ NB + q * AB := by
    obtain ⟨k, rfl⟩ : ∃ k, q = k + 1 := ⟨q - 1, by omega⟩
    have := Nat.mul_le_mul_left k le1
    rw [Nat.add_mul, Nat.add_mul, Nat.one_mul, Nat.one_mul]
    omega
  refine ⟨Y, ⟨?_, ?_, ?_, hq3, by omega, by omega, by omega, by omega, ?_, ?_, ?_, ?_⟩⟩
  · rw [h1, ← hdm, Nat.add_mul, Nat.mul_add, ← Nat.mul_assoc y q AB]; omega
  · rw [h2, ← hdm, Nat.add_mul, Nat.mul_add, ← Nat.mul_assoc y q AA]; omega
  · rw [dl_not, ← det]; push_cast; grind
  · rw [← hY, dl_not]; grind
  · refine .inr ?_
    rcases top with h0 | h0
    · subst h0
      have hdet : (NA : Int) * AB = dl odd := by rw [← det]; simp
      cases odd
      · exfalso
        have h9 : (0 : Int) ≤ NA * AB := by exact_mod_cast Nat.zero_le (NA * AB)
        rw [hdet] at h9
        simp [dl] at h9
      · have h9 : NA * AB = 1 := by
          have : ((NA * AB : Nat) : Int) = 1 := by push_cast; exact hdet
          exact_mod_cast this
        have hAB : AB = 1 := by
          rcases Nat.eq_zero_or_pos NA with h | h
          · rw [h] at h9; omega
          · have := Nat.le_mul_of_pos_left AB h; omega
        rw [hAB] at hY
        have h8 : (0 : Int) ≤ A * AA := by exact_mod_cast Nat.zero_le (A * AA)
        simp [dl] at hY
        omega
    · omega
  · have e : dl (!odd) * ((B : Int) * ((NB + q * AB : Nat) : Int) - A * ((NA + q * AA : Nat) : Int)) = X - Y * q := by
      rw [dl_not, tr, ← hY]; push_cast; grind
    rw [e, Int.gcd_sub_mul_left_right, Int.gcd_comm]
    exact gc
  · rcases Nat.eq_zero_or_pos NB with h0 | h0
    · exact .inl h0
    · refine .inr ⟨X, by rw [dl_not, Int.neg_neg]; exact tr, hYX, top.resolve_left (by omega), ?_⟩
      exact gc
/-- The factors stay small. -/
theorem TS.small {A B xh yh x y LA LB NA NB AA AB X : Nat} {odd : Bool} (h : TS A B xh yh x y LA LB NA NB AA AB X odd) (hx : 1 ≤ x) : AB ≤ xh ∧ AA ≤ xh := by
  have h1 := h.h1
  have h2 : AB ≤ x * AB := Nat.le_mul_of_pos_left AB hx
  have := h.le1
  constructor <;> omega
theorem TS.small2 {A B xh yh x y LA LB NA NB AA AB X : Nat} {odd : Bool} (h : TS A B xh yh x y LA LB NA NB AA AB X odd) (hx : 1 ≤ x) (hy : 1 ≤ y) : NB + AB ≤ xh := by
  have h1 := h.h1
  have h2 : AB ≤ x * AB := Nat.le_mul_of_pos_left AB hx
  have h3 : NB ≤ y * NB := Nat.le_mul_of_pos_left NB hy
  omega
end Go.Proofs.YtcbebikcfcidmaaDoor

namespace Go.Proofs.YtcbebikcfcidmaaDoor
open Go.RowKit

/-- The five numbers that a mix holds. -/
def Mx (W : World) (p m l c o b : Nat) : Prop := W.heap[p]? = some (.cells #[.int .u64 (m : Int), .int .u64 (l : Int), .int .u64 (c : Int), .int .u64 (o : Int), .int .u64 (b : Int)] 137 (0, 0))
section
variable {W : World} {p m l c o b : Nat}
theorem Mx.lt (h : Mx W p m l c o b) : p < W.heap.size := (Array.getElem?_eq_some_iff.1 h).1
theorem Mx.cell (h : Mx W p m l c o b) : W.cell? ⟨p, 0, none⟩ = some (.int .u64 (m : Int)) ∧ W.cell? ⟨p, 1, none⟩ = some (.int .u64 (l : Int)) ∧ W.cell? ⟨p, 2, none⟩ = some (.int .u64 (c : Int)) ∧ W.cell? ⟨p, 3, none⟩ = some (.int .u64 (o : Int)) ∧ W.cell? ⟨p, 4, none⟩ = some (.int .u64 (b : Int)) :=
  ⟨by rw [cell_of_row W p 0 _ _ _ h]; rfl, by rw [cell_of_row W p 1 _ _ _ h]; rfl, by rw [cell_of_row W p 2 _ _ _ h]; rfl, by rw [cell_of_row W p 3 _ _ _ h]; rfl, by rw [cell_of_row W p 4 _ _ _ h]; rfl⟩
theorem Mx.free (h : Mx W p m l c o b) (i : Nat) : W.frozen? ⟨p, i, none⟩ = false := by
  unfold Mx at h; simp [World.frozen?, h]
theorem Mx.of_block {W' : World} (h : Mx W p m l c o b) (e : W'.heap[p]? = W.heap[p]?) : Mx W' p m l c o b := e.trans h
theorem Mx.set0 (h : Mx W p m l c o b) (k : Nat) : Mx (W.setCell ⟨p, 0, none⟩ (.int .u64 (k : Int))) p k l c o b := by
  unfold Mx at h ⊢
  simp [World.setCell, Array.getElem?_modify, h]
theorem Mx.set1 (h : Mx W p m l c o b) (k : Nat) : Mx (W.setCell ⟨p, 1, none⟩ (.int .u64 (k : Int))) p m k c o b := by
  unfold Mx at h ⊢
  simp [World.setCell, Array.getElem?_modify, h]
theorem Mx.set2 (h : Mx W p m l c o b) (k : Nat) : Mx (W.setCell ⟨p, 2, none⟩ (.int .u64 (k : Int))) p m l k o b := by
  unfold Mx at h ⊢
  simp [World.setCell, Array.getElem?_modify, h]
theorem Mx.set3 (h : Mx W p m l c o b) (k : Nat) : Mx (W.setCell ⟨p, 3, none⟩ (.int .u64 (k : Int))) p m l c k b := by
  unfold Mx at h ⊢
  simp [World.setCell, Array.getElem?_modify, h]
theorem Mx.set4 (h : Mx W p m l c o b) (k : Nat) : Mx (W.setCell ⟨p, 4, none⟩ (.int .u64 (k : Int))) p m l c o k := by
  unfold Mx at h ⊢
  simp [World.setCell, Array.getElem?_modify, h]
end
/-- A mix, laid cell by cell over zeros. -/
theorem Mx.fill {W : World} {z m l : Nat} (h : Mx W z 0 0 0 0 0) :
    (W.cell? ⟨z, 0, none⟩ = some (.int .u64 0) ∧ W.frozen? ⟨z, 0, none⟩ = false) ∧
    ((W.setCell ⟨z, 0, none⟩ (.int .u64 (m : Int))).cell? ⟨z, 1, none⟩ = some (.int .u64 0) ∧ (W.setCell ⟨z, 0, none⟩ (.int .u64 (m : Int))).frozen? ⟨z, 1, none⟩ = false) ∧
    (((W.setCell ⟨z, 0, none⟩ (.int .u64 (m : Int))).setCell ⟨z, 1, none⟩ (.int .u64 (l : Int))).cell? ⟨z, 2, none⟩ = some (.int .u64 0) ∧ ((W.setCell ⟨z, 0, none⟩ (.int .u64 (m : Int))).setCell ⟨z, 1, none⟩ (.int .u64 (l : Int))).frozen? ⟨z, 2, none⟩ = false) ∧
    ((((W.setCell ⟨z, 0, none⟩ (.int .u64 (m : Int))).setCell ⟨z, 1, none⟩ (.int .u64 (l : Int))).setCell ⟨z, 2, none⟩ (.int .u64 0)).cell? ⟨z, 3, none⟩ = some (.int .u64 0) ∧ (((W.setCell ⟨z, 0, none⟩ (.int .u64 (m : Int))).setCell ⟨z, 1, none⟩ (.int .u64 (l : Int))).setCell ⟨z, 2, none⟩ (.int .u64 0)).frozen? ⟨z, 3, none⟩ = false) ∧
    (((((W.setCell ⟨z, 0, none⟩ (.int .u64 (m : Int))).setCell ⟨z, 1, none⟩ (.int .u64 (l : Int))).setCell ⟨z, 2, none⟩ (.int .u64 0)).setCell ⟨z, 3, none⟩ (.int .u64 0)).cell? ⟨z, 4, none⟩ = some (.int .u64 0) ∧ ((((W.setCell ⟨z, 0, none⟩ (.int .u64 (m : Int))).setCell ⟨z, 1, none⟩ (.int .u64 (l : Int))).setCell ⟨z, 2, none⟩ (.int .u64 0)).setCell ⟨z, 3, none⟩ (.int .u64 0)).frozen? ⟨z, 4, none⟩ = false) ∧
    Mx (((((W.setCell ⟨z, 0, none⟩ (.int .u64 (m : Int))).setCell ⟨z, 1, none⟩ (.int .u64 (l : Int))).setCell ⟨z, 2, none⟩ (.int .u64 0)).setCell ⟨z, 3, none⟩ (.int .u64 0)).setCell ⟨z, 4, none⟩ (.int .u64 0)) z m l 0 0 0 := by
  have t1 := h.set0 m
  have t2 := t1.set1 l
  have t3 := t2.set2 0
  have t4 := t3.set3 0
  exact ⟨⟨h.cell.1, h.free 0⟩, ⟨t1.cell.2.1, t1.free 1⟩, ⟨t2.cell.2.2.1, t2.free 2⟩, ⟨t3.cell.2.2.2.1, t3.free 3⟩, ⟨t4.cell.2.2.2.2, t4.free 4⟩, t4.set4 0⟩
theorem Mx.other {W : World} {p m l c o b : Nat} (h : Mx W p m l c o b) {q : Addr} (hq : q.block ≠ p) (v : Value) : Mx (W.setCell q v) p m l c o b := h.of_block (Below.heap_setCell _ _ _ _ (fun e => hq e.symm))
theorem own_set (w : World) (g i : Nat) (v : Value) : w.grownBy (w.setCell ⟨g, i, none⟩ v) (some g) :=
  ⟨rfl, rfl, rfl, by simp [World.setCell], fun k _ hk => Below.heap_setCell _ _ _ _ (by intro e; subst e; exact hk rfl)⟩
theorem own_trans {a b c : World} {g : Nat} (h : a.grownBy b (some g)) (k : b.grownBy c (some g)) : a.grownBy c (some g) :=
  ⟨k.os.trans h.os, k.tape.trans h.tape, k.output.trans h.output, Nat.le_trans h.size k.size, fun i hi hg => (k.block i (Nat.lt_of_lt_of_le hi h.size) hg).trans (h.block i hi hg)⟩
theorem mix_math {x y m l c o b M hi1 lo1 hi2 lo2 l1 q1 l2 q2 r q3 : Nat} (h1 : x * m = M * hi1 + lo1) (h2 : lo1 + c = M * q1 + l1) (h3 : y * l = M * hi2 + lo2) (h4 : lo2 + o = M * q2 + l2) (h5 : r + l2 + b = l1 + M * q3) :
    r + y * l + o + b + M * (hi1 + q1) = x * m + c + M * (q3 + (hi2 + q2)) := by
  rw [h1, h3, Nat.mul_add M hi1 q1, Nat.mul_add M q3, Nat.mul_add M hi2 q2]
  omega
def MixPost (p x y m l c o b : Nat) (w : World) (e : Ending) (w' : World) : Prop :=
  ∃ r c' o' b' : Nat, e = .returned (.int .u64 (r : Int)) ∧ r < 18446744073709551616 ∧ c' < 18446744073709551616 ∧ o' < 18446744073709551616 ∧ b' ≤ 1 ∧ r + y * l + o + b + 18446744073709551616 * c' = x * m + c + 18446744073709551616 * (b' + o') ∧ Mx w' p m l c' o' b' ∧ w.grownBy w' (some p)

set_option maxRecDepth 100000 in
set_option maxHeartbeats 600000 in
theorem mix_any (p x y m l c o b : Nat) (w : World) (hx : x < 18446744073709551616) (hy : y < 18446744073709551616) (hm : m < 18446744073709551616) (hl : l < 18446744073709551616) (hc : c < 18446744073709551616) (ho : o < 18446744073709551616) (hb : b ≤ 1) (h : Mx w p m l c o b) :
    Calls Tryd.prog 80 #[.pointer (some ⟨p, 0, none⟩), .int .u64 (x : Int), .int .u64 (y : Int)] w (MixPost p x y m l c o b w) := by
  have hm1 := mul_small hx hm
  have hm2 := mul_small hy hl
  have HM1 := Lib.hid (fun W => Tryd.bits_Mul64 x m hx hm W)
  have HM2 := Lib.hid (fun W => Tryd.bits_Mul64 y l hy hl W)
  obtain ⟨hi1, hhi1⟩ : ∃ hi, hi = x * m / 18446744073709551616 := ⟨_, rfl⟩
  obtain ⟨lo1, hlo1⟩ : ∃ lo, lo = x * m % 18446744073709551616 := ⟨_, rfl⟩
  obtain ⟨hi2, hhi2⟩ : ∃ hi, hi = y * l / 18446744073709551616 := ⟨_, rfl⟩
  obtain ⟨lo2, hlo2⟩ : ∃ lo, lo = y * l % 18446744073709551616 := ⟨_, rfl⟩
  rw [← hhi1, ← hlo1] at HM1
  rw [← hhi2, ← hlo2] at HM2
  have HM1 := Lib.hid HM1.out
  have HM2 := Lib.hid HM2.out
  have hadd1 := run_add64 lo1 c 0 (by omega)
  obtain ⟨l1, hl1⟩ : ∃ l1, l1 = (lo1 + c + 0) % 18446744073709551616 := ⟨_, rfl⟩
  obtain ⟨q1, hq1⟩ : ∃ q1, q1 = (lo1 + c + 0) / 18446744073709551616 := ⟨_, rfl⟩
  rw [← hl1, ← hq1] at hadd1
  have hadd2 := run_add64 lo2 o 0 (by omega)
  obtain ⟨l2, hl2⟩ : ∃ l2, l2 = (lo2 + o + 0) % 18446744073709551616 := ⟨_, rfl⟩
  obtain ⟨q2, hq2⟩ : ∃ q2, q2 = (lo2 + o + 0) / 18446744073709551616 := ⟨_, rfl⟩
  rw [← hl2, ← hq2] at hadd2
  have hsub := run_sub64 l1 l2 b (by omega)
  obtain ⟨r, hr⟩ : ∃ r, r = (l1 + 18446744073709551616 - l2 - b) % 18446744073709551616 := ⟨_, rfl⟩
  obtain ⟨q3, hq3⟩ : ∃ q3, q3 = if l1 < l2 + b then 1 else 0 := ⟨_, rfl⟩
  rw [← hr, ← hq3] at hsub
  simp only [Int.natCast_zero] at hadd1 hadd2
  have hq3' : r + l2 + b = l1 + 18446744073709551616 * q3 ∧ q3 ≤ 1 ∧ r < 18446744073709551616 := by
    split at hq3 <;> omega
  have hmath := mix_math (x := x) (y := y) (m := m) (l := l) (c := c) (o := o) (b := b) (M := 18446744073709551616) (hi1 := hi1) (lo1 := lo1) (hi2 := hi2) (lo2 := lo2) (l1 := l1) (q1 := q1) (l2 := l2) (q2 := q2) (r := r) (q3 := q3)
    (by omega) (by omega) (by omega) (by omega) hq3'.1
  have i1 : (hi1 : Int) + (q1 : Int) = ((hi1 + q1 : Nat) : Int) := by omega
  have i2 : (hi2 : Int) + (q2 : Int) = ((hi2 + q2 : Nat) : Int) := by omega
  obtain ⟨k1, hk1⟩ : ∃ k1, k1 = hi1 + q1 := ⟨_, rfl⟩
  obtain ⟨k2, hk2⟩ : ∃ k2, k2 = hi2 + q2 := ⟨_, rfl⟩
  have hk1b : k1 < 18446744073709551616 := by omega
  have hk2b : k2 < 18446744073709551616 := by omega
  have j1 : (k1 : Int) ≤ 18446744073709551615 := by omega
  have j2 : (k2 : Int) ≤ 18446744073709551615 := by omega
  have j3 : (0 : Int) ≤ (k1 : Int) := by omega
  have j4 : (0 : Int) ≤ (k2 : Int) := by omega
  rw [← hk1] at i1 hmath
  rw [← hk2] at i2 hmath
  have HMATH := Lib.hid hmath
  have HR := Lib.hid hq3'
  have HK := Lib.hid (And.intro hk1b hk2b)
  have s1 := h.set2 k1
  have s2 := s1.set3 k2
  have s3 := s2.set4 q3
  have HS3 := Lib.hid s3
  obtain ⟨c0, c1, c2, c3, c4⟩ := h.cell
  have f2 := h.free 2
  obtain ⟨d0, d1, d2, d3, d4⟩ := s1.cell
  have g3 := s1.free 3
  obtain ⟨e0, e1, e2, e3, e4⟩ := s2.cell
  have g4 := s2.free 4
  clear hm1 hm2 hhi1 hlo1 hhi2 hlo2 hl1 hq1 hl2 hq2 hr hq3 hq3' hmath hk1 hk2 hk1b hk2b s1 s2 s3 h
  go_enter Tryd.func80, Tryd.ntmps80
  go_wp2_with fail
  refine (HM1.out _).mono ?_
  rintro e W ⟨rfl, hW⟩
  rw [hW]
  clear hW W
  go_wp2_with fail
  refine (HM2.out _).mono ?_
  rintro e W ⟨rfl, hW⟩
  rw [hW]
  clear hW W
  go_wp2_with fail
  go_ret
  exact ⟨r, k1, k2, q3, rfl, HR.out.2.2, HK.out.1, HK.out.2, HR.out.2.1, HMATH.out, HS3.out, own_trans (own_trans (own_set _ _ _ _) (own_set _ _ _ _)) (own_set _ _ _ _)⟩
end Go.Proofs.YtcbebikcfcidmaaDoor

namespace Go.Proofs.YtcbebikcfcidmaaDoor
open Go.RowKit

/-- Block p holds steps. -/
def Sx (W : World) (p : Nat) (odd : Bool) (LA LB NA NB : Nat) : Prop := W.heap[p]? = some (.cells #[.bool odd, .int .u64 (LA : Int), .int .u64 (LB : Int), .int .u64 (NA : Int), .int .u64 (NB : Int)] 132 (0, 0))
section
variable {W : World} {p LA LB NA NB : Nat} {odd : Bool}
theorem Sx.lt (h : Sx W p odd LA LB NA NB) : p < W.heap.size := (Array.getElem?_eq_some_iff.1 h).1
theorem Sx.cell (h : Sx W p odd LA LB NA NB) : W.cell? ⟨p, 0, none⟩ = some (.bool odd) ∧ W.cell? ⟨p, 1, none⟩ = some (.int .u64 (LA : Int)) ∧ W.cell? ⟨p, 2, none⟩ = some (.int .u64 (LB : Int)) ∧ W.cell? ⟨p, 3, none⟩ = some (.int .u64 (NA : Int)) ∧ W.cell? ⟨p, 4, none⟩ = some (.int .u64 (NB : Int)) :=
  ⟨by rw [cell_of_row W p 0 _ _ _ h]; rfl, by rw [cell_of_row W p 1 _ _ _ h]; rfl, by rw [cell_of_row W p 2 _ _ _ h]; rfl, by rw [cell_of_row W p 3 _ _ _ h]; rfl, by rw [cell_of_row W p 4 _ _ _ h]; rfl⟩
theorem Sx.free (h : Sx W p odd LA LB NA NB) (i : Nat) : W.frozen? ⟨p, i, none⟩ = false := by
  unfold Sx at h; simp [World.frozen?, h]
theorem Sx.of_block {W' : World} (h : Sx W p odd LA LB NA NB) (e : W'.heap[p]? = W.heap[p]?) : Sx W' p odd LA LB NA NB := e.trans h
theorem Sx.other (h : Sx W p odd LA LB NA NB) {q : Addr} (hq : q.block ≠ p) (v : Value) : Sx (W.setCell q v) p odd LA LB NA NB := h.of_block (Below.heap_setCell _ _ _ _ (fun e => hq e.symm))
theorem Sx.drew (h : Sx W p odd LA LB NA NB) : Sx W.drew p odd LA LB NA NB := h
theorem Sx.set0 (h : Sx W p odd LA LB NA NB) (k : Bool) : Sx (W.setCell ⟨p, 0, none⟩ (.bool k)) p k LA LB NA NB := by
  unfold Sx at h ⊢
  simp [World.setCell, Array.getElem?_modify, h]
theorem Sx.set1 (h : Sx W p odd LA LB NA NB) (k : Nat) : Sx (W.setCell ⟨p, 1, none⟩ (.int .u64 (k : Int))) p odd k LB NA NB := by
  unfold Sx at h ⊢
  simp [World.setCell, Array.getElem?_modify, h]
theorem Sx.set2 (h : Sx W p odd LA LB NA NB) (k : Nat) : Sx (W.setCell ⟨p, 2, none⟩ (.int .u64 (k : Int))) p odd LA k NA NB := by
  unfold Sx at h ⊢
  simp [World.setCell, Array.getElem?_modify, h]
theorem Sx.set3 (h : Sx W p odd LA LB NA NB) (k : Nat) : Sx (W.setCell ⟨p, 3, none⟩ (.int .u64 (k : Int))) p odd LA LB k NB := by
  unfold Sx at h ⊢
  simp [World.setCell, Array.getElem?_modify, h]
theorem Sx.set4 (h : Sx W p odd LA LB NA NB) (k : Nat) : Sx (W.setCell ⟨p, 4, none⟩ (.int .u64 (k : Int))) p odd LA LB NA k := by
  unfold Sx at h ⊢
  simp [World.setCell, Array.getElem?_modify, h]
end

/-- A result of five cells, filled one by one. -/
theorem Sx.fill {W : World} {z LA LB NA NB a0 b0 c0 d0 : Nat} {odd o0 : Bool} (h : Sx W z o0 a0 b0 c0 d0) :
    (W.cell? ⟨z, 0, none⟩ = some (.bool o0) ∧ W.frozen? ⟨z, 0, none⟩ = false) ∧
    ((W.setCell ⟨z, 0, none⟩ (.bool odd)).cell? ⟨z, 1, none⟩ = some (.int .u64 (a0 : Int)) ∧ (W.setCell ⟨z, 0, none⟩ (.bool odd)).frozen? ⟨z, 1, none⟩ = false) ∧
    (((W.setCell ⟨z, 0, none⟩ (.bool odd)).setCell ⟨z, 1, none⟩ (.int .u64 (LA : Int))).cell? ⟨z, 2, none⟩ = some (.int .u64 (b0 : Int)) ∧ ((W.setCell ⟨z, 0, none⟩ (.bool odd)).setCell ⟨z, 1, none⟩ (.int .u64 (LA : Int))).frozen? ⟨z, 2, none⟩ = false) ∧
    ((((W.setCell ⟨z, 0, none⟩ (.bool odd)).setCell ⟨z, 1, none⟩ (.int .u64 (LA : Int))).setCell ⟨z, 2, none⟩ (.int .u64 (LB : Int))).cell? ⟨z, 3, none⟩ = some (.int .u64 (c0 : Int)) ∧ (((W.setCell ⟨z, 0, none⟩ (.bool odd)).setCell ⟨z, 1, none⟩ (.int .u64 (LA : Int))).setCell ⟨z, 2, none⟩ (.int .u64 (LB : Int))).frozen? ⟨z, 3, none⟩ = false) ∧
    (((((W.setCell ⟨z, 0, none⟩ (.bool odd)).setCell ⟨z, 1, none⟩ (.int .u64 (LA : Int))).setCell ⟨z, 2, none⟩ (.int .u64 (LB : Int))).setCell ⟨z, 3, none⟩ (.int .u64 (NA : Int))).cell? ⟨z, 4, none⟩ = some (.int .u64 (d0 : Int)) ∧ ((((W.setCell ⟨z, 0, none⟩ (.bool odd)).setCell ⟨z, 1, none⟩ (.int .u64 (LA : Int))).setCell ⟨z, 2, none⟩ (.int .u64 (LB : Int))).setCell ⟨z, 3, none⟩ (.int .u64 (NA : Int))).frozen? ⟨z, 4, none⟩ = false) ∧
    Sx (((((W.setCell ⟨z, 0, none⟩ (.bool odd)).setCell ⟨z, 1, none⟩ (.int .u64 (LA : Int))).setCell ⟨z, 2, none⟩ (.int .u64 (LB : Int))).setCell ⟨z, 3, none⟩ (.int .u64 (NA : Int))).setCell ⟨z, 4, none⟩ (.int .u64 (NB : Int))) z odd LA LB NA NB := by
  have t1 := h.set0 odd
  have t2 := t1.set1 LA
  have t3 := t2.set2 LB
  have t4 := t3.set3 NA
  exact ⟨⟨h.cell.1, h.free 0⟩, ⟨t1.cell.2.1, t1.free 1⟩, ⟨t2.cell.2.2.1, t2.free 2⟩, ⟨t3.cell.2.2.2.1, t3.free 3⟩, ⟨t4.cell.2.2.2.2, t4.free 4⟩, t4.set4 NB⟩

/-- What the steps tell of A and B. -/
def Told4 (A B LA LB NA NB : Nat) (odd : Bool) : Prop :=
  LA < 18446744073709551616 ∧ LB < 18446744073709551616 ∧ NA < 18446744073709551616 ∧ NB < 18446744073709551616 ∧ ∃ X : Nat, (X : Int) = dl odd * ((A : Int) * NA - B * NB) ∧ LastOK A B LA LB odd X
def StepsPost (A B : Nat) (w : World) (e : Ending) (w' : World) : Prop :=
  ∃ (odd : Bool) (LA LB NA NB : Nat), e = .returned (.agg #[.bool odd, .int .u64 (LA : Int), .int .u64 (LB : Int), .int .u64 (NA : Int), .int .u64 (NB : Int)]) ∧ Told4 A B LA LB NA NB odd ∧ Below w.heap.size w w'
def StAt (A B xh yh z p : Nat) (w : World) (vx vy va vb : Value) (W : World) : Prop :=
  ∃ (x y AA AB LA LB NA NB X : Nat) (odd : Bool), vx = .int .u64 (x : Int) ∧ vy = .int .u64 (y : Int) ∧ va = .int .u64 (AA : Int) ∧ vb = .int .u64 (AB : Int) ∧ x ≤ xh ∧ LA ≤ xh ∧ LB ≤ xh ∧ NA ≤ xh ∧ NB ≤ xh ∧ AA ≤ xh ∧ AB ≤ xh ∧
    TS A B xh yh x y LA LB NA NB AA AB X odd ∧ Sx W p odd LA LB NA NB ∧ Sx W z false 0 0 0 0 ∧ Below z w W

set_option maxRecDepth 100000 in
set_option maxHeartbeats 600000 in
theorem topSteps_any (A B xh yh E ea eb : Nat) (w : World) (hA : A = xh * E + ea) (hB : B = yh * E + eb) (ha : ea < E) (hb : eb < E) (hyx : yh ≤ xh) (hx : xh < 18446744073709551616) (hx1 : 1 ≤ xh) :
    Calls Tryd.prog 76 #[.int .u64 (xh : Int), .int .u64 (yh : Int)] w (StepsPost A B w) := by
  have HA := Lib.hid (And.intro hA (And.intro hB (And.intro ha hb)))
  have HX := Lib.hid (And.intro hx hx1)
  have HYX := Lib.hid hyx
  clear hA hB ha hb hx hyx hx1
  go_enter Tryd.func76, Tryd.ntmps76
  go_wp2_with fail
  obtain ⟨z, hz⟩ : ∃ z, z = w.heap.size := ⟨_, rfl⟩
  obtain ⟨p, hp⟩ : ∃ p, p = z + 1 := ⟨_, rfl⟩
  rw [← hz, ← hp]
  have HZ := Lib.hid (And.intro hz hp)
  clear hz hp
  go_loopw [0, 1, 6, 7] (fun vx vy va vb W => StAt A B xh yh z p w vx vy va vb W) (fun _ vy _ _ _ => (intOf vy).toNat)
  case atStart =>
    have h1 : Sx (w.alloc (.cells #[.bool false, .int .u64 0, .int .u64 0, .int .u64 0, .int .u64 0] 132)) z false 0 0 0 0 := by
      unfold Sx; rw [HZ.out.1]; exact heap_alloc_new w _
    refine ⟨xh, yh, 0, 1, 0, 0, 1, 0, A, true, rfl, rfl, rfl, rfl, Nat.le_refl _, by omega, by omega, HX.out.2, by omega, by omega, HX.out.2, TS.start HYX.out, ?_, h1.of_block (Below.heap_alloc _ _ _ h1.lt), ((Below.refl z w).alloc (Nat.le_of_eq HZ.out.1) _).alloc (by have := HZ.out.1; simp; omega) _⟩
    unfold Sx
    rw [HZ.out.2, HZ.out.1, show w.heap.size + 1 = (w.alloc (.cells #[.bool false, .int .u64 0, .int .u64 0, .int .u64 0, .int .u64 0] 132)).heap.size by simp]
    exact heap_alloc_new _ _
  case round =>
    obtain ⟨x, y, AA, AB, LA, LB, NA, NB, X, odd, rfl, rfl, rfl, rfl, bx, b1, b2, b3, b4, b5, b6, hts, hsx, hsz, hbel⟩ := hrel
    obtain ⟨c0, c1, c2, c3, c4⟩ := hsx.cell
    have f0 := hsx.free 0
    have f1 := hsx.free 1
    have f2 := hsx.free 2
    have f3 := hsx.free 3
    have f4 := hsx.free 4
    have HTS := Lib.hid hts
    have HSX := Lib.hid hsx
    have HSZ := Lib.hid hsz
    have HBEL := Lib.hid hbel
    have hyx := hts.yx
    by_cases hc1 : AB ≤ y
    · by_cases hc2 : y + (NB + AB) ≤ x
      · obtain ⟨q, hq⟩ : ∃ q, q = x / y := ⟨_, rfl⟩
        obtain ⟨r, hr⟩ : ∃ r, r = x % y := ⟨_, rfl⟩
        obtain ⟨Y, hts2⟩ := hts.step HA.out.1 HA.out.2.1 HA.out.2.2.1 HA.out.2.2.2 hc1 hc2 hq hr
        have hy1 : 1 ≤ y := by have := hts.pos1; omega
        have hsm := hts2.small hy1
        have hsm2 := hts.small2 (by omega) hy1
        have hx64 := HX.out.1
        have hqa : q * AA ≤ xh := by omega
        have hqb : q * AB ≤ xh := by omega
        have g1 : (AB : Int) ≤ (y : Int) := by omega
        obtain ⟨d, hd⟩ : ∃ d, d = x - y := ⟨_, rfl⟩
        obtain ⟨f, hf⟩ : ∃ f, f = NB + AB := ⟨_, rfl⟩
        obtain ⟨qa, hqae⟩ : ∃ qa, qa = q * AA := ⟨_, rfl⟩
        obtain ⟨qb, hqbe⟩ : ∃ qb, qb = q * AB := ⟨_, rfl⟩
        obtain ⟨na, hna⟩ : ∃ na, na = NA + qa := ⟨_, rfl⟩
        obtain ⟨nb, hnb⟩ : ∃ nb, nb = NB + qb := ⟨_, rfl⟩
        rw [← hqae] at hts2 hsm hqa
        rw [← hqbe] at hts2 hsm hqb
        rw [← hna, ← hnb] at hts2 hsm
        have e1 : (x : Int) - (y : Int) = (d : Int) := by omega
        have e2 : (NB : Int) + (AB : Int) = (f : Int) := by omega
        have e3 : (x : Int) / (y : Int) = (q : Int) := by rw [hq]; simp
        have e4 : (x : Int) % (y : Int) = (r : Int) := by rw [hr]; simp
        have e5 : (q : Int) * (AA : Int) = (qa : Int) := by rw [hqae]; simp
        have e6 : (q : Int) * (AB : Int) = (qb : Int) := by rw [hqbe]; simp
        have e7 : (NA : Int) + (qa : Int) = (na : Int) := by omega
        have e8 : (NB : Int) + (qb : Int) = (nb : Int) := by omega
        have g2 : (f : Int) ≤ (d : Int) := by omega
        have j1 : (d : Int) ≤ 18446744073709551615 := by omega
        have j2 : (f : Int) ≤ 18446744073709551615 := by omega
        have j3 : (qa : Int) ≤ 18446744073709551615 := by omega
        have j4 : (qb : Int) ≤ 18446744073709551615 := by omega
        have j5 : (na : Int) ≤ 18446744073709551615 := by omega
        have j6 : (nb : Int) ≤ 18446744073709551615 := by omega
        have j7 : (q : Int) ≤ 18446744073709551615 := by have := Nat.div_le_self x y; omega
        have j8 : (r : Int) ≤ 18446744073709551615 := by have := Nat.mod_le x y; omega
        have y0 : ¬ (y : Int) = 0 := by omega
        have hrl : r < y := by rw [hr]; exact Nat.mod_lt _ (by omega)
        have HTS2 := Lib.hid hts2
        have HRL := Lib.hid (And.intro hrl hyx)
        have HB7 := Lib.hid (And.intro hsm (And.intro b3 (And.intro b4 (And.intro b5 (And.intro b6 bx)))))
        have s1 := hsx.set1 NA
        have s2 := s1.set3 AA
        have s3 := s2.set2 NB
        have s4 := s3.set4 AB
        have s5 := s4.set0 (!odd)
        obtain ⟨m0, m1, m2, m3, m4⟩ := s1.cell
        have n3 := s1.free 3
        obtain ⟨v0, v1, v2, v3, v4⟩ := s2.cell
        have w2 := s2.free 2
        obtain ⟨x0, x1, x2, x3, x4⟩ := s3.cell
        have y4 := s3.free 4
        obtain ⟨z0, z1, z2, z3, z4⟩ := s4.cell
        have zz := s4.free 0
        have HS5 := Lib.hid s5
        clear hts hts2 hsx hsz hbel b1 b2 b3 b4 b5 b6 hc1 hc2 hq hr hd hf hqae hqbe hna hnb hsm hsm2 hqa hqb hrl hy1 s1 s2 s3 s4 s5 hx64
        go_wp2_with fail
        go_region
        go_wp2_with fail
        go_roundw
        case rel =>
          have hpz : p ≠ z := by have := HZ.out.2; omega
          have hzp : z ≤ p := by have := HZ.out.2; omega
          have hz1 : Sx ((((((wr.setCell ⟨p, 1, none⟩ (.int .u64 (NA : Int))).setCell ⟨p, 3, none⟩ (.int .u64 (AA : Int))).setCell ⟨p, 2, none⟩ (.int .u64 (NB : Int))).setCell ⟨p, 4, none⟩ (.int .u64 (AB : Int))).setCell ⟨p, 0, none⟩ (.bool (!odd))).drew) z false 0 0 0 0 :=
            (((((HSZ.out.other (q := ⟨p, 1, none⟩) hpz _).other (q := ⟨p, 3, none⟩) hpz _).other (q := ⟨p, 2, none⟩) hpz _).other (q := ⟨p, 4, none⟩) hpz _).other (q := ⟨p, 0, none⟩) hpz _).drew
          have hb1 : Below z w ((((((wr.setCell ⟨p, 1, none⟩ (.int .u64 (NA : Int))).setCell ⟨p, 3, none⟩ (.int .u64 (AA : Int))).setCell ⟨p, 2, none⟩ (.int .u64 (NB : Int))).setCell ⟨p, 4, none⟩ (.int .u64 (AB : Int))).setCell ⟨p, 0, none⟩ (.bool (!odd))).drew) :=
            (((((HBEL.out.setCell (p := ⟨p, 1, none⟩) hzp _).setCell (p := ⟨p, 3, none⟩) hzp _).setCell (p := ⟨p, 2, none⟩) hzp _).setCell (p := ⟨p, 4, none⟩) hzp _).setCell (p := ⟨p, 0, none⟩) hzp _).drew
          obtain ⟨⟨k1, k2⟩, k3, k4, k5, k6, k7⟩ := HB7.out
          have hyy : y ≤ xh := Nat.le_trans HRL.out.2 bx
          have e4' : Value.int IntKind.u64 ((x : Int) % (y : Int)) = Value.int IntKind.u64 (r : Int) := by rw [e4]
          refine ⟨y, r, na, nb, NA, NB, AA, AB, Y, !odd, rfl, e4', rfl, rfl, hyy, k3, k4, k5, k6, k2, k1, HTS2.out, HS5.out.drew, hz1, hb1⟩
        case measure =>
          rw [e4]
          have := HRL.out.1
          simpa [intOf] using this
      · have g1 : (AB : Int) ≤ (y : Int) := by omega
        have hy1 : 1 ≤ y := by have := hts.pos1; omega
        have hsm2 := hts.small2 (by omega) hy1
        have hx64 := HX.out.1
        obtain ⟨d, hd⟩ : ∃ d, d = x - y := ⟨_, rfl⟩
        obtain ⟨f, hf⟩ : ∃ f, f = NB + AB := ⟨_, rfl⟩
        have e1 : (x : Int) - (y : Int) = (d : Int) := by omega
        have e2 : (NB : Int) + (AB : Int) = (f : Int) := by omega
        have g2 : ¬ (f : Int) ≤ (d : Int) := by omega
        have j1 : (d : Int) ≤ 18446744073709551615 := by omega
        have j2 : (f : Int) ≤ 18446744073709551615 := by omega
        have HB6 := Lib.hid (And.intro b1 (And.intro b2 (And.intro b3 b4)))
        clear hc2 hd hf hy1 hsm2 hx64
        obtain ⟨⟨k0, l0⟩, ⟨k1, l1⟩, ⟨k2, l2⟩, ⟨k3, l3⟩, ⟨k4, l4⟩, hfin⟩ := hsz.fill (odd := odd) (LA := LA) (LB := LB) (NA := NA) (NB := NB)
        have HFIN := Lib.hid hfin
        clear hts hsx hsz hbel b1 b2 b3 b4 b5 b6 hc1 hfin
        go_wp2_with fail
        try simp only [Exit.inBlock, Exit.then]
        refine bodyPost_ret (results_cell_row rfl _ _ z 132 _ (0, 0) _ rfl HFIN.out Tryd.underlying132 rfl (by kernel_rfl)) rfl ?_
        have hb := HB6.out
        have hx := HX.out.1
        refine ⟨odd, LA, LB, NA, NB, rfl, ⟨by omega, by omega, by omega, by omega, X, HTS.out.tr, HTS.out.last⟩, ?_⟩
        have hz : w.heap.size ≤ z := Nat.le_of_eq HZ.out.1.symm
        exact ((((((HBEL.out).mono hz).setCell hz _).setCell hz _).setCell hz _).setCell hz _).setCell hz _
    · have g1 : ¬ (AB : Int) ≤ (y : Int) := by omega
      have HB6 := Lib.hid (And.intro b1 (And.intro b2 (And.intro b3 b4)))
      obtain ⟨⟨k0, l0⟩, ⟨k1, l1⟩, ⟨k2, l2⟩, ⟨k3, l3⟩, ⟨k4, l4⟩, hfin⟩ := hsz.fill (odd := odd) (LA := LA) (LB := LB) (NA := NA) (NB := NB)
      have HFIN := Lib.hid hfin
      clear hts hsx hsz hbel b1 b2 b3 b4 b5 b6 hc1 hfin
      go_wp2_with fail
      try simp only [Exit.inBlock, Exit.then]
      refine bodyPost_ret (results_cell_row rfl _ _ z 132 _ (0, 0) _ rfl HFIN.out Tryd.underlying132 rfl (by kernel_rfl)) rfl ?_
      have hb := HB6.out
      have hx := HX.out.1
      refine ⟨odd, LA, LB, NA, NB, rfl, ⟨by omega, by omega, by omega, by omega, X, HTS.out.tr, HTS.out.last⟩, ?_⟩
      have hz : w.heap.size ≤ z := Nat.le_of_eq HZ.out.1.symm
      exact ((((((HBEL.out).mono hz).setCell hz _).setCell hz _).setCell hz _).setCell hz _).setCell hz _
end Go.Proofs.YtcbebikcfcidmaaDoor

namespace Go.Proofs.YtcbebikcfcidmaaDoor
open Go.RowKit

theorem top_math {A : List Nat} {i n t : Nat} (fA : Fits A) (hl : A.length ≤ i + 2) (ht : n + t = 64) : lv A / 2 ^ (64 * i + t) = A.getD (i + 1) 0 * 2 ^ n + A.getD i 0 / 2 ^ t := by
  have h1 := div_limb fA i
  have h2 : lv A / 2 ^ (64 * (i + 1)) = A.getD (i + 1) 0 := by
    have h3 := div_limb fA (i + 1)
    have h4 : lv A / 2 ^ (64 * (i + 1 + 1)) = 0 := Nat.div_eq_of_lt (Nat.lt_of_lt_of_le (lv_lt fA) (Nat.pow_le_pow_right (by omega) (by omega)))
    rw [h3, h4, Nat.zero_mul, Nat.zero_add]
  rw [Nat.pow_add, ← Nat.div_div_eq_div_mul, h1, h2]
  have hp : 2 ^ t * 2 ^ n = 18446744073709551616 := by rw [← Nat.pow_add, show t + n = 64 by omega]
  generalize A.getD (i + 1) 0 = p
  generalize A.getD i 0 = q
  rw [← hp, Nat.mul_comm p, Nat.mul_assoc, Nat.add_comm, Nat.add_mul_div_left _ _ (Nat.two_pow_pos t), Nat.mul_comm p, Nat.add_comm]

set_option maxRecDepth 100000 in
set_option maxHeartbeats 600000 in
theorem takeTop_any (a : Option Addr) (ca : Nat) (A : List Nat) (i n t z y : Nat) (w : World) (fA : Fits A) (hl : A.length ≤ i + 2) (hi : i ≤ 1048576) (ht : n + t = 64) (hn : n ≤ 63) (hx : A.getD (i + 1) 0 * 2 ^ n < 18446744073709551616) (ma : NatAt w a A)
    (bz : Box w z (.int .i64 ((i + 1 : Nat) : Int))) (bn : Box w y (.int .i64 (n : Int))) :
    Calls Tryd.prog 87 #[.slice a A.length ca, .pointer (some ⟨z, 0, none⟩), .pointer (some ⟨y, 0, none⟩)] w (fun e w' => e = .returned (.int .u64 ((lv A / 2 ^ (64 * i + t) : Nat) : Int)) ∧ ∃ k, w' = w.drewN k) := by
  rw [top_math fA hl ht]
  have hxi := getD_fits fA i
  have HL1 := Lib.hid (fun m => (limb_any a ca A ((i + 1 : Nat) : Int) (i + 1) rfl (A.getD (i + 1) 0) rfl (w.drewN m) ma).mono (fun _ _ h => (⟨h.1, h.2.symm⟩ : _ = _ ∧ _ = _)))
  have HL2 := Lib.hid (fun m => (limb_any a ca A (i : Int) i rfl (A.getD i 0) rfl (w.drewN m) ma).mono (fun _ _ h => (⟨h.1, h.2.symm⟩ : _ = _ ∧ _ = _)))
  generalize A.getD (i + 1) 0 = p at *
  generalize A.getD i 0 = q at *
  have hp64 : p < 18446744073709551616 := Nat.lt_of_le_of_lt (Nat.le_mul_of_pos_right p (Nat.two_pow_pos n)) hx
  obtain ⟨u, hu⟩ : ∃ u, u = p * 2 ^ n := ⟨_, rfl⟩
  obtain ⟨v, hv⟩ : ∃ v, v = q / 2 ^ t := ⟨_, rfl⟩
  obtain ⟨T, hT⟩ : ∃ T, T = i + 1 := ⟨_, rfl⟩
  have hvb : v < 2 ^ n := by
    rw [hv, Nat.div_lt_iff_lt_mul (Nat.two_pow_pos t), ← Nat.pow_add, ht]; exact hxi
  have hor := or_low (h := p) (l := v) (s := n) hx hvb (by omega)
  rw [← hu] at hor hx
  rw [← hT] at HL1 bz
  have HL1 := Lib.hid HL1.out
  have e1 : IntKind.u64.wrap ((p : Int) * 2 ^ n) = (u : Int) := by rw [show (p : Int) * 2 ^ n = ((p * 2 ^ n : Nat) : Int) by simp, wrap_nat, ← hu, Nat.mod_eq_of_lt hx]
  have e2 : (64 : Int) - (n : Int) = (t : Int) := by omega
  have e3 : (q : Int) / 2 ^ t = (v : Int) := by rw [hv]; simp
  have e4 : (T : Int) - 1 = (i : Int) := by omega
  have n0 : (0 : Int) ≤ (n : Int) := by omega
  have t0 : (0 : Int) ≤ (t : Int) := by omega
  have n9 : (n : Int) ≤ 63 := by omega
  have t9 : (t : Int) ≤ 64 := by omega
  have T1 : (1 : Int) ≤ (T : Int) := by omega
  have T9 : (T : Int) ≤ 1048577 := by omega
  have cz := bz.1
  have cn := bn.1
  have HU := Lib.hid hu
  have HV := Lib.hid hv
  rw [← hu, ← hv]
  clear hu hv hT hvb ma bz bn hx hp64 hxi ht hn hl fA
  go_enter Tryd.func87, Tryd.ntmps87
  go_wp2_with fail
  go_quiet ((first | (go_at_call 88; with_reducible exact Calls.quiet_of_same (HL1.out _)) | (go_at_call 88; with_reducible exact Calls.quiet_of_same (HL2.out _))))
  go_wp2_with fail
  go_ret
  exact ⟨by simp, _, rfl⟩

theorem below_dN {B : Nat} {a w : World} (h : Below B a w) (n : Nat) : Below B a (w.drewN n) := h.trans ⟨rfl, rfl, rfl, Nat.le_refl _, fun _ _ => rfl⟩
theorem Box.drewN {w : World} {b : Nat} {v : Value} (h : Box w b v) (n : Nat) : Box (w.drewN n) b v := h
def TopPost (x y : Nat) (w : World) (e : Ending) (w' : World) : Prop :=
  ∃ s : Nat, e = .returned (.tuple #[.int .u64 ((x / 2 ^ s : Nat) : Int), .int .u64 ((y / 2 ^ s : Nat) : Int)]) ∧ 1 ≤ x / 2 ^ s ∧ x / 2 ^ s < 18446744073709551616 ∧ Below w.heap.size w w'
set_option maxRecDepth 100000 in
set_option maxHeartbeats 600000 in
theorem topLimbs_any (a b : Option Addr) (ca cb x y i : Nat) (w : World) (hyx : y ≤ x) (hlx : (nrow x).length = i + 2) (hi : i ≤ 1048576) (ma : NatAt w a (nrow x)) (mb : NatAt w b (nrow y)) :
    Calls Tryd.prog 77 #[.slice a (nrow x).length ca, .slice b (nrow y).length cb] w (TopPost x y w) := by
  have h0 : x ≠ 0 := fun e => by rw [e, nrow_zero] at hlx; simp at hlx
  obtain ⟨u, u1, u2, u3, u4⟩ := blen_nrow h0
  rw [hlx, show i + 2 - 1 = i + 1 from rfl] at u1 u4
  have hbu := blen_le (show u < 2 ^ 64 from u2)
  have hbp := blen_pos u3
  obtain ⟨n, hn⟩ : ∃ n, n + blen u = 64 := ⟨64 - blen u, by omega⟩
  obtain ⟨t, ht⟩ : ∃ t, t = blen u := ⟨_, rfl⟩
  have hnt : n + t = 64 := by omega
  have hlz := fun W => Tryd.bits_LeadingZeros64 u W (by omega) (by omega)
  rw [Int.toNat_natCast, bitLen_blen u2, show (64 : Int) - (blen u : Int) = (n : Int) by omega] at hlz
  have HLZ := Lib.hid hlz
  have hun : u * 2 ^ n < 18446744073709551616 := by
    have h1 := lt_blen u
    have h2 : 2 ^ blen u * 2 ^ n = 18446744073709551616 := by rw [← Nat.pow_add, show blen u + n = 64 by omega]
    have h3 := Nat.mul_lt_mul_of_pos_right h1 (Nat.two_pow_pos n)
    omega
  have hly := nrow_mono hyx
  have hyt : (nrow y).getD (i + 1) 0 * 2 ^ n < 18446744073709551616 := by
    refine Nat.lt_of_le_of_lt (Nat.mul_le_mul_right _ ?_) hun
    have e1 := div_limb (nrow_fits y) (i + 1)
    have e2 := div_limb (nrow_fits x) (i + 1)
    have z1 : lv (nrow y) / 2 ^ (64 * (i + 1 + 1)) = 0 := Nat.div_eq_of_lt (Nat.lt_of_lt_of_le (lv_lt (nrow_fits y)) (Nat.pow_le_pow_right (by omega) (by omega)))
    have z2 : lv (nrow x) / 2 ^ (64 * (i + 1 + 1)) = 0 := Nat.div_eq_of_lt (Nat.lt_of_lt_of_le (lv_lt (nrow_fits x)) (Nat.pow_le_pow_right (by omega) (by omega)))
    rw [z1, Nat.zero_mul, Nat.zero_add, lv_nrow] at e1
    rw [z2, Nat.zero_mul, Nat.zero_add, lv_nrow, u1] at e2
    rw [← e1, ← e2]
    exact Nat.div_le_div_right hyx
  have hcell : ∃ ba oa, a = some ⟨ba, oa, none⟩ ∧ w.cell? ⟨ba, oa + (i + 1), none⟩ = some (.int .u64 (u : Int)) := by
    obtain ⟨b', o', e', hc⟩ := ma (i + 1) (by omega)
    exact ⟨b', o', e', by rw [u1] at hc; exact hc⟩
  obtain ⟨ba, oa, rfl, hc⟩ := hcell
  have hba : ba < w.heap.size := World.block_lt_of_cell? w _ hc
  obtain ⟨z, hz⟩ : ∃ z, z = w.heap.size := ⟨_, rfl⟩
  obtain ⟨T, hT⟩ : ∃ T, T = i + 1 := ⟨_, rfl⟩
  obtain ⟨p1, p2, p3⟩ := box_next hz (.int .i64 (T : Int)) 3
  obtain ⟨q1, q2, q3⟩ := box_next p2 (.int .i64 (n : Int)) 3
  have hc2 := (p3.cell (p := ⟨ba, oa + (i + 1), none⟩) hba).trans hc
  rw [← hT] at hc2
  have hb2 : Below w.heap.size w ((w.alloc (.cells #[.int .i64 (T : Int)] 3)).alloc (.cells #[.int .i64 (n : Int)] 3)) := p3.trans (q3.mono p3.size)
  have hma2 := ma.below hb2 (Nat.le_refl _)
  have hmb2 := mb.below hb2 (Nat.le_refl _)
  have p1' := p1.alloc (.cells #[.int .i64 (n : Int)] 3)
  have HK1 := Lib.hid (fun W (hm : NatAt W (some ⟨ba, oa, none⟩) (nrow x)) (bz : Box W z (.int .i64 (T : Int))) (bn : Box W (z + 1) (.int .i64 (n : Int))) => takeTop_any (some ⟨ba, oa, none⟩) ca (nrow x) i n t z (z + 1) W (nrow_fits x) (by omega) hi hnt (by omega) (by rw [u1]; exact hun) hm (by rw [← hT]; exact bz) bn)
  have HK2 := Lib.hid (fun W (hm : NatAt W b (nrow y)) (bz : Box W z (.int .i64 (T : Int))) (bn : Box W (z + 1) (.int .i64 (n : Int))) => takeTop_any b cb (nrow y) i n t z (z + 1) W (nrow_fits y) (by omega) hi hnt (by omega) hyt hm (by rw [← hT]; exact bz) bn)
  rw [lv_nrow] at HK1 HK2
  obtain ⟨s, hs⟩ : ∃ s, s = 64 * i + t := ⟨_, rfl⟩
  obtain ⟨X1, hX1⟩ : ∃ X1, X1 = x / 2 ^ s := ⟨_, rfl⟩
  obtain ⟨Y1, hY1⟩ : ∃ Y1, Y1 = y / 2 ^ s := ⟨_, rfl⟩
  rw [← hs, ← hX1] at HK1
  rw [← hs, ← hY1] at HK2
  have HK1 := Lib.hid HK1.out
  have HK2 := Lib.hid HK2.out
  have hval : 1 ≤ x / 2 ^ (64 * i + t) ∧ x / 2 ^ (64 * i + t) < 18446744073709551616 := by
    have h1 := top_math (i := i) (nrow_fits x) (by omega) hnt
    rw [lv_nrow, u1] at h1
    have hp : 2 ^ t * 2 ^ n = 18446744073709551616 := by rw [← Nat.pow_add, show t + n = 64 by omega]
    have h2 : (nrow x).getD i 0 / 2 ^ t < 2 ^ n := by
      rw [Nat.div_lt_iff_lt_mul (Nat.two_pow_pos t), Nat.mul_comm, hp]; exact getD_fits (nrow_fits x) i
    have h3 : u * 2 ^ n + 2 ^ n ≤ 18446744073709551616 := by
      have h4 := lt_blen u
      rw [← ht] at h4
      have h5 := Nat.mul_le_mul_right (2 ^ n) (show u + 1 ≤ 2 ^ t from h4)
      rw [hp, Nat.add_mul, Nat.one_mul] at h5
      exact h5
    have h6 : 1 ≤ u * 2 ^ n := Nat.mul_pos (Nat.pos_of_ne_zero u3) (Nat.two_pow_pos n)
    rw [h1]
    generalize (nrow x).getD i 0 / 2 ^ t = m at *
    generalize u * 2 ^ n = U at *
    generalize 2 ^ n = V at *
    omega
  rw [← hs, ← hX1] at hval
  have HVAL := Lib.hid hval
  have HXY := Lib.hid (And.intro hX1 hY1)
  obtain ⟨Lx, hLx⟩ : ∃ Lx, Lx = (nrow x).length := ⟨_, rfl⟩
  have hI : (Lx : Int) - 1 = (T : Int) := by omega
  have hT0 : (0 : Int) ≤ (T : Int) := by omega
  have hTL : (T : Int) < (Lx : Int) := by omega
  have hL9 : (Lx : Int) ≤ 1048578 := by omega
  have h2L : (2 : Int) ≤ (Lx : Int) := by omega
  have HMA := Lib.hid hma2
  have HMB := Lib.hid hmb2
  have HP := Lib.hid p1'
  have HQ := Lib.hid q1
  have HB := Lib.hid hb2
  have HZ := Lib.hid (And.intro hz p2)
  rw [← hLx] at HK1 ⊢
  have HK1 := Lib.hid HK1.out
  clear hlx u1 u2 u3 u4 hbu hbp hn ht hnt hlz hun hly hyt hba hT p1 p2 p3 q1 q2 q3 hb2 hma2 hmb2 p1' hval hLx ma mb h0 hi hyx hs hX1 hY1
  go_enter Tryd.func77, Tryd.ntmps77
  go_wp2_with fail
  refine (HLZ.out _).mono ?_
  rintro e W ⟨rfl, hW⟩
  rw [hW]
  clear hW W
  go_wp2_with fail
  rw [← HZ.out.1]
  with_reducible refine (HK1.out _ HMA.out HP.out HQ.out).mono ?_
  rintro e W1 ⟨rfl, k, hW⟩
  have HB1 : Hid (Below w.heap.size w W1) := Lib.hid (by rw [hW]; exact below_dN HB.out _)
  have HMB1 : Hid (NatAt W1 b (nrow y)) := Lib.hid (by rw [hW]; exact HMB.out.drewN)
  have HP1 : Hid (Box W1 z (.int .i64 (T : Int))) := Lib.hid (by rw [hW]; exact HP.out.drewN k)
  have HQ1 : Hid (Box W1 (z + 1) (.int .i64 (n : Int))) := Lib.hid (by rw [hW]; exact HQ.out.drewN k)
  clear hW hc hc2
  go_wp2_with fail
  rw [← HZ.out.1]
  with_reducible refine (HK2.out _ HMB1.out HP1.out HQ1.out).mono ?_
  rintro e W2 ⟨rfl, k2, hW⟩
  have HB2 : Hid (Below w.heap.size w W2) := Lib.hid (by rw [hW]; exact below_dN HB1.out _)
  clear hW
  go_wp2_with fail
  go_ret2
  exact ⟨s, by rw [← HXY.out.1, ← HXY.out.2]; rfl, by rw [← HXY.out.1]; exact HVAL.out.1, by rw [← HXY.out.1]; exact HVAL.out.2, HB2.out⟩
end Go.Proofs.YtcbebikcfcidmaaDoor

namespace Go.Proofs.YtcbebikcfcidmaaDoor
open Go.RowKit

theorem mix_step {O r Y y X x l m c c' o o' b b' p M : Nat} (h : O + l * Y + p * c = m * X + p * (b + o)) (hm : r + y * l + o + b + M * c' = x * m + c + M * (b' + o')) :
    O + p * r + l * (Y + p * y) + p * M * c' = m * (X + p * x) + p * M * (b' + o') := by
  have h2 : p * (r + y * l + o + b + M * c') = p * (x * m + c + M * (b' + o')) := by rw [hm]
  grind
/-- What is left at the end. -/
theorem mix_done {O Y X l m c b o p V u v : Nat} (h : O + l * Y + p * c = m * X + p * (b + o)) (hV : m * X + p * u = V + l * Y + p * v) (hO : O < p) (hVp : V < p) : O = V := by
  have h2 : O + p * (c + u) = V + p * (v + (b + o)) := by rw [Nat.mul_add p c u, Nat.mul_add p v]; omega
  exact eq_of_wrap h2 hO hVp

def NxAt (B z q g9 g10 g1 g2 c1 c2 L m1 l1 m2 l2 : Nat) (P1 P2 : List Nat) (w : World) (k : Nat) (W : World) : Prop :=
  ∃ (O1 O2 : List Nat) (e1 o1 b1 e2 o2 b2 : Nat), (O1.length = k ∧ O2.length = k ∧ k ≤ L ∧ Fits O1 ∧ Fits O2) ∧
    (e1 < 18446744073709551616 ∧ o1 < 18446744073709551616 ∧ b1 ≤ 1 ∧ e2 < 18446744073709551616 ∧ o2 < 18446744073709551616 ∧ b2 ≤ 1) ∧
    lv O1 + l1 * lv (P2.take k) + 2 ^ (64 * k) * e1 = m1 * lv (P1.take k) + 2 ^ (64 * k) * (b1 + o1) ∧
    lv O2 + l2 * lv (P1.take k) + 2 ^ (64 * k) * e2 = m2 * lv (P2.take k) + 2 ^ (64 * k) * (b2 + o2) ∧
    NRow B W (.slice (some ⟨g1, 0, none⟩) L c1) (O1 ++ P1.drop k) ∧ NRow B W (.slice (some ⟨g2, 0, none⟩) L c2) (O2 ++ P2.drop k) ∧
    Mx W g9 m1 l1 e1 o1 b1 ∧ Mx W g10 m2 l2 e2 o2 b2 ∧
    Box W z (.slice (some ⟨g1, 0, none⟩) L c1) ∧ Box W (z + 1) (.slice (some ⟨g2, 0, none⟩) L c2) ∧ Box W q (.int .i64 (k : Int)) ∧
    Box W (q + 1) (.slice (some ⟨g1, 0, none⟩) L c1) ∧ Box W (q + 2) (.slice (some ⟨g2, 0, none⟩) L c2) ∧ q + 3 ≤ W.heap.size ∧ Below B w W
theorem NxAt.below {B z q g9 g10 g1 g2 c1 c2 L m1 l1 m2 l2 : Nat} {P1 P2 : List Nat} {w : World} {k : Nat} {W W' : World} (hz : z + 1 < q) (h9 : g9 < q) (h10 : g10 < q) (h1 : g1 < q) (h2 : g2 < q) (hB : B ≤ q) (hb : Below (q + 3) W W')
    (h : NxAt B z q g9 g10 g1 g2 c1 c2 L m1 l1 m2 l2 P1 P2 w k W) : NxAt B z q g9 g10 g1 g2 c1 c2 L m1 l1 m2 l2 P1 P2 w k W' := by
  obtain ⟨O1, O2, e1, o1, b1, e2, o2, b2, i1, i2, i3, i4, r1, r2, x1, x2, t1, t2, t3, t4, t5, hs, hl⟩ := h
  exact ⟨O1, O2, e1, o1, b1, e2, o2, b2, i1, i2, i3, i4, r1.of_block (hb.block g1 (by omega)), r2.of_block (hb.block g2 (by omega)), x1.of_block (hb.block g9 (by omega)), x2.of_block (hb.block g10 (by omega)),
    t1.below hb (by omega), t2.below hb (by omega), t3.below hb (by omega), t4.below hb (by omega), t5.below hb (by omega), Nat.le_trans hs hb.size, hl.trans (hb.mono (by omega))⟩
/-- A limb of a row of the call's own, written. -/
theorem NRow.setAt {B g cap n k x : Nat} {w : World} {L : List Nat} (h : NRow B w (.slice (some ⟨g, 0, none⟩) n cap) L) (hk : k < L.length) : NRow B (w.setCell ⟨g, k, none⟩ (.int .u64 (x : Int))) (.slice (some ⟨g, 0, none⟩) n cap) (L.set k x) := by
  have hs := h.seg.2.2.2.2.2.set (k := k) hk x
  rw [Nat.zero_add] at hs
  exact h.wrote ((Wrote.refl g 0 L.length w).setIn (Nat.zero_le _) hk _) hs (by simp)
end Go.Proofs.YtcbebikcfcidmaaDoor
