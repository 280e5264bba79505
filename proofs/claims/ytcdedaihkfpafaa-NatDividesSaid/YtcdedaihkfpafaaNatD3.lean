/-
  LAYER 3: the texts NatStepsM, NatMix, NatSteps, NatTop, NatNextM, NatNext, NatNextAll, one behind the other.
-/
import Derived.Test.YtcdedaihkfpafaaNatA1
import Derived.Test.YtcdedaihkfpafaaNatB2
import Derived.Test.YtcdedaihkfpafaaNatD1
import Derived.Test.YtcdedaihkfpafaaNatB1
import Derived.Test.YtcdedaihkfpafaaNatB8
import Derived.Laws.Rows
import Derived.Deep.QuietTactic

namespace Go.Proofs.Ytcdedaihkfpafaa

def dl (odd : Bool) : Int := if odd then 1 else -1
theorem dl_not (odd : Bool) : dl (!odd) = - dl odd := by cases odd <;> rfl

/-- What the last two remainders are, if there are two. -/
def LastOK (A B LA LB : Nat) (odd : Bool) (X : Nat) : Prop :=
  LB = 0 ∨ ∃ L : Nat, (L : Int) = - dl odd * ((A : Int) * LA - B * LB) ∧ X < L ∧ L ≤ B ∧ Nat.gcd L X = Nat.gcd A B
/-- The state of the steps. -/
structure TS (A B xh yh x y LA LB NA NB AA AB X : Nat) (odd : Bool) : Prop where
  h1 : xh = x * AB + y * NB
  h2 : yh = x * AA + y * NA
  det : (NA : Int) * AB - NB * AA = dl odd
  le1 : AA ≤ AB
  le2 : NA + AA ≤ NB + AB
  pos1 : 1 ≤ AB
  pos2 : 1 ≤ NA + AA
  yx : y ≤ x
  tr : (X : Int) = dl odd * ((A : Int) * NA - B * NB)
  top : NB = 0 ∨ X ≤ B
  gcd : Int.gcd X (dl odd * ((B : Int) * AB - A * AA)) = Nat.gcd A B
  last : LastOK A B LA LB odd X

theorem TS.start {A B xh yh : Nat} (h : yh ≤ xh) : TS A B xh yh xh yh 0 0 1 0 0 1 A true :=
  ⟨by omega, by omega, by simp [dl], by omega, by omega, by omega, by omega, h, by simp [dl], .inl rfl, by simp [dl, Int.gcd], .inl rfl⟩

theorem certify {A B xh yh E ea eb x y LA LB NA NB AA AB X : Nat} {odd : Bool} (hA : A = xh * E + ea) (hB : B = yh * E + eb) (ha : ea < E) (hb : eb < E) (h : TS A B xh yh x y LA LB NA NB AA AB X odd)
    (c1 : AB ≤ y) (c2 : y + (NB + AB) ≤ x) : 0 ≤ dl odd * ((B : Int) * AB - A * AA) ∧ dl odd * ((B : Int) * AB - A * AA) < X := by
  obtain ⟨h1, h2, det, le1, le2, pos1, pos2, yx, tr, _, _, _⟩ := h
  have m1 : E * AB ≤ E * y := Nat.mul_le_mul_left E c1
  have m2 : ea * AA ≤ E * AB := Nat.mul_le_mul (Nat.le_of_lt ha) le1
  have m3 : eb * AB ≤ E * AB := Nat.mul_le_mul_right _ (Nat.le_of_lt hb)
  have m4 : E * y + E * (NB + AB) ≤ E * x := by rw [← Nat.mul_add]; exact Nat.mul_le_mul_left E c2
  have m5 : eb * (NB + AB) < E * (NB + AB) := Nat.mul_lt_mul_of_pos_right hb (by omega)
  have m6 : ea * (NA + AA) < E * (NA + AA) := Nat.mul_lt_mul_of_pos_right ha (by omega)
  have m7 : E * (NA + AA) ≤ E * (NB + AB) := Nat.mul_le_mul_left E le2
  rw [tr]
  have eA : (A : Int) = xh * E + ea := by rw [hA]; simp
  have eB : (B : Int) = yh * E + eb := by rw [hB]; simp
  have eh1 : (xh : Int) = x * AB + y * NB := by rw [h1]; simp
  have eh2 : (yh : Int) = x * AA + y * NA := by rw [h2]; simp
  cases odd
  · have d : (NA : Int) * AB - NB * AA = -1 := det
    have y1 : -1 * ((B : Int) * AB - A * AA) = E * y - eb * AB + ea * AA := by
      rw [eA, eB, eh1, eh2]; grind
    have y2 : -1 * ((A : Int) * NA - B * NB) = E * x - ea * NA + eb * NB := by
      rw [eA, eB, eh1, eh2]; grind
    show 0 ≤ -1 * ((B : Int) * AB - A * AA) ∧ -1 * ((B : Int) * AB - A * AA) < -1 * ((A : Int) * NA - B * NB)
    rw [y1, y2]
    have n1 : (E : Int) * AB ≤ E * y := by exact_mod_cast m1
    have n3 : (eb : Int) * AB ≤ E * AB := by exact_mod_cast m3
    have n2 : (0 : Int) ≤ ea * AA := by exact_mod_cast Nat.zero_le (ea * AA)
    have n4 : (E : Int) * y + E * (NB + AB) ≤ E * x := by exact_mod_cast m4
    have n6 : (ea : Int) * (NA + AA) < E * (NA + AA) := by exact_mod_cast m6
    have n7 : (E : Int) * (NA + AA) ≤ E * (NB + AB) := by exact_mod_cast m7
    have n8 : (0 : Int) ≤ eb * (NB + AB) := by exact_mod_cast Nat.zero_le (eb * (NB + AB))
    rw [Int.mul_add] at n4 n6 n7 n8
    rw [Int.mul_add] at n6 n7
    constructor <;> omega
  · have d : (NA : Int) * AB - NB * AA = 1 := det
    have y1 : 1 * ((B : Int) * AB - A * AA) = E * y + eb * AB - ea * AA := by
      rw [eA, eB, eh1, eh2]; grind
    have y2 : 1 * ((A : Int) * NA - B * NB) = E * x + ea * NA - eb * NB := by
      rw [eA, eB, eh1, eh2]; grind
    show 0 ≤ 1 * ((B : Int) * AB - A * AA) ∧ 1 * ((B : Int) * AB - A * AA) < 1 * ((A : Int) * NA - B * NB)
    rw [y1, y2]
    have n1 : (E : Int) * AB ≤ E * y := by exact_mod_cast m1
    have n2 : (ea : Int) * AA ≤ E * AB := by exact_mod_cast m2
    have n3 : (0 : Int) ≤ eb * AB := by exact_mod_cast Nat.zero_le (eb * AB)
    have n4 : (E : Int) * y + E * (NB + AB) ≤ E * x := by exact_mod_cast m4
    have n5 : (eb : Int) * (NB + AB) < E * (NB + AB) := by exact_mod_cast m5
    have n8 : (0 : Int) ≤ ea * (NA + AA) := by exact_mod_cast Nat.zero_le (ea * (NA + AA))
    rw [Int.mul_add] at n4 n5 n8
    rw [Int.mul_add] at n5
    constructor <;> omega

theorem TS.step {A B xh yh E ea eb x y LA LB NA NB AA AB X q r : Nat} {odd : Bool} (hA : A = xh * E + ea) (hB : B = yh * E + eb) (ha : ea < E) (hb : eb < E) (h : TS A B xh yh x y LA LB NA NB AA AB X odd)
    (c1 : AB ≤ y) (c2 : y + (NB + AB) ≤ x) (hq : q = x / y) (hr : r = x % y) : ∃ Y, TS A B xh yh y r NA NB AA AB (NA + q * AA) (NB + q * AB) Y (!odd) := by
  obtain ⟨p1, p2⟩ := certify hA hB ha hb h c1 c2
  obtain ⟨h1, h2, det, le1, le2, pos1, pos2, yx, tr, top, gc, last⟩ := h
  obtain ⟨Y, hY⟩ := Int.eq_ofNat_of_zero_le p1
  rw [hY] at p2 gc
  have hYX : Y < X := by omega
  have hdm := Nat.div_add_mod x y
  rw [← hq, ← hr] at hdm
  have hrl : r < y := by rw [hr]; exact Nat.mod_lt _ (by omega)
  have hq1 : 1 ≤ q := by rw [hq]; exact Nat.div_pos (by omega) (by omega)
  have hqa : q * AA ≤ q * AB := Nat.mul_le_mul_left q le1
  have hqa2 : AA ≤ q * AA := Nat.le_mul_of_pos_left AA hq1
  have hqb2 : AB ≤ q * AB := Nat.le_mul_of_pos_left AB hq1
  have hq3 : NA + q * AA ≤ NB + q * AB := by
    obtain ⟨k, rfl⟩ : ∃ k, q = k + 1 := ⟨q - 1, by omega⟩
    have := Nat.mul_le_mul_left k le1
    rw [Nat.add_mul, Nat.add_mul, Nat.one_mul, Nat.one_mul]
    omega
  refine ⟨Y, ⟨?_, ?_, ?_, hq3, by omega, by omega, by omega, by omega, ?_, ?_, ?_, ?_⟩⟩
  · rw [h1, ← hdm, Nat.add_mul, Nat.mul_add, ← Nat.mul_assoc y q AB]; omega
  · rw [h2, ← hdm, Nat.add_mul, Nat.mul_add, ← Nat.mul_assoc y q AA]; omega
  · rw [dl_not, ← det]; push_cast; grind
  · rw [← hY, dl_not]; grind
  · refine .inr ?_
    rcases top with h0 | h0
    · subst h0
      have hdet : (NA : Int) * AB = dl odd := by rw [← det]; simp
      cases odd
      · exfalso
        have h9 : (0 : Int) ≤ NA * AB := by exact_mod_cast Nat.zero_le (NA * AB)
        rw [hdet] at h9
        simp [dl] at h9
      · have h9 : NA * AB = 1 := by
          have : ((NA * AB : Nat) : Int) = 1 := by push_cast; exact hdet
          exact_mod_cast this
        have hAB : AB = 1 := by
          rcases Nat.eq_zero_or_pos NA with h | h
          · rw [h] at h9; omega
          · have := Nat.le_mul_of_pos_left AB h; omega
        rw [hAB] at hY
        have h8 : (0 : Int) ≤ A * AA := by exact_mod_cast Nat.zero_le (A * AA)
        simp [dl] at hY
        omega
    · omega
  · have e : dl (!odd) * ((B : Int) * ((NB + q * AB : Nat) : Int) - A * ((NA + q * AA : Nat) : Int)) = X - Y * q := by
      rw [dl_not, tr, ← hY]; push_cast; grind
    rw [e, Int.gcd_sub_mul_left_right, Int.gcd_comm]
    exact gc
  · rcases Nat.eq_zero_or_pos NB with h0 | h0
    · exact .inl h0
    · refine .inr ⟨X, by rw [dl_not, Int.neg_neg]; exact tr, hYX, top.resolve_left (by omega), ?_⟩
      exact gc
/-- The factors stay small. -/
theorem TS.small {A B xh yh x y LA LB NA NB AA AB X : Nat} {odd : Bool} (h : TS A B xh yh x y LA LB NA NB AA AB X odd) (hx : 1 ≤ x) : AB ≤ xh ∧ AA ≤ xh := by
  have h1 := h.h1
  have h2 : AB ≤ x * AB := Nat.le_mul_of_pos_left AB hx
  have := h.le1
  constructor <;> omega
theorem TS.small2 {A B xh yh x y LA LB NA NB AA AB X : Nat} {odd : Bool} (h : TS A B xh yh x y LA LB NA NB AA AB X odd) (hx : 1 ≤ x) (hy : 1 ≤ y) : NB + AB ≤ xh := by
  have h1 := h.h1
  have h2 : AB ≤ x * AB := Nat.le_mul_of_pos_left AB hx
  have h3 : NB ≤ y * NB := Nat.le_mul_of_pos_left NB hy
  omega
end Go.Proofs.Ytcdedaihkfpafaa

namespace Go.Proofs.Ytcdedaihkfpafaa
open Go.RowKit

/-- The five numbers that a mix holds. -/
def Mx (W : World) (p m l c o b : Nat) : Prop := W.heap[p]? = some (.cells #[.int .u64 (m : Int), .int .u64 (l : Int), .int .u64 (c : Int), .int .u64 (o : Int), .int .u64 (b : Int)] 77 (0, 0))
section
variable {W : World} {p m l c o b : Nat}
theorem Mx.lt (h : Mx W p m l c o b) : p < W.heap.size := (Array.getElem?_eq_some_iff.1 h).1
theorem Mx.cell (h : Mx W p m l c o b) : W.cell? ⟨p, 0, none⟩ = some (.int .u64 (m : Int)) ∧ W.cell? ⟨p, 1, none⟩ = some (.int .u64 (l : Int)) ∧ W.cell? ⟨p, 2, none⟩ = some (.int .u64 (c : Int)) ∧ W.cell? ⟨p, 3, none⟩ = some (.int .u64 (o : Int)) ∧ W.cell? ⟨p, 4, none⟩ = some (.int .u64 (b : Int)) :=
  ⟨by rw [cell_of_row W p 0 _ _ _ h]; rfl, by rw [cell_of_row W p 1 _ _ _ h]; rfl, by rw [cell_of_row W p 2 _ _ _ h]; rfl, by rw [cell_of_row W p 3 _ _ _ h]; rfl, by rw [cell_of_row W p 4 _ _ _ h]; rfl⟩
theorem Mx.free (h : Mx W p m l c o b) (i : Nat) : W.frozen? ⟨p, i, none⟩ = false := by
  unfold Mx at h; simp [World.frozen?, h]
theorem Mx.of_block {W' : World} (h : Mx W p m l c o b) (e : W'.heap[p]? = W.heap[p]?) : Mx W' p m l c o b := e.trans h
theorem Mx.set0 (h : Mx W p m l c o b) (k : Nat) : Mx (W.setCell ⟨p, 0, none⟩ (.int .u64 (k : Int))) p k l c o b := by
  unfold Mx at h ⊢
  simp [World.setCell, Array.getElem?_modify, h]
theorem Mx.set1 (h : Mx W p m l c o b) (k : Nat) : Mx (W.setCell ⟨p, 1, none⟩ (.int .u64 (k : Int))) p m k c o b := by
  unfold Mx at h ⊢
  simp [World.setCell, Array.getElem?_modify, h]
theorem Mx.set2 (h : Mx W p m l c o b) (k : Nat) : Mx (W.setCell ⟨p, 2, none⟩ (.int .u64 (k : Int))) p m l k o b := by
  unfold Mx at h ⊢
  simp [World.setCell, Array.getElem?_modify, h]
theorem Mx.set3 (h : Mx W p m l c o b) (k : Nat) : Mx (W.setCell ⟨p, 3, none⟩ (.int .u64 (k : Int))) p m l c k b := by
  unfold Mx at h ⊢
  simp [World.setCell, Array.getElem?_modify, h]
theorem Mx.set4 (h : Mx W p m l c o b) (k : Nat) : Mx (W.setCell ⟨p, 4, none⟩ (.int .u64 (k : Int))) p m l c o k := by
  unfold Mx at h ⊢
  simp [World.setCell, Array.getElem?_modify, h]
end
/-- A mix, laid cell by cell over zeros. -/
theorem Mx.fill {W : World} {z m l : Nat} (h : Mx W z 0 0 0 0 0) :
    (W.cell? ⟨z, 0, none⟩ = some (.int .u64 0) ∧ W.frozen? ⟨z, 0, none⟩ = false) ∧
    ((W.setCell ⟨z, 0, none⟩ (.int .u64 (m : Int))).cell? ⟨z, 1, none⟩ = some (.int .u64 0) ∧ (W.setCell ⟨z, 0, none⟩ (.int .u64 (m : Int))).frozen? ⟨z, 1, none⟩ = false) ∧
    (((W.setCell ⟨z, 0, none⟩ (.int .u64 (m : Int))).setCell ⟨z, 1, none⟩ (.int .u64 (l : Int))).cell? ⟨z, 2, none⟩ = some (.int .u64 0) ∧ ((W.setCell ⟨z, 0, none⟩ (.int .u64 (m : Int))).setCell ⟨z, 1, none⟩ (.int .u64 (l : Int))).frozen? ⟨z, 2, none⟩ = false) ∧
    ((((W.setCell ⟨z, 0, none⟩ (.int .u64 (m : Int))).setCell ⟨z, 1, none⟩ (.int .u64 (l : Int))).setCell ⟨z, 2, none⟩ (.int .u64 0)).cell? ⟨z, 3, none⟩ = some (.int .u64 0) ∧ (((W.setCell ⟨z, 0, none⟩ (.int .u64 (m : Int))).setCell ⟨z, 1, none⟩ (.int .u64 (l : Int))).setCell ⟨z, 2, none⟩ (.int .u64 0)).frozen? ⟨z, 3, none⟩ = false) ∧
    (((((W.setCell ⟨z, 0, none⟩ (.int .u64 (m : Int))).setCell ⟨z, 1, none⟩ (.int .u64 (l : Int))).setCell ⟨z, 2, none⟩ (.int .u64 0)).setCell ⟨z, 3, none⟩ (.int .u64 0)).cell? ⟨z, 4, none⟩ = some (.int .u64 0) ∧ ((((W.setCell ⟨z, 0, none⟩ (.int .u64 (m : Int))).setCell ⟨z, 1, none⟩ (.int .u64 (l : Int))).setCell ⟨z, 2, none⟩ (.int .u64 0)).setCell ⟨z, 3, none⟩ (.int .u64 0)).frozen? ⟨z, 4, none⟩ = false) ∧
    Mx (((((W.setCell ⟨z, 0, none⟩ (.int .u64 (m : Int))).setCell ⟨z, 1, none⟩ (.int .u64 (l : Int))).setCell ⟨z, 2, none⟩ (.int .u64 0)).setCell ⟨z, 3, none⟩ (.int .u64 0)).setCell ⟨z, 4, none⟩ (.int .u64 0)) z m l 0 0 0 := by
  have t1 := h.set0 m
  have t2 := t1.set1 l
  have t3 := t2.set2 0
  have t4 := t3.set3 0
  exact ⟨⟨h.cell.1, h.free 0⟩, ⟨t1.cell.2.1, t1.free 1⟩, ⟨t2.cell.2.2.1, t2.free 2⟩, ⟨t3.cell.2.2.2.1, t3.free 3⟩, ⟨t4.cell.2.2.2.2, t4.free 4⟩, t4.set4 0⟩
theorem Mx.other {W : World} {p m l c o b : Nat} (h : Mx W p m l c o b) {q : Addr} (hq : q.block ≠ p) (v : Value) : Mx (W.setCell q v) p m l c o b := h.of_block (Below.heap_setCell _ _ _ _ (fun e => hq e.symm))
theorem own_set (w : World) (g i : Nat) (v : Value) : w.grownBy (w.setCell ⟨g, i, none⟩ v) (some g) :=
  ⟨rfl, rfl, rfl, by simp [World.setCell], fun k _ hk => Below.heap_setCell _ _ _ _ (by intro e; subst e; exact hk rfl)⟩
theorem own_trans {a b c : World} {g : Nat} (h : a.grownBy b (some g)) (k : b.grownBy c (some g)) : a.grownBy c (some g) :=
  ⟨k.os.trans h.os, k.tape.trans h.tape, k.output.trans h.output, Nat.le_trans h.size k.size, fun i hi hg => (k.block i (Nat.lt_of_lt_of_le hi h.size) hg).trans (h.block i hi hg)⟩
theorem own_drew {a b : World} {g : Nat} (h : a.grownBy b (some g)) : a.grownBy b.drew (some g) := ⟨h.os, h.tape, h.output, h.size, h.block⟩
theorem mix_math {x y m l c o b M hi1 lo1 hi2 lo2 l1 q1 l2 q2 r q3 : Nat} (h1 : x * m = M * hi1 + lo1) (h2 : lo1 + c = M * q1 + l1) (h3 : y * l = M * hi2 + lo2) (h4 : lo2 + o = M * q2 + l2) (h5 : r + l2 + b = l1 + M * q3) :
    r + y * l + o + b + M * (hi1 + q1) = x * m + c + M * (q3 + (hi2 + q2)) := by
  rw [h1, h3, Nat.mul_add M hi1 q1, Nat.mul_add M q3, Nat.mul_add M hi2 q2]
  omega
def MixPost (p x y m l c o b : Nat) (w : World) (e : Ending) (w' : World) : Prop :=
  ∃ r c' o' b' : Nat, e = .returned (.int .u64 (r : Int)) ∧ r < 18446744073709551616 ∧ c' < 18446744073709551616 ∧ o' < 18446744073709551616 ∧ b' ≤ 1 ∧ r + y * l + o + b + 18446744073709551616 * c' = x * m + c + 18446744073709551616 * (b' + o') ∧ Mx w' p m l c' o' b' ∧ w.grownBy w' (some p)

set_option maxRecDepth 100000 in
set_option maxHeartbeats 600000 in
theorem mix_any (p x y m l c o b : Nat) (w : World) (hx : x < 18446744073709551616) (hy : y < 18446744073709551616) (hm : m < 18446744073709551616) (hl : l < 18446744073709551616) (hc : c < 18446744073709551616) (ho : o < 18446744073709551616) (hb : b ≤ 1) (h : Mx w p m l c o b) :
    Calls Try.prog 75 #[.pointer (some ⟨p, 0, none⟩), .int .u64 (x : Int), .int .u64 (y : Int)] w (MixPost p x y m l c o b w) := by
  have hm1 := mul_small hx hm
  have hm2 := mul_small hy hl
  have HM1 := Lib.hid (fun W => Try.bits_Mul64 x m hx hm W)
  have HM2 := Lib.hid (fun W => Try.bits_Mul64 y l hy hl W)
  obtain ⟨hi1, hhi1⟩ : ∃ hi, hi = x * m / 18446744073709551616 := ⟨_, rfl⟩
  obtain ⟨lo1, hlo1⟩ : ∃ lo, lo = x * m % 18446744073709551616 := ⟨_, rfl⟩
  obtain ⟨hi2, hhi2⟩ : ∃ hi, hi = y * l / 18446744073709551616 := ⟨_, rfl⟩
  obtain ⟨lo2, hlo2⟩ : ∃ lo, lo = y * l % 18446744073709551616 := ⟨_, rfl⟩
  rw [← hhi1, ← hlo1] at HM1
  rw [← hhi2, ← hlo2] at HM2
  have HM1 := Lib.hid HM1.out
  have HM2 := Lib.hid HM2.out
  have hadd1 := run_add64 lo1 c 0 (by omega)
  obtain ⟨l1, hl1⟩ : ∃ l1, l1 = (lo1 + c + 0) % 18446744073709551616 := ⟨_, rfl⟩
  obtain ⟨q1, hq1⟩ : ∃ q1, q1 = (lo1 + c + 0) / 18446744073709551616 := ⟨_, rfl⟩
  rw [← hl1, ← hq1] at hadd1
  have hadd2 := run_add64 lo2 o 0 (by omega)
  obtain ⟨l2, hl2⟩ : ∃ l2, l2 = (lo2 + o + 0) % 18446744073709551616 := ⟨_, rfl⟩
  obtain ⟨q2, hq2⟩ : ∃ q2, q2 = (lo2 + o + 0) / 18446744073709551616 := ⟨_, rfl⟩
  rw [← hl2, ← hq2] at hadd2
  have hsub := run_sub64 l1 l2 b (by omega)
  obtain ⟨r, hr⟩ : ∃ r, r = (l1 + 18446744073709551616 - l2 - b) % 18446744073709551616 := ⟨_, rfl⟩
  obtain ⟨q3, hq3⟩ : ∃ q3, q3 = if l1 < l2 + b then 1 else 0 := ⟨_, rfl⟩
  rw [← hr, ← hq3] at hsub
  simp only [Int.natCast_zero] at hadd1 hadd2
  have hq3' : r + l2 + b = l1 + 18446744073709551616 * q3 ∧ q3 ≤ 1 ∧ r < 18446744073709551616 := by
    split at hq3 <;> omega
  have hmath := mix_math (x := x) (y := y) (m := m) (l := l) (c := c) (o := o) (b := b) (M := 18446744073709551616) (hi1 := hi1) (lo1 := lo1) (hi2 := hi2) (lo2 := lo2) (l1 := l1) (q1 := q1) (l2 := l2) (q2 := q2) (r := r) (q3 := q3)
    (by omega) (by omega) (by omega) (by omega) hq3'.1
  have i1 : (hi1 : Int) + (q1 : Int) = ((hi1 + q1 : Nat) : Int) := by omega
  have i2 : (hi2 : Int) + (q2 : Int) = ((hi2 + q2 : Nat) : Int) := by omega
  obtain ⟨k1, hk1⟩ : ∃ k1, k1 = hi1 + q1 := ⟨_, rfl⟩
  obtain ⟨k2, hk2⟩ : ∃ k2, k2 = hi2 + q2 := ⟨_, rfl⟩
  have hk1b : k1 < 18446744073709551616 := by omega
  have hk2b : k2 < 18446744073709551616 := by omega
  have j1 : (k1 : Int) ≤ 18446744073709551615 := by omega
  have j2 : (k2 : Int) ≤ 18446744073709551615 := by omega
  have j3 : (0 : Int) ≤ (k1 : Int) := by omega
  have j4 : (0 : Int) ≤ (k2 : Int) := by omega
  rw [← hk1] at i1 hmath
  rw [← hk2] at i2 hmath
  have HMATH := Lib.hid hmath
  have HR := Lib.hid hq3'
  have HK := Lib.hid (And.intro hk1b hk2b)
  have s1 := h.set2 k1
  have s2 := s1.set3 k2
  have s3 := s2.set4 q3
  have HS3 := Lib.hid s3
  obtain ⟨c0, c1, c2, c3, c4⟩ := h.cell
  have f2 := h.free 2
  obtain ⟨d0, d1, d2, d3, d4⟩ := s1.cell
  have g3 := s1.free 3
  obtain ⟨e0, e1, e2, e3, e4⟩ := s2.cell
  have g4 := s2.free 4
  clear hm1 hm2 hhi1 hlo1 hhi2 hlo2 hl1 hq1 hl2 hq2 hr hq3 hq3' hmath hk1 hk2 hk1b hk2b s1 s2 s3 h
  go_enter Try.func75, Try.ntmps75
  go_wp2_with fail
  refine (HM1.out _).mono ?_
  rintro e W ⟨rfl, hW⟩
  rw [hW]
  clear hW W
  go_wp2_with fail
  refine (HM2.out _).mono ?_
  rintro e W ⟨rfl, hW⟩
  rw [hW]
  clear hW W
  go_wp2_with fail
  go_ret
  exact ⟨r, k1, k2, q3, rfl, HR.out.2.2, HK.out.1, HK.out.2, HR.out.2.1, HMATH.out, HS3.out, own_trans (own_trans (own_set _ _ _ _) (own_set _ _ _ _)) (own_set _ _ _ _)⟩
end Go.Proofs.Ytcdedaihkfpafaa

namespace Go.Proofs.Ytcdedaihkfpafaa
open Go.RowKit

def stV (odd : Bool) (LA LB NA NB : Nat) : Array Value := #[.bool odd, .int .u64 (LA : Int), .int .u64 (LB : Int), .int .u64 (NA : Int), .int .u64 (NB : Int)]
/-- Block p holds steps. -/
def Sx (W : World) (p : Nat) (odd : Bool) (LA LB NA NB : Nat) : Prop := W.heap[p]? = some (.cells #[.bool odd, .int .u64 (LA : Int), .int .u64 (LB : Int), .int .u64 (NA : Int), .int .u64 (NB : Int)] 72 (0, 0))
section
variable {W : World} {p LA LB NA NB : Nat} {odd : Bool}
theorem Sx.lt (h : Sx W p odd LA LB NA NB) : p < W.heap.size := (Array.getElem?_eq_some_iff.1 h).1
theorem Sx.cell (h : Sx W p odd LA LB NA NB) : W.cell? ⟨p, 0, none⟩ = some (.bool odd) ∧ W.cell? ⟨p, 1, none⟩ = some (.int .u64 (LA : Int)) ∧ W.cell? ⟨p, 2, none⟩ = some (.int .u64 (LB : Int)) ∧ W.cell? ⟨p, 3, none⟩ = some (.int .u64 (NA : Int)) ∧ W.cell? ⟨p, 4, none⟩ = some (.int .u64 (NB : Int)) :=
  ⟨by rw [cell_of_row W p 0 _ _ _ h]; rfl, by rw [cell_of_row W p 1 _ _ _ h]; rfl, by rw [cell_of_row W p 2 _ _ _ h]; rfl, by rw [cell_of_row W p 3 _ _ _ h]; rfl, by rw [cell_of_row W p 4 _ _ _ h]; rfl⟩
theorem Sx.free (h : Sx W p odd LA LB NA NB) (i : Nat) : W.frozen? ⟨p, i, none⟩ = false := by
  unfold Sx at h; simp [World.frozen?, h]
theorem Sx.of_block {W' : World} (h : Sx W p odd LA LB NA NB) (e : W'.heap[p]? = W.heap[p]?) : Sx W' p odd LA LB NA NB := e.trans h
theorem Sx.other (h : Sx W p odd LA LB NA NB) {q : Addr} (hq : q.block ≠ p) (v : Value) : Sx (W.setCell q v) p odd LA LB NA NB := h.of_block (Below.heap_setCell _ _ _ _ (fun e => hq e.symm))
theorem Sx.drew (h : Sx W p odd LA LB NA NB) : Sx W.drew p odd LA LB NA NB := h
theorem Sx.set0 (h : Sx W p odd LA LB NA NB) (k : Bool) : Sx (W.setCell ⟨p, 0, none⟩ (.bool k)) p k LA LB NA NB := by
  unfold Sx at h ⊢
  simp [World.setCell, Array.getElem?_modify, h]
theorem Sx.set1 (h : Sx W p odd LA LB NA NB) (k : Nat) : Sx (W.setCell ⟨p, 1, none⟩ (.int .u64 (k : Int))) p odd k LB NA NB := by
  unfold Sx at h ⊢
  simp [World.setCell, Array.getElem?_modify, h]
theorem Sx.set2 (h : Sx W p odd LA LB NA NB) (k : Nat) : Sx (W.setCell ⟨p, 2, none⟩ (.int .u64 (k : Int))) p odd LA k NA NB := by
  unfold Sx at h ⊢
  simp [World.setCell, Array.getElem?_modify, h]
theorem Sx.set3 (h : Sx W p odd LA LB NA NB) (k : Nat) : Sx (W.setCell ⟨p, 3, none⟩ (.int .u64 (k : Int))) p odd LA LB k NB := by
  unfold Sx at h ⊢
  simp [World.setCell, Array.getElem?_modify, h]
theorem Sx.set4 (h : Sx W p odd LA LB NA NB) (k : Nat) : Sx (W.setCell ⟨p, 4, none⟩ (.int .u64 (k : Int))) p odd LA LB NA k := by
  unfold Sx at h ⊢
  simp [World.setCell, Array.getElem?_modify, h]
end

/-- A result of five cells, filled one by one. -/
theorem Sx.fill {W : World} {z LA LB NA NB a0 b0 c0 d0 : Nat} {odd o0 : Bool} (h : Sx W z o0 a0 b0 c0 d0) :
    (W.cell? ⟨z, 0, none⟩ = some (.bool o0) ∧ W.frozen? ⟨z, 0, none⟩ = false) ∧
    ((W.setCell ⟨z, 0, none⟩ (.bool odd)).cell? ⟨z, 1, none⟩ = some (.int .u64 (a0 : Int)) ∧ (W.setCell ⟨z, 0, none⟩ (.bool odd)).frozen? ⟨z, 1, none⟩ = false) ∧
    (((W.setCell ⟨z, 0, none⟩ (.bool odd)).setCell ⟨z, 1, none⟩ (.int .u64 (LA : Int))).cell? ⟨z, 2, none⟩ = some (.int .u64 (b0 : Int)) ∧ ((W.setCell ⟨z, 0, none⟩ (.bool odd)).setCell ⟨z, 1, none⟩ (.int .u64 (LA : Int))).frozen? ⟨z, 2, none⟩ = false) ∧
    ((((W.setCell ⟨z, 0, none⟩ (.bool odd)).setCell ⟨z, 1, none⟩ (.int .u64 (LA : Int))).setCell ⟨z, 2, none⟩ (.int .u64 (LB : Int))).cell? ⟨z, 3, none⟩ = some (.int .u64 (c0 : Int)) ∧ (((W.setCell ⟨z, 0, none⟩ (.bool odd)).setCell ⟨z, 1, none⟩ (.int .u64 (LA : Int))).setCell ⟨z, 2, none⟩ (.int .u64 (LB : Int))).frozen? ⟨z, 3, none⟩ = false) ∧
    (((((W.setCell ⟨z, 0, none⟩ (.bool odd)).setCell ⟨z, 1, none⟩ (.int .u64 (LA : Int))).setCell ⟨z, 2, none⟩ (.int .u64 (LB : Int))).setCell ⟨z, 3, none⟩ (.int .u64 (NA : Int))).cell? ⟨z, 4, none⟩ = some (.int .u64 (d0 : Int)) ∧ ((((W.setCell ⟨z, 0, none⟩ (.bool odd)).setCell ⟨z, 1, none⟩ (.int .u64 (LA : Int))).setCell ⟨z, 2, none⟩ (.int .u64 (LB : Int))).setCell ⟨z, 3, none⟩ (.int .u64 (NA : Int))).frozen? ⟨z, 4, none⟩ = false) ∧
    Sx (((((W.setCell ⟨z, 0, none⟩ (.bool odd)).setCell ⟨z, 1, none⟩ (.int .u64 (LA : Int))).setCell ⟨z, 2, none⟩ (.int .u64 (LB : Int))).setCell ⟨z, 3, none⟩ (.int .u64 (NA : Int))).setCell ⟨z, 4, none⟩ (.int .u64 (NB : Int))) z odd LA LB NA NB := by
  have t1 := h.set0 odd
  have t2 := t1.set1 LA
  have t3 := t2.set2 LB
  have t4 := t3.set3 NA
  exact ⟨⟨h.cell.1, h.free 0⟩, ⟨t1.cell.2.1, t1.free 1⟩, ⟨t2.cell.2.2.1, t2.free 2⟩, ⟨t3.cell.2.2.2.1, t3.free 3⟩, ⟨t4.cell.2.2.2.2, t4.free 4⟩, t4.set4 NB⟩

/-- What the steps tell of A and B. -/
def Told4 (A B LA LB NA NB : Nat) (odd : Bool) : Prop :=
  LA < 18446744073709551616 ∧ LB < 18446744073709551616 ∧ NA < 18446744073709551616 ∧ NB < 18446744073709551616 ∧ ∃ X : Nat, (X : Int) = dl odd * ((A : Int) * NA - B * NB) ∧ LastOK A B LA LB odd X
def StepsPost (A B : Nat) (w : World) (e : Ending) (w' : World) : Prop :=
  ∃ (odd : Bool) (LA LB NA NB : Nat), e = .returned (.agg #[.bool odd, .int .u64 (LA : Int), .int .u64 (LB : Int), .int .u64 (NA : Int), .int .u64 (NB : Int)]) ∧ Told4 A B LA LB NA NB odd ∧ Below w.heap.size w w'
def StAt (A B xh yh z p : Nat) (w : World) (vx vy va vb : Value) (W : World) : Prop :=
  ∃ (x y AA AB LA LB NA NB X : Nat) (odd : Bool), vx = .int .u64 (x : Int) ∧ vy = .int .u64 (y : Int) ∧ va = .int .u64 (AA : Int) ∧ vb = .int .u64 (AB : Int) ∧ x ≤ xh ∧ LA ≤ xh ∧ LB ≤ xh ∧ NA ≤ xh ∧ NB ≤ xh ∧ AA ≤ xh ∧ AB ≤ xh ∧
    TS A B xh yh x y LA LB NA NB AA AB X odd ∧ Sx W p odd LA LB NA NB ∧ Sx W z false 0 0 0 0 ∧ Below z w W

set_option maxRecDepth 100000 in
set_option maxHeartbeats 600000 in
theorem topSteps_any (A B xh yh E ea eb : Nat) (w : World) (hA : A = xh * E + ea) (hB : B = yh * E + eb) (ha : ea < E) (hb : eb < E) (hyx : yh ≤ xh) (hx : xh < 18446744073709551616) (hx1 : 1 ≤ xh) :
    Calls Try.prog 72 #[.int .u64 (xh : Int), .int .u64 (yh : Int)] w (StepsPost A B w) := by
  have HA := Lib.hid (And.intro hA (And.intro hB (And.intro ha hb)))
  have HX := Lib.hid (And.intro hx hx1)
  have HYX := Lib.hid hyx
  clear hA hB ha hb hx hyx hx1
  go_enter Try.func72, Try.ntmps72
  go_wp2_with fail
  obtain ⟨z, hz⟩ : ∃ z, z = w.heap.size := ⟨_, rfl⟩
  obtain ⟨p, hp⟩ : ∃ p, p = z + 1 := ⟨_, rfl⟩
  rw [← hz, ← hp]
  have HZ := Lib.hid (And.intro hz hp)
  clear hz hp
  go_loopw [0, 1, 6, 7] (fun vx vy va vb W => StAt A B xh yh z p w vx vy va vb W) (fun _ vy _ _ _ => (intOf vy).toNat)
  case atStart =>
    have h1 : Sx (w.alloc (.cells #[.bool false, .int .u64 0, .int .u64 0, .int .u64 0, .int .u64 0] 72)) z false 0 0 0 0 := by
      unfold Sx; rw [HZ.out.1]; exact heap_alloc_new w _
    refine ⟨xh, yh, 0, 1, 0, 0, 1, 0, A, true, rfl, rfl, rfl, rfl, Nat.le_refl _, by omega, by omega, HX.out.2, by omega, by omega, HX.out.2, TS.start HYX.out, ?_, h1.of_block (Below.heap_alloc _ _ _ h1.lt), ((Below.refl z w).alloc (Nat.le_of_eq HZ.out.1) _).alloc (by have := HZ.out.1; simp; omega) _⟩
    unfold Sx
    rw [HZ.out.2, HZ.out.1, show w.heap.size + 1 = (w.alloc (.cells #[.bool false, .int .u64 0, .int .u64 0, .int .u64 0, .int .u64 0] 72)).heap.size by simp]
    exact heap_alloc_new _ _
  case round =>
    obtain ⟨x, y, AA, AB, LA, LB, NA, NB, X, odd, rfl, rfl, rfl, rfl, bx, b1, b2, b3, b4, b5, b6, hts, hsx, hsz, hbel⟩ := hrel
    obtain ⟨c0, c1, c2, c3, c4⟩ := hsx.cell
    have f0 := hsx.free 0
    have f1 := hsx.free 1
    have f2 := hsx.free 2
    have f3 := hsx.free 3
    have f4 := hsx.free 4
    have HTS := Lib.hid hts
    have HSX := Lib.hid hsx
    have HSZ := Lib.hid hsz
    have HBEL := Lib.hid hbel
    have hyx := hts.yx
    by_cases hc1 : AB ≤ y
    · by_cases hc2 : y + (NB + AB) ≤ x
      · obtain ⟨q, hq⟩ : ∃ q, q = x / y := ⟨_, rfl⟩
        obtain ⟨r, hr⟩ : ∃ r, r = x % y := ⟨_, rfl⟩
        obtain ⟨Y, hts2⟩ := hts.step HA.out.1 HA.out.2.1 HA.out.2.2.1 HA.out.2.2.2 hc1 hc2 hq hr
        have hy1 : 1 ≤ y := by have := hts.pos1; omega
        have hsm := hts2.small hy1
        have hsm2 := hts.small2 (by omega) hy1
        have hx64 := HX.out.1
        have hqa : q * AA ≤ xh := by omega
        have hqb : q * AB ≤ xh := by omega
        have g1 : (AB : Int) ≤ (y : Int) := by omega
        obtain ⟨d, hd⟩ : ∃ d, d = x - y := ⟨_, rfl⟩
        obtain ⟨f, hf⟩ : ∃ f, f = NB + AB := ⟨_, rfl⟩
        obtain ⟨qa, hqae⟩ : ∃ qa, qa = q * AA := ⟨_, rfl⟩
        obtain ⟨qb, hqbe⟩ : ∃ qb, qb = q * AB := ⟨_, rfl⟩
        obtain ⟨na, hna⟩ : ∃ na, na = NA + qa := ⟨_, rfl⟩
        obtain ⟨nb, hnb⟩ : ∃ nb, nb = NB + qb := ⟨_, rfl⟩
        rw [← hqae] at hts2 hsm hqa
        rw [← hqbe] at hts2 hsm hqb
        rw [← hna, ← hnb] at hts2 hsm
        have e1 : (x : Int) - (y : Int) = (d : Int) := by omega
        have e2 : (NB : Int) + (AB : Int) = (f : Int) := by omega
        have e3 : (x : Int) / (y : Int) = (q : Int) := by rw [hq]; simp
        have e4 : (x : Int) % (y : Int) = (r : Int) := by rw [hr]; simp
        have e5 : (q : Int) * (AA : Int) = (qa : Int) := by rw [hqae]; simp
        have e6 : (q : Int) * (AB : Int) = (qb : Int) := by rw [hqbe]; simp
        have e7 : (NA : Int) + (qa : Int) = (na : Int) := by omega
        have e8 : (NB : Int) + (qb : Int) = (nb : Int) := by omega
        have g2 : (f : Int) ≤ (d : Int) := by omega
        have j1 : (d : Int) ≤ 18446744073709551615 := by omega
        have j2 : (f : Int) ≤ 18446744073709551615 := by omega
        have j3 : (qa : Int) ≤ 18446744073709551615 := by omega
        have j4 : (qb : Int) ≤ 18446744073709551615 := by omega
        have j5 : (na : Int) ≤ 18446744073709551615 := by omega
        have j6 : (nb : Int) ≤ 18446744073709551615 := by omega
        have j7 : (q : Int) ≤ 18446744073709551615 := by have := Nat.div_le_self x y; omega
        have j8 : (r : Int) ≤ 18446744073709551615 := by have := Nat.mod_le x y; omega
        have y0 : ¬ (y : Int) = 0 := by omega
        have hrl : r < y := by rw [hr]; exact Nat.mod_lt _ (by omega)
        have HTS2 := Lib.hid hts2
        have HRL := Lib.hid (And.intro hrl hyx)
        have HB7 := Lib.hid (And.intro hsm (And.intro b3 (And.intro b4 (And.intro b5 (And.intro b6 bx)))))
        have s1 := hsx.set1 NA
        have s2 := s1.set3 AA
        have s3 := s2.set2 NB
        have s4 := s3.set4 AB
        have s5 := s4.set0 (!odd)
        obtain ⟨m0, m1, m2, m3, m4⟩ := s1.cell
        have n3 := s1.free 3
        obtain ⟨v0, v1, v2, v3, v4⟩ := s2.cell
        have w2 := s2.free 2
        obtain ⟨x0, x1, x2, x3, x4⟩ := s3.cell
        have y4 := s3.free 4
        obtain ⟨z0, z1, z2, z3, z4⟩ := s4.cell
        have zz := s4.free 0
        have HS5 := Lib.hid s5
        clear hts hts2 hsx hsz hbel b1 b2 b3 b4 b5 b6 hc1 hc2 hq hr hd hf hqae hqbe hna hnb hsm hsm2 hqa hqb hrl hy1 s1 s2 s3 s4 s5 hx64
        go_wp2_with fail
        go_region
        go_wp2_with fail
        go_roundw
        case rel =>
          have hpz : p ≠ z := by have := HZ.out.2; omega
          have hzp : z ≤ p := by have := HZ.out.2; omega
          have hz1 : Sx ((((((wr.setCell ⟨p, 1, none⟩ (.int .u64 (NA : Int))).setCell ⟨p, 3, none⟩ (.int .u64 (AA : Int))).setCell ⟨p, 2, none⟩ (.int .u64 (NB : Int))).setCell ⟨p, 4, none⟩ (.int .u64 (AB : Int))).setCell ⟨p, 0, none⟩ (.bool (!odd))).drew) z false 0 0 0 0 :=
            (((((HSZ.out.other (q := ⟨p, 1, none⟩) hpz _).other (q := ⟨p, 3, none⟩) hpz _).other (q := ⟨p, 2, none⟩) hpz _).other (q := ⟨p, 4, none⟩) hpz _).other (q := ⟨p, 0, none⟩) hpz _).drew
          have hb1 : Below z w ((((((wr.setCell ⟨p, 1, none⟩ (.int .u64 (NA : Int))).setCell ⟨p, 3, none⟩ (.int .u64 (AA : Int))).setCell ⟨p, 2, none⟩ (.int .u64 (NB : Int))).setCell ⟨p, 4, none⟩ (.int .u64 (AB : Int))).setCell ⟨p, 0, none⟩ (.bool (!odd))).drew) :=
            (((((HBEL.out.setCell (p := ⟨p, 1, none⟩) hzp _).setCell (p := ⟨p, 3, none⟩) hzp _).setCell (p := ⟨p, 2, none⟩) hzp _).setCell (p := ⟨p, 4, none⟩) hzp _).setCell (p := ⟨p, 0, none⟩) hzp _).drew
          obtain ⟨⟨k1, k2⟩, k3, k4, k5, k6, k7⟩ := HB7.out
          have hyy : y ≤ xh := Nat.le_trans HRL.out.2 bx
          have e4' : Value.int IntKind.u64 ((x : Int) % (y : Int)) = Value.int IntKind.u64 (r : Int) := by rw [e4]
          refine ⟨y, r, na, nb, NA, NB, AA, AB, Y, !odd, rfl, e4', rfl, rfl, hyy, k3, k4, k5, k6, k2, k1, HTS2.out, HS5.out.drew, hz1, hb1⟩
        case measure =>
          rw [e4]
          have := HRL.out.1
          simpa [intOf] using this
      · have g1 : (AB : Int) ≤ (y : Int) := by omega
        have hy1 : 1 ≤ y := by have := hts.pos1; omega
        have hsm2 := hts.small2 (by omega) hy1
        have hx64 := HX.out.1
        obtain ⟨d, hd⟩ : ∃ d, d = x - y := ⟨_, rfl⟩
        obtain ⟨f, hf⟩ : ∃ f, f = NB + AB := ⟨_, rfl⟩
        have e1 : (x : Int) - (y : Int) = (d : Int) := by omega
        have e2 : (NB : Int) + (AB : Int) = (f : Int) := by omega
        have g2 : ¬ (f : Int) ≤ (d : Int) := by omega
        have j1 : (d : Int) ≤ 18446744073709551615 := by omega
        have j2 : (f : Int) ≤ 18446744073709551615 := by omega
        have HB6 := Lib.hid (And.intro b1 (And.intro b2 (And.intro b3 b4)))
        clear hc2 hd hf hy1 hsm2 hx64
        obtain ⟨⟨k0, l0⟩, ⟨k1, l1⟩, ⟨k2, l2⟩, ⟨k3, l3⟩, ⟨k4, l4⟩, hfin⟩ := hsz.fill (odd := odd) (LA := LA) (LB := LB) (NA := NA) (NB := NB)
        have HFIN := Lib.hid hfin
        clear hts hsx hsz hbel b1 b2 b3 b4 b5 b6 hc1 hfin
        go_wp2_with fail
        try simp only [Exit.inBlock, Exit.then]
        refine bodyPost_ret (results_cell_row rfl _ _ z 72 _ (0, 0) _ rfl HFIN.out Try.underlying72 rfl (by kernel_rfl)) rfl ?_
        have hb := HB6.out
        have hx := HX.out.1
        refine ⟨odd, LA, LB, NA, NB, rfl, ⟨by omega, by omega, by omega, by omega, X, HTS.out.tr, HTS.out.last⟩, ?_⟩
        have hz : w.heap.size ≤ z := Nat.le_of_eq HZ.out.1.symm
        exact ((((((HBEL.out).mono hz).setCell hz _).setCell hz _).setCell hz _).setCell hz _).setCell hz _
    · have g1 : ¬ (AB : Int) ≤ (y : Int) := by omega
      have HB6 := Lib.hid (And.intro b1 (And.intro b2 (And.intro b3 b4)))
      obtain ⟨⟨k0, l0⟩, ⟨k1, l1⟩, ⟨k2, l2⟩, ⟨k3, l3⟩, ⟨k4, l4⟩, hfin⟩ := hsz.fill (odd := odd) (LA := LA) (LB := LB) (NA := NA) (NB := NB)
      have HFIN := Lib.hid hfin
      clear hts hsx hsz hbel b1 b2 b3 b4 b5 b6 hc1 hfin
      go_wp2_with fail
      try simp only [Exit.inBlock, Exit.then]
      refine bodyPost_ret (results_cell_row rfl _ _ z 72 _ (0, 0) _ rfl HFIN.out Try.underlying72 rfl (by kernel_rfl)) rfl ?_
      have hb := HB6.out
      have hx := HX.out.1
      refine ⟨odd, LA, LB, NA, NB, rfl, ⟨by omega, by omega, by omega, by omega, X, HTS.out.tr, HTS.out.last⟩, ?_⟩
      have hz : w.heap.size ≤ z := Nat.le_of_eq HZ.out.1.symm
      exact ((((((HBEL.out).mono hz).setCell hz _).setCell hz _).setCell hz _).setCell hz _).setCell hz _
end Go.Proofs.Ytcdedaihkfpafaa

namespace Go.Proofs.Ytcdedaihkfpafaa
open Go.RowKit

theorem top_math {A : List Nat} {i n t : Nat} (fA : Fits A) (hl : A.length ≤ i + 2) (ht : n + t = 64) : lv A / 2 ^ (64 * i + t) = A.getD (i + 1) 0 * 2 ^ n + A.getD i 0 / 2 ^ t := by
  have h1 := div_limb fA i
  have h2 : lv A / 2 ^ (64 * (i + 1)) = A.getD (i + 1) 0 := by
    have h3 := div_limb fA (i + 1)
    have h4 : lv A / 2 ^ (64 * (i + 1 + 1)) = 0 := Nat.div_eq_of_lt (Nat.lt_of_lt_of_le (lv_lt fA) (Nat.pow_le_pow_right (by omega) (by omega)))
    rw [h3, h4, Nat.zero_mul, Nat.zero_add]
  rw [Nat.pow_add, ← Nat.div_div_eq_div_mul, h1, h2]
  have hp : 2 ^ t * 2 ^ n = 18446744073709551616 := by rw [← Nat.pow_add, show t + n = 64 by omega]
  generalize A.getD (i + 1) 0 = p
  generalize A.getD i 0 = q
  rw [← hp, Nat.mul_comm p, Nat.mul_assoc, Nat.add_comm, Nat.add_mul_div_left _ _ (Nat.two_pow_pos t), Nat.mul_comm p, Nat.add_comm]

set_option maxRecDepth 100000 in
set_option maxHeartbeats 600000 in
theorem takeTop_any (a : Option Addr) (ca : Nat) (A : List Nat) (i n t z y : Nat) (w : World) (fA : Fits A) (hl : A.length ≤ i + 2) (hi : i ≤ 1048576) (ht : n + t = 64) (hn : n ≤ 63) (hx : A.getD (i + 1) 0 * 2 ^ n < 18446744073709551616) (ma : NatAt w a A)
    (bz : Box w z (.int .i64 ((i + 1 : Nat) : Int))) (bn : Box w y (.int .i64 (n : Int))) :
    Calls Try.prog 82 #[.slice a A.length ca, .pointer (some ⟨z, 0, none⟩), .pointer (some ⟨y, 0, none⟩)] w (fun e w' => e = .returned (.int .u64 ((lv A / 2 ^ (64 * i + t) : Nat) : Int)) ∧ ∃ k, w' = w.drewN k) := by
  rw [top_math fA hl ht]
  have hxi := getD_fits fA i
  have HL1 := Lib.hid (fun m => (limb_any a ca A ((i + 1 : Nat) : Int) (i + 1) rfl (A.getD (i + 1) 0) rfl (w.drewN m) ma).mono (fun _ _ h => (⟨h.1, h.2.symm⟩ : _ = _ ∧ _ = _)))
  have HL2 := Lib.hid (fun m => (limb_any a ca A (i : Int) i rfl (A.getD i 0) rfl (w.drewN m) ma).mono (fun _ _ h => (⟨h.1, h.2.symm⟩ : _ = _ ∧ _ = _)))
  generalize A.getD (i + 1) 0 = p at *
  generalize A.getD i 0 = q at *
  have hp64 : p < 18446744073709551616 := Nat.lt_of_le_of_lt (Nat.le_mul_of_pos_right p (Nat.two_pow_pos n)) hx
  obtain ⟨u, hu⟩ : ∃ u, u = p * 2 ^ n := ⟨_, rfl⟩
  obtain ⟨v, hv⟩ : ∃ v, v = q / 2 ^ t := ⟨_, rfl⟩
  obtain ⟨T, hT⟩ : ∃ T, T = i + 1 := ⟨_, rfl⟩
  have hvb : v < 2 ^ n := by
    rw [hv, Nat.div_lt_iff_lt_mul (Nat.two_pow_pos t), ← Nat.pow_add, ht]; exact hxi
  have hor := or_low (h := p) (l := v) (s := n) hx hvb (by omega)
  rw [← hu] at hor hx
  rw [← hT] at HL1 bz
  have HL1 := Lib.hid HL1.out
  have e1 : IntKind.u64.wrap ((p : Int) * 2 ^ n) = (u : Int) := by rw [show (p : Int) * 2 ^ n = ((p * 2 ^ n : Nat) : Int) by simp, wrap_nat, ← hu, Nat.mod_eq_of_lt hx]
  have e2 : (64 : Int) - (n : Int) = (t : Int) := by omega
  have e3 : (q : Int) / 2 ^ t = (v : Int) := by rw [hv]; simp
  have e4 : (T : Int) - 1 = (i : Int) := by omega
  have n0 : (0 : Int) ≤ (n : Int) := by omega
  have t0 : (0 : Int) ≤ (t : Int) := by omega
  have n9 : (n : Int) ≤ 63 := by omega
  have t9 : (t : Int) ≤ 64 := by omega
  have T1 : (1 : Int) ≤ (T : Int) := by omega
  have T9 : (T : Int) ≤ 1048577 := by omega
  have cz := bz.1
  have cn := bn.1
  have HU := Lib.hid hu
  have HV := Lib.hid hv
  rw [← hu, ← hv]
  clear hu hv hT hvb ma bz bn hx hp64 hxi ht hn hl fA
  go_enter Try.func82, Try.ntmps82
  go_wp2_with fail
  go_quiet ((first | (go_at_call 62; with_reducible exact Calls.quiet_of_same (HL1.out _)) | (go_at_call 62; with_reducible exact Calls.quiet_of_same (HL2.out _))))
  go_wp2_with fail
  go_ret
  exact ⟨by simp, _, rfl⟩

theorem below_dN {B : Nat} {a w : World} (h : Below B a w) (n : Nat) : Below B a (w.drewN n) := h.trans ⟨rfl, rfl, rfl, Nat.le_refl _, fun _ _ => rfl⟩
theorem Box.drewN {w : World} {b : Nat} {v : Value} (h : Box w b v) (n : Nat) : Box (w.drewN n) b v := h
def TopPost (x y : Nat) (w : World) (e : Ending) (w' : World) : Prop :=
  ∃ s : Nat, e = .returned (.tuple #[.int .u64 ((x / 2 ^ s : Nat) : Int), .int .u64 ((y / 2 ^ s : Nat) : Int)]) ∧ 1 ≤ x / 2 ^ s ∧ x / 2 ^ s < 18446744073709551616 ∧ Below w.heap.size w w'
set_option maxRecDepth 100000 in
set_option maxHeartbeats 600000 in
theorem topLimbs_any (a b : Option Addr) (ca cb x y i : Nat) (w : World) (hyx : y ≤ x) (hlx : (nrow x).length = i + 2) (hi : i ≤ 1048576) (ma : NatAt w a (nrow x)) (mb : NatAt w b (nrow y)) :
    Calls Try.prog 73 #[.slice a (nrow x).length ca, .slice b (nrow y).length cb] w (TopPost x y w) := by
  have h0 : x ≠ 0 := fun e => by rw [e, nrow_zero] at hlx; simp at hlx
  obtain ⟨u, u1, u2, u3, u4⟩ := blen_nrow h0
  rw [hlx, show i + 2 - 1 = i + 1 from rfl] at u1 u4
  have hbu := blen_le (show u < 2 ^ 64 from u2)
  have hbp := blen_pos u3
  obtain ⟨n, hn⟩ : ∃ n, n + blen u = 64 := ⟨64 - blen u, by omega⟩
  obtain ⟨t, ht⟩ : ∃ t, t = blen u := ⟨_, rfl⟩
  have hnt : n + t = 64 := by omega
  have hlz := fun W => Try.bits_LeadingZeros64 u W (by omega) (by omega)
  rw [Int.toNat_natCast, bitLen_blen u2, show (64 : Int) - (blen u : Int) = (n : Int) by omega] at hlz
  have HLZ := Lib.hid hlz
  have hun : u * 2 ^ n < 18446744073709551616 := by
    have h1 := lt_blen u
    have h2 : 2 ^ blen u * 2 ^ n = 18446744073709551616 := by rw [← Nat.pow_add, show blen u + n = 64 by omega]
    have h3 := Nat.mul_lt_mul_of_pos_right h1 (Nat.two_pow_pos n)
    omega
  have hly := nrow_mono hyx
  have hyt : (nrow y).getD (i + 1) 0 * 2 ^ n < 18446744073709551616 := by
    refine Nat.lt_of_le_of_lt (Nat.mul_le_mul_right _ ?_) hun
    have e1 := div_limb (nrow_fits y) (i + 1)
    have e2 := div_limb (nrow_fits x) (i + 1)
    have z1 : lv (nrow y) / 2 ^ (64 * (i + 1 + 1)) = 0 := Nat.div_eq_of_lt (Nat.lt_of_lt_of_le (lv_lt (nrow_fits y)) (Nat.pow_le_pow_right (by omega) (by omega)))
    have z2 : lv (nrow x) / 2 ^ (64 * (i + 1 + 1)) = 0 := Nat.div_eq_of_lt (Nat.lt_of_lt_of_le (lv_lt (nrow_fits x)) (Nat.pow_le_pow_right (by omega) (by omega)))
    rw [z1, Nat.zero_mul, Nat.zero_add, lv_nrow] at e1
    rw [z2, Nat.zero_mul, Nat.zero_add, lv_nrow, u1] at e2
    rw [← e1, ← e2]
    exact Nat.div_le_div_right hyx
  have hcell : ∃ ba oa, a = some ⟨ba, oa, none⟩ ∧ w.cell? ⟨ba, oa + (i + 1), none⟩ = some (.int .u64 (u : Int)) := by
    obtain ⟨b', o', e', hc⟩ := ma (i + 1) (by omega)
    exact ⟨b', o', e', by rw [u1] at hc; exact hc⟩
  obtain ⟨ba, oa, rfl, hc⟩ := hcell
  have hba : ba < w.heap.size := World.block_lt_of_cell? w _ hc
  obtain ⟨z, hz⟩ : ∃ z, z = w.heap.size := ⟨_, rfl⟩
  obtain ⟨T, hT⟩ : ∃ T, T = i + 1 := ⟨_, rfl⟩
  obtain ⟨p1, p2, p3⟩ := box_next hz (.int .i64 (T : Int)) 3
  obtain ⟨q1, q2, q3⟩ := box_next p2 (.int .i64 (n : Int)) 3
  have hc2 := (p3.cell (p := ⟨ba, oa + (i + 1), none⟩) hba).trans hc
  rw [← hT] at hc2
  have hb2 : Below w.heap.size w ((w.alloc (.cells #[.int .i64 (T : Int)] 3)).alloc (.cells #[.int .i64 (n : Int)] 3)) := p3.trans (q3.mono p3.size)
  have hma2 := ma.below hb2 (Nat.le_refl _)
  have hmb2 := mb.below hb2 (Nat.le_refl _)
  have p1' := p1.alloc (.cells #[.int .i64 (n : Int)] 3)
  have HK1 := Lib.hid (fun W (hm : NatAt W (some ⟨ba, oa, none⟩) (nrow x)) (bz : Box W z (.int .i64 (T : Int))) (bn : Box W (z + 1) (.int .i64 (n : Int))) => takeTop_any (some ⟨ba, oa, none⟩) ca (nrow x) i n t z (z + 1) W (nrow_fits x) (by omega) hi hnt (by omega) (by rw [u1]; exact hun) hm (by rw [← hT]; exact bz) bn)
  have HK2 := Lib.hid (fun W (hm : NatAt W b (nrow y)) (bz : Box W z (.int .i64 (T : Int))) (bn : Box W (z + 1) (.int .i64 (n : Int))) => takeTop_any b cb (nrow y) i n t z (z + 1) W (nrow_fits y) (by omega) hi hnt (by omega) hyt hm (by rw [← hT]; exact bz) bn)
  rw [lv_nrow] at HK1 HK2
  obtain ⟨s, hs⟩ : ∃ s, s = 64 * i + t := ⟨_, rfl⟩
  obtain ⟨X1, hX1⟩ : ∃ X1, X1 = x / 2 ^ s := ⟨_, rfl⟩
  obtain ⟨Y1, hY1⟩ : ∃ Y1, Y1 = y / 2 ^ s := ⟨_, rfl⟩
  rw [← hs, ← hX1] at HK1
  rw [← hs, ← hY1] at HK2
  have HK1 := Lib.hid HK1.out
  have HK2 := Lib.hid HK2.out
  have hval : 1 ≤ x / 2 ^ (64 * i + t) ∧ x / 2 ^ (64 * i + t) < 18446744073709551616 := by
    have h1 := top_math (i := i) (nrow_fits x) (by omega) hnt
    rw [lv_nrow, u1] at h1
    have hp : 2 ^ t * 2 ^ n = 18446744073709551616 := by rw [← Nat.pow_add, show t + n = 64 by omega]
    have h2 : (nrow x).getD i 0 / 2 ^ t < 2 ^ n := by
      rw [Nat.div_lt_iff_lt_mul (Nat.two_pow_pos t), Nat.mul_comm, hp]; exact getD_fits (nrow_fits x) i
    have h3 : u * 2 ^ n + 2 ^ n ≤ 18446744073709551616 := by
      have h4 := lt_blen u
      rw [← ht] at h4
      have h5 := Nat.mul_le_mul_right (2 ^ n) (show u + 1 ≤ 2 ^ t from h4)
      rw [hp, Nat.add_mul, Nat.one_mul] at h5
      exact h5
    have h6 : 1 ≤ u * 2 ^ n := Nat.mul_pos (Nat.pos_of_ne_zero u3) (Nat.two_pow_pos n)
    rw [h1]
    generalize (nrow x).getD i 0 / 2 ^ t = m at *
    generalize u * 2 ^ n = U at *
    generalize 2 ^ n = V at *
    omega
  rw [← hs, ← hX1] at hval
  have HVAL := Lib.hid hval
  have HXY := Lib.hid (And.intro hX1 hY1)
  obtain ⟨Lx, hLx⟩ : ∃ Lx, Lx = (nrow x).length := ⟨_, rfl⟩
  have hI : (Lx : Int) - 1 = (T : Int) := by omega
  have hT0 : (0 : Int) ≤ (T : Int) := by omega
  have hTL : (T : Int) < (Lx : Int) := by omega
  have hL9 : (Lx : Int) ≤ 1048578 := by omega
  have h2L : (2 : Int) ≤ (Lx : Int) := by omega
  have HMA := Lib.hid hma2
  have HMB := Lib.hid hmb2
  have HP := Lib.hid p1'
  have HQ := Lib.hid q1
  have HB := Lib.hid hb2
  have HZ := Lib.hid (And.intro hz p2)
  rw [← hLx] at HK1 ⊢
  have HK1 := Lib.hid HK1.out
  clear hlx u1 u2 u3 u4 hbu hbp hn ht hnt hlz hun hly hyt hba hT p1 p2 p3 q1 q2 q3 hb2 hma2 hmb2 p1' hval hLx ma mb h0 hi hyx hs hX1 hY1
  go_enter Try.func73, Try.ntmps73
  go_wp2_with fail
  refine (HLZ.out _).mono ?_
  rintro e W ⟨rfl, hW⟩
  rw [hW]
  clear hW W
  go_wp2_with fail
  rw [← HZ.out.1]
  with_reducible refine (HK1.out _ HMA.out HP.out HQ.out).mono ?_
  rintro e W1 ⟨rfl, k, hW⟩
  have HB1 : Hid (Below w.heap.size w W1) := Lib.hid (by rw [hW]; exact below_dN HB.out _)
  have HMB1 : Hid (NatAt W1 b (nrow y)) := Lib.hid (by rw [hW]; exact HMB.out.drewN)
  have HP1 : Hid (Box W1 z (.int .i64 (T : Int))) := Lib.hid (by rw [hW]; exact HP.out.drewN k)
  have HQ1 : Hid (Box W1 (z + 1) (.int .i64 (n : Int))) := Lib.hid (by rw [hW]; exact HQ.out.drewN k)
  clear hW hc hc2
  go_wp2_with fail
  rw [← HZ.out.1]
  with_reducible refine (HK2.out _ HMB1.out HP1.out HQ1.out).mono ?_
  rintro e W2 ⟨rfl, k2, hW⟩
  have HB2 : Hid (Below w.heap.size w W2) := Lib.hid (by rw [hW]; exact below_dN HB1.out _)
  clear hW
  go_wp2_with fail
  go_ret2
  exact ⟨s, by rw [← HXY.out.1, ← HXY.out.2]; rfl, by rw [← HXY.out.1]; exact HVAL.out.1, by rw [← HXY.out.1]; exact HVAL.out.2, HB2.out⟩
end Go.Proofs.Ytcdedaihkfpafaa

namespace Go.Proofs.Ytcdedaihkfpafaa
open Go.RowKit

theorem mix_step {O r Y y X x l m c c' o o' b b' p M : Nat} (h : O + l * Y + p * c = m * X + p * (b + o)) (hm : r + y * l + o + b + M * c' = x * m + c + M * (b' + o')) :
    O + p * r + l * (Y + p * y) + p * M * c' = m * (X + p * x) + p * M * (b' + o') := by
  have h2 : p * (r + y * l + o + b + M * c') = p * (x * m + c + M * (b' + o')) := by rw [hm]
  grind
/-- What is left at the end. -/
theorem mix_done {O Y X l m c b o p V u v : Nat} (h : O + l * Y + p * c = m * X + p * (b + o)) (hV : m * X + p * u = V + l * Y + p * v) (hO : O < p) (hVp : V < p) : O = V := by
  have h2 : O + p * (c + u) = V + p * (v + (b + o)) := by rw [Nat.mul_add p c u, Nat.mul_add p v]; omega
  exact eq_of_wrap h2 hO hVp

def NxAt (B z q g9 g10 g1 g2 c1 c2 L m1 l1 m2 l2 : Nat) (P1 P2 : List Nat) (w : World) (k : Nat) (W : World) : Prop :=
  ∃ (O1 O2 : List Nat) (e1 o1 b1 e2 o2 b2 : Nat), (O1.length = k ∧ O2.length = k ∧ k ≤ L ∧ Fits O1 ∧ Fits O2) ∧
    (e1 < 18446744073709551616 ∧ o1 < 18446744073709551616 ∧ b1 ≤ 1 ∧ e2 < 18446744073709551616 ∧ o2 < 18446744073709551616 ∧ b2 ≤ 1) ∧
    lv O1 + l1 * lv (P2.take k) + 2 ^ (64 * k) * e1 = m1 * lv (P1.take k) + 2 ^ (64 * k) * (b1 + o1) ∧
    lv O2 + l2 * lv (P1.take k) + 2 ^ (64 * k) * e2 = m2 * lv (P2.take k) + 2 ^ (64 * k) * (b2 + o2) ∧
    NRow B W (.slice (some ⟨g1, 0, none⟩) L c1) (O1 ++ P1.drop k) ∧ NRow B W (.slice (some ⟨g2, 0, none⟩) L c2) (O2 ++ P2.drop k) ∧
    Mx W g9 m1 l1 e1 o1 b1 ∧ Mx W g10 m2 l2 e2 o2 b2 ∧
    Box W z (.slice (some ⟨g1, 0, none⟩) L c1) ∧ Box W (z + 1) (.slice (some ⟨g2, 0, none⟩) L c2) ∧ Box W q (.int .i64 (k : Int)) ∧
    Box W (q + 1) (.slice (some ⟨g1, 0, none⟩) L c1) ∧ Box W (q + 2) (.slice (some ⟨g2, 0, none⟩) L c2) ∧ q + 3 ≤ W.heap.size ∧ Below B w W
theorem NxAt.below {B z q g9 g10 g1 g2 c1 c2 L m1 l1 m2 l2 : Nat} {P1 P2 : List Nat} {w : World} {k : Nat} {W W' : World} (hz : z + 1 < q) (h9 : g9 < q) (h10 : g10 < q) (h1 : g1 < q) (h2 : g2 < q) (hB : B ≤ q) (hb : Below (q + 3) W W')
    (h : NxAt B z q g9 g10 g1 g2 c1 c2 L m1 l1 m2 l2 P1 P2 w k W) : NxAt B z q g9 g10 g1 g2 c1 c2 L m1 l1 m2 l2 P1 P2 w k W' := by
  obtain ⟨O1, O2, e1, o1, b1, e2, o2, b2, i1, i2, i3, i4, r1, r2, x1, x2, t1, t2, t3, t4, t5, hs, hl⟩ := h
  exact ⟨O1, O2, e1, o1, b1, e2, o2, b2, i1, i2, i3, i4, r1.of_block (hb.block g1 (by omega)), r2.of_block (hb.block g2 (by omega)), x1.of_block (hb.block g9 (by omega)), x2.of_block (hb.block g10 (by omega)),
    t1.below hb (by omega), t2.below hb (by omega), t3.below hb (by omega), t4.below hb (by omega), t5.below hb (by omega), Nat.le_trans hs hb.size, hl.trans (hb.mono (by omega))⟩
/-- A limb of a row of the call's own, written. -/
theorem NRow.setAt {B g cap n k x : Nat} {w : World} {L : List Nat} (h : NRow B w (.slice (some ⟨g, 0, none⟩) n cap) L) (hk : k < L.length) : NRow B (w.setCell ⟨g, k, none⟩ (.int .u64 (x : Int))) (.slice (some ⟨g, 0, none⟩) n cap) (L.set k x) := by
  have hs := h.seg.2.2.2.2.2.set (k := k) hk x
  rw [Nat.zero_add] at hs
  exact h.wrote ((Wrote.refl g 0 L.length w).setIn (Nat.zero_le _) hk _) hs (by simp)
end Go.Proofs.Ytcdedaihkfpafaa

namespace Go.Proofs.Ytcdedaihkfpafaa
open Go.RowKit
attribute [local go_sem] Oper.semAt_some wide_fn

set_option maxHeartbeats 600000 in
theorem swapped_any (odd : Bool) (LA LB NA NB : Nat) (w : World) :
    Calls Try.prog 74 #[.agg #[.bool odd, .int .u64 (LA : Int), .int .u64 (LB : Int), .int .u64 (NA : Int), .int .u64 (NB : Int)]] w (fun e w' => e = .returned (.agg #[.bool (!odd), .int .u64 (LB : Int), .int .u64 (LA : Int), .int .u64 (NB : Int), .int .u64 (NA : Int)]) ∧ Below w.heap.size w w') := by
  go_enter Try.func74, Try.ntmps74
  go_wp2_with fail
  try simp only [Exit.inBlock, Exit.then]
  refine bodyPost_ret (results_cell_row rfl _ _ (w.heap.size + 1) 72 _ (0, 0) _ rfl (by rw [show w.heap.size + 1 = (w.alloc (.cells #[.bool odd, .int .u64 (LA : Int), .int .u64 (LB : Int), .int .u64 (NA : Int), .int .u64 (NB : Int)] 72)).heap.size by simp]; exact heap_alloc_new _ _) Try.underlying72 rfl (by kernel_rfl)) rfl ?_
  exact ⟨rfl, ((Below.refl _ _).alloc (Nat.le_refl _) _).alloc (by simp) _⟩

set_option maxRecDepth 100000 in
set_option maxHeartbeats 1000000 in
theorem next_div (B ga gb ca cb x y : Nat) (w : World) (hsx : Short x) (hyx : y ≤ x) (hly : 1 < (nrow y).length) (hra : NRow B w (.slice (some ⟨ga, 0, none⟩) (nrow x).length ca) (nrow x)) (hrb : NRow B w (.slice (some ⟨gb, 0, none⟩) (nrow y).length cb) (nrow y)) (hne : ga ≠ gb) (hB : B ≤ w.heap.size) :
    Calls Try.prog 59 #[.slice (some ⟨ga, 0, none⟩) (nrow x).length ca, .slice (some ⟨gb, 0, none⟩) (nrow y).length cb] w (NextPost B x y w) := by
  obtain ⟨z, hz⟩ : ∃ z, z = w.heap.size := ⟨_, rfl⟩
  obtain ⟨i, hi⟩ : ∃ i, (nrow x).length = i + 2 := ⟨(nrow x).length - 2, by have := nrow_mono hyx; omega⟩
  have hi9 : i ≤ 1048576 := by unfold Short at hsx; omega
  obtain ⟨La, hLa⟩ : ∃ La, La = (nrow x).length := ⟨_, rfl⟩
  obtain ⟨Lb, hLb⟩ : ∃ Lb, Lb = (nrow y).length := ⟨_, rfl⟩
  obtain ⟨b0, s1, l1⟩ := box_next hz (.slice (some ⟨ga, 0, none⟩) La ca) 23
  obtain ⟨b1, s2, l2⟩ := box_next s1 (.slice (some ⟨gb, 0, none⟩) Lb cb) 23
  have b0' := b0.alloc (.cells #[.slice (some ⟨gb, 0, none⟩) Lb cb] 23)
  have hb2 : Below w.heap.size w ((w.alloc (.cells #[.slice (some ⟨ga, 0, none⟩) La ca] 23)).alloc (.cells #[.slice (some ⟨gb, 0, none⟩) Lb cb] 23)) := l1.trans (l2.mono l1.size)
  have HTL := Lib.hid (topLimbs_any (some ⟨ga, 0, none⟩) (some ⟨gb, 0, none⟩) ca cb x y i _ hyx hi hi9 (hra.seg.2.2.2.2.2.natAt.below hb2 (Nat.le_refl _)) (hrb.seg.2.2.2.2.2.natAt.below hb2 (Nat.le_refl _)))
  rw [← hLa, ← hLb] at HTL
  have HTL := Lib.hid HTL.out
  have HB0 := Lib.hid b0'
  have HB1 := Lib.hid b1
  have HBE := Lib.hid hb2
  have HZ := Lib.hid (And.intro hz s2)
  have HRA := Lib.hid hra
  have HRB := Lib.hid hrb
  have HL := Lib.hid (And.intro hLa (And.intro hLb hi))
  have HH := Lib.hid (And.intro hsx (And.intro hyx (And.intro hly (And.intro hne hB))))
  rw [← hLa, ← hLb]
  clear hz s1 s2 l1 l2 b0 b0' b1 hb2 hra hrb hLa hLb hi hsx hyx hly hne hB hi9
  refine (callsIn_wide (n := 3)).1 ?_
  refine callsIn_of_wp_marks Try.func59 rfl trivial ?_ rfl
  simp only [Try.ntmps59, List.size_toArray, List.length_cons, List.length_nil, Nat.reduceAdd, Nat.reduceSub, Array.replicate_succ, Array.replicate_zero, List.push_toArray, List.append_toArray, List.nil_append, List.cons_append]
  gi_wp2_with fail
  rw [← HZ.out.1]
  refine (callsIn_wide.2 HTL.out).mono ?_
  rintro e w3 ⟨s, rfl, hx1, hx64, hb3⟩
  have HR0 := Lib.hid (HBE.out.trans (hb3.mono HBE.out.size))
  have hb0 := HB0.out.below hb3 HB0.out.lt
  have hb1 := HB1.out.below hb3 HB1.out.lt
  have hs3 := hb3.size
  have hTS := topSteps_any x y (x / 2 ^ s) (y / 2 ^ s) (2 ^ s) (x % 2 ^ s) (y % 2 ^ s) w3 (by rw [Nat.mul_comm]; exact (Nat.div_add_mod _ _).symm) (by rw [Nat.mul_comm]; exact (Nat.div_add_mod _ _).symm) (Nat.mod_lt _ (Nat.two_pow_pos s)) (Nat.mod_lt _ (Nat.two_pow_pos s)) (Nat.div_le_div_right HH.out.2.1) hx64 hx1
  obtain ⟨xh, hxh⟩ : ∃ xh, xh = x / 2 ^ s := ⟨_, rfl⟩
  obtain ⟨yh, hyh⟩ : ∃ yh, yh = y / 2 ^ s := ⟨_, rfl⟩
  rw [← hxh, ← hyh] at hTS ⊢
  have HTS := Lib.hid hTS
  have HB0 := Lib.hid hb0
  have HB1 := Lib.hid hb1
  have HS3 := Lib.hid hs3
  clear hTS hxh hyh hx1 hx64 hb0 hb1 hb3 hs3
  gi_wp2_with fail
  refine (callsIn_wide.2 HTS.out).mono ?_
  rintro e w4 ⟨odd, LA, LB, NA, NB, rfl, htold, hb4⟩
  obtain ⟨p, hp⟩ : ∃ p, p = w4.heap.size := ⟨_, rfl⟩
  obtain ⟨w5, hw5⟩ : ∃ w5, w5 = w4.alloc (.cells #[.bool odd, .int .u64 (LA : Int), .int .u64 (LB : Int), .int .u64 (NA : Int), .int .u64 (NB : Int)] 72) := ⟨_, rfl⟩
  have hsx5 : Sx w5 p odd LA LB NA NB := by unfold Sx; rw [hw5, hp]; exact heap_alloc_new _ _
  have hb5 : Below w.heap.size w w5 := by rw [hw5]; exact (HR0.out.trans (hb4.mono HR0.out.size)).alloc (Nat.le_trans HR0.out.size hb4.size) _
  have hb45 : Below w3.heap.size w3 w5 := by rw [hw5]; exact hb4.alloc hb4.size _
  have c0 : Box w5 z (.slice (some ⟨ga, 0, none⟩) La ca) := HB0.out.below hb45 HB0.out.lt
  have c1 : Box w5 (z + 1) (.slice (some ⟨gb, 0, none⟩) Lb cb) := HB1.out.below hb45 HB1.out.lt
  have hra5 : NRow B w5 (.slice (some ⟨ga, 0, none⟩) La ca) (nrow x) := by have := HRA.out.below hb5 (Nat.le_refl _); rwa [← HL.out.1] at this
  have hrb5 : NRow B w5 (.slice (some ⟨gb, 0, none⟩) Lb cb) (nrow y) := by have := HRB.out.below hb5 (Nat.le_refl _); rwa [← HL.out.2.1] at this
  have hpz : z + 2 ≤ p ∧ p < w5.heap.size := by
    have h1 := HZ.out.2; have h2 := HS3.out; have h3 := hb4.size
    refine ⟨by omega, hsx5.lt⟩
  have HSX := Lib.hid hsx5
  have HC0 := Lib.hid c0
  have HC1 := Lib.hid c1
  have HBE5 := Lib.hid hb5
  have HRA5 := Lib.hid hra5
  have HRB5 := Lib.hid hrb5
  have HPZ := Lib.hid hpz
  have HTO := Lib.hid htold
  obtain ⟨k0, k1, k2, k3, k4⟩ := hsx5.cell
  have f0 := hsx5.free 0
  have f1 := hsx5.free 1
  have f2 := hsx5.free 2
  have f3 := hsx5.free 3
  have f4 := hsx5.free 4
  have v0 : Box w4 z (.slice (some ⟨ga, 0, none⟩) La ca) := HB0.out.below hb4 HB0.out.lt
  have v1 : Box w4 (z + 1) (.slice (some ⟨gb, 0, none⟩) Lb cb) := HB1.out.below hb4 HB1.out.lt
  have d0 := v0.1
  have e0 := v0.2
  have d1 := v1.1
  have e1 := v1.2
  have d2 := c0.1
  have d3 := c1.1
  have e2 := c0.2
  have e3 := c1.2
  rw [hw5] at d2 d3 e2 e3 k0 k1 k2 k3 k4 f0 f1 f2 f3 f4
  rw [hp] at k0 k1 k2 k3 k4 f0 f1 f2 f3 f4
  clear hb4 hb5 hb45 c0 c1 hra5 hrb5 hpz htold hsx5 HB0 HB1 HBE v0 v1
  by_cases hLB : LB = 0
  · have hLB0 : ((LB : Int) == 0) = true := by simp; exact hLB
    have hdv := divides_all (na := x) (nb := y) (fun e => by have := HH.out.2.2.1; rw [e, nrow_zero] at this; simp at this) (by have := HH.out.1; unfold Short at this; omega) (some ⟨ga, 0, none⟩) (some ⟨gb, 0, none⟩) ca cb w5 HRA5.out.seg.2.2.2.1 (fun h => by cases h) HRB5.out.seg.2.2.2.1 (fun h => by cases h) HRA5.out.seg.2.2.2.2.2.natAt HRB5.out.seg.2.2.2.2.2.natAt
    rw [← HL.out.1, ← HL.out.2.1] at hdv
    have HDV := Lib.hid hdv
    clear hdv hLB
    gi_wp2_with fail
    rw [← hp, ← hw5]
    refine (callsIn_wide.2 HDV.out).mono ?_
    rintro e w6 ⟨q, r, rfl, _, hr, hb6⟩
    have m1 := HC1.out.below hb6 HC1.out.lt
    have n1 := m1.1
    have HR6 := Lib.hid hr
    have HB6 := Lib.hid (HBE5.out.trans (hb6.mono HBE5.out.size))
    have HRB6 := Lib.hid (HRB5.out.below hb6 (Nat.le_refl _))
    have HG := Lib.hid (HRB5.out.seg.2.2.2.2.2.block)
    clear hr hb6 m1
    gi_wp2_with fail
    refine ⟨_, results_tmp2 rfl _ _ _, ?_⟩
    have hyp : 0 < y := Nat.pos_of_ne_zero (fun e => by have := HH.out.2.2.1; rw [e, nrow_zero] at this; simp at this)
    have hBs : B ≤ w5.heap.size := Nat.le_trans HH.out.2.2.2.2 HBE5.out.size
    refine ⟨_, _, y, x % y, rfl, ?_, Nat.le_of_lt (Nat.mod_lt _ hyp), HH.out.2.1, Nat.mod_lt _ hyp, HRB6.out, HR6.out.more hBs, ?_, HB6.out.mono HH.out.2.2.2.2⟩
    · rw [Nat.gcd_comm y, Nat.gcd_comm x y, ← Nat.gcd_rec]
    · intro e
      have e' : (Value.slice (some ⟨gb, 0, none⟩) Lb cb).ownBlock = r.ownBlock := e
      have h := own_lt HR6.out (g := gb) (by rw [← e']; rfl)
      have := HG.out
      omega
  · have hLB0 : ((LB : Int) == 0) = false := by simp; exact hLB
    obtain ⟨t1, t2, t3, t4, X, htr, hlast⟩ := HTO.out
    obtain ⟨Lt, hLt, hXL, hLtB, hgcd⟩ := hlast.resolve_left hLB
    have hLL : Lb ≤ La := by rw [HL.out.1, HL.out.2.1]; exact nrow_mono HH.out.2.1
    have hlc : (Lb : Int) ≤ (ca : Int) := by have := HRA5.out.seg.2.2.2.1; rw [← HL.out.1] at this; omega
    have hl9 : (Lb : Int) ≤ 1048578 := by have := HH.out.1; unfold Short at this; have := HL.out.1; omega
    have HM := Lib.hid (And.intro t1 (And.intro t2 (And.intro t3 (And.intro t4 (And.intro htr (And.intro hLt (And.intro hXL (And.intro hLtB (And.intro hgcd hLL)))))))))
    clear t1 t2 t3 t4 htr hlast hLt hXL hLtB hgcd hLL hLB
    have hsx6 := HSX.out.other (q := ⟨z, 0, none⟩) (by show z ≠ p; have := HPZ.out; omega) (.slice (some ⟨ga, 0, none⟩) Lb ca)
    obtain ⟨q0, q1, q2, q3, q4⟩ := hsx6.cell
    rw [hw5, hp] at q0 q1 q2 q3 q4
    have HSX6 := Lib.hid hsx6
    clear hsx6
    cases odd
    · gi_wp2_with fail
      rw [← hp, ← hw5]
      obtain ⟨w6, hw6⟩ : ∃ w6, w6 = w5.setCell ⟨z, 0, none⟩ (.slice (some ⟨ga, 0, none⟩) Lb ca) := ⟨_, rfl⟩
      have hs6 : Sx w6 p false LA LB NA NB := by rw [hw6]; exact HSX6.out
      have hb6 : Below w.heap.size w w6 := by rw [hw6]; exact HBE5.out.setCell (by show w.heap.size ≤ z; exact Nat.le_of_eq HZ.out.1.symm) _
      have c06 : Box w6 z (.slice (some ⟨ga, 0, none⟩) Lb ca) := by rw [hw6]; exact HC0.out.set _
      have c16 : Box w6 (z + 1) (.slice (some ⟨gb, 0, none⟩) Lb cb) := by rw [hw6]; exact HC1.out.other (p := ⟨z, 0, none⟩) (by show z ≠ z + 1; omega) _
      rw [← hw6]
      have HPQ := Lib.hid (And.intro hp (And.intro hw5 hw6))
      clear hp hw5 hw6 d0 d1 d2 d3 e0 e1 e2 e3 k0 k1 k2 k3 k4 f0 f1 f2 f3 f4 q0 q1 q2 q3 q4
      obtain ⟨j0, j1, j2, j3, j4⟩ := hs6.cell
      refine wpIn_region_wideT (fun w' => w'.cell? ⟨p, 1, none⟩ = some (.int .u64 (LA : Int)) ∧ w'.cell? ⟨p, 2, none⟩ = some (.int .u64 (LB : Int)) ∧ w'.cell? ⟨p, 3, none⟩ = some (.int .u64 (NA : Int)) ∧ w'.cell? ⟨p, 4, none⟩ = some (.int .u64 (NB : Int)))
        [.yes 0, .yes 1, .yes 2, .yes 3, .yes 4, .yes 5, .yes 6, .yes 7, .yes 8, .yes 9, .two 10 11, .no 12, .no 13] 13 (by kernel_rfl) (by kernel_rfl) rfl (by kernel_rfl) (by kernel_rfl) ?_
      have hS : w6.drew.cell? ⟨p, 1, none⟩ = some (.int .u64 (LA : Int)) ∧ w6.drew.cell? ⟨p, 2, none⟩ = some (.int .u64 (LB : Int)) ∧ w6.drew.cell? ⟨p, 3, none⟩ = some (.int .u64 (NA : Int)) ∧ w6.drew.cell? ⟨p, 4, none⟩ = some (.int .u64 (NB : Int)) := ⟨j1, j2, j3, j4⟩
      repeat (refine walkT_yes rfl hS rfl (fun w' hw' => by obtain ⟨r0, r1, r2, r3⟩ := hw'; go_simp; rfl) ?_; simp only [Act.put, List.setIfInBounds_toArray, List.set_cons_zero, List.set_cons_succ])
      refine walkT_two rfl rfl (by decide) rfl rfl (fun K hK => ?_) (fun K hK => ?_)
      · skip
        go_simp
        obtain ⟨g9, hg9⟩ : ∃ g9, g9 = w6.heap.size := ⟨_, rfl⟩
        obtain ⟨w7, hw7⟩ : ∃ w7, w7 = (w6.alloc (.cells #[.int .u64 0, .int .u64 0, .int .u64 0, .int .u64 0, .int .u64 0] 77)).drew := ⟨_, rfl⟩
        have hs7 : Sx w7 p false LA LB NA NB := by rw [hw7]; exact Sx.drew (hs6.of_block (Below.heap_alloc _ _ _ hs6.lt))
        have hm7 : Mx w7 g9 0 0 0 0 0 := by rw [hw7, hg9]; exact heap_alloc_new _ _
        have hb7 : Below w6.heap.size w6 w7 := by rw [hw7]; exact ((Below.refl _ _).alloc (Nat.le_refl _) _).drew
        rw [← hg9, ← hw7]
        have HF := Lib.hid hg9
        refine hK _ w7 (fun _ => ⟨hs7.cell.2.1, hs7.cell.2.2.1, hs7.cell.2.2.2.1, hs7.cell.2.2.2.2⟩) rfl (fun K' hK' => ?_)
        clear hK K hw7 hg9
        go_simp
        obtain ⟨g10, hg10⟩ : ∃ g10, g10 = w7.heap.size := ⟨_, rfl⟩
        obtain ⟨w8, hw8⟩ : ∃ w8, w8 = w7.alloc (.cells #[.int .u64 0, .int .u64 0, .int .u64 0, .int .u64 0, .int .u64 0] 77) := ⟨_, rfl⟩
        have hs8 : Sx w8 p false LA LB NA NB := by rw [hw8]; exact hs7.of_block (Below.heap_alloc _ _ _ hs7.lt)
        have hm_g9 : Mx w8 g9 0 0 0 0 0 := by rw [hw8]; exact hm7.of_block (Below.heap_alloc _ _ _ hm7.lt)
        have hm_g10 : Mx w8 g10 0 0 0 0 0 := by rw [hw8, hg10]; exact heap_alloc_new _ _
        have hb8 : Below w6.heap.size w6 w8 := by rw [hw8]; exact hb7.alloc hb7.size _
        have HG : Hid (w6.heap.size ≤ g9 ∧ w6.heap.size ≤ g10 ∧ g9 ≠ g10 ∧ p < w6.heap.size) := Lib.hid (by
          have h1 := HF.out; have h2 := hm7.lt; have h3 := hb7.size; have h4 := hs6.lt
          refine ⟨by omega, by omega, by omega, h4⟩)
        rw [← hg10, ← hw8]
        refine hK' _ w8 (fun _ => ⟨hs8.cell.2.1, hs8.cell.2.2.1, hs8.cell.2.2.2.1, hs8.cell.2.2.2.2⟩) ?_
        clear hK' K' hw8 hg10 HF hb7 hm7 hs7
        obtain ⟨⟨a0, b0⟩, ⟨a1, b1⟩, ⟨a2, b2⟩, ⟨a3, b3⟩, ⟨a4, b4⟩, hfin⟩ := hm_g9.fill (m := LA) (l := LB)
        refine walkT_no rfl rfl (fun K hK => ?_)
        go_simp
        obtain ⟨w9, hw9⟩ : ∃ w9, w9 = (((((w8.setCell ⟨g9, 0, none⟩ (.int .u64 (LA : Int))).setCell ⟨g9, 1, none⟩ (.int .u64 (LB : Int))).setCell ⟨g9, 2, none⟩ (.int .u64 0)).setCell ⟨g9, 3, none⟩ (.int .u64 0)).setCell ⟨g9, 4, none⟩ (.int .u64 0)) := ⟨_, rfl⟩
        rw [← hw9] at hfin ⊢
        have n1 : g9 ≠ g10 := HG.out.2.2.1
        have n2 : g9 ≠ p := by have := HG.out; omega
        have n3 : g10 ≠ p := by have := HG.out; omega
        have hs9 : Sx w9 p false LA LB NA NB := by rw [hw9]; exact (((((hs8.other (q := ⟨g9, 0, none⟩) n2 _).other (q := ⟨g9, 1, none⟩) n2 _).other (q := ⟨g9, 2, none⟩) n2 _).other (q := ⟨g9, 3, none⟩) n2 _).other (q := ⟨g9, 4, none⟩) n2 _)
        have hn_g10 : Mx w9 g10 0 0 0 0 0 := by rw [hw9]; exact (((((hm_g10.other (q := ⟨g9, 0, none⟩) n1 _).other (q := ⟨g9, 1, none⟩) n1 _).other (q := ⟨g9, 2, none⟩) n1 _).other (q := ⟨g9, 3, none⟩) n1 _).other (q := ⟨g9, 4, none⟩) n1 _)
        have hb9 : Below w6.heap.size w6 w9 := by rw [hw9]; exact (((((hb8.setCell (p := ⟨g9, 0, none⟩) HG.out.1 _).setCell (p := ⟨g9, 1, none⟩) HG.out.1 _).setCell (p := ⟨g9, 2, none⟩) HG.out.1 _).setCell (p := ⟨g9, 3, none⟩) HG.out.1 _).setCell (p := ⟨g9, 4, none⟩) HG.out.1 _)
        refine hK _ w9 (fun _ => ⟨hs9.cell.2.1, hs9.cell.2.2.1, hs9.cell.2.2.2.1, hs9.cell.2.2.2.2⟩) ?_
        clear hK K hw9 hm_g9 hm_g10 hs8 hb8 a0 b0 a1 b1 a2 b2 a3 b3 a4 b4
        have hm_g10 := hn_g10
        have hf9 := hfin
        clear hn_g10 hfin
        obtain ⟨⟨a0, b0⟩, ⟨a1, b1⟩, ⟨a2, b2⟩, ⟨a3, b3⟩, ⟨a4, b4⟩, hfin⟩ := hm_g10.fill (m := NB) (l := NA)
        refine walkT_no rfl rfl (fun K hK => ?_)
        go_simp
        obtain ⟨w10, hw10⟩ : ∃ w10, w10 = (((((w9.setCell ⟨g10, 0, none⟩ (.int .u64 (NB : Int))).setCell ⟨g10, 1, none⟩ (.int .u64 (NA : Int))).setCell ⟨g10, 2, none⟩ (.int .u64 0)).setCell ⟨g10, 3, none⟩ (.int .u64 0)).setCell ⟨g10, 4, none⟩ (.int .u64 0)) := ⟨_, rfl⟩
        rw [← hw10] at hfin ⊢
        have hx9 : Mx w10 g9 LA LB 0 0 0 := by rw [hw10]; exact (((((hf9.other (q := ⟨g10, 0, none⟩) (Ne.symm n1) _).other (q := ⟨g10, 1, none⟩) (Ne.symm n1) _).other (q := ⟨g10, 2, none⟩) (Ne.symm n1) _).other (q := ⟨g10, 3, none⟩) (Ne.symm n1) _).other (q := ⟨g10, 4, none⟩) (Ne.symm n1) _)
        have hb10 : Below w6.heap.size w6 w10 := by rw [hw10]; exact (((((hb9.setCell (p := ⟨g10, 0, none⟩) HG.out.2.1 _).setCell (p := ⟨g10, 1, none⟩) HG.out.2.1 _).setCell (p := ⟨g10, 2, none⟩) HG.out.2.1 _).setCell (p := ⟨g10, 3, none⟩) HG.out.2.1 _).setCell (p := ⟨g10, 4, none⟩) HG.out.2.1 _)
        refine hK _ w10 (fun h => absurd h (by decide)) ?_
        have HM9 := Lib.hid hx9
        have HM10 := Lib.hid hfin
        have HB10 := Lib.hid (hb6.trans (hb10.mono hb6.size))
        have HC0a := Lib.hid (c06.below hb10 c06.lt)
        have HC1a := Lib.hid (c16.below hb10 c16.lt)
        have d0 := HC0a.out.1
        have d1 := HC1a.out.1
        clear hK K hw10 hm_g10 hs9 hb9 hf9 hx9 hfin hb10 a0 b0 a1 b1 a2 b2 a3 b3 a4 b4 n1 n2 n3 j0 j1 j2 j3 j4 hS
        simp only [walkT]
        refine ⟨rfl, ?_⟩
        have c0b := HC0a.out.alloc (.cells #[.int .i64 0] 3)
        have c1b := HC1a.out.alloc (.cells #[.int .i64 0] 3)
        have d2 := c0b.1
        have d3 := c1b.1
        gi_wp2_with (gi_at_call 63; refine (callsIn_wide.2 (pairs_any _ _ _ _ _ _ _)).mono ?_; rintro e w' ⟨rfl, rfl⟩)
        obtain ⟨q, hq⟩ : ∃ q, q = w10.heap.size := ⟨_, rfl⟩
        obtain ⟨P1, hP1⟩ : ∃ P1, P1 = (nrow x).take Lb := ⟨_, rfl⟩
        obtain ⟨P2, hP2⟩ : ∃ P2, P2 = nrow y := ⟨_, rfl⟩
        rw [← hq]
        simp only [Nat.add_assoc, Nat.reduceAdd]
        obtain ⟨t0, s0, l0⟩ := box_next hq (.int .i64 0) 3
        obtain ⟨t1, s1, l1⟩ := box_next s0 (.slice (some ⟨ga, 0, none⟩) Lb ca) 23
        obtain ⟨t2, s2, l2⟩ := box_next s1 (.slice (some ⟨gb, 0, none⟩) Lb cb) 23
        have t0' := (t0.alloc (.cells #[.slice (some ⟨ga, 0, none⟩) Lb ca] 23)).alloc (.cells #[.slice (some ⟨gb, 0, none⟩) Lb cb] 23)
        have t1' := t1.alloc (.cells #[.slice (some ⟨gb, 0, none⟩) Lb cb] 23)
        obtain ⟨W0, hW0⟩ : ∃ W0, W0 = (((w10.alloc (.cells #[.int .i64 0] 3)).alloc (.cells #[.slice (some ⟨ga, 0, none⟩) Lb ca] 23)).alloc (.cells #[.slice (some ⟨gb, 0, none⟩) Lb cb] 23)) := ⟨_, rfl⟩
        rw [← hW0] at t0' t1' t2 s2 l2 ⊢
        have hsz : W0.heap.size = q + 3 := s2.symm
        have hbW : Below q w10 W0 := by
          have h := (l0.trans (l1.mono l0.size)).trans (l2.mono (l0.trans (l1.mono l0.size)).size)
          rw [hq]; exact h
        have hbq : Below w.heap.size w W0 := HB10.out.trans (hbW.mono (by rw [hq]; exact HB10.out.size))
        have hlx : P1.length = Lb ∧ Fits P1 ∧ P2.length = Lb ∧ Fits P2 := by
          rw [hP1, hP2]
          have h1 := HM.out.2.2.2.2.2.2.2.2.2
          have h2 := HL.out.1
          have h3 := HL.out.2.1
          refine ⟨?_, ?_, ?_, ?_⟩ <;> first | exact nrow_fits _ | exact fits_take (nrow_fits _) _ | (rw [List.length_take, ← h2]; omega) | exact h3.symm
        have hrow : ∀ W, Below w.heap.size w W → NRow B W (.slice (some ⟨ga, 0, none⟩) Lb ca) ((nrow x).take Lb) ∧ NRow B W (.slice (some ⟨gb, 0, none⟩) Lb cb) (nrow y) := fun W hW => by
          have h1 := HM.out.2.2.2.2.2.2.2.2.2
          have h2 := HL.out.1
          have h3 := HL.out.2.1
          refine ⟨?_, by rw [h3]; exact HRB.out.below hW (Nat.le_refl _)⟩
          have h4 := HRA.out.below hW (Nat.le_refl _)
          rw [← h2] at h4
          have h5 := NRow.take (L := (nrow x).take Lb) (M := (nrow x).drop Lb) (by rw [List.take_append_drop]; exact h4)
          rw [List.length_take, ← h2, Nat.min_eq_left h1] at h5
          exact h5
        have hga : ga < w.heap.size ∧ gb < w.heap.size ∧ B ≤ ga ∧ B ≤ gb := ⟨HRA.out.seg.2.2.2.2.2.block, HRB.out.seg.2.2.2.2.2.block, HRA.out.seg.2.2.1, HRB.out.seg.2.2.1⟩
        have hqb : w6.heap.size ≤ q ∧ w.heap.size ≤ z ∧ z + 1 < q ∧ g9 < q ∧ g10 < q := by
          have h1 := HM9.out.lt; have h2 := HM10.out.lt; have h3 := HC1a.out.lt; have h4 := HZ.out.1; have h5 := HG.out
          refine ⟨by omega, by omega, by omega, by omega, by omega⟩
        have hbB : Below B w W0 := hbq.mono HH.out.2.2.2.2
        obtain ⟨rA, rB⟩ := hrow W0 hbq
        have hNx0 : NxAt B z q g9 g10 ga gb ca cb Lb LA LB NB NA P1 P2 w 0 W0 :=
          ⟨[], [], 0, 0, 0, 0, 0, 0, ⟨rfl, rfl, Nat.zero_le _, fun _ h => (by cases h), fun _ h => (by cases h)⟩, ⟨by decide, by decide, by decide, by decide, by decide, by decide⟩, by simp [lv], by simp [lv],
            by rw [hP1]; exact rA, by rw [hP2]; exact rB, HM9.out.of_block (hbW.block g9 hqb.2.2.2.1), HM10.out.of_block (hbW.block g10 hqb.2.2.2.2), HC0a.out.below hbW (by omega), HC1a.out.below hbW (by omega), t0', t1', t2, Nat.le_of_eq hsz.symm, hbB⟩
        obtain ⟨X', hX'⟩ : ∃ X' : Nat → Nat, ∀ k, X' k = P1.getD k 0 := ⟨_, fun _ => rfl⟩
        obtain ⟨Y', hY'⟩ : ∃ Y' : Nat → Nat, ∀ k, Y' k = P2.getD k 0 := ⟨_, fun _ => rfl⟩
        have HX := Lib.hid hX'
        have HY := Lib.hid hY'
        have HLX := Lib.hid hlx
        have HSZ := Lib.hid hsz
        have HGA := Lib.hid hga
        have HQB := Lib.hid hqb
        have HPP := Lib.hid (And.intro hP1 hP2)
        have HLB9 : Hid (Lb ≤ 1048578) := Lib.hid (by omega)
        have HQ := Lib.hid hq
        clear hX' hY' hlx hsz hga hqb hP1 hP2 t0 t1 t2 t0' t1' s0 s1 s2 l0 l1 l2 hW0 hbW hbq hbB rA rB hrow d0 d1 d2 d3 c0b c1b c06 c16 hs6 hb6 hq
        refine wpIn_range_at (m := 1) (gf := 76) (lb := #[.pointer (some ⟨q + 1, 0, none⟩), .pointer (some ⟨q + 2, 0, none⟩)]) rfl (enters_of Try.func76 (by kernel_rfl) rfl) (pairs_at (q + 1) (q + 2) (some ⟨ga, 0, none⟩) (some ⟨gb, 0, none⟩) ca cb P1 P2 X' Y' HX.out HY.out (by rw [HLX.out.1]; have := HLB9.out; omega) (by rw [HLX.out.2.2.1]; have := HLB9.out; omega)) (fun _ => rfl)
          (NxAt B z q g9 g10 ga gb ca cb Lb LA LB NB NA P1 P2 w) (fun _ _ => False) (fun k W W' hb' h => h.below (by have := HQB.out; omega) (by have := HQB.out; omega) (by have := HQB.out; omega) (by have := HQB.out; have := HGA.out; omega) (by have := HQB.out; have := HGA.out; omega) (by have := HQB.out; have := HGA.out; omega) (by rw [← HSZ.out]; exact hb')) (fun _ _ _ _ h => h)
          (fun k W h => by obtain ⟨O1, O2, e1, o1, b1, e2, o2, b2, i1, i2, i3, i4, r1, r2, x1, x2, t1, t2, t3, t4, t5, hs, hl⟩ := h; rw [HSZ.out]; exact hs) (fun _ _ h => h.elim)
          (fun k W h => by
            obtain ⟨O1, O2, e1, o1, b1, e2, o2, b2, i1, i2, i3, i4, r1, r2, x1, x2, t1, t2, t3, t4, t5, hs, hl⟩ := h
            have f1 := r1.seg
            have f2 := r2.seg
            exact ⟨by rw [HLX.out.1]; exact t4.1, by rw [HLX.out.2.2.1]; exact t5.1, f1.2.2.2.2.2.from i1.1 (by rw [HLX.out.1]; exact i1.2.2.1), f2.2.2.2.2.2.from i1.2.1 (by rw [HLX.out.2.2.1]; exact i1.2.2.1)⟩) hNx0
          (fun k => { tmps := #[.slice (some ⟨ga, 0, none⟩) La ca, .slice (some ⟨gb, 0, none⟩) Lb cb, .pointer (some ⟨z, 0, none⟩), .pointer (some ⟨z + 1, 0, none⟩), .slice none 0 0, .slice none 0 0, .pointer (some ⟨p, 0, none⟩), undef, undef, .pointer (some ⟨g9, 0, none⟩), .pointer (some ⟨g10, 0, none⟩), .pointer (some ⟨q, 0, none⟩), .int .u64 ((X' k : Nat) : Int), .int .u64 ((Y' k : Nat) : Int),
            .slice (some ⟨ga, 0, none⟩) La ca, .slice (some ⟨gb, 0, none⟩) Lb cb, .tuple #[.int .u64 (xh : Int), .int .u64 (yh : Int)], .int .u64 (xh : Int), .int .u64 (yh : Int), .agg #[.bool false, .int .u64 (LA : Int), .int .u64 (LB : Int), .int .u64 (NA : Int), .int .u64 (NB : Int)], .pointer (some ⟨p, 2, none⟩), .int .u64 (LB : Int), .bool false, undef, undef, undef, undef, undef, undef, undef, undef, .slice (some ⟨ga, 0, none⟩) La ca, .slice (some ⟨gb, 0, none⟩) Lb cb, .int .i64 (Lb : Int), .slice (some ⟨ga, 0, none⟩) Lb ca, .pointer (some ⟨p, 0, none⟩), .bool false, undef, undef, undef, undef, .pointer (some ⟨p, 1, none⟩), .int .u64 (LA : Int), .pointer (some ⟨p, 2, none⟩), .int .u64 (LB : Int), .agg #[.int .u64 (LA : Int), .int .u64 (LB : Int), .int .u64 0, .int .u64 0, .int .u64 0], .pointer (some ⟨p, 4, none⟩), .int .u64 (NB : Int), .pointer (some ⟨p, 3, none⟩), .int .u64 (NA : Int), .agg #[.int .u64 (NB : Int), .int .u64 (NA : Int), .int .u64 0, .int .u64 0, .int .u64 0],
            .slice (some ⟨ga, 0, none⟩) Lb ca, .slice (some ⟨gb, 0, none⟩) Lb cb, .func (.func 76) #[] #[.pointer (some ⟨q + 1, 0, none⟩), .pointer (some ⟨q + 2, 0, none⟩)], .int .u64 ((X' k : Nat) : Int), .int .u64 ((Y' k : Nat) : Int),
            undef, undef, undef, undef, undef, undef, undef, undef, undef, undef, undef, undef, undef, undef, undef, undef, undef, undef], defers := [] })
          ?assign ?body ?done ?stop
        case assign =>
          intro l k W K hK
          gi_wp2
          exact hK
        case body =>
          rintro l k W hk ⟨O1, O2, e1, o1, b1, e2, o2, b2, ⟨i1, i2, i3, i4, i5⟩, ⟨u1, u2, u3, u4, u5, u6⟩, v1, v2, r1, r2, x1, x2, t1, t2, t3, t4, t5, hs, hl⟩
          have hxA : X' k = P1.getD k 0 := HX.out k
          have hyB : Y' k = P2.getD k 0 := HY.out k
          generalize X' k = xx at hxA ⊢
          generalize Y' k = yy at hyB ⊢
          have hkL : k < Lb := by rw [← HLX.out.1]; exact hk
          have hkI : (k : Int) < (Lb : Int) := by omega
          have hk0 : (0 : Int) ≤ (k : Int) := by omega
          have hk9 : (k : Int) ≤ 1048578 := by have := HLB9.out; omega
          have hxx : xx < 18446744073709551616 := by rw [hxA]; exact getD_fits HLX.out.2.1 k
          have hyy : yy < 18446744073709551616 := by rw [hyB]; exact getD_fits HLX.out.2.2.2 k
          have v1' := v1
          have v2' := v2
          have HI := Lib.hid (And.intro i1 (And.intro i2 (And.intro i3 (And.intro i4 i5))))
          have HV := Lib.hid (And.intro v1 v2)
          have HXY := Lib.hid (And.intro hxA hyB)
          have hbx := hs
          clear hxA hyB v1 v2 v1' v2' i1 i2 i3 i4 i5 hk
          gi_wp2
          refine wpIn_region_calmT (fun w' => w'.cell? ⟨z, 0, none⟩ = some (.slice (some ⟨ga, 0, none⟩) Lb ca) ∧ w'.cell? ⟨z + 1, 0, none⟩ = some (.slice (some ⟨gb, 0, none⟩) Lb cb) ∧ w'.cell? ⟨q, 0, none⟩ = some (.int .i64 (k : Int)))
            [.yes 0, .yes 1, .yes 2, .yes 3, .yes 4, .yes 5, .yes 7, .yes 8, .no 6, .no 9, .yes 10, .no 11, .yes 12, .no 13] 13 (by kernel_rfl) (by kernel_rfl) (by kernel_rfl) rfl (by kernel_rfl) (by kernel_rfl) ?_
          have hS : W.drew.cell? ⟨z, 0, none⟩ = some (.slice (some ⟨ga, 0, none⟩) Lb ca) ∧ W.drew.cell? ⟨z + 1, 0, none⟩ = some (.slice (some ⟨gb, 0, none⟩) Lb cb) ∧ W.drew.cell? ⟨q, 0, none⟩ = some (.int .i64 (k : Int)) := ⟨t1.1, t2.1, t3.1⟩
          repeat (refine walkT_yes rfl hS rfl (fun w' hw' => by obtain ⟨q0, q1, q2⟩ := hw'; go_simp; rfl) ?_; simp only [Act.put, List.setIfInBounds_toArray, List.set_cons_zero, List.set_cons_succ])
          refine walkT_no rfl rfl (fun K hK => ?_)
          go_simp
          have hM4 := HM.out
          refine (mix_any g9 xx yy LA LB e1 o1 b1 W.drew hxx hyy (by omega) (by omega) u1 u2 u3 x1).mono ?_
          rintro e W1 ⟨ra, e1', o1', b1', rfl, ha1, ha2, ha3, ha4, haM, hxa, hga1⟩
          have hN := HG.out
          have hNQ := HQB.out
          have hPZ := HPZ.out
          have hGA := HGA.out
          have hne12 : gb ≠ ga := Ne.symm HH.out.2.2.2.1
          have T1 : Box W1 z (.slice (some ⟨ga, 0, none⟩) Lb ca) := t1.drew.of_block (hga1.block z t1.lt (fun e => by cases e; omega))
          have T2 : Box W1 (z + 1) (.slice (some ⟨gb, 0, none⟩) Lb cb) := t2.drew.of_block (hga1.block (z + 1) t2.lt (fun e => by cases e; omega))
          have T3 : Box W1 q (.int .i64 (k : Int)) := t3.drew.of_block (hga1.block q t3.lt (fun e => by cases e; omega))
          have X1 : Mx W1 g10 NB NA e2 o2 b2 := x2.of_block (hga1.block g10 x2.lt (fun e => by cases e; omega))
          have A1 := r1.of_block (hga1.block ga r1.seg.2.2.2.2.2.block (fun e => by cases e; omega))
          have A2 := r2.of_block (hga1.block gb r2.seg.2.2.2.2.2.block (fun e => by cases e; omega))
          refine hK _ W1 (fun _ => ⟨T1.1, T2.1, T3.1⟩) ?_
          clear hK K
          refine walkT_no rfl rfl (fun K hK => ?_)
          go_simp
          refine (mix_any g10 yy xx NB NA e2 o2 b2 W1 hyy hxx (by omega) (by omega) u4 u5 u6 X1).mono ?_
          rintro e W2 ⟨rb, e2', o2', b2', rfl, hb1, hb2, hb3, hb4, hbM, hxb, hgb1⟩
          have U1 : Box W2 z (.slice (some ⟨ga, 0, none⟩) Lb ca) := T1.of_block (hgb1.block z T1.lt (fun e => by cases e; omega))
          have U2 : Box W2 (z + 1) (.slice (some ⟨gb, 0, none⟩) Lb cb) := T2.of_block (hgb1.block (z + 1) T2.lt (fun e => by cases e; omega))
          have U3 : Box W2 q (.int .i64 (k : Int)) := T3.of_block (hgb1.block q T3.lt (fun e => by cases e; omega))
          have Y1 : Mx W2 g9 LA LB e1' o1' b1' := hxa.of_block (hgb1.block g9 hxa.lt (fun e => by cases e; omega))
          have B1 := A1.of_block (hgb1.block ga A1.seg.2.2.2.2.2.block (fun e => by cases e; omega))
          have B2 := A2.of_block (hgb1.block gb A2.seg.2.2.2.2.2.block (fun e => by cases e; omega))
          refine hK _ W2 (fun _ => ⟨U1.1, U2.1, U3.1⟩) ?_
          clear hK K
          have hl1 : k < (O1 ++ P1.drop k).length := by rw [List.length_append, List.length_drop, HI.out.1, HLX.out.1]; omega
          have hl2 : k < (O2 ++ P2.drop k).length := by rw [List.length_append, List.length_drop, HI.out.2.1, HLX.out.2.2.1]; omega
          have cc1 := B1.seg.2.2.2.2.2.cell hl1
          have cf1 := B1.seg.2.2.2.2.2.frozen k
          rw [Nat.zero_add] at cc1
          have hS2 : W2.cell? ⟨z, 0, none⟩ = some (.slice (some ⟨ga, 0, none⟩) Lb ca) ∧ W2.cell? ⟨z + 1, 0, none⟩ = some (.slice (some ⟨gb, 0, none⟩) Lb cb) ∧ W2.cell? ⟨q, 0, none⟩ = some (.int .i64 (k : Int)) := ⟨U1.1, U2.1, U3.1⟩
          refine walkT_yes rfl hS2 rfl (fun w' hw' => by obtain ⟨q0, q1, q2⟩ := hw'; go_simp; rfl) ?_
          simp only [Act.put, List.setIfInBounds_toArray, List.set_cons_zero, List.set_cons_succ]
          refine walkT_no rfl rfl (fun K hK => ?_)
          go_simp
          obtain ⟨W3, hW3⟩ : ∃ W3, W3 = W2.setCell ⟨ga, k, none⟩ (.int .u64 (ra : Int)) := ⟨_, rfl⟩
          have V1 : Box W3 z (.slice (some ⟨ga, 0, none⟩) Lb ca) := by rw [hW3]; exact U1.other (p := ⟨ga, k, none⟩) (by show ga ≠ z; omega) _
          have V2 : Box W3 (z + 1) (.slice (some ⟨gb, 0, none⟩) Lb cb) := by rw [hW3]; exact U2.other (p := ⟨ga, k, none⟩) (by show ga ≠ z + 1; omega) _
          have V3 : Box W3 q (.int .i64 (k : Int)) := by rw [hW3]; exact U3.other (p := ⟨ga, k, none⟩) (by show ga ≠ q; omega) _
          have C1 := B1.setAt (x := ra) hl1
          rw [← hW3] at C1
          have C2 : NRow B W3 (.slice (some ⟨gb, 0, none⟩) Lb cb) (O2 ++ P2.drop k) := by rw [hW3]; exact B2.of_block (Below.heap_setCell _ ⟨ga, k, none⟩ _ _ (fun e => hne12 (by simpa using e)))
          have cc2 := C2.seg.2.2.2.2.2.cell hl2
          have cf2 := C2.seg.2.2.2.2.2.frozen k
          rw [Nat.zero_add] at cc2
          have hS3 : W3.cell? ⟨z, 0, none⟩ = some (.slice (some ⟨ga, 0, none⟩) Lb ca) ∧ W3.cell? ⟨z + 1, 0, none⟩ = some (.slice (some ⟨gb, 0, none⟩) Lb cb) ∧ W3.cell? ⟨q, 0, none⟩ = some (.int .i64 (k : Int)) := ⟨V1.1, V2.1, V3.1⟩
          rw [← hW3]
          refine hK _ W3 (fun _ => hS3) ?_
          have HW3 := Lib.hid hW3
          clear hK K hW3
          refine walkT_yes rfl hS3 rfl (fun w' hw' => by obtain ⟨q0, q1, q2⟩ := hw'; go_simp; rfl) ?_
          simp only [Act.put, List.setIfInBounds_toArray, List.set_cons_zero, List.set_cons_succ]
          refine walkT_no rfl rfl (fun K hK => ?_)
          go_simp
          obtain ⟨W4, hW4⟩ : ∃ W4, W4 = W3.setCell ⟨gb, k, none⟩ (.int .u64 (rb : Int)) := ⟨_, rfl⟩
          have Z1 : Box W4 z (.slice (some ⟨ga, 0, none⟩) Lb ca) := by rw [hW4]; exact V1.other (p := ⟨gb, k, none⟩) (by show gb ≠ z; omega) _
          have Z2 : Box W4 (z + 1) (.slice (some ⟨gb, 0, none⟩) Lb cb) := by rw [hW4]; exact V2.other (p := ⟨gb, k, none⟩) (by show gb ≠ z + 1; omega) _
          have Z3 : Box W4 q (.int .i64 (k : Int)) := by rw [hW4]; exact V3.other (p := ⟨gb, k, none⟩) (by show gb ≠ q; omega) _
          have D2 := C2.setAt (x := rb) hl2
          rw [← hW4] at D2 ⊢
          have D1 : NRow B W4 (.slice (some ⟨ga, 0, none⟩) Lb ca) ((O1 ++ P1.drop k).set k ra) := by rw [hW4]; exact C1.of_block (Below.heap_setCell _ ⟨gb, k, none⟩ _ _ (fun e => hne12 (by simpa using e.symm)))
          have E1 : Mx W4 g9 LA LB e1' o1' b1' := by rw [hW4, HW3.out]; exact (Y1.other (q := ⟨ga, k, none⟩) (by show ga ≠ g9; omega) _).other (q := ⟨gb, k, none⟩) (by show gb ≠ g9; omega) _
          have E2 : Mx W4 g10 NB NA e2' o2' b2' := by rw [hW4, HW3.out]; exact (hxb.other (q := ⟨ga, k, none⟩) (by show ga ≠ g10; omega) _).other (q := ⟨gb, k, none⟩) (by show gb ≠ g10; omega) _
          have hke : KeepsFrom W0.heap.size W W4 := by
            have h1 : KeepsFrom W0.heap.size W W2 := keeps_grown (keeps_grown (keeps_drew (KeepsFrom.refl _ W)) hga1 (by rw [HSZ.out]; omega)) hgb1 (by rw [HSZ.out]; omega)
            rw [hW4, HW3.out]
            exact keeps_set (keeps_set h1 _ _) _ _
          have S4 : Box W4 (q + 1) (.slice (some ⟨ga, 0, none⟩) Lb ca) := by
            rw [hW4, HW3.out]
            exact ((((t4.drew.of_block (hga1.block (q + 1) t4.lt (fun e => by cases e; omega))).of_block (hgb1.block (q + 1) (Nat.lt_of_lt_of_le t4.lt hga1.size) (fun e => by cases e; omega))).other (p := ⟨ga, k, none⟩) (by show ga ≠ q + 1; omega) _).other (p := ⟨gb, k, none⟩) (by show gb ≠ q + 1; omega) _)
          have S5 : Box W4 (q + 2) (.slice (some ⟨gb, 0, none⟩) Lb cb) := by
            rw [hW4, HW3.out]
            exact ((((t5.drew.of_block (hga1.block (q + 2) t5.lt (fun e => by cases e; omega))).of_block (hgb1.block (q + 2) (Nat.lt_of_lt_of_le t5.lt hga1.size) (fun e => by cases e; omega))).other (p := ⟨ga, k, none⟩) (by show ga ≠ q + 2; omega) _).other (p := ⟨gb, k, none⟩) (by show gb ≠ q + 2; omega) _)
          have hsz4 : q + 3 ≤ W4.heap.size := by
            rw [hW4, HW3.out, size_set, size_set]
            exact Nat.le_trans hs (Nat.le_trans hga1.size hgb1.size)
          have hl4 : Below B w W4 := by
            have h1 := (hl.drew).grown hga1 (Nat.le_trans (Nat.le_trans (show B ≤ w.heap.size from HH.out.2.2.2.2) hl.size) (Nat.le_refl _)) (fun g hg => by cases hg; omega)
            have h2 := h1.grown hgb1 (Nat.le_trans HH.out.2.2.2.2 h1.size) (fun g hg => by cases hg; omega)
            rw [hW4, HW3.out]
            exact (h2.setCell (p := ⟨ga, k, none⟩) (by show B ≤ ga; omega) _).setCell (p := ⟨gb, k, none⟩) (by show B ≤ gb; omega) _
          have HKE := Lib.hid hke
          have HD := Lib.hid (And.intro D1 D2)
          have HE := Lib.hid (And.intro E1 E2)
          have HZZ := Lib.hid (And.intro Z1 (And.intro Z2 (And.intro Z3 (And.intro S4 (And.intro S5 (And.intro hsz4 hl4))))))
          have HR1 := Lib.hid (And.intro ha1 (And.intro ha2 (And.intro ha3 (And.intro ha4 haM))))
          have HR2 := Lib.hid (And.intro hb1 (And.intro hb2 (And.intro hb3 (And.intro hb4 hbM))))
          have zc := Z3.1
          have zf := Z3.2
          refine hK _ W4 (fun h => absurd h (by decide)) ?_
          clear hK K hW4 cc1 cf1 cc2 cf2 hS hS2 hS3 A1 A2 B1 B2 C1 C2 D1 D2 E1 E2 Y1 X1 U1 U2 U3 V1 V2 V3 T1 T2 T3 hxa hxb hga1 hgb1 haM hbM hke S4 S5 hsz4 hl4 Z1 Z2 Z3
          simp only [walkT]
          refine ⟨rfl, ?_⟩
          gi_wp2
          have hI := HI.out
          have hR1 := HR1.out
          have hR2 := HR2.out
          have hZ := HZZ.out
          have hNQ := HQB.out
          have hGA := HGA.out
          have hN := HG.out
          have hP : 2 ^ (64 * (k + 1)) = 2 ^ (64 * k) * 18446744073709551616 := by rw [show 64 * (k + 1) = 64 * k + 64 by omega, Nat.pow_add]
          have q1 := mix_step HV.out.1 hR1.2.2.2.2
          have q2 := mix_step HV.out.2 hR2.2.2.2.2
          have w1 := lv_take_succ' P1 k
          have w2 := lv_take_succ' P2 k
          rw [← HXY.out.1] at w1
          rw [← HXY.out.2] at w2
          have hkP1 : k < P1.length := by rw [HLX.out.1]; exact hkL
          have hkP2 : k < P2.length := by rw [HLX.out.2.2.1]; exact hkL
          have w3 := set_mid (x := ra) hI.1 hkP1
          have w4 := set_mid (x := rb) hI.2.1 hkP2
          have hD1 := HD.out.1
          have hD2 := HD.out.2
          rw [w3] at hD1
          rw [w4] at hD2
          refine ⟨keeps_set HKE.out _ _, O1 ++ [ra], O2 ++ [rb], e1', o1', b1', e2', o2', b2', ⟨by rw [List.length_append, hI.1]; rfl, by rw [List.length_append, hI.2.1]; rfl, hkL, fits_snoc hI.2.2.2.1 hR1.1, fits_snoc hI.2.2.2.2 hR2.1⟩, ⟨hR1.2.1, hR1.2.2.1, hR1.2.2.2.1, hR2.2.1, hR2.2.2.1, hR2.2.2.2.1⟩, ?_, ?_,
            hD1.of_block (Below.heap_setCell _ ⟨q, 0, none⟩ _ _ (by show ga ≠ q; omega)), hD2.of_block (Below.heap_setCell _ ⟨q, 0, none⟩ _ _ (by show gb ≠ q; omega)), HE.out.1.other (q := ⟨q, 0, none⟩) (by show q ≠ g9; omega) _, HE.out.2.other (q := ⟨q, 0, none⟩) (by show q ≠ g10; omega) _,
            hZ.1.other (p := ⟨q, 0, none⟩) (by show q ≠ z; omega) _, hZ.2.1.other (p := ⟨q, 0, none⟩) (by show q ≠ z + 1; omega) _, hZ.2.2.1.set _, hZ.2.2.2.1.other (p := ⟨q, 0, none⟩) (by show q ≠ q + 1; omega) _, hZ.2.2.2.2.1.other (p := ⟨q, 0, none⟩) (by show q ≠ q + 2; omega) _,
            by rw [size_set]; exact hZ.2.2.2.2.2.1, hZ.2.2.2.2.2.2.setCell (p := ⟨q, 0, none⟩) (by show B ≤ q; omega) _⟩
          · rw [lv_snoc, hI.1, w1, w2, hP]; exact q1
          · rw [lv_snoc, hI.2.1, w1, w2, hP]; exact q2
        case done =>
          rintro D W hD ⟨O1, O2, e1, o1, b1, e2, o2, b2, ⟨i1, i2, i3, i4, i5⟩, ⟨u1, u2, u3, u4, u5, u6⟩, v1, v2, r1, r2, x1, x2, t1, t2, t3, t4, t5, hs, hl⟩ hK
          have e0 := HLX.out.1
          rw [e0] at i1 i2 i3 v1 v2 r1 r2 t3
          have hd1 : P1.drop Lb = [] := List.drop_eq_nil_of_le (Nat.le_of_eq HLX.out.1)
          have hd2 : P2.drop Lb = [] := List.drop_eq_nil_of_le (Nat.le_of_eq HLX.out.2.2.1)
          rw [hd1, List.append_nil] at r1
          rw [hd2, List.append_nil] at r2
          rw [List.take_of_length_le (Nat.le_of_eq HLX.out.1), List.take_of_length_le (Nat.le_of_eq HLX.out.2.2.1)] at v1 v2
          have hM := HM.out
          have hyl : y < 2 ^ (64 * Lb) := by have := lv_lt (nrow_fits y); rw [lv_nrow, ← HL.out.2.1] at this; exact this
          have hsp := lv_split (nrow x) (k := Lb) (by rw [← HL.out.1]; exact hM.2.2.2.2.2.2.2.2.2)
          rw [lv_nrow] at hsp
          obtain ⟨h, hh⟩ : ∃ h, h = lv ((nrow x).drop Lb) := ⟨_, rfl⟩
          obtain ⟨XT, hXT⟩ : ∃ XT, XT = lv ((nrow x).take Lb) := ⟨_, rfl⟩
          rw [← hh, ← hXT] at hsp
          have hP1v : lv P1 = XT := by rw [HPP.out.1]; exact hXT.symm
          have hP2v : lv P2 = y := by rw [HPP.out.2]; exact lv_nrow y
          rw [hP1v, hP2v] at v1 v2
          have hO1 : lv O1 < 2 ^ (64 * Lb) := by rw [← i1]; exact lv_lt i4
          have hO2 : lv O2 < 2 ^ (64 * Lb) := by rw [← i2]; exact lv_lt i5
          have z1 : lv O1 = Lt := mix_done (u := LA * h) (v := 0) v1 (by
            have h9 := hM.2.2.2.2.2.1
            rw [hsp] at h9
            simp only [dl] at h9
            have : ((LA * XT + 2 ^ (64 * Lb) * (LA * h) : Nat) : Int) = ((Lt + LB * y + 2 ^ (64 * Lb) * (0) : Nat) : Int) := by push_cast at h9 ⊢; grind
            exact_mod_cast this) hO1 (Nat.lt_of_le_of_lt hM.2.2.2.2.2.2.2.1 hyl)
          have z2 : lv O2 = X := mix_done (u := 0) (v := NA * h) v2 (by
            have h9 := hM.2.2.2.2.1
            rw [hsp] at h9
            simp only [dl] at h9
            have : ((NB * y + 2 ^ (64 * Lb) * (0) : Nat) : Int) = ((X + NA * XT + 2 ^ (64 * Lb) * (NA * h) : Nat) : Int) := by push_cast at h9 ⊢; grind
            exact_mod_cast this) hO2 (Nat.lt_of_lt_of_le hM.2.2.2.2.2.2.1 (Nat.le_of_lt (Nat.lt_of_le_of_lt hM.2.2.2.2.2.2.2.1 hyl)))
          have f1 := r1.seg
          have f2 := r2.seg
          have A1 : NRow B W (.slice (some ⟨ga, 0, none⟩) O1.length ca) O1 := by rw [i1]; exact r1
          have A2 : NRow B W (.slice (some ⟨gb, 0, none⟩) O2.length cb) O2 := by rw [i2]; exact r2
          have N1 := A1.norm i4
          have N2 := A2.norm i5
          rw [z1] at N1
          rw [z2] at N2
          have tr1 := trim_any (some ⟨ga, 0, none⟩) ca O1 W.drew (by rw [i1]; have := HLB9.out; omega) (by rw [i1]; have := f1.2.2.2.1; omega) i4 f1.2.2.2.2.2.natAt
          have tr2 := trim_any (some ⟨gb, 0, none⟩) cb O2 W.drew (by rw [i2]; have := HLB9.out; omega) (by rw [i2]; have := f2.2.2.2.1; omega) i5 f2.2.2.2.2.2.natAt
          rw [i1, z1] at tr1
          rw [i2, z2] at tr2
          have TR1 := Lib.hid tr1
          have TR2 := Lib.hid tr2
          have HN12 := Lib.hid (And.intro N1 N2)
          have HLW := Lib.hid (And.intro hl hs)
          have hS : W.drew.cell? ⟨z, 0, none⟩ = some (.slice (some ⟨ga, 0, none⟩) Lb ca) ∧ W.drew.cell? ⟨z + 1, 0, none⟩ = some (.slice (some ⟨gb, 0, none⟩) Lb cb) := ⟨t1.1, t2.1⟩
          clear e0 i1 i2 i3 i4 i5 u1 u2 u3 u4 u5 u6 v1 v2 r1 r2 x1 x2 t1 t2 t3 t4 t5 hs hl hd1 hd2 hM hyl hsp hh hXT hP1v hP2v hO1 hO2 z1 z2 f1 f2 A1 A2 N1 N2 tr1 tr2
          gi_wp2_with fail
          refine wpIn_region_wideT (fun w' => w'.cell? ⟨z, 0, none⟩ = some (.slice (some ⟨ga, 0, none⟩) Lb ca) ∧ w'.cell? ⟨z + 1, 0, none⟩ = some (.slice (some ⟨gb, 0, none⟩) Lb cb))
            [.yes 0, .yes 2, .no 1, .no 3, .yes 4, .yes 5] 6 (by kernel_rfl) (by kernel_rfl) rfl (by kernel_rfl) (by kernel_rfl) ?_
          repeat (refine walkT_yes rfl hS rfl (fun w' hw' => by obtain ⟨q0, q1⟩ := hw'; go_simp; rfl) ?_; simp only [Act.put, List.setIfInBounds_toArray, List.set_cons_zero, List.set_cons_succ])
          refine walkT_no rfl rfl (fun K hK2 => ?_)
          go_simp
          refine TR1.out.mono ?_
          rintro e w' ⟨rfl, rfl⟩
          refine hK2 _ _ (fun _ => hS) ?_
          clear hK2 K
          refine walkT_no rfl rfl (fun K hK2 => ?_)
          go_simp
          refine TR2.out.mono ?_
          rintro e w' ⟨rfl, rfl⟩
          refine hK2 _ _ (fun _ => hS) ?_
          clear hK2 K
          repeat (refine walkT_yes rfl hS rfl (fun w' hw' => by obtain ⟨q0, q1⟩ := hw'; go_simp; rfl) ?_; simp only [Act.put, List.setIfInBounds_toArray, List.set_cons_zero, List.set_cons_succ])
          simp only [walkT]
          refine ⟨rfl, ?_⟩
          gi_wp2_with fail
          have hsW : W0.heap.size ≤ W.drew.heap.size := by rw [HSZ.out]; exact HLW.out.2
          have b1 : Below W0.heap.size W.drew (W.drew.putObj D (.deferred none)) := below_putObj W.drew D _ hD hsW
          have hM := HM.out
          have hNQ := HQB.out
          have hGA := HGA.out
          refine ⟨by simp, .inl ⟨_, _, rfl, run_takeDeferred (show W.drew.heap[D]? = _ from hK), ?_⟩⟩
          refine ⟨_, results_tmp2 rfl _ _ _, ?_⟩
          refine ⟨_, _, Lt, X, rfl, hM.2.2.2.2.2.2.2.2.1, Nat.le_of_lt hM.2.2.2.2.2.2.1, Nat.le_trans hM.2.2.2.2.2.2.2.1 HH.out.2.1, Nat.lt_of_lt_of_le hM.2.2.2.2.2.2.1 hM.2.2.2.2.2.2.2.1, ?_, ?_, ?_, ?_⟩
          · exact HN12.out.1.of_block (b1.block ga (by rw [HSZ.out]; omega))
          · exact HN12.out.2.of_block (b1.block gb (by rw [HSZ.out]; omega))
          · intro e
            have e' : (Value.slice (some ⟨ga, 0, none⟩) (nrow Lt).length ca).ownBlock = (Value.slice (some ⟨gb, 0, none⟩) (nrow X).length cb).ownBlock := e
            have hne12 : gb ≠ ga := Ne.symm HH.out.2.2.2.1
            exact hne12 (by simpa [Value.ownBlock] using e'.symm)
          · exact (HLW.out.1.drew).trans (b1.mono (by rw [HSZ.out]; omega))
        case stop =>
          rintro D k W _ _ h _
          exact h.elim
      · skip
        go_simp
        obtain ⟨g10, hg10⟩ : ∃ g10, g10 = w6.heap.size := ⟨_, rfl⟩
        obtain ⟨w7, hw7⟩ : ∃ w7, w7 = (w6.alloc (.cells #[.int .u64 0, .int .u64 0, .int .u64 0, .int .u64 0, .int .u64 0] 77)).drew := ⟨_, rfl⟩
        have hs7 : Sx w7 p false LA LB NA NB := by rw [hw7]; exact Sx.drew (hs6.of_block (Below.heap_alloc _ _ _ hs6.lt))
        have hm7 : Mx w7 g10 0 0 0 0 0 := by rw [hw7, hg10]; exact heap_alloc_new _ _
        have hb7 : Below w6.heap.size w6 w7 := by rw [hw7]; exact ((Below.refl _ _).alloc (Nat.le_refl _) _).drew
        rw [← hg10, ← hw7]
        have HF := Lib.hid hg10
        refine hK _ w7 (fun _ => ⟨hs7.cell.2.1, hs7.cell.2.2.1, hs7.cell.2.2.2.1, hs7.cell.2.2.2.2⟩) rfl (fun K' hK' => ?_)
        clear hK K hw7 hg10
        go_simp
        obtain ⟨g9, hg9⟩ : ∃ g9, g9 = w7.heap.size := ⟨_, rfl⟩
        obtain ⟨w8, hw8⟩ : ∃ w8, w8 = w7.alloc (.cells #[.int .u64 0, .int .u64 0, .int .u64 0, .int .u64 0, .int .u64 0] 77) := ⟨_, rfl⟩
        have hs8 : Sx w8 p false LA LB NA NB := by rw [hw8]; exact hs7.of_block (Below.heap_alloc _ _ _ hs7.lt)
        have hm_g10 : Mx w8 g10 0 0 0 0 0 := by rw [hw8]; exact hm7.of_block (Below.heap_alloc _ _ _ hm7.lt)
        have hm_g9 : Mx w8 g9 0 0 0 0 0 := by rw [hw8, hg9]; exact heap_alloc_new _ _
        have hb8 : Below w6.heap.size w6 w8 := by rw [hw8]; exact hb7.alloc hb7.size _
        have HG : Hid (w6.heap.size ≤ g9 ∧ w6.heap.size ≤ g10 ∧ g9 ≠ g10 ∧ p < w6.heap.size) := Lib.hid (by
          have h1 := HF.out; have h2 := hm7.lt; have h3 := hb7.size; have h4 := hs6.lt
          refine ⟨by omega, by omega, by omega, h4⟩)
        rw [← hg9, ← hw8]
        refine hK' _ w8 (fun _ => ⟨hs8.cell.2.1, hs8.cell.2.2.1, hs8.cell.2.2.2.1, hs8.cell.2.2.2.2⟩) ?_
        clear hK' K' hw8 hg9 HF hb7 hm7 hs7
        obtain ⟨⟨a0, b0⟩, ⟨a1, b1⟩, ⟨a2, b2⟩, ⟨a3, b3⟩, ⟨a4, b4⟩, hfin⟩ := hm_g9.fill (m := LA) (l := LB)
        refine walkT_no rfl rfl (fun K hK => ?_)
        go_simp
        obtain ⟨w9, hw9⟩ : ∃ w9, w9 = (((((w8.setCell ⟨g9, 0, none⟩ (.int .u64 (LA : Int))).setCell ⟨g9, 1, none⟩ (.int .u64 (LB : Int))).setCell ⟨g9, 2, none⟩ (.int .u64 0)).setCell ⟨g9, 3, none⟩ (.int .u64 0)).setCell ⟨g9, 4, none⟩ (.int .u64 0)) := ⟨_, rfl⟩
        rw [← hw9] at hfin ⊢
        have n1 : g9 ≠ g10 := HG.out.2.2.1
        have n2 : g9 ≠ p := by have := HG.out; omega
        have n3 : g10 ≠ p := by have := HG.out; omega
        have hs9 : Sx w9 p false LA LB NA NB := by rw [hw9]; exact (((((hs8.other (q := ⟨g9, 0, none⟩) n2 _).other (q := ⟨g9, 1, none⟩) n2 _).other (q := ⟨g9, 2, none⟩) n2 _).other (q := ⟨g9, 3, none⟩) n2 _).other (q := ⟨g9, 4, none⟩) n2 _)
        have hn_g10 : Mx w9 g10 0 0 0 0 0 := by rw [hw9]; exact (((((hm_g10.other (q := ⟨g9, 0, none⟩) n1 _).other (q := ⟨g9, 1, none⟩) n1 _).other (q := ⟨g9, 2, none⟩) n1 _).other (q := ⟨g9, 3, none⟩) n1 _).other (q := ⟨g9, 4, none⟩) n1 _)
        have hb9 : Below w6.heap.size w6 w9 := by rw [hw9]; exact (((((hb8.setCell (p := ⟨g9, 0, none⟩) HG.out.1 _).setCell (p := ⟨g9, 1, none⟩) HG.out.1 _).setCell (p := ⟨g9, 2, none⟩) HG.out.1 _).setCell (p := ⟨g9, 3, none⟩) HG.out.1 _).setCell (p := ⟨g9, 4, none⟩) HG.out.1 _)
        refine hK _ w9 (fun _ => ⟨hs9.cell.2.1, hs9.cell.2.2.1, hs9.cell.2.2.2.1, hs9.cell.2.2.2.2⟩) ?_
        clear hK K hw9 hm_g9 hm_g10 hs8 hb8 a0 b0 a1 b1 a2 b2 a3 b3 a4 b4
        have hm_g10 := hn_g10
        have hf9 := hfin
        clear hn_g10 hfin
        obtain ⟨⟨a0, b0⟩, ⟨a1, b1⟩, ⟨a2, b2⟩, ⟨a3, b3⟩, ⟨a4, b4⟩, hfin⟩ := hm_g10.fill (m := NB) (l := NA)
        refine walkT_no rfl rfl (fun K hK => ?_)
        go_simp
        obtain ⟨w10, hw10⟩ : ∃ w10, w10 = (((((w9.setCell ⟨g10, 0, none⟩ (.int .u64 (NB : Int))).setCell ⟨g10, 1, none⟩ (.int .u64 (NA : Int))).setCell ⟨g10, 2, none⟩ (.int .u64 0)).setCell ⟨g10, 3, none⟩ (.int .u64 0)).setCell ⟨g10, 4, none⟩ (.int .u64 0)) := ⟨_, rfl⟩
        rw [← hw10] at hfin ⊢
        have hx9 : Mx w10 g9 LA LB 0 0 0 := by rw [hw10]; exact (((((hf9.other (q := ⟨g10, 0, none⟩) (Ne.symm n1) _).other (q := ⟨g10, 1, none⟩) (Ne.symm n1) _).other (q := ⟨g10, 2, none⟩) (Ne.symm n1) _).other (q := ⟨g10, 3, none⟩) (Ne.symm n1) _).other (q := ⟨g10, 4, none⟩) (Ne.symm n1) _)
        have hb10 : Below w6.heap.size w6 w10 := by rw [hw10]; exact (((((hb9.setCell (p := ⟨g10, 0, none⟩) HG.out.2.1 _).setCell (p := ⟨g10, 1, none⟩) HG.out.2.1 _).setCell (p := ⟨g10, 2, none⟩) HG.out.2.1 _).setCell (p := ⟨g10, 3, none⟩) HG.out.2.1 _).setCell (p := ⟨g10, 4, none⟩) HG.out.2.1 _)
        refine hK _ w10 (fun h => absurd h (by decide)) ?_
        have HM9 := Lib.hid hx9
        have HM10 := Lib.hid hfin
        have HB10 := Lib.hid (hb6.trans (hb10.mono hb6.size))
        have HC0a := Lib.hid (c06.below hb10 c06.lt)
        have HC1a := Lib.hid (c16.below hb10 c16.lt)
        have d0 := HC0a.out.1
        have d1 := HC1a.out.1
        clear hK K hw10 hm_g10 hs9 hb9 hf9 hx9 hfin hb10 a0 b0 a1 b1 a2 b2 a3 b3 a4 b4 n1 n2 n3 j0 j1 j2 j3 j4 hS
        simp only [walkT]
        refine ⟨rfl, ?_⟩
        have c0b := HC0a.out.alloc (.cells #[.int .i64 0] 3)
        have c1b := HC1a.out.alloc (.cells #[.int .i64 0] 3)
        have d2 := c0b.1
        have d3 := c1b.1
        gi_wp2_with (gi_at_call 63; refine (callsIn_wide.2 (pairs_any _ _ _ _ _ _ _)).mono ?_; rintro e w' ⟨rfl, rfl⟩)
        obtain ⟨q, hq⟩ : ∃ q, q = w10.heap.size := ⟨_, rfl⟩
        obtain ⟨P1, hP1⟩ : ∃ P1, P1 = (nrow x).take Lb := ⟨_, rfl⟩
        obtain ⟨P2, hP2⟩ : ∃ P2, P2 = nrow y := ⟨_, rfl⟩
        rw [← hq]
        simp only [Nat.add_assoc, Nat.reduceAdd]
        obtain ⟨t0, s0, l0⟩ := box_next hq (.int .i64 0) 3
        obtain ⟨t1, s1, l1⟩ := box_next s0 (.slice (some ⟨ga, 0, none⟩) Lb ca) 23
        obtain ⟨t2, s2, l2⟩ := box_next s1 (.slice (some ⟨gb, 0, none⟩) Lb cb) 23
        have t0' := (t0.alloc (.cells #[.slice (some ⟨ga, 0, none⟩) Lb ca] 23)).alloc (.cells #[.slice (some ⟨gb, 0, none⟩) Lb cb] 23)
        have t1' := t1.alloc (.cells #[.slice (some ⟨gb, 0, none⟩) Lb cb] 23)
        obtain ⟨W0, hW0⟩ : ∃ W0, W0 = (((w10.alloc (.cells #[.int .i64 0] 3)).alloc (.cells #[.slice (some ⟨ga, 0, none⟩) Lb ca] 23)).alloc (.cells #[.slice (some ⟨gb, 0, none⟩) Lb cb] 23)) := ⟨_, rfl⟩
        rw [← hW0] at t0' t1' t2 s2 l2 ⊢
        have hsz : W0.heap.size = q + 3 := s2.symm
        have hbW : Below q w10 W0 := by
          have h := (l0.trans (l1.mono l0.size)).trans (l2.mono (l0.trans (l1.mono l0.size)).size)
          rw [hq]; exact h
        have hbq : Below w.heap.size w W0 := HB10.out.trans (hbW.mono (by rw [hq]; exact HB10.out.size))
        have hlx : P1.length = Lb ∧ Fits P1 ∧ P2.length = Lb ∧ Fits P2 := by
          rw [hP1, hP2]
          have h1 := HM.out.2.2.2.2.2.2.2.2.2
          have h2 := HL.out.1
          have h3 := HL.out.2.1
          refine ⟨?_, ?_, ?_, ?_⟩ <;> first | exact nrow_fits _ | exact fits_take (nrow_fits _) _ | (rw [List.length_take, ← h2]; omega) | exact h3.symm
        have hrow : ∀ W, Below w.heap.size w W → NRow B W (.slice (some ⟨ga, 0, none⟩) Lb ca) ((nrow x).take Lb) ∧ NRow B W (.slice (some ⟨gb, 0, none⟩) Lb cb) (nrow y) := fun W hW => by
          have h1 := HM.out.2.2.2.2.2.2.2.2.2
          have h2 := HL.out.1
          have h3 := HL.out.2.1
          refine ⟨?_, by rw [h3]; exact HRB.out.below hW (Nat.le_refl _)⟩
          have h4 := HRA.out.below hW (Nat.le_refl _)
          rw [← h2] at h4
          have h5 := NRow.take (L := (nrow x).take Lb) (M := (nrow x).drop Lb) (by rw [List.take_append_drop]; exact h4)
          rw [List.length_take, ← h2, Nat.min_eq_left h1] at h5
          exact h5
        have hga : ga < w.heap.size ∧ gb < w.heap.size ∧ B ≤ ga ∧ B ≤ gb := ⟨HRA.out.seg.2.2.2.2.2.block, HRB.out.seg.2.2.2.2.2.block, HRA.out.seg.2.2.1, HRB.out.seg.2.2.1⟩
        have hqb : w6.heap.size ≤ q ∧ w.heap.size ≤ z ∧ z + 1 < q ∧ g9 < q ∧ g10 < q := by
          have h1 := HM9.out.lt; have h2 := HM10.out.lt; have h3 := HC1a.out.lt; have h4 := HZ.out.1; have h5 := HG.out
          refine ⟨by omega, by omega, by omega, by omega, by omega⟩
        have hbB : Below B w W0 := hbq.mono HH.out.2.2.2.2
        obtain ⟨rA, rB⟩ := hrow W0 hbq
        have hNx0 : NxAt B z q g9 g10 ga gb ca cb Lb LA LB NB NA P1 P2 w 0 W0 :=
          ⟨[], [], 0, 0, 0, 0, 0, 0, ⟨rfl, rfl, Nat.zero_le _, fun _ h => (by cases h), fun _ h => (by cases h)⟩, ⟨by decide, by decide, by decide, by decide, by decide, by decide⟩, by simp [lv], by simp [lv],
            by rw [hP1]; exact rA, by rw [hP2]; exact rB, HM9.out.of_block (hbW.block g9 hqb.2.2.2.1), HM10.out.of_block (hbW.block g10 hqb.2.2.2.2), HC0a.out.below hbW (by omega), HC1a.out.below hbW (by omega), t0', t1', t2, Nat.le_of_eq hsz.symm, hbB⟩
        obtain ⟨X', hX'⟩ : ∃ X' : Nat → Nat, ∀ k, X' k = P1.getD k 0 := ⟨_, fun _ => rfl⟩
        obtain ⟨Y', hY'⟩ : ∃ Y' : Nat → Nat, ∀ k, Y' k = P2.getD k 0 := ⟨_, fun _ => rfl⟩
        have HX := Lib.hid hX'
        have HY := Lib.hid hY'
        have HLX := Lib.hid hlx
        have HSZ := Lib.hid hsz
        have HGA := Lib.hid hga
        have HQB := Lib.hid hqb
        have HPP := Lib.hid (And.intro hP1 hP2)
        have HLB9 : Hid (Lb ≤ 1048578) := Lib.hid (by omega)
        have HQ := Lib.hid hq
        clear hX' hY' hlx hsz hga hqb hP1 hP2 t0 t1 t2 t0' t1' s0 s1 s2 l0 l1 l2 hW0 hbW hbq hbB rA rB hrow d0 d1 d2 d3 c0b c1b c06 c16 hs6 hb6 hq
        refine wpIn_range_at (m := 1) (gf := 76) (lb := #[.pointer (some ⟨q + 1, 0, none⟩), .pointer (some ⟨q + 2, 0, none⟩)]) rfl (enters_of Try.func76 (by kernel_rfl) rfl) (pairs_at (q + 1) (q + 2) (some ⟨ga, 0, none⟩) (some ⟨gb, 0, none⟩) ca cb P1 P2 X' Y' HX.out HY.out (by rw [HLX.out.1]; have := HLB9.out; omega) (by rw [HLX.out.2.2.1]; have := HLB9.out; omega)) (fun _ => rfl)
          (NxAt B z q g9 g10 ga gb ca cb Lb LA LB NB NA P1 P2 w) (fun _ _ => False) (fun k W W' hb' h => h.below (by have := HQB.out; omega) (by have := HQB.out; omega) (by have := HQB.out; omega) (by have := HQB.out; have := HGA.out; omega) (by have := HQB.out; have := HGA.out; omega) (by have := HQB.out; have := HGA.out; omega) (by rw [← HSZ.out]; exact hb')) (fun _ _ _ _ h => h)
          (fun k W h => by obtain ⟨O1, O2, e1, o1, b1, e2, o2, b2, i1, i2, i3, i4, r1, r2, x1, x2, t1, t2, t3, t4, t5, hs, hl⟩ := h; rw [HSZ.out]; exact hs) (fun _ _ h => h.elim)
          (fun k W h => by
            obtain ⟨O1, O2, e1, o1, b1, e2, o2, b2, i1, i2, i3, i4, r1, r2, x1, x2, t1, t2, t3, t4, t5, hs, hl⟩ := h
            have f1 := r1.seg
            have f2 := r2.seg
            exact ⟨by rw [HLX.out.1]; exact t4.1, by rw [HLX.out.2.2.1]; exact t5.1, f1.2.2.2.2.2.from i1.1 (by rw [HLX.out.1]; exact i1.2.2.1), f2.2.2.2.2.2.from i1.2.1 (by rw [HLX.out.2.2.1]; exact i1.2.2.1)⟩) hNx0
          (fun k => { tmps := #[.slice (some ⟨ga, 0, none⟩) La ca, .slice (some ⟨gb, 0, none⟩) Lb cb, .pointer (some ⟨z, 0, none⟩), .pointer (some ⟨z + 1, 0, none⟩), .slice none 0 0, .slice none 0 0, .pointer (some ⟨p, 0, none⟩), undef, undef, .pointer (some ⟨g9, 0, none⟩), .pointer (some ⟨g10, 0, none⟩), .pointer (some ⟨q, 0, none⟩), .int .u64 ((X' k : Nat) : Int), .int .u64 ((Y' k : Nat) : Int),
            .slice (some ⟨ga, 0, none⟩) La ca, .slice (some ⟨gb, 0, none⟩) Lb cb, .tuple #[.int .u64 (xh : Int), .int .u64 (yh : Int)], .int .u64 (xh : Int), .int .u64 (yh : Int), .agg #[.bool false, .int .u64 (LA : Int), .int .u64 (LB : Int), .int .u64 (NA : Int), .int .u64 (NB : Int)], .pointer (some ⟨p, 2, none⟩), .int .u64 (LB : Int), .bool false, undef, undef, undef, undef, undef, undef, undef, undef, .slice (some ⟨ga, 0, none⟩) La ca, .slice (some ⟨gb, 0, none⟩) Lb cb, .int .i64 (Lb : Int), .slice (some ⟨ga, 0, none⟩) Lb ca, .pointer (some ⟨p, 0, none⟩), .bool false, undef, undef, undef, undef, .pointer (some ⟨p, 1, none⟩), .int .u64 (LA : Int), .pointer (some ⟨p, 2, none⟩), .int .u64 (LB : Int), .agg #[.int .u64 (LA : Int), .int .u64 (LB : Int), .int .u64 0, .int .u64 0, .int .u64 0], .pointer (some ⟨p, 4, none⟩), .int .u64 (NB : Int), .pointer (some ⟨p, 3, none⟩), .int .u64 (NA : Int), .agg #[.int .u64 (NB : Int), .int .u64 (NA : Int), .int .u64 0, .int .u64 0, .int .u64 0],
            .slice (some ⟨ga, 0, none⟩) Lb ca, .slice (some ⟨gb, 0, none⟩) Lb cb, .func (.func 76) #[] #[.pointer (some ⟨q + 1, 0, none⟩), .pointer (some ⟨q + 2, 0, none⟩)], .int .u64 ((X' k : Nat) : Int), .int .u64 ((Y' k : Nat) : Int),
            undef, undef, undef, undef, undef, undef, undef, undef, undef, undef, undef, undef, undef, undef, undef, undef, undef, undef], defers := [] })
          ?assign ?body ?done ?stop
        case assign =>
          intro l k W K hK
          gi_wp2
          exact hK
        case body =>
          rintro l k W hk ⟨O1, O2, e1, o1, b1, e2, o2, b2, ⟨i1, i2, i3, i4, i5⟩, ⟨u1, u2, u3, u4, u5, u6⟩, v1, v2, r1, r2, x1, x2, t1, t2, t3, t4, t5, hs, hl⟩
          have hxA : X' k = P1.getD k 0 := HX.out k
          have hyB : Y' k = P2.getD k 0 := HY.out k
          generalize X' k = xx at hxA ⊢
          generalize Y' k = yy at hyB ⊢
          have hkL : k < Lb := by rw [← HLX.out.1]; exact hk
          have hkI : (k : Int) < (Lb : Int) := by omega
          have hk0 : (0 : Int) ≤ (k : Int) := by omega
          have hk9 : (k : Int) ≤ 1048578 := by have := HLB9.out; omega
          have hxx : xx < 18446744073709551616 := by rw [hxA]; exact getD_fits HLX.out.2.1 k
          have hyy : yy < 18446744073709551616 := by rw [hyB]; exact getD_fits HLX.out.2.2.2 k
          have v1' := v1
          have v2' := v2
          have HI := Lib.hid (And.intro i1 (And.intro i2 (And.intro i3 (And.intro i4 i5))))
          have HV := Lib.hid (And.intro v1 v2)
          have HXY := Lib.hid (And.intro hxA hyB)
          have hbx := hs
          clear hxA hyB v1 v2 v1' v2' i1 i2 i3 i4 i5 hk
          gi_wp2
          refine wpIn_region_calmT (fun w' => w'.cell? ⟨z, 0, none⟩ = some (.slice (some ⟨ga, 0, none⟩) Lb ca) ∧ w'.cell? ⟨z + 1, 0, none⟩ = some (.slice (some ⟨gb, 0, none⟩) Lb cb) ∧ w'.cell? ⟨q, 0, none⟩ = some (.int .i64 (k : Int)))
            [.yes 0, .yes 1, .yes 2, .yes 3, .yes 4, .yes 5, .yes 7, .yes 8, .no 6, .no 9, .yes 10, .no 11, .yes 12, .no 13] 13 (by kernel_rfl) (by kernel_rfl) (by kernel_rfl) rfl (by kernel_rfl) (by kernel_rfl) ?_
          have hS : W.drew.cell? ⟨z, 0, none⟩ = some (.slice (some ⟨ga, 0, none⟩) Lb ca) ∧ W.drew.cell? ⟨z + 1, 0, none⟩ = some (.slice (some ⟨gb, 0, none⟩) Lb cb) ∧ W.drew.cell? ⟨q, 0, none⟩ = some (.int .i64 (k : Int)) := ⟨t1.1, t2.1, t3.1⟩
          repeat (refine walkT_yes rfl hS rfl (fun w' hw' => by obtain ⟨q0, q1, q2⟩ := hw'; go_simp; rfl) ?_; simp only [Act.put, List.setIfInBounds_toArray, List.set_cons_zero, List.set_cons_succ])
          refine walkT_no rfl rfl (fun K hK => ?_)
          go_simp
          have hM4 := HM.out
          refine (mix_any g9 xx yy LA LB e1 o1 b1 W.drew hxx hyy (by omega) (by omega) u1 u2 u3 x1).mono ?_
          rintro e W1 ⟨ra, e1', o1', b1', rfl, ha1, ha2, ha3, ha4, haM, hxa, hga1⟩
          have hN := HG.out
          have hNQ := HQB.out
          have hPZ := HPZ.out
          have hGA := HGA.out
          have hne12 : gb ≠ ga := Ne.symm HH.out.2.2.2.1
          have T1 : Box W1 z (.slice (some ⟨ga, 0, none⟩) Lb ca) := t1.drew.of_block (hga1.block z t1.lt (fun e => by cases e; omega))
          have T2 : Box W1 (z + 1) (.slice (some ⟨gb, 0, none⟩) Lb cb) := t2.drew.of_block (hga1.block (z + 1) t2.lt (fun e => by cases e; omega))
          have T3 : Box W1 q (.int .i64 (k : Int)) := t3.drew.of_block (hga1.block q t3.lt (fun e => by cases e; omega))
          have X1 : Mx W1 g10 NB NA e2 o2 b2 := x2.of_block (hga1.block g10 x2.lt (fun e => by cases e; omega))
          have A1 := r1.of_block (hga1.block ga r1.seg.2.2.2.2.2.block (fun e => by cases e; omega))
          have A2 := r2.of_block (hga1.block gb r2.seg.2.2.2.2.2.block (fun e => by cases e; omega))
          refine hK _ W1 (fun _ => ⟨T1.1, T2.1, T3.1⟩) ?_
          clear hK K
          refine walkT_no rfl rfl (fun K hK => ?_)
          go_simp
          refine (mix_any g10 yy xx NB NA e2 o2 b2 W1 hyy hxx (by omega) (by omega) u4 u5 u6 X1).mono ?_
          rintro e W2 ⟨rb, e2', o2', b2', rfl, hb1, hb2, hb3, hb4, hbM, hxb, hgb1⟩
          have U1 : Box W2 z (.slice (some ⟨ga, 0, none⟩) Lb ca) := T1.of_block (hgb1.block z T1.lt (fun e => by cases e; omega))
          have U2 : Box W2 (z + 1) (.slice (some ⟨gb, 0, none⟩) Lb cb) := T2.of_block (hgb1.block (z + 1) T2.lt (fun e => by cases e; omega))
          have U3 : Box W2 q (.int .i64 (k : Int)) := T3.of_block (hgb1.block q T3.lt (fun e => by cases e; omega))
          have Y1 : Mx W2 g9 LA LB e1' o1' b1' := hxa.of_block (hgb1.block g9 hxa.lt (fun e => by cases e; omega))
          have B1 := A1.of_block (hgb1.block ga A1.seg.2.2.2.2.2.block (fun e => by cases e; omega))
          have B2 := A2.of_block (hgb1.block gb A2.seg.2.2.2.2.2.block (fun e => by cases e; omega))
          refine hK _ W2 (fun _ => ⟨U1.1, U2.1, U3.1⟩) ?_
          clear hK K
          have hl1 : k < (O1 ++ P1.drop k).length := by rw [List.length_append, List.length_drop, HI.out.1, HLX.out.1]; omega
          have hl2 : k < (O2 ++ P2.drop k).length := by rw [List.length_append, List.length_drop, HI.out.2.1, HLX.out.2.2.1]; omega
          have cc1 := B1.seg.2.2.2.2.2.cell hl1
          have cf1 := B1.seg.2.2.2.2.2.frozen k
          rw [Nat.zero_add] at cc1
          have hS2 : W2.cell? ⟨z, 0, none⟩ = some (.slice (some ⟨ga, 0, none⟩) Lb ca) ∧ W2.cell? ⟨z + 1, 0, none⟩ = some (.slice (some ⟨gb, 0, none⟩) Lb cb) ∧ W2.cell? ⟨q, 0, none⟩ = some (.int .i64 (k : Int)) := ⟨U1.1, U2.1, U3.1⟩
          refine walkT_yes rfl hS2 rfl (fun w' hw' => by obtain ⟨q0, q1, q2⟩ := hw'; go_simp; rfl) ?_
          simp only [Act.put, List.setIfInBounds_toArray, List.set_cons_zero, List.set_cons_succ]
          refine walkT_no rfl rfl (fun K hK => ?_)
          go_simp
          obtain ⟨W3, hW3⟩ : ∃ W3, W3 = W2.setCell ⟨ga, k, none⟩ (.int .u64 (ra : Int)) := ⟨_, rfl⟩
          have V1 : Box W3 z (.slice (some ⟨ga, 0, none⟩) Lb ca) := by rw [hW3]; exact U1.other (p := ⟨ga, k, none⟩) (by show ga ≠ z; omega) _
          have V2 : Box W3 (z + 1) (.slice (some ⟨gb, 0, none⟩) Lb cb) := by rw [hW3]; exact U2.other (p := ⟨ga, k, none⟩) (by show ga ≠ z + 1; omega) _
          have V3 : Box W3 q (.int .i64 (k : Int)) := by rw [hW3]; exact U3.other (p := ⟨ga, k, none⟩) (by show ga ≠ q; omega) _
          have C1 := B1.setAt (x := ra) hl1
          rw [← hW3] at C1
          have C2 : NRow B W3 (.slice (some ⟨gb, 0, none⟩) Lb cb) (O2 ++ P2.drop k) := by rw [hW3]; exact B2.of_block (Below.heap_setCell _ ⟨ga, k, none⟩ _ _ (fun e => hne12 (by simpa using e)))
          have cc2 := C2.seg.2.2.2.2.2.cell hl2
          have cf2 := C2.seg.2.2.2.2.2.frozen k
          rw [Nat.zero_add] at cc2
          have hS3 : W3.cell? ⟨z, 0, none⟩ = some (.slice (some ⟨ga, 0, none⟩) Lb ca) ∧ W3.cell? ⟨z + 1, 0, none⟩ = some (.slice (some ⟨gb, 0, none⟩) Lb cb) ∧ W3.cell? ⟨q, 0, none⟩ = some (.int .i64 (k : Int)) := ⟨V1.1, V2.1, V3.1⟩
          rw [← hW3]
          refine hK _ W3 (fun _ => hS3) ?_
          have HW3 := Lib.hid hW3
          clear hK K hW3
          refine walkT_yes rfl hS3 rfl (fun w' hw' => by obtain ⟨q0, q1, q2⟩ := hw'; go_simp; rfl) ?_
          simp only [Act.put, List.setIfInBounds_toArray, List.set_cons_zero, List.set_cons_succ]
          refine walkT_no rfl rfl (fun K hK => ?_)
          go_simp
          obtain ⟨W4, hW4⟩ : ∃ W4, W4 = W3.setCell ⟨gb, k, none⟩ (.int .u64 (rb : Int)) := ⟨_, rfl⟩
          have Z1 : Box W4 z (.slice (some ⟨ga, 0, none⟩) Lb ca) := by rw [hW4]; exact V1.other (p := ⟨gb, k, none⟩) (by show gb ≠ z; omega) _
          have Z2 : Box W4 (z + 1) (.slice (some ⟨gb, 0, none⟩) Lb cb) := by rw [hW4]; exact V2.other (p := ⟨gb, k, none⟩) (by show gb ≠ z + 1; omega) _
          have Z3 : Box W4 q (.int .i64 (k : Int)) := by rw [hW4]; exact V3.other (p := ⟨gb, k, none⟩) (by show gb ≠ q; omega) _
          have D2 := C2.setAt (x := rb) hl2
          rw [← hW4] at D2 ⊢
          have D1 : NRow B W4 (.slice (some ⟨ga, 0, none⟩) Lb ca) ((O1 ++ P1.drop k).set k ra) := by rw [hW4]; exact C1.of_block (Below.heap_setCell _ ⟨gb, k, none⟩ _ _ (fun e => hne12 (by simpa using e.symm)))
          have E1 : Mx W4 g9 LA LB e1' o1' b1' := by rw [hW4, HW3.out]; exact (Y1.other (q := ⟨ga, k, none⟩) (by show ga ≠ g9; omega) _).other (q := ⟨gb, k, none⟩) (by show gb ≠ g9; omega) _
          have E2 : Mx W4 g10 NB NA e2' o2' b2' := by rw [hW4, HW3.out]; exact (hxb.other (q := ⟨ga, k, none⟩) (by show ga ≠ g10; omega) _).other (q := ⟨gb, k, none⟩) (by show gb ≠ g10; omega) _
          have hke : KeepsFrom W0.heap.size W W4 := by
            have h1 : KeepsFrom W0.heap.size W W2 := keeps_grown (keeps_grown (keeps_drew (KeepsFrom.refl _ W)) hga1 (by rw [HSZ.out]; omega)) hgb1 (by rw [HSZ.out]; omega)
            rw [hW4, HW3.out]
            exact keeps_set (keeps_set h1 _ _) _ _
          have S4 : Box W4 (q + 1) (.slice (some ⟨ga, 0, none⟩) Lb ca) := by
            rw [hW4, HW3.out]
            exact ((((t4.drew.of_block (hga1.block (q + 1) t4.lt (fun e => by cases e; omega))).of_block (hgb1.block (q + 1) (Nat.lt_of_lt_of_le t4.lt hga1.size) (fun e => by cases e; omega))).other (p := ⟨ga, k, none⟩) (by show ga ≠ q + 1; omega) _).other (p := ⟨gb, k, none⟩) (by show gb ≠ q + 1; omega) _)
          have S5 : Box W4 (q + 2) (.slice (some ⟨gb, 0, none⟩) Lb cb) := by
            rw [hW4, HW3.out]
            exact ((((t5.drew.of_block (hga1.block (q + 2) t5.lt (fun e => by cases e; omega))).of_block (hgb1.block (q + 2) (Nat.lt_of_lt_of_le t5.lt hga1.size) (fun e => by cases e; omega))).other (p := ⟨ga, k, none⟩) (by show ga ≠ q + 2; omega) _).other (p := ⟨gb, k, none⟩) (by show gb ≠ q + 2; omega) _)
          have hsz4 : q + 3 ≤ W4.heap.size := by
            rw [hW4, HW3.out, size_set, size_set]
            exact Nat.le_trans hs (Nat.le_trans hga1.size hgb1.size)
          have hl4 : Below B w W4 := by
            have h1 := (hl.drew).grown hga1 (Nat.le_trans (Nat.le_trans (show B ≤ w.heap.size from HH.out.2.2.2.2) hl.size) (Nat.le_refl _)) (fun g hg => by cases hg; omega)
            have h2 := h1.grown hgb1 (Nat.le_trans HH.out.2.2.2.2 h1.size) (fun g hg => by cases hg; omega)
            rw [hW4, HW3.out]
            exact (h2.setCell (p := ⟨ga, k, none⟩) (by show B ≤ ga; omega) _).setCell (p := ⟨gb, k, none⟩) (by show B ≤ gb; omega) _
          have HKE := Lib.hid hke
          have HD := Lib.hid (And.intro D1 D2)
          have HE := Lib.hid (And.intro E1 E2)
          have HZZ := Lib.hid (And.intro Z1 (And.intro Z2 (And.intro Z3 (And.intro S4 (And.intro S5 (And.intro hsz4 hl4))))))
          have HR1 := Lib.hid (And.intro ha1 (And.intro ha2 (And.intro ha3 (And.intro ha4 haM))))
          have HR2 := Lib.hid (And.intro hb1 (And.intro hb2 (And.intro hb3 (And.intro hb4 hbM))))
          have zc := Z3.1
          have zf := Z3.2
          refine hK _ W4 (fun h => absurd h (by decide)) ?_
          clear hK K hW4 cc1 cf1 cc2 cf2 hS hS2 hS3 A1 A2 B1 B2 C1 C2 D1 D2 E1 E2 Y1 X1 U1 U2 U3 V1 V2 V3 T1 T2 T3 hxa hxb hga1 hgb1 haM hbM hke S4 S5 hsz4 hl4 Z1 Z2 Z3
          simp only [walkT]
          refine ⟨rfl, ?_⟩
          gi_wp2
          have hI := HI.out
          have hR1 := HR1.out
          have hR2 := HR2.out
          have hZ := HZZ.out
          have hNQ := HQB.out
          have hGA := HGA.out
          have hN := HG.out
          have hP : 2 ^ (64 * (k + 1)) = 2 ^ (64 * k) * 18446744073709551616 := by rw [show 64 * (k + 1) = 64 * k + 64 by omega, Nat.pow_add]
          have q1 := mix_step HV.out.1 hR1.2.2.2.2
          have q2 := mix_step HV.out.2 hR2.2.2.2.2
          have w1 := lv_take_succ' P1 k
          have w2 := lv_take_succ' P2 k
          rw [← HXY.out.1] at w1
          rw [← HXY.out.2] at w2
          have hkP1 : k < P1.length := by rw [HLX.out.1]; exact hkL
          have hkP2 : k < P2.length := by rw [HLX.out.2.2.1]; exact hkL
          have w3 := set_mid (x := ra) hI.1 hkP1
          have w4 := set_mid (x := rb) hI.2.1 hkP2
          have hD1 := HD.out.1
          have hD2 := HD.out.2
          rw [w3] at hD1
          rw [w4] at hD2
          refine ⟨keeps_set HKE.out _ _, O1 ++ [ra], O2 ++ [rb], e1', o1', b1', e2', o2', b2', ⟨by rw [List.length_append, hI.1]; rfl, by rw [List.length_append, hI.2.1]; rfl, hkL, fits_snoc hI.2.2.2.1 hR1.1, fits_snoc hI.2.2.2.2 hR2.1⟩, ⟨hR1.2.1, hR1.2.2.1, hR1.2.2.2.1, hR2.2.1, hR2.2.2.1, hR2.2.2.2.1⟩, ?_, ?_,
            hD1.of_block (Below.heap_setCell _ ⟨q, 0, none⟩ _ _ (by show ga ≠ q; omega)), hD2.of_block (Below.heap_setCell _ ⟨q, 0, none⟩ _ _ (by show gb ≠ q; omega)), HE.out.1.other (q := ⟨q, 0, none⟩) (by show q ≠ g9; omega) _, HE.out.2.other (q := ⟨q, 0, none⟩) (by show q ≠ g10; omega) _,
            hZ.1.other (p := ⟨q, 0, none⟩) (by show q ≠ z; omega) _, hZ.2.1.other (p := ⟨q, 0, none⟩) (by show q ≠ z + 1; omega) _, hZ.2.2.1.set _, hZ.2.2.2.1.other (p := ⟨q, 0, none⟩) (by show q ≠ q + 1; omega) _, hZ.2.2.2.2.1.other (p := ⟨q, 0, none⟩) (by show q ≠ q + 2; omega) _,
            by rw [size_set]; exact hZ.2.2.2.2.2.1, hZ.2.2.2.2.2.2.setCell (p := ⟨q, 0, none⟩) (by show B ≤ q; omega) _⟩
          · rw [lv_snoc, hI.1, w1, w2, hP]; exact q1
          · rw [lv_snoc, hI.2.1, w1, w2, hP]; exact q2
        case done =>
          rintro D W hD ⟨O1, O2, e1, o1, b1, e2, o2, b2, ⟨i1, i2, i3, i4, i5⟩, ⟨u1, u2, u3, u4, u5, u6⟩, v1, v2, r1, r2, x1, x2, t1, t2, t3, t4, t5, hs, hl⟩ hK
          have e0 := HLX.out.1
          rw [e0] at i1 i2 i3 v1 v2 r1 r2 t3
          have hd1 : P1.drop Lb = [] := List.drop_eq_nil_of_le (Nat.le_of_eq HLX.out.1)
          have hd2 : P2.drop Lb = [] := List.drop_eq_nil_of_le (Nat.le_of_eq HLX.out.2.2.1)
          rw [hd1, List.append_nil] at r1
          rw [hd2, List.append_nil] at r2
          rw [List.take_of_length_le (Nat.le_of_eq HLX.out.1), List.take_of_length_le (Nat.le_of_eq HLX.out.2.2.1)] at v1 v2
          have hM := HM.out
          have hyl : y < 2 ^ (64 * Lb) := by have := lv_lt (nrow_fits y); rw [lv_nrow, ← HL.out.2.1] at this; exact this
          have hsp := lv_split (nrow x) (k := Lb) (by rw [← HL.out.1]; exact hM.2.2.2.2.2.2.2.2.2)
          rw [lv_nrow] at hsp
          obtain ⟨h, hh⟩ : ∃ h, h = lv ((nrow x).drop Lb) := ⟨_, rfl⟩
          obtain ⟨XT, hXT⟩ : ∃ XT, XT = lv ((nrow x).take Lb) := ⟨_, rfl⟩
          rw [← hh, ← hXT] at hsp
          have hP1v : lv P1 = XT := by rw [HPP.out.1]; exact hXT.symm
          have hP2v : lv P2 = y := by rw [HPP.out.2]; exact lv_nrow y
          rw [hP1v, hP2v] at v1 v2
          have hO1 : lv O1 < 2 ^ (64 * Lb) := by rw [← i1]; exact lv_lt i4
          have hO2 : lv O2 < 2 ^ (64 * Lb) := by rw [← i2]; exact lv_lt i5
          have z1 : lv O1 = Lt := mix_done (u := LA * h) (v := 0) v1 (by
            have h9 := hM.2.2.2.2.2.1
            rw [hsp] at h9
            simp only [dl] at h9
            have : ((LA * XT + 2 ^ (64 * Lb) * (LA * h) : Nat) : Int) = ((Lt + LB * y + 2 ^ (64 * Lb) * (0) : Nat) : Int) := by push_cast at h9 ⊢; grind
            exact_mod_cast this) hO1 (Nat.lt_of_le_of_lt hM.2.2.2.2.2.2.2.1 hyl)
          have z2 : lv O2 = X := mix_done (u := 0) (v := NA * h) v2 (by
            have h9 := hM.2.2.2.2.1
            rw [hsp] at h9
            simp only [dl] at h9
            have : ((NB * y + 2 ^ (64 * Lb) * (0) : Nat) : Int) = ((X + NA * XT + 2 ^ (64 * Lb) * (NA * h) : Nat) : Int) := by push_cast at h9 ⊢; grind
            exact_mod_cast this) hO2 (Nat.lt_of_lt_of_le hM.2.2.2.2.2.2.1 (Nat.le_of_lt (Nat.lt_of_le_of_lt hM.2.2.2.2.2.2.2.1 hyl)))
          have f1 := r1.seg
          have f2 := r2.seg
          have A1 : NRow B W (.slice (some ⟨ga, 0, none⟩) O1.length ca) O1 := by rw [i1]; exact r1
          have A2 : NRow B W (.slice (some ⟨gb, 0, none⟩) O2.length cb) O2 := by rw [i2]; exact r2
          have N1 := A1.norm i4
          have N2 := A2.norm i5
          rw [z1] at N1
          rw [z2] at N2
          have tr1 := trim_any (some ⟨ga, 0, none⟩) ca O1 W.drew (by rw [i1]; have := HLB9.out; omega) (by rw [i1]; have := f1.2.2.2.1; omega) i4 f1.2.2.2.2.2.natAt
          have tr2 := trim_any (some ⟨gb, 0, none⟩) cb O2 W.drew (by rw [i2]; have := HLB9.out; omega) (by rw [i2]; have := f2.2.2.2.1; omega) i5 f2.2.2.2.2.2.natAt
          rw [i1, z1] at tr1
          rw [i2, z2] at tr2
          have TR1 := Lib.hid tr1
          have TR2 := Lib.hid tr2
          have HN12 := Lib.hid (And.intro N1 N2)
          have HLW := Lib.hid (And.intro hl hs)
          have hS : W.drew.cell? ⟨z, 0, none⟩ = some (.slice (some ⟨ga, 0, none⟩) Lb ca) ∧ W.drew.cell? ⟨z + 1, 0, none⟩ = some (.slice (some ⟨gb, 0, none⟩) Lb cb) := ⟨t1.1, t2.1⟩
          clear e0 i1 i2 i3 i4 i5 u1 u2 u3 u4 u5 u6 v1 v2 r1 r2 x1 x2 t1 t2 t3 t4 t5 hs hl hd1 hd2 hM hyl hsp hh hXT hP1v hP2v hO1 hO2 z1 z2 f1 f2 A1 A2 N1 N2 tr1 tr2
          gi_wp2_with fail
          refine wpIn_region_wideT (fun w' => w'.cell? ⟨z, 0, none⟩ = some (.slice (some ⟨ga, 0, none⟩) Lb ca) ∧ w'.cell? ⟨z + 1, 0, none⟩ = some (.slice (some ⟨gb, 0, none⟩) Lb cb))
            [.yes 0, .yes 2, .no 1, .no 3, .yes 4, .yes 5] 6 (by kernel_rfl) (by kernel_rfl) rfl (by kernel_rfl) (by kernel_rfl) ?_
          repeat (refine walkT_yes rfl hS rfl (fun w' hw' => by obtain ⟨q0, q1⟩ := hw'; go_simp; rfl) ?_; simp only [Act.put, List.setIfInBounds_toArray, List.set_cons_zero, List.set_cons_succ])
          refine walkT_no rfl rfl (fun K hK2 => ?_)
          go_simp
          refine TR1.out.mono ?_
          rintro e w' ⟨rfl, rfl⟩
          refine hK2 _ _ (fun _ => hS) ?_
          clear hK2 K
          refine walkT_no rfl rfl (fun K hK2 => ?_)
          go_simp
          refine TR2.out.mono ?_
          rintro e w' ⟨rfl, rfl⟩
          refine hK2 _ _ (fun _ => hS) ?_
          clear hK2 K
          repeat (refine walkT_yes rfl hS rfl (fun w' hw' => by obtain ⟨q0, q1⟩ := hw'; go_simp; rfl) ?_; simp only [Act.put, List.setIfInBounds_toArray, List.set_cons_zero, List.set_cons_succ])
          simp only [walkT]
          refine ⟨rfl, ?_⟩
          gi_wp2_with fail
          have hsW : W0.heap.size ≤ W.drew.heap.size := by rw [HSZ.out]; exact HLW.out.2
          have b1 : Below W0.heap.size W.drew (W.drew.putObj D (.deferred none)) := below_putObj W.drew D _ hD hsW
          have hM := HM.out
          have hNQ := HQB.out
          have hGA := HGA.out
          refine ⟨by simp, .inl ⟨_, _, rfl, run_takeDeferred (show W.drew.heap[D]? = _ from hK), ?_⟩⟩
          refine ⟨_, results_tmp2 rfl _ _ _, ?_⟩
          refine ⟨_, _, Lt, X, rfl, hM.2.2.2.2.2.2.2.2.1, Nat.le_of_lt hM.2.2.2.2.2.2.1, Nat.le_trans hM.2.2.2.2.2.2.2.1 HH.out.2.1, Nat.lt_of_lt_of_le hM.2.2.2.2.2.2.1 hM.2.2.2.2.2.2.2.1, ?_, ?_, ?_, ?_⟩
          · exact HN12.out.1.of_block (b1.block ga (by rw [HSZ.out]; omega))
          · exact HN12.out.2.of_block (b1.block gb (by rw [HSZ.out]; omega))
          · intro e
            have e' : (Value.slice (some ⟨ga, 0, none⟩) (nrow Lt).length ca).ownBlock = (Value.slice (some ⟨gb, 0, none⟩) (nrow X).length cb).ownBlock := e
            have hne12 : gb ≠ ga := Ne.symm HH.out.2.2.2.1
            exact hne12 (by simpa [Value.ownBlock] using e'.symm)
          · exact (HLW.out.1.drew).trans (b1.mono (by rw [HSZ.out]; omega))
        case stop =>
          rintro D k W _ _ h _
          exact h.elim
    · gi_wp2_with fail
      rw [← hp, ← hw5]
      obtain ⟨v6, hv6⟩ : ∃ v6, v6 = w5.setCell ⟨z, 0, none⟩ (.slice (some ⟨ga, 0, none⟩) Lb ca) := ⟨_, rfl⟩
      have hsv : Sx v6 p true LA LB NA NB := by rw [hv6]; exact HSX6.out
      have hbv : Below w.heap.size w v6 := by rw [hv6]; exact HBE5.out.setCell (by show w.heap.size ≤ z; exact Nat.le_of_eq HZ.out.1.symm) _
      have c0v : Box v6 z (.slice (some ⟨ga, 0, none⟩) Lb ca) := by rw [hv6]; exact HC0.out.set _
      have c1v : Box v6 (z + 1) (.slice (some ⟨gb, 0, none⟩) Lb cb) := by rw [hv6]; exact HC1.out.other (p := ⟨z, 0, none⟩) (by show z ≠ z + 1; omega) _
      rw [← hv6]
      have HPQ := Lib.hid (And.intro hp (And.intro hw5 hv6))
      clear hp hw5 hv6 d0 d1 d2 d3 e0 e1 e2 e3 k0 k1 k2 k3 k4 f0 f1 f2 f3 f4 q0 q1 q2 q3 q4
      have hS0 : v6.drew.cell? ⟨z, 0, none⟩ = some (.slice (some ⟨ga, 0, none⟩) Lb ca) ∧ v6.drew.cell? ⟨z + 1, 0, none⟩ = some (.slice (some ⟨gb, 0, none⟩) Lb cb) ∧ v6.drew.cell? ⟨p, 0, none⟩ = some (.bool true) ∧ v6.drew.cell? ⟨p, 1, none⟩ = some (.int .u64 (LA : Int)) ∧ v6.drew.cell? ⟨p, 2, none⟩ = some (.int .u64 (LB : Int)) ∧ v6.drew.cell? ⟨p, 3, none⟩ = some (.int .u64 (NA : Int)) ∧ v6.drew.cell? ⟨p, 4, none⟩ = some (.int .u64 (NB : Int)) := ⟨c0v.1, c1v.1, hsv.cell⟩
      refine wpIn_region_wideT (fun w' => w'.cell? ⟨z, 0, none⟩ = some (.slice (some ⟨ga, 0, none⟩) Lb ca) ∧ w'.cell? ⟨z + 1, 0, none⟩ = some (.slice (some ⟨gb, 0, none⟩) Lb cb) ∧ w'.cell? ⟨p, 0, none⟩ = some (.bool true) ∧ w'.cell? ⟨p, 1, none⟩ = some (.int .u64 (LA : Int)) ∧ w'.cell? ⟨p, 2, none⟩ = some (.int .u64 (LB : Int)) ∧ w'.cell? ⟨p, 3, none⟩ = some (.int .u64 (NA : Int)) ∧ w'.cell? ⟨p, 4, none⟩ = some (.int .u64 (NB : Int)))
        [.yes 0, .yes 1, .yes 2, .no 3, .no 4, .no 5, .no 6] 4 (by kernel_rfl) (by kernel_rfl) rfl (by kernel_rfl) (by kernel_rfl) ?_
      repeat (refine walkT_yes rfl hS0 rfl (fun w' hw' => by obtain ⟨r0, r1, r2, r3, r4, r5, r6⟩ := hw'; go_simp; rfl) ?_; simp only [Act.put, List.setIfInBounds_toArray, List.set_cons_zero, List.set_cons_succ])
      refine walkT_no rfl rfl (fun K hK => ?_)
      go_simp
      refine (swapped_any true LA LB NA NB v6.drew).mono ?_
      rintro e v7 ⟨rfl, hb7⟩
      have hb7' : Below v6.heap.size v6 v7 := ((Below.refl v6.heap.size v6).drew).trans hb7
      have c07 := c0v.below hb7' c0v.lt
      have c17 := c1v.below hb7' c1v.lt
      have hs7 : Sx v7 p true LA LB NA NB := hsv.of_block (hb7'.block p hsv.lt)
      have hbv7 : Below w.heap.size w v7 := hbv.trans (hb7'.mono hbv.size)
      refine hK _ v7 (fun _ => ⟨c07.1, c17.1, hs7.cell⟩) ?_
      clear hK K hS0 hb7 hb7' c0v c1v hsv hbv
      have d0 := c07.1
      have d1 := c07.2
      refine walkT_no rfl rfl (fun K hK => ?_)
      go_simp
      obtain ⟨v8, hv8⟩ : ∃ v8, v8 = v7.setCell ⟨z, 0, none⟩ (.slice (some ⟨gb, 0, none⟩) Lb cb) := ⟨_, rfl⟩
      have c08 : Box v8 z (.slice (some ⟨gb, 0, none⟩) Lb cb) := by rw [hv8]; exact c07.set _
      have c18 : Box v8 (z + 1) (.slice (some ⟨gb, 0, none⟩) Lb cb) := by rw [hv8]; exact c17.other (p := ⟨z, 0, none⟩) (by show z ≠ z + 1; omega) _
      have hpz := HPZ.out
      have hzz : w.heap.size ≤ z := Nat.le_of_eq HZ.out.1.symm
      have hs8 : Sx v8 p true LA LB NA NB := by rw [hv8]; exact hs7.other (q := ⟨z, 0, none⟩) (by show z ≠ p; omega) _
      have hbv8 : Below w.heap.size w v8 := by rw [hv8]; exact hbv7.setCell (p := ⟨z, 0, none⟩) hzz _
      rw [← hv8]
      refine hK _ v8 (fun h => absurd h (by decide)) ?_
      clear hK K hv8 d0 d1 c07 c17 hs7 hbv7
      have d0 := c18.1
      have d1 := c18.2
      refine walkT_no rfl rfl (fun K hK => ?_)
      go_simp
      obtain ⟨v9, hv9⟩ : ∃ v9, v9 = v8.setCell ⟨z + 1, 0, none⟩ (.slice (some ⟨ga, 0, none⟩) Lb ca) := ⟨_, rfl⟩
      have c09 : Box v9 z (.slice (some ⟨gb, 0, none⟩) Lb cb) := by rw [hv9]; exact c08.other (p := ⟨z + 1, 0, none⟩) (by show z + 1 ≠ z; omega) _
      have c19 : Box v9 (z + 1) (.slice (some ⟨ga, 0, none⟩) Lb ca) := by rw [hv9]; exact c18.set _
      have hs9 : Sx v9 p true LA LB NA NB := by rw [hv9]; exact hs8.other (q := ⟨z + 1, 0, none⟩) (by show z + 1 ≠ p; omega) _
      have hbv9 : Below w.heap.size w v9 := by rw [hv9]; exact hbv8.setCell (p := ⟨z + 1, 0, none⟩) (by show w.heap.size ≤ z + 1; omega) _
      rw [← hv9]
      refine hK _ v9 (fun h => absurd h (by decide)) ?_
      clear hK K hv9 d0 d1 c08 c18 hs8 hbv8
      obtain ⟨⟨a0, b0⟩, ⟨a1, b1⟩, ⟨a2, b2⟩, ⟨a3, b3⟩, ⟨a4, b4⟩, hfin⟩ := hs9.fill (odd := false) (LA := LB) (LB := LA) (NA := NB) (NB := NA)
      refine walkT_no rfl rfl (fun K hK => ?_)
      go_simp
      obtain ⟨w6, hw6⟩ : ∃ w6, w6 = (((((v9.setCell ⟨p, 0, none⟩ (.bool false)).setCell ⟨p, 1, none⟩ (.int .u64 (LB : Int))).setCell ⟨p, 2, none⟩ (.int .u64 (LA : Int))).setCell ⟨p, 3, none⟩ (.int .u64 (NB : Int))).setCell ⟨p, 4, none⟩ (.int .u64 (NA : Int))) := ⟨_, rfl⟩
      rw [← hw6] at hfin ⊢
      have hs6 := hfin
      have hpz0 : p ≠ z := by omega
      have hpz1 : p ≠ z + 1 := by omega
      have hpw : w.heap.size ≤ p := by omega
      have c06 : Box w6 z (.slice (some ⟨gb, 0, none⟩) Lb cb) := by rw [hw6]; exact (((((c09.other (p := ⟨p, 0, none⟩) hpz0 _).other (p := ⟨p, 1, none⟩) hpz0 _).other (p := ⟨p, 2, none⟩) hpz0 _).other (p := ⟨p, 3, none⟩) hpz0 _).other (p := ⟨p, 4, none⟩) hpz0 _)
      have c16 : Box w6 (z + 1) (.slice (some ⟨ga, 0, none⟩) Lb ca) := by rw [hw6]; exact (((((c19.other (p := ⟨p, 0, none⟩) hpz1 _).other (p := ⟨p, 1, none⟩) hpz1 _).other (p := ⟨p, 2, none⟩) hpz1 _).other (p := ⟨p, 3, none⟩) hpz1 _).other (p := ⟨p, 4, none⟩) hpz1 _)
      have hb6 : Below w.heap.size w w6 := by rw [hw6]; exact (((((hbv9.setCell (p := ⟨p, 0, none⟩) hpw _).setCell (p := ⟨p, 1, none⟩) hpw _).setCell (p := ⟨p, 2, none⟩) hpw _).setCell (p := ⟨p, 3, none⟩) hpw _).setCell (p := ⟨p, 4, none⟩) hpw _)
      refine hK _ w6 (fun h => absurd h (by decide)) ?_
      clear hK K hw6 hfin a0 b0 a1 b1 a2 b2 a3 b3 a4 b4 c09 c19 hs9 hbv9 hpz0 hpz1 hpw hpz hzz
      simp only [walkT]
      refine ⟨rfl, ?_⟩
      gi_wp2_with fail
      obtain ⟨j0, j1, j2, j3, j4⟩ := hs6.cell
      refine wpIn_region_wideT (fun w' => w'.cell? ⟨p, 1, none⟩ = some (.int .u64 (LB : Int)) ∧ w'.cell? ⟨p, 2, none⟩ = some (.int .u64 (LA : Int)) ∧ w'.cell? ⟨p, 3, none⟩ = some (.int .u64 (NB : Int)) ∧ w'.cell? ⟨p, 4, none⟩ = some (.int .u64 (NA : Int)))
        [.yes 0, .yes 1, .yes 2, .yes 3, .yes 4, .yes 5, .yes 6, .yes 7, .yes 8, .yes 9, .two 10 11, .no 12, .no 13] 13 (by kernel_rfl) (by kernel_rfl) rfl (by kernel_rfl) (by kernel_rfl) ?_
      have hS : w6.drew.cell? ⟨p, 1, none⟩ = some (.int .u64 (LB : Int)) ∧ w6.drew.cell? ⟨p, 2, none⟩ = some (.int .u64 (LA : Int)) ∧ w6.drew.cell? ⟨p, 3, none⟩ = some (.int .u64 (NB : Int)) ∧ w6.drew.cell? ⟨p, 4, none⟩ = some (.int .u64 (NA : Int)) := ⟨j1, j2, j3, j4⟩
      repeat (refine walkT_yes rfl hS rfl (fun w' hw' => by obtain ⟨r0, r1, r2, r3⟩ := hw'; go_simp; rfl) ?_; simp only [Act.put, List.setIfInBounds_toArray, List.set_cons_zero, List.set_cons_succ])
      refine walkT_two rfl rfl (by decide) rfl rfl (fun K hK => ?_) (fun K hK => ?_)
      · skip
        go_simp
        obtain ⟨g9, hg9⟩ : ∃ g9, g9 = w6.heap.size := ⟨_, rfl⟩
        obtain ⟨w7, hw7⟩ : ∃ w7, w7 = (w6.alloc (.cells #[.int .u64 0, .int .u64 0, .int .u64 0, .int .u64 0, .int .u64 0] 77)).drew := ⟨_, rfl⟩
        have hs7 : Sx w7 p false LB LA NB NA := by rw [hw7]; exact Sx.drew (hs6.of_block (Below.heap_alloc _ _ _ hs6.lt))
        have hm7 : Mx w7 g9 0 0 0 0 0 := by rw [hw7, hg9]; exact heap_alloc_new _ _
        have hb7 : Below w6.heap.size w6 w7 := by rw [hw7]; exact ((Below.refl _ _).alloc (Nat.le_refl _) _).drew
        rw [← hg9, ← hw7]
        have HF := Lib.hid hg9
        refine hK _ w7 (fun _ => ⟨hs7.cell.2.1, hs7.cell.2.2.1, hs7.cell.2.2.2.1, hs7.cell.2.2.2.2⟩) rfl (fun K' hK' => ?_)
        clear hK K hw7 hg9
        go_simp
        obtain ⟨g10, hg10⟩ : ∃ g10, g10 = w7.heap.size := ⟨_, rfl⟩
        obtain ⟨w8, hw8⟩ : ∃ w8, w8 = w7.alloc (.cells #[.int .u64 0, .int .u64 0, .int .u64 0, .int .u64 0, .int .u64 0] 77) := ⟨_, rfl⟩
        have hs8 : Sx w8 p false LB LA NB NA := by rw [hw8]; exact hs7.of_block (Below.heap_alloc _ _ _ hs7.lt)
        have hm_g9 : Mx w8 g9 0 0 0 0 0 := by rw [hw8]; exact hm7.of_block (Below.heap_alloc _ _ _ hm7.lt)
        have hm_g10 : Mx w8 g10 0 0 0 0 0 := by rw [hw8, hg10]; exact heap_alloc_new _ _
        have hb8 : Below w6.heap.size w6 w8 := by rw [hw8]; exact hb7.alloc hb7.size _
        have HG : Hid (w6.heap.size ≤ g9 ∧ w6.heap.size ≤ g10 ∧ g9 ≠ g10 ∧ p < w6.heap.size) := Lib.hid (by
          have h1 := HF.out; have h2 := hm7.lt; have h3 := hb7.size; have h4 := hs6.lt
          refine ⟨by omega, by omega, by omega, h4⟩)
        rw [← hg10, ← hw8]
        refine hK' _ w8 (fun _ => ⟨hs8.cell.2.1, hs8.cell.2.2.1, hs8.cell.2.2.2.1, hs8.cell.2.2.2.2⟩) ?_
        clear hK' K' hw8 hg10 HF hb7 hm7 hs7
        obtain ⟨⟨a0, b0⟩, ⟨a1, b1⟩, ⟨a2, b2⟩, ⟨a3, b3⟩, ⟨a4, b4⟩, hfin⟩ := hm_g9.fill (m := LB) (l := LA)
        refine walkT_no rfl rfl (fun K hK => ?_)
        go_simp
        obtain ⟨w9, hw9⟩ : ∃ w9, w9 = (((((w8.setCell ⟨g9, 0, none⟩ (.int .u64 (LB : Int))).setCell ⟨g9, 1, none⟩ (.int .u64 (LA : Int))).setCell ⟨g9, 2, none⟩ (.int .u64 0)).setCell ⟨g9, 3, none⟩ (.int .u64 0)).setCell ⟨g9, 4, none⟩ (.int .u64 0)) := ⟨_, rfl⟩
        rw [← hw9] at hfin ⊢
        have n1 : g9 ≠ g10 := HG.out.2.2.1
        have n2 : g9 ≠ p := by have := HG.out; omega
        have n3 : g10 ≠ p := by have := HG.out; omega
        have hs9 : Sx w9 p false LB LA NB NA := by rw [hw9]; exact (((((hs8.other (q := ⟨g9, 0, none⟩) n2 _).other (q := ⟨g9, 1, none⟩) n2 _).other (q := ⟨g9, 2, none⟩) n2 _).other (q := ⟨g9, 3, none⟩) n2 _).other (q := ⟨g9, 4, none⟩) n2 _)
        have hn_g10 : Mx w9 g10 0 0 0 0 0 := by rw [hw9]; exact (((((hm_g10.other (q := ⟨g9, 0, none⟩) n1 _).other (q := ⟨g9, 1, none⟩) n1 _).other (q := ⟨g9, 2, none⟩) n1 _).other (q := ⟨g9, 3, none⟩) n1 _).other (q := ⟨g9, 4, none⟩) n1 _)
        have hb9 : Below w6.heap.size w6 w9 := by rw [hw9]; exact (((((hb8.setCell (p := ⟨g9, 0, none⟩) HG.out.1 _).setCell (p := ⟨g9, 1, none⟩) HG.out.1 _).setCell (p := ⟨g9, 2, none⟩) HG.out.1 _).setCell (p := ⟨g9, 3, none⟩) HG.out.1 _).setCell (p := ⟨g9, 4, none⟩) HG.out.1 _)
        refine hK _ w9 (fun _ => ⟨hs9.cell.2.1, hs9.cell.2.2.1, hs9.cell.2.2.2.1, hs9.cell.2.2.2.2⟩) ?_
        clear hK K hw9 hm_g9 hm_g10 hs8 hb8 a0 b0 a1 b1 a2 b2 a3 b3 a4 b4
        have hm_g10 := hn_g10
        have hf9 := hfin
        clear hn_g10 hfin
        obtain ⟨⟨a0, b0⟩, ⟨a1, b1⟩, ⟨a2, b2⟩, ⟨a3, b3⟩, ⟨a4, b4⟩, hfin⟩ := hm_g10.fill (m := NA) (l := NB)
        refine walkT_no rfl rfl (fun K hK => ?_)
        go_simp
        obtain ⟨w10, hw10⟩ : ∃ w10, w10 = (((((w9.setCell ⟨g10, 0, none⟩ (.int .u64 (NA : Int))).setCell ⟨g10, 1, none⟩ (.int .u64 (NB : Int))).setCell ⟨g10, 2, none⟩ (.int .u64 0)).setCell ⟨g10, 3, none⟩ (.int .u64 0)).setCell ⟨g10, 4, none⟩ (.int .u64 0)) := ⟨_, rfl⟩
        rw [← hw10] at hfin ⊢
        have hx9 : Mx w10 g9 LB LA 0 0 0 := by rw [hw10]; exact (((((hf9.other (q := ⟨g10, 0, none⟩) (Ne.symm n1) _).other (q := ⟨g10, 1, none⟩) (Ne.symm n1) _).other (q := ⟨g10, 2, none⟩) (Ne.symm n1) _).other (q := ⟨g10, 3, none⟩) (Ne.symm n1) _).other (q := ⟨g10, 4, none⟩) (Ne.symm n1) _)
        have hb10 : Below w6.heap.size w6 w10 := by rw [hw10]; exact (((((hb9.setCell (p := ⟨g10, 0, none⟩) HG.out.2.1 _).setCell (p := ⟨g10, 1, none⟩) HG.out.2.1 _).setCell (p := ⟨g10, 2, none⟩) HG.out.2.1 _).setCell (p := ⟨g10, 3, none⟩) HG.out.2.1 _).setCell (p := ⟨g10, 4, none⟩) HG.out.2.1 _)
        refine hK _ w10 (fun h => absurd h (by decide)) ?_
        have HM9 := Lib.hid hx9
        have HM10 := Lib.hid hfin
        have HB10 := Lib.hid (hb6.trans (hb10.mono hb6.size))
        have HC0a := Lib.hid (c06.below hb10 c06.lt)
        have HC1a := Lib.hid (c16.below hb10 c16.lt)
        have d0 := HC0a.out.1
        have d1 := HC1a.out.1
        clear hK K hw10 hm_g10 hs9 hb9 hf9 hx9 hfin hb10 a0 b0 a1 b1 a2 b2 a3 b3 a4 b4 n1 n2 n3 j0 j1 j2 j3 j4 hS
        simp only [walkT]
        refine ⟨rfl, ?_⟩
        have c0b := HC0a.out.alloc (.cells #[.int .i64 0] 3)
        have c1b := HC1a.out.alloc (.cells #[.int .i64 0] 3)
        have d2 := c0b.1
        have d3 := c1b.1
        gi_wp2_with (gi_at_call 63; refine (callsIn_wide.2 (pairs_any _ _ _ _ _ _ _)).mono ?_; rintro e w' ⟨rfl, rfl⟩)
        obtain ⟨q, hq⟩ : ∃ q, q = w10.heap.size := ⟨_, rfl⟩
        obtain ⟨P1, hP1⟩ : ∃ P1, P1 = nrow y := ⟨_, rfl⟩
        obtain ⟨P2, hP2⟩ : ∃ P2, P2 = (nrow x).take Lb := ⟨_, rfl⟩
        rw [← hq]
        simp only [Nat.add_assoc, Nat.reduceAdd]
        obtain ⟨t0, s0, l0⟩ := box_next hq (.int .i64 0) 3
        obtain ⟨t1, s1, l1⟩ := box_next s0 (.slice (some ⟨gb, 0, none⟩) Lb cb) 23
        obtain ⟨t2, s2, l2⟩ := box_next s1 (.slice (some ⟨ga, 0, none⟩) Lb ca) 23
        have t0' := (t0.alloc (.cells #[.slice (some ⟨gb, 0, none⟩) Lb cb] 23)).alloc (.cells #[.slice (some ⟨ga, 0, none⟩) Lb ca] 23)
        have t1' := t1.alloc (.cells #[.slice (some ⟨ga, 0, none⟩) Lb ca] 23)
        obtain ⟨W0, hW0⟩ : ∃ W0, W0 = (((w10.alloc (.cells #[.int .i64 0] 3)).alloc (.cells #[.slice (some ⟨gb, 0, none⟩) Lb cb] 23)).alloc (.cells #[.slice (some ⟨ga, 0, none⟩) Lb ca] 23)) := ⟨_, rfl⟩
        rw [← hW0] at t0' t1' t2 s2 l2 ⊢
        have hsz : W0.heap.size = q + 3 := s2.symm
        have hbW : Below q w10 W0 := by
          have h := (l0.trans (l1.mono l0.size)).trans (l2.mono (l0.trans (l1.mono l0.size)).size)
          rw [hq]; exact h
        have hbq : Below w.heap.size w W0 := HB10.out.trans (hbW.mono (by rw [hq]; exact HB10.out.size))
        have hlx : P1.length = Lb ∧ Fits P1 ∧ P2.length = Lb ∧ Fits P2 := by
          rw [hP1, hP2]
          have h1 := HM.out.2.2.2.2.2.2.2.2.2
          have h2 := HL.out.1
          have h3 := HL.out.2.1
          refine ⟨?_, ?_, ?_, ?_⟩ <;> first | exact nrow_fits _ | exact fits_take (nrow_fits _) _ | (rw [List.length_take, ← h2]; omega) | exact h3.symm
        have hrow : ∀ W, Below w.heap.size w W → NRow B W (.slice (some ⟨ga, 0, none⟩) Lb ca) ((nrow x).take Lb) ∧ NRow B W (.slice (some ⟨gb, 0, none⟩) Lb cb) (nrow y) := fun W hW => by
          have h1 := HM.out.2.2.2.2.2.2.2.2.2
          have h2 := HL.out.1
          have h3 := HL.out.2.1
          refine ⟨?_, by rw [h3]; exact HRB.out.below hW (Nat.le_refl _)⟩
          have h4 := HRA.out.below hW (Nat.le_refl _)
          rw [← h2] at h4
          have h5 := NRow.take (L := (nrow x).take Lb) (M := (nrow x).drop Lb) (by rw [List.take_append_drop]; exact h4)
          rw [List.length_take, ← h2, Nat.min_eq_left h1] at h5
          exact h5
        have hga : ga < w.heap.size ∧ gb < w.heap.size ∧ B ≤ ga ∧ B ≤ gb := ⟨HRA.out.seg.2.2.2.2.2.block, HRB.out.seg.2.2.2.2.2.block, HRA.out.seg.2.2.1, HRB.out.seg.2.2.1⟩
        have hqb : w6.heap.size ≤ q ∧ w.heap.size ≤ z ∧ z + 1 < q ∧ g9 < q ∧ g10 < q := by
          have h1 := HM9.out.lt; have h2 := HM10.out.lt; have h3 := HC1a.out.lt; have h4 := HZ.out.1; have h5 := HG.out
          refine ⟨by omega, by omega, by omega, by omega, by omega⟩
        have hbB : Below B w W0 := hbq.mono HH.out.2.2.2.2
        obtain ⟨rA, rB⟩ := hrow W0 hbq
        have hNx0 : NxAt B z q g9 g10 gb ga cb ca Lb LB LA NA NB P1 P2 w 0 W0 :=
          ⟨[], [], 0, 0, 0, 0, 0, 0, ⟨rfl, rfl, Nat.zero_le _, fun _ h => (by cases h), fun _ h => (by cases h)⟩, ⟨by decide, by decide, by decide, by decide, by decide, by decide⟩, by simp [lv], by simp [lv],
            by rw [hP1]; exact rB, by rw [hP2]; exact rA, HM9.out.of_block (hbW.block g9 hqb.2.2.2.1), HM10.out.of_block (hbW.block g10 hqb.2.2.2.2), HC0a.out.below hbW (by omega), HC1a.out.below hbW (by omega), t0', t1', t2, Nat.le_of_eq hsz.symm, hbB⟩
        obtain ⟨X', hX'⟩ : ∃ X' : Nat → Nat, ∀ k, X' k = P1.getD k 0 := ⟨_, fun _ => rfl⟩
        obtain ⟨Y', hY'⟩ : ∃ Y' : Nat → Nat, ∀ k, Y' k = P2.getD k 0 := ⟨_, fun _ => rfl⟩
        have HX := Lib.hid hX'
        have HY := Lib.hid hY'
        have HLX := Lib.hid hlx
        have HSZ := Lib.hid hsz
        have HGA := Lib.hid hga
        have HQB := Lib.hid hqb
        have HPP := Lib.hid (And.intro hP1 hP2)
        have HLB9 : Hid (Lb ≤ 1048578) := Lib.hid (by omega)
        have HQ := Lib.hid hq
        clear hX' hY' hlx hsz hga hqb hP1 hP2 t0 t1 t2 t0' t1' s0 s1 s2 l0 l1 l2 hW0 hbW hbq hbB rA rB hrow d0 d1 d2 d3 c0b c1b c06 c16 hs6 hb6 hq
        refine wpIn_range_at (m := 1) (gf := 76) (lb := #[.pointer (some ⟨q + 1, 0, none⟩), .pointer (some ⟨q + 2, 0, none⟩)]) rfl (enters_of Try.func76 (by kernel_rfl) rfl) (pairs_at (q + 1) (q + 2) (some ⟨gb, 0, none⟩) (some ⟨ga, 0, none⟩) cb ca P1 P2 X' Y' HX.out HY.out (by rw [HLX.out.1]; have := HLB9.out; omega) (by rw [HLX.out.2.2.1]; have := HLB9.out; omega)) (fun _ => rfl)
          (NxAt B z q g9 g10 gb ga cb ca Lb LB LA NA NB P1 P2 w) (fun _ _ => False) (fun k W W' hb' h => h.below (by have := HQB.out; omega) (by have := HQB.out; omega) (by have := HQB.out; omega) (by have := HQB.out; have := HGA.out; omega) (by have := HQB.out; have := HGA.out; omega) (by have := HQB.out; have := HGA.out; omega) (by rw [← HSZ.out]; exact hb')) (fun _ _ _ _ h => h)
          (fun k W h => by obtain ⟨O1, O2, e1, o1, b1, e2, o2, b2, i1, i2, i3, i4, r1, r2, x1, x2, t1, t2, t3, t4, t5, hs, hl⟩ := h; rw [HSZ.out]; exact hs) (fun _ _ h => h.elim)
          (fun k W h => by
            obtain ⟨O1, O2, e1, o1, b1, e2, o2, b2, i1, i2, i3, i4, r1, r2, x1, x2, t1, t2, t3, t4, t5, hs, hl⟩ := h
            have f1 := r1.seg
            have f2 := r2.seg
            exact ⟨by rw [HLX.out.1]; exact t4.1, by rw [HLX.out.2.2.1]; exact t5.1, f1.2.2.2.2.2.from i1.1 (by rw [HLX.out.1]; exact i1.2.2.1), f2.2.2.2.2.2.from i1.2.1 (by rw [HLX.out.2.2.1]; exact i1.2.2.1)⟩) hNx0
          (fun k => { tmps := #[.slice (some ⟨ga, 0, none⟩) La ca, .slice (some ⟨gb, 0, none⟩) Lb cb, .pointer (some ⟨z, 0, none⟩), .pointer (some ⟨z + 1, 0, none⟩), .slice none 0 0, .slice none 0 0, .pointer (some ⟨p, 0, none⟩), undef, undef, .pointer (some ⟨g9, 0, none⟩), .pointer (some ⟨g10, 0, none⟩), .pointer (some ⟨q, 0, none⟩), .int .u64 ((X' k : Nat) : Int), .int .u64 ((Y' k : Nat) : Int),
            .slice (some ⟨ga, 0, none⟩) La ca, .slice (some ⟨gb, 0, none⟩) Lb cb, .tuple #[.int .u64 (xh : Int), .int .u64 (yh : Int)], .int .u64 (xh : Int), .int .u64 (yh : Int), .agg #[.bool true, .int .u64 (LA : Int), .int .u64 (LB : Int), .int .u64 (NA : Int), .int .u64 (NB : Int)], .pointer (some ⟨p, 2, none⟩), .int .u64 (LB : Int), .bool false, undef, undef, undef, undef, undef, undef, undef, undef, .slice (some ⟨ga, 0, none⟩) La ca, .slice (some ⟨gb, 0, none⟩) Lb cb, .int .i64 (Lb : Int), .slice (some ⟨ga, 0, none⟩) Lb ca, .pointer (some ⟨p, 0, none⟩), .bool true, .slice (some ⟨gb, 0, none⟩) Lb cb, .slice (some ⟨ga, 0, none⟩) Lb ca, .agg #[.bool true, .int .u64 (LA : Int), .int .u64 (LB : Int), .int .u64 (NA : Int), .int .u64 (NB : Int)], .agg #[.bool false, .int .u64 (LB : Int), .int .u64 (LA : Int), .int .u64 (NB : Int), .int .u64 (NA : Int)], .pointer (some ⟨p, 1, none⟩), .int .u64 (LB : Int), .pointer (some ⟨p, 2, none⟩), .int .u64 (LA : Int), .agg #[.int .u64 (LB : Int), .int .u64 (LA : Int), .int .u64 0, .int .u64 0, .int .u64 0], .pointer (some ⟨p, 4, none⟩), .int .u64 (NA : Int), .pointer (some ⟨p, 3, none⟩), .int .u64 (NB : Int), .agg #[.int .u64 (NA : Int), .int .u64 (NB : Int), .int .u64 0, .int .u64 0, .int .u64 0],
            .slice (some ⟨gb, 0, none⟩) Lb cb, .slice (some ⟨ga, 0, none⟩) Lb ca, .func (.func 76) #[] #[.pointer (some ⟨q + 1, 0, none⟩), .pointer (some ⟨q + 2, 0, none⟩)], .int .u64 ((X' k : Nat) : Int), .int .u64 ((Y' k : Nat) : Int),
            undef, undef, undef, undef, undef, undef, undef, undef, undef, undef, undef, undef, undef, undef, undef, undef, undef, undef], defers := [] })
          ?assign ?body ?done ?stop
        case assign =>
          intro l k W K hK
          gi_wp2
          exact hK
        case body =>
          rintro l k W hk ⟨O1, O2, e1, o1, b1, e2, o2, b2, ⟨i1, i2, i3, i4, i5⟩, ⟨u1, u2, u3, u4, u5, u6⟩, v1, v2, r1, r2, x1, x2, t1, t2, t3, t4, t5, hs, hl⟩
          have hxA : X' k = P1.getD k 0 := HX.out k
          have hyB : Y' k = P2.getD k 0 := HY.out k
          generalize X' k = xx at hxA ⊢
          generalize Y' k = yy at hyB ⊢
          have hkL : k < Lb := by rw [← HLX.out.1]; exact hk
          have hkI : (k : Int) < (Lb : Int) := by omega
          have hk0 : (0 : Int) ≤ (k : Int) := by omega
          have hk9 : (k : Int) ≤ 1048578 := by have := HLB9.out; omega
          have hxx : xx < 18446744073709551616 := by rw [hxA]; exact getD_fits HLX.out.2.1 k
          have hyy : yy < 18446744073709551616 := by rw [hyB]; exact getD_fits HLX.out.2.2.2 k
          have v1' := v1
          have v2' := v2
          have HI := Lib.hid (And.intro i1 (And.intro i2 (And.intro i3 (And.intro i4 i5))))
          have HV := Lib.hid (And.intro v1 v2)
          have HXY := Lib.hid (And.intro hxA hyB)
          have hbx := hs
          clear hxA hyB v1 v2 v1' v2' i1 i2 i3 i4 i5 hk
          gi_wp2
          refine wpIn_region_calmT (fun w' => w'.cell? ⟨z, 0, none⟩ = some (.slice (some ⟨gb, 0, none⟩) Lb cb) ∧ w'.cell? ⟨z + 1, 0, none⟩ = some (.slice (some ⟨ga, 0, none⟩) Lb ca) ∧ w'.cell? ⟨q, 0, none⟩ = some (.int .i64 (k : Int)))
            [.yes 0, .yes 1, .yes 2, .yes 3, .yes 4, .yes 5, .yes 7, .yes 8, .no 6, .no 9, .yes 10, .no 11, .yes 12, .no 13] 13 (by kernel_rfl) (by kernel_rfl) (by kernel_rfl) rfl (by kernel_rfl) (by kernel_rfl) ?_
          have hS : W.drew.cell? ⟨z, 0, none⟩ = some (.slice (some ⟨gb, 0, none⟩) Lb cb) ∧ W.drew.cell? ⟨z + 1, 0, none⟩ = some (.slice (some ⟨ga, 0, none⟩) Lb ca) ∧ W.drew.cell? ⟨q, 0, none⟩ = some (.int .i64 (k : Int)) := ⟨t1.1, t2.1, t3.1⟩
          repeat (refine walkT_yes rfl hS rfl (fun w' hw' => by obtain ⟨q0, q1, q2⟩ := hw'; go_simp; rfl) ?_; simp only [Act.put, List.setIfInBounds_toArray, List.set_cons_zero, List.set_cons_succ])
          refine walkT_no rfl rfl (fun K hK => ?_)
          go_simp
          have hM4 := HM.out
          refine (mix_any g9 xx yy LB LA e1 o1 b1 W.drew hxx hyy (by omega) (by omega) u1 u2 u3 x1).mono ?_
          rintro e W1 ⟨ra, e1', o1', b1', rfl, ha1, ha2, ha3, ha4, haM, hxa, hga1⟩
          have hN := HG.out
          have hNQ := HQB.out
          have hPZ := HPZ.out
          have hGA := HGA.out
          have hne12 : ga ≠ gb := HH.out.2.2.2.1
          have T1 : Box W1 z (.slice (some ⟨gb, 0, none⟩) Lb cb) := t1.drew.of_block (hga1.block z t1.lt (fun e => by cases e; omega))
          have T2 : Box W1 (z + 1) (.slice (some ⟨ga, 0, none⟩) Lb ca) := t2.drew.of_block (hga1.block (z + 1) t2.lt (fun e => by cases e; omega))
          have T3 : Box W1 q (.int .i64 (k : Int)) := t3.drew.of_block (hga1.block q t3.lt (fun e => by cases e; omega))
          have X1 : Mx W1 g10 NA NB e2 o2 b2 := x2.of_block (hga1.block g10 x2.lt (fun e => by cases e; omega))
          have A1 := r1.of_block (hga1.block gb r1.seg.2.2.2.2.2.block (fun e => by cases e; omega))
          have A2 := r2.of_block (hga1.block ga r2.seg.2.2.2.2.2.block (fun e => by cases e; omega))
          refine hK _ W1 (fun _ => ⟨T1.1, T2.1, T3.1⟩) ?_
          clear hK K
          refine walkT_no rfl rfl (fun K hK => ?_)
          go_simp
          refine (mix_any g10 yy xx NA NB e2 o2 b2 W1 hyy hxx (by omega) (by omega) u4 u5 u6 X1).mono ?_
          rintro e W2 ⟨rb, e2', o2', b2', rfl, hb1, hb2, hb3, hb4, hbM, hxb, hgb1⟩
          have U1 : Box W2 z (.slice (some ⟨gb, 0, none⟩) Lb cb) := T1.of_block (hgb1.block z T1.lt (fun e => by cases e; omega))
          have U2 : Box W2 (z + 1) (.slice (some ⟨ga, 0, none⟩) Lb ca) := T2.of_block (hgb1.block (z + 1) T2.lt (fun e => by cases e; omega))
          have U3 : Box W2 q (.int .i64 (k : Int)) := T3.of_block (hgb1.block q T3.lt (fun e => by cases e; omega))
          have Y1 : Mx W2 g9 LB LA e1' o1' b1' := hxa.of_block (hgb1.block g9 hxa.lt (fun e => by cases e; omega))
          have B1 := A1.of_block (hgb1.block gb A1.seg.2.2.2.2.2.block (fun e => by cases e; omega))
          have B2 := A2.of_block (hgb1.block ga A2.seg.2.2.2.2.2.block (fun e => by cases e; omega))
          refine hK _ W2 (fun _ => ⟨U1.1, U2.1, U3.1⟩) ?_
          clear hK K
          have hl1 : k < (O1 ++ P1.drop k).length := by rw [List.length_append, List.length_drop, HI.out.1, HLX.out.1]; omega
          have hl2 : k < (O2 ++ P2.drop k).length := by rw [List.length_append, List.length_drop, HI.out.2.1, HLX.out.2.2.1]; omega
          have cc1 := B1.seg.2.2.2.2.2.cell hl1
          have cf1 := B1.seg.2.2.2.2.2.frozen k
          rw [Nat.zero_add] at cc1
          have hS2 : W2.cell? ⟨z, 0, none⟩ = some (.slice (some ⟨gb, 0, none⟩) Lb cb) ∧ W2.cell? ⟨z + 1, 0, none⟩ = some (.slice (some ⟨ga, 0, none⟩) Lb ca) ∧ W2.cell? ⟨q, 0, none⟩ = some (.int .i64 (k : Int)) := ⟨U1.1, U2.1, U3.1⟩
          refine walkT_yes rfl hS2 rfl (fun w' hw' => by obtain ⟨q0, q1, q2⟩ := hw'; go_simp; rfl) ?_
          simp only [Act.put, List.setIfInBounds_toArray, List.set_cons_zero, List.set_cons_succ]
          refine walkT_no rfl rfl (fun K hK => ?_)
          go_simp
          obtain ⟨W3, hW3⟩ : ∃ W3, W3 = W2.setCell ⟨gb, k, none⟩ (.int .u64 (ra : Int)) := ⟨_, rfl⟩
          have V1 : Box W3 z (.slice (some ⟨gb, 0, none⟩) Lb cb) := by rw [hW3]; exact U1.other (p := ⟨gb, k, none⟩) (by show gb ≠ z; omega) _
          have V2 : Box W3 (z + 1) (.slice (some ⟨ga, 0, none⟩) Lb ca) := by rw [hW3]; exact U2.other (p := ⟨gb, k, none⟩) (by show gb ≠ z + 1; omega) _
          have V3 : Box W3 q (.int .i64 (k : Int)) := by rw [hW3]; exact U3.other (p := ⟨gb, k, none⟩) (by show gb ≠ q; omega) _
          have C1 := B1.setAt (x := ra) hl1
          rw [← hW3] at C1
          have C2 : NRow B W3 (.slice (some ⟨ga, 0, none⟩) Lb ca) (O2 ++ P2.drop k) := by rw [hW3]; exact B2.of_block (Below.heap_setCell _ ⟨gb, k, none⟩ _ _ (fun e => hne12 (by simpa using e)))
          have cc2 := C2.seg.2.2.2.2.2.cell hl2
          have cf2 := C2.seg.2.2.2.2.2.frozen k
          rw [Nat.zero_add] at cc2
          have hS3 : W3.cell? ⟨z, 0, none⟩ = some (.slice (some ⟨gb, 0, none⟩) Lb cb) ∧ W3.cell? ⟨z + 1, 0, none⟩ = some (.slice (some ⟨ga, 0, none⟩) Lb ca) ∧ W3.cell? ⟨q, 0, none⟩ = some (.int .i64 (k : Int)) := ⟨V1.1, V2.1, V3.1⟩
          rw [← hW3]
          refine hK _ W3 (fun _ => hS3) ?_
          have HW3 := Lib.hid hW3
          clear hK K hW3
          refine walkT_yes rfl hS3 rfl (fun w' hw' => by obtain ⟨q0, q1, q2⟩ := hw'; go_simp; rfl) ?_
          simp only [Act.put, List.setIfInBounds_toArray, List.set_cons_zero, List.set_cons_succ]
          refine walkT_no rfl rfl (fun K hK => ?_)
          go_simp
          obtain ⟨W4, hW4⟩ : ∃ W4, W4 = W3.setCell ⟨ga, k, none⟩ (.int .u64 (rb : Int)) := ⟨_, rfl⟩
          have Z1 : Box W4 z (.slice (some ⟨gb, 0, none⟩) Lb cb) := by rw [hW4]; exact V1.other (p := ⟨ga, k, none⟩) (by show ga ≠ z; omega) _
          have Z2 : Box W4 (z + 1) (.slice (some ⟨ga, 0, none⟩) Lb ca) := by rw [hW4]; exact V2.other (p := ⟨ga, k, none⟩) (by show ga ≠ z + 1; omega) _
          have Z3 : Box W4 q (.int .i64 (k : Int)) := by rw [hW4]; exact V3.other (p := ⟨ga, k, none⟩) (by show ga ≠ q; omega) _
          have D2 := C2.setAt (x := rb) hl2
          rw [← hW4] at D2 ⊢
          have D1 : NRow B W4 (.slice (some ⟨gb, 0, none⟩) Lb cb) ((O1 ++ P1.drop k).set k ra) := by rw [hW4]; exact C1.of_block (Below.heap_setCell _ ⟨ga, k, none⟩ _ _ (fun e => hne12 (by simpa using e.symm)))
          have E1 : Mx W4 g9 LB LA e1' o1' b1' := by rw [hW4, HW3.out]; exact (Y1.other (q := ⟨gb, k, none⟩) (by show gb ≠ g9; omega) _).other (q := ⟨ga, k, none⟩) (by show ga ≠ g9; omega) _
          have E2 : Mx W4 g10 NA NB e2' o2' b2' := by rw [hW4, HW3.out]; exact (hxb.other (q := ⟨gb, k, none⟩) (by show gb ≠ g10; omega) _).other (q := ⟨ga, k, none⟩) (by show ga ≠ g10; omega) _
          have hke : KeepsFrom W0.heap.size W W4 := by
            have h1 : KeepsFrom W0.heap.size W W2 := keeps_grown (keeps_grown (keeps_drew (KeepsFrom.refl _ W)) hga1 (by rw [HSZ.out]; omega)) hgb1 (by rw [HSZ.out]; omega)
            rw [hW4, HW3.out]
            exact keeps_set (keeps_set h1 _ _) _ _
          have S4 : Box W4 (q + 1) (.slice (some ⟨gb, 0, none⟩) Lb cb) := by
            rw [hW4, HW3.out]
            exact ((((t4.drew.of_block (hga1.block (q + 1) t4.lt (fun e => by cases e; omega))).of_block (hgb1.block (q + 1) (Nat.lt_of_lt_of_le t4.lt hga1.size) (fun e => by cases e; omega))).other (p := ⟨gb, k, none⟩) (by show gb ≠ q + 1; omega) _).other (p := ⟨ga, k, none⟩) (by show ga ≠ q + 1; omega) _)
          have S5 : Box W4 (q + 2) (.slice (some ⟨ga, 0, none⟩) Lb ca) := by
            rw [hW4, HW3.out]
            exact ((((t5.drew.of_block (hga1.block (q + 2) t5.lt (fun e => by cases e; omega))).of_block (hgb1.block (q + 2) (Nat.lt_of_lt_of_le t5.lt hga1.size) (fun e => by cases e; omega))).other (p := ⟨gb, k, none⟩) (by show gb ≠ q + 2; omega) _).other (p := ⟨ga, k, none⟩) (by show ga ≠ q + 2; omega) _)
          have hsz4 : q + 3 ≤ W4.heap.size := by
            rw [hW4, HW3.out, size_set, size_set]
            exact Nat.le_trans hs (Nat.le_trans hga1.size hgb1.size)
          have hl4 : Below B w W4 := by
            have h1 := (hl.drew).grown hga1 (Nat.le_trans (Nat.le_trans (show B ≤ w.heap.size from HH.out.2.2.2.2) hl.size) (Nat.le_refl _)) (fun g hg => by cases hg; omega)
            have h2 := h1.grown hgb1 (Nat.le_trans HH.out.2.2.2.2 h1.size) (fun g hg => by cases hg; omega)
            rw [hW4, HW3.out]
            exact (h2.setCell (p := ⟨gb, k, none⟩) (by show B ≤ gb; omega) _).setCell (p := ⟨ga, k, none⟩) (by show B ≤ ga; omega) _
          have HKE := Lib.hid hke
          have HD := Lib.hid (And.intro D1 D2)
          have HE := Lib.hid (And.intro E1 E2)
          have HZZ := Lib.hid (And.intro Z1 (And.intro Z2 (And.intro Z3 (And.intro S4 (And.intro S5 (And.intro hsz4 hl4))))))
          have HR1 := Lib.hid (And.intro ha1 (And.intro ha2 (And.intro ha3 (And.intro ha4 haM))))
          have HR2 := Lib.hid (And.intro hb1 (And.intro hb2 (And.intro hb3 (And.intro hb4 hbM))))
          have zc := Z3.1
          have zf := Z3.2
          refine hK _ W4 (fun h => absurd h (by decide)) ?_
          clear hK K hW4 cc1 cf1 cc2 cf2 hS hS2 hS3 A1 A2 B1 B2 C1 C2 D1 D2 E1 E2 Y1 X1 U1 U2 U3 V1 V2 V3 T1 T2 T3 hxa hxb hga1 hgb1 haM hbM hke S4 S5 hsz4 hl4 Z1 Z2 Z3
          simp only [walkT]
          refine ⟨rfl, ?_⟩
          gi_wp2
          have hI := HI.out
          have hR1 := HR1.out
          have hR2 := HR2.out
          have hZ := HZZ.out
          have hNQ := HQB.out
          have hGA := HGA.out
          have hN := HG.out
          have hP : 2 ^ (64 * (k + 1)) = 2 ^ (64 * k) * 18446744073709551616 := by rw [show 64 * (k + 1) = 64 * k + 64 by omega, Nat.pow_add]
          have q1 := mix_step HV.out.1 hR1.2.2.2.2
          have q2 := mix_step HV.out.2 hR2.2.2.2.2
          have w1 := lv_take_succ' P1 k
          have w2 := lv_take_succ' P2 k
          rw [← HXY.out.1] at w1
          rw [← HXY.out.2] at w2
          have hkP1 : k < P1.length := by rw [HLX.out.1]; exact hkL
          have hkP2 : k < P2.length := by rw [HLX.out.2.2.1]; exact hkL
          have w3 := set_mid (x := ra) hI.1 hkP1
          have w4 := set_mid (x := rb) hI.2.1 hkP2
          have hD1 := HD.out.1
          have hD2 := HD.out.2
          rw [w3] at hD1
          rw [w4] at hD2
          refine ⟨keeps_set HKE.out _ _, O1 ++ [ra], O2 ++ [rb], e1', o1', b1', e2', o2', b2', ⟨by rw [List.length_append, hI.1]; rfl, by rw [List.length_append, hI.2.1]; rfl, hkL, fits_snoc hI.2.2.2.1 hR1.1, fits_snoc hI.2.2.2.2 hR2.1⟩, ⟨hR1.2.1, hR1.2.2.1, hR1.2.2.2.1, hR2.2.1, hR2.2.2.1, hR2.2.2.2.1⟩, ?_, ?_,
            hD1.of_block (Below.heap_setCell _ ⟨q, 0, none⟩ _ _ (by show gb ≠ q; omega)), hD2.of_block (Below.heap_setCell _ ⟨q, 0, none⟩ _ _ (by show ga ≠ q; omega)), HE.out.1.other (q := ⟨q, 0, none⟩) (by show q ≠ g9; omega) _, HE.out.2.other (q := ⟨q, 0, none⟩) (by show q ≠ g10; omega) _,
            hZ.1.other (p := ⟨q, 0, none⟩) (by show q ≠ z; omega) _, hZ.2.1.other (p := ⟨q, 0, none⟩) (by show q ≠ z + 1; omega) _, hZ.2.2.1.set _, hZ.2.2.2.1.other (p := ⟨q, 0, none⟩) (by show q ≠ q + 1; omega) _, hZ.2.2.2.2.1.other (p := ⟨q, 0, none⟩) (by show q ≠ q + 2; omega) _,
            by rw [size_set]; exact hZ.2.2.2.2.2.1, hZ.2.2.2.2.2.2.setCell (p := ⟨q, 0, none⟩) (by show B ≤ q; omega) _⟩
          · rw [lv_snoc, hI.1, w1, w2, hP]; exact q1
          · rw [lv_snoc, hI.2.1, w1, w2, hP]; exact q2
        case done =>
          rintro D W hD ⟨O1, O2, e1, o1, b1, e2, o2, b2, ⟨i1, i2, i3, i4, i5⟩, ⟨u1, u2, u3, u4, u5, u6⟩, v1, v2, r1, r2, x1, x2, t1, t2, t3, t4, t5, hs, hl⟩ hK
          have e0 := HLX.out.1
          rw [e0] at i1 i2 i3 v1 v2 r1 r2 t3
          have hd1 : P1.drop Lb = [] := List.drop_eq_nil_of_le (Nat.le_of_eq HLX.out.1)
          have hd2 : P2.drop Lb = [] := List.drop_eq_nil_of_le (Nat.le_of_eq HLX.out.2.2.1)
          rw [hd1, List.append_nil] at r1
          rw [hd2, List.append_nil] at r2
          rw [List.take_of_length_le (Nat.le_of_eq HLX.out.1), List.take_of_length_le (Nat.le_of_eq HLX.out.2.2.1)] at v1 v2
          have hM := HM.out
          have hyl : y < 2 ^ (64 * Lb) := by have := lv_lt (nrow_fits y); rw [lv_nrow, ← HL.out.2.1] at this; exact this
          have hsp := lv_split (nrow x) (k := Lb) (by rw [← HL.out.1]; exact hM.2.2.2.2.2.2.2.2.2)
          rw [lv_nrow] at hsp
          obtain ⟨h, hh⟩ : ∃ h, h = lv ((nrow x).drop Lb) := ⟨_, rfl⟩
          obtain ⟨XT, hXT⟩ : ∃ XT, XT = lv ((nrow x).take Lb) := ⟨_, rfl⟩
          rw [← hh, ← hXT] at hsp
          have hP1v : lv P1 = y := by rw [HPP.out.1]; exact lv_nrow y
          have hP2v : lv P2 = XT := by rw [HPP.out.2]; exact hXT.symm
          rw [hP1v, hP2v] at v1 v2
          have hO1 : lv O1 < 2 ^ (64 * Lb) := by rw [← i1]; exact lv_lt i4
          have hO2 : lv O2 < 2 ^ (64 * Lb) := by rw [← i2]; exact lv_lt i5
          have z1 : lv O1 = Lt := mix_done (u := 0) (v := LA * h) v1 (by
            have h9 := hM.2.2.2.2.2.1
            rw [hsp] at h9
            simp only [dl] at h9
            have : ((LB * y + 2 ^ (64 * Lb) * (0) : Nat) : Int) = ((Lt + LA * XT + 2 ^ (64 * Lb) * (LA * h) : Nat) : Int) := by push_cast at h9 ⊢; grind
            exact_mod_cast this) hO1 (Nat.lt_of_le_of_lt hM.2.2.2.2.2.2.2.1 hyl)
          have z2 : lv O2 = X := mix_done (u := NA * h) (v := 0) v2 (by
            have h9 := hM.2.2.2.2.1
            rw [hsp] at h9
            simp only [dl] at h9
            have : ((NA * XT + 2 ^ (64 * Lb) * (NA * h) : Nat) : Int) = ((X + NB * y + 2 ^ (64 * Lb) * (0) : Nat) : Int) := by push_cast at h9 ⊢; grind
            exact_mod_cast this) hO2 (Nat.lt_of_lt_of_le hM.2.2.2.2.2.2.1 (Nat.le_of_lt (Nat.lt_of_le_of_lt hM.2.2.2.2.2.2.2.1 hyl)))
          have f1 := r1.seg
          have f2 := r2.seg
          have A1 : NRow B W (.slice (some ⟨gb, 0, none⟩) O1.length cb) O1 := by rw [i1]; exact r1
          have A2 : NRow B W (.slice (some ⟨ga, 0, none⟩) O2.length ca) O2 := by rw [i2]; exact r2
          have N1 := A1.norm i4
          have N2 := A2.norm i5
          rw [z1] at N1
          rw [z2] at N2
          have tr1 := trim_any (some ⟨gb, 0, none⟩) cb O1 W.drew (by rw [i1]; have := HLB9.out; omega) (by rw [i1]; have := f1.2.2.2.1; omega) i4 f1.2.2.2.2.2.natAt
          have tr2 := trim_any (some ⟨ga, 0, none⟩) ca O2 W.drew (by rw [i2]; have := HLB9.out; omega) (by rw [i2]; have := f2.2.2.2.1; omega) i5 f2.2.2.2.2.2.natAt
          rw [i1, z1] at tr1
          rw [i2, z2] at tr2
          have TR1 := Lib.hid tr1
          have TR2 := Lib.hid tr2
          have HN12 := Lib.hid (And.intro N1 N2)
          have HLW := Lib.hid (And.intro hl hs)
          have hS : W.drew.cell? ⟨z, 0, none⟩ = some (.slice (some ⟨gb, 0, none⟩) Lb cb) ∧ W.drew.cell? ⟨z + 1, 0, none⟩ = some (.slice (some ⟨ga, 0, none⟩) Lb ca) := ⟨t1.1, t2.1⟩
          clear e0 i1 i2 i3 i4 i5 u1 u2 u3 u4 u5 u6 v1 v2 r1 r2 x1 x2 t1 t2 t3 t4 t5 hs hl hd1 hd2 hM hyl hsp hh hXT hP1v hP2v hO1 hO2 z1 z2 f1 f2 A1 A2 N1 N2 tr1 tr2
          gi_wp2_with fail
          refine wpIn_region_wideT (fun w' => w'.cell? ⟨z, 0, none⟩ = some (.slice (some ⟨gb, 0, none⟩) Lb cb) ∧ w'.cell? ⟨z + 1, 0, none⟩ = some (.slice (some ⟨ga, 0, none⟩) Lb ca))
            [.yes 0, .yes 2, .no 1, .no 3, .yes 4, .yes 5] 6 (by kernel_rfl) (by kernel_rfl) rfl (by kernel_rfl) (by kernel_rfl) ?_
          repeat (refine walkT_yes rfl hS rfl (fun w' hw' => by obtain ⟨q0, q1⟩ := hw'; go_simp; rfl) ?_; simp only [Act.put, List.setIfInBounds_toArray, List.set_cons_zero, List.set_cons_succ])
          refine walkT_no rfl rfl (fun K hK2 => ?_)
          go_simp
          refine TR1.out.mono ?_
          rintro e w' ⟨rfl, rfl⟩
          refine hK2 _ _ (fun _ => hS) ?_
          clear hK2 K
          refine walkT_no rfl rfl (fun K hK2 => ?_)
          go_simp
          refine TR2.out.mono ?_
          rintro e w' ⟨rfl, rfl⟩
          refine hK2 _ _ (fun _ => hS) ?_
          clear hK2 K
          repeat (refine walkT_yes rfl hS rfl (fun w' hw' => by obtain ⟨q0, q1⟩ := hw'; go_simp; rfl) ?_; simp only [Act.put, List.setIfInBounds_toArray, List.set_cons_zero, List.set_cons_succ])
          simp only [walkT]
          refine ⟨rfl, ?_⟩
          gi_wp2_with fail
          have hsW : W0.heap.size ≤ W.drew.heap.size := by rw [HSZ.out]; exact HLW.out.2
          have b1 : Below W0.heap.size W.drew (W.drew.putObj D (.deferred none)) := below_putObj W.drew D _ hD hsW
          have hM := HM.out
          have hNQ := HQB.out
          have hGA := HGA.out
          refine ⟨by simp, .inl ⟨_, _, rfl, run_takeDeferred (show W.drew.heap[D]? = _ from hK), ?_⟩⟩
          refine ⟨_, results_tmp2 rfl _ _ _, ?_⟩
          refine ⟨_, _, Lt, X, rfl, hM.2.2.2.2.2.2.2.2.1, Nat.le_of_lt hM.2.2.2.2.2.2.1, Nat.le_trans hM.2.2.2.2.2.2.2.1 HH.out.2.1, Nat.lt_of_lt_of_le hM.2.2.2.2.2.2.1 hM.2.2.2.2.2.2.2.1, ?_, ?_, ?_, ?_⟩
          · exact HN12.out.1.of_block (b1.block gb (by rw [HSZ.out]; omega))
          · exact HN12.out.2.of_block (b1.block ga (by rw [HSZ.out]; omega))
          · intro e
            have e' : (Value.slice (some ⟨gb, 0, none⟩) (nrow Lt).length cb).ownBlock = (Value.slice (some ⟨ga, 0, none⟩) (nrow X).length ca).ownBlock := e
            have hne12 : ga ≠ gb := HH.out.2.2.2.1
            exact hne12 (by simpa [Value.ownBlock] using e'.symm)
          · exact (HLW.out.1.drew).trans (b1.mono (by rw [HSZ.out]; omega))
        case stop =>
          rintro D k W _ _ h _
          exact h.elim
      · skip
        go_simp
        obtain ⟨g10, hg10⟩ : ∃ g10, g10 = w6.heap.size := ⟨_, rfl⟩
        obtain ⟨w7, hw7⟩ : ∃ w7, w7 = (w6.alloc (.cells #[.int .u64 0, .int .u64 0, .int .u64 0, .int .u64 0, .int .u64 0] 77)).drew := ⟨_, rfl⟩
        have hs7 : Sx w7 p false LB LA NB NA := by rw [hw7]; exact Sx.drew (hs6.of_block (Below.heap_alloc _ _ _ hs6.lt))
        have hm7 : Mx w7 g10 0 0 0 0 0 := by rw [hw7, hg10]; exact heap_alloc_new _ _
        have hb7 : Below w6.heap.size w6 w7 := by rw [hw7]; exact ((Below.refl _ _).alloc (Nat.le_refl _) _).drew
        rw [← hg10, ← hw7]
        have HF := Lib.hid hg10
        refine hK _ w7 (fun _ => ⟨hs7.cell.2.1, hs7.cell.2.2.1, hs7.cell.2.2.2.1, hs7.cell.2.2.2.2⟩) rfl (fun K' hK' => ?_)
        clear hK K hw7 hg10
        go_simp
        obtain ⟨g9, hg9⟩ : ∃ g9, g9 = w7.heap.size := ⟨_, rfl⟩
        obtain ⟨w8, hw8⟩ : ∃ w8, w8 = w7.alloc (.cells #[.int .u64 0, .int .u64 0, .int .u64 0, .int .u64 0, .int .u64 0] 77) := ⟨_, rfl⟩
        have hs8 : Sx w8 p false LB LA NB NA := by rw [hw8]; exact hs7.of_block (Below.heap_alloc _ _ _ hs7.lt)
        have hm_g10 : Mx w8 g10 0 0 0 0 0 := by rw [hw8]; exact hm7.of_block (Below.heap_alloc _ _ _ hm7.lt)
        have hm_g9 : Mx w8 g9 0 0 0 0 0 := by rw [hw8, hg9]; exact heap_alloc_new _ _
        have hb8 : Below w6.heap.size w6 w8 := by rw [hw8]; exact hb7.alloc hb7.size _
        have HG : Hid (w6.heap.size ≤ g9 ∧ w6.heap.size ≤ g10 ∧ g9 ≠ g10 ∧ p < w6.heap.size) := Lib.hid (by
          have h1 := HF.out; have h2 := hm7.lt; have h3 := hb7.size; have h4 := hs6.lt
          refine ⟨by omega, by omega, by omega, h4⟩)
        rw [← hg9, ← hw8]
        refine hK' _ w8 (fun _ => ⟨hs8.cell.2.1, hs8.cell.2.2.1, hs8.cell.2.2.2.1, hs8.cell.2.2.2.2⟩) ?_
        clear hK' K' hw8 hg9 HF hb7 hm7 hs7
        obtain ⟨⟨a0, b0⟩, ⟨a1, b1⟩, ⟨a2, b2⟩, ⟨a3, b3⟩, ⟨a4, b4⟩, hfin⟩ := hm_g9.fill (m := LB) (l := LA)
        refine walkT_no rfl rfl (fun K hK => ?_)
        go_simp
        obtain ⟨w9, hw9⟩ : ∃ w9, w9 = (((((w8.setCell ⟨g9, 0, none⟩ (.int .u64 (LB : Int))).setCell ⟨g9, 1, none⟩ (.int .u64 (LA : Int))).setCell ⟨g9, 2, none⟩ (.int .u64 0)).setCell ⟨g9, 3, none⟩ (.int .u64 0)).setCell ⟨g9, 4, none⟩ (.int .u64 0)) := ⟨_, rfl⟩
        rw [← hw9] at hfin ⊢
        have n1 : g9 ≠ g10 := HG.out.2.2.1
        have n2 : g9 ≠ p := by have := HG.out; omega
        have n3 : g10 ≠ p := by have := HG.out; omega
        have hs9 : Sx w9 p false LB LA NB NA := by rw [hw9]; exact (((((hs8.other (q := ⟨g9, 0, none⟩) n2 _).other (q := ⟨g9, 1, none⟩) n2 _).other (q := ⟨g9, 2, none⟩) n2 _).other (q := ⟨g9, 3, none⟩) n2 _).other (q := ⟨g9, 4, none⟩) n2 _)
        have hn_g10 : Mx w9 g10 0 0 0 0 0 := by rw [hw9]; exact (((((hm_g10.other (q := ⟨g9, 0, none⟩) n1 _).other (q := ⟨g9, 1, none⟩) n1 _).other (q := ⟨g9, 2, none⟩) n1 _).other (q := ⟨g9, 3, none⟩) n1 _).other (q := ⟨g9, 4, none⟩) n1 _)
        have hb9 : Below w6.heap.size w6 w9 := by rw [hw9]; exact (((((hb8.setCell (p := ⟨g9, 0, none⟩) HG.out.1 _).setCell (p := ⟨g9, 1, none⟩) HG.out.1 _).setCell (p := ⟨g9, 2, none⟩) HG.out.1 _).setCell (p := ⟨g9, 3, none⟩) HG.out.1 _).setCell (p := ⟨g9, 4, none⟩) HG.out.1 _)
        refine hK _ w9 (fun _ => ⟨hs9.cell.2.1, hs9.cell.2.2.1, hs9.cell.2.2.2.1, hs9.cell.2.2.2.2⟩) ?_
        clear hK K hw9 hm_g9 hm_g10 hs8 hb8 a0 b0 a1 b1 a2 b2 a3 b3 a4 b4
        have hm_g10 := hn_g10
        have hf9 := hfin
        clear hn_g10 hfin
        obtain ⟨⟨a0, b0⟩, ⟨a1, b1⟩, ⟨a2, b2⟩, ⟨a3, b3⟩, ⟨a4, b4⟩, hfin⟩ := hm_g10.fill (m := NA) (l := NB)
        refine walkT_no rfl rfl (fun K hK => ?_)
        go_simp
        obtain ⟨w10, hw10⟩ : ∃ w10, w10 = (((((w9.setCell ⟨g10, 0, none⟩ (.int .u64 (NA : Int))).setCell ⟨g10, 1, none⟩ (.int .u64 (NB : Int))).setCell ⟨g10, 2, none⟩ (.int .u64 0)).setCell ⟨g10, 3, none⟩ (.int .u64 0)).setCell ⟨g10, 4, none⟩ (.int .u64 0)) := ⟨_, rfl⟩
        rw [← hw10] at hfin ⊢
        have hx9 : Mx w10 g9 LB LA 0 0 0 := by rw [hw10]; exact (((((hf9.other (q := ⟨g10, 0, none⟩) (Ne.symm n1) _).other (q := ⟨g10, 1, none⟩) (Ne.symm n1) _).other (q := ⟨g10, 2, none⟩) (Ne.symm n1) _).other (q := ⟨g10, 3, none⟩) (Ne.symm n1) _).other (q := ⟨g10, 4, none⟩) (Ne.symm n1) _)
        have hb10 : Below w6.heap.size w6 w10 := by rw [hw10]; exact (((((hb9.setCell (p := ⟨g10, 0, none⟩) HG.out.2.1 _).setCell (p := ⟨g10, 1, none⟩) HG.out.2.1 _).setCell (p := ⟨g10, 2, none⟩) HG.out.2.1 _).setCell (p := ⟨g10, 3, none⟩) HG.out.2.1 _).setCell (p := ⟨g10, 4, none⟩) HG.out.2.1 _)
        refine hK _ w10 (fun h => absurd h (by decide)) ?_
        have HM9 := Lib.hid hx9
        have HM10 := Lib.hid hfin
        have HB10 := Lib.hid (hb6.trans (hb10.mono hb6.size))
        have HC0a := Lib.hid (c06.below hb10 c06.lt)
        have HC1a := Lib.hid (c16.below hb10 c16.lt)
        have d0 := HC0a.out.1
        have d1 := HC1a.out.1
        clear hK K hw10 hm_g10 hs9 hb9 hf9 hx9 hfin hb10 a0 b0 a1 b1 a2 b2 a3 b3 a4 b4 n1 n2 n3 j0 j1 j2 j3 j4 hS
        simp only [walkT]
        refine ⟨rfl, ?_⟩
        have c0b := HC0a.out.alloc (.cells #[.int .i64 0] 3)
        have c1b := HC1a.out.alloc (.cells #[.int .i64 0] 3)
        have d2 := c0b.1
        have d3 := c1b.1
        gi_wp2_with (gi_at_call 63; refine (callsIn_wide.2 (pairs_any _ _ _ _ _ _ _)).mono ?_; rintro e w' ⟨rfl, rfl⟩)
        obtain ⟨q, hq⟩ : ∃ q, q = w10.heap.size := ⟨_, rfl⟩
        obtain ⟨P1, hP1⟩ : ∃ P1, P1 = nrow y := ⟨_, rfl⟩
        obtain ⟨P2, hP2⟩ : ∃ P2, P2 = (nrow x).take Lb := ⟨_, rfl⟩
        rw [← hq]
        simp only [Nat.add_assoc, Nat.reduceAdd]
        obtain ⟨t0, s0, l0⟩ := box_next hq (.int .i64 0) 3
        obtain ⟨t1, s1, l1⟩ := box_next s0 (.slice (some ⟨gb, 0, none⟩) Lb cb) 23
        obtain ⟨t2, s2, l2⟩ := box_next s1 (.slice (some ⟨ga, 0, none⟩) Lb ca) 23
        have t0' := (t0.alloc (.cells #[.slice (some ⟨gb, 0, none⟩) Lb cb] 23)).alloc (.cells #[.slice (some ⟨ga, 0, none⟩) Lb ca] 23)
        have t1' := t1.alloc (.cells #[.slice (some ⟨ga, 0, none⟩) Lb ca] 23)
        obtain ⟨W0, hW0⟩ : ∃ W0, W0 = (((w10.alloc (.cells #[.int .i64 0] 3)).alloc (.cells #[.slice (some ⟨gb, 0, none⟩) Lb cb] 23)).alloc (.cells #[.slice (some ⟨ga, 0, none⟩) Lb ca] 23)) := ⟨_, rfl⟩
        rw [← hW0] at t0' t1' t2 s2 l2 ⊢
        have hsz : W0.heap.size = q + 3 := s2.symm
        have hbW : Below q w10 W0 := by
          have h := (l0.trans (l1.mono l0.size)).trans (l2.mono (l0.trans (l1.mono l0.size)).size)
          rw [hq]; exact h
        have hbq : Below w.heap.size w W0 := HB10.out.trans (hbW.mono (by rw [hq]; exact HB10.out.size))
        have hlx : P1.length = Lb ∧ Fits P1 ∧ P2.length = Lb ∧ Fits P2 := by
          rw [hP1, hP2]
          have h1 := HM.out.2.2.2.2.2.2.2.2.2
          have h2 := HL.out.1
          have h3 := HL.out.2.1
          refine ⟨?_, ?_, ?_, ?_⟩ <;> first | exact nrow_fits _ | exact fits_take (nrow_fits _) _ | (rw [List.length_take, ← h2]; omega) | exact h3.symm
        have hrow : ∀ W, Below w.heap.size w W → NRow B W (.slice (some ⟨ga, 0, none⟩) Lb ca) ((nrow x).take Lb) ∧ NRow B W (.slice (some ⟨gb, 0, none⟩) Lb cb) (nrow y) := fun W hW => by
          have h1 := HM.out.2.2.2.2.2.2.2.2.2
          have h2 := HL.out.1
          have h3 := HL.out.2.1
          refine ⟨?_, by rw [h3]; exact HRB.out.below hW (Nat.le_refl _)⟩
          have h4 := HRA.out.below hW (Nat.le_refl _)
          rw [← h2] at h4
          have h5 := NRow.take (L := (nrow x).take Lb) (M := (nrow x).drop Lb) (by rw [List.take_append_drop]; exact h4)
          rw [List.length_take, ← h2, Nat.min_eq_left h1] at h5
          exact h5
        have hga : ga < w.heap.size ∧ gb < w.heap.size ∧ B ≤ ga ∧ B ≤ gb := ⟨HRA.out.seg.2.2.2.2.2.block, HRB.out.seg.2.2.2.2.2.block, HRA.out.seg.2.2.1, HRB.out.seg.2.2.1⟩
        have hqb : w6.heap.size ≤ q ∧ w.heap.size ≤ z ∧ z + 1 < q ∧ g9 < q ∧ g10 < q := by
          have h1 := HM9.out.lt; have h2 := HM10.out.lt; have h3 := HC1a.out.lt; have h4 := HZ.out.1; have h5 := HG.out
          refine ⟨by omega, by omega, by omega, by omega, by omega⟩
        have hbB : Below B w W0 := hbq.mono HH.out.2.2.2.2
        obtain ⟨rA, rB⟩ := hrow W0 hbq
        have hNx0 : NxAt B z q g9 g10 gb ga cb ca Lb LB LA NA NB P1 P2 w 0 W0 :=
          ⟨[], [], 0, 0, 0, 0, 0, 0, ⟨rfl, rfl, Nat.zero_le _, fun _ h => (by cases h), fun _ h => (by cases h)⟩, ⟨by decide, by decide, by decide, by decide, by decide, by decide⟩, by simp [lv], by simp [lv],
            by rw [hP1]; exact rB, by rw [hP2]; exact rA, HM9.out.of_block (hbW.block g9 hqb.2.2.2.1), HM10.out.of_block (hbW.block g10 hqb.2.2.2.2), HC0a.out.below hbW (by omega), HC1a.out.below hbW (by omega), t0', t1', t2, Nat.le_of_eq hsz.symm, hbB⟩
        obtain ⟨X', hX'⟩ : ∃ X' : Nat → Nat, ∀ k, X' k = P1.getD k 0 := ⟨_, fun _ => rfl⟩
        obtain ⟨Y', hY'⟩ : ∃ Y' : Nat → Nat, ∀ k, Y' k = P2.getD k 0 := ⟨_, fun _ => rfl⟩
        have HX := Lib.hid hX'
        have HY := Lib.hid hY'
        have HLX := Lib.hid hlx
        have HSZ := Lib.hid hsz
        have HGA := Lib.hid hga
        have HQB := Lib.hid hqb
        have HPP := Lib.hid (And.intro hP1 hP2)
        have HLB9 : Hid (Lb ≤ 1048578) := Lib.hid (by omega)
        have HQ := Lib.hid hq
        clear hX' hY' hlx hsz hga hqb hP1 hP2 t0 t1 t2 t0' t1' s0 s1 s2 l0 l1 l2 hW0 hbW hbq hbB rA rB hrow d0 d1 d2 d3 c0b c1b c06 c16 hs6 hb6 hq
        refine wpIn_range_at (m := 1) (gf := 76) (lb := #[.pointer (some ⟨q + 1, 0, none⟩), .pointer (some ⟨q + 2, 0, none⟩)]) rfl (enters_of Try.func76 (by kernel_rfl) rfl) (pairs_at (q + 1) (q + 2) (some ⟨gb, 0, none⟩) (some ⟨ga, 0, none⟩) cb ca P1 P2 X' Y' HX.out HY.out (by rw [HLX.out.1]; have := HLB9.out; omega) (by rw [HLX.out.2.2.1]; have := HLB9.out; omega)) (fun _ => rfl)
          (NxAt B z q g9 g10 gb ga cb ca Lb LB LA NA NB P1 P2 w) (fun _ _ => False) (fun k W W' hb' h => h.below (by have := HQB.out; omega) (by have := HQB.out; omega) (by have := HQB.out; omega) (by have := HQB.out; have := HGA.out; omega) (by have := HQB.out; have := HGA.out; omega) (by have := HQB.out; have := HGA.out; omega) (by rw [← HSZ.out]; exact hb')) (fun _ _ _ _ h => h)
          (fun k W h => by obtain ⟨O1, O2, e1, o1, b1, e2, o2, b2, i1, i2, i3, i4, r1, r2, x1, x2, t1, t2, t3, t4, t5, hs, hl⟩ := h; rw [HSZ.out]; exact hs) (fun _ _ h => h.elim)
          (fun k W h => by
            obtain ⟨O1, O2, e1, o1, b1, e2, o2, b2, i1, i2, i3, i4, r1, r2, x1, x2, t1, t2, t3, t4, t5, hs, hl⟩ := h
            have f1 := r1.seg
            have f2 := r2.seg
            exact ⟨by rw [HLX.out.1]; exact t4.1, by rw [HLX.out.2.2.1]; exact t5.1, f1.2.2.2.2.2.from i1.1 (by rw [HLX.out.1]; exact i1.2.2.1), f2.2.2.2.2.2.from i1.2.1 (by rw [HLX.out.2.2.1]; exact i1.2.2.1)⟩) hNx0
          (fun k => { tmps := #[.slice (some ⟨ga, 0, none⟩) La ca, .slice (some ⟨gb, 0, none⟩) Lb cb, .pointer (some ⟨z, 0, none⟩), .pointer (some ⟨z + 1, 0, none⟩), .slice none 0 0, .slice none 0 0, .pointer (some ⟨p, 0, none⟩), undef, undef, .pointer (some ⟨g9, 0, none⟩), .pointer (some ⟨g10, 0, none⟩), .pointer (some ⟨q, 0, none⟩), .int .u64 ((X' k : Nat) : Int), .int .u64 ((Y' k : Nat) : Int),
            .slice (some ⟨ga, 0, none⟩) La ca, .slice (some ⟨gb, 0, none⟩) Lb cb, .tuple #[.int .u64 (xh : Int), .int .u64 (yh : Int)], .int .u64 (xh : Int), .int .u64 (yh : Int), .agg #[.bool true, .int .u64 (LA : Int), .int .u64 (LB : Int), .int .u64 (NA : Int), .int .u64 (NB : Int)], .pointer (some ⟨p, 2, none⟩), .int .u64 (LB : Int), .bool false, undef, undef, undef, undef, undef, undef, undef, undef, .slice (some ⟨ga, 0, none⟩) La ca, .slice (some ⟨gb, 0, none⟩) Lb cb, .int .i64 (Lb : Int), .slice (some ⟨ga, 0, none⟩) Lb ca, .pointer (some ⟨p, 0, none⟩), .bool true, .slice (some ⟨gb, 0, none⟩) Lb cb, .slice (some ⟨ga, 0, none⟩) Lb ca, .agg #[.bool true, .int .u64 (LA : Int), .int .u64 (LB : Int), .int .u64 (NA : Int), .int .u64 (NB : Int)], .agg #[.bool false, .int .u64 (LB : Int), .int .u64 (LA : Int), .int .u64 (NB : Int), .int .u64 (NA : Int)], .pointer (some ⟨p, 1, none⟩), .int .u64 (LB : Int), .pointer (some ⟨p, 2, none⟩), .int .u64 (LA : Int), .agg #[.int .u64 (LB : Int), .int .u64 (LA : Int), .int .u64 0, .int .u64 0, .int .u64 0], .pointer (some ⟨p, 4, none⟩), .int .u64 (NA : Int), .pointer (some ⟨p, 3, none⟩), .int .u64 (NB : Int), .agg #[.int .u64 (NA : Int), .int .u64 (NB : Int), .int .u64 0, .int .u64 0, .int .u64 0],
            .slice (some ⟨gb, 0, none⟩) Lb cb, .slice (some ⟨ga, 0, none⟩) Lb ca, .func (.func 76) #[] #[.pointer (some ⟨q + 1, 0, none⟩), .pointer (some ⟨q + 2, 0, none⟩)], .int .u64 ((X' k : Nat) : Int), .int .u64 ((Y' k : Nat) : Int),
            undef, undef, undef, undef, undef, undef, undef, undef, undef, undef, undef, undef, undef, undef, undef, undef, undef, undef], defers := [] })
          ?assign ?body ?done ?stop
        case assign =>
          intro l k W K hK
          gi_wp2
          exact hK
        case body =>
          rintro l k W hk ⟨O1, O2, e1, o1, b1, e2, o2, b2, ⟨i1, i2, i3, i4, i5⟩, ⟨u1, u2, u3, u4, u5, u6⟩, v1, v2, r1, r2, x1, x2, t1, t2, t3, t4, t5, hs, hl⟩
          have hxA : X' k = P1.getD k 0 := HX.out k
          have hyB : Y' k = P2.getD k 0 := HY.out k
          generalize X' k = xx at hxA ⊢
          generalize Y' k = yy at hyB ⊢
          have hkL : k < Lb := by rw [← HLX.out.1]; exact hk
          have hkI : (k : Int) < (Lb : Int) := by omega
          have hk0 : (0 : Int) ≤ (k : Int) := by omega
          have hk9 : (k : Int) ≤ 1048578 := by have := HLB9.out; omega
          have hxx : xx < 18446744073709551616 := by rw [hxA]; exact getD_fits HLX.out.2.1 k
          have hyy : yy < 18446744073709551616 := by rw [hyB]; exact getD_fits HLX.out.2.2.2 k
          have v1' := v1
          have v2' := v2
          have HI := Lib.hid (And.intro i1 (And.intro i2 (And.intro i3 (And.intro i4 i5))))
          have HV := Lib.hid (And.intro v1 v2)
          have HXY := Lib.hid (And.intro hxA hyB)
          have hbx := hs
          clear hxA hyB v1 v2 v1' v2' i1 i2 i3 i4 i5 hk
          gi_wp2
          refine wpIn_region_calmT (fun w' => w'.cell? ⟨z, 0, none⟩ = some (.slice (some ⟨gb, 0, none⟩) Lb cb) ∧ w'.cell? ⟨z + 1, 0, none⟩ = some (.slice (some ⟨ga, 0, none⟩) Lb ca) ∧ w'.cell? ⟨q, 0, none⟩ = some (.int .i64 (k : Int)))
            [.yes 0, .yes 1, .yes 2, .yes 3, .yes 4, .yes 5, .yes 7, .yes 8, .no 6, .no 9, .yes 10, .no 11, .yes 12, .no 13] 13 (by kernel_rfl) (by kernel_rfl) (by kernel_rfl) rfl (by kernel_rfl) (by kernel_rfl) ?_
          have hS : W.drew.cell? ⟨z, 0, none⟩ = some (.slice (some ⟨gb, 0, none⟩) Lb cb) ∧ W.drew.cell? ⟨z + 1, 0, none⟩ = some (.slice (some ⟨ga, 0, none⟩) Lb ca) ∧ W.drew.cell? ⟨q, 0, none⟩ = some (.int .i64 (k : Int)) := ⟨t1.1, t2.1, t3.1⟩
          repeat (refine walkT_yes rfl hS rfl (fun w' hw' => by obtain ⟨q0, q1, q2⟩ := hw'; go_simp; rfl) ?_; simp only [Act.put, List.setIfInBounds_toArray, List.set_cons_zero, List.set_cons_succ])
          refine walkT_no rfl rfl (fun K hK => ?_)
          go_simp
          have hM4 := HM.out
          refine (mix_any g9 xx yy LB LA e1 o1 b1 W.drew hxx hyy (by omega) (by omega) u1 u2 u3 x1).mono ?_
          rintro e W1 ⟨ra, e1', o1', b1', rfl, ha1, ha2, ha3, ha4, haM, hxa, hga1⟩
          have hN := HG.out
          have hNQ := HQB.out
          have hPZ := HPZ.out
          have hGA := HGA.out
          have hne12 : ga ≠ gb := HH.out.2.2.2.1
          have T1 : Box W1 z (.slice (some ⟨gb, 0, none⟩) Lb cb) := t1.drew.of_block (hga1.block z t1.lt (fun e => by cases e; omega))
          have T2 : Box W1 (z + 1) (.slice (some ⟨ga, 0, none⟩) Lb ca) := t2.drew.of_block (hga1.block (z + 1) t2.lt (fun e => by cases e; omega))
          have T3 : Box W1 q (.int .i64 (k : Int)) := t3.drew.of_block (hga1.block q t3.lt (fun e => by cases e; omega))
          have X1 : Mx W1 g10 NA NB e2 o2 b2 := x2.of_block (hga1.block g10 x2.lt (fun e => by cases e; omega))
          have A1 := r1.of_block (hga1.block gb r1.seg.2.2.2.2.2.block (fun e => by cases e; omega))
          have A2 := r2.of_block (hga1.block ga r2.seg.2.2.2.2.2.block (fun e => by cases e; omega))
          refine hK _ W1 (fun _ => ⟨T1.1, T2.1, T3.1⟩) ?_
          clear hK K
          refine walkT_no rfl rfl (fun K hK => ?_)
          go_simp
          refine (mix_any g10 yy xx NA NB e2 o2 b2 W1 hyy hxx (by omega) (by omega) u4 u5 u6 X1).mono ?_
          rintro e W2 ⟨rb, e2', o2', b2', rfl, hb1, hb2, hb3, hb4, hbM, hxb, hgb1⟩
          have U1 : Box W2 z (.slice (some ⟨gb, 0, none⟩) Lb cb) := T1.of_block (hgb1.block z T1.lt (fun e => by cases e; omega))
          have U2 : Box W2 (z + 1) (.slice (some ⟨ga, 0, none⟩) Lb ca) := T2.of_block (hgb1.block (z + 1) T2.lt (fun e => by cases e; omega))
          have U3 : Box W2 q (.int .i64 (k : Int)) := T3.of_block (hgb1.block q T3.lt (fun e => by cases e; omega))
          have Y1 : Mx W2 g9 LB LA e1' o1' b1' := hxa.of_block (hgb1.block g9 hxa.lt (fun e => by cases e; omega))
          have B1 := A1.of_block (hgb1.block gb A1.seg.2.2.2.2.2.block (fun e => by cases e; omega))
          have B2 := A2.of_block (hgb1.block ga A2.seg.2.2.2.2.2.block (fun e => by cases e; omega))
          refine hK _ W2 (fun _ => ⟨U1.1, U2.1, U3.1⟩) ?_
          clear hK K
          have hl1 : k < (O1 ++ P1.drop k).length := by rw [List.length_append, List.length_drop, HI.out.1, HLX.out.1]; omega
          have hl2 : k < (O2 ++ P2.drop k).length := by rw [List.length_append, List.length_drop, HI.out.2.1, HLX.out.2.2.1]; omega
          have cc1 := B1.seg.2.2.2.2.2.cell hl1
          have cf1 := B1.seg.2.2.2.2.2.frozen k
          rw [Nat.zero_add] at cc1
          have hS2 : W2.cell? ⟨z, 0, none⟩ = some (.slice (some ⟨gb, 0, none⟩) Lb cb) ∧ W2.cell? ⟨z + 1, 0, none⟩ = some (.slice (some ⟨ga, 0, none⟩) Lb ca) ∧ W2.cell? ⟨q, 0, none⟩ = some (.int .i64 (k : Int)) := ⟨U1.1, U2.1, U3.1⟩
          refine walkT_yes rfl hS2 rfl (fun w' hw' => by obtain ⟨q0, q1, q2⟩ := hw'; go_simp; rfl) ?_
          simp only [Act.put, List.setIfInBounds_toArray, List.set_cons_zero, List.set_cons_succ]
          refine walkT_no rfl rfl (fun K hK => ?_)
          go_simp
          obtain ⟨W3, hW3⟩ : ∃ W3, W3 = W2.setCell ⟨gb, k, none⟩ (.int .u64 (ra : Int)) := ⟨_, rfl⟩
          have V1 : Box W3 z (.slice (some ⟨gb, 0, none⟩) Lb cb) := by rw [hW3]; exact U1.other (p := ⟨gb, k, none⟩) (by show gb ≠ z; omega) _
          have V2 : Box W3 (z + 1) (.slice (some ⟨ga, 0, none⟩) Lb ca) := by rw [hW3]; exact U2.other (p := ⟨gb, k, none⟩) (by show gb ≠ z + 1; omega) _
          have V3 : Box W3 q (.int .i64 (k : Int)) := by rw [hW3]; exact U3.other (p := ⟨gb, k, none⟩) (by show gb ≠ q; omega) _
          have C1 := B1.setAt (x := ra) hl1
          rw [← hW3] at C1
          have C2 : NRow B W3 (.slice (some ⟨ga, 0, none⟩) Lb ca) (O2 ++ P2.drop k) := by rw [hW3]; exact B2.of_block (Below.heap_setCell _ ⟨gb, k, none⟩ _ _ (fun e => hne12 (by simpa using e)))
          have cc2 := C2.seg.2.2.2.2.2.cell hl2
          have cf2 := C2.seg.2.2.2.2.2.frozen k
          rw [Nat.zero_add] at cc2
          have hS3 : W3.cell? ⟨z, 0, none⟩ = some (.slice (some ⟨gb, 0, none⟩) Lb cb) ∧ W3.cell? ⟨z + 1, 0, none⟩ = some (.slice (some ⟨ga, 0, none⟩) Lb ca) ∧ W3.cell? ⟨q, 0, none⟩ = some (.int .i64 (k : Int)) := ⟨V1.1, V2.1, V3.1⟩
          rw [← hW3]
          refine hK _ W3 (fun _ => hS3) ?_
          have HW3 := Lib.hid hW3
          clear hK K hW3
          refine walkT_yes rfl hS3 rfl (fun w' hw' => by obtain ⟨q0, q1, q2⟩ := hw'; go_simp; rfl) ?_
          simp only [Act.put, List.setIfInBounds_toArray, List.set_cons_zero, List.set_cons_succ]
          refine walkT_no rfl rfl (fun K hK => ?_)
          go_simp
          obtain ⟨W4, hW4⟩ : ∃ W4, W4 = W3.setCell ⟨ga, k, none⟩ (.int .u64 (rb : Int)) := ⟨_, rfl⟩
          have Z1 : Box W4 z (.slice (some ⟨gb, 0, none⟩) Lb cb) := by rw [hW4]; exact V1.other (p := ⟨ga, k, none⟩) (by show ga ≠ z; omega) _
          have Z2 : Box W4 (z + 1) (.slice (some ⟨ga, 0, none⟩) Lb ca) := by rw [hW4]; exact V2.other (p := ⟨ga, k, none⟩) (by show ga ≠ z + 1; omega) _
          have Z3 : Box W4 q (.int .i64 (k : Int)) := by rw [hW4]; exact V3.other (p := ⟨ga, k, none⟩) (by show ga ≠ q; omega) _
          have D2 := C2.setAt (x := rb) hl2
          rw [← hW4] at D2 ⊢
          have D1 : NRow B W4 (.slice (some ⟨gb, 0, none⟩) Lb cb) ((O1 ++ P1.drop k).set k ra) := by rw [hW4]; exact C1.of_block (Below.heap_setCell _ ⟨ga, k, none⟩ _ _ (fun e => hne12 (by simpa using e.symm)))
          have E1 : Mx W4 g9 LB LA e1' o1' b1' := by rw [hW4, HW3.out]; exact (Y1.other (q := ⟨gb, k, none⟩) (by show gb ≠ g9; omega) _).other (q := ⟨ga, k, none⟩) (by show ga ≠ g9; omega) _
          have E2 : Mx W4 g10 NA NB e2' o2' b2' := by rw [hW4, HW3.out]; exact (hxb.other (q := ⟨gb, k, none⟩) (by show gb ≠ g10; omega) _).other (q := ⟨ga, k, none⟩) (by show ga ≠ g10; omega) _
          have hke : KeepsFrom W0.heap.size W W4 := by
            have h1 : KeepsFrom W0.heap.size W W2 := keeps_grown (keeps_grown (keeps_drew (KeepsFrom.refl _ W)) hga1 (by rw [HSZ.out]; omega)) hgb1 (by rw [HSZ.out]; omega)
            rw [hW4, HW3.out]
            exact keeps_set (keeps_set h1 _ _) _ _
          have S4 : Box W4 (q + 1) (.slice (some ⟨gb, 0, none⟩) Lb cb) := by
            rw [hW4, HW3.out]
            exact ((((t4.drew.of_block (hga1.block (q + 1) t4.lt (fun e => by cases e; omega))).of_block (hgb1.block (q + 1) (Nat.lt_of_lt_of_le t4.lt hga1.size) (fun e => by cases e; omega))).other (p := ⟨gb, k, none⟩) (by show gb ≠ q + 1; omega) _).other (p := ⟨ga, k, none⟩) (by show ga ≠ q + 1; omega) _)
          have S5 : Box W4 (q + 2) (.slice (some ⟨ga, 0, none⟩) Lb ca) := by
            rw [hW4, HW3.out]
            exact ((((t5.drew.of_block (hga1.block (q + 2) t5.lt (fun e => by cases e; omega))).of_block (hgb1.block (q + 2) (Nat.lt_of_lt_of_le t5.lt hga1.size) (fun e => by cases e; omega))).other (p := ⟨gb, k, none⟩) (by show gb ≠ q + 2; omega) _).other (p := ⟨ga, k, none⟩) (by show ga ≠ q + 2; omega) _)
          have hsz4 : q + 3 ≤ W4.heap.size := by
            rw [hW4, HW3.out, size_set, size_set]
            exact Nat.le_trans hs (Nat.le_trans hga1.size hgb1.size)
          have hl4 : Below B w W4 := by
            have h1 := (hl.drew).grown hga1 (Nat.le_trans (Nat.le_trans (show B ≤ w.heap.size from HH.out.2.2.2.2) hl.size) (Nat.le_refl _)) (fun g hg => by cases hg; omega)
            have h2 := h1.grown hgb1 (Nat.le_trans HH.out.2.2.2.2 h1.size) (fun g hg => by cases hg; omega)
            rw [hW4, HW3.out]
            exact (h2.setCell (p := ⟨gb, k, none⟩) (by show B ≤ gb; omega) _).setCell (p := ⟨ga, k, none⟩) (by show B ≤ ga; omega) _
          have HKE := Lib.hid hke
          have HD := Lib.hid (And.intro D1 D2)
          have HE := Lib.hid (And.intro E1 E2)
          have HZZ := Lib.hid (And.intro Z1 (And.intro Z2 (And.intro Z3 (And.intro S4 (And.intro S5 (And.intro hsz4 hl4))))))
          have HR1 := Lib.hid (And.intro ha1 (And.intro ha2 (And.intro ha3 (And.intro ha4 haM))))
          have HR2 := Lib.hid (And.intro hb1 (And.intro hb2 (And.intro hb3 (And.intro hb4 hbM))))
          have zc := Z3.1
          have zf := Z3.2
          refine hK _ W4 (fun h => absurd h (by decide)) ?_
          clear hK K hW4 cc1 cf1 cc2 cf2 hS hS2 hS3 A1 A2 B1 B2 C1 C2 D1 D2 E1 E2 Y1 X1 U1 U2 U3 V1 V2 V3 T1 T2 T3 hxa hxb hga1 hgb1 haM hbM hke S4 S5 hsz4 hl4 Z1 Z2 Z3
          simp only [walkT]
          refine ⟨rfl, ?_⟩
          gi_wp2
          have hI := HI.out
          have hR1 := HR1.out
          have hR2 := HR2.out
          have hZ := HZZ.out
          have hNQ := HQB.out
          have hGA := HGA.out
          have hN := HG.out
          have hP : 2 ^ (64 * (k + 1)) = 2 ^ (64 * k) * 18446744073709551616 := by rw [show 64 * (k + 1) = 64 * k + 64 by omega, Nat.pow_add]
          have q1 := mix_step HV.out.1 hR1.2.2.2.2
          have q2 := mix_step HV.out.2 hR2.2.2.2.2
          have w1 := lv_take_succ' P1 k
          have w2 := lv_take_succ' P2 k
          rw [← HXY.out.1] at w1
          rw [← HXY.out.2] at w2
          have hkP1 : k < P1.length := by rw [HLX.out.1]; exact hkL
          have hkP2 : k < P2.length := by rw [HLX.out.2.2.1]; exact hkL
          have w3 := set_mid (x := ra) hI.1 hkP1
          have w4 := set_mid (x := rb) hI.2.1 hkP2
          have hD1 := HD.out.1
          have hD2 := HD.out.2
          rw [w3] at hD1
          rw [w4] at hD2
          refine ⟨keeps_set HKE.out _ _, O1 ++ [ra], O2 ++ [rb], e1', o1', b1', e2', o2', b2', ⟨by rw [List.length_append, hI.1]; rfl, by rw [List.length_append, hI.2.1]; rfl, hkL, fits_snoc hI.2.2.2.1 hR1.1, fits_snoc hI.2.2.2.2 hR2.1⟩, ⟨hR1.2.1, hR1.2.2.1, hR1.2.2.2.1, hR2.2.1, hR2.2.2.1, hR2.2.2.2.1⟩, ?_, ?_,
            hD1.of_block (Below.heap_setCell _ ⟨q, 0, none⟩ _ _ (by show gb ≠ q; omega)), hD2.of_block (Below.heap_setCell _ ⟨q, 0, none⟩ _ _ (by show ga ≠ q; omega)), HE.out.1.other (q := ⟨q, 0, none⟩) (by show q ≠ g9; omega) _, HE.out.2.other (q := ⟨q, 0, none⟩) (by show q ≠ g10; omega) _,
            hZ.1.other (p := ⟨q, 0, none⟩) (by show q ≠ z; omega) _, hZ.2.1.other (p := ⟨q, 0, none⟩) (by show q ≠ z + 1; omega) _, hZ.2.2.1.set _, hZ.2.2.2.1.other (p := ⟨q, 0, none⟩) (by show q ≠ q + 1; omega) _, hZ.2.2.2.2.1.other (p := ⟨q, 0, none⟩) (by show q ≠ q + 2; omega) _,
            by rw [size_set]; exact hZ.2.2.2.2.2.1, hZ.2.2.2.2.2.2.setCell (p := ⟨q, 0, none⟩) (by show B ≤ q; omega) _⟩
          · rw [lv_snoc, hI.1, w1, w2, hP]; exact q1
          · rw [lv_snoc, hI.2.1, w1, w2, hP]; exact q2
        case done =>
          rintro D W hD ⟨O1, O2, e1, o1, b1, e2, o2, b2, ⟨i1, i2, i3, i4, i5⟩, ⟨u1, u2, u3, u4, u5, u6⟩, v1, v2, r1, r2, x1, x2, t1, t2, t3, t4, t5, hs, hl⟩ hK
          have e0 := HLX.out.1
          rw [e0] at i1 i2 i3 v1 v2 r1 r2 t3
          have hd1 : P1.drop Lb = [] := List.drop_eq_nil_of_le (Nat.le_of_eq HLX.out.1)
          have hd2 : P2.drop Lb = [] := List.drop_eq_nil_of_le (Nat.le_of_eq HLX.out.2.2.1)
          rw [hd1, List.append_nil] at r1
          rw [hd2, List.append_nil] at r2
          rw [List.take_of_length_le (Nat.le_of_eq HLX.out.1), List.take_of_length_le (Nat.le_of_eq HLX.out.2.2.1)] at v1 v2
          have hM := HM.out
          have hyl : y < 2 ^ (64 * Lb) := by have := lv_lt (nrow_fits y); rw [lv_nrow, ← HL.out.2.1] at this; exact this
          have hsp := lv_split (nrow x) (k := Lb) (by rw [← HL.out.1]; exact hM.2.2.2.2.2.2.2.2.2)
          rw [lv_nrow] at hsp
          obtain ⟨h, hh⟩ : ∃ h, h = lv ((nrow x).drop Lb) := ⟨_, rfl⟩
          obtain ⟨XT, hXT⟩ : ∃ XT, XT = lv ((nrow x).take Lb) := ⟨_, rfl⟩
          rw [← hh, ← hXT] at hsp
          have hP1v : lv P1 = y := by rw [HPP.out.1]; exact lv_nrow y
          have hP2v : lv P2 = XT := by rw [HPP.out.2]; exact hXT.symm
          rw [hP1v, hP2v] at v1 v2
          have hO1 : lv O1 < 2 ^ (64 * Lb) := by rw [← i1]; exact lv_lt i4
          have hO2 : lv O2 < 2 ^ (64 * Lb) := by rw [← i2]; exact lv_lt i5
          have z1 : lv O1 = Lt := mix_done (u := 0) (v := LA * h) v1 (by
            have h9 := hM.2.2.2.2.2.1
            rw [hsp] at h9
            simp only [dl] at h9
            have : ((LB * y + 2 ^ (64 * Lb) * (0) : Nat) : Int) = ((Lt + LA * XT + 2 ^ (64 * Lb) * (LA * h) : Nat) : Int) := by push_cast at h9 ⊢; grind
            exact_mod_cast this) hO1 (Nat.lt_of_le_of_lt hM.2.2.2.2.2.2.2.1 hyl)
          have z2 : lv O2 = X := mix_done (u := NA * h) (v := 0) v2 (by
            have h9 := hM.2.2.2.2.1
            rw [hsp] at h9
            simp only [dl] at h9
            have : ((NA * XT + 2 ^ (64 * Lb) * (NA * h) : Nat) : Int) = ((X + NB * y + 2 ^ (64 * Lb) * (0) : Nat) : Int) := by push_cast at h9 ⊢; grind
            exact_mod_cast this) hO2 (Nat.lt_of_lt_of_le hM.2.2.2.2.2.2.1 (Nat.le_of_lt (Nat.lt_of_le_of_lt hM.2.2.2.2.2.2.2.1 hyl)))
          have f1 := r1.seg
          have f2 := r2.seg
          have A1 : NRow B W (.slice (some ⟨gb, 0, none⟩) O1.length cb) O1 := by rw [i1]; exact r1
          have A2 : NRow B W (.slice (some ⟨ga, 0, none⟩) O2.length ca) O2 := by rw [i2]; exact r2
          have N1 := A1.norm i4
          have N2 := A2.norm i5
          rw [z1] at N1
          rw [z2] at N2
          have tr1 := trim_any (some ⟨gb, 0, none⟩) cb O1 W.drew (by rw [i1]; have := HLB9.out; omega) (by rw [i1]; have := f1.2.2.2.1; omega) i4 f1.2.2.2.2.2.natAt
          have tr2 := trim_any (some ⟨ga, 0, none⟩) ca O2 W.drew (by rw [i2]; have := HLB9.out; omega) (by rw [i2]; have := f2.2.2.2.1; omega) i5 f2.2.2.2.2.2.natAt
          rw [i1, z1] at tr1
          rw [i2, z2] at tr2
          have TR1 := Lib.hid tr1
          have TR2 := Lib.hid tr2
          have HN12 := Lib.hid (And.intro N1 N2)
          have HLW := Lib.hid (And.intro hl hs)
          have hS : W.drew.cell? ⟨z, 0, none⟩ = some (.slice (some ⟨gb, 0, none⟩) Lb cb) ∧ W.drew.cell? ⟨z + 1, 0, none⟩ = some (.slice (some ⟨ga, 0, none⟩) Lb ca) := ⟨t1.1, t2.1⟩
          clear e0 i1 i2 i3 i4 i5 u1 u2 u3 u4 u5 u6 v1 v2 r1 r2 x1 x2 t1 t2 t3 t4 t5 hs hl hd1 hd2 hM hyl hsp hh hXT hP1v hP2v hO1 hO2 z1 z2 f1 f2 A1 A2 N1 N2 tr1 tr2
          gi_wp2_with fail
          refine wpIn_region_wideT (fun w' => w'.cell? ⟨z, 0, none⟩ = some (.slice (some ⟨gb, 0, none⟩) Lb cb) ∧ w'.cell? ⟨z + 1, 0, none⟩ = some (.slice (some ⟨ga, 0, none⟩) Lb ca))
            [.yes 0, .yes 2, .no 1, .no 3, .yes 4, .yes 5] 6 (by kernel_rfl) (by kernel_rfl) rfl (by kernel_rfl) (by kernel_rfl) ?_
          repeat (refine walkT_yes rfl hS rfl (fun w' hw' => by obtain ⟨q0, q1⟩ := hw'; go_simp; rfl) ?_; simp only [Act.put, List.setIfInBounds_toArray, List.set_cons_zero, List.set_cons_succ])
          refine walkT_no rfl rfl (fun K hK2 => ?_)
          go_simp
          refine TR1.out.mono ?_
          rintro e w' ⟨rfl, rfl⟩
          refine hK2 _ _ (fun _ => hS) ?_
          clear hK2 K
          refine walkT_no rfl rfl (fun K hK2 => ?_)
          go_simp
          refine TR2.out.mono ?_
          rintro e w' ⟨rfl, rfl⟩
          refine hK2 _ _ (fun _ => hS) ?_
          clear hK2 K
          repeat (refine walkT_yes rfl hS rfl (fun w' hw' => by obtain ⟨q0, q1⟩ := hw'; go_simp; rfl) ?_; simp only [Act.put, List.setIfInBounds_toArray, List.set_cons_zero, List.set_cons_succ])
          simp only [walkT]
          refine ⟨rfl, ?_⟩
          gi_wp2_with fail
          have hsW : W0.heap.size ≤ W.drew.heap.size := by rw [HSZ.out]; exact HLW.out.2
          have b1 : Below W0.heap.size W.drew (W.drew.putObj D (.deferred none)) := below_putObj W.drew D _ hD hsW
          have hM := HM.out
          have hNQ := HQB.out
          have hGA := HGA.out
          refine ⟨by simp, .inl ⟨_, _, rfl, run_takeDeferred (show W.drew.heap[D]? = _ from hK), ?_⟩⟩
          refine ⟨_, results_tmp2 rfl _ _ _, ?_⟩
          refine ⟨_, _, Lt, X, rfl, hM.2.2.2.2.2.2.2.2.1, Nat.le_of_lt hM.2.2.2.2.2.2.1, Nat.le_trans hM.2.2.2.2.2.2.2.1 HH.out.2.1, Nat.lt_of_lt_of_le hM.2.2.2.2.2.2.1 hM.2.2.2.2.2.2.2.1, ?_, ?_, ?_, ?_⟩
          · exact HN12.out.1.of_block (b1.block gb (by rw [HSZ.out]; omega))
          · exact HN12.out.2.of_block (b1.block ga (by rw [HSZ.out]; omega))
          · intro e
            have e' : (Value.slice (some ⟨gb, 0, none⟩) (nrow Lt).length cb).ownBlock = (Value.slice (some ⟨ga, 0, none⟩) (nrow X).length ca).ownBlock := e
            have hne12 : ga ≠ gb := HH.out.2.2.2.1
            exact hne12 (by simpa [Value.ownBlock] using e'.symm)
          · exact (HLW.out.1.drew).trans (b1.mono (by rw [HSZ.out]; omega))
        case stop =>
          rintro D k W _ _ h _
          exact h.elim
end Go.Proofs.Ytcdedaihkfpafaa

namespace Go.Proofs.Ytcdedaihkfpafaa
open Go.RowKit

theorem next_ok : NextOK := by
  intro B w va vb x y hsx hyx hly hra hrb hne hB
  obtain ⟨A, ca, rfl, _⟩ := hra.at_
  obtain ⟨A', cb, rfl, _⟩ := hrb.at_
  obtain ⟨ga, rfl, _⟩ := hra.head0 (by have := nrow_mono hyx; omega)
  obtain ⟨gb, rfl, _⟩ := hrb.head0 (by omega)
  exact next_div B ga gb ca cb x y w hsx hyx hly hra hrb (by rintro rfl; exact hne rfl) hB

end Go.Proofs.Ytcdedaihkfpafaa
