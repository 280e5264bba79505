/-
  The texts NatCmp, NatSum, NatShift, NatShr, NatMul, one behind the other.
-/
import Derived.Test.YtofpcdjoljjnoaaGreatDoorTapY01
import Derived.Test.YtofpcdjoljjnoaaGreatDoorTapY02
import Derived.Deep.QuietTactic
import Derived.BigQuiet

namespace Go.Proofs.YtofpcdjoljjnoaaGreatDoor
set_option maxRecDepth 100000
open Go.RowKit

theorem above_top {A B : List Nat} (ha : Fits A) (hb : Fits B) (n : Nat) (h1 : A.length ≤ n) (h2 : B.length ≤ n) : lv A / 2 ^ (32 * (2 * n)) = lv B / 2 ^ (32 * (2 * n)) := by
  have e : 32 * (2 * n) = 64 * n := by omega
  rw [e, Nat.div_eq_of_lt (Nat.lt_of_lt_of_le (lv_lt ha) (Nat.pow_le_pow_right (by omega) (by omega))),
    Nat.div_eq_of_lt (Nat.lt_of_lt_of_le (lv_lt hb) (Nat.pow_le_pow_right (by omega) (by omega)))]

theorem div_dg {A : List Nat} (ha : Fits A) (i : Nat) : lv A / 2 ^ (32 * i) = 2 ^ 32 * (lv A / 2 ^ (32 * (i + 1))) + dg A i := by
  have e : 32 * (i + 1) = 32 * i + 32 := by omega
  rw [dg_eq ha, e, Nat.pow_add, ← Nat.div_div_eq_div_mul]
  omega

theorem lt_of_div {a b k : Nat} (h : a / k < b / k) : a < b := by
  rcases Nat.lt_or_ge a b with h1 | h1
  · exact h1
  · have := Nat.div_le_div_right (c := k) h1; omega

theorem above_step {A B : List Nat} (ha : Fits A) (hb : Fits B) (i : Nat) (h : lv A / 2 ^ (32 * (i + 1)) = lv B / 2 ^ (32 * (i + 1))) (hd : dg A i = dg B i) : lv A / 2 ^ (32 * i) = lv B / 2 ^ (32 * i) := by
  rw [div_dg ha, div_dg hb, h, hd]

theorem above_lt {A B : List Nat} (ha : Fits A) (hb : Fits B) (i : Nat) (h : lv A / 2 ^ (32 * (i + 1)) = lv B / 2 ^ (32 * (i + 1))) (hd : dg A i < dg B i) : lv A < lv B := by
  apply lt_of_div (k := 2 ^ (32 * i))
  rw [div_dg ha, div_dg hb, h]; omega

/-- What a comparison answers. -/
def cmpV (a b : Nat) : Int := if a < b then -1 else if b < a then 1 else 0
theorem ndigit_at {a : Option Addr} {ca : Nat} {A : List Nat} {w : World} {j x : Int} {k : Nat} (hj : j = (k : Int)) (hk : k ≤ 2199023255552) (fa : Fits A) (ma : NatAt w a A) (hx : x = ((dg A k : Nat) : Int)) :
    Calls Tryz.prog 105 #[.slice a A.length ca, .int .i64 j] w fun e w' => e = .returned (.int .u64 x) ∧ w' = w := by
  refine (ndigit_any a ca A j k _ hj hk fa ma).mono ?_
  rintro e w' ⟨z, hz, he, hw'⟩
  exact ⟨by rw [he, hz, hx], hw'.symm⟩
def CmpPost (w : World) (a b : Nat) (e : Ending) (w' : World) : Prop := e = .returned (.int .i64 (cmpV a b)) ∧ w = w'
theorem cmpV_lt {a b : Nat} (h : a < b) : cmpV a b = -1 := by unfold cmpV; rw [if_pos h]
theorem cmpV_gt {a b : Nat} (h : b < a) : cmpV a b = 1 := by unfold cmpV; rw [if_neg (by omega), if_pos h]
theorem cmpV_eq {a b : Nat} (h : a = b) : cmpV a b = 0 := by unfold cmpV; rw [if_neg (by omega), if_neg (by omega)]

def CmpRel (A B : List Nat) (i : Value) : Prop := ∃ k : Nat, k ≤ 2199023255552 ∧ i = .int .i64 ((k : Int) - 1) ∧ lv A / 2 ^ (32 * k) = lv B / 2 ^ (32 * k)

set_option maxHeartbeats 2000000 in
theorem ncmp_any (a b : Option Addr) (ca cb : Nat) (A B : List Nat) (w : World) (hA : A.length ≤ 1099511627776) (hB : B.length ≤ 1099511627776) (fa : Fits A) (fb : Fits B) (ma : NatAt w a A) (mb : NatAt w b B) :
    Calls Tryz.prog 107 #[.slice a A.length ca, .slice b B.length cb] w (CmpPost w (lv A) (lv B)) := by
  by_cases hl : A.length < B.length
  · have HT := Lib.hid (above_top fa fb B.length (by omega) (by omega))
    go_enter Tryz.func107, Tryz.ntmps107
    go_wp2_with fail
    go_loop [5] (fun i => CmpRel A B i) (fun i => (intOf i + 1).toNat)
    case atStart => exact ⟨2 * B.length, by omega, by go_num, HT.out⟩
    case round =>
      obtain ⟨k, hk, rfl, hab⟩ := hrel
      rcases k with _ | k
      · have HE : Hid (cmpV (lv A) (lv B) = 0) := Lib.hid (cmpV_eq (by simpa using hab))
        clear hab
        go_wp2_with fail
        go_ret
        exact ⟨by rw [HE.out]; rfl, rfl⟩
      · obtain ⟨j, hj⟩ : ∃ j : Int, j = (k : Int) := ⟨_, rfl⟩
        have HJ := Lib.hid hj
        have ej : ((k + 1 : Nat) : Int) - 1 = j := by omega
        rw [ej]
        have hj0 : 0 ≤ j := by omega
        have hjm : j ≤ 2199023255552 := by omega
        have HAB := Lib.hid hab
        have HK : Hid (k ≤ 2199023255552) := Lib.hid (by omega)
        obtain ⟨x, hx⟩ : ∃ x : Int, x = ((dg A k : Nat) : Int) := ⟨_, rfl⟩
        obtain ⟨y, hy⟩ : ∃ y : Int, y = ((dg B k : Nat) : Int) := ⟨_, rfl⟩
        have HX := Lib.hid hx
        have HY := Lib.hid hy
        have HDA := Lib.hid (ndigit_at (ca := ca) hj HK.out fa ma hx)
        have HDB := Lib.hid (ndigit_at (ca := cb) hj HK.out fb mb hy)
        clear hab hj hk hx hy ej
        rcases Int.lt_trichotomy x y with hlt | heq | hgt
        · have HE : Hid (cmpV (lv A) (lv B) = -1) := Lib.hid (cmpV_lt (above_lt fa fb k HAB.out (by have := HX.out; have := HY.out; omega)))
          go_wp2_with fail
          refine HDA.out.mono ?_
          rintro e w' ⟨rfl, rfl⟩
          go_wp2_with fail
          refine HDB.out.mono ?_
          rintro e w' ⟨rfl, rfl⟩
          go_wp2_with fail
          go_ret
          exact ⟨by rw [HE.out]; rfl, rfl⟩
        · have HE : Hid (lv A / 2 ^ (32 * k) = lv B / 2 ^ (32 * k)) := Lib.hid (above_step fa fb k HAB.out (by have := HX.out; have := HY.out; omega))
          have hn1 : ¬ x < y := by omega
          have hn2 : ¬ x > y := by omega
          clear heq
          go_wp2_with fail
          refine HDA.out.mono ?_
          rintro e w' ⟨rfl, rfl⟩
          go_wp2_with fail
          refine HDB.out.mono ?_
          rintro e w' ⟨rfl, rfl⟩
          go_wp2_with fail
          refine HDA.out.mono ?_
          rintro e w' ⟨rfl, rfl⟩
          go_wp2_with fail
          refine HDB.out.mono ?_
          rintro e w' ⟨rfl, rfl⟩
          go_wp2_with fail
          go_round
          case rel => exact ⟨k, HK.out, by rw [← HJ.out], HE.out⟩
          case measure => simp [intOf]; omega
        · have HE : Hid (cmpV (lv A) (lv B) = 1) := Lib.hid (cmpV_gt (above_lt fb fa k HAB.out.symm (by have := HX.out; have := HY.out; omega)))
          have hn1 : ¬ x < y := by omega
          go_wp2_with fail
          refine HDA.out.mono ?_
          rintro e w' ⟨rfl, rfl⟩
          go_wp2_with fail
          refine HDB.out.mono ?_
          rintro e w' ⟨rfl, rfl⟩
          go_wp2_with fail
          refine HDA.out.mono ?_
          rintro e w' ⟨rfl, rfl⟩
          go_wp2_with fail
          refine HDB.out.mono ?_
          rintro e w' ⟨rfl, rfl⟩
          go_wp2_with fail
          go_ret
          exact ⟨by rw [HE.out]; rfl, rfl⟩
  · have HT := Lib.hid (above_top fa fb A.length (by omega) (by omega))
    go_enter Tryz.func107, Tryz.ntmps107
    go_wp2_with fail
    go_loop [5] (fun i => CmpRel A B i) (fun i => (intOf i + 1).toNat)
    case atStart => exact ⟨2 * A.length, by omega, by go_num, HT.out⟩
    case round =>
      obtain ⟨k, hk, rfl, hab⟩ := hrel
      rcases k with _ | k
      · have HE : Hid (cmpV (lv A) (lv B) = 0) := Lib.hid (cmpV_eq (by simpa using hab))
        clear hab
        go_wp2_with fail
        go_ret
        exact ⟨by rw [HE.out]; rfl, rfl⟩
      · obtain ⟨j, hj⟩ : ∃ j : Int, j = (k : Int) := ⟨_, rfl⟩
        have HJ := Lib.hid hj
        have ej : ((k + 1 : Nat) : Int) - 1 = j := by omega
        rw [ej]
        have hj0 : 0 ≤ j := by omega
        have hjm : j ≤ 2199023255552 := by omega
        have HAB := Lib.hid hab
        have HK : Hid (k ≤ 2199023255552) := Lib.hid (by omega)
        obtain ⟨x, hx⟩ : ∃ x : Int, x = ((dg A k : Nat) : Int) := ⟨_, rfl⟩
        obtain ⟨y, hy⟩ : ∃ y : Int, y = ((dg B k : Nat) : Int) := ⟨_, rfl⟩
        have HX := Lib.hid hx
        have HY := Lib.hid hy
        have HDA := Lib.hid (ndigit_at (ca := ca) hj HK.out fa ma hx)
        have HDB := Lib.hid (ndigit_at (ca := cb) hj HK.out fb mb hy)
        clear hab hj hk hx hy ej
        rcases Int.lt_trichotomy x y with hlt | heq | hgt
        · have HE : Hid (cmpV (lv A) (lv B) = -1) := Lib.hid (cmpV_lt (above_lt fa fb k HAB.out (by have := HX.out; have := HY.out; omega)))
          go_wp2_with fail
          refine HDA.out.mono ?_
          rintro e w' ⟨rfl, rfl⟩
          go_wp2_with fail
          refine HDB.out.mono ?_
          rintro e w' ⟨rfl, rfl⟩
          go_wp2_with fail
          go_ret
          exact ⟨by rw [HE.out]; rfl, rfl⟩
        · have HE : Hid (lv A / 2 ^ (32 * k) = lv B / 2 ^ (32 * k)) := Lib.hid (above_step fa fb k HAB.out (by have := HX.out; have := HY.out; omega))
          have hn1 : ¬ x < y := by omega
          have hn2 : ¬ x > y := by omega
          clear heq
          go_wp2_with fail
          refine HDA.out.mono ?_
          rintro e w' ⟨rfl, rfl⟩
          go_wp2_with fail
          refine HDB.out.mono ?_
          rintro e w' ⟨rfl, rfl⟩
          go_wp2_with fail
          refine HDA.out.mono ?_
          rintro e w' ⟨rfl, rfl⟩
          go_wp2_with fail
          refine HDB.out.mono ?_
          rintro e w' ⟨rfl, rfl⟩
          go_wp2_with fail
          go_round
          case rel => exact ⟨k, HK.out, by rw [← HJ.out], HE.out⟩
          case measure => simp [intOf]; omega
        · have HE : Hid (cmpV (lv A) (lv B) = 1) := Lib.hid (cmpV_gt (above_lt fb fa k HAB.out.symm (by have := HX.out; have := HY.out; omega)))
          have hn1 : ¬ x < y := by omega
          go_wp2_with fail
          refine HDA.out.mono ?_
          rintro e w' ⟨rfl, rfl⟩
          go_wp2_with fail
          refine HDB.out.mono ?_
          rintro e w' ⟨rfl, rfl⟩
          go_wp2_with fail
          refine HDA.out.mono ?_
          rintro e w' ⟨rfl, rfl⟩
          go_wp2_with fail
          refine HDB.out.mono ?_
          rintro e w' ⟨rfl, rfl⟩
          go_wp2_with fail
          go_ret
          exact ⟨by rw [HE.out]; rfl, rfl⟩
end Go.Proofs.YtofpcdjoljjnoaaGreatDoor

namespace Go.Proofs.YtofpcdjoljjnoaaGreatDoor
set_option maxRecDepth 100000
open Go.RowKit

/-- A row of digits of the call's own. -/
def ORow (B : Nat) (w : World) (v : Value) (o : List Nat) : Prop := w.ownsRow B 100 1 v o.length (U o)

/-- Digits of a sum, with what is carried. -/
def AddRel (A B : List Nat) (N : Nat) (w : World) (v c i : Value) (wr : World) : Prop :=
  ∃ (k cr : Nat) (o : List Nat), k ≤ 2 * N + 1 ∧ i = .int .i64 (k : Int) ∧ c = .int .u64 (cr : Int) ∧ cr ≤ 1 ∧ o.length = k ∧ Small o ∧
    dv o + 2 ^ (32 * k) * cr = lv A % 2 ^ (32 * k) + lv B % 2 ^ (32 * k) ∧ ORow w.heap.size wr v o ∧ Below w.heap.size w wr

theorem dg_lt {L : List Nat} (h : Fits L) (i : Nat) : dg L i < 4294967296 := by rw [dg_eq h]; exact Nat.mod_lt _ (by decide)

theorem dv_full {o : List Nat} {a k c : Nat} (h : dv o + 2 ^ k * c = a) (ha : a < 2 ^ k) : dv o = a := by
  rcases c with _ | c
  · simpa using h
  · rw [Nat.mul_succ] at h; omega
theorem small_snoc {o : List Nat} {r : Nat} (h : Small o) (hr : r < 4294967296) : Small (o ++ [r]) := by
  intro x hx
  rcases List.mem_append.1 hx with hx | hx
  · exact h x hx
  · simp at hx; subst hx; exact hr
theorem orow_snoc {B : Nat} {w : World} {v : Value} {o : List Nat} {k r : Nat} {z : Int} (h : w.ownsRow B 100 1 v (k + 1) (U o ++ [.int .u64 z])) (hk : o.length = k) (hz : z = (r : Int)) : ORow B w v (o ++ [r]) := by
  unfold ORow
  rw [List.length_append, hk, U_append]
  subst hz; exact h

set_option maxHeartbeats 4000000 in
theorem nadd_any (a b : Option Addr) (ca cb : Nat) (A B : List Nat) (w : World) (hA : A.length ≤ 549755813887) (hB : B.length ≤ 549755813887) (fa : Fits A) (fb : Fits B) (ma : NatAt w a A) (mb : NatAt w b B) :
    Calls Tryz.prog 104 #[.slice a A.length ca, .slice b B.length cb] w (NRes w (lv A + lv B)) := by
  obtain ⟨i0, hi, hz0, hz1, hz2⟩ := info_parts info_u64
  have hcase : ∃ N : Nat, N ≤ 549755813887 ∧ ((A.length < B.length ∧ Hid (N = B.length)) ∨ (¬ A.length < B.length ∧ Hid (N = A.length))) := by
    by_cases h : A.length < B.length
    · exact ⟨B.length, hB, .inl ⟨h, rfl⟩⟩
    · exact ⟨A.length, hA, .inr ⟨h, rfl⟩⟩
  obtain ⟨N, hN, hcase⟩ := hcase
  have MA := Lib.hid ma
  have MB := Lib.hid mb
  have FA := Lib.hid fa
  have FB := Lib.hid fb
  clear ma mb fa fb
  rcases hcase with ⟨hl, HN⟩ | ⟨hl, HN⟩
  all_goals
    go_enter Tryz.func104, Tryz.ntmps104
    go_wp2_with fail
    go_loopw [5, 6, 7] (fun v c i wr => AddRel A B N w v c i wr) (fun _ _ i _ => 2 * N + 1 - (intOf i).toNat)
    case atStart => exact ⟨0, 0, [], by omega, rfl, rfl, by omega, rfl, fun x hx => (by cases hx), by simp [dv, Nat.mod_one], World.ownsRow_nil _ _ _ _, Below.refl _ _⟩
    case round =>
      obtain ⟨k, cr, o, hk, rfl, rfl, hcr, hol, hos, hv, how, hbel⟩ := hrel
      have hk0 : (0 : Int) ≤ (k : Int) := by omega
      have HBL := Lib.hid hbel
      have HOL := Lib.hid hol
      have HOS := Lib.hid hos
      have HV := Lib.hid hv
      have hbs := hbel.size
      have ma2 := MA.out.below hbel (Nat.le_refl _)
      have mb2 := MB.out.below hbel (Nat.le_refl _)
      by_cases hlt : k ≤ 2 * N
      · first
          | (have hkI : (k : Int) ≤ 2 * (B.length : Int) := by have := HN.out; omega)
          | (have hkI : (k : Int) ≤ 2 * (A.length : Int) := by have := HN.out; omega)
        obtain ⟨x, hx⟩ : ∃ x : Int, x = ((dg A k : Nat) : Int) := ⟨_, rfl⟩
        obtain ⟨y, hy⟩ : ∃ y : Int, y = ((dg B k : Nat) : Int) := ⟨_, rfl⟩
        obtain ⟨c, hc⟩ : ∃ c : Int, c = (cr : Int) := ⟨_, rfl⟩
        have hdx := dg_lt FA.out k
        have hdy := dg_lt FB.out k
        have HDA := Lib.hid (ndigit_at (ca := ca) (w := wr) (j := (k : Int)) rfl (by omega) FA.out ma2 hx)
        have HDB := Lib.hid (ndigit_at (ca := cb) (w := wr) (j := (k : Int)) rfl (by omega) FB.out mb2 hy)
        have hst := add_step (a := lv A) (b := lv B) HV.out
        rw [← dg_eq FA.out, ← dg_eq FB.out] at hst
        obtain ⟨r, hr⟩ : ∃ r, r = (dg A k + dg B k + cr) % 2 ^ 32 := ⟨_, rfl⟩
        obtain ⟨q, hq⟩ : ∃ q, q = (dg A k + dg B k + cr) / 2 ^ 32 := ⟨_, rfl⟩
        rw [← hr, ← hq] at hst
        have HST : Hid (dv (o ++ [r]) + 2 ^ (32 * (k + 1)) * q = lv A % 2 ^ (32 * (k + 1)) + lv B % 2 ^ (32 * (k + 1))) := Lib.hid (by rw [dv_snoc, HOL.out]; exact hst)
        have HR : Hid ((x + y + c) % 4294967296 = (r : Int)) := Lib.hid (by omega)
        have HQ : Hid ((x + y + c) / 4294967296 = (q : Int)) := Lib.hid (by omega)
        have HQ1 : Hid (q ≤ 1) := Lib.hid (by omega)
        have HR1 : Hid (r < 4294967296) := Lib.hid (by omega)
        have HK : Hid (k + 1 ≤ 2 * N + 1) := Lib.hid (by omega)
        have x0 : 0 ≤ x := by omega
        have x1 : x < 4294967296 := by omega
        have y0 : 0 ≤ y := by omega
        have y1 : y < 4294967296 := by omega
        have c0 : 0 ≤ c := by omega
        have c1 : c ≤ 1 := by omega
        have HO := Lib.hid how
        have hkm : k + 1 ≤ 1099511627776 := by omega
        rw [← hc]
        clear hx hy hc hdx hdy hst hr hq hcr hol hos hv hbel ma2 mb2 hlt hk how
        go_wp2_with fail
        refine HDA.out.mono ?_
        rintro e w' ⟨rfl, rfl⟩
        go_wp2_with fail
        refine HDB.out.mono ?_
        rintro e w' ⟨rfl, rfl⟩
        go_wp2_with (
          (at_builtin
           refine wpList_append_own _ rfl (.tmp 28) (.tmp 31) 41 rfl w.heap.size 100 i0 _ 1 8 Tryz.underlying41 hi hz0 hz1 hz2 rfl (by omega) _ k (U o) rfl ?d0 ⟨w'.heap.size, 0, none⟩ 1 1 [.int .u64 ((x + y + c) % 4294967296)] rfl rfl ?d1 ?d2 ?d3 ?d4 ?d5 ?_
           case d0 => exact World.ownsRow.alloc (by have h := HO.out; unfold ORow at h; rw [HOL.out] at h; exact h) _
           case d1 => exact (cell_one_new _ _ _)
           case d2 => intro u hu; simp at hu; subst hu; rfl
           case d3 => unfold maxLen; omega
           case d4 => omega
           case d5 => simp; omega
           intro v3 w3 hown3 hg3 _
           have HO3 := Lib.hid (orow_snoc hown3 HOL.out HR.out)
           have HB3 : Hid (Below w.heap.size w w3) := Lib.hid ((HBL.out.alloc hbs _).grown hg3 (by simp; omega) (fun k hk => (HO.out.lt k hk).1))
           clear hown3 hg3))
        go_roundw
        case rel => exact ⟨k + 1, q, o ++ [r], HK.out, by go_num, by rw [HQ.out], HQ1.out, by rw [List.length_append, HOL.out]; rfl, small_snoc HOS.out HR1.out, HST.out, HO3.out, HB3.out⟩
        case measure => have := HK.out; simp [intOf]; omega
      · have hkB : 2 * (B.length : Int) < (k : Int) := by have := HN.out; omega
        have hkA : 2 * (A.length : Int) < (k : Int) := by have := HN.out; omega
        obtain rfl : k = 2 * N + 1 := by omega
        have hpA : lv A < 2 ^ (64 * N) := Nat.lt_of_lt_of_le (lv_lt FA.out) (Nat.pow_le_pow_right (by omega) (by have := HN.out; omega))
        have hpB : lv B < 2 ^ (64 * N) := Nat.lt_of_lt_of_le (lv_lt FB.out) (Nat.pow_le_pow_right (by omega) (by have := HN.out; omega))
        have hpw : 2 ^ (32 * (2 * N + 1)) = 2 ^ (64 * N) * 4294967296 := by rw [show 32 * (2 * N + 1) = 64 * N + 32 by omega, Nat.pow_add]
        have HE : Hid (dv o = lv A + lv B) := Lib.hid (by
          rw [Nat.mod_eq_of_lt (by omega), Nat.mod_eq_of_lt (by omega)] at hv
          exact dv_full hv (by omega))
        obtain ⟨ao, co, rfl, _, _, mo⟩ := NRow.at_ (B := w.heap.size) (w := wr) how
        have HM := Lib.hid (nmade_any ao co o wr (by omega) hos mo)
        clear hv hpA hpB hpw hol hos hlt hk how mo ma2 mb2 hcr
        go_wp2_with fail
        refine HM.out.mono ?_
        rintro e w1 ⟨v1, rfl, hv1, b1⟩
        have HV1 := Lib.hid hv1
        have HB1 := Lib.hid b1
        clear hv1 b1
        go_wp2_with fail
        go_ret
        exact ⟨_, rfl, by rw [← HE.out]; exact HV1.out.more hbs, HBL.out.trans (HB1.out.mono hbs)⟩

/-- Digits of a difference, with what is borrowed. -/
def SubRel (A B : List Nat) (w : World) (v c i : Value) (wr : World) : Prop :=
  ∃ (k cr : Nat) (o : List Nat), k ≤ 2 * A.length ∧ i = .int .i64 (k : Int) ∧ c = .int .u64 (cr : Int) ∧ cr ≤ 1 ∧ o.length = k ∧ Small o ∧
    dv o + lv B % 2 ^ (32 * k) = lv A % 2 ^ (32 * k) + 2 ^ (32 * k) * cr ∧ ORow w.heap.size wr v o ∧ Below w.heap.size w wr

theorem sub_full {o : List Nat} {a b k c : Nat} (hc : c ≤ 1) (hs : dv o < 2 ^ k) (h : dv o + b % 2 ^ k = a % 2 ^ k + 2 ^ k * c) (ha : a < 2 ^ k) (hba : b ≤ a) : dv o = a - b := by
  rw [Nat.mod_eq_of_lt ha, Nat.mod_eq_of_lt (by omega)] at h
  rcases Nat.eq_zero_or_pos c with rfl | hp
  · simp at h; omega
  · obtain rfl : c = 1 := by omega
    omega

set_option maxHeartbeats 4000000 in
theorem nsub_any (a b : Option Addr) (ca cb : Nat) (A B : List Nat) (w : World) (hA : A.length ≤ 549755813887) (fa : Fits A) (fb : Fits B) (hba : lv B ≤ lv A) (ma : NatAt w a A) (mb : NatAt w b B) :
    Calls Tryz.prog 108 #[.slice a A.length ca, .slice b B.length cb] w (NRes w (lv A - lv B)) := by
  obtain ⟨i0, hi, hz0, hz1, hz2⟩ := info_parts info_u64
  have MA := Lib.hid ma
  have MB := Lib.hid mb
  have FA := Lib.hid fa
  have FB := Lib.hid fb
  have HBA := Lib.hid hba
  clear ma mb fa fb hba
  go_enter Tryz.func108, Tryz.ntmps108
  go_wp2_with fail
  go_loopw [5, 6, 7] (fun v c i wr => SubRel A B w v c i wr) (fun _ _ i _ => 2 * A.length - (intOf i).toNat)
  case atStart => exact ⟨0, 0, [], by omega, rfl, rfl, by omega, rfl, fun x hx => (by cases hx), by simp [dv, Nat.mod_one], World.ownsRow_nil _ _ _ _, Below.refl _ _⟩
  case round =>
    obtain ⟨k, cr, o, hk, rfl, rfl, hcr, hol, hos, hv, how, hbel⟩ := hrel
    have hk0 : (0 : Int) ≤ (k : Int) := by omega
    have HBL := Lib.hid hbel
    have HOL := Lib.hid hol
    have HOS := Lib.hid hos
    have HV := Lib.hid hv
    have hbs := hbel.size
    have ma2 := MA.out.below hbel (Nat.le_refl _)
    have mb2 := MB.out.below hbel (Nat.le_refl _)
    by_cases hlt : k < 2 * A.length
    · have hkI : (k : Int) < 2 * (A.length : Int) := by omega
      obtain ⟨x, hx⟩ : ∃ x : Int, x = ((dg A k : Nat) : Int) := ⟨_, rfl⟩
      obtain ⟨y, hy⟩ : ∃ y : Int, y = ((dg B k : Nat) : Int) := ⟨_, rfl⟩
      obtain ⟨c, hc⟩ : ∃ c : Int, c = (cr : Int) := ⟨_, rfl⟩
      have hdx := dg_lt FA.out k
      have hdy := dg_lt FB.out k
      have HDA := Lib.hid (ndigit_at (ca := ca) (w := wr) (j := (k : Int)) rfl (by omega) FA.out ma2 hx)
      have HDB := Lib.hid (ndigit_at (ca := cb) (w := wr) (j := (k : Int)) rfl (by omega) FB.out mb2 hy)
      have hst := sub_step (a := lv A) (b := lv B) hcr HV.out
      rw [← dg_eq FA.out, ← dg_eq FB.out] at hst
      obtain ⟨r, hr⟩ : ∃ r, r = (2 ^ 32 + dg A k - dg B k - cr) % 2 ^ 32 := ⟨_, rfl⟩
      obtain ⟨q, hq⟩ : ∃ q, q = 1 - (2 ^ 32 + dg A k - dg B k - cr) / 2 ^ 32 := ⟨_, rfl⟩
      rw [← hr, ← hq] at hst
      have HST : Hid (dv (o ++ [r]) + lv B % 2 ^ (32 * (k + 1)) = lv A % 2 ^ (32 * (k + 1)) + 2 ^ (32 * (k + 1)) * q) := Lib.hid (by rw [dv_snoc, HOL.out]; exact hst)
      have HR : Hid ((4294967296 + x - y - c) % 4294967296 = (r : Int)) := Lib.hid (by omega)
      have HQ : Hid (1 - (4294967296 + x - y - c) / 4294967296 = (q : Int)) := Lib.hid (by omega)
      have hq1 : 0 ≤ 1 - (4294967296 + x - y - c) / 4294967296 := by omega
      have HQ1 : Hid (q ≤ 1) := Lib.hid (by omega)
      have HR1 : Hid (r < 4294967296) := Lib.hid (by omega)
      have HK : Hid (k + 1 ≤ 2 * A.length) := Lib.hid (by omega)
      have x0 : 0 ≤ x := by omega
      have x1 : x < 4294967296 := by omega
      have y0 : 0 ≤ y := by omega
      have y1 : y < 4294967296 := by omega
      have c0 : 0 ≤ c := by omega
      have c1 : c ≤ 1 := by omega
      have HO := Lib.hid how
      have hkm : k + 1 ≤ 1099511627776 := by omega
      rw [← hc]
      clear hx hy hc hdx hdy hst hr hq hcr hol hos hv hbel ma2 mb2 hlt hk how
      go_wp2_with fail
      refine HDA.out.mono ?_
      rintro e w' ⟨rfl, rfl⟩
      go_wp2_with fail
      refine HDB.out.mono ?_
      rintro e w' ⟨rfl, rfl⟩
      go_wp2_with (
        (at_builtin
         refine wpList_append_own _ rfl (.tmp 26) (.tmp 29) 41 rfl w.heap.size 100 i0 _ 1 8 Tryz.underlying41 hi hz0 hz1 hz2 rfl (by omega) _ k (U o) rfl ?d0 ⟨w'.heap.size, 0, none⟩ 1 1 [.int .u64 ((4294967296 + x - y - c) % 4294967296)] rfl rfl ?d1 ?d2 ?d3 ?d4 ?d5 ?_
         case d0 => exact World.ownsRow.alloc (by have h := HO.out; unfold ORow at h; rw [HOL.out] at h; exact h) _
         case d1 => exact (cell_one_new _ _ _)
         case d2 => intro u hu; simp at hu; subst hu; rfl
         case d3 => unfold maxLen; omega
         case d4 => omega
         case d5 => simp; omega
         intro v3 w3 hown3 hg3 _
         have HO3 := Lib.hid (orow_snoc hown3 HOL.out HR.out)
         have HB3 : Hid (Below w.heap.size w w3) := Lib.hid ((HBL.out.alloc hbs _).grown hg3 (by simp; omega) (fun k hk => (HO.out.lt k hk).1))
         clear hown3 hg3))
      go_roundw
      case rel => exact ⟨k + 1, q, o ++ [r], HK.out, by go_num, by rw [HQ.out], HQ1.out, by rw [List.length_append, HOL.out]; rfl, small_snoc HOS.out HR1.out, HST.out, HO3.out, HB3.out⟩
      case measure => have := HK.out; simp [intOf]; omega
    · have hkA : 2 * (A.length : Int) ≤ (k : Int) := by omega
      obtain rfl : k = 2 * A.length := by omega
      have hpA : lv A < 2 ^ (32 * (2 * A.length)) := by rw [show 32 * (2 * A.length) = 64 * A.length by omega]; exact lv_lt FA.out
      have HE : Hid (dv o = lv A - lv B) := Lib.hid (sub_full hcr (by have := dv_lt hos; rw [hol] at this; exact this) hv hpA HBA.out)
      obtain ⟨ao, co, rfl, _, _, mo⟩ := NRow.at_ (B := w.heap.size) (w := wr) how
      have HM := Lib.hid (nmade_any ao co o wr (by omega) hos mo)
      clear hv hpA hol hos hlt hk how mo ma2 mb2 hcr
      go_wp2_with fail
      refine HM.out.mono ?_
      rintro e w1 ⟨v1, rfl, hv1, b1⟩
      have HV1 := Lib.hid hv1
      have HB1 := Lib.hid b1
      clear hv1 b1
      go_wp2_with fail
      go_ret
      exact ⟨_, rfl, by rw [← HE.out]; exact HV1.out.more hbs, HBL.out.trans (HB1.out.mono hbs)⟩
end Go.Proofs.YtofpcdjoljjnoaaGreatDoor

namespace Go.Proofs.YtofpcdjoljjnoaaGreatDoor
set_option maxRecDepth 100000
open Go.RowKit

theorem shl_step {a m c i o : Nat} (h : o + 2 ^ (32 * i) * c = a % 2 ^ (32 * i) * 2 ^ m) :
    (o + 2 ^ (32 * i) * ((a / 2 ^ (32 * i) % 2 ^ 32 * 2 ^ m + c) % 2 ^ 32)) + 2 ^ (32 * (i + 1)) * ((a / 2 ^ (32 * i) % 2 ^ 32 * 2 ^ m + c) / 2 ^ 32) = a % 2 ^ (32 * (i + 1)) * 2 ^ m := by
  have ea : a % 2 ^ (32 * (i + 1)) = a % 2 ^ (32 * i) + 2 ^ (32 * i) * (a / 2 ^ (32 * i) % 2 ^ 32) := by
    rw [Nat.mul_add, Nat.mul_one, Nat.pow_add, Nat.mod_mul]
  have ep : 2 ^ (32 * (i + 1)) = 2 ^ (32 * i) * 2 ^ 32 := by rw [Nat.mul_add, Nat.mul_one, Nat.pow_add]
  generalize a / 2 ^ (32 * i) % 2 ^ 32 = x at *
  rw [ea, ep, Nat.add_mul, ← h, Nat.mul_assoc (2 ^ (32 * i)) x]
  have hs := Nat.mod_add_div (x * 2 ^ m + c) (2 ^ 32)
  generalize (x * 2 ^ m + c) % 2 ^ 32 = r at *
  generalize (x * 2 ^ m + c) / 2 ^ 32 = q at *
  have e1 : 2 ^ (32 * i) * (x * 2 ^ m + c) = 2 ^ (32 * i) * r + 2 ^ (32 * i) * (2 ^ 32 * q) := by rw [← hs, Nat.mul_add]
  rw [Nat.mul_assoc (2 ^ (32 * i)) (2 ^ 32) q]
  rw [Nat.mul_add] at e1
  omega
theorem dv_zeros (n : Nat) (l : List Nat) : dv (List.replicate n 0 ++ l) = 2 ^ (32 * n) * dv l := by
  induction n with
  | zero => simp
  | succ n ih =>
    simp only [List.replicate_succ, List.cons_append, dv, ih]
    rw [Nat.zero_add, Nat.mul_add, Nat.mul_one, Nat.pow_add, ← Nat.mul_assoc, Nat.mul_comm (2 ^ 32)]
theorem small_zeros (n : Nat) : Small (List.replicate n 0) := fun x hx => by
  have := List.eq_of_mem_replicate hx; omega

def ShlRel (A : List Nat) (m q : Nat) (w : World) (v c i : Value) (wr : World) : Prop :=
  ∃ (k cr : Nat) (o : List Nat), k ≤ 2 * A.length + 1 ∧ i = .int .i64 (k : Int) ∧ c = .int .u64 (cr : Int) ∧ cr < 2 ^ m ∧ o.length = k ∧ Small o ∧
    dv o + 2 ^ (32 * k) * cr = lv A % 2 ^ (32 * k) * 2 ^ m ∧ ORow w.heap.size wr v (List.replicate q 0 ++ o) ∧ Below w.heap.size w wr

set_option maxHeartbeats 4000000 in
theorem nshl_any (a : Option Addr) (ca : Nat) (A : List Nat) (n : Int) (s : Nat) (w : World) (hA : A.length ≤ 137438953472) (hn : n = (s : Int)) (hs : s ≤ 1099511627776) (fa : Fits A) (ma : NatAt w a A) :
    Calls Tryz.prog 101 #[.slice a A.length ca, .int .i64 n] w (NRes w (lv A * 2 ^ s)) := by
  obtain ⟨i0, hi, hz0, hz1, hz2⟩ := info_parts info_u64
  have MA := Lib.hid ma
  have FA := Lib.hid fa
  obtain ⟨q, hq⟩ : ∃ q, q = s / 32 := ⟨_, rfl⟩
  obtain ⟨m, hm⟩ : ∃ m, m = s % 32 := ⟨_, rfl⟩
  have HSQ : Hid (s = 32 * q + m) := Lib.hid (by omega)
  have hm31 : m ≤ 31 := by omega
  have HK : Hid (n / 32 = (q : Int)) := Lib.hid (by omega)
  have hmI : n % 32 = (m : Int) := by omega
  have hn0 : 0 ≤ n := by omega
  have hn9 : n ≤ 1099511627776 := by omega
  have hq1 : q ≤ 34359738368 := by omega
  have hpm : 2 ^ m ≤ 2 ^ 31 := Nat.pow_le_pow_right (by omega) hm31
  have HPM := Lib.hid hpm
  have HZ : Hid (∀ w0 : World, w0.ownsRow w.heap.size 100 1 (.slice (some ⟨w.heap.size, 0, none⟩) q q) q (madeCells (Value.int .u64 0).cells (q * 1)).toList → ORow w.heap.size w0 (.slice (some ⟨w.heap.size, 0, none⟩) q q) (List.replicate q 0 ++ [])) := Lib.hid (fun w0 h => by
    rw [show (Value.int .u64 0).cells = #[.int .u64 0] from rfl, toList_madeCells_one, Nat.mul_one] at h
    unfold ORow
    rw [List.append_nil, List.length_replicate, U_zeros]; exact h)
  clear ma fa hn hs hq hm hpm
  go_enter Tryz.func101, Tryz.ntmps101
  go_wp2_with (
    (at_make
     refine wpList_make_full _ rfl _ _ 41 rfl w.heap.size 100 i0 (.int .u64 0) 1 Tryz.underlying41 hi hz0 hz1 .i64 .i64 _ _ q rfl rfl HK.out HK.out (by rw [hz2]; omega) (by unfold maxLen; omega) (Nat.le_refl _) ?_
     intro w0 hown0 hg0
     have HO := Lib.hid (HZ.out w0 hown0)
     have HB : Hid (Below w.heap.size w w0) := Lib.hid ((Below.refl _ w).grown hg0 (Nat.le_refl _) (fun k hk => by cases hk))
     clear hown0 hg0))
  go_loopw [5, 6, 7] (fun v c i wr => ShlRel A m q w v c i wr) (fun _ _ i _ => 2 * A.length + 1 - (intOf i).toNat)
  case atStart => exact ⟨0, 0, [], by omega, rfl, rfl, Nat.two_pow_pos m, rfl, fun x hx => (by cases hx), by simp [dv, Nat.mod_one], HO.out, HB.out⟩
  case round =>
    obtain ⟨k, cr, o, hk, rfl, rfl, hcr, hol, hos, hv, how, hbel⟩ := hrel
    have hk0 : (0 : Int) ≤ (k : Int) := by omega
    have HBL := Lib.hid hbel
    have HOL := Lib.hid hol
    have HOS := Lib.hid hos
    have HV := Lib.hid hv
    have hbs := hbel.size
    have ma2 := MA.out.below hbel (Nat.le_refl _)
    by_cases hlt : k ≤ 2 * A.length
    · have hkI : (k : Int) ≤ 2 * (A.length : Int) := by omega
      obtain ⟨x, hx⟩ : ∃ x : Int, x = ((dg A k : Nat) : Int) := ⟨_, rfl⟩
      obtain ⟨c, hc⟩ : ∃ c : Int, c = (cr : Int) := ⟨_, rfl⟩
      have hdx := dg_lt FA.out k
      have HDA := Lib.hid (ndigit_at (ca := ca) (w := wr) (j := (k : Int)) rfl (by omega) FA.out ma2 hx)
      have hst := shl_step (a := lv A) (m := m) HV.out
      rw [← dg_eq FA.out] at hst
      have hpx : dg A k * 2 ^ m ≤ 4294967295 * 2 ^ 31 := Nat.mul_le_mul (by omega) HPM.out
      obtain ⟨p, hp⟩ : ∃ p : Int, p = ((dg A k * 2 ^ m : Nat) : Int) := ⟨_, rfl⟩
      have hpw : IntKind.u64.wrap (x * 2 ^ m) = p := by
        have e : x * 2 ^ m = p := by rw [hp, hx]; simp
        rw [e]; exact IntWalk.u64_in _ (by omega)
      obtain ⟨r, hr⟩ : ∃ r, r = (dg A k * 2 ^ m + cr) % 2 ^ 32 := ⟨_, rfl⟩
      obtain ⟨t, ht⟩ : ∃ t, t = (dg A k * 2 ^ m + cr) / 2 ^ 32 := ⟨_, rfl⟩
      rw [← hr, ← ht] at hst
      have HST : Hid (dv (o ++ [r]) + 2 ^ (32 * (k + 1)) * t = lv A % 2 ^ (32 * (k + 1)) * 2 ^ m) := Lib.hid (by rw [dv_snoc, HOL.out]; exact hst)
      have HR : Hid ((p + c) % 4294967296 = (r : Int)) := Lib.hid (by omega)
      have HQ : Hid ((p + c) / 4294967296 = (t : Int)) := Lib.hid (by omega)
      have HT1 : Hid (t < 2 ^ m) := Lib.hid (by
        rw [ht, Nat.div_lt_iff_lt_mul (by decide)]
        have h1 : dg A k * 2 ^ m ≤ 4294967295 * 2 ^ m := Nat.mul_le_mul_right _ (by omega)
        omega)
      have HR1 : Hid (r < 4294967296) := Lib.hid (by omega)
      have HK1 : Hid (k + 1 ≤ 2 * A.length + 1) := Lib.hid (by omega)
      have x0 : 0 ≤ x := by omega
      have x1 : x < 4294967296 := by omega
      have p0 : 0 ≤ p := by omega
      have p1 : p ≤ 9223372034707292160 := by omega
      have c0 : 0 ≤ c := by omega
      have c1 : c < 2147483648 := by have := HPM.out; omega
      have HO := Lib.hid how
      have hkm : k + 1 ≤ 1099511627776 := by omega
      have HQL : Hid ((List.replicate q 0 ++ o).length = q + k) := Lib.hid (by rw [List.length_append, List.length_replicate, HOL.out])
      rw [← hc]
      clear hx hc hdx hst hr ht hp hpx hcr hol hos hv hbel ma2 hlt hk how
      go_wp2_with fail
      refine HDA.out.mono ?_
      rintro e w' ⟨rfl, rfl⟩
      go_wp2_with (
        (at_builtin
         refine wpList_append_own _ rfl (.tmp 28) (.tmp 31) 41 rfl w.heap.size 100 i0 _ 1 8 Tryz.underlying41 hi hz0 hz1 hz2 rfl (by omega) _ (q + k) (U (List.replicate q 0 ++ o)) rfl ?d0 ⟨w'.heap.size, 0, none⟩ 1 1 [.int .u64 ((p + c) % 4294967296)] rfl rfl ?d1 ?d2 ?d3 ?d4 ?d5 ?_
         case d0 => exact World.ownsRow.alloc (by have h := HO.out; unfold ORow at h; rw [HQL.out] at h; exact h) _
         case d1 => exact (cell_one_new _ _ _)
         case d2 => intro u hu; simp at hu; subst hu; rfl
         case d3 => unfold maxLen; omega
         case d4 => omega
         case d5 => simp; omega
         intro v3 w3 hown3 hg3 _
         have HO3 : Hid (ORow w.heap.size w3 v3 (List.replicate q 0 ++ (o ++ [r]))) := Lib.hid (by rw [← List.append_assoc]; exact orow_snoc hown3 HQL.out HR.out)
         have HB3 : Hid (Below w.heap.size w w3) := Lib.hid ((HBL.out.alloc hbs _).grown hg3 (by simp; omega) (fun k hk => (HO.out.lt k hk).1))
         clear hown3 hg3))
      go_roundw
      case rel => exact ⟨k + 1, t, o ++ [r], HK1.out, by go_num, by rw [HQ.out], HT1.out, by rw [List.length_append, HOL.out]; rfl, small_snoc HOS.out HR1.out, HST.out, HO3.out, HB3.out⟩
      case measure => have := HK1.out; simp [intOf]; omega
    · have hkA : 2 * (A.length : Int) < (k : Int) := by omega
      obtain rfl : k = 2 * A.length + 1 := by omega
      have hpA : lv A < 2 ^ (64 * A.length) := lv_lt FA.out
      have hpw : 2 ^ (32 * (2 * A.length + 1)) = 2 ^ (64 * A.length) * 4294967296 := by rw [show 32 * (2 * A.length + 1) = 64 * A.length + 32 by omega, Nat.pow_add]
      have HE : Hid (dv (List.replicate q 0 ++ o) = lv A * 2 ^ s) := Lib.hid (by
        rw [Nat.mod_eq_of_lt (by omega)] at hv
        have hlt2 : lv A * 2 ^ m < 2 ^ (32 * (2 * A.length + 1)) := by
          have h1 : lv A * 2 ^ m ≤ lv A * 2 ^ 31 := Nat.mul_le_mul_left _ HPM.out
          omega
        rw [dv_zeros, dv_full hv hlt2, HSQ.out, Nat.pow_add, Nat.mul_comm (2 ^ (32 * q)), Nat.mul_assoc, Nat.mul_comm (2 ^ m)])
      have hml : (List.replicate q 0 ++ o).length ≤ 1099511627776 := by rw [List.length_append, List.length_replicate]; omega
      have hms : Small (List.replicate q 0 ++ o) := fun x hx => by rcases List.mem_append.1 hx with h | h; exact small_zeros q x h; exact hos x h
      generalize List.replicate q 0 ++ o = M at *
      obtain ⟨ao, co, rfl, _, _, mo⟩ := NRow.at_ (B := w.heap.size) (w := wr) how
      have HM := Lib.hid (nmade_any ao co M wr hml hms mo)
      clear hml hms hv hpA hpw hol hos hlt hk how mo ma2 hcr
      go_wp2_with fail
      refine HM.out.mono ?_
      rintro e w1 ⟨v1, rfl, hv1, b1⟩
      have HV1 := Lib.hid hv1
      have HB1 := Lib.hid b1
      clear hv1 b1
      go_wp2_with fail
      go_ret
      exact ⟨_, rfl, by rw [← HE.out]; exact HV1.out.more hbs, HBL.out.trans (HB1.out.mono hbs)⟩
end Go.Proofs.YtofpcdjoljjnoaaGreatDoor

namespace Go.Proofs.YtofpcdjoljjnoaaGreatDoor
set_option maxRecDepth 100000
open Go.RowKit

/-- A digit of a number that is shifted, out of two digits of its own. -/
theorem shr_dig {a i m : Nat} (hm : m ≤ 31) : (a / 2 ^ (32 * i) % 2 ^ 32 + a / 2 ^ (32 * (i + 1)) % 2 ^ 32 * 4294967296) / 2 ^ m % 2 ^ 32 = a / 2 ^ (32 * i + m) % 2 ^ 32 := by
  have e1 : a / 2 ^ (32 * (i + 1)) = a / 2 ^ (32 * i) / 2 ^ 32 := by rw [Nat.mul_add, Nat.mul_one, Nat.pow_add, Nat.div_div_eq_div_mul]
  rw [Nat.pow_add, ← Nat.div_div_eq_div_mul, e1]
  generalize a / 2 ^ (32 * i) = x
  have e2 : x % 2 ^ 32 + x / 2 ^ 32 % 2 ^ 32 * 4294967296 = x % 2 ^ 64 := by omega
  rw [e2]
  have e3 : x % 2 ^ 64 / 2 ^ m % 2 ^ 32 = x / 2 ^ m % 2 ^ 32 := by
    have h1 := Nat.mod_mul_right_div_self x (2 ^ m) (2 ^ (64 - m))
    rw [← Nat.pow_add, show m + (64 - m) = 64 by omega] at h1
    rw [h1, Nat.mod_mod_of_dvd _ (Nat.pow_dvd_pow 2 (by omega))]
  exact e3

def ShrRel (A : List Nat) (q s : Nat) (w : World) (v i : Value) (wr : World) : Prop :=
  ∃ (k : Nat) (o : List Nat), (k = 0 ∨ q + k ≤ 2 * A.length) ∧ i = .int .i64 ((q + k : Nat) : Int) ∧ o.length = k ∧ Small o ∧
    dv o = lv A / 2 ^ s % 2 ^ (32 * k) ∧ ORow w.heap.size wr v o ∧ Below w.heap.size w wr

set_option maxHeartbeats 4000000 in
theorem nshr_any (a : Option Addr) (ca : Nat) (A : List Nat) (n : Int) (s : Nat) (w : World) (hA : A.length ≤ 137438953472) (hn : n = (s : Int)) (hs : s ≤ 17592186044416) (fa : Fits A) (ma : NatAt w a A) :
    Calls Tryz.prog 103 #[.slice a A.length ca, .int .i64 n] w (NRes w (lv A / 2 ^ s)) := by
  obtain ⟨i0, hi, hz0, hz1, hz2⟩ := info_parts info_u64
  have MA := Lib.hid ma
  have FA := Lib.hid fa
  obtain ⟨q, hq⟩ : ∃ q, q = s / 32 := ⟨_, rfl⟩
  obtain ⟨m, hm⟩ : ∃ m, m = s % 32 := ⟨_, rfl⟩
  have HSQ : Hid (s = 32 * q + m) := Lib.hid (by omega)
  have HM31 : Hid (m ≤ 31) := Lib.hid (by omega)
  have hqI : n / 32 = (q : Int) := by omega
  have hmI : n % 32 = (m : Int) := by omega
  have hn0 : 0 ≤ n := by omega
  have hn9 : n ≤ 17592186044416 := by omega
  have hq1 : q ≤ 549755813888 := by omega
  clear ma fa hn hs hq hm
  go_enter Tryz.func103, Tryz.ntmps103
  go_wp2_with fail
  rw [hqI]
  go_loopw [5, 6] (fun v i wr => ShrRel A q s w v i wr) (fun _ i _ => 2 * A.length - (intOf i).toNat)
  case atStart => exact ⟨0, [], .inl rfl, by rw [Nat.add_zero], rfl, fun x hx => (by cases hx), by simp [dv, Nat.mod_one], World.ownsRow_nil _ _ _ _, Below.refl _ _⟩
  case round =>
    obtain ⟨k, o, hk, rfl, hol, hos, hv, how, hbel⟩ := hrel
    have HBL := Lib.hid hbel
    have HOL := Lib.hid hol
    have HOS := Lib.hid hos
    have HV := Lib.hid hv
    have hbs := hbel.size
    have ma2 := MA.out.below hbel (Nat.le_refl _)
    obtain ⟨j, hj⟩ : ∃ j : Int, j = ((q + k : Nat) : Int) := ⟨_, rfl⟩
    have HJ := Lib.hid hj
    rw [← hj]
    have hj0 : 0 ≤ j := by omega
    by_cases hlt : q + k < 2 * A.length
    · have hjI : j < 2 * (A.length : Int) := by omega
      obtain ⟨x, hx⟩ : ∃ x : Int, x = ((dg A (q + k) : Nat) : Int) := ⟨_, rfl⟩
      obtain ⟨y, hy⟩ : ∃ y : Int, y = ((dg A (q + k + 1) : Nat) : Int) := ⟨_, rfl⟩
      have hdx := dg_lt FA.out (q + k)
      have hdy := dg_lt FA.out (q + k + 1)
      have HDA := Lib.hid (ndigit_at (ca := ca) (w := wr) (j := j) hj (by omega) FA.out ma2 hx)
      have HDB := Lib.hid (ndigit_at (ca := ca) (w := wr) (j := j + 1) (k := q + k + 1) (by omega) (by omega) FA.out ma2 hy)
      obtain ⟨r, hr⟩ : ∃ r, r = (dg A (q + k) + dg A (q + k + 1) * 4294967296) / 2 ^ m % 2 ^ 32 := ⟨_, rfl⟩
      have hsd := shr_dig (a := lv A) (i := q + k) HM31.out
      rw [← dg_eq FA.out, ← dg_eq FA.out, ← hr] at hsd
      have HST : Hid (dv (o ++ [r]) = lv A / 2 ^ s % 2 ^ (32 * (k + 1))) := Lib.hid (by
        have ep : 2 ^ (32 * (k + 1)) = 2 ^ (32 * k) * 2 ^ 32 := by rw [Nat.mul_add, Nat.mul_one, Nat.pow_add]
        rw [dv_snoc, HOL.out, HV.out, hsd, ep, Nat.mod_mul, Nat.div_div_eq_div_mul, ← Nat.pow_add, HSQ.out, show 32 * (q + k) + m = 32 * q + m + 32 * k by omega])
      obtain ⟨t, ht⟩ : ∃ t : Int, t = x + y * 4294967296 := ⟨_, rfl⟩
      obtain ⟨D, hD⟩ : ∃ D : Nat, D = (dg A (q + k) + dg A (q + k + 1) * 4294967296) / 2 ^ m := ⟨_, rfl⟩
      have hDle : D ≤ dg A (q + k) + dg A (q + k + 1) * 4294967296 := by rw [hD]; exact Nat.div_le_self _ _
      obtain ⟨u, hu⟩ : ∃ u : Int, u = (D : Int) := ⟨_, rfl⟩
      have htu : t / 2 ^ m = u := by rw [hu, hD, ht, hx, hy]; simp
      rw [← hD] at hr
      clear hD
      have u0 : 0 ≤ u := by omega
      have u1 : u < 18446744073709551616 := by omega
      have HR : Hid (u % 4294967296 = (r : Int)) := Lib.hid (by omega)
      have htw : x + y * 4294967296 = t := ht.symm
      have t0 : 0 ≤ t := by omega
      have t1 : t < 18446744073709551616 := by omega
      have HR1 : Hid (r < 4294967296) := Lib.hid (by omega)
      have HK1 : Hid (q + (k + 1) ≤ 2 * A.length) := Lib.hid (by omega)
      have x0 : 0 ≤ x := by omega
      have x1 : x < 4294967296 := by omega
      have y0 : 0 ≤ y := by omega
      have y1 : y < 4294967296 := by omega
      have HO := Lib.hid how
      have hkm : k + 1 ≤ 1099511627776 := by omega
      clear hx hy hdx hdy hr hsd ht hu hDle hol hos hv hbel ma2 hlt hk how hj
      go_wp2_with fail
      refine HDA.out.mono ?_
      rintro e w' ⟨rfl, rfl⟩
      go_wp2_with fail
      refine HDB.out.mono ?_
      rintro e w' ⟨rfl, rfl⟩
      go_wp2_with (
        (at_builtin
         refine wpList_append_own _ rfl (.tmp 26) (.tmp 33) 41 rfl w.heap.size 100 i0 _ 1 8 Tryz.underlying41 hi hz0 hz1 hz2 rfl (by omega) _ k (U o) rfl ?d0 ⟨w'.heap.size, 0, none⟩ 1 1 [.int .u64 (u % 4294967296)] rfl rfl ?d1 ?d2 ?d3 ?d4 ?d5 ?_
         case d0 => exact World.ownsRow.alloc (by have h := HO.out; unfold ORow at h; rw [HOL.out] at h; exact h) _
         case d1 => exact (cell_one_new _ _ _)
         case d2 => intro u hu; simp at hu; subst hu; rfl
         case d3 => unfold maxLen; omega
         case d4 => omega
         case d5 => simp; omega
         intro v3 w3 hown3 hg3 _
         have HO3 := Lib.hid (orow_snoc hown3 HOL.out HR.out)
         have HB3 : Hid (Below w.heap.size w w3) := Lib.hid ((HBL.out.alloc hbs _).grown hg3 (by simp; omega) (fun k hk => (HO.out.lt k hk).1))
         clear hown3 hg3))
      go_roundw
      case rel => exact ⟨k + 1, o ++ [r], .inr HK1.out, by rw [HJ.out]; go_num, by rw [List.length_append, HOL.out]; rfl, small_snoc HOS.out HR1.out, HST.out, HO3.out, HB3.out⟩
      case measure => have := HK1.out; have := HJ.out; simp [intOf]; omega
    · have hjI : 2 * (A.length : Int) ≤ j := by omega
      have hpA : lv A < 2 ^ (64 * A.length) := lv_lt FA.out
      have HE : Hid (dv o = lv A / 2 ^ s) := Lib.hid (by
        rw [hv]
        have h1 : lv A / 2 ^ s ≤ lv A / 2 ^ (32 * q) := by
          rw [HSQ.out, Nat.pow_add, ← Nat.div_div_eq_div_mul]
          exact Nat.div_le_self _ _
        have h2 : lv A / 2 ^ (32 * q) < 2 ^ (32 * k) := by
          rw [Nat.div_lt_iff_lt_mul (Nat.two_pow_pos _), ← Nat.pow_add]
          exact Nat.lt_of_lt_of_le hpA (Nat.pow_le_pow_right (by omega) (by omega))
        exact Nat.mod_eq_of_lt (by omega))
      obtain ⟨ao, co, rfl, _, _, mo⟩ := NRow.at_ (B := w.heap.size) (w := wr) how
      have HM := Lib.hid (nmade_any ao co o wr (by omega) hos mo)
      clear hv hpA hol hos hlt hk how mo ma2 hj
      go_wp2_with fail
      refine HM.out.mono ?_
      rintro e w1 ⟨v1, rfl, hv1, b1⟩
      have HV1 := Lib.hid hv1
      have HB1 := Lib.hid b1
      clear hv1 b1
      go_wp2_with fail
      go_ret
      exact ⟨_, rfl, by rw [← HE.out]; exact HV1.out.more hbs, HBL.out.trans (HB1.out.mono hbs)⟩
end Go.Proofs.YtofpcdjoljjnoaaGreatDoor

namespace Go.Proofs.YtofpcdjoljjnoaaGreatDoor
set_option maxRecDepth 100000
open Go.RowKit

/-- One digit more of a row of a product. -/
theorem mul_step {l : List Nat} {a d B i k c : Nat} (hj : i + k < l.length) (h : dv l + 2 ^ (32 * (i + k)) * c = a + 2 ^ (32 * i) * (d * (B % 2 ^ (32 * k)))) :
    dv (l.set (i + k) ((l.getD (i + k) 0 + d * (B / 2 ^ (32 * k) % 2 ^ 32) + c) % 2 ^ 32)) + 2 ^ (32 * (i + (k + 1))) * ((l.getD (i + k) 0 + d * (B / 2 ^ (32 * k) % 2 ^ 32) + c) / 2 ^ 32) = a + 2 ^ (32 * i) * (d * (B % 2 ^ (32 * (k + 1)))) := by
  have eb : B % 2 ^ (32 * (k + 1)) = B % 2 ^ (32 * k) + 2 ^ (32 * k) * (B / 2 ^ (32 * k) % 2 ^ 32) := by
    rw [Nat.mul_add, Nat.mul_one, Nat.pow_add, Nat.mod_mul]
  have ep : 2 ^ (32 * (i + (k + 1))) = 2 ^ (32 * (i + k)) * 2 ^ 32 := by rw [← Nat.add_assoc, Nat.mul_add 32 (i + k), Nat.mul_one, Nat.pow_add]
  have ei : 2 ^ (32 * (i + k)) = 2 ^ (32 * i) * 2 ^ (32 * k) := by rw [Nat.mul_add, Nat.pow_add]
  generalize B / 2 ^ (32 * k) % 2 ^ 32 = y at *
  have hs := dv_set hj ((l.getD (i + k) 0 + d * y + c) % 2 ^ 32)
  have hd := Nat.mod_add_div (l.getD (i + k) 0 + d * y + c) (2 ^ 32)
  generalize (l.getD (i + k) 0 + d * y + c) % 2 ^ 32 = r at *
  generalize (l.getD (i + k) 0 + d * y + c) / 2 ^ 32 = t at *
  generalize l.getD (i + k) 0 = o at *
  have e1 : 2 ^ (32 * (i + k)) * (r + 2 ^ 32 * t) = 2 ^ (32 * (i + k)) * (o + d * y + c) := by rw [hd]
  have e2 : 2 ^ (32 * i) * (d * (2 ^ (32 * k) * y)) = 2 ^ (32 * (i + k)) * (d * y) := by
    rw [ei, ← Nat.mul_assoc d, Nat.mul_comm d (2 ^ (32 * k)), Nat.mul_assoc (2 ^ (32 * k)), ← Nat.mul_assoc (2 ^ (32 * i))]
  rw [eb, ep, Nat.mul_add d, Nat.mul_add (2 ^ (32 * i)), e2, Nat.mul_assoc (2 ^ (32 * (i + k)))]
  clear eb ep ei e2 hd
  generalize 2 ^ (32 * (i + k)) = P at *
  rw [Nat.mul_add P, Nat.mul_add P, Nat.mul_add P] at e1
  generalize P * (2 ^ 32 * t) = z1 at *
  generalize P * r = z2 at *
  generalize P * o = z3 at *
  generalize P * (d * y) = z4 at *
  generalize P * c = z5 at *
  generalize 2 ^ (32 * i) * (d * (B % 2 ^ (32 * k))) = z6 at *
  omega

theorem nat_full {o a K c : Nat} (h : o + K * c = a) (ha : a < K) : o = a := by
  rcases c with _ | c
  · simpa using h
  · rw [Nat.mul_succ] at h; omega
theorem mul_end {a b o d k n c : Nat} (hB : b < 2 ^ (64 * n)) (hd : d = a / 2 ^ (32 * k) % 2 ^ 32) (h : o + 2 ^ (32 * (k + (2 * n + 1))) * c = a % 2 ^ (32 * k) * b + 2 ^ (32 * k) * (d * (b % 2 ^ (32 * (2 * n + 1))))) :
    o = a % 2 ^ (32 * (k + 1)) * b := by
  have ea : a % 2 ^ (32 * (k + 1)) = a % 2 ^ (32 * k) + 2 ^ (32 * k) * d := by
    rw [hd, Nat.mul_add 32 k, Nat.mul_one, Nat.pow_add, Nat.mod_mul]
  have hB2 : b < 2 ^ (32 * (2 * n + 1)) := Nat.lt_of_lt_of_le hB (Nat.pow_le_pow_right (by omega) (by omega))
  rw [Nat.mod_eq_of_lt hB2, ← Nat.mul_assoc (2 ^ (32 * k)), ← Nat.add_mul, ← ea] at h
  refine nat_full h ?_
  have h1 : a % 2 ^ (32 * (k + 1)) < 2 ^ (32 * (k + 1)) := Nat.mod_lt _ (Nat.two_pow_pos _)
  have h2 : 2 ^ (32 * (k + (2 * n + 1))) = 2 ^ (32 * (k + 1)) * 2 ^ (64 * n) := by rw [← Nat.pow_add]; congr 1; omega
  rw [h2]
  exact Nat.lt_of_le_of_lt (Nat.mul_le_mul_left _ (Nat.le_of_lt hB)) (Nat.mul_lt_mul_of_pos_right h1 (Nat.two_pow_pos _))

theorem small_set {l : List Nat} {j r : Nat} (h : Small l) (hr : r < 4294967296) : Small (l.set j r) := by
  intro x hx
  rcases List.mem_or_eq_of_mem_set hx with h1 | h1
  · exact h x h1
  · subst h1; exact hr

def MulRel (A B : List Nat) (n g : Nat) (w : World) (i : Value) (wr : World) : Prop :=
  ∃ (k : Nat) (o : List Nat), k ≤ 2 * A.length ∧ i = .int .i64 (k : Int) ∧ o.length = n ∧ Small o ∧ dv o = lv A % 2 ^ (32 * k) * lv B ∧
    wr.ownsRow w.heap.size 100 1 (.slice (some ⟨g, 0, none⟩) n n) n (U o) ∧ Below w.heap.size w wr

def MulIn (A B : List Nat) (n g i : Nat) (w : World) (c kk : Value) (wr : World) : Prop :=
  ∃ (k cr : Nat) (o : List Nat), k ≤ 2 * B.length + 1 ∧ kk = .int .i64 (k : Int) ∧ c = .int .u64 (cr : Int) ∧ cr < 4294967296 ∧ o.length = n ∧ Small o ∧
    dv o + 2 ^ (32 * (i + k)) * cr = lv A % 2 ^ (32 * i) * lv B + 2 ^ (32 * i) * (dg A i * (lv B % 2 ^ (32 * k))) ∧
    wr.ownsRow w.heap.size 100 1 (.slice (some ⟨g, 0, none⟩) n n) n (U o) ∧ Below w.heap.size w wr

set_option maxHeartbeats 4000000 in
theorem nmul_any (a b : Option Addr) (ca cb : Nat) (A B : List Nat) (w : World) (hA : A.length ≤ 137438953472) (hB : B.length ≤ 137438953472) (fa : Fits A) (fb : Fits B) (ma : NatAt w a A) (mb : NatAt w b B) :
    Calls Tryz.prog 106 #[.slice a A.length ca, .slice b B.length cb] w (NRes w (lv A * lv B)) := by
  obtain ⟨i0, hi, hz0, hz1, hz2⟩ := info_parts info_u64
  have MA := Lib.hid ma
  have MB := Lib.hid mb
  have FA := Lib.hid fa
  have FB := Lib.hid fb
  obtain ⟨n, hn⟩ : ∃ n, n = 2 * A.length + 2 * B.length + 1 := ⟨_, rfl⟩
  have HK : Hid (2 * (A.length : Int) + 2 * (B.length : Int) + 1 = (n : Int)) := Lib.hid (by omega)
  have HNN := Lib.hid hn
  have hn1 : n ≤ 1099511627776 := by omega
  have HZ : Hid (∀ w0 : World, w0.ownsRow w.heap.size 100 1 (.slice (some ⟨w.heap.size, 0, none⟩) n n) n (madeCells (Value.int .u64 0).cells (n * 1)).toList → w0.ownsRow w.heap.size 100 1 (.slice (some ⟨w.heap.size, 0, none⟩) n n) n (U (List.replicate n 0))) := Lib.hid (fun w0 h => by
    rw [show (Value.int .u64 0).cells = #[.int .u64 0] from rfl, toList_madeCells_one, Nat.mul_one] at h
    rw [U_zeros]; exact h)
  clear ma mb fa fb hn
  go_enter Tryz.func106, Tryz.ntmps106
  go_wp2_with (
    (at_make
     refine wpList_make_full _ rfl _ _ 41 rfl w.heap.size 100 i0 (.int .u64 0) 1 Tryz.underlying41 hi hz0 hz1 .i64 .i64 _ _ n rfl rfl HK.out HK.out (by rw [hz2]; omega) (by unfold maxLen; omega) (Nat.le_refl _) ?_
     intro w0 hown0 hg0
     have HO := Lib.hid (HZ.out w0 hown0)
     have HB : Hid (Below w.heap.size w w0) := Lib.hid ((Below.refl _ w).grown hg0 (Nat.le_refl _) (fun k hk => by cases hk))
     clear hown0 hg0))
  rw [HK.out]
  obtain ⟨g, hg⟩ : ∃ g, g = w.heap.size := ⟨_, rfl⟩
  have HG : Hid (w.heap.size ≤ g) := Lib.hid (by omega)
  have HO2 : Hid (w0.ownsRow w.heap.size 100 1 (.slice (some ⟨g, 0, none⟩) n n) n (U (List.replicate n 0))) := Lib.hid (by rw [hg]; exact HO.out)
  rw [← hg]
  clear hg HO HZ
  go_loopw [6] (fun i wr => MulRel A B n g w i wr) (fun i _ => 2 * A.length - (intOf i).toNat)
  case atStart => exact ⟨0, List.replicate n 0, by omega, rfl, List.length_replicate, small_zeros n, by have := dv_zeros n []; simp [dv, Nat.mod_one] at this ⊢; exact this, HO2.out, HB.out⟩
  case round =>
    obtain ⟨k, o, hk, rfl, hol, hos, hv, how, hbel⟩ := hrel
    have HBL := Lib.hid hbel
    have HOL := Lib.hid hol
    have HOS := Lib.hid hos
    have HV := Lib.hid hv
    have HOW := Lib.hid how
    have hbs := hbel.size
    obtain ⟨j, hj⟩ : ∃ j : Int, j = (k : Int) := ⟨_, rfl⟩
    have HJ := Lib.hid hj
    rw [← hj]
    have hj0 : 0 ≤ j := by omega
    by_cases hlt : k < 2 * A.length
    · have hjI : j < 2 * (A.length : Int) := by omega
      have HLT := Lib.hid hlt
      clear hol hos hv how hbel hlt hk hj
      go_wp2_with fail
      go_loopw [7, 8] (fun c kk wr => MulIn A B n g k w c kk wr) (fun _ kk _ => 2 * B.length + 1 - (intOf kk).toNat)
      case atStart => exact ⟨0, 0, o, by omega, rfl, rfl, by omega, HOL.out, HOS.out, by rw [HV.out]; simp [Nat.mod_one], HOW.out, HBL.out⟩
      case round =>
        obtain ⟨k2, cr, o2, hk2, rfl, rfl, hcr, hol, hos, hv, how, hbel⟩ := hrel
        have HBL2 := Lib.hid hbel
        have HOL2 := Lib.hid hol
        have HOS2 := Lib.hid hos
        have HV2 := Lib.hid hv
        have HOW2 := Lib.hid how
        have hbs2 := hbel.size
        have ma2 := MA.out.below hbel (Nat.le_refl _)
        have mb2 := MB.out.below hbel (Nat.le_refl _)
        obtain ⟨j2, hj2⟩ : ∃ j2 : Int, j2 = (k2 : Int) := ⟨_, rfl⟩
        have HJ2 := Lib.hid hj2
        rw [← hj2]
        have hj20 : 0 ≤ j2 := by omega
        by_cases hlt2 : k2 ≤ 2 * B.length
        · have hj2I : j2 < 2 * (B.length : Int) + 1 := by omega
          have hjk : Hid ((j + j2).toNat = k + k2) := Lib.hid (by have := HJ.out; omega)
          have hjn : j + j2 < (n : Int) := by have := HNN.out; omega
          have hjn0 : 0 ≤ j + j2 := by omega
          have hkn : k + k2 < n := by have := HNN.out; have := HLT.out; omega
          have hwj : IntKind.i64.wrap (j + j2) = j + j2 := IntWalk.i64_in _ ⟨by omega, by omega⟩
          obtain ⟨x, hx⟩ : ∃ x : Int, x = ((dg A k : Nat) : Int) := ⟨_, rfl⟩
          obtain ⟨y, hy⟩ : ∃ y : Int, y = ((dg B k2 : Nat) : Int) := ⟨_, rfl⟩
          obtain ⟨c, hc⟩ : ∃ c : Int, c = (cr : Int) := ⟨_, rfl⟩
          obtain ⟨z, hz⟩ : ∃ z : Int, z = ((o2.getD (k + k2) 0 : Nat) : Int) := ⟨_, rfl⟩
          have hdx := dg_lt FA.out k
          have hdy := dg_lt FB.out k2
          have hoz := small_get hos (k + k2)
          have hpp : dg A k * dg B k2 ≤ 4294967295 * 4294967295 := Nat.mul_le_mul (by omega) (by omega)
          obtain ⟨D, hD⟩ : ∃ D : Nat, D = dg A k * dg B k2 := ⟨_, rfl⟩
          obtain ⟨p, hp⟩ : ∃ p : Int, p = (D : Int) := ⟨_, rfl⟩
          have hxy : x * y = p := by rw [hp, hD, hx, hy]; simp
          have HDA := Lib.hid (fun m : Nat => ndigit_at (ca := ca) (w := wr.drewN m) (j := j) (k := k) HJ.out (by have := HLT.out; omega) FA.out ma2.drewN hx)
          have HDB := Lib.hid (fun m : Nat => ndigit_at (ca := cb) (w := wr.drewN m) (j := j2) hj2 (by omega) FB.out mb2.drewN hy)
          obtain ⟨r, hr⟩ : ∃ r, r = (o2.getD (k + k2) 0 + D + cr) % 2 ^ 32 := ⟨_, rfl⟩
          obtain ⟨q, hq⟩ : ∃ q, q = (o2.getD (k + k2) 0 + D + cr) / 2 ^ 32 := ⟨_, rfl⟩
          have hst := mul_step (l := o2) (B := lv B) (d := dg A k) (i := k) (k := k2) (by rw [hol]; exact hkn) HV2.out
          rw [← dg_eq FB.out, ← hD, ← hr, ← hq] at hst
          have HST := Lib.hid hst
          have HR : Hid ((z + p + c) % 4294967296 = (r : Int)) := Lib.hid (by omega)
          have HQ : Hid ((z + p + c) / 4294967296 = (q : Int)) := Lib.hid (by omega)
          have HR1 : Hid (r < 4294967296) := Lib.hid (by omega)
          have HQ1 : Hid (q < 4294967296) := Lib.hid (by omega)
          have HK2 : Hid (k2 + 1 ≤ 2 * B.length + 1) := Lib.hid (by omega)
          have hcz : wr.cell? ⟨g, (j + j2).toNat, none⟩ = some (.int .u64 z) := by
            rw [hjk.out, World.ownsRow.cellAt HOW2.out _ (by omega), U_get (by rw [hol]; exact hkn), hz]
          have hfz : wr.frozen? ⟨g, (j + j2).toNat, none⟩ = false := World.ownsRow.frozenAt HOW2.out _
          have HS : Hid (wr.setCell ⟨g, k + k2, none⟩ (.int .u64 (r : Int)) |>.ownsRow w.heap.size 100 1 (.slice (some ⟨g, 0, none⟩) n n) n (U (o2.set (k + k2) r))) := Lib.hid (by
            rw [← U_set]
            exact (World.ownsRow.stored HOW2.out (k + k2) _).1)
          have x0 : 0 ≤ x := by omega
          have x1 : x < 4294967296 := by omega
          have y0 : 0 ≤ y := by omega
          have y1 : y < 4294967296 := by omega
          have z0 : 0 ≤ z := by omega
          have z1 : z < 4294967296 := by omega
          have p0 : 0 ≤ p := by omega
          have p1 : p ≤ 18446744065119617025 := by omega
          have c0 : 0 ≤ c := by omega
          have c1 : c < 4294967296 := by omega
          have hpw : IntKind.u64.wrap p = p := IntWalk.u64_in _ ⟨by omega, by omega⟩
          rw [← hc]
          clear hx hy hz hc hdx hdy hoz hpp hD hp hst hr hq hcr hol hos hv hbel ma2 mb2 hlt2 hk2 how hj2 hkn
          go_wp2_with fail
          go_quiet ((first | (go_at_call 105; with_reducible exact Calls.quiet_of_same (HDA.out _)) | (go_at_call 105; with_reducible exact Calls.quiet_of_same (HDB.out _)) | (trace_state; fail)))
          go_wp2_with fail
          rw [HR.out, hjk.out, HQ.out]
          go_roundw
          case rel => exact ⟨k2 + 1, q, o2.set (k + k2) r, HK2.out, by rw [HJ2.out]; go_num, rfl, HQ1.out, by rw [List.length_set]; exact HOL2.out, small_set HOS2.out HR1.out, HST.out, HS.out, below_drewN (HBL2.out.setCell (p := ⟨g, k + k2, none⟩) HG.out _) nq⟩
          case measure => have := HK2.out; have := HJ2.out; simp [intOf]; omega
        · have hj2I : 2 * (B.length : Int) + 1 ≤ j2 := by omega
          obtain rfl : k2 = 2 * B.length + 1 := by omega
          have HE : Hid (dv o2 = lv A % 2 ^ (32 * (k + 1)) * lv B) := Lib.hid (mul_end (lv_lt FB.out) (dg_eq FA.out k) HV2.out)
          have HK1 : Hid (k + 1 ≤ 2 * A.length) := Lib.hid (by have := HLT.out; omega)
          clear hv hol hos hlt2 hk2 how hbel ma2 mb2 hcr hj2
          go_wp2_with fail
          go_roundw
          case rel => exact ⟨k + 1, o2, HK1.out, by rw [HJ.out]; go_num, HOL2.out, HOS2.out, HE.out, HOW2.out, HBL2.out⟩
          case measure => have := HK1.out; have := HJ.out; simp [intOf]; omega
    · have hjI : 2 * (A.length : Int) ≤ j := by omega
      obtain rfl : k = 2 * A.length := by omega
      have HE : Hid (dv o = lv A * lv B) := Lib.hid (by
        have h := lv_lt FA.out
        rw [hv, Nat.mod_eq_of_lt (by rw [show 32 * (2 * A.length) = 64 * A.length by omega]; exact h)])
      have HNA : Hid (NatAt wr (some ⟨g, 0, none⟩) o) := Lib.hid (fun i hi => ⟨g, 0, rfl, by rw [Nat.zero_add, World.ownsRow.cellAt HOW.out i (by omega), U_get hi]⟩)
      have hM := nmade_any (some ⟨g, 0, none⟩) n o wr (by omega) hos HNA.out
      rw [hol] at hM
      have HM := Lib.hid hM
      clear hM hv hol hos hlt hk how hj hbel
      go_wp2_with fail
      refine HM.out.mono ?_
      rintro e w1 ⟨v1, rfl, hv1, b1⟩
      have HV1 := Lib.hid hv1
      have HB1 := Lib.hid b1
      clear hv1 b1
      go_wp2_with fail
      go_ret
      exact ⟨_, rfl, by rw [← HE.out]; exact HV1.out.more hbs, HBL.out.trans (HB1.out.mono hbs)⟩
end Go.Proofs.YtofpcdjoljjnoaaGreatDoor
