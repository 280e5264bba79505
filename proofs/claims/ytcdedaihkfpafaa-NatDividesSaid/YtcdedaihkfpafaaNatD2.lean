/-
  LAYER 3: the texts NatSquare, one behind the other.
-/
import Derived.Test.YtcdedaihkfpafaaNatD1
import Derived.Test.YtcdedaihkfpafaaNatB8

namespace Go.Proofs.Ytcdedaihkfpafaa
open Go.RowKit

theorem four_mul_le (a b : Nat) : 4 * (a * b) ≤ (a + b) * (a + b) := by
  rcases Nat.le_total a b with h | h
  · obtain ⟨d, rfl⟩ : ∃ d, b = a + d := ⟨b - a, by omega⟩
    have e : (a + (a + d)) * (a + (a + d)) = 4 * (a * (a + d)) + d * d := by
      simp only [Nat.mul_add, Nat.add_mul]
      rw [Nat.mul_comm d a]
      omega
    omega
  · obtain ⟨d, rfl⟩ : ∃ d, a = b + d := ⟨a - b, by omega⟩
    have e : (b + d + b) * (b + d + b) = 4 * ((b + d) * b) + d * d := by
      simp only [Nat.mul_add, Nat.add_mul]
      rw [Nat.mul_comm d b]
      omega
    omega
/-- From above the root a step does not fall below it. -/
theorem newton_above {n x y : Nat} (hx : 0 < x) (hy : y = (x + n / x) / 2) : n < (y + 1) * (y + 1) := by
  have h1 : n < x * (n / x + 1) := by
    have := Nat.div_add_mod n x
    have := Nat.mod_lt n hx
    rw [Nat.mul_add, Nat.mul_one]; omega
  have h2 := four_mul_le x (n / x + 1)
  have h3 : x + (n / x + 1) ≤ 2 * (y + 1) := by omega
  have h4 := Nat.mul_le_mul h3 h3
  have h5 : 2 * (y + 1) * (2 * (y + 1)) = 4 * ((y + 1) * (y + 1)) := by
    rw [Nat.mul_mul_mul_comm]
  omega
/-- A step that does not fall is at the root. -/
theorem newton_stop {n x : Nat} (hx : 0 < x) (hy : x ≤ (x + n / x) / 2) : x * x ≤ n := by
  have h1 : x ≤ n / x := by omega
  have h2 := (Nat.le_div_iff_mul_le hx).1 h1
  exact h2
theorem start_above {n s m m2 : Nat} (h2 : m2 = 2 * m) (h : n / 2 ^ m2 < (s + 1) * (s + 1)) : n < ((s + 1) * 2 ^ m) * ((s + 1) * 2 ^ m) := by
  rw [Nat.div_lt_iff_lt_mul (Nat.two_pow_pos _), h2, show 2 * m = m + m by omega, Nat.pow_add] at h
  rw [Nat.mul_mul_mul_comm]; exact h
theorem root_len {n s m K M : Nat} (h : n < 2 ^ (64 * K)) (hs : s ≤ n) (hm : m ≤ 64 * M) : (s + 1) * 2 ^ m + n < 2 ^ (64 * (K + M + 1)) := by
  have h1 : (s + 1) * 2 ^ m ≤ 2 ^ (64 * K) * 2 ^ (64 * M) := Nat.mul_le_mul (by omega) (Nat.pow_le_pow_right (by omega) hm)
  have h2 : 2 ^ (64 * (K + M + 1)) = 2 ^ (64 * K) * 2 ^ (64 * M) * 18446744073709551616 := by
    rw [show 64 * (K + M + 1) = 64 * K + 64 * M + 64 by omega, Nat.pow_add, Nat.pow_add]
  have h3 : 2 ^ (64 * K) * 1 ≤ 2 ^ (64 * K) * 2 ^ (64 * M) := Nat.mul_le_mul_left _ (Nat.two_pow_pos _)
  omega

def RtAt (B n x0 L : Nat) (a : Option Addr) (w : World) (v : Value) (W : World) : Prop :=
  ∃ x : Nat, NRow B W v (nrow x) ∧ n < (x + 1) * (x + 1) ∧ 0 < x ∧ x ≤ x0 ∧ (nrow x).length ≤ L ∧ NatAt W a (nrow n) ∧ Below B w W

set_option maxRecDepth 100000 in
set_option maxHeartbeats 4000000 in
theorem root_more (n : Nat) (hL : (nrow n).length ≤ 4096) (hbig : 1 < (nrow n).length) (ih : ∀ k, k < n → (nrow k).length ≤ 4096 → Roots k) : Roots n := by
  intro a ca w h1 h2 ma
  have h0 : n ≠ 0 := fun e => by rw [e, nrow_zero] at hbig; simp at hbig
  obtain ⟨t, ht1, ht2, ht3, ht4⟩ := blen_nrow h0
  have hbt := blen_le (show t < 2 ^ 64 from ht2)
  have hbp := blen_pos ht3
  obtain ⟨N, hN⟩ : ∃ N, N = (nrow n).length := ⟨_, rfl⟩
  obtain ⟨b, hb⟩ : ∃ b, b = blen n := ⟨_, rfl⟩
  obtain ⟨m, hm⟩ : ∃ m, m = b / 4 := ⟨_, rfl⟩
  obtain ⟨m2, hm2⟩ : ∃ m2, m2 = 2 * m := ⟨_, rfl⟩
  have hNI : ¬ (N : Int) ≤ 1 := by omega
  have hbI : (b : Int) ≤ 262144 := by omega
  have hb0 : (0 : Int) ≤ (b : Int) := by omega
  have hmI : (b : Int) / 4 = (m : Int) := by omega
  have hm2I : (2 : Int) * (m : Int) = (m2 : Int) := by omega
  have hm16 : 16 ≤ m := by omega
  have hm9 : (m : Int) ≤ 65536 := by omega
  have hm0 : (0 : Int) ≤ (m : Int) := by omega
  have hnlt : n < 2 ^ (64 * N) := by rw [hN]; have := lv_lt (nrow_fits n); rwa [lv_nrow] at this
  have hdl : n / 2 ^ m2 < n := by
    refine Nat.div_lt_self (by omega) ?_
    have : 2 ^ 1 ≤ 2 ^ m2 := Nat.pow_le_pow_right (by omega) (by omega)
    omega
  have HIH := Lib.hid (ih (n / 2 ^ m2) hdl (Nat.le_trans (nrow_mono (Nat.div_le_self _ _)) hL))
  have hbits := bits_p (K := 4096) (w := w) (va := .slice a (nrow n).length ca) (na := n) (by have := NNum.of_arg (K := 4096) (w := w) (a := a) (cap := ca) (L := nrow n) h1 h2 (nrow_fits n) ma hL; rwa [lv_nrow] at this) (by omega)
  rw [← hb, ← hN] at hbits
  have HBITS := Lib.hid hbits
  have hdn := shiftDown_any a ca (nrow n) m2 w (by omega) h1 (by omega) (nrow_fits n) ma
  rw [lv_nrow, ← hN] at hdn
  have HDN := Lib.hid hdn
  have HDIV := Lib.hid (fun x (hx : x ≠ 0) => divides_all (na := n) hx (by omega))
  have HM := Lib.hid (And.intro hm2 (show m ≤ 65536 by omega))
  have HN := Lib.hid hN
  have HMA := Lib.hid ma
  have HL4 : Hid (N ≤ 4096) := Lib.hid (by omega)
  have HCA := Lib.hid (And.intro h1 h2)
  have HNL := Lib.hid hnlt
  have HN0 := Lib.hid h0
  have HB0 := Lib.hid (Below.refl w.heap.size w)
  rw [← hN]
  clear ih hL hbig h0 ht1 ht2 ht3 ht4 hbt hbp hb hm hm2 hm16 hnlt hdl hbits hdn hN h1 h2 ma
  go_enter Try.func33, Try.ntmps33
  go_wp2_with fail
  refine HBITS.out.mono ?_
  rintro e w' ⟨rfl, hw'⟩
  rw [← hw']
  clear hw' w'
  go_wp2_with fail
  refine HDN.out.mono ?_
  rintro e w1 ⟨v1, rfl, hr1, hb1⟩
  obtain ⟨A1, c1, rfl, hc1, _, hat1⟩ := hr1.at_
  have HC := Lib.hid (HIH.out A1 c1 w1 hc1 hr1.none_cap hat1)
  have HB1 := Lib.hid hb1
  have HMA1 := Lib.hid (HMA.out.below hb1 (Nat.le_refl _))
  clear hr1 hc1 hat1 hb1
  go_wp2_with fail
  refine HC.out.mono ?_
  rintro e w2 ⟨v2, s, rfl, hr2, hs1, hs2, hb2⟩
  have HB2 := Lib.hid (HB1.out.trans (hb2.mono HB1.out.size))
  have HMA2 := Lib.hid (HMA1.out.below hb2 (Nat.le_refl _))
  obtain ⟨x0, hx0⟩ : ∃ x0, x0 = (s + 1) * 2 ^ m := ⟨_, rfl⟩
  have hsn : s ≤ n := by
    have h1 : s ≤ s * s := by rcases Nat.eq_zero_or_pos s with h | h; · subst h; exact Nat.le_refl _
                              · exact Nat.le_mul_of_pos_left s h
    have h2 := Nat.div_le_self n (2 ^ m2)
    omega
  have hst := start_above HM.out.1 hs2
  have hbound := root_len (M := 1024) HNL.out hsn (show m ≤ 64 * 1024 by have := HM.out.2; omega)
  rw [← hx0] at hst hbound
  have hx0p : 0 < x0 := by rw [hx0]; exact Nat.mul_pos (by omega) (Nat.two_pow_pos _)
  have HST : Hid (n < (x0 + 1) * (x0 + 1)) := Lib.hid (Nat.lt_of_lt_of_le hst (Nat.mul_le_mul (by omega) (by omega)))
  have HX0P := Lib.hid hx0p
  have HXL : Hid (∀ y, y ≤ x0 + n → (nrow y).length ≤ 5121) := Lib.hid (fun y hy => by
    have h1 := nrow_length_le (k := N + 1024 + 1) (Nat.lt_of_le_of_lt hy hbound)
    have := HL4.out
    omega)
  have HX0 := Lib.hid hx0
  have hsl : (nrow s).length ≤ 5121 := HXL.out s (by have : s ≤ x0 := by rw [hx0]; exact Nat.le_trans (Nat.le_succ s) (Nat.le_mul_of_pos_right _ (Nat.two_pow_pos m))
                                                     omega)
  have hs1l : (nrow (s + 1)).length ≤ 5121 := HXL.out (s + 1) (by have : s + 1 ≤ x0 := by rw [hx0]; exact Nat.le_mul_of_pos_right _ (Nat.two_pow_pos m)
                                                                  omega)
  have HSL := Lib.hid (And.intro hsl hs1l)
  have HR2 := Lib.hid hr2
  have HOF := Lib.hid (of_any 1 w2 (by omega))
  clear hr2 hs1 hs2 hb2 hsn hst hbound hx0p hx0 hsl hs1l
  go_wp2_with fail
  refine HOF.out.mono ?_
  rintro e w3 ⟨v3, rfl, hr3, hb3⟩
  have HB3 := Lib.hid (HB2.out.trans (hb3.mono HB2.out.size))
  have HMA3 := Lib.hid (HMA2.out.below hb3 (Nat.le_refl _))
  have hr2 := HR2.out.below hb3 (Nat.le_refl _)
  obtain ⟨A2, c2, rfl, hc2, _, hat2⟩ := hr2.at_
  obtain ⟨A3, c3, rfl, hc3, _, hat3⟩ := hr3.at_
  have hsum := sum_any A2 A3 c2 c3 (nrow s) (nrow 1) w3 (by have := HSL.out.1; omega) (by have := nrow_length_le (v := 1) (k := 1) (by decide); omega) (nrow_fits _) (nrow_fits _) hat2 hat3
  rw [lv_nrow, lv_nrow] at hsum
  have HSUM := Lib.hid hsum
  clear hr2 hr3 hb3 hc2 hat2 hc3 hat3 hsum
  go_wp2_with fail
  refine HSUM.out.mono ?_
  rintro e w4 ⟨v4, rfl, hr4, hb4⟩
  have HB4 := Lib.hid (HB3.out.trans (hb4.mono HB3.out.size))
  have HMA4 := Lib.hid (HMA3.out.below hb4 (Nat.le_refl _))
  obtain ⟨A4, c4, rfl, hc4, _, hat4⟩ := hr4.at_
  have hup := shiftUp_any A4 c4 (nrow (s + 1)) m w4 (by have := HSL.out.2; omega) (by have := HM.out.2; omega) (nrow_fits _) hat4
  rw [lv_nrow, ← HX0.out] at hup
  have HUP := Lib.hid hup
  clear hr4 hb4 hc4 hat4 hup
  go_wp2_with fail
  refine HUP.out.mono ?_
  rintro e w5 ⟨v5, rfl, hr5, hb5⟩
  have H5 : Hid (RtAt w.heap.size n x0 5121 a w v5 w5) := Lib.hid ⟨x0, hr5.more HB4.out.size, HST.out, HX0P.out, Nat.le_refl _, HXL.out x0 (by omega), HMA4.out.below hb5 (Nat.le_refl _), HB4.out.trans (hb5.mono HB4.out.size)⟩
  obtain ⟨A5, c5, rfl, _, _, _⟩ := hr5.at_
  clear hr5 hb5
  go_wp2_with fail
  go_loopw [4] (fun v W => RtAt w.heap.size n x0 5121 a w v W) (fun v W => toldBy 5121 W v)
  case atStart => exact H5.out
  case round =>
    obtain ⟨x, hr, hab, hxp, hxx, hxl, hma, hbel⟩ := hrel
    have HME : Hid (toldBy 5121 wr u4 = x) := Lib.hid (toldBy_eq (by have := hr.num (K := 5121) (nrow_fits x) hxl; rwa [lv_nrow] at this))
    obtain ⟨Ax, cx, rfl, hcx, _, hatx⟩ := hr.at_
    have hn1 := hr.none_cap
    have hdv := HDIV.out x (by omega) a Ax ca cx wr HCA.out.1 HCA.out.2 hcx hn1 hma hatx
    rw [← HN.out] at hdv
    have HDV := Lib.hid hdv
    obtain ⟨q, hq⟩ : ∃ q, q = n / x := ⟨_, rfl⟩
    obtain ⟨y, hy⟩ : ∃ y, y = (x + q) / 2 ^ 1 := ⟨_, rfl⟩
    have hy2 : y = (x + n / x) / 2 := by rw [hy, hq]
    have hyab := newton_above hxp hy2
    have hy0 : 0 < y := by
      rcases Nat.eq_zero_or_pos y with h | h
      · rw [h] at hyab; have := HN0.out; omega
      · exact h
    have hqn : q ≤ n := by rw [hq]; exact Nat.div_le_self _ _
    have HYAB := Lib.hid (And.intro hyab hy0)
    have HSTOP : Hid (x ≤ y → x * x ≤ n) := Lib.hid (fun h => newton_stop hxp (by rw [← hy2]; exact h))
    have HQL := Lib.hid (HXL.out q (by omega))
    have HSL2 := Lib.hid (HXL.out (x + q) (by omega))
    have hyl : y ≤ x + q := by rw [hy]; exact Nat.div_le_self _ _
    have HYL := Lib.hid (HXL.out y (by omega))
    have HQ := Lib.hid hq
    have HY := Lib.hid hy
    have HRX := Lib.hid hr
    have HAB := Lib.hid hab
    have HXX := Lib.hid hxx
    have HXLL := Lib.hid hxl
    have HMAW := Lib.hid hma
    have HBEL := Lib.hid hbel
    have HXP := Lib.hid hxp
    clear hr hab hxp hxx hxl hma hbel hn1 hcx hatx hdv hq hy hy2 hyab hy0 hqn hyl
    go_wp2_with fail
    refine HDV.out.mono ?_
    rintro e w6 ⟨vq, vr, rfl, hq6, _, hb6⟩
    rw [← HQ.out] at hq6
    have HBw6 := Lib.hid (HBEL.out.trans (hb6.mono HBEL.out.size))
    have HMA6 := Lib.hid (HMAW.out.below hb6 (Nat.le_refl _))
    have HRX6 := Lib.hid (HRX.out.below hb6 (Nat.le_refl _))
    obtain ⟨Aq, cq, rfl, _, _, hatq⟩ := hq6.at_
    obtain ⟨Ax', cx', ex, _, _, hatx⟩ := HRX6.out.at_
    cases ex
    have hsum := sum_any Ax Aq cx cq (nrow x) (nrow q) w6 (by have := HXLL.out; omega) (by have := HQL.out; omega) (nrow_fits _) (nrow_fits _) hatx hatq
    rw [lv_nrow, lv_nrow] at hsum
    have HSUM := Lib.hid hsum
    clear hq6 hb6 hatq hatx hsum
    go_wp2_with fail
    refine HSUM.out.mono ?_
    rintro e w7 ⟨v7, rfl, hr7, hb7⟩
    have HBw7 := Lib.hid (HBw6.out.trans (hb7.mono HBw6.out.size))
    have HMA7 := Lib.hid (HMA6.out.below hb7 (Nat.le_refl _))
    have HRX7 := Lib.hid (HRX6.out.below hb7 (Nat.le_refl _))
    obtain ⟨A7, c7, rfl, hc7, _, hat7⟩ := hr7.at_
    have hdn := shiftDown_any A7 c7 (nrow (x + q)) 1 w7 (by have := HSL2.out; omega) hc7 (by omega) (nrow_fits _) hat7
    rw [lv_nrow, ← HY.out] at hdn
    have HDN2 := Lib.hid hdn
    clear hr7 hb7 hc7 hat7 hdn
    go_wp2_with fail
    refine HDN2.out.mono ?_
    rintro e w8 ⟨v8, rfl, hr8, hb8⟩
    have HBw8 := Lib.hid (HBw7.out.trans (hb8.mono HBw7.out.size))
    have HMA8 := Lib.hid (HMA7.out.below hb8 (Nat.le_refl _))
    have HRX8 := Lib.hid (HRX7.out.below hb8 (Nat.le_refl _))
    have HRY8 := Lib.hid (hr8.more (B' := w.heap.size) HBw7.out.size)
    obtain ⟨A8, c8, rfl, _, _, hat8⟩ := hr8.at_
    obtain ⟨Ax', cx', ex, _, _, hatx⟩ := HRX8.out.at_
    cases ex
    obtain ⟨c, hc⟩ : ∃ c, c = cmpV y x := ⟨_, rfl⟩
    have hcmp := compare_any A8 Ax c8 cx y x w8 (by have := HYL.out; omega) hat8 hatx
    have HCMP : Hid (Calls Try.prog 49 #[.slice A8 (nrow y).length c8, .slice Ax (nrow x).length cx] w8 (fun e w' => e = .returned (.int .i64 c) ∧ Below w8.heap.size w8 w')) := Lib.hid (by rw [hc]; exact hcmp)
    have HC := Lib.hid hc
    clear hr8 hb8 hat8 hatx hcmp hc
    by_cases hcy : x ≤ y
    · have hc0 : (0 : Int) ≤ c := by rw [HC.out]; unfold cmpV; rw [if_neg (by omega)]; split <;> omega
      have HE := Lib.hid (HSTOP.out hcy)
      clear hcy
      go_wp2_with fail
      refine HCMP.out.mono ?_
      rintro e w9 ⟨rfl, hb9⟩
      have HBw9 := Lib.hid (HBw8.out.trans (hb9.mono HBw8.out.size))
      have HRX9 := Lib.hid (HRX8.out.below hb9 (Nat.le_refl _))
      clear hb9
      go_wp2_with fail
      go_ret
      exact ⟨_, x, rfl, HRX9.out, HE.out, HAB.out, HBw9.out⟩
    · have hc0 : ¬ (0 : Int) ≤ c := by rw [HC.out]; unfold cmpV; rw [if_pos (by omega)]; omega
      have HLT := Lib.hid (Nat.lt_of_not_le hcy)
      clear hcy
      go_wp2_with fail
      refine HCMP.out.mono ?_
      rintro e w9 ⟨rfl, hb9⟩
      have HBw9 := Lib.hid (HBw8.out.trans (hb9.mono HBw8.out.size))
      have HRY9 := Lib.hid (HRY8.out.below hb9 (Nat.le_refl _))
      have HMA9 := Lib.hid (HMA8.out.below hb9 (Nat.le_refl _))
      clear hb9
      go_wp2_with fail
      go_roundw
      case rel => exact ⟨y, HRY9.out, HYAB.out.1, HYAB.out.2, by have := HLT.out; have := HXX.out; omega, HYL.out, HMA9.out, HBw9.out⟩
      case measure =>
        show toldBy 5121 _ (.slice A8 (nrow y).length c8) < toldBy 5121 wr (.slice Ax (nrow x).length cx)
        rw [HME.out, toldBy_eq (n := y) (by have := HRY9.out.num (K := 5121) (nrow_fits y) HYL.out; rwa [lv_nrow] at this)]
        exact HLT.out
/-- squareRoot, of any number. -/
theorem roots_all (n : Nat) : (nrow n).length ≤ 4096 → Roots n := by
  induction n using Nat.strongRecOn with
  | _ n ih =>
    intro hL
    rcases Nat.lt_or_ge 1 (nrow n).length with h | h
    · exact root_more n hL h ih
    · exact roots_small h
end Go.Proofs.Ytcdedaihkfpafaa
