/-
  LAYER 3: the texts NatDividesW, one behind the other.
-/
import Derived.Test.YtcdedaihkfpafaaNatC2
import Derived.Test.YtcdedaihkfpafaaNatA1
import Derived.Test.YtcdedaihkfpafaaNatD2
import Derived.Test.YtcdedaihkfpafaaNatD3
import Derived.Test.YtcdedaihkfpafaaNatC4
import Derived.Test.YtcdedaihkfpafaaNatA3
import Derived.Test.YtcdedaihkfpafaaNatA4
import Derived.BigQuiet

namespace Go.Proofs.Ytcdedaihkfpafaa
open Go.RowKit

theorem root_one {r x n : Nat} (h1 : r * r ≤ n) (h2 : n < (r + 1) * (r + 1)) (h3 : x * x ≤ n) (h4 : n < (x + 1) * (x + 1)) : x = r := by
  rcases Nat.lt_trichotomy x r with h | h | h
  · exfalso
    have := Nat.mul_le_mul (show x + 1 ≤ r from h) (show x + 1 ≤ r from h)
    omega
  · exact h
  · exfalso
    have := Nat.mul_le_mul (show r + 1 ≤ x from h) (show r + 1 ≤ x from h)
    omega
theorem same_d {B B' : Nat} {w : World} {va vb : Value} {n : Nat} (ha : NRow B w va (nrow n)) (hb : NRow B' w vb (nrow n)) (hs : (nrow n).length ≤ 2048) :
    Calls Try.prog 11 #[va, vb] w fun e w' => e = .returned (.bool true) ∧ Below w.heap.size w w' := by
  obtain ⟨a, ca, rfl, _, _, ma⟩ := ha.at_
  obtain ⟨b, cb, rfl, _, _, mb⟩ := hb.at_
  refine (nsame_any a b ca cb (nrow n) w (by omega) ma mb (nrow_last n)).mono ?_
  rintro e w' ⟨he, d, rfl⟩
  exact ⟨he, below_drewN (Below.refl _ _) _⟩
theorem shl_t {K : Nat} {w : World} {va : Value} {na : Nat} (ha : NNum K w va na) (hK : K ≤ 6) (s : Nat) (hs : s ≤ 500) : Calls Try.prog 16 #[va, .int .i64 (s : Int)] w (ERes w.heap.size (na * 2 ^ s) w) := by
  by_cases h0 : na = 0
  · subst h0
    rw [Nat.zero_mul]
    exact shl_zero ha (by omega) _ (by omega)
  · exact shl_p ha (by omega) (Nat.le_trans (nrow_length_le ha.lt) (by omega)) h0 s (by have := blen_le ha.lt; omega)
theorem divides_great (a b : Option Addr) (la lb ca cb : Nat) (j : Int) (w : World) (h : 6 < la ∨ 6 < lb) :
    Calls Try.prog 3 #[.slice a la ca, .slice b lb cb, .int .i64 j] w fun e w' => e = .returned (.bool true) ∧ Below w.heap.size w w' := by
  have HG := Lib.hid (great_any a b none la lb 0 ca cb 0 w)
  have e : (decide (6 < la) || (decide (6 < lb) || decide (6 < 0))) = true := by simp; omega
  rw [e] at HG
  have HG := Lib.hid HG.out
  clear e h
  go_enter Try.func3, Try.ntmps3
  go_wp2_with fail
  refine HG.out.mono ?_
  rintro e w1 ⟨rfl, rfl⟩
  go_wp2_with fail
  refine (head_any w).mono ?_
  rintro e w2 ⟨rfl, hb⟩
  go_wp2_with fail
  go_ret
  exact ⟨rfl, hb⟩
set_option maxRecDepth 100000 in
theorem divides_far (a b : Option Addr) (la lb ca cb : Nat) (j : Int) (w : World) (h1 : la ≤ 6) (h2 : lb ≤ 6) (h : 500 < j ∨ j < -500) :
    Calls Try.prog 3 #[.slice a la ca, .slice b lb cb, .int .i64 j] w fun e w' => e = .returned (.bool true) ∧ Below w.heap.size w w' := by
  have HG := Lib.hid (great_any a b none la lb 0 ca cb 0 w)
  have e : (decide (6 < la) || (decide (6 < lb) || decide (6 < 0))) = false := by simp; omega
  rw [e] at HG
  have HG := Lib.hid HG.out
  clear e h1 h2
  rcases h with h | h
  · go_enter Try.func3, Try.ntmps3
    go_wp2_with fail
    refine HG.out.mono ?_
    rintro e w1 ⟨rfl, rfl⟩
    go_wp2_with fail
    refine (head_any w).mono ?_
    rintro e w2 ⟨rfl, hb⟩
    go_wp2_with fail
    go_ret
    exact ⟨rfl, hb⟩
  · have h' : ¬ 500 < j := by omega
    go_enter Try.func3, Try.ntmps3
    go_wp2_with fail
    refine HG.out.mono ?_
    rintro e w1 ⟨rfl, rfl⟩
    go_wp2_with fail
    refine (head_any w).mono ?_
    rintro e w2 ⟨rfl, hb⟩
    go_wp2_with fail
    go_ret
    exact ⟨rfl, hb⟩

theorem shl_rows {n s A B k : Nat} (hA : 64 * k = A + B) (h : n < 2 ^ A) (hs : s ≤ B) (hk : k ≤ 2048) : (nrow (n * 2 ^ s)).length ≤ 2048 := by
  refine Nat.le_trans (nrow_length_le (k := k) ?_) hk
  have h1 : 2 ^ s ≤ 2 ^ B := Nat.pow_le_pow_right (by omega) hs
  rw [hA, Nat.pow_add]
  exact Nat.lt_of_lt_of_le (Nat.mul_lt_mul_of_pos_right h (Nat.two_pow_pos s)) (Nat.mul_le_mul_left _ h1)
set_option maxRecDepth 100000 in
set_option maxHeartbeats 4000000 in
theorem divides_zn (a b : Option Addr) (la lb ca cb na nb : Nat) (hz : nb = 0) (j : Int) (hj : j < 0) (hj2 : ¬ j < -500) (w : World) (h1 : la ≤ 6) (h2 : lb ≤ 6) (ha : NNum 6 w (.slice a la ca) na) (hb : NNum 6 w (.slice b lb cb) nb) :
    Calls Try.prog 3 #[.slice a la ca, .slice b lb cb, .int .i64 j] w fun e w' => e = .returned (.bool true) ∧ Below w.heap.size w w' := by
  have HG := Lib.hid (great_any a b none la lb 0 ca cb 0 w)
  have e : (decide (6 < la) || (decide (6 < lb) || decide (6 < 0))) = false := by simp; omega
  rw [e] at HG
  have HG := Lib.hid HG.out
  have HSA : Hid (na < 2 ^ (64 * 6)) := Lib.hid ha.lt
  have HSB : Hid (nb < 2 ^ (64 * 6)) := Lib.hid hb.lt
  have Ha := Lib.hid ha
  have Hb := Lib.hid hb
  have HZ := Lib.hid hz
  have HB := Lib.hid (Below.refl w.heap.size w)
  have hj3 : ¬ 500 < j := by omega
  clear e h1 h2 ha hb hz
  go_enter Try.func3, Try.ntmps3
  go_wp2_with fail
  refine HG.out.mono ?_
  rintro e w0 ⟨rfl, rfl⟩
  go_wp2_with fail
  refine (div_zero (Ha.out.below HB.out) (HZ.out ▸ (Hb.out.below HB.out)) (by omega) (by omega) (short_of HSA.out (by omega))).mono ?_
  rintro e w' ⟨rfl, hb⟩
  have HB := Lib.hid (HB.out.trans (hb.mono HB.out.size))
  clear hb
  go_wp2_with fail
  refine (gcd_p (Ha.out.below HB.out) (Hb.out.below HB.out) (by omega) (by omega) (short_of HSA.out (by omega)) (short_of HSB.out (by omega)) (.inl next_ok)).mono ?_
  rintro e w' ⟨vg, rfl, hg, hb⟩
  have HB := Lib.hid (HB.out.trans (hb.mono HB.out.size))
  have HGG := Lib.hid hg
  clear hb hg
  go_wp2_with fail
  refine (root_p (Ha.out.below HB.out) (by omega) (short_of HSA.out (by omega)) (roots_all na (Nat.le_trans (nrow_length_le HSA.out) (by omega)))).mono ?_
  rintro e w' ⟨vs, r, rfl, hr, hr1, hr2, hb⟩
  have HB := Lib.hid (HB.out.trans (hb.mono HB.out.size))
  have HGG := Lib.hid (HGG.out.below hb (Nat.le_refl _))
  have HS := Lib.hid hr
  clear hb hr
  have HR1 := Lib.hid hr1
  have HR2 := Lib.hid hr2
  clear hr1 hr2
  go_wp2_with fail
  refine (ngcd_v 6 _ _ na nb _ (by omega) (Ha.out.below HB.out) (Hb.out.below HB.out)).mono ?_
  rintro e w' ⟨vk, rfl, hk, hb⟩
  have HB := Lib.hid (HB.out.trans (hb.mono HB.out.size))
  have HGG := Lib.hid (HGG.out.below hb (Nat.le_refl _))
  have HS := Lib.hid (HS.out.below hb (Nat.le_refl _))
  have HK := Lib.hid hk
  clear hb hk
  have HGL : Hid ((nrow (Nat.gcd na nb)).length ≤ 2048) := Lib.hid (by rw [HZ.out, Nat.gcd_zero_right]; exact (Nat.le_trans (nrow_length_le HSA.out) (by omega)))
  go_wp2_with fail
  refine (same_d HGG.out HK.out HGL.out).mono ?_
  rintro e w' ⟨rfl, hb⟩
  have HB := Lib.hid (HB.out.trans (hb.mono HB.out.size))
  have HGG := Lib.hid (HGG.out.below hb (Nat.le_refl _))
  have HS := Lib.hid (HS.out.below hb (Nat.le_refl _))
  have HK := Lib.hid (HK.out.below hb (Nat.le_refl _))
  clear hb
  clear HGG HK HGL
  go_wp2_with fail
  refine (nroot_v 6 _ na _ (by omega) (Ha.out.below HB.out)).mono ?_
  rintro e w' ⟨x, vk, rfl, hk, hx1, hx2, hb⟩
  obtain rfl := root_one HR1.out HR2.out hx1 hx2
  have HB := Lib.hid (HB.out.trans (hb.mono HB.out.size))
  have HS := Lib.hid (HS.out.below hb (Nat.le_refl _))
  have HK := Lib.hid hk
  clear hb hk hx1 hx2
  have HRL : Hid ((nrow x).length ≤ 2048) := Lib.hid (Nat.le_trans (nrow_mono (Nat.le_trans (Nat.le_mul_self x) HR1.out)) (Nat.le_trans (nrow_length_le HSA.out) (by omega)))
  go_wp2_with fail
  refine (same_d HS.out HK.out HRL.out).mono ?_
  rintro e w' ⟨rfl, hb⟩
  have HB := Lib.hid (HB.out.trans (hb.mono HB.out.size))
  have HS := Lib.hid (HS.out.below hb (Nat.le_refl _))
  have HK := Lib.hid (HK.out.below hb (Nat.le_refl _))
  clear hb
  clear HS HK HRL HR1 HR2
  go_wp2_with fail
  refine (bits_v (K := 6) (by omega) (Hb.out.below HB.out)).mono ?_
  rintro e w' ⟨y, hy, rfl, rfl⟩
  rw [HZ.out] at hy
  obtain rfl : y = 0 := hy
  go_wp2_with fail
  refine (shl_arg (Ha.out.below HB.out) (by omega) (short_of HSA.out (by omega)) j hj).mono ?_
  rintro e w' ⟨rfl, hb⟩
  have HB := Lib.hid (HB.out.trans (hb.mono HB.out.size))
  clear hb
  go_wp2_with fail
  refine (shr_arg (Ha.out.below HB.out) (by omega) (short_of HSA.out (by omega)) j hj).mono ?_
  rintro e w' ⟨rfl, hb⟩
  have HB := Lib.hid (HB.out.trans (hb.mono HB.out.size))
  clear hb
  go_wp2_with fail
  refine (head_any _).mono ?_
  rintro e w' ⟨rfl, hb⟩
  have HB := Lib.hid (HB.out.trans (hb.mono HB.out.size))
  clear hb
  go_wp2_with fail
  go_ret
  exact ⟨rfl, HB.out⟩

set_option maxRecDepth 100000 in
set_option maxHeartbeats 4000000 in
theorem divides_zp (a b : Option Addr) (la lb ca cb na nb : Nat) (hz : nb = 0) (s : Nat) (hs : s ≤ 500) (w : World) (h1 : la ≤ 6) (h2 : lb ≤ 6) (ha : NNum 6 w (.slice a la ca) na) (hb : NNum 6 w (.slice b lb cb) nb) :
    Calls Try.prog 3 #[.slice a la ca, .slice b lb cb, .int .i64 (s : Int)] w fun e w' => e = .returned (.bool true) ∧ Below w.heap.size w w' := by
  have HG := Lib.hid (great_any a b none la lb 0 ca cb 0 w)
  have e : (decide (6 < la) || (decide (6 < lb) || decide (6 < 0))) = false := by simp; omega
  rw [e] at HG
  have HG := Lib.hid HG.out
  have HSA : Hid (na < 2 ^ (64 * 6)) := Lib.hid ha.lt
  have HSB : Hid (nb < 2 ^ (64 * 6)) := Lib.hid hb.lt
  have Ha := Lib.hid ha
  have Hb := Lib.hid hb
  have HZ := Lib.hid hz
  have HB := Lib.hid (Below.refl w.heap.size w)
  have HSM := Lib.hid hs
  have hj1 : ¬ (s : Int) < 0 := by omega
  have hj2 : ¬ (s : Int) < -500 := by omega
  have hj3 : ¬ 500 < (s : Int) := by omega
  clear hs
  clear e h1 h2 ha hb hz
  go_enter Try.func3, Try.ntmps3
  go_wp2_with fail
  refine HG.out.mono ?_
  rintro e w0 ⟨rfl, rfl⟩
  go_wp2_with fail
  refine (div_zero (Ha.out.below HB.out) (HZ.out ▸ (Hb.out.below HB.out)) (by omega) (by omega) (short_of HSA.out (by omega))).mono ?_
  rintro e w' ⟨rfl, hb⟩
  have HB := Lib.hid (HB.out.trans (hb.mono HB.out.size))
  clear hb
  go_wp2_with fail
  refine (gcd_p (Ha.out.below HB.out) (Hb.out.below HB.out) (by omega) (by omega) (short_of HSA.out (by omega)) (short_of HSB.out (by omega)) (.inl next_ok)).mono ?_
  rintro e w' ⟨vg, rfl, hg, hb⟩
  have HB := Lib.hid (HB.out.trans (hb.mono HB.out.size))
  have HGG := Lib.hid hg
  clear hb hg
  go_wp2_with fail
  refine (root_p (Ha.out.below HB.out) (by omega) (short_of HSA.out (by omega)) (roots_all na (Nat.le_trans (nrow_length_le HSA.out) (by omega)))).mono ?_
  rintro e w' ⟨vs, r, rfl, hr, hr1, hr2, hb⟩
  have HB := Lib.hid (HB.out.trans (hb.mono HB.out.size))
  have HGG := Lib.hid (HGG.out.below hb (Nat.le_refl _))
  have HS := Lib.hid hr
  clear hb hr
  have HR1 := Lib.hid hr1
  have HR2 := Lib.hid hr2
  clear hr1 hr2
  go_wp2_with fail
  refine (ngcd_v 6 _ _ na nb _ (by omega) (Ha.out.below HB.out) (Hb.out.below HB.out)).mono ?_
  rintro e w' ⟨vk, rfl, hk, hb⟩
  have HB := Lib.hid (HB.out.trans (hb.mono HB.out.size))
  have HGG := Lib.hid (HGG.out.below hb (Nat.le_refl _))
  have HS := Lib.hid (HS.out.below hb (Nat.le_refl _))
  have HK := Lib.hid hk
  clear hb hk
  have HGL : Hid ((nrow (Nat.gcd na nb)).length ≤ 2048) := Lib.hid (by rw [HZ.out, Nat.gcd_zero_right]; exact (Nat.le_trans (nrow_length_le HSA.out) (by omega)))
  go_wp2_with fail
  refine (same_d HGG.out HK.out HGL.out).mono ?_
  rintro e w' ⟨rfl, hb⟩
  have HB := Lib.hid (HB.out.trans (hb.mono HB.out.size))
  have HGG := Lib.hid (HGG.out.below hb (Nat.le_refl _))
  have HS := Lib.hid (HS.out.below hb (Nat.le_refl _))
  have HK := Lib.hid (HK.out.below hb (Nat.le_refl _))
  clear hb
  clear HGG HK HGL
  go_wp2_with fail
  refine (nroot_v 6 _ na _ (by omega) (Ha.out.below HB.out)).mono ?_
  rintro e w' ⟨x, vk, rfl, hk, hx1, hx2, hb⟩
  obtain rfl := root_one HR1.out HR2.out hx1 hx2
  have HB := Lib.hid (HB.out.trans (hb.mono HB.out.size))
  have HS := Lib.hid (HS.out.below hb (Nat.le_refl _))
  have HK := Lib.hid hk
  clear hb hk hx1 hx2
  have HRL : Hid ((nrow x).length ≤ 2048) := Lib.hid (Nat.le_trans (nrow_mono (Nat.le_trans (Nat.le_mul_self x) HR1.out)) (Nat.le_trans (nrow_length_le HSA.out) (by omega)))
  go_wp2_with fail
  refine (same_d HS.out HK.out HRL.out).mono ?_
  rintro e w' ⟨rfl, hb⟩
  have HB := Lib.hid (HB.out.trans (hb.mono HB.out.size))
  have HS := Lib.hid (HS.out.below hb (Nat.le_refl _))
  have HK := Lib.hid (HK.out.below hb (Nat.le_refl _))
  clear hb
  clear HS HK HRL HR1 HR2
  go_wp2_with fail
  refine (bits_v (K := 6) (by omega) (Hb.out.below HB.out)).mono ?_
  rintro e w' ⟨y, hy, rfl, rfl⟩
  rw [HZ.out] at hy
  obtain rfl : y = 0 := hy
  go_wp2_with fail
  refine (shl_t (Ha.out.below HB.out) (by omega) s HSM.out).mono ?_
  rintro e w' ⟨vu, rfl, hu, hb⟩
  have HB := Lib.hid (HB.out.trans (hb.mono HB.out.size))
  have HU := Lib.hid hu
  clear hb hu
  go_wp2_with fail
  refine (shr_p (Ha.out.below HB.out) (by omega) (short_of HSA.out (by omega)) s (by have := HSM.out; omega)).mono ?_
  rintro e w' ⟨vv, rfl, hv, hb⟩
  have HB := Lib.hid (HB.out.trans (hb.mono HB.out.size))
  have HU := Lib.hid (HU.out.below hb (Nat.le_refl _))
  have HV := Lib.hid hv
  clear hb hv
  go_wp2_with fail
  refine (shl_v (K := 6) (n := (s : Int)) (by omega) (Ha.out.below HB.out) rfl (by have := HSM.out; omega)).mono ?_
  rintro e w' ⟨vk, rfl, hk, hb⟩
  have HB := Lib.hid (HB.out.trans (hb.mono HB.out.size))
  have HU := Lib.hid (HU.out.below hb (Nat.le_refl _))
  have HV := Lib.hid (HV.out.below hb (Nat.le_refl _))
  have HK := Lib.hid hk
  clear hb hk
  have HL : Hid ((nrow (na * 2 ^ s)).length ≤ 2048) := Lib.hid (shl_rows (A := 64 * 6) (B := 512) (k := 14) (by omega) HSA.out (by have := HSM.out; omega) (by omega))
  go_wp2_with fail
  refine (same_d HU.out HK.out HL.out).mono ?_
  rintro e w' ⟨rfl, hb⟩
  have HB := Lib.hid (HB.out.trans (hb.mono HB.out.size))
  have HU := Lib.hid (HU.out.below hb (Nat.le_refl _))
  have HV := Lib.hid (HV.out.below hb (Nat.le_refl _))
  have HK := Lib.hid (HK.out.below hb (Nat.le_refl _))
  clear hb
  clear HU HK HL
  go_wp2_with fail
  refine (shr_v (K := 6) (n := (s : Int)) (by omega) (Ha.out.below HB.out) rfl (by have := HSM.out; omega)).mono ?_
  rintro e w' ⟨vk, rfl, hk, hb⟩
  have HB := Lib.hid (HB.out.trans (hb.mono HB.out.size))
  have HV := Lib.hid (HV.out.below hb (Nat.le_refl _))
  have HK := Lib.hid hk
  clear hb hk
  go_wp2_with fail
  refine (same_d HV.out HK.out (Nat.le_trans (nrow_mono (Nat.div_le_self _ _)) (Nat.le_trans (nrow_length_le HSA.out) (by omega)))).mono ?_
  rintro e w' ⟨rfl, hb⟩
  have HB := Lib.hid (HB.out.trans (hb.mono HB.out.size))
  have HV := Lib.hid (HV.out.below hb (Nat.le_refl _))
  have HK := Lib.hid (HK.out.below hb (Nat.le_refl _))
  clear hb
  clear HV HK
  go_wp2_with fail
  refine (head_any _).mono ?_
  rintro e w' ⟨rfl, hb⟩
  have HB := Lib.hid (HB.out.trans (hb.mono HB.out.size))
  clear hb
  go_wp2_with fail
  go_ret
  exact ⟨rfl, HB.out⟩

set_option maxRecDepth 100000 in
set_option maxHeartbeats 4000000 in
theorem divides_pn (a b : Option Addr) (la lb ca cb na nb : Nat) (hz : nb ≠ 0) (j : Int) (hj : j < 0) (hj2 : ¬ j < -500) (w : World) (h1 : la ≤ 6) (h2 : lb ≤ 6) (ha : NNum 6 w (.slice a la ca) na) (hb : NNum 6 w (.slice b lb cb) nb) :
    Calls Try.prog 3 #[.slice a la ca, .slice b lb cb, .int .i64 j] w fun e w' => e = .returned (.bool true) ∧ Below w.heap.size w w' := by
  have HG := Lib.hid (great_any a b none la lb 0 ca cb 0 w)
  have e : (decide (6 < la) || (decide (6 < lb) || decide (6 < 0))) = false := by simp; omega
  rw [e] at HG
  have HG := Lib.hid HG.out
  have HSA : Hid (na < 2 ^ (64 * 6)) := Lib.hid ha.lt
  have HSB : Hid (nb < 2 ^ (64 * 6)) := Lib.hid hb.lt
  have Ha := Lib.hid ha
  have Hb := Lib.hid hb
  have HZ := Lib.hid hz
  have HB := Lib.hid (Below.refl w.heap.size w)
  have hj3 : ¬ 500 < j := by omega
  clear e h1 h2 ha hb hz
  go_enter Try.func3, Try.ntmps3
  go_wp2_with fail
  refine HG.out.mono ?_
  rintro e w0 ⟨rfl, rfl⟩
  go_wp2_with fail
  refine (div_p (Ha.out.below HB.out) (Hb.out.below HB.out) (by omega) (by omega) (short_of HSA.out (by omega)) (short_of HSB.out (by omega)) HZ.out (divides_all HZ.out (Nat.le_trans (nrow_length_le HSA.out) (by omega)))).mono ?_
  rintro e w' ⟨vq, vr, rfl, hq, hr, hb⟩
  have HB := Lib.hid (HB.out.trans (hb.mono HB.out.size))
  have HQ := Lib.hid hq
  have HRR := Lib.hid hr
  clear hb hq hr
  go_wp2_with fail
  refine (gcd_p (Ha.out.below HB.out) (Hb.out.below HB.out) (by omega) (by omega) (short_of HSA.out (by omega)) (short_of HSB.out (by omega)) (.inl next_ok)).mono ?_
  rintro e w' ⟨vg, rfl, hg, hb⟩
  have HB := Lib.hid (HB.out.trans (hb.mono HB.out.size))
  have HQ := Lib.hid (HQ.out.below hb (Nat.le_refl _))
  have HRR := Lib.hid (HRR.out.below hb (Nat.le_refl _))
  have HGG := Lib.hid hg
  clear hb hg
  go_wp2_with fail
  refine (root_p (Ha.out.below HB.out) (by omega) (short_of HSA.out (by omega)) (roots_all na (Nat.le_trans (nrow_length_le HSA.out) (by omega)))).mono ?_
  rintro e w' ⟨vs, r, rfl, hr, hr1, hr2, hb⟩
  have HB := Lib.hid (HB.out.trans (hb.mono HB.out.size))
  have HQ := Lib.hid (HQ.out.below hb (Nat.le_refl _))
  have HRR := Lib.hid (HRR.out.below hb (Nat.le_refl _))
  have HGG := Lib.hid (HGG.out.below hb (Nat.le_refl _))
  have HS := Lib.hid hr
  clear hb hr
  have HR1 := Lib.hid hr1
  have HR2 := Lib.hid hr2
  clear hr1 hr2
  go_wp2_with fail
  refine (ngcd_v 6 _ _ na nb _ (by omega) (Ha.out.below HB.out) (Hb.out.below HB.out)).mono ?_
  rintro e w' ⟨vk, rfl, hk, hb⟩
  have HB := Lib.hid (HB.out.trans (hb.mono HB.out.size))
  have HQ := Lib.hid (HQ.out.below hb (Nat.le_refl _))
  have HRR := Lib.hid (HRR.out.below hb (Nat.le_refl _))
  have HGG := Lib.hid (HGG.out.below hb (Nat.le_refl _))
  have HS := Lib.hid (HS.out.below hb (Nat.le_refl _))
  have HK := Lib.hid hk
  clear hb hk
  have HGL : Hid ((nrow (Nat.gcd na nb)).length ≤ 2048) := Lib.hid (Nat.le_trans (nrow_length_le (Nat.lt_of_le_of_lt (Nat.gcd_le_right _ (Nat.pos_of_ne_zero HZ.out)) HSB.out)) (by omega))
  go_wp2_with fail
  refine (same_d HGG.out HK.out HGL.out).mono ?_
  rintro e w' ⟨rfl, hb⟩
  have HB := Lib.hid (HB.out.trans (hb.mono HB.out.size))
  have HQ := Lib.hid (HQ.out.below hb (Nat.le_refl _))
  have HRR := Lib.hid (HRR.out.below hb (Nat.le_refl _))
  have HGG := Lib.hid (HGG.out.below hb (Nat.le_refl _))
  have HS := Lib.hid (HS.out.below hb (Nat.le_refl _))
  have HK := Lib.hid (HK.out.below hb (Nat.le_refl _))
  clear hb
  clear HGG HK HGL
  go_wp2_with fail
  refine (nroot_v 6 _ na _ (by omega) (Ha.out.below HB.out)).mono ?_
  rintro e w' ⟨x, vk, rfl, hk, hx1, hx2, hb⟩
  obtain rfl := root_one HR1.out HR2.out hx1 hx2
  have HB := Lib.hid (HB.out.trans (hb.mono HB.out.size))
  have HQ := Lib.hid (HQ.out.below hb (Nat.le_refl _))
  have HRR := Lib.hid (HRR.out.below hb (Nat.le_refl _))
  have HS := Lib.hid (HS.out.below hb (Nat.le_refl _))
  have HK := Lib.hid hk
  clear hb hk hx1 hx2
  have HRL : Hid ((nrow x).length ≤ 2048) := Lib.hid (Nat.le_trans (nrow_mono (Nat.le_trans (Nat.le_mul_self x) HR1.out)) (Nat.le_trans (nrow_length_le HSA.out) (by omega)))
  go_wp2_with fail
  refine (same_d HS.out HK.out HRL.out).mono ?_
  rintro e w' ⟨rfl, hb⟩
  have HB := Lib.hid (HB.out.trans (hb.mono HB.out.size))
  have HQ := Lib.hid (HQ.out.below hb (Nat.le_refl _))
  have HRR := Lib.hid (HRR.out.below hb (Nat.le_refl _))
  have HS := Lib.hid (HS.out.below hb (Nat.le_refl _))
  have HK := Lib.hid (HK.out.below hb (Nat.le_refl _))
  clear hb
  clear HS HK HRL HR1 HR2
  go_wp2_with fail
  refine (bits_v (K := 6) (by omega) (Hb.out.below HB.out)).mono ?_
  rintro e w' ⟨y, hy, rfl, rfl⟩
  have hy0 : ¬ y = 0 := by rw [hy]; have := blen_pos HZ.out; omega
  have hy1 : decide (y = 0) = false := by simpa using hy0
  have hy2 : (y == 0) = false := by simpa using hy0
  clear hy
  go_wp2_with fail
  refine (ndiv_v 6 _ _ na nb _ (by omega) (Ha.out.below HB.out) (Hb.out.below HB.out) HZ.out).mono ?_
  rintro e w' ⟨vx, vy, rfl, hx, hy, hb⟩
  have HB := Lib.hid (HB.out.trans (hb.mono HB.out.size))
  have HQ := Lib.hid (HQ.out.below hb (Nat.le_refl _))
  have HRR := Lib.hid (HRR.out.below hb (Nat.le_refl _))
  have HX := Lib.hid hx
  have HY := Lib.hid hy
  clear hb hx hy
  go_wp2_with fail
  refine (same_d HQ.out HX.out (Nat.le_trans (nrow_mono (Nat.div_le_self _ _)) (Nat.le_trans (nrow_length_le HSA.out) (by omega)))).mono ?_
  rintro e w' ⟨rfl, hb⟩
  have HB := Lib.hid (HB.out.trans (hb.mono HB.out.size))
  have HQ := Lib.hid (HQ.out.below hb (Nat.le_refl _))
  have HRR := Lib.hid (HRR.out.below hb (Nat.le_refl _))
  have HX := Lib.hid (HX.out.below hb (Nat.le_refl _))
  have HY := Lib.hid (HY.out.below hb (Nat.le_refl _))
  clear hb
  go_wp2_with fail
  refine (same_d HRR.out HY.out (Nat.le_trans (nrow_mono (Nat.mod_le _ _)) (Nat.le_trans (nrow_length_le HSA.out) (by omega)))).mono ?_
  rintro e w' ⟨rfl, hb⟩
  have HB := Lib.hid (HB.out.trans (hb.mono HB.out.size))
  have HQ := Lib.hid (HQ.out.below hb (Nat.le_refl _))
  have HRR := Lib.hid (HRR.out.below hb (Nat.le_refl _))
  have HX := Lib.hid (HX.out.below hb (Nat.le_refl _))
  have HY := Lib.hid (HY.out.below hb (Nat.le_refl _))
  clear hb
  clear HQ HX HRR HY
  go_wp2_with fail
  refine (shl_arg (Ha.out.below HB.out) (by omega) (short_of HSA.out (by omega)) j hj).mono ?_
  rintro e w' ⟨rfl, hb⟩
  have HB := Lib.hid (HB.out.trans (hb.mono HB.out.size))
  clear hb
  go_wp2_with fail
  refine (shr_arg (Ha.out.below HB.out) (by omega) (short_of HSA.out (by omega)) j hj).mono ?_
  rintro e w' ⟨rfl, hb⟩
  have HB := Lib.hid (HB.out.trans (hb.mono HB.out.size))
  clear hb
  go_wp2_with fail
  refine (head_any _).mono ?_
  rintro e w' ⟨rfl, hb⟩
  have HB := Lib.hid (HB.out.trans (hb.mono HB.out.size))
  clear hb
  go_wp2_with fail
  go_ret
  exact ⟨rfl, HB.out⟩

set_option maxRecDepth 100000 in
set_option maxHeartbeats 4000000 in
theorem divides_pp (a b : Option Addr) (la lb ca cb na nb : Nat) (hz : nb ≠ 0) (s : Nat) (hs : s ≤ 500) (w : World) (h1 : la ≤ 6) (h2 : lb ≤ 6) (ha : NNum 6 w (.slice a la ca) na) (hb : NNum 6 w (.slice b lb cb) nb) :
    Calls Try.prog 3 #[.slice a la ca, .slice b lb cb, .int .i64 (s : Int)] w fun e w' => e = .returned (.bool true) ∧ Below w.heap.size w w' := by
  have HG := Lib.hid (great_any a b none la lb 0 ca cb 0 w)
  have e : (decide (6 < la) || (decide (6 < lb) || decide (6 < 0))) = false := by simp; omega
  rw [e] at HG
  have HG := Lib.hid HG.out
  have HSA : Hid (na < 2 ^ (64 * 6)) := Lib.hid ha.lt
  have HSB : Hid (nb < 2 ^ (64 * 6)) := Lib.hid hb.lt
  have Ha := Lib.hid ha
  have Hb := Lib.hid hb
  have HZ := Lib.hid hz
  have HB := Lib.hid (Below.refl w.heap.size w)
  have HSM := Lib.hid hs
  have hj1 : ¬ (s : Int) < 0 := by omega
  have hj2 : ¬ (s : Int) < -500 := by omega
  have hj3 : ¬ 500 < (s : Int) := by omega
  clear hs
  clear e h1 h2 ha hb hz
  go_enter Try.func3, Try.ntmps3
  go_wp2_with fail
  refine HG.out.mono ?_
  rintro e w0 ⟨rfl, rfl⟩
  go_wp2_with fail
  refine (div_p (Ha.out.below HB.out) (Hb.out.below HB.out) (by omega) (by omega) (short_of HSA.out (by omega)) (short_of HSB.out (by omega)) HZ.out (divides_all HZ.out (Nat.le_trans (nrow_length_le HSA.out) (by omega)))).mono ?_
  rintro e w' ⟨vq, vr, rfl, hq, hr, hb⟩
  have HB := Lib.hid (HB.out.trans (hb.mono HB.out.size))
  have HQ := Lib.hid hq
  have HRR := Lib.hid hr
  clear hb hq hr
  go_wp2_with fail
  refine (gcd_p (Ha.out.below HB.out) (Hb.out.below HB.out) (by omega) (by omega) (short_of HSA.out (by omega)) (short_of HSB.out (by omega)) (.inl next_ok)).mono ?_
  rintro e w' ⟨vg, rfl, hg, hb⟩
  have HB := Lib.hid (HB.out.trans (hb.mono HB.out.size))
  have HQ := Lib.hid (HQ.out.below hb (Nat.le_refl _))
  have HRR := Lib.hid (HRR.out.below hb (Nat.le_refl _))
  have HGG := Lib.hid hg
  clear hb hg
  go_wp2_with fail
  refine (root_p (Ha.out.below HB.out) (by omega) (short_of HSA.out (by omega)) (roots_all na (Nat.le_trans (nrow_length_le HSA.out) (by omega)))).mono ?_
  rintro e w' ⟨vs, r, rfl, hr, hr1, hr2, hb⟩
  have HB := Lib.hid (HB.out.trans (hb.mono HB.out.size))
  have HQ := Lib.hid (HQ.out.below hb (Nat.le_refl _))
  have HRR := Lib.hid (HRR.out.below hb (Nat.le_refl _))
  have HGG := Lib.hid (HGG.out.below hb (Nat.le_refl _))
  have HS := Lib.hid hr
  clear hb hr
  have HR1 := Lib.hid hr1
  have HR2 := Lib.hid hr2
  clear hr1 hr2
  go_wp2_with fail
  refine (ngcd_v 6 _ _ na nb _ (by omega) (Ha.out.below HB.out) (Hb.out.below HB.out)).mono ?_
  rintro e w' ⟨vk, rfl, hk, hb⟩
  have HB := Lib.hid (HB.out.trans (hb.mono HB.out.size))
  have HQ := Lib.hid (HQ.out.below hb (Nat.le_refl _))
  have HRR := Lib.hid (HRR.out.below hb (Nat.le_refl _))
  have HGG := Lib.hid (HGG.out.below hb (Nat.le_refl _))
  have HS := Lib.hid (HS.out.below hb (Nat.le_refl _))
  have HK := Lib.hid hk
  clear hb hk
  have HGL : Hid ((nrow (Nat.gcd na nb)).length ≤ 2048) := Lib.hid (Nat.le_trans (nrow_length_le (Nat.lt_of_le_of_lt (Nat.gcd_le_right _ (Nat.pos_of_ne_zero HZ.out)) HSB.out)) (by omega))
  go_wp2_with fail
  refine (same_d HGG.out HK.out HGL.out).mono ?_
  rintro e w' ⟨rfl, hb⟩
  have HB := Lib.hid (HB.out.trans (hb.mono HB.out.size))
  have HQ := Lib.hid (HQ.out.below hb (Nat.le_refl _))
  have HRR := Lib.hid (HRR.out.below hb (Nat.le_refl _))
  have HGG := Lib.hid (HGG.out.below hb (Nat.le_refl _))
  have HS := Lib.hid (HS.out.below hb (Nat.le_refl _))
  have HK := Lib.hid (HK.out.below hb (Nat.le_refl _))
  clear hb
  clear HGG HK HGL
  go_wp2_with fail
  refine (nroot_v 6 _ na _ (by omega) (Ha.out.below HB.out)).mono ?_
  rintro e w' ⟨x, vk, rfl, hk, hx1, hx2, hb⟩
  obtain rfl := root_one HR1.out HR2.out hx1 hx2
  have HB := Lib.hid (HB.out.trans (hb.mono HB.out.size))
  have HQ := Lib.hid (HQ.out.below hb (Nat.le_refl _))
  have HRR := Lib.hid (HRR.out.below hb (Nat.le_refl _))
  have HS := Lib.hid (HS.out.below hb (Nat.le_refl _))
  have HK := Lib.hid hk
  clear hb hk hx1 hx2
  have HRL : Hid ((nrow x).length ≤ 2048) := Lib.hid (Nat.le_trans (nrow_mono (Nat.le_trans (Nat.le_mul_self x) HR1.out)) (Nat.le_trans (nrow_length_le HSA.out) (by omega)))
  go_wp2_with fail
  refine (same_d HS.out HK.out HRL.out).mono ?_
  rintro e w' ⟨rfl, hb⟩
  have HB := Lib.hid (HB.out.trans (hb.mono HB.out.size))
  have HQ := Lib.hid (HQ.out.below hb (Nat.le_refl _))
  have HRR := Lib.hid (HRR.out.below hb (Nat.le_refl _))
  have HS := Lib.hid (HS.out.below hb (Nat.le_refl _))
  have HK := Lib.hid (HK.out.below hb (Nat.le_refl _))
  clear hb
  clear HS HK HRL HR1 HR2
  go_wp2_with fail
  refine (bits_v (K := 6) (by omega) (Hb.out.below HB.out)).mono ?_
  rintro e w' ⟨y, hy, rfl, rfl⟩
  have hy0 : ¬ y = 0 := by rw [hy]; have := blen_pos HZ.out; omega
  have hy1 : decide (y = 0) = false := by simpa using hy0
  have hy2 : (y == 0) = false := by simpa using hy0
  clear hy
  go_wp2_with fail
  refine (ndiv_v 6 _ _ na nb _ (by omega) (Ha.out.below HB.out) (Hb.out.below HB.out) HZ.out).mono ?_
  rintro e w' ⟨vx, vy, rfl, hx, hy, hb⟩
  have HB := Lib.hid (HB.out.trans (hb.mono HB.out.size))
  have HQ := Lib.hid (HQ.out.below hb (Nat.le_refl _))
  have HRR := Lib.hid (HRR.out.below hb (Nat.le_refl _))
  have HX := Lib.hid hx
  have HY := Lib.hid hy
  clear hb hx hy
  go_wp2_with fail
  refine (same_d HQ.out HX.out (Nat.le_trans (nrow_mono (Nat.div_le_self _ _)) (Nat.le_trans (nrow_length_le HSA.out) (by omega)))).mono ?_
  rintro e w' ⟨rfl, hb⟩
  have HB := Lib.hid (HB.out.trans (hb.mono HB.out.size))
  have HQ := Lib.hid (HQ.out.below hb (Nat.le_refl _))
  have HRR := Lib.hid (HRR.out.below hb (Nat.le_refl _))
  have HX := Lib.hid (HX.out.below hb (Nat.le_refl _))
  have HY := Lib.hid (HY.out.below hb (Nat.le_refl _))
  clear hb
  go_wp2_with fail
  refine (same_d HRR.out HY.out (Nat.le_trans (nrow_mono (Nat.mod_le _ _)) (Nat.le_trans (nrow_length_le HSA.out) (by omega)))).mono ?_
  rintro e w' ⟨rfl, hb⟩
  have HB := Lib.hid (HB.out.trans (hb.mono HB.out.size))
  have HQ := Lib.hid (HQ.out.below hb (Nat.le_refl _))
  have HRR := Lib.hid (HRR.out.below hb (Nat.le_refl _))
  have HX := Lib.hid (HX.out.below hb (Nat.le_refl _))
  have HY := Lib.hid (HY.out.below hb (Nat.le_refl _))
  clear hb
  clear HQ HX HRR HY
  go_wp2_with fail
  refine (shl_t (Ha.out.below HB.out) (by omega) s HSM.out).mono ?_
  rintro e w' ⟨vu, rfl, hu, hb⟩
  have HB := Lib.hid (HB.out.trans (hb.mono HB.out.size))
  have HU := Lib.hid hu
  clear hb hu
  go_wp2_with fail
  refine (shr_p (Ha.out.below HB.out) (by omega) (short_of HSA.out (by omega)) s (by have := HSM.out; omega)).mono ?_
  rintro e w' ⟨vv, rfl, hv, hb⟩
  have HB := Lib.hid (HB.out.trans (hb.mono HB.out.size))
  have HU := Lib.hid (HU.out.below hb (Nat.le_refl _))
  have HV := Lib.hid hv
  clear hb hv
  go_wp2_with fail
  refine (shl_v (K := 6) (n := (s : Int)) (by omega) (Ha.out.below HB.out) rfl (by have := HSM.out; omega)).mono ?_
  rintro e w' ⟨vk, rfl, hk, hb⟩
  have HB := Lib.hid (HB.out.trans (hb.mono HB.out.size))
  have HU := Lib.hid (HU.out.below hb (Nat.le_refl _))
  have HV := Lib.hid (HV.out.below hb (Nat.le_refl _))
  have HK := Lib.hid hk
  clear hb hk
  have HL : Hid ((nrow (na * 2 ^ s)).length ≤ 2048) := Lib.hid (shl_rows (A := 64 * 6) (B := 512) (k := 14) (by omega) HSA.out (by have := HSM.out; omega) (by omega))
  go_wp2_with fail
  refine (same_d HU.out HK.out HL.out).mono ?_
  rintro e w' ⟨rfl, hb⟩
  have HB := Lib.hid (HB.out.trans (hb.mono HB.out.size))
  have HU := Lib.hid (HU.out.below hb (Nat.le_refl _))
  have HV := Lib.hid (HV.out.below hb (Nat.le_refl _))
  have HK := Lib.hid (HK.out.below hb (Nat.le_refl _))
  clear hb
  clear HU HK HL
  go_wp2_with fail
  refine (shr_v (K := 6) (n := (s : Int)) (by omega) (Ha.out.below HB.out) rfl (by have := HSM.out; omega)).mono ?_
  rintro e w' ⟨vk, rfl, hk, hb⟩
  have HB := Lib.hid (HB.out.trans (hb.mono HB.out.size))
  have HV := Lib.hid (HV.out.below hb (Nat.le_refl _))
  have HK := Lib.hid hk
  clear hb hk
  go_wp2_with fail
  refine (same_d HV.out HK.out (Nat.le_trans (nrow_mono (Nat.div_le_self _ _)) (Nat.le_trans (nrow_length_le HSA.out) (by omega)))).mono ?_
  rintro e w' ⟨rfl, hb⟩
  have HB := Lib.hid (HB.out.trans (hb.mono HB.out.size))
  have HV := Lib.hid (HV.out.below hb (Nat.le_refl _))
  have HK := Lib.hid (HK.out.below hb (Nat.le_refl _))
  clear hb
  clear HV HK
  go_wp2_with fail
  refine (head_any _).mono ?_
  rintro e w' ⟨rfl, hb⟩
  have HB := Lib.hid (HB.out.trans (hb.mono HB.out.size))
  clear hb
  go_wp2_with fail
  go_ret
  exact ⟨rfl, HB.out⟩

end Go.Proofs.Ytcdedaihkfpafaa
