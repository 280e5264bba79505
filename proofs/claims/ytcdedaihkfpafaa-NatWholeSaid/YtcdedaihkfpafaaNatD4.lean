/-
  LAYER 3: the texts NatWholeW, one behind the other.
-/
import Derived.Test.YtcdedaihkfpafaaNatC2
import Derived.Test.YtcdedaihkfpafaaNatD2
import Derived.Test.YtcdedaihkfpafaaNatD3
import Derived.BigQuiet

namespace Go.Proofs.Ytcdedaihkfpafaa
open Go.RowKit

theorem NRow.nil_at {B : Nat} {w : World} {v : Value} (h : NRow B w v []) : ∃ A cap, v = .slice A 0 cap := by
  obtain ⟨A, cap, rfl, _⟩ := h.at_
  exact ⟨A, cap, rfl⟩
theorem sq_root_lt {r n K M : Nat} (hM : M = 64 * K + 64 * K) (h : r * r ≤ n) (hn : n < 2 ^ M) : r < 2 ^ (64 * K) := by
  rcases Nat.lt_or_ge r (2 ^ (64 * K)) with h1 | h1
  · exact h1
  · exfalso
    have h2 := Nat.mul_le_mul h1 h1
    rw [← Nat.pow_add, ← hM] at h2
    omega
theorem cmpV_le {a b : Nat} (h : a ≤ b) : cmpV a b ≤ 0 := by
  unfold cmpV
  split
  · omega
  · rw [if_neg (by omega)]; omega
theorem whole_great (a b : Option Addr) (la lb ca cb : Nat) (w : World) (h : 6 < la ∨ 6 < lb) :
    Calls Try.prog 4 #[.slice a la ca, .slice b lb cb] w fun e w' => e = .returned (.bool true) ∧ Below w.heap.size w w' := by
  have HG := Lib.hid (great_any a b none la lb 0 ca cb 0 w)
  have e : (decide (6 < la) || (decide (6 < lb) || decide (6 < 0))) = true := by simp; omega
  rw [e] at HG
  have HG := Lib.hid HG.out
  clear e h
  go_enter Try.func4, Try.ntmps4
  go_wp2_with fail
  refine HG.out.mono ?_
  rintro e w1 ⟨rfl, rfl⟩
  go_wp2_with fail
  refine (head_any w).mono ?_
  rintro e w2 ⟨rfl, hb⟩
  go_wp2_with fail
  go_ret
  exact ⟨rfl, hb⟩

set_option maxRecDepth 100000 in
set_option maxHeartbeats 4000000 in
theorem whole_zero (a b : Option Addr) (la lb ca cb na nb : Nat) (w : World) (h1 : la ≤ 6) (h2 : lb ≤ 6) (ha : NNum 6 w (.slice a la ca) na) (hb : NNum 6 w (.slice b lb cb) nb) (hz : nb = 0) :
    Calls Try.prog 4 #[.slice a la ca, .slice b lb cb] w fun e w' => e = .returned (.bool true) ∧ Below w.heap.size w w' := by
  have HG := Lib.hid (great_any a b none la lb 0 ca cb 0 w)
  have e : (decide (6 < la) || (decide (6 < lb) || decide (6 < 0))) = false := by simp; omega
  rw [e] at HG
  have HG := Lib.hid HG.out
  have HSA : Hid (na < 2 ^ (64 * 6)) := Lib.hid ha.lt
  have HSB : Hid (nb < 2 ^ (64 * 6)) := Lib.hid hb.lt
  have Ha := Lib.hid ha
  have Hb := Lib.hid hb
  have HZ := Lib.hid hz
  have HB := Lib.hid (Below.refl w.heap.size w)
  clear e h1 h2 ha hb hz
  go_enter Try.func4, Try.ntmps4
  go_wp2_with fail
  refine HG.out.mono ?_
  rintro e w0 ⟨rfl, rfl⟩
  go_wp2_with fail
  refine (root_p (Ha.out.below HB.out) (by omega) (short_of HSA.out (by omega)) (roots_all na (Nat.le_trans (nrow_length_le HSA.out) (by omega)))).mono ?_
  rintro e w' ⟨vs, r, rfl, hr, hr1, hr2, hb⟩
  have HB := Lib.hid (HB.out.trans (hb.mono HB.out.size))
  clear hb
  have HR1 := Lib.hid hr1
  have HR2 := Lib.hid hr2
  have HR := Lib.hid (hr.numN (K := 3) (sq_root_lt (M := 64 * 6) (by omega) hr1 HSA.out))
  clear hr hr1 hr2
  go_wp2_with fail
  refine (mul_t (K := 3) (K' := 3) HR.out HR.out (by omega)).mono ?_
  rintro e w' ⟨vq, rfl, hq, hb⟩
  have HB := Lib.hid (HB.out.trans (hb.mono HB.out.size))
  have HR := Lib.hid (HR.out.below hb)
  have HSQ := Lib.hid hq
  clear hb hq
  go_wp2_with fail
  refine (of_any 1 _ (by omega)).mono ?_
  rintro e w' ⟨vo, rfl, ho, hb⟩
  have HB := Lib.hid (HB.out.trans (hb.mono HB.out.size))
  have HR := Lib.hid (HR.out.below hb)
  have HSQ := Lib.hid (HSQ.out.below hb)
  have HO := Lib.hid (ho.numN (K := 3) (by decide))
  clear ho hb
  go_wp2_with fail
  refine (add_t (K := 3) HR.out HO.out (by omega)).mono ?_
  rintro e w' ⟨vt, rfl, ht, hb⟩
  have HB := Lib.hid (HB.out.trans (hb.mono HB.out.size))
  have HR := Lib.hid (HR.out.below hb)
  have HSQ := Lib.hid (HSQ.out.below hb)
  have HT := Lib.hid ht
  clear hb ht
  go_wp2_with fail
  refine (mul_t (K := 4) (K' := 4) HT.out HT.out (by omega)).mono ?_
  rintro e w' ⟨vtq, rfl, htq, hb⟩
  have HB := Lib.hid (HB.out.trans (hb.mono HB.out.size))
  have HSQ := Lib.hid (HSQ.out.below hb)
  have HT := Lib.hid (HT.out.below hb)
  have HTQ := Lib.hid htq
  clear hb htq
  obtain ⟨c, hc⟩ : ∃ c, c = cmpV (r * r) na := ⟨_, rfl⟩
  have c0 : c ≤ 0 := by rw [hc]; exact cmpV_le HR1.out
  have c1 : ¬ 0 < c := by omega
  have c2 : decide (0 < c) = false := by simpa using c0
  go_wp2_with fail
  refine (cmp_t (K := 6) (K' := 6) HSQ.out (Ha.out.below HB.out) (by omega) (by omega)).mono ?_
  rintro e w' ⟨rfl, hb⟩
  have HB := Lib.hid (HB.out.trans (hb.mono HB.out.size))
  have HSQ := Lib.hid (HSQ.out.below hb)
  have HTQ := Lib.hid (HTQ.out.below hb)
  clear hb
  rw [← hc]
  go_wp2_with fail
  refine (cmp_t (K := 8) (K' := 6) HTQ.out (Ha.out.below HB.out) (by omega) (by omega)).mono ?_
  rintro e w' ⟨rfl, hb⟩
  have HB := Lib.hid (HB.out.trans (hb.mono HB.out.size))
  have HSQ := Lib.hid (HSQ.out.below hb)
  have HTQ := Lib.hid (HTQ.out.below hb)
  clear hb
  rw [cmpV_gt HR2.out]
  clear HR1 HR2 HSQ HTQ hc c0
  go_wp2_with fail
  refine (div_zero (Ha.out.below HB.out) (HZ.out ▸ (Hb.out.below HB.out)) (by omega) (by omega) (short_of HSA.out (by omega))).mono ?_
  rintro e w' ⟨rfl, hb⟩
  have HB := Lib.hid (HB.out.trans (hb.mono HB.out.size))
  clear hb
  have hbl : blen nb = 0 := by rw [HZ.out]; rfl
  go_wp2_with fail
  refine (bits_p (Hb.out.below HB.out) (by omega)).mono ?_
  rintro e w' ⟨rfl, rfl⟩
  rw [hbl]
  go_wp2_with fail
  refine (head_any _).mono ?_
  rintro e w' ⟨rfl, hb⟩
  have HB := Lib.hid (HB.out.trans (hb.mono HB.out.size))
  clear hb
  go_wp2_with fail
  go_ret
  exact ⟨rfl, HB.out⟩

set_option maxRecDepth 100000 in
set_option maxHeartbeats 4000000 in
theorem whole_more (a b : Option Addr) (la lb ca cb na nb : Nat) (w : World) (h1 : la ≤ 6) (h2 : lb ≤ 6) (ha : NNum 6 w (.slice a la ca) na) (hb : NNum 6 w (.slice b lb cb) nb) (hz : nb ≠ 0) :
    Calls Try.prog 4 #[.slice a la ca, .slice b lb cb] w fun e w' => e = .returned (.bool true) ∧ Below w.heap.size w w' := by
  have HG := Lib.hid (great_any a b none la lb 0 ca cb 0 w)
  have e : (decide (6 < la) || (decide (6 < lb) || decide (6 < 0))) = false := by simp; omega
  rw [e] at HG
  have HG := Lib.hid HG.out
  have HSA : Hid (na < 2 ^ (64 * 6)) := Lib.hid ha.lt
  have HSB : Hid (nb < 2 ^ (64 * 6)) := Lib.hid hb.lt
  have Ha := Lib.hid ha
  have Hb := Lib.hid hb
  have HZ := Lib.hid hz
  have HB := Lib.hid (Below.refl w.heap.size w)
  clear e h1 h2 ha hb hz
  go_enter Try.func4, Try.ntmps4
  go_wp2_with fail
  refine HG.out.mono ?_
  rintro e w0 ⟨rfl, rfl⟩
  go_wp2_with fail
  refine (root_p (Ha.out.below HB.out) (by omega) (short_of HSA.out (by omega)) (roots_all na (Nat.le_trans (nrow_length_le HSA.out) (by omega)))).mono ?_
  rintro e w' ⟨vs, r, rfl, hr, hr1, hr2, hb⟩
  have HB := Lib.hid (HB.out.trans (hb.mono HB.out.size))
  clear hb
  have HR1 := Lib.hid hr1
  have HR2 := Lib.hid hr2
  have HR := Lib.hid (hr.numN (K := 3) (sq_root_lt (M := 64 * 6) (by omega) hr1 HSA.out))
  clear hr hr1 hr2
  go_wp2_with fail
  refine (mul_t (K := 3) (K' := 3) HR.out HR.out (by omega)).mono ?_
  rintro e w' ⟨vq, rfl, hq, hb⟩
  have HB := Lib.hid (HB.out.trans (hb.mono HB.out.size))
  have HR := Lib.hid (HR.out.below hb)
  have HSQ := Lib.hid hq
  clear hb hq
  go_wp2_with fail
  refine (of_any 1 _ (by omega)).mono ?_
  rintro e w' ⟨vo, rfl, ho, hb⟩
  have HB := Lib.hid (HB.out.trans (hb.mono HB.out.size))
  have HR := Lib.hid (HR.out.below hb)
  have HSQ := Lib.hid (HSQ.out.below hb)
  have HO := Lib.hid (ho.numN (K := 3) (by decide))
  clear ho hb
  go_wp2_with fail
  refine (add_t (K := 3) HR.out HO.out (by omega)).mono ?_
  rintro e w' ⟨vt, rfl, ht, hb⟩
  have HB := Lib.hid (HB.out.trans (hb.mono HB.out.size))
  have HR := Lib.hid (HR.out.below hb)
  have HSQ := Lib.hid (HSQ.out.below hb)
  have HT := Lib.hid ht
  clear hb ht
  go_wp2_with fail
  refine (mul_t (K := 4) (K' := 4) HT.out HT.out (by omega)).mono ?_
  rintro e w' ⟨vtq, rfl, htq, hb⟩
  have HB := Lib.hid (HB.out.trans (hb.mono HB.out.size))
  have HSQ := Lib.hid (HSQ.out.below hb)
  have HT := Lib.hid (HT.out.below hb)
  have HTQ := Lib.hid htq
  clear hb htq
  obtain ⟨c, hc⟩ : ∃ c, c = cmpV (r * r) na := ⟨_, rfl⟩
  have c0 : c ≤ 0 := by rw [hc]; exact cmpV_le HR1.out
  have c1 : ¬ 0 < c := by omega
  have c2 : decide (0 < c) = false := by simpa using c0
  go_wp2_with fail
  refine (cmp_t (K := 6) (K' := 6) HSQ.out (Ha.out.below HB.out) (by omega) (by omega)).mono ?_
  rintro e w' ⟨rfl, hb⟩
  have HB := Lib.hid (HB.out.trans (hb.mono HB.out.size))
  have HSQ := Lib.hid (HSQ.out.below hb)
  have HTQ := Lib.hid (HTQ.out.below hb)
  clear hb
  rw [← hc]
  go_wp2_with fail
  refine (cmp_t (K := 8) (K' := 6) HTQ.out (Ha.out.below HB.out) (by omega) (by omega)).mono ?_
  rintro e w' ⟨rfl, hb⟩
  have HB := Lib.hid (HB.out.trans (hb.mono HB.out.size))
  have HSQ := Lib.hid (HSQ.out.below hb)
  have HTQ := Lib.hid (HTQ.out.below hb)
  clear hb
  rw [cmpV_gt HR2.out]
  clear HR1 HR2 HSQ HTQ hc c0
  go_wp2_with fail
  refine (div_p (Ha.out.below HB.out) (Hb.out.below HB.out) (by omega) (by omega) (short_of HSA.out (by omega)) (short_of HSB.out (by omega)) HZ.out (divides_all HZ.out (Nat.le_trans (nrow_length_le HSA.out) (by omega)))).mono ?_
  rintro e w' ⟨vq, vr, rfl, hq, hr, hb⟩
  have HB := Lib.hid (HB.out.trans (hb.mono HB.out.size))
  clear hb
  have HQ := Lib.hid (hq.numN (K := 6) (Nat.lt_of_le_of_lt (Nat.div_le_self _ _) HSA.out))
  have hlt : na % nb < nb := Nat.mod_lt _ (Nat.pos_of_ne_zero HZ.out)
  have HRR := Lib.hid (hr.numN (K := 6) (Nat.lt_trans hlt HSB.out))
  have HLT := Lib.hid hlt
  clear hq hr hlt
  go_wp2_with fail
  refine (mul_t (K := 6) (K' := 6) HQ.out (Hb.out.below HB.out) (by omega)).mono ?_
  rintro e w' ⟨vm, rfl, hm, hb⟩
  have HB := Lib.hid (HB.out.trans (hb.mono HB.out.size))
  have HQ := Lib.hid (HQ.out.below hb)
  have HRR := Lib.hid (HRR.out.below hb)
  have HM := Lib.hid hm
  clear hb hm
  go_wp2_with fail
  refine (add_t (K := 12) HM.out (HRR.out.mono (by omega)) (by omega)).mono ?_
  rintro e w' ⟨vn, rfl, hn, hb⟩
  have HB := Lib.hid (HB.out.trans (hb.mono HB.out.size))
  have HRR := Lib.hid (HRR.out.below hb)
  have HM := Lib.hid (HM.out.below hb)
  have HN := Lib.hid hn
  clear hb hn
  go_wp2_with fail
  refine (gcd_p (Ha.out.below HB.out) (Hb.out.below HB.out) (by omega) (by omega) (short_of HSA.out (by omega)) (short_of HSB.out (by omega)) (.inl next_ok)).mono ?_
  rintro e w' ⟨vg, rfl, hg, hb⟩
  have HB := Lib.hid (HB.out.trans (hb.mono HB.out.size))
  have HRR := Lib.hid (HRR.out.below hb)
  have HN := Lib.hid (HN.out.below hb)
  clear hb
  obtain ⟨G, hG⟩ : ∃ G, G = Nat.gcd na nb := ⟨_, rfl⟩
  rw [← hG] at hg
  have hG0 : G ≠ 0 := by rw [hG]; exact Nat.ne_of_gt (Nat.gcd_pos_of_pos_right _ (Nat.pos_of_ne_zero HZ.out))
  have hGA : na % G = 0 := by rw [hG]; exact Nat.mod_eq_zero_of_dvd (Nat.gcd_dvd_left _ _)
  have hGB : nb % G = 0 := by rw [hG]; exact Nat.mod_eq_zero_of_dvd (Nat.gcd_dvd_right _ _)
  have hGL : G < 2 ^ (64 * 6) := by rw [hG]; exact Nat.lt_of_le_of_lt (Nat.gcd_le_right _ (Nat.pos_of_ne_zero HZ.out)) HSB.out
  have HGn := Lib.hid (hg.numN (K := 6) hGL)
  have HG0 := Lib.hid hG0
  have HGA := Lib.hid hGA
  have HGB := Lib.hid hGB
  have HGL := Lib.hid hGL
  clear hG hG0 hGA hGB hGL hg
  go_wp2_with fail
  refine (div_p (Ha.out.below HB.out) HGn.out (by omega) (by omega) (short_of HSA.out (by omega)) (short_of HGL.out (by omega)) HG0.out (divides_all HG0.out (Nat.le_trans (nrow_length_le HSA.out) (by omega)))).mono ?_
  rintro e w' ⟨v1, v2, rfl, _, hx, hb⟩
  have HB := Lib.hid (HB.out.trans (hb.mono HB.out.size))
  have HRR := Lib.hid (HRR.out.below hb)
  have HN := Lib.hid (HN.out.below hb)
  have HGn := Lib.hid (HGn.out.below hb)
  clear hb
  rw [HGA.out] at hx
  obtain ⟨ax, cx, rfl⟩ := hx.nil_at
  clear hx
  go_wp2_with fail
  refine (div_p (Hb.out.below HB.out) HGn.out (by omega) (by omega) (short_of HSB.out (by omega)) (short_of HGL.out (by omega)) HG0.out (divides_all HG0.out (Nat.le_trans (nrow_length_le HSB.out) (by omega)))).mono ?_
  rintro e w' ⟨v3, v4, rfl, _, hx, hb⟩
  have HB := Lib.hid (HB.out.trans (hb.mono HB.out.size))
  have HRR := Lib.hid (HRR.out.below hb)
  have HN := Lib.hid (HN.out.below hb)
  have HGn := Lib.hid (HGn.out.below hb)
  clear hb
  rw [HGB.out] at hx
  obtain ⟨ay, cy, rfl⟩ := hx.nil_at
  clear hx
  go_wp2_with fail
  refine (cmp_t (K := 13) (K' := 6) HN.out (Ha.out.below HB.out) (by omega) (by omega)).mono ?_
  rintro e w' ⟨rfl, hb⟩
  have HB := Lib.hid (HB.out.trans (hb.mono HB.out.size))
  have HRR := Lib.hid (HRR.out.below hb)
  have HN := Lib.hid (HN.out.below hb)
  clear hb
  rw [show cmpV (na / nb * nb + na % nb) na = 0 from cmpV_eq (by rw [Nat.mul_comm]; exact Nat.div_add_mod _ _)]
  go_wp2_with fail
  refine (cmp_t (K := 6) (K' := 6) HRR.out (Hb.out.below HB.out) (by omega) (by omega)).mono ?_
  rintro e w' ⟨rfl, hb⟩
  have HB := Lib.hid (HB.out.trans (hb.mono HB.out.size))
  have HRR := Lib.hid (HRR.out.below hb)
  clear hb
  rw [cmpV_lt HLT.out]
  go_wp2_with fail
  refine (head_any _).mono ?_
  rintro e w' ⟨rfl, hb⟩
  have HB := Lib.hid (HB.out.trans (hb.mono HB.out.size))
  clear hb
  go_wp2_with fail
  go_ret
  exact ⟨rfl, HB.out⟩
end Go.Proofs.Ytcdedaihkfpafaa
