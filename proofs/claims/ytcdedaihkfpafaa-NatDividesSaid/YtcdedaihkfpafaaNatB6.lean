/-
  LAYER 3: the texts NatSubNil, NatQFace, NatQFace2, one behind the other.
-/
import Derived.Test.YtcdedaihkfpafaaNatB2
import Derived.Test.YtcdedaihkfpafaaNatB3
import Derived.Test.YtcdedaihkfpafaaNatB4
import Derived.Test.YtcdedaihkfpafaaNatA3
import Derived.Test.YtcdedaihkfpafaaNatB5

namespace Go.Proofs.Ytcdedaihkfpafaa
open Go.RowKit Go.Shelf
attribute [local go_sem] Oper.semAt_some wide_fn

def NilAt (z : Nat) (a : Option Addr) (b : Option Addr) (ca cb : Nat) (w : World) (k : Nat) (W : World) : Prop :=
  k = 0 ∧ Box W (z + 3) (.slice a 0 ca) ∧ Box W (z + 4) (.slice b 0 cb) ∧ z + 5 ≤ W.heap.size ∧ Below z w W

set_option maxRecDepth 100000 in
set_option maxHeartbeats 2000000 in
theorem subtract_nil (a b : Option Addr) (ca cb : Nat) (w : World) :
    Calls Try.prog 52 #[.slice a 0 ca, .slice b 0 cb] w fun e w' => (∃ v, e = .returned v) ∧ Below w.heap.size w w' := by
  obtain ⟨z, hz⟩ : ∃ z, z = w.heap.size := ⟨_, rfl⟩
  have HZ := Lib.hid hz
  clear hz
  refine (callsIn_wide (n := 3)).1 ?_
  refine callsIn_of_wp_marks Try.func52 rfl trivial ?_ rfl
  simp only [Try.ntmps52, List.size_toArray, List.length_cons, List.length_nil, Nat.reduceAdd, Nat.reduceSub, Array.replicate_succ, Array.replicate_zero, List.push_toArray, List.append_toArray, List.nil_append, List.cons_append]
  gi_wp2_with (gi_at_call 63; refine (callsIn_wide.2 (pairs_any _ _ _ _ _ _ _)).mono ?_; rintro e w' ⟨rfl, rfl⟩)
  rw [← HZ.out]
  simp only [Nat.add_assoc, Nat.reduceAdd]
  generalize hW : (((((w.alloc (.cells #[.slice a 0 ca] 23)).alloc (.cells #[.int .i64 0] 3)).alloc (.cells #[.int .u64 0] 42)).alloc (.cells #[.slice a 0 ca] 23)).alloc (.cells #[.slice b 0 cb] 23)) = W0
  obtain ⟨c0, c1, c2, c3, c4, hsz, hbw⟩ := boxes5 HZ.out _ _ _ _ _ _ _ _ _ _ hW.symm
  clear hW c0 c1 c2
  have hzz := HZ.out
  have HW : NilAt z a b ca cb w 0 W0 := ⟨rfl, c3, c4, by omega, hbw.mono (by omega)⟩
  clear c3 c4 hbw hzz
  refine wpIn_range_at (m := 1) (gf := 76) (lb := #[.pointer (some ⟨z + 3, 0, none⟩), .pointer (some ⟨z + 4, 0, none⟩)]) rfl (enters_of Try.func76 (by kernel_rfl) rfl) (pairs_at (z + 3) (z + 4) a b ca cb [] [] (fun _ => 0) (fun _ => 0) (fun _ => rfl) (fun _ => rfl) (by simp) (by simp)) (fun _ => rfl)
    (NilAt z a b ca cb w) (fun _ _ => False) (fun k W W' hb' h => by
      rw [hsz] at hb'
      obtain ⟨h1, b3, b4, hs, hb⟩ := h
      exact ⟨h1, b3.below hb' (by omega), b4.below hb' (by omega), Nat.le_trans hs hb'.size, hb.trans (hb'.mono (by omega))⟩) (fun _ _ _ _ h => h)
    (fun k W h => by obtain ⟨h1, b3, b4, hs, hb⟩ := h; omega) (fun _ _ h => h.elim)
    (fun k W h => by obtain ⟨h1, b3, b4, hs, hb⟩ := h; exact ⟨b3.1, b4.1, fun i _ hi => by simp at hi, fun i _ hi => by simp at hi⟩) HW
    (fun _ => { tmps := #[.slice a 0 ca, .slice b 0 cb, .pointer (some ⟨z, 0, none⟩), undef, .pointer (some ⟨z + 1, 0, none⟩), .pointer (some ⟨z + 2, 0, none⟩), .int .u64 0, .int .u64 0,
      .slice a 0 ca, .slice b 0 cb, .func (.func 76) #[] #[.pointer (some ⟨z + 3, 0, none⟩), .pointer (some ⟨z + 4, 0, none⟩)], .int .u64 0, .int .u64 0, undef, undef, undef, undef, undef, undef, undef, undef, undef, undef, undef, undef], defers := [] })
    ?assign ?body ?done ?stop
  case assign =>
    intro l k W K hK
    gi_wp2
    exact hK
  case body =>
    rintro l k W hk _
    simp at hk
  case done =>
    rintro D W hD ⟨h1, b3, b4, hs, hb⟩ hK
    gi_wp2
    refine ⟨by simp, .inl ⟨_, _, rfl, run_takeDeferred hK, ?_⟩⟩
    have b1 : Below (z + 5) W (W.putObj D (.deferred none)) := below_putObj W D _ (by omega) hs
    have hzz := HZ.out
    rw [← hzz]
    exact ⟨_, results_none rfl _ _ _, ⟨_, rfl⟩, hb.trans (b1.mono (by omega))⟩
  case stop =>
    rintro D k W _ _ h _
    exact h.elim
end Go.Proofs.Ytcdedaihkfpafaa

namespace Go.Proofs.Ytcdedaihkfpafaa
open Go.RowKit

abbrev Short (n : Nat) : Prop := (nrow n).length ≤ 2048

theorem NTr.slice {w : World} {v : Value} {n : Nat} (h : NTr w v n) : ∃ a cap, v = .slice a (nrow n).length cap ∧ (nrow n).length ≤ cap ∧ (a = none → cap = 0) ∧ NatAt w a (nrow n) := h
theorem ResOk.out {B n : Nat} {w w1 w' : World} {e : Ending} (h : ResOk B n w1 e w') (hb : Below w.heap.size w w1) (hB : B = w.heap.size) : ERes w.heap.size n w e w' := by
  obtain ⟨v, he, hr, hb2⟩ := h
  exact ⟨v, he, by rw [← hB]; exact hr, hb.trans (hb2.mono hb.size)⟩
theorem OwnRes.more {w w1 w' : World} {e : Ending} {L : List Nat} (h : OwnRes L w1 e w') (hb : Below w.heap.size w w1) : OwnRes L w e w' := by
  obtain ⟨v, he, hr, hb2⟩ := h
  exact ⟨v, he, hr.more hb.size, hb.trans (hb2.mono hb.size)⟩

section
variable {K K' : Nat} {w : World} {va vb : Value} {na nb : Nat}

set_option maxHeartbeats 1000000 in
theorem norm_p (ha : NNum K w va na) (hK : K ≤ 1099511627776) (hs : Short na) : Calls Try.prog 25 #[va] w (ERes w.heap.size na w) := by
  have HT := Lib.hid (trim_v ha hK)
  obtain ⟨a, ca, A, rfl, _, _, _, _, _, _⟩ := ha
  have hd : decide (2048 < (nrow na).length) = false := by simpa using hs
  have hb : Below w.heap.size w w := Below.refl _ _
  have hsl : (nrow na).length ≤ 1099511627776 := by have : (nrow na).length ≤ 2048 := hs; omega
  clear hs
  go_enter Try.func25, Try.ntmps25
  go_wp2_with fail
  refine HT.out.mono ?_
  rintro e w' ⟨v, rfl, hv, rfl⟩
  have HV := Lib.hid hv
  obtain ⟨a', cap', rfl, _, _, _⟩ := hv
  go_wp2_with (first
    | (go_at_call 30; refine (long_one _ _ _ _ _).mono ?_; rw [hd]; rintro e w2 ⟨rfl, rfl⟩)
    | fail)
  have HB : Hid (Below w.heap.size w (w.alloc (.cells #[.slice a' (nrow na).length cap'] 23))) := Lib.hid ((Below.refl _ _).alloc (Nat.le_refl _) _)
  refine ((clone_v (HV.out.below HB.out) hsl).mono (fun e w2 h => h.more HB.out)).mono ?_
  rintro e w2 ⟨v, rfl, hr, hb2⟩
  go_wp2_with fail
  go_ret2
  exact ⟨v, rfl, hr, hb2⟩

set_option maxHeartbeats 1000000 in
theorem norm_long (ha : NNum K w va na) (hK : K ≤ 1099511627776) (hs : ¬ Short na) : Calls Try.prog 25 #[va] w (ResErr 3 w) := by
  have HT := Lib.hid (trim_v ha hK)
  obtain ⟨a, ca, A, rfl, _, _, _, _, _, _⟩ := ha
  have hd : decide (2048 < (nrow na).length) = true := by simpa using hs
  clear hs
  go_enter Try.func25, Try.ntmps25
  go_wp2_with fail
  refine HT.out.mono ?_
  rintro e w' ⟨v, rfl, hv, rfl⟩
  obtain ⟨a', cap', rfl, _, _, _⟩ := hv
  go_wp2_with (go_at_call 30; refine (long_one _ _ _ _ _).mono ?_; rw [hd]; rintro e w2 ⟨rfl, rfl⟩)
  go_ret2
  exact ⟨rfl, (Below.refl _ _).alloc (Nat.le_refl _) _⟩

set_option maxHeartbeats 1000000 in
theorem add_p (ha : NNum K w va na) (hb : NNum K' w vb nb) (hK : K ≤ 1099511627776) (hK' : K' ≤ 1099511627776) (hs : Short na) (hs' : Short nb) (hss : Short (na + nb)) : Calls Try.prog 21 #[va, vb] w (ERes w.heap.size (na + nb) w) := by
  have HT := Lib.hid (trim_v ha hK)
  have HT' := Lib.hid (trim_v hb hK')
  obtain ⟨a, ca, A, rfl, _, _, _, _, _, _⟩ := ha
  obtain ⟨b, cb, B, rfl, _, _, _, _, _, _⟩ := hb
  have hd : decide (2048 < (nrow na).length) = false := by simpa using hs
  have hd' : decide (2048 < (nrow nb).length) = false := by simpa using hs'
  have HS := Lib.hid hs
  have HS' := Lib.hid hs'
  have HSS := Lib.hid hss
  clear hs hs' hss
  go_enter Try.func21, Try.ntmps21
  go_wp2_with fail
  refine HT.out.mono ?_
  rintro e w' ⟨v, rfl, hv, rfl⟩
  have HV := Lib.hid hv
  obtain ⟨a', ca', rfl, _, _, _⟩ := hv
  go_wp2_with fail
  refine HT'.out.mono ?_
  rintro e w' ⟨v, rfl, hv, rfl⟩
  have HV' := Lib.hid hv
  obtain ⟨b', cb', rfl, _, _, _⟩ := hv
  go_wp2_with (first
    | (go_at_call 30; refine (long_two _ _ _ _ _ _ _ _).mono ?_; rw [hd, hd']; rintro e w2 ⟨rfl, rfl⟩)
    | fail)
  have HB : Hid (Below w.heap.size w (w.alloc (.cells #[.slice a' (nrow na).length ca', .slice b' (nrow nb).length cb'] 23))) := Lib.hid ((Below.refl _ _).alloc (Nat.le_refl _) _)
  obtain ⟨a2, ca2, e2, _, _, m2⟩ := HV.out.below HB.out
  obtain ⟨b2, cb2, e3, _, _, m3⟩ := HV'.out.below HB.out
  cases e2
  cases e3
  have hsum := sum_any a' b' ca' cb' (nrow na) (nrow nb) _ (by have := HS.out; unfold Short at this; omega) (by have := HS'.out; unfold Short at this; omega) (nrow_fits _) (nrow_fits _) m2 m3
  rw [lv_nrow, lv_nrow] at hsum
  refine hsum.mono ?_
  rintro e w2 ⟨v, rfl, hr, hb2⟩
  have HR := Lib.hid (hr.more (B' := w.heap.size) HB.out.size)
  have HB2 := Lib.hid (HB.out.trans (hb2.mono HB.out.size))
  clear hr hb2 hsum m2 m3
  have hre := result_ok HR.out (nrow_fits _) (by have := HSS.out; unfold Short at this; omega) (by rw [lv_nrow]; exact HSS.out)
  rw [lv_nrow] at hre
  have HRE := Lib.hid hre
  clear hre
  go_wp2_with fail
  refine HRE.out.mono ?_
  rintro e w3 ⟨v, rfl, hr, hb3⟩
  have HR3 := Lib.hid hr
  have HB3 := Lib.hid (HB2.out.trans (hb3.mono HB2.out.size))
  clear hr hb3
  go_wp2_with fail
  go_ret2
  exact ⟨v, rfl, HR3.out, HB3.out⟩

set_option maxHeartbeats 1000000 in
theorem add_long (ha : NNum K w va na) (hb : NNum K' w vb nb) (hK : K ≤ 1099511627776) (hK' : K' ≤ 1099511627776) (hs : ¬ Short na) : Calls Try.prog 21 #[va, vb] w (ResErr 3 w) := by
  have HT := Lib.hid (trim_v ha hK)
  have HT' := Lib.hid (trim_v hb hK')
  obtain ⟨a, ca, A, rfl, _, _, _, _, _, _⟩ := ha
  obtain ⟨b, cb, B, rfl, _, _, _, _, _, _⟩ := hb
  have hd : decide (2048 < (nrow na).length) = true := by simpa using hs
  clear hs
  go_enter Try.func21, Try.ntmps21
  go_wp2_with fail
  refine HT.out.mono ?_
  rintro e w' ⟨v, rfl, hv, rfl⟩
  obtain ⟨a', ca', rfl, _, _, _⟩ := hv
  go_wp2_with fail
  refine HT'.out.mono ?_
  rintro e w' ⟨v, rfl, hv, rfl⟩
  obtain ⟨b', cb', rfl, _, _, _⟩ := hv
  go_wp2_with (go_at_call 30; refine (long_two _ _ _ _ _ _ _ _).mono ?_; rw [hd, Bool.true_or]; rintro e w2 ⟨rfl, rfl⟩)
  go_ret2
  exact ⟨rfl, (Below.refl _ _).alloc (Nat.le_refl _) _⟩

set_option maxHeartbeats 1000000 in
theorem sub_long (ha : NNum K w va na) (hb : NNum K' w vb nb) (hK : K ≤ 1099511627776) (hK' : K' ≤ 1099511627776) (hs : ¬ Short na) : Calls Try.prog 26 #[va, vb] w (ResErr 3 w) := by
  have HT := Lib.hid (trim_v ha hK)
  have HT' := Lib.hid (trim_v hb hK')
  obtain ⟨a, ca, A, rfl, _, _, _, _, _, _⟩ := ha
  obtain ⟨b, cb, B, rfl, _, _, _, _, _, _⟩ := hb
  have hd : decide (2048 < (nrow na).length) = true := by simpa using hs
  clear hs
  go_enter Try.func26, Try.ntmps26
  go_wp2_with fail
  refine HT.out.mono ?_
  rintro e w' ⟨v, rfl, hv, rfl⟩
  obtain ⟨a', ca', rfl, _, _, _⟩ := hv
  go_wp2_with fail
  refine HT'.out.mono ?_
  rintro e w' ⟨v, rfl, hv, rfl⟩
  obtain ⟨b', cb', rfl, _, _, _⟩ := hv
  go_wp2_with (go_at_call 30; refine (long_two _ _ _ _ _ _ _ _).mono ?_; rw [hd, Bool.true_or]; rintro e w2 ⟨rfl, rfl⟩)
  go_ret2
  exact ⟨rfl, (Below.refl _ _).alloc (Nat.le_refl _) _⟩

set_option maxHeartbeats 1000000 in
theorem cmp_p (ha : NNum K w va na) (hb : NNum K' w vb nb) (hK : K ≤ 1099511627776) (hK' : K' ≤ 1099511627776) : Calls Try.prog 23 #[va, vb] w (CmpAnd na nb w) := by
  have HT := Lib.hid (trim_v ha hK)
  have HT' := Lib.hid (trim_v hb hK')
  have HL : Hid ((nrow na).length ≤ 1099511627776) := Lib.hid (Nat.le_trans ha.rowLen hK)
  obtain ⟨a, ca, A, rfl, _, _, _, _, _, _⟩ := ha
  obtain ⟨b, cb, B, rfl, _, _, _, _, _, _⟩ := hb
  go_enter Try.func23, Try.ntmps23
  go_wp2_with fail
  refine HT.out.mono ?_
  rintro e w' ⟨v, rfl, hv, rfl⟩
  have HV := Lib.hid hv
  obtain ⟨a', ca', rfl, _, _, m2⟩ := hv
  have M2 := Lib.hid m2
  clear m2
  go_wp2_with fail
  refine HT'.out.mono ?_
  rintro e w' ⟨v, rfl, hv, rfl⟩
  obtain ⟨b', cb', rfl, _, _, m3⟩ := hv
  have HC := Lib.hid (compare_any a' b' ca' cb' na nb w HL.out M2.out m3)
  clear m3
  go_wp2_with fail
  refine HC.out.mono ?_
  rintro e w2 ⟨rfl, hb2⟩
  have HB := Lib.hid hb2
  clear hb2
  go_wp2_with fail
  go_ret
  exact ⟨rfl, HB.out⟩

set_option maxHeartbeats 1000000 in
theorem sub_p (ha : NNum K w va na) (hb : NNum K' w vb nb) (hK : K ≤ 1099511627776) (hK' : K' ≤ 1099511627776) (hs : Short na) (hle : nb ≤ na) : Calls Try.prog 26 #[va, vb] w (ERes w.heap.size (na - nb) w) := by
  have HT := Lib.hid (trim_v ha hK)
  have HT' := Lib.hid (trim_v hb hK')
  obtain ⟨a, ca, A, rfl, _, _, _, _, _, _⟩ := ha
  obtain ⟨b, cb, B, rfl, _, _, _, _, _, _⟩ := hb
  have hlen : (nrow nb).length ≤ (nrow na).length := nrow_length_le (by have := lv_lt (nrow_fits na); rw [lv_nrow] at this; omega)
  have hd : decide (2048 < (nrow na).length) = false := by simpa using hs
  have hd' : decide (2048 < (nrow nb).length) = false := by have : (nrow na).length ≤ 2048 := hs; simp; omega
  have HS := Lib.hid hs
  have HLE := Lib.hid hle
  have HLEN := Lib.hid hlen
  have hcv : ¬ cmpV na nb < 0 := by
    rcases Nat.lt_or_ge nb na with h | h
    · rw [cmpV_gt h]; omega
    · rw [cmpV_eq (by omega)]; omega
  obtain ⟨cv, hcv0⟩ : ∃ cv, cv = cmpV na nb := ⟨_, rfl⟩
  rw [← hcv0] at hcv
  have HCV := Lib.hid hcv0
  clear hs hle hlen hcv0
  go_enter Try.func26, Try.ntmps26
  go_wp2_with fail
  refine HT.out.mono ?_
  rintro e w' ⟨v, rfl, hv, rfl⟩
  have HV := Lib.hid hv
  obtain ⟨a', ca', rfl, _, _, _⟩ := hv
  go_wp2_with fail
  refine HT'.out.mono ?_
  rintro e w' ⟨v, rfl, hv, rfl⟩
  have HV' := Lib.hid hv
  obtain ⟨b', cb', rfl, _, _, _⟩ := hv
  go_wp2_with (first
    | (go_at_call 30; refine (long_two _ _ _ _ _ _ _ _).mono ?_; rw [hd, hd']; rintro e w2 ⟨rfl, rfl⟩)
    | fail)
  have HB : Hid (Below w.heap.size w (w.alloc (.cells #[.slice a' (nrow na).length ca', .slice b' (nrow nb).length cb'] 23))) := Lib.hid ((Below.refl _ _).alloc (Nat.le_refl _) _)
  obtain ⟨a2, ca2, e2, _, _, m2⟩ := HV.out.below HB.out
  obtain ⟨b2, cb2, e3, _, _, m3⟩ := HV'.out.below HB.out
  cases e2
  cases e3
  have hcmp := compare_any a' b' ca' cb' na nb _ (by have := HS.out; unfold Short at this; omega) m2 m3
  unfold CmpAnd at hcmp
  rw [← HCV.out] at hcmp
  refine hcmp.mono ?_
  rintro e w2 ⟨rfl, hb2⟩
  have HB2 := Lib.hid (HB.out.trans (hb2.mono HB.out.size))
  clear hb2 m2 m3
  go_wp2_with fail
  have hv2 := HV.out.below HB2.out
  refine ((clone_v hv2 (by have := HS.out; unfold Short at this; omega)).mono (fun e w2 h => h.more HB2.out)).mono ?_
  rintro e w3 ⟨v, rfl, hr, hb3⟩
  obtain ⟨b2, cb2, e3, _, _, m3⟩ := HV'.out.below hb3
  cases e3
  have HB3 := Lib.hid hb3
  have HROW := Lib.hid hr
  clear hv2 hcmp
  by_cases h0 : na = 0
  · subst h0
    obtain rfl : nb = 0 := by have := HLE.out; omega
    obtain ⟨v1, v2, rfl, _, _, _⟩ := hr.at_
    clear hr hb3 m3
    have hres := result_ok HROW.out (nrow_fits 0) (by rw [nrow_zero]; simp) (by rw [lv_nrow, nrow_zero]; simp)
    go_wp2_with fail
    refine (subtract_nil v1 b' v2 cb' w3).mono ?_
    rintro e w4 ⟨⟨v, rfl⟩, hb4⟩
    have hres := result_ok (HROW.out.below hb4 (Nat.le_refl _)) (nrow_fits 0) (by rw [nrow_zero]; simp) (by rw [lv_nrow, nrow_zero]; simp)
    rw [lv_nrow] at hres
    have HRE := Lib.hid hres
    have HB4 := Lib.hid (HB3.out.trans (hb4.mono HB3.out.size))
    clear hres hb4
    go_wp2_with fail
    refine HRE.out.mono ?_
    rintro e w5 ⟨v, rfl, hr, hb5⟩
    have HR5 := Lib.hid hr
    have HB5 := Lib.hid (HB4.out.trans (hb5.mono HB4.out.size))
    clear hr hb5
    go_wp2_with fail
    go_ret2
    exact ⟨v, rfl, HR5.out, HB5.out⟩
  · have hpos : 0 < (nrow na).length := by
      rcases Nat.eq_zero_or_pos (nrow na).length with h | h
      · exact absurd (nrow_nil.1 (List.eq_nil_of_length_eq_zero h)) h0
      · exact h
    obtain ⟨v1, v2, rfl, _, _, hat⟩ := hr.at_
    obtain ⟨g, off, rfl, _⟩ := hat 0 hpos
    obtain ⟨rfl, _, hgB, _, _, hsg⟩ := hr.seg
    have hsub := subtract_any g 0 v2 cb' b' (nrow na) (nrow nb) w3 (by have := HS.out; unfold Short at this; omega) HLEN.out (nrow_fits _) (nrow_fits _) hsg m3 (fun hp bl o e => by
      obtain ⟨b9, o9, e9, hlt9, _⟩ := NatAt.lt (by obtain ⟨_, _, e8, _, _, m8⟩ := HV'.out; cases e8; exact m8) hp
      rw [e] at e9
      cases e9
      have := hb3.size
      omega)
    have HSUB := Lib.hid hsub
    clear hr hb3 m3 hat hsub hsg
    go_wp2_with fail
    refine HSUB.out.mono ?_
    rintro e w4 ⟨O, c, v, rfl, hO, fO, hc, heq, hs4, hw4⟩
    have hval : lv O = na - nb := by
      rw [lv_nrow, lv_nrow] at heq
      have h1 := lv_lt fO
      rw [hO] at h1
      have h2 := HLE.out
      have h3 := lv_lt (nrow_fits na)
      rw [lv_nrow] at h3
      rcases c with _ | c
      · simp at heq; omega
      · obtain rfl : c = 0 := by omega
        simp at heq; omega
    have hrow4 := HROW.out.wrote (by simpa using hw4) hs4 hO
    rw [← hO] at hrow4
    have hres := result_ok hrow4 fO (by have := HS.out; unfold Short at this; omega) (by
      have h4 : (nrow (lv O)).length ≤ O.length := nrow_le fO
      have := HS.out
      unfold Short at this
      omega)
    rw [hval] at hres
    have HRE := Lib.hid hres
    have HB4 : Hid (Below w.heap.size w w4) := Lib.hid (HB3.out.trans (hw4.below HB3.out.size hgB))
    have HO := Lib.hid hO
    clear hO fO hc heq hs4 hw4 hval hrow4 hres
    rw [← HO.out]
    go_wp2_with fail
    refine HRE.out.mono ?_
    rintro e w5 ⟨v, rfl, hr, hb5⟩
    have HR5 := Lib.hid hr
    have HB5 := Lib.hid (HB4.out.trans (hb5.mono HB4.out.size))
    clear hr hb5
    go_wp2_with fail
    go_ret2
    exact ⟨v, rfl, HR5.out, HB5.out⟩
end
end Go.Proofs.Ytcdedaihkfpafaa

namespace Go.Proofs.Ytcdedaihkfpafaa
open Go.RowKit

/-- How many bits a row of limbs has. -/
theorem blen_row {L : List Nat} {top : Nat} (h : Fits L) (h0 : top ≠ 0) : blen (lv (L ++ [top])) = 64 * L.length + blen top := by
  have h1 := lt_blen top
  have h2 := blen_ge h0
  have h3 := lv_lt h
  have h4 := blen_pos h0
  rw [lv_append, lv_one]
  obtain ⟨t, ht⟩ : ∃ t, blen top = t + 1 := ⟨blen top - 1, by omega⟩
  rw [ht] at h1 h2 ⊢
  rw [Nat.add_sub_cancel] at h2
  rw [← Nat.add_assoc]
  have e1 : 2 ^ (64 * L.length + t) = 2 ^ (64 * L.length) * 2 ^ t := Nat.pow_add ..
  have e2 : 2 ^ (64 * L.length + t + 1) = 2 ^ (64 * L.length) * 2 ^ (t + 1) := by rw [Nat.add_assoc, Nat.pow_add]
  have h5 : 2 ^ (64 * L.length) * (top + 1) ≤ 2 ^ (64 * L.length) * 2 ^ (t + 1) := Nat.mul_le_mul_left _ h1
  have h6 : 2 ^ (64 * L.length) * 2 ^ t ≤ 2 ^ (64 * L.length) * top := Nat.mul_le_mul_left _ h2
  rw [Nat.mul_add, Nat.mul_one] at h5
  refine blen_of (by omega) ?_
  have h7 : (lv L + 2 ^ (64 * L.length) * top) / 2 ^ (64 * L.length + t) = 1 := by
    refine Nat.le_antisymm ?_ ?_
    · have : (lv L + 2 ^ (64 * L.length) * top) / 2 ^ (64 * L.length + t) < 2 := by
        have e3 : 2 ^ (64 * L.length + t + 1) = 2 * 2 ^ (64 * L.length + t) := by rw [Nat.pow_succ, Nat.mul_comm]
        rw [Nat.div_lt_iff_lt_mul (Nat.two_pow_pos _)]
        omega
      omega
    · rw [Nat.le_div_iff_mul_le (Nat.two_pow_pos _)]; omega
  rw [h7]
theorem nrow_split {n : Nat} (h : n ≠ 0) : ∃ L top, nrow n = L ++ [top] ∧ top ≠ 0 ∧ Fits L ∧ top < 18446744073709551616 := by
  rcases List.eq_nil_or_concat (nrow n) with h1 | ⟨L, top, h1⟩
  · exact absurd (nrow_nil.1 h1) h
  · rw [List.concat_eq_append] at h1
    have hf := nrow_fits n
    rw [h1] at hf
    refine ⟨L, top, h1, ?_, fun x hx => hf x (List.mem_append_left _ hx), hf top (by simp)⟩
    rcases nrow_last n with h2 | h2
    · rw [h1] at h2; simp at h2
    · rw [h1] at h2; simpa using h2
theorem blen_nrow {n : Nat} (h : n ≠ 0) : ∃ top, (nrow n).getD ((nrow n).length - 1) 0 = top ∧ top < 18446744073709551616 ∧ top ≠ 0 ∧ blen n = 64 * ((nrow n).length - 1) + blen top := by
  obtain ⟨L, top, h1, h2, h3, h4⟩ := nrow_split h
  refine ⟨top, by rw [h1]; simp, h4, h2, ?_⟩
  have := blen_row h3 h2
  rw [← h1, lv_nrow] at this
  rw [this, h1]; simp

section
variable {K K' : Nat} {w : World} {va vb : Value} {na nb : Nat}

set_option maxHeartbeats 1000000 in
theorem bits_p (ha : NNum K w va na) (hK : K ≤ 137438953472) : Calls Try.prog 24 #[va] w (Same (.int .i64 (blen na)) w) := by
  have HT := Lib.hid (trim_v ha (by omega))
  have hl : (nrow na).length ≤ 137438953472 := Nat.le_trans ha.rowLen hK
  obtain ⟨a, ca, A, rfl, _, _, _, _, _, _⟩ := ha
  by_cases h0 : na = 0
  · subst h0
    go_enter Try.func24, Try.ntmps24
    go_wp2_with fail
    refine HT.out.mono ?_
    rintro e w' ⟨v, rfl, hv, rfl⟩
    obtain ⟨a', ca', rfl, _, _, _⟩ := hv
    rw [nrow_zero, List.length_nil]
    go_wp2_with fail
    go_ret
    exact ⟨rfl, rfl⟩
  · obtain ⟨top, t1, t2, t3, t4⟩ := blen_nrow h0
    have hpos : 0 < (nrow na).length := by
      rcases Nat.eq_zero_or_pos (nrow na).length with h | h
      · exact absurd (nrow_nil.1 (List.eq_nil_of_length_eq_zero h)) h0
      · exact h
    obtain ⟨k, hk⟩ : ∃ k, (nrow na).length = k + 1 := ⟨(nrow na).length - 1, by omega⟩
    have hlen := Try.bits_Len64 top w (by omega) (by omega)
    rw [Int.toNat_natCast, bitLen_blen t2] at hlen
    have h64 : blen top ≤ 64 := blen_le t2
    rw [hk, Nat.add_sub_cancel] at t1 t4
    have HT1 := Lib.hid t1
    have HK := Lib.hid hk
    have hkI : (k : Int) ≤ 137438953472 := by omega
    have hb0 : (0 : Int) ≤ (blen top : Int) := by omega
    have hbI : (blen top : Int) ≤ 64 := by omega
    obtain ⟨bt, hbt⟩ : ∃ bt, bt = blen top := ⟨_, rfl⟩
    rw [← hbt] at hlen t4 hb0 hbI
    have HLEN := Lib.hid hlen
    have HT4 := Lib.hid t4
    obtain ⟨N, hN⟩ : ∃ N, N = (nrow na).length := ⟨_, rfl⟩
    have HN := Lib.hid hN
    have hk1 : (N : Int) - 1 = (k : Int) := by omega
    have hne : ((N : Int) == 0) = false := by simp; omega
    have hkL : (k : Int) < (N : Int) := by omega
    have hk0 : (0 : Int) ≤ (k : Int) := by omega
    clear hk t1 t2 t3 t4 hpos hbt h64 hN hl hlen
    go_enter Try.func24, Try.ntmps24
    go_wp2_with fail
    refine HT.out.mono ?_
    rintro e w' ⟨v, rfl, hv, rfl⟩
    obtain ⟨a', ca', rfl, _, _, m⟩ := hv
    obtain ⟨b, off, rfl, hc⟩ := m k (by have := HK.out; omega)
    rw [HT1.out] at hc
    clear m
    rw [← HN.out]
    go_wp2_with fail
    refine HLEN.out.mono ?_
    rintro e w' ⟨rfl, rfl⟩
    go_wp2_with fail
    go_ret
    exact ⟨by rw [HT4.out]; first | rfl | go_num | simp, rfl⟩

set_option maxHeartbeats 1000000 in
theorem sub_none (ha : NNum K w va na) (hb : NNum K' w vb nb) (hK : K ≤ 1099511627776) (hK' : K' ≤ 1099511627776) (hs : Short na) (hs' : Short nb) (hlt : na < nb) : Calls Try.prog 26 #[va, vb] w (ResErr 7 w) := by
  have HT := Lib.hid (trim_v ha hK)
  have HT' := Lib.hid (trim_v hb hK')
  obtain ⟨a, ca, A, rfl, _, _, _, _, _, _⟩ := ha
  obtain ⟨b, cb, B, rfl, _, _, _, _, _, _⟩ := hb
  have hd : decide (2048 < (nrow na).length) = false := by simpa using hs
  have hd' : decide (2048 < (nrow nb).length) = false := by simpa using hs'
  have HS := Lib.hid hs
  have HCV : Hid (cmpV na nb = -1) := Lib.hid (cmpV_lt hlt)
  clear hs hs' hlt
  go_enter Try.func26, Try.ntmps26
  go_wp2_with fail
  refine HT.out.mono ?_
  rintro e w' ⟨v, rfl, hv, rfl⟩
  have HV := Lib.hid hv
  obtain ⟨a', ca', rfl, _, _, _⟩ := hv
  go_wp2_with fail
  refine HT'.out.mono ?_
  rintro e w' ⟨v, rfl, hv, rfl⟩
  have HV' := Lib.hid hv
  obtain ⟨b', cb', rfl, _, _, _⟩ := hv
  go_wp2_with (first
    | (go_at_call 30; refine (long_two _ _ _ _ _ _ _ _).mono ?_; rw [hd, hd']; rintro e w2 ⟨rfl, rfl⟩)
    | fail)
  have HB : Hid (Below w.heap.size w (w.alloc (.cells #[.slice a' (nrow na).length ca', .slice b' (nrow nb).length cb'] 23))) := Lib.hid ((Below.refl _ _).alloc (Nat.le_refl _) _)
  obtain ⟨a2, ca2, e2, _, _, m2⟩ := HV.out.below HB.out
  obtain ⟨b2, cb2, e3, _, _, m3⟩ := HV'.out.below HB.out
  cases e2
  cases e3
  have hcmp := compare_any a' b' ca' cb' na nb _ (by have := HS.out; unfold Short at this; omega) m2 m3
  unfold CmpAnd at hcmp
  rw [HCV.out] at hcmp
  refine hcmp.mono ?_
  rintro e w2 ⟨rfl, hb2⟩
  have HB2 := Lib.hid (HB.out.trans (hb2.mono HB.out.size))
  clear hb2 m2 m3 hcmp
  go_wp2_with fail
  go_ret2
  exact ⟨rfl, HB2.out⟩

set_option maxHeartbeats 1000000 in
theorem mul_p (ha : NNum K w va na) (hb : NNum K' w vb nb) (hKK : K + K' ≤ 2048) : Calls Try.prog 20 #[va, vb] w (ERes w.heap.size (na * nb) w) := by
  have HT := Lib.hid (trim_v ha (by omega))
  have HT' := Lib.hid (trim_v hb (by omega))
  have hs := ha.rowLen
  have hs' := hb.rowLen
  have hn := ha.lt
  have hn' := hb.lt
  obtain ⟨a, ca, A, rfl, _, _, _, _, _, _⟩ := ha
  obtain ⟨b, cb, B, rfl, _, _, _, _, _, _⟩ := hb
  have hd : decide (2048 < (nrow na).length) = false := by simp; omega
  have hd' : decide (2048 < (nrow nb).length) = false := by simp; omega
  obtain ⟨N, hN⟩ : ∃ N, N = (nrow na).length := ⟨_, rfl⟩
  obtain ⟨N', hN'⟩ : ∃ N', N' = (nrow nb).length := ⟨_, rfl⟩
  have HN := Lib.hid hN
  have HN' := Lib.hid hN'
  have hbl := blen_le hn
  have hbl' := blen_le hn'
  have HPR : Hid ((nrow (na * nb)).length ≤ K + K') := Lib.hid (nrow_length_le (by
    rw [Nat.mul_add, Nat.pow_add]
    exact Nat.mul_lt_mul'' hn hn'))
  by_cases h0 : na = 0 ∨ nb = 0
  · have HZ : Hid (na * nb = 0) := Lib.hid (by rcases h0 with h | h <;> simp [h])
    have hbool : (((N : Int) == 0) = true) ∨ (((N : Int) == 0) = false ∧ ((N' : Int) == 0) = true) := by
      rcases h0 with h | h
      · left; rw [hN, h, nrow_zero]; rfl
      · by_cases hz : N = 0
        · left; rw [hz]; rfl
        · right; exact ⟨by simp; omega, by rw [hN', h, nrow_zero]; rfl⟩
    clear hbl hbl' hs hs' hn hn' hN hN' h0
    rcases hbool with n1 | ⟨n1, n2⟩
    all_goals
      go_enter Try.func20, Try.ntmps20
      go_wp2_with fail
      refine HT.out.mono ?_
      rintro e w' ⟨v, rfl, hv, rfl⟩
      obtain ⟨a', ca', rfl, _, _, _⟩ := hv
      go_wp2_with fail
      refine HT'.out.mono ?_
      rintro e w' ⟨v, rfl, hv, rfl⟩
      obtain ⟨b', cb', rfl, _, _, _⟩ := hv
      go_wp2_with (first
        | (go_at_call 30; refine (long_two _ _ _ _ _ _ _ _).mono ?_; rw [hd, hd', ← HN.out, ← HN'.out]; rintro e w2 ⟨rfl, rfl⟩)
        | fail)
      go_ret2
      exact ⟨_, rfl, by rw [HZ.out]; exact NRow.nil _ _, (Below.refl _ _).alloc (Nat.le_refl _) _⟩
  · have p1 : 0 < N := by
      rcases Nat.eq_zero_or_pos N with h | h
      · exact absurd (nrow_nil.1 (List.eq_nil_of_length_eq_zero (by rw [← hN]; exact h))) (fun e => h0 (.inl e))
      · exact h
    have p2 : 0 < N' := by
      rcases Nat.eq_zero_or_pos N' with h | h
      · exact absurd (nrow_nil.1 (List.eq_nil_of_length_eq_zero (by rw [← hN']; exact h))) (fun e => h0 (.inr e))
      · exact h
    have n1 : ((N : Int) == 0) = false := by simp; omega
    have n2 : ((N' : Int) == 0) = false := by simp; omega
    obtain ⟨b1, hb1⟩ : ∃ b1, b1 = blen na := ⟨_, rfl⟩
    obtain ⟨b2, hb2⟩ : ∃ b2, b2 = blen nb := ⟨_, rfl⟩
    have HB1 := Lib.hid hb1
    have HB2 := Lib.hid hb2
    have i1 : (b1 : Int) + (b2 : Int) - 1 ≤ 131072 := by omega
    have i2 : (0 : Int) ≤ (b1 : Int) := by omega
    have i3 : (0 : Int) ≤ (b2 : Int) := by omega
    have i4 : (b1 : Int) + (b2 : Int) ≤ 131073 := by omega
    have HS : Hid (N ≤ 2048 ∧ N' ≤ 2048) := Lib.hid ⟨by omega, by omega⟩
    clear hb1 hb2 hbl hbl' hs hs' hn hn' hN hN' h0
    go_enter Try.func20, Try.ntmps20
    go_wp2_with fail
    refine HT.out.mono ?_
    rintro e w' ⟨v, rfl, hv, rfl⟩
    have HV := Lib.hid hv
    obtain ⟨a', ca', rfl, _, _, _⟩ := hv
    go_wp2_with fail
    refine HT'.out.mono ?_
    rintro e w' ⟨v, rfl, hv, rfl⟩
    have HV' := Lib.hid hv
    obtain ⟨b', cb', rfl, _, _, _⟩ := hv
    go_wp2_with (first
      | (go_at_call 30; refine (long_two _ _ _ _ _ _ _ _).mono ?_; rw [hd, hd', ← HN.out, ← HN'.out]; rintro e w2 ⟨rfl, rfl⟩)
      | fail)
    have HB : Hid (Below w.heap.size w (w.alloc (.cells #[.slice a' N ca', .slice b' N' cb'] 23))) := Lib.hid ((Below.refl _ _).alloc (Nat.le_refl _) _)
    obtain ⟨W1, hW1⟩ : ∃ W1, W1 = w.alloc (.cells #[.slice a' N ca', .slice b' N' cb'] 23) := ⟨_, rfl⟩
    have hbW : Below w.heap.size w W1 := by rw [hW1]; exact HB.out
    rw [← hW1]
    have HBW := Lib.hid hbW
    clear hW1 hbW HB
    have c1 : Calls Try.prog 24 #[.slice a' N ca'] W1 (Same (.int .i64 (b1 : Int)) W1) := by
      rw [HB1.out, HN.out]; exact bits_p (K := 2048) ((HV.out.below HBW.out).num (by rw [← HN.out]; exact HS.out.1)) (by omega)
    have c2 : Calls Try.prog 24 #[.slice b' N' cb'] W1 (Same (.int .i64 (b2 : Int)) W1) := by
      rw [HB2.out, HN'.out]; exact bits_p (K := 2048) ((HV'.out.below HBW.out).num (by rw [← HN'.out]; exact HS.out.2)) (by omega)
    obtain ⟨a2, ca2, e2, _, _, m2⟩ := HV.out.below HBW.out
    obtain ⟨bb2, cb2, e3, _, _, m3⟩ := HV'.out.below HBW.out
    rw [← HN.out] at e2
    rw [← HN'.out] at e3
    cases e2
    cases e3
    have c3 := multiply_any a' b' ca' cb' (nrow na) (nrow nb) W1 (by have := HN.out; have := HS.out; omega) (by have := HN'.out; have := HS.out; omega) (by have := HN.out; omega) (by have := HN'.out; omega) (nrow_fits _) (nrow_fits _) m2 m3
    rw [lv_nrow, lv_nrow, ← HN.out, ← HN'.out] at c3
    have C2 := Lib.hid c2
    have C3 := Lib.hid c3
    clear c2 c3 m2 m3
    refine c1.mono ?_
    clear c1
    rintro e W ⟨rfl, rfl⟩
    go_wp2_with fail
    refine C2.out.mono ?_
    rintro e W ⟨rfl, rfl⟩
    go_wp2_with fail
    refine C3.out.mono ?_
    rintro e W2 ⟨v, L, rfl, hr, hf, hv, hL, hb2⟩
    have hres := result_ok (hr.more (B' := w.heap.size) HBW.out.size) hf (by have := HS.out; omega) (by rw [hv]; have := HPR.out; omega)
    rw [hv] at hres
    have HRE := Lib.hid hres
    have HB3 := Lib.hid (HBW.out.trans (hb2.mono HBW.out.size))
    obtain ⟨v1, v2, rfl, _, _, _⟩ := hr.at_
    clear hr hf hv hL hb2 hres
    go_wp2_with fail
    refine HRE.out.mono ?_
    rintro e W3 ⟨v, rfl, hr, hb3⟩
    have HR3 := Lib.hid hr
    have HB4 := Lib.hid (HB3.out.trans (hb3.mono HB3.out.size))
    clear hr hb3
    go_wp2_with fail
    go_ret2
    exact ⟨v, rfl, HR3.out, HB4.out⟩
end
end Go.Proofs.Ytcdedaihkfpafaa
