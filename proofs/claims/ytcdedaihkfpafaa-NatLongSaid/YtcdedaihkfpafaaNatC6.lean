/-
  LAYER 3: the texts NatLongW, one behind the other.
-/
import Derived.Test.YtcdedaihkfpafaaNatC2
import Derived.Test.YtcdedaihkfpafaaNatC4
import Derived.Test.YtcdedaihkfpafaaNatB8
import Derived.BigQuiet

namespace Go.Proofs.Ytcdedaihkfpafaa
open Go.RowKit

theorem long_lv (low k : Nat) : lv (low :: (List.replicate k 0 ++ [1])) = low + 2 ^ 64 * 2 ^ (64 * k) := by
  show low + 18446744073709551616 * lv (List.replicate k 0 ++ [1]) = _
  rw [lv_append, lv_zeros, List.length_replicate, lv_one]; simp
theorem long_set (low k : Nat) : ((List.replicate (k + 2) 0).set (k + 1) 1).set 0 low = low :: (List.replicate k 0 ++ [1]) := by
  apply List.ext_getElem
  · simp
  · intro i h1 h2
    rcases i with _ | i
    · simp
    · simp only [List.getElem_set, List.getElem_cons_succ, List.getElem_append, List.getElem_replicate, List.length_replicate]
      have hl : i < k + 1 := by simpa using h2
      by_cases hi : i < k
      · rw [dif_pos hi, if_neg (by omega), if_neg (by omega)]
      · have : i = k := by omega
        subst this
        simp
theorem long_row (low k : Nat) (h : low < 18446744073709551616) : Fits (low :: (List.replicate k 0 ++ [1])) ∧ nrow (low + 2 ^ 64 * 2 ^ (64 * k)) = low :: (List.replicate k 0 ++ [1]) := by
  have hf : Fits (low :: (List.replicate k 0 ++ [1])) := by
    intro x hx
    simp only [List.mem_cons, List.mem_append, List.mem_replicate, List.not_mem_nil, or_false] at hx
    rcases hx with h1 | ⟨_, h1⟩ | h1 <;> omega
  refine ⟨hf, ?_⟩
  rw [← long_lv]
  exact (nrow_of hf (.inr (by simp [List.getD_eq_getElem?_getD]))).symm
/-- The number of k + 2 limbs, the top one 1, the lowest one low. -/
def longN (low k : Nat) : Nat := low + 2 ^ 64 * 2 ^ (64 * k)
theorem longN_len (low k : Nat) (h : low < 18446744073709551616) : (nrow (longN low k)).length = k + 2 := by
  unfold longN; rw [(long_row low k h).2]; simp
theorem longN_lt (low k : Nat) (h : low < 18446744073709551616) : longN low k + 1 < 2 ^ (64 * (k + 2)) ∧ 1 ≤ longN low k := by
  unfold longN
  rw [show 64 * (k + 2) = 64 + 64 * k + 64 by omega, Nat.pow_add, Nat.pow_add]
  have h1 : 1 ≤ 2 ^ (64 * k) := Nat.two_pow_pos _
  generalize 2 ^ (64 * k) = E at *
  omega
theorem two_len (s : Nat) : (nrow (1 * 2 ^ s)).length = s / 64 + 1 := by
  rw [Nat.one_mul]
  refine Nat.le_antisymm (nrow_length_le (Nat.pow_lt_pow_right (by omega) (by omega))) ?_
  exact nrow_length_gt (Nat.pow_le_pow_right (by omega) (by omega))
theorem blen_one : blen 1 = 1 := by unfold blen; decide

/-- What the two stores make of a row of zeros. -/
theorem long_laid {w w0 : World} (low k N : Nat) (hlow : low < 18446744073709551616) (hN : N = k + 2) (hN2 : N ≤ 2050) (row0 : NRow w.heap.size w0 (.slice (some ⟨w.heap.size, 0, none⟩) N N) (List.replicate N 0)) (hg0 : w.grownBy w0 none) :
    w0.cell? ⟨w.heap.size, N - 1, none⟩ = some (.int .u64 0) ∧ w0.frozen? ⟨w.heap.size, N - 1, none⟩ = false ∧
    (w0.setCell ⟨w.heap.size, N - 1, none⟩ (.int .u64 1)).cell? ⟨w.heap.size, 0, none⟩ = some (.int .u64 0) ∧ (w0.setCell ⟨w.heap.size, N - 1, none⟩ (.int .u64 1)).frozen? ⟨w.heap.size, 0, none⟩ = false ∧
    NNum 2050 ((w0.setCell ⟨w.heap.size, N - 1, none⟩ (.int .u64 1)).setCell ⟨w.heap.size, 0, none⟩ (.int .u64 (low : Int))) (.slice (some ⟨w.heap.size, 0, none⟩) N N) (longN low k) ∧
    Below w.heap.size w ((w0.setCell ⟨w.heap.size, N - 1, none⟩ (.int .u64 1)).setCell ⟨w.heap.size, 0, none⟩ (.int .u64 (low : Int))) := by
  have seg0 := row0.seg.2.2.2.2.2
  have h1 := seg0.cell (i := N - 1) (by rw [List.length_replicate]; omega)
  rw [Nat.zero_add] at h1
  have seg1 := seg0.set (k := N - 1) (by rw [List.length_replicate]; omega) 1
  rw [Nat.zero_add] at seg1
  have h2 := seg1.cell (i := 0) (by simp; omega)
  rw [Nat.zero_add] at h2
  have seg2 := seg1.set (k := 0) (by simp; omega) low
  have z1 : (List.replicate N 0).getD (N - 1) 0 = 0 := by simp [List.getD_eq_getElem?_getD, List.getElem?_replicate]; split <;> rfl
  have z2 : ((List.replicate N 0).set (N - 1) 1).getD 0 0 = 0 := by
    rw [List.getD_eq_getElem?_getD, List.getElem?_set_ne (by omega)]
    simp [List.getElem?_replicate]; split <;> rfl
  rw [z1] at h1
  rw [z2] at h2
  refine ⟨h1, seg0.frozen _, h2, seg1.frozen 0, ?_, (((Below.refl _ w).grown hg0 (Nat.le_refl _) (fun k hk => by cases hk)).setCell (Nat.le_refl _) _).setCell (Nat.le_refl _) _⟩
  rw [hN, show k + 2 - 1 = k + 1 from rfl, long_set low k, ← show k + 2 - 1 = k + 1 from rfl, ← hN] at seg2
  have hl : (low :: (List.replicate k 0 ++ [1])).length = N := by rw [hN]; simp
  have := NNum.of_arg (K := 2050) (cap := N) (by rw [hl]; exact Nat.le_refl N) (fun h => by cases h) (long_row low k hlow).1 seg2.natAt (by rw [hl]; exact hN2)
  rw [hl, long_lv] at this
  exact this

set_option maxRecDepth 100000 in
theorem long_head (x : Int) (low : Nat) (w : World) (h1 : -128 ≤ x) (h2 : x ≤ 127) (h : x < -2 ∨ 2 < x) :
    Calls Try.prog 5 #[.int .i8 x, .int .u64 (low : Int)] w fun e w' => e = .returned (.bool true) ∧ Below w.heap.size w w' := by
  rcases h with h | h
  · go_enter Try.func5, Try.ntmps5
    go_wp2_with fail
    refine (head_any w).mono ?_
    rintro e w2 ⟨rfl, hb⟩
    go_wp2_with fail
    go_ret
    exact ⟨rfl, hb⟩
  · have h' : ¬ x < -2 := by omega
    go_enter Try.func5, Try.ntmps5
    go_wp2_with fail
    refine (head_any w).mono ?_
    rintro e w2 ⟨rfl, hb⟩
    go_wp2_with fail
    go_ret
    exact ⟨rfl, hb⟩

set_option maxRecDepth 100000 in
set_option maxHeartbeats 4000000 in
theorem long_lt (x : Int) (low k : Nat) (w : World) (h1 : -2 ≤ x) (h2 : x ≤ 2) (hk : ((k + 2 : Nat) : Int) = 2048 + x) (hN : k + 2 < 2048) (hlow : low < 18446744073709551616) :
    Calls Try.prog 5 #[.int .i8 x, .int .u64 (low : Int)] w fun e w' => e = .returned (.bool true) ∧ Below w.heap.size w w' := by
  obtain ⟨i0, hi, hz0, hz1, hz2⟩ := info_parts info_u64
  have hx0 : x ≤ 0 := by omega
  have hx1 : x < 0 := by omega
  obtain ⟨N, hNk⟩ : ∃ N, N = k + 2 := ⟨_, rfl⟩
  obtain ⟨s1, hs1⟩ : ∃ s1, s1 = 64 * N - 1 := ⟨_, rfl⟩
  obtain ⟨s2, hs2⟩ : ∃ s2, s2 = 64 * N := ⟨_, rfl⟩
  have hNI : (2048 : Int) + x = (N : Int) := by omega
  have hNlo : (2046 : Int) ≤ (N : Int) := by omega
  have hNhi : (N : Int) ≤ 2050 := by omega
  have hN2050 : N ≤ 2050 := by omega
  have hsI : (64 : Int) * (N : Int) = (s2 : Int) := by omega
  have hsI1 : (s2 : Int) - 1 = (s1 : Int) := by omega
  have hs2b : (s2 : Int) ≤ 131200 := by omega
  have hs2c : (130000 : Int) ≤ (s2 : Int) := by omega
  have HLEN : Hid ((nrow (longN low k)).length = N) := Lib.hid (by rw [longN_len low k hlow, hNk])
  have HLT : Hid (longN low k + 1 < 2 ^ (64 * N) ∧ 1 ≤ longN low k) := Lib.hid (by rw [hNk]; exact longN_lt low k hlow)
  have HLOW := Lib.hid hlow
  have HK := Lib.hid hNk
  have HS1 := Lib.hid hs1
  have HS2 := Lib.hid hs2
  have HHN : Hid (k + 2 < 2048) := Lib.hid hN
  have HNI := Lib.hid hN2050
  clear hNk hN hk hlow hs1 hs2
  obtain ⟨na, hna⟩ : ∃ na, na = longN low k := ⟨_, rfl⟩
  rw [← hna] at HLEN HLT
  have HLEN := Lib.hid HLEN.out
  have HLT := Lib.hid HLT.out
  have HNA := Lib.hid hna
  clear hna
  go_enter Try.func5, Try.ntmps5
  go_wp2_with (
      (at_make
       refine wpList_make_full _ rfl _ _ 23 rfl w.heap.size 42 i0 (.int .u64 0) 1 Try.underlying23 hi hz0 hz1 .i64 .i64 _ _ N rfl rfl rfl rfl (by rw [hz2]; omega) (by unfold maxLen; omega) (Nat.le_refl _) ?_
       intro w0 hown0 hg0
       obtain ⟨hc1, hf1, hc2, hf2, hnum, hbe⟩ := long_laid low k N HLOW.out HK.out HNI.out (made_zeros hown0) hg0
       rw [← HNA.out] at hnum
       have HNUM := Lib.hid hnum
       have HB0 := Lib.hid hbe
       clear hown0 hg0 hnum hbe))
  have hna9 : (2050 : Nat) ≤ 1099511627776 := by omega
  have HSH := Lib.hid (show Short na by have h := HLEN.out; have h2 := HHN.out; have h3 := HK.out; unfold Short; omega)
  refine (norm_p HNUM.out hna9 HSH.out).mono ?_
  rintro e w1 ⟨vb, rfl, hr, hb⟩
  have HB := Lib.hid (HB0.out.trans (hb.mono HB0.out.size))
  have HA := Lib.hid (HNUM.out.below hb)
  obtain ⟨A1, c1, rfl, _, _, _⟩ := hr.at_
  clear hr hb
  rw [HLEN.out]
  go_wp2_with fail
  refine (of_any 1 _ (by omega)).mono ?_
  rintro e w2 ⟨vd, rfl, hr, hb⟩
  have HB := Lib.hid (HB.out.trans (hb.mono HB.out.size))
  have HA := Lib.hid (HA.out.below hb)
  have HD : Hid (NNum 1 _ vd 1) := Lib.hid (hr.numN (K := 1) (by decide))
  clear hr
  clear hb
  go_wp2_with fail
  refine (add_p HA.out HD.out hna9 (show (1 : Nat) ≤ 1099511627776 by omega) HSH.out (show Short 1 from Nat.le_trans (nrow_length_le (k := 1) (by decide)) (by omega)) (short_of (K := N) HLT.out.1 (by have h2 := HHN.out; have h3 := HK.out; omega))).mono ?_
  rintro e w2 ⟨vr, rfl, hr, hb⟩
  have HB := Lib.hid (HB.out.trans (hb.mono HB.out.size))
  have HA := Lib.hid (HA.out.below hb)
  clear hr HD
  clear hb
  go_wp2_with fail
  refine (of_any 1 _ (by omega)).mono ?_
  rintro e w2 ⟨vd, rfl, hr, hb⟩
  have HB := Lib.hid (HB.out.trans (hb.mono HB.out.size))
  have HA := Lib.hid (HA.out.below hb)
  have HD : Hid (NNum 1 _ vd 1) := Lib.hid (hr.numN (K := 1) (by decide))
  clear hr
  clear hb
  go_wp2_with fail
  refine (sub_p HA.out HD.out hna9 (show (1 : Nat) ≤ 1099511627776 by omega) HSH.out HLT.out.2).mono ?_
  rintro e w2 ⟨vr, rfl, hr, hb⟩
  have HB := Lib.hid (HB.out.trans (hb.mono HB.out.size))
  have HA := Lib.hid (HA.out.below hb)
  clear hr HD
  clear hb
  go_wp2_with fail
  refine (of_any 3 _ (by omega)).mono ?_
  rintro e w2 ⟨vd, rfl, hr, hb⟩
  have HB := Lib.hid (HB.out.trans (hb.mono HB.out.size))
  have HA := Lib.hid (HA.out.below hb)
  have HD : Hid (NNum 1 _ vd 3) := Lib.hid (hr.numN (K := 1) (by decide))
  clear hr
  clear hb
  go_wp2_with fail
  refine (div_p HA.out HD.out hna9 (show (1 : Nat) ≤ 1099511627776 by omega) HSH.out (show Short 3 from Nat.le_trans (nrow_length_le (k := 1) (by decide)) (by omega)) (by omega) (divides_small (by decide) (by have h := HLEN.out; have h2 := HNI.out; omega))).mono ?_
  rintro e w2 ⟨vq, vr, rfl, _, _, hb⟩
  have HB := Lib.hid (HB.out.trans (hb.mono HB.out.size))
  have HA := Lib.hid (HA.out.below hb)
  clear HD
  clear hb
  go_wp2_with fail
  refine (shr_p (s := 1) HA.out hna9 HSH.out (by omega)).mono ?_
  rintro e w2 ⟨vr, rfl, hr, hb⟩
  have HB := Lib.hid (HB.out.trans (hb.mono HB.out.size))
  have HA := Lib.hid (HA.out.below hb)
  clear hr
  clear hb
  go_wp2_with fail
  refine (of_any 2 _ (by omega)).mono ?_
  rintro e w2 ⟨vd, rfl, hr, hb⟩
  have HB := Lib.hid (HB.out.trans (hb.mono HB.out.size))
  have HA := Lib.hid (HA.out.below hb)
  have HD : Hid (NNum 1 _ vd 2) := Lib.hid (hr.numN (K := 1) (by decide))
  clear hr
  clear hb
  go_wp2_with fail
  refine (gcd_p HA.out HD.out hna9 (show (1 : Nat) ≤ 1099511627776 by omega) HSH.out (show Short 2 from Nat.le_trans (nrow_length_le (k := 1) (by decide)) (by omega)) (.inr (.inr (nrow_length_le (k := 1) (by decide))))).mono ?_
  rintro e w2 ⟨vr, rfl, hr, hb⟩
  have HB := Lib.hid (HB.out.trans (hb.mono HB.out.size))
  have HA := Lib.hid (HA.out.below hb)
  clear hr HD
  clear hb
  go_wp2_with fail
  refine (of_any 1 _ (by omega)).mono ?_
  rintro e w2 ⟨vd, rfl, hr, hb⟩
  have HB := Lib.hid (HB.out.trans (hb.mono HB.out.size))
  have HA := Lib.hid (HA.out.below hb)
  have HD : Hid (NNum 1 _ vd 1) := Lib.hid (hr.numN (K := 1) (by decide))
  clear hr
  clear hb
  go_wp2_with fail
  refine (shl_p HD.out (show (1 : Nat) ≤ 1099511627776 by omega) (show Short 1 from Nat.le_trans (nrow_length_le (k := 1) (by decide)) (by omega)) (by omega) s1 (by rw [blen_one]; have h := HS1.out; have h2 := HHN.out; have h3 := HK.out; omega)).mono ?_
  rintro e w2 ⟨vr, rfl, hr, hb⟩
  have HB := Lib.hid (HB.out.trans (hb.mono HB.out.size))
  have HA := Lib.hid (HA.out.below hb)
  obtain ⟨A2, c2, rfl, _, _, _⟩ := hr.at_
  clear hr HD
  clear hb
  rw [two_len, show s1 / 64 + 1 = N by have h := HS1.out; have h3 := HK.out; omega]
  go_wp2_with fail
  refine (of_any 1 _ (by omega)).mono ?_
  rintro e w2 ⟨vd, rfl, hr, hb⟩
  have HB := Lib.hid (HB.out.trans (hb.mono HB.out.size))
  have HA := Lib.hid (HA.out.below hb)
  have HD : Hid (NNum 1 _ vd 1) := Lib.hid (hr.numN (K := 1) (by decide))
  clear hr
  clear hb
  go_wp2_with fail
  refine (shl_p HD.out (show (1 : Nat) ≤ 1099511627776 by omega) (show Short 1 from Nat.le_trans (nrow_length_le (k := 1) (by decide)) (by omega)) (by omega) s2 (by rw [blen_one]; have h := HS2.out; have h2 := HHN.out; have h3 := HK.out; omega)).mono ?_
  rintro e w2 ⟨vr, rfl, hr, hb⟩
  have HB := Lib.hid (HB.out.trans (hb.mono HB.out.size))
  have HA := Lib.hid (HA.out.below hb)
  clear hr HD
  clear hb
  go_wp2_with fail
  refine (head_any _).mono ?_
  rintro e w2 ⟨rfl, hb⟩
  have HB := Lib.hid (HB.out.trans (hb.mono HB.out.size))
  clear hb
  go_wp2_with fail
  go_ret
  exact ⟨rfl, HB.out⟩

set_option maxRecDepth 100000 in
set_option maxHeartbeats 4000000 in
theorem long_eq (x : Int) (low k : Nat) (w : World) (h1 : -2 ≤ x) (h2 : x ≤ 2) (hk : ((k + 2 : Nat) : Int) = 2048 + x) (hN : k + 2 = 2048) (hlow : low < 18446744073709551616) :
    Calls Try.prog 5 #[.int .i8 x, .int .u64 (low : Int)] w fun e w' => e = .returned (.bool true) ∧ Below w.heap.size w w' := by
  obtain ⟨i0, hi, hz0, hz1, hz2⟩ := info_parts info_u64
  have hx0 : x ≤ 0 := by omega
  have hx1 : ¬ x < 0 := by omega
  have hx2 : decide (x < 0) = false := by simp; omega
  obtain ⟨N, hNk⟩ : ∃ N, N = k + 2 := ⟨_, rfl⟩
  obtain ⟨s1, hs1⟩ : ∃ s1, s1 = 64 * N - 1 := ⟨_, rfl⟩
  obtain ⟨s2, hs2⟩ : ∃ s2, s2 = 64 * N := ⟨_, rfl⟩
  have hNI : (2048 : Int) + x = (N : Int) := by omega
  have hNlo : (2046 : Int) ≤ (N : Int) := by omega
  have hNhi : (N : Int) ≤ 2050 := by omega
  have hN2050 : N ≤ 2050 := by omega
  have hsI : (64 : Int) * (N : Int) = (s2 : Int) := by omega
  have hsI1 : (s2 : Int) - 1 = (s1 : Int) := by omega
  have hs2b : (s2 : Int) ≤ 131200 := by omega
  have hs2c : (130000 : Int) ≤ (s2 : Int) := by omega
  have HLEN : Hid ((nrow (longN low k)).length = N) := Lib.hid (by rw [longN_len low k hlow, hNk])
  have HLT : Hid (longN low k + 1 < 2 ^ (64 * N) ∧ 1 ≤ longN low k) := Lib.hid (by rw [hNk]; exact longN_lt low k hlow)
  have HLOW := Lib.hid hlow
  have HK := Lib.hid hNk
  have HS1 := Lib.hid hs1
  have HS2 := Lib.hid hs2
  have HHN : Hid (k + 2 = 2048) := Lib.hid hN
  have HNI := Lib.hid hN2050
  clear hNk hN hk hlow hs1 hs2
  obtain ⟨na, hna⟩ : ∃ na, na = longN low k := ⟨_, rfl⟩
  rw [← hna] at HLEN HLT
  have HLEN := Lib.hid HLEN.out
  have HLT := Lib.hid HLT.out
  have HNA := Lib.hid hna
  clear hna
  go_enter Try.func5, Try.ntmps5
  go_wp2_with (
      (at_make
       refine wpList_make_full _ rfl _ _ 23 rfl w.heap.size 42 i0 (.int .u64 0) 1 Try.underlying23 hi hz0 hz1 .i64 .i64 _ _ N rfl rfl rfl rfl (by rw [hz2]; omega) (by unfold maxLen; omega) (Nat.le_refl _) ?_
       intro w0 hown0 hg0
       obtain ⟨hc1, hf1, hc2, hf2, hnum, hbe⟩ := long_laid low k N HLOW.out HK.out HNI.out (made_zeros hown0) hg0
       rw [← HNA.out] at hnum
       have HNUM := Lib.hid hnum
       have HB0 := Lib.hid hbe
       clear hown0 hg0 hnum hbe))
  have hna9 : (2050 : Nat) ≤ 1099511627776 := by omega
  have HSH := Lib.hid (show Short na by have h := HLEN.out; have h2 := HHN.out; have h3 := HK.out; unfold Short; omega)
  refine (norm_p HNUM.out hna9 HSH.out).mono ?_
  rintro e w1 ⟨vb, rfl, hr, hb⟩
  have HB := Lib.hid (HB0.out.trans (hb.mono HB0.out.size))
  have HA := Lib.hid (HNUM.out.below hb)
  obtain ⟨A1, c1, rfl, _, _, _⟩ := hr.at_
  clear hr hb
  rw [HLEN.out]
  go_wp2_with fail
  refine (of_any 1 _ (by omega)).mono ?_
  rintro e w2 ⟨vd, rfl, hr, hb⟩
  have HB := Lib.hid (HB.out.trans (hb.mono HB.out.size))
  have HA := Lib.hid (HA.out.below hb)
  have HD : Hid (NNum 1 _ vd 1) := Lib.hid (hr.numN (K := 1) (by decide))
  clear hr
  clear hb
  go_wp2_with fail
  refine (add_p HA.out HD.out hna9 (show (1 : Nat) ≤ 1099511627776 by omega) HSH.out (show Short 1 from Nat.le_trans (nrow_length_le (k := 1) (by decide)) (by omega)) (short_of (K := N) HLT.out.1 (by have h2 := HHN.out; have h3 := HK.out; omega))).mono ?_
  rintro e w2 ⟨vr, rfl, hr, hb⟩
  have HB := Lib.hid (HB.out.trans (hb.mono HB.out.size))
  have HA := Lib.hid (HA.out.below hb)
  clear hr HD
  clear hb
  go_wp2_with fail
  refine (of_any 1 _ (by omega)).mono ?_
  rintro e w2 ⟨vd, rfl, hr, hb⟩
  have HB := Lib.hid (HB.out.trans (hb.mono HB.out.size))
  have HA := Lib.hid (HA.out.below hb)
  have HD : Hid (NNum 1 _ vd 1) := Lib.hid (hr.numN (K := 1) (by decide))
  clear hr
  clear hb
  go_wp2_with fail
  refine (sub_p HA.out HD.out hna9 (show (1 : Nat) ≤ 1099511627776 by omega) HSH.out HLT.out.2).mono ?_
  rintro e w2 ⟨vr, rfl, hr, hb⟩
  have HB := Lib.hid (HB.out.trans (hb.mono HB.out.size))
  have HA := Lib.hid (HA.out.below hb)
  clear hr HD
  clear hb
  go_wp2_with fail
  refine (of_any 3 _ (by omega)).mono ?_
  rintro e w2 ⟨vd, rfl, hr, hb⟩
  have HB := Lib.hid (HB.out.trans (hb.mono HB.out.size))
  have HA := Lib.hid (HA.out.below hb)
  have HD : Hid (NNum 1 _ vd 3) := Lib.hid (hr.numN (K := 1) (by decide))
  clear hr
  clear hb
  go_wp2_with fail
  refine (div_p HA.out HD.out hna9 (show (1 : Nat) ≤ 1099511627776 by omega) HSH.out (show Short 3 from Nat.le_trans (nrow_length_le (k := 1) (by decide)) (by omega)) (by omega) (divides_small (by decide) (by have h := HLEN.out; have h2 := HNI.out; omega))).mono ?_
  rintro e w2 ⟨vq, vr, rfl, _, _, hb⟩
  have HB := Lib.hid (HB.out.trans (hb.mono HB.out.size))
  have HA := Lib.hid (HA.out.below hb)
  clear HD
  clear hb
  go_wp2_with fail
  refine (shr_p (s := 1) HA.out hna9 HSH.out (by omega)).mono ?_
  rintro e w2 ⟨vr, rfl, hr, hb⟩
  have HB := Lib.hid (HB.out.trans (hb.mono HB.out.size))
  have HA := Lib.hid (HA.out.below hb)
  clear hr
  clear hb
  go_wp2_with fail
  refine (of_any 2 _ (by omega)).mono ?_
  rintro e w2 ⟨vd, rfl, hr, hb⟩
  have HB := Lib.hid (HB.out.trans (hb.mono HB.out.size))
  have HA := Lib.hid (HA.out.below hb)
  have HD : Hid (NNum 1 _ vd 2) := Lib.hid (hr.numN (K := 1) (by decide))
  clear hr
  clear hb
  go_wp2_with fail
  refine (gcd_p HA.out HD.out hna9 (show (1 : Nat) ≤ 1099511627776 by omega) HSH.out (show Short 2 from Nat.le_trans (nrow_length_le (k := 1) (by decide)) (by omega)) (.inr (.inr (nrow_length_le (k := 1) (by decide))))).mono ?_
  rintro e w2 ⟨vr, rfl, hr, hb⟩
  have HB := Lib.hid (HB.out.trans (hb.mono HB.out.size))
  have HA := Lib.hid (HA.out.below hb)
  clear hr HD
  clear hb
  go_wp2_with fail
  refine (of_any 1 _ (by omega)).mono ?_
  rintro e w2 ⟨vd, rfl, hr, hb⟩
  have HB := Lib.hid (HB.out.trans (hb.mono HB.out.size))
  have HA := Lib.hid (HA.out.below hb)
  have HD : Hid (NNum 1 _ vd 1) := Lib.hid (hr.numN (K := 1) (by decide))
  clear hr
  clear hb
  go_wp2_with fail
  refine (shl_p HD.out (show (1 : Nat) ≤ 1099511627776 by omega) (show Short 1 from Nat.le_trans (nrow_length_le (k := 1) (by decide)) (by omega)) (by omega) s1 (by rw [blen_one]; have h := HS1.out; have h2 := HHN.out; have h3 := HK.out; omega)).mono ?_
  rintro e w2 ⟨vr, rfl, hr, hb⟩
  have HB := Lib.hid (HB.out.trans (hb.mono HB.out.size))
  have HA := Lib.hid (HA.out.below hb)
  obtain ⟨A2, c2, rfl, _, _, _⟩ := hr.at_
  clear hr HD
  clear hb
  rw [two_len, show s1 / 64 + 1 = N by have h := HS1.out; have h3 := HK.out; omega]
  go_wp2_with fail
  refine (of_any 1 _ (by omega)).mono ?_
  rintro e w2 ⟨vd, rfl, hr, hb⟩
  have HB := Lib.hid (HB.out.trans (hb.mono HB.out.size))
  have HA := Lib.hid (HA.out.below hb)
  have HD : Hid (NNum 1 _ vd 1) := Lib.hid (hr.numN (K := 1) (by decide))
  clear hr
  clear hb
  go_wp2_with fail
  refine (shl_over HD.out (show (1 : Nat) ≤ 1099511627776 by omega) (show Short 1 from Nat.le_trans (nrow_length_le (k := 1) (by decide)) (by omega)) (by omega) s2 (by rw [blen_one]; have h := HS2.out; have h2 := HHN.out; have h3 := HK.out; omega) (by omega)).mono ?_
  rintro e w2 ⟨rfl, hb⟩
  have HB := Lib.hid (HB.out.trans (hb.mono HB.out.size))
  have HA := Lib.hid (HA.out.below hb)
  clear HD
  clear hb
  go_wp2_with fail
  refine (head_any _).mono ?_
  rintro e w2 ⟨rfl, hb⟩
  have HB := Lib.hid (HB.out.trans (hb.mono HB.out.size))
  clear hb
  go_wp2_with fail
  go_ret
  exact ⟨rfl, HB.out⟩

set_option maxRecDepth 100000 in
set_option maxHeartbeats 4000000 in
theorem long_gt (x : Int) (low k : Nat) (w : World) (h1 : -2 ≤ x) (h2 : x ≤ 2) (hk : ((k + 2 : Nat) : Int) = 2048 + x) (hN : 2048 < k + 2) (hlow : low < 18446744073709551616) :
    Calls Try.prog 5 #[.int .i8 x, .int .u64 (low : Int)] w fun e w' => e = .returned (.bool true) ∧ Below w.heap.size w w' := by
  obtain ⟨i0, hi, hz0, hz1, hz2⟩ := info_parts info_u64
  have hx0 : ¬ x ≤ 0 := by omega
  have hx1 : ¬ x < 0 := by omega
  have hx2 : decide (x < 0) = false := by simp; omega
  obtain ⟨N, hNk⟩ : ∃ N, N = k + 2 := ⟨_, rfl⟩
  obtain ⟨s1, hs1⟩ : ∃ s1, s1 = 64 * N - 1 := ⟨_, rfl⟩
  obtain ⟨s2, hs2⟩ : ∃ s2, s2 = 64 * N := ⟨_, rfl⟩
  have hNI : (2048 : Int) + x = (N : Int) := by omega
  have hNlo : (2046 : Int) ≤ (N : Int) := by omega
  have hNhi : (N : Int) ≤ 2050 := by omega
  have hN2050 : N ≤ 2050 := by omega
  have hsI : (64 : Int) * (N : Int) = (s2 : Int) := by omega
  have hsI1 : (s2 : Int) - 1 = (s1 : Int) := by omega
  have hs2b : (s2 : Int) ≤ 131200 := by omega
  have hs2c : (130000 : Int) ≤ (s2 : Int) := by omega
  have HLEN : Hid ((nrow (longN low k)).length = N) := Lib.hid (by rw [longN_len low k hlow, hNk])
  have HLT : Hid (longN low k + 1 < 2 ^ (64 * N) ∧ 1 ≤ longN low k) := Lib.hid (by rw [hNk]; exact longN_lt low k hlow)
  have HLOW := Lib.hid hlow
  have HK := Lib.hid hNk
  have HS1 := Lib.hid hs1
  have HS2 := Lib.hid hs2
  have HHN : Hid (2048 < k + 2) := Lib.hid hN
  have HNI := Lib.hid hN2050
  clear hNk hN hk hlow hs1 hs2
  obtain ⟨na, hna⟩ : ∃ na, na = longN low k := ⟨_, rfl⟩
  rw [← hna] at HLEN HLT
  have HLEN := Lib.hid HLEN.out
  have HLT := Lib.hid HLT.out
  have HNA := Lib.hid hna
  clear hna
  go_enter Try.func5, Try.ntmps5
  go_wp2_with (
      (at_make
       refine wpList_make_full _ rfl _ _ 23 rfl w.heap.size 42 i0 (.int .u64 0) 1 Try.underlying23 hi hz0 hz1 .i64 .i64 _ _ N rfl rfl rfl rfl (by rw [hz2]; omega) (by unfold maxLen; omega) (Nat.le_refl _) ?_
       intro w0 hown0 hg0
       obtain ⟨hc1, hf1, hc2, hf2, hnum, hbe⟩ := long_laid low k N HLOW.out HK.out HNI.out (made_zeros hown0) hg0
       rw [← HNA.out] at hnum
       have HNUM := Lib.hid hnum
       have HB0 := Lib.hid hbe
       clear hown0 hg0 hnum hbe))
  have hna9 : (2050 : Nat) ≤ 1099511627776 := by omega
  have HSH := Lib.hid (show ¬ Short na by have h := HLEN.out; have h2 := HHN.out; have h3 := HK.out; unfold Short; omega)
  refine (norm_long HNUM.out hna9 HSH.out).mono ?_
  rintro e w1 ⟨rfl, hb⟩
  have HB := Lib.hid (HB0.out.trans (hb.mono HB0.out.size))
  have HA := Lib.hid (HNUM.out.below hb)
  clear hb
  go_wp2_with fail
  refine (of_any 1 _ (by omega)).mono ?_
  rintro e w2 ⟨vd, rfl, hr, hb⟩
  have HB := Lib.hid (HB.out.trans (hb.mono HB.out.size))
  have HA := Lib.hid (HA.out.below hb)
  have HD : Hid (NNum 1 _ vd 1) := Lib.hid (hr.numN (K := 1) (by decide))
  clear hr
  clear hb
  go_wp2_with fail
  refine (add_long HA.out HD.out hna9 (show (1 : Nat) ≤ 1099511627776 by omega) HSH.out).mono ?_
  rintro e w2 ⟨rfl, hb⟩
  have HB := Lib.hid (HB.out.trans (hb.mono HB.out.size))
  have HA := Lib.hid (HA.out.below hb)
  clear HD
  clear hb
  go_wp2_with fail
  refine (of_any 1 _ (by omega)).mono ?_
  rintro e w2 ⟨vd, rfl, hr, hb⟩
  have HB := Lib.hid (HB.out.trans (hb.mono HB.out.size))
  have HA := Lib.hid (HA.out.below hb)
  have HD : Hid (NNum 1 _ vd 1) := Lib.hid (hr.numN (K := 1) (by decide))
  clear hr
  clear hb
  go_wp2_with fail
  refine (sub_long HA.out HD.out hna9 (show (1 : Nat) ≤ 1099511627776 by omega) HSH.out).mono ?_
  rintro e w2 ⟨rfl, hb⟩
  have HB := Lib.hid (HB.out.trans (hb.mono HB.out.size))
  have HA := Lib.hid (HA.out.below hb)
  clear HD
  clear hb
  go_wp2_with fail
  refine (of_any 3 _ (by omega)).mono ?_
  rintro e w2 ⟨vd, rfl, hr, hb⟩
  have HB := Lib.hid (HB.out.trans (hb.mono HB.out.size))
  have HA := Lib.hid (HA.out.below hb)
  have HD : Hid (NNum 1 _ vd 3) := Lib.hid (hr.numN (K := 1) (by decide))
  clear hr
  clear hb
  go_wp2_with fail
  refine (div_long HA.out HD.out hna9 (show (1 : Nat) ≤ 1099511627776 by omega) HSH.out).mono ?_
  rintro e w2 ⟨rfl, hb⟩
  have HB := Lib.hid (HB.out.trans (hb.mono HB.out.size))
  have HA := Lib.hid (HA.out.below hb)
  clear HD
  clear hb
  go_wp2_with fail
  refine (shr_long HA.out hna9 HSH.out 1).mono ?_
  rintro e w2 ⟨rfl, hb⟩
  have HB := Lib.hid (HB.out.trans (hb.mono HB.out.size))
  have HA := Lib.hid (HA.out.below hb)
  clear hb
  go_wp2_with fail
  refine (of_any 2 _ (by omega)).mono ?_
  rintro e w2 ⟨vd, rfl, hr, hb⟩
  have HB := Lib.hid (HB.out.trans (hb.mono HB.out.size))
  have HA := Lib.hid (HA.out.below hb)
  have HD : Hid (NNum 1 _ vd 2) := Lib.hid (hr.numN (K := 1) (by decide))
  clear hr
  clear hb
  go_wp2_with fail
  refine (gcd_long HA.out HD.out hna9 (show (1 : Nat) ≤ 1099511627776 by omega) HSH.out).mono ?_
  rintro e w2 ⟨rfl, hb⟩
  have HB := Lib.hid (HB.out.trans (hb.mono HB.out.size))
  have HA := Lib.hid (HA.out.below hb)
  clear HD
  clear hb
  go_wp2_with fail
  refine (of_any 1 _ (by omega)).mono ?_
  rintro e w2 ⟨vd, rfl, hr, hb⟩
  have HB := Lib.hid (HB.out.trans (hb.mono HB.out.size))
  have HA := Lib.hid (HA.out.below hb)
  have HD : Hid (NNum 1 _ vd 1) := Lib.hid (hr.numN (K := 1) (by decide))
  clear hr
  clear hb
  go_wp2_with fail
  refine (shl_over HD.out (show (1 : Nat) ≤ 1099511627776 by omega) (show Short 1 from Nat.le_trans (nrow_length_le (k := 1) (by decide)) (by omega)) (by omega) s1 (by rw [blen_one]; have h := HS1.out; have h2 := HHN.out; have h3 := HK.out; omega) (by omega)).mono ?_
  rintro e w2 ⟨rfl, hb⟩
  have HB := Lib.hid (HB.out.trans (hb.mono HB.out.size))
  have HA := Lib.hid (HA.out.below hb)
  clear HD
  clear hb
  go_wp2_with fail
  refine (of_any 1 _ (by omega)).mono ?_
  rintro e w2 ⟨vd, rfl, hr, hb⟩
  have HB := Lib.hid (HB.out.trans (hb.mono HB.out.size))
  have HA := Lib.hid (HA.out.below hb)
  have HD : Hid (NNum 1 _ vd 1) := Lib.hid (hr.numN (K := 1) (by decide))
  clear hr
  clear hb
  go_wp2_with fail
  refine (shl_over HD.out (show (1 : Nat) ≤ 1099511627776 by omega) (show Short 1 from Nat.le_trans (nrow_length_le (k := 1) (by decide)) (by omega)) (by omega) s2 (by rw [blen_one]; have h := HS2.out; have h2 := HHN.out; have h3 := HK.out; omega) (by omega)).mono ?_
  rintro e w2 ⟨rfl, hb⟩
  have HB := Lib.hid (HB.out.trans (hb.mono HB.out.size))
  have HA := Lib.hid (HA.out.below hb)
  clear HD
  clear hb
  go_wp2_with fail
  refine (head_any _).mono ?_
  rintro e w2 ⟨rfl, hb⟩
  have HB := Lib.hid (HB.out.trans (hb.mono HB.out.size))
  clear hb
  go_wp2_with fail
  go_ret
  exact ⟨rfl, HB.out⟩

end Go.Proofs.Ytcdedaihkfpafaa
