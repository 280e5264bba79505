/-
  The texts NatDiv, NatGcd, NatSet, NatSetW, NatRoot, NatTextM, NatParseM, NatQParse, NatQGroup, NatQFrom, NatByLimb, NatQFill, one behind the other.
-/
import Derived.Test.YtofpcdjoljjnoaaGreatDoorTapY05
import Derived.Test.YtofpcdjoljjnoaaGreatDoorTapY04
import Derived.Test.YtofpcdjoljjnoaaGreatDoorTapY02

namespace Go.Proofs.YtofpcdjoljjnoaaGreatDoor
set_option maxRecDepth 100000
open Go.RowKit

def DivPost (w : World) (na nb : Nat) (e : Ending) (w' : World) : Prop :=
  ∃ vq vr, e = .returned (.tuple #[vq, vr]) ∧ NRow w.heap.size w' vq (nrow (na / nb)) ∧ NRow w.heap.size w' vr (nrow (na % nb)) ∧ Below w.heap.size w w'

/-- Digits of the quotient from t on have been laid. -/
def DivRel (K X Y N g : Nat) (vx vy : Value) (w : World) (r i : Value) (wr : World) : Prop :=
  ∃ (t : Nat) (o : List Nat), t ≤ N ∧ i = .int .i64 ((t : Int) - 1) ∧ NNum K wr r (X / 2 ^ (32 * t) % Y) ∧ r.ownBlock ≠ some g ∧ o.length = N ∧ Small o ∧ (∀ j, j < t → o.getD j 0 = 0) ∧
    dv o = 2 ^ (32 * t) * (X / 2 ^ (32 * t) / Y) ∧ NNum K wr vx X ∧ NNum K wr vy Y ∧ wr.ownsRow w.heap.size 100 1 (.slice (some ⟨g, 0, none⟩) N N) N (U o) ∧ Below w.heap.size w wr

/-- A guess is taken down. -/
def GuessRel (K X Y R N g : Nat) (o : List Nat) (vx vy vr : Value) (w : World) (gs p : Value) (wr : World) : Prop :=
  ∃ gn : Nat, R / Y ≤ gn ∧ gn ≤ 4294967295 ∧ gs = .int .u64 (gn : Int) ∧ NNum K wr p (Y * gn) ∧ NNum K wr vx X ∧ NNum K wr vy Y ∧ NNum K wr vr R ∧
    wr.ownsRow w.heap.size 100 1 (.slice (some ⟨g, 0, none⟩) N N) N (U o) ∧ Below w.heap.size w wr

theorem NRow.off {B g : Nat} {w : World} {v : Value} {L : List Nat} (h : NRow B w v L) (hg : w.heap.size ≤ g) : v.ownBlock ≠ some g := fun e => by
  have := (World.ownsRow.lt h _ e).2
  omega
theorem NRow.off2 {B g : Nat} {w : World} {v : Value} {L : List Nat} (h : NRow B w v L) (hg : g < B) : v.ownBlock ≠ some g := fun e => by
  have := (World.ownsRow.lt h _ e).1
  omega
theorem NNum.setCell {K n : Nat} {w : World} {v : Value} {p : Addr} (h : NNum K w v n) (hp : v.ownBlock ≠ some p.block) (u : Value) : NNum K (w.setCell p u) v n := by
  obtain ⟨a, cap, L, rfl, h2, h3, h4, h5, h6, h7⟩ := h
  refine ⟨a, cap, L, rfl, h2, h3, h4, fun i hi => ?_, h6, h7⟩
  obtain ⟨b, off, rfl, hc⟩ := h5 i hi
  refine ⟨b, off, rfl, ?_⟩
  rw [World.cell?_setCell_other]
  · exact hc
  · intro e
    apply hp
    subst e
    rfl

set_option maxRecDepth 100000 in
set_option maxHeartbeats 8000000 in
theorem ndiv_v (K : Nat) (va vb : Value) (na nb : Nat) (w : World) (hK : K ≤ 524288) (ha : NNum K w va na) (hb : NNum K w vb nb) (hnb : nb ≠ 0) :
    Calls Tryz.prog 89 #[va, vb] w (DivPost w na nb) := by
  obtain ⟨i0, hi, hz0, hz1, hz2⟩ := info_parts info_u64
  obtain ⟨s, hs⟩ : ∃ s, s = (32 - blen nb % 32) % 32 := ⟨_, rfl⟩
  obtain ⟨X, hX⟩ : ∃ X, X = na * 2 ^ s := ⟨_, rfl⟩
  obtain ⟨Y, hY⟩ : ∃ Y, Y = nb * 2 ^ s := ⟨_, rfl⟩
  obtain ⟨n, hn⟩ : ∃ n, n = (blen Y + 31) / 32 := ⟨_, rfl⟩
  obtain ⟨m, hm⟩ : ∃ m, m = (blen X + 31) / 32 := ⟨_, rfl⟩
  obtain ⟨hs31, hYn, hn1⟩ := shift_facts hnb hs
  rw [← hY] at hYn hn1
  rw [← hn] at hYn hn1
  have hX2 : X < 2 ^ (64 * (K + 1)) := by
    have h1 := ha.lt
    have h2 : 2 ^ s ≤ 2 ^ 64 := Nat.pow_le_pow_right (by omega) (by omega)
    rw [hX, Nat.mul_add 64, Nat.mul_one, Nat.pow_add]
    exact Nat.lt_of_lt_of_le (Nat.mul_lt_mul_of_pos_right h1 (Nat.two_pow_pos s)) (Nat.mul_le_mul_left _ h2)
  have hY2 : Y < 2 ^ (64 * (K + 1)) := by
    have h1 := hb.lt
    have h2 : 2 ^ s ≤ 2 ^ 64 := Nat.pow_le_pow_right (by omega) (by omega)
    rw [hY, Nat.mul_add 64, Nat.mul_one, Nat.pow_add]
    exact Nat.lt_of_lt_of_le (Nat.mul_lt_mul_of_pos_right h1 (Nat.two_pow_pos s)) (Nat.mul_le_mul_left _ h2)
  have hm9 : m ≤ 2 * K + 2 := by have := blen_le hX2; omega
  have hn9 : n ≤ 2 * K + 2 := by have := blen_le hY2; omega
  have hY0 : 0 < Y := by rw [hY]; exact Nat.mul_pos (Nat.pos_of_ne_zero hnb) (Nat.two_pow_pos s)
  have HX := Lib.hid hX
  have HY := Lib.hid hY
  have HN := Lib.hid hn
  have HM := Lib.hid hm
  have HYN := Lib.hid hYn
  have HX2 := Lib.hid hX2
  have HY2 := Lib.hid hY2
  have HY0 := Lib.hid hY0
  have HS31 := Lib.hid hs31
  have HSS := Lib.hid hs
  have HNB := Lib.hid hnb
  have HN1 := Lib.hid hn1
  obtain ⟨l, hl⟩ : ∃ l : Int, l = (blen nb : Int) := ⟨_, rfl⟩
  obtain ⟨si, hsi⟩ : ∃ si : Int, si = (s : Int) := ⟨_, rfl⟩
  have HSI := Lib.hid hsi
  have HL := Lib.hid hl
  have hl0 : 0 ≤ l := by omega
  have hl9 : l ≤ 33554432 := by have := blen_le hb.lt; omega
  have HSV : Hid ((32 - l % 32) % 32 = si) := Lib.hid (by omega)
  have HSV2 : Hid (-(l % 32) % 32 = si) := Lib.hid (by omega)
  obtain ⟨mi, hmi⟩ : ∃ mi : Int, mi = (m : Int) := ⟨_, rfl⟩
  obtain ⟨ni, hni⟩ : ∃ ni : Int, ni = (n : Int) := ⟨_, rfl⟩
  have HMI := Lib.hid hmi
  have HNI := Lib.hid hni
  have HK := Lib.hid hK
  have HA := Lib.hid ha
  have HBB := Lib.hid hb
  have m0 : 0 ≤ mi := by omega
  have m1 : mi ≤ 1048578 := by omega
  have n0 : 1 ≤ ni := by omega
  have n1 : ni ≤ 1048578 := by omega
  have hne : (ni == 0) = false := beq_eq_false_iff_ne.2 (by omega)
  clear hX hY hn hm hYn hX2 hY2 hY0 hs31 hs hnb hn1 hl hsi hm9 hn9 hmi hni ha hb hK
  go_enter Tryz.func89, Tryz.ntmps89
  go_wp2_with fail
  with_reducible refine (bits_v (by have := HK.out; omega) HBB.out).mono ?_
  rintro e w' ⟨y1, hy1, rfl, rfl⟩
  obtain rfl : y1 = l := hy1.trans HL.out.symm
  clear hy1
  go_wp2_with fail
  rw [HSV.out, HSV2.out]
  with_reducible refine (shl_v (by have := HK.out; omega) HA.out HSI.out (by have := HS31.out; omega)).mono ?_
  rintro e w1 hr1
  rw [← HX.out] at hr1
  obtain ⟨vx, rfl, hw1, hx1, b1⟩ := hr1.out HX2.out
  have HW1 := Lib.hid hw1
  have HB1 := Lib.hid b1
  have HX1 := Lib.hid hx1
  clear hr1 b1 hx1 hw1
  go_wp2_with fail
  with_reducible refine (shl_v (by have := HK.out; omega) (HBB.out.below HB1.out) HSI.out (by have := HS31.out; omega)).mono ?_
  rintro e w2 hr2
  rw [← HY.out] at hr2
  obtain ⟨vy, rfl, hw2, hy2, b2⟩ := hr2.out HY2.out
  have HBX : Hid (vx.ownBlock ≠ some w2.heap.size) := Lib.hid (HW1.out.off b2.size)
  have HBY : Hid (vy.ownBlock ≠ some w2.heap.size) := Lib.hid (hw2.off (Nat.le_refl _))
  have HB2 : Hid (Below w.heap.size w w2) := Lib.hid (HB1.out.trans (b2.mono HB1.out.size))
  have HX3 := Lib.hid (HX1.out.below b2)
  have HY3 := Lib.hid hy2
  clear hr2 b2 hy2 hw2 HW1
  go_wp2_with fail
  with_reducible refine (digits_v (by have := HK.out; omega) HX3.out).mono ?_
  rintro e w3 ⟨y3, hy3, rfl, rfl⟩
  obtain rfl : y3 = mi := hy3.trans (by rw [HMI.out, HM.out])
  clear hy3
  go_wp2_with fail
  with_reducible refine (digits_v (by have := HK.out; omega) HY3.out).mono ?_
  rintro e w4 ⟨y4, hy4, rfl, rfl⟩
  obtain rfl : y4 = ni := hy4.trans (by rw [HNI.out, HN.out])
  clear hy4
  by_cases hlt : y3 < y4
  · have hq : na < nb := small_quot HNB.out HSS.out (by
      rw [← HX.out, ← HY.out, ← HM.out, ← HN.out]; have := HMI.out; have := HNI.out; omega)
    have HQ : Hid (na / nb = 0 ∧ na % nb = na) := Lib.hid ⟨Nat.div_eq_of_lt hq, Nat.mod_eq_of_lt hq⟩
    clear hq
    go_wp2_with fail
    with_reducible refine (norm_v (by have := HK.out; omega) (HA.out.below HB2.out)).mono ?_
    rintro e w5 ⟨v5, rfl, hv5, b5⟩
    have HV5 := Lib.hid hv5
    have HB5 := Lib.hid b5
    clear hv5 b5
    go_wp2_with fail
    go_ret2
    exact ⟨_, _, rfl, by rw [HQ.out.1]; exact NRow.nil _ _, by rw [HQ.out.2]; exact HV5.out.more HB2.out.size, HB2.out.trans (HB5.out.mono HB2.out.size)⟩
  · have hge : y4 ≤ y3 := by omega
    obtain ⟨N, hN⟩ : ∃ N : Nat, N = m + 1 - n := ⟨_, rfl⟩
    have HNM : Hid (m + 1 = N + n) := Lib.hid (by have := HMI.out; have := HNI.out; omega)
    have hKN : y3 - y4 + 1 = (N : Int) := by have := HMI.out; have := HNI.out; omega
    have HKN := Lib.hid hKN
    have HNP : Hid (1 ≤ N) := Lib.hid (by have := HMI.out; have := HNI.out; omega)
    have hN9 : N ≤ 1048579 := by omega
    have HZ : Hid (∀ w0 : World, w0.ownsRow w.heap.size 100 1 (.slice (some ⟨w2.heap.size, 0, none⟩) N N) N (madeCells (Value.int .u64 0).cells (N * 1)).toList → w0.ownsRow w.heap.size 100 1 (.slice (some ⟨w2.heap.size, 0, none⟩) N N) N (U (List.replicate N 0))) := Lib.hid (fun w0 h => by
      rw [show (Value.int .u64 0).cells = #[.int .u64 0] from rfl, toList_madeCells_one, Nat.mul_one] at h
      rw [U_zeros]; exact h)
    have hdl : decide (y3 < y4) = false := by simpa using hge
    clear hN hKN hlt
    go_wp2_with (
      (at_make
       refine wpList_make_full _ rfl _ _ 41 rfl w.heap.size 100 i0 (.int .u64 0) 1 Tryz.underlying41 hi hz0 hz1 .i64 .i64 _ _ N rfl rfl HKN.out HKN.out (by rw [hz2]; omega) (by unfold maxLen; omega) HB2.out.size ?_
       intro w0 hown0 hg0
       have HO := Lib.hid (HZ.out w0 hown0)
       have HB : Hid (Below w2.heap.size w2 w0) := Lib.hid ((Below.refl _ w2).grown hg0 (Nat.le_refl _) (fun k hk => by cases hk))
       clear hown0 hg0))
    rw [HKN.out]
    with_reducible refine (shr_v (s := 32 * N) (by have := HK.out; omega) (HX3.out.below HB.out) (by omega) (by omega)).mono ?_
    rintro e w5 hr5
    obtain ⟨vr, rfl, hw5, hr6, b5⟩ := hr5.out (K := K + 2) (by
      have h1 := HX2.out
      have h2 : X / 2 ^ (32 * N) ≤ X := Nat.div_le_self _ _
      have h3 : 2 ^ (64 * (K + 1)) ≤ 2 ^ (64 * (K + 2)) := Nat.pow_le_pow_right (by omega) (by omega)
      omega)
    have HB5 : Hid (Below w.heap.size w w5) := Lib.hid ((HB2.out.trans (HB.out.mono HB2.out.size)).trans (b5.mono (Nat.le_trans HB2.out.size HB.out.size)))
    have HX5 : Hid (NNum (K + 2) w5 vx X) := Lib.hid (((HX3.out.below HB.out).below b5).mono (by omega))
    have HY5 : Hid (NNum (K + 2) w5 vy Y) := Lib.hid (((HY3.out.below HB.out).below b5).mono (by omega))
    have hfr : X / 2 ^ (32 * N) < Y := first_rest HYN.out HN1.out (by rw [← HM.out]; exact HNM.out)
    have HR5 : Hid (NNum (K + 2) w5 vr (X / 2 ^ (32 * N) % Y)) := Lib.hid (by rw [Nat.mod_eq_of_lt hfr]; exact hr6)
    have HQ0 : Hid (dv (List.replicate N 0) = 2 ^ (32 * N) * (X / 2 ^ (32 * N) / Y)) := Lib.hid (by
      have := dv_zeros N []
      rw [List.append_nil] at this
      rw [this, Nat.div_eq_of_lt hfr]; rfl)
    have HO5 := Lib.hid (own_below HO.out b5 (Nat.le_refl _))
    have HBR : Hid (vr.ownBlock ≠ some w2.heap.size) := Lib.hid (hw5.off2 (World.ownsRow.lt HO.out w2.heap.size rfl).2)
    clear hr5 b5 hr6 hfr hw5
    obtain ⟨g, hg⟩ : ∃ g, g = w2.heap.size := ⟨_, rfl⟩
    have HG : Hid (w.heap.size ≤ g) := Lib.hid (by have := HB2.out.size; omega)
    have HO6 : Hid (w5.ownsRow w.heap.size 100 1 (.slice (some ⟨g, 0, none⟩) N N) N (U (List.replicate N 0))) := Lib.hid (by rw [hg]; exact HO5.out)
    have HBX2 : Hid (vx.ownBlock ≠ some g) := Lib.hid (by rw [hg]; exact HBX.out)
    have HBY2 : Hid (vy.ownBlock ≠ some g) := Lib.hid (by rw [hg]; exact HBY.out)
    have HBR2 : Hid (vr.ownBlock ≠ some g) := Lib.hid (by rw [hg]; exact HBR.out)
    rw [← hg]
    clear hg HO HO5 HZ HB HBX HBY HBR
    go_wp2_with fail
    go_loopw [12, 13] (fun r i wr => DivRel (K + 2) X Y N g vx vy w r i wr) (fun _ i _ => (intOf i + 1).toNat)
    case atStart => exact ⟨N, List.replicate N 0, Nat.le_refl _, by rw [← HKN.out]; congr 1; omega, HR5.out, HBR2.out, List.length_replicate, small_zeros N, fun j _ => by simp [List.getD_eq_getElem?_getD, List.getElem?_replicate]; split <;> rfl, HQ0.out, HX5.out, HY5.out, HO6.out, HB5.out⟩
    case round =>
      obtain ⟨t, o, ht, rfl, hr, hrb, hol, hos, hoz, hdv, hx, hy, how, hbel⟩ := hrel
      clear hrb
      have HR := Lib.hid hr
      have HOL := Lib.hid hol
      have HOS := Lib.hid hos
      have HOZ := Lib.hid hoz
      have HDV := Lib.hid hdv
      have HXX := Lib.hid hx
      have HYY := Lib.hid hy
      have HOW := Lib.hid how
      have HBL := Lib.hid hbel
      clear hr hol hos hoz hdv hx hy how hbel
      rcases t with _ | t
      · have HNA : Hid (NatAt wr (some ⟨g, 0, none⟩) o) := Lib.hid (fun i hi => ⟨g, 0, rfl, by rw [Nat.zero_add, World.ownsRow.cellAt HOW.out i (by rw [HOL.out] at hi; omega), U_get hi]⟩)
        have hM := nmade_any (some ⟨g, 0, none⟩) N o wr (by rw [HOL.out]; omega) HOS.out HNA.out
        rw [HOL.out] at hM
        have HM2 := Lib.hid hM
        have HQ : Hid (dv o = na / nb) := Lib.hid (by
          rw [HDV.out, Nat.mul_zero, Nat.pow_zero, Nat.one_mul, Nat.div_one, HX.out, HY.out]; exact scaled.1)
        have HR2 : Hid (X / 2 ^ (32 * 0) % Y / 2 ^ s = na % nb) := Lib.hid (by
          rw [Nat.mul_zero, Nat.pow_zero, Nat.div_one, HX.out, HY.out]; exact scaled.2)
        clear hM ht
        go_wp2_with fail
        with_reducible refine HM2.out.mono ?_
        rintro e w6 ⟨v6, rfl, hv6, b6⟩
        have HV6 := Lib.hid hv6
        have HB6 := Lib.hid b6
        clear hv6 b6
        go_wp2_with fail
        with_reducible refine (shr_v (by have := HK.out; omega) (HR.out.below HB6.out) HSI.out (by have := HS31.out; omega)).mono ?_
        rintro e w7 ⟨v7, rfl, hv7, b7⟩
        have HV7 := Lib.hid hv7
        have HB7 := Lib.hid b7
        clear hv7 b7
        go_wp2_with fail
        go_ret2
        exact ⟨_, _, rfl, by rw [← HQ.out]; exact (HV6.out.more HBL.out.size).below HB7.out (Nat.le_refl _), by rw [← HR2.out]; exact HV7.out.more (Nat.le_trans HBL.out.size HB6.out.size),
          (HBL.out.trans (HB6.out.mono HBL.out.size)).trans (HB7.out.mono (Nat.le_trans HBL.out.size HB6.out.size))⟩
      · obtain ⟨j, hj⟩ : ∃ j : Int, j = (t : Int) := ⟨_, rfl⟩
        have HJ := Lib.hid hj
        have ej : ((t + 1 : Nat) : Int) - 1 = j := by omega
        rw [ej]
        have hj0 : 0 ≤ j := by omega
        have hjN : j < (N : Int) := by omega
        have hjm : j ≤ 1048579 := by omega
        have HT : Hid (t < N) := Lib.hid (by omega)
        obtain ⟨R0, hR0⟩ : ∃ R0, R0 = X / 2 ^ (32 * (t + 1)) % Y := ⟨_, rfl⟩
        obtain ⟨d, hd⟩ : ∃ d, d = X / 2 ^ (32 * t) % 2 ^ 32 := ⟨_, rfl⟩
        obtain ⟨R, hR⟩ : ∃ R, R = R0 * 2 ^ 32 + d := ⟨_, rfl⟩
        have hd1 : d < 2 ^ 32 := by rw [hd]; exact Nat.mod_lt _ (by decide)
        have hR0Y : R0 < Y := by rw [hR0]; exact Nat.mod_lt _ HY0.out
        have hRY : R < Y * 2 ^ 32 := by
          have h1 : (R0 + 1) * 2 ^ 32 ≤ Y * 2 ^ 32 := Nat.mul_le_mul_right _ hR0Y
          omega
        have HBIG : Hid (Y * 2 ^ 32 ≤ 2 ^ (64 * (K + 2))) := Lib.hid (by
          have h1 := HY2.out
          rw [show 64 * (K + 2) = 64 * (K + 1) + 64 by omega, Nat.pow_add]
          exact Nat.mul_le_mul (Nat.le_of_lt h1) (by decide))
        have hdd := div_dig (X := X) (Y := Y) (t := t) hR0 rfl HY0.out
        rw [← hd, ← hR] at hdd
        have HDD := Lib.hid hdd
        have hR2 : NNum (K + 2) wr u12 R0 := by rw [hR0]; exact HR.out
        obtain ⟨gf1, gf2, gf3, gf4⟩ := guess_facts HYN.out HN1.out hRY
        have HRV := Lib.hid hR
        have HRY := Lib.hid hRY
        have HR0Y := Lib.hid hR0Y
        have HRR := Lib.hid hR2
        have HD := Lib.hid hd
        have HD1 := Lib.hid hd1
        have GF3 := Lib.hid gf3
        have GF4 := Lib.hid gf4
        obtain ⟨a1, ha1⟩ : ∃ a1 : Nat, a1 = R / 2 ^ (32 * n) % 2 ^ 32 := ⟨_, rfl⟩
        obtain ⟨a2, ha2⟩ : ∃ a2 : Nat, a2 = R / 2 ^ (32 * (n - 1)) % 2 ^ 32 := ⟨_, rfl⟩
        obtain ⟨a3, ha3⟩ : ∃ a3 : Nat, a3 = Y / 2 ^ (32 * (n - 1)) % 2 ^ 32 := ⟨_, rfl⟩
        have HA1 := Lib.hid ha1
        have HA2 := Lib.hid ha2
        have HA3 := Lib.hid ha3
        rw [← ha1, ← ha2] at gf2
        rw [← ha3] at gf1
        have l1 : a1 < 2 ^ 32 := by rw [ha1]; exact Nat.mod_lt _ (by decide)
        have l2 : a2 < 2 ^ 32 := by rw [ha2]; exact Nat.mod_lt _ (by decide)
        have l3 : a3 < 2 ^ 32 := by rw [ha3]; exact Nat.mod_lt _ (by decide)
        obtain ⟨G, hG⟩ : ∃ G : Nat, G = (a1 * 4294967296 + a2) / a3 := ⟨_, rfl⟩
        have HGG : Hid (R / Y ≤ G) := Lib.hid (by rw [hG, ha1, ha2, ha3]; exact gf3)
        obtain ⟨x1, hx1⟩ : ∃ x1 : Int, x1 = (a1 : Int) := ⟨_, rfl⟩
        obtain ⟨x2, hx2⟩ : ∃ x2 : Int, x2 = (a2 : Int) := ⟨_, rfl⟩
        obtain ⟨x3, hx3⟩ : ∃ x3 : Int, x3 = (a3 : Int) := ⟨_, rfl⟩
        obtain ⟨gi, hgi⟩ : ∃ gi : Int, gi = (G : Int) := ⟨_, rfl⟩
        have HX1' := Lib.hid hx1
        have HX2' := Lib.hid hx2
        have HX3' := Lib.hid hx3
        have HGI := Lib.hid hgi
        have hquo : (x1 * 4294967296 + x2) / x3 = gi := by rw [hgi, hG, hx1, hx2, hx3]; simp
        have HGL : Hid (G < 18446744073709551616) := Lib.hid (by
          have := Nat.div_le_self (a1 * 4294967296 + a2) a3
          omega)
        have x10 : 0 ≤ x1 := by omega
        have x11 : x1 < 4294967296 := by omega
        have x20 : 0 ≤ x2 := by omega
        have x21 : x2 < 4294967296 := by omega
        have x30 : 0 < x3 := by omega
        have x31 : x3 < 4294967296 := by omega
        have g0 : 0 ≤ gi := by omega
        clear hj ht hd hd1 hR0Y hR hRY hdd hR2 gf1 gf2 gf3 gf4 ha1 ha2 ha3 l1 l2 l3 hG hx1 hx2 hx3 hgi ej hR0
        go_wp2_with fail
        with_reducible refine (shl_v (n := (32 : Int)) (s := 32) (by have := HK.out; omega) HRR.out (by omega) (by omega)).mono ?_
        rintro e w6 hr6
        obtain ⟨v6, rfl, _, hv6, b6⟩ := hr6.out (K := K + 2) (by have h1 := HR0Y.out; have h2 := HBIG.out; exact Nat.lt_of_lt_of_le (Nat.mul_lt_mul_of_pos_right h1 (by decide)) h2)
        have HV6 := Lib.hid hv6
        have HB6 := Lib.hid b6
        clear hr6 hv6 b6
        go_wp2_with fail
        with_reducible refine (digit_v (HXX.out.below HB6.out) HJ.out (by have := HT.out; omega)).mono ?_
        rintro e w7 ⟨di, hdi, rfl, rfl⟩
        rw [← HD.out] at hdi
        subst hdi
        have HLIT := Lib.hid (num_lit (w := w6) 100 (show d < 2 ^ 64 by have := HD1.out; omega))
        have HB7 : Hid (Below wr.heap.size wr (w6.alloc (.cells #[.int .u64 (d : Int)] 100))) := Lib.hid (HB6.out.alloc HB6.out.size _)
        have HV7 : Hid (NNum (K + 2) (w6.alloc (.cells #[.int .u64 (d : Int)] 100)) v6 (R0 * 2 ^ 32)) := Lib.hid (HV6.out.below ((Below.refl _ _).alloc (Nat.le_refl _) _))
        go_wp2_with fail
        with_reducible refine (add_v (K := K + 2) (by have := HK.out; omega) HV7.out (HLIT.out.mono (by omega))).mono ?_
        rintro e w8 hr8
        rw [← HRV.out] at hr8
        obtain ⟨v8, rfl, _, hv8, b8⟩ := hr8.out (K := K + 2) (by have h1 := HRY.out; have h2 := HBIG.out; omega)
        have HB8 : Hid (Below wr.heap.size wr w8) := Lib.hid (HB7.out.trans (b8.mono HB7.out.size))
        have HV8 := Lib.hid hv8
        clear hr8 hv8 b8
        have HX8 : Hid (NNum (K + 2) w8 vx X) := Lib.hid (HXX.out.below HB8.out)
        have HY8 : Hid (NNum (K + 2) w8 vy Y) := Lib.hid (HYY.out.below HB8.out)
        have HO8 := Lib.hid (own_below HOW.out HB8.out (Nat.le_refl _))
        have HBB8 : Hid (Below w.heap.size w w8) := Lib.hid (HBL.out.trans (HB8.out.mono HBL.out.size))
        clear HB8 HB7 HV7 HLIT HB6 HV6 HRR HR HXX HYY HOW HBL
        have HD1N := Lib.hid (digit_v (j := y4) (i := n) HV8.out HNI.out (by have := HNI.out; omega))
        have HD2N := Lib.hid (digit_v (j := y4 - 1) (i := n - 1) HV8.out (by have := HNI.out; have := HN1.out; omega) (by have := HNI.out; omega))
        have HD3N := Lib.hid (digit_v (j := y4 - 1) (i := n - 1) HY8.out (by have := HNI.out; have := HN1.out; omega) (by have := HNI.out; omega))
        rw [← HA1.out] at HD1N
        rw [← HA2.out] at HD2N
        rw [← HA3.out] at HD3N
        by_cases hmin : gi ≤ 4294967295
        all_goals
          go_wp2_with fail
          with_reducible refine HD1N.out.mono ?_
          rintro e w9 ⟨q1, hq1, rfl, rfl⟩
          obtain rfl : q1 = x1 := hq1.trans HX1'.out.symm
          clear hq1
          go_wp2_with fail
          with_reducible refine HD2N.out.mono ?_
          rintro e w9 ⟨q2, hq2, rfl, rfl⟩
          obtain rfl : q2 = x2 := hq2.trans HX2'.out.symm
          clear hq2
          go_wp2_with fail
          with_reducible refine HD3N.out.mono ?_
          rintro e w9 ⟨q3, hq3, rfl, rfl⟩
          obtain rfl : q3 = x3 := hq3.trans HX3'.out.symm
          clear hq3
          go_wp2_with fail
          try rw [Int.min_eq_left hmin]
          try rw [Int.min_eq_right (show (4294967295 : Int) ≤ gi by omega)]
        all_goals
          first
            | (obtain ⟨G', hG', hG1, hG2⟩ : ∃ G' : Nat, (G' : Int) = gi ∧ R / Y ≤ G' ∧ G' ≤ 4294967295 := ⟨G, HGI.out.symm, HGG.out, by have := HGI.out; omega⟩
               rw [← hG'])
            | (obtain ⟨G', hG', hG1, hG2⟩ : ∃ G' : Nat, (G' : Int) = 4294967295 ∧ R / Y ≤ G' ∧ G' ≤ 4294967295 := ⟨4294967295, rfl, GF4.out, Nat.le_refl _⟩
               rw [← hG'])
          have HG1 := Lib.hid hG1
          have HG2 := Lib.hid hG2
          have HLIT := Lib.hid (num_lit (w := w8) 100 (show G' < 2 ^ 64 by omega))
          have HB9 : Hid (Below w8.heap.size w8 (w8.alloc (.cells #[.int .u64 (G' : Int)] 100))) := Lib.hid ((Below.refl _ _).alloc (Nat.le_refl _) _)
          clear hG' hG1 hG2 hmin
          with_reducible refine (mul_v (K := K + 2) (by have := HK.out; omega) (HY8.out.below HB9.out) (HLIT.out.mono (by omega))).mono ?_
          rintro e w9 hr9
          obtain ⟨v9, rfl, _, hv9, b9⟩ := hr9.out (K := K + 2) (by
            have h1 := HG2.out
            have h2 := HBIG.out
            exact Nat.lt_of_lt_of_le (Nat.mul_lt_mul_of_pos_left (show G' < 2 ^ 32 by omega) HY0.out) h2)
          have hb89 : Below w8.heap.size w8 w9 := HB9.out.trans (b9.mono HB9.out.size)
          have HV9 := Lib.hid hv9
          have HX9 := Lib.hid (HX8.out.below hb89)
          have HY9 := Lib.hid (HY8.out.below hb89)
          have HR9 := Lib.hid (HV8.out.below hb89)
          have HO9 := Lib.hid (own_below HO8.out hb89 (Nat.le_refl _))
          have HB99 : Hid (Below w.heap.size w w9) := Lib.hid (HBB8.out.trans (hb89.mono HBB8.out.size))
          clear hr9 hv9 b9 hb89 HB9 HLIT HX8 HY8 HV8 HO8 HBB8
          go_wp2_with fail
          go_loopw [14, 15] (fun gs p wr => GuessRel (K + 2) X Y R N g o vx vy v8 w gs p wr) (fun gs _ _ => (intOf gs).toNat)
          case atStart => exact ⟨G', HG1.out, HG2.out, rfl, HV9.out, HX9.out, HY9.out, HR9.out, HO9.out, HB99.out⟩
          case round =>
            obtain ⟨gn, hgn1, hgn2, rfl, hp, hx, hy, hr, how, hbel⟩ := hrel
            have HP := Lib.hid hp
            have HX10 := Lib.hid hx
            have HY10 := Lib.hid hy
            have HR10 := Lib.hid hr
            have HO10 := Lib.hid how
            have HB10 := Lib.hid hbel
            have HGN1 := Lib.hid hgn1
            have HC := Lib.hid (cmp_v (by have := HK.out; omega) HP.out HR10.out)
            clear hp hx hy hr how hbel hgn1
            by_cases hgt : R < Y * gn
            · have hgn0 : 1 ≤ gn := by
                rcases gn with _ | gn
                · simp at hgt
                · omega
              have HNX : Hid (R / Y ≤ gn - 1) := Lib.hid (by
                have h1 : R / Y < gn := by rw [Nat.div_lt_iff_lt_mul HY0.out, Nat.mul_comm]; exact hgt
                omega)
              have HMU : Hid (Y * gn - Y = Y * (gn - 1)) := Lib.hid (by rw [Nat.mul_sub_one])
              have HLE : Hid (Y ≤ Y * gn) := Lib.hid (Nat.le_mul_of_pos_right _ hgn0)
              have HLT : Hid (Y * (gn - 1) < 2 ^ (64 * (K + 2))) := Lib.hid (by
                have h2 := HBIG.out
                exact Nat.lt_of_lt_of_le (Nat.mul_lt_mul_of_pos_left (show gn - 1 < 2 ^ 32 by omega) HY0.out) h2)
              have HCV : Hid (cmpV (Y * gn) R = 1) := Lib.hid (cmpV_gt hgt)
              have hc := HC.out
              unfold CmpPost at hc
              rw [HCV.out] at hc
              have HC2 := Lib.hid hc
              have HG92 : Hid (gn - 1 ≤ 4294967295) := Lib.hid (by omega)
              obtain ⟨gj, hgj⟩ : ∃ gj : Int, gj = (gn : Int) := ⟨_, rfl⟩
              have HGJ := Lib.hid hgj
              have HGN0 := Lib.hid hgn0
              rw [← hgj]
              have gj1 : 1 ≤ gj := by omega
              have gj2 : gj ≤ 4294967295 := by omega
              clear hc hgt hgn0 hgn2 hgj
              go_wp2_with fail
              with_reducible refine HC2.out.mono ?_
              rintro e w10 ⟨rfl, rfl⟩
              go_wp2_with fail
              with_reducible refine (sub_v (K := K + 2) (by have := HK.out; omega) HP.out HY10.out HLE.out).mono ?_
              rintro e w11 hr11
              rw [HMU.out] at hr11
              obtain ⟨v11, rfl, _, hv11, b11⟩ := hr11.out HLT.out
              have HV11 := Lib.hid hv11
              have HB11 := Lib.hid b11
              clear hr11 hv11 b11
              go_wp2_with fail
              go_roundw
              case rel => exact ⟨gn - 1, HNX.out, HG92.out, by rw [HGJ.out]; congr 1; have := HGN0.out; omega, HV11.out, HX10.out.below HB11.out, HY10.out.below HB11.out, HR10.out.below HB11.out, own_below HO10.out HB11.out (Nat.le_refl _), HB10.out.trans (HB11.out.mono HB10.out.size)⟩
              case measure => have := HGJ.out; have := HGN0.out; simp [intOf]; omega
            · have hge2 : Y * gn ≤ R := by omega
              have hgq : gn = R / Y := by
                have h1 : gn ≤ R / Y := by rw [Nat.le_div_iff_mul_le HY0.out, Nat.mul_comm]; exact hge2
                have := HGN1.out
                omega
              have HLE : Hid (Y * gn ≤ R) := Lib.hid hge2
              have HRM : Hid (R - Y * gn = R % Y) := Lib.hid (by
                have := Nat.div_add_mod R Y
                rw [hgq]; omega)
              have HGQ := Lib.hid hgq
              have hcv : cmpV (Y * gn) R = -1 ∨ cmpV (Y * gn) R = 0 := by
                rcases Nat.lt_or_ge (Y * gn) R with h | h
                · exact .inl (cmpV_lt h)
                · exact .inr (cmpV_eq (by omega))
              have hc1 := HC.out
              unfold CmpPost at hc1
              have HLT : Hid (R % Y < 2 ^ (64 * (K + 2))) := Lib.hid (by
                have h1 := Nat.mod_lt R HY0.out
                have h2 := HBIG.out
                omega)
              have hjt : Hid (j.toNat = t) := Lib.hid (by have := HJ.out; omega)
              have HGL2 : Hid (gn < 4294967296) := Lib.hid (by omega)
              have HOD : Hid (dv (o.set t gn) = 2 ^ (32 * t) * (X / 2 ^ (32 * t) / Y)) := Lib.hid (quot_set (by rw [HOL.out]; exact HT.out) (HOZ.out t (by omega)) HDV.out (by rw [HDD.out.2, hgq]))
              have HOZ2 : Hid (∀ i, i < t → (o.set t gn).getD i 0 = 0) := Lib.hid (fun i hi => by
                have h := HOZ.out i (by omega)
                simp only [List.getD_eq_getElem?_getD] at h ⊢
                rw [List.getElem?_set_ne (by omega)]; exact h)
              clear hge2 hgq hgt hgn2
              rcases hcv with hcv | hcv
              all_goals
                rw [hcv] at hc1
                have HC2 := Lib.hid hc1
                clear hc1 hcv
                go_wp2_with fail
                with_reducible refine HC2.out.mono ?_
                rintro e w10 ⟨rfl, rfl⟩
                go_wp2_with fail
                with_reducible refine (sub_v (K := K + 2) (by have := HK.out; omega) HR10.out HP.out HLE.out).mono ?_
                rintro e w11 hr11
                rw [HRM.out] at hr11
                obtain ⟨v11, rfl, hw11, hv11, b11⟩ := hr11.out HLT.out
                have HB11X : Hid (v11.ownBlock ≠ some g) := Lib.hid (hw11.off2 (World.ownsRow.lt HO10.out g rfl).2)
                clear hw11
                have HV11 := Lib.hid hv11
                have HB11 := Lib.hid b11
                have ho11 := own_below HO10.out b11 (Nat.le_refl _)
                have HO11 := Lib.hid ho11
                have hc11 : w11.cell? ⟨g, j.toNat, none⟩ = some (.int .u64 ((o.getD t 0 : Nat) : Int)) := by
                  rw [hjt.out, World.ownsRow.cellAt ho11 t (by have := HT.out; omega), U_get (by rw [HOL.out]; exact HT.out)]
                have hf11 : w11.frozen? ⟨g, j.toNat, none⟩ = false := World.ownsRow.frozenAt ho11 _
                generalize ((o.getD t 0 : Nat) : Int) = old at hc11
                clear hr11 hv11 b11 ho11
                go_wp2_with fail
                rw [hjt.out]
                have HS : Hid ((w11.setCell ⟨g, t, none⟩ (.int .u64 (gn : Int))).ownsRow w.heap.size 100 1 (.slice (some ⟨g, 0, none⟩) N N) N (U (o.set t gn))) := Lib.hid (by
                  rw [← U_set]; exact (World.ownsRow.stored HO11.out t _).1)
                have HX11 := Lib.hid ((HX10.out.below HB11.out).setCell (p := ⟨g, t, none⟩) HBX2.out (.int .u64 (gn : Int)))
                have HY11 := Lib.hid ((HY10.out.below HB11.out).setCell (p := ⟨g, t, none⟩) HBY2.out (.int .u64 (gn : Int)))
                have HR11 := Lib.hid (HV11.out.setCell (p := ⟨g, t, none⟩) HB11X.out (.int .u64 (gn : Int)))
                have HBL11 : Hid (Below w.heap.size w (w11.setCell ⟨g, t, none⟩ (.int .u64 (gn : Int)))) := Lib.hid ((HB10.out.trans (HB11.out.mono HB10.out.size)).setCell (p := ⟨g, t, none⟩) HG.out _)
                go_roundw
                case rel => exact ⟨t, o.set t gn, Nat.le_of_lt HT.out, by rw [HJ.out], by rw [HDD.out.1]; exact HR11.out, HB11X.out, by rw [List.length_set]; exact HOL.out, small_set HOS.out HGL2.out, HOZ2.out, HOD.out, HX11.out, HY11.out, HS.out, HBL11.out⟩
                case measure => have := HJ.out; simp [intOf]; omega
end Go.Proofs.YtofpcdjoljjnoaaGreatDoor

namespace Go.Proofs.YtofpcdjoljjnoaaGreatDoor
set_option maxRecDepth 100000
open Go.RowKit

/-- A slice tells one number. -/
theorem NNum.uniq {K n m : Nat} {w : World} {v : Value} (h : NNum K w v n) (k : NNum K w v m) : n = m := by
  obtain ⟨a, cap, L, rfl, _, _, _, h5, rfl, _⟩ := h
  obtain ⟨a', cap', L', he, _, _, _, k5, rfl, _⟩ := k
  injection he with e1 e2 e3
  subst e1
  congr 1
  apply List.ext_getElem e2
  intro i h1 h2
  obtain ⟨b, off, ha, hc⟩ := h5 i h1
  obtain ⟨b', off', ha', hc'⟩ := k5 i h2
  rw [ha] at ha'
  injection ha' with ha'
  cases ha'
  rw [hc] at hc'
  injection hc' with hc'
  injection hc' with _ hc'
  rw [List.getD_eq_getElem?_getD, List.getD_eq_getElem?_getD, List.getElem?_eq_getElem h1, List.getElem?_eq_getElem h2] at hc'
  have h : (L[i] : Int) = (L'[i] : Int) := by simpa using hc'
  omega
open Classical in
/-- The number that a slice tells (for a loop's measure). -/
noncomputable def toldBy (K : Nat) (w : World) (v : Value) : Nat := if h : ∃ n, NNum K w v n then h.choose else 0
theorem toldBy_eq {K n : Nat} {w : World} {v : Value} (h : NNum K w v n) : toldBy K w v = n := by
  unfold toldBy
  rw [dif_pos ⟨n, h⟩]
  exact (Exists.choose_spec (p := fun n => NNum K w v n) ⟨n, h⟩).uniq h

def GcdRel (K G : Nat) (w : World) (a b : Value) (wr : World) : Prop :=
  ∃ (x y : Nat) (A : Option Addr) (cap : Nat), Nat.gcd x y = G ∧ NNum K wr a x ∧ NRow w.heap.size wr a (nrow x) ∧ b = .slice A (nrow y).length cap ∧ NNum K wr b y ∧ NRow w.heap.size wr b (nrow y) ∧ Below w.heap.size w wr

set_option maxHeartbeats 4000000 in
theorem ngcd_v (K : Nat) (va vb : Value) (na nb : Nat) (w : World) (hK : K ≤ 524288) (ha : NNum K w va na) (hb : NNum K w vb nb) :
    Calls Tryz.prog 88 #[va, vb] w (NRes w (Nat.gcd na nb)) := by
  have HK := Lib.hid hK
  have HA := Lib.hid ha
  have HB := Lib.hid hb
  clear hK ha hb
  go_enter Tryz.func88, Tryz.ntmps88
  go_wp2_with fail
  with_reducible refine (norm_v (by have := HK.out; omega) HA.out).mono ?_
  rintro e w1 hr1
  obtain ⟨v1, rfl, hw1, hv1, b1⟩ := hr1.out HA.out.lt
  have HW1 := Lib.hid hw1
  have HV1 := Lib.hid hv1
  have HB1 := Lib.hid b1
  clear hr1 hw1 hv1 b1
  go_wp2_with fail
  with_reducible refine (norm_v (by have := HK.out; omega) (HB.out.below HB1.out)).mono ?_
  rintro e w2 hr2
  obtain ⟨v2, rfl, hw2, hv2, b2⟩ := hr2.out HB.out.lt
  obtain ⟨A, cap, rfl, _, _, _⟩ := hw2.at_
  have HW2 := Lib.hid (hw2.more HB1.out.size)
  have HV2 := Lib.hid hv2
  have HW1' := Lib.hid (HW1.out.below b2 (Nat.le_refl _))
  have HV1' := Lib.hid (HV1.out.below b2)
  have HB2 : Hid (Below w.heap.size w w2) := Lib.hid (HB1.out.trans (b2.mono HB1.out.size))
  clear hr2 hw2 hv2 b2 HW1 HV1 HB1
  go_wp2_with fail
  go_loopw [0, 1] (fun a b wr => GcdRel K (Nat.gcd na nb) w a b wr) (fun _ b wr => toldBy K wr b)
  case atStart => exact ⟨na, nb, A, cap, rfl, HV1'.out, HW1'.out, rfl, HV2.out, HW2.out, HB2.out⟩
  case round =>
    obtain ⟨x, y, A2, cap2, hg, hx, hwx, rfl, hy, hwy, hbel⟩ := hrel
    have HG := Lib.hid hg
    have HX := Lib.hid hx
    have HWX := Lib.hid hwx
    have HY := Lib.hid hy
    have HWY := Lib.hid hwy
    have HBL := Lib.hid hbel
    clear hg hx hwx hy hwy hbel
    by_cases h0 : y = 0
    · have hz : ((nrow y).length : Int) ≤ 0 := by rw [h0, nrow_zero]; simp
      have HE : Hid (x = Nat.gcd na nb) := Lib.hid (by rw [← HG.out, h0, Nat.gcd_zero_right])
      clear h0
      go_wp2_with fail
      go_ret
      exact ⟨_, rfl, by rw [← HE.out]; exact HWX.out, HBL.out⟩
    · have hp : (0 : Int) < ((nrow y).length : Int) := by
        have : nrow y ≠ [] := fun e => h0 (nrow_nil.1 e)
        have := List.length_pos_iff.2 this
        omega
      have HN := Lib.hid h0
      have HD := Lib.hid (ndiv_v K _ _ x y wr HK.out HX.out HY.out h0)
      clear h0
      go_wp2_with fail
      with_reducible refine HD.out.mono ?_
      rintro e w3 ⟨vq, vr, rfl, _, hwr, b3⟩
      obtain ⟨A3, cap3, rfl, _, _, _⟩ := hwr.at_
      have hlt : x % y < y := Nat.mod_lt _ (Nat.pos_of_ne_zero HN.out)
      have HLT := Lib.hid hlt
      have HR3 : Hid (NNum K w3 (.slice A3 (nrow (x % y)).length cap3) (x % y)) := Lib.hid (hwr.numN (Nat.lt_trans hlt HY.out.lt))
      have HWR := Lib.hid (hwr.more HBL.out.size)
      have HB3 := Lib.hid b3
      have HGG : Hid (Nat.gcd y (x % y) = Nat.gcd na nb) := Lib.hid (by rw [← HG.out, Nat.gcd_comm x y, Nat.gcd_rec y x, Nat.gcd_comm])
      clear hwr b3 hlt
      go_wp2_with fail
      go_roundw
      case rel => exact ⟨y, x % y, A3, cap3, HGG.out, HY.out.below HB3.out, HWY.out.below HB3.out (Nat.le_refl _), rfl, HR3.out, HWR.out, HBL.out.trans (HB3.out.mono HBL.out.size)⟩
      case measure =>
        show toldBy K w3 (.slice A3 (nrow (x % y)).length cap3) < toldBy K wr (.slice A2 (nrow y).length cap2)
        rw [toldBy_eq HR3.out, toldBy_eq HY.out]; exact HLT.out
end Go.Proofs.YtofpcdjoljjnoaaGreatDoor

namespace Go.Proofs.YtofpcdjoljjnoaaGreatDoor
set_option maxRecDepth 100000
open Go.RowKit

theorem lv_set {l : List Nat} {j : Nat} (h : j < l.length) (v : Nat) : lv (l.set j v) + 2 ^ (64 * j) * l.getD j 0 = lv l + 2 ^ (64 * j) * v := by
  induction l generalizing j with
  | nil => simp at h
  | cons a l ih =>
    rcases j with _ | j
    · simp [lv]; omega
    · have h1 := ih (j := j) (by simpa using h)
      simp only [List.set_cons_succ, lv, List.getD_cons_succ]
      rw [Nat.mul_add 64, Nat.mul_one, Nat.add_comm (64 * j), Nat.pow_add, Nat.mul_assoc, Nat.mul_assoc]
      generalize lv (l.set j v) = p at *
      generalize 2 ^ (64 * j) * l.getD j 0 = q at *
      generalize 2 ^ (64 * j) * v = s at *
      omega
end Go.Proofs.YtofpcdjoljjnoaaGreatDoor

namespace Go.Proofs.YtofpcdjoljjnoaaGreatDoor
set_option maxRecDepth 100000
open Go.RowKit

end Go.Proofs.YtofpcdjoljjnoaaGreatDoor

namespace Go.Proofs.YtofpcdjoljjnoaaGreatDoor
set_option maxRecDepth 100000
open Go.RowKit

end Go.Proofs.YtofpcdjoljjnoaaGreatDoor

namespace Go.Proofs.YtofpcdjoljjnoaaGreatDoor
set_option maxRecDepth 100000
open Go.RowKit

/-- Decimal digits; none for 0. -/
def dec (v : Nat) : List UInt8 := if _h : v = 0 then [] else dec (v / 10) ++ [byt (48 + v % 10)]
termination_by v
decreasing_by omega
theorem dec_zero : dec 0 = [] := by rw [dec]; simp
theorem dec_step {v : Nat} (h : v ≠ 0) : dec v = dec (v / 10) ++ [byt (48 + v % 10)] := by rw [dec, dif_neg h]
theorem dec_length {v k : Nat} (h : v < 10 ^ k) : (dec v).length ≤ k := by
  induction k generalizing v with
  | zero =>
    have : v = 0 := by simpa using h
    subst this; rw [dec_zero]; simp
  | succ k ih =>
    by_cases h0 : v = 0
    · subst h0; rw [dec_zero]; simp
    · rw [dec_step h0, List.length_append]
      have := ih (v := v / 10) (by rw [Nat.div_lt_iff_lt_mul (by omega)]; rw [Nat.pow_succ] at h; exact h)
      simp; omega
/-- A number's text. -/
def decT (v : Nat) : List UInt8 := if v = 0 then [48] else dec v
theorem dec_ne {v : Nat} (h : v ≠ 0) : dec v ≠ [] := by rw [dec_step h]; simp

def StrPost (l : List UInt8) (w : World) (e : Ending) (w' : World) : Prop := e = .returned (.string (mk l)) ∧ Below w.heap.size w w'
end Go.Proofs.YtofpcdjoljjnoaaGreatDoor

namespace Go.Proofs.YtofpcdjoljjnoaaGreatDoor
set_option maxRecDepth 100000
open Go.RowKit

end Go.Proofs.YtofpcdjoljjnoaaGreatDoor

namespace Go.Proofs.YtofpcdjoljjnoaaGreatDoor
open Go.RowKit

end Go.Proofs.YtofpcdjoljjnoaaGreatDoor

namespace Go.Proofs.YtofpcdjoljjnoaaGreatDoor
open Go.RowKit

theorem NRow.form {B : Nat} {w : World} {v : Value} {L : List Nat} (h : NRow B w v L) (hl : 0 < L.length) : ∃ g cap, v = .slice (some ⟨g, 0, none⟩) L.length cap := by
  rcases h.2 with ⟨_, h0⟩ | ⟨g, cap, _, hv, _⟩
  · omega
  · exact ⟨g, cap, hv⟩
/-- A row of the call's own, not nil. -/
def GRes (B n : Nat) (w : World) (e : Ending) (w' : World) : Prop :=
  ∃ g cap, e = .returned (.slice (some ⟨g, 0, none⟩) (nrow n).length cap) ∧ NRow B w' (.slice (some ⟨g, 0, none⟩) (nrow n).length cap) (nrow n) ∧ Below B w w'

end Go.Proofs.YtofpcdjoljjnoaaGreatDoor

namespace Go.Proofs.YtofpcdjoljjnoaaGreatDoor
open Go.RowKit

theorem GRes.cells {B n : Nat} {w w' : World} {e : Ending} (h : GRes B n w e w') : ∃ v, e = .returned v ∧ NRow B w' v (nrow n) ∧ Below B w w' := by
  obtain ⟨g, cap, h1, h2, h3⟩ := h
  exact ⟨_, h1, h2, h3⟩

end Go.Proofs.YtofpcdjoljjnoaaGreatDoor

namespace Go.Proofs.YtofpcdjoljjnoaaGreatDoor
open Go.RowKit

def ByLimbPost (g off b : Nat) (A : List Nat) (w : World) (e : Ending) (w' : World) : Prop :=
  ∃ (O : List Nat) (r : Nat), e = .returned (.int .u64 (r : Int)) ∧ O.length = A.length ∧ Fits O ∧ lv O = lv A / b ∧ r = lv A % b ∧ Seg w' g off O ∧ Wrote g off (off + A.length) w w'

/-- The highest limbs divided. -/
def ByLimbAt (g off b : Nat) (A : List Nat) (w : World) (l i : Value) (W : World) : Prop :=
  ∃ (j r : Nat) (O : List Nat), j ≤ A.length ∧ i = .int .i64 ((j : Int) - 1) ∧ l = .int .u64 (r : Int) ∧ r < b ∧ O.length = A.length - j ∧ Fits O ∧ lv (A.drop j) = lv O * b + r ∧ Seg W g off (A.take j ++ O) ∧ Wrote g off (off + A.length) w W

theorem drop_pred {A : List Nat} {j : Nat} (hj : j < A.length) : lv (A.drop j) = A.getD j 0 + 18446744073709551616 * lv (A.drop (j + 1)) := by
  rw [List.drop_eq_getElem_cons hj]
  simp [lv, hj]
theorem set_pred {A O : List Nat} {j x : Nat} (hj : j < A.length) : (A.take (j + 1) ++ O).set j x = A.take j ++ (x :: O) := by
  have hl : (A.take j).length = j := by rw [List.length_take]; omega
  rw [List.take_succ_eq_append_getElem hj, List.append_assoc, List.set_append_right _ _ (by omega), hl, Nat.sub_self]
  rfl

set_option maxRecDepth 100000 in
set_option maxHeartbeats 4000000 in
theorem divideByLimb_any (g off ca b : Nat) (A : List Nat) (w : World) (hA : A.length ≤ 1099511627776) (fA : Fits A) (hb0 : 0 < b) (hb : b < 18446744073709551616) (hs : Seg w g off A) :
    Calls Tryz.prog 84 #[.slice (some ⟨g, off, none⟩) A.length ca, .int .u64 (b : Int)] w (ByLimbPost g off b A w) := by
  have FA := Lib.hid fA
  have HS := Lib.hid hs
  clear fA hs
  go_enter Tryz.func84, Tryz.ntmps84
  go_wp2_with fail
  go_loopw [5, 6] (fun l i W => ByLimbAt g off b A w l i W) (fun _ i _ => (intOf i + 1).toNat)
  case atStart => exact ⟨A.length, 0, [], Nat.le_refl _, rfl, rfl, hb0, by simp, fun x hx => (by cases hx), by simp [lv], by rw [List.take_length, List.append_nil]; exact HS.out, Wrote.refl _ _ _ _⟩
  case round =>
    obtain ⟨j, r, O, hj, rfl, rfl, hr, hO, fO, hv, hsg, hw⟩ := hrel
    have HO := Lib.hid hO
    have HFO := Lib.hid fO
    have HV := Lib.hid hv
    have HSG := Lib.hid hsg
    have HW := Lib.hid hw
    clear hO fO hv hsg hw
    rcases j with _ | j
    · have HR : Hid (lv O = lv A / b ∧ r = lv A % b) := Lib.hid (by
        have h := HV.out
        rw [List.drop_zero] at h
        rw [h, Nat.mul_comm, Nat.mul_add_div hb0, Nat.div_eq_of_lt hr, Nat.add_zero, Nat.mul_add_mod, Nat.mod_eq_of_lt hr]
        exact ⟨rfl, rfl⟩)
      go_wp2_with fail
      go_ret
      exact ⟨O, r, rfl, by have := HO.out; omega, HFO.out, HR.out.1, HR.out.2, by have := HSG.out; rwa [List.take_zero, List.nil_append] at this, HW.out⟩
    · have hjI : (((j + 1 : Nat) : Int) - 1) = (j : Int) := by omega
      rw [hjI]
      have hj0 : (0 : Int) ≤ (j : Int) := by omega
      have hjA : (j : Int) < (A.length : Int) := by omega
      obtain ⟨x, hx⟩ : ∃ x, x = A.getD j 0 := ⟨_, rfl⟩
      have hlen : (A.take (j + 1) ++ O).length = A.length := by rw [List.length_append, List.length_take, HO.out]; omega
      have hcell := HSG.out.cell (i := j) (by omega)
      have hxe : (A.take (j + 1) ++ O).getD j 0 = x := by
        rw [hx, List.getD_eq_getElem?_getD, List.getD_eq_getElem?_getD, List.getElem?_append_left (by rw [List.length_take]; omega)]
        simp
      rw [hxe] at hcell
      have hfr := HSG.out.frozen (off + j)
      have hxb : x < 18446744073709551616 := by rw [hx]; exact getD_fits FA.out j
      have HD := Lib.hid (div64_any r x b hxb hb hr wr)
      have hq1 : (r * 18446744073709551616 + x) / b < 18446744073709551616 := by
        rw [Nat.div_lt_iff_lt_mul hb0]
        have : (r + 1) * 18446744073709551616 ≤ b * 18446744073709551616 := Nat.mul_le_mul_right _ hr
        rw [Nat.mul_comm 18446744073709551616]
        omega
      have hq2 := Nat.div_add_mod' (r * 18446744073709551616 + x) b
      have hq3 := Nat.mod_lt (r * 18446744073709551616 + x) hb0
      have HJ := Lib.hid hjI
      have HXX := Lib.hid hx
      have HQ1 := Lib.hid hq1
      have HQ2 := Lib.hid hq2
      have HQ3 := Lib.hid hq3
      clear hjI hlen hxe hx hq1 hq2 hq3
      go_wp2_with fail
      refine HD.out.mono ?_
      rintro e w1 ⟨q, r', rfl, hq, hr', k, rfl⟩
      have hv2 : lv (A.drop j) = lv (q :: O) * b + r' := by
        rw [drop_pred (by omega), ← HXX.out, HV.out]
        have h := HQ2.out
        rw [← hq, ← hr'] at h
        show _ = (q + 2 ^ 64 * lv O) * b + r'
        rw [Nat.add_mul, Nat.mul_add, Nat.mul_assoc]
        omega
      have HV2 := Lib.hid hv2
      have s1 := (HSG.out.drewN k).set (k := j) (by rw [List.length_append, List.length_take, HO.out]; omega) q
      rw [set_pred (by omega)] at s1
      have HS1 := Lib.hid s1
      have HW1 : Hid (Wrote g off (off + A.length) w ((wr.drewN k).setCell ⟨g, off + j, none⟩ (.int .u64 (q : Int)))) := Lib.hid ((HW.out.drewN k).setIn (by omega) (by omega) _)
      have HF1 : Hid (Fits (q :: O)) := Lib.hid (fun y hy => by
        rcases List.mem_cons.1 hy with rfl | hy
        · rw [hq]; exact HQ1.out
        · exact HFO.out y hy)
      have HR1 : Hid (r' < b) := Lib.hid (by rw [hr']; exact HQ3.out)
      clear hv2 s1 hq hr'
      go_wp2_with fail
      go_roundw
      case rel => exact ⟨j, r', q :: O, by omega, rfl, rfl, HR1.out, by rw [List.length_cons, HO.out]; omega, HF1.out, HV2.out, HS1.out, HW1.out⟩
      case measure => simp [intOf]
end Go.Proofs.YtofpcdjoljjnoaaGreatDoor

namespace Go.Proofs.YtofpcdjoljjnoaaGreatDoor
open Go.RowKit

/-- Bytes in block g, that may be written. -/
def BS (w : World) (g : Nat) (l : List UInt8) : Prop :=
  ∃ cur : Array Value, w.heap[g]? = some (.cells cur 5 (0, 0)) ∧ ∀ i, i < l.length → cur[i]? = some (.int .u8 ((l.getD i 0).toNat : Int))
section
variable {w w' : World} {g : Nat} {l : List UInt8}
theorem BS.block (h : BS w g l) : g < w.heap.size := by
  obtain ⟨cur, hg, _⟩ := h
  exact (Array.getElem?_eq_some_iff.1 hg).1
theorem BS.cell (h : BS w g l) {i : Nat} (hi : i < l.length) : w.cell? ⟨g, i, none⟩ = some (.int .u8 ((l.getD i 0).toNat : Int)) := by
  obtain ⟨cur, hg, hc⟩ := h
  simp [World.cell?, hg, hc i hi]
theorem BS.frozen (h : BS w g l) (o : Nat) : w.frozen? ⟨g, o, none⟩ = false := by
  obtain ⟨cur, hg, hc⟩ := h
  simp [World.frozen?, hg]
theorem BS.of_block (h : BS w g l) (e : w'.heap[g]? = w.heap[g]?) : BS w' g l := by
  obtain ⟨cur, hg, hc⟩ := h
  exact ⟨cur, e.trans hg, hc⟩
theorem BS.set (h : BS w g l) {k : Nat} (hk : k < l.length) (x : UInt8) : BS (w.setCell ⟨g, k, none⟩ (.int .u8 (x.toNat : Int))) g (l.set k x) := by
  obtain ⟨cur, hg, hc⟩ := h
  refine ⟨_, heap_set hg _, fun i hi => ?_⟩
  rw [List.length_set] at hi
  rw [Array.getElem?_setIfInBounds]
  by_cases e : k = i
  · subst e
    have hlt : k < cur.size := (Array.getElem?_eq_some_iff.1 (hc k hk)).1
    rw [if_pos rfl, if_pos hlt]
    simp [hk]
  · rw [if_neg (by omega), hc i hi]
    simp [e]
theorem BS.conv (h : BS w g l) (k c : Nat) (hk : k ≤ l.length) : (convert 128 9 (.slice (some ⟨g, k, none⟩) (l.length - k) c)).run Tryz.prog w = .ok (.string (mk (l.drop k))) w := by
  have e0 : l.length - k = (l.drop k).length := by rw [List.length_drop]
  rw [e0]
  refine run_convert_bytes_back w 128 9 5 ⟨g, k, none⟩ c (l.drop k) Tryz.underlying128 Tryz.underlying5 Tryz.underlying9 ?_
  intro j hj
  rw [List.length_drop] at hj
  have e : (⟨g, k, none⟩ : Addr).add j = ⟨g, k + j, none⟩ := by unfold Addr.add; split <;> simp_all
  rw [e, h.cell (i := k + j) (by omega)]
  simp [List.getD_eq_getElem?_getD, List.getElem?_eq_getElem (show k + j < l.length by omega)]
end

/-- The last k decimal digits. -/
def pad : Nat → Nat → List UInt8
  | 0, _ => []
  | k + 1, n => pad k (n / 10) ++ [byt (48 + n % 10)]
theorem pad_cons (k n : Nat) : pad (k + 1) n = byt (48 + n / 10 ^ k % 10) :: pad k n := by
  induction k generalizing n with
  | zero => simp [pad]
  | succ k ih =>
    rw [pad, ih, List.cons_append, Nat.div_div_eq_div_mul, Nat.pow_succ, Nat.mul_comm (10 ^ k) 10]
    rfl
theorem pad_add (a b n : Nat) : pad (a + b) n = pad a (n / 10 ^ b) ++ pad b n := by
  induction b generalizing n with
  | zero => simp [pad]
  | succ b ih =>
    show pad (a + b) (n / 10) ++ [byt (48 + n % 10)] = _
    rw [ih, List.append_assoc, Nat.div_div_eq_div_mul, Nat.pow_succ, Nat.mul_comm (10 ^ b) 10]
    rfl
theorem pad_mod (k n : Nat) : pad k (n % 10 ^ k) = pad k n := by
  induction k generalizing n with
  | zero => rfl
  | succ k ih =>
    have h1 : n % 10 ^ (k + 1) / 10 = n / 10 % 10 ^ k := by rw [Nat.pow_succ, Nat.mul_comm, Nat.mod_mul_right_div_self]
    have h2 : n % 10 ^ (k + 1) % 10 = n % 10 := Nat.mod_mod_of_dvd _ (by rw [Nat.pow_succ]; exact Nat.dvd_mul_left _ _)
    show pad k (n % 10 ^ (k + 1) / 10) ++ [byt (48 + n % 10 ^ (k + 1) % 10)] = _
    rw [h1, h2, ih]; rfl
theorem pad_zero (k : Nat) : pad k 0 = List.replicate k 48 := by
  induction k with
  | zero => rfl
  | succ k ih => rw [pad, List.replicate_succ', Nat.zero_div, ih]; rfl
theorem pad_dec (k n : Nat) (h : n < 10 ^ k) : pad k n = List.replicate (k - (dec n).length) 48 ++ dec n := by
  induction k generalizing n with
  | zero =>
    obtain rfl : n = 0 := by simpa using h
    simp [pad, dec_zero]
  | succ k ih =>
    by_cases h0 : n = 0
    · subst h0; rw [pad_zero, dec_zero]; simp
    · rw [pad, dec_step h0, ih (n / 10) (by rw [Nat.pow_succ] at h; omega), List.length_append]
      rw [← List.append_assoc]
      simp
theorem dec_head {n : Nat} (h : n ≠ 0) : ∃ c t, dec n = c :: t ∧ c.toNat ≠ 48 := by
  induction n using Nat.strongRecOn with
  | _ n ih =>
    rw [dec_step h]
    by_cases h1 : n / 10 = 0
    · rw [h1, dec_zero]
      refine ⟨_, [], rfl, ?_⟩
      rw [byt_toNat]
      omega
    · obtain ⟨c, t, e, hc⟩ := ih (n / 10) (by omega) h1
      exact ⟨c, t ++ _, by rw [e]; rfl, hc⟩
theorem set_zeros (m : Nat) (P : List UInt8) (y : UInt8) : (List.replicate (m + 1) 0 ++ P).set m y = List.replicate m 0 ++ y :: P := by
  rw [List.replicate_succ', List.append_assoc, List.set_append_right _ _ (by simp)]
  simp

def FillAt (g q n : Nat) (P : List UInt8) (w : World) (x i : Value) (W : World) : Prop :=
  ∃ k : Nat, k ≤ 19 ∧ x = .int .u64 ((n / 10 ^ k : Nat) : Int) ∧ i = .int .i64 (k : Int) ∧ BS W g (List.replicate (q + (19 - k)) 0 ++ (pad k n ++ P)) ∧ w.grownBy W (some g)
def FillPost (g q n : Nat) (P : List UInt8) (w : World) (e : Ending) (w' : World) : Prop :=
  e = .returned (.tuple #[]) ∧ BS w' g (List.replicate q 0 ++ (pad 19 n ++ P)) ∧ w.grownBy w' (some g)

theorem grown_set {w W : World} {g : Nat} (h : w.grownBy W (some g)) (o : Nat) (v : Value) : w.grownBy (W.setCell ⟨g, o, none⟩ v) (some g) :=
  ⟨h.os, h.tape, h.output, by rw [size_set]; exact h.size, fun k hk hne => (Below.heap_setCell _ _ _ _ (fun e => hne (by rw [e]))).trans (h.block k hk hne)⟩

set_option maxRecDepth 100000 in
set_option maxHeartbeats 4000000 in
theorem fill_any (g q cap n : Nat) (P : List UInt8) (w : World) (hn : n < 18446744073709551616) (hs : BS w g (List.replicate (q + 19) 0 ++ P)) :
    Calls Tryz.prog 85 #[.slice (some ⟨g, q, none⟩) 19 cap, .int .u64 (n : Int)] w (FillPost g q n P w) := by
  have HS := Lib.hid hs
  have HN := Lib.hid hn
  clear hs hn
  go_enter Tryz.func85, Tryz.ntmps85
  go_wp2_with fail
  go_loopw [1, 7] (fun x i W => FillAt g q n P w x i W) (fun _ i _ => 19 - (intOf i).toNat)
  case atStart => exact ⟨0, by omega, by rw [Nat.pow_zero, Nat.div_one], rfl, HS.out, World.grownBy.refl _ _⟩
  case round =>
    obtain ⟨k, hk, rfl, rfl, hbs, hgr⟩ := hrel
    have HBS := Lib.hid hbs
    have HGR := Lib.hid hgr
    clear hbs hgr
    by_cases hlt : k < 19
    · obtain ⟨j, hj⟩ : ∃ j, j = 18 - k := ⟨_, rfl⟩
      have e1 : (18 : Int) - (k : Int) = (j : Int) := by omega
      have hkI : (k : Int) < 19 := by omega
      have hk0 : (0 : Int) ≤ (k : Int) := by omega
      have j0 : (0 : Int) ≤ (j : Int) := by omega
      have j1 : (j : Int) < 19 := by omega
      obtain ⟨y, hy⟩ : ∃ y, y = n / 10 ^ k := ⟨_, rfl⟩
      have hyb : y < 18446744073709551616 := by rw [hy]; exact Nat.lt_of_le_of_lt (Nat.div_le_self _ _) HN.out
      have HY : Hid (y / 10 = n / 10 ^ (k + 1)) := Lib.hid (by rw [hy, Nat.div_div_eq_div_mul, Nat.pow_succ])
      have hbs := HBS.out
      rw [show q + (19 - k) = (q + j) + 1 by omega] at hbs
      have hcell := hbs.cell (i := q + j) (by simp; omega)
      have hfr := hbs.frozen (q + j)
      obtain ⟨b, hb⟩ : ∃ b, b = byt (48 + y % 10) := ⟨_, rfl⟩
      have hbn : (b.toNat : Int) = 48 + (y : Int) % 10 := by rw [hb, byt_toNat]; omega
      have hset := hbs.set (k := q + j) (by simp; omega) b
      rw [set_zeros] at hset
      have HNX : Hid (BS (wr.setCell ⟨g, q + j, none⟩ (.int .u8 (b.toNat : Int))) g (List.replicate (q + (19 - (k + 1))) 0 ++ (pad (k + 1) n ++ P))) := Lib.hid (by
        rw [pad_cons, ← hy, ← hb, show q + (19 - (k + 1)) = q + j by omega]
        exact hset)
      have HG2 := Lib.hid (grown_set HGR.out (q + j) (.int .u8 (b.toNat : Int)))
      have HK : Hid (k + 1 ≤ 19) := Lib.hid (by omega)
      rw [← hy]
      have hyI : (y : Int) < 18446744073709551616 := by omega
      have hy0 : (0 : Int) ≤ (y : Int) := by omega
      obtain ⟨d, hd⟩ : ∃ d : Int, d = (y : Int) % 10 := ⟨_, rfl⟩
      have d0 : 0 ≤ d := by omega
      have d9 : d ≤ 9 := by omega
      rw [← hd] at hbn
      generalize (List.replicate (q + j + 1) (0 : UInt8) ++ (pad k n ++ P)).getD (q + j) 0 = z at hcell
      clear hset hbs hb hy hyb hj hlt
      go_wp2_with fail
      rw [hd] at hbn
      rw [hbn] at HNX HG2
      refine ⟨⟨k + 1, HK.out, ?_, by go_num, HNX.out, HG2.out⟩, ?_⟩
      · rw [← HY.out]; go_num
      · have := HK.out; simp [intOf]; omega
    · obtain rfl : k = 19 := by omega
      clear hlt hk
      go_wp2_with fail
      go_end0
      exact ⟨rfl, HBS.out, HGR.out⟩
end Go.Proofs.YtofpcdjoljjnoaaGreatDoor
