/-
  The texts NatDiv64, NatQFace2, NatDivM, NatDiv, NatGcd, NatSet, NatSetW, NatRoot, NatTextM, NatParseM, NatQParse, NatQGroup, NatQFrom, NatByLimb, one behind the other.
-/
import Derived.Test.YtcbebikcfcidmaaDoorChaZ01
import Derived.Test.YtcbebikcfcidmaaDoorChaZ03
import Derived.Test.YtcbebikcfcidmaaDoorChaZ02
import Derived.Laws.ShiftsVar
import Derived.Laws.BitsAllLaws
import Derived.Deep.QuietTactic
import Derived.BigQuiet

namespace Go.Proofs.YtcbebikcfcidmaaDoor
open Go.RowKit

theorem bitLen_blen {x : Nat} (h : x < 18446744073709551616) : Lib.bitLen x = blen x := by
  by_cases h0 : x = 0
  · subst h0; rfl
  · have h1 := blen_pos h0
    have h2 := blen_ge h0
    have h3 := lt_blen x
    have h4 := Lib.bitLen_shift (blen x - 1) x h2 h
    have h5 : x / 2 ^ (blen x - 1) = 1 := by
      have e : 2 ^ blen x = 2 ^ (blen x - 1) * 2 := by rw [← Nat.pow_succ]; congr 1; omega
      refine Nat.le_antisymm ?_ ?_
      · have : x / 2 ^ (blen x - 1) < 2 := by rw [Nat.div_lt_iff_lt_mul (Nat.two_pow_pos _), Nat.mul_comm, ← e]; exact h3
        omega
      · rw [Nat.le_div_iff_mul_le (Nat.two_pow_pos _)]; omega
    rw [h5] at h4
    have h6 : Lib.bitLen 1 = 1 := by decide
    omega
theorem wrap_nat (n : Nat) : IntKind.u64.wrap (n : Int) = ((n % 18446744073709551616 : Nat) : Int) := by rw [IntKind.wrap_u64]; simp
theorem wrap_sub (a b : Nat) (h : a < b + 18446744073709551616) (hb : b ≤ a) : IntKind.u64.wrap (((a % 18446744073709551616 : Nat) : Int) - ((b % 18446744073709551616 : Nat) : Int)) = ((a - b : Nat) : Int) := by
  rw [IntKind.wrap_u64]
  omega
theorem wrap3 {u l Q Y R : Nat} (h : u * 4294967296 + l = Q * Y + R) (hR : R < 18446744073709551616) :
    IntKind.u64.wrap (IntKind.u64.wrap (IntKind.u64.wrap ((u : Int) * 4294967296) + (l : Int)) - IntKind.u64.wrap ((Q : Int) * (Y : Int))) = (R : Int) := by
  rw [show (u : Int) * 4294967296 = ((u * 4294967296 : Nat) : Int) by simp, wrap_nat, show ((u * 4294967296 % 18446744073709551616 : Nat) : Int) + (l : Int) = ((u * 4294967296 % 18446744073709551616 + l : Nat) : Int) by simp, wrap_nat,
    show (Q : Int) * (Y : Int) = ((Q * Y : Nat) : Int) by simp, wrap_nat, Nat.mod_add_mod, wrap_sub _ _ (by omega) (by omega)]
  omega
theorem or_low {h l s : Nat} (hh : h * 2 ^ s < 18446744073709551616) (hl : l < 2 ^ s) (hs : s ≤ 63) : bits .or .u64 ((h * 2 ^ s : Nat) : Int) (l : Int) = ((h * 2 ^ s + l : Nat) : Int) := by
  have h1 : 2 ^ s ≤ 2 ^ 63 := Nat.pow_le_pow_right (by omega) hs
  rw [u64_or_nat _ _ hh (by omega), Nat.mul_comm h, ← Nat.two_pow_add_eq_or_of_lt hl]

def D64Post (n y : Nat) (w : World) (e : Ending) (w' : World) : Prop := ∃ q r : Nat, e = .returned (.tuple #[.int .u64 (q : Int), .int .u64 (r : Int)]) ∧ q = n / y ∧ r = n % y ∧ ∃ k, w' = w.drewN k

/-- The guess in its slot, and its rest. -/
def DigAt (u a Q : Nat) (x y : Value) : Prop := ∃ q r : Nat, x = .int .u64 (q : Int) ∧ y = .int .u64 (r : Int) ∧ q * a + r = u ∧ Q ≤ q ∧ r < 4294967296 ∧ q < 17179869184

set_option maxRecDepth 100000 in
set_option maxHeartbeats 4000000 in
theorem div64_any (hi lo y : Nat) (hlo : lo < 18446744073709551616) (hy : y < 18446744073709551616) (hh : hi < y) (w : World) :
    Calls Tryd.prog 61 #[.int .u64 (hi : Int), .int .u64 (lo : Int), .int .u64 (y : Int)] w (D64Post (hi * 18446744073709551616 + lo) y w) := by
  have e1 : ((y : Int) == 0) = false := by simp; omega
  have e2 : ¬ ((y : Int) ≤ (hi : Int)) := by omega
  by_cases h0 : hi = 0
  · subst h0
    rw [Nat.zero_mul, Nat.zero_add, Int.natCast_zero]
    rw [Int.natCast_zero] at e2
    have y1 : 1 ≤ (y : Int) := by omega
    have y2 : (y : Int) ≤ 18446744073709551615 := by omega
    have l2 : (lo : Int) ≤ 18446744073709551615 := by omega
    have l1 : 0 ≤ (lo : Int) := by omega
    have hyp : (0 : Int) < (y : Int) := by omega
    go_enter Tryd.func61, Tryd.ntmps61
    go_wp2_with fail
    go_quiet (fail)
    have q1 : IntKind.u64.wrap ((lo : Int) / (y : Int)) = ((lo / y : Nat) : Int) := by
      have h := Nat.div_le_self lo y
      rw [show (lo : Int) / (y : Int) = ((lo / y : Nat) : Int) by simp, wrap_nat, Nat.mod_eq_of_lt (by omega)]
    have q2 : (lo : Int) % (y : Int) = ((lo % y : Nat) : Int) := by simp
    simp only [q1, q2]
    obtain ⟨q, hq⟩ : ∃ q, q = lo / y := ⟨_, rfl⟩
    obtain ⟨r, hr⟩ : ∃ r, r = lo % y := ⟨_, rfl⟩
    simp only [← hq, ← hr]
    have HQ := Lib.hid hq
    have HR := Lib.hid hr
    clear q1 q2 hq hr
    go_wp2_with fail
    go_ret2
    exact ⟨q, r, rfl, HQ.out, HR.out, nq, rfl⟩
  · have e3 : ((hi : Int) == 0) = false := by simp; omega
    obtain ⟨s, hs⟩ : ∃ s : Nat, s = 64 - blen y := ⟨_, rfl⟩
    have hb1 : blen y ≤ 64 := blen_le hy
    have hb0 : 0 < blen y := blen_pos (by omega)
    have hl := Tryd.bits_LeadingZeros64 y w (by omega) (by omega)
    rw [Int.toNat_natCast, bitLen_blen hy, show (64 : Int) - (blen y : Int) = (s : Int) by omega] at hl
    have HL := Lib.hid hl
    have hs63 : s ≤ 63 := by omega
    have hy1 : y * 2 ^ s < 18446744073709551616 := by
      have h := lt_blen y
      have h2 : 2 ^ blen y * 2 ^ s = 2 ^ 64 := by rw [← Nat.pow_add]; congr 1; omega
      have h3 : y * 2 ^ s < 2 ^ blen y * 2 ^ s := Nat.mul_lt_mul_of_pos_right h (Nat.two_pow_pos s)
      omega
    have hy2 : 9223372036854775808 ≤ y * 2 ^ s := by
      have h := blen_ge (v := y) (by omega)
      have h2 : 2 ^ (blen y - 1) * 2 ^ s = 2 ^ 63 := by rw [← Nat.pow_add]; congr 1; omega
      have h3 : 2 ^ (blen y - 1) * 2 ^ s ≤ y * 2 ^ s := Nat.mul_le_mul_right _ h
      omega
    obtain ⟨Y, hY⟩ : ∃ Y, Y = y * 2 ^ s := ⟨_, rfl⟩
    rw [← hY] at hy1 hy2
    have hps : 2 ^ s * 2 ^ (64 - s) = 18446744073709551616 := by rw [← Nat.pow_add, show s + (64 - s) = 64 by omega]
    obtain ⟨lh, hlh⟩ : ∃ lh, lh = lo / 2 ^ (64 - s) := ⟨_, rfl⟩
    have hlh1 : lh < 2 ^ s := by rw [hlh, Nat.div_lt_iff_lt_mul (Nat.two_pow_pos _), hps]; exact hlo
    obtain ⟨v, hv⟩ : ∃ v, v = lo * 2 ^ s % 18446744073709551616 := ⟨_, rfl⟩
    have hv1 : v < 18446744073709551616 := by rw [hv]; exact Nat.mod_lt _ (by decide)
    have hlv : lo * 2 ^ s = lh * 18446744073709551616 + v := by
      have h := Nat.div_add_mod' (lo * 2 ^ s) 18446744073709551616
      rw [← hv] at h
      rw [← h, hlh]
      congr 2
      rw [← hps, Nat.mul_comm (2 ^ s) (2 ^ (64 - s)), Nat.mul_div_mul_right _ _ (Nat.two_pow_pos s)]
    have hhs : (hi + 1) * 2 ^ s ≤ Y := by rw [hY]; exact Nat.mul_le_mul_right _ hh
    rw [Nat.add_mul, Nat.one_mul] at hhs
    obtain ⟨u, hu⟩ : ∃ u, u = hi * 2 ^ s + lh := ⟨_, rfl⟩
    have huY : u < Y := by omega
    have hN : (hi * 18446744073709551616 + lo) * 2 ^ s = (u * 4294967296 + v / 4294967296) * 4294967296 + v % 4294967296 := by
      rw [Nat.add_mul, hlv, Nat.mul_right_comm, hu]
      omega
    obtain ⟨a, ha⟩ : ∃ a, a = Y / 4294967296 := ⟨_, rfl⟩
    obtain ⟨b, hb⟩ : ∃ b, b = Y % 4294967296 := ⟨_, rfl⟩
    obtain ⟨u1, hu1⟩ : ∃ u1, u1 = v / 4294967296 := ⟨_, rfl⟩
    obtain ⟨u0, hu0⟩ : ∃ u0, u0 = v % 4294967296 := ⟨_, rfl⟩
    rw [← hu1, ← hu0] at hN
    obtain ⟨Q, hQ⟩ : ∃ Q, Q = (u * 4294967296 + u1) / Y := ⟨_, rfl⟩
    have D1 : DigOf u u1 Y a b Q := ⟨by omega, by omega, by omega, by omega, huY, hQ⟩
    obtain ⟨R, hR⟩ : ∃ R, R = (u * 4294967296 + u1) % Y := ⟨_, rfl⟩
    have hRY : R < Y := by rw [hR]; exact Nat.mod_lt _ (by omega)
    obtain ⟨Q2, hQ2⟩ : ∃ Q2, Q2 = (R * 4294967296 + u0) / Y := ⟨_, rfl⟩
    have D2 : DigOf R u0 Y a b Q2 := ⟨by omega, by omega, by omega, by omega, hRY, hQ2⟩
    obtain ⟨R2, hR2⟩ : ∃ R2, R2 = (R * 4294967296 + u0) % Y := ⟨_, rfl⟩
    have hR2Y : R2 < Y := by rw [hR2]; exact Nat.mod_lt _ (by omega)
    have r1 := D1.rest
    have r2 := D2.rest
    rw [← hR] at r1
    rw [← hR2] at r2
    have fin := two_digits hY hN r1 r2 hR2Y
    have G1 := Lib.hid (wrap3 r1 (by omega))
    have G2 := Lib.hid (wrap3 r2 (by omega))
    obtain ⟨QT, hQT⟩ : ∃ QT, QT = Q * 4294967296 + Q2 := ⟨_, rfl⟩
    obtain ⟨R3, hR3⟩ : ∃ R3, R3 = R2 / 2 ^ s := ⟨_, rfl⟩
    rw [← hQT, ← hR3] at fin
    have FIN := Lib.hid fin
    have G3 : Hid ((Q : Int) * 4294967296 + (Q2 : Int) = (QT : Int)) := Lib.hid (by omega)
    have G4 : Hid ((R2 : Int) / 2 ^ s = (R3 : Int)) := Lib.hid (by rw [hR3]; simp)
    have QI : (Q : Int) < 4294967296 := by have := D1.lt; omega
    have Q2I : (Q2 : Int) < 4294967296 := by have := D2.lt; omega
    have RI : (R : Int) ≤ 18446744073709551615 := by omega
    obtain ⟨q2, hqq2⟩ : ∃ q2, q2 = R / a := ⟨_, rfl⟩
    obtain ⟨r2', hrr2⟩ : ∃ r2', r2' = R % a := ⟨_, rfl⟩
    have hqr2 : q2 * a + r2' = R := by rw [hqq2, hrr2]; exact Nat.div_add_mod' R a
    have hq22 : q2 < 17179869184 := by rw [hqq2, Nat.div_lt_iff_lt_mul (by have := D1.ha; omega)]; have := D1.ha; omega
    have hr22 : r2' < 4294967296 := by rw [hrr2]; have := Nat.mod_lt R (show 0 < a by have := D1.ha; omega); have := D1.ha; omega
    have G8 : Hid ((R : Int) / (a : Int) = (q2 : Int)) := Lib.hid (by rw [hqq2]; simp)
    have G9 : Hid (IntKind.u64.wrap ((R : Int) - IntKind.u64.wrap ((q2 : Int) * (a : Int))) = (r2' : Int)) := Lib.hid (by
      rw [show (q2 : Int) * (a : Int) = ((q2 * a : Nat) : Int) by simp, wrap_nat, Nat.mod_eq_of_lt (by omega), IntWalk.u64_in _ ⟨by omega, by omega⟩]
      omega)
    have HQ2 : Hid (DigAt R a Q2 (.int .u64 (q2 : Int)) (.int .u64 (r2' : Int))) := Lib.hid ⟨_, _, rfl, rfl, hqr2, by rw [hqq2]; exact D2.init, hr22, hq22⟩
    clear hqq2 hrr2 hqr2 hQT hR3 fin
    -- the walk's own spellings
    have E1 : Hid (IntKind.u64.wrap ((y : Int) * 2 ^ s) = (Y : Int)) := Lib.hid (by
      rw [show (y : Int) * 2 ^ s = ((y * 2 ^ s : Nat) : Int) by simp, ← hY, wrap_nat, Nat.mod_eq_of_lt hy1])
    have E2 : Hid ((Y : Int) / 4294967296 = (a : Int)) := Lib.hid (by omega)
    have E3 : Hid (bits .and .u64 (Y : Int) 4294967295 = (b : Int)) := Lib.hid (by rw [and_low32 _ (by omega) (by omega)]; omega)
    have E4 : Hid (bits .or .u64 (IntKind.u64.wrap ((hi : Int) * 2 ^ s)) ((lo : Int) / 2 ^ (64 - s)) = (u : Int)) := Lib.hid (by
      rw [show (hi : Int) * 2 ^ s = ((hi * 2 ^ s : Nat) : Int) by simp, wrap_nat, Nat.mod_eq_of_lt (by omega), show (lo : Int) / 2 ^ (64 - s) = (lh : Int) by rw [hlh]; simp, or_low (by omega) hlh1 hs63, hu])
    have E5 : Hid (IntKind.u64.wrap ((lo : Int) * 2 ^ s) = (v : Int)) := Lib.hid (by
      rw [show (lo : Int) * 2 ^ s = ((lo * 2 ^ s : Nat) : Int) by simp, wrap_nat, hv])
    have E6 : Hid ((v : Int) / 4294967296 = (u1 : Int)) := Lib.hid (by omega)
    have E7 : Hid (bits .and .u64 (v : Int) 4294967295 = (u0 : Int)) := Lib.hid (by rw [and_low32 _ (by omega) (by omega)]; omega)
    obtain ⟨qq, hqq⟩ : ∃ qq, qq = u / a := ⟨_, rfl⟩
    obtain ⟨rr, hrr⟩ : ∃ rr, rr = u % a := ⟨_, rfl⟩
    have hqr : qq * a + rr = u := by rw [hqq, hrr]; exact Nat.div_add_mod' u a
    have hq2 : qq < 17179869184 := by rw [hqq, Nat.div_lt_iff_lt_mul (by have := D1.ha; omega)]; have := D1.ha; omega
    have hr2 : rr < 4294967296 := by rw [hrr]; have := Nat.mod_lt u (show 0 < a by have := D1.ha; omega); have := D1.ha; omega
    have E8 : Hid ((u : Int) / (a : Int) = (qq : Int)) := Lib.hid (by rw [hqq]; simp)
    have E9 : Hid (IntKind.u64.wrap ((u : Int) - IntKind.u64.wrap ((qq : Int) * (a : Int))) = (rr : Int)) := Lib.hid (by
      rw [show (qq : Int) * (a : Int) = ((qq * a : Nat) : Int) by simp, wrap_nat, Nat.mod_eq_of_lt (by omega), IntWalk.u64_in _ ⟨by omega, by omega⟩]
      omega)
    have HQ0 : Hid (DigAt u a Q (.int .u64 (qq : Int)) (.int .u64 (rr : Int))) := Lib.hid ⟨_, _, rfl, rfl, hqr, by rw [hqq]; exact D1.init, hr2, hq2⟩
    have a0 : ((a : Int) == 0) = false := by have := D1.ha; simp; omega
    have a1 : 1 ≤ (a : Int) := by have := D1.ha; omega
    have u63 : (u : Int) ≤ 18446744073709551615 := by omega
    clear hqq hrr hqr
    clear hs hl hb1 hb0 hps hlh hlh1 hv hlv hhs hu hN hQ hR hQ2 hR2 r1 r2 ha hb hu1 hu0 hY
    have f1 := E1.out
    have f2 := E2.out
    have f3 := E3.out
    have f4 := E4.out
    have f5 := E5.out
    have f6 := E6.out
    have f7 := E7.out
    have f8 := E8.out
    have f9 := E9.out
    go_enter Tryd.func61, Tryd.ntmps61
    go_wp2_with (go_at_call 72; refine HL.out.mono ?_; rintro e W ⟨rfl, rfl⟩)
    clear f1 f2 f3 f4 f5 f6 f7 f8 f9
    go_loop [15, 16] (fun q r => DigAt u a Q q r) (fun q _ => (intOf q).toNat)
    case atStart => exact HQ0.out
    case round =>
      obtain ⟨q, r, rfl, rfl, hq, hQq, hr, hq4⟩ := hrel
      have HQ1 := Lib.hid hq
      have hq0 : (0 : Int) ≤ (q : Int) := by omega
      have hr0 : (0 : Int) ≤ (r : Int) := by omega
      have hrI : (r : Int) < 4294967296 := by omega
      have hqI : (q : Int) < 17179869184 := by omega
      have l0 : (0 : Int) ≤ (u1 : Int) := by omega
      have l1 : (u1 : Int) < 4294967296 := by have := D1.hl; omega
      have aI : (a : Int) < 4294967296 := by have := D1.ha; omega
      obtain ⟨m, hm⟩ : ∃ m, m = q * b := ⟨_, rfl⟩
      have HM := Lib.hid hm
      clear hq
      by_cases hA : 4294967296 ≤ q ∨ 4294967296 * r + u1 < m
      · have hlt : Q < q := by
          rcases Nat.lt_or_ge q 4294967296 with h | h
          · exact D1.down HQ1.out (by rcases hA with h' | h'; omega; rw [hm] at h'; exact h')
          · have := D1.lt; omega
        obtain ⟨q', hq'⟩ : ∃ q', q = q' + 1 := ⟨q - 1, by omega⟩
        have hnew : q' * a + (r + a) = u := by have := HQ1.out; rw [hq', Nat.add_mul, Nat.one_mul] at this; omega
        obtain ⟨r', hr'⟩ : ∃ r', r' = r + a := ⟨_, rfl⟩
        rw [← hr'] at hnew
        have HN := Lib.hid hnew
        have gq : (q : Int) - 1 = (q' : Int) := by omega
        have gr : (r : Int) + (a : Int) = (r' : Int) := by omega
        have gq1 : (1 : Int) ≤ (q : Int) := by omega
        have gr1 : (r' : Int) < 8589934592 := by omega
        have HQQ : Hid (Q ≤ q') := Lib.hid (by omega)
        have HQ4 : Hid (q' < 17179869184) := Lib.hid (by omega)
        have HLT : Hid (q' < q) := Lib.hid (by omega)
        have HA := Lib.hid hA
        have wm : q < 4294967296 → IntKind.u64.wrap ((q : Int) * (b : Int)) = (m : Int) := fun h => by
          have h1 : q * b ≤ 4294967295 * 4294967295 := Nat.mul_le_mul (by omega) (by have := D1.hb; omega)
          rw [show (q : Int) * (b : Int) = ((q * b : Nat) : Int) by simp, wrap_nat, ← hm, Nat.mod_eq_of_lt (by omega)]
        have HWM := Lib.hid wm
        clear hA hlt hq' hnew hr' hm wm
        by_cases hbr : 4294967296 ≤ r'
        · have HE : Hid (q' = Q) := Lib.hid (D1.stop2 HQQ.out HN.out hbr)
          have hbI : (4294967296 : Int) ≤ (r' : Int) := by omega
          by_cases hg : 4294967296 ≤ q
          · have hgI : (4294967296 : Int) ≤ (q : Int) := by omega
            obtain rfl := HE.out
            have g1 := G1.out
            have g8 := G8.out
            have g9 := G9.out
            go_wp2_with fail
            clear hq0 hr0 hrI hqI l0 l1 aI g1 g8 g9
            go_loop [18, 16] (fun q r => DigAt R a Q2 q r) (fun q _ => (intOf q).toNat)
            case atStart => exact HQ2.out
            case round =>
              obtain ⟨q, r, rfl, rfl, hq, hQq, hr, hq4⟩ := hrel
              have HQ1 := Lib.hid hq
              have hq0 : (0 : Int) ≤ (q : Int) := by omega
              have hr0 : (0 : Int) ≤ (r : Int) := by omega
              have hrI : (r : Int) < 4294967296 := by omega
              have hqI : (q : Int) < 17179869184 := by omega
              have l0 : (0 : Int) ≤ (u0 : Int) := by omega
              have l1 : (u0 : Int) < 4294967296 := by have := D2.hl; omega
              have aI : (a : Int) < 4294967296 := by have := D2.ha; omega
              obtain ⟨m, hm⟩ : ∃ m, m = q * b := ⟨_, rfl⟩
              have HM := Lib.hid hm
              clear hq
              by_cases hA : 4294967296 ≤ q ∨ 4294967296 * r + u0 < m
              · have hlt : Q2 < q := by
                  rcases Nat.lt_or_ge q 4294967296 with h | h
                  · exact D2.down HQ1.out (by rcases hA with h' | h'; omega; rw [hm] at h'; exact h')
                  · have := D2.lt; omega
                obtain ⟨q', hq'⟩ : ∃ q', q = q' + 1 := ⟨q - 1, by omega⟩
                have hnew : q' * a + (r + a) = R := by have := HQ1.out; rw [hq', Nat.add_mul, Nat.one_mul] at this; omega
                obtain ⟨r', hr'⟩ : ∃ r', r' = r + a := ⟨_, rfl⟩
                rw [← hr'] at hnew
                have HN := Lib.hid hnew
                have gq : (q : Int) - 1 = (q' : Int) := by omega
                have gr : (r : Int) + (a : Int) = (r' : Int) := by omega
                have gq1 : (1 : Int) ≤ (q : Int) := by omega
                have gr1 : (r' : Int) < 8589934592 := by omega
                have HQQ : Hid (Q2 ≤ q') := Lib.hid (by omega)
                have HQ4 : Hid (q' < 17179869184) := Lib.hid (by omega)
                have HLT : Hid (q' < q) := Lib.hid (by omega)
                have HA := Lib.hid hA
                have wm : q < 4294967296 → IntKind.u64.wrap ((q : Int) * (b : Int)) = (m : Int) := fun h => by
                  have h1 : q * b ≤ 4294967295 * 4294967295 := Nat.mul_le_mul (by omega) (by have := D2.hb; omega)
                  rw [show (q : Int) * (b : Int) = ((q * b : Nat) : Int) by simp, wrap_nat, ← hm, Nat.mod_eq_of_lt (by omega)]
                have HWM := Lib.hid wm
                clear hA hlt hq' hnew hr' hm wm
                by_cases hbr : 4294967296 ≤ r'
                · have HE : Hid (q' = Q2) := Lib.hid (D2.stop2 HQQ.out HN.out hbr)
                  have hbI : (4294967296 : Int) ≤ (r' : Int) := by omega
                  by_cases hg : 4294967296 ≤ q
                  · have hgI : (4294967296 : Int) ≤ (q : Int) := by omega
                    obtain rfl := HE.out
                    have g2 := G2.out
                    have g3 := G3.out
                    have g4 := G4.out
                    go_wp2_with fail
                    go_ret2
                    have hfin := FIN.out
                    exact ⟨QT, R3, rfl, hfin.1, hfin.2, 0, rfl⟩
                  · have hgI : ¬ (4294967296 : Int) ≤ (q : Int) := by omega
                    have hgD : decide ((4294967296 : Int) ≤ (q : Int)) = false := by simp; omega
                    have wmm := HWM.out (by omega)
                    have hmI : (4294967296 : Int) * (r : Int) + (u0 : Int) < (m : Int) := by have := HA.out; omega
                    obtain rfl := HE.out
                    have g2 := G2.out
                    have g3 := G3.out
                    have g4 := G4.out
                    go_wp2_with fail
                    clear wmm
                    go_ret2
                    have hfin := FIN.out
                    exact ⟨QT, R3, rfl, hfin.1, hfin.2, 0, rfl⟩
                · have hbI : ¬ (4294967296 : Int) ≤ (r' : Int) := by omega
                  by_cases hg : 4294967296 ≤ q
                  · have hgI : (4294967296 : Int) ≤ (q : Int) := by omega
                    go_wp2_with fail
                    go_round
                    case rel => exact ⟨q', r', rfl, rfl, HN.out, HQQ.out, by omega, HQ4.out⟩
                    case measure => have := HLT.out; simp [intOf]; omega
                  · have hgI : ¬ (4294967296 : Int) ≤ (q : Int) := by omega
                    have hgD : decide ((4294967296 : Int) ≤ (q : Int)) = false := by simp; omega
                    have wmm := HWM.out (by omega)
                    have hmI : (4294967296 : Int) * (r : Int) + (u0 : Int) < (m : Int) := by have := HA.out; omega
                    go_wp2_with fail
                    go_round
                    case rel => exact ⟨q', r', rfl, rfl, HN.out, HQQ.out, by omega, HQ4.out⟩
                    case measure => have := HLT.out; simp [intOf]; omega
              · have HE : Hid (q = Q2) := Lib.hid (D2.stop hQq HQ1.out (by rw [← hm]; omega))
                have hgI : ¬ (4294967296 : Int) ≤ (q : Int) := by omega
                have hgD : decide ((4294967296 : Int) ≤ (q : Int)) = false := by simp; omega
                have wmm : IntKind.u64.wrap ((q : Int) * (b : Int)) = (m : Int) := by
                  have h1 : q * b ≤ 4294967295 * 4294967295 := Nat.mul_le_mul (by omega) (by have := D2.hb; omega)
                  rw [show (q : Int) * (b : Int) = ((q * b : Nat) : Int) by simp, wrap_nat, ← hm, Nat.mod_eq_of_lt (by omega)]
                have hmI : ¬ (4294967296 : Int) * (r : Int) + (u0 : Int) < (m : Int) := by omega
                clear hA hm
                obtain rfl := HE.out
                have g2 := G2.out
                have g3 := G3.out
                have g4 := G4.out
                go_wp2_with fail
                clear wmm
                go_ret2
                have hfin := FIN.out
                exact ⟨QT, R3, rfl, hfin.1, hfin.2, 0, rfl⟩
          · have hgI : ¬ (4294967296 : Int) ≤ (q : Int) := by omega
            have hgD : decide ((4294967296 : Int) ≤ (q : Int)) = false := by simp; omega
            have wmm := HWM.out (by omega)
            have hmI : (4294967296 : Int) * (r : Int) + (u1 : Int) < (m : Int) := by have := HA.out; omega
            obtain rfl := HE.out
            have g1 := G1.out
            have g8 := G8.out
            have g9 := G9.out
            go_wp2_with fail
            clear wmm
            clear hq0 hr0 hrI hqI l0 l1 aI g1 g8 g9
            go_loop [18, 16] (fun q r => DigAt R a Q2 q r) (fun q _ => (intOf q).toNat)
            case atStart => exact HQ2.out
            case round =>
              obtain ⟨q, r, rfl, rfl, hq, hQq, hr, hq4⟩ := hrel
              have HQ1 := Lib.hid hq
              have hq0 : (0 : Int) ≤ (q : Int) := by omega
              have hr0 : (0 : Int) ≤ (r : Int) := by omega
              have hrI : (r : Int) < 4294967296 := by omega
              have hqI : (q : Int) < 17179869184 := by omega
              have l0 : (0 : Int) ≤ (u0 : Int) := by omega
              have l1 : (u0 : Int) < 4294967296 := by have := D2.hl; omega
              have aI : (a : Int) < 4294967296 := by have := D2.ha; omega
              obtain ⟨m, hm⟩ : ∃ m, m = q * b := ⟨_, rfl⟩
              have HM := Lib.hid hm
              clear hq
              by_cases hA : 4294967296 ≤ q ∨ 4294967296 * r + u0 < m
              · have hlt : Q2 < q := by
                  rcases Nat.lt_or_ge q 4294967296 with h | h
                  · exact D2.down HQ1.out (by rcases hA with h' | h'; omega; rw [hm] at h'; exact h')
                  · have := D2.lt; omega
                obtain ⟨q', hq'⟩ : ∃ q', q = q' + 1 := ⟨q - 1, by omega⟩
                have hnew : q' * a + (r + a) = R := by have := HQ1.out; rw [hq', Nat.add_mul, Nat.one_mul] at this; omega
                obtain ⟨r', hr'⟩ : ∃ r', r' = r + a := ⟨_, rfl⟩
                rw [← hr'] at hnew
                have HN := Lib.hid hnew
                have gq : (q : Int) - 1 = (q' : Int) := by omega
                have gr : (r : Int) + (a : Int) = (r' : Int) := by omega
                have gq1 : (1 : Int) ≤ (q : Int) := by omega
                have gr1 : (r' : Int) < 8589934592 := by omega
                have HQQ : Hid (Q2 ≤ q') := Lib.hid (by omega)
                have HQ4 : Hid (q' < 17179869184) := Lib.hid (by omega)
                have HLT : Hid (q' < q) := Lib.hid (by omega)
                have HA := Lib.hid hA
                have wm : q < 4294967296 → IntKind.u64.wrap ((q : Int) * (b : Int)) = (m : Int) := fun h => by
                  have h1 : q * b ≤ 4294967295 * 4294967295 := Nat.mul_le_mul (by omega) (by have := D2.hb; omega)
                  rw [show (q : Int) * (b : Int) = ((q * b : Nat) : Int) by simp, wrap_nat, ← hm, Nat.mod_eq_of_lt (by omega)]
                have HWM := Lib.hid wm
                clear hA hlt hq' hnew hr' hm wm
                by_cases hbr : 4294967296 ≤ r'
                · have HE : Hid (q' = Q2) := Lib.hid (D2.stop2 HQQ.out HN.out hbr)
                  have hbI : (4294967296 : Int) ≤ (r' : Int) := by omega
                  by_cases hg : 4294967296 ≤ q
                  · have hgI : (4294967296 : Int) ≤ (q : Int) := by omega
                    obtain rfl := HE.out
                    have g2 := G2.out
                    have g3 := G3.out
                    have g4 := G4.out
                    go_wp2_with fail
                    go_ret2
                    have hfin := FIN.out
                    exact ⟨QT, R3, rfl, hfin.1, hfin.2, 0, rfl⟩
                  · have hgI : ¬ (4294967296 : Int) ≤ (q : Int) := by omega
                    have hgD : decide ((4294967296 : Int) ≤ (q : Int)) = false := by simp; omega
                    have wmm := HWM.out (by omega)
                    have hmI : (4294967296 : Int) * (r : Int) + (u0 : Int) < (m : Int) := by have := HA.out; omega
                    obtain rfl := HE.out
                    have g2 := G2.out
                    have g3 := G3.out
                    have g4 := G4.out
                    go_wp2_with fail
                    clear wmm
                    go_ret2
                    have hfin := FIN.out
                    exact ⟨QT, R3, rfl, hfin.1, hfin.2, 0, rfl⟩
                · have hbI : ¬ (4294967296 : Int) ≤ (r' : Int) := by omega
                  by_cases hg : 4294967296 ≤ q
                  · have hgI : (4294967296 : Int) ≤ (q : Int) := by omega
                    go_wp2_with fail
                    go_round
                    case rel => exact ⟨q', r', rfl, rfl, HN.out, HQQ.out, by omega, HQ4.out⟩
                    case measure => have := HLT.out; simp [intOf]; omega
                  · have hgI : ¬ (4294967296 : Int) ≤ (q : Int) := by omega
                    have hgD : decide ((4294967296 : Int) ≤ (q : Int)) = false := by simp; omega
                    have wmm := HWM.out (by omega)
                    have hmI : (4294967296 : Int) * (r : Int) + (u0 : Int) < (m : Int) := by have := HA.out; omega
                    go_wp2_with fail
                    go_round
                    case rel => exact ⟨q', r', rfl, rfl, HN.out, HQQ.out, by omega, HQ4.out⟩
                    case measure => have := HLT.out; simp [intOf]; omega
              · have HE : Hid (q = Q2) := Lib.hid (D2.stop hQq HQ1.out (by rw [← hm]; omega))
                have hgI : ¬ (4294967296 : Int) ≤ (q : Int) := by omega
                have hgD : decide ((4294967296 : Int) ≤ (q : Int)) = false := by simp; omega
                have wmm : IntKind.u64.wrap ((q : Int) * (b : Int)) = (m : Int) := by
                  have h1 : q * b ≤ 4294967295 * 4294967295 := Nat.mul_le_mul (by omega) (by have := D2.hb; omega)
                  rw [show (q : Int) * (b : Int) = ((q * b : Nat) : Int) by simp, wrap_nat, ← hm, Nat.mod_eq_of_lt (by omega)]
                have hmI : ¬ (4294967296 : Int) * (r : Int) + (u0 : Int) < (m : Int) := by omega
                clear hA hm
                obtain rfl := HE.out
                have g2 := G2.out
                have g3 := G3.out
                have g4 := G4.out
                go_wp2_with fail
                clear wmm
                go_ret2
                have hfin := FIN.out
                exact ⟨QT, R3, rfl, hfin.1, hfin.2, 0, rfl⟩
        · have hbI : ¬ (4294967296 : Int) ≤ (r' : Int) := by omega
          by_cases hg : 4294967296 ≤ q
          · have hgI : (4294967296 : Int) ≤ (q : Int) := by omega
            go_wp2_with fail
            go_round
            case rel => exact ⟨q', r', rfl, rfl, HN.out, HQQ.out, by omega, HQ4.out⟩
            case measure => have := HLT.out; simp [intOf]; omega
          · have hgI : ¬ (4294967296 : Int) ≤ (q : Int) := by omega
            have hgD : decide ((4294967296 : Int) ≤ (q : Int)) = false := by simp; omega
            have wmm := HWM.out (by omega)
            have hmI : (4294967296 : Int) * (r : Int) + (u1 : Int) < (m : Int) := by have := HA.out; omega
            go_wp2_with fail
            go_round
            case rel => exact ⟨q', r', rfl, rfl, HN.out, HQQ.out, by omega, HQ4.out⟩
            case measure => have := HLT.out; simp [intOf]; omega
      · have HE : Hid (q = Q) := Lib.hid (D1.stop hQq HQ1.out (by rw [← hm]; omega))
        have hgI : ¬ (4294967296 : Int) ≤ (q : Int) := by omega
        have hgD : decide ((4294967296 : Int) ≤ (q : Int)) = false := by simp; omega
        have wmm : IntKind.u64.wrap ((q : Int) * (b : Int)) = (m : Int) := by
          have h1 : q * b ≤ 4294967295 * 4294967295 := Nat.mul_le_mul (by omega) (by have := D1.hb; omega)
          rw [show (q : Int) * (b : Int) = ((q * b : Nat) : Int) by simp, wrap_nat, ← hm, Nat.mod_eq_of_lt (by omega)]
        have hmI : ¬ (4294967296 : Int) * (r : Int) + (u1 : Int) < (m : Int) := by omega
        clear hA hm
        obtain rfl := HE.out
        have g1 := G1.out
        have g8 := G8.out
        have g9 := G9.out
        go_wp2_with fail
        clear wmm
        clear hq0 hr0 hrI hqI l0 l1 aI g1 g8 g9
        go_loop [18, 16] (fun q r => DigAt R a Q2 q r) (fun q _ => (intOf q).toNat)
        case atStart => exact HQ2.out
        case round =>
          obtain ⟨q, r, rfl, rfl, hq, hQq, hr, hq4⟩ := hrel
          have HQ1 := Lib.hid hq
          have hq0 : (0 : Int) ≤ (q : Int) := by omega
          have hr0 : (0 : Int) ≤ (r : Int) := by omega
          have hrI : (r : Int) < 4294967296 := by omega
          have hqI : (q : Int) < 17179869184 := by omega
          have l0 : (0 : Int) ≤ (u0 : Int) := by omega
          have l1 : (u0 : Int) < 4294967296 := by have := D2.hl; omega
          have aI : (a : Int) < 4294967296 := by have := D2.ha; omega
          obtain ⟨m, hm⟩ : ∃ m, m = q * b := ⟨_, rfl⟩
          have HM := Lib.hid hm
          clear hq
          by_cases hA : 4294967296 ≤ q ∨ 4294967296 * r + u0 < m
          · have hlt : Q2 < q := by
              rcases Nat.lt_or_ge q 4294967296 with h | h
              · exact D2.down HQ1.out (by rcases hA with h' | h'; omega; rw [hm] at h'; exact h')
              · have := D2.lt; omega
            obtain ⟨q', hq'⟩ : ∃ q', q = q' + 1 := ⟨q - 1, by omega⟩
            have hnew : q' * a + (r + a) = R := by have := HQ1.out; rw [hq', Nat.add_mul, Nat.one_mul] at this; omega
            obtain ⟨r', hr'⟩ : ∃ r', r' = r + a := ⟨_, rfl⟩
            rw [← hr'] at hnew
            have HN := Lib.hid hnew
            have gq : (q : Int) - 1 = (q' : Int) := by omega
            have gr : (r : Int) + (a : Int) = (r' : Int) := by omega
            have gq1 : (1 : Int) ≤ (q : Int) := by omega
            have gr1 : (r' : Int) < 8589934592 := by omega
            have HQQ : Hid (Q2 ≤ q') := Lib.hid (by omega)
            have HQ4 : Hid (q' < 17179869184) := Lib.hid (by omega)
            have HLT : Hid (q' < q) := Lib.hid (by omega)
            have HA := Lib.hid hA
            have wm : q < 4294967296 → IntKind.u64.wrap ((q : Int) * (b : Int)) = (m : Int) := fun h => by
              have h1 : q * b ≤ 4294967295 * 4294967295 := Nat.mul_le_mul (by omega) (by have := D2.hb; omega)
              rw [show (q : Int) * (b : Int) = ((q * b : Nat) : Int) by simp, wrap_nat, ← hm, Nat.mod_eq_of_lt (by omega)]
            have HWM := Lib.hid wm
            clear hA hlt hq' hnew hr' hm wm
            by_cases hbr : 4294967296 ≤ r'
            · have HE : Hid (q' = Q2) := Lib.hid (D2.stop2 HQQ.out HN.out hbr)
              have hbI : (4294967296 : Int) ≤ (r' : Int) := by omega
              by_cases hg : 4294967296 ≤ q
              · have hgI : (4294967296 : Int) ≤ (q : Int) := by omega
                obtain rfl := HE.out
                have g2 := G2.out
                have g3 := G3.out
                have g4 := G4.out
                go_wp2_with fail
                go_ret2
                have hfin := FIN.out
                exact ⟨QT, R3, rfl, hfin.1, hfin.2, 0, rfl⟩
              · have hgI : ¬ (4294967296 : Int) ≤ (q : Int) := by omega
                have hgD : decide ((4294967296 : Int) ≤ (q : Int)) = false := by simp; omega
                have wmm := HWM.out (by omega)
                have hmI : (4294967296 : Int) * (r : Int) + (u0 : Int) < (m : Int) := by have := HA.out; omega
                obtain rfl := HE.out
                have g2 := G2.out
                have g3 := G3.out
                have g4 := G4.out
                go_wp2_with fail
                clear wmm
                go_ret2
                have hfin := FIN.out
                exact ⟨QT, R3, rfl, hfin.1, hfin.2, 0, rfl⟩
            · have hbI : ¬ (4294967296 : Int) ≤ (r' : Int) := by omega
              by_cases hg : 4294967296 ≤ q
              · have hgI : (4294967296 : Int) ≤ (q : Int) := by omega
                go_wp2_with fail
                go_round
                case rel => exact ⟨q', r', rfl, rfl, HN.out, HQQ.out, by omega, HQ4.out⟩
                case measure => have := HLT.out; simp [intOf]; omega
              · have hgI : ¬ (4294967296 : Int) ≤ (q : Int) := by omega
                have hgD : decide ((4294967296 : Int) ≤ (q : Int)) = false := by simp; omega
                have wmm := HWM.out (by omega)
                have hmI : (4294967296 : Int) * (r : Int) + (u0 : Int) < (m : Int) := by have := HA.out; omega
                go_wp2_with fail
                go_round
                case rel => exact ⟨q', r', rfl, rfl, HN.out, HQQ.out, by omega, HQ4.out⟩
                case measure => have := HLT.out; simp [intOf]; omega
          · have HE : Hid (q = Q2) := Lib.hid (D2.stop hQq HQ1.out (by rw [← hm]; omega))
            have hgI : ¬ (4294967296 : Int) ≤ (q : Int) := by omega
            have hgD : decide ((4294967296 : Int) ≤ (q : Int)) = false := by simp; omega
            have wmm : IntKind.u64.wrap ((q : Int) * (b : Int)) = (m : Int) := by
              have h1 : q * b ≤ 4294967295 * 4294967295 := Nat.mul_le_mul (by omega) (by have := D2.hb; omega)
              rw [show (q : Int) * (b : Int) = ((q * b : Nat) : Int) by simp, wrap_nat, ← hm, Nat.mod_eq_of_lt (by omega)]
            have hmI : ¬ (4294967296 : Int) * (r : Int) + (u0 : Int) < (m : Int) := by omega
            clear hA hm
            obtain rfl := HE.out
            have g2 := G2.out
            have g3 := G3.out
            have g4 := G4.out
            go_wp2_with fail
            clear wmm
            go_ret2
            have hfin := FIN.out
            exact ⟨QT, R3, rfl, hfin.1, hfin.2, 0, rfl⟩
end Go.Proofs.YtcbebikcfcidmaaDoor

namespace Go.Proofs.YtcbebikcfcidmaaDoor
open Go.RowKit

/-- How many bits a row of limbs has. -/
theorem blen_row {L : List Nat} {top : Nat} (h : Fits L) (h0 : top ≠ 0) : blen (lv (L ++ [top])) = 64 * L.length + blen top := by
  have h1 := lt_blen top
  have h2 := blen_ge h0
  have h3 := lv_lt h
  have h4 := blen_pos h0
  rw [lv_append, lv_one]
  obtain ⟨t, ht⟩ : ∃ t, blen top = t + 1 := ⟨blen top - 1, by omega⟩
  rw [ht] at h1 h2 ⊢
  rw [Nat.add_sub_cancel] at h2
  rw [← Nat.add_assoc]
  have e1 : 2 ^ (64 * L.length + t) = 2 ^ (64 * L.length) * 2 ^ t := Nat.pow_add ..
  have e2 : 2 ^ (64 * L.length + t + 1) = 2 ^ (64 * L.length) * 2 ^ (t + 1) := by rw [Nat.add_assoc, Nat.pow_add]
  have h5 : 2 ^ (64 * L.length) * (top + 1) ≤ 2 ^ (64 * L.length) * 2 ^ (t + 1) := Nat.mul_le_mul_left _ h1
  have h6 : 2 ^ (64 * L.length) * 2 ^ t ≤ 2 ^ (64 * L.length) * top := Nat.mul_le_mul_left _ h2
  rw [Nat.mul_add, Nat.mul_one] at h5
  refine blen_of (by omega) ?_
  have h7 : (lv L + 2 ^ (64 * L.length) * top) / 2 ^ (64 * L.length + t) = 1 := by
    refine Nat.le_antisymm ?_ ?_
    · have : (lv L + 2 ^ (64 * L.length) * top) / 2 ^ (64 * L.length + t) < 2 := by
        have e3 : 2 ^ (64 * L.length + t + 1) = 2 * 2 ^ (64 * L.length + t) := by rw [Nat.pow_succ, Nat.mul_comm]
        rw [Nat.div_lt_iff_lt_mul (Nat.two_pow_pos _)]
        omega
      omega
    · rw [Nat.le_div_iff_mul_le (Nat.two_pow_pos _)]; omega
  rw [h7]
theorem nrow_split {n : Nat} (h : n ≠ 0) : ∃ L top, nrow n = L ++ [top] ∧ top ≠ 0 ∧ Fits L ∧ top < 18446744073709551616 := by
  rcases List.eq_nil_or_concat (nrow n) with h1 | ⟨L, top, h1⟩
  · exact absurd (nrow_nil.1 h1) h
  · rw [List.concat_eq_append] at h1
    have hf := nrow_fits n
    rw [h1] at hf
    refine ⟨L, top, h1, ?_, fun x hx => hf x (List.mem_append_left _ hx), hf top (by simp)⟩
    rcases nrow_last n with h2 | h2
    · rw [h1] at h2; simp at h2
    · rw [h1] at h2; simpa using h2
theorem blen_nrow {n : Nat} (h : n ≠ 0) : ∃ top, (nrow n).getD ((nrow n).length - 1) 0 = top ∧ top < 18446744073709551616 ∧ top ≠ 0 ∧ blen n = 64 * ((nrow n).length - 1) + blen top := by
  obtain ⟨L, top, h1, h2, h3, h4⟩ := nrow_split h
  refine ⟨top, by rw [h1]; simp, h4, h2, ?_⟩
  have := blen_row h3 h2
  rw [← h1, lv_nrow] at this
  rw [this, h1]; simp

section
variable {K K' : Nat} {w : World} {va vb : Value} {na nb : Nat}

set_option maxHeartbeats 1000000 in
theorem bits_p (ha : NNum K w va na) (hK : K ≤ 137438953472) : Calls Tryd.prog 54 #[va] w (Same (.int .i64 (blen na)) w) := by
  have HT := Lib.hid (trim_v ha (by omega))
  have hl : (nrow na).length ≤ 137438953472 := Nat.le_trans ha.rowLen hK
  obtain ⟨a, ca, A, rfl, _, _, _, _, _, _⟩ := ha
  by_cases h0 : na = 0
  · subst h0
    go_enter Tryd.func54, Tryd.ntmps54
    go_wp2_with fail
    refine HT.out.mono ?_
    rintro e w' ⟨v, rfl, hv, rfl⟩
    obtain ⟨a', ca', rfl, _, _, _⟩ := hv
    rw [nrow_zero, List.length_nil]
    go_wp2_with fail
    go_ret
    exact ⟨rfl, rfl⟩
  · obtain ⟨top, t1, t2, t3, t4⟩ := blen_nrow h0
    have hpos : 0 < (nrow na).length := by
      rcases Nat.eq_zero_or_pos (nrow na).length with h | h
      · exact absurd (nrow_nil.1 (List.eq_nil_of_length_eq_zero h)) h0
      · exact h
    obtain ⟨k, hk⟩ : ∃ k, (nrow na).length = k + 1 := ⟨(nrow na).length - 1, by omega⟩
    have hlen := Tryd.bits_Len64 top w (by omega) (by omega)
    rw [Int.toNat_natCast, bitLen_blen t2] at hlen
    have h64 : blen top ≤ 64 := blen_le t2
    rw [hk, Nat.add_sub_cancel] at t1 t4
    have HT1 := Lib.hid t1
    have HK := Lib.hid hk
    have hkI : (k : Int) ≤ 137438953472 := by omega
    have hb0 : (0 : Int) ≤ (blen top : Int) := by omega
    have hbI : (blen top : Int) ≤ 64 := by omega
    obtain ⟨bt, hbt⟩ : ∃ bt, bt = blen top := ⟨_, rfl⟩
    rw [← hbt] at hlen t4 hb0 hbI
    have HLEN := Lib.hid hlen
    have HT4 := Lib.hid t4
    obtain ⟨N, hN⟩ : ∃ N, N = (nrow na).length := ⟨_, rfl⟩
    have HN := Lib.hid hN
    have hk1 : (N : Int) - 1 = (k : Int) := by omega
    have hne : ((N : Int) == 0) = false := by simp; omega
    have hkL : (k : Int) < (N : Int) := by omega
    have hk0 : (0 : Int) ≤ (k : Int) := by omega
    clear hk t1 t2 t3 t4 hpos hbt h64 hN hl hlen
    go_enter Tryd.func54, Tryd.ntmps54
    go_wp2_with fail
    refine HT.out.mono ?_
    rintro e w' ⟨v, rfl, hv, rfl⟩
    obtain ⟨a', ca', rfl, _, _, m⟩ := hv
    obtain ⟨b, off, rfl, hc⟩ := m k (by have := HK.out; omega)
    rw [HT1.out] at hc
    clear m
    rw [← HN.out]
    go_wp2_with fail
    refine HLEN.out.mono ?_
    rintro e w' ⟨rfl, rfl⟩
    go_wp2_with fail
    go_ret
    exact ⟨by rw [HT4.out]; first | rfl | go_num | simp, rfl⟩

end
end Go.Proofs.YtcbebikcfcidmaaDoor

namespace Go.Proofs.YtcbebikcfcidmaaDoor
set_option maxRecDepth 100000
open Go.RowKit

end Go.Proofs.YtcbebikcfcidmaaDoor

namespace Go.Proofs.YtcbebikcfcidmaaDoor
set_option maxRecDepth 100000
open Go.RowKit

theorem NRow.off {B g : Nat} {w : World} {v : Value} {L : List Nat} (h : NRow B w v L) (hg : w.heap.size ≤ g) : v.ownBlock ≠ some g := fun e => by
  have := (World.ownsRow.lt h _ e).2
  omega
theorem NNum.setCell {K n : Nat} {w : World} {v : Value} {p : Addr} (h : NNum K w v n) (hp : v.ownBlock ≠ some p.block) (u : Value) : NNum K (w.setCell p u) v n := by
  obtain ⟨a, cap, L, rfl, h2, h3, h4, h5, h6, h7⟩ := h
  refine ⟨a, cap, L, rfl, h2, h3, h4, fun i hi => ?_, h6, h7⟩
  obtain ⟨b, off, rfl, hc⟩ := h5 i hi
  refine ⟨b, off, rfl, ?_⟩
  rw [World.cell?_setCell_other]
  · exact hc
  · intro e
    apply hp
    subst e
    rfl

end Go.Proofs.YtcbebikcfcidmaaDoor

namespace Go.Proofs.YtcbebikcfcidmaaDoor
set_option maxRecDepth 100000
open Go.RowKit

/-- A slice tells one number. -/
theorem NNum.uniq {K n m : Nat} {w : World} {v : Value} (h : NNum K w v n) (k : NNum K w v m) : n = m := by
  obtain ⟨a, cap, L, rfl, _, _, _, h5, rfl, _⟩ := h
  obtain ⟨a', cap', L', he, _, _, _, k5, rfl, _⟩ := k
  injection he with e1 e2 e3
  subst e1
  congr 1
  apply List.ext_getElem e2
  intro i h1 h2
  obtain ⟨b, off, ha, hc⟩ := h5 i h1
  obtain ⟨b', off', ha', hc'⟩ := k5 i h2
  rw [ha] at ha'
  injection ha' with ha'
  cases ha'
  rw [hc] at hc'
  injection hc' with hc'
  injection hc' with _ hc'
  rw [List.getD_eq_getElem?_getD, List.getD_eq_getElem?_getD, List.getElem?_eq_getElem h1, List.getElem?_eq_getElem h2] at hc'
  have h : (L[i] : Int) = (L'[i] : Int) := by simpa using hc'
  omega
open Classical in
/-- The number that a slice tells (for a loop's measure). -/
noncomputable def toldBy (K : Nat) (w : World) (v : Value) : Nat := if h : ∃ n, NNum K w v n then h.choose else 0
theorem toldBy_eq {K n : Nat} {w : World} {v : Value} (h : NNum K w v n) : toldBy K w v = n := by
  unfold toldBy
  rw [dif_pos ⟨n, h⟩]
  exact (Exists.choose_spec (p := fun n => NNum K w v n) ⟨n, h⟩).uniq h

end Go.Proofs.YtcbebikcfcidmaaDoor

namespace Go.Proofs.YtcbebikcfcidmaaDoor
set_option maxRecDepth 100000
open Go.RowKit

theorem lv_set {l : List Nat} {j : Nat} (h : j < l.length) (v : Nat) : lv (l.set j v) + 2 ^ (64 * j) * l.getD j 0 = lv l + 2 ^ (64 * j) * v := by
  induction l generalizing j with
  | nil => simp at h
  | cons a l ih =>
    rcases j with _ | j
    · simp [lv]; omega
    · have h1 := ih (j := j) (by simpa using h)
      simp only [List.set_cons_succ, lv, List.getD_cons_succ]
      rw [Nat.mul_add 64, Nat.mul_one, Nat.add_comm (64 * j), Nat.pow_add, Nat.mul_assoc, Nat.mul_assoc]
      generalize lv (l.set j v) = p at *
      generalize 2 ^ (64 * j) * l.getD j 0 = q at *
      generalize 2 ^ (64 * j) * v = s at *
      omega
end Go.Proofs.YtcbebikcfcidmaaDoor

namespace Go.Proofs.YtcbebikcfcidmaaDoor
set_option maxRecDepth 100000
open Go.RowKit

end Go.Proofs.YtcbebikcfcidmaaDoor

namespace Go.Proofs.YtcbebikcfcidmaaDoor
set_option maxRecDepth 100000
open Go.RowKit

end Go.Proofs.YtcbebikcfcidmaaDoor

namespace Go.Proofs.YtcbebikcfcidmaaDoor
set_option maxRecDepth 100000
open Go.RowKit

/-- Decimal digits; none for 0. -/
def dec (v : Nat) : List UInt8 := if _h : v = 0 then [] else dec (v / 10) ++ [byt (48 + v % 10)]
termination_by v
decreasing_by omega
theorem dec_zero : dec 0 = [] := by rw [dec]; simp
theorem dec_step {v : Nat} (h : v ≠ 0) : dec v = dec (v / 10) ++ [byt (48 + v % 10)] := by rw [dec, dif_neg h]
theorem dec_length {v k : Nat} (h : v < 10 ^ k) : (dec v).length ≤ k := by
  induction k generalizing v with
  | zero =>
    have : v = 0 := by simpa using h
    subst this; rw [dec_zero]; simp
  | succ k ih =>
    by_cases h0 : v = 0
    · subst h0; rw [dec_zero]; simp
    · rw [dec_step h0, List.length_append]
      have := ih (v := v / 10) (by rw [Nat.div_lt_iff_lt_mul (by omega)]; rw [Nat.pow_succ] at h; exact h)
      simp; omega
/-- A number's text. -/
def decT (v : Nat) : List UInt8 := if v = 0 then [48] else dec v
theorem dec_ne {v : Nat} (h : v ≠ 0) : dec v ≠ [] := by rw [dec_step h]; simp

def StrPost (l : List UInt8) (w : World) (e : Ending) (w' : World) : Prop := e = .returned (.string (mk l)) ∧ Below w.heap.size w w'
end Go.Proofs.YtcbebikcfcidmaaDoor

namespace Go.Proofs.YtcbebikcfcidmaaDoor
set_option maxRecDepth 100000
open Go.RowKit

end Go.Proofs.YtcbebikcfcidmaaDoor

namespace Go.Proofs.YtcbebikcfcidmaaDoor
open Go.RowKit

end Go.Proofs.YtcbebikcfcidmaaDoor

namespace Go.Proofs.YtcbebikcfcidmaaDoor
open Go.RowKit

theorem NRow.form {B : Nat} {w : World} {v : Value} {L : List Nat} (h : NRow B w v L) (hl : 0 < L.length) : ∃ g cap, v = .slice (some ⟨g, 0, none⟩) L.length cap := by
  rcases h.2 with ⟨_, h0⟩ | ⟨g, cap, _, hv, _⟩
  · omega
  · exact ⟨g, cap, hv⟩
/-- A row of the call's own, not nil. -/
def GRes (B n : Nat) (w : World) (e : Ending) (w' : World) : Prop :=
  ∃ g cap, e = .returned (.slice (some ⟨g, 0, none⟩) (nrow n).length cap) ∧ NRow B w' (.slice (some ⟨g, 0, none⟩) (nrow n).length cap) (nrow n) ∧ Below B w w'

end Go.Proofs.YtcbebikcfcidmaaDoor

namespace Go.Proofs.YtcbebikcfcidmaaDoor
open Go.RowKit

theorem GRes.cells {B n : Nat} {w w' : World} {e : Ending} (h : GRes B n w e w') : ∃ v, e = .returned v ∧ NRow B w' v (nrow n) ∧ Below B w w' := by
  obtain ⟨g, cap, h1, h2, h3⟩ := h
  exact ⟨_, h1, h2, h3⟩

end Go.Proofs.YtcbebikcfcidmaaDoor

namespace Go.Proofs.YtcbebikcfcidmaaDoor
open Go.RowKit

def ByLimbPost (g off b : Nat) (A : List Nat) (w : World) (e : Ending) (w' : World) : Prop :=
  ∃ (O : List Nat) (r : Nat), e = .returned (.int .u64 (r : Int)) ∧ O.length = A.length ∧ Fits O ∧ lv O = lv A / b ∧ r = lv A % b ∧ Seg w' g off O ∧ Wrote g off (off + A.length) w w'

/-- The highest limbs divided. -/
def ByLimbAt (g off b : Nat) (A : List Nat) (w : World) (l i : Value) (W : World) : Prop :=
  ∃ (j r : Nat) (O : List Nat), j ≤ A.length ∧ i = .int .i64 ((j : Int) - 1) ∧ l = .int .u64 (r : Int) ∧ r < b ∧ O.length = A.length - j ∧ Fits O ∧ lv (A.drop j) = lv O * b + r ∧ Seg W g off (A.take j ++ O) ∧ Wrote g off (off + A.length) w W

theorem drop_pred {A : List Nat} {j : Nat} (hj : j < A.length) : lv (A.drop j) = A.getD j 0 + 18446744073709551616 * lv (A.drop (j + 1)) := by
  rw [List.drop_eq_getElem_cons hj]
  simp [lv, hj]
theorem set_pred {A O : List Nat} {j x : Nat} (hj : j < A.length) : (A.take (j + 1) ++ O).set j x = A.take j ++ (x :: O) := by
  have hl : (A.take j).length = j := by rw [List.length_take]; omega
  rw [List.take_succ_eq_append_getElem hj, List.append_assoc, List.set_append_right _ _ (by omega), hl, Nat.sub_self]
  rfl

set_option maxRecDepth 100000 in
set_option maxHeartbeats 4000000 in
theorem divideByLimb_any (g off ca b : Nat) (A : List Nat) (w : World) (hA : A.length ≤ 1099511627776) (fA : Fits A) (hb0 : 0 < b) (hb : b < 18446744073709551616) (hs : Seg w g off A) :
    Calls Tryd.prog 45 #[.slice (some ⟨g, off, none⟩) A.length ca, .int .u64 (b : Int)] w (ByLimbPost g off b A w) := by
  have FA := Lib.hid fA
  have HS := Lib.hid hs
  clear fA hs
  go_enter Tryd.func45, Tryd.ntmps45
  go_wp2_with fail
  go_loopw [5, 6] (fun l i W => ByLimbAt g off b A w l i W) (fun _ i _ => (intOf i + 1).toNat)
  case atStart => exact ⟨A.length, 0, [], Nat.le_refl _, rfl, rfl, hb0, by simp, fun x hx => (by cases hx), by simp [lv], by rw [List.take_length, List.append_nil]; exact HS.out, Wrote.refl _ _ _ _⟩
  case round =>
    obtain ⟨j, r, O, hj, rfl, rfl, hr, hO, fO, hv, hsg, hw⟩ := hrel
    have HO := Lib.hid hO
    have HFO := Lib.hid fO
    have HV := Lib.hid hv
    have HSG := Lib.hid hsg
    have HW := Lib.hid hw
    clear hO fO hv hsg hw
    rcases j with _ | j
    · have HR : Hid (lv O = lv A / b ∧ r = lv A % b) := Lib.hid (by
        have h := HV.out
        rw [List.drop_zero] at h
        rw [h, Nat.mul_comm, Nat.mul_add_div hb0, Nat.div_eq_of_lt hr, Nat.add_zero, Nat.mul_add_mod, Nat.mod_eq_of_lt hr]
        exact ⟨rfl, rfl⟩)
      go_wp2_with fail
      go_ret
      exact ⟨O, r, rfl, by have := HO.out; omega, HFO.out, HR.out.1, HR.out.2, by have := HSG.out; rwa [List.take_zero, List.nil_append] at this, HW.out⟩
    · have hjI : (((j + 1 : Nat) : Int) - 1) = (j : Int) := by omega
      rw [hjI]
      have hj0 : (0 : Int) ≤ (j : Int) := by omega
      have hjA : (j : Int) < (A.length : Int) := by omega
      obtain ⟨x, hx⟩ : ∃ x, x = A.getD j 0 := ⟨_, rfl⟩
      have hlen : (A.take (j + 1) ++ O).length = A.length := by rw [List.length_append, List.length_take, HO.out]; omega
      have hcell := HSG.out.cell (i := j) (by omega)
      have hxe : (A.take (j + 1) ++ O).getD j 0 = x := by
        rw [hx, List.getD_eq_getElem?_getD, List.getD_eq_getElem?_getD, List.getElem?_append_left (by rw [List.length_take]; omega)]
        simp
      rw [hxe] at hcell
      have hfr := HSG.out.frozen (off + j)
      have hxb : x < 18446744073709551616 := by rw [hx]; exact getD_fits FA.out j
      have HD := Lib.hid (div64_any r x b hxb hb hr wr)
      have hq1 : (r * 18446744073709551616 + x) / b < 18446744073709551616 := by
        rw [Nat.div_lt_iff_lt_mul hb0]
        have : (r + 1) * 18446744073709551616 ≤ b * 18446744073709551616 := Nat.mul_le_mul_right _ hr
        rw [Nat.mul_comm 18446744073709551616]
        omega
      have hq2 := Nat.div_add_mod' (r * 18446744073709551616 + x) b
      have hq3 := Nat.mod_lt (r * 18446744073709551616 + x) hb0
      have HJ := Lib.hid hjI
      have HXX := Lib.hid hx
      have HQ1 := Lib.hid hq1
      have HQ2 := Lib.hid hq2
      have HQ3 := Lib.hid hq3
      clear hjI hlen hxe hx hq1 hq2 hq3
      go_wp2_with fail
      refine HD.out.mono ?_
      rintro e w1 ⟨q, r', rfl, hq, hr', k, rfl⟩
      have hv2 : lv (A.drop j) = lv (q :: O) * b + r' := by
        rw [drop_pred (by omega), ← HXX.out, HV.out]
        have h := HQ2.out
        rw [← hq, ← hr'] at h
        show _ = (q + 2 ^ 64 * lv O) * b + r'
        rw [Nat.add_mul, Nat.mul_add, Nat.mul_assoc]
        omega
      have HV2 := Lib.hid hv2
      have s1 := (HSG.out.drewN k).set (k := j) (by rw [List.length_append, List.length_take, HO.out]; omega) q
      rw [set_pred (by omega)] at s1
      have HS1 := Lib.hid s1
      have HW1 : Hid (Wrote g off (off + A.length) w ((wr.drewN k).setCell ⟨g, off + j, none⟩ (.int .u64 (q : Int)))) := Lib.hid ((HW.out.drewN k).setIn (by omega) (by omega) _)
      have HF1 : Hid (Fits (q :: O)) := Lib.hid (fun y hy => by
        rcases List.mem_cons.1 hy with rfl | hy
        · rw [hq]; exact HQ1.out
        · exact HFO.out y hy)
      have HR1 : Hid (r' < b) := Lib.hid (by rw [hr']; exact HQ3.out)
      clear hv2 s1 hq hr'
      go_wp2_with fail
      go_roundw
      case rel => exact ⟨j, r', q :: O, by omega, rfl, rfl, HR1.out, by rw [List.length_cons, HO.out]; omega, HF1.out, HV2.out, HS1.out, HW1.out⟩
      case measure => simp [intOf]
end Go.Proofs.YtcbebikcfcidmaaDoor
