/-
  The texts NatQShift, NatQShr, NatDivide2, NatStepsM, NatMix, one behind the other.
-/
import Derived.Test.YtofpcdjoljjnoaaDoorTapZ06
import Derived.Test.YtofpcdjoljjnoaaDoorTapZ14
import Derived.Test.YtofpcdjoljjnoaaDoorTapZ13
import Derived.Test.YtofpcdjoljjnoaaDoorTapZ11
import Derived.Test.YtofpcdjoljjnoaaDoorTapZ01
import Derived.Test.YtofpcdjoljjnoaaDoorTapZ12

namespace Go.Proofs.YtofpcdjoljjnoaaDoor
open Go.RowKit

theorem set_at {Z R : List Nat} {n p : Nat} (hZ : Z.length = n) {y : Nat} : (Z ++ p :: R).set n y = Z ++ y :: R := by
  rw [List.set_append_right _ _ (by omega), hZ, Nat.sub_self]; rfl
theorem blen_le_row (n : Nat) : blen n ≤ 64 * (nrow n).length := by
  rcases Nat.lt_or_ge (64 * (nrow n).length) (blen n) with h | h
  · exfalso
    have h1 := lv_lt (nrow_fits n)
    rw [lv_nrow] at h1
    have h2 : n ≠ 0 := by rintro rfl; unfold blen at h; simp at h
    have h3 : 2 ^ (blen n - 1) ≤ n := by unfold blen; rw [if_neg h2]; simpa using Nat.log2_self_le h2
    have h4 : 2 ^ (64 * (nrow n).length) ≤ 2 ^ (blen n - 1) := Nat.pow_le_pow_right (by omega) (by omega)
    omega
  · exact h
/-- Where a row's limbs have been shifted, up to place k. -/
def UpAt (B g q r N : Nat) (L : List Nat) (w : World) (i : Value) (W : World) : Prop :=
  ∃ (k p : Nat) (Q : List Nat), k ≤ L.length ∧ i = .int .i64 (k : Int) ∧ Q.length = k ∧ Fits Q ∧ p < 2 ^ r ∧ lv Q + 2 ^ (64 * k) * p = lv (L.take k) * 2 ^ r ∧
    NRow B W (.slice (some ⟨g, 0, none⟩) N N) ((List.replicate q 0 ++ Q) ++ p :: List.replicate (L.length - k) 0) ∧ Below B w W

set_option maxRecDepth 100000 in
set_option maxHeartbeats 4000000 in
theorem shiftUp_any (a : Option Addr) (ca : Nat) (L : List Nat) (s : Nat) (w : World) (hL : L.length ≤ 1048576) (hs : s ≤ 1048576) (fL : Fits L) (mL : NatAt w a L) :
    Calls Tryd.prog 88 #[.slice a L.length ca, .int .i64 (s : Int)] w (OwnRes (nrow (lv L * 2 ^ s)) w) := by
  obtain ⟨i0, hi, hz0, hz1, hz2⟩ := info_parts info_u64
  obtain ⟨q, hq⟩ : ∃ q, q = s / 64 := ⟨_, rfl⟩
  obtain ⟨r, hr⟩ : ∃ r, r = s % 64 := ⟨_, rfl⟩
  have hqI : (s : Int) / 64 = (q : Int) := by omega
  have hrI : (s : Int) % 64 = (r : Int) := by omega
  have hr63 : r ≤ 63 := by omega
  have hrI63 : (r : Int) ≤ 63 := by omega
  have hsI : (s : Int) ≤ 1048576 := by omega
  have hs0 : (0 : Int) ≤ (s : Int) := by omega
  obtain ⟨N, hN⟩ : ∃ N, N = q + L.length + 1 := ⟨_, rfl⟩
  have HN : Hid ((q : Int) + (L.length : Int) + 1 = (N : Int)) := Lib.hid (by omega)
  have hN1 : N ≤ 4194304 := by omega
  have hNI : (N : Int) ≤ 4194304 := by omega
  have hqI2 : (q : Int) ≤ 1048576 := by omega
  have hLI : (L.length : Int) ≤ 1048576 := by omega
  have HS : Hid (s = 64 * q + r) := Lib.hid (by omega)
  have HNN := Lib.hid hN
  have FL := Lib.hid fL
  have ML := Lib.hid mL
  obtain ⟨B, hB⟩ : ∃ B, B = w.heap.size := ⟨_, rfl⟩
  have HBB := Lib.hid hB
  clear hq hr hN fL mL
  rw [show OwnRes (nrow (lv L * 2 ^ s)) w = fun e w' => ∃ v, e = .returned v ∧ NRow B w' v (nrow (lv L * 2 ^ s)) ∧ Below B w w' from by rw [hB]; rfl]
  clear hB
  go_enter Tryd.func88, Tryd.ntmps88
  go_wp2_with (
    (at_make
     refine wpList_make_full _ rfl _ _ 29 rfl B 64 i0 (.int .u64 0) 1 Tryd.underlying29 hi hz0 hz1 .i64 .i64 _ _ N rfl rfl HN.out HN.out (by rw [hz2]; omega) (by unfold maxLen; omega) (Nat.le_of_eq HBB.out) ?_
     intro w0 hown0 hg0
     have HO := Lib.hid (made_zeros hown0)
     have HB : Hid (Below B w w0) := Lib.hid ((Below.refl _ w).grown hg0 (Nat.le_of_eq HBB.out) (fun k hk => by cases hk))
     clear hown0 hg0))
  obtain ⟨g, hg⟩ : ∃ g, g = w.heap.size := ⟨_, rfl⟩
  rw [← hg] at HO ⊢
  have HO := Lib.hid HO.out
  have HG := Lib.hid hg
  clear hg
  go_loopw [22] (fun i W => UpAt B g q r N L w i W) (fun i _ => L.length - (intOf i).toNat)
  case atStart =>
    refine ⟨0, 0, [], Nat.zero_le _, rfl, rfl, fun x hx => (by simp at hx), Nat.two_pow_pos _, by simp [lv], ?_, HB.out⟩
    have e : (List.replicate q 0 ++ []) ++ 0 :: List.replicate (L.length - 0) 0 = List.replicate N 0 := by
      rw [List.append_nil, Nat.sub_zero, ← List.replicate_succ, List.replicate_append_replicate, HNN.out]; rfl
    rw [e]; exact HO.out
  case round =>
    obtain ⟨k, p, Q, hk, rfl, hQ, fQ, hp, hv, hrow, hbel⟩ := hrel
    have HQ := Lib.hid hQ
    have FQ := Lib.hid fQ
    have HP := Lib.hid hp
    have HV := Lib.hid hv
    have HROW := Lib.hid hrow
    have HBEL := Lib.hid hbel
    clear hQ fQ hp hv hrow hbel
    have hk0 : (0 : Int) ≤ (k : Int) := by omega
    by_cases hlt : k < L.length
    · have hkI : (k : Int) < (L.length : Int) := by omega
      have ml : NatAt wr a L := ML.out.below HBEL.out (Nat.le_of_eq HBB.out.symm)
      obtain ⟨b, off, rfl, hc1⟩ := ml k hlt
      obtain ⟨x, hx⟩ : ∃ x, x = L.getD k 0 := ⟨_, rfl⟩
      rw [← hx] at hc1
      have hxb : x < 18446744073709551616 := by rw [hx]; exact getD_fits FL.out k
      have hq0 : (List.replicate q 0 ++ Q).length = q + k := by rw [List.length_append, List.length_replicate, HQ.out]
      have hlk : L.length - k = (L.length - (k + 1)) + 1 := by omega
      have hrow := HROW.out
      rw [hlk, List.replicate_succ] at hrow
      have hlen : ((List.replicate q 0 ++ Q) ++ p :: 0 :: List.replicate (L.length - (k + 1)) 0).length = N := by
        rw [List.length_append, hq0, HNN.out]; simp; omega
      have hsg := hrow.seg.2.2.2.2.2
      have hgp : ((List.replicate q 0 ++ Q) ++ p :: 0 :: List.replicate (L.length - (k + 1)) 0).getD (q + k) 0 = p := by
        rw [List.getD_eq_getElem?_getD, List.getElem?_append_right (by rw [hq0]; exact Nat.le_refl _), hq0, Nat.sub_self]
        rfl
      have hc2 := hsg.cell (i := q + k) (by rw [hlen, HNN.out]; omega)
      rw [hgp, Nat.zero_add] at hc2
      have hfr := hsg.frozen
      obtain ⟨m, hm⟩ : ∃ m, m = q + k := ⟨_, rfl⟩
      obtain ⟨t, ht⟩ : ∃ t, t = 64 - r := ⟨_, rfl⟩
      have htI : (64 : Int) - (r : Int) = (t : Int) := by omega
      have hpow : 2 ^ t * 2 ^ r = 18446744073709551616 := by rw [← Nat.pow_add, show t + r = 64 by omega]
      obtain ⟨hh, hhh⟩ : ∃ hh, hh = x / 2 ^ t := ⟨_, rfl⟩
      obtain ⟨z, hzd⟩ : ∃ z, z = x % 2 ^ t * 2 ^ r := ⟨_, rfl⟩
      have hmod : x % 2 ^ t < 2 ^ t := Nat.mod_lt _ (Nat.two_pow_pos _)
      have hzb : z < 18446744073709551616 := by
        rw [hzd, ← hpow]; exact Nat.mul_lt_mul_of_pos_right hmod (Nat.two_pow_pos _)
      have hsplit : x * 2 ^ r = z + hh * 18446744073709551616 := by
        have h := Nat.mod_add_div x (2 ^ t)
        rw [← hhh] at h
        have h2 : (x % 2 ^ t + 2 ^ t * hh) * 2 ^ r = x * 2 ^ r := by rw [h]
        rw [Nat.add_mul, ← hzd] at h2
        have h3 : 2 ^ t * hh * 2 ^ r = hh * 18446744073709551616 := by rw [← hpow, Nat.mul_comm (2 ^ t) hh, Nat.mul_assoc]
        omega
      have hhb : hh < 2 ^ r := by
        rw [hhh, Nat.div_lt_iff_lt_mul (Nat.two_pow_pos _), Nat.mul_comm, hpow]; exact hxb
      have hw1 : IntKind.u64.wrap ((x : Int) * 2 ^ r) = (z : Int) := by
        rw [show (x : Int) * 2 ^ r = ((x * 2 ^ r : Nat) : Int) by simp, wrap_nat, hsplit]; omega
      obtain ⟨y, hy⟩ : ∃ y, y = z + p := ⟨_, rfl⟩
      have hw2 : bits .or .u64 (p : Int) (z : Int) = (y : Int) := by
        have hp64 : p < 18446744073709551616 := Nat.lt_of_lt_of_le HP.out (Nat.le_trans (Nat.pow_le_pow_right (j := 63) (by omega) hr63) (by decide))
        rw [u64_or_nat _ _ hp64 hzb, hy, hzd, Nat.or_comm, Nat.mul_comm (x % 2 ^ t), ← Nat.two_pow_add_eq_or_of_lt HP.out]
      have hyb : y < 18446744073709551616 := by
        have h1 : x % 2 ^ t + 1 ≤ 2 ^ t := hmod
        have h2 := Nat.mul_le_mul_right (2 ^ r) h1
        rw [hpow, Nat.add_mul, Nat.one_mul, ← hzd] at h2
        have := HP.out
        omega
      have hw3 : (x : Int) / 2 ^ t = (hh : Int) := by rw [hhh]; simp
      have hmI : (q : Int) + (k : Int) = (m : Int) := by omega
      have hmN : (m : Int) + 1 < (N : Int) := by have := HNN.out; omega
      have hm0 : (0 : Int) ≤ (m : Int) := by omega
      have hmN2 : (m : Int) < (N : Int) := by omega
      have hrow1 := hrow.set (i := q + k) (by rw [hlen, HNN.out]; omega) y
      rw [set_at hq0] at hrow1
      have hrow2 : NRow B (wr.setCell ⟨g, q + k, none⟩ (.int .u64 (y : Int))).drew (.slice (some ⟨g, 0, none⟩) N N) (((List.replicate q 0 ++ Q) ++ [y]) ++ 0 :: List.replicate (L.length - (k + 1)) 0) := by
        rw [List.append_assoc (List.replicate q 0 ++ Q)]; exact hrow1
      have hf2 : (wr.setCell ⟨g, q + k, none⟩ (.int .u64 (y : Int))).drew.frozen? ⟨g, q + k + 1, none⟩ = false := hrow2.seg.2.2.2.2.2.frozen _
      have hc3 := hrow2.seg.2.2.2.2.2.cell (i := q + k + 1) (by rw [List.length_append, List.length_append, hq0]; simp)
      rw [Nat.zero_add] at hc3
      have hrow3 := hrow2.set (i := q + k + 1) (by rw [List.length_append, List.length_append, hq0]; simp) hh
      rw [set_at (by rw [List.length_append, hq0]; rfl), List.append_assoc (List.replicate q 0)] at hrow3
      have HROW3 := Lib.hid hrow3
      have hBg : B ≤ g := by rw [HG.out]; exact Nat.le_of_eq HBB.out
      have HBEL3 := Lib.hid (Below.setCell (p := ⟨g, q + k + 1, none⟩) (show Below B w (wr.setCell ⟨g, q + k, none⟩ (.int .u64 (y : Int))).drew from below_drewN (HBEL.out.setCell (p := ⟨g, q + k, none⟩) hBg (.int .u64 (y : Int))) 1) hBg (.int .u64 (hh : Int)))
      have HVN : Hid (lv (Q ++ [y]) + 2 ^ (64 * (k + 1)) * hh = lv (L.take (k + 1)) * 2 ^ r) := Lib.hid (by
        rw [lv_snoc, HQ.out, lv_take_succ', ← hx, Nat.add_mul, ← HV.out, hy, show 64 * (k + 1) = 64 * k + 64 by omega, Nat.pow_add, Nat.mul_assoc (2 ^ (64 * k)) x, hsplit, Nat.mul_add, Nat.mul_add]
        have e : 2 ^ (64 * k) * 2 ^ 64 * hh = 2 ^ (64 * k) * (hh * 18446744073709551616) := by rw [Nat.mul_assoc, Nat.mul_comm (2 ^ 64) hh]
        omega)
      have HFN := Lib.hid (fits_snoc FQ.out hyb)
      have HHB := Lib.hid hhb
      have HQN : Hid ((Q ++ [y]).length = k + 1) := Lib.hid (by rw [List.length_append, HQ.out]; rfl)
      rw [← hm] at hc2 hf2 hc3 HROW3 HBEL3
      have hf1 := hfr m
      have HLT := Lib.hid hlt
      generalize ((((List.replicate q 0 ++ Q) ++ [y]) ++ 0 :: List.replicate (L.length - (k + 1)) 0).getD (q + k + 1) 0) = z0 at hc3
      have hy0 : (0 : Int) ≤ (y : Int) := by omega
      have hx0 : (0 : Int) ≤ (x : Int) := by omega
      have hxI : (x : Int) < 18446744073709551616 := by omega
      have ht0 : (0 : Int) ≤ (t : Int) := by omega
      have ht1 : (t : Int) ≤ 64 := by omega
      clear hx hq0 hlk hrow hlen hsg hgp hfr hm ht hpow hhh hzd hmod hzb hsplit hhb hy hyb hrow1 hrow2 hrow3 hlt
      go_wp2_with fail
      go_region
      all_goals (go_wp2_with fail)
      all_goals (refine ⟨⟨k + 1, hh, Q ++ [y], HLT.out, by go_num, HQN.out, HFN.out, HHB.out, HVN.out, HROW3.out, HBEL3.out⟩, ?_⟩)
      all_goals (have := HLT.out; simp [intOf]; omega)
    · obtain rfl : k = L.length := by omega
      have hlv : lv (((List.replicate q 0 ++ Q) ++ p :: List.replicate (L.length - L.length) 0)) = lv L * 2 ^ s := by
        have h := HV.out
        rw [List.take_length] at h
        rw [Nat.sub_self, List.replicate_zero, lv_snoc, lv_append, lv_zeros, List.length_append, List.length_replicate, HQ.out, HS.out, Nat.pow_add, Nat.mul_add, Nat.pow_add, Nat.zero_add, Nat.mul_comm (2 ^ (64 * q)) (2 ^ r), ← Nat.mul_assoc, ← h, Nat.add_mul]
        rw [Nat.mul_comm (lv Q), Nat.mul_right_comm, Nat.mul_comm (2 ^ (64 * L.length)), Nat.mul_assoc (2 ^ (64 * q)) p, Nat.mul_comm (2 ^ (64 * q)) (p * _)]
      have hfit : Fits (((List.replicate q 0 ++ Q) ++ p :: List.replicate (L.length - L.length) 0)) := by
        rw [Nat.sub_self, List.replicate_zero]
        refine fits_snoc (fits_append (fits_zeros _) FQ.out) ?_
        exact Nat.lt_of_lt_of_le HP.out (Nat.le_trans (Nat.pow_le_pow_right (j := 63) (by omega) hr63) (by decide))
      have hlen : (((List.replicate q 0 ++ Q) ++ p :: List.replicate (L.length - L.length) 0)).length ≤ 1099511627776 := by
        rw [Nat.sub_self, List.length_append, List.length_append, List.length_replicate, HQ.out]; simp; omega
      have HT := Lib.hid (trim_own HROW.out hfit hlen)
      rw [hlv] at HT
      have hkk : (L.length : Int) ≤ (L.length : Int) := Int.le_refl _
      clear hlv hfit hlen hlt
      go_wp2_with fail
      refine HT.out.mono ?_
      rintro e w1 ⟨v, rfl, hv, rfl⟩
      have HV1 := Lib.hid hv
      clear hv
      go_wp2_with fail
      go_ret
      exact ⟨_, rfl, HV1.out, HBEL.out⟩

section
variable {K : Nat} {w : World} {va : Value} {na : Nat}

end
end Go.Proofs.YtofpcdjoljjnoaaDoor

namespace Go.Proofs.YtofpcdjoljjnoaaDoor
open Go.RowKit
section
variable {K : Nat} {w : World} {va : Value} {na : Nat}
end
end Go.Proofs.YtofpcdjoljjnoaaDoor

namespace Go.Proofs.YtofpcdjoljjnoaaDoor
open Go.RowKit

theorem blen_lower {t : Nat} (h : blen t = 64) : 9223372036854775808 ≤ t := by
  unfold blen at h
  split at h
  · omega
  · rename_i h0
    have h1 := Nat.log2_self_le h0
    have h2 : Nat.log2 t = 63 := by omega
    rw [h2] at h1
    exact h1
/-- The divisor's top bit, set by a shift. -/
theorem top_shift {d n P : Nat} (h0 : d ≠ 0) (hl : (nrow d).length = P + 2) (hn : n + blen ((nrow d).getD (P + 1) 0) = 64) : (nrow (d * 2 ^ n)).length = P + 2 ∧ 9223372036854775808 ≤ (nrow (d * 2 ^ n)).getD (P + 1) 0 := by
  obtain ⟨t, t1, t2, t3, t4⟩ := blen_nrow h0
  rw [hl, show P + 2 - 1 = P + 1 from rfl] at t1 t4
  rw [t1] at hn
  have h1 : d * 2 ^ n ≠ 0 := Nat.mul_ne_zero h0 (by have := Nat.two_pow_pos n; omega)
  obtain ⟨u, u1, u2, u3, u4⟩ := blen_nrow h1
  rw [blen_shl h0, t4] at u4
  have hu := blen_le (show u < 2 ^ 64 from u2)
  have hup := blen_pos u3
  have hp : 0 < (nrow (d * 2 ^ n)).length := by
    rcases Nat.eq_zero_or_pos (nrow (d * 2 ^ n)).length with h | h
    · exact absurd (nrow_nil.1 (List.eq_nil_of_length_eq_zero h)) h1
    · exact h
  have hlen : (nrow (d * 2 ^ n)).length = P + 2 := by omega
  refine ⟨hlen, ?_⟩
  rw [hlen, show P + 2 - 1 = P + 1 from rfl] at u1 u4
  rw [u1]
  exact blen_lower (by omega)
theorem nrow_mono {a b : Nat} (h : a ≤ b) : (nrow a).length ≤ (nrow b).length := by
  rcases Nat.lt_or_ge (nrow b).length (nrow a).length with h1 | h1
  · have := nrow_lt h1; omega
  · exact h1
theorem NRow.head0 {B n c : Nat} {w : World} {a : Option Addr} {R : List Nat} (h : NRow B w (.slice a n c) R) (hl : 0 < R.length) : ∃ g, a = some ⟨g, 0, none⟩ ∧ B ≤ g := by
  rcases h.2 with ⟨_, h0⟩ | ⟨g, cap, _, hv, hg, _⟩
  · omega
  · cases hv; exact ⟨g, rfl, hg⟩

set_option maxRecDepth 100000 in
set_option maxHeartbeats 4000000 in
theorem divide_two (a b : Option Addr) (ca cb na nb P : Nat) (w : World) (hl : (nrow nb).length = P + 2) (hle : (nrow nb).length ≤ (nrow na).length) (hs : (nrow na).length ≤ 524288) (ma : NatAt w a (nrow na)) (mb : NatAt w b (nrow nb)) :
    Calls Tryd.prog 78 #[.slice a (nrow na).length ca, .slice b (nrow nb).length cb] w (DivideRes na nb w) := by
  have h0 : nb ≠ 0 := fun e => by rw [e, nrow_zero] at hl; simp at hl
  obtain ⟨t, ht1, ht2, ht3, ht4⟩ := blen_nrow h0
  rw [hl, show P + 2 - 1 = P + 1 from rfl] at ht1 ht4
  obtain ⟨bb, ob, rfl, _⟩ := mb 0 (by omega)
  have hcell : w.cell? ⟨bb, ob + (P + 1), none⟩ = some (.int .u64 (t : Int)) := by
    obtain ⟨b', o', e', hc⟩ := mb (P + 1) (by omega)
    cases e'; rw [ht1] at hc; exact hc
  have hbt := blen_le (show t < 2 ^ 64 from ht2)
  have hbp := blen_pos ht3
  obtain ⟨n, hn⟩ : ∃ n, n + blen t = 64 := ⟨64 - blen t, by omega⟩
  obtain ⟨htl, htt⟩ := top_shift (n := n) h0 hl (by rw [ht1]; exact hn)
  have hlz := Tryd.bits_LeadingZeros64 t w (by omega) (by omega)
  rw [Int.toNat_natCast, bitLen_blen ht2, show (64 : Int) - (blen t : Int) = (n : Int) by omega] at hlz
  have HLZ := Lib.hid hlz
  obtain ⟨La, hLa⟩ : ∃ La, La = (nrow na).length := ⟨_, rfl⟩
  obtain ⟨Lb, hLb⟩ : ∃ Lb, Lb = (nrow nb).length := ⟨_, rfl⟩
  have hnlt : ¬ (La : Int) < (Lb : Int) := by omega
  have hn1 : ((Lb : Int) == 1) = false := by simp; omega
  have hLbI : (Lb : Int) - 1 = ((P + 1 : Nat) : Int) := by omega
  obtain ⟨P1, hP1⟩ : ∃ P1, P1 = P + 1 := ⟨_, rfl⟩
  rw [← hP1] at hLbI hcell
  have hP1b : (P1 : Int) < (Lb : Int) := by omega
  have hP10 : (0 : Int) ≤ (P1 : Int) := by omega
  have hLb9 : (Lb : Int) ≤ 524288 := by omega
  have hLb2 : (2 : Int) ≤ (Lb : Int) := by omega
  have hn63 : n ≤ 63 := by omega
  have hnI : (n : Int) ≤ 63 := by omega
  have hn0 : (0 : Int) ≤ (n : Int) := by omega
  have hup1 := shiftUp_any a ca (nrow na) n w (by omega) (by omega) (nrow_fits na) ma
  rw [lv_nrow, ← hLa] at hup1
  have HU1 := Lib.hid hup1
  have HLa := Lib.hid hLa
  have HLb := Lib.hid hLb
  have HL := Lib.hid hl
  have HLE := Lib.hid hle
  have HS := Lib.hid hs
  have H0 := Lib.hid h0
  have MB := Lib.hid mb
  have HTL := Lib.hid htl
  have HTT := Lib.hid htt
  have HN63 := Lib.hid hn63
  rw [← hLa, ← hLb]
  clear hlz hup1 hLa hLb hl hle hs h0 mb ma htl htt hn hbt hbp ht1 ht2 ht3 ht4 hn63 hP1
  go_enter Tryd.func78, Tryd.ntmps78
  go_wp2_with fail
  refine HLZ.out.mono ?_
  rintro e w' ⟨rfl, hw'⟩
  rw [hw']
  clear hw' w'
  go_wp2_with fail
  refine HU1.out.mono ?_
  rintro e w1 ⟨v1, rfl, hr1, hb1⟩
  have hup2 := shiftUp_any (some ⟨bb, ob, none⟩) cb (nrow nb) n w1 (by have := HLE.out; have := HS.out; omega) (by have := HN63.out; omega) (nrow_fits nb) (MB.out.below hb1 (Nat.le_refl _))
  rw [lv_nrow, ← HLb.out] at hup2
  have HU2 := Lib.hid hup2
  have HR1 := Lib.hid hr1
  have HB1 := Lib.hid hb1
  clear hup2 hr1 hb1
  go_wp2_with fail
  refine HU2.out.mono ?_
  rintro e w2 ⟨v2, rfl, hr2, hb2⟩
  have HB2 := Lib.hid (HB1.out.trans (hb2.mono HB1.out.size))
  have hr1' := HR1.out.below hb2 (Nat.le_refl _)
  have hla1 : (nrow nb).length ≤ (nrow (na * 2 ^ n)).length := Nat.le_trans HLE.out (nrow_mono (Nat.le_mul_of_pos_right na (Nat.two_pow_pos n)))
  have hla2 : (nrow (na * 2 ^ n)).length ≤ 1048576 := by
    have h1 := lv_lt (nrow_fits na)
    rw [lv_nrow] at h1
    have h2 : na * 2 ^ n < 2 ^ (64 * ((nrow na).length + 1)) := by
      rw [show 64 * ((nrow na).length + 1) = 64 * (nrow na).length + 64 by omega, Nat.pow_add]
      exact Nat.mul_lt_mul'' h1 (Nat.pow_lt_pow_right (by omega) (by have := HN63.out; omega))
    have h3 := nrow_length_le h2
    have := HS.out
    omega
  obtain ⟨A1, c1, rfl, hc1, _, _⟩ := hr1'.at_
  obtain ⟨g1, rfl, hg1⟩ := hr1'.head0 (by have := HL.out; omega)
  obtain ⟨A2, c2, rfl, hc2, _, hat2⟩ := hr2.at_
  obtain ⟨g2, rfl, hg2⟩ := hr2.head0 (by rw [HTL.out]; omega)
  have hg12 : g2 ≠ g1 := by
    have h1 := HR1.out.seg.2.2.2.2.2.block
    omega
  have hdl := divLong_any w.heap.size g1 g2 0 c1 c2 P (nb * 2 ^ n) (na * 2 ^ n) w2 HB2.out.size HTL.out (by rw [← HL.out]; exact hla1) hla2 HTT.out hc2 hr1' hat2 hg12
  have HDL := Lib.hid hdl
  have HLA1 := Lib.hid hla1
  clear hdl hr1' hat2 hr2 hg12 hg1 hg2 hc1 hc2 hla1 hla2 hb2
  go_wp2_with fail
  refine HDL.out.mono ?_
  rintro e w3 ⟨q, r, rfl, hq, hr, hb3⟩
  have hp2 : 0 < 2 ^ n := Nat.two_pow_pos n
  rw [Nat.mul_div_mul_right _ _ hp2] at hq
  rw [Nat.mul_mod_mul_right] at hr
  have HQ := Lib.hid hq
  have HB3 := Lib.hid (HB2.out.trans hb3)
  obtain ⟨A3, c3, rfl, hc3, _, hat3⟩ := hr.at_
  have hrl : (nrow (na % nb * 2 ^ n)).length ≤ P + 2 := by
    rw [← HTL.out]
    exact nrow_mono (Nat.mul_le_mul_right _ (Nat.le_of_lt (Nat.mod_lt _ (Nat.pos_of_ne_zero H0.out))))
  have hdn := shiftDown_any A3 c3 (nrow (na % nb * 2 ^ n)) n w3 (by have h1 := HL.out; have h2 := HLb.out; omega) hc3 (by have := HN63.out; omega) (nrow_fits _) hat3
  rw [lv_nrow, Nat.mul_div_cancel _ hp2] at hdn
  have HDN := Lib.hid hdn
  clear hq hr hb3 hc3 hat3 hrl hdn hp2
  go_wp2_with fail
  refine HDN.out.mono ?_
  rintro e w4 ⟨v4, rfl, hr4, hb4⟩
  have HR4 := Lib.hid (hr4.more (B' := w.heap.size) HB3.out.size)
  have HQ4 := Lib.hid (HQ.out.below hb4 (Nat.le_refl _))
  have HB4 := Lib.hid (HB3.out.trans (hb4.mono HB3.out.size))
  clear hr4 hb4
  go_wp2_with fail
  go_ret2
  exact ⟨_, _, rfl, HQ4.out, HR4.out, HB4.out⟩
/-- divide, of any numbers. -/
theorem divides_all {na nb : Nat} (h0 : nb ≠ 0) (hs : (nrow na).length ≤ 524288) : Divides na nb := by
  intro a b ca cb w h1 h2 h3 h4 ma mb
  rcases Nat.lt_or_ge (nrow na).length (nrow nb).length with h | h
  · exact divide_less a b ca cb na nb w h (by omega) h1 h2 ma
  · by_cases hl : (nrow nb).length = 1
    · exact divides_small hl (by omega) a b ca cb w h1 h2 h3 h4 ma mb
    · have hp : 0 < (nrow nb).length := by
        rcases Nat.eq_zero_or_pos (nrow nb).length with h | h
        · exact absurd (nrow_nil.1 (List.eq_nil_of_length_eq_zero h)) h0
        · exact h
      exact divide_two a b ca cb na nb ((nrow nb).length - 2) w (by omega) h hs ma mb
end Go.Proofs.YtofpcdjoljjnoaaDoor

namespace Go.Proofs.YtofpcdjoljjnoaaDoor

def dl (odd : Bool) : Int := if odd then 1 else -1
theorem dl_not (odd : Bool) : dl (!odd) = - dl odd := by cases odd <;> rfl

/-- What the last two remainders are, if there are two. -/
def LastOK (A B LA LB : Nat) (odd : Bool) (X : Nat) : Prop :=
  LB = 0 ∨ ∃ L : Nat, (L : Int) = - dl odd * ((A : Int) * LA - B * LB) ∧ X < L ∧ L ≤ B ∧ Nat.gcd L X = Nat.gcd A B
/-- The state of the steps. -/
structure TS (A B xh yh x y LA LB NA NB AA AB X : Nat) (odd : Bool) : Prop where
  h1 : xh = x * AB + y * NB
  h2 : yh = x * AA + y * NA
  det : (NA : Int) * AB - NB * AA = dl odd
  le1 : AA ≤ AB
  le2 : NA + AA ≤ NB + AB
  pos1 : 1 ≤ AB
  pos2 : 1 ≤ NA + AA
  yx : y ≤ x
  tr : (X : Int) = dl odd * ((A : Int) * NA - B * NB)
  top : NB = 0 ∨ X ≤ B
  gcd : Int.gcd X (dl odd * ((B : Int) * AB - A * AA)) = Nat.gcd A B
  last : LastOK A B LA LB odd X

theorem TS.start {A B xh yh : Nat} (h : yh ≤ xh) : TS A B xh yh xh yh 0 0 1 0 0 1 A true :=
  ⟨by omega, by omega, by simp [dl], by omega, by omega, by omega, by omega, h, by simp [dl], .inl rfl, by simp [dl, Int.gcd], .inl rfl⟩

theorem certify {A B xh yh E ea eb x y LA LB NA NB AA AB X : Nat} {odd : Bool} (hA : A = xh * E + ea) (hB : B = yh * E + eb) (ha : ea < E) (hb : eb < E) (h : TS A B xh yh x y LA LB NA NB AA AB X odd)
    (c1 : AB ≤ y) (c2 : y + (NB + AB) ≤ x) : 0 ≤ dl odd * ((B : Int) * AB - A * AA) ∧ dl odd * ((B : Int) * AB - A * AA) < X := by
  obtain ⟨h1, h2, det, le1, le2, pos1, pos2, yx, tr, _, _, _⟩ := h
  have m1 : E * AB ≤ E * y := Nat.mul_le_mul_left E c1
  have m2 : ea * AA ≤ E * AB := Nat.mul_le_mul (Nat.le_of_lt ha) le1
  have m3 : eb * AB ≤ E * AB := Nat.mul_le_mul_right _ (Nat.le_of_lt hb)
  have m4 : E * y + E * (NB + AB) ≤ E * x := by rw [← Nat.mul_add]; exact Nat.mul_le_mul_left E c2
  have m5 : eb * (NB + AB) < E * (NB + AB) := Nat.mul_lt_mul_of_pos_right hb (by omega)
  have m6 : ea * (NA + AA) < E * (NA + AA) := Nat.mul_lt_mul_of_pos_right ha (by omega)
  have m7 : E * (NA + AA) ≤ E * (NB + AB) := Nat.mul_le_mul_left E le2
  rw [tr]
  have eA : (A : Int) = xh * E + ea := by rw [hA]; simp
  have eB : (B : Int) = yh * E + eb := by rw [hB]; simp
  have eh1 : (xh : Int) = x * AB + y * NB := by rw [h1]; simp
  have eh2 : (yh : Int) = x * AA + y * NA := by rw [h2]; simp
  cases odd
  · have d : (NA : Int) * AB - NB * AA = -1 := det
    have y1 : -1 * ((B : Int) * AB - A * AA) = E * y - eb * AB + ea * AA := by
      rw [eA, eB, eh1, eh2]; grind
    have y2 : -1 * ((A : Int) * NA - B * NB) = E * x - ea * NA + eb * NB := by
      rw [eA, eB, eh1, eh2]; grind
    show 0 ≤ -1 * ((B : Int) * AB - A * AA) ∧ -1 * ((B : Int) * AB - A * AA) < -1 * ((A : Int) * NA - B * NB)
    rw [y1, y2]
    have n1 : (E : Int) * AB ≤ E * y := by exact_mod_cast m1
    have n3 : (eb : Int) * AB ≤ E * AB := by exact_mod_cast m3
    have n2 : (0 : Int) ≤ ea * AA := by exact_mod_cast Nat.zero_le (ea * AA)
    have n4 : (E : Int) * y + E * (NB + AB) ≤ E * x := by exact_mod_cast m4
    have n6 : (ea : Int) * (NA + AA) < E * (NA + AA) := by exact_mod_cast m6
    have n7 : (E : Int) * (NA + AA) ≤ E * (NB + AB) := by exact_mod_cast m7
    have n8 : (0 : Int) ≤ eb * (NB + AB) := by exact_mod_cast Nat.zero_le (eb * (NB + AB))
    rw [Int.mul_add] at n4 n6 n7 n8
    rw [Int.mul_add] at n6 n7
    constructor <;> omega
  · have d : (NA : Int) * AB - NB * AA = 1 := det
    have y1 : 1 * ((B : Int) * AB - A * AA) = E * y + eb * AB - ea * AA := by
      rw [eA, eB, eh1, eh2]; grind
    have y2 : 1 * ((A : Int) * NA - B * NB) = E * x + ea * NA - eb * NB := by
      rw [eA, eB, eh1, eh2]; grind
    show 0 ≤ 1 * ((B : Int) * AB - A * AA) ∧ 1 * ((B : Int) * AB - A * AA) < 1 * ((A : Int) * NA - B * NB)
    rw [y1, y2]
    have n1 : (E : Int) * AB ≤ E * y := by exact_mod_cast m1
    have n2 : (ea : Int) * AA ≤ E * AB := by exact_mod_cast m2
    have n3 : (0 : Int) ≤ eb * AB := by exact_mod_cast Nat.zero_le (eb * AB)
    have n4 : (E : Int) * y + E * (NB + AB) ≤ E * x := by exact_mod_cast m4
    have n5 : (eb : Int) * (NB + AB) < E * (NB + AB) := by exact_mod_cast m5
    have n8 : (0 : Int) ≤ ea * (NA + AA) := by exact_mod_cast Nat.zero_le (ea * (NA + AA))
    rw [Int.mul_add] at n4 n5 n8
    rw [Int.mul_add] at n5
    constructor <;> omega

theorem TS.step {A B xh yh E ea eb x y LA LB NA NB AA AB X q r : Nat} {odd : Bool} (hA : A = xh * E + ea) (hB : B = yh * E + eb) (ha : ea < E) (hb : eb < E) (h : TS A B xh yh x y LA LB NA NB AA AB X odd)
    (c1 : AB ≤ y) (c2 : y + (NB + AB) ≤ x) (hq : q = x / y) (hr : r = x % y) : ∃ Y, TS A B xh yh y r NA NB AA AB (NA + q * AA) (NB + q * AB) Y (!odd) := by
  obtain ⟨p1, p2⟩ := certify hA hB ha hb h c1 c2
  obtain ⟨h1, h2, det, le1, le2, pos1, pos2, yx, tr, top, gc, last⟩ := h
  obtain ⟨Y, hY⟩ := Int.eq_ofNat_of_zero_le p1
  rw [hY] at p2 gc
  have hYX : Y < X := by omega
  have hdm := Nat.div_add_mod x y
  rw [← hq, ← hr] at hdm
  have hrl : r < y := by rw [hr]; exact Nat.mod_lt _ (by omega)
  have hq1 : 1 ≤ q := by rw [hq]; exact Nat.div_pos (by omega) (by omega)
  have hqa : q * AA ≤ q * AB := Nat.mul_le_mul_left q le1
  have hqa2 : AA ≤ q * AA := Nat.le_mul_of_pos_left AA hq1
  have hqb2 : AB ≤ q * AB := Nat.le_mul_of_pos_left AB hq1
  have hq3 : NA + q * AA ≤ NB + q * AB := by
    obtain ⟨k, rfl⟩ : ∃ k, q = k + 1 := ⟨q - 1, by omega⟩
    have := Nat.mul_le_mul_left k le1
    rw [Nat.add_mul, Nat.add_mul, Nat.one_mul, Nat.one_mul]
    omega
  refine ⟨Y, ⟨?_, ?_, ?_, hq3, by omega, by omega, by omega, by omega, ?_, ?_, ?_, ?_⟩⟩
  · rw [h1, ← hdm, Nat.add_mul, Nat.mul_add, ← Nat.mul_assoc y q AB]; omega
  · rw [h2, ← hdm, Nat.add_mul, Nat.mul_add, ← Nat.mul_assoc y q AA]; omega
  · rw [dl_not, ← det]; push_cast; grind
  · rw [← hY, dl_not]; grind
  · refine .inr ?_
    rcases top with h0 | h0
    · subst h0
      have hdet : (NA : Int) * AB = dl odd := by rw [← det]; simp
      cases odd
      · exfalso
        have h9 : (0 : Int) ≤ NA * AB := by exact_mod_cast Nat.zero_le (NA * AB)
        rw [hdet] at h9
        simp [dl] at h9
      · have h9 : NA * AB = 1 := by
          have : ((NA * AB : Nat) : Int) = 1 := by push_cast; exact hdet
          exact_mod_cast this
        have hAB : AB = 1 := by
          rcases Nat.eq_zero_or_pos NA with h | h
          · rw [h] at h9; omega
          · have := Nat.le_mul_of_pos_left AB h; omega
        rw [hAB] at hY
        have h8 : (0 : Int) ≤ A * AA := by exact_mod_cast Nat.zero_le (A * AA)
        simp [dl] at hY
        omega
    · omega
  · have e : dl (!odd) * ((B : Int) * ((NB + q * AB : Nat) : Int) - A * ((NA + q * AA : Nat) : Int)) = X - Y * q := by
      rw [dl_not, tr, ← hY]; push_cast; grind
    rw [e, Int.gcd_sub_mul_left_right, Int.gcd_comm]
    exact gc
  · rcases Nat.eq_zero_or_pos NB with h0 | h0
    · exact .inl h0
    · refine .inr ⟨X, by rw [dl_not, Int.neg_neg]; exact tr, hYX, top.resolve_left (by omega), ?_⟩
      exact gc
/-- The factors stay small. -/
theorem TS.small {A B xh yh x y LA LB NA NB AA AB X : Nat} {odd : Bool} (h : TS A B xh yh x y LA LB NA NB AA AB X odd) (hx : 1 ≤ x) : AB ≤ xh ∧ AA ≤ xh := by
  have h1 := h.h1
  have h2 : AB ≤ x * AB := Nat.le_mul_of_pos_left AB hx
  have := h.le1
  constructor <;> omega
theorem TS.small2 {A B xh yh x y LA LB NA NB AA AB X : Nat} {odd : Bool} (h : TS A B xh yh x y LA LB NA NB AA AB X odd) (hx : 1 ≤ x) (hy : 1 ≤ y) : NB + AB ≤ xh := by
  have h1 := h.h1
  have h2 : AB ≤ x * AB := Nat.le_mul_of_pos_left AB hx
  have h3 : NB ≤ y * NB := Nat.le_mul_of_pos_left NB hy
  omega
end Go.Proofs.YtofpcdjoljjnoaaDoor

namespace Go.Proofs.YtofpcdjoljjnoaaDoor
open Go.RowKit

/-- The five numbers that a mix holds. -/
def Mx (W : World) (p m l c o b : Nat) : Prop := W.heap[p]? = some (.cells #[.int .u64 (m : Int), .int .u64 (l : Int), .int .u64 (c : Int), .int .u64 (o : Int), .int .u64 (b : Int)] 148 (0, 0))
section
variable {W : World} {p m l c o b : Nat}
theorem Mx.lt (h : Mx W p m l c o b) : p < W.heap.size := (Array.getElem?_eq_some_iff.1 h).1
theorem Mx.cell (h : Mx W p m l c o b) : W.cell? ⟨p, 0, none⟩ = some (.int .u64 (m : Int)) ∧ W.cell? ⟨p, 1, none⟩ = some (.int .u64 (l : Int)) ∧ W.cell? ⟨p, 2, none⟩ = some (.int .u64 (c : Int)) ∧ W.cell? ⟨p, 3, none⟩ = some (.int .u64 (o : Int)) ∧ W.cell? ⟨p, 4, none⟩ = some (.int .u64 (b : Int)) :=
  ⟨by rw [cell_of_row W p 0 _ _ _ h]; rfl, by rw [cell_of_row W p 1 _ _ _ h]; rfl, by rw [cell_of_row W p 2 _ _ _ h]; rfl, by rw [cell_of_row W p 3 _ _ _ h]; rfl, by rw [cell_of_row W p 4 _ _ _ h]; rfl⟩
theorem Mx.free (h : Mx W p m l c o b) (i : Nat) : W.frozen? ⟨p, i, none⟩ = false := by
  unfold Mx at h; simp [World.frozen?, h]
theorem Mx.of_block {W' : World} (h : Mx W p m l c o b) (e : W'.heap[p]? = W.heap[p]?) : Mx W' p m l c o b := e.trans h
theorem Mx.set0 (h : Mx W p m l c o b) (k : Nat) : Mx (W.setCell ⟨p, 0, none⟩ (.int .u64 (k : Int))) p k l c o b := by
  unfold Mx at h ⊢
  simp [World.setCell, Array.getElem?_modify, h]
theorem Mx.set1 (h : Mx W p m l c o b) (k : Nat) : Mx (W.setCell ⟨p, 1, none⟩ (.int .u64 (k : Int))) p m k c o b := by
  unfold Mx at h ⊢
  simp [World.setCell, Array.getElem?_modify, h]
theorem Mx.set2 (h : Mx W p m l c o b) (k : Nat) : Mx (W.setCell ⟨p, 2, none⟩ (.int .u64 (k : Int))) p m l k o b := by
  unfold Mx at h ⊢
  simp [World.setCell, Array.getElem?_modify, h]
theorem Mx.set3 (h : Mx W p m l c o b) (k : Nat) : Mx (W.setCell ⟨p, 3, none⟩ (.int .u64 (k : Int))) p m l c k b := by
  unfold Mx at h ⊢
  simp [World.setCell, Array.getElem?_modify, h]
theorem Mx.set4 (h : Mx W p m l c o b) (k : Nat) : Mx (W.setCell ⟨p, 4, none⟩ (.int .u64 (k : Int))) p m l c o k := by
  unfold Mx at h ⊢
  simp [World.setCell, Array.getElem?_modify, h]
end
/-- A mix, laid cell by cell over zeros. -/
theorem Mx.fill {W : World} {z m l : Nat} (h : Mx W z 0 0 0 0 0) :
    (W.cell? ⟨z, 0, none⟩ = some (.int .u64 0) ∧ W.frozen? ⟨z, 0, none⟩ = false) ∧
    ((W.setCell ⟨z, 0, none⟩ (.int .u64 (m : Int))).cell? ⟨z, 1, none⟩ = some (.int .u64 0) ∧ (W.setCell ⟨z, 0, none⟩ (.int .u64 (m : Int))).frozen? ⟨z, 1, none⟩ = false) ∧
    (((W.setCell ⟨z, 0, none⟩ (.int .u64 (m : Int))).setCell ⟨z, 1, none⟩ (.int .u64 (l : Int))).cell? ⟨z, 2, none⟩ = some (.int .u64 0) ∧ ((W.setCell ⟨z, 0, none⟩ (.int .u64 (m : Int))).setCell ⟨z, 1, none⟩ (.int .u64 (l : Int))).frozen? ⟨z, 2, none⟩ = false) ∧
    ((((W.setCell ⟨z, 0, none⟩ (.int .u64 (m : Int))).setCell ⟨z, 1, none⟩ (.int .u64 (l : Int))).setCell ⟨z, 2, none⟩ (.int .u64 0)).cell? ⟨z, 3, none⟩ = some (.int .u64 0) ∧ (((W.setCell ⟨z, 0, none⟩ (.int .u64 (m : Int))).setCell ⟨z, 1, none⟩ (.int .u64 (l : Int))).setCell ⟨z, 2, none⟩ (.int .u64 0)).frozen? ⟨z, 3, none⟩ = false) ∧
    (((((W.setCell ⟨z, 0, none⟩ (.int .u64 (m : Int))).setCell ⟨z, 1, none⟩ (.int .u64 (l : Int))).setCell ⟨z, 2, none⟩ (.int .u64 0)).setCell ⟨z, 3, none⟩ (.int .u64 0)).cell? ⟨z, 4, none⟩ = some (.int .u64 0) ∧ ((((W.setCell ⟨z, 0, none⟩ (.int .u64 (m : Int))).setCell ⟨z, 1, none⟩ (.int .u64 (l : Int))).setCell ⟨z, 2, none⟩ (.int .u64 0)).setCell ⟨z, 3, none⟩ (.int .u64 0)).frozen? ⟨z, 4, none⟩ = false) ∧
    Mx (((((W.setCell ⟨z, 0, none⟩ (.int .u64 (m : Int))).setCell ⟨z, 1, none⟩ (.int .u64 (l : Int))).setCell ⟨z, 2, none⟩ (.int .u64 0)).setCell ⟨z, 3, none⟩ (.int .u64 0)).setCell ⟨z, 4, none⟩ (.int .u64 0)) z m l 0 0 0 := by
  have t1 := h.set0 m
  have t2 := t1.set1 l
  have t3 := t2.set2 0
  have t4 := t3.set3 0
  exact ⟨⟨h.cell.1, h.free 0⟩, ⟨t1.cell.2.1, t1.free 1⟩, ⟨t2.cell.2.2.1, t2.free 2⟩, ⟨t3.cell.2.2.2.1, t3.free 3⟩, ⟨t4.cell.2.2.2.2, t4.free 4⟩, t4.set4 0⟩
theorem Mx.other {W : World} {p m l c o b : Nat} (h : Mx W p m l c o b) {q : Addr} (hq : q.block ≠ p) (v : Value) : Mx (W.setCell q v) p m l c o b := h.of_block (Below.heap_setCell _ _ _ _ (fun e => hq e.symm))
theorem own_set (w : World) (g i : Nat) (v : Value) : w.grownBy (w.setCell ⟨g, i, none⟩ v) (some g) :=
  ⟨rfl, rfl, rfl, by simp [World.setCell], fun k _ hk => Below.heap_setCell _ _ _ _ (by intro e; subst e; exact hk rfl)⟩
theorem own_trans {a b c : World} {g : Nat} (h : a.grownBy b (some g)) (k : b.grownBy c (some g)) : a.grownBy c (some g) :=
  ⟨k.os.trans h.os, k.tape.trans h.tape, k.output.trans h.output, Nat.le_trans h.size k.size, fun i hi hg => (k.block i (Nat.lt_of_lt_of_le hi h.size) hg).trans (h.block i hi hg)⟩
theorem own_drew {a b : World} {g : Nat} (h : a.grownBy b (some g)) : a.grownBy b.drew (some g) := ⟨h.os, h.tape, h.output, h.size, h.block⟩
theorem mix_math {x y m l c o b M hi1 lo1 hi2 lo2 l1 q1 l2 q2 r q3 : Nat} (h1 : x * m = M * hi1 + lo1) (h2 : lo1 + c = M * q1 + l1) (h3 : y * l = M * hi2 + lo2) (h4 : lo2 + o = M * q2 + l2) (h5 : r + l2 + b = l1 + M * q3) :
    r + y * l + o + b + M * (hi1 + q1) = x * m + c + M * (q3 + (hi2 + q2)) := by
  rw [h1, h3, Nat.mul_add M hi1 q1, Nat.mul_add M q3, Nat.mul_add M hi2 q2]
  omega
def MixPost (p x y m l c o b : Nat) (w : World) (e : Ending) (w' : World) : Prop :=
  ∃ r c' o' b' : Nat, e = .returned (.int .u64 (r : Int)) ∧ r < 18446744073709551616 ∧ c' < 18446744073709551616 ∧ o' < 18446744073709551616 ∧ b' ≤ 1 ∧ r + y * l + o + b + 18446744073709551616 * c' = x * m + c + 18446744073709551616 * (b' + o') ∧ Mx w' p m l c' o' b' ∧ w.grownBy w' (some p)

set_option maxRecDepth 100000 in
set_option maxHeartbeats 600000 in
theorem mix_any (p x y m l c o b : Nat) (w : World) (hx : x < 18446744073709551616) (hy : y < 18446744073709551616) (hm : m < 18446744073709551616) (hl : l < 18446744073709551616) (hc : c < 18446744073709551616) (ho : o < 18446744073709551616) (hb : b ≤ 1) (h : Mx w p m l c o b) :
    Calls Tryd.prog 85 #[.pointer (some ⟨p, 0, none⟩), .int .u64 (x : Int), .int .u64 (y : Int)] w (MixPost p x y m l c o b w) := by
  have hm1 := mul_small hx hm
  have hm2 := mul_small hy hl
  have HM1 := Lib.hid (fun W => Tryd.bits_Mul64 x m hx hm W)
  have HM2 := Lib.hid (fun W => Tryd.bits_Mul64 y l hy hl W)
  obtain ⟨hi1, hhi1⟩ : ∃ hi, hi = x * m / 18446744073709551616 := ⟨_, rfl⟩
  obtain ⟨lo1, hlo1⟩ : ∃ lo, lo = x * m % 18446744073709551616 := ⟨_, rfl⟩
  obtain ⟨hi2, hhi2⟩ : ∃ hi, hi = y * l / 18446744073709551616 := ⟨_, rfl⟩
  obtain ⟨lo2, hlo2⟩ : ∃ lo, lo = y * l % 18446744073709551616 := ⟨_, rfl⟩
  rw [← hhi1, ← hlo1] at HM1
  rw [← hhi2, ← hlo2] at HM2
  have HM1 := Lib.hid HM1.out
  have HM2 := Lib.hid HM2.out
  have hadd1 := run_add64 lo1 c 0 (by omega)
  obtain ⟨l1, hl1⟩ : ∃ l1, l1 = (lo1 + c + 0) % 18446744073709551616 := ⟨_, rfl⟩
  obtain ⟨q1, hq1⟩ : ∃ q1, q1 = (lo1 + c + 0) / 18446744073709551616 := ⟨_, rfl⟩
  rw [← hl1, ← hq1] at hadd1
  have hadd2 := run_add64 lo2 o 0 (by omega)
  obtain ⟨l2, hl2⟩ : ∃ l2, l2 = (lo2 + o + 0) % 18446744073709551616 := ⟨_, rfl⟩
  obtain ⟨q2, hq2⟩ : ∃ q2, q2 = (lo2 + o + 0) / 18446744073709551616 := ⟨_, rfl⟩
  rw [← hl2, ← hq2] at hadd2
  have hsub := run_sub64 l1 l2 b (by omega)
  obtain ⟨r, hr⟩ : ∃ r, r = (l1 + 18446744073709551616 - l2 - b) % 18446744073709551616 := ⟨_, rfl⟩
  obtain ⟨q3, hq3⟩ : ∃ q3, q3 = if l1 < l2 + b then 1 else 0 := ⟨_, rfl⟩
  rw [← hr, ← hq3] at hsub
  simp only [Int.natCast_zero] at hadd1 hadd2
  have hq3' : r + l2 + b = l1 + 18446744073709551616 * q3 ∧ q3 ≤ 1 ∧ r < 18446744073709551616 := by
    split at hq3 <;> omega
  have hmath := mix_math (x := x) (y := y) (m := m) (l := l) (c := c) (o := o) (b := b) (M := 18446744073709551616) (hi1 := hi1) (lo1 := lo1) (hi2 := hi2) (lo2 := lo2) (l1 := l1) (q1 := q1) (l2 := l2) (q2 := q2) (r := r) (q3 := q3)
    (by omega) (by omega) (by omega) (by omega) hq3'.1
  have i1 : (hi1 : Int) + (q1 : Int) = ((hi1 + q1 : Nat) : Int) := by omega
  have i2 : (hi2 : Int) + (q2 : Int) = ((hi2 + q2 : Nat) : Int) := by omega
  obtain ⟨k1, hk1⟩ : ∃ k1, k1 = hi1 + q1 := ⟨_, rfl⟩
  obtain ⟨k2, hk2⟩ : ∃ k2, k2 = hi2 + q2 := ⟨_, rfl⟩
  have hk1b : k1 < 18446744073709551616 := by omega
  have hk2b : k2 < 18446744073709551616 := by omega
  have j1 : (k1 : Int) ≤ 18446744073709551615 := by omega
  have j2 : (k2 : Int) ≤ 18446744073709551615 := by omega
  have j3 : (0 : Int) ≤ (k1 : Int) := by omega
  have j4 : (0 : Int) ≤ (k2 : Int) := by omega
  rw [← hk1] at i1 hmath
  rw [← hk2] at i2 hmath
  have HMATH := Lib.hid hmath
  have HR := Lib.hid hq3'
  have HK := Lib.hid (And.intro hk1b hk2b)
  have s1 := h.set2 k1
  have s2 := s1.set3 k2
  have s3 := s2.set4 q3
  have HS3 := Lib.hid s3
  obtain ⟨c0, c1, c2, c3, c4⟩ := h.cell
  have f2 := h.free 2
  obtain ⟨d0, d1, d2, d3, d4⟩ := s1.cell
  have g3 := s1.free 3
  obtain ⟨e0, e1, e2, e3, e4⟩ := s2.cell
  have g4 := s2.free 4
  clear hm1 hm2 hhi1 hlo1 hhi2 hlo2 hl1 hq1 hl2 hq2 hr hq3 hq3' hmath hk1 hk2 hk1b hk2b s1 s2 s3 h
  go_enter Tryd.func85, Tryd.ntmps85
  go_wp2_with fail
  refine (HM1.out _).mono ?_
  rintro e W ⟨rfl, hW⟩
  rw [hW]
  clear hW W
  go_wp2_with fail
  refine (HM2.out _).mono ?_
  rintro e W ⟨rfl, hW⟩
  rw [hW]
  clear hW W
  go_wp2_with fail
  go_ret
  exact ⟨r, k1, k2, q3, rfl, HR.out.2.2, HK.out.1, HK.out.2, HR.out.2.1, HMATH.out, HS3.out, own_trans (own_trans (own_set _ _ _ _) (own_set _ _ _ _)) (own_set _ _ _ _)⟩
end Go.Proofs.YtofpcdjoljjnoaaDoor
