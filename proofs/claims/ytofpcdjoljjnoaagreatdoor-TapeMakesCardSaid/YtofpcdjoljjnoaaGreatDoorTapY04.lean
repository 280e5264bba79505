/-
  The texts NatBits, NatBits2, NatNum, NatSmall, NatQSum, NatQMul, NatCompare, NatCompare2, NatSubtract, NatSubNil, NatQFace, one behind the other.
-/
import Derived.Test.YtofpcdjoljjnoaaGreatDoorTapY03
import Derived.Laws.BitsAllLaws
import Derived.Test.YtofpcdjoljjnoaaGreatDoorTapY02
import Derived.Laws.CopyOwn
import Derived.Laws.Rows

namespace Go.Proofs.YtofpcdjoljjnoaaGreatDoor
set_option maxRecDepth 100000
open Go.RowKit

/-- The bit of a place. -/
def bitV (v : Nat) (i : Int) : Nat := if i < 0 then 0 else v / 2 ^ i.toNat % 2
theorem bitV_lt (v : Nat) (i : Int) : bitV v i < 2 := by unfold bitV; split <;> omega

/-- How many bits. -/
def blen (v : Nat) : Nat := if v = 0 then 0 else v.log2 + 1
theorem lt_blen (v : Nat) : v < 2 ^ blen v := by
  unfold blen
  split
  · rename_i h; subst h; decide
  · exact Nat.lt_log2_self
theorem blen_of {v k : Nat} (h1 : v < 2 ^ (k + 1)) (h2 : v / 2 ^ k % 2 = 1) : blen v = k + 1 := by
  have h3 : 2 ^ k ≤ v := by
    apply Classical.byContradiction
    intro h
    rw [Nat.div_eq_of_lt (by omega)] at h2
    simp at h2
  have h0 : v ≠ 0 := by have := Nat.two_pow_pos k; omega
  unfold blen
  rw [if_neg h0]
  congr 1
  exact (Nat.log2_eq_iff h0).2 ⟨h3, h1⟩
theorem blen_le {v k : Nat} (h : v < 2 ^ k) : blen v ≤ k := by
  unfold blen
  split
  · omega
  · rename_i h0
    have := (Nat.log2_lt h0).2 h
    omega
theorem blen_ge {v : Nat} (h : v ≠ 0) : 2 ^ (blen v - 1) ≤ v := by
  unfold blen
  rw [if_neg h, Nat.add_sub_cancel]
  exact Nat.log2_self_le h

theorem lv_bit {L : List Nat} (h : Fits L) (i : Nat) : lv L / 2 ^ i % 2 = L.getD (i / 64) 0 / 2 ^ (i % 64) % 2 := by
  rw [← lv_limb h (i / 64)]
  have e : lv L / 2 ^ i = lv L / 2 ^ (64 * (i / 64)) / 2 ^ (i % 64) := by
    rw [Nat.div_div_eq_div_mul, ← Nat.pow_add, Nat.div_add_mod]
  rw [e]
  generalize lv L / 2 ^ (64 * (i / 64)) = x
  have hr : i % 64 < 64 := Nat.mod_lt _ (by omega)
  generalize i % 64 = r at *
  have h1 := Nat.mod_mul_right_div_self x (2 ^ r) (2 ^ (64 - r))
  rw [← Nat.pow_add, show r + (64 - r) = 64 by omega] at h1
  rw [h1, Nat.mod_mod_of_dvd _ (show 2 ∣ 2 ^ (64 - r) from Nat.dvd_trans (by decide : 2 ∣ 2 ^ 1) (Nat.pow_dvd_pow 2 (by omega)))]

theorem and_one (n : Nat) (h : n < 18446744073709551616) : bits .and .u64 (n : Int) 1 = ((n % 2 : Nat) : Int) := by
  have e := u64_and_nat n 1 h (by omega)
  rw [show ((1 : Nat) : Int) = 1 from rfl] at e
  rw [e, Nat.and_one_is_mod]

set_option maxHeartbeats 1000000 in
theorem nbit_any (A : Option Addr) (cap : Nat) (L : List Nat) (j : Int) (w : World) (hl : L.length ≤ 1099511627776) (hjm : j ≤ 9223372036854775807) (hf : Fits L) (hc : NatAt w A L) :
    Calls Tryz.prog 87 #[.slice A L.length cap, .int .i64 j] w fun e w' => e = .returned (.int .u64 ((bitV (lv L) j : Nat) : Int)) ∧ w' = w := by
  have hlI : (L.length : Int) ≤ 1099511627776 := by omega
  by_cases hneg : j < 0
  · have HB : Hid (bitV (lv L) j = 0) := Lib.hid (by unfold bitV; rw [if_pos hneg])
    clear hc
    go_enter Tryz.func87, Tryz.ntmps87
    go_wp2_with fail
    go_ret
    exact ⟨by rw [HB.out]; rfl, rfl⟩
  · have hj0 : 0 ≤ j := by omega
    have hnB : decide (j < 0) = false := by simpa using hj0
    obtain ⟨i, hi⟩ : ∃ i : Nat, j = (i : Int) := ⟨j.toNat, by omega⟩
    have HV : Hid (bitV (lv L) j = L.getD (i / 64) 0 / 2 ^ (i % 64) % 2) := Lib.hid (by
      unfold bitV; rw [if_neg hneg, hi, Int.toNat_natCast, lv_bit hf])
    by_cases hlt : i / 64 < L.length
    · obtain ⟨b, off, rfl, hcell⟩ := hc (i / 64) hlt
      have hqI : j / 64 < (L.length : Int) := by omega
      have hq0 : 0 ≤ j / 64 := by omega
      have HQ : (j / 64).toNat = i / 64 := by omega
      have hcell' : w.cell? ⟨b, off + (j / 64).toNat, none⟩ = some (.int .u64 ((L.getD (i / 64) 0 : Nat) : Int)) := by rw [HQ]; exact hcell
      have hxl : L.getD (i / 64) 0 < 18446744073709551616 := by
        have h0 := hf (L.getD (i / 64) 0) (by rw [List.getD_eq_getElem?_getD, List.getElem?_eq_getElem hlt]; exact List.getElem_mem hlt)
        exact h0
      obtain ⟨r, hr⟩ : ∃ r : Nat, r = i % 64 := ⟨_, rfl⟩
      have hrI : j % 64 = (r : Int) := by omega
      have hr63 : (r : Int) ≤ 63 := by omega
      obtain ⟨D, hD⟩ : ∃ D : Nat, D = L.getD (i / 64) 0 / 2 ^ r := ⟨_, rfl⟩
      have hDl : D < 18446744073709551616 := by rw [hD]; exact Nat.lt_of_le_of_lt (Nat.div_le_self _ _) hxl
      have HV2 : Hid (bitV (lv L) j = D % 2) := Lib.hid (by rw [HV.out, hD, hr])
      obtain ⟨x, hx⟩ : ∃ x : Int, x = ((L.getD (i / 64) 0 : Nat) : Int) := ⟨_, rfl⟩
      rw [← hx] at hcell'
      have hxd : x / 2 ^ r = (D : Int) := by rw [hx, hD]; simp
      have hAN : bits .and .u64 (D : Int) 1 = ((D % 2 : Nat) : Int) := and_one D hDl
      have x0 : 0 ≤ x := by omega
      have x1 : x < 18446744073709551616 := by omega
      clear hc hcell HQ hi hlt HV hD hr hx hDl hxl hneg
      go_enter Tryz.func87, Tryz.ntmps87
      go_wp2_with fail
      go_ret
      exact ⟨by rw [HV2.out]; rfl, rfl⟩
    · have hge : (L.length : Int) ≤ j / 64 := by omega
      have HB : Hid (bitV (lv L) j = 0) := Lib.hid (by
        rw [HV.out, List.getD_eq_getElem?_getD, List.getElem?_eq_none (by omega)]; simp)
      clear hc hi hlt HV hneg
      go_enter Tryz.func87, Tryz.ntmps87
      go_wp2_with fail
      go_ret
      exact ⟨by rw [HB.out]; rfl, rfl⟩
end Go.Proofs.YtofpcdjoljjnoaaGreatDoor

namespace Go.Proofs.YtofpcdjoljjnoaaGreatDoor
set_option maxRecDepth 100000
open Go.RowKit

def BitsRel (L : List Nat) (n : Value) : Prop := ∃ k : Nat, k ≤ 64 * L.length ∧ n = .int .i64 (k : Int) ∧ lv L < 2 ^ k
def IntPost (w : World) (n : Nat) (e : Ending) (w' : World) : Prop := ∃ y : Int, y = (n : Int) ∧ e = .returned (.int .i64 y) ∧ w = w'

set_option maxHeartbeats 1000000 in
theorem nBits_any (A : Option Addr) (cap : Nat) (L : List Nat) (w : World) (hl : L.length ≤ 137438953472) (hf : Fits L) (hc : NatAt w A L) :
    Calls Tryz.prog 65 #[.slice A L.length cap] w (IntPost w (blen (lv L))) := by
  have HF := Lib.hid hf
  have HC := Lib.hid hc
  have hlI : (L.length : Int) ≤ 137438953472 := by omega
  clear hf hc
  go_enter Tryz.func65, Tryz.ntmps65
  go_wp2_with fail
  go_loop [3] (fun n => BitsRel L n) (fun n => (intOf n).toNat)
  case atStart => exact ⟨64 * L.length, Nat.le_refl _, by go_num, lv_lt HF.out⟩
  case round =>
    obtain ⟨k, hk, rfl, hv⟩ := hrel
    rcases k with _ | k
    · have HE : Hid (blen (lv L) = 0) := Lib.hid (by have : lv L = 0 := by simpa using hv
                                                     rw [this]; rfl)
      clear hv
      go_wp2_with fail
      go_ret
      exact ⟨0, by rw [HE.out]; rfl, rfl, rfl⟩
    · obtain ⟨j, hj⟩ : ∃ j : Int, j = (k : Int) := ⟨_, rfl⟩
      have HJ := Lib.hid hj
      have ej : ((k + 1 : Nat) : Int) = j + 1 := by omega
      rw [ej]
      have hj0 : 0 ≤ j := by omega
      have hjm : j ≤ 8796093022208 := by omega
      have hb := bitV_lt (lv L) j
      have hbv : bitV (lv L) j = lv L / 2 ^ k % 2 := by unfold bitV; rw [if_neg (by omega), hj, Int.toNat_natCast]
      have H := Lib.hid (nbit_any A cap L j w (by omega) (by omega) HF.out HC.out)
      by_cases h0 : bitV (lv L) j = 0
      · have HV : Hid (lv L < 2 ^ k) := Lib.hid (by
          rw [h0] at hbv
          apply Classical.byContradiction
          intro hge
          have h1 : lv L / 2 ^ k < 2 := by rw [Nat.div_lt_iff_lt_mul (Nat.two_pow_pos _)]; rw [Nat.pow_succ] at hv; omega
          have h2 : 1 ≤ lv L / 2 ^ k := by rw [Nat.le_div_iff_mul_le (Nat.two_pow_pos _)]; omega
          omega)
        have HK : Hid (k ≤ 64 * L.length) := Lib.hid (by omega)
        rw [h0] at H
        clear h0 hb hbv hv hj hk ej
        go_wp2_with (go_at_call 87; refine H.out.mono ?_; rintro e w' ⟨rfl, rfl⟩)
        go_round
        case rel => exact ⟨k, HK.out, by rw [HJ.out], HV.out⟩
        case measure => have := HJ.out; simp [intOf]; omega
      · have h1 : bitV (lv L) j = 1 := by omega
        have HE : Hid (blen (lv L) = k + 1) := Lib.hid (blen_of hv (by rw [← hbv]; exact h1))
        rw [h1] at H
        clear h0 h1 hb hbv hv hj hk ej
        go_wp2_with (go_at_call 87; refine H.out.mono ?_; rintro e w' ⟨rfl, rfl⟩)
        go_ret
        exact ⟨j + 1, by rw [HE.out, HJ.out]; rfl, rfl, rfl⟩

theorem ndigits_any (A : Option Addr) (cap : Nat) (L : List Nat) (w : World) (hl : L.length ≤ 137438953472) (hf : Fits L) (hc : NatAt w A L) :
    Calls Tryz.prog 102 #[.slice A L.length cap] w (IntPost w ((blen (lv L) + 31) / 32)) := by
  have H := Lib.hid (nBits_any A cap L w hl hf hc)
  have hb := blen_le (lv_lt hf)
  have hlI : blen (lv L) ≤ 8796093022208 := by omega
  clear hf hc hb
  go_enter Tryz.func102, Tryz.ntmps102
  go_wp2_with fail
  refine H.out.mono ?_
  rintro e w' ⟨y, hy, rfl, rfl⟩
  have HY := Lib.hid hy
  have hy0 : 0 ≤ y := by omega
  have hy1 : y ≤ 8796093022208 := by omega
  clear hy
  go_wp2_with fail
  go_ret
  exact ⟨_, by rw [HY.out]; omega, rfl, rfl⟩
end Go.Proofs.YtofpcdjoljjnoaaGreatDoor

namespace Go.Proofs.YtofpcdjoljjnoaaGreatDoor
set_option maxRecDepth 100000
open Go.RowKit

/-- A slice that tells a number, in at most K limbs, normal or not. -/
def NNum (K : Nat) (w : World) (v : Value) (n : Nat) : Prop :=
  ∃ a cap L, v = .slice a L.length cap ∧ L.length ≤ cap ∧ (a = none → cap = 0) ∧ Fits L ∧ NatAt w a L ∧ lv L = n ∧ L.length ≤ K

theorem NNum.below {K n : Nat} {w w' : World} {v : Value} (h : NNum K w v n) (hb : Below w.heap.size w w') : NNum K w' v n := by
  obtain ⟨a, cap, L, h1, h2, h3, h4, h5, h6, h7⟩ := h
  exact ⟨a, cap, L, h1, h2, h3, h4, h5.below hb (Nat.le_refl _), h6, h7⟩
theorem NNum.drewN {K n m : Nat} {w : World} {v : Value} (h : NNum K w v n) : NNum K (w.drewN m) v n := h
theorem NNum.mono {K K' n : Nat} {w : World} {v : Value} (h : NNum K w v n) (hK : K ≤ K') : NNum K' w v n := by
  obtain ⟨a, cap, L, h1, h2, h3, h4, h5, h6, h7⟩ := h
  exact ⟨a, cap, L, h1, h2, h3, h4, h5, h6, by omega⟩
theorem NNum.lt {K n : Nat} {w : World} {v : Value} (h : NNum K w v n) : n < 2 ^ (64 * K) := by
  obtain ⟨a, cap, L, _, _, _, h4, _, h6, h7⟩ := h
  rw [← h6]
  exact Nat.lt_of_lt_of_le (lv_lt h4) (Nat.pow_le_pow_right (by omega) (by omega))
theorem NRow.num {B K : Nat} {w : World} {v : Value} {L : List Nat} (h : NRow B w v L) (hf : Fits L) (hK : L.length ≤ K) : NNum K w v (lv L) := by
  obtain ⟨A, cap, rfl, hc, _, hat⟩ := h.at_
  refine ⟨A, cap, L, rfl, hc, fun hA => ?_, hf, hat, rfl, hK⟩
  subst hA
  rcases h.2 with ⟨he, _⟩ | ⟨g, cap', cur, he, _⟩
  · injection he
  · injection he with h1; cases h1
theorem NRow.numN {B K n : Nat} {w : World} {v : Value} (h : NRow B w v (nrow n)) (hK : n < 2 ^ (64 * K)) : NNum K w v n := by
  have := h.num (nrow_fits n) (nrow_length_le hK)
  rwa [lv_nrow] at this
/-- A list of one limb. -/
theorem num_lit {w : World} {d : Nat} (T : TypeId) (hd : d < 2 ^ 64) : NNum 1 (w.alloc (.cells #[.int .u64 (d : Int)] T)) (.slice (some ⟨w.heap.size, 0, none⟩) 1 1) d := by
  refine ⟨some ⟨w.heap.size, 0, none⟩, 1, [d], rfl, by simp, fun h => (by cases h), fun x hx => ?_, fun i hi => ?_, by simp [lv], by simp⟩
  · simp at hx; subst hx; exact hd
  · have h0 : i = 0 := by simpa using hi
    subst h0
    refine ⟨w.heap.size, 0, rfl, ?_⟩
    rw [Nat.zero_add, World.cell?_alloc_at _ _ _ _ rfl]
    rfl

/-- What is told of a number, by a call that makes memory. -/
def NOut (B K : Nat) (n : Nat) (w : World) (e : Ending) (w' : World) : Prop := ∃ v, e = .returned v ∧ NRow B w' v (nrow n) ∧ NNum K w' v n ∧ Below B w w'
theorem NRes.out {K n : Nat} {w w' : World} {e : Ending} (h : NRes w n e w') (hK : n < 2 ^ (64 * K)) : NOut w.heap.size K n w e w' := by
  obtain ⟨v, he, hr, hb⟩ := h
  exact ⟨v, he, hr, hr.numN hK, hb⟩

section
variable {K : Nat} {w : World} {va vb : Value} {na nb : Nat}
theorem add_v (hK : K ≤ 1048576) (ha : NNum K w va na) (hb : NNum K w vb nb) : Calls Tryz.prog 104 #[va, vb] w (NRes w (na + nb)) := by
  obtain ⟨a, ca, A, rfl, _, _, h4, h5, rfl, h7⟩ := ha
  obtain ⟨b, cb, B, rfl, _, _, k4, k5, rfl, k7⟩ := hb
  exact nadd_any a b ca cb A B w (by omega) (by omega) h4 k4 h5 k5
theorem sub_v (hK : K ≤ 1048576) (ha : NNum K w va na) (hb : NNum K w vb nb) (hle : nb ≤ na) : Calls Tryz.prog 108 #[va, vb] w (NRes w (na - nb)) := by
  obtain ⟨a, ca, A, rfl, _, _, h4, h5, rfl, h7⟩ := ha
  obtain ⟨b, cb, B, rfl, _, _, k4, k5, rfl, k7⟩ := hb
  exact nsub_any a b ca cb A B w (by omega) h4 k4 hle h5 k5
theorem mul_v (hK : K ≤ 1048576) (ha : NNum K w va na) (hb : NNum K w vb nb) : Calls Tryz.prog 106 #[va, vb] w (NRes w (na * nb)) := by
  obtain ⟨a, ca, A, rfl, _, _, h4, h5, rfl, h7⟩ := ha
  obtain ⟨b, cb, B, rfl, _, _, k4, k5, rfl, k7⟩ := hb
  exact nmul_any a b ca cb A B w (by omega) (by omega) h4 k4 h5 k5
theorem cmp_v (hK : K ≤ 1048576) (ha : NNum K w va na) (hb : NNum K w vb nb) : Calls Tryz.prog 107 #[va, vb] w (CmpPost w na nb) := by
  obtain ⟨a, ca, A, rfl, _, _, h4, h5, rfl, h7⟩ := ha
  obtain ⟨b, cb, B, rfl, _, _, k4, k5, rfl, k7⟩ := hb
  exact ncmp_any a b ca cb A B w (by omega) (by omega) h4 k4 h5 k5
theorem shl_v {n : Int} {s : Nat} (hK : K ≤ 1048576) (ha : NNum K w va na) (hn : n = (s : Int)) (hs : s ≤ 1099511627776) : Calls Tryz.prog 101 #[va, .int .i64 n] w (NRes w (na * 2 ^ s)) := by
  obtain ⟨a, ca, A, rfl, _, _, h4, h5, rfl, h7⟩ := ha
  exact nshl_any a ca A n s w (by omega) hn hs h4 h5
theorem shr_v {n : Int} {s : Nat} (hK : K ≤ 1048576) (ha : NNum K w va na) (hn : n = (s : Int)) (hs : s ≤ 17592186044416) : Calls Tryz.prog 103 #[va, .int .i64 n] w (NRes w (na / 2 ^ s)) := by
  obtain ⟨a, ca, A, rfl, _, _, h4, h5, rfl, h7⟩ := ha
  exact nshr_any a ca A n s w (by omega) hn hs h4 h5
theorem norm_v (hK : K ≤ 1048576) (ha : NNum K w va na) : Calls Tryz.prog 86 #[va] w (NRes w na) := by
  obtain ⟨a, ca, A, rfl, h2, h3, h4, h5, rfl, h7⟩ := ha
  exact nnorm_any a ca A w (by omega) h2 h3 h4 h5
theorem bits_v (hK : K ≤ 1048576) (ha : NNum K w va na) : Calls Tryz.prog 65 #[va] w (IntPost w (blen na)) := by
  obtain ⟨a, ca, A, rfl, _, _, h4, h5, rfl, h7⟩ := ha
  exact nBits_any a ca A w (by omega) h4 h5
theorem digits_v (hK : K ≤ 1048576) (ha : NNum K w va na) : Calls Tryz.prog 102 #[va] w (IntPost w ((blen na + 31) / 32)) := by
  obtain ⟨a, ca, A, rfl, _, _, h4, h5, rfl, h7⟩ := ha
  exact ndigits_any a ca A w (by omega) h4 h5
theorem digit_v {j : Int} {i : Nat} (ha : NNum K w va na) (hj : j = (i : Int)) (hi : i ≤ 2199023255552) : Calls Tryz.prog 105 #[va, .int .i64 j] w (DigPost w (na / 2 ^ (32 * i) % 2 ^ 32)) := by
  obtain ⟨a, ca, A, rfl, _, _, h4, h5, rfl, h7⟩ := ha
  have h := ndigit_any a ca A j i w hj hi h4 h5
  rwa [dg_eq h4] at h
end

/-! ### Plain mathematics of the division -/
theorem blen_pos {n : Nat} (h : n ≠ 0) : 0 < blen n := by unfold blen; rw [if_neg h]; omega
theorem blen_shl {n s : Nat} (h : n ≠ 0) : blen (n * 2 ^ s) = blen n + s := by
  have h0 : n * 2 ^ s ≠ 0 := Nat.mul_ne_zero h (Nat.pos_iff_ne_zero.1 (Nat.two_pow_pos s))
  have hp := blen_pos h
  have h1 := lt_blen n
  have h2 := blen_ge h
  have h3 : n * 2 ^ s < 2 ^ (blen n + s) := by rw [Nat.pow_add]; exact Nat.mul_lt_mul_of_pos_right h1 (Nat.two_pow_pos s)
  have h4 : 2 ^ (blen n + s - 1) ≤ n * 2 ^ s := by
    rw [show blen n + s - 1 = (blen n - 1) + s by omega, Nat.pow_add]; exact Nat.mul_le_mul_right _ h2
  have h5 := blen_le h3
  have h6 := lt_blen (n * 2 ^ s)
  apply Classical.byContradiction
  intro hne
  have h7 : 2 ^ blen (n * 2 ^ s) ≤ 2 ^ (blen n + s - 1) := Nat.pow_le_pow_right (by omega) (by omega)
  omega

/-- One digit of a quotient. -/
theorem div_dig {X Y t r Q : Nat} (hr : r = X / 2 ^ (32 * (t + 1)) % Y) (hQ : Q = X / 2 ^ (32 * (t + 1)) / Y) (hY : 0 < Y) :
    X / 2 ^ (32 * t) % Y = (r * 2 ^ 32 + X / 2 ^ (32 * t) % 2 ^ 32) % Y ∧ X / 2 ^ (32 * t) / Y = Q * 2 ^ 32 + (r * 2 ^ 32 + X / 2 ^ (32 * t) % 2 ^ 32) / Y := by
  have e1 : X / 2 ^ (32 * (t + 1)) = X / 2 ^ (32 * t) / 2 ^ 32 := by rw [Nat.mul_add, Nat.mul_one, Nat.pow_add, Nat.div_div_eq_div_mul]
  rw [e1] at hr hQ
  generalize X / 2 ^ (32 * t) = x at *
  have h1 := Nat.div_add_mod x (2 ^ 32)
  have h2 := Nat.div_add_mod (x / 2 ^ 32) Y
  rw [← hr, ← hQ] at h2
  have e2 : x = (r * 2 ^ 32 + x % 2 ^ 32) + Y * (Q * 2 ^ 32) := by
    have e3 : Y * (Q * 2 ^ 32) = Y * Q * 2 ^ 32 := (Nat.mul_assoc _ _ _).symm
    rw [e3]
    generalize Y * Q = z at *
    omega
  constructor
  · conv => lhs; rw [e2]
    rw [Nat.add_mul_mod_self_left]
  · conv => lhs; rw [e2]
    rw [Nat.add_mul_div_left _ _ hY]
    omega
end Go.Proofs.YtofpcdjoljjnoaaGreatDoor

namespace Go.Proofs.YtofpcdjoljjnoaaGreatDoor
open Go.RowKit

/-- A slice that tells a number, normal. -/
def NTr (w : World) (v : Value) (n : Nat) : Prop :=
  ∃ a cap, v = .slice a (nrow n).length cap ∧ (nrow n).length ≤ cap ∧ (a = none → cap = 0) ∧ NatAt w a (nrow n)
theorem NTr.below {n : Nat} {w w' : World} {v : Value} (h : NTr w v n) (hb : Below w.heap.size w w') : NTr w' v n := by
  obtain ⟨a, cap, h1, h2, h3, h4⟩ := h
  exact ⟨a, cap, h1, h2, h3, h4.below hb (Nat.le_refl _)⟩
theorem NTr.num {n K : Nat} {w : World} {v : Value} (h : NTr w v n) (hK : (nrow n).length ≤ K) : NNum K w v n := by
  obtain ⟨a, cap, rfl, h2, h3, h4⟩ := h
  exact ⟨a, cap, nrow n, rfl, h2, h3, nrow_fits n, h4, lv_nrow n, hK⟩
theorem NNum.rowLen {K n : Nat} {w : World} {v : Value} (h : NNum K w v n) : (nrow n).length ≤ K := by
  obtain ⟨a, cap, L, _, _, _, h4, _, rfl, h7⟩ := h
  exact Nat.le_trans (nrow_le h4) h7
theorem NRow.none_cap {B : Nat} {w : World} {a : Option Addr} {n cap : Nat} {L : List Nat} (h : NRow B w (.slice a n cap) L) : a = none → cap = 0 := by
  rintro rfl
  rcases h.2 with ⟨he, _⟩ | ⟨g, cap', cur, he, _⟩
  · cases he; rfl
  · cases he
theorem NRow.norm {B : Nat} {w : World} {a : Option Addr} {cap : Nat} {L : List Nat} (h : NRow B w (.slice a L.length cap) L) (hf : Fits L) : NRow B w (.slice a (nrow (lv L)).length cap) (nrow (lv L)) := by
  have ht := nrow_take hf
  rcases h.2 with ⟨he, h0⟩ | ⟨g, cap', cur, he, _⟩
  · obtain rfl : L = [] := List.eq_nil_of_length_eq_zero h0
    cases he
    exact NRow.nil _ _
  · injection he with h1
    subst h1
    have e : L = nrow (lv L) ++ L.drop (nrow (lv L)).length := by
      conv => lhs; rw [← List.take_append_drop (nrow (lv L)).length L]
      rw [← ht]
    generalize lv L = n at *
    rw [e] at h
    exact h.take
theorem NRow.tr {B n : Nat} {w : World} {v : Value} (h : NRow B w v (nrow n)) : NTr w v n := by
  obtain ⟨a, cap, rfl, hc, _, hat⟩ := h.at_
  exact ⟨a, cap, rfl, hc, h.none_cap, hat⟩

/-- What trim answers of a number; and of a row of the call's own. -/
def TrimPost (n : Nat) (w : World) (e : Ending) (w' : World) : Prop := ∃ v, e = .returned v ∧ NTr w v n ∧ w = w'
theorem trim_v {K n : Nat} {w : World} {v : Value} (h : NNum K w v n) (hK : K ≤ 1099511627776) : Calls Tryz.prog 72 #[v] w (TrimPost n w) := by
  obtain ⟨a, cap, L, rfl, h2, h3, h4, h5, rfl, h7⟩ := h
  refine (trim_any a cap L w (by omega) h2 h4 h5).mono ?_
  rintro e w' ⟨rfl, rfl⟩
  exact ⟨_, rfl, ⟨a, cap, rfl, by have := nrow_le h4; omega, h3, h5.norm h4⟩, rfl⟩
def TrimOwn (B n : Nat) (w : World) (e : Ending) (w' : World) : Prop := ∃ v, e = .returned v ∧ NRow B w v (nrow n) ∧ w = w'
theorem trim_own {B : Nat} {w : World} {v : Value} {L : List Nat} (h : NRow B w v L) (hf : Fits L) (hl : L.length ≤ 1099511627776) : Calls Tryz.prog 72 #[v] w (TrimOwn B (lv L) w) := by
  obtain ⟨a, cap, rfl, hc, _, hat⟩ := h.at_
  refine (trim_any a cap L w hl hc hf hat).mono ?_
  rintro e w' ⟨rfl, rfl⟩
  exact ⟨_, rfl, h.norm hf, rfl⟩

/-- A row of the call's own, told. -/
def OwnRes (L : List Nat) (w : World) (e : Ending) (w' : World) : Prop := ∃ v, e = .returned v ∧ NRow w.heap.size w' v L ∧ Below w.heap.size w w'

theorem news_all {w : World} {ad : Addr} {L : List Nat} (h : NatAt w (some ad) L) (j : Nat) (u : Value) (hu : (U L)[j]? = some u) : w.cell? (ad.add j) = some u := by
  have := news_of h L.length (Nat.le_refl _) j u
  rw [List.take_length] at this
  exact this hu

set_option maxHeartbeats 1000000 in
theorem clone_any (a : Option Addr) (cap : Nat) (L : List Nat) (w : World) (hl : L.length ≤ 1099511627776) (hcap : L.length ≤ cap) (hcn : a = none → cap = 0) (hc : NatAt w a L) :
    Calls Tryz.prog 70 #[.slice a L.length cap] w (OwnRes L w) := by
  obtain ⟨i0, hi, hz0, hz1, hz2⟩ := info_parts info_u64
  have HC := Lib.hid hc
  have HN := Lib.hid hcn
  clear hc hcn
  have hnil := fun (w : World) (a : Option Addr) (n c : Nat) => Go.Lib.run_eql_slice_nil (P := Tryz.prog) w 42 100 a n c 0 0 Tryz.underlying42
  rcases a with _ | ad
  · obtain rfl := HN.out rfl
    obtain rfl : L = [] := List.eq_nil_of_length_eq_zero (by omega)
    go_enter Tryz.func70, Tryz.ntmps70
    go_wp2
    go_ret
    exact ⟨_, rfl, NRow.nil _ _, Below.refl _ _⟩
  · have HNEW := Lib.hid (news_all HC.out)
    have HLE : Hid ((U L).length = L.length * 1) := Lib.hid (by rw [U_length, Nat.mul_one])
    go_enter Tryz.func70, Tryz.ntmps70
    go_wp2_with (
      (at_builtin
       refine wpList_append_own _ rfl (.tmp 5) (.tmp 6) 42 rfl w.heap.size 100 i0 _ 1 8 Tryz.underlying42 hi hz0 hz1 hz2 rfl (by omega) _ 0 [] rfl ?c0 ad L.length cap (U L) rfl ?c1 ?c2 ?c3 ?c4 ?c5 ?c6 ?_
       case c0 => exact World.ownsRow_made _ _ _ (by simp) (by unfold maxLen; omega) rfl
       case c1 => exact HLE.out
       case c2 => exact news_all (HC.out.alloc _)
       case c3 => exact U_one _
       case c4 => unfold maxLen; omega
       case c5 => omega
       case c6 => simp
       intro v1 w1 hown1 hg1 _
       have HO : Hid (NRow w.heap.size w1 v1 L) := Lib.hid (by unfold NRow; simpa using hown1)
       have HB : Hid (Below w.heap.size w w1) := Lib.hid (((Below.refl _ _).alloc (Nat.le_refl _) _).grown hg1 (by simp) (fun k hk => by cases hk; exact Nat.le_refl _))
       clear hown1 hg1))
    go_ret
    exact ⟨_, rfl, HO.out, HB.out⟩
theorem clone_v {n : Nat} {w : World} {v : Value} (h : NTr w v n) (hl : (nrow n).length ≤ 1099511627776) : Calls Tryz.prog 70 #[v] w (OwnRes (nrow n) w) := by
  obtain ⟨a, cap, rfl, h2, h3, h4⟩ := h
  exact clone_any a cap _ w hl h2 h3 h4

/-- A row of one limb. -/
theorem row_one (w : World) (x : Nat) : NRow w.heap.size (w.alloc (.cells #[.int .u64 (x : Int)] 100)) (.slice (some ⟨w.heap.size, 0, none⟩) 1 1) [x] :=
  ⟨by simp [U], .inr ⟨w.heap.size, 1, #[.int .u64 (x : Int)], rfl, Nat.le_refl _, heap_alloc_new w _, Nat.le_refl _, by unfold maxLen; omega, rfl, by simp [U]⟩⟩
theorem lv_one (x : Nat) : lv [x] = x := by simp [lv]
set_option maxHeartbeats 1000000 in
theorem of_any (x : Nat) (w : World) (hx : x < 18446744073709551616) : Calls Tryz.prog 50 #[.int .u64 (x : Int)] w (OwnRes (nrow x) w) := by
  have HT := Lib.hid (trim_own (row_one w x) (fun y hy => by simp at hy; subst hy; exact hx) (by simp))
  have HB : Hid (Below w.heap.size w (w.alloc (.cells #[.int .u64 (x : Int)] 100))) := Lib.hid ((Below.refl _ _).alloc (Nat.le_refl _) _)
  clear hx
  go_enter Tryz.func50, Tryz.ntmps50
  go_wp2_with (go_at_call 72; refine HT.out.mono ?_; rintro e w' ⟨v, rfl, hv, rfl⟩; have HV := Lib.hid hv; clear hv)
  go_ret
  exact ⟨_, rfl, by have := HV.out; rwa [lv_one] at this, HB.out⟩

/-- What is told beside an error's number. -/
def ERes (B n : Nat) (w : World) (e : Ending) (w' : World) : Prop := ∃ v, e = .returned (.tuple #[v, .int .i64 0]) ∧ NRow B w' v (nrow n) ∧ Below B w w'
theorem long_one (a : Option Addr) (n cap : Nat) (w : World) (T : TypeId) :
    Calls Tryz.prog 83 #[.slice (some ⟨w.heap.size, 0, none⟩) 1 1] (w.alloc (.cells #[.slice a n cap] T)) (Same (.bool (decide (2048 < n))) (w.alloc (.cells #[.slice a n cap] T))) := by
  have := tooLong_any w.heap.size 1 [n] (w.alloc (.cells #[.slice a n cap] T)) (by simp) (fun i hi => ⟨a, cap, by
    have h0 : i = 0 := by simpa using hi
    subst h0
    exact (Box.new w _ T).1⟩)
  simpa [anyLong] using this
theorem long_two (a b : Option Addr) (n m cap cbp : Nat) (w : World) (T : TypeId) :
    Calls Tryz.prog 83 #[.slice (some ⟨w.heap.size, 0, none⟩) 2 2] (w.alloc (.cells #[.slice a n cap, .slice b m cbp] T)) (Same (.bool (decide (2048 < n) || decide (2048 < m))) (w.alloc (.cells #[.slice a n cap, .slice b m cbp] T))) := by
  have e : (w.alloc (.cells #[.slice a n cap, .slice b m cbp] T)).heap[w.heap.size]? = some (.cells #[.slice a n cap, .slice b m cbp] T (0, 0)) := heap_alloc_new w _
  have := tooLong_any w.heap.size 2 [n, m] (w.alloc (.cells #[.slice a n cap, .slice b m cbp] T)) (by simp) (fun i hi => by
    rcases i with _ | _ | i
    · exact ⟨a, cap, by unfold World.cell?; rw [e]; rfl⟩
    · exact ⟨b, cbp, by unfold World.cell?; rw [e]; rfl⟩
    · simp at hi; omega)
  simpa [anyLong] using this
end Go.Proofs.YtofpcdjoljjnoaaGreatDoor

namespace Go.Proofs.YtofpcdjoljjnoaaGreatDoor
open Go.RowKit

def ResOk (B n : Nat) (w : World) (e : Ending) (w' : World) : Prop := ∃ v, e = .returned (.tuple #[v, .int .i64 0]) ∧ NRow B w' v (nrow n) ∧ Below w.heap.size w w'
/-- What 'make' lays: limbs of 0. -/
theorem made_zeros {w0 : World} {B n : Nat} {v : Value} (h : w0.ownsRow B 100 1 v n (madeCells (Value.int .u64 0).cells (n * 1)).toList) : NRow B w0 v (List.replicate n 0) := by
  rw [show (Value.int .u64 0).cells = #[.int .u64 0] from rfl, toList_madeCells_one, Nat.mul_one] at h
  unfold NRow
  rw [List.length_replicate, U_zeros]; exact h
theorem fits_zeros (n : Nat) : Fits (List.replicate n 0) := fun x hx => by
  obtain rfl := (List.mem_replicate.1 hx).2
  omega
theorem fits_append {A B : List Nat} (h : Fits A) (k : Fits B) : Fits (A ++ B) := fun x hx => (List.mem_append.1 hx).elim (h x) (k x)

end Go.Proofs.YtofpcdjoljjnoaaGreatDoor

namespace Go.Proofs.YtofpcdjoljjnoaaGreatDoor
open Go.RowKit

theorem NRow.set {B g cap n : Nat} {w : World} {L : List Nat} (h : NRow B w (.slice (some ⟨g, 0, none⟩) n cap) L) {i : Nat} (hi : i < L.length) (x : Nat) : NRow B (w.setCell ⟨g, i, none⟩ (.int .u64 (x : Int))) (.slice (some ⟨g, 0, none⟩) n cap) (L.set i x) := by
  have hs := h.seg.2.2.2.2.2.set hi x
  rw [Nat.zero_add] at hs
  exact h.wrote ((Wrote.refl g 0 L.length w).setIn (Nat.zero_le _) hi _) hs (List.length_set ..)
end Go.Proofs.YtofpcdjoljjnoaaGreatDoor

namespace Go.Proofs.YtofpcdjoljjnoaaGreatDoor
open Go.RowKit Go.Shelf
attribute [local go_sem] Oper.semAt_some wide_fn

def DownPost (a b : Value) (w : World) (e : Ending) (w' : World) : Prop :=
  e = .returned (.func (.func 116) #[] #[.pointer (some ⟨w.heap.size, 0, none⟩), .pointer (some ⟨w.heap.size + 1, 0, none⟩)]) ∧ w' = (w.alloc (.cells #[a] 42)).alloc (.cells #[b] 42)
theorem pairsDown_any (a b : Option Addr) (la lb ca cb : Nat) (w : World) :
    Calls Tryz.prog 99 #[.slice a la ca, .slice b lb cb] w (DownPost (.slice a la ca) (.slice b lb cb) w) := by
  go_enter Tryz.func99, Tryz.ntmps99
  go_wp2
  go_ret
  exact ⟨rfl, rfl⟩

/-- What the function reads, at any round. -/
def DownRd (p q : Nat) (a b : Option Addr) (ca cb : Nat) (A B : List Nat) (w : World) : Prop :=
  w.cell? ⟨p, 0, none⟩ = some (.slice a A.length ca) ∧ w.cell? ⟨q, 0, none⟩ = some (.slice b B.length cb) ∧ NatAt w a A ∧ NatAt w b B

def EndBool (J Jx : World → Prop) (e : Ending) (w : World) : Prop := ∃ v : Bool, e = .returned (.bool v) ∧ ((v = true ∧ J w) ∨ (v = false ∧ Jx w))
theorem endBool {J Jx : World → Prop} {e : Ending} {w : World} (h : (e = .returned (.bool true) ∧ J w) ∨ (e = .returned (.bool false) ∧ Jx w)) : EndBool J Jx e w := by
  rcases h with ⟨he, h⟩ | ⟨he, h⟩
  · exact ⟨true, he, .inl ⟨rfl, h⟩⟩
  · exact ⟨false, he, .inr ⟨rfl, h⟩⟩

set_option maxRecDepth 100000 in
set_option maxHeartbeats 4000000 in
theorem pairsDown_at (p q : Nat) (a b : Option Addr) (ca cb : Nat) (A B : List Nat) (X Y : Nat → Nat) (hX : ∀ k, X k = A.getD (A.length - 1 - k) 0) (hY0 : ∀ k, Y k = B.getD (A.length - 1 - k) 0) (hA : A.length ≤ 1099511627776) (hAB : A.length = B.length) :
    SeqAt Tryz.prog 116 #[.pointer (some ⟨p, 0, none⟩), .pointer (some ⟨q, 0, none⟩)] A.length
      (fun k => #[.int .u64 ((X k : Nat) : Int), .int .u64 ((Y k : Nat) : Int)]) (fun _ => DownRd p q a b ca cb A B) := by
  intro m l J Jx W hRd hJd hY h0
  refine callsIn_of_wp Tryz.func116 rfl trivial ?_ rfl
  simp only [Tryz.ntmps116, List.size_toArray, List.length_cons, List.length_nil, Nat.reduceAdd, Nat.reduceSub, Array.replicate_succ, Array.replicate_zero, List.push_toArray, List.append_toArray, List.nil_append, List.cons_append]
  obtain ⟨hp0, -, -, -⟩ := hRd 0 W h0
  have HRD := Lib.hid hRd
  have HY := Lib.hid hY
  have H0 := Lib.hid h0
  have HX := Lib.hid hX
  have HY0 := Lib.hid hY0
  have HAB := Lib.hid hAB
  have hmx : Tryz.prog.follows .mixedOrders = true := by kernel_rfl
  clear hRd hY h0 hX hY0 hAB
  gi_wp2
  gi_loopw [4] (fun i wr => ∃ k : Nat, k ≤ A.length ∧ i = .int .i64 ((A.length : Int) - 1 - (k : Int)) ∧ J k wr) (fun i _ => (intOf i + 1).toNat)
  case atStart => exact ⟨0, Nat.zero_le _, by go_num, H0.out⟩
  case round =>
    obtain ⟨k, hk, rfl, hJ⟩ := hrel
    by_cases hlt : k < A.length
    · obtain ⟨j, hj⟩ : ∃ j, j = A.length - 1 - k := ⟨_, rfl⟩
      have hjI : (A.length : Int) - 1 - (k : Int) = (j : Int) := by omega
      have hj0 : (0 : Int) ≤ (j : Int) := by omega
      have hjA : (j : Int) < (A.length : Int) := by omega
      have hjB : (j : Int) < (B.length : Int) := by have := HAB.out; omega
      obtain ⟨hp, hq, hfa, hfb⟩ := HRD.out k wr hJ
      obtain ⟨ba, oa, ea, hca⟩ := hfa j (by omega)
      obtain ⟨bb, ob, eb, hcb⟩ := hfb j (by have := HAB.out; omega)
      obtain ⟨fn, tmps, assign, body, hy, hR⟩ := HY.out k wr.drew hlt (hJd k wr hJ)
      have hR' := hR.mono (fun e w h => endBool h)
      obtain ⟨x, hx⟩ : ∃ x, x = A.getD j 0 := ⟨_, rfl⟩
      obtain ⟨y, hyy⟩ : ∃ y, y = B.getD j 0 := ⟨_, rfl⟩
      rw [← hx] at hca
      rw [← hyy] at hcb
      rw [HX.out k, HY0.out k, ← hj, ← hx, ← hyy] at hy
      have HR := Lib.hid hR'
      have HJ : Hid ((A.length : Int) - 1 - (k : Int) - 1 = (A.length : Int) - 1 - ((k + 1 : Nat) : Int)) := Lib.hid (by omega)
      have HJI := Lib.hid hjI
      rw [hjI]
      clear hfa hfb hp0 hx hyy hR hR' hjI hj
      subst ea
      subst eb
      gi_wp2
      gi_region_with_o (refine HR.out.mono ?_; rintro e W3 ⟨v, rfl, hv⟩)
      all_goals rcases hv with ⟨rfl, hJ3⟩ | ⟨rfl, hJx3⟩
      all_goals gi_wp2
      all_goals first
        | (go_roundw
           case rel => exact ⟨k + 1, by omega, by congr 1; have := HJI.out; omega, hJ3⟩
           case measure => have := HJI.out; simp [intOf])
        | (refine bodyPost_ret (results_none rfl _ _ _) rfl ?_
           exact ⟨⟨_, rfl⟩, .inr ⟨k + 1, by omega, hJx3⟩⟩)
    · have hI : (A.length : Int) - 1 - (k : Int) < 0 := by omega
      obtain rfl : k = A.length := by omega
      gi_wp2
      go_end0
      exact ⟨⟨_, rfl⟩, .inl hJ⟩
end Go.Proofs.YtofpcdjoljjnoaaGreatDoor

namespace Go.Proofs.YtofpcdjoljjnoaaGreatDoor
open Go.RowKit Go.Shelf
attribute [local go_sem] Oper.semAt_some wide_fn

theorem div_limb {L : List Nat} (h : Fits L) (j : Nat) : lv L / 2 ^ (64 * j) = (lv L / 2 ^ (64 * (j + 1))) * 18446744073709551616 + L.getD j 0 := by
  have h1 := lv_limb h j
  have h2 : lv L / 2 ^ (64 * (j + 1)) = lv L / 2 ^ (64 * j) / 18446744073709551616 := by rw [Nat.mul_add, Nat.mul_one, Nat.pow_add, Nat.div_div_eq_div_mul]
  rw [h2]
  omega
theorem lt_of_quot {a b d : Nat} (h : a / d < b / d) : a < b := by
  apply Classical.byContradiction
  intro hn
  have := Nat.div_le_div_right (c := d) (show b ≤ a by omega)
  omega
theorem lv_top {L : List Nat} (h : Fits L) : lv L / 2 ^ (64 * L.length) = 0 := Nat.div_eq_of_lt (lv_lt h)
/-- Of two normal rows the shorter one tells the lesser number. -/
theorem nrow_lt {a b : Nat} (h : (nrow a).length < (nrow b).length) : a < b := by
  apply Classical.byContradiction
  intro hn
  have h1 := lv_lt (nrow_fits a)
  rw [lv_nrow] at h1
  have h2 := nrow_length_le (v := b) (k := (nrow a).length) (by omega)
  omega

def CmpAnd (x y : Nat) (w : World) (e : Ending) (w' : World) : Prop := e = .returned (.int .i64 (cmpV x y)) ∧ Below w.heap.size w w'

def CompareAt (z : Nat) (a b : Option Addr) (ca cb : Nat) (A B : List Nat) (w : World) (k : Nat) (W : World) : Prop :=
  k ≤ A.length ∧ lv A / 2 ^ (64 * (A.length - k)) = lv B / 2 ^ (64 * (A.length - k)) ∧ (∃ v, Box W z v) ∧ Box W (z + 1) (.slice a A.length ca) ∧ Box W (z + 2) (.slice b B.length cb) ∧ NatAt W a A ∧ NatAt W b B ∧ z + 3 ≤ W.heap.size ∧ Below z w W
def CompareRet (z : Nat) (x y : Nat) (w : World) (_ : Nat) (W : World) : Prop := Box W z (.int .i64 (cmpV x y)) ∧ z + 3 ≤ W.heap.size ∧ Below z w W

theorem natAt_below {n : Nat} {w w' W : World} {a : Option Addr} {A : List Nat} (hw : NatAt w a A) (h : NatAt W a A) (hb : Below n W w') (hn : w.heap.size ≤ n) : NatAt w' a A := fun i hi => by
  obtain ⟨b, o, e, hc⟩ := h i hi
  obtain ⟨b1, o1, e1, hlt, _⟩ := hw.lt hi
  rw [e] at e1
  cases e1
  exact ⟨b, o, e, (hb.cell (p := ⟨b, o + i, none⟩) (by show b < n; omega)).trans hc⟩

set_option maxRecDepth 100000 in
set_option maxHeartbeats 4000000 in
theorem compare_any (a b : Option Addr) (ca cb x y : Nat) (w : World) (hA : (nrow x).length ≤ 1099511627776) (ma : NatAt w a (nrow x)) (mb : NatAt w b (nrow y)) :
    Calls Tryz.prog 82 #[.slice a (nrow x).length ca, .slice b (nrow y).length cb] w (CmpAnd x y w) := by
  obtain ⟨A, hAx⟩ : ∃ A, A = nrow x := ⟨_, rfl⟩
  obtain ⟨B, hBy⟩ : ∃ B, B = nrow y := ⟨_, rfl⟩
  have HAX : Hid (lv A = x) := Lib.hid (by rw [hAx]; exact lv_nrow x)
  have HBY : Hid (lv B = y) := Lib.hid (by rw [hBy]; exact lv_nrow y)
  have FA : Hid (Fits A) := Lib.hid (by rw [hAx]; exact nrow_fits x)
  have FB : Hid (Fits B) := Lib.hid (by rw [hBy]; exact nrow_fits y)
  have HLT : Hid (A.length < B.length → x < y) := Lib.hid (by rw [hAx, hBy]; exact nrow_lt)
  have HGT : Hid (B.length < A.length → y < x) := Lib.hid (by rw [hAx, hBy]; exact nrow_lt)
  rw [← hAx] at hA ma ⊢
  rw [← hBy] at mb ⊢
  clear hAx hBy
  have MA := Lib.hid ma
  have MB := Lib.hid mb
  obtain ⟨z, hz⟩ : ∃ z, z = w.heap.size := ⟨_, rfl⟩
  have HZ := Lib.hid hz
  clear hz
  by_cases hne : A.length = B.length
  · have HE := Lib.hid hne
    have hnb : (((A.length : Nat) : Int) != ((B.length : Nat) : Int)) = false := by rw [hne]; simp
    obtain ⟨X, hX⟩ : ∃ X : Nat → Nat, ∀ k, X k = A.getD (A.length - 1 - k) 0 := ⟨_, fun _ => rfl⟩
    obtain ⟨Y, hY⟩ : ∃ Y : Nat → Nat, ∀ k, Y k = B.getD (A.length - 1 - k) 0 := ⟨_, fun _ => rfl⟩
    have HX := Lib.hid hX
    have HY := Lib.hid hY
    clear hX hY ma mb hne
    refine (callsIn_wide (n := 3)).1 ?_
    refine callsIn_of_wp_marks Tryz.func82 rfl trivial ?_ rfl
    simp only [Tryz.ntmps82, List.size_toArray, List.length_cons, List.length_nil, Nat.reduceAdd, Nat.reduceSub, Array.replicate_succ, Array.replicate_zero, List.push_toArray, List.append_toArray, List.nil_append, List.cons_append]
    gi_wp2_with (gi_at_call 99; refine (callsIn_wide.2 (pairsDown_any _ _ _ _ _ _ _)).mono ?_; rintro e w' ⟨rfl, rfl⟩)
    rw [← HZ.out]
    simp only [Nat.add_assoc, Nat.reduceAdd]
    generalize hW : ((w.alloc (.cells #[.int .i64 0] 3)).alloc (.cells #[.slice a A.length ca] 42)).alloc (.cells #[.slice b B.length cb] 42) = W0
    obtain ⟨c0, s0, l0⟩ := box_next HZ.out (.int .i64 0) 3
    obtain ⟨c1, s1, l1⟩ := box_next s0 (.slice a A.length ca) 42
    obtain ⟨c2, s2, l2⟩ := box_next s1 (.slice b B.length cb) 42
    have c0' := (c0.alloc (.cells #[.slice a A.length ca] 42)).alloc (.cells #[.slice b B.length cb] 42)
    have c1' := c1.alloc (.cells #[.slice b B.length cb] 42)
    have hb0 : Below z w (((w.alloc (.cells #[.int .i64 0] 3)).alloc (.cells #[.slice a A.length ca] 42)).alloc (.cells #[.slice b B.length cb] 42)) :=
      ((l0.mono (by have := HZ.out; omega)).trans (l1.mono (by omega))).trans (l2.mono (by omega))
    rw [hW] at c0' c1' c2 s2 hb0
    have hsz : W0.heap.size = z + 3 := s2.symm
    have HW : CompareAt z a b ca cb A B w 0 W0 := ⟨Nat.zero_le _, by
      have h1 := lv_top FA.out
      have h2 := lv_top FB.out
      rw [← HE.out] at h2
      rw [Nat.sub_zero, h1, h2], ⟨_, c0'⟩, c1', c2, natAt_below MA.out MA.out hb0 (by have := HZ.out; omega), natAt_below MB.out MB.out hb0 (by have := HZ.out; omega), by omega, hb0⟩
    clear hW c0 s0 l0 c1 s1 l1 c2 s2 l2 c0' c1' hb0
    refine wpIn_range_at (m := 1) (gf := 116) (lb := #[.pointer (some ⟨z + 1, 0, none⟩), .pointer (some ⟨z + 2, 0, none⟩)]) rfl (enters_of Tryz.func116 (by kernel_rfl) rfl) (pairsDown_at (z + 1) (z + 2) a b ca cb A B X Y HX.out HY.out hA HE.out) (fun _ => rfl)
      (CompareAt z a b ca cb A B w) (CompareRet z x y w) (fun k W W' hb' h => by
        rw [hsz] at hb'
        obtain ⟨h1, h2, ⟨v, b0⟩, b1, b2, h3, h4, hs, hb⟩ := h
        have hzz := HZ.out
        exact ⟨h1, h2, ⟨v, b0.below hb' (by omega)⟩, b1.below hb' (by omega), b2.below hb' (by omega), natAt_below MA.out h3 hb' (by omega), natAt_below MB.out h4 hb' (by omega), Nat.le_trans hs hb'.size, hb.trans (hb'.mono (by omega))⟩)
      (fun k W W' hb' h => by
        rw [hsz] at hb'
        obtain ⟨b0, hs, hb⟩ := h
        exact ⟨b0.below hb' (by omega), Nat.le_trans hs hb'.size, hb.trans (hb'.mono (by omega))⟩)
      (fun k W h => by obtain ⟨h1, h2, ⟨v, b0⟩, b1, b2, h3, h4, hs, hb⟩ := h; omega) (fun k W h => by obtain ⟨b0, hs, hb⟩ := h; omega)
      (fun k W h => by obtain ⟨h1, h2, ⟨v, b0⟩, b1, b2, h3, h4, hs, hb⟩ := h; exact ⟨b1.1, b2.1, h3, h4⟩) HW
      (fun k => { tmps := #[.slice a A.length ca, .slice b B.length cb, undef, undef, .pointer (some ⟨z, 0, none⟩), .int .u64 ((X k : Nat) : Int), .int .u64 ((Y k : Nat) : Int), .slice a A.length ca, .int .i64 A.length, .slice b B.length cb, .int .i64 B.length, .bool false, undef, undef, undef, undef, undef, undef,
        .slice a A.length ca, .slice b B.length cb, .func (.func 116) #[] #[.pointer (some ⟨z + 1, 0, none⟩), .pointer (some ⟨z + 2, 0, none⟩)], .int .u64 ((X k : Nat) : Int), .int .u64 ((Y k : Nat) : Int), undef, undef, undef, undef, undef, undef, undef], defers := [] })
      ?assign ?body ?done ?stop
    case assign =>
      intro l k W K hK
      gi_wp2
      exact hK
    case body =>
      rintro l k W hk ⟨h1, h2, ⟨v0, b0⟩, b1, b2, h3, h4, hs, hb⟩
      have hxA : X k = A.getD (A.length - 1 - k) 0 := HX.out k
      have hyB : Y k = B.getD (A.length - 1 - k) 0 := HY.out k
      generalize X k = p at hxA ⊢
      generalize Y k = q at hyB ⊢
      have d1 := div_limb FA.out (A.length - 1 - k)
      have d2 := div_limb FB.out (A.length - 1 - k)
      rw [show A.length - 1 - k + 1 = A.length - k by omega] at d1 d2
      rw [← hxA] at d1
      rw [← hyB, ← h2] at d2
      have hc0 := b0.1
      have hf0 := b0.2
      have hzz := HZ.out
      rcases Nat.lt_trichotomy p q with hlt | heq | hgt
      · have HC : Hid (cmpV x y = -1) := Lib.hid (cmpV_lt (by rw [← HAX.out, ← HBY.out]; exact lt_of_quot (d := 2 ^ (64 * (A.length - 1 - k))) (by rw [d1, d2]; omega)))
        have hI : (p : Int) < (q : Int) := by omega
        have hn : ((p : Int) != (q : Int)) = true := by simp; omega
        clear hxA hyB d1 d2 h2 hlt hzz
        gi_wp2_with (gi_at_call 98; refine (CallsIn.inRound l (callsIn_wide.2 (sign_any true W))).mono ?_; rintro e W ⟨rfl, rfl⟩)
        exact ⟨keeps_set (KeepsFrom.refl _ _) _ _, by rw [HC.out]; exact b0.set _, by rw [size_set]; exact hs, hb.setCell (p := ⟨z, 0, none⟩) (Nat.le_refl _) _⟩
      · subst heq
        have HQ : Hid (lv A / 2 ^ (64 * (A.length - (k + 1))) = lv B / 2 ^ (64 * (A.length - (k + 1)))) := Lib.hid (by rw [show A.length - (k + 1) = A.length - 1 - k by omega, d1, d2])
        clear hxA hyB d1 d2 h2 hzz
        gi_wp2
        exact ⟨KeepsFrom.refl _ _, hk, HQ.out, ⟨v0, b0⟩, b1, b2, h3, h4, hs, hb⟩
      · have HC : Hid (cmpV x y = 1) := Lib.hid (cmpV_gt (by rw [← HAX.out, ← HBY.out]; exact lt_of_quot (d := 2 ^ (64 * (A.length - 1 - k))) (by rw [d1, d2]; omega)))
        have hI : ¬ (p : Int) < (q : Int) := by omega
        have hn : ((p : Int) != (q : Int)) = true := by simp; omega
        have hd : decide (p < q) = false := by simp; omega
        clear hxA hyB d1 d2 h2 hgt hzz hI
        gi_wp2_with (gi_at_call 98; refine (CallsIn.inRound l (callsIn_wide.2 (sign_any false W))).mono ?_; rintro e W ⟨rfl, rfl⟩)
        exact ⟨keeps_set (KeepsFrom.refl _ _) _ _, by rw [HC.out]; exact b0.set _, by rw [size_set]; exact hs, hb.setCell (p := ⟨z, 0, none⟩) (Nat.le_refl _) _⟩
    case done =>
      rintro D W hD ⟨h1, h2, ⟨v0, b0⟩, b1, b2, h3, h4, hs, hb⟩ hK
      have HC : Hid (cmpV x y = 0) := Lib.hid (cmpV_eq (by have h := h2; rw [Nat.sub_self, Nat.mul_zero, Nat.pow_zero, Nat.div_one, Nat.div_one, HAX.out, HBY.out] at h; exact h))
      have hc0 := b0.1
      have hf0 := b0.2
      clear h2
      gi_wp2
      have hK' : (W.setCell ⟨z, 0, none⟩ (.int .i64 0)).heap[D]? = some (.deferred (some [])) := (Below.heap_setCell _ _ _ _ (by show D ≠ z; omega)).trans hK
      have b3 : Below (z + 3) (W.setCell ⟨z, 0, none⟩ (.int .i64 0)) ((W.setCell ⟨z, 0, none⟩ (.int .i64 0)).putObj D (.deferred none)) := below_putObj _ D _ (by omega) (by rw [size_set]; exact hs)
      have hcr := ((b0.set (.int .i64 0)).below b3 (by omega)).1
      refine ⟨by simp, .inl ⟨_, _, rfl, run_takeDeferred hK', ?_⟩⟩
      have hzz := HZ.out
      refine ⟨.int .i64 0, by simp [results, Tryz.f82, go_sem, hcr], by rw [HC.out], ?_⟩
      rw [← hzz]
      exact (hb.setCell (p := ⟨z, 0, none⟩) (Nat.le_refl _) _).trans (b3.mono (by omega))
    case stop =>
      rintro D k W hD _ ⟨b0, hs, hb⟩ hK
      gi_wp2
      have b3 : Below (z + 3) W (W.putObj D (.deferred none)) := below_putObj _ D _ (by omega) hs
      have hcr := (b0.below b3 (by omega)).1
      refine ⟨by simp, .inl ⟨_, _, rfl, run_takeDeferred hK, ?_⟩⟩
      have hzz := HZ.out
      refine ⟨.int .i64 (cmpV x y), by simp [results, Tryz.f82, go_sem, hcr], rfl, ?_⟩
      rw [← hzz]
      exact hb.trans (b3.mono (by omega))
  · have hnb : (((A.length : Nat) : Int) != ((B.length : Nat) : Int)) = true := by simp; omega
    rcases Nat.lt_or_ge A.length B.length with hlt | hge
    · have HC : Hid (cmpV x y = -1) := Lib.hid (cmpV_lt (HLT.out hlt))
      clear ma mb hne
      go_enter Tryz.func82, Tryz.ntmps82
      go_wp2_with (go_at_call 98; refine (sign_any true _).mono ?_; rintro e W ⟨rfl, rfl⟩)
      have hcr := (Box.new w (.int .i64 (sgn true)) 3).1
      exact bodyPost_ret (v := .int .i64 (sgn true)) (by simp [results, Tryz.f82, go_sem, hcr]) rfl ⟨by rw [HC.out]; rfl, (Below.refl _ _).alloc (Nat.le_refl _) _⟩
    · have HC : Hid (cmpV x y = 1) := Lib.hid (cmpV_gt (HGT.out (by omega)))
      have hd : decide (A.length < B.length) = false := by simp; omega
      clear ma mb hne
      go_enter Tryz.func82, Tryz.ntmps82
      go_wp2_with (go_at_call 98; refine (sign_any false _).mono ?_; rintro e W ⟨rfl, rfl⟩)
      have hcr := (Box.new w (.int .i64 (sgn false)) 3).1
      exact bodyPost_ret (v := .int .i64 (sgn false)) (by simp [results, Tryz.f82, go_sem, hcr]) rfl ⟨by rw [HC.out]; rfl, (Below.refl _ _).alloc (Nat.le_refl _) _⟩
end Go.Proofs.YtofpcdjoljjnoaaGreatDoor

namespace Go.Proofs.YtofpcdjoljjnoaaGreatDoor
open Go.RowKit Go.Shelf
attribute [local go_sem] Oper.semAt_some wide_fn

/-- Limbs of a difference, one more. -/
theorem limb_sub {o p c c' x y r a b : Nat} (h : o + b = a + p * c) (hr : r = (x + 18446744073709551616 - y - c) % 18446744073709551616) (hc : c' = if x < y + c then 1 else 0) (hx : x < 18446744073709551616) (hy : y < 18446744073709551616) (h1 : c ≤ 1) :
    (o + p * r) + (b + p * y) = (a + p * x) + p * 18446744073709551616 * c' := by
  have e : r + y + c = x + 18446744073709551616 * c' := by
    split at hc <;> omega
  have h2 : p * (r + y + c) = p * (x + 18446744073709551616 * c') := by rw [e]
  rw [Nat.mul_add, Nat.mul_add, Nat.mul_add, ← Nat.mul_assoc] at h2
  omega

def SubPost (g off : Nat) (A B : List Nat) (w : World) (e : Ending) (w' : World) : Prop :=
  ∃ (O : List Nat) (c : Nat) (v : Value), e = .returned v ∧ O.length = A.length ∧ Fits O ∧ c ≤ 1 ∧ lv O + lv B = lv A + 2 ^ (64 * A.length) * c ∧ Seg w' g off O ∧ Wrote g off (off + A.length) w w'

def SubAt (z g off ca cb : Nat) (b : Option Addr) (A B : List Nat) (w : World) (k : Nat) (W : World) : Prop :=
  ∃ (O : List Nat) (c : Nat), O.length = k ∧ k ≤ A.length ∧ Fits O ∧ c ≤ 1 ∧ lv O + lv (B.take k) = lv (A.take k) + 2 ^ (64 * k) * c ∧ Seg W g off (O ++ A.drop k) ∧ NatAt W b B ∧
    Box W z (.slice (some ⟨g, off, none⟩) A.length ca) ∧ Box W (z + 1) (.int .i64 (k : Int)) ∧ Box W (z + 2) (.int .u64 (c : Int)) ∧ Box W (z + 3) (.slice (some ⟨g, off, none⟩) A.length ca) ∧ Box W (z + 4) (.slice b B.length cb) ∧
    z + 5 ≤ W.heap.size ∧ Wrote g off (off + A.length) w W

theorem SubAt.below {z g off ca cb : Nat} {b : Option Addr} {A B : List Nat} {w : World} {k : Nat} {W W' : World} (hg : g < z) (hz : z = w.heap.size) (hbl : 0 < B.length → ∀ bl o, b = some ⟨bl, o, none⟩ → bl < z) (hb : Below (z + 5) W W') (h : SubAt z g off ca cb b A B w k W) : SubAt z g off ca cb b A B w k W' := by
  obtain ⟨O, c, h1, h2, h3, h4, h5, h6, h7, b0, b1, b2, b3, b4, hs, hw⟩ := h
  refine ⟨O, c, h1, h2, h3, h4, h5, h6.below hb (by omega), fun i hi => ?_, b0.below hb (by omega), b1.below hb (by omega), b2.below hb (by omega), b3.below hb (by omega), b4.below hb (by omega), Nat.le_trans hs hb.size, hw.after (hb.mono (by omega)) (by omega)⟩
  obtain ⟨bl, o, e, hc⟩ := h7 i hi
  exact ⟨bl, o, e, (hb.cell (p := ⟨bl, o + i, none⟩) (by show bl < z + 5; have := hbl (by omega) bl o e; omega)).trans hc⟩

set_option maxRecDepth 100000 in
set_option maxHeartbeats 2000000 in
theorem subtract_any (g off ca cb : Nat) (b : Option Addr) (A B : List Nat) (w : World) (hA : A.length ≤ 1099511627776) (hBA : B.length ≤ A.length) (fA : Fits A) (fB : Fits B)
    (hs : Seg w g off A) (hb : NatAt w b B) (hne : 0 < B.length → ∀ bl o, b = some ⟨bl, o, none⟩ → bl ≠ g ∧ bl < w.heap.size) :
    Calls Tryz.prog 133 #[.slice (some ⟨g, off, none⟩) A.length ca, .slice b B.length cb] w (SubPost g off A B w) := by
  obtain ⟨z, hz⟩ : ∃ z, z = w.heap.size := ⟨_, rfl⟩
  have hgz : g < z := by have := hs.block; omega
  have hbl : 0 < B.length → ∀ bl o, b = some ⟨bl, o, none⟩ → bl < z := fun h0 bl o e => by have := (hne h0 bl o e).2; omega
  obtain ⟨X, hX⟩ : ∃ X : Nat → Nat, ∀ k, X k = A.getD k 0 := ⟨_, fun _ => rfl⟩
  obtain ⟨Y, hY⟩ : ∃ Y : Nat → Nat, ∀ k, Y k = B.getD k 0 := ⟨_, fun _ => rfl⟩
  have HX := Lib.hid hX
  have HY := Lib.hid hY
  have HZ := Lib.hid hz
  clear hX hY hz
  refine (callsIn_wide (n := 3)).1 ?_
  refine callsIn_of_wp_marks Tryz.func133 rfl trivial ?_ rfl
  simp only [Tryz.ntmps133, List.size_toArray, List.length_cons, List.length_nil, Nat.reduceAdd, Nat.reduceSub, Array.replicate_succ, Array.replicate_zero, List.push_toArray, List.append_toArray, List.nil_append, List.cons_append]
  gi_wp2_with (gi_at_call 121; refine (callsIn_wide.2 (pairs_any _ _ _ _ _ _ _)).mono ?_; rintro e w' ⟨rfl, rfl⟩)
  rw [← HZ.out]
  simp only [Nat.add_assoc, Nat.reduceAdd]
  generalize hW : (((((w.alloc (.cells #[.slice (some ⟨g, off, none⟩) A.length ca] 42)).alloc (.cells #[.int .i64 0] 3)).alloc (.cells #[.int .u64 0] 100)).alloc (.cells #[.slice (some ⟨g, off, none⟩) A.length ca] 42)).alloc (.cells #[.slice b B.length cb] 42)) = W0
  obtain ⟨c0, c1, c2, c3, c4, hsz, hbw⟩ := boxes5 HZ.out _ _ _ _ _ _ _ _ _ _ hW.symm
  clear hW
  have HW : SubAt z g off ca cb b A B w 0 W0 :=
    ⟨[], 0, rfl, Nat.zero_le _, fun x hx => (by cases hx), by omega, by simp [lv], hs.below hbw hs.block, hb.below hbw (Nat.le_refl _), c0, c1, c2, c3, c4, by omega, Wrote.of_below hbw _ _ _⟩
  clear c0 c1 c2 c3 c4 hbw
  refine wpIn_range_at (m := 1) (gf := 129) (lb := #[.pointer (some ⟨z + 3, 0, none⟩), .pointer (some ⟨z + 4, 0, none⟩)]) rfl (enters_of Tryz.func129 (by kernel_rfl) rfl) (pairs_at (z + 3) (z + 4) _ b ca cb A B X Y HX.out HY.out hA (by omega)) (fun _ => rfl)
    (SubAt z g off ca cb b A B w) (fun _ _ => False) (fun k W W' hb' h => h.below hgz HZ.out hbl (by rw [← hsz]; exact hb')) (fun _ _ _ _ h => h) (fun k W h => by obtain ⟨O, c, h1, h2, h3, h4, h5, h6, h7, b0, b1, b2, b3, b4, hss, hw⟩ := h; omega) (fun _ _ h => h.elim)
    (fun k W h => by obtain ⟨O, c, h1, h2, h3, h4, h5, h6, h7, b0, b1, b2, b3, b4, hss, hw⟩ := h; exact ⟨b3.1, b4.1, h6.from h1 h2, h7.from k⟩) HW
    (fun k => { tmps := #[.slice (some ⟨g, off, none⟩) A.length ca, .slice b B.length cb, .pointer (some ⟨z, 0, none⟩), undef, .pointer (some ⟨z + 1, 0, none⟩), .pointer (some ⟨z + 2, 0, none⟩), .int .u64 ((X k : Nat) : Int), .int .u64 ((Y k : Nat) : Int),
      .slice (some ⟨g, off, none⟩) A.length ca, .slice b B.length cb, .func (.func 129) #[] #[.pointer (some ⟨z + 3, 0, none⟩), .pointer (some ⟨z + 4, 0, none⟩)], .int .u64 ((X k : Nat) : Int), .int .u64 ((Y k : Nat) : Int), undef, undef, undef, undef, undef, undef, undef, undef, undef, undef, undef, undef], defers := [] })
    ?assign ?body ?done ?stop
  case assign =>
    intro l k W K hK
    gi_wp2
    exact hK
  case body =>
    rintro l k W hk ⟨O, c, h1, h2, h3, h4, h5, h6, h7, b0, b1, b2, b3, b4, hss, hw⟩
    have hxA : X k = A.getD k 0 := HX.out k
    have hyB : Y k = B.getD k 0 := HY.out k
    generalize X k = x at hxA ⊢
    generalize Y k = y at hyB ⊢
    have hc0 := b0.1
    have hc1 := b1.1
    have hc2 := b2.1
    have hf1 := b1.2
    have hf2 := b2.2
    have hgc := h6.cell (i := k) (by rw [List.length_append, List.length_drop]; omega)
    have hgf := h6.frozen (off + k)
    have hkA : (k : Int) < (A.length : Int) := by omega
    have hk0 : (0 : Int) ≤ (k : Int) := by omega
    have hadd := run_sub64 x y c h4
    have hx1 := getD_fits fA k
    have hy1 := getD_fits fB k
    obtain ⟨r, hr⟩ : ∃ r, r = (x + 18446744073709551616 - y - c) % 18446744073709551616 := ⟨_, rfl⟩
    obtain ⟨q, hq⟩ : ∃ q, q = if x < y + c then 1 else 0 := ⟨_, rfl⟩
    rw [← hxA] at hx1
    rw [← hyB] at hy1
    have hst := limb_sub h5 hr hq hx1 hy1 h4
    have hr1 : r < 18446744073709551616 := by rw [hr]; exact Nat.mod_lt _ (by decide)
    have hq1 : q ≤ 1 := by rw [hq]; split <;> omega
    rw [← hr, ← hq] at hadd
    rw [hxA, hyB, ← lv_take_succ' A, ← lv_take_succ' B] at hst
    have H1 := Lib.hid h1
    have HXA := Lib.hid hxA
    have HYB := Lib.hid hyB
    have H5 := Lib.hid h5
    have HSZ := Lib.hid hsz
    have HST := Lib.hid hst
    clear h1 hxA hyB h5 hsz hx1 hy1 hr hq hst
    have HR1 := Lib.hid hr1
    clear hr1
    gi_wp2
    refine wpIn_region_walk (fun w' => w'.cell? ⟨z, 0, none⟩ = some (.slice (some ⟨g, off, none⟩) A.length ca) ∧ w'.cell? ⟨z + 1, 0, none⟩ = some (.int .i64 (k : Int)))
      [true, true, true, true, false, false, true, true, true, true, false, false] (by kernel_rfl) (by kernel_rfl) (by kernel_rfl) rfl (by kernel_rfl) (by rintro ⟨_, _, h⟩; exact h) (fun _ _ _ _ _ h => h) ?_
    have hS : W.drew.cell? ⟨z, 0, none⟩ = some (.slice (some ⟨g, off, none⟩) A.length ca) ∧ W.drew.cell? ⟨z + 1, 0, none⟩ = some (.int .i64 (k : Int)) := ⟨hc0, hc1⟩
    repeat (refine walkS_yes hS rfl (fun w' hw' => by obtain ⟨q0, q1⟩ := hw'; go_simp; rfl) ?_; simp only [Act.put, List.setIfInBounds_toArray, List.set_cons_zero, List.set_cons_succ])
    refine walkS_no rfl (fun K hK => ?_)
    go_simp
    refine hK _ _ hS ?_
    clear hK K
    refine walkS_no rfl (fun K hK => ?_)
    go_simp
    refine hK _ _ hS ?_
    clear hK K
    repeat (refine walkS_yes hS rfl (fun w' hw' => by obtain ⟨q0, q1⟩ := hw'; go_simp; rfl) ?_; simp only [Act.put, List.setIfInBounds_toArray, List.set_cons_zero, List.set_cons_succ])
    refine walkS_no rfl (fun K hK => ?_)
    go_simp
    refine hK _ _ ?_ ?_
    · exact ⟨(b0.other (by show g ≠ z; omega) _).drew.1, (b1.other (by show g ≠ z + 1; omega) _).drew.1⟩
    clear hK K
    refine walkS_no rfl (fun K hK => ?_)
    go_simp
    refine hK _ _ ?_ ?_
    · exact ⟨((b0.other (by show g ≠ z; omega) _).other (by show z + 2 ≠ z; omega) _).drew.1, ((b1.other (by show g ≠ z + 1; omega) _).other (by show z + 2 ≠ z + 1; omega) _).drew.1⟩
    clear hK K
    simp only [walkS]
    gi_wp2
    have s1 := h6.set (k := k) (by rw [List.length_append, List.length_drop, H1.out]; omega) r
    rw [set_mid H1.out hk] at s1
    refine ⟨keeps_drew (keeps_set (keeps_set (keeps_set (KeepsFrom.refl _ _) _ _) _ _) _ _), O ++ [r], q, by rw [List.length_append, H1.out]; rfl, hk, fits_snoc h3 HR1.out, hq1, ?_, ?_, ?_,
      (((b0.other (by show g ≠ z; omega) _).other (by show z + 2 ≠ z; omega) _).other (by show z + 1 ≠ z; omega) _).drew,
      (((b1.other (by show g ≠ z + 1; omega) _).other (by show z + 2 ≠ z + 1; omega) _).set _).drew,
      (((b2.other (by show g ≠ z + 2; omega) _).set _).other (by show z + 1 ≠ z + 2; omega) _).drew,
      (((b3.other (by show g ≠ z + 3; omega) _).other (by show z + 2 ≠ z + 3; omega) _).other (by show z + 1 ≠ z + 3; omega) _).drew,
      (((b4.other (by show g ≠ z + 4; omega) _).other (by show z + 2 ≠ z + 4; omega) _).other (by show z + 1 ≠ z + 4; omega) _).drew, ?_, ?_⟩
    · rw [lv_snoc, H1.out, show 2 ^ (64 * (k + 1)) = 2 ^ (64 * k) * 18446744073709551616 by rw [Nat.mul_add, Nat.pow_add]]
      exact HST.out
    · exact ((s1.other (by show z + 2 ≠ g; omega) _).other (by show z + 1 ≠ g; omega) _).drew
    · exact (((h7.other (p := ⟨g, off + k, none⟩) (fun h0 bl o e => (hne h0 bl o e).1) _).other (p := ⟨z + 2, 0, none⟩) (fun h0 bl o e => by have := hbl h0 bl o e; show bl ≠ z + 2; omega) _).other (p := ⟨z + 1, 0, none⟩) (fun h0 bl o e => by have := hbl h0 bl o e; show bl ≠ z + 1; omega) _).drew
    · show z + 5 ≤ (World.setCell _ _ _).heap.size
      rw [size_set, size_set, size_set]; exact hss
    · have hzz := HZ.out
      exact (((hw.setIn (by omega) (by omega) _).setNew hs.block (by show w.heap.size ≤ z + 2; omega) _).setNew hs.block (by show w.heap.size ≤ z + 1; omega) _).drew
  case done =>
    rintro D W hD ⟨O, c, h1, h2, h3, h4, h5, h6, h7, b0, b1, b2, b3, b4, hss, hw⟩ hK
    gi_wp2
    have H1 := Lib.hid h1
    have H5 := Lib.hid h5
    clear h1 h5
    refine ⟨by simp, .inl ⟨_, _, rfl, run_takeDeferred hK, ?_⟩⟩
    have b1 : Below W0.heap.size W (W.putObj D (.deferred none)) := below_putObj W D _ hD (by omega)
    have e1 := h6
    rw [List.drop_eq_nil_of_le (Nat.le_refl _), List.append_nil] at e1
    have e5 := H5.out
    rw [List.take_of_length_le (Nat.le_refl _), List.take_of_length_le hBA] at e5
    have hzz := HZ.out
    exact ⟨_, results_none rfl _ _ _, O, c, _, rfl, H1.out, h3, h4, e5, e1.below b1 (by omega), hw.after (b1.mono (by omega)) hs.block⟩
  case stop =>
    rintro D k W _ _ h _
    exact h.elim
end Go.Proofs.YtofpcdjoljjnoaaGreatDoor

namespace Go.Proofs.YtofpcdjoljjnoaaGreatDoor
open Go.RowKit Go.Shelf
attribute [local go_sem] Oper.semAt_some wide_fn

end Go.Proofs.YtofpcdjoljjnoaaGreatDoor

namespace Go.Proofs.YtofpcdjoljjnoaaGreatDoor
open Go.RowKit

abbrev Short (n : Nat) : Prop := (nrow n).length ≤ 2048

theorem NTr.slice {w : World} {v : Value} {n : Nat} (h : NTr w v n) : ∃ a cap, v = .slice a (nrow n).length cap ∧ (nrow n).length ≤ cap ∧ (a = none → cap = 0) ∧ NatAt w a (nrow n) := h
theorem ResOk.out {B n : Nat} {w w1 w' : World} {e : Ending} (h : ResOk B n w1 e w') (hb : Below w.heap.size w w1) (hB : B = w.heap.size) : ERes w.heap.size n w e w' := by
  obtain ⟨v, he, hr, hb2⟩ := h
  exact ⟨v, he, by rw [← hB]; exact hr, hb.trans (hb2.mono hb.size)⟩
theorem OwnRes.more {w w1 w' : World} {e : Ending} {L : List Nat} (h : OwnRes L w1 e w') (hb : Below w.heap.size w w1) : OwnRes L w e w' := by
  obtain ⟨v, he, hr, hb2⟩ := h
  exact ⟨v, he, hr.more hb.size, hb.trans (hb2.mono hb.size)⟩

section
variable {K K' : Nat} {w : World} {va vb : Value} {na nb : Nat}

set_option maxHeartbeats 1000000 in
theorem cmp_p (ha : NNum K w va na) (hb : NNum K' w vb nb) (hK : K ≤ 1099511627776) (hK' : K' ≤ 1099511627776) : Calls Tryz.prog 61 #[va, vb] w (CmpAnd na nb w) := by
  have HT := Lib.hid (trim_v ha hK)
  have HT' := Lib.hid (trim_v hb hK')
  have HL : Hid ((nrow na).length ≤ 1099511627776) := Lib.hid (Nat.le_trans ha.rowLen hK)
  obtain ⟨a, ca, A, rfl, _, _, _, _, _, _⟩ := ha
  obtain ⟨b, cb, B, rfl, _, _, _, _, _, _⟩ := hb
  go_enter Tryz.func61, Tryz.ntmps61
  go_wp2_with fail
  refine HT.out.mono ?_
  rintro e w' ⟨v, rfl, hv, rfl⟩
  have HV := Lib.hid hv
  obtain ⟨a', ca', rfl, _, _, m2⟩ := hv
  have M2 := Lib.hid m2
  clear m2
  go_wp2_with fail
  refine HT'.out.mono ?_
  rintro e w' ⟨v, rfl, hv, rfl⟩
  obtain ⟨b', cb', rfl, _, _, m3⟩ := hv
  have HC := Lib.hid (compare_any a' b' ca' cb' na nb w HL.out M2.out m3)
  clear m3
  go_wp2_with fail
  refine HC.out.mono ?_
  rintro e w2 ⟨rfl, hb2⟩
  have HB := Lib.hid hb2
  clear hb2
  go_wp2_with fail
  go_ret
  exact ⟨rfl, HB.out⟩

end
end Go.Proofs.YtofpcdjoljjnoaaGreatDoor
