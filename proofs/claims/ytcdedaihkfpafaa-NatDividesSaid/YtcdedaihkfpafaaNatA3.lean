/-
  LAYER 3: the texts NatBits, NatBits2, NatNum, NatDivM, NatDiv, NatGcd, one behind the other.
-/
import Derived.Test.YtcdedaihkfpafaaNatA2
import Derived.Laws.BitsAllLaws

namespace Go.Proofs.Ytcdedaihkfpafaa
open Go.RowKit

/-- The bit of a place. -/
def bitV (v : Nat) (i : Int) : Nat := if i < 0 then 0 else v / 2 ^ i.toNat % 2
theorem bitV_lt (v : Nat) (i : Int) : bitV v i < 2 := by unfold bitV; split <;> omega

/-- How many bits. -/
def blen (v : Nat) : Nat := if v = 0 then 0 else v.log2 + 1
theorem lt_blen (v : Nat) : v < 2 ^ blen v := by
  unfold blen
  split
  · rename_i h; subst h; decide
  · exact Nat.lt_log2_self
theorem blen_of {v k : Nat} (h1 : v < 2 ^ (k + 1)) (h2 : v / 2 ^ k % 2 = 1) : blen v = k + 1 := by
  have h3 : 2 ^ k ≤ v := by
    apply Classical.byContradiction
    intro h
    rw [Nat.div_eq_of_lt (by omega)] at h2
    simp at h2
  have h0 : v ≠ 0 := by have := Nat.two_pow_pos k; omega
  unfold blen
  rw [if_neg h0]
  congr 1
  exact (Nat.log2_eq_iff h0).2 ⟨h3, h1⟩
theorem blen_le {v k : Nat} (h : v < 2 ^ k) : blen v ≤ k := by
  unfold blen
  split
  · omega
  · rename_i h0
    have := (Nat.log2_lt h0).2 h
    omega
theorem blen_ge {v : Nat} (h : v ≠ 0) : 2 ^ (blen v - 1) ≤ v := by
  unfold blen
  rw [if_neg h, Nat.add_sub_cancel]
  exact Nat.log2_self_le h

theorem lv_bit {L : List Nat} (h : Fits L) (i : Nat) : lv L / 2 ^ i % 2 = L.getD (i / 64) 0 / 2 ^ (i % 64) % 2 := by
  rw [← lv_limb h (i / 64)]
  have e : lv L / 2 ^ i = lv L / 2 ^ (64 * (i / 64)) / 2 ^ (i % 64) := by
    rw [Nat.div_div_eq_div_mul, ← Nat.pow_add, Nat.div_add_mod]
  rw [e]
  generalize lv L / 2 ^ (64 * (i / 64)) = x
  have hr : i % 64 < 64 := Nat.mod_lt _ (by omega)
  generalize i % 64 = r at *
  have h1 := Nat.mod_mul_right_div_self x (2 ^ r) (2 ^ (64 - r))
  rw [← Nat.pow_add, show r + (64 - r) = 64 by omega] at h1
  rw [h1, Nat.mod_mod_of_dvd _ (show 2 ∣ 2 ^ (64 - r) from Nat.dvd_trans (by decide : 2 ∣ 2 ^ 1) (Nat.pow_dvd_pow 2 (by omega)))]

theorem and_one (n : Nat) (h : n < 18446744073709551616) : bits .and .u64 (n : Int) 1 = ((n % 2 : Nat) : Int) := by
  have e := u64_and_nat n 1 h (by omega)
  rw [show ((1 : Nat) : Int) = 1 from rfl] at e
  rw [e, Nat.and_one_is_mod]

set_option maxHeartbeats 1000000 in
theorem nbit_any (A : Option Addr) (cap : Nat) (L : List Nat) (j : Int) (w : World) (hl : L.length ≤ 1099511627776) (hjm : j ≤ 9223372036854775807) (hf : Fits L) (hc : NatAt w A L) :
    Calls Try.prog 38 #[.slice A L.length cap, .int .i64 j] w fun e w' => e = .returned (.int .u64 ((bitV (lv L) j : Nat) : Int)) ∧ w' = w := by
  have hlI : (L.length : Int) ≤ 1099511627776 := by omega
  by_cases hneg : j < 0
  · have HB : Hid (bitV (lv L) j = 0) := Lib.hid (by unfold bitV; rw [if_pos hneg])
    clear hc
    go_enter Try.func38, Try.ntmps38
    go_wp2_with fail
    go_ret
    exact ⟨by rw [HB.out]; rfl, rfl⟩
  · have hj0 : 0 ≤ j := by omega
    have hnB : decide (j < 0) = false := by simpa using hj0
    obtain ⟨i, hi⟩ : ∃ i : Nat, j = (i : Int) := ⟨j.toNat, by omega⟩
    have HV : Hid (bitV (lv L) j = L.getD (i / 64) 0 / 2 ^ (i % 64) % 2) := Lib.hid (by
      unfold bitV; rw [if_neg hneg, hi, Int.toNat_natCast, lv_bit hf])
    by_cases hlt : i / 64 < L.length
    · obtain ⟨b, off, rfl, hcell⟩ := hc (i / 64) hlt
      have hqI : j / 64 < (L.length : Int) := by omega
      have hq0 : 0 ≤ j / 64 := by omega
      have HQ : (j / 64).toNat = i / 64 := by omega
      have hcell' : w.cell? ⟨b, off + (j / 64).toNat, none⟩ = some (.int .u64 ((L.getD (i / 64) 0 : Nat) : Int)) := by rw [HQ]; exact hcell
      have hxl : L.getD (i / 64) 0 < 18446744073709551616 := by
        have h0 := hf (L.getD (i / 64) 0) (by rw [List.getD_eq_getElem?_getD, List.getElem?_eq_getElem hlt]; exact List.getElem_mem hlt)
        exact h0
      obtain ⟨r, hr⟩ : ∃ r : Nat, r = i % 64 := ⟨_, rfl⟩
      have hrI : j % 64 = (r : Int) := by omega
      have hr63 : (r : Int) ≤ 63 := by omega
      obtain ⟨D, hD⟩ : ∃ D : Nat, D = L.getD (i / 64) 0 / 2 ^ r := ⟨_, rfl⟩
      have hDl : D < 18446744073709551616 := by rw [hD]; exact Nat.lt_of_le_of_lt (Nat.div_le_self _ _) hxl
      have HV2 : Hid (bitV (lv L) j = D % 2) := Lib.hid (by rw [HV.out, hD, hr])
      obtain ⟨x, hx⟩ : ∃ x : Int, x = ((L.getD (i / 64) 0 : Nat) : Int) := ⟨_, rfl⟩
      rw [← hx] at hcell'
      have hxd : x / 2 ^ r = (D : Int) := by rw [hx, hD]; simp
      have hAN : bits .and .u64 (D : Int) 1 = ((D % 2 : Nat) : Int) := and_one D hDl
      have x0 : 0 ≤ x := by omega
      have x1 : x < 18446744073709551616 := by omega
      clear hc hcell HQ hi hlt HV hD hr hx hDl hxl hneg
      go_enter Try.func38, Try.ntmps38
      go_wp2_with fail
      go_ret
      exact ⟨by rw [HV2.out]; rfl, rfl⟩
    · have hge : (L.length : Int) ≤ j / 64 := by omega
      have HB : Hid (bitV (lv L) j = 0) := Lib.hid (by
        rw [HV.out, List.getD_eq_getElem?_getD, List.getElem?_eq_none (by omega)]; simp)
      clear hc hi hlt HV hneg
      go_enter Try.func38, Try.ntmps38
      go_wp2_with fail
      go_ret
      exact ⟨by rw [HB.out]; rfl, rfl⟩
end Go.Proofs.Ytcdedaihkfpafaa

namespace Go.Proofs.Ytcdedaihkfpafaa
open Go.RowKit

def BitsRel (L : List Nat) (n : Value) : Prop := ∃ k : Nat, k ≤ 64 * L.length ∧ n = .int .i64 (k : Int) ∧ lv L < 2 ^ k
def IntPost (w : World) (n : Nat) (e : Ending) (w' : World) : Prop := ∃ y : Int, y = (n : Int) ∧ e = .returned (.int .i64 y) ∧ w = w'

set_option maxHeartbeats 1000000 in
theorem nBits_any (A : Option Addr) (cap : Nat) (L : List Nat) (w : World) (hl : L.length ≤ 137438953472) (hf : Fits L) (hc : NatAt w A L) :
    Calls Try.prog 14 #[.slice A L.length cap] w (IntPost w (blen (lv L))) := by
  have HF := Lib.hid hf
  have HC := Lib.hid hc
  have hlI : (L.length : Int) ≤ 137438953472 := by omega
  clear hf hc
  go_enter Try.func14, Try.ntmps14
  go_wp2_with fail
  go_loop [3] (fun n => BitsRel L n) (fun n => (intOf n).toNat)
  case atStart => exact ⟨64 * L.length, Nat.le_refl _, by go_num, lv_lt HF.out⟩
  case round =>
    obtain ⟨k, hk, rfl, hv⟩ := hrel
    rcases k with _ | k
    · have HE : Hid (blen (lv L) = 0) := Lib.hid (by have : lv L = 0 := by simpa using hv
                                                     rw [this]; rfl)
      clear hv
      go_wp2_with fail
      go_ret
      exact ⟨0, by rw [HE.out]; rfl, rfl, rfl⟩
    · obtain ⟨j, hj⟩ : ∃ j : Int, j = (k : Int) := ⟨_, rfl⟩
      have HJ := Lib.hid hj
      have ej : ((k + 1 : Nat) : Int) = j + 1 := by omega
      rw [ej]
      have hj0 : 0 ≤ j := by omega
      have hjm : j ≤ 8796093022208 := by omega
      have hb := bitV_lt (lv L) j
      have hbv : bitV (lv L) j = lv L / 2 ^ k % 2 := by unfold bitV; rw [if_neg (by omega), hj, Int.toNat_natCast]
      have H := Lib.hid (nbit_any A cap L j w (by omega) (by omega) HF.out HC.out)
      by_cases h0 : bitV (lv L) j = 0
      · have HV : Hid (lv L < 2 ^ k) := Lib.hid (by
          rw [h0] at hbv
          apply Classical.byContradiction
          intro hge
          have h1 : lv L / 2 ^ k < 2 := by rw [Nat.div_lt_iff_lt_mul (Nat.two_pow_pos _)]; rw [Nat.pow_succ] at hv; omega
          have h2 : 1 ≤ lv L / 2 ^ k := by rw [Nat.le_div_iff_mul_le (Nat.two_pow_pos _)]; omega
          omega)
        have HK : Hid (k ≤ 64 * L.length) := Lib.hid (by omega)
        rw [h0] at H
        clear h0 hb hbv hv hj hk ej
        go_wp2_with (go_at_call 38; refine H.out.mono ?_; rintro e w' ⟨rfl, rfl⟩)
        go_round
        case rel => exact ⟨k, HK.out, by rw [HJ.out], HV.out⟩
        case measure => have := HJ.out; simp [intOf]; omega
      · have h1 : bitV (lv L) j = 1 := by omega
        have HE : Hid (blen (lv L) = k + 1) := Lib.hid (blen_of hv (by rw [← hbv]; exact h1))
        rw [h1] at H
        clear h0 h1 hb hbv hv hj hk ej
        go_wp2_with (go_at_call 38; refine H.out.mono ?_; rintro e w' ⟨rfl, rfl⟩)
        go_ret
        exact ⟨j + 1, by rw [HE.out, HJ.out]; rfl, rfl, rfl⟩

theorem ndigits_any (A : Option Addr) (cap : Nat) (L : List Nat) (w : World) (hl : L.length ≤ 137438953472) (hf : Fits L) (hc : NatAt w A L) :
    Calls Try.prog 39 #[.slice A L.length cap] w (IntPost w ((blen (lv L) + 31) / 32)) := by
  have H := Lib.hid (nBits_any A cap L w hl hf hc)
  have hb := blen_le (lv_lt hf)
  have hlI : blen (lv L) ≤ 8796093022208 := by omega
  clear hf hc hb
  go_enter Try.func39, Try.ntmps39
  go_wp2_with fail
  refine H.out.mono ?_
  rintro e w' ⟨y, hy, rfl, rfl⟩
  have HY := Lib.hid hy
  have hy0 : 0 ≤ y := by omega
  have hy1 : y ≤ 8796093022208 := by omega
  clear hy
  go_wp2_with fail
  go_ret
  exact ⟨_, by rw [HY.out]; omega, rfl, rfl⟩
end Go.Proofs.Ytcdedaihkfpafaa

namespace Go.Proofs.Ytcdedaihkfpafaa
open Go.RowKit

/-- A slice that tells a number, in at most K limbs, normal or not. -/
def NNum (K : Nat) (w : World) (v : Value) (n : Nat) : Prop :=
  ∃ a cap L, v = .slice a L.length cap ∧ L.length ≤ cap ∧ (a = none → cap = 0) ∧ Fits L ∧ NatAt w a L ∧ lv L = n ∧ L.length ≤ K

theorem NNum.below {K n : Nat} {w w' : World} {v : Value} (h : NNum K w v n) (hb : Below w.heap.size w w') : NNum K w' v n := by
  obtain ⟨a, cap, L, h1, h2, h3, h4, h5, h6, h7⟩ := h
  exact ⟨a, cap, L, h1, h2, h3, h4, h5.below hb (Nat.le_refl _), h6, h7⟩
theorem NNum.drewN {K n m : Nat} {w : World} {v : Value} (h : NNum K w v n) : NNum K (w.drewN m) v n := h
theorem NNum.mono {K K' n : Nat} {w : World} {v : Value} (h : NNum K w v n) (hK : K ≤ K') : NNum K' w v n := by
  obtain ⟨a, cap, L, h1, h2, h3, h4, h5, h6, h7⟩ := h
  exact ⟨a, cap, L, h1, h2, h3, h4, h5, h6, by omega⟩
theorem NNum.lt {K n : Nat} {w : World} {v : Value} (h : NNum K w v n) : n < 2 ^ (64 * K) := by
  obtain ⟨a, cap, L, _, _, _, h4, _, h6, h7⟩ := h
  rw [← h6]
  exact Nat.lt_of_lt_of_le (lv_lt h4) (Nat.pow_le_pow_right (by omega) (by omega))
theorem NNum.of_arg {K : Nat} {w : World} {a : Option Addr} {cap : Nat} {L : List Nat} (h2 : L.length ≤ cap) (h3 : a = none → cap = 0) (h4 : Fits L) (h5 : NatAt w a L) (h7 : L.length ≤ K) : NNum K w (.slice a L.length cap) (lv L) :=
  ⟨a, cap, L, rfl, h2, h3, h4, h5, rfl, h7⟩
theorem NRow.num {B K : Nat} {w : World} {v : Value} {L : List Nat} (h : NRow B w v L) (hf : Fits L) (hK : L.length ≤ K) : NNum K w v (lv L) := by
  obtain ⟨A, cap, rfl, hc, _, hat⟩ := h.at_
  refine ⟨A, cap, L, rfl, hc, fun hA => ?_, hf, hat, rfl, hK⟩
  subst hA
  rcases h.2 with ⟨he, _⟩ | ⟨g, cap', cur, he, _⟩
  · injection he
  · injection he with h1; cases h1
theorem NRow.numN {B K n : Nat} {w : World} {v : Value} (h : NRow B w v (nrow n)) (hK : n < 2 ^ (64 * K)) : NNum K w v n := by
  have := h.num (nrow_fits n) (nrow_length_le hK)
  rwa [lv_nrow] at this
/-- A list of one limb. -/
theorem num_lit {w : World} {d : Nat} (T : TypeId) (hd : d < 2 ^ 64) : NNum 1 (w.alloc (.cells #[.int .u64 (d : Int)] T)) (.slice (some ⟨w.heap.size, 0, none⟩) 1 1) d := by
  refine ⟨some ⟨w.heap.size, 0, none⟩, 1, [d], rfl, by simp, fun h => (by cases h), fun x hx => ?_, fun i hi => ?_, by simp [lv], by simp⟩
  · simp at hx; subst hx; exact hd
  · have h0 : i = 0 := by simpa using hi
    subst h0
    refine ⟨w.heap.size, 0, rfl, ?_⟩
    rw [Nat.zero_add, World.cell?_alloc_at _ _ _ _ rfl]
    rfl

/-- What is told of a number, by a call that makes memory. -/
def NOut (B K : Nat) (n : Nat) (w : World) (e : Ending) (w' : World) : Prop := ∃ v, e = .returned v ∧ NRow B w' v (nrow n) ∧ NNum K w' v n ∧ Below B w w'
theorem NRes.out {K n : Nat} {w w' : World} {e : Ending} (h : NRes w n e w') (hK : n < 2 ^ (64 * K)) : NOut w.heap.size K n w e w' := by
  obtain ⟨v, he, hr, hb⟩ := h
  exact ⟨v, he, hr, hr.numN hK, hb⟩

section
variable {K : Nat} {w : World} {va vb : Value} {na nb : Nat}
theorem add_v (hK : K ≤ 1048576) (ha : NNum K w va na) (hb : NNum K w vb nb) : Calls Try.prog 40 #[va, vb] w (NRes w (na + nb)) := by
  obtain ⟨a, ca, A, rfl, _, _, h4, h5, rfl, h7⟩ := ha
  obtain ⟨b, cb, B, rfl, _, _, k4, k5, rfl, k7⟩ := hb
  exact nadd_any a b ca cb A B w (by omega) (by omega) h4 k4 h5 k5
theorem sub_v (hK : K ≤ 1048576) (ha : NNum K w va na) (hb : NNum K w vb nb) (hle : nb ≤ na) : Calls Try.prog 42 #[va, vb] w (NRes w (na - nb)) := by
  obtain ⟨a, ca, A, rfl, _, _, h4, h5, rfl, h7⟩ := ha
  obtain ⟨b, cb, B, rfl, _, _, k4, k5, rfl, k7⟩ := hb
  exact nsub_any a b ca cb A B w (by omega) h4 k4 hle h5 k5
theorem mul_v (hK : K ≤ 1048576) (ha : NNum K w va na) (hb : NNum K w vb nb) : Calls Try.prog 37 #[va, vb] w (NRes w (na * nb)) := by
  obtain ⟨a, ca, A, rfl, _, _, h4, h5, rfl, h7⟩ := ha
  obtain ⟨b, cb, B, rfl, _, _, k4, k5, rfl, k7⟩ := hb
  exact nmul_any a b ca cb A B w (by omega) (by omega) h4 k4 h5 k5
theorem cmp_v (hK : K ≤ 1048576) (ha : NNum K w va na) (hb : NNum K w vb nb) : Calls Try.prog 36 #[va, vb] w (CmpPost w na nb) := by
  obtain ⟨a, ca, A, rfl, _, _, h4, h5, rfl, h7⟩ := ha
  obtain ⟨b, cb, B, rfl, _, _, k4, k5, rfl, k7⟩ := hb
  exact ncmp_any a b ca cb A B w (by omega) (by omega) h4 k4 h5 k5
theorem shl_v {n : Int} {s : Nat} (hK : K ≤ 1048576) (ha : NNum K w va na) (hn : n = (s : Int)) (hs : s ≤ 1099511627776) : Calls Try.prog 18 #[va, .int .i64 n] w (NRes w (na * 2 ^ s)) := by
  obtain ⟨a, ca, A, rfl, _, _, h4, h5, rfl, h7⟩ := ha
  exact nshl_any a ca A n s w (by omega) hn hs h4 h5
theorem shr_v {n : Int} {s : Nat} (hK : K ≤ 1048576) (ha : NNum K w va na) (hn : n = (s : Int)) (hs : s ≤ 17592186044416) : Calls Try.prog 19 #[va, .int .i64 n] w (NRes w (na / 2 ^ s)) := by
  obtain ⟨a, ca, A, rfl, _, _, h4, h5, rfl, h7⟩ := ha
  exact nshr_any a ca A n s w (by omega) hn hs h4 h5
theorem norm_v (hK : K ≤ 1048576) (ha : NNum K w va na) : Calls Try.prog 34 #[va] w (NRes w na) := by
  obtain ⟨a, ca, A, rfl, h2, h3, h4, h5, rfl, h7⟩ := ha
  exact nnorm_any a ca A w (by omega) h2 h3 h4 h5
theorem bits_v (hK : K ≤ 1048576) (ha : NNum K w va na) : Calls Try.prog 14 #[va] w (IntPost w (blen na)) := by
  obtain ⟨a, ca, A, rfl, _, _, h4, h5, rfl, h7⟩ := ha
  exact nBits_any a ca A w (by omega) h4 h5
theorem digits_v (hK : K ≤ 1048576) (ha : NNum K w va na) : Calls Try.prog 39 #[va] w (IntPost w ((blen na + 31) / 32)) := by
  obtain ⟨a, ca, A, rfl, _, _, h4, h5, rfl, h7⟩ := ha
  exact ndigits_any a ca A w (by omega) h4 h5
theorem digit_v {j : Int} {i : Nat} (ha : NNum K w va na) (hj : j = (i : Int)) (hi : i ≤ 2199023255552) : Calls Try.prog 41 #[va, .int .i64 j] w (DigPost w (na / 2 ^ (32 * i) % 2 ^ 32)) := by
  obtain ⟨a, ca, A, rfl, _, _, h4, h5, rfl, h7⟩ := ha
  have h := ndigit_any a ca A j i w hj hi h4 h5
  rwa [dg_eq h4] at h
end

/-! ### Plain mathematics of the division -/
theorem blen_pos {n : Nat} (h : n ≠ 0) : 0 < blen n := by unfold blen; rw [if_neg h]; omega
theorem blen_shl {n s : Nat} (h : n ≠ 0) : blen (n * 2 ^ s) = blen n + s := by
  have h0 : n * 2 ^ s ≠ 0 := Nat.mul_ne_zero h (Nat.pos_iff_ne_zero.1 (Nat.two_pow_pos s))
  have hp := blen_pos h
  have h1 := lt_blen n
  have h2 := blen_ge h
  have h3 : n * 2 ^ s < 2 ^ (blen n + s) := by rw [Nat.pow_add]; exact Nat.mul_lt_mul_of_pos_right h1 (Nat.two_pow_pos s)
  have h4 : 2 ^ (blen n + s - 1) ≤ n * 2 ^ s := by
    rw [show blen n + s - 1 = (blen n - 1) + s by omega, Nat.pow_add]; exact Nat.mul_le_mul_right _ h2
  have h5 := blen_le h3
  have h6 := lt_blen (n * 2 ^ s)
  apply Classical.byContradiction
  intro hne
  have h7 : 2 ^ blen (n * 2 ^ s) ≤ 2 ^ (blen n + s - 1) := Nat.pow_le_pow_right (by omega) (by omega)
  omega

/-- One digit of a quotient. -/
theorem div_dig {X Y t r Q : Nat} (hr : r = X / 2 ^ (32 * (t + 1)) % Y) (hQ : Q = X / 2 ^ (32 * (t + 1)) / Y) (hY : 0 < Y) :
    X / 2 ^ (32 * t) % Y = (r * 2 ^ 32 + X / 2 ^ (32 * t) % 2 ^ 32) % Y ∧ X / 2 ^ (32 * t) / Y = Q * 2 ^ 32 + (r * 2 ^ 32 + X / 2 ^ (32 * t) % 2 ^ 32) / Y := by
  have e1 : X / 2 ^ (32 * (t + 1)) = X / 2 ^ (32 * t) / 2 ^ 32 := by rw [Nat.mul_add, Nat.mul_one, Nat.pow_add, Nat.div_div_eq_div_mul]
  rw [e1] at hr hQ
  generalize X / 2 ^ (32 * t) = x at *
  have h1 := Nat.div_add_mod x (2 ^ 32)
  have h2 := Nat.div_add_mod (x / 2 ^ 32) Y
  rw [← hr, ← hQ] at h2
  have e2 : x = (r * 2 ^ 32 + x % 2 ^ 32) + Y * (Q * 2 ^ 32) := by
    have e3 : Y * (Q * 2 ^ 32) = Y * Q * 2 ^ 32 := (Nat.mul_assoc _ _ _).symm
    rw [e3]
    generalize Y * Q = z at *
    omega
  constructor
  · conv => lhs; rw [e2]
    rw [Nat.add_mul_mod_self_left]
  · conv => lhs; rw [e2]
    rw [Nat.add_mul_div_left _ _ hY]
    omega
end Go.Proofs.Ytcdedaihkfpafaa

namespace Go.Proofs.Ytcdedaihkfpafaa
open Go.RowKit

theorem shift_facts {nb s : Nat} (hb : nb ≠ 0) (hs : s = (32 - blen nb % 32) % 32) : s ≤ 31 ∧ blen (nb * 2 ^ s) = 32 * ((blen (nb * 2 ^ s) + 31) / 32) ∧ 1 ≤ (blen (nb * 2 ^ s) + 31) / 32 := by
  have h1 := blen_pos hb
  rw [blen_shl hb]
  omega

theorem small_quot {na nb s : Nat} (hb : nb ≠ 0) (hs : s = (32 - blen nb % 32) % 32) (hlt : (blen (na * 2 ^ s) + 31) / 32 < (blen (nb * 2 ^ s) + 31) / 32) : na < nb := by
  obtain ⟨h1, h2, h3⟩ := shift_facts hb hs
  have h0 : nb * 2 ^ s ≠ 0 := Nat.mul_ne_zero hb (Nat.pos_iff_ne_zero.1 (Nat.two_pow_pos s))
  have hx := lt_blen (na * 2 ^ s)
  have hy := blen_ge h0
  have h4 : 2 ^ blen (na * 2 ^ s) ≤ 2 ^ (blen (nb * 2 ^ s) - 1) := Nat.pow_le_pow_right (by omega) (by omega)
  exact Nat.lt_of_mul_lt_mul_right (a := 2 ^ s) (by omega)

/-- The divisor's first digit, the number's first two, and the guess. -/
theorem guess_facts {Y n R : Nat} (hY : blen Y = 32 * n) (hn : 1 ≤ n) (hR : R < Y * 2 ^ 32) :
    0 < Y / 2 ^ (32 * (n - 1)) % 2 ^ 32 ∧ R / 2 ^ (32 * n) % 2 ^ 32 * 4294967296 + R / 2 ^ (32 * (n - 1)) % 2 ^ 32 < 18446744073709551616 ∧
    R / Y ≤ (R / 2 ^ (32 * n) % 2 ^ 32 * 4294967296 + R / 2 ^ (32 * (n - 1)) % 2 ^ 32) / (Y / 2 ^ (32 * (n - 1)) % 2 ^ 32) ∧ R / Y ≤ 4294967295 := by
  have h0 : Y ≠ 0 := by rintro rfl; unfold blen at hY; simp at hY; omega
  have hlt := lt_blen Y
  have hge := blen_ge h0
  rw [hY] at hlt hge
  obtain ⟨k, rfl⟩ : ∃ k, n = k + 1 := ⟨n - 1, by omega⟩
  rw [Nat.add_sub_cancel]
  have e1 : 2 ^ (32 * (k + 1)) = 2 ^ (32 * k) * 2 ^ 32 := by rw [Nat.mul_add, Nat.mul_one, Nat.pow_add]
  have hy : Y / 2 ^ (32 * k) < 2 ^ 32 := by rw [Nat.div_lt_iff_lt_mul (Nat.two_pow_pos _), Nat.mul_comm, ← e1]; exact hlt
  have hy0 : 0 < Y / 2 ^ (32 * k) := by
    have h2 : 2 ^ (32 * k) ≤ 2 ^ (32 * (k + 1) - 1) := Nat.pow_le_pow_right (by omega) (by omega)
    exact Nat.div_pos (by omega) (Nat.two_pow_pos _)
  have hyy : Y / 2 ^ (32 * k) % 2 ^ 32 = Y / 2 ^ (32 * k) := Nat.mod_eq_of_lt hy
  have hR2 : R / 2 ^ (32 * k) < 2 ^ 32 * 2 ^ 32 := by
    rw [Nat.div_lt_iff_lt_mul (Nat.two_pow_pos _)]
    have h3 : Y * 2 ^ 32 ≤ 2 ^ (32 * (k + 1)) * 2 ^ 32 := Nat.mul_le_mul_right _ (Nat.le_of_lt hlt)
    rw [e1] at h3
    have h4 : 2 ^ (32 * k) * 2 ^ 32 * 2 ^ 32 = 2 ^ 32 * 2 ^ 32 * 2 ^ (32 * k) := by rw [Nat.mul_assoc, Nat.mul_comm]
    omega
  have hRd : R / 2 ^ (32 * (k + 1)) % 2 ^ 32 * 4294967296 + R / 2 ^ (32 * k) % 2 ^ 32 = R / 2 ^ (32 * k) := by
    rw [e1, ← Nat.div_div_eq_div_mul]
    generalize R / 2 ^ (32 * k) = x at *
    omega
  rw [hyy, hRd]
  refine ⟨hy0, by omega, div_guess hy0, ?_⟩
  have h5 : R / Y < 2 ^ 32 := by rw [Nat.div_lt_iff_lt_mul (Nat.pos_of_ne_zero h0), Nat.mul_comm]; exact hR
  omega

theorem first_rest {X Y n N : Nat} (hY : blen Y = 32 * n) (hn : 1 ≤ n) (hX : (blen X + 31) / 32 + 1 = N + n) : X / 2 ^ (32 * N) < Y := by
  have h0 : Y ≠ 0 := by rintro rfl; unfold blen at hY; simp at hY; omega
  have hge := blen_ge h0
  have hx := lt_blen X
  rw [hY] at hge
  rw [Nat.div_lt_iff_lt_mul (Nat.two_pow_pos _)]
  have h1 : 2 ^ blen X ≤ 2 ^ (32 * n - 1 + 32 * N) := Nat.pow_le_pow_right (by omega) (by omega)
  rw [Nat.pow_add] at h1
  have h2 : 2 ^ (32 * n - 1) * 2 ^ (32 * N) ≤ Y * 2 ^ (32 * N) := Nat.mul_le_mul_right _ hge
  omega

/-- One digit of the quotient laid. -/
theorem quot_set {o : List Nat} {X Y t g : Nat} (ht : t < o.length) (hz : o.getD t 0 = 0) (h : dv o = 2 ^ (32 * (t + 1)) * (X / 2 ^ (32 * (t + 1)) / Y)) (hg : X / 2 ^ (32 * t) / Y = X / 2 ^ (32 * (t + 1)) / Y * 2 ^ 32 + g) :
    dv (o.set t g) = 2 ^ (32 * t) * (X / 2 ^ (32 * t) / Y) := by
  have hs := dv_set ht g
  rw [hz, Nat.mul_zero, Nat.add_zero] at hs
  rw [hs, h, hg]
  have e1 : 2 ^ (32 * (t + 1)) = 2 ^ (32 * t) * 2 ^ 32 := by rw [Nat.mul_add, Nat.mul_one, Nat.pow_add]
  rw [e1, Nat.mul_add, Nat.mul_assoc, Nat.mul_comm (2 ^ 32)]

theorem scaled {na nb s : Nat} : na * 2 ^ s / (nb * 2 ^ s) = na / nb ∧ na * 2 ^ s % (nb * 2 ^ s) / 2 ^ s = na % nb := by
  constructor
  · exact Nat.mul_div_mul_right _ _ (Nat.two_pow_pos s)
  · rw [Nat.mul_mod_mul_right, Nat.mul_div_cancel _ (Nat.two_pow_pos s)]

theorem own_below {B B' n : Nat} {w w' : World} {v : Value} {T : TypeId} {xs : List Value} (h : w.ownsRow B T 1 v n xs) (hb : Below B' w w') (hB : w.heap.size ≤ B') : w'.ownsRow B T 1 v n xs := by
  refine ⟨h.1, ?_⟩
  rcases h.2 with h0 | ⟨g, cap, cur, hv, hg0, hg, rest⟩
  · exact .inl h0
  · exact .inr ⟨g, cap, cur, hv, hg0, (hb.block g (by have := (Array.getElem?_eq_some_iff.1 hg).1; omega)).trans hg, rest⟩
end Go.Proofs.Ytcdedaihkfpafaa

namespace Go.Proofs.Ytcdedaihkfpafaa
open Go.RowKit

def DivPost (w : World) (na nb : Nat) (e : Ending) (w' : World) : Prop :=
  ∃ vq vr, e = .returned (.tuple #[vq, vr]) ∧ NRow w.heap.size w' vq (nrow (na / nb)) ∧ NRow w.heap.size w' vr (nrow (na % nb)) ∧ Below w.heap.size w w'

/-- Digits of the quotient from t on have been laid. -/
def DivRel (K X Y N g : Nat) (vx vy : Value) (w : World) (r i : Value) (wr : World) : Prop :=
  ∃ (t : Nat) (o : List Nat), t ≤ N ∧ i = .int .i64 ((t : Int) - 1) ∧ NNum K wr r (X / 2 ^ (32 * t) % Y) ∧ r.ownBlock ≠ some g ∧ o.length = N ∧ Small o ∧ (∀ j, j < t → o.getD j 0 = 0) ∧
    dv o = 2 ^ (32 * t) * (X / 2 ^ (32 * t) / Y) ∧ NNum K wr vx X ∧ NNum K wr vy Y ∧ wr.ownsRow w.heap.size 42 1 (.slice (some ⟨g, 0, none⟩) N N) N (U o) ∧ Below w.heap.size w wr

/-- A guess is taken down. -/
def GuessRel (K X Y R N g : Nat) (o : List Nat) (vx vy vr : Value) (w : World) (gs p : Value) (wr : World) : Prop :=
  ∃ gn : Nat, R / Y ≤ gn ∧ gn ≤ 4294967295 ∧ gs = .int .u64 (gn : Int) ∧ NNum K wr p (Y * gn) ∧ NNum K wr vx X ∧ NNum K wr vy Y ∧ NNum K wr vr R ∧
    wr.ownsRow w.heap.size 42 1 (.slice (some ⟨g, 0, none⟩) N N) N (U o) ∧ Below w.heap.size w wr

theorem NRow.off {B g : Nat} {w : World} {v : Value} {L : List Nat} (h : NRow B w v L) (hg : w.heap.size ≤ g) : v.ownBlock ≠ some g := fun e => by
  have := (World.ownsRow.lt h _ e).2
  omega
theorem NRow.off2 {B g : Nat} {w : World} {v : Value} {L : List Nat} (h : NRow B w v L) (hg : g < B) : v.ownBlock ≠ some g := fun e => by
  have := (World.ownsRow.lt h _ e).1
  omega
theorem NNum.setCell {K n : Nat} {w : World} {v : Value} {p : Addr} (h : NNum K w v n) (hp : v.ownBlock ≠ some p.block) (u : Value) : NNum K (w.setCell p u) v n := by
  obtain ⟨a, cap, L, rfl, h2, h3, h4, h5, h6, h7⟩ := h
  refine ⟨a, cap, L, rfl, h2, h3, h4, fun i hi => ?_, h6, h7⟩
  obtain ⟨b, off, rfl, hc⟩ := h5 i hi
  refine ⟨b, off, rfl, ?_⟩
  rw [World.cell?_setCell_other]
  · exact hc
  · intro e
    apply hp
    subst e
    rfl

set_option maxRecDepth 100000 in
set_option maxHeartbeats 8000000 in
theorem ndiv_v (K : Nat) (va vb : Value) (na nb : Nat) (w : World) (hK : K ≤ 524288) (ha : NNum K w va na) (hb : NNum K w vb nb) (hnb : nb ≠ 0) :
    Calls Try.prog 15 #[va, vb] w (DivPost w na nb) := by
  obtain ⟨i0, hi, hz0, hz1, hz2⟩ := info_parts info_u64
  obtain ⟨s, hs⟩ : ∃ s, s = (32 - blen nb % 32) % 32 := ⟨_, rfl⟩
  obtain ⟨X, hX⟩ : ∃ X, X = na * 2 ^ s := ⟨_, rfl⟩
  obtain ⟨Y, hY⟩ : ∃ Y, Y = nb * 2 ^ s := ⟨_, rfl⟩
  obtain ⟨n, hn⟩ : ∃ n, n = (blen Y + 31) / 32 := ⟨_, rfl⟩
  obtain ⟨m, hm⟩ : ∃ m, m = (blen X + 31) / 32 := ⟨_, rfl⟩
  obtain ⟨hs31, hYn, hn1⟩ := shift_facts hnb hs
  rw [← hY] at hYn hn1
  rw [← hn] at hYn hn1
  have hX2 : X < 2 ^ (64 * (K + 1)) := by
    have h1 := ha.lt
    have h2 : 2 ^ s ≤ 2 ^ 64 := Nat.pow_le_pow_right (by omega) (by omega)
    rw [hX, Nat.mul_add 64, Nat.mul_one, Nat.pow_add]
    exact Nat.lt_of_lt_of_le (Nat.mul_lt_mul_of_pos_right h1 (Nat.two_pow_pos s)) (Nat.mul_le_mul_left _ h2)
  have hY2 : Y < 2 ^ (64 * (K + 1)) := by
    have h1 := hb.lt
    have h2 : 2 ^ s ≤ 2 ^ 64 := Nat.pow_le_pow_right (by omega) (by omega)
    rw [hY, Nat.mul_add 64, Nat.mul_one, Nat.pow_add]
    exact Nat.lt_of_lt_of_le (Nat.mul_lt_mul_of_pos_right h1 (Nat.two_pow_pos s)) (Nat.mul_le_mul_left _ h2)
  have hm9 : m ≤ 2 * K + 2 := by have := blen_le hX2; omega
  have hn9 : n ≤ 2 * K + 2 := by have := blen_le hY2; omega
  have hY0 : 0 < Y := by rw [hY]; exact Nat.mul_pos (Nat.pos_of_ne_zero hnb) (Nat.two_pow_pos s)
  have HX := Lib.hid hX
  have HY := Lib.hid hY
  have HN := Lib.hid hn
  have HM := Lib.hid hm
  have HYN := Lib.hid hYn
  have HX2 := Lib.hid hX2
  have HY2 := Lib.hid hY2
  have HY0 := Lib.hid hY0
  have HS31 := Lib.hid hs31
  have HSS := Lib.hid hs
  have HNB := Lib.hid hnb
  have HN1 := Lib.hid hn1
  obtain ⟨l, hl⟩ : ∃ l : Int, l = (blen nb : Int) := ⟨_, rfl⟩
  obtain ⟨si, hsi⟩ : ∃ si : Int, si = (s : Int) := ⟨_, rfl⟩
  have HSI := Lib.hid hsi
  have HL := Lib.hid hl
  have hl0 : 0 ≤ l := by omega
  have hl9 : l ≤ 33554432 := by have := blen_le hb.lt; omega
  have HSV : Hid ((32 - l % 32) % 32 = si) := Lib.hid (by omega)
  have HSV2 : Hid (-(l % 32) % 32 = si) := Lib.hid (by omega)
  obtain ⟨mi, hmi⟩ : ∃ mi : Int, mi = (m : Int) := ⟨_, rfl⟩
  obtain ⟨ni, hni⟩ : ∃ ni : Int, ni = (n : Int) := ⟨_, rfl⟩
  have HMI := Lib.hid hmi
  have HNI := Lib.hid hni
  have HK := Lib.hid hK
  have HA := Lib.hid ha
  have HBB := Lib.hid hb
  have m0 : 0 ≤ mi := by omega
  have m1 : mi ≤ 1048578 := by omega
  have n0 : 1 ≤ ni := by omega
  have n1 : ni ≤ 1048578 := by omega
  have hne : (ni == 0) = false := beq_eq_false_iff_ne.2 (by omega)
  clear hX hY hn hm hYn hX2 hY2 hY0 hs31 hs hnb hn1 hl hsi hm9 hn9 hmi hni ha hb hK
  go_enter Try.func15, Try.ntmps15
  go_wp2_with fail
  with_reducible refine (bits_v (by have := HK.out; omega) HBB.out).mono ?_
  rintro e w' ⟨y1, hy1, rfl, rfl⟩
  obtain rfl : y1 = l := hy1.trans HL.out.symm
  clear hy1
  go_wp2_with fail
  rw [HSV.out, HSV2.out]
  with_reducible refine (shl_v (by have := HK.out; omega) HA.out HSI.out (by have := HS31.out; omega)).mono ?_
  rintro e w1 hr1
  rw [← HX.out] at hr1
  obtain ⟨vx, rfl, hw1, hx1, b1⟩ := hr1.out HX2.out
  have HW1 := Lib.hid hw1
  have HB1 := Lib.hid b1
  have HX1 := Lib.hid hx1
  clear hr1 b1 hx1 hw1
  go_wp2_with fail
  with_reducible refine (shl_v (by have := HK.out; omega) (HBB.out.below HB1.out) HSI.out (by have := HS31.out; omega)).mono ?_
  rintro e w2 hr2
  rw [← HY.out] at hr2
  obtain ⟨vy, rfl, hw2, hy2, b2⟩ := hr2.out HY2.out
  have HBX : Hid (vx.ownBlock ≠ some w2.heap.size) := Lib.hid (HW1.out.off b2.size)
  have HBY : Hid (vy.ownBlock ≠ some w2.heap.size) := Lib.hid (hw2.off (Nat.le_refl _))
  have HB2 : Hid (Below w.heap.size w w2) := Lib.hid (HB1.out.trans (b2.mono HB1.out.size))
  have HX3 := Lib.hid (HX1.out.below b2)
  have HY3 := Lib.hid hy2
  clear hr2 b2 hy2 hw2 HW1
  go_wp2_with fail
  with_reducible refine (digits_v (by have := HK.out; omega) HX3.out).mono ?_
  rintro e w3 ⟨y3, hy3, rfl, rfl⟩
  obtain rfl : y3 = mi := hy3.trans (by rw [HMI.out, HM.out])
  clear hy3
  go_wp2_with fail
  with_reducible refine (digits_v (by have := HK.out; omega) HY3.out).mono ?_
  rintro e w4 ⟨y4, hy4, rfl, rfl⟩
  obtain rfl : y4 = ni := hy4.trans (by rw [HNI.out, HN.out])
  clear hy4
  by_cases hlt : y3 < y4
  · have hq : na < nb := small_quot HNB.out HSS.out (by
      rw [← HX.out, ← HY.out, ← HM.out, ← HN.out]; have := HMI.out; have := HNI.out; omega)
    have HQ : Hid (na / nb = 0 ∧ na % nb = na) := Lib.hid ⟨Nat.div_eq_of_lt hq, Nat.mod_eq_of_lt hq⟩
    clear hq
    go_wp2_with fail
    with_reducible refine (norm_v (by have := HK.out; omega) (HA.out.below HB2.out)).mono ?_
    rintro e w5 ⟨v5, rfl, hv5, b5⟩
    have HV5 := Lib.hid hv5
    have HB5 := Lib.hid b5
    clear hv5 b5
    go_wp2_with fail
    go_ret2
    exact ⟨_, _, rfl, by rw [HQ.out.1]; exact NRow.nil _ _, by rw [HQ.out.2]; exact HV5.out.more HB2.out.size, HB2.out.trans (HB5.out.mono HB2.out.size)⟩
  · have hge : y4 ≤ y3 := by omega
    obtain ⟨N, hN⟩ : ∃ N : Nat, N = m + 1 - n := ⟨_, rfl⟩
    have HNM : Hid (m + 1 = N + n) := Lib.hid (by have := HMI.out; have := HNI.out; omega)
    have hKN : y3 - y4 + 1 = (N : Int) := by have := HMI.out; have := HNI.out; omega
    have HKN := Lib.hid hKN
    have HNP : Hid (1 ≤ N) := Lib.hid (by have := HMI.out; have := HNI.out; omega)
    have hN9 : N ≤ 1048579 := by omega
    have HZ : Hid (∀ w0 : World, w0.ownsRow w.heap.size 42 1 (.slice (some ⟨w2.heap.size, 0, none⟩) N N) N (madeCells (Value.int .u64 0).cells (N * 1)).toList → w0.ownsRow w.heap.size 42 1 (.slice (some ⟨w2.heap.size, 0, none⟩) N N) N (U (List.replicate N 0))) := Lib.hid (fun w0 h => by
      rw [show (Value.int .u64 0).cells = #[.int .u64 0] from rfl, toList_madeCells_one, Nat.mul_one] at h
      rw [U_zeros]; exact h)
    have hdl : decide (y3 < y4) = false := by simpa using hge
    clear hN hKN hlt
    go_wp2_with (
      (at_make
       refine wpList_make_full _ rfl _ _ 22 rfl w.heap.size 42 i0 (.int .u64 0) 1 Try.underlying22 hi hz0 hz1 .i64 .i64 _ _ N rfl rfl HKN.out HKN.out (by rw [hz2]; omega) (by unfold maxLen; omega) HB2.out.size ?_
       intro w0 hown0 hg0
       have HO := Lib.hid (HZ.out w0 hown0)
       have HB : Hid (Below w2.heap.size w2 w0) := Lib.hid ((Below.refl _ w2).grown hg0 (Nat.le_refl _) (fun k hk => by cases hk))
       clear hown0 hg0))
    rw [HKN.out]
    with_reducible refine (shr_v (s := 32 * N) (by have := HK.out; omega) (HX3.out.below HB.out) (by omega) (by omega)).mono ?_
    rintro e w5 hr5
    obtain ⟨vr, rfl, hw5, hr6, b5⟩ := hr5.out (K := K + 2) (by
      have h1 := HX2.out
      have h2 : X / 2 ^ (32 * N) ≤ X := Nat.div_le_self _ _
      have h3 : 2 ^ (64 * (K + 1)) ≤ 2 ^ (64 * (K + 2)) := Nat.pow_le_pow_right (by omega) (by omega)
      omega)
    have HB5 : Hid (Below w.heap.size w w5) := Lib.hid ((HB2.out.trans (HB.out.mono HB2.out.size)).trans (b5.mono (Nat.le_trans HB2.out.size HB.out.size)))
    have HX5 : Hid (NNum (K + 2) w5 vx X) := Lib.hid (((HX3.out.below HB.out).below b5).mono (by omega))
    have HY5 : Hid (NNum (K + 2) w5 vy Y) := Lib.hid (((HY3.out.below HB.out).below b5).mono (by omega))
    have hfr : X / 2 ^ (32 * N) < Y := first_rest HYN.out HN1.out (by rw [← HM.out]; exact HNM.out)
    have HR5 : Hid (NNum (K + 2) w5 vr (X / 2 ^ (32 * N) % Y)) := Lib.hid (by rw [Nat.mod_eq_of_lt hfr]; exact hr6)
    have HQ0 : Hid (dv (List.replicate N 0) = 2 ^ (32 * N) * (X / 2 ^ (32 * N) / Y)) := Lib.hid (by
      have := dv_zeros N []
      rw [List.append_nil] at this
      rw [this, Nat.div_eq_of_lt hfr]; rfl)
    have HO5 := Lib.hid (own_below HO.out b5 (Nat.le_refl _))
    have HBR : Hid (vr.ownBlock ≠ some w2.heap.size) := Lib.hid (hw5.off2 (World.ownsRow.lt HO.out w2.heap.size rfl).2)
    clear hr5 b5 hr6 hfr hw5
    obtain ⟨g, hg⟩ : ∃ g, g = w2.heap.size := ⟨_, rfl⟩
    have HG : Hid (w.heap.size ≤ g) := Lib.hid (by have := HB2.out.size; omega)
    have HO6 : Hid (w5.ownsRow w.heap.size 42 1 (.slice (some ⟨g, 0, none⟩) N N) N (U (List.replicate N 0))) := Lib.hid (by rw [hg]; exact HO5.out)
    have HBX2 : Hid (vx.ownBlock ≠ some g) := Lib.hid (by rw [hg]; exact HBX.out)
    have HBY2 : Hid (vy.ownBlock ≠ some g) := Lib.hid (by rw [hg]; exact HBY.out)
    have HBR2 : Hid (vr.ownBlock ≠ some g) := Lib.hid (by rw [hg]; exact HBR.out)
    rw [← hg]
    clear hg HO HO5 HZ HB HBX HBY HBR
    go_wp2_with fail
    go_loopw [12, 13] (fun r i wr => DivRel (K + 2) X Y N g vx vy w r i wr) (fun _ i _ => (intOf i + 1).toNat)
    case atStart => exact ⟨N, List.replicate N 0, Nat.le_refl _, by rw [← HKN.out]; congr 1; omega, HR5.out, HBR2.out, List.length_replicate, small_zeros N, fun j _ => by simp [List.getD_eq_getElem?_getD, List.getElem?_replicate]; split <;> rfl, HQ0.out, HX5.out, HY5.out, HO6.out, HB5.out⟩
    case round =>
      obtain ⟨t, o, ht, rfl, hr, hrb, hol, hos, hoz, hdv, hx, hy, how, hbel⟩ := hrel
      clear hrb
      have HR := Lib.hid hr
      have HOL := Lib.hid hol
      have HOS := Lib.hid hos
      have HOZ := Lib.hid hoz
      have HDV := Lib.hid hdv
      have HXX := Lib.hid hx
      have HYY := Lib.hid hy
      have HOW := Lib.hid how
      have HBL := Lib.hid hbel
      clear hr hol hos hoz hdv hx hy how hbel
      rcases t with _ | t
      · have HNA : Hid (NatAt wr (some ⟨g, 0, none⟩) o) := Lib.hid (fun i hi => ⟨g, 0, rfl, by rw [Nat.zero_add, World.ownsRow.cellAt HOW.out i (by rw [HOL.out] at hi; omega), U_get hi]⟩)
        have hM := nmade_any (some ⟨g, 0, none⟩) N o wr (by rw [HOL.out]; omega) HOS.out HNA.out
        rw [HOL.out] at hM
        have HM2 := Lib.hid hM
        have HQ : Hid (dv o = na / nb) := Lib.hid (by
          rw [HDV.out, Nat.mul_zero, Nat.pow_zero, Nat.one_mul, Nat.div_one, HX.out, HY.out]; exact scaled.1)
        have HR2 : Hid (X / 2 ^ (32 * 0) % Y / 2 ^ s = na % nb) := Lib.hid (by
          rw [Nat.mul_zero, Nat.pow_zero, Nat.div_one, HX.out, HY.out]; exact scaled.2)
        clear hM ht
        go_wp2_with fail
        with_reducible refine HM2.out.mono ?_
        rintro e w6 ⟨v6, rfl, hv6, b6⟩
        have HV6 := Lib.hid hv6
        have HB6 := Lib.hid b6
        clear hv6 b6
        go_wp2_with fail
        with_reducible refine (shr_v (by have := HK.out; omega) (HR.out.below HB6.out) HSI.out (by have := HS31.out; omega)).mono ?_
        rintro e w7 ⟨v7, rfl, hv7, b7⟩
        have HV7 := Lib.hid hv7
        have HB7 := Lib.hid b7
        clear hv7 b7
        go_wp2_with fail
        go_ret2
        exact ⟨_, _, rfl, by rw [← HQ.out]; exact (HV6.out.more HBL.out.size).below HB7.out (Nat.le_refl _), by rw [← HR2.out]; exact HV7.out.more (Nat.le_trans HBL.out.size HB6.out.size),
          (HBL.out.trans (HB6.out.mono HBL.out.size)).trans (HB7.out.mono (Nat.le_trans HBL.out.size HB6.out.size))⟩
      · obtain ⟨j, hj⟩ : ∃ j : Int, j = (t : Int) := ⟨_, rfl⟩
        have HJ := Lib.hid hj
        have ej : ((t + 1 : Nat) : Int) - 1 = j := by omega
        rw [ej]
        have hj0 : 0 ≤ j := by omega
        have hjN : j < (N : Int) := by omega
        have hjm : j ≤ 1048579 := by omega
        have HT : Hid (t < N) := Lib.hid (by omega)
        obtain ⟨R0, hR0⟩ : ∃ R0, R0 = X / 2 ^ (32 * (t + 1)) % Y := ⟨_, rfl⟩
        obtain ⟨d, hd⟩ : ∃ d, d = X / 2 ^ (32 * t) % 2 ^ 32 := ⟨_, rfl⟩
        obtain ⟨R, hR⟩ : ∃ R, R = R0 * 2 ^ 32 + d := ⟨_, rfl⟩
        have hd1 : d < 2 ^ 32 := by rw [hd]; exact Nat.mod_lt _ (by decide)
        have hR0Y : R0 < Y := by rw [hR0]; exact Nat.mod_lt _ HY0.out
        have hRY : R < Y * 2 ^ 32 := by
          have h1 : (R0 + 1) * 2 ^ 32 ≤ Y * 2 ^ 32 := Nat.mul_le_mul_right _ hR0Y
          omega
        have HBIG : Hid (Y * 2 ^ 32 ≤ 2 ^ (64 * (K + 2))) := Lib.hid (by
          have h1 := HY2.out
          rw [show 64 * (K + 2) = 64 * (K + 1) + 64 by omega, Nat.pow_add]
          exact Nat.mul_le_mul (Nat.le_of_lt h1) (by decide))
        have hdd := div_dig (X := X) (Y := Y) (t := t) hR0 rfl HY0.out
        rw [← hd, ← hR] at hdd
        have HDD := Lib.hid hdd
        have hR2 : NNum (K + 2) wr u12 R0 := by rw [hR0]; exact HR.out
        obtain ⟨gf1, gf2, gf3, gf4⟩ := guess_facts HYN.out HN1.out hRY
        have HRV := Lib.hid hR
        have HRY := Lib.hid hRY
        have HR0Y := Lib.hid hR0Y
        have HRR := Lib.hid hR2
        have HD := Lib.hid hd
        have HD1 := Lib.hid hd1
        have GF3 := Lib.hid gf3
        have GF4 := Lib.hid gf4
        obtain ⟨a1, ha1⟩ : ∃ a1 : Nat, a1 = R / 2 ^ (32 * n) % 2 ^ 32 := ⟨_, rfl⟩
        obtain ⟨a2, ha2⟩ : ∃ a2 : Nat, a2 = R / 2 ^ (32 * (n - 1)) % 2 ^ 32 := ⟨_, rfl⟩
        obtain ⟨a3, ha3⟩ : ∃ a3 : Nat, a3 = Y / 2 ^ (32 * (n - 1)) % 2 ^ 32 := ⟨_, rfl⟩
        have HA1 := Lib.hid ha1
        have HA2 := Lib.hid ha2
        have HA3 := Lib.hid ha3
        rw [← ha1, ← ha2] at gf2
        rw [← ha3] at gf1
        have l1 : a1 < 2 ^ 32 := by rw [ha1]; exact Nat.mod_lt _ (by decide)
        have l2 : a2 < 2 ^ 32 := by rw [ha2]; exact Nat.mod_lt _ (by decide)
        have l3 : a3 < 2 ^ 32 := by rw [ha3]; exact Nat.mod_lt _ (by decide)
        obtain ⟨G, hG⟩ : ∃ G : Nat, G = (a1 * 4294967296 + a2) / a3 := ⟨_, rfl⟩
        have HGG : Hid (R / Y ≤ G) := Lib.hid (by rw [hG, ha1, ha2, ha3]; exact gf3)
        obtain ⟨x1, hx1⟩ : ∃ x1 : Int, x1 = (a1 : Int) := ⟨_, rfl⟩
        obtain ⟨x2, hx2⟩ : ∃ x2 : Int, x2 = (a2 : Int) := ⟨_, rfl⟩
        obtain ⟨x3, hx3⟩ : ∃ x3 : Int, x3 = (a3 : Int) := ⟨_, rfl⟩
        obtain ⟨gi, hgi⟩ : ∃ gi : Int, gi = (G : Int) := ⟨_, rfl⟩
        have HX1' := Lib.hid hx1
        have HX2' := Lib.hid hx2
        have HX3' := Lib.hid hx3
        have HGI := Lib.hid hgi
        have hquo : (x1 * 4294967296 + x2) / x3 = gi := by rw [hgi, hG, hx1, hx2, hx3]; simp
        have HGL : Hid (G < 18446744073709551616) := Lib.hid (by
          have := Nat.div_le_self (a1 * 4294967296 + a2) a3
          omega)
        have x10 : 0 ≤ x1 := by omega
        have x11 : x1 < 4294967296 := by omega
        have x20 : 0 ≤ x2 := by omega
        have x21 : x2 < 4294967296 := by omega
        have x30 : 0 < x3 := by omega
        have x31 : x3 < 4294967296 := by omega
        have g0 : 0 ≤ gi := by omega
        clear hj ht hd hd1 hR0Y hR hRY hdd hR2 gf1 gf2 gf3 gf4 ha1 ha2 ha3 l1 l2 l3 hG hx1 hx2 hx3 hgi ej hR0
        go_wp2_with fail
        with_reducible refine (shl_v (n := (32 : Int)) (s := 32) (by have := HK.out; omega) HRR.out (by omega) (by omega)).mono ?_
        rintro e w6 hr6
        obtain ⟨v6, rfl, _, hv6, b6⟩ := hr6.out (K := K + 2) (by have h1 := HR0Y.out; have h2 := HBIG.out; exact Nat.lt_of_lt_of_le (Nat.mul_lt_mul_of_pos_right h1 (by decide)) h2)
        have HV6 := Lib.hid hv6
        have HB6 := Lib.hid b6
        clear hr6 hv6 b6
        go_wp2_with fail
        with_reducible refine (digit_v (HXX.out.below HB6.out) HJ.out (by have := HT.out; omega)).mono ?_
        rintro e w7 ⟨di, hdi, rfl, rfl⟩
        rw [← HD.out] at hdi
        subst hdi
        have HLIT := Lib.hid (num_lit (w := w6) 42 (show d < 2 ^ 64 by have := HD1.out; omega))
        have HB7 : Hid (Below wr.heap.size wr (w6.alloc (.cells #[.int .u64 (d : Int)] 42))) := Lib.hid (HB6.out.alloc HB6.out.size _)
        have HV7 : Hid (NNum (K + 2) (w6.alloc (.cells #[.int .u64 (d : Int)] 42)) v6 (R0 * 2 ^ 32)) := Lib.hid (HV6.out.below ((Below.refl _ _).alloc (Nat.le_refl _) _))
        go_wp2_with fail
        with_reducible refine (add_v (K := K + 2) (by have := HK.out; omega) HV7.out (HLIT.out.mono (by omega))).mono ?_
        rintro e w8 hr8
        rw [← HRV.out] at hr8
        obtain ⟨v8, rfl, _, hv8, b8⟩ := hr8.out (K := K + 2) (by have h1 := HRY.out; have h2 := HBIG.out; omega)
        have HB8 : Hid (Below wr.heap.size wr w8) := Lib.hid (HB7.out.trans (b8.mono HB7.out.size))
        have HV8 := Lib.hid hv8
        clear hr8 hv8 b8
        have HX8 : Hid (NNum (K + 2) w8 vx X) := Lib.hid (HXX.out.below HB8.out)
        have HY8 : Hid (NNum (K + 2) w8 vy Y) := Lib.hid (HYY.out.below HB8.out)
        have HO8 := Lib.hid (own_below HOW.out HB8.out (Nat.le_refl _))
        have HBB8 : Hid (Below w.heap.size w w8) := Lib.hid (HBL.out.trans (HB8.out.mono HBL.out.size))
        clear HB8 HB7 HV7 HLIT HB6 HV6 HRR HR HXX HYY HOW HBL
        have HD1N := Lib.hid (digit_v (j := y4) (i := n) HV8.out HNI.out (by have := HNI.out; omega))
        have HD2N := Lib.hid (digit_v (j := y4 - 1) (i := n - 1) HV8.out (by have := HNI.out; have := HN1.out; omega) (by have := HNI.out; omega))
        have HD3N := Lib.hid (digit_v (j := y4 - 1) (i := n - 1) HY8.out (by have := HNI.out; have := HN1.out; omega) (by have := HNI.out; omega))
        rw [← HA1.out] at HD1N
        rw [← HA2.out] at HD2N
        rw [← HA3.out] at HD3N
        by_cases hmin : gi ≤ 4294967295
        all_goals
          go_wp2_with fail
          with_reducible refine HD1N.out.mono ?_
          rintro e w9 ⟨q1, hq1, rfl, rfl⟩
          obtain rfl : q1 = x1 := hq1.trans HX1'.out.symm
          clear hq1
          go_wp2_with fail
          with_reducible refine HD2N.out.mono ?_
          rintro e w9 ⟨q2, hq2, rfl, rfl⟩
          obtain rfl : q2 = x2 := hq2.trans HX2'.out.symm
          clear hq2
          go_wp2_with fail
          with_reducible refine HD3N.out.mono ?_
          rintro e w9 ⟨q3, hq3, rfl, rfl⟩
          obtain rfl : q3 = x3 := hq3.trans HX3'.out.symm
          clear hq3
          go_wp2_with fail
        all_goals
          first
            | (obtain ⟨G', hG', hG1, hG2⟩ : ∃ G' : Nat, (G' : Int) = gi ∧ R / Y ≤ G' ∧ G' ≤ 4294967295 := ⟨G, HGI.out.symm, HGG.out, by have := HGI.out; omega⟩
               rw [← hG'])
            | (obtain ⟨G', hG', hG1, hG2⟩ : ∃ G' : Nat, (G' : Int) = 4294967295 ∧ R / Y ≤ G' ∧ G' ≤ 4294967295 := ⟨4294967295, rfl, GF4.out, Nat.le_refl _⟩
               rw [← hG'])
          have HG1 := Lib.hid hG1
          have HG2 := Lib.hid hG2
          have HLIT := Lib.hid (num_lit (w := w8) 42 (show G' < 2 ^ 64 by omega))
          have HB9 : Hid (Below w8.heap.size w8 (w8.alloc (.cells #[.int .u64 (G' : Int)] 42))) := Lib.hid ((Below.refl _ _).alloc (Nat.le_refl _) _)
          clear hG' hG1 hG2 hmin
          with_reducible refine (mul_v (K := K + 2) (by have := HK.out; omega) (HY8.out.below HB9.out) (HLIT.out.mono (by omega))).mono ?_
          rintro e w9 hr9
          obtain ⟨v9, rfl, _, hv9, b9⟩ := hr9.out (K := K + 2) (by
            have h1 := HG2.out
            have h2 := HBIG.out
            exact Nat.lt_of_lt_of_le (Nat.mul_lt_mul_of_pos_left (show G' < 2 ^ 32 by omega) HY0.out) h2)
          have hb89 : Below w8.heap.size w8 w9 := HB9.out.trans (b9.mono HB9.out.size)
          have HV9 := Lib.hid hv9
          have HX9 := Lib.hid (HX8.out.below hb89)
          have HY9 := Lib.hid (HY8.out.below hb89)
          have HR9 := Lib.hid (HV8.out.below hb89)
          have HO9 := Lib.hid (own_below HO8.out hb89 (Nat.le_refl _))
          have HB99 : Hid (Below w.heap.size w w9) := Lib.hid (HBB8.out.trans (hb89.mono HBB8.out.size))
          clear hr9 hv9 b9 hb89 HB9 HLIT HX8 HY8 HV8 HO8 HBB8
          go_wp2_with fail
          go_loopw [14, 15] (fun gs p wr => GuessRel (K + 2) X Y R N g o vx vy v8 w gs p wr) (fun gs _ _ => (intOf gs).toNat)
          case atStart => exact ⟨G', HG1.out, HG2.out, rfl, HV9.out, HX9.out, HY9.out, HR9.out, HO9.out, HB99.out⟩
          case round =>
            obtain ⟨gn, hgn1, hgn2, rfl, hp, hx, hy, hr, how, hbel⟩ := hrel
            have HP := Lib.hid hp
            have HX10 := Lib.hid hx
            have HY10 := Lib.hid hy
            have HR10 := Lib.hid hr
            have HO10 := Lib.hid how
            have HB10 := Lib.hid hbel
            have HGN1 := Lib.hid hgn1
            have HC := Lib.hid (cmp_v (by have := HK.out; omega) HP.out HR10.out)
            clear hp hx hy hr how hbel hgn1
            by_cases hgt : R < Y * gn
            · have hgn0 : 1 ≤ gn := by
                rcases gn with _ | gn
                · simp at hgt
                · omega
              have HNX : Hid (R / Y ≤ gn - 1) := Lib.hid (by
                have h1 : R / Y < gn := by rw [Nat.div_lt_iff_lt_mul HY0.out, Nat.mul_comm]; exact hgt
                omega)
              have HMU : Hid (Y * gn - Y = Y * (gn - 1)) := Lib.hid (by rw [Nat.mul_sub_one])
              have HLE : Hid (Y ≤ Y * gn) := Lib.hid (Nat.le_mul_of_pos_right _ hgn0)
              have HLT : Hid (Y * (gn - 1) < 2 ^ (64 * (K + 2))) := Lib.hid (by
                have h2 := HBIG.out
                exact Nat.lt_of_lt_of_le (Nat.mul_lt_mul_of_pos_left (show gn - 1 < 2 ^ 32 by omega) HY0.out) h2)
              have HCV : Hid (cmpV (Y * gn) R = 1) := Lib.hid (cmpV_gt hgt)
              have hc := HC.out
              unfold CmpPost at hc
              rw [HCV.out] at hc
              have HC2 := Lib.hid hc
              have HG92 : Hid (gn - 1 ≤ 4294967295) := Lib.hid (by omega)
              obtain ⟨gj, hgj⟩ : ∃ gj : Int, gj = (gn : Int) := ⟨_, rfl⟩
              have HGJ := Lib.hid hgj
              have HGN0 := Lib.hid hgn0
              rw [← hgj]
              have gj1 : 1 ≤ gj := by omega
              have gj2 : gj ≤ 4294967295 := by omega
              clear hc hgt hgn0 hgn2 hgj
              go_wp2_with fail
              with_reducible refine HC2.out.mono ?_
              rintro e w10 ⟨rfl, rfl⟩
              go_wp2_with fail
              with_reducible refine (sub_v (K := K + 2) (by have := HK.out; omega) HP.out HY10.out HLE.out).mono ?_
              rintro e w11 hr11
              rw [HMU.out] at hr11
              obtain ⟨v11, rfl, _, hv11, b11⟩ := hr11.out HLT.out
              have HV11 := Lib.hid hv11
              have HB11 := Lib.hid b11
              clear hr11 hv11 b11
              go_wp2_with fail
              go_roundw
              case rel => exact ⟨gn - 1, HNX.out, HG92.out, by rw [HGJ.out]; congr 1; have := HGN0.out; omega, HV11.out, HX10.out.below HB11.out, HY10.out.below HB11.out, HR10.out.below HB11.out, own_below HO10.out HB11.out (Nat.le_refl _), HB10.out.trans (HB11.out.mono HB10.out.size)⟩
              case measure => have := HGJ.out; have := HGN0.out; simp [intOf]; omega
            · have hge2 : Y * gn ≤ R := by omega
              have hgq : gn = R / Y := by
                have h1 : gn ≤ R / Y := by rw [Nat.le_div_iff_mul_le HY0.out, Nat.mul_comm]; exact hge2
                have := HGN1.out
                omega
              have HLE : Hid (Y * gn ≤ R) := Lib.hid hge2
              have HRM : Hid (R - Y * gn = R % Y) := Lib.hid (by
                have := Nat.div_add_mod R Y
                rw [hgq]; omega)
              have HGQ := Lib.hid hgq
              have hcv : cmpV (Y * gn) R = -1 ∨ cmpV (Y * gn) R = 0 := by
                rcases Nat.lt_or_ge (Y * gn) R with h | h
                · exact .inl (cmpV_lt h)
                · exact .inr (cmpV_eq (by omega))
              have hc1 := HC.out
              unfold CmpPost at hc1
              have HLT : Hid (R % Y < 2 ^ (64 * (K + 2))) := Lib.hid (by
                have h1 := Nat.mod_lt R HY0.out
                have h2 := HBIG.out
                omega)
              have hjt : Hid (j.toNat = t) := Lib.hid (by have := HJ.out; omega)
              have HGL2 : Hid (gn < 4294967296) := Lib.hid (by omega)
              have HOD : Hid (dv (o.set t gn) = 2 ^ (32 * t) * (X / 2 ^ (32 * t) / Y)) := Lib.hid (quot_set (by rw [HOL.out]; exact HT.out) (HOZ.out t (by omega)) HDV.out (by rw [HDD.out.2, hgq]))
              have HOZ2 : Hid (∀ i, i < t → (o.set t gn).getD i 0 = 0) := Lib.hid (fun i hi => by
                have h := HOZ.out i (by omega)
                simp only [List.getD_eq_getElem?_getD] at h ⊢
                rw [List.getElem?_set_ne (by omega)]; exact h)
              clear hge2 hgq hgt hgn2
              rcases hcv with hcv | hcv
              all_goals
                rw [hcv] at hc1
                have HC2 := Lib.hid hc1
                clear hc1 hcv
                go_wp2_with fail
                with_reducible refine HC2.out.mono ?_
                rintro e w10 ⟨rfl, rfl⟩
                go_wp2_with fail
                with_reducible refine (sub_v (K := K + 2) (by have := HK.out; omega) HR10.out HP.out HLE.out).mono ?_
                rintro e w11 hr11
                rw [HRM.out] at hr11
                obtain ⟨v11, rfl, hw11, hv11, b11⟩ := hr11.out HLT.out
                have HB11X : Hid (v11.ownBlock ≠ some g) := Lib.hid (hw11.off2 (World.ownsRow.lt HO10.out g rfl).2)
                clear hw11
                have HV11 := Lib.hid hv11
                have HB11 := Lib.hid b11
                have ho11 := own_below HO10.out b11 (Nat.le_refl _)
                have HO11 := Lib.hid ho11
                have hc11 : w11.cell? ⟨g, j.toNat, none⟩ = some (.int .u64 ((o.getD t 0 : Nat) : Int)) := by
                  rw [hjt.out, World.ownsRow.cellAt ho11 t (by have := HT.out; omega), U_get (by rw [HOL.out]; exact HT.out)]
                have hf11 : w11.frozen? ⟨g, j.toNat, none⟩ = false := World.ownsRow.frozenAt ho11 _
                generalize ((o.getD t 0 : Nat) : Int) = old at hc11
                clear hr11 hv11 b11 ho11
                go_wp2_with fail
                rw [hjt.out]
                have HS : Hid ((w11.setCell ⟨g, t, none⟩ (.int .u64 (gn : Int))).ownsRow w.heap.size 42 1 (.slice (some ⟨g, 0, none⟩) N N) N (U (o.set t gn))) := Lib.hid (by
                  rw [← U_set]; exact (World.ownsRow.stored HO11.out t _).1)
                have HX11 := Lib.hid ((HX10.out.below HB11.out).setCell (p := ⟨g, t, none⟩) HBX2.out (.int .u64 (gn : Int)))
                have HY11 := Lib.hid ((HY10.out.below HB11.out).setCell (p := ⟨g, t, none⟩) HBY2.out (.int .u64 (gn : Int)))
                have HR11 := Lib.hid (HV11.out.setCell (p := ⟨g, t, none⟩) HB11X.out (.int .u64 (gn : Int)))
                have HBL11 : Hid (Below w.heap.size w (w11.setCell ⟨g, t, none⟩ (.int .u64 (gn : Int)))) := Lib.hid ((HB10.out.trans (HB11.out.mono HB10.out.size)).setCell (p := ⟨g, t, none⟩) HG.out _)
                go_roundw
                case rel => exact ⟨t, o.set t gn, Nat.le_of_lt HT.out, by rw [HJ.out], by rw [HDD.out.1]; exact HR11.out, HB11X.out, by rw [List.length_set]; exact HOL.out, small_set HOS.out HGL2.out, HOZ2.out, HOD.out, HX11.out, HY11.out, HS.out, HBL11.out⟩
                case measure => have := HJ.out; simp [intOf]; omega
end Go.Proofs.Ytcdedaihkfpafaa

namespace Go.Proofs.Ytcdedaihkfpafaa
open Go.RowKit

/-- A slice tells one number. -/
theorem NNum.uniq {K n m : Nat} {w : World} {v : Value} (h : NNum K w v n) (k : NNum K w v m) : n = m := by
  obtain ⟨a, cap, L, rfl, _, _, _, h5, rfl, _⟩ := h
  obtain ⟨a', cap', L', he, _, _, _, k5, rfl, _⟩ := k
  injection he with e1 e2 e3
  subst e1
  congr 1
  apply List.ext_getElem e2
  intro i h1 h2
  obtain ⟨b, off, ha, hc⟩ := h5 i h1
  obtain ⟨b', off', ha', hc'⟩ := k5 i h2
  rw [ha] at ha'
  injection ha' with ha'
  cases ha'
  rw [hc] at hc'
  injection hc' with hc'
  injection hc' with _ hc'
  rw [List.getD_eq_getElem?_getD, List.getD_eq_getElem?_getD, List.getElem?_eq_getElem h1, List.getElem?_eq_getElem h2] at hc'
  have h : (L[i] : Int) = (L'[i] : Int) := by simpa using hc'
  omega
open Classical in
/-- The number that a slice tells (for a loop's measure). -/
noncomputable def toldBy (K : Nat) (w : World) (v : Value) : Nat := if h : ∃ n, NNum K w v n then h.choose else 0
theorem toldBy_eq {K n : Nat} {w : World} {v : Value} (h : NNum K w v n) : toldBy K w v = n := by
  unfold toldBy
  rw [dif_pos ⟨n, h⟩]
  exact (Exists.choose_spec (p := fun n => NNum K w v n) ⟨n, h⟩).uniq h

def GcdRel (K G : Nat) (w : World) (a b : Value) (wr : World) : Prop :=
  ∃ (x y : Nat) (A : Option Addr) (cap : Nat), Nat.gcd x y = G ∧ NNum K wr a x ∧ NRow w.heap.size wr a (nrow x) ∧ b = .slice A (nrow y).length cap ∧ NNum K wr b y ∧ NRow w.heap.size wr b (nrow y) ∧ Below w.heap.size w wr

set_option maxHeartbeats 4000000 in
theorem ngcd_v (K : Nat) (va vb : Value) (na nb : Nat) (w : World) (hK : K ≤ 524288) (ha : NNum K w va na) (hb : NNum K w vb nb) :
    Calls Try.prog 12 #[va, vb] w (NRes w (Nat.gcd na nb)) := by
  have HK := Lib.hid hK
  have HA := Lib.hid ha
  have HB := Lib.hid hb
  clear hK ha hb
  go_enter Try.func12, Try.ntmps12
  go_wp2_with fail
  with_reducible refine (norm_v (by have := HK.out; omega) HA.out).mono ?_
  rintro e w1 hr1
  obtain ⟨v1, rfl, hw1, hv1, b1⟩ := hr1.out HA.out.lt
  have HW1 := Lib.hid hw1
  have HV1 := Lib.hid hv1
  have HB1 := Lib.hid b1
  clear hr1 hw1 hv1 b1
  go_wp2_with fail
  with_reducible refine (norm_v (by have := HK.out; omega) (HB.out.below HB1.out)).mono ?_
  rintro e w2 hr2
  obtain ⟨v2, rfl, hw2, hv2, b2⟩ := hr2.out HB.out.lt
  obtain ⟨A, cap, rfl, _, _, _⟩ := hw2.at_
  have HW2 := Lib.hid (hw2.more HB1.out.size)
  have HV2 := Lib.hid hv2
  have HW1' := Lib.hid (HW1.out.below b2 (Nat.le_refl _))
  have HV1' := Lib.hid (HV1.out.below b2)
  have HB2 : Hid (Below w.heap.size w w2) := Lib.hid (HB1.out.trans (b2.mono HB1.out.size))
  clear hr2 hw2 hv2 b2 HW1 HV1 HB1
  go_wp2_with fail
  go_loopw [0, 1] (fun a b wr => GcdRel K (Nat.gcd na nb) w a b wr) (fun _ b wr => toldBy K wr b)
  case atStart => exact ⟨na, nb, A, cap, rfl, HV1'.out, HW1'.out, rfl, HV2.out, HW2.out, HB2.out⟩
  case round =>
    obtain ⟨x, y, A2, cap2, hg, hx, hwx, rfl, hy, hwy, hbel⟩ := hrel
    have HG := Lib.hid hg
    have HX := Lib.hid hx
    have HWX := Lib.hid hwx
    have HY := Lib.hid hy
    have HWY := Lib.hid hwy
    have HBL := Lib.hid hbel
    clear hg hx hwx hy hwy hbel
    by_cases h0 : y = 0
    · have hz : ((nrow y).length : Int) ≤ 0 := by rw [h0, nrow_zero]; simp
      have HE : Hid (x = Nat.gcd na nb) := Lib.hid (by rw [← HG.out, h0, Nat.gcd_zero_right])
      clear h0
      go_wp2_with fail
      go_ret
      exact ⟨_, rfl, by rw [← HE.out]; exact HWX.out, HBL.out⟩
    · have hp : (0 : Int) < ((nrow y).length : Int) := by
        have : nrow y ≠ [] := fun e => h0 (nrow_nil.1 e)
        have := List.length_pos_iff.2 this
        omega
      have HN := Lib.hid h0
      have HD := Lib.hid (ndiv_v K _ _ x y wr HK.out HX.out HY.out h0)
      clear h0
      go_wp2_with fail
      with_reducible refine HD.out.mono ?_
      rintro e w3 ⟨vq, vr, rfl, _, hwr, b3⟩
      obtain ⟨A3, cap3, rfl, _, _, _⟩ := hwr.at_
      have hlt : x % y < y := Nat.mod_lt _ (Nat.pos_of_ne_zero HN.out)
      have HLT := Lib.hid hlt
      have HR3 : Hid (NNum K w3 (.slice A3 (nrow (x % y)).length cap3) (x % y)) := Lib.hid (hwr.numN (Nat.lt_trans hlt HY.out.lt))
      have HWR := Lib.hid (hwr.more HBL.out.size)
      have HB3 := Lib.hid b3
      have HGG : Hid (Nat.gcd y (x % y) = Nat.gcd na nb) := Lib.hid (by rw [← HG.out, Nat.gcd_comm x y, Nat.gcd_rec y x, Nat.gcd_comm])
      clear hwr b3 hlt
      go_wp2_with fail
      go_roundw
      case rel => exact ⟨y, x % y, A3, cap3, HGG.out, HY.out.below HB3.out, HWY.out.below HB3.out (Nat.le_refl _), rfl, HR3.out, HWR.out, HBL.out.trans (HB3.out.mono HBL.out.size)⟩
      case measure =>
        show toldBy K w3 (.slice A3 (nrow (x % y)).length cap3) < toldBy K wr (.slice A2 (nrow y).length cap2)
        rw [toldBy_eq HR3.out, toldBy_eq HY.out]; exact HLT.out
end Go.Proofs.Ytcdedaihkfpafaa
