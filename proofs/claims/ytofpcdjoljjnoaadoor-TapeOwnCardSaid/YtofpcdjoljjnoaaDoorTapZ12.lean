/-
  The texts NatGuess, NatSubTimes, NatTake, NatDivLong, one behind the other.
-/
import Derived.Test.YtofpcdjoljjnoaaDoorTapZ11
import Derived.Test.YtofpcdjoljjnoaaDoorTapZ06
import Derived.Test.YtofpcdjoljjnoaaDoorTapZ04
import Derived.Test.YtofpcdjoljjnoaaDoorTapZ03
import Derived.Test.YtofpcdjoljjnoaaDoorTapZ05
import Derived.Test.YtofpcdjoljjnoaaDoorTapZ07
import Derived.Test.YtofpcdjoljjnoaaDoorTapZ08

namespace Go.Proofs.YtofpcdjoljjnoaaDoor
open Go.RowKit

theorem lv_top2 {B : List Nat} {P : Nat} (h : B.length = P + 2) : lv B = lv (B.take P) + 2 ^ (64 * P) * (B.getD P 0 + 18446744073709551616 * B.getD (P + 1) 0) := by
  rw [← List.take_append_drop P B, lv_append]
  have hl : (B.take P).length = P := by rw [List.length_take]; omega
  rw [hl, List.take_append_drop]
  have hd : B.drop P = [B.getD P 0, B.getD (P + 1) 0] := by
    rw [List.drop_eq_getElem_cons (by omega), List.drop_eq_getElem_cons (by omega), List.drop_eq_nil_of_le (by omega)]
    simp [List.getD_eq_getElem?_getD, h]
  rw [hd]
  simp [lv]
theorem lv_top3 {A : List Nat} {P : Nat} (h : A.length = P + 3) : lv A = lv (A.take P) + 2 ^ (64 * P) * (A.getD P 0 + 18446744073709551616 * (A.getD (P + 1) 0 + 18446744073709551616 * A.getD (P + 2) 0)) := by
  rw [← List.take_append_drop P A, lv_append]
  have hl : (A.take P).length = P := by rw [List.length_take]; omega
  rw [hl, List.take_append_drop]
  have hd : A.drop P = [A.getD P 0, A.getD (P + 1) 0, A.getD (P + 2) 0] := by
    rw [List.drop_eq_getElem_cons (by omega), List.drop_eq_getElem_cons (by omega), List.drop_eq_getElem_cons (by omega), List.drop_eq_nil_of_le (by omega)]
    simp [List.getD_eq_getElem?_getD, h]
  rw [hd]
  simp [lv]
/-- What the limbs tell of the digit. -/
theorem guess_lv {A B : List Nat} {P : Nat} (hA : A.length = P + 3) (hB : B.length = P + 2) (fA : Fits A) (fB : Fits B) (htop : 9223372036854775808 ≤ B.getD (P + 1) 0) (hlt : lv A < 18446744073709551616 * lv B) :
    lv A / lv B < 18446744073709551616 ∧ A.getD (P + 2) 0 ≤ B.getD (P + 1) 0 ∧
    (A.getD (P + 2) 0 = B.getD (P + 1) 0 → 18446744073709551615 ≤ lv A / lv B + 1) ∧
    (∀ q l, A.getD (P + 1) 0 + 18446744073709551616 * A.getD (P + 2) 0 = B.getD (P + 1) 0 * q + l → l < B.getD (P + 1) 0 →
      (l * 18446744073709551616 + A.getD P 0 < q * B.getD P 0 → lv A / lv B + 1 ≤ q ∧ q ≤ lv A / lv B + 2) ∧ (q * B.getD P 0 ≤ l * 18446744073709551616 + A.getD P 0 → lv A / lv B ≤ q ∧ q ≤ lv A / lv B + 1)) := by
  have hA3 := lv_top3 hA
  have hB2 := lv_top2 hB
  have hEa : lv (A.take P) < 2 ^ (64 * P) := by have := lv_lt (fits_take fA P); rw [List.length_take] at this; rwa [Nat.min_eq_left (by omega)] at this
  have hEb : lv (B.take P) < 2 ^ (64 * P) := by have := lv_lt (fits_take fB P); rw [List.length_take] at this; rwa [Nat.min_eq_left (by omega)] at this
  have hd0 := getD_fits fB P
  have ht0 := getD_fits fA P
  have hd1 := getD_fits fB (P + 1)
  have hE : 0 < 2 ^ (64 * P) := Nat.two_pow_pos _
  have hD0 : 0 < lv B := by
    rw [hB2]
    have : 2 ^ (64 * P) * 1 ≤ 2 ^ (64 * P) * (B.getD P 0 + 18446744073709551616 * B.getD (P + 1) 0) := Nat.mul_le_mul_left _ (by omega)
    omega
  have hn : lv A / lv B < 18446744073709551616 := by rw [Nat.div_lt_iff_lt_mul hD0]; exact hlt
  have hq1 : lv A / lv B * lv B ≤ lv A := Nat.div_mul_le_self _ _
  have hq2 : lv A < (lv A / lv B + 1) * lv B := by
    have := Nat.div_add_mod' (lv A) (lv B); have h2 := Nat.mod_lt (lv A) hD0
    rw [Nat.add_mul, Nat.one_mul]; omega
  have hb := guess_bounds hA3 hB2 hEa hEb hq1 hq2
  refine ⟨hn, ?_, fun e => ?_, fun q l hq hl => ?_⟩
  · rcases Nat.lt_or_ge (B.getD (P + 1) 0) (A.getD (P + 2) 0) with h | h
    · exfalso
      have h1 : B.getD P 0 + 18446744073709551616 * B.getD (P + 1) 0 + 1 ≤ 18446744073709551616 * (B.getD (P + 1) 0 + 1) := by omega
      have h2 : lv B < 2 ^ (64 * P) * (18446744073709551616 * (B.getD (P + 1) 0 + 1)) := by
        have := Nat.mul_le_mul_left (2 ^ (64 * P)) h1
        rw [Nat.mul_add _ _ 1, Nat.mul_one] at this
        omega
      have h3 : 2 ^ (64 * P) * (18446744073709551616 * (18446744073709551616 * A.getD (P + 2) 0)) ≤ lv A := by
        rw [hA3, Nat.mul_add 18446744073709551616, Nat.mul_add (2 ^ (64 * P)), Nat.mul_add (2 ^ (64 * P))]; omega
      have h4 : 2 ^ (64 * P) * (18446744073709551616 * (18446744073709551616 * (B.getD (P + 1) 0 + 1))) ≤ 2 ^ (64 * P) * (18446744073709551616 * (18446744073709551616 * A.getD (P + 2) 0)) :=
        Nat.mul_le_mul_left _ (Nat.mul_le_mul_left _ (Nat.mul_le_mul_left _ h))
      rw [show 2 ^ (64 * P) * (18446744073709551616 * (18446744073709551616 * (B.getD (P + 1) 0 + 1))) = 18446744073709551616 * (2 ^ (64 * P) * (18446744073709551616 * (B.getD (P + 1) 0 + 1))) by
        rw [← Nat.mul_assoc (2 ^ (64 * P)), Nat.mul_comm (2 ^ (64 * P)), Nat.mul_assoc]] at h4
      omega
    · exact h
  · rw [e] at hb
    exact guess_top (B := 18446744073709551616) rfl rfl hd0 (by omega) hb.2 (by omega)
  · exact guess_two (B := 18446744073709551616) rfl rfl ht0 hd0 (by omega) hn hb.1 hb.2 hq hl

def GuessPost (n : Nat) (w : World) (e : Ending) (w' : World) : Prop := ∃ g : Nat, e = .returned (.int .u64 (g : Int)) ∧ n ≤ g ∧ g ≤ n + 1 ∧ g < 18446744073709551616 ∧ ∃ k, w' = w.drewN k

set_option maxRecDepth 100000 in
set_option maxHeartbeats 2000000 in
theorem guess_any (ga oa gb ob P ca cb : Nat) (A B : List Nat) (w : World) (hA : A.length = P + 3) (hB : B.length = P + 2) (hP : P ≤ 1048576) (fA : Fits A) (fB : Fits B) (hca : A.length ≤ ca) (hcb : B.length ≤ cb)
    (ma : NatAt w (some ⟨ga, oa, none⟩) A) (mb : NatAt w (some ⟨gb, ob, none⟩) B) (htop : 9223372036854775808 ≤ B.getD (P + 1) 0) (hlt : lv A < 18446744073709551616 * lv B) :
    Calls Tryd.prog 98 #[.slice (some ⟨ga, oa, none⟩) A.length ca, .slice (some ⟨gb, ob, none⟩) B.length cb] w (GuessPost (lv A / lv B) w) := by
  obtain ⟨hn, hle, heq, htwo⟩ := guess_lv hA hB fA fB htop hlt
  obtain ⟨La, hLa⟩ : ∃ La, La = A.length := ⟨_, rfl⟩
  obtain ⟨Lb, hLb⟩ : ∃ Lb, Lb = B.length := ⟨_, rfl⟩
  have hc0 : w.cell? ⟨ga, oa + P, none⟩ = some (.int .u64 ((A.getD P 0 : Nat) : Int)) := by obtain ⟨b', o', e', hc⟩ := ma P (by omega); cases e'; exact hc
  have hc1 : w.cell? ⟨ga, oa + P + 1, none⟩ = some (.int .u64 ((A.getD (P + 1) 0 : Nat) : Int)) := by obtain ⟨b', o', e', hc⟩ := ma (P + 1) (by omega); cases e'; exact hc
  have hc2 : w.cell? ⟨ga, oa + P + 2, none⟩ = some (.int .u64 ((A.getD (P + 2) 0 : Nat) : Int)) := by obtain ⟨b', o', e', hc⟩ := ma (P + 2) (by omega); cases e'; exact hc
  have hd0 : w.cell? ⟨gb, ob + P, none⟩ = some (.int .u64 ((B.getD P 0 : Nat) : Int)) := by obtain ⟨b', o', e', hc⟩ := mb P (by omega); cases e'; exact hc
  have hd1 : w.cell? ⟨gb, ob + P + 1, none⟩ = some (.int .u64 ((B.getD (P + 1) 0 : Nat) : Int)) := by obtain ⟨b', o', e', hc⟩ := mb (P + 1) (by omega); cases e'; exact hc
  have bt0 := getD_fits fA P
  have bt1 := getD_fits fA (P + 1)
  have bt2 := getD_fits fA (P + 2)
  have bd0 := getD_fits fB P
  have bd1 := getD_fits fB (P + 1)
  generalize lv A / lv B = n at hn heq htwo ⊢
  generalize A.getD P 0 = t0 at *
  generalize A.getD (P + 1) 0 = t1 at *
  generalize A.getD (P + 2) 0 = t2 at *
  generalize B.getD P 0 = d0 at *
  generalize B.getD (P + 1) 0 = d1 at *
  rw [← hLa, ← hLb]
  have hAI : (La : Int) - 3 = (P : Int) := by omega
  have hBI : (Lb : Int) - 2 = (P : Int) := by omega
  have hP0 : (0 : Int) ≤ (P : Int) := by omega
  have hPa : (P : Int) ≤ (La : Int) := by omega
  have hPb : (P : Int) ≤ (Lb : Int) := by omega
  have hLca : (La : Int) ≤ (ca : Int) := by omega
  have hLcb : (Lb : Int) ≤ (cb : Int) := by omega
  have hA3 : La - P = 3 := by omega
  have hB3 : Lb - P = 2 := by omega
  have hLa9 : (La : Int) ≤ 1048579 := by omega
  have hLb9 : (Lb : Int) ≤ 1048578 := by omega
  clear ma mb fA fB hA hB hca hcb hlt hLa hLb hP
  by_cases ht : t2 = d1
  · subst ht
    have HG := Lib.hid (heq rfl)
    have HN := Lib.hid hn
    have hb : ((t2 : Int) == (t2 : Int)) = true := by simp
    clear heq htwo hle hn
    go_enter Tryd.func98, Tryd.ntmps98
    go_wp2_with fail
    go_region
    go_wp2_with fail
    go_region
    go_wp2_with fail
    go_ret
    exact ⟨18446744073709551615, rfl, by have := HN.out; omega, HG.out, by omega, 2, rfl⟩
  · have hlt : t2 < d1 := by omega
    have hb : ((t2 : Int) == (d1 : Int)) = false := by simp; omega
    have HD := Lib.hid (fun W => div64_any t2 t1 d1 bt1 bd1 hlt W)
    have hdm := Nat.div_add_mod (t2 * 18446744073709551616 + t1) d1
    have hml := Nat.mod_lt (t2 * 18446744073709551616 + t1) (show 0 < d1 by omega)
    have hqb : (t2 * 18446744073709551616 + t1) / d1 < 18446744073709551616 := by
      rw [Nat.div_lt_iff_lt_mul (by omega)]
      have : (t2 + 1) * 18446744073709551616 ≤ d1 * 18446744073709551616 := Nat.mul_le_mul_right _ hlt
      rw [Nat.mul_comm 18446744073709551616]
      omega
    obtain ⟨q, hq⟩ : ∃ q, q = (t2 * 18446744073709551616 + t1) / d1 := ⟨_, rfl⟩
    obtain ⟨l, hl⟩ : ∃ l, l = (t2 * 18446744073709551616 + t1) % d1 := ⟨_, rfl⟩
    rw [← hq] at hdm hqb
    rw [← hl] at hdm hml
    have HQ := Lib.hid hq
    have HL := Lib.hid hl
    have hll : l < 18446744073709551616 := by omega
    have htw := htwo q l (by omega) hml
    have hm := mul_small hqb bd0
    have HM := Lib.hid (fun W => Tryd.bits_Mul64 q d0 hqb bd0 W)
    obtain ⟨hi, hhi⟩ : ∃ hi, hi = q * d0 / 18446744073709551616 := ⟨_, rfl⟩
    obtain ⟨lo, hlo⟩ : ∃ lo, lo = q * d0 % 18446744073709551616 := ⟨_, rfl⟩
    rw [← hhi, ← hlo] at HM
    have HM := Lib.hid HM.out
    have hqd : q * d0 = hi * 18446744073709551616 + lo := by omega
    have hlo64 : lo < 18446744073709551616 := by omega
    have hhi64 : hi < 18446744073709551616 := by omega
    rw [hqd] at htw
    have HTW := Lib.hid htw
    clear hdm hq hl heq htwo hle htw hm hhi hlo hqd
    have tail : ∀ (W : World) (k : Nat), W = w.drewN k → True := fun _ _ _ => trivial
    clear tail
    go_enter Tryd.func98, Tryd.ntmps98
    go_wp2_with fail
    go_region
    go_wp2_with fail
    go_region
    go_wp2_with fail
    refine wp_region_walk (fun w' => w'.cell? ⟨ga, oa + P + 1, none⟩ = some (.int .u64 (t1 : Int)) ∧ w'.cell? ⟨ga, oa + P + 2, none⟩ = some (.int .u64 (t2 : Int)) ∧ w'.cell? ⟨gb, ob + P + 1, none⟩ = some (.int .u64 (d1 : Int)))
      [true, true, true, true, true, true, true, true, true, false, true, true, true, true, true] (by kernel_rfl) (by kernel_rfl) rfl (by kernel_rfl) (fun _ _ d _ _ h => by cases d <;> exact h) ?_
    repeat (refine walkS_yes ⟨hc1, hc2, hd1⟩ rfl (fun w' hw' => by obtain ⟨q0, q1, q2⟩ := hw'; go_simp; rfl) ?_; simp only [Act.put, List.setIfInBounds_toArray, List.set_cons_zero, List.set_cons_succ])
    refine walkS_no rfl (fun K hK => ?_)
    go_simp
    refine (HD.out _).mono ?_
    rintro e w5 ⟨q', l', rfl, hq', hl', k, rfl⟩
    rw [← HQ.out] at hq'
    rw [← HL.out] at hl'
    subst hq' hl'
    refine hK _ _ ⟨hc1, hc2, hd1⟩ ?_
    clear hK K
    repeat (refine walkS_yes ⟨hc1, hc2, hd1⟩ rfl (fun w' hw' => by obtain ⟨q0, q1, q2⟩ := hw'; go_simp; rfl) ?_; simp only [Act.put, List.setIfInBounds_toArray, List.set_cons_zero, List.set_cons_succ])
    simp only [walkS]
    have HTQ : Hid ((l' * 18446744073709551616 + t0 < hi * 18446744073709551616 + lo → n + 1 ≤ q' ∧ q' ≤ n + 2) ∧ (hi * 18446744073709551616 + lo ≤ l' * 18446744073709551616 + t0 → n ≤ q' ∧ q' ≤ n + 1)) := HTW
    have HQB := Lib.hid hqb
    clear hn ht hlt hb
    rcases Nat.lt_trichotomy l' hi with h | h | h
    · have g1 : decide ((l' : Int) < (hi : Int)) = true := by simp; omega
      obtain ⟨q1, hq1⟩ : ∃ q1, q' = q1 + 1 := ⟨q' - 1, by have := (HTQ.out.1 (by omega)).1; omega⟩
      have hqi : (q' : Int) - 1 = (q1 : Int) := by omega
      have hq2 : (1 : Int) ≤ (q' : Int) := by omega
      have HE : Hid (n ≤ q1 ∧ q1 ≤ n + 1) := Lib.hid (by have := HTQ.out.1 (by omega); omega)
      have HQ1 := Lib.hid hq1
      clear hq1
      go_wp2_with (go_at_call 93; refine (HM.out _).mono ?_; rintro e W ⟨rfl, rfl⟩)
      go_ret
      exact ⟨q1, rfl, HE.out.1, HE.out.2, by have := HQB.out; have := HQ1.out; omega, _, rfl⟩
    · subst h
      have g1 : decide ((l' : Int) < (l' : Int)) = false := by simp
      have g2 : ((l' : Int) == (l' : Int)) = true := by simp
      by_cases h2 : t0 < lo
      · have g3 : decide ((t0 : Int) < (lo : Int)) = true := by simp; omega
        obtain ⟨q1, hq1⟩ : ∃ q1, q' = q1 + 1 := ⟨q' - 1, by have := (HTQ.out.1 (by omega)).1; omega⟩
        have hqi : (q' : Int) - 1 = (q1 : Int) := by omega
        have hq2 : (1 : Int) ≤ (q' : Int) := by omega
        have HE : Hid (n ≤ q1 ∧ q1 ≤ n + 1) := Lib.hid (by have := HTQ.out.1 (by omega); omega)
        have HQ1 := Lib.hid hq1
        clear hq1
        go_wp2_with (go_at_call 93; refine (HM.out _).mono ?_; rintro e W ⟨rfl, rfl⟩)
        go_ret
        exact ⟨q1, rfl, HE.out.1, HE.out.2, by have := HQB.out; have := HQ1.out; omega, _, rfl⟩
      · have g3 : decide ((t0 : Int) < (lo : Int)) = false := by simp; omega
        have HE : Hid (n ≤ q' ∧ q' ≤ n + 1) := Lib.hid (HTQ.out.2 (by omega))
        go_wp2_with (go_at_call 93; refine (HM.out _).mono ?_; rintro e W ⟨rfl, rfl⟩)
        go_ret
        exact ⟨q', rfl, HE.out.1, HE.out.2, HQB.out, _, rfl⟩
    · have g1 : decide ((l' : Int) < (hi : Int)) = false := by simp; omega
      have g2 : ((hi : Int) == (l' : Int)) = false := by simp; omega
      have HE : Hid (n ≤ q' ∧ q' ≤ n + 1) := Lib.hid (HTQ.out.2 (by omega))
      go_wp2_with (go_at_call 93; refine (HM.out _).mono ?_; rintro e W ⟨rfl, rfl⟩)
      go_ret
      exact ⟨q', rfl, HE.out.1, HE.out.2, HQB.out, _, rfl⟩
end Go.Proofs.YtofpcdjoljjnoaaDoor

namespace Go.Proofs.YtofpcdjoljjnoaaDoor
open Go.RowKit Go.Shelf
attribute [local go_sem] Oper.semAt_some wide_fn

/-- Limbs of a number less a product, one more. -/
theorem limb_less {o p c c' x y n r a b : Nat} (h : o + n * b = a + p * c) (hr : r + y * n + c = x + 18446744073709551616 * c') :
    (o + p * r) + n * (b + p * y) = (a + p * x) + p * 18446744073709551616 * c' := by
  have h2 : p * (r + y * n + c) = p * (x + 18446744073709551616 * c') := by rw [hr]
  have h3 : n * (p * y) = p * (y * n) := by rw [Nat.mul_left_comm, Nat.mul_comm n y]
  rw [Nat.mul_add, Nat.mul_add, Nat.mul_add, ← Nat.mul_assoc p 18446744073709551616 c'] at h2
  rw [Nat.mul_add, h3]
  omega

def LessPost (g off n : Nat) (A B : List Nat) (w : World) (e : Ending) (w' : World) : Prop :=
  ∃ (O : List Nat) (c : Nat), e = .returned (.int .u64 (c : Int)) ∧ O.length = A.length ∧ Fits O ∧ c < 18446744073709551616 ∧ lv O + n * lv B = lv A + 2 ^ (64 * A.length) * c ∧ Seg w' g off O ∧ Wrote g off (off + A.length) w w'

def LessAt (z g off ca cb n : Nat) (b : Option Addr) (A B : List Nat) (w : World) (k : Nat) (W : World) : Prop :=
  ∃ (O : List Nat) (c : Nat), O.length = k ∧ k ≤ A.length ∧ Fits O ∧ c < 18446744073709551616 ∧ lv O + n * lv (B.take k) = lv (A.take k) + 2 ^ (64 * k) * c ∧ Seg W g off (O ++ A.drop k) ∧ Beside g off z b A B W ∧
    Box W z (.slice (some ⟨g, off, none⟩) A.length ca) ∧ Box W (z + 1) (.int .u64 (n : Int)) ∧ Box W (z + 2) (.int .i64 (k : Int)) ∧ Box W (z + 3) (.int .u64 (c : Int)) ∧ Box W (z + 4) (.slice (some ⟨g, off, none⟩) A.length ca) ∧ Box W (z + 5) (.slice b B.length cb) ∧
    z + 6 ≤ W.heap.size ∧ Wrote g off (off + A.length) w W

theorem LessAt.below {z g off ca cb n : Nat} {b : Option Addr} {A B : List Nat} {w : World} {k : Nat} {W W' : World} (hg : g < z) (hz : z = w.heap.size) (hb : Below (z + 6) W W') (h : LessAt z g off ca cb n b A B w k W) : LessAt z g off ca cb n b A B w k W' := by
  obtain ⟨O, c, h1, h2, h3, h4, h5, h6, h7, b0, b1, b2, b3, b4, b5, hs, hw⟩ := h
  exact ⟨O, c, h1, h2, h3, h4, h5, h6.below hb (by omega), h7.below hb (by omega), b0.below hb (by omega), b1.below hb (by omega), b2.below hb (by omega), b3.below hb (by omega), b4.below hb (by omega), b5.below hb (by omega), Nat.le_trans hs hb.size, hw.after (hb.mono (by omega)) (by omega)⟩

set_option maxRecDepth 100000 in
set_option maxHeartbeats 2000000 in
theorem subtractTimes_any (g off ca cb n : Nat) (b : Option Addr) (A B : List Nat) (w : World) (hA : A.length ≤ 1099511627776) (hBA : B.length ≤ A.length) (fA : Fits A) (fB : Fits B) (hn : n < 18446744073709551616)
    (hs : Seg w g off A) (hb : Beside g off w.heap.size b A B w) :
    Calls Tryd.prog 99 #[.slice (some ⟨g, off, none⟩) A.length ca, .slice b B.length cb, .int .u64 (n : Int)] w (LessPost g off n A B w) := by
  obtain ⟨z, hz⟩ : ∃ z, z = w.heap.size := ⟨_, rfl⟩
  have hgz : g < z := by have := hs.block; omega
  rw [← hz] at hb
  obtain ⟨X, hX⟩ : ∃ X : Nat → Nat, ∀ k, X k = A.getD k 0 := ⟨_, fun _ => rfl⟩
  obtain ⟨Y, hY⟩ : ∃ Y : Nat → Nat, ∀ k, Y k = B.getD k 0 := ⟨_, fun _ => rfl⟩
  have HX := Lib.hid hX
  have HY := Lib.hid hY
  have HZ := Lib.hid hz
  have HB := Lib.hid hb
  clear hX hY hz hb
  refine (callsIn_wide (n := 3)).1 ?_
  refine callsIn_of_wp_marks Tryd.func99 rfl trivial ?_ rfl
  simp only [Tryd.ntmps99, List.size_toArray, List.length_cons, List.length_nil, Nat.reduceAdd, Nat.reduceSub, Array.replicate_succ, Array.replicate_zero, List.push_toArray, List.append_toArray, List.nil_append, List.cons_append]
  gi_wp2_with (gi_at_call 84; refine (callsIn_wide.2 (pairs_any _ _ _ _ _ _ _)).mono ?_; rintro e w' ⟨rfl, rfl⟩)
  rw [← HZ.out]
  simp only [Nat.add_assoc, Nat.reduceAdd]
  generalize hW : ((((((w.alloc (.cells #[.slice (some ⟨g, off, none⟩) A.length ca] 29)).alloc (.cells #[.int .u64 (n : Int)] 64)).alloc (.cells #[.int .i64 0] 3)).alloc (.cells #[.int .u64 0] 64)).alloc (.cells #[.slice (some ⟨g, off, none⟩) A.length ca] 29)).alloc (.cells #[.slice b B.length cb] 29)) = W0
  obtain ⟨c0, c1, c2, c3, c4, c5, hsz, hbw⟩ := boxes6 HZ.out _ _ _ _ _ _ _ _ _ _ _ _ hW.symm
  clear hW
  have HW : LessAt z g off ca cb n b A B w 0 W0 :=
    ⟨[], 0, rfl, Nat.zero_le _, fun x hx => (by cases hx), by omega, by simp [lv], hs.below hbw hs.block, HB.out.below hbw (by have := HZ.out; omega), c0, c1, c2, c3, c4, c5, by omega, Wrote.of_below hbw _ _ _⟩
  clear c0 c1 c2 c3 c4 c5 hbw
  refine wpIn_range_at (m := 1) (gf := 92) (lb := #[.pointer (some ⟨z + 4, 0, none⟩), .pointer (some ⟨z + 5, 0, none⟩)]) rfl (enters_of Tryd.func92 (by kernel_rfl) rfl) (pairs_at (z + 4) (z + 5) _ b ca cb A B X Y HX.out HY.out hA (by omega)) (fun _ => rfl)
    (LessAt z g off ca cb n b A B w) (fun _ _ => False) (fun k W W' hb' h => h.below hgz HZ.out (by rw [← hsz]; exact hb')) (fun _ _ _ _ h => h) (fun k W h => by obtain ⟨O, c, h1, h2, h3, h4, h5, h6, h7, b0, b1, b2, b3, b4, b5, hss, hw⟩ := h; omega) (fun _ _ h => h.elim)
    (fun k W h => by obtain ⟨O, c, h1, h2, h3, h4, h5, h6, h7, b0, b1, b2, b3, b4, b5, hss, hw⟩ := h; exact ⟨b4.1, b5.1, h6.from h1 h2, h7.from h6 h1 h2⟩) HW
    (fun k => { tmps := #[.slice (some ⟨g, off, none⟩) A.length ca, .slice b B.length cb, .int .u64 (n : Int), .pointer (some ⟨z, 0, none⟩), undef, .pointer (some ⟨z + 1, 0, none⟩), .int .u64 0, .pointer (some ⟨z + 2, 0, none⟩), .pointer (some ⟨z + 3, 0, none⟩), .int .u64 ((X k : Nat) : Int), .int .u64 ((Y k : Nat) : Int), undef, undef, undef,
      .slice (some ⟨g, off, none⟩) A.length ca, .slice b B.length cb, .func (.func 92) #[] #[.pointer (some ⟨z + 4, 0, none⟩), .pointer (some ⟨z + 5, 0, none⟩)], .int .u64 ((X k : Nat) : Int), .int .u64 ((Y k : Nat) : Int),
      undef, undef, undef, undef, undef, undef, undef, undef, undef, undef, undef, undef, undef, undef, undef, undef, undef, undef, undef, undef, undef, undef, undef, undef, undef, undef, undef, undef, undef, undef], defers := [] })
    ?assign ?body ?done ?stop
  case assign =>
    intro l k W K hK
    gi_wp2
    exact hK
  case body =>
    rintro l k W hk ⟨O, c, h1, h2, h3, h4, h5, h6, h7, b0, b1, b2, b3, b4, b5, hss, hw⟩
    have hxA : X k = A.getD k 0 := HX.out k
    have hyB : Y k = B.getD k 0 := HY.out k
    generalize X k = x at hxA ⊢
    generalize Y k = y at hyB ⊢
    have hc0 := b0.1
    have hc1 := b1.1
    have hc2 := b2.1
    have hc3 := b3.1
    have hf2 := b2.2
    have hf3 := b3.2
    have hgc := h6.cell (i := k) (by rw [List.length_append, List.length_drop]; omega)
    have hgf := h6.frozen (off + k)
    have hkA : (k : Int) < (A.length : Int) := by omega
    have hk0 : (0 : Int) ≤ (k : Int) := by omega
    have hx1 := getD_fits fA k
    have hy1 := getD_fits fB k
    rw [← hxA] at hx1
    rw [← hyB] at hy1
    have hm := mul_small hy1 hn
    have HM0 := Tryd.bits_Mul64 y n hy1 hn W
    obtain ⟨hi, hhi⟩ : ∃ hi, hi = y * n / 18446744073709551616 := ⟨_, rfl⟩
    obtain ⟨lo, hlo⟩ : ∃ lo, lo = y * n % 18446744073709551616 := ⟨_, rfl⟩
    rw [← hhi, ← hlo] at HM0
    have HM := Lib.hid HM0
    have hadd1 := run_add64 lo c 0 (by omega)
    obtain ⟨l1, hl1⟩ : ∃ l1, l1 = (lo + c + 0) % 18446744073709551616 := ⟨_, rfl⟩
    obtain ⟨q1, hq1⟩ : ∃ q1, q1 = (lo + c + 0) / 18446744073709551616 := ⟨_, rfl⟩
    rw [← hl1, ← hq1] at hadd1
    have hadd2 := run_sub64 x l1 0 (by omega)
    obtain ⟨r, hr⟩ : ∃ r, r = (x + 18446744073709551616 - l1 - 0) % 18446744073709551616 := ⟨_, rfl⟩
    obtain ⟨q2, hq2⟩ : ∃ q2, q2 = if x < l1 + 0 then 1 else 0 := ⟨_, rfl⟩
    rw [← hr, ← hq2] at hadd2
    simp only [Int.natCast_zero] at hadd1 hadd2
    have hq3 : r + l1 = x + 18446744073709551616 * q2 ∧ q2 ≤ 1 ∧ (q2 = 1 → x < l1) := by
      split at hq2 <;> omega
    have hst := limb_less (c' := hi + q1 + q2) (x := x) (y := y) (r := r) h5 (by omega)
    rw [hxA, hyB, ← lv_take_succ' A, ← lv_take_succ' B] at hst
    have i1 : (hi : Int) + (q1 : Int) ≤ 18446744073709551615 := by omega
    have i2 : (hi : Int) + (q1 : Int) + (q2 : Int) ≤ 18446744073709551615 := by omega
    have i3 : (0 : Int) ≤ (hi : Int) + (q1 : Int) := by omega
    have i4 : (0 : Int) ≤ (hi : Int) + (q1 : Int) + (q2 : Int) := by omega
    have HC : Hid (hi + q1 + q2 < 18446744073709551616) := Lib.hid (by omega)
    have HR : Hid (r < 18446744073709551616) := Lib.hid (by omega)
    have H1 := Lib.hid h1
    have HXA := Lib.hid hxA
    have HYB := Lib.hid hyB
    have HST := Lib.hid hst
    have HSZ := Lib.hid hsz
    clear h1 hxA hyB h5 hsz hx1 hy1 hm hhi hlo hl1 hq1 hr hq2 hq3 hst HM0 h4
    gi_wp2_with (gi_at_call 93; refine (CallsIn.inRound l (callsIn_wide.2 HM.out)).mono ?_; rintro e W ⟨rfl, rfl⟩)
    refine wpIn_region_walk (fun w' => w'.cell? ⟨z, 0, none⟩ = some (.slice (some ⟨g, off, none⟩) A.length ca) ∧ w'.cell? ⟨z + 2, 0, none⟩ = some (.int .i64 (k : Int)))
      [true, true, true, true, false, true, true, true, true, false, true] (by kernel_rfl) (by kernel_rfl) (by kernel_rfl) rfl (by kernel_rfl) (by rintro ⟨_, _, h⟩; exact h) (fun _ _ _ _ _ h => h) ?_
    have hS : W.drew.cell? ⟨z, 0, none⟩ = some (.slice (some ⟨g, off, none⟩) A.length ca) ∧ W.drew.cell? ⟨z + 2, 0, none⟩ = some (.int .i64 (k : Int)) := ⟨hc0, hc2⟩
    repeat (refine walkS_yes hS rfl (fun w' hw' => by obtain ⟨q0, q1⟩ := hw'; go_simp; rfl) ?_; simp only [Act.put, List.setIfInBounds_toArray, List.set_cons_zero, List.set_cons_succ])
    refine walkS_no rfl (fun K hK => ?_)
    go_simp
    refine hK _ _ hS ?_
    clear hK K
    repeat (refine walkS_yes hS rfl (fun w' hw' => by obtain ⟨q0, q1⟩ := hw'; go_simp; rfl) ?_; simp only [Act.put, List.setIfInBounds_toArray, List.set_cons_zero, List.set_cons_succ])
    refine walkS_no rfl (fun K hK => ?_)
    go_simp
    have hS2 : (W.setCell ⟨g, off + k, none⟩ (.int .u64 (r : Int))).drew.cell? ⟨z, 0, none⟩ = some (.slice (some ⟨g, off, none⟩) A.length ca) ∧ (W.setCell ⟨g, off + k, none⟩ (.int .u64 (r : Int))).drew.cell? ⟨z + 2, 0, none⟩ = some (.int .i64 (k : Int)) :=
      ⟨(b0.other (by show g ≠ z; omega) _).drew.1, (b2.other (by show g ≠ z + 2; omega) _).drew.1⟩
    refine hK _ _ hS2 ?_
    clear hK K
    repeat (refine walkS_yes hS2 rfl (fun w' hw' => by obtain ⟨q0, q1⟩ := hw'; go_simp; rfl) ?_; simp only [Act.put, List.setIfInBounds_toArray, List.set_cons_zero, List.set_cons_succ])
    simp only [walkS]
    gi_wp2
    have s1 := h6.set (k := k) (by rw [List.length_append, List.length_drop, H1.out]; omega) r
    rw [set_mid H1.out hk] at s1
    have hzz := HZ.out
    refine ⟨keeps_drew (keeps_set (keeps_set (keeps_set (KeepsFrom.refl _ _) _ _) _ _) _ _), O ++ [r], hi + q1 + q2, by rw [List.length_append, H1.out]; rfl, hk, fits_snoc h3 HR.out, HC.out, ?_, ?_, ?_,
      (((b0.other (by show g ≠ z; omega) _).other (by show z + 3 ≠ z; omega) _).other (by show z + 2 ≠ z; omega) _).drew,
      (((b1.other (by show g ≠ z + 1; omega) _).other (by show z + 3 ≠ z + 1; omega) _).other (by show z + 2 ≠ z + 1; omega) _).drew,
      (((b2.other (by show g ≠ z + 2; omega) _).other (by show z + 3 ≠ z + 2; omega) _).set _).drew,
      (((b3.other (by show g ≠ z + 3; omega) _).set _).other (by show z + 2 ≠ z + 3; omega) _).drew,
      (((b4.other (by show g ≠ z + 4; omega) _).other (by show z + 3 ≠ z + 4; omega) _).other (by show z + 2 ≠ z + 4; omega) _).drew,
      (((b5.other (by show g ≠ z + 5; omega) _).other (by show z + 3 ≠ z + 5; omega) _).other (by show z + 2 ≠ z + 5; omega) _).drew, ?_, ?_⟩
    · rw [lv_snoc, H1.out, show 2 ^ (64 * (k + 1)) = 2 ^ (64 * k) * 18446744073709551616 by rw [Nat.mul_add, Nat.pow_add]]
      exact HST.out
    · exact ((s1.other (by show z + 3 ≠ g; omega) _).other (by show z + 2 ≠ g; omega) _).drew
    · exact (((h7.set _).other (by show z ≤ z + 3; omega) _).other (by show z ≤ z + 2; omega) _).drew
    · show z + 6 ≤ (World.setCell _ _ _).heap.size
      rw [size_set, size_set, size_set]; exact hss
    · exact (((hw.setIn (by omega) (by omega) _).setNew hs.block (by show w.heap.size ≤ z + 3; omega) _).setNew hs.block (by show w.heap.size ≤ z + 2; omega) _).drew
  case done =>
    rintro D W hD ⟨O, c, h1, h2, h3, h4, h5, h6, h7, b0, b1, b2, b3, b4, b5, hss, hw⟩ hK
    have hc3 := b3.1
    have H1 := Lib.hid h1
    have H5 := Lib.hid h5
    clear h1 h5
    gi_wp2
    refine ⟨by simp, .inl ⟨_, _, rfl, run_takeDeferred hK, ?_⟩⟩
    have b1 : Below W0.heap.size W (W.putObj D (.deferred none)) := below_putObj W D _ hD (by omega)
    have e1 := h6
    rw [List.drop_eq_nil_of_le (Nat.le_refl _), List.append_nil] at e1
    have e5 := H5.out
    rw [List.take_of_length_le (Nat.le_refl _), List.take_of_length_le hBA] at e5
    have hzz := HZ.out
    exact ⟨_, results_tmp rfl _ _ _, O, c, rfl, H1.out, h3, h4, e5, e1.below b1 (by omega), hw.after (b1.mono (by omega)) hs.block⟩
  case stop =>
    rintro D k W _ _ h _
    exact h.elim
end Go.Proofs.YtofpcdjoljjnoaaDoor

namespace Go.Proofs.YtofpcdjoljjnoaaDoor
open Go.RowKit

def TakePost (g off : Nat) (A B : List Nat) (w : World) (e : Ending) (w' : World) : Prop :=
  ∃ O : List Nat, e = .returned (.int .u64 ((lv A / lv B : Nat) : Int)) ∧ O.length = A.length ∧ Fits O ∧ lv O = lv A % lv B ∧ Seg w' g off O ∧ Wrote g off (off + A.length) w w'

theorem eq_of_wrap {x m p c d : Nat} (h : x + p * c = m + p * d) (hx : x < p) (hm : m < p) : x = m := by
  have := congrArg (· % p) h
  simpa [Nat.add_mul_mod_self_left, Nat.mod_eq_of_lt hx, Nat.mod_eq_of_lt hm] using this
/-- Without a borrow the guess was right; with one it was one too great, and the divisor is added again. -/
theorem take_right {o d b a p n : Nat} (h : o + d * b = a + p * 0) (hn : n = a / b) (h1 : n ≤ d) (hb : 0 < b) : d = n ∧ o = a % b := by
  have h2 : d * b ≤ a := by omega
  have h3 : d ≤ n := by rw [hn]; exact (Nat.le_div_iff_mul_le hb).2 h2
  have : d = n := by omega
  refine ⟨this, ?_⟩
  have h4 := Nat.div_add_mod' a b
  rw [← hn] at h4
  rw [this] at h
  omega
theorem take_over {o d b a p c n : Nat} (h : o + d * b = a + p * c) (hn : n = a / b) (h1 : n ≤ d) (h2 : d ≤ n + 1) (hc : 0 < c) (ho : o < p) : d = n + 1 ∧ o + b = a % b + p * c := by
  have h3 : p * 1 ≤ p * c := Nat.mul_le_mul_left p hc
  have h4 := Nat.div_add_mod' a b
  rw [← hn] at h4
  have h5 : d = n + 1 := by
    rcases Nat.lt_or_ge n d with h5 | h5
    · omega
    · exfalso
      have h6 : d = n := by omega
      rw [h6] at h
      omega
  refine ⟨h5, ?_⟩
  rw [h5, Nat.add_mul, Nat.one_mul] at h
  omega

set_option maxRecDepth 100000 in
set_option maxHeartbeats 2000000 in
theorem take_any (g off gb ob P ca cb : Nat) (A B : List Nat) (w : World) (hA : A.length = P + 3) (hB : B.length = P + 2) (hP : P ≤ 1048576) (fA : Fits A) (fB : Fits B) (hca : A.length ≤ ca) (hcb : B.length ≤ cb)
    (hs : Seg w g off A) (mb : NatAt w (some ⟨gb, ob, none⟩) B) (hne : gb ≠ g) (htop : 9223372036854775808 ≤ B.getD (P + 1) 0) (hlt : lv A < 18446744073709551616 * lv B) :
    Calls Tryd.prog 97 #[.slice (some ⟨g, off, none⟩) A.length ca, .slice (some ⟨gb, ob, none⟩) B.length cb] w (TakePost g off A B w) := by
  have HGU := Lib.hid (guess_any g off gb ob P ca cb A B w hA hB hP fA fB hca hcb hs.natAt mb htop hlt)
  have hD0 : 0 < lv B := by
    have := lv_top2 hB
    have h1 : 2 ^ (64 * P) * 1 ≤ 2 ^ (64 * P) * (B.getD P 0 + 18446744073709551616 * B.getD (P + 1) 0) := Nat.mul_le_mul_left _ (by omega)
    have := Nat.two_pow_pos (64 * P)
    omega
  have hbw : gb < w.heap.size := by
    obtain ⟨b', o', e', hlt', _⟩ := mb.lt (i := 0) (by omega)
    cases e'; exact hlt'
  have HD0 := Lib.hid hD0
  have HA := Lib.hid hA
  have HB := Lib.hid hB
  have HP := Lib.hid hP
  have FA := Lib.hid fA
  have FB := Lib.hid fB
  have HS := Lib.hid hs
  have MB := Lib.hid mb
  have HNE := Lib.hid hne
  have HBW := Lib.hid hbw
  clear hD0 hA hB hP fA fB hs mb hne hbw htop hlt hca hcb
  go_enter Tryd.func97, Tryd.ntmps97
  go_wp2_with fail
  refine HGU.out.mono ?_
  rintro e w1 ⟨d, rfl, h1, h2, h3, k, rfl⟩
  have HST := Lib.hid (subtractTimes_any g off ca cb d (some ⟨gb, ob, none⟩) A B (w.drewN k) (by have := HA.out; have := HP.out; omega) (by rw [HA.out, HB.out]; omega) FA.out FB.out h3 (HS.out.drewN k)
    (.inl ⟨fun _ bl o e => (by cases e; exact ⟨HNE.out, HBW.out⟩), MB.out⟩))
  have H12 := Lib.hid (And.intro h1 h2)
  clear h1 h2
  go_wp2_with fail
  refine HST.out.mono ?_
  rintro e w2 ⟨O, c, rfl, hO, fO, hc, heq, hs2, hw2⟩
  obtain ⟨n, hn⟩ : ∃ n, n = lv A / lv B := ⟨_, rfl⟩
  rw [← hn] at H12
  have h12 := H12.out
  have hOl : lv O < 2 ^ (64 * A.length) := by rw [← hO]; exact lv_lt fO
  have hml : lv A % lv B < 2 ^ (64 * A.length) := Nat.lt_of_le_of_lt (Nat.mod_le _ _) (lv_lt FA.out)
  have HW : Hid (Wrote g off (off + A.length) w w2) := Lib.hid (((Wrote.refl g off (off + A.length) w).drewN k).trans hw2)
  have HN := Lib.hid hn
  rcases Nat.eq_zero_or_pos c with h0 | h0
  · subst h0
    have hr := take_right heq hn h12.1 HD0.out
    have HE := Lib.hid hr.2
    have hdn := hr.1
    subst hdn
    have g0 : decide ((0 : Int) < ((0 : Nat) : Int)) = false := by simp
    have HO := Lib.hid hO
    have HF := Lib.hid fO
    have HS2 := Lib.hid hs2
    clear hO fO heq hs2 hw2 hn h12 hOl hml hr
    go_wp2_with fail
    go_ret
    exact ⟨O, by rw [← HN.out]; rfl, HO.out, HF.out, HE.out, HS2.out, HW.out⟩
  · have hr := take_over heq hn h12.1 h12.2 h0 hOl
    have hdn : (d : Int) - 1 = (n : Int) := by omega
    have hd1 : (1 : Int) ≤ (d : Int) := by omega
    have g0 : (0 : Int) < (c : Int) := by omega
    have hadd := add_any g off ca cb (some ⟨gb, ob, none⟩) O B w2 (by rw [hO, HA.out]; have := HP.out; omega) (by rw [hO, HA.out, HB.out]; omega) fO FB.out hs2
      (HW.out.natAt MB.out (fun _ b o e => by cases e; exact HNE.out)) (fun _ bl o e => by cases e; exact ⟨HNE.out, Nat.lt_of_lt_of_le HBW.out HW.out.size⟩)
    rw [hO] at hadd
    have HADD := Lib.hid hadd
    have HE := Lib.hid hr.2
    have HML := Lib.hid hml
    have HO := Lib.hid hO
    clear hadd hr hml hO fO heq hs2 hw2 hn h12 hOl h0
    go_wp2_with fail
    refine HADD.out.mono ?_
    rintro e w3 ⟨O2, c2, rfl, hO2, fO2, hc2, heq2, hs3, hw3⟩
    rw [HO.out] at hO2 heq2 hw3
    have HE2 : Hid (lv O2 = lv A % lv B) := Lib.hid (eq_of_wrap (heq2.trans HE.out) (by rw [← hO2]; exact lv_lt fO2) HML.out)
    have HO2 := Lib.hid hO2
    have HF := Lib.hid fO2
    have HS2 := Lib.hid hs3
    have HW2 := Lib.hid (HW.out.trans hw3)
    clear hO2 fO2 hc2 heq2 hs3 hw3
    go_wp2_with fail
    go_ret
    exact ⟨O2, by rw [← HN.out]; rfl, HO2.out, HF.out, HE2.out, HS2.out, HW2.out⟩
end Go.Proofs.YtofpcdjoljjnoaaDoor

namespace Go.Proofs.YtofpcdjoljjnoaaDoor
open Go.RowKit

theorem drop_row (r k : Nat) : (nrow r).drop k = nrow (lv ((nrow r).drop k)) := by
  refine nrow_of (fun x hx => nrow_fits r x (List.mem_of_mem_drop hx)) ?_
  rcases Nat.lt_or_ge k (nrow r).length with h | h
  · refine .inr ?_
    have h1 := (nrow_last r).resolve_left (fun e => by rw [e] at h; simp at h)
    rw [List.length_drop, List.getD_eq_getElem?_getD, List.getElem?_drop, show k + ((nrow r).length - k - 1) = (nrow r).length - 1 by omega, ← List.getD_eq_getElem?_getD]
    exact h1
  · exact .inl (List.drop_eq_nil_of_le h)
theorem lv_split (R : List Nat) {k : Nat} (hk : k ≤ R.length) : lv R = lv (R.take k) + 2 ^ (64 * k) * lv (R.drop k) := by
  have := lv_append (R.take k) (R.drop k)
  rw [List.take_append_drop, List.length_take, Nat.min_eq_left hk] at this
  exact this
theorem lv_take_lt {R : List Nat} (f : Fits R) {k : Nat} (hk : k ≤ R.length) : lv (R.take k) < 2 ^ (64 * k) := by
  have := lv_lt (fits_take f k)
  rwa [List.length_take, Nat.min_eq_left hk] at this

/-- What a round of the long division leaves: the digits so far, and what is left. -/
def DLAt (B0 g gb ob gq cr nq D N0 : Nat) (w : World) (r : Value) (W : World) : Prop :=
  ∃ R Q : List Nat, r = .slice (some ⟨g, 0, none⟩) R.length cr ∧ Fits R ∧ R.length + 1 ≤ nq + (nrow D).length ∧ NRow B0 W (.slice (some ⟨g, 0, none⟩) R.length cr) R ∧ Q.length = nq ∧ Fits Q ∧ NRow B0 W (.slice (some ⟨gq, 0, none⟩) nq nq) Q ∧
    lv Q * D + lv R = N0 ∧ (∀ j, Q.getD j 0 ≠ 0 → lv R < D * 2 ^ (64 * j)) ∧ NatAt W (some ⟨gb, ob, none⟩) (nrow D) ∧ Below B0 w W

/-- A digit at place k, the divisor subtracted as often. -/
theorem digit_math {R O Q : List Nat} {D N0 k x : Nat} (fR : Fits R) (hk : k ≤ R.length) (hQ : lv Q * D + lv R = N0) (hz : ∀ j, Q.getD j 0 ≠ 0 → lv R < D * 2 ^ (64 * j)) (hkq : k < Q.length)
    (hO : lv O + x * D = lv (R.drop k)) (hx : 0 < x) (hlt : lv O < D) :
    lv (Q.set k x) * D + lv (R.take k ++ O) = N0 ∧ (∀ j, (Q.set k x).getD j 0 ≠ 0 → lv (R.take k ++ O) < D * 2 ^ (64 * j)) ∧ lv (R.take k ++ O) < lv R := by
  have hs := lv_split R hk
  have hl := lv_take_lt fR hk
  have hlen : (R.take k).length = k := by rw [List.length_take, Nat.min_eq_left hk]
  have hn : lv (R.take k ++ O) = lv (R.take k) + 2 ^ (64 * k) * lv O := by rw [lv_append, hlen]
  have hxD : D ≤ x * D := Nat.le_mul_of_pos_left D hx
  have hq0 : Q.getD k 0 = 0 := by
    rcases Nat.eq_zero_or_pos (Q.getD k 0) with h | h
    · exact h
    · have h1 := hz k (by omega)
      have h2 : 2 ^ (64 * k) * D ≤ 2 ^ (64 * k) * lv (R.drop k) := Nat.mul_le_mul_left _ (by omega)
      rw [Nat.mul_comm D] at h1
      omega
  have hset := lv_set hkq x
  rw [hq0, Nat.mul_zero, Nat.add_zero] at hset
  have hE : 2 ^ (64 * k) * lv (R.drop k) = 2 ^ (64 * k) * lv O + 2 ^ (64 * k) * (x * D) := by rw [← hO, Nat.mul_add]
  have hless : lv (R.take k ++ O) < lv R := by
    have h1 : 2 ^ (64 * k) * 1 ≤ 2 ^ (64 * k) * (x * D) := Nat.mul_le_mul_left _ (by omega)
    have := Nat.two_pow_pos (64 * k)
    omega
  refine ⟨?_, fun j hj => ?_, hless⟩
  · rw [hset, Nat.add_mul, hn, Nat.mul_assoc]; omega
  · by_cases hjk : k = j
    · subst hjk
      have h1 : 2 ^ (64 * k) * (lv O + 1) ≤ 2 ^ (64 * k) * D := Nat.mul_le_mul_left _ hlt
      rw [Nat.mul_add, Nat.mul_one] at h1
      rw [hn, Nat.mul_comm D]; omega
    · refine Nat.lt_trans hless (hz j ?_)
      rwa [List.getD_eq_getElem?_getD, List.getElem?_set_ne hjk, ← List.getD_eq_getElem?_getD] at hj

/-- The memory behind it. -/
theorem digit_laid {B0 g gb ob gq cr nq D N0 k x : Nat} {w W W1 : World} {R Q O : List Nat} (fR : Fits R) (hl : R.length + 1 ≤ nq + (nrow D).length) (hR : NRow B0 W (.slice (some ⟨g, 0, none⟩) R.length cr) R) (hQl : Q.length = nq) (fQ : Fits Q)
    (hrq : NRow B0 W (.slice (some ⟨gq, 0, none⟩) nq nq) Q) (hQ : lv Q * D + lv R = N0) (hz : ∀ j, Q.getD j 0 ≠ 0 → lv R < D * 2 ^ (64 * j)) (hb : NatAt W (some ⟨gb, ob, none⟩) (nrow D)) (hbel : Below B0 w W)
    (hgq : gq ≠ g) (hgb : gb ≠ g) (hgbq : gb ≠ gq) (hk : k ≤ R.length) (hkq : k < nq)
    (hOl : O.length = (R.drop k).length) (fO : Fits O) (hO : lv O + x * D = lv (R.drop k)) (hx : 0 < x) (hx64 : x < 18446744073709551616) (hlt : lv O < D) (hs : Seg W1 g k O) (hw : Wrote g k (k + (R.drop k).length) W W1) :
    DLAt B0 g gb ob gq cr nq D N0 w (.slice (some ⟨g, 0, none⟩) R.length cr) (W1.setCell ⟨gq, k, none⟩ (.int .u64 (x : Int))) ∧ lv (R.take k ++ O) < lv R ∧
    NRow B0 (W1.setCell ⟨gq, k, none⟩ (.int .u64 (x : Int))) (.slice (some ⟨g, 0, none⟩) R.length cr) (R.take k ++ O) ∧ Fits (R.take k ++ O) := by
  obtain ⟨m1, m2, m3⟩ := digit_math fR hk hQ hz (by omega) hO hx hlt
  have hlen : (R.take k).length = k := by rw [List.length_take, Nat.min_eq_left hk]
  have hl2 : (R.take k ++ O).length = R.length := by rw [List.length_append, hlen, hOl, List.length_drop]; omega
  have fN : Fits (R.take k ++ O) := fits_append (fits_take fR k) fO
  have hsR := hR.seg
  have hsQ := hrq.seg
  have hseg : Seg W1 g 0 (R.take k ++ O) := by
    refine Seg.append ?_ (by rw [hlen, Nat.zero_add]; exact hs)
    exact hw.segOut (hsR.2.2.2.2.2.take k) (.inl (by rw [hlen]; omega))
  have hr1 : NRow B0 W1 (.slice (some ⟨g, 0, none⟩) R.length cr) (R.take k ++ O) := hR.wrote hw hseg hl2
  have hq1 : NRow B0 W1 (.slice (some ⟨gq, 0, none⟩) nq nq) Q := hrq.of_block (hw.other hsQ.2.2.2.2.2.block hgq)
  have hr2 : NRow B0 (W1.setCell ⟨gq, k, none⟩ (.int .u64 (x : Int))) (.slice (some ⟨g, 0, none⟩) R.length cr) (R.take k ++ O) := hr1.of_block (Below.heap_setCell _ _ _ _ (fun e => hgq (by simpa using e.symm)))
  have hsq1 := hq1.seg.2.2.2.2.2.set (k := k) (by omega) x
  rw [Nat.zero_add] at hsq1
  have hq2 : NRow B0 (W1.setCell ⟨gq, k, none⟩ (.int .u64 (x : Int))) (.slice (some ⟨gq, 0, none⟩) nq nq) (Q.set k x) :=
    hq1.wrote ((Wrote.refl gq 0 nq W1).setIn (Nat.zero_le _) hkq _) hsq1 (by simp)
  have hBW : B0 ≤ W.heap.size := by have := hsR.2.2.1; have := hsR.2.2.2.2.2.block; omega
  refine ⟨⟨R.take k ++ O, Q.set k x, by rw [hl2], fN, by rw [hl2]; exact hl, by rw [hl2]; exact hr2, by simp [hQl], ?_, hq2, m1, m2, ?_, ?_⟩, m3, hr2, fN⟩
  · intro y hy
    rcases List.mem_or_eq_of_mem_set hy with h | h
    · exact fQ y h
    · subst h; exact hx64
  · exact (hw.natAt hb (fun _ b o e => by cases e; exact hgb)).other (p := ⟨gq, k, none⟩) (fun _ b o e => by cases e; exact hgbq) _
  · exact (hbel.trans (hw.below hBW hsR.2.2.1)).setCell hsQ.2.2.1 _
/-- The end. -/
theorem digits_done {q D N0 x : Nat} (hQ : q * D + x = N0) (hlt : x < D) : N0 / D = q ∧ N0 % D = x := by
  rw [← hQ, Nat.add_comm, Nat.mul_comm]
  exact ⟨by rw [Nat.add_mul_div_left _ _ (by omega), Nat.div_eq_of_lt hlt, Nat.zero_add], by rw [Nat.add_mul_mod_self_left, Nat.mod_eq_of_lt hlt]⟩
theorem top_half {E dl d0 d1 M D : Nat} (h : D = dl + E * (d0 + M * d1)) (ht : M ≤ 2 * d1) : E * M * M ≤ 2 * D := by
  have h1 : E * M * M ≤ E * M * (2 * d1) := Nat.mul_le_mul_left _ ht
  rw [Nat.mul_left_comm (E * M) 2 d1, Nat.mul_assoc E M d1] at h1
  rw [h, Nat.mul_add E]
  omega
end Go.Proofs.YtofpcdjoljjnoaaDoor
