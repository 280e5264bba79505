/-
  LAYER 3: the texts NatGuessM, NatGuess, NatTake, NatDivLong, NatDivLongW, NatDivide2, one behind the other.
-/
import Derived.Test.YtcdedaihkfpafaaNatA1
import Derived.Test.YtcdedaihkfpafaaNatB5
import Derived.Test.YtcdedaihkfpafaaNatB3
import Derived.Test.YtcdedaihkfpafaaNatB2
import Derived.Test.YtcdedaihkfpafaaNatB4
import Derived.Test.YtcdedaihkfpafaaNatA3
import Derived.Test.YtcdedaihkfpafaaNatA4
import Derived.Test.YtcdedaihkfpafaaNatBT
import Derived.Test.YtcdedaihkfpafaaNatB7
import Derived.Test.YtcdedaihkfpafaaNatC4
import Derived.WalkMore
import Derived.Deep.LoopGhost

namespace Go.Proofs.Ytcdedaihkfpafaa

/-- What the top limbs X of T and V of D tell of the quotient. -/
theorem guess_bounds {T D n E X V tl dl : Nat} (hT : T = tl + E * X) (hD : D = dl + E * V) (htl : tl < E) (hdl : dl < E) (hn : n * D ≤ T) (hn1 : T < (n + 1) * D) :
    n * V ≤ X ∧ X < (n + 1) * (V + 1) := by
  have hE : 0 < E := by omega
  constructor
  · have h1 : E * (n * V) ≤ n * D := by
      rw [hD, Nat.mul_add, ← Nat.mul_assoc n E V, Nat.mul_comm n E, Nat.mul_assoc]; omega
    have h2 : E * (n * V) < E * (X + 1) := by rw [Nat.mul_add, Nat.mul_one]; omega
    have := Nat.lt_of_mul_lt_mul_left h2
    omega
  · have h1 : D ≤ E * (V + 1) := by rw [hD, Nat.mul_add, Nat.mul_one]; omega
    have h2 := Nat.mul_le_mul_left (n + 1) h1
    have h3 : E * X < E * ((n + 1) * (V + 1)) := by
      rw [← Nat.mul_assoc E (n + 1), Nat.mul_comm E (n + 1), Nat.mul_assoc]; omega
    exact Nat.lt_of_mul_lt_mul_left h3
theorem guess_top {n X V t0 t1 d0 d1 B : Nat} (hX : X = t0 + B * (t1 + B * d1)) (hV : V = d0 + B * d1) (hd0 : d0 < B) (hd : B ≤ 2 * d1) (h2 : X < (n + 1) * (V + 1)) (hB : 2 ≤ B) : B - 1 ≤ n + 1 := by
  rcases Nat.lt_or_ge n (B - 2) with h | h
  · exfalso
    have h3 : V + 1 ≤ B * (d1 + 1) := by rw [hV, Nat.mul_add, Nat.mul_one]; omega
    have h4 := Nat.mul_le_mul (show n + 1 ≤ B - 2 by omega) h3
    have h5 : B * (B * d1) ≤ X := by rw [hX, Nat.mul_add]; omega
    have h6 : B * (B * d1) < B * ((B - 2) * (d1 + 1)) := by
      rw [← Nat.mul_assoc B (B - 2), Nat.mul_comm B (B - 2), Nat.mul_assoc]; omega
    have h7 := Nat.lt_of_mul_lt_mul_left h6
    rw [Nat.mul_add, Nat.mul_one, Nat.sub_mul] at h7
    have h8 : 2 * d1 ≤ B * d1 := Nat.mul_le_mul_right _ hB
    omega
  · omega
theorem guess_two {n X V t0 t1 t2 d0 d1 q l B : Nat} (hX : X = t0 + B * (t1 + B * t2)) (hV : V = d0 + B * d1) (ht0 : t0 < B) (hd0 : d0 < B) (hd : B ≤ 2 * d1) (hnB : n < B)
    (h1 : n * V ≤ X) (h2 : X < (n + 1) * (V + 1)) (hq : t1 + B * t2 = d1 * q + l) (hl : l < d1) :
    (l * B + t0 < q * d0 → n + 1 ≤ q ∧ q ≤ n + 2) ∧ (q * d0 ≤ l * B + t0 → n ≤ q ∧ q ≤ n + 1) := by
  have hqV : q * V + l * B + t0 = X + q * d0 := by
    rw [hX, hV, hq, Nat.mul_add, Nat.mul_add, ← Nat.mul_assoc q B, Nat.mul_comm q B, Nat.mul_assoc, Nat.mul_comm q d1, Nat.mul_comm l B]; omega
  constructor
  · intro h
    have h3 : X < q * V := by omega
    have h4 : n < q := by
      have : n * V < q * V := by omega
      exact Nat.lt_of_mul_lt_mul_right this
    refine ⟨by omega, ?_⟩
    rcases Nat.lt_or_ge q (n + 3) with h5 | h5
    · omega
    · exfalso
      have h6 : V + 1 ≤ B * (d1 + 1) := by rw [hV, Nat.mul_add, Nat.mul_one]; omega
      have h7 := Nat.mul_le_mul_left (n + 1) h6
      have h8 : B * (d1 * q) ≤ X := by rw [hX, hq, Nat.mul_add]; omega
      have h9 : B * (d1 * q) < B * ((n + 1) * (d1 + 1)) := by
        rw [← Nat.mul_assoc B (n + 1), Nat.mul_comm B (n + 1), Nat.mul_assoc]; omega
      have h10 := Nat.lt_of_mul_lt_mul_left h9
      have h11 := Nat.mul_le_mul_left d1 h5
      rw [Nat.mul_add] at h11
      rw [Nat.add_mul, Nat.one_mul, Nat.mul_add, Nat.mul_one, Nat.mul_comm n d1] at h10
      omega
  · intro h
    have h3 : q * V ≤ X := by omega
    constructor
    · rcases Nat.lt_or_ge q n with h4 | h4
      · exfalso
        have h5 : B * (n * d1) ≤ n * V := by
          rw [hV, Nat.mul_add, ← Nat.mul_assoc n B, Nat.mul_comm n B, Nat.mul_assoc]; omega
        have h6 := Nat.mul_le_mul_right d1 (show q + 1 ≤ n by omega)
        have h7 : d1 * q + d1 ≤ n * d1 := by rw [Nat.add_mul, Nat.one_mul, Nat.mul_comm q d1] at h6; exact h6
        have h8 : B * (d1 * q + l + 1) ≤ B * (n * d1) := Nat.mul_le_mul_left B (by omega)
        rw [Nat.mul_add B _ 1, Nat.mul_one] at h8
        rw [hq] at hX
        omega
      · exact h4
    · rcases Nat.lt_or_ge q (n + 2) with h4 | h4
      · omega
      · exfalso
        have h5 := Nat.mul_le_mul_right V h4
        rw [Nat.add_mul] at h5
        rw [Nat.add_mul, Nat.one_mul, Nat.mul_add, Nat.mul_one] at h2
        have h6 : B * 1 ≤ B * d1 := Nat.mul_le_mul_left B (by omega)
        omega
end Go.Proofs.Ytcdedaihkfpafaa

namespace Go.Proofs.Ytcdedaihkfpafaa
open Go.RowKit

theorem lv_top2 {B : List Nat} {P : Nat} (h : B.length = P + 2) : lv B = lv (B.take P) + 2 ^ (64 * P) * (B.getD P 0 + 18446744073709551616 * B.getD (P + 1) 0) := by
  rw [← List.take_append_drop P B, lv_append]
  have hl : (B.take P).length = P := by rw [List.length_take]; omega
  rw [hl, List.take_append_drop]
  have hd : B.drop P = [B.getD P 0, B.getD (P + 1) 0] := by
    rw [List.drop_eq_getElem_cons (by omega), List.drop_eq_getElem_cons (by omega), List.drop_eq_nil_of_le (by omega)]
    simp [List.getD_eq_getElem?_getD, h]
  rw [hd]
  simp [lv]
theorem lv_top3 {A : List Nat} {P : Nat} (h : A.length = P + 3) : lv A = lv (A.take P) + 2 ^ (64 * P) * (A.getD P 0 + 18446744073709551616 * (A.getD (P + 1) 0 + 18446744073709551616 * A.getD (P + 2) 0)) := by
  rw [← List.take_append_drop P A, lv_append]
  have hl : (A.take P).length = P := by rw [List.length_take]; omega
  rw [hl, List.take_append_drop]
  have hd : A.drop P = [A.getD P 0, A.getD (P + 1) 0, A.getD (P + 2) 0] := by
    rw [List.drop_eq_getElem_cons (by omega), List.drop_eq_getElem_cons (by omega), List.drop_eq_getElem_cons (by omega), List.drop_eq_nil_of_le (by omega)]
    simp [List.getD_eq_getElem?_getD, h]
  rw [hd]
  simp [lv]
/-- What the limbs tell of the digit. -/
theorem guess_lv {A B : List Nat} {P : Nat} (hA : A.length = P + 3) (hB : B.length = P + 2) (fA : Fits A) (fB : Fits B) (htop : 9223372036854775808 ≤ B.getD (P + 1) 0) (hlt : lv A < 18446744073709551616 * lv B) :
    lv A / lv B < 18446744073709551616 ∧ A.getD (P + 2) 0 ≤ B.getD (P + 1) 0 ∧
    (A.getD (P + 2) 0 = B.getD (P + 1) 0 → 18446744073709551615 ≤ lv A / lv B + 1) ∧
    (∀ q l, A.getD (P + 1) 0 + 18446744073709551616 * A.getD (P + 2) 0 = B.getD (P + 1) 0 * q + l → l < B.getD (P + 1) 0 →
      (l * 18446744073709551616 + A.getD P 0 < q * B.getD P 0 → lv A / lv B + 1 ≤ q ∧ q ≤ lv A / lv B + 2) ∧ (q * B.getD P 0 ≤ l * 18446744073709551616 + A.getD P 0 → lv A / lv B ≤ q ∧ q ≤ lv A / lv B + 1)) := by
  have hA3 := lv_top3 hA
  have hB2 := lv_top2 hB
  have hEa : lv (A.take P) < 2 ^ (64 * P) := by have := lv_lt (fits_take fA P); rw [List.length_take] at this; rwa [Nat.min_eq_left (by omega)] at this
  have hEb : lv (B.take P) < 2 ^ (64 * P) := by have := lv_lt (fits_take fB P); rw [List.length_take] at this; rwa [Nat.min_eq_left (by omega)] at this
  have hd0 := getD_fits fB P
  have ht0 := getD_fits fA P
  have hd1 := getD_fits fB (P + 1)
  have hE : 0 < 2 ^ (64 * P) := Nat.two_pow_pos _
  have hD0 : 0 < lv B := by
    rw [hB2]
    have : 2 ^ (64 * P) * 1 ≤ 2 ^ (64 * P) * (B.getD P 0 + 18446744073709551616 * B.getD (P + 1) 0) := Nat.mul_le_mul_left _ (by omega)
    omega
  have hn : lv A / lv B < 18446744073709551616 := by rw [Nat.div_lt_iff_lt_mul hD0]; exact hlt
  have hq1 : lv A / lv B * lv B ≤ lv A := Nat.div_mul_le_self _ _
  have hq2 : lv A < (lv A / lv B + 1) * lv B := by
    have := Nat.div_add_mod' (lv A) (lv B); have h2 := Nat.mod_lt (lv A) hD0
    rw [Nat.add_mul, Nat.one_mul]; omega
  have hb := guess_bounds hA3 hB2 hEa hEb hq1 hq2
  refine ⟨hn, ?_, fun e => ?_, fun q l hq hl => ?_⟩
  · rcases Nat.lt_or_ge (B.getD (P + 1) 0) (A.getD (P + 2) 0) with h | h
    · exfalso
      have h1 : B.getD P 0 + 18446744073709551616 * B.getD (P + 1) 0 + 1 ≤ 18446744073709551616 * (B.getD (P + 1) 0 + 1) := by omega
      have h2 : lv B < 2 ^ (64 * P) * (18446744073709551616 * (B.getD (P + 1) 0 + 1)) := by
        have := Nat.mul_le_mul_left (2 ^ (64 * P)) h1
        rw [Nat.mul_add _ _ 1, Nat.mul_one] at this
        omega
      have h3 : 2 ^ (64 * P) * (18446744073709551616 * (18446744073709551616 * A.getD (P + 2) 0)) ≤ lv A := by
        rw [hA3, Nat.mul_add 18446744073709551616, Nat.mul_add (2 ^ (64 * P)), Nat.mul_add (2 ^ (64 * P))]; omega
      have h4 : 2 ^ (64 * P) * (18446744073709551616 * (18446744073709551616 * (B.getD (P + 1) 0 + 1))) ≤ 2 ^ (64 * P) * (18446744073709551616 * (18446744073709551616 * A.getD (P + 2) 0)) :=
        Nat.mul_le_mul_left _ (Nat.mul_le_mul_left _ (Nat.mul_le_mul_left _ h))
      rw [show 2 ^ (64 * P) * (18446744073709551616 * (18446744073709551616 * (B.getD (P + 1) 0 + 1))) = 18446744073709551616 * (2 ^ (64 * P) * (18446744073709551616 * (B.getD (P + 1) 0 + 1))) by
        rw [← Nat.mul_assoc (2 ^ (64 * P)), Nat.mul_comm (2 ^ (64 * P)), Nat.mul_assoc]] at h4
      omega
    · exact h
  · rw [e] at hb
    exact guess_top (B := 18446744073709551616) rfl rfl hd0 (by omega) hb.2 (by omega)
  · exact guess_two (B := 18446744073709551616) rfl rfl ht0 hd0 (by omega) hn hb.1 hb.2 hq hl

def GuessPost (n : Nat) (w : World) (e : Ending) (w' : World) : Prop := ∃ g : Nat, e = .returned (.int .u64 (g : Int)) ∧ n ≤ g ∧ g ≤ n + 1 ∧ g < 18446744073709551616 ∧ ∃ k, w' = w.drewN k

set_option maxRecDepth 100000 in
set_option maxHeartbeats 2000000 in
theorem guess_any (ga oa gb ob P ca cb : Nat) (A B : List Nat) (w : World) (hA : A.length = P + 3) (hB : B.length = P + 2) (hP : P ≤ 1048576) (fA : Fits A) (fB : Fits B) (hca : A.length ≤ ca) (hcb : B.length ≤ cb)
    (ma : NatAt w (some ⟨ga, oa, none⟩) A) (mb : NatAt w (some ⟨gb, ob, none⟩) B) (htop : 9223372036854775808 ≤ B.getD (P + 1) 0) (hlt : lv A < 18446744073709551616 * lv B) :
    Calls Try.prog 80 #[.slice (some ⟨ga, oa, none⟩) A.length ca, .slice (some ⟨gb, ob, none⟩) B.length cb] w (GuessPost (lv A / lv B) w) := by
  obtain ⟨hn, hle, heq, htwo⟩ := guess_lv hA hB fA fB htop hlt
  obtain ⟨La, hLa⟩ : ∃ La, La = A.length := ⟨_, rfl⟩
  obtain ⟨Lb, hLb⟩ : ∃ Lb, Lb = B.length := ⟨_, rfl⟩
  have hc0 : w.cell? ⟨ga, oa + P, none⟩ = some (.int .u64 ((A.getD P 0 : Nat) : Int)) := by obtain ⟨b', o', e', hc⟩ := ma P (by omega); cases e'; exact hc
  have hc1 : w.cell? ⟨ga, oa + P + 1, none⟩ = some (.int .u64 ((A.getD (P + 1) 0 : Nat) : Int)) := by obtain ⟨b', o', e', hc⟩ := ma (P + 1) (by omega); cases e'; exact hc
  have hc2 : w.cell? ⟨ga, oa + P + 2, none⟩ = some (.int .u64 ((A.getD (P + 2) 0 : Nat) : Int)) := by obtain ⟨b', o', e', hc⟩ := ma (P + 2) (by omega); cases e'; exact hc
  have hd0 : w.cell? ⟨gb, ob + P, none⟩ = some (.int .u64 ((B.getD P 0 : Nat) : Int)) := by obtain ⟨b', o', e', hc⟩ := mb P (by omega); cases e'; exact hc
  have hd1 : w.cell? ⟨gb, ob + P + 1, none⟩ = some (.int .u64 ((B.getD (P + 1) 0 : Nat) : Int)) := by obtain ⟨b', o', e', hc⟩ := mb (P + 1) (by omega); cases e'; exact hc
  have bt0 := getD_fits fA P
  have bt1 := getD_fits fA (P + 1)
  have bt2 := getD_fits fA (P + 2)
  have bd0 := getD_fits fB P
  have bd1 := getD_fits fB (P + 1)
  generalize lv A / lv B = n at hn heq htwo ⊢
  generalize A.getD P 0 = t0 at *
  generalize A.getD (P + 1) 0 = t1 at *
  generalize A.getD (P + 2) 0 = t2 at *
  generalize B.getD P 0 = d0 at *
  generalize B.getD (P + 1) 0 = d1 at *
  rw [← hLa, ← hLb]
  have hAI : (La : Int) - 3 = (P : Int) := by omega
  have hBI : (Lb : Int) - 2 = (P : Int) := by omega
  have hP0 : (0 : Int) ≤ (P : Int) := by omega
  have hPa : (P : Int) ≤ (La : Int) := by omega
  have hPb : (P : Int) ≤ (Lb : Int) := by omega
  have hLca : (La : Int) ≤ (ca : Int) := by omega
  have hLcb : (Lb : Int) ≤ (cb : Int) := by omega
  have hA3 : La - P = 3 := by omega
  have hB3 : Lb - P = 2 := by omega
  have hLa9 : (La : Int) ≤ 1048579 := by omega
  have hLb9 : (Lb : Int) ≤ 1048578 := by omega
  clear ma mb fA fB hA hB hca hcb hlt hLa hLb hP
  by_cases ht : t2 = d1
  · subst ht
    have HG := Lib.hid (heq rfl)
    have HN := Lib.hid hn
    have hb : ((t2 : Int) == (t2 : Int)) = true := by simp
    clear heq htwo hle hn
    go_enter Try.func80, Try.ntmps80
    go_wp2_with fail
    go_region
    go_wp2_with fail
    go_region
    go_wp2_with fail
    go_ret
    exact ⟨18446744073709551615, rfl, by have := HN.out; omega, HG.out, by omega, 2, rfl⟩
  · have hlt : t2 < d1 := by omega
    have hb : ((t2 : Int) == (d1 : Int)) = false := by simp; omega
    have HD := Lib.hid (fun W => div64_any t2 t1 d1 bt1 bd1 hlt W)
    have hdm := Nat.div_add_mod (t2 * 18446744073709551616 + t1) d1
    have hml := Nat.mod_lt (t2 * 18446744073709551616 + t1) (show 0 < d1 by omega)
    have hqb : (t2 * 18446744073709551616 + t1) / d1 < 18446744073709551616 := by
      rw [Nat.div_lt_iff_lt_mul (by omega)]
      have : (t2 + 1) * 18446744073709551616 ≤ d1 * 18446744073709551616 := Nat.mul_le_mul_right _ hlt
      rw [Nat.mul_comm 18446744073709551616]
      omega
    obtain ⟨q, hq⟩ : ∃ q, q = (t2 * 18446744073709551616 + t1) / d1 := ⟨_, rfl⟩
    obtain ⟨l, hl⟩ : ∃ l, l = (t2 * 18446744073709551616 + t1) % d1 := ⟨_, rfl⟩
    rw [← hq] at hdm hqb
    rw [← hl] at hdm hml
    have HQ := Lib.hid hq
    have HL := Lib.hid hl
    have hll : l < 18446744073709551616 := by omega
    have htw := htwo q l (by omega) hml
    have hm := mul_small hqb bd0
    have HM := Lib.hid (fun W => Try.bits_Mul64 q d0 hqb bd0 W)
    obtain ⟨hi, hhi⟩ : ∃ hi, hi = q * d0 / 18446744073709551616 := ⟨_, rfl⟩
    obtain ⟨lo, hlo⟩ : ∃ lo, lo = q * d0 % 18446744073709551616 := ⟨_, rfl⟩
    rw [← hhi, ← hlo] at HM
    have HM := Lib.hid HM.out
    have hqd : q * d0 = hi * 18446744073709551616 + lo := by omega
    have hlo64 : lo < 18446744073709551616 := by omega
    have hhi64 : hi < 18446744073709551616 := by omega
    rw [hqd] at htw
    have HTW := Lib.hid htw
    clear hdm hq hl heq htwo hle htw hm hhi hlo hqd
    have tail : ∀ (W : World) (k : Nat), W = w.drewN k → True := fun _ _ _ => trivial
    clear tail
    go_enter Try.func80, Try.ntmps80
    go_wp2_with fail
    go_region
    go_wp2_with fail
    go_region
    go_wp2_with fail
    refine wp_region_walk (fun w' => w'.cell? ⟨ga, oa + P + 1, none⟩ = some (.int .u64 (t1 : Int)) ∧ w'.cell? ⟨ga, oa + P + 2, none⟩ = some (.int .u64 (t2 : Int)) ∧ w'.cell? ⟨gb, ob + P + 1, none⟩ = some (.int .u64 (d1 : Int)))
      [true, true, true, true, true, true, true, true, true, false, true, true, true, true, true] (by kernel_rfl) (by kernel_rfl) rfl (by kernel_rfl) (fun _ _ d _ _ h => by cases d <;> exact h) ?_
    repeat (refine walkS_yes ⟨hc1, hc2, hd1⟩ rfl (fun w' hw' => by obtain ⟨q0, q1, q2⟩ := hw'; go_simp; rfl) ?_; simp only [Act.put, List.setIfInBounds_toArray, List.set_cons_zero, List.set_cons_succ])
    refine walkS_no rfl (fun K hK => ?_)
    go_simp
    refine (HD.out _).mono ?_
    rintro e w5 ⟨q', l', rfl, hq', hl', k, rfl⟩
    rw [← HQ.out] at hq'
    rw [← HL.out] at hl'
    subst hq' hl'
    refine hK _ _ ⟨hc1, hc2, hd1⟩ ?_
    clear hK K
    repeat (refine walkS_yes ⟨hc1, hc2, hd1⟩ rfl (fun w' hw' => by obtain ⟨q0, q1, q2⟩ := hw'; go_simp; rfl) ?_; simp only [Act.put, List.setIfInBounds_toArray, List.set_cons_zero, List.set_cons_succ])
    simp only [walkS]
    have HTQ : Hid ((l' * 18446744073709551616 + t0 < hi * 18446744073709551616 + lo → n + 1 ≤ q' ∧ q' ≤ n + 2) ∧ (hi * 18446744073709551616 + lo ≤ l' * 18446744073709551616 + t0 → n ≤ q' ∧ q' ≤ n + 1)) := HTW
    have HQB := Lib.hid hqb
    clear hn ht hlt hb
    rcases Nat.lt_trichotomy l' hi with h | h | h
    · have g1 : decide ((l' : Int) < (hi : Int)) = true := by simp; omega
      obtain ⟨q1, hq1⟩ : ∃ q1, q' = q1 + 1 := ⟨q' - 1, by have := (HTQ.out.1 (by omega)).1; omega⟩
      have hqi : (q' : Int) - 1 = (q1 : Int) := by omega
      have hq2 : (1 : Int) ≤ (q' : Int) := by omega
      have HE : Hid (n ≤ q1 ∧ q1 ≤ n + 1) := Lib.hid (by have := HTQ.out.1 (by omega); omega)
      have HQ1 := Lib.hid hq1
      clear hq1
      go_wp2_with (go_at_call 77; refine (HM.out _).mono ?_; rintro e W ⟨rfl, rfl⟩)
      go_ret
      exact ⟨q1, rfl, HE.out.1, HE.out.2, by have := HQB.out; have := HQ1.out; omega, _, rfl⟩
    · subst h
      have g1 : decide ((l' : Int) < (l' : Int)) = false := by simp
      have g2 : ((l' : Int) == (l' : Int)) = true := by simp
      by_cases h2 : t0 < lo
      · have g3 : decide ((t0 : Int) < (lo : Int)) = true := by simp; omega
        obtain ⟨q1, hq1⟩ : ∃ q1, q' = q1 + 1 := ⟨q' - 1, by have := (HTQ.out.1 (by omega)).1; omega⟩
        have hqi : (q' : Int) - 1 = (q1 : Int) := by omega
        have hq2 : (1 : Int) ≤ (q' : Int) := by omega
        have HE : Hid (n ≤ q1 ∧ q1 ≤ n + 1) := Lib.hid (by have := HTQ.out.1 (by omega); omega)
        have HQ1 := Lib.hid hq1
        clear hq1
        go_wp2_with (go_at_call 77; refine (HM.out _).mono ?_; rintro e W ⟨rfl, rfl⟩)
        go_ret
        exact ⟨q1, rfl, HE.out.1, HE.out.2, by have := HQB.out; have := HQ1.out; omega, _, rfl⟩
      · have g3 : decide ((t0 : Int) < (lo : Int)) = false := by simp; omega
        have HE : Hid (n ≤ q' ∧ q' ≤ n + 1) := Lib.hid (HTQ.out.2 (by omega))
        go_wp2_with (go_at_call 77; refine (HM.out _).mono ?_; rintro e W ⟨rfl, rfl⟩)
        go_ret
        exact ⟨q', rfl, HE.out.1, HE.out.2, HQB.out, _, rfl⟩
    · have g1 : decide ((l' : Int) < (hi : Int)) = false := by simp; omega
      have g2 : ((hi : Int) == (l' : Int)) = false := by simp; omega
      have HE : Hid (n ≤ q' ∧ q' ≤ n + 1) := Lib.hid (HTQ.out.2 (by omega))
      go_wp2_with (go_at_call 77; refine (HM.out _).mono ?_; rintro e W ⟨rfl, rfl⟩)
      go_ret
      exact ⟨q', rfl, HE.out.1, HE.out.2, HQB.out, _, rfl⟩
end Go.Proofs.Ytcdedaihkfpafaa

namespace Go.Proofs.Ytcdedaihkfpafaa
open Go.RowKit

def TakePost (g off : Nat) (A B : List Nat) (w : World) (e : Ending) (w' : World) : Prop :=
  ∃ O : List Nat, e = .returned (.int .u64 ((lv A / lv B : Nat) : Int)) ∧ O.length = A.length ∧ Fits O ∧ lv O = lv A % lv B ∧ Seg w' g off O ∧ Wrote g off (off + A.length) w w'

theorem eq_of_wrap {x m p c d : Nat} (h : x + p * c = m + p * d) (hx : x < p) (hm : m < p) : x = m := by
  have := congrArg (· % p) h
  simpa [Nat.add_mul_mod_self_left, Nat.mod_eq_of_lt hx, Nat.mod_eq_of_lt hm] using this
/-- Without a borrow the guess was right; with one it was one too great, and the divisor is added again. -/
theorem take_right {o d b a p n : Nat} (h : o + d * b = a + p * 0) (hn : n = a / b) (h1 : n ≤ d) (hb : 0 < b) : d = n ∧ o = a % b := by
  have h2 : d * b ≤ a := by omega
  have h3 : d ≤ n := by rw [hn]; exact (Nat.le_div_iff_mul_le hb).2 h2
  have : d = n := by omega
  refine ⟨this, ?_⟩
  have h4 := Nat.div_add_mod' a b
  rw [← hn] at h4
  rw [this] at h
  omega
theorem take_over {o d b a p c n : Nat} (h : o + d * b = a + p * c) (hn : n = a / b) (h1 : n ≤ d) (h2 : d ≤ n + 1) (hc : 0 < c) (ho : o < p) : d = n + 1 ∧ o + b = a % b + p * c := by
  have h3 : p * 1 ≤ p * c := Nat.mul_le_mul_left p hc
  have h4 := Nat.div_add_mod' a b
  rw [← hn] at h4
  have h5 : d = n + 1 := by
    rcases Nat.lt_or_ge n d with h5 | h5
    · omega
    · exfalso
      have h6 : d = n := by omega
      rw [h6] at h
      omega
  refine ⟨h5, ?_⟩
  rw [h5, Nat.add_mul, Nat.one_mul] at h
  omega

set_option maxRecDepth 100000 in
set_option maxHeartbeats 2000000 in
theorem take_any (g off gb ob P ca cb : Nat) (A B : List Nat) (w : World) (hA : A.length = P + 3) (hB : B.length = P + 2) (hP : P ≤ 1048576) (fA : Fits A) (fB : Fits B) (hca : A.length ≤ ca) (hcb : B.length ≤ cb)
    (hs : Seg w g off A) (mb : NatAt w (some ⟨gb, ob, none⟩) B) (hne : gb ≠ g) (htop : 9223372036854775808 ≤ B.getD (P + 1) 0) (hlt : lv A < 18446744073709551616 * lv B) :
    Calls Try.prog 71 #[.slice (some ⟨g, off, none⟩) A.length ca, .slice (some ⟨gb, ob, none⟩) B.length cb] w (TakePost g off A B w) := by
  have HGU := Lib.hid (guess_any g off gb ob P ca cb A B w hA hB hP fA fB hca hcb hs.natAt mb htop hlt)
  have hD0 : 0 < lv B := by
    have := lv_top2 hB
    have h1 : 2 ^ (64 * P) * 1 ≤ 2 ^ (64 * P) * (B.getD P 0 + 18446744073709551616 * B.getD (P + 1) 0) := Nat.mul_le_mul_left _ (by omega)
    have := Nat.two_pow_pos (64 * P)
    omega
  have hbw : gb < w.heap.size := by
    obtain ⟨b', o', e', hlt', _⟩ := mb.lt (i := 0) (by omega)
    cases e'; exact hlt'
  have HD0 := Lib.hid hD0
  have HA := Lib.hid hA
  have HB := Lib.hid hB
  have HP := Lib.hid hP
  have FA := Lib.hid fA
  have FB := Lib.hid fB
  have HS := Lib.hid hs
  have MB := Lib.hid mb
  have HNE := Lib.hid hne
  have HBW := Lib.hid hbw
  clear hD0 hA hB hP fA fB hs mb hne hbw htop hlt hca hcb
  go_enter Try.func71, Try.ntmps71
  go_wp2_with fail
  refine HGU.out.mono ?_
  rintro e w1 ⟨d, rfl, h1, h2, h3, k, rfl⟩
  have HST := Lib.hid (subtractTimes_any g off ca cb d (some ⟨gb, ob, none⟩) A B (w.drewN k) (by have := HA.out; have := HP.out; omega) (by rw [HA.out, HB.out]; omega) FA.out FB.out h3 (HS.out.drewN k)
    (.inl ⟨fun _ bl o e => (by cases e; exact ⟨HNE.out, HBW.out⟩), MB.out⟩))
  have H12 := Lib.hid (And.intro h1 h2)
  clear h1 h2
  go_wp2_with fail
  refine HST.out.mono ?_
  rintro e w2 ⟨O, c, rfl, hO, fO, hc, heq, hs2, hw2⟩
  obtain ⟨n, hn⟩ : ∃ n, n = lv A / lv B := ⟨_, rfl⟩
  rw [← hn] at H12
  have h12 := H12.out
  have hOl : lv O < 2 ^ (64 * A.length) := by rw [← hO]; exact lv_lt fO
  have hml : lv A % lv B < 2 ^ (64 * A.length) := Nat.lt_of_le_of_lt (Nat.mod_le _ _) (lv_lt FA.out)
  have HW : Hid (Wrote g off (off + A.length) w w2) := Lib.hid (((Wrote.refl g off (off + A.length) w).drewN k).trans hw2)
  have HN := Lib.hid hn
  rcases Nat.eq_zero_or_pos c with h0 | h0
  · subst h0
    have hr := take_right heq hn h12.1 HD0.out
    have HE := Lib.hid hr.2
    have hdn := hr.1
    subst hdn
    have g0 : decide ((0 : Int) < ((0 : Nat) : Int)) = false := by simp
    have HO := Lib.hid hO
    have HF := Lib.hid fO
    have HS2 := Lib.hid hs2
    clear hO fO heq hs2 hw2 hn h12 hOl hml hr
    go_wp2_with fail
    go_ret
    exact ⟨O, by rw [← HN.out]; rfl, HO.out, HF.out, HE.out, HS2.out, HW.out⟩
  · have hr := take_over heq hn h12.1 h12.2 h0 hOl
    have hdn : (d : Int) - 1 = (n : Int) := by omega
    have hd1 : (1 : Int) ≤ (d : Int) := by omega
    have g0 : (0 : Int) < (c : Int) := by omega
    have hadd := add_any g off ca cb (some ⟨gb, ob, none⟩) O B w2 (by rw [hO, HA.out]; have := HP.out; omega) (by rw [hO, HA.out, HB.out]; omega) fO FB.out hs2
      (HW.out.natAt MB.out (fun _ b o e => by cases e; exact HNE.out)) (fun _ bl o e => by cases e; exact ⟨HNE.out, Nat.lt_of_lt_of_le HBW.out HW.out.size⟩)
    rw [hO] at hadd
    have HADD := Lib.hid hadd
    have HE := Lib.hid hr.2
    have HML := Lib.hid hml
    have HO := Lib.hid hO
    clear hadd hr hml hO fO heq hs2 hw2 hn h12 hOl h0
    go_wp2_with fail
    refine HADD.out.mono ?_
    rintro e w3 ⟨O2, c2, rfl, hO2, fO2, hc2, heq2, hs3, hw3⟩
    rw [HO.out] at hO2 heq2 hw3
    have HE2 : Hid (lv O2 = lv A % lv B) := Lib.hid (eq_of_wrap (heq2.trans HE.out) (by rw [← hO2]; exact lv_lt fO2) HML.out)
    have HO2 := Lib.hid hO2
    have HF := Lib.hid fO2
    have HS2 := Lib.hid hs3
    have HW2 := Lib.hid (HW.out.trans hw3)
    clear hO2 fO2 hc2 heq2 hs3 hw3
    go_wp2_with fail
    go_ret
    exact ⟨O2, by rw [← HN.out]; rfl, HO2.out, HF.out, HE2.out, HS2.out, HW2.out⟩
end Go.Proofs.Ytcdedaihkfpafaa

namespace Go.Proofs.Ytcdedaihkfpafaa
open Go.RowKit

theorem drop_row (r k : Nat) : (nrow r).drop k = nrow (lv ((nrow r).drop k)) := by
  refine nrow_of (fun x hx => nrow_fits r x (List.mem_of_mem_drop hx)) ?_
  rcases Nat.lt_or_ge k (nrow r).length with h | h
  · refine .inr ?_
    have h1 := (nrow_last r).resolve_left (fun e => by rw [e] at h; simp at h)
    rw [List.length_drop, List.getD_eq_getElem?_getD, List.getElem?_drop, show k + ((nrow r).length - k - 1) = (nrow r).length - 1 by omega, ← List.getD_eq_getElem?_getD]
    exact h1
  · exact .inl (List.drop_eq_nil_of_le h)
theorem lv_split (R : List Nat) {k : Nat} (hk : k ≤ R.length) : lv R = lv (R.take k) + 2 ^ (64 * k) * lv (R.drop k) := by
  have := lv_append (R.take k) (R.drop k)
  rw [List.take_append_drop, List.length_take, Nat.min_eq_left hk] at this
  exact this
theorem lv_take_lt {R : List Nat} (f : Fits R) {k : Nat} (hk : k ≤ R.length) : lv (R.take k) < 2 ^ (64 * k) := by
  have := lv_lt (fits_take f k)
  rwa [List.length_take, Nat.min_eq_left hk] at this

/-- What a round of the long division leaves: the digits so far, and what is left. -/
def DLAt (B0 g gb ob gq cr nq D N0 : Nat) (w : World) (r : Value) (W : World) : Prop :=
  ∃ R Q : List Nat, r = .slice (some ⟨g, 0, none⟩) R.length cr ∧ Fits R ∧ R.length + 1 ≤ nq + (nrow D).length ∧ NRow B0 W (.slice (some ⟨g, 0, none⟩) R.length cr) R ∧ Q.length = nq ∧ Fits Q ∧ NRow B0 W (.slice (some ⟨gq, 0, none⟩) nq nq) Q ∧
    lv Q * D + lv R = N0 ∧ (∀ j, Q.getD j 0 ≠ 0 → lv R < D * 2 ^ (64 * j)) ∧ NatAt W (some ⟨gb, ob, none⟩) (nrow D) ∧ Below B0 w W

/-- A digit at place k, the divisor subtracted as often. -/
theorem digit_math {R O Q : List Nat} {D N0 k x : Nat} (fR : Fits R) (hk : k ≤ R.length) (hQ : lv Q * D + lv R = N0) (hz : ∀ j, Q.getD j 0 ≠ 0 → lv R < D * 2 ^ (64 * j)) (hkq : k < Q.length)
    (hO : lv O + x * D = lv (R.drop k)) (hx : 0 < x) (hlt : lv O < D) :
    lv (Q.set k x) * D + lv (R.take k ++ O) = N0 ∧ (∀ j, (Q.set k x).getD j 0 ≠ 0 → lv (R.take k ++ O) < D * 2 ^ (64 * j)) ∧ lv (R.take k ++ O) < lv R := by
  have hs := lv_split R hk
  have hl := lv_take_lt fR hk
  have hlen : (R.take k).length = k := by rw [List.length_take, Nat.min_eq_left hk]
  have hn : lv (R.take k ++ O) = lv (R.take k) + 2 ^ (64 * k) * lv O := by rw [lv_append, hlen]
  have hxD : D ≤ x * D := Nat.le_mul_of_pos_left D hx
  have hq0 : Q.getD k 0 = 0 := by
    rcases Nat.eq_zero_or_pos (Q.getD k 0) with h | h
    · exact h
    · have h1 := hz k (by omega)
      have h2 : 2 ^ (64 * k) * D ≤ 2 ^ (64 * k) * lv (R.drop k) := Nat.mul_le_mul_left _ (by omega)
      rw [Nat.mul_comm D] at h1
      omega
  have hset := lv_set hkq x
  rw [hq0, Nat.mul_zero, Nat.add_zero] at hset
  have hE : 2 ^ (64 * k) * lv (R.drop k) = 2 ^ (64 * k) * lv O + 2 ^ (64 * k) * (x * D) := by rw [← hO, Nat.mul_add]
  have hless : lv (R.take k ++ O) < lv R := by
    have h1 : 2 ^ (64 * k) * 1 ≤ 2 ^ (64 * k) * (x * D) := Nat.mul_le_mul_left _ (by omega)
    have := Nat.two_pow_pos (64 * k)
    omega
  refine ⟨?_, fun j hj => ?_, hless⟩
  · rw [hset, Nat.add_mul, hn, Nat.mul_assoc]; omega
  · by_cases hjk : k = j
    · subst hjk
      have h1 : 2 ^ (64 * k) * (lv O + 1) ≤ 2 ^ (64 * k) * D := Nat.mul_le_mul_left _ hlt
      rw [Nat.mul_add, Nat.mul_one] at h1
      rw [hn, Nat.mul_comm D]; omega
    · refine Nat.lt_trans hless (hz j ?_)
      rwa [List.getD_eq_getElem?_getD, List.getElem?_set_ne hjk, ← List.getD_eq_getElem?_getD] at hj

/-- The memory behind it. -/
theorem digit_laid {B0 g gb ob gq cr nq D N0 k x : Nat} {w W W1 : World} {R Q O : List Nat} (fR : Fits R) (hl : R.length + 1 ≤ nq + (nrow D).length) (hR : NRow B0 W (.slice (some ⟨g, 0, none⟩) R.length cr) R) (hQl : Q.length = nq) (fQ : Fits Q)
    (hrq : NRow B0 W (.slice (some ⟨gq, 0, none⟩) nq nq) Q) (hQ : lv Q * D + lv R = N0) (hz : ∀ j, Q.getD j 0 ≠ 0 → lv R < D * 2 ^ (64 * j)) (hb : NatAt W (some ⟨gb, ob, none⟩) (nrow D)) (hbel : Below B0 w W)
    (hgq : gq ≠ g) (hgb : gb ≠ g) (hgbq : gb ≠ gq) (hk : k ≤ R.length) (hkq : k < nq)
    (hOl : O.length = (R.drop k).length) (fO : Fits O) (hO : lv O + x * D = lv (R.drop k)) (hx : 0 < x) (hx64 : x < 18446744073709551616) (hlt : lv O < D) (hs : Seg W1 g k O) (hw : Wrote g k (k + (R.drop k).length) W W1) :
    DLAt B0 g gb ob gq cr nq D N0 w (.slice (some ⟨g, 0, none⟩) R.length cr) (W1.setCell ⟨gq, k, none⟩ (.int .u64 (x : Int))) ∧ lv (R.take k ++ O) < lv R ∧
    NRow B0 (W1.setCell ⟨gq, k, none⟩ (.int .u64 (x : Int))) (.slice (some ⟨g, 0, none⟩) R.length cr) (R.take k ++ O) ∧ Fits (R.take k ++ O) := by
  obtain ⟨m1, m2, m3⟩ := digit_math fR hk hQ hz (by omega) hO hx hlt
  have hlen : (R.take k).length = k := by rw [List.length_take, Nat.min_eq_left hk]
  have hl2 : (R.take k ++ O).length = R.length := by rw [List.length_append, hlen, hOl, List.length_drop]; omega
  have fN : Fits (R.take k ++ O) := fits_append (fits_take fR k) fO
  have hsR := hR.seg
  have hsQ := hrq.seg
  have hseg : Seg W1 g 0 (R.take k ++ O) := by
    refine Seg.append ?_ (by rw [hlen, Nat.zero_add]; exact hs)
    exact hw.segOut (hsR.2.2.2.2.2.take k) (.inl (by rw [hlen]; omega))
  have hr1 : NRow B0 W1 (.slice (some ⟨g, 0, none⟩) R.length cr) (R.take k ++ O) := hR.wrote hw hseg hl2
  have hq1 : NRow B0 W1 (.slice (some ⟨gq, 0, none⟩) nq nq) Q := hrq.of_block (hw.other hsQ.2.2.2.2.2.block hgq)
  have hr2 : NRow B0 (W1.setCell ⟨gq, k, none⟩ (.int .u64 (x : Int))) (.slice (some ⟨g, 0, none⟩) R.length cr) (R.take k ++ O) := hr1.of_block (Below.heap_setCell _ _ _ _ (fun e => hgq (by simpa using e.symm)))
  have hsq1 := hq1.seg.2.2.2.2.2.set (k := k) (by omega) x
  rw [Nat.zero_add] at hsq1
  have hq2 : NRow B0 (W1.setCell ⟨gq, k, none⟩ (.int .u64 (x : Int))) (.slice (some ⟨gq, 0, none⟩) nq nq) (Q.set k x) :=
    hq1.wrote ((Wrote.refl gq 0 nq W1).setIn (Nat.zero_le _) hkq _) hsq1 (by simp)
  have hBW : B0 ≤ W.heap.size := by have := hsR.2.2.1; have := hsR.2.2.2.2.2.block; omega
  refine ⟨⟨R.take k ++ O, Q.set k x, by rw [hl2], fN, by rw [hl2]; exact hl, by rw [hl2]; exact hr2, by simp [hQl], ?_, hq2, m1, m2, ?_, ?_⟩, m3, hr2, fN⟩
  · intro y hy
    rcases List.mem_or_eq_of_mem_set hy with h | h
    · exact fQ y h
    · subst h; exact hx64
  · exact (hw.natAt hb (fun _ b o e => by cases e; exact hgb)).other (p := ⟨gq, k, none⟩) (fun _ b o e => by cases e; exact hgbq) _
  · exact (hbel.trans (hw.below hBW hsR.2.2.1)).setCell hsQ.2.2.1 _
/-- The end. -/
theorem digits_done {q D N0 x : Nat} (hQ : q * D + x = N0) (hlt : x < D) : N0 / D = q ∧ N0 % D = x := by
  rw [← hQ, Nat.add_comm, Nat.mul_comm]
  exact ⟨by rw [Nat.add_mul_div_left _ _ (by omega), Nat.div_eq_of_lt hlt, Nat.zero_add], by rw [Nat.add_mul_mod_self_left, Nat.mod_eq_of_lt hlt]⟩
theorem top_half {E dl d0 d1 M D : Nat} (h : D = dl + E * (d0 + M * d1)) (ht : M ≤ 2 * d1) : E * M * M ≤ 2 * D := by
  have h1 : E * M * M ≤ E * M * (2 * d1) := Nat.mul_le_mul_left _ ht
  rw [Nat.mul_left_comm (E * M) 2 d1, Nat.mul_assoc E M d1] at h1
  rw [h, Nat.mul_add E]
  omega
end Go.Proofs.Ytcdedaihkfpafaa

namespace Go.Proofs.Ytcdedaihkfpafaa
open Go.RowKit

def DLPost (B0 D N0 : Nat) (w : World) (e : Ending) (w' : World) : Prop := ∃ q r, e = .returned (.tuple #[q, r]) ∧ NRow B0 w' q (nrow (N0 / D)) ∧ NRow B0 w' r (nrow (N0 % D)) ∧ Below B0 w w'

set_option maxRecDepth 100000 in
set_option maxHeartbeats 4000000 in
theorem divLong_any (B0 g gb ob cr cb P D N0 : Nat) (w : World) (hB0 : B0 ≤ w.heap.size) (hlD : (nrow D).length = P + 2) (hP : P + 2 ≤ (nrow N0).length) (hN : (nrow N0).length ≤ 1048576) (htop : 9223372036854775808 ≤ (nrow D).getD (P + 1) 0) (hcb : (nrow D).length ≤ cb)
    (hr : NRow B0 w (.slice (some ⟨g, 0, none⟩) (nrow N0).length cr) (nrow N0)) (hb : NatAt w (some ⟨gb, ob, none⟩) (nrow D)) (hne : gb ≠ g) :
    Calls Try.prog 58 #[.slice (some ⟨g, 0, none⟩) (nrow N0).length cr, .slice (some ⟨gb, ob, none⟩) (nrow D).length cb] w (DLPost B0 D N0 w) := by
  obtain ⟨i0, hi, hz0, hz1, hz2⟩ := info_parts info_u64
  obtain ⟨L0, hL0⟩ : ∃ L0, L0 = (nrow N0).length := ⟨_, rfl⟩
  obtain ⟨Lb, hLb⟩ : ∃ Lb, Lb = (nrow D).length := ⟨_, rfl⟩
  obtain ⟨nq, hnq⟩ : ∃ nq, nq = L0 - Lb + 1 := ⟨_, rfl⟩
  have hgs := hr.seg.2.2.2.2.2.block
  have hgbs : gb < w.heap.size := by
    obtain ⟨b', o', e', hlt', _⟩ := hb.lt (i := 0) (by omega)
    cases e'; exact hlt'
  have hnI : (L0 : Int) - (Lb : Int) + 1 = (nq : Int) := by omega
  have hL0b : (L0 : Int) ≤ 1048576 := by omega
  have hLb2 : (2 : Int) ≤ (Lb : Int) := by omega
  have hLbL : (Lb : Int) ≤ (L0 : Int) := by omega
  have hnqb : nq ≤ 1048576 := by omega
  have HNQ : Hid (L0 + 1 = nq + Lb) := Lib.hid (by omega)
  have HGQ : Hid (w.heap.size ≠ g ∧ gb ≠ w.heap.size) := Lib.hid ⟨by omega, by omega⟩
  have HB0 := Lib.hid hB0
  have HR := Lib.hid hr
  have HBB := Lib.hid hb
  have HNE := Lib.hid hne
  have HTOP := Lib.hid htop
  have HLD : Hid (Lb = P + 2 ∧ Lb ≤ cb) := Lib.hid ⟨by omega, by omega⟩
  have HL0 := Lib.hid hL0
  have HLB := Lib.hid hLb
  rw [← hL0, ← hLb]
  clear hr hb hne htop hlD hP hN hcb hB0 hgs hgbs hL0 hLb hnq
  go_enter Try.func58, Try.ntmps58
  go_wp2_with fail
  go_step3
  go_wp2_with (
      (at_make
       refine wpList_make_full _ rfl _ _ 23 rfl B0 42 i0 (.int .u64 0) 1 Try.underlying23 hi hz0 hz1 .i64 .i64 _ _ nq rfl rfl rfl rfl (by rw [hz2]; omega) (by unfold maxLen; omega) HB0.out ?_
       intro w0 hown0 hg0
       have HO := Lib.hid (made_zeros hown0)
       have HG0 := Lib.hid hg0
       clear hown0 hg0))
  go_step3
  go_wp2_with fail
  obtain ⟨gq, hgq⟩ : ∃ gq, gq = w.heap.size := ⟨_, rfl⟩
  rw [← hgq] at HO HGQ ⊢
  have HO := Lib.hid HO.out
  have HGQ := Lib.hid HGQ.out
  clear hgq
  go_loopw [0, 6] (fun r _ W => DLAt B0 g gb ob gq cr nq D N0 w r W) (fun r _ W => toldBy (L0 + 1) W r)
  case atStart =>
    have hgs := HR.out.seg.2.2.2.2.2.block
    refine ⟨nrow N0, List.replicate nq 0, by rw [← HL0.out], nrow_fits _, by rw [← HL0.out, ← HLB.out]; exact Nat.le_of_eq HNQ.out, HR.out.of_block (HG0.out.block g hgs (by simp)), by simp, fits_zeros nq, HO.out, by rw [lv_zeros, lv_nrow]; omega, fun j hj => ?_, ?_, (Below.refl B0 w).grown HG0.out HB0.out (fun k hk => by cases hk)⟩
    · exact absurd (by simp [List.getD_eq_getElem?_getD, List.getElem?_replicate]; split <;> rfl) hj
    · exact HBB.out.below ((Below.refl w.heap.size w).grown HG0.out (Nat.le_refl _) (fun k hk => by cases hk)) (Nat.le_refl _)
  case round =>
    obtain ⟨R, Q, rfl, fR, hRl, hR, hQl, fQ, hQr, hQ, hz, hb, hbel⟩ := hrel
    have hRs := hR.seg
    have HTR := Lib.hid (trim_any (some ⟨g, 0, none⟩) cr R wr (by have := HNQ.out; have := HLB.out; omega) hRs.2.2.2.1 fR hRs.2.2.2.2.2.natAt)
    have hR2 := hR.norm fR
    have HTQ := Lib.hid (fun (W : World) (h : NRow B0 W (.slice (some ⟨gq, 0, none⟩) nq nq) Q) => trim_any (some ⟨gq, 0, none⟩) nq Q W (by omega) (by omega) fQ h.seg.2.2.2.2.2.natAt)
    rw [hQl] at HTQ
    have HTQ := Lib.hid HTQ.out
    have HME : Hid (toldBy (L0 + 1) wr (.slice (some ⟨g, 0, none⟩) R.length cr) = lv R) := Lib.hid (toldBy_eq (hR.num fR (by have := HNQ.out; have := HLB.out; omega)))
    have hle := nrow_le fR
    obtain ⟨x, hx⟩ : ∃ x, x = lv R := ⟨_, rfl⟩
    rw [← hx] at HTR hR2 HME hQ hle
    have HTR := Lib.hid HTR.out
    have HME := Lib.hid HME.out
    have hz2 : ∀ j, Q.getD j 0 ≠ 0 → x < D * 2 ^ (64 * j) := by rw [hx]; exact hz
    obtain ⟨l, hl⟩ : ∃ l, l = (nrow x).length := ⟨_, rfl⟩
    rw [← hl] at HTR hR2 hle
    have HTR := Lib.hid HTR.out
    have HR2 := Lib.hid hR2
    have HQR := Lib.hid hQr
    have HQ := Lib.hid hQ
    have HQL := Lib.hid hQl
    have FQ := Lib.hid fQ
    have HZ := Lib.hid hz2
    have HBW := Lib.hid hb
    have HBEL := Lib.hid hbel
    have HL := Lib.hid hl
    have hlb : (l : Int) ≤ 1048577 := by have := HNQ.out; have := HLB.out; omega
    have HLQ : Hid (l + 1 ≤ nq + Lb) := Lib.hid (by have := HLB.out; omega)
    have hlcr : (l : Int) ≤ (cr : Int) := by have := hRs.2.2.2.1; omega
    have hcr9 : (cr : Int) ≤ 9223372036854775807 := by have := hRs.2.2.2.2.1; unfold maxLen at this; omega
    have hDlo : 2 ^ (64 * Lb) ≤ 2 * D := by
      have h1 := lv_top2 (B := nrow D) (P := P) (by rw [← HLB.out]; exact HLD.out.1)
      rw [lv_nrow] at h1
      have h2 := top_half h1 (by have := HTOP.out; omega)
      rw [HLD.out.1, show 64 * (P + 2) = 64 * P + 64 + 64 by omega, Nat.pow_add, Nat.pow_add]
      exact h2
    have HDLO := Lib.hid hDlo
    clear hR2 hQr hQ hQl fQ hz hz2 hb hbel hR fR hRl hRs hx hle hDlo hl
    by_cases hsh : l < Lb
    · obtain ⟨a, ha⟩ : ∃ a : Int, a = (l : Int) - (Lb : Int) := ⟨_, rfl⟩
      have haI : (l : Int) - (Lb : Int) = a := by omega
      have ha0 : a < 0 := by omega
      have HXD : Hid (x < D) := Lib.hid (by
        have h1 := lv_lt (nrow_fits x)
        rw [lv_nrow, ← HL.out] at h1
        have h2 : 2 ^ (64 * (l + 1)) ≤ 2 ^ (64 * Lb) := Nat.pow_le_pow_right (by omega) (by omega)
        have h3 := HDLO.out
        rw [Nat.mul_add, Nat.pow_add] at h2
        omega)
      clear ha hsh
      go_wp2_with fail
      refine HTR.out.mono ?_
      rintro e w' ⟨rfl, rfl⟩
      go_wp2_with fail
      refine (HTQ.out _ HQR.out).mono ?_
      rintro e w' ⟨rfl, rfl⟩
      go_wp2_with fail
      try rw [Exit.noGoto_ret]
      go_ret2
      have hd := digits_done HQ.out HXD.out
      have hqn : NRow B0 wr (.slice (some ⟨gq, 0, none⟩) Q.length nq) Q := by rw [HQL.out]; exact HQR.out
      exact ⟨_, _, rfl, by rw [hd.1]; exact hqn.norm FQ.out, by rw [hd.2]; exact HR2.out, HBEL.out⟩
    · obtain ⟨k, hk⟩ : ∃ k, l = k + Lb := ⟨l - Lb, by omega⟩
      have hkI : (l : Int) - (Lb : Int) = (k : Int) := by omega
      have hk0 : (0 : Int) ≤ (k : Int) := by omega
      have hknn : ¬ (k : Int) < 0 := by omega
      have hkl : (k : Int) ≤ (l : Int) := by omega
      have hkl2 : (k : Int) < (l : Int) := by omega
      have hkc : (k : Int) < (cr : Int) := by omega
      have hlk : l - k = Lb := by omega
      have HK := Lib.hid hk
      have hdl : ((nrow x).drop k).length = Lb := by rw [List.length_drop, ← HL.out]; exact hlk
      obtain ⟨T, hT⟩ : ∃ T, T = lv ((nrow x).drop k) := ⟨_, rfl⟩
      have hTr : nrow T = (nrow x).drop k := by rw [hT]; exact (drop_row x k).symm
      have fT : Fits ((nrow x).drop k) := fun y hy => nrow_fits x y (List.mem_of_mem_drop hy)
      have hTp : T < 2 ^ (64 * Lb) := by rw [hT, ← hdl]; exact lv_lt fT
      have hsd := HR2.out.seg.2.2.2.2.2.drop k
      rw [Nat.zero_add] at hsd
      have hcmp := compare_any (some ⟨g, k, none⟩) (some ⟨gb, ob, none⟩) (cr - k) cb T D wr (by rw [hTr, hdl]; omega) (by rw [hTr]; exact hsd.natAt) HBW.out
      rw [hTr, hdl, ← HLB.out] at hcmp
      obtain ⟨c, hc⟩ : ∃ c, c = cmpV T D := ⟨_, rfl⟩
      have hcmp2 : Calls Try.prog 49 #[.slice (some ⟨g, k, none⟩) Lb (cr - k), .slice (some ⟨gb, ob, none⟩) Lb cb] wr (fun e w' => e = .returned (.int .i64 c) ∧ Below wr.heap.size wr w') := by
        rw [hc]; exact hcmp
      have HCMP := Lib.hid hcmp2
      have HDL := Lib.hid hdl
      have HT := Lib.hid hT
      have FT := Lib.hid fT
      have HTP := Lib.hid hTp
      have hspl := lv_split (nrow x) (k := k) (by rw [← HL.out]; omega)
      rw [lv_nrow, ← hT] at hspl
      have HSPL := Lib.hid hspl
      clear hk hdl hT hTr fT hTp hsd hcmp hcmp2 hsh hspl
      by_cases hTD : D ≤ T
      · have hc0 : (0 : Int) ≤ c := by
          rw [hc]; unfold cmpV; rw [if_neg (by omega)]; split <;> omega
        have HTD := Lib.hid hTD
        clear hc hTD
        go_wp2_with fail
        refine HTR.out.mono ?_
        rintro e w' ⟨rfl, rfl⟩
        go_wp2_with fail
        refine HCMP.out.mono ?_
        rintro e w1 ⟨rfl, hb1⟩
        have hR1 : NRow B0 w1 (.slice (some ⟨g, 0, none⟩) (nrow x).length cr) (nrow x) := by rw [← HL.out]; exact HR2.out.below hb1 (Nat.le_refl _)
        have hQ1 := HQR.out.below hb1 (Nat.le_refl _)
        have hB1 := HBW.out.below hb1 (Nat.le_refl _)
        have hBwr : B0 ≤ wr.heap.size := by have h := HR2.out.seg; have h2 := h.2.2.2.2.2.block; have h3 := h.2.2.1; omega
        have hE1 : Below B0 w w1 := HBEL.out.trans (hb1.mono hBwr)
        have hgb1 : gb < w1.heap.size := by
          obtain ⟨b', o', e', hlt', _⟩ := hB1.lt (i := 0) (by rw [← HLB.out]; omega)
          cases e'; exact hlt'
        have hsd1 := hR1.seg.2.2.2.2.2.drop k
        rw [Nat.zero_add] at hsd1
        have hsub := subtract_any g k (cr - k) cb (some ⟨gb, ob, none⟩) ((nrow x).drop k) (nrow D) w1 (by rw [HDL.out]; omega) (by rw [HDL.out, ← HLB.out]; exact Nat.le_refl _) FT.out (nrow_fits D) hsd1 hB1 (fun _ bl o e => by cases e; exact ⟨HNE.out, hgb1⟩)
        rw [HDL.out, ← HLB.out] at hsub
        have HSUB := Lib.hid hsub
        have HR1 := Lib.hid hR1
        have HQ1 := Lib.hid hQ1
        have HB1 := Lib.hid hB1
        have HE1 := Lib.hid hE1
        clear hR1 hQ1 hB1 hE1 hsd1 hsub hgb1 hb1 hBwr
        go_wp2_with fail
        refine HSUB.out.mono ?_
        rintro e w2 ⟨O, c1, v, rfl, hO, fO, hc1, heq, hs2, hw2⟩
        rw [lv_nrow, ← HT.out, HDL.out] at heq
        have hOp : lv O < 2 ^ (64 * Lb) := by rw [← HDL.out, ← hO]; exact lv_lt fO
        have hc10 : c1 = 0 := by
          rcases Nat.eq_zero_or_pos c1 with h | h
          · exact h
          · exfalso
            have h2 : 2 ^ (64 * Lb) * 1 ≤ 2 ^ (64 * Lb) * c1 := Nat.mul_le_mul_left _ h
            have h3 := HTD.out
            omega
        rw [hc10, Nat.mul_zero, Nat.add_zero] at heq
        have HMO : Hid (lv O + 1 * D = lv ((nrow x).drop k)) := Lib.hid (by rw [← HT.out]; omega)
        have HOD : Hid (lv O < D) := Lib.hid (by have h1 := HDLO.out; have h2 := HTP.out; omega)
        have HX : Hid (0 < 1 ∧ 1 < 18446744073709551616) := Lib.hid (by decide)
        have hkq : k < nq := by have h1 := HLQ.out; have h2 := HK.out; omega
        have hkqI : (k : Int) < (nq : Int) := by omega
        clear heq hOp hc10 hc1
        have hq2 : NRow B0 w2 (.slice (some ⟨gq, 0, none⟩) nq nq) Q := HQ1.out.of_block (hw2.other HQ1.out.seg.2.2.2.2.2.block HGQ.out.1)
        have hcell := hq2.seg.2.2.2.2.2.cell (i := k) (by rw [HQL.out]; omega)
        rw [Nat.zero_add] at hcell
        have hfr := hq2.seg.2.2.2.2.2.frozen k
        have hlaid := digit_laid (x := 1) (w := w) (W := w1) (W1 := w2) (R := nrow x) (Q := Q) (O := O) (N0 := N0) (gb := gb) (ob := ob) (nrow_fits x) (by rw [← HL.out, ← HLB.out]; exact HLQ.out) HR1.out HQL.out FQ.out HQ1.out (by rw [lv_nrow]; exact HQ.out) (by rw [lv_nrow]; exact HZ.out) HB1.out HE1.out HGQ.out.1 HNE.out HGQ.out.2 (by rw [← HL.out]; omega) (by omega)
          hO fO HMO.out HX.out.1 HX.out.2 HOD.out hs2 hw2
        rw [lv_nrow, ← HL.out, show ((1 : Nat) : Int) = 1 from rfl] at hlaid
        have HLAID := Lib.hid hlaid
        generalize Q.getD k 0 = qk at hcell
        clear hq2 hlaid hO fO hs2 hw2
        go_wp2_with fail
        go_roundw
        case rel => exact HLAID.out.1
        case measure =>
          show toldBy (L0 + 1) _ (.slice (some ⟨g, 0, none⟩) l cr) < toldBy (L0 + 1) wr (.slice (some ⟨g, 0, none⟩) R.length cr)
          rw [HME.out, toldBy_eq (HLAID.out.2.2.1.num HLAID.out.2.2.2 (K := L0 + 1) ?_)]
          · exact HLAID.out.2.1
          · have h := HLAID.out.2.2.1.seg.2.1
            have h2 := HNQ.out
            have h3 := HLQ.out
            omega
      · have hc0 : ¬ (0 : Int) ≤ c := by
          rw [hc]; unfold cmpV; rw [if_pos (by omega)]; omega
        have HTD := Lib.hid (Nat.lt_of_not_le hTD)
        clear hc hTD
        rcases Nat.eq_zero_or_pos k with hkz | hkp
        · have hz0 : ((k : Int) == 0) = true := by simp; exact hkz
          have HXD : Hid (x < D) := Lib.hid (by have h := HSPL.out; rw [hkz] at h; simp [lv] at h; rw [h]; exact HTD.out)
          clear hkz
          go_wp2_with fail
          refine HTR.out.mono ?_
          rintro e w' ⟨rfl, rfl⟩
          go_wp2_with fail
          refine HCMP.out.mono ?_
          rintro e w1 ⟨rfl, hb1⟩
          have HQ1 := Lib.hid (HQR.out.below hb1 (Nat.le_refl _))
          have HR1 := Lib.hid (HR2.out.below hb1 (Nat.le_refl _))
          have hBwr : B0 ≤ wr.heap.size := by have h := HR2.out.seg; have h2 := h.2.2.2.2.2.block; have h3 := h.2.2.1; omega
          have HE1 : Hid (Below B0 w w1) := Lib.hid (HBEL.out.trans (hb1.mono hBwr))
          clear hb1 hBwr
          go_wp2_with fail
          refine (HTQ.out _ HQ1.out).mono ?_
          rintro e w' ⟨rfl, rfl⟩
          go_wp2_with fail
          try rw [Exit.noGoto_ret]
          go_ret2
          have hd := digits_done HQ.out HXD.out
          have hqn : NRow B0 w1 (.slice (some ⟨gq, 0, none⟩) Q.length nq) Q := by rw [HQL.out]; exact HQ1.out
          exact ⟨_, _, rfl, by rw [hd.1]; exact hqn.norm FQ.out, by rw [hd.2]; exact HR1.out, HE1.out⟩
        · obtain ⟨k1, hk1⟩ : ∃ k1, k = k1 + 1 := ⟨k - 1, by omega⟩
          have hkz : ((k : Int) == 0) = false := by simp; omega
          have hk1I : (k : Int) - 1 = (k1 : Int) := by omega
          have hk10 : (0 : Int) ≤ (k1 : Int) := by omega
          have hk1l : (k1 : Int) ≤ (l : Int) := by omega
          have hk1l2 : (k1 : Int) < (l : Int) := by omega
          have hk1c : (k1 : Int) < (cr : Int) := by omega
          obtain ⟨Lt, hLt⟩ : ∃ Lt, Lt = Lb + 1 := ⟨_, rfl⟩
          have hlk1 : l - k1 = Lt := by have := HK.out; omega
          have HK1 := Lib.hid hk1
          have HLT := Lib.hid hLt
          have hdl1 : ((nrow x).drop k1).length = Lt := by rw [List.length_drop, ← HL.out]; exact hlk1
          have hdp := drop_pred (A := nrow x) (j := k1) (by rw [← HL.out]; omega)
          rw [← hk1, ← HT.out] at hdp
          have fT1 : Fits ((nrow x).drop k1) := fun y hy => nrow_fits x y (List.mem_of_mem_drop hy)
          have hg1 := getD_fits (nrow_fits x) k1
          have hlt1 : lv ((nrow x).drop k1) < 18446744073709551616 * D := by have := HTD.out; omega
          have hge1 : D ≤ lv ((nrow x).drop k1) := by
            have h1 := lv_lt (nrow_fits D)
            rw [lv_nrow, ← HLB.out] at h1
            rcases Nat.lt_or_ge (lv ((nrow x).drop k1)) (2 ^ (64 * Lb)) with h | h
            · exfalso
              have h2 := nrow_length_le h
              rw [← drop_row, hdl1] at h2
              omega
            · omega
          have HDL1 := Lib.hid hdl1
          have FT1 := Lib.hid fT1
          have HLT1 := Lib.hid hlt1
          have HGE1 := Lib.hid hge1
          clear hLt hk1 hdl1 hdp fT1 hg1 hlt1 hge1 hkp
          go_wp2_with fail
          refine HTR.out.mono ?_
          rintro e w' ⟨rfl, rfl⟩
          go_wp2_with fail
          refine HCMP.out.mono ?_
          rintro e w1 ⟨rfl, hb1⟩
          have hR1 : NRow B0 w1 (.slice (some ⟨g, 0, none⟩) (nrow x).length cr) (nrow x) := by rw [← HL.out]; exact HR2.out.below hb1 (Nat.le_refl _)
          have hQ1 := HQR.out.below hb1 (Nat.le_refl _)
          have hB1 := HBW.out.below hb1 (Nat.le_refl _)
          have hBwr : B0 ≤ wr.heap.size := by have h := HR2.out.seg; have h2 := h.2.2.2.2.2.block; have h3 := h.2.2.1; omega
          have hE1 : Below B0 w w1 := HBEL.out.trans (hb1.mono hBwr)
          have hgb1 : gb < w1.heap.size := by
            obtain ⟨b', o', e', hlt', _⟩ := hB1.lt (i := 0) (by rw [← HLB.out]; omega)
            cases e'; exact hlt'
          have hsd1 := hR1.seg.2.2.2.2.2.drop k1
          rw [Nat.zero_add] at hsd1
          have hD0 : 0 < D := by have := HTD.out; omega
          have htk := take_any g k1 gb ob P (cr - k1) cb ((nrow x).drop k1) (nrow D) w1 (by rw [HDL1.out]; have h1 := HLT.out; have h2 := HLD.out.1; omega) (by rw [← HLB.out]; exact HLD.out.1) (by have h2 := HLD.out.1; omega) FT1.out (nrow_fits D) (by rw [HDL1.out]; have h1 := HLT.out; have h2 := HK.out; have h3 := HK1.out; omega) (by rw [← HLB.out]; exact HLD.out.2) hsd1 hB1 HNE.out HTOP.out (by rw [lv_nrow]; exact HLT1.out)
          rw [HDL1.out, ← HLB.out] at htk
          obtain ⟨n, hn⟩ : ∃ n, n = lv ((nrow x).drop k1) / D := ⟨_, rfl⟩
          have HX : Hid (0 < n ∧ n < 18446744073709551616) := Lib.hid (by rw [hn]; exact ⟨Nat.div_pos HGE1.out hD0, by rw [Nat.div_lt_iff_lt_mul hD0]; exact HLT1.out⟩)
          have HN := Lib.hid hn
          have HTK := Lib.hid htk
          have HD0 := Lib.hid hD0
          have HR1 := Lib.hid hR1
          have HQ1 := Lib.hid hQ1
          have HB1 := Lib.hid hB1
          have HE1 := Lib.hid hE1
          clear hR1 hQ1 hB1 hE1 hsd1 htk hgb1 hb1 hBwr hn hD0
          go_wp2_with fail
          refine HTK.out.mono ?_
          rintro e w2 ⟨O, rfl, hO, fO, hOm, hs2, hw2⟩
          rw [lv_nrow] at hOm
          rw [lv_nrow, ← HN.out]
          have HMO : Hid (lv O + n * D = lv ((nrow x).drop k1)) := Lib.hid (by rw [hOm, HN.out]; exact Nat.mod_add_div' _ _)
          have HOD : Hid (lv O < D) := Lib.hid (by rw [hOm]; exact Nat.mod_lt _ HD0.out)
          have hkq : k1 < nq := by have h1 := HLQ.out; have h2 := HK.out; have h3 := HK1.out; omega
          have hkqI : (k1 : Int) < (nq : Int) := by omega
          clear hOm
          have hq2 : NRow B0 w2 (.slice (some ⟨gq, 0, none⟩) nq nq) Q := HQ1.out.of_block (hw2.other HQ1.out.seg.2.2.2.2.2.block HGQ.out.1)
          have hcell := hq2.seg.2.2.2.2.2.cell (i := k1) (by rw [HQL.out]; omega)
          rw [Nat.zero_add] at hcell
          have hfr := hq2.seg.2.2.2.2.2.frozen k1
          have hlaid := digit_laid (x := n) (w := w) (W := w1) (W1 := w2) (R := nrow x) (Q := Q) (O := O) (N0 := N0) (gb := gb) (ob := ob) (nrow_fits x) (by rw [← HL.out, ← HLB.out]; exact HLQ.out) HR1.out HQL.out FQ.out HQ1.out (by rw [lv_nrow]; exact HQ.out) (by rw [lv_nrow]; exact HZ.out) HB1.out HE1.out HGQ.out.1 HNE.out HGQ.out.2 (by rw [← HL.out]; omega) (by omega)
            hO fO HMO.out HX.out.1 HX.out.2 HOD.out hs2 hw2
          rw [lv_nrow, ← HL.out] at hlaid
          have HLAID := Lib.hid hlaid
          generalize Q.getD k1 0 = qk at hcell
          clear hq2 hlaid hO fO hs2 hw2
          go_wp2_with fail
          go_roundw
          case rel => exact HLAID.out.1
          case measure =>
            show toldBy (L0 + 1) _ (.slice (some ⟨g, 0, none⟩) l cr) < toldBy (L0 + 1) wr (.slice (some ⟨g, 0, none⟩) R.length cr)
            rw [HME.out, toldBy_eq (HLAID.out.2.2.1.num HLAID.out.2.2.2 (K := L0 + 1) ?_)]
            · exact HLAID.out.2.1
            · have h := HLAID.out.2.2.1.seg.2.1
              have h2 := HNQ.out
              have h3 := HLQ.out
              omega
end Go.Proofs.Ytcdedaihkfpafaa

namespace Go.Proofs.Ytcdedaihkfpafaa
open Go.RowKit

theorem blen_lower {t : Nat} (h : blen t = 64) : 9223372036854775808 ≤ t := by
  unfold blen at h
  split at h
  · omega
  · rename_i h0
    have h1 := Nat.log2_self_le h0
    have h2 : Nat.log2 t = 63 := by omega
    rw [h2] at h1
    exact h1
/-- The divisor's top bit, set by a shift. -/
theorem top_shift {d n P : Nat} (h0 : d ≠ 0) (hl : (nrow d).length = P + 2) (hn : n + blen ((nrow d).getD (P + 1) 0) = 64) : (nrow (d * 2 ^ n)).length = P + 2 ∧ 9223372036854775808 ≤ (nrow (d * 2 ^ n)).getD (P + 1) 0 := by
  obtain ⟨t, t1, t2, t3, t4⟩ := blen_nrow h0
  rw [hl, show P + 2 - 1 = P + 1 from rfl] at t1 t4
  rw [t1] at hn
  have h1 : d * 2 ^ n ≠ 0 := Nat.mul_ne_zero h0 (by have := Nat.two_pow_pos n; omega)
  obtain ⟨u, u1, u2, u3, u4⟩ := blen_nrow h1
  rw [blen_shl h0, t4] at u4
  have hu := blen_le (show u < 2 ^ 64 from u2)
  have hup := blen_pos u3
  have hp : 0 < (nrow (d * 2 ^ n)).length := by
    rcases Nat.eq_zero_or_pos (nrow (d * 2 ^ n)).length with h | h
    · exact absurd (nrow_nil.1 (List.eq_nil_of_length_eq_zero h)) h1
    · exact h
  have hlen : (nrow (d * 2 ^ n)).length = P + 2 := by omega
  refine ⟨hlen, ?_⟩
  rw [hlen, show P + 2 - 1 = P + 1 from rfl] at u1 u4
  rw [u1]
  exact blen_lower (by omega)
theorem nrow_mono {a b : Nat} (h : a ≤ b) : (nrow a).length ≤ (nrow b).length := by
  rcases Nat.lt_or_ge (nrow b).length (nrow a).length with h1 | h1
  · have := nrow_lt h1; omega
  · exact h1
theorem NRow.head0 {B n c : Nat} {w : World} {a : Option Addr} {R : List Nat} (h : NRow B w (.slice a n c) R) (hl : 0 < R.length) : ∃ g, a = some ⟨g, 0, none⟩ ∧ B ≤ g := by
  rcases h.2 with ⟨_, h0⟩ | ⟨g, cap, _, hv, hg, _⟩
  · omega
  · cases hv; exact ⟨g, rfl, hg⟩

set_option maxRecDepth 100000 in
set_option maxHeartbeats 4000000 in
theorem divide_two (a b : Option Addr) (ca cb na nb P : Nat) (w : World) (hl : (nrow nb).length = P + 2) (hle : (nrow nb).length ≤ (nrow na).length) (hs : (nrow na).length ≤ 524288) (ma : NatAt w a (nrow na)) (mb : NatAt w b (nrow nb)) :
    Calls Try.prog 31 #[.slice a (nrow na).length ca, .slice b (nrow nb).length cb] w (DivideRes na nb w) := by
  have h0 : nb ≠ 0 := fun e => by rw [e, nrow_zero] at hl; simp at hl
  obtain ⟨t, ht1, ht2, ht3, ht4⟩ := blen_nrow h0
  rw [hl, show P + 2 - 1 = P + 1 from rfl] at ht1 ht4
  obtain ⟨bb, ob, rfl, _⟩ := mb 0 (by omega)
  have hcell : w.cell? ⟨bb, ob + (P + 1), none⟩ = some (.int .u64 (t : Int)) := by
    obtain ⟨b', o', e', hc⟩ := mb (P + 1) (by omega)
    cases e'; rw [ht1] at hc; exact hc
  have hbt := blen_le (show t < 2 ^ 64 from ht2)
  have hbp := blen_pos ht3
  obtain ⟨n, hn⟩ : ∃ n, n + blen t = 64 := ⟨64 - blen t, by omega⟩
  obtain ⟨htl, htt⟩ := top_shift (n := n) h0 hl (by rw [ht1]; exact hn)
  have hlz := Try.bits_LeadingZeros64 t w (by omega) (by omega)
  rw [Int.toNat_natCast, bitLen_blen ht2, show (64 : Int) - (blen t : Int) = (n : Int) by omega] at hlz
  have HLZ := Lib.hid hlz
  obtain ⟨La, hLa⟩ : ∃ La, La = (nrow na).length := ⟨_, rfl⟩
  obtain ⟨Lb, hLb⟩ : ∃ Lb, Lb = (nrow nb).length := ⟨_, rfl⟩
  have hnlt : ¬ (La : Int) < (Lb : Int) := by omega
  have hn1 : ((Lb : Int) == 1) = false := by simp; omega
  have hLbI : (Lb : Int) - 1 = ((P + 1 : Nat) : Int) := by omega
  obtain ⟨P1, hP1⟩ : ∃ P1, P1 = P + 1 := ⟨_, rfl⟩
  rw [← hP1] at hLbI hcell
  have hP1b : (P1 : Int) < (Lb : Int) := by omega
  have hP10 : (0 : Int) ≤ (P1 : Int) := by omega
  have hLb9 : (Lb : Int) ≤ 524288 := by omega
  have hLb2 : (2 : Int) ≤ (Lb : Int) := by omega
  have hn63 : n ≤ 63 := by omega
  have hnI : (n : Int) ≤ 63 := by omega
  have hn0 : (0 : Int) ≤ (n : Int) := by omega
  have hup1 := shiftUp_any a ca (nrow na) n w (by omega) (by omega) (nrow_fits na) ma
  rw [lv_nrow, ← hLa] at hup1
  have HU1 := Lib.hid hup1
  have HLa := Lib.hid hLa
  have HLb := Lib.hid hLb
  have HL := Lib.hid hl
  have HLE := Lib.hid hle
  have HS := Lib.hid hs
  have H0 := Lib.hid h0
  have MB := Lib.hid mb
  have HTL := Lib.hid htl
  have HTT := Lib.hid htt
  have HN63 := Lib.hid hn63
  rw [← hLa, ← hLb]
  clear hlz hup1 hLa hLb hl hle hs h0 mb ma htl htt hn hbt hbp ht1 ht2 ht3 ht4 hn63 hP1
  go_enter Try.func31, Try.ntmps31
  go_wp2_with fail
  refine HLZ.out.mono ?_
  rintro e w' ⟨rfl, hw'⟩
  rw [hw']
  clear hw' w'
  go_wp2_with fail
  refine HU1.out.mono ?_
  rintro e w1 ⟨v1, rfl, hr1, hb1⟩
  have hup2 := shiftUp_any (some ⟨bb, ob, none⟩) cb (nrow nb) n w1 (by have := HLE.out; have := HS.out; omega) (by have := HN63.out; omega) (nrow_fits nb) (MB.out.below hb1 (Nat.le_refl _))
  rw [lv_nrow, ← HLb.out] at hup2
  have HU2 := Lib.hid hup2
  have HR1 := Lib.hid hr1
  have HB1 := Lib.hid hb1
  clear hup2 hr1 hb1
  go_wp2_with fail
  refine HU2.out.mono ?_
  rintro e w2 ⟨v2, rfl, hr2, hb2⟩
  have HB2 := Lib.hid (HB1.out.trans (hb2.mono HB1.out.size))
  have hr1' := HR1.out.below hb2 (Nat.le_refl _)
  have hla1 : (nrow nb).length ≤ (nrow (na * 2 ^ n)).length := Nat.le_trans HLE.out (nrow_mono (Nat.le_mul_of_pos_right na (Nat.two_pow_pos n)))
  have hla2 : (nrow (na * 2 ^ n)).length ≤ 1048576 := by
    have h1 := lv_lt (nrow_fits na)
    rw [lv_nrow] at h1
    have h2 : na * 2 ^ n < 2 ^ (64 * ((nrow na).length + 1)) := by
      rw [show 64 * ((nrow na).length + 1) = 64 * (nrow na).length + 64 by omega, Nat.pow_add]
      exact Nat.mul_lt_mul'' h1 (Nat.pow_lt_pow_right (by omega) (by have := HN63.out; omega))
    have h3 := nrow_length_le h2
    have := HS.out
    omega
  obtain ⟨A1, c1, rfl, hc1, _, _⟩ := hr1'.at_
  obtain ⟨g1, rfl, hg1⟩ := hr1'.head0 (by have := HL.out; omega)
  obtain ⟨A2, c2, rfl, hc2, _, hat2⟩ := hr2.at_
  obtain ⟨g2, rfl, hg2⟩ := hr2.head0 (by rw [HTL.out]; omega)
  have hg12 : g2 ≠ g1 := by
    have h1 := HR1.out.seg.2.2.2.2.2.block
    omega
  have hdl := divLong_any w.heap.size g1 g2 0 c1 c2 P (nb * 2 ^ n) (na * 2 ^ n) w2 HB2.out.size HTL.out (by rw [← HL.out]; exact hla1) hla2 HTT.out hc2 hr1' hat2 hg12
  have HDL := Lib.hid hdl
  have HLA1 := Lib.hid hla1
  clear hdl hr1' hat2 hr2 hg12 hg1 hg2 hc1 hc2 hla1 hla2 hb2
  go_wp2_with fail
  refine HDL.out.mono ?_
  rintro e w3 ⟨q, r, rfl, hq, hr, hb3⟩
  have hp2 : 0 < 2 ^ n := Nat.two_pow_pos n
  rw [Nat.mul_div_mul_right _ _ hp2] at hq
  rw [Nat.mul_mod_mul_right] at hr
  have HQ := Lib.hid hq
  have HB3 := Lib.hid (HB2.out.trans hb3)
  obtain ⟨A3, c3, rfl, hc3, _, hat3⟩ := hr.at_
  have hrl : (nrow (na % nb * 2 ^ n)).length ≤ P + 2 := by
    rw [← HTL.out]
    exact nrow_mono (Nat.mul_le_mul_right _ (Nat.le_of_lt (Nat.mod_lt _ (Nat.pos_of_ne_zero H0.out))))
  have hdn := shiftDown_any A3 c3 (nrow (na % nb * 2 ^ n)) n w3 (by have h1 := HL.out; have h2 := HLb.out; omega) hc3 (by have := HN63.out; omega) (nrow_fits _) hat3
  rw [lv_nrow, Nat.mul_div_cancel _ hp2] at hdn
  have HDN := Lib.hid hdn
  clear hq hr hb3 hc3 hat3 hrl hdn hp2
  go_wp2_with fail
  refine HDN.out.mono ?_
  rintro e w4 ⟨v4, rfl, hr4, hb4⟩
  have HR4 := Lib.hid (hr4.more (B' := w.heap.size) HB3.out.size)
  have HQ4 := Lib.hid (HQ.out.below hb4 (Nat.le_refl _))
  have HB4 := Lib.hid (HB3.out.trans (hb4.mono HB3.out.size))
  clear hr4 hb4
  go_wp2_with fail
  go_ret2
  exact ⟨_, _, rfl, HQ4.out, HR4.out, HB4.out⟩
/-- divide, of any numbers. -/
theorem divides_all {na nb : Nat} (h0 : nb ≠ 0) (hs : (nrow na).length ≤ 524288) : Divides na nb := by
  intro a b ca cb w h1 h2 h3 h4 ma mb
  rcases Nat.lt_or_ge (nrow na).length (nrow nb).length with h | h
  · exact divide_less a b ca cb na nb w h (by omega) h1 h2 ma
  · by_cases hl : (nrow nb).length = 1
    · exact divides_small hl (by omega) a b ca cb w h1 h2 h3 h4 ma mb
    · have hp : 0 < (nrow nb).length := by
        rcases Nat.eq_zero_or_pos (nrow nb).length with h | h
        · exact absurd (nrow_nil.1 (List.eq_nil_of_length_eq_zero h)) h0
        · exact h
      exact divide_two a b ca cb na nb ((nrow nb).length - 2) w (by omega) h hs ma mb
end Go.Proofs.Ytcdedaihkfpafaa
