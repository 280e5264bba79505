/-
  LAYER 3: the texts NatTextsW, one behind the other.
-/
import Derived.Test.YtdhabkblgkoibaaNatC2
import Derived.Test.YtdhabkblgkoibaaNatA1
import Derived.Test.YtdhabkblgkoibaaNatA4

namespace Go.Proofs.Ytdhabkblgkoibaa
open Go.RowKit

theorem same_t {B B' : Nat} {w : World} {va vb : Value} {n : Nat} (ha : NRow B w va (nrow n)) (hb : NRow B' w vb (nrow n)) (hs : (nrow n).length ≤ 2048) :
    Calls Try.prog 15 #[va, vb] w fun e w' => e = .returned (.bool true) ∧ Below w.heap.size w w' := by
  obtain ⟨a, ca, rfl, _, _, ma⟩ := ha.at_
  obtain ⟨b, cb, rfl, _, _, mb⟩ := hb.at_
  refine (nsame_any a b ca cb (nrow n) w (by omega) ma mb (nrow_last n)).mono ?_
  rintro e w' ⟨he, d, rfl⟩
  exact ⟨he, below_drewN (Below.refl _ _) _⟩

theorem val10_dec (n : Nat) : val10 (dec n) = n := by
  induction n using Nat.strongRecOn with
  | _ n ih =>
    by_cases h : n = 0
    · subst h; rw [dec_zero]; rfl
    · rw [dec_step h, val10_snoc, ih (n / 10) (by omega), byt_toNat]
      omega
theorem allD_dec (n : Nat) : allD (dec n) := by
  induction n using Nat.strongRecOn with
  | _ n ih =>
    by_cases h : n = 0
    · subst h; rw [dec_zero]; intro b hb; simp at hb
    · rw [dec_step h]
      refine allD_snoc (ih (n / 10) (by omega)) ?_
      unfold isD
      rw [byt_toNat]
      omega
theorem parse_dec {n : Nat} (h : (decT n).length ≤ 400) : parseV (decT n) = (n, 0) := by
  unfold parseV
  rw [if_neg (by omega)]
  by_cases h0 : n = 0
  · subst h0
    rw [if_neg (by decide), if_pos (by intro b hb; simp [decT] at hb; subst hb; unfold isD; decide)]
    rfl
  · have e : decT n = dec n := by unfold decT; rw [if_neg h0]
    rw [e, if_neg (dec_ne h0), if_pos (allD_dec n), val10_dec]
theorem dec_shortK {K M n : Nat} (hK : 64 * K ≤ M) (hM : 1 ≤ M) (h : n < 2 ^ (64 * K)) : (decT n).length ≤ M := by
  unfold decT
  by_cases h0 : n = 0
  · rw [if_pos h0]; exact Nat.le_trans (show [(48 : UInt8)].length ≤ 1 from Nat.le_refl 1) hM
  · rw [if_neg h0]
    have h2 : 2 ^ (64 * K) ≤ 10 ^ (64 * K) := Nat.pow_le_pow_left (by decide) _
    have h3 : 10 ^ (64 * K) ≤ 10 ^ M := Nat.pow_le_pow_right (Nat.zero_lt_succ 9) hK
    exact dec_length (Nat.lt_of_lt_of_le h (Nat.le_trans h2 h3))
theorem dec_short {n : Nat} (h : n < 2 ^ (64 * 6)) : (decT n).length ≤ 400 := dec_shortK (K := 6) (by decide) (by decide) h

theorem texts_great (a : Option Addr) (la ca : Nat) (s : ByteArray) (w : World) (h : 6 < la ∨ (¬ 6 < la ∧ 120 < s.size)) :
    Calls Try.prog 5 #[.slice a la ca, .string s] w fun e w' => e = .returned (.bool true) ∧ Below w.heap.size w w' := by
  have HG := Lib.hid (great_any a none none la 0 0 ca 0 0 w)
  rcases h with h | ⟨h1, h2⟩
  · have e : (decide (6 < la) || (decide (6 < 0) || decide (6 < 0))) = true := by simp; exact h
    rw [e] at HG
    have HG := Lib.hid HG.out
    clear e h
    go_enter Try.func5, Try.ntmps5
    go_wp2_with fail
    refine HG.out.mono ?_
    rintro e w1 ⟨rfl, rfl⟩
    go_wp2_with fail
    refine (head_any w).mono ?_
    rintro e w2 ⟨rfl, hb⟩
    go_wp2_with fail
    go_ret
    exact ⟨rfl, hb⟩
  · have e : (decide (6 < la) || (decide (6 < 0) || decide (6 < 0))) = false := by simp; omega
    rw [e] at HG
    have HG := Lib.hid HG.out
    have h2' : (120 : Int) < (s.size : Int) := by omega
    clear e h1
    go_enter Try.func5, Try.ntmps5
    go_wp2_with fail
    refine HG.out.mono ?_
    rintro e w1 ⟨rfl, rfl⟩
    go_wp2_with fail
    refine (head_any w).mono ?_
    rintro e w2 ⟨rfl, hb⟩
    go_wp2_with fail
    go_ret
    exact ⟨rfl, hb⟩

set_option maxRecDepth 100000 in
set_option maxHeartbeats 4000000 in
theorem texts_any (a : Option Addr) (la ca na : Nat) (l : List UInt8) (w : World) (h1 : la ≤ 6) (hl : l.length ≤ 120) (ha : NNum 6 w (.slice a la ca) na) :
    Calls Try.prog 5 #[.slice a la ca, .string (mk l)] w fun e w' => e = .returned (.bool true) ∧ Below w.heap.size w w' := by
  have HG := Lib.hid (great_any a none none la 0 0 ca 0 0 w)
  have e : (decide (6 < la) || (decide (6 < 0) || decide (6 < 0))) = false := by simp; omega
  rw [e] at HG
  have HG := Lib.hid HG.out
  have hs : ((mk l).size : Int) ≤ 120 := by rw [mk_size]; omega
  have hsh := short_of ha.lt (by omega)
  have HSH := Lib.hid hsh
  have hdl := dec_short ha.lt
  have HPD := Lib.hid (parse_dec hdl)
  have HT := Lib.hid (text_p ha (by omega) hsh)
  have HT2 := Lib.hid (fun w2 (h : Below w.heap.size w w2) => ntext_v 6 _ na w2 (by omega) (ha.below h))
  have HNV := Lib.hid (fun w2 (h : Below w.heap.size w w2) => norm_v (K := 6) (by omega) (ha.below h))
  obtain ⟨T, hT⟩ : ∃ T, T = decT na := ⟨_, rfl⟩
  rw [← hT] at hdl HPD HT HT2
  have HPD := Lib.hid HPD.out
  have HT := Lib.hid HT.out
  have HT2 := Lib.hid HT2.out
  have HP1 := Lib.hid (fun w => parse_any T w hdl)
  have HP2 := Lib.hid (fun w => parse_any l w (by omega))
  have HP3 := Lib.hid (fun w => nparse_any l w)
  obtain ⟨k, c, hkc⟩ : ∃ k c, parseV l = (k, c) := ⟨_, _, rfl⟩
  have hkl : (nrow k).length ≤ 2048 := by
    have h : k = (parseV l).1 := by rw [hkc]
    rw [h]
    unfold parseV
    rw [if_neg (by omega)]
    split
    · exact Nat.zero_le _
    · split
      · rename_i hd
        exact Nat.le_trans (nrow_length_le (val10_K hd 8 (by omega))) (by omega)
      · exact Nat.zero_le _
  rw [hkc] at HP2 HP3
  have HP2 := Lib.hid HP2.out
  have HP3 := Lib.hid HP3.out
  have HKL := Lib.hid hkl
  clear e h1 ha hsh hdl hT hkc hkl hl
  go_enter Try.func5, Try.ntmps5
  go_wp2_with fail
  refine HG.out.mono ?_
  rintro e w1 ⟨rfl, rfl⟩
  go_wp2_with fail
  refine HT.out.mono ?_
  rintro e w1 ⟨rfl, hb1⟩
  have HB := Lib.hid hb1
  clear hb1
  go_wp2_with fail
  refine (HP1.out w1).mono ?_
  rintro e w2 ⟨v2, rfl, hr2, hb⟩
  rw [HPD.out] at hr2 ⊢
  have HB := Lib.hid (HB.out.trans (hb.mono HB.out.size))
  have HR2 := Lib.hid hr2
  clear hb hr2
  go_wp2_with fail
  refine (HP2.out w2).mono ?_
  rintro e w3 ⟨v3, rfl, hr3, hb⟩
  have HB := Lib.hid (HB.out.trans (hb.mono HB.out.size))
  have HR2 := Lib.hid (HR2.out.below hb (Nat.le_refl _))
  have HR3 := Lib.hid hr3
  clear hb hr3
  go_wp2_with fail
  refine (HP3.out w3).mono ?_
  rintro e w4 ⟨v4, rfl, hr4, hb⟩
  have HB := Lib.hid (HB.out.trans (hb.mono HB.out.size))
  have HR2 := Lib.hid (HR2.out.below hb (Nat.le_refl _))
  have HR3 := Lib.hid (HR3.out.below hb (Nat.le_refl _))
  have HR4 := Lib.hid hr4
  clear hb hr4
  go_wp2_with fail
  refine (HT2.out w4 HB.out).mono ?_
  rintro e w5 ⟨rfl, hb⟩
  have HB := Lib.hid (HB.out.trans (hb.mono HB.out.size))
  have HR2 := Lib.hid (HR2.out.below hb (Nat.le_refl _))
  have HR3 := Lib.hid (HR3.out.below hb (Nat.le_refl _))
  have HR4 := Lib.hid (HR4.out.below hb (Nat.le_refl _))
  clear hb
  go_wp2_with fail
  refine (HNV.out w5 HB.out).mono ?_
  rintro e w6 ⟨v6, rfl, hr6, hb⟩
  have HB := Lib.hid (HB.out.trans (hb.mono HB.out.size))
  have HR2 := Lib.hid (HR2.out.below hb (Nat.le_refl _))
  have HR3 := Lib.hid (HR3.out.below hb (Nat.le_refl _))
  have HR4 := Lib.hid (HR4.out.below hb (Nat.le_refl _))
  have HR6 := Lib.hid hr6
  clear hb hr6
  go_wp2_with fail
  refine (same_t HR2.out HR6.out HSH.out).mono ?_
  rintro e w7 ⟨rfl, hb⟩
  have HB := Lib.hid (HB.out.trans (hb.mono HB.out.size))
  have HR3 := Lib.hid (HR3.out.below hb (Nat.le_refl _))
  have HR4 := Lib.hid (HR4.out.below hb (Nat.le_refl _))
  clear hb
  go_wp2_with fail
  refine (same_t HR3.out HR4.out HKL.out).mono ?_
  rintro e w8 ⟨rfl, hb⟩
  have HB := Lib.hid (HB.out.trans (hb.mono HB.out.size))
  clear hb
  go_wp2_with fail
  refine (head_any _).mono ?_
  rintro e w9 ⟨rfl, hb⟩
  have HB := Lib.hid (HB.out.trans (hb.mono HB.out.size))
  clear hb
  go_wp2_with fail
  go_ret
  exact ⟨rfl, HB.out⟩
end Go.Proofs.Ytdhabkblgkoibaa
