/-
  LAYER 11: the document's answer: numbers.
-/
import Derived.Test.YtomcpgogiglpkaaDoorTokSkip
import Derived.Deep.CutRange
namespace Go.Proofs.YtomcpgogiglpkaaDoor
open Go.RowKit

/-- Where a number's digits, its fraction, its exponent end; where the last digits began. -/
def endR (l : List UInt8) (b : Nat) : Nat := if 0 < expoE l b then rEnd isD l (expoE l b) else b
def fromR (l : List UInt8) (b : Nat) : Nat := if 0 < expoE l b then expoE l b else b
def fracR (l : List UInt8) (i : Nat) : Nat := fracE l (rEnd isD l i)
def okR (l : List UInt8) (b : Nat) : Bool := decide (endR l b - fromR l b ≤ 4) && !isL (bAt l (endR l b)) && !(bAt l (endR l b)).toNat == 46

theorem rEnd_not {p : UInt8 → Bool} (h0 : p 0 = false) (l : List UInt8) (k : Nat) : p (bAt l (rEnd p l k)) = false := by
  induction h : l.length - k generalizing k with
  | zero =>
    have hk : l.length ≤ k := by omega
    rw [rEnd_stop (by rw [bAt_ge hk]; exact h0), bAt_ge hk]; exact h0
  | succ m ih =>
    cases hp : p (bAt l k)
    · rw [rEnd_stop hp]; exact hp
    · rw [rEnd_step h0 hp]
      exact ih (k + 1) (by omega)
theorem fracE_not (l : List UInt8) (i : Nat) : isD (bAt l (fracR l i)) = false := by
  unfold fracR fracE
  split
  · exact rEnd_not isD_zero _ _
  · exact rEnd_not isD_zero _ _
theorem endR_not (l : List UInt8) (i : Nat) : isD (bAt l (endR l (fracR l i))) = false := by
  unfold endR
  split
  · exact rEnd_not isD_zero _ _
  · exact fracE_not l i
theorem fracR_le {l : List UInt8} {i : Nat} (h : i ≤ l.length) : fracR l i ≤ l.length := fracE_le _ _ (rEnd_le _ _ _ h)
theorem endR_le {l : List UInt8} {b : Nat} (h : b ≤ l.length) : endR l b ≤ l.length := by
  unfold endR; split
  · exact rEnd_le _ _ _ (expoE_le _ _)
  · exact h
theorem fromR_le {l : List UInt8} {b : Nat} : fromR l b ≤ endR l b := by
  unfold endR fromR; split
  · exact rEnd_ge _ _ _
  · exact Nat.le_refl _

/-! The exponent's ways. -/
theorem expo_no {l : List UInt8} {b : Nat} (h : ((bAt l b).toNat == 101) = false) : expoE l b = 0 := by unfold expoE; rw [h]; rfl
theorem expo_dig {l : List UInt8} {b : Nat} (h : ((bAt l b).toNat == 101) = true) (hd : isD (bAt l (b + 1)) = true) : expoE l b = b + 1 := by
  have hs : signE l (b + 1) = b + 1 := by
    unfold signE
    rw [if_neg]
    unfold isD at hd
    simp at hd ⊢
    omega
  unfold expoE; rw [hs, h, hd]; rfl
theorem expo_sgn {l : List UInt8} {b : Nat} (h : ((bAt l b).toNat == 101) = true) (hp : ((bAt l (b + 1)).toNat == 43) = true ∨ ((bAt l (b + 1)).toNat == 45) = true) (hd : isD (bAt l (b + 2)) = true) : expoE l b = b + 2 := by
  have hs : signE l (b + 1) = b + 2 := by
    unfold signE
    rw [if_pos]
    rcases hp with h | h <;> rw [h] <;> simp
  unfold expoE; rw [hs, h, hd]; rfl
theorem expo_sgn_no {l : List UInt8} {b : Nat} (hp : ((bAt l (b + 1)).toNat == 43) = true ∨ ((bAt l (b + 1)).toNat == 45) = true) (hd : isD (bAt l (b + 2)) = false) : expoE l b = 0 := by
  have hs : signE l (b + 1) = b + 2 := by
    unfold signE
    rw [if_pos]
    rcases hp with h | h <;> rw [h] <;> simp
  unfold expoE; rw [hs, hd, Bool.and_false]; rfl
theorem expo_neither {l : List UInt8} {b : Nat} (h1 : ((bAt l (b + 1)).toNat == 43) = false) (h2 : ((bAt l (b + 1)).toNat == 45) = false) (hd : isD (bAt l (b + 1)) = false) : expoE l b = 0 := by
  have hs : signE l (b + 1) = b + 1 := by
    unfold signE
    rw [if_neg]
    rw [h1, h2]; simp
  unfold expoE; rw [hs, hd, Bool.and_false]; rfl

theorem ends_of {l : List UInt8} {b d f e : Nat} (h : expoE l b = e) (he : 0 < e) (H : Hid (d = endR l b ∧ f = fromR l b)) : d = rEnd isD l e ∧ f = e := by
  obtain ⟨h1, h2⟩ := H.out
  unfold endR at h1; unfold fromR at h2
  rw [h, if_pos he] at h1 h2
  exact ⟨h1, h2⟩
theorem ends_no {l : List UInt8} {b d f : Nat} (h : expoE l b = 0) (H : Hid (d = endR l b ∧ f = fromR l b)) : d = b ∧ f = b := by
  obtain ⟨h1, h2⟩ := H.out
  unfold endR at h1; unfold fromR at h2
  rw [h, if_neg (by omega)] at h1 h2
  exact ⟨h1, h2⟩

set_option maxRecDepth 100000 in
set_option maxHeartbeats 4000000 in
theorem numberR_any (l : List UInt8) (k : Nat) (i : Int) (hi : i = (k : Int)) (w : World) (hl : l.length ≤ 1099511627776) (hk : k ≤ l.length) :
    Calls Tryd.prog 18 #[.string (mk l), .int .i64 i] w
      (Says (.tuple #[.int .i64 ((endR l (fracR l k) : Nat) : Int), .bool (okR l (fracR l k))]) w) := by
  subst hi
  have HIS : Hid (∀ (j c : Nat) (i c' : Int), i = (j : Int) → c' = (c : Int) → 0 < c → ∀ w, Calls Tryd.prog 27 #[.string (mk l), .int .i64 i, .int .u8 c'] w fun e w' =>
      (e = .returned (.bool true) ∧ Hid (((bAt l j).toNat == c) = true) ∧ w = w') ∨ (e = .returned (.bool false) ∧ Hid (((bAt l j).toNat == c) = false) ∧ w = w')) := Lib.hid fun j c i c' h1 h2 h3 w => isR_two l j c h3 i c' h1 h2 w
  have HDG : Hid (∀ (j : Nat) (i : Int), i = (j : Int) → ∀ w, Calls Tryd.prog 17 #[.string (mk l), .int .i64 i] w fun e w' =>
      (e = .returned (.bool true) ∧ Hid (isD (bAt l j) = true) ∧ w = w') ∨ (e = .returned (.bool false) ∧ Hid (isD (bAt l j) = false) ∧ w = w')) := Lib.hid fun j i h w => digitR_two l j i h w
  have HDS : Hid (∀ (j : Nat) (i : Int), i = (j : Int) → j ≤ 2199023255552 → ∀ w, Calls Tryd.prog 28 #[.string (mk l), .int .i64 i] w (Says (.int .i64 ((rEnd isD l j : Nat) : Int)) w)) := Lib.hid fun j i h h2 w => digitsR_any l j i h w hl h2
  obtain ⟨n, hn⟩ : ∃ n, n = rEnd isD l k := ⟨_, rfl⟩
  have hnl : n ≤ l.length := by rw [hn]; exact rEnd_le _ _ _ hk
  obtain ⟨b, hb⟩ : ∃ b, b = fracR l k := ⟨_, rfl⟩
  have hbl : b ≤ l.length := by rw [hb]; exact fracR_le hk
  have hbn : b = fracE l n := by rw [hb, hn]; rfl
  have hnot : isD (bAt l (endR l b)) = false := by rw [hb]; exact endR_not l k
  rw [← hb]
  obtain ⟨d, hd⟩ : ∃ d, d = endR l b := ⟨_, rfl⟩
  have hdl : d ≤ l.length := by rw [hd]; exact endR_le hbl
  obtain ⟨f, hf⟩ : ∃ f, f = fromR l b := ⟨_, rfl⟩
  have hfd : f ≤ d := by rw [hd, hf]; exact fromR_le
  have HOK : Hid (okR l b = (decide (d - f ≤ 4) && !isL (bAt l d) && !(bAt l d).toNat == 46)) := by rw [hd, hf]; exact Lib.hid rfl
  rw [← hd] at hnot ⊢
  have HF := Lib.hid (And.intro hd hf)
  have D0 : Hid (∀ w, Calls Tryd.prog 28 #[.string (mk l), .int .i64 (k : Int)] w (Says (.int .i64 (n : Int)) w)) := Lib.hid fun w => by rw [hn]; exact HDS.out k _ rfl (by omega) w
  have HBN := Lib.hid hbn
  have HNOT := Lib.hid hnot
  clear hn hb hbn hd hf hnot
  have hk0 : (0 : Int) ≤ (k : Int) := by omega
  have hn0 : (0 : Int) ≤ (n : Int) := by omega
  have hb0 : (0 : Int) ≤ (b : Int) := by omega
  go_enter Tryd.func18, Tryd.ntmps18
  go_upto_region 2 with (go_at_call 28; (with_reducible refine (D0.out _).mono ?_); rintro e w' ⟨rfl, rfl⟩)
  obtain ⟨Z, hZ⟩ : ∃ Z, Z = ((bAt l n).toNat == 46 && isD (bAt l (n + 1))) := ⟨_, rfl⟩
  have HZ := Lib.hid hZ
  clear hZ
  go_cut [18] from 7 (fun s18 wx => s18 = .bool Z ∧ w = wx)
  case first =>
    go_wp2_with (first
      | (go_at_call 27; (with_reducible refine (HIS.out (n) 46 _ _ (by omega) (by omega) (by omega) _).mono ?_); rintro e w' (⟨rfl, h46, rfl⟩ | ⟨rfl, h46, rfl⟩))
      | (go_at_call 17; (with_reducible refine (HDG.out (n + 1) _ (by omega) _).mono ?_); rintro e w' (⟨rfl, hd, rfl⟩ | ⟨rfl, hd, rfl⟩)))
    · go_meet; exact ⟨by rw [HZ.out, h46.out, hd.out]; rfl, rfl⟩
    · go_meet; exact ⟨by rw [HZ.out, h46.out, hd.out]; rfl, rfl⟩
    · go_meet; exact ⟨by rw [HZ.out, h46.out]; rfl, rfl⟩
  case rest =>
  obtain ⟨rfl, rfl⟩ := hcut
  go_upto_if 18 with fail
  go_cut [1] from 7 (fun s1 wx => s1 = .int .i64 (b : Int) ∧ w = wx)
  case first =>
    go_wp2_with (first
      | (go_at_call 28; (with_reducible refine (HDS.out (n + 1) _ (by omega) (by omega) _).mono ?_); rintro e w' ⟨rfl, rfl⟩))
    · have hz : Z = true := by assumption
      have e : b = rEnd isD l (n + 1) := by rw [HBN.out]; unfold fracE; rw [← HZ.out, if_pos hz]
      go_meet; exact ⟨by rw [e], rfl⟩
    · have hz : Z = false := by assumption
      have e : b = n := by rw [HBN.out]; unfold fracE; rw [← HZ.out, hz]; rfl
      go_meet; exact ⟨by rw [e], rfl⟩
  case rest =>
  obtain ⟨rfl, rfl⟩ := hcut
  go_upto_region 5 with fail
  obtain ⟨Y, hY⟩ : ∃ Y, Y = ((bAt l b).toNat == 101 && isD (bAt l (b + 1))) := ⟨_, rfl⟩
  have HY := Lib.hid hY
  clear hY
  go_cut [32] from 7 (fun s32 wx => s32 = .bool Y ∧ w = wx)
  case first =>
    go_wp2_with (first
      | (go_at_call 27; (with_reducible refine (HIS.out (b) 101 _ _ (by omega) (by omega) (by omega) _).mono ?_); rintro e w' (⟨rfl, h101, rfl⟩ | ⟨rfl, h101, rfl⟩))
      | (go_at_call 17; (with_reducible refine (HDG.out (b + 1) _ (by omega) _).mono ?_); rintro e w' (⟨rfl, hd1, rfl⟩ | ⟨rfl, hd1, rfl⟩)))
    · go_meet; exact ⟨by rw [HY.out, h101.out, hd1.out]; rfl, rfl⟩
    · go_meet; exact ⟨by rw [HY.out, h101.out, hd1.out]; rfl, rfl⟩
    · go_meet; exact ⟨by rw [HY.out, h101.out]; rfl, rfl⟩
  case rest =>
  obtain ⟨rfl, rfl⟩ := hcut
  go_upto_if 32 with fail
  go_cut [1, 6] from 7 (fun s1 s6 wx => s1 = .int .i64 (d : Int) ∧ s6 = .int .i64 (f : Int) ∧ w = wx)
  case first =>
    go_wp2_with (first
      | (go_at_call 27; (with_reducible refine (HIS.out (b) 101 _ _ (by omega) (by omega) (by omega) _).mono ?_); rintro e w' (⟨rfl, h101, rfl⟩ | ⟨rfl, h101, rfl⟩))
      | (go_at_call 27; (with_reducible refine (HIS.out (b + 1) 43 _ _ (by omega) (by omega) (by omega) _).mono ?_); rintro e w' (⟨rfl, h43, rfl⟩ | ⟨rfl, h43, rfl⟩))
      | (go_at_call 27; (with_reducible refine (HIS.out (b + 1) 45 _ _ (by omega) (by omega) (by omega) _).mono ?_); rintro e w' (⟨rfl, h45, rfl⟩ | ⟨rfl, h45, rfl⟩))
      | (go_at_call 17; (with_reducible refine (HDG.out (b + 2) _ (by omega) _).mono ?_); rintro e w' (⟨rfl, hd2, rfl⟩ | ⟨rfl, hd2, rfl⟩))
      | (go_at_call 28; (with_reducible refine (HDS.out (b + 1) _ (by omega) (by omega) _).mono ?_); rintro e w' ⟨rfl, rfl⟩)
      | (go_at_call 28; (with_reducible refine (HDS.out (b + 2) _ (by omega) (by omega) _).mono ?_); rintro e w' ⟨rfl, rfl⟩))
    · have hy : Y = true := by assumption
      have e := HY.out
      rw [hy] at e
      have e2 := (Bool.and_eq_true _ _ ▸ e.symm : ((bAt l b).toNat == 101) = true ∧ isD (bAt l (b + 1)) = true)
      obtain ⟨e3, e4⟩ := ends_of (expo_dig e2.1 e2.2) (by omega) HF
      go_meet; exact ⟨by rw [e3], by rw [e4]; go_num, rfl⟩
    · obtain ⟨e3, e4⟩ := ends_of (expo_sgn h101.out (.inl h43.out) hd2.out) (by omega) HF
      go_meet; exact ⟨by rw [e3], by rw [e4]; go_num, rfl⟩
    · obtain ⟨e3, e4⟩ := ends_no (expo_sgn_no (.inl h43.out) hd2.out) HF
      go_meet; exact ⟨by rw [e3], by rw [e4], rfl⟩
    · obtain ⟨e3, e4⟩ := ends_of (expo_sgn h101.out (.inr h45.out) hd2.out) (by omega) HF
      go_meet; exact ⟨by rw [e3], by rw [e4]; go_num, rfl⟩
    · obtain ⟨e3, e4⟩ := ends_no (expo_sgn_no (.inr h45.out) hd2.out) HF
      go_meet; exact ⟨by rw [e3], by rw [e4], rfl⟩
    · have hy : Y = false := by assumption
      have e := HY.out
      rw [hy, h101.out, Bool.true_and] at e
      obtain ⟨e3, e4⟩ := ends_no (expo_neither h43.out h45.out e.symm) HF
      go_meet; exact ⟨by rw [e3], by rw [e4], rfl⟩
    · obtain ⟨e3, e4⟩ := ends_no (expo_no h101.out) HF
      go_meet; exact ⟨by rw [e3], by rw [e4], rfl⟩
  case rest =>
  obtain ⟨rfl, rfl, rfl⟩ := hcut
  by_cases h4 : d - f ≤ 4
  · have h4' : ((d : Int) - (f : Int)) ≤ 4 := by omega
    go_wp2_with (first
      | (go_at_call 27; (with_reducible refine (HIS.out (d) 46 _ _ (by omega) (by omega) (by omega) _).mono ?_); rintro e w' (⟨rfl, h46, rfl⟩ | ⟨rfl, h46, rfl⟩))
      | (go_at_call 17; (with_reducible refine (HDG.out (d) _ (by omega) _).mono ?_); rintro e w' (⟨rfl, hd, rfl⟩ | ⟨rfl, hd, rfl⟩))
      | (go_at_call 16; (with_reducible refine (letterR_two l (d) _ (by omega) _).mono ?_); rintro e w' (⟨rfl, hz, rfl⟩ | ⟨rfl, hz, rfl⟩)))
    · go_ret2
      refine ⟨?_, rfl⟩
      rw [HOK.out, hz.out, Bool.not_true, Bool.and_false]; rfl
    · have := HNOT.out
      rw [hd.out] at this; cases this
    · go_ret2
      refine ⟨?_, rfl⟩
      rw [HOK.out, hz.out, h46.out, decide_eq_true h4]; rfl
    · go_ret2
      refine ⟨?_, rfl⟩
      rw [HOK.out, hz.out, h46.out, decide_eq_true h4]; rfl
  · have h4' : ¬ ((d : Int) - (f : Int)) ≤ 4 := by omega
    go_wp2_with fail
    go_ret2
    refine ⟨?_, rfl⟩
    rw [HOK.out, decide_eq_false h4]; rfl
end Go.Proofs.YtomcpgogiglpkaaDoor
