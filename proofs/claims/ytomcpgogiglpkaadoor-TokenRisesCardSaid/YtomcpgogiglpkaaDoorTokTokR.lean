/-
  LAYER 11: the document's answer: what its ways say of the token at a place.
-/
import Derived.Test.YtomcpgogiglpkaaDoorTokNumR
import Derived.Test.YtomcpgogiglpkaaDoorTokSignR
namespace Go.Proofs.YtomcpgogiglpkaaDoor
open Go.RowKit

theorem trm_suffix (c : Bool) (l : List UInt8) : l.drop (l.length - (trm c l).length) = trm c l := by
  induction l generalizing c with
  | nil => cases c <;> rfl
  | cons b r ih =>
    have step : ∀ c', (b :: r).drop ((b :: r).length - (trm c' r).length) = trm c' r := fun c' => by
      have h1 := trm_len c' r
      rw [List.length_cons, show r.length + 1 - (trm c' r).length = (r.length - (trm c' r).length) + 1 by omega, List.drop_succ_cons]
      exact ih c'
    cases c
    · by_cases h : isB b = true
      · rw [trm_blank h]; exact step false
      · by_cases h2 : b.toNat = 47 ∧ (bAt r 0).toNat = 47
        · have e : trm false (b :: r) = trm true r := by
            conv => lhs; unfold trm
            rw [if_neg h, if_pos h2]
          rw [e]; exact step true
        · have e : trm false (b :: r) = b :: r := by
            conv => lhs; unfold trm
            rw [if_neg h, if_neg h2]
          rw [e, Nat.sub_self]; rfl
    · by_cases h : b.toNat = 10
      · have e : trm true (b :: r) = trm false r := by
          conv => lhs; unfold trm
          rw [if_pos h]
        rw [e]; exact step false
      · rw [trm_cons_true h]; exact step true
/-- The place of what is left. -/
def plc (l : List UInt8) (k : Nat) : Nat := l.length - (st l k).length
theorem st_drop (l : List UInt8) (k : Nat) (hk : k ≤ tkN l) : l.drop (plc l k) = st l k := by
  induction k with
  | zero => exact trm_suffix false l
  | succ k ih =>
    have h := ih (by omega)
    have h1 := st_len l k (by omega)
    have h2 := st_len l (k + 1) hk
    have h3 := tok_le (st l k)
    have h4 : (st l (k + 1)).length ≤ (st l k).length - (tok (st l k)).2 := by
      have := trm_len false ((st l k).drop (tok (st l k)).2)
      rw [List.length_drop] at this
      exact this
    have h5 := trm_suffix false ((st l k).drop (tok (st l k)).2)
    have e : st l (k + 1) = trm false ((st l k).drop (tok (st l k)).2) := rfl
    rw [← e] at h5
    rw [List.drop_drop, List.length_drop, ← h, List.drop_drop] at h5
    rw [h] at h5
    rw [← h5]
    congr 1
    unfold plc
    omega
theorem skp_next {l : List UInt8} {k : Nat} (hk : k ≤ tkN l) : skp l (plc l k + (tok (st l k)).2) = l.length - (nxt (st l k)).length := by
  unfold skp nxt
  rw [← st_drop l k hk, List.drop_drop, st_drop l k hk]

theorem rEnd_drop (p : UInt8 → Bool) (l : List UInt8) (i j : Nat) : rEnd p (l.drop i) j + i = rEnd p l (i + j) := by
  unfold rEnd; rw [List.drop_drop]; omega
theorem fracE_drop (l : List UInt8) (i m : Nat) : fracE (l.drop i) m + i = fracE l (i + m) := by
  unfold fracE
  rw [bAt_drop, bAt_drop, ← Nat.add_assoc]
  split
  · rw [rEnd_drop isD l i (m + 1), ← Nat.add_assoc]
  · omega
theorem signE_drop (l : List UInt8) (i m : Nat) : signE (l.drop i) m + i = signE l (i + m) := by
  unfold signE
  rw [bAt_drop]
  split <;> omega
theorem expoE_drop (l : List UInt8) (i m : Nat) : (expoE (l.drop i) m = 0 ∧ expoE l (i + m) = 0) ∨ (0 < expoE (l.drop i) m ∧ expoE (l.drop i) m + i = expoE l (i + m)) := by
  have hs := signE_drop l i (m + 1)
  unfold expoE
  rw [bAt_drop, bAt_drop, show i + signE (l.drop i) (m + 1) = signE l (i + m + 1) by rw [← Nat.add_assoc] at hs; omega]
  split
  · right
    refine ⟨?_, by rw [← Nat.add_assoc] at hs; exact hs⟩
    unfold signE; split <;> omega
  · left; exact ⟨rfl, rfl⟩

theorem digit_first {r : List UInt8} (h : isD (bAt r 0) = true) : 0 < rEnd isD r 0 := by
  rw [rEnd_step isD_zero h]
  have := rEnd_ge isD r (0 + 1)
  omega
theorem digit_not_letter {b : UInt8} (h : isD b = true) : isL b = false := by
  unfold isD at h
  simp at h
  unfold isL
  simp
  omega
theorem nameL_none {r : List UInt8} (h : (isL (bAt r 0) && !(bAt r 0).toNat == 95) = false) : nameL r = 0 := by unfold nameL; rw [h]; rfl
theorem nameL_some {r : List UInt8} (h : (isL (bAt r 0) && !(bAt r 0).toNat == 95) = true) : nameL r = rEnd isLD r 1 := by unfold nameL; rw [h]; rfl
theorem numL_none {r : List UInt8} (h : isD (bAt r 0) = false) : numL r = 0 := by unfold numL; rw [rEnd_stop h]; rfl
theorem sgn_none {r : List UInt8} (h : isD (bAt r 0) = true) : signL r = 0 := by
  have key : ∀ ss : List (List UInt8), (∀ s ∈ ss, ∃ c t, s = c :: t ∧ isD c = false) → sgn ss r = 0 := by
    intro ss
    induction ss with
    | nil => intro _; rfl
    | cons s ss ih =>
      intro hh
      obtain ⟨c, t, rfl, hc⟩ := hh s (by simp)
      have hp : Go.Lib.hasPrefix r (c :: t) = false := by
        cases hq : Go.Lib.hasPrefix r (c :: t)
        · rfl
        · match r, hq, h with
          | x :: r, hq, h =>
            simp [Go.Lib.hasPrefix] at hq
            have : bAt (x :: r) 0 = x := rfl
            rw [this, ← hq.1, hc] at h
            cases h
      show (if Go.Lib.hasPrefix r (c :: t) then _ else sgn ss r) = 0
      rw [hp]
      exact ih (fun s hs => hh s (by simp [hs]))
  refine key sgs ?_
  intro s hs
  simp only [sgs, List.mem_cons, List.not_mem_nil, or_false] at hs
  rcases hs with rfl | rfl | rfl | rfl | rfl | rfl | rfl | rfl | rfl | rfl | rfl | rfl | rfl | rfl | rfl | rfl | rfl | rfl | rfl | rfl | rfl | rfl <;> exact ⟨_, _, rfl, rfl⟩

/-- What is told of the token at place p: is it fine; its kind and its end if it is. -/
def Told (r : List UInt8) (p kd en : Nat) (ok : Bool) : Prop := (ok = true ∧ tok r = (kd, en - p) ∧ p < en ∧ kd ≠ 0) ∨ (ok = false ∧ tok r = (0, 0))

theorem told_name {l : List UInt8} {p : Nat} (h : (isL (bAt l p) && !(bAt l p).toNat == 95) = true) : Told (l.drop p) p 1 (rEnd isLD l p) true := by
  have h0 : (isL (bAt (l.drop p) 0) && !(bAt (l.drop p) 0).toNat == 95) = true := by rw [bAt_drop]; exact h
  have h1 := nameL_some h0
  have hl : isLD (bAt l p) = true := by
    unfold isLD
    simp only [Bool.and_eq_true] at h
    rw [h.1]; rfl
  have h2 := rEnd_drop isLD l p 1
  rw [← rEnd_step isLD_zero hl] at h2
  have h3 := rEnd_ge isLD (l.drop p) 1
  left
  refine ⟨rfl, ?_, by omega, by omega⟩
  unfold tok
  rw [if_pos (by omega), h1]
  congr 1
  omega
theorem told_sign {l : List UInt8} {p : Nat} (h : (isL (bAt l p) && !(bAt l p).toNat == 95) = false) (hd : isD (bAt l p) = false) :
    Told (l.drop p) p 3 (p + signL (l.drop p)) (decide (0 < signL (l.drop p))) := by
  have h0 : nameL (l.drop p) = 0 := nameL_none (by rw [bAt_drop]; exact h)
  have h1 : numL (l.drop p) = 0 := numL_none (by rw [bAt_drop]; exact hd)
  by_cases h2 : 0 < signL (l.drop p)
  · left
    refine ⟨by simpa using h2, ?_, by omega, by omega⟩
    unfold tok
    rw [h0, h1, if_neg (by omega), if_neg (by omega), if_pos h2]
    congr 1
    omega
  · right
    refine ⟨by simpa using h2, ?_⟩
    unfold tok
    rw [h0, h1, if_neg (by omega), if_neg (by omega), if_neg h2]
theorem told_number {l : List UInt8} {p : Nat} (hd : isD (bAt l p) = true) : Told (l.drop p) p 2 (endR l (fracR l p)) (okR l (fracR l p)) := by
  have h0 : isD (bAt (l.drop p) 0) = true := by rw [bAt_drop]; exact hd
  have hn : nameL (l.drop p) = 0 := nameL_none (by rw [digit_not_letter h0]; rfl)
  have hs := sgn_none h0
  have hr := digit_first h0
  have e1 := rEnd_drop isD l p 0
  rw [Nat.add_zero] at e1
  have e2 := fracE_drop l p (rEnd isD (l.drop p) 0)
  rw [show p + rEnd isD (l.drop p) 0 = rEnd isD l p by omega] at e2
  have hfr : fracR l p = fracE (l.drop p) (rEnd isD (l.drop p) 0) + p := e2.symm
  obtain ⟨b, hb⟩ : ∃ b, b = fracE (l.drop p) (rEnd isD (l.drop p) 0) := ⟨_, rfl⟩
  have hbp : 0 < b := by
    rw [hb]; unfold fracE
    split
    · have := rEnd_ge isD (l.drop p) (rEnd isD (l.drop p) 0 + 1); omega
    · exact hr
  have hnum : numL (l.drop p) = tailE (l.drop p) b := by unfold numL; rw [if_neg (by omega), hb]
  rw [← hb] at hfr
  rw [hfr, Nat.add_comm b p]
  have hend : ∀ x, 0 < x → endE (l.drop p) x = if isL (bAt l (p + x)) || (bAt l (p + x)).toNat == 46 then 0 else x := fun x _ => by
    unfold endE; rw [bAt_drop]
  -- the number's end, by what was read
  have fin : ∀ d f, 0 < d → tailE (l.drop p) b = (if 4 < d - f then 0 else endE (l.drop p) d) → endR l (p + b) = p + d → fromR l (p + b) = p + f →
      Told (l.drop p) p 2 (endR l (p + b)) (okR l (p + b)) := by
    intro d f hd0 ht h1 h2
    unfold okR
    rw [h1, h2]
    by_cases h4 : 4 < d - f
    · right
      rw [if_pos h4] at ht
      refine ⟨by rw [decide_eq_false (by omega)]; rfl, ?_⟩
      unfold tok
      rw [hn, hnum, ht, hs]; rfl
    · rw [if_neg h4, hend d hd0] at ht
      rw [decide_eq_true (by omega), Bool.true_and]
      cases hz : isL (bAt l (p + d)) <;> cases hq : (bAt l (p + d)).toNat == 46
      · left
        rw [hz, hq] at ht
        have ht' : tailE (l.drop p) b = d := ht
        refine ⟨rfl, ?_, by omega, by omega⟩
        unfold tok
        rw [hn, hnum, ht', if_neg (by omega), if_pos hd0, show p + d - p = d by omega]
      all_goals
        right
        rw [hz, hq] at ht
        have ht' : tailE (l.drop p) b = 0 := ht
        refine ⟨rfl, ?_⟩
        unfold tok
        rw [hn, hnum, ht', hs]; rfl
  rcases expoE_drop l p b with ⟨x1, x2⟩ | ⟨x1, x2⟩
  · refine fin b b hbp ?_ ?_ ?_
    · unfold tailE; rw [x1]; simp
    · unfold endR; rw [x2]; rfl
    · unfold fromR; rw [x2]; rfl
  · have e3 := rEnd_drop isD l p (expoE (l.drop p) b)
    rw [show p + expoE (l.drop p) b = expoE l (p + b) by omega] at e3
    have e4 := rEnd_ge isD (l.drop p) (expoE (l.drop p) b)
    refine fin (rEnd isD (l.drop p) (expoE (l.drop p) b)) (expoE (l.drop p) b) (by omega) ?_ ?_ ?_
    · unfold tailE; rw [if_pos x1]
    · unfold endR; rw [if_pos (by omega), ← e3, Nat.add_comm]
    · unfold fromR; rw [if_pos (by omega)]; omega
end Go.Proofs.YtomcpgogiglpkaaDoor
