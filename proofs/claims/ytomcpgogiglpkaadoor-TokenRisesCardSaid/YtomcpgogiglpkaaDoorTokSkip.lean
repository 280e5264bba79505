/-
  LAYER 11: the document's answer: where digits end, blanks and remarks.
-/
import Derived.Test.YtomcpgogiglpkaaDoorTokRef
import Derived.Test.YtomcpgogiglpkaaDoorTokSign
import Derived.Deep.LoopGhost
namespace Go.Proofs.YtomcpgogiglpkaaDoor
open Go.RowKit

theorem digitR_two (l : List UInt8) (k : Nat) (i : Int) (hi : i = (k : Int)) (w : World) : Calls Tryd.prog 17 #[.string (mk l), .int .i64 i] w fun e w' => (e = .returned (.bool true) ∧ Hid (isD (bAt l k) = true) ∧ w = w') ∨ (e = .returned (.bool false) ∧ Hid (isD (bAt l k) = false) ∧ w = w') := by
  subst hi
  refine (digitR_any l k w).mono ?_
  rintro e w' ⟨rfl, rfl⟩
  cases h : isD (bAt l k)
  · exact .inr ⟨rfl, Lib.hid rfl, rfl⟩
  · exact .inl ⟨rfl, Lib.hid rfl, rfl⟩
theorem letterR_two (l : List UInt8) (k : Nat) (i : Int) (hi : i = (k : Int)) (w : World) : Calls Tryd.prog 16 #[.string (mk l), .int .i64 i] w fun e w' => (e = .returned (.bool true) ∧ Hid (isL (bAt l k) = true) ∧ w = w') ∨ (e = .returned (.bool false) ∧ Hid (isL (bAt l k) = false) ∧ w = w') := by
  subst hi
  refine (letterR_any l k w).mono ?_
  rintro e w' ⟨rfl, rfl⟩
  cases h : isL (bAt l k)
  · exact .inr ⟨rfl, Lib.hid rfl, rfl⟩
  · exact .inl ⟨rfl, Lib.hid rfl, rfl⟩
theorem blankR_two (l : List UInt8) (k : Nat) (i : Int) (hi : i = (k : Int)) (w : World) : Calls Tryd.prog 26 #[.string (mk l), .int .i64 i] w fun e w' => (e = .returned (.bool true) ∧ Hid (isB (bAt l k) = true) ∧ w = w') ∨ (e = .returned (.bool false) ∧ Hid (isB (bAt l k) = false) ∧ w = w') := by
  subst hi
  refine (blankR_any l k w).mono ?_
  rintro e w' ⟨rfl, rfl⟩
  cases h : isB (bAt l k)
  · exact .inr ⟨rfl, Lib.hid rfl, rfl⟩
  · exact .inl ⟨rfl, Lib.hid rfl, rfl⟩
theorem isR_two (l : List UInt8) (k c : Nat) (hc : 0 < c) (i j : Int) (hi : i = (k : Int)) (hj : j = (c : Int)) (w : World) : Calls Tryd.prog 27 #[.string (mk l), .int .i64 i, .int .u8 j] w fun e w' =>
    (e = .returned (.bool true) ∧ Hid (((bAt l k).toNat == c) = true) ∧ w = w') ∨ (e = .returned (.bool false) ∧ Hid (((bAt l k).toNat == c) = false) ∧ w = w') := by
  subst hi hj
  refine (isR_any l k c w).mono ?_
  rintro e w' ⟨rfl, rfl⟩
  rw [isAt_of hc]
  cases h : (bAt l k).toNat == c
  · exact .inr ⟨rfl, Lib.hid rfl, rfl⟩
  · exact .inl ⟨rfl, Lib.hid rfl, rfl⟩

set_option maxHeartbeats 1000000 in
theorem digitsR_any (l : List UInt8) (k : Nat) (i : Int) (hi : i = (k : Int)) (w : World) (hl : l.length ≤ 1099511627776) (hk : k ≤ 2199023255552) :
    Calls Tryd.prog 28 #[.string (mk l), .int .i64 i] w (Says (.int .i64 ((rEnd isD l k : Nat) : Int)) w) := by
  subst hi
  go_enter Tryd.func28, Tryd.ntmps28
  go_wp2_with fail
  go_loop [1] (fun i => ∃ j : Nat, i = .int .i64 (j : Int) ∧ rEnd isD l j = rEnd isD l k ∧ j ≤ 2199023255552) (fun i => l.length - (intOf i).toNat)
  case atStart => exact ⟨k, rfl, rfl, hk⟩
  case round =>
    obtain ⟨j, rfl, hj, hj2⟩ := hrel
    have HJ := Lib.hid hj
    clear hj
    have hj0 : (0 : Int) ≤ (j : Int) := by omega
    go_wp2_with (go_at_call 17; refine (digitR_two l j _ rfl _).mono ?_; rintro e w' (⟨rfl, hd, rfl⟩ | ⟨rfl, hd, rfl⟩))
    · have hlt := lt_of_holds isD_zero hd.out
      have hs := rEnd_step (p := isD) isD_zero hd.out
      go_round
      case rel => exact ⟨j + 1, by go_num, by rw [← hs]; exact HJ.out, by omega⟩
      case measure => simp [intOf]; omega
    · go_ret
      exact ⟨by rw [← HJ.out, rEnd_stop hd.out]; rfl, rfl⟩

/-- The place behind blanks and remarks. -/
def skp (l : List UInt8) (i : Nat) : Nat := l.length - (trm false (l.drop i)).length

theorem trm_cons_true {b : UInt8} {r : List UInt8} (h : ¬ b.toNat = 10) : trm true (b :: r) = trm true r := by
  conv => lhs; unfold trm
  rw [if_neg h]
theorem trm_rem {l : List UInt8} {k : Nat} (h : isB (bAt l k) = false) (h1 : ((bAt l k).toNat == 47) = true) (h2 : ((bAt l (k + 1)).toNat == 47) = true) : trm false (l.drop k) = trm true (l.drop k) := by
  have e1 : (bAt l k).toNat = 47 := by simpa using h1
  have e2 : (bAt l (k + 1)).toNat = 47 := by simpa using h2
  have hk : k < l.length := by
    rcases Nat.lt_or_ge k l.length with h | h
    · exact h
    · rw [bAt_ge h] at e1; simp at e1
  rw [drop_at hk, trm_cons_true (by omega)]
  conv => lhs; unfold trm
  rw [h, if_neg (by simp), if_pos ⟨e1, by rw [bAt_drop]; exact e2⟩]
theorem trm_end {l : List UInt8} {k : Nat} (h : isB (bAt l k) = false) (h1 : ((bAt l k).toNat == 47) = false ∨ ((bAt l (k + 1)).toNat == 47) = false) : trm false (l.drop k) = l.drop k := by
  rcases Nat.lt_or_ge k l.length with hk | hk
  · rw [drop_at hk]
    conv => lhs; unfold trm
    rw [h, if_neg (by simp), if_neg]
    rintro ⟨e1, e2⟩
    rw [bAt_drop] at e2
    rcases h1 with h1 | h1
    · rw [e1] at h1; simp at h1
    · have : (bAt l (k + 1)).toNat = 47 := e2
      rw [this] at h1; simp at h1
  · rw [List.drop_eq_nil_of_le hk]; rfl
theorem trm_stop_nl {l : List UInt8} {k : Nat} (h : l.length ≤ k ∨ (bAt l k).toNat = 10) : trm true (l.drop k) = trm false (l.drop k) := by
  rcases Nat.lt_or_ge k l.length with hk | hk
  · rcases h with h | h
    · omega
    · rw [drop_at hk]
      have e : bAt l k = 10 := UInt8.toNat_inj.1 (by simpa using h)
      rw [e]; rfl
  · rw [List.drop_eq_nil_of_le hk]; rfl

set_option maxHeartbeats 2000000 in
theorem skip_any (l : List UInt8) (k0 : Nat) (i : Int) (hi : i = (k0 : Int)) (w : World) (hl : l.length ≤ 1099511627776) (hk0 : k0 ≤ l.length) :
    Calls Tryd.prog 15 #[.string (mk l), .int .i64 i] w (Says (.int .i64 ((skp l k0 : Nat) : Int)) w) := by
  subst hi
  have hs := mk_size l
  go_enter Tryd.func15, Tryd.ntmps15
  go_wp2_with fail
  go_loop [1] (fun i => ∃ k : Nat, i = .int .i64 (k : Int) ∧ trm false (l.drop k) = trm false (l.drop k0) ∧ k ≤ l.length) (fun i => l.length - (intOf i).toNat)
  case atStart => exact ⟨k0, rfl, rfl, hk0⟩
  case round =>
    obtain ⟨k, rfl, hj, hk⟩ := hrel
    have HJ := Lib.hid hj
    clear hj
    have hk1 : (0 : Int) ≤ (k : Int) := by omega
    have HI : ∀ (j : Nat) (i : Int), i = (j : Int) → Hid (∀ w, Calls Tryd.prog 27 #[.string (mk l), .int .i64 i, .int .u8 47] w fun e w' =>
      (e = .returned (.bool true) ∧ Hid (((bAt l j).toNat == 47) = true) ∧ w = w') ∨ (e = .returned (.bool false) ∧ Hid (((bAt l j).toNat == 47) = false) ∧ w = w')) := fun j i h => Lib.hid fun w => isR_two l j 47 (by omega) i _ h rfl w
    have HI1 := HI k (k : Int) rfl
    have HI2 := HI (k + 1) ((k : Int) + 1) (by omega)
    clear HI
    go_wp2_with (first
      | (go_at_call 26; with_reducible refine (blankR_two l k _ rfl _).mono ?_; rintro e w' (⟨rfl, hb, rfl⟩ | ⟨rfl, hb, rfl⟩))
      | (go_at_call 27; with_reducible refine (HI1.out _).mono ?_; rintro e w' (⟨rfl, h1, rfl⟩ | ⟨rfl, h1, rfl⟩))
      | (go_at_call 27; with_reducible refine (HI2.out _).mono ?_; rintro e w' (⟨rfl, h2, rfl⟩ | ⟨rfl, h2, rfl⟩)))
    · have hlt := lt_of_holds isB_zero hb.out
      have ht := trm_drop (l := l.drop k) (by rw [bAt_drop]; exact hb.out)
      rw [List.drop_drop] at ht
      go_round
      case rel => exact ⟨k + 1, by go_num, by rw [ht]; exact HJ.out, by omega⟩
      case measure => simp [intOf]; omega
    · have hR := trm_rem hb.out h1.out h2.out
      have h47 : (bAt l k).toNat = 47 := by simpa using h1.out
      have HT : Hid (trm true (l.drop k) = trm false (l.drop k0)) := by rw [← hR]; exact HJ
      have H47 := Lib.hid h47
      clear hR h47
      go_loop [1] (fun i => ∃ q : Nat, i = .int .i64 (q : Int) ∧ k ≤ q ∧ q ≤ l.length ∧ trm true (l.drop q) = trm true (l.drop k)) (fun i => l.length - (intOf i).toNat)
      case atStart => exact ⟨k, rfl, Nat.le_refl _, hk, rfl⟩
      case round =>
        obtain ⟨q, rfl, hkq, hq, hqt⟩ := hrel
        have HQT := Lib.hid hqt
        clear hqt
        have hq0 : (0 : Int) ≤ (q : Int) := by omega
        by_cases hql : q < l.length
        · have hq1 : (q : Int) < (l.length : Int) := by omega
          have hidx : (mk l)[q]'(by rw [mk_size]; exact hql) = bAt l q := mk_get l q _
          by_cases hn : (bAt l q).toNat = 10
          · have hn1 : (((bAt l q).toNat : Int) != 10) = false := by rw [hn]; rfl
            have HN := Lib.hid hn
            clear hn
            go_wp2_with fail
            have h47 := H47.out
            have h10 := HN.out
            have hne : k ≠ q := by rintro rfl; omega
            have ht : trm false (l.drop q) = trm false (l.drop k0) := by rw [← trm_stop_nl (.inr h10), HQT.out]; exact HT.out
            go_round
            case rel => exact ⟨q, rfl, ht, hq⟩
            case measure => simp [intOf]; omega
          · have hn1 : (((bAt l q).toNat : Int) != 10) = true := by
              have : ((bAt l q).toNat : Int) ≠ 10 := by omega
              simpa using this
            have ht : trm true (l.drop (q + 1)) = trm true (l.drop k) := by
              rw [← HQT.out, drop_at hql, trm_cons_true hn]
            have HT2 := Lib.hid ht
            clear ht hn
            go_wp2_with fail
            go_round
            case rel => exact ⟨q + 1, by go_num, by omega, by omega, HT2.out⟩
            case measure => simp [intOf]; omega
        · have hq1 : ¬ (q : Int) < (l.length : Int) := by omega
          go_wp2_with fail
          have h47 := H47.out
          have hne : k ≠ q := by
            rintro rfl
            rw [bAt_ge (by omega)] at h47
            simp at h47
          have ht : trm false (l.drop q) = trm false (l.drop k0) := by rw [← trm_stop_nl (.inl (by omega)), HQT.out]; exact HT.out
          go_round
          case rel => exact ⟨q, rfl, ht, hq⟩
          case measure => simp [intOf]; omega
    · go_ret
      have := trm_end hb.out (.inr h2.out)
      refine ⟨?_, rfl⟩
      have e : skp l k0 = k := by
        unfold skp; rw [← HJ.out, this, List.length_drop]; omega
      rw [e]; rfl
    · go_ret
      have := trm_end hb.out (.inl h1.out)
      refine ⟨?_, rfl⟩
      have e : skp l k0 = k := by
        unfold skp; rw [← HJ.out, this, List.length_drop]; omega
      rw [e]; rfl
end Go.Proofs.YtomcpgogiglpkaaDoor
