/-
  LAYER 11: the program: where digits end; names, exponents, numbers.
-/
import Derived.Test.YtomcpgogiglpkaaDoorTokSmall
namespace Go.Proofs.YtomcpgogiglpkaaDoor
open Go.RowKit

theorem says_digit {b : UInt8} {z : Bool} (h : isD b = z) (w : World) : Calls Tryd.prog 45 #[.int .u8 (b.toNat : Int)] w (Says (.bool z) w) := by subst h; exact isDigit_any b w
theorem says_letter {b : UInt8} {z : Bool} (h : isL b = z) (w : World) : Calls Tryd.prog 44 #[.int .u8 (b.toNat : Int)] w (Says (.bool z) w) := by subst h; exact isLetter_any b w
theorem says_blank {b : UInt8} {z : Bool} (h : isB b = z) (w : World) : Calls Tryd.prog 33 #[.int .u8 (b.toNat : Int)] w (Says (.bool z) w) := by subst h; exact isBlank_any b w

set_option maxHeartbeats 1000000 in
theorem digitsEnd_any (l : List UInt8) (k : Nat) (i : Int) (hi : i = (k : Int)) (w : World) (hl : l.length ≤ 1099511627776) (hk : k ≤ 2199023255552) :
    Calls Tryd.prog 46 #[.string (mk l), .int .i64 i] w (Says (.int .i64 ((rEnd isD l k : Nat) : Int)) w) := by
  subst hi
  go_enter Tryd.func46, Tryd.ntmps46
  go_wp2_with fail
  go_loop [1] (fun i => ∃ j : Nat, i = .int .i64 (j : Int) ∧ rEnd isD l j = rEnd isD l k ∧ j ≤ 2199023255552) (fun i => l.length - (intOf i).toNat)
  case atStart => exact ⟨k, rfl, rfl, hk⟩
  case round =>
    obtain ⟨j, rfl, hj, hj2⟩ := hrel
    have HJ := Lib.hid hj
    clear hj
    have hj0 : (0 : Int) ≤ (j : Int) := by omega
    by_cases hd : isD (bAt l j) = true
    · have hlt := lt_of_holds isD_zero hd
      have hs := rEnd_step (p := isD) isD_zero hd
      have HD := Lib.hid hd
      have HN := Lib.hid hs
      clear hd hs
      go_wp2_with (first
        | (go_at_call 34; refine (byteAt_any l j _ rfl _).mono ?_; rintro e w' ⟨rfl, rfl⟩)
        | (go_at_call 45; refine (says_digit HD.out _).mono ?_; rintro e w' ⟨rfl, rfl⟩))
      go_round
      case rel => exact ⟨j + 1, by go_num, by rw [← HN.out]; exact HJ.out, by omega⟩
      case measure => simp [intOf]; omega
    · have hd' : isD (bAt l j) = false := by simpa using hd
      have hs := rEnd_stop (p := isD) hd'
      have HD := Lib.hid hd'
      have HN := Lib.hid hs
      clear hd hd' hs
      go_wp2_with (first
        | (go_at_call 34; refine (byteAt_any l j _ rfl _).mono ?_; rintro e w' ⟨rfl, rfl⟩)
        | (go_at_call 45; refine (says_digit HD.out _).mono ?_; rintro e w' ⟨rfl, rfl⟩))
      go_ret
      exact ⟨by rw [← HJ.out, HN.out]; rfl, rfl⟩

/-- A digit's arm, a letter's arm: either way. -/
theorem isDigit_two (b : UInt8) (w : World) : Calls Tryd.prog 45 #[.int .u8 (b.toNat : Int)] w fun e w' => (e = .returned (.bool true) ∧ Hid (isD b = true) ∧ w = w') ∨ (e = .returned (.bool false) ∧ Hid (isD b = false) ∧ w = w') := by
  refine (isDigit_any b w).mono ?_
  rintro e w' ⟨rfl, rfl⟩
  cases h : isD b
  · exact .inr ⟨rfl, Lib.hid rfl, rfl⟩
  · exact .inl ⟨rfl, Lib.hid rfl, rfl⟩
theorem isLetter_two (b : UInt8) (w : World) : Calls Tryd.prog 44 #[.int .u8 (b.toNat : Int)] w fun e w' => (e = .returned (.bool true) ∧ Hid (isL b = true) ∧ w = w') ∨ (e = .returned (.bool false) ∧ Hid (isL b = false) ∧ w = w') := by
  refine (isLetter_any b w).mono ?_
  rintro e w' ⟨rfl, rfl⟩
  cases h : isL b
  · exact .inr ⟨rfl, Lib.hid rfl, rfl⟩
  · exact .inl ⟨rfl, Lib.hid rfl, rfl⟩
theorem digitsEnd_to {l : List UInt8} {E : Nat} {k : Nat} (h : Hid (E = rEnd isD l k)) (i : Int) (hi : i = (k : Int)) (w : World) (hl : l.length ≤ 1099511627776) (hk : k ≤ 2199023255552) :
    Calls Tryd.prog 46 #[.string (mk l), .int .i64 i] w (Says (.int .i64 (E : Int)) w) := by
  rw [h.out]; exact digitsEnd_any l k i hi w hl hk

set_option maxHeartbeats 1000000 in
theorem name_any (l : List UInt8) (w : World) (hl : l.length ≤ 1099511627776) :
    Calls Tryd.prog 37 #[.string (mk l)] w (Says (.int .i64 ((nameL l : Nat) : Int)) w) := by
  have HN : Hid (nameL l = if isL (bAt l 0) && !(bAt l 0).toNat == 95 then rEnd isLD l 1 else 0) := rfl
  have hb := (bAt l 0).toNat_lt
  obtain ⟨q, hq⟩ : ∃ q : Bool, (((bAt l 0).toNat : Int) == 95) = q := ⟨_, rfl⟩
  have HQ : Hid (((bAt l 0).toNat == 95) = q) := by rw [← hq]; exact (beq_cast _ 95).symm
  cases q
  · go_enter Tryd.func37, Tryd.ntmps37
    go_wp2_with (first
      | (go_at_call 34; refine (byteAt_any l (0) _ (by rfl) _).mono ?_; rintro e w' ⟨rfl, rfl⟩)
      | (go_at_call 44; refine (isLetter_two _ _).mono ?_; rintro e w' (⟨rfl, hz, rfl⟩ | ⟨rfl, hz, rfl⟩)))
    · go_loop [3] (fun i => ∃ j : Nat, i = .int .i64 (j : Int) ∧ rEnd isLD l j = rEnd isLD l 1 ∧ j ≤ 2199023255552) (fun i => l.length - (intOf i).toNat)
      case atStart => exact ⟨1, rfl, rfl, by omega⟩
      case round =>
        obtain ⟨j, rfl, hj, hj2⟩ := hrel
        have HJ := Lib.hid hj
        clear hj
        have hj0 : (0 : Int) ≤ (j : Int) := by omega
        go_wp2_with (first
      | (go_at_call 34; refine (byteAt_any l (j) _ (by rfl) _).mono ?_; rintro e w' ⟨rfl, rfl⟩)
      | (go_at_call 44; refine (isLetter_two _ _).mono ?_; rintro e w' (⟨rfl, hz2, rfl⟩ | ⟨rfl, hz2, rfl⟩))
      | (go_at_call 45; refine (isDigit_two _ _).mono ?_; rintro e w' (⟨rfl, hd, rfl⟩ | ⟨rfl, hd, rfl⟩)))
        · have hp : isLD (bAt l j) = true := by unfold isLD; rw [hz2.out]; rfl
          have hlt := lt_of_holds isLD_zero hp
          have hs := rEnd_step (p := isLD) isLD_zero hp
          go_round
          case rel => exact ⟨j + 1, by go_num, by rw [← hs]; exact HJ.out, by omega⟩
          case measure => simp [intOf]; omega
        · have hp : isLD (bAt l j) = true := by unfold isLD; rw [hd.out, Bool.or_true]
          have hlt := lt_of_holds isLD_zero hp
          have hs := rEnd_step (p := isLD) isLD_zero hp
          go_round
          case rel => exact ⟨j + 1, by go_num, by rw [← hs]; exact HJ.out, by omega⟩
          case measure => simp [intOf]; omega
        · have hp : isLD (bAt l j) = false := by unfold isLD; rw [hz2.out, hd.out]; rfl
          go_ret
          refine ⟨?_, rfl⟩
          rw [HN.out, hz.out, HQ.out, if_pos (by rfl), ← HJ.out, rEnd_stop hp]
          rfl
    · go_ret
      refine ⟨?_, rfl⟩
      rw [HN.out, hz.out]; rfl
  · go_enter Tryd.func37, Tryd.ntmps37
    go_wp2_with (first
      | (go_at_call 34; refine (byteAt_any l (0) _ (by rfl) _).mono ?_; rintro e w' ⟨rfl, rfl⟩)
      | (go_at_call 44; refine (isLetter_two _ _).mono ?_; rintro e w' (⟨rfl, hz, rfl⟩ | ⟨rfl, hz, rfl⟩)))
    all_goals
      go_ret
      refine ⟨?_, rfl⟩
      rw [HN.out, hz.out, HQ.out]; rfl

set_option maxHeartbeats 1000000 in
theorem exponent_any (l : List UInt8) (k : Nat) (i : Int) (hi : i = (k : Int)) (w : World) (hk : k ≤ 1649267441664) :
    Calls Tryd.prog 47 #[.string (mk l), .int .i64 i] w (Says (.int .i64 ((expoE l k : Nat) : Int)) w) := by
  subst hi
  have HN : Hid (expoE l k = if (bAt l k).toNat == 101 && isD (bAt l (signE l (k + 1))) then signE l (k + 1) else 0) := rfl
  obtain ⟨q, hq⟩ : ∃ q : Bool, (((bAt l k).toNat : Int) == 101) = q := ⟨_, rfl⟩
  have HQ : Hid (((bAt l k).toNat == 101) = q) := by rw [← hq]; exact (beq_cast _ 101).symm
  have hk0 : (0 : Int) ≤ (k : Int) := by omega
  have hn : ∀ a b : Int, (a != b) = !(a == b) := fun _ _ => rfl
  cases q
  · have hq' : (((bAt l k).toNat : Int) != 101) = true := by rw [hn, hq]; rfl
    have HH := Lib.hid hn
    clear hn
    go_enter Tryd.func47, Tryd.ntmps47
    go_wp2_with (first
      | (go_at_call 34; refine (byteAt_any l (k) _ (by rfl) _).mono ?_; rintro e w' ⟨rfl, rfl⟩))
    go_ret
    refine ⟨?_, rfl⟩
    rw [HN.out, HQ.out]; rfl
  · have hq' : (((bAt l k).toNat : Int) != 101) = false := by rw [hn, hq]; rfl
    have HH := Lib.hid hn
    clear hn
    obtain ⟨q1, hq1⟩ : ∃ q : Bool, (((bAt l (k + 1)).toNat : Int) == 43) = q := ⟨_, rfl⟩
    have HQ1 : Hid (((bAt l (k + 1)).toNat == 43) = q1) := by rw [← hq1]; exact (beq_cast _ 43).symm
    obtain ⟨q2, hq2⟩ : ∃ q : Bool, (((bAt l (k + 1)).toNat : Int) == 45) = q := ⟨_, rfl⟩
    have HQ2 : Hid (((bAt l (k + 1)).toNat == 45) = q2) := by rw [← hq2]; exact (beq_cast _ 45).symm
    have HS : Hid (signE l (k + 1) = if (bAt l (k + 1)).toNat == 43 || (bAt l (k + 1)).toNat == 45 then k + 1 + 1 else k + 1) := rfl
    cases q1
    · cases q2
      · go_enter Tryd.func47, Tryd.ntmps47
        go_wp2_with (first
      | (go_at_call 34; refine (byteAt_any l (k) _ (by rfl) _).mono ?_; rintro e w' ⟨rfl, rfl⟩)
      | (go_at_call 34; refine (byteAt_any l (k + 1) _ (by omega) _).mono ?_; rintro e w' ⟨rfl, rfl⟩)
      | (go_at_call 34; refine (byteAt_any l (k + 1 + 1) _ (by omega) _).mono ?_; rintro e w' ⟨rfl, rfl⟩)
      | (go_at_call 45; refine (isDigit_two _ _).mono ?_; rintro e w' (⟨rfl, hd, rfl⟩ | ⟨rfl, hd, rfl⟩)))
        all_goals
          go_ret
          refine ⟨?_, rfl⟩
          rw [HN.out, HQ.out, HS.out, HQ1.out, HQ2.out]
          simp only [Bool.or_self, Bool.false_eq_true, if_false, hd.out, Bool.and_true, Bool.and_false, if_true]
          first | rfl | (simp; done)
      · go_enter Tryd.func47, Tryd.ntmps47
        go_wp2_with (first
      | (go_at_call 34; refine (byteAt_any l (k) _ (by rfl) _).mono ?_; rintro e w' ⟨rfl, rfl⟩)
      | (go_at_call 34; refine (byteAt_any l (k + 1) _ (by omega) _).mono ?_; rintro e w' ⟨rfl, rfl⟩)
      | (go_at_call 34; refine (byteAt_any l (k + 1 + 1) _ (by omega) _).mono ?_; rintro e w' ⟨rfl, rfl⟩)
      | (go_at_call 45; refine (isDigit_two _ _).mono ?_; rintro e w' (⟨rfl, hd, rfl⟩ | ⟨rfl, hd, rfl⟩)))
        all_goals
          go_ret
          refine ⟨?_, rfl⟩
          rw [HN.out, HQ.out, HS.out, HQ1.out, HQ2.out]
          simp only [Bool.or_true, Bool.false_eq_true, if_false, hd.out, Bool.and_true, Bool.and_false, if_true]
          first | rfl | (simp; omega)
    · go_enter Tryd.func47, Tryd.ntmps47
      go_wp2_with (first
      | (go_at_call 34; refine (byteAt_any l (k) _ (by rfl) _).mono ?_; rintro e w' ⟨rfl, rfl⟩)
      | (go_at_call 34; refine (byteAt_any l (k + 1) _ (by omega) _).mono ?_; rintro e w' ⟨rfl, rfl⟩)
      | (go_at_call 34; refine (byteAt_any l (k + 1 + 1) _ (by omega) _).mono ?_; rintro e w' ⟨rfl, rfl⟩)
      | (go_at_call 45; refine (isDigit_two _ _).mono ?_; rintro e w' (⟨rfl, hd, rfl⟩ | ⟨rfl, hd, rfl⟩)))
      all_goals
        go_ret
        refine ⟨?_, rfl⟩
        rw [HN.out, HQ.out, HS.out, HQ1.out]
        simp only [Bool.true_or, Bool.false_eq_true, if_false, hd.out, Bool.and_true, Bool.and_false, if_true]
        first | rfl | (simp; omega)
theorem exponent_to {l : List UInt8} {E : Nat} {k : Nat} (h : Hid (E = expoE l k)) (i : Int) (hi : i = (k : Int)) (w : World) (hk : k ≤ 1649267441664) :
    Calls Tryd.prog 47 #[.string (mk l), .int .i64 i] w (Says (.int .i64 (E : Int)) w) := by
  rw [h.out]; exact exponent_any l k i hi w hk

theorem num_a {X E d y z : Nat} (H : Hid (X = if 0 < E then (if 4 < d - E then 0 else y) else z)) (h1 : 0 < E) (h2 : 4 < (d : Int) - (E : Int)) : X = 0 := by
  rw [H.out, if_pos h1, if_pos (by omega)]
theorem num_b {X E d y z : Nat} (H : Hid (X = if 0 < E then (if 4 < d - E then 0 else y) else z)) (h1 : 0 < E) (h2 : (d : Int) - (E : Int) ≤ 4) : X = y := by
  rw [H.out, if_pos h1, if_neg (by omega)]
theorem num_c {X E d y z : Nat} (H : Hid (X = if 0 < E then (if 4 < d - E then 0 else y) else z)) (h1 : ¬ 0 < E) : X = z := by
  rw [H.out, if_neg h1]
theorem end_l {l : List UInt8} {x : Nat} (h : Hid (isL (bAt l x) = true)) : endE l x = 0 := by unfold endE; rw [h.out]; rfl
theorem end_dot {l : List UInt8} {x : Nat} (h : Hid (isL (bAt l x) = false)) (h2 : (((bAt l x).toNat : Int) == 46) = true) : endE l x = 0 := by
  unfold endE; rw [h.out, ← beq_cast _ 46]; exact if_pos h2
theorem end_ok {l : List UInt8} {x : Nat} (h : Hid (isL (bAt l x) = false)) (h2 : (((bAt l x).toNat : Int) == 46) = false) : endE l x = x := by
  unfold endE; rw [h.out, ← beq_cast _ 46]; exact if_neg (by rw [show ((46 : Nat) : Int) = 46 from rfl, h2]; simp)

set_option maxHeartbeats 4000000 in
theorem number_any (l : List UInt8) (w : World) (hl : l.length ≤ 1099511627776) :
    Calls Tryd.prog 38 #[.string (mk l)] w (Says (.int .i64 ((numL l : Nat) : Int)) w) := by
  have HN : Hid (numL l = if rEnd isD l 0 = 0 then 0 else tailE l (fracE l (rEnd isD l 0))) := rfl
  have hle := rEnd_le isD l 0 (Nat.zero_le _)
  obtain ⟨n, hn⟩ : ∃ n, n = rEnd isD l 0 := ⟨_, rfl⟩
  rw [← hn] at HN hle
  have HE := Lib.hid hn
  clear hn
  by_cases h0 : n = 0
  · subst h0
    go_enter Tryd.func38, Tryd.ntmps38
    go_wp2_with (first
      | (go_at_call 46; refine (digitsEnd_to HE _ (by omega) _ hl (by omega)).mono ?_; rintro e w' ⟨rfl, rfl⟩))
    go_ret
    refine ⟨?_, rfl⟩
    rw [HN.out]; rfl
  · have h0' : ¬ (n : Int) = 0 := by omega
    have hn0 : (0 : Int) ≤ (n : Int) := by omega
    rw [if_neg h0] at HN
    have HF : Hid (fracE l n = if (bAt l n).toNat == 46 && isD (bAt l (n + 1)) then rEnd isD l (n + 1) else n) := rfl
    obtain ⟨q, hq⟩ : ∃ q : Bool, (((bAt l n).toNat : Int) == 46) = q := ⟨_, rfl⟩
    have HQ : Hid (((bAt l n).toNat == 46) = q) := by rw [← hq]; exact (beq_cast _ 46).symm
    -- the two places where the fraction may end
    have fin : ∀ m : Nat, Hid (fracE l n = m) → m ≤ l.length → ∃ E d : Nat, Hid (E = expoE l m) ∧ Hid (d = rEnd isD l E) ∧ E ≤ l.length ∧ d ≤ l.length ∧ E ≤ d ∧
        Hid (numL l = if 0 < E then (if 4 < d - E then 0 else endE l d) else endE l m) := by
      intro m hm hml
      refine ⟨expoE l m, _, Lib.hid rfl, Lib.hid rfl, expoE_le l m, rEnd_le _ _ _ (expoE_le l m), rEnd_ge _ _ _, ?_⟩
      rw [hm.out] at HN
      exact HN
    have HFIN := Lib.hid fin
    clear fin
    cases q
    · have hfr : fracE l n = n := by rw [HF.out, HQ.out]; rfl
      obtain ⟨E, d, H1, H2, hE, hd, hEd, H3⟩ := HFIN.out n (Lib.hid hfr) hle
      clear hfr
      go_enter Tryd.func38, Tryd.ntmps38
      go_wp2_with (first
      | (go_at_call 46; refine (digitsEnd_to HE _ (by omega) _ hl (by omega)).mono ?_; rintro e w' ⟨rfl, rfl⟩)
      | (go_at_call 46; refine (digitsEnd_to H2 _ (by omega) _ hl (by omega)).mono ?_; rintro e w' ⟨rfl, rfl⟩)
      | (go_at_call 47; refine (exponent_to H1 _ (by omega) _ (by omega)).mono ?_; rintro e w' ⟨rfl, rfl⟩)
      | (go_at_call 34; refine (byteAt_any l (n) _ (by omega) _).mono ?_; rintro e w' ⟨rfl, rfl⟩)
      | (go_at_call 34; refine (byteAt_any l (d) _ (by omega) _).mono ?_; rintro e w' ⟨rfl, rfl⟩)
      | (go_at_call 44; refine (isLetter_two _ _).mono ?_; rintro e w' (⟨rfl, hz, rfl⟩ | ⟨rfl, hz, rfl⟩)))
      all_goals
        go_ret
        refine ⟨?_, rfl⟩
        first | (rw [num_a H3 (by assumption) (by assumption)]; rfl) | (rw [num_b H3 (by assumption) (by assumption), end_l hz]; rfl) | (rw [num_b H3 (by assumption) (by assumption), end_dot hz (by assumption)]; rfl) | (rw [num_b H3 (by assumption) (by assumption), end_ok hz (by assumption)]; rfl) | (rw [num_c H3 (by assumption), end_l hz]; rfl) | (rw [num_c H3 (by assumption), end_dot hz (by assumption)]; rfl) | (rw [num_c H3 (by assumption), end_ok hz (by assumption)]; rfl)
    · cases hdg : isD (bAt l (n + 1))
      · have hfr : fracE l n = n := by rw [HF.out, HQ.out, hdg]; rfl
        obtain ⟨E, d, H1, H2, hE, hd, hEd, H3⟩ := HFIN.out n (Lib.hid hfr) hle
        have HDG := Lib.hid hdg
        clear hfr hdg
        go_enter Tryd.func38, Tryd.ntmps38
        go_wp2_with (first
      | (go_at_call 46; refine (digitsEnd_to HE _ (by omega) _ hl (by omega)).mono ?_; rintro e w' ⟨rfl, rfl⟩)
      | (go_at_call 46; refine (digitsEnd_to H2 _ (by omega) _ hl (by omega)).mono ?_; rintro e w' ⟨rfl, rfl⟩)
      | (go_at_call 47; refine (exponent_to H1 _ (by omega) _ (by omega)).mono ?_; rintro e w' ⟨rfl, rfl⟩)
      | (go_at_call 34; refine (byteAt_any l (n) _ (by omega) _).mono ?_; rintro e w' ⟨rfl, rfl⟩)
      | (go_at_call 34; refine (byteAt_any l (n + 1) _ (by omega) _).mono ?_; rintro e w' ⟨rfl, rfl⟩)
      | (go_at_call 34; refine (byteAt_any l (d) _ (by omega) _).mono ?_; rintro e w' ⟨rfl, rfl⟩)
      | (go_at_call 44; refine (isLetter_two _ _).mono ?_; rintro e w' (⟨rfl, hz, rfl⟩ | ⟨rfl, hz, rfl⟩))
      | (go_at_call 45; refine (says_digit HDG.out _).mono ?_; rintro e w' ⟨rfl, rfl⟩))
        all_goals
          go_ret
          refine ⟨?_, rfl⟩
          first | (rw [num_a H3 (by assumption) (by assumption)]; rfl) | (rw [num_b H3 (by assumption) (by assumption), end_l hz]; rfl) | (rw [num_b H3 (by assumption) (by assumption), end_dot hz (by assumption)]; rfl) | (rw [num_b H3 (by assumption) (by assumption), end_ok hz (by assumption)]; rfl) | (rw [num_c H3 (by assumption), end_l hz]; rfl) | (rw [num_c H3 (by assumption), end_dot hz (by assumption)]; rfl) | (rw [num_c H3 (by assumption), end_ok hz (by assumption)]; rfl)
      · have hlt := lt_of_holds isD_zero hdg
        have hml := rEnd_le isD l (n + 1) (by omega)
        obtain ⟨m, hm⟩ : ∃ m, m = rEnd isD l (n + 1) := ⟨_, rfl⟩
        have hfr : fracE l n = m := by rw [HF.out, HQ.out, hdg, hm]; rfl
        rw [← hm] at hml
        have HM := Lib.hid hm
        clear hm
        obtain ⟨E, d, H1, H2, hE, hd, hEd, H3⟩ := HFIN.out m (Lib.hid hfr) hml
        have HDG := Lib.hid hdg
        clear hfr hdg
        go_enter Tryd.func38, Tryd.ntmps38
        go_wp2_with (first
      | (go_at_call 46; refine (digitsEnd_to HE _ (by omega) _ hl (by omega)).mono ?_; rintro e w' ⟨rfl, rfl⟩)
      | (go_at_call 46; refine (digitsEnd_to HM _ (by omega) _ hl (by omega)).mono ?_; rintro e w' ⟨rfl, rfl⟩)
      | (go_at_call 46; refine (digitsEnd_to H2 _ (by omega) _ hl (by omega)).mono ?_; rintro e w' ⟨rfl, rfl⟩)
      | (go_at_call 47; refine (exponent_to H1 _ (by omega) _ (by omega)).mono ?_; rintro e w' ⟨rfl, rfl⟩)
      | (go_at_call 34; refine (byteAt_any l (n) _ (by omega) _).mono ?_; rintro e w' ⟨rfl, rfl⟩)
      | (go_at_call 34; refine (byteAt_any l (n + 1) _ (by omega) _).mono ?_; rintro e w' ⟨rfl, rfl⟩)
      | (go_at_call 34; refine (byteAt_any l (m) _ (by omega) _).mono ?_; rintro e w' ⟨rfl, rfl⟩)
      | (go_at_call 34; refine (byteAt_any l (d) _ (by omega) _).mono ?_; rintro e w' ⟨rfl, rfl⟩)
      | (go_at_call 44; refine (isLetter_two _ _).mono ?_; rintro e w' (⟨rfl, hz, rfl⟩ | ⟨rfl, hz, rfl⟩))
      | (go_at_call 45; refine (says_digit HDG.out _).mono ?_; rintro e w' ⟨rfl, rfl⟩))
        all_goals
          go_ret
          refine ⟨?_, rfl⟩
          first | (rw [num_a H3 (by assumption) (by assumption)]; rfl) | (rw [num_b H3 (by assumption) (by assumption), end_l hz]; rfl) | (rw [num_b H3 (by assumption) (by assumption), end_dot hz (by assumption)]; rfl) | (rw [num_b H3 (by assumption) (by assumption), end_ok hz (by assumption)]; rfl) | (rw [num_c H3 (by assumption), end_l hz]; rfl) | (rw [num_c H3 (by assumption), end_dot hz (by assumption)]; rfl) | (rw [num_c H3 (by assumption), end_ok hz (by assumption)]; rfl)
end Go.Proofs.YtomcpgogiglpkaaDoor
