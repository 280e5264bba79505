/-
  LAYER 1: the document's ReadText.
-/
import Derived.Test.YtkabibbmaekkfaaNotchRefNum
namespace Go.Proofs.Ytkabibbmaekkfaa
open Go.RowKit

theorem rText_hit {l : List UInt8} {n : Int} (h : okNum l = true) (h1 : (numOf l : Int) ≤ n) (h2 : numOf l ≤ (numRest l).length) : rText l 1 n = ((numRest l).take (numOf l), (numRest l).drop (numOf l), 1) := by
  unfold rText
  rw [if_pos rfl, if_pos ⟨h, by omega, h1⟩, rTake_ok, if_pos h2]
theorem rText_miss {l : List UInt8} {n : Int} (h1 : n < (numOf l : Int) ∨ (numRest l).length < numOf l) : rText l 1 n = ([], [], 2) := by
  unfold rText
  rw [if_pos rfl]
  split
  · rename_i hh
    rw [rTake_ok, if_neg (by omega)]
  · rfl

set_option maxHeartbeats 1000000 in
/-- The reader is bad already. -/
theorem refReadText_dead (g : Nat) (n : Int) (w : World) (h : QD w g [] true) :
    Calls Try.prog 21 #[.pointer (some ⟨g, 0, none⟩), .int .i64 n] w fun e w' => e = .returned (.string (mk [])) ∧ QD w' g [] true ∧ w.grownBy w' (some g) := by
  have HX := Lib.hid (show rNum [] 1 = (0, [], 2) from rfl)
  go_enter Try.func21, Try.ntmps21
  go_wp2_with fail
  refine (refReadNum_any g [] true w h (by simp)).mono ?_
  rintro e w1 ⟨rfl, h1, g1⟩
  rw [HX.out] at h1
  rw [HX.out]
  have h1' : QD w1 g [] true := h1
  have hc := h1'.c1
  clear h1
  go_wp2_with fail
  go_ret
  exact ⟨rfl, h1', g1⟩

set_option maxHeartbeats 2000000 in
theorem refReadText_any (g : Nat) (l : List UInt8) (n : Int) (w : World) (h : QD w g l false) (hl : l.length ≤ 1099511627776) (hn : n ≤ 9223372036854775807) :
    Calls Try.prog 21 #[.pointer (some ⟨g, 0, none⟩), .int .i64 n] w (RefStr w g false (rText l 1 n)) := by
  by_cases hok : okNum l = true
  · have HX : Hid (rNum l 1 = (numOf l, numRest l, 1)) := Lib.hid (by simp [rNum, hok])
    have HOK := Lib.hid hok
    have hm64 := numOf_lt hok
    have hrl := numRest_length l
    clear hok
    go_enter Try.func21, Try.ntmps21
    go_wp2_with fail
    refine (refReadNum_any g l false w h hl).mono ?_
    rintro e w1 ⟨rfl, h1, g1⟩
    rw [HX.out] at h1
    rw [HX.out]
    have h1' : QD w1 g (numRest l) false := h1
    have hc0 := h1'.c0
    have hc1 := h1'.c1
    have hf := h1'.free 0
    clear h1 HX
    have HIT : Hid (∀ k, k = numOf l → (k : Int) ≤ n → k ≤ (numRest l).length → rText l 1 n = ((numRest l).take k, (numRest l).drop k, 1)) := Lib.hid (fun k e a b => by subst e; exact rText_hit HOK.out a b)
    have MISS : Hid ((n < (numOf l : Int) ∨ (numRest l).length < numOf l) → rText l 1 n = ([], [], 2)) := Lib.hid (fun a => rText_miss a)
    clear HOK
    go_wp2_with fail
    generalize numRest l = rest at *
    generalize numOf l = m at *
    go_loop [6] (fun k => ∃ i : Nat, i ≤ rest.length + 1 ∧ i ≤ m ∧ k = .int .i64 (i : Int)) (fun k => rest.length + 1 - (intOf k).toNat)
    case atStart => exact ⟨0, by omega, by omega, rfl⟩
    case round =>
      obtain ⟨i, hi, him, rfl⟩ := hrel
      have hsz : (mk rest).size ≤ 1099511627776 := by rw [mk_size]; omega
      have hi0 : (0 : Int) ≤ (i : Int) := by omega
      by_cases h1n : (i : Int) ≤ n
      · by_cases h2n : i ≤ rest.length
        · have h2I : (i : Int) ≤ (((mk rest).size : Nat) : Int) := by rw [mk_size]; omega
          have h2N : i ≤ (mk rest).size := by omega
          by_cases he : i = m
          · have heb : ((i : Int) == (m : Int)) = true := beq_iff_eq.2 (by omega)
            have HX := Lib.hid (HIT.out i he h1n h2n)
            have E1 := Lib.hid (show (mk rest).extract 0 i = mk (rest.take i) by rw [mk_extract]; simp)
            have E2 := Lib.hid (show (mk rest).extract i (mk rest).size = mk (rest.drop i) by rw [mk_extract, mk_size]; simp)
            clear he
            go_wp2_with fail
            go_ret
            rw [HX.out]
            exact ⟨by rw [← E1.out]; rfl, by rw [E2.out]; exact h1'.set0 _, grown_trans g1 (grown_set _ _ _ _)⟩
          · have heb : ((i : Int) == (m : Int)) = false := beq_eq_false_iff_ne.2 (by omega)
            have him' : i + 1 ≤ m := by omega
            clear he
            go_wp2_with fail
            go_round
            case rel => exact ⟨i + 1, by omega, him', by go_num⟩
            case measure => simp [intOf]; omega
        · have h2I : (((mk rest).size : Nat) : Int) < (i : Int) := by rw [mk_size]; omega
          have HX := Lib.hid (MISS.out (.inr (by omega)))
          go_wp2_with (go_at_call 32; refine (refSpoil_any g rest false _ h1').mono ?_; rintro e w2 ⟨rfl, hq2, g2⟩)
          go_ret
          rw [HX.out]
          exact ⟨rfl, hq2, grown_trans g1 g2⟩
      · have h1I : n < (i : Int) := by omega
        have HX := Lib.hid (MISS.out (.inl (by omega)))
        go_wp2_with (go_at_call 32; refine (refSpoil_any g rest false _ h1').mono ?_; rintro e w2 ⟨rfl, hq2, g2⟩)
        go_ret
        rw [HX.out]
        exact ⟨rfl, hq2, grown_trans g1 g2⟩
  · have hok' : okNum l = false := by simpa using hok
    have HX : Hid (rNum l 1 = (0, [], 2)) := Lib.hid (by simp [rNum, hok'])
    have HT : Hid (rText l 1 n = ([], [], 2)) := Lib.hid (by simp [rText, hok'])
    clear hok hok'
    go_enter Try.func21, Try.ntmps21
    go_wp2_with fail
    refine (refReadNum_any g l false w h hl).mono ?_
    rintro e w1 ⟨rfl, h1, g1⟩
    rw [HX.out] at h1
    rw [HX.out]
    have h1' : QD w1 g [] true := h1
    have hc := h1'.c1
    clear h1
    go_wp2_with fail
    go_ret
    rw [HT.out]
    exact ⟨rfl, h1', g1⟩
end Go.Proofs.Ytkabibbmaekkfaa
