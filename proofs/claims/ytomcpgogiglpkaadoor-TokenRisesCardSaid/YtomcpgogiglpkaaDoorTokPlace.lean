/-
  LAYER 11: Place: the program's, and the document's.
-/
import Derived.Test.YtomcpgogiglpkaaDoorTokTrim
namespace Go.Proofs.YtomcpgogiglpkaaDoor
open Go.RowKit

/-- The line, and the column, behind k bytes. -/
def posn (l : List UInt8) : Nat → Nat × Nat
  | 0 => (1, 1)
  | k + 1 => if (bAt l k).toNat = 10 then ((posn l k).1 + 1, 1) else ((posn l k).1, (posn l k).2 + 1)

theorem take_snoc {l : List UInt8} {k : Nat} (h : k < l.length) : l.take (k + 1) = l.take k ++ [bAt l k] := by
  rw [bAt_lt h, List.take_succ_eq_append_getElem h]
theorem mk_at {l : List UInt8} {k : Nat} (h : k < l.length) : (mk l).data[k]! = bAt l k := by
  rw [bAt_lt h]; simp [mk, h]
theorem posn_is (l : List UInt8) (K : Nat) (hK : K ≤ l.length) : ∀ k, k ≤ K → (posn l k).1 = 1 + (l.take k).count 10 ∧ ((posn l k).2 : Int) = (k : Int) - Go.Lib.lastIdx (mk (l.take K)) 10 k := by
  intro k
  induction k with
  | zero => intro _; simp [posn, Go.Lib.lastIdx]
  | succ k ih =>
    intro hk
    obtain ⟨h1, h2⟩ := ih (by omega)
    have hkl : k < l.length := by omega
    have hb : ((mk (l.take K)).data[k]!) = bAt l k := by
      rw [mk_at (by rw [List.length_take]; omega)]
      unfold bAt
      rw [List.getD_eq_getElem?_getD, List.getD_eq_getElem?_getD, List.getElem?_take, if_pos (by omega)]
    rw [take_snoc hkl, List.count_append, posn]
    by_cases h : (bAt l k).toNat = 10
    · have e : bAt l k = 10 := UInt8.toNat_inj.1 (by simpa using h)
      rw [if_pos h, Go.Lib.lastIdx_hit _ _ _ (by rw [hb, h]; rfl), e]
      refine ⟨?_, ?_⟩
      · rw [h1]; simp; omega
      · simp; omega
    · have e : ¬ bAt l k = 10 := fun e => h (by rw [e]; rfl)
      have e2 : (bAt l k == 10) = false := by simpa using e
      rw [if_neg h, Go.Lib.lastIdx_miss _ _ _ (by rw [hb]; omega)]
      refine ⟨?_, ?_⟩
      · rw [h1]; simp [List.count_cons, e2]
      · simp only [Int.natCast_add, Int.natCast_one]; omega

/-- Where a place counts as. -/
def clip (at' : Int) (n : Nat) : Nat := (min (max at' 0) (n : Int)).toNat
theorem clip_le (a : Int) (n : Nat) : clip a n ≤ n := by unfold clip; omega

/-- A line and a column. -/
def PlacePost (l : List UInt8) (at' : Int) (w : World) (e : Ending) (w' : World) : Prop :=
  e = .returned (.tuple #[.int .i64 (((posn l (clip at' l.length)).1 : Nat) : Int), .int .i64 (((posn l (clip at' l.length)).2 : Nat) : Int)]) ∧ w = w'

set_option maxHeartbeats 1000000 in
theorem place_any (l : List UInt8) (a : Int) (w : World) (hl : l.length ≤ 1099511627776) (h0 : -9223372036854775808 ≤ a) (h1 : a ≤ 9223372036854775807) :
    Calls Tryd.prog 12 #[.string (mk l), .int .i64 a] w (PlacePost l a w) := by
  obtain ⟨K, hK⟩ : ∃ K, K = clip a l.length := ⟨_, rfl⟩
  have hKl : K ≤ l.length := by rw [hK]; exact clip_le _ _
  have hmn : min (max a 0) (l.length : Int) = (K : Int) := by rw [hK]; unfold clip; omega
  obtain ⟨p1, p2⟩ := posn_is l K hKl K (Nat.le_refl _)
  have HP : Hid (PlacePost l a w = fun e w' => e = .returned (.tuple #[.int .i64 (((posn l K).1 : Nat) : Int), .int .i64 (((posn l K).2 : Nat) : Int)]) ∧ w = w') := by rw [hK]; exact Lib.hid rfl
  clear hK
  rw [HP.out]
  clear HP
  obtain ⟨X, hX⟩ : ∃ X, X = Go.Lib.lastIdx (mk (l.take K)) 10 K := ⟨_, rfl⟩
  obtain ⟨C, hC⟩ : ∃ C, C = (l.take K).count 10 := ⟨_, rfl⟩
  rw [← hC] at p1
  rw [← hX] at p2
  have hsK : (mk (l.take K)).size = K := by rw [mk_size, List.length_take]; omega
  have hX0 : -1 ≤ X ∧ X < (K : Int) ∨ X = -1 := by
    rcases Go.Lib.lastIdx_spec (mk (l.take K)) 10 K with ⟨e, _⟩ | ⟨i, hi, e, _⟩
    · right; rw [hX, e]
    · left; rw [hX, e]; omega
  have HCN : Hid (∀ w, Calls Tryd.prog 20 #[.string (mk (l.take K)), .string ⟨#[10]⟩] w fun e w' => e = .returned (.int .i64 (C : Int)) ∧ w' = w) := Lib.hid fun w => by
    have := Tryd.strings_Count_one (mk (l.take K)) 10 w
    rw [mk_toList, Lib.countByte, ← hC] at this
    exact this
  have HLX : Hid (∀ w, Calls Tryd.prog 21 #[.string (mk (l.take K)), .int .u8 10] w fun e w' => e = .returned (.int .i64 X) ∧ w' = w) := Lib.hid fun w => by
    have := Tryd.strings_LastIndexByte (mk (l.take K)) 10 (by rw [hsK]; omega) w
    rw [Lib.lastIndexByte, hsK, ← hX] at this
    exact this
  have hC1 : C ≤ K := by rw [hC]; have := List.count_le_length (a := (10 : UInt8)) (l := l.take K); rw [List.length_take] at this; omega
  have HP1 := Lib.hid p1
  have HP2 := Lib.hid p2
  clear p1 p2 hX hC
  have hE : (mk l).extract 0 K = mk (l.take K) := by rw [mk_extract]; rfl
  have hs := mk_size l
  have hXlo : -1 ≤ X := by omega
  have hXhi : X ≤ (K : Int) := by omega
  clear hX0
  go_enter Tryd.func12, Tryd.ntmps12
  go_wp2_with (first
    | (go_at_call 20; refine (HCN.out _).mono ?_; rintro e w' ⟨rfl, rfl⟩)
    | (go_at_call 21; refine (HLX.out _).mono ?_; rintro e w' ⟨rfl, rfl⟩))
  go_ret2
  refine ⟨?_, rfl⟩
  rw [HP1.out, HP2.out]
  simp

theorem posn_le (l : List UInt8) (k : Nat) : (posn l k).1 ≤ k + 1 ∧ (posn l k).2 ≤ k + 1 := by
  induction k with
  | zero => simp [posn]
  | succ k ih => unfold posn; split <;> simp <;> omega

set_option maxHeartbeats 1000000 in
theorem refPlace_any (l : List UInt8) (a : Int) (w : World) (hl : l.length ≤ 1099511627776) (h0 : -9223372036854775808 ≤ a) (h1 : a ≤ 9223372036854775807) :
    Calls Tryd.prog 13 #[.string (mk l), .int .i64 a] w (PlacePost l a w) := by
  have hs := mk_size l
  go_enter Tryd.func13, Tryd.ntmps13
  go_wp2_with fail
  go_loop [6, 7, 8] (fun p q i => ∃ k : Nat, k ≤ clip a l.length ∧ p = .int .i64 (((posn l k).1 : Nat) : Int) ∧ q = .int .i64 (((posn l k).2 : Nat) : Int) ∧ i = .int .i64 (k : Int)) (fun _ _ i => l.length - (intOf i).toNat)
  case atStart => exact ⟨0, Nat.zero_le _, rfl, rfl, rfl⟩
  case round =>
    obtain ⟨k, hk, rfl, rfl, rfl⟩ := hrel
    have hcl := clip_le a l.length
    have hp := posn_le l k
    by_cases hlt : k < clip a l.length
    · have g1 : (k : Int) < a := by unfold clip at hlt; omega
      have g2 : (k : Int) < (l.length : Int) := by omega
      have g0 : (0 : Int) ≤ (k : Int) := by omega
      have hkl : k < l.length := by omega
      have hidx : (mk l)[k]'(by rw [mk_size]; exact hkl) = bAt l k := mk_get l k _
      have HS : Hid (posn l (k + 1) = if (bAt l k).toNat = 10 then ((posn l k).1 + 1, 1) else ((posn l k).1, (posn l k).2 + 1)) := rfl
      obtain ⟨A, hA⟩ : ∃ A, A = (posn l k).1 := ⟨_, rfl⟩
      obtain ⟨B, hB⟩ : ∃ B, B = (posn l k).2 := ⟨_, rfl⟩
      rw [← hA, ← hB] at HS ⊢
      rw [← hA, ← hB] at hp
      have HL := Lib.hid hlt
      clear hA hB hlt hcl
      by_cases hn : (bAt l k).toNat = 10
      · have g3 : (((bAt l k).toNat : Int) == 10) = true := by rw [hn]; rfl
        rw [if_pos hn] at HS
        have HN := Lib.hid hn
        clear hn
        go_wp2_with fail
        go_round
        case rel => exact ⟨k + 1, HL.out, by rw [HS.out]; go_num, by rw [HS.out]; rfl, by go_num⟩
        case measure => simp [intOf]; omega
      · have g3 : (((bAt l k).toNat : Int) == 10) = false := by rw [beq_eq_false_iff_ne]; omega
        rw [if_neg hn] at HS
        have HN := Lib.hid hn
        clear hn
        go_wp2_with fail
        go_round
        case rel => exact ⟨k + 1, HL.out, by rw [HS.out], by rw [HS.out]; go_num, by go_num⟩
        case measure => simp [intOf]; omega
    · obtain rfl : k = clip a l.length := by omega
      have HL := Lib.hid hlt
      clear hlt
      obtain ⟨K, hK⟩ : ∃ K, K = clip a l.length := ⟨_, rfl⟩
      have hor : ¬ ((K : Int) < a) ∨ ((K : Int) < a ∧ ¬ ((K : Int) < (l.length : Int))) := by rw [hK]; unfold clip; omega
      obtain ⟨A, hA⟩ : ∃ A, A = (posn l (clip a l.length)).1 := ⟨_, rfl⟩
      obtain ⟨B, hB⟩ : ∃ B, B = (posn l (clip a l.length)).2 := ⟨_, rfl⟩
      rw [← hA, ← hB, ← hK]
      have HF := Lib.hid (And.intro hA hB)
      clear HL hK hk hcl hp hA hB
      rcases hor with g1 | ⟨g1, g2⟩
      · go_wp2_with fail
        go_ret2
        exact ⟨by rw [← HF.out.1, ← HF.out.2]; rfl, rfl⟩
      · go_wp2_with fail
        go_ret2
        exact ⟨by rw [← HF.out.1, ← HF.out.2]; rfl, rfl⟩
end Go.Proofs.YtomcpgogiglpkaaDoor
