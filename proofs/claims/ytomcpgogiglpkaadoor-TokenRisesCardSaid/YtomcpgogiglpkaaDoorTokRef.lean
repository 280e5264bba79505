/-
  LAYER 11: the document's answer: letters, digits, blanks, a byte at a place.
-/
import Derived.Test.YtomcpgogiglpkaaDoorTokEnds
namespace Go.Proofs.YtomcpgogiglpkaaDoor
open Go.RowKit

set_option maxHeartbeats 2000000 in
theorem letterR_any (l : List UInt8) (k : Nat) (w : World) :
    Calls Tryd.prog 16 #[.string (mk l), .int .i64 (k : Int)] w (Says (.bool (isL (bAt l k))) w) := by
  have HS := mk_size l
  have hk0 : (0 : Int) ≤ (k : Int) := by omega
  rcases Nat.lt_or_ge k l.length with h | h
  · have hk1 : (k : Int) < (l.length : Int) := by omega
    have hidx : (mk l)[k]'(by rw [mk_size]; exact h) = bAt l k := mk_get l k _
    have hb := (bAt l k).toNat_lt
    obtain ⟨n, hn⟩ : ∃ n, n = (bAt l k).toNat := ⟨_, rfl⟩
    have hidx2 : ((mk l)[k]'(by rw [mk_size]; exact h)).toNat = n := by rw [hidx, hn]
    have HL : Hid (isL (bAt l k) = ((decide (97 ≤ n) && decide (n ≤ 122)) || (decide (65 ≤ n) && decide (n ≤ 90)) || n == 95)) := by rw [hn]; exact Lib.hid rfl
    rw [← hn] at hb
    clear hn hidx
    rw [HL.out]
    clear HL
    refine byte_cases n hb _ ?_ ?_ ?_ ?_ ?_ ?_
    · intro h1 h2
      have g0 : (97 : Int) ≤ (n : Int) := by omega
      have g1 : (n : Int) ≤ 122 := by omega
      go_enter Tryd.func16, Tryd.ntmps16
      go_wp2
      go_ret
      exact ⟨by simp [*], rfl⟩
    · intro h1 h2 h3 h4
      have g0 : ¬ (97 : Int) ≤ (n : Int) := by omega
      have g1 : (65 : Int) ≤ (n : Int) := by omega
      have g2 : (n : Int) ≤ 90 := by omega
      go_enter Tryd.func16, Tryd.ntmps16
      go_wp2
      go_ret
      exact ⟨by simp [*], rfl⟩
    · intro h1
      have g0 : ¬ (97 : Int) ≤ (n : Int) := by omega
      have g1 : (65 : Int) ≤ (n : Int) := by omega
      have g2 : ¬ (n : Int) ≤ 90 := by omega
      go_enter Tryd.func16, Tryd.ntmps16
      go_wp2
      go_ret
      exact ⟨by simp [*], rfl⟩
    · intro h1 h2 h3 h4
      have g0 : ¬ (97 : Int) ≤ (n : Int) := by omega
      have g1 : (65 : Int) ≤ (n : Int) := by omega
      have g2 : ¬ (n : Int) ≤ 90 := by omega
      go_enter Tryd.func16, Tryd.ntmps16
      go_wp2
      go_ret
      exact ⟨by simp only [← beq_cast _ 95]; simp [*], rfl⟩
    · intro h1 h2 h3
      have g0 : ¬ (97 : Int) ≤ (n : Int) := by omega
      have g1 : ¬ (65 : Int) ≤ (n : Int) := by omega
      go_enter Tryd.func16, Tryd.ntmps16
      go_wp2
      go_ret
      exact ⟨by simp only [← beq_cast _ 95]; simp [*], rfl⟩
    · intro h1 h2 h3 h4 h5
      have g0 : (97 : Int) ≤ (n : Int) := by omega
      have g1 : ¬ (n : Int) ≤ 122 := by omega
      have g2 : (65 : Int) ≤ (n : Int) := by omega
      have g3 : ¬ (n : Int) ≤ 90 := by omega
      go_enter Tryd.func16, Tryd.ntmps16
      go_wp2
      go_ret
      exact ⟨by simp only [← beq_cast _ 95]; simp [*], rfl⟩
  · have hk1 : ¬ (k : Int) < (l.length : Int) := by omega
    have HB : Hid (isL (bAt l k) = false) := by rw [bAt_ge h]; exact Lib.hid rfl
    go_enter Tryd.func16, Tryd.ntmps16
    go_wp2
    go_ret
    exact ⟨by rw [HB.out]; rfl, rfl⟩

set_option maxHeartbeats 2000000 in
theorem digitR_any (l : List UInt8) (k : Nat) (w : World) :
    Calls Tryd.prog 17 #[.string (mk l), .int .i64 (k : Int)] w (Says (.bool (isD (bAt l k))) w) := by
  have HS := mk_size l
  have hk0 : (0 : Int) ≤ (k : Int) := by omega
  rcases Nat.lt_or_ge k l.length with h | h
  · have hk1 : (k : Int) < (l.length : Int) := by omega
    have hidx : (mk l)[k]'(by rw [mk_size]; exact h) = bAt l k := mk_get l k _
    have hb := (bAt l k).toNat_lt
    obtain ⟨n, hn⟩ : ∃ n, n = (bAt l k).toNat := ⟨_, rfl⟩
    have hidx2 : ((mk l)[k]'(by rw [mk_size]; exact h)).toNat = n := by rw [hidx, hn]
    have HL : Hid (isD (bAt l k) = (decide (48 ≤ n) && decide (n ≤ 57))) := by rw [hn]; exact Lib.hid rfl
    rw [← hn] at hb
    clear hn hidx
    rw [HL.out]
    clear HL
    by_cases h1 : 48 ≤ n
    · have g1 : (48 : Int) ≤ (n : Int) := by omega
      by_cases h2 : n ≤ 57
      · have g2 : (n : Int) ≤ 57 := by omega
        go_enter Tryd.func17, Tryd.ntmps17
        go_wp2
        go_ret
        exact ⟨by simp [*], rfl⟩
      · have g2 : ¬ (n : Int) ≤ 57 := by omega
        go_enter Tryd.func17, Tryd.ntmps17
        go_wp2
        go_ret
        exact ⟨by simp [*], rfl⟩
    · have g1 : ¬ (48 : Int) ≤ (n : Int) := by omega
      go_enter Tryd.func17, Tryd.ntmps17
      go_wp2
      go_ret
      exact ⟨by simp [*], rfl⟩
  · have hk1 : ¬ (k : Int) < (l.length : Int) := by omega
    have HB : Hid (isD (bAt l k) = false) := by rw [bAt_ge h]; exact Lib.hid rfl
    go_enter Tryd.func17, Tryd.ntmps17
    go_wp2
    go_ret
    exact ⟨by rw [HB.out]; rfl, rfl⟩

set_option maxHeartbeats 2000000 in
theorem blankR_any (l : List UInt8) (k : Nat) (w : World) :
    Calls Tryd.prog 26 #[.string (mk l), .int .i64 (k : Int)] w (Says (.bool (isB (bAt l k))) w) := by
  have HS := mk_size l
  have hk0 : (0 : Int) ≤ (k : Int) := by omega
  rcases Nat.lt_or_ge k l.length with h | h
  · have hk1 : (k : Int) < (l.length : Int) := by omega
    have hidx : (mk l)[k]'(by rw [mk_size]; exact h) = bAt l k := mk_get l k _
    have hb := (bAt l k).toNat_lt
    obtain ⟨n, hn⟩ : ∃ n, n = (bAt l k).toNat := ⟨_, rfl⟩
    have hidx2 : ((mk l)[k]'(by rw [mk_size]; exact h)).toNat = n := by rw [hidx, hn]
    have HL : Hid (isB (bAt l k) = (n == 32 || n == 9 || n == 10 || n == 13)) := by rw [hn]; exact Lib.hid rfl
    rw [← hn] at hb
    clear hn hidx
    rw [HL.out]
    clear HL
    by_cases h0 : n = 32
    · subst h0
      go_enter Tryd.func26, Tryd.ntmps26
      go_wp2
      go_ret
      exact ⟨by simp, rfl⟩
    by_cases h1 : n = 9
    · subst h1
      go_enter Tryd.func26, Tryd.ntmps26
      go_wp2
      go_ret
      exact ⟨by simp, rfl⟩
    by_cases h2 : n = 10
    · subst h2
      go_enter Tryd.func26, Tryd.ntmps26
      go_wp2
      go_ret
      exact ⟨by simp, rfl⟩
    by_cases h3 : n = 13
    · subst h3
      go_enter Tryd.func26, Tryd.ntmps26
      go_wp2
      go_ret
      exact ⟨by simp, rfl⟩
    have g0 : ¬ (n : Int) = 32 := by omega
    have g1 : ¬ (n : Int) = 9 := by omega
    have g2 : ¬ (n : Int) = 10 := by omega
    have g3 : ¬ (n : Int) = 13 := by omega
    go_enter Tryd.func26, Tryd.ntmps26
    go_wp2
    go_ret
    exact ⟨by simp [← beq_cast], rfl⟩
  · have hk1 : ¬ (k : Int) < (l.length : Int) := by omega
    have HB : Hid (isB (bAt l k) = false) := by rw [bAt_ge h]; exact Lib.hid rfl
    go_enter Tryd.func26, Tryd.ntmps26
    go_wp2
    go_ret
    exact ⟨by rw [HB.out]; rfl, rfl⟩

/-- Is that byte there? -/
def isAt (l : List UInt8) (k c : Nat) : Bool := decide (k < l.length) && (bAt l k).toNat == c
theorem isAt_of {l : List UInt8} {k c : Nat} (hc : 0 < c) : isAt l k c = ((bAt l k).toNat == c) := by
  unfold isAt
  rcases Nat.lt_or_ge k l.length with h | h
  · simp [h]
  · have : ¬ k < l.length := by omega
    rw [bAt_ge h]
    simp only [this, decide_false, Bool.false_and]
    symm
    simp; omega
set_option maxHeartbeats 2000000 in
theorem isR_any (l : List UInt8) (k c : Nat) (w : World) :
    Calls Tryd.prog 27 #[.string (mk l), .int .i64 (k : Int), .int .u8 (c : Int)] w (Says (.bool (isAt l k c)) w) := by
  have HS := mk_size l
  have hk0 : (0 : Int) ≤ (k : Int) := by omega
  rcases Nat.lt_or_ge k l.length with h | h
  · have hk1 : (k : Int) < (l.length : Int) := by omega
    have hidx : (mk l)[k]'(by rw [mk_size]; exact h) = bAt l k := mk_get l k _
    have hb := (bAt l k).toNat_lt
    obtain ⟨n, hn⟩ : ∃ n, n = (bAt l k).toNat := ⟨_, rfl⟩
    have hidx2 : ((mk l)[k]'(by rw [mk_size]; exact h)).toNat = n := by rw [hidx, hn]
    have HL : Hid (isAt l k c = (n == c)) := by unfold isAt; rw [hn, decide_eq_true h]; exact Lib.hid rfl
    clear hn hidx hb
    rw [HL.out]
    clear HL
    go_enter Tryd.func27, Tryd.ntmps27
    go_wp2
    go_ret
    exact ⟨by rw [← beq_cast]; rfl, rfl⟩
  · have hk1 : ¬ (k : Int) < (l.length : Int) := by omega
    have HB : Hid (isAt l k c = false) := by
      unfold isAt
      have : ¬ k < l.length := by omega
      simp [this]; exact Lib.hid trivial
    go_enter Tryd.func27, Tryd.ntmps27
    go_wp2
    go_ret
    exact ⟨by rw [HB.out]; rfl, rfl⟩
end Go.Proofs.YtomcpgogiglpkaaDoor
