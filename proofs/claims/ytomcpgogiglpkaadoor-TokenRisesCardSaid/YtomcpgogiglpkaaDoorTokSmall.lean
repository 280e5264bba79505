/-
  LAYER 11: the program's small calls: letters, digits, blanks, a byte at a place, where digits end, the next line.
-/
import Derived.Test.YtomcpgogiglpkaaDoorBase
import Derived.Test.YtomcpgogiglpkaaDoorTokMath
import Derived.Test.YtomcpgogiglpkaaDoorShelf
namespace Go.Proofs.YtomcpgogiglpkaaDoor
open Go.RowKit

/-- Equations between numbers, as the walks hold them. -/
theorem beq_cast (m n : Nat) : ((m : Int) == (n : Int)) = (m == n) := by rw [Bool.eq_iff_iff]; simp; omega
theorem mk_get (l : List UInt8) (k : Nat) (h : k < (mk l).size) : (mk l)[k] = bAt l k := by
  have h1 : k < l.length := by rw [mk_size] at h; exact h
  rw [bAt_lt h1]
  rfl

/-- A call that answers a value and leaves the world as it was. -/
def Says (v : Value) (w : World) (e : Ending) (w' : World) : Prop := e = .returned v ∧ w = w'

theorem isDigit_any (b : UInt8) (w : World) :
    Calls Tryd.prog 45 #[.int .u8 (b.toNat : Int)] w (Says (.bool (isD b)) w) := by
  have hb := b.toNat_lt
  unfold isD
  generalize b.toNat = n at *
  have h0 : (0 : Int) ≤ (n : Int) := by omega
  by_cases h1 : 48 ≤ n
  · have g1 : (48 : Int) ≤ (n : Int) := by omega
    by_cases h2 : n ≤ 57
    · have g2 : (n : Int) ≤ 57 := by omega
      go_enter Tryd.func45, Tryd.ntmps45
      go_wp2
      go_ret
      exact ⟨by simp [*], rfl⟩
    · have g2 : ¬ (n : Int) ≤ 57 := by omega
      go_enter Tryd.func45, Tryd.ntmps45
      go_wp2
      go_ret
      exact ⟨by simp [*], rfl⟩
  · have g1 : ¬ (48 : Int) ≤ (n : Int) := by omega
    go_enter Tryd.func45, Tryd.ntmps45
    go_wp2
    go_ret
    exact ⟨by simp [*], rfl⟩

/-- A byte is a small letter, a great one, an underscore, or none of them. -/
theorem byte_cases (n : Nat) (hn : n < 256) (p : Prop)
    (c1 : 97 ≤ n → n ≤ 122 → p) (c2 : ¬ 97 ≤ n → 65 ≤ n → n ≤ 90 → ¬ n = 95 → p) (c3 : n = 95 → p) (c4 : ¬ 97 ≤ n → 65 ≤ n → ¬ n ≤ 90 → ¬ n = 95 → p) (c5 : ¬ 97 ≤ n → ¬ 65 ≤ n → ¬ n = 95 → p) (c6 : 97 ≤ n → ¬ n ≤ 122 → 65 ≤ n → ¬ n ≤ 90 → ¬ n = 95 → p) : p := by
  by_cases h1 : 97 ≤ n
  · by_cases h2 : n ≤ 122
    · exact c1 h1 h2
    · exact c6 h1 h2 (by omega) (by omega) (by omega)
  · by_cases h2 : 65 ≤ n
    · by_cases h3 : n ≤ 90
      · exact c2 h1 h2 h3 (by omega)
      · by_cases h4 : n = 95
        · exact c3 h4
        · exact c4 h1 h2 h3 h4
    · exact c5 h1 h2 (by omega)

set_option maxHeartbeats 1000000 in
theorem isLetter_any (b : UInt8) (w : World) :
    Calls Tryd.prog 44 #[.int .u8 (b.toNat : Int)] w (Says (.bool (isL b)) w) := by
  have hb := b.toNat_lt
  unfold isL
  generalize b.toNat = n at *
  have h0 : (0 : Int) ≤ (n : Int) := by omega
  refine byte_cases n hb _ ?_ ?_ ?_ ?_ ?_ ?_
  · intro h1 h2
    have g1 : (97 : Int) ≤ (n : Int) := by omega
    have g2 : (n : Int) ≤ 122 := by omega
    go_enter Tryd.func44, Tryd.ntmps44
    go_wp2
    go_ret
    exact ⟨by simp [*], rfl⟩
  · intro h1 h2 h3 h4
    have g1 : ¬ (97 : Int) ≤ (n : Int) := by omega
    have g2 : (65 : Int) ≤ (n : Int) := by omega
    have g3 : (n : Int) ≤ 90 := by omega
    go_enter Tryd.func44, Tryd.ntmps44
    go_wp2
    go_ret
    exact ⟨by simp [*], rfl⟩
  · rintro rfl
    go_enter Tryd.func44, Tryd.ntmps44
    go_wp2
    go_ret
    exact ⟨by simp, rfl⟩
  · intro h1 h2 h3 h4
    have g1 : ¬ (97 : Int) ≤ (n : Int) := by omega
    have g2 : (65 : Int) ≤ (n : Int) := by omega
    have g3 : ¬ (n : Int) ≤ 90 := by omega
    have g4 : ¬ (n : Int) = 95 := by omega
    go_enter Tryd.func44, Tryd.ntmps44
    go_wp2
    go_ret
    exact ⟨by simp only [*]; simp [← beq_cast], rfl⟩
  · intro h1 h2 h3
    have g1 : ¬ (97 : Int) ≤ (n : Int) := by omega
    have g2 : ¬ (65 : Int) ≤ (n : Int) := by omega
    have g4 : ¬ (n : Int) = 95 := by omega
    go_enter Tryd.func44, Tryd.ntmps44
    go_wp2
    go_ret
    exact ⟨by simp only [*]; simp [← beq_cast], rfl⟩
  · intro h1 h2 h3 h4 h5
    have g1 : (97 : Int) ≤ (n : Int) := by omega
    have g2 : ¬ (n : Int) ≤ 122 := by omega
    have g3 : (65 : Int) ≤ (n : Int) := by omega
    have g5 : ¬ (n : Int) ≤ 90 := by omega
    have g4 : ¬ (n : Int) = 95 := by omega
    go_enter Tryd.func44, Tryd.ntmps44
    go_wp2
    go_ret
    exact ⟨by simp only [*]; simp [← beq_cast], rfl⟩

set_option maxHeartbeats 1000000 in
theorem isBlank_any (b : UInt8) (w : World) :
    Calls Tryd.prog 33 #[.int .u8 (b.toNat : Int)] w (Says (.bool (isB b)) w) := by
  have hb := b.toNat_lt
  unfold isB
  generalize b.toNat = n at *
  have h0 : (0 : Int) ≤ (n : Int) := by omega
  by_cases h1 : n = 32
  · subst h1
    go_enter Tryd.func33, Tryd.ntmps33
    go_wp2
    go_ret
    exact ⟨by simp, rfl⟩
  by_cases h2 : n = 9
  · subst h2
    go_enter Tryd.func33, Tryd.ntmps33
    go_wp2
    go_ret
    exact ⟨by simp, rfl⟩
  by_cases h3 : n = 10
  · subst h3
    go_enter Tryd.func33, Tryd.ntmps33
    go_wp2
    go_ret
    exact ⟨by simp, rfl⟩
  by_cases h4 : n = 13
  · subst h4
    go_enter Tryd.func33, Tryd.ntmps33
    go_wp2
    go_ret
    exact ⟨by simp, rfl⟩
  have g1 : ¬ (n : Int) = 32 := by omega
  have g2 : ¬ (n : Int) = 9 := by omega
  have g3 : ¬ (n : Int) = 10 := by omega
  have g4 : ¬ (n : Int) = 13 := by omega
  go_enter Tryd.func33, Tryd.ntmps33
  go_wp2
  go_ret
  exact ⟨by simp [← beq_cast], rfl⟩

set_option maxHeartbeats 1000000 in
theorem byteAt_any (l : List UInt8) (k : Nat) (i : Int) (hi : i = (k : Int)) (w : World) :
    Calls Tryd.prog 34 #[.string (mk l), .int .i64 i] w (Says (.int .u8 ((bAt l k).toNat : Int)) w) := by
  have HS := mk_size l
  subst hi
  rcases Nat.lt_or_ge k l.length with h | h
  · have HB := Lib.hid (bAt_lt h)
    have hk : ¬ ((l.length : Int) ≤ (k : Int)) := by omega
    have hk0 : (0 : Int) ≤ (k : Int) := by omega
    have hk1 : (k : Int) < (l.length : Int) := by omega
    go_enter Tryd.func34, Tryd.ntmps34
    go_wp2
    go_ret
    exact ⟨by rw [← mk_get l k (by rw [mk_size]; exact h)]; rfl, rfl⟩
  · have HB := Lib.hid (bAt_ge h)
    have hk : ((l.length : Int) ≤ (k : Int)) := by omega
    go_enter Tryd.func34, Tryd.ntmps34
    go_wp2
    go_ret
    exact ⟨by rw [HB.out]; rfl, rfl⟩
end Go.Proofs.YtomcpgogiglpkaaDoor
