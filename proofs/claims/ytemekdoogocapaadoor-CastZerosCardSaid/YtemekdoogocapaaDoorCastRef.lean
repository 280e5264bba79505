/-
  LAYER 2: the document's answer: its doubling, its digits, remainders, eight bytes, seals.
  (Numbers are Int letters in the walks: a cast of a Nat beside the prime's numeral stops them.)
-/
import Derived.Test.YtemekdoogocapaaDoorBase
import Derived.Test.YtemekdoogocapaaDoorCastMath
namespace Go.Proofs.YtemekdoogocapaaDoor
open Go.RowKit

/-- A remainder, as the walks hold it. -/
def Res (x : Int) (n : Nat) : Prop := x = (n : Int)
def InP (x : Int) : Prop := 0 ≤ x ∧ x ≤ 2305843009213693950
theorem inP_of {x : Int} {n : Nat} (h : Res x n) (hn : n < PR) : InP x := by unfold Res at h; rw [PR_eq] at hn; unfold InP; omega

def Num (w : World) (n : Nat) (e : Ending) (w' : World) : Prop := ∃ y : Int, Res y n ∧ e = .returned (.int .u64 y) ∧ w = w'

set_option maxHeartbeats 400000 in
theorem twice_any (x : Int) (n : Nat) (w : World) (hx : Res x n) (hn : n < PR) :
    Calls Tryd.prog 25 #[.int .u64 x] w (Num w (2 * n % PR)) := by
  obtain ⟨h0, h1⟩ := inP_of hx hn
  by_cases hc : x + x < 2305843009213693951
  · have HT : Hid (Res (x + x) (2 * n % PR)) := by
      unfold Res at hx; rw [PR_eq] at hn
      show x + x = _
      rw [PR_eq]; omega
    go_enter Tryd.func25, Tryd.ntmps25
    go_wp2
    go_ret
    exact ⟨_, HT.out, rfl, rfl⟩
  · have hc' : 2305843009213693951 ≤ x + x := by omega
    have HT : Hid (Res (x + x - 2305843009213693951) (2 * n % PR)) := by
      unfold Res at hx; rw [PR_eq] at hn
      show x + x - 2305843009213693951 = _
      rw [PR_eq]; omega
    clear hc
    go_enter Tryd.func25, Tryd.ntmps25
    go_wp2
    go_ret
    exact ⟨_, HT.out, rfl, rfl⟩

def DigRel (n : Nat) (r i : Value) : Prop := ∃ (k : Nat) (x : Int), k ≤ 8 ∧ i = .int .i64 (k : Int) ∧ r = .int .u64 x ∧ Res x (2 ^ k * n % PR)

theorem pr_lt (m : Nat) : m % PR < PR := Nat.mod_lt _ PR_pos
theorem pow_step (k n : Nat) : 2 * (2 ^ k * n % PR) % PR = 2 ^ (k + 1) * n % PR := by
  rw [Nat.pow_succ, Nat.mul_mod, Nat.mod_mod, ← Nat.mul_mod]
  congr 1
  rw [Nat.mul_comm (2 ^ k) 2, Nat.mul_assoc]

set_option maxHeartbeats 1000000 in
theorem digit_any (x : Int) (n : Nat) (b : UInt8) (w : World) (hx : Res x n) (hn : n < PR) :
    Calls Tryd.prog 21 #[.int .u64 x, .int .u8 (b.toNat : Int)] w (Num w ((256 * n + b.toNat) % PR)) := by
  have hb := b.toNat_lt
  go_enter Tryd.func21, Tryd.ntmps21
  go_wp2_with fail
  go_loop [0, 5] (fun r i => DigRel n r i) (fun _ i => 8 - (intOf i).toNat)
  case atStart => exact ⟨0, x, by omega, rfl, rfl, by rw [Nat.pow_zero, Nat.one_mul, Nat.mod_eq_of_lt hn]; exact hx⟩
  case round =>
    obtain ⟨k, y, hk, rfl, rfl, hy⟩ := hrel
    have hP := inP_of hy (pr_lt _)
    obtain ⟨hy0, hy1⟩ := hP
    have HY := Lib.hid hy
    clear hy
    by_cases hlt : k < 8
    · have hk0 : (k : Int) < 8 := by omega
      go_wp2_with (go_at_call 25; refine (twice_any y _ _ HY.out (pr_lt _)).mono ?_; rintro e w' ⟨z, hz, rfl, rfl⟩; have HZ := Lib.hid hz; clear hz)
      go_round
      case rel => exact ⟨k + 1, z, by omega, by go_num, rfl, by rw [← pow_step]; exact HZ.out⟩
      case measure => simp [intOf]; omega
    · obtain rfl : k = 8 := by omega
      have hB : (b.toNat : Int) ≤ 255 := by omega
      have hB0 : (0 : Int) ≤ (b.toNat : Int) := by omega
      have HV : Hid (∀ z : Int, (z = y + (b.toNat : Int) ∨ z = y + (b.toNat : Int) - 2305843009213693951) → 0 ≤ z → z < 2305843009213693951 → Res z ((256 * n + b.toNat) % PR)) := by
        intro z hz h0 h1
        have h := HY.out
        unfold Res at h ⊢
        rw [show (2 : Nat) ^ 8 = 256 from rfl] at h
        rw [PR_eq] at h ⊢
        omega
      obtain ⟨c, hc⟩ : ∃ c : Int, c = (b.toNat : Int) := ⟨_, rfl⟩
      rw [← hc] at hB hB0 HV
      rw [← hc]
      clear hc hlt HY hb
      by_cases hge : y + c < 2305843009213693951
      · go_wp2_with fail
        go_ret
        exact ⟨_, HV.out _ (.inl rfl) (by omega) (by omega), rfl, rfl⟩
      · have hge' : 2305843009213693951 ≤ y + c := by omega
        clear hge
        go_wp2_with fail
        go_ret
        exact ⟨_, HV.out _ (.inr rfl) (by omega) (by omega), rfl, rfl⟩
end Go.Proofs.YtemekdoogocapaaDoor
