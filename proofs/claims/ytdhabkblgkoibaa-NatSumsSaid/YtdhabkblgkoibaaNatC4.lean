/-
  LAYER 3: the texts NatQBit, one behind the other.
-/
import Derived.Test.YtdhabkblgkoibaaNatA3

namespace Go.Proofs.Ytdhabkblgkoibaa
open Go.RowKit

set_option maxHeartbeats 1000000 in
theorem bit_any (A : Option Addr) (cap : Nat) (L : List Nat) (j : Int) (w : World) (hl : L.length ≤ 1099511627776) (hjm : j ≤ 9223372036854775807) (hf : Fits L) (hc : NatAt w A L) :
    Calls Try.prog 24 #[.slice A L.length cap, .int .i64 j] w fun e w' => e = .returned (.bool ((bitV (lv L) j : Int) == 1)) ∧ w' = w := by
  have hlI : (L.length : Int) ≤ 1099511627776 := by omega
  by_cases hneg : j < 0
  · have HB : Hid (bitV (lv L) j = 0) := Lib.hid (by unfold bitV; rw [if_pos hneg])
    have hnB : decide (0 ≤ j) = false := by simpa using hneg
    have hn2 : ¬ 0 ≤ j := by omega
    clear hc
    go_enter Try.func24, Try.ntmps24
    go_wp2_with fail
    go_ret
    exact ⟨by rw [HB.out]; rfl, rfl⟩
  · have hj0 : 0 ≤ j := by omega
    have hnB : decide (0 ≤ j) = true := by simpa using hj0
    obtain ⟨i, hi⟩ : ∃ i : Nat, j = (i : Int) := ⟨j.toNat, by omega⟩
    have HV : Hid (bitV (lv L) j = L.getD (i / 64) 0 / 2 ^ (i % 64) % 2) := Lib.hid (by
      unfold bitV; rw [if_neg hneg, hi, Int.toNat_natCast, lv_bit hf])
    by_cases hlt : i / 64 < L.length
    · obtain ⟨b, off, rfl, hcell⟩ := hc (i / 64) hlt
      have hqI : j / 64 < (L.length : Int) := by omega
      have hqd : decide (j / 64 < (L.length : Int)) = true := by simpa using hqI
      have hq0 : 0 ≤ j / 64 := by omega
      have HQ : (j / 64).toNat = i / 64 := by omega
      have hcell' : w.cell? ⟨b, off + (j / 64).toNat, none⟩ = some (.int .u64 ((L.getD (i / 64) 0 : Nat) : Int)) := by rw [HQ]; exact hcell
      have hxl : L.getD (i / 64) 0 < 18446744073709551616 := by
        have h0 := hf (L.getD (i / 64) 0) (by rw [List.getD_eq_getElem?_getD, List.getElem?_eq_getElem hlt]; exact List.getElem_mem hlt)
        exact h0
      obtain ⟨r, hr⟩ : ∃ r : Nat, r = i % 64 := ⟨_, rfl⟩
      have hrI : j % 64 = (r : Int) := by omega
      have hr63 : (r : Int) ≤ 63 := by omega
      obtain ⟨D, hD⟩ : ∃ D : Nat, D = L.getD (i / 64) 0 / 2 ^ r := ⟨_, rfl⟩
      have hDl : D < 18446744073709551616 := by rw [hD]; exact Nat.lt_of_le_of_lt (Nat.div_le_self _ _) hxl
      have HV2 : Hid (bitV (lv L) j = D % 2) := Lib.hid (by rw [HV.out, hD, hr])
      obtain ⟨x, hx⟩ : ∃ x : Int, x = ((L.getD (i / 64) 0 : Nat) : Int) := ⟨_, rfl⟩
      rw [← hx] at hcell'
      have hxd : x / 2 ^ r = (D : Int) := by rw [hx, hD]; simp
      obtain ⟨E, hE⟩ : ∃ E : Int, E = ((D % 2 : Nat) : Int) := ⟨_, rfl⟩
      have hAN : bits .and .u64 (D : Int) 1 = E := by rw [hE]; exact and_one D hDl
      have HE := Lib.hid hE
      have x0 : 0 ≤ x := by omega
      have x1 : x < 18446744073709551616 := by omega
      clear hc hcell HQ hi hlt HV hD hr hx hDl hxl hneg hE
      go_enter Try.func24, Try.ntmps24
      go_wp2_with fail
      go_ret
      exact ⟨by rw [HV2.out, ← HE.out]; rfl, rfl⟩
    · have hge : (L.length : Int) ≤ j / 64 := by omega
      have hqd : decide (j / 64 < (L.length : Int)) = false := by simp; omega
      have hqn : ¬ j / 64 < (L.length : Int) := by omega
      have HB : Hid (bitV (lv L) j = 0) := Lib.hid (by
        rw [HV.out, List.getD_eq_getElem?_getD, List.getElem?_eq_none (by omega)]; simp)
      clear hc hi hlt HV hneg
      go_enter Try.func24, Try.ntmps24
      go_wp2_with fail
      go_ret
      exact ⟨by rw [HB.out]; rfl, rfl⟩
end Go.Proofs.Ytdhabkblgkoibaa
