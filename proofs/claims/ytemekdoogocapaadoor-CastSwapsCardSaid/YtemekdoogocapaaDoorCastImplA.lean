/-
  LAYER 2: the program's turn, number.
-/
import Derived.Test.YtemekdoogocapaaDoorCastTab
import Derived.Laws.BitsAllLaws
import Derived.IntWalk
namespace Go.Proofs.YtemekdoogocapaaDoor
open Go.RowKit

theorem turn_fact (r t : Nat) (hr : r < 2 ^ 61) (ht : t ≤ 60) : bits .and .u64 (bits .or .u64 (IntKind.u64.wrap ((r : Int) * 2 ^ t)) ((r : Int) / 2 ^ (61 - t))) 2305843009213693951 = ((turnN r t : Nat) : Int) := by
  have e1 : IntKind.u64.wrap ((r : Int) * 2 ^ t) = ((r * 2 ^ t % 2 ^ 64 : Nat) : Int) := by
    rw [IntKind.wrap_u64]; simp
  have e2 : (r : Int) / 2 ^ (61 - t) = ((r / 2 ^ (61 - t) : Nat) : Int) := by simp
  have hA : r * 2 ^ t % 2 ^ 64 < 2 ^ 64 := Nat.mod_lt _ (by omega)
  have hB : r / 2 ^ (61 - t) < 2 ^ 64 := Nat.lt_of_le_of_lt (Nat.div_le_self _ _) (by omega)
  rw [e1, e2, u64_or_nat _ _ hA hB, show (2305843009213693951 : Int) = ((2 ^ 61 - 1 : Nat) : Int) from rfl, u64_and_nat _ _ (Nat.or_lt_two_pow hA hB) (by omega), turn_or r t hr ht]

theorem turn_any (x : Int) (r t : Nat) (w : World) (hx : Res x r) (hr : r < PR) (ht : t ≤ 60) :
    Calls Tryd.prog 19 #[.int .u64 x, .int .u64 (t : Int)] w fun e w' => e = .returned (.int .u64 ((turnN r t : Nat) : Int)) ∧ w = w' := by
  have htI : (t : Int) ≤ 60 := by omega
  have h1 := inP_of hx hr
  unfold InP at h1
  obtain ⟨h0, h1⟩ := h1
  have HF : Hid (bits .and .u64 (bits .or .u64 (IntKind.u64.wrap (x * 2 ^ t)) (x / 2 ^ (61 - t))) 2305843009213693951 = ((turnN r t : Nat) : Int)) := by
    unfold Res at hx; subst hx
    exact turn_fact r t (by rw [PR_eq] at hr; omega) ht
  clear hx hr
  go_enter Tryd.func19, Tryd.ntmps19
  go_wp2
  go_ret
  exact ⟨by rw [← HF.out]; rfl, rfl⟩

def NumRel (l : List UInt8) (n i : Value) : Prop := ∃ (k : Nat) (y : Int), k ≤ l.length ∧ i = .int .i64 (k : Int) ∧ n = .int .u64 y ∧ Res y (val (l.take k))

set_option maxHeartbeats 1000000 in
theorem number_any (l : List UInt8) (w : World) (hl : l.length ≤ 8) :
    Calls Tryd.prog 20 #[.string (mk l)] w (Num w (val l)) := by
  have hs : ((mk l).size : Int) ≤ 8 := by rw [mk_size]; omega
  have HS := Lib.hid (mk_size l)
  go_enter Tryd.func20, Tryd.ntmps20
  go_wp2_with fail
  go_loop [3, 7] (fun n i => NumRel l n i) (fun _ i => l.length - (intOf i).toNat)
  case atStart => exact ⟨0, 0, by omega, rfl, rfl, rfl⟩
  case round =>
    obtain ⟨k, y, hk, rfl, rfl, hy⟩ := hrel
    have hk0 : (0 : Int) ≤ (k : Int) := by omega
    by_cases hlt : k < l.length
    · have hkI : (k : Int) < (((mk l).size : Nat) : Int) := by rw [mk_size]; omega
      have hkN : k < (mk l).size := by rw [mk_size]; omega
      have ek : ∀ hq, (mk l)[k]'hq = l[k]'hlt := fun _ => rfl
      have hv := val_lt_of (l.take k) 7 (by rw [List.length_take]; omega)
      have HV : Hid (val (l.take (k + 1)) = 256 * val (l.take k) + (l[k]'hlt).toNat) := Lib.hid (by
        rw [List.take_succ_eq_append_getElem hlt, val_snoc])
      generalize l[k]'hlt = b at *
      have hb := b.toNat_lt
      have HO : Hid (bits .or .u64 (IntKind.u64.wrap (y * 256)) (b.toNat : Int) = ((256 * val (l.take k) + b.toNat : Nat) : Int)) := Lib.hid (by
        unfold Res at hy
        rw [hy, IntWalk.u64_in _ (by omega), show ((val (l.take k) : Nat) : Int) * 256 = ((256 * val (l.take k) : Nat) : Int) by omega, u64_or_nat _ _ (by omega) (by omega), or_byte _ _ hb])
      have h0 : 0 ≤ y := by unfold Res at hy; omega
      clear hy hv
      go_wp2_with fail
      go_round
      case rel => exact ⟨k + 1, _, by omega, by go_num, by rw [HO.out], by rw [HV.out]; rfl⟩
      case measure => simp [intOf]; omega
    · have hkI : (((mk l).size : Nat) : Int) ≤ (k : Int) := by rw [mk_size]; omega
      have HE : Hid (l.take k = l) := Lib.hid (List.take_of_length_le (by omega))
      have HY := Lib.hid hy
      clear hy
      go_wp2_with fail
      go_ret
      exact ⟨y, by have h := HY.out; rw [HE.out] at h; exact h, rfl, rfl⟩
end Go.Proofs.YtemekdoogocapaaDoor
