/-
  LAYER 2: the walk of CastZeros.
-/
import Derived.Test.YtemekdoogocapaaDoorCastHead
import Derived.IntWalk
namespace Go.Proofs.YtemekdoogocapaaDoor
open Go.RowKit

set_option maxHeartbeats 1000000 in
theorem zeros_any (C : CastC) (x : Int) (s : ByteArray) (w : World) (hT : Tab w) (hk0 : 0 ≤ x) (hkI : x < 256) :
    Calls Tryd.prog 8 #[.int .u8 x, .string s] w fun e w' => e = .returned (.bool true) ∧ Below w.heap.size w w' := by
  have T := Lib.hid hT
  clear hT
  by_cases hs : 1000 < s.size
  · have hsI : (1000 : Int) < (s.size : Int) := by omega
    go_enter Tryd.func8, Tryd.ntmps8
    go_wp2_with (go_at_call 10; refine (castHead_any C _ (by first | exact T.out | exact T.out.below (by assumption))).mono ?_; rintro e w1 ⟨rfl, b1⟩)
    go_ret
    exact ⟨rfl, b1⟩
  · obtain ⟨l, rfl⟩ : ∃ l, s = mk l := ⟨s.data.toList, (mk_of s).symm⟩
    have hsI : (((mk l).size : Nat) : Int) ≤ 1000 := by omega
    have hll : l.length ≤ 1000 := by rw [mk_size] at hs; omega
    obtain ⟨i0, hi, hz0, hz1, hz2⟩ := info_parts info_u8
    obtain ⟨m, hm⟩ : ∃ m : Nat, (m : Int) = x % 201 := ⟨(x % 201).toNat, by omega⟩
    have hm201 : m ≤ 200 := by omega
    have HK : Hid (x % 201 = (m : Int)) := Lib.hid (by omega)
    clear hm hs
    have HA := Lib.hid (mk_append (List.replicate m 0) l)
    have hzs : (mk (List.replicate m 0)).size = m := by rw [mk_size]; simp
    have hadd : (mk (List.replicate m 0)).size + (mk l).size ≤ 9223372036854775807 := by omega
    clear hzs
    have H1 := Lib.hid (fun w => C.rest (List.replicate m 0 ++ l) w (by simp; omega))
    have H2 := Lib.hid (fun w => C.rest l w (by omega))
    have H3 := Lib.hid (fun w => C.rest (List.replicate m 0) w (by simp; omega))
    have E3 := Lib.hid (crest_zeros m)
    have SEEN := Lib.hid (crest_seen m l)
    have HZ : Hid (∀ w0, ByteRow w.heap.size w0 (.slice (some ⟨w.heap.size, 0, none⟩) m m) (List.replicate m 0) → ByteRow w.heap.size w0 (.slice (some ⟨w.heap.size, 0, none⟩) m m) (List.replicate m 0)) := Lib.hid (fun _ h => h)
    go_enter Tryd.func8, Tryd.ntmps8
    go_wp2_with (
      (at_make
       refine wpList_make_full _ rfl _ _ 33 rfl w.heap.size 5 i0 (.int .u8 0) 1 Tryd.underlying33 hi hz0 hz1 .i64 .i64 _ _ m rfl rfl HK.out HK.out (by rw [hz2]; omega) (by unfold maxLen; omega) (Nat.le_refl _) ?_
       intro w0 hown0 hg0
       have hcv := conv_row (HZ.out w0 (made_row hown0))
       have B0 : Below w.heap.size w w0 := (Below.refl _ w).grown hg0 (Nat.le_refl _) (fun k hk => by cases hk)))
    rw [HA.out]
    refine (H1.out _ (by first | exact T.out | exact T.out.below (by assumption))).mono ?_
    rintro e w1 ⟨y1, hy1, rfl, b1⟩
    have B1 : Below w.heap.size w w1 := B0.trans (b1.mono B0.size)
    have HY1 := Lib.hid hy1
    clear b1 hy1
    go_wp2_with fail
    refine (H2.out w1 (by first | exact T.out | exact T.out.below (by assumption))).mono ?_
    rintro e w2 ⟨y2, hy2, rfl, b2⟩
    have B2 := B1.trans (b2.mono B1.size)
    have HY2 := Lib.hid hy2
    clear b2 hy2
    rw [HK.out]
    have hm0 : (0 : Int) ≤ (m : Int) := by omega
    have hm2 : (m : Int) ≤ 200 := by omega
    go_wp2_with fail
    refine (H3.out w2 (by first | exact T.out | exact T.out.below (by assumption))).mono ?_
    rintro e w3 ⟨y3, hy3, rfl, b3⟩
    have B3 := B2.trans (b3.mono B2.size)
    have f1 : ((y1 == y2) == (8 * (m : Int) % 61 == 0)) = true := by
      have e1 := HY1.out
      have e2 := HY2.out
      have se := SEEN.out
      unfold Res at e1 e2
      rw [beq_iff_eq, Bool.eq_iff_iff, beq_iff_eq, beq_iff_eq, e1, e2]
      constructor
      · intro h
        have := se.1 (by omega)
        omega
      · intro h
        have := se.2 (by omega)
        omega
    have f2 : (y3 == IntKind.u64.wrap (2 ^ (8 * m % 61))) = true := by
      have e3 : y3 = ((2 ^ (8 * m % 61) : Nat) : Int) := by rw [← E3.out]; exact hy3
      have h60 : 2 ^ (8 * m % 61) ≤ 2 ^ 60 := Nat.pow_le_pow_right (by omega) (by omega)
      have h4 : ((2 : Int) ^ (8 * m % 61)) = ((2 ^ (8 * m % 61) : Nat) : Int) := by simp
      rw [beq_iff_eq, e3, h4]
      generalize 2 ^ (8 * m % 61) = q at *
      exact (IntWalk.u64_in _ ⟨by omega, by omega⟩).symm
    clear b3 hy3
    go_wp2_with (go_at_call 10; refine (castHead_any C _ (by first | exact T.out | exact T.out.below (by assumption))).mono ?_; rintro e w5 ⟨rfl, b5⟩)
    go_ret
    exact ⟨rfl, B3.trans (b5.mono B3.size)⟩
end Go.Proofs.YtemekdoogocapaaDoor
