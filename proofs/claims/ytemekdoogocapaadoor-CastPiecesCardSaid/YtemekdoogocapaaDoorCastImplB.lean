/-
  LAYER 2: the program's More, Rest.
-/
import Derived.Test.YtemekdoogocapaaDoorCastImplA
import Derived.Deep.QuietTactic
import Derived.BigQuiet
namespace Go.Proofs.YtemekdoogocapaaDoor
open Go.RowKit

def NumB (w : World) (n : Nat) (e : Ending) (w' : World) : Prop := ∃ y : Int, Res y n ∧ e = .returned (.int .u64 y) ∧ Below w.heap.size w w'

theorem below_drewN {B n : Nat} {a w : World} (h : Below B a w) : Below B a (w.drewN n) := h.trans ⟨rfl, rfl, rfl, Nat.le_refl _, fun _ _ => rfl⟩

def strLen : Value → Nat | .string s => s.size | _ => 0

/-- A number, and memory as it was (but for what was drawn). -/
def NumD (w : World) (n : Nat) (e : Ending) (w' : World) : Prop := e = .returned (.int .u64 (n : Int)) ∧ ∃ k, w' = w.drewN k
theorem NumD.num {w w' : World} {n : Nat} {e : Ending} (h : NumD w n e w') : NumB w n e w' := by
  obtain ⟨rfl, k, rfl⟩ := h
  exact ⟨_, rfl, rfl, below_drewN (Below.refl _ _)⟩

def OwnRel (n : Nat) (l : List UInt8) (w : World) (s r : Value) (wr : World) : Prop :=
  ∃ (k : Nat) (y : Int), k ≤ l.length ∧ s = .string (mk (l.drop k)) ∧ r = .int .u64 y ∧ Res y (cmore n (l.take k)) ∧ ∃ d, wr = w.drewN d

/-- What a round reckons of a group of at most eight bytes, in the region's own spelling. -/
theorem group_facts (y : Int) (n : Nat) (u : List UInt8) (hy : Res y n) (hn : n < PR) (hu : u.length ≤ 8) : ∃ a z zp s r : Int,
    (∀ w, Calls Tryd.prog 19 #[.int .u64 y, .int .u64 ((tn u.length : Nat) : Int)] w fun e w' => e = .returned (.int .u64 a) ∧ w' = w) ∧
    (∀ w, Calls Tryd.prog 20 #[.string (mk u)] w fun e w' => e = .returned (.int .u64 z) ∧ w' = w) ∧
    0 ≤ z ∧ z < 18446744073709551616 ∧ z % 2305843009213693951 = zp ∧ 0 ≤ zp ∧ 0 ≤ a ∧ a + zp < 18446744073709551616 ∧ a + zp = s ∧ 0 ≤ s ∧ s % 2305843009213693951 = r ∧ Res r (cmore n u) := by
  have hv := val_lt_of u 8 hu
  have ht := turn_lt n (tn u.length) (by rw [PR_eq] at hn; omega) (tn_le _)
  have hm := Nat.mod_lt (val u) PR_pos
  have hg := group_step n u hu (turnN n (tn u.length)) (by rw [Nat.mod_eq_of_lt hn])
  refine ⟨((turnN n (tn u.length) : Nat) : Int), ((val u : Nat) : Int), ((val u % PR : Nat) : Int), ((turnN n (tn u.length) + val u % PR : Nat) : Int), ((cmore n u : Nat) : Int), fun w => (turn_any y n (tn u.length) w hy hn (tn_le _)).mono fun e w' ⟨h1, h2⟩ => ⟨h1, h2.symm⟩,
    fun w => (number_any u w hu).mono fun e w' ⟨z, h0, h1, h2⟩ => ⟨by rw [h1]; unfold Res at h0; rw [h0], h2.symm⟩, ?_, ?_, ?_, ?_, ?_, ?_, ?_, ?_, ?_, rfl⟩
  all_goals (try rw [PR_eq] at *) <;> omega

set_option maxHeartbeats 2000000 in
theorem more_any (x : Int) (n : Nat) (l : List UInt8) (w : World) (hT : Tab w) (hx : Res x n) (h64 : n < 2 ^ 64) (hl : l.length ≤ 4294967296) :
    Calls Tryd.prog 11 #[.int .u64 x, .string (mk l)] w (NumD w (cmore n l)) := by
  have hx0 : 0 ≤ x := by unfold Res at hx; omega
  have H0 : Hid (Res (x % 2305843009213693951) (cmore n [])) := by
    unfold Res at hx
    show x % 2305843009213693951 = _
    rw [cmore_nil, PR_eq]; omega
  have HT := Lib.hid hT
  clear h64 hT
  go_enter Tryd.func11, Tryd.ntmps11
  go_wp2_with fail
  go_loopw [1, 0] (fun s r wr => OwnRel n l w s r wr) (fun s _ _ => strLen s)
  case atStart => exact ⟨0, _, by omega, rfl, rfl, H0.out, 0, rfl⟩
  case round =>
    obtain ⟨k, y, hk, rfl, rfl, hy, d, hd⟩ := hrel
    have TW : Hid (Tab wr) := Lib.hid (by rw [hd]; exact HT.out.drewN)
    have HW := Lib.hid hd
    clear hd
    have hY0 : 0 ≤ y := by unfold Res at hy; omega
    by_cases hlt : k < l.length
    · have hul : (l.drop k).length = l.length - k := List.length_drop
      have hgt : (0 : Int) < (((mk (l.drop k)).size : Nat) : Int) := by rw [mk_size]; omega
      by_cases hmin : (((mk (l.drop k)).size : Nat) : Int) ≤ 8
      · have hu8 : (l.drop k).length ≤ 8 := by rw [mk_size] at hmin; omega
        obtain ⟨a, z, zp, s, r, c1, c2, h1, h2, h3, h4, h5, h6, h7, h8, h9, hr⟩ := group_facts y _ (l.drop k) hy (cmore_lt _ _) hu8
        rw [← cmore_append, List.take_append_drop] at hr
        have HR : Hid (Res r (cmore n (l.take l.length))) := Lib.hid (by rw [List.take_length]; exact hr)
        have hc : wr.cell? ⟨0, (mk (l.drop k)).size, none⟩ = some (.int .u64 ((tn (l.drop k).length : Nat) : Int)) := by rw [mk_size]; exact TW.out _ (by omega)
        generalize ((tn (l.drop k).length : Nat) : Int) = tI at c1 hc
        have hI : ((mk (l.drop k)).size : Int) < 9 := by omega
        have HD : Hid (mk (l.drop l.length) = ⟨#[]⟩) := Lib.hid (by rw [List.drop_length]; rfl)
        have HN : Hid (0 < (mk (l.drop k)).size) := Lib.hid (by omega)
        have C1 := Lib.hid c1
        have C2 := Lib.hid c2
        clear hr c1 c2 hy hul hu8
        go_wp2_with fail
        go_quiet ((first | (go_at_call 19; with_reducible exact Calls.quiet_of_same (C1.out _)) | (go_at_call 20; with_reducible exact Calls.quiet_of_same (C2.out _)) | (trace_state; fail)))
        go_wp2_with fail
        go_roundw
        case rel => exact ⟨l.length, r, Nat.le_refl _, by rw [HD.out]; rfl, by rw [h9], HR.out, d + _, by rw [HW.out, World.drewN_drewN]⟩
        case measure => have := HN.out; simpa [strLen] using this
      · have hu8 : 8 < (l.drop k).length := by rw [mk_size] at hmin; omega
        have htl : ((l.drop k).take 8).length = 8 := by rw [List.length_take]; omega
        obtain ⟨a, z, zp, s, r, c1, c2, h1, h2, h3, h4, h5, h6, h7, h8, h9, hr⟩ := group_facts y _ ((l.drop k).take 8) hy (cmore_lt _ _) (by omega)
        rw [← cmore_append, ← List.take_add] at hr
        rw [htl] at c1
        have HR := Lib.hid hr
        have hc : wr.cell? ⟨0, 8, none⟩ = some (.int .u64 3) := TW.out 8 (by omega)
        rw [show ((tn 8 : Nat) : Int) = 3 from rfl] at c1
        have E1 : mk ((l.drop k).take 8) = (mk (l.drop k)).extract 0 8 := by rw [mk_extract]; simp
        rw [E1] at c2
        have HD : Hid ((mk (l.drop k)).extract 8 (mk (l.drop k)).size = mk (l.drop (k + 8))) := Lib.hid (by
          rw [mk_extract, mk_size, List.take_length, List.drop_drop])
        have HN : Hid (strLen (.string (mk (l.drop (k + 8)))) < (mk (l.drop k)).size) := Lib.hid (by simp [strLen, mk_size]; omega)
        have hge : 8 < (((mk (l.drop k)).size : Nat) : Int) := by omega
        have hgN : 8 < (mk (l.drop k)).size := by omega
        have HK : Hid (k + 8 ≤ l.length) := Lib.hid (by omega)
        have C1 := Lib.hid c1
        have C2 := Lib.hid c2
        clear hr c1 c2 hy hul hu8 E1 htl
        go_wp2_with fail
        go_quiet ((first | (go_at_call 19; with_reducible exact Calls.quiet_of_same (C1.out _)) | (go_at_call 20; with_reducible exact Calls.quiet_of_same (C2.out _)) | (trace_state; fail)))
        go_wp2_with fail
        rw [HD.out]
        go_roundw
        case rel => exact ⟨k + 8, r, HK.out, rfl, by rw [h9], HR.out, d + _, by rw [HW.out, World.drewN_drewN]⟩
        case measure => exact HN.out
    · obtain rfl : k = l.length := by omega
      have hz : (((mk (l.drop l.length)).size : Nat) : Int) ≤ 0 := by rw [mk_size, List.drop_length]; simp
      have HY : Hid (Res y (cmore n l)) := Lib.hid (by rw [List.take_length] at hy; exact hy)
      clear hy
      go_wp2_with fail
      go_ret
      exact ⟨by have h := HY.out; unfold Res at h; rw [← h]; rfl, d, HW.out⟩

theorem rest_any (l : List UInt8) (w : World) (hT : Tab w) (hl : l.length ≤ 4294967296) :
    Calls Tryd.prog 13 #[.string (mk l)] w (NumD w (crest l)) := by
  have H := Lib.hid (more_any 1 1 l w hT rfl (by omega) hl)
  clear hT
  go_enter Tryd.func13, Tryd.ntmps13
  go_wp2_with fail
  refine H.out.mono ?_
  rintro e w1 ⟨rfl, k, rfl⟩
  go_wp2_with fail
  go_ret
  exact ⟨rfl, k, rfl⟩
end Go.Proofs.YtemekdoogocapaaDoor
