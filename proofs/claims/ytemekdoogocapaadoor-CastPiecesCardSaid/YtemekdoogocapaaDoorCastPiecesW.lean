/-
  LAYER 2: the walk of CastPieces.
-/
import Derived.Test.YtemekdoogocapaaDoorCastHead
namespace Go.Proofs.YtemekdoogocapaaDoor
open Go.RowKit

def cc (F : Nat → List UInt8) : Nat → List UInt8
  | 0 => []
  | k + 1 => cc F k ++ F k
theorem cc_length (F : Nat → List UInt8) (k : Nat) (h : ∀ j, j < k → (F j).length ≤ 300) : (cc F k).length ≤ 300 * k := by
  induction k with
  | zero => simp [cc]
  | succ k ih =>
    have h1 := ih (fun j hj => h j (by omega))
    have h2 := h k (by omega)
    simp only [cc, List.length_append]; omega
theorem lt64 {n : Nat} (h : n < PR) : n < 2 ^ 64 := by rw [PR_eq] at h; omega

set_option maxHeartbeats 400000 in
theorem pieces_long (C : CastC) (v : Value) (A : Option Addr) (len cap : Nat) (w : World) (hT : Tab w) (h : 50 < len) :
    Calls Tryd.prog 7 #[v, .slice A len cap] w fun e w' => e = .returned (.bool true) ∧ Below w.heap.size w w' := by
  have T := Lib.hid hT
  clear hT
  have h' : (50 : Int) < (len : Int) := by omega
  go_enter Tryd.func7, Tryd.ntmps7
  go_wp2_with (go_at_call 10; refine (castHead_any C _ (by first | exact T.out | exact T.out.below (by assumption))).mono ?_; rintro e w1 ⟨rfl, b1⟩)
  go_ret
  exact ⟨rfl, b1⟩

def PieRel (F : Nat → List UInt8) (n len B : Nat) (w : World) (all sum frm i : Value) (wr : World) : Prop :=
  ∃ (k : Nat) (y z : Int), k ≤ len ∧ i = .int .i64 (k : Int) ∧ all = .string (mk (cc F k)) ∧ sum = .int .u64 y ∧ frm = .int .u64 z ∧ Res y (crest (cc F k)) ∧ Res z (cmore n (cc F k)) ∧ (∀ j, j < k → (F j).length ≤ 300) ∧ Below B w wr

set_option maxHeartbeats 2000000 in
theorem pieces_any (C : CastC) (x : Int) (n : Nat) (F : Nat → List UInt8) (A : Option Addr) (len cap : Nat) (w : World) (hT : Tab w) (hx : Res x n) (hn : n < 2 ^ 64) (hlen : len ≤ 50)
    (hc : ∀ i, i < len → ∃ b off, A = some ⟨b, off, none⟩ ∧ b < w.heap.size ∧ w.cell? ⟨b, off + i, none⟩ = some (.string (mk (F i)))) :
    Calls Tryd.prog 7 #[.int .u64 x, .slice A len cap] w fun e w' => e = .returned (.bool true) ∧ Below w.heap.size w w' := by
  have T := Lib.hid hT
  clear hT
  have HC := Lib.hid hc
  have hlI : (len : Int) ≤ 50 := by omega
  have H1 := Lib.hid (fun w => C.rest [] w (by simp))
  have H2 := Lib.hid (fun w => C.more x n [] w hx hn (by simp))
  have HM : Hid (∀ (l : List UInt8) (w : World), l.length ≤ 4294967296 → Tab w → Calls Tryd.prog 11 #[.int .u64 x, .string (mk l)] w (NumB w (cmore n l))) := Lib.hid (fun l w h => C.more x n l w hx hn h)
  clear hc hx hn
  go_enter Tryd.func7, Tryd.ntmps7
  go_wp2_with fail
  refine (H1.out w (by first | exact T.out | exact T.out.below (by assumption))).mono ?_
  rintro e w1 ⟨y0, hy0, rfl, B1⟩
  go_wp2_with fail
  refine (H2.out w1 (by first | exact T.out | exact T.out.below (by assumption))).mono ?_
  rintro e w2 ⟨z0, hz0, rfl, b2⟩
  have B2 := B1.trans (b2.mono B1.size)
  have HY0 := Lib.hid hy0
  have HZ0 := Lib.hid hz0
  clear b2 B1 H1 H2 hy0 hz0
  go_wp2_with fail
  go_loopw [5, 6, 7, 8] (fun all sum frm i wr => PieRel F n len w.heap.size w all sum frm i wr) (fun _ _ _ i _ => len - (intOf i).toNat)
  case atStart => exact ⟨0, y0, z0, by omega, rfl, rfl, rfl, rfl, HY0.out, HZ0.out, fun j hj => absurd hj (by omega), B2⟩
  case round =>
    obtain ⟨k, y, z, hk, rfl, rfl, rfl, rfl, hy, hz, hsm, hbel⟩ := hrel
    have hbs := hbel.size
    have hcl := cc_length F k hsm
    have hcz : (mk (cc F k)).size ≤ 15000 := by rw [mk_size]; omega
    have HY := Lib.hid hy
    have HZ := Lib.hid hz
    have HSM := Lib.hid hsm
    clear hy hz hsm
    have hk0 : (0 : Int) ≤ (k : Int) := by omega
    by_cases hlt : k < len
    · have hkI : (k : Int) < (len : Int) := by omega
      obtain ⟨b, off, rfl, hbw, hc0⟩ := HC.out k hlt
      have hc1 : wr.cell? ⟨b, off + k, none⟩ = some (.string (mk (F k))) := (hbel.cell (p := ⟨b, off + k, none⟩) hbw).trans hc0
      clear hc0
      by_cases h3 : 300 < (F k).length
      · have h3I : (300 : Int) < (((mk (F k)).size : Nat) : Int) := by rw [mk_size]; omega
        go_wp2_with (go_at_call 10; refine (castHead_any C _ (by first | exact T.out | exact T.out.below (by assumption))).mono ?_; rintro e w4 ⟨rfl, b4⟩)
        go_ret
        exact ⟨rfl, hbel.trans (b4.mono hbs)⟩
      · have h3I : (((mk (F k)).size : Nat) : Int) ≤ 300 := by rw [mk_size]; omega
        have HNX : Hid (∀ j, j < k + 1 → (F j).length ≤ 300) := Lib.hid (fun j hj => by
          by_cases e : j = k
          · subst e; omega
          · exact HSM.out j (by omega))
        have HA := Lib.hid (mk_append (cc F k) (F k))
        have K1 : Hid (∀ w, Tab w → Calls Tryd.prog 11 #[.int .u64 y, .string (mk (F k))] w (NumB w (crest (cc F (k + 1))))) := Lib.hid (fun w hw => by
          have h := C.more y _ (F k) w HY.out (lt64 (crest_lt _)) (by omega) hw
          have e : cmore (crest (cc F k)) (F k) = crest (cc F (k + 1)) := (cmore_append 1 (cc F k) (F k)).symm
          rw [e] at h; exact h)
        have K2 : Hid (∀ w, Tab w → Calls Tryd.prog 11 #[.int .u64 z, .string (mk (F k))] w (NumB w (cmore n (cc F (k + 1))))) := Lib.hid (fun w hw => by
          have h := C.more z _ (F k) w HZ.out (lt64 (cmore_lt _ _)) (by omega) hw
          have e : cmore (cmore n (cc F k)) (F k) = cmore n (cc F (k + 1)) := (cmore_append n (cc F k) (F k)).symm
          rw [e] at h; exact h)
        have hadd : (mk (cc F k)).size + (mk (F k)).size ≤ 9223372036854775807 := by omega
        clear h3 hcl
        go_wp2_with fail
        refine (K1.out wr (by first | exact T.out | exact T.out.below (by assumption))).mono ?_
        rintro e w3 ⟨y', hy', rfl, b3⟩
        have B3 := hbel.trans (b3.mono hbs)
        have hc3 : w3.cell? ⟨b, off + k, none⟩ = some (.string (mk (F k))) := (b3.cell (p := ⟨b, off + k, none⟩) (Nat.lt_of_lt_of_le hbw hbs)).trans hc1
        have HY' := Lib.hid hy'
        clear b3 hy'
        go_wp2_with fail
        refine (K2.out w3 (by first | exact T.out | exact T.out.below (by assumption))).mono ?_
        rintro e w4 ⟨z', hz', rfl, b4⟩
        have B4 := B3.trans (b4.mono B3.size)
        have HZ' := Lib.hid hz'
        clear b4 hz'
        go_wp2_with fail
        go_roundw
        case rel => exact ⟨k + 1, y', z', by omega, by go_num, by rw [HA.out]; rfl, rfl, rfl, HY'.out, HZ'.out, HNX.out, B4⟩
        case measure => simp [intOf]; omega
    · obtain rfl : k = len := by omega
      have R1 := Lib.hid (fun w => C.rest (cc F k) w (by omega))
      have R2 := Lib.hid (fun w => HM.out (cc F k) w (by omega))
      obtain ⟨_, hyP⟩ := inP_of HY.out (crest_lt _)
      obtain ⟨_, hzP⟩ := inP_of HZ.out (cmore_lt _ _)
      go_wp2_with fail
      refine (R1.out wr (by first | exact T.out | exact T.out.below (by assumption))).mono ?_
      rintro e w3 ⟨y', hy', rfl, b3⟩
      obtain rfl : y' = y := hy'.trans HY.out.symm
      have B3 := hbel.trans (b3.mono hbs)
      clear b3 hy'
      go_wp2_with fail
      refine (R2.out w3 (by first | exact T.out | exact T.out.below (by assumption))).mono ?_
      rintro e w4 ⟨z', hz', rfl, b4⟩
      obtain rfl : z' = z := hz'.trans HZ.out.symm
      have B4 := B3.trans (b4.mono B3.size)
      clear b4 hz'
      go_wp2_with (go_at_call 10; refine (castHead_any C _ (by first | exact T.out | exact T.out.below (by assumption))).mono ?_; rintro e w5 ⟨rfl, b5⟩)
      go_ret
      exact ⟨rfl, B4.trans (b5.mono B4.size)⟩
end Go.Proofs.YtemekdoogocapaaDoor
