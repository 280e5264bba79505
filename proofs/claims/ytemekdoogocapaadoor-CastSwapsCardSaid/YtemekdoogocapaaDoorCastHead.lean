/-
  LAYER 2: what the walks of the laws take of the program's four calls; and the examples that each law asks at last.
-/
import Derived.Test.YtemekdoogocapaaDoorCastImplD
namespace Go.Proofs.YtemekdoogocapaaDoor
open Go.RowKit

/-- The program's four calls, by contracts. -/
structure CastC : Prop where
  more : ∀ (x : Int) (n : Nat) (l : List UInt8) (w : World), Res x n → n < 2 ^ 64 → l.length ≤ 4294967296 → Tab w → Calls Tryd.prog 11 #[.int .u64 x, .string (mk l)] w (NumB w (cmore n l))
  rest : ∀ (l : List UInt8) (w : World), l.length ≤ 4294967296 → Tab w → Calls Tryd.prog 13 #[.string (mk l)] w (NumB w (crest l))
  sealed : ∀ (l : List UInt8) (w : World), l.length ≤ 4294967296 → Tab w → Calls Tryd.prog 17 #[.string (mk l)] w fun e w' => e = .returned (.string (mk (cseal l))) ∧ Below w.heap.size w w'
  opened : ∀ (t : List UInt8) (w : World), t.length ≤ 4294967296 → Tab w → Calls Tryd.prog 15 #[.string (mk t)] w (OpenPost w t)

theorem castC : CastC := ⟨fun x n l w hx hn hl hT => (more_any x n l w hT hx hn hl).mono fun _ _ h => h.num, fun l w hl hT => (rest_any l w hT hl).mono fun _ _ h => h.num, fun l w hl hT => seal_any l w hT hl, fun t w hl hT => open_any t w hT hl⟩

set_option maxHeartbeats 1000000 in
theorem castHead_any (C : CastC) (w : World) (hT : Tab w) : Calls Tryd.prog 10 #[] w fun e w' => e = .returned (.bool true) ∧ Below w.heap.size w w' := by
  have T := Lib.hid hT
  clear hT
  have h1 := C.opened [97, 0, 0, 0, 0, 0, 0, 1, 97] w (by simp) T.out
  have H2 := Lib.hid (fun w => C.opened [97, 0, 0, 0, 0, 0, 0, 1, 98] w (by simp))
  have H3 := Lib.hid (fun w => C.rest [] w (by simp))
  have H4 := Lib.hid (fun w => C.rest [97, 98] w (by simp))
  have H5 := Lib.hid (fun w => C.rest [0, 0, 0, 0, 0, 0, 0, 0] w (by simp))
  have H6 := Lib.hid (fun w => C.sealed [] w (by simp))
  have HO := Lib.hid h1
  clear h1
  go_enter Tryd.func10, Tryd.ntmps10
  go_wp2_with fail
  refine HO.out.mono ?_
  rintro e w1 ⟨rfl, b1⟩
  rw [show copen [97, 0, 0, 0, 0, 0, 0, 1, 97] = ([97], true) from by decide, show mk ([97], true).1 = ⟨#[97]⟩ from rfl]
  go_wp2_with fail
  refine (H2.out w1 (by first | exact T.out | exact T.out.below (by assumption))).mono ?_
  rintro e w2 ⟨rfl, b2⟩
  rw [show copen [97, 0, 0, 0, 0, 0, 0, 1, 98] = ([], false) from by decide]
  have b2' := b1.trans (b2.mono b1.size)
  clear b1 b2 HO H2
  go_wp2_with fail
  refine (H3.out w2 (by first | exact T.out | exact T.out.below (by assumption))).mono ?_
  rintro e w3 ⟨y3, hy3, rfl, b3⟩
  obtain rfl : y3 = 1 := hy3.trans (by decide)
  have b3' := b2'.trans (b3.mono b2'.size)
  clear b3 b2' hy3 H3
  go_wp2_with fail
  refine (H4.out w3 (by first | exact T.out | exact T.out.below (by assumption))).mono ?_
  rintro e w4 ⟨y4, hy4, rfl, b4⟩
  obtain rfl : y4 = 90466 := hy4.trans (by decide)
  have b4' := b3'.trans (b4.mono b3'.size)
  clear b4 b3' hy4 H4
  go_wp2_with fail
  refine (H5.out w4 (by first | exact T.out | exact T.out.below (by assumption))).mono ?_
  rintro e w5 ⟨y5, hy5, rfl, b5⟩
  obtain rfl : y5 = 8 := hy5.trans (by decide)
  have b5' := b4'.trans (b5.mono b4'.size)
  clear b5 b4' hy5 H5
  go_wp2_with fail
  refine (H6.out w5 (by first | exact T.out | exact T.out.below (by assumption))).mono ?_
  rintro e w6 ⟨rfl, b6⟩
  rw [show mk (cseal []) = ⟨#[0, 0, 0, 0, 0, 0, 0, 1]⟩ from by unfold mk; congr 1]
  have b6' := b5'.trans (b6.mono b5'.size)
  clear b6 b5' H6
  go_wp2_with fail
  go_ret
  exact ⟨rfl, b6'⟩
end Go.Proofs.YtemekdoogocapaaDoor
