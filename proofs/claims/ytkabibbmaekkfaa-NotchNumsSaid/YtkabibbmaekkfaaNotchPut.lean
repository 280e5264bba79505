/-
  LAYER 1, WHAT IS PUT: the calls width, Long, appendNum, Num, Text of the program, each by a contract over plain mathematics.
-/
import Derived.Test.YtkabibbmaekkfaaRows
import Derived.Test.YtkabibbmaekkfaaShelf
import Derived.Test.YtkabibbmaekkfaaNotchMath
import Derived.WalkKit
import Derived.WalkSpells
import Derived.WalkLawsBesides
import Derived.Lib.UnsafeStr
import Derived.Lib.Hide
namespace Go.Proofs.Ytkabibbmaekkfaa
open Go.RowKit

set_option maxHeartbeats 400000 in
theorem width_any (n : Nat) (w : World) (h : n < 2 ^ 64) :
    Calls Try.prog 26 #[.int .u64 (n : Int)] w fun e w' => e = .returned (.int .i64 (wid n : Nat)) ∧ w = w' := by
  have hb : Lib.bitLen n ≤ 64 := Lib.bitLen_le n 64 (by omega) h
  have hw := wid_bits h
  have HW := Lib.hid hw
  clear hw
  go_enter Try.func26, Try.ntmps26
  go_wp2_with fail
  refine (Try.bits_Len64 (n : Int) _ (by omega) (by omega)).mono ?_
  rintro e w' ⟨rfl, rfl⟩
  rw [Int.toNat_natCast]
  go_wp2
  go_ret
  refine ⟨?_, rfl⟩
  rw [HW.out]
  congr 2

set_option maxHeartbeats 400000 in
theorem long_any (n : Nat) (w : World) (h : n < 2 ^ 64) :
    Calls Try.prog 11 #[.int .u64 (n : Int)] w fun e w' => e = .returned (.int .i64 ((numB n).length : Nat)) ∧ w = w' := by
  have hw := wid_le n
  have HL := Lib.hid (numB_length n)
  go_enter Try.func11, Try.ntmps11
  go_wp2_with (go_at_call 26; refine (width_any n _ h).mono ?_; rintro e w' ⟨rfl, rfl⟩)
  go_ret
  refine ⟨?_, rfl⟩
  rw [HL.out]
  simp
end Go.Proofs.Ytkabibbmaekkfaa
