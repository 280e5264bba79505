/-
  LAYER 11: the law on Place.
-/
import Derived.Test.YtomcpgogiglpkaaDoorTokHead2
namespace Go.Proofs.YtomcpgogiglpkaaDoor
open Go.RowKit

set_option maxHeartbeats 1000000 in
theorem tplace_long (s : ByteArray) (a : Int) (w : World) (hT : Tab w) (hs : 20001 < s.size) :
    Calls Tryd.prog 4 #[.string s, .int .i64 a] w fun e w' => e = .returned (.bool true) ∧ Below w.heap.size w w' := by
  have h1 : (20001 : Int) < (s.size : Int) := by omega
  go_enter Tryd.func4, Tryd.ntmps4
  go_wp2_with (go_at_call 8; refine (head_any _ hT).mono ?_; rintro e w' ⟨rfl, hb⟩)
  go_ret
  exact ⟨rfl, hb⟩

set_option maxHeartbeats 1000000 in
theorem tplace_any (l : List UInt8) (a : Int) (w : World) (hT : Tab w) (hl : l.length ≤ 20001) (h0 : -9223372036854775808 ≤ a) (h1 : a ≤ 9223372036854775807) :
    Calls Tryd.prog 4 #[.string (mk l), .int .i64 a] w fun e w' => e = .returned (.bool true) ∧ Below w.heap.size w w' := by
  have hs := mk_size l
  have hl2 : (l.length : Int) ≤ 20001 := by omega
  obtain ⟨A, hA⟩ : ∃ A, A = (posn l (clip a l.length)).1 := ⟨_, rfl⟩
  obtain ⟨B, hB⟩ : ∃ B, B = (posn l (clip a l.length)).2 := ⟨_, rfl⟩
  have C1 : Hid (∀ w, Calls Tryd.prog 12 #[.string (mk l), .int .i64 a] w fun e w' => e = .returned (.tuple #[.int .i64 (A : Int), .int .i64 (B : Int)]) ∧ w = w') := Lib.hid fun w => by
    rw [hA, hB]; exact place_any l a w (by omega) h0 h1
  have C2 : Hid (∀ w, Calls Tryd.prog 13 #[.string (mk l), .int .i64 a] w fun e w' => e = .returned (.tuple #[.int .i64 (A : Int), .int .i64 (B : Int)]) ∧ w = w') := Lib.hid fun w => by
    rw [hA, hB]; exact refPlace_any l a w (by omega) h0 h1
  clear hA hB
  go_enter Tryd.func4, Tryd.ntmps4
  go_wp2_with (first
    | (go_at_call 12; refine (C1.out _).mono ?_; rintro e w' ⟨rfl, rfl⟩)
    | (go_at_call 13; refine (C2.out _).mono ?_; rintro e w' ⟨rfl, rfl⟩)
    | (go_at_call 8; refine (head_any _ hT).mono ?_; rintro e w' ⟨rfl, hb⟩))
  go_ret
  exact ⟨rfl, hb⟩
end Go.Proofs.YtomcpgogiglpkaaDoor
