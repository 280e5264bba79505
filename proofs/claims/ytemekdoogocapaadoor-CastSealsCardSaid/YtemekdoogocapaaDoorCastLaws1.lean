/-
  LAYER 2: the walks of CastRests, CastSeals and CastBack.
-/
import Derived.Test.YtemekdoogocapaaDoorCastHead
namespace Go.Proofs.YtemekdoogocapaaDoor
open Go.RowKit

set_option maxHeartbeats 1000000 in
theorem rests_long (C : CastC) (s : ByteArray) (v : Value) (w : World) (hT : Tab w) (h : 3000 < s.size) :
    Calls Tryd.prog 3 #[v, .string s] w fun e w' => e = .returned (.bool true) ∧ Below w.heap.size w w' := by
  have T := Lib.hid hT
  clear hT
  have h' : (3000 : Int) < (s.size : Int) := by omega
  go_enter Tryd.func3, Tryd.ntmps3
  go_wp2_with (go_at_call 10; refine (castHead_any C _ (by first | exact T.out | exact T.out.below (by assumption))).mono ?_; rintro e w1 ⟨rfl, b1⟩)
  go_ret
  exact ⟨rfl, b1⟩

set_option maxHeartbeats 1000000 in
theorem rests_any (C : CastC) (x : Int) (n : Nat) (l : List UInt8) (w : World) (hT : Tab w) (hx : Res x n) (hn : n < 2 ^ 64) (hl : l.length ≤ 3000) :
    Calls Tryd.prog 3 #[.int .u64 x, .string (mk l)] w fun e w' => e = .returned (.bool true) ∧ Below w.heap.size w w' := by
  have T := Lib.hid hT
  clear hT
  have hs : ((mk l).size : Int) ≤ 3000 := by rw [mk_size]; omega
  have H1 := Lib.hid (fun w => C.more x n l w hx hn (by omega))
  have H2 := Lib.hid (fun w => refMore_any x n l w hx hn (by omega))
  have H3 := Lib.hid (fun w => C.rest l w (by omega))
  have H4 := Lib.hid (fun w => refRest_any l w (by omega))
  clear hx hn
  go_enter Tryd.func3, Tryd.ntmps3
  go_wp2_with fail
  refine (H1.out w (by first | exact T.out | exact T.out.below (by assumption))).mono ?_
  rintro e w1 ⟨y1, hy1, rfl, b1⟩
  have B1 := b1
  clear b1
  go_wp2_with fail
  refine (H2.out w1).mono ?_
  rintro e w2 ⟨y2, hy2, rfl, rfl⟩
  obtain rfl : y2 = y1 := hy2.trans hy1.symm
  clear hy1 hy2 H1 H2
  go_wp2_with fail
  refine (H3.out w1 (by first | exact T.out | exact T.out.below (by assumption))).mono ?_
  rintro e w2 ⟨z1, hz1, rfl, b2⟩
  have B2 := B1.trans (b2.mono B1.size)
  clear b2
  go_wp2_with fail
  refine (H4.out w2).mono ?_
  rintro e w3 ⟨z2, hz2, rfl, rfl⟩
  obtain rfl : z2 = z1 := hz2.trans hz1.symm
  clear hz1 hz2 H3 H4
  go_wp2_with (go_at_call 10; refine (castHead_any C _ (by first | exact T.out | exact T.out.below (by assumption))).mono ?_; rintro e w4 ⟨rfl, b4⟩)
  go_ret
  exact ⟨rfl, B2.trans (b4.mono B2.size)⟩

set_option maxHeartbeats 1000000 in
theorem seals_long (C : CastC) (s t : ByteArray) (w : World) (hT : Tab w) (h : 3000 < s.size ∨ (¬ 3000 < s.size ∧ 3000 < t.size)) :
    Calls Tryd.prog 4 #[.string s, .string t] w fun e w' => e = .returned (.bool true) ∧ Below w.heap.size w w' := by
  have T := Lib.hid hT
  clear hT
  rcases h with h | ⟨h0, h⟩
  · have h' : (3000 : Int) < (s.size : Int) := by omega
    go_enter Tryd.func4, Tryd.ntmps4
    go_wp2_with (go_at_call 10; refine (castHead_any C _ (by first | exact T.out | exact T.out.below (by assumption))).mono ?_; rintro e w1 ⟨rfl, b1⟩)
    go_ret
    exact ⟨rfl, b1⟩
  · have h0' : (s.size : Int) ≤ 3000 := by omega
    have h' : (3000 : Int) < (t.size : Int) := by omega
    go_enter Tryd.func4, Tryd.ntmps4
    go_wp2_with (go_at_call 10; refine (castHead_any C _ (by first | exact T.out | exact T.out.below (by assumption))).mono ?_; rintro e w1 ⟨rfl, b1⟩)
    go_ret
    exact ⟨rfl, b1⟩

set_option maxHeartbeats 1000000 in
theorem seals_any (C : CastC) (l t : List UInt8) (w : World) (hT : Tab w) (hl : l.length ≤ 3000) (ht : t.length ≤ 3000) :
    Calls Tryd.prog 4 #[.string (mk l), .string (mk t)] w fun e w' => e = .returned (.bool true) ∧ Below w.heap.size w w' := by
  have T := Lib.hid hT
  clear hT
  have hs : ((mk l).size : Int) ≤ 3000 := by rw [mk_size]; omega
  have hs2 : ((mk t).size : Int) ≤ 3000 := by rw [mk_size]; omega
  have H1 := Lib.hid (fun w => C.opened t w (by omega))
  have H2 := Lib.hid (fun w => refOpen_any t w (by omega))
  have H3 := Lib.hid (fun w => C.sealed l w (by omega))
  have H4 := Lib.hid (fun w => refSeal_any l w (by omega))
  go_enter Tryd.func4, Tryd.ntmps4
  go_wp2_with fail
  refine (H1.out w (by first | exact T.out | exact T.out.below (by assumption))).mono ?_
  rintro e w1 ⟨rfl, B1⟩
  go_wp2_with fail
  refine (H2.out w1).mono ?_
  rintro e w2 ⟨rfl, b2⟩
  have B2 := B1.trans (b2.mono B1.size)
  clear b2 H1 H2
  generalize (copen t).1 = u
  generalize (copen t).2 = bb
  go_wp2_with fail
  refine (H3.out w2 (by first | exact T.out | exact T.out.below (by assumption))).mono ?_
  rintro e w3 ⟨rfl, b3⟩
  have B3 := B2.trans (b3.mono B2.size)
  clear b3
  go_wp2_with fail
  refine (H4.out w3).mono ?_
  rintro e w4 ⟨rfl, b4⟩
  have B4 := B3.trans (b4.mono B3.size)
  clear b4 H3 H4
  go_wp2_with (go_at_call 10; refine (castHead_any C _ (by first | exact T.out | exact T.out.below (by assumption))).mono ?_; rintro e w5 ⟨rfl, b5⟩)
  go_ret
  exact ⟨rfl, B4.trans (b5.mono B4.size)⟩

set_option maxHeartbeats 1000000 in
theorem cback_long (C : CastC) (s : ByteArray) (w : World) (hT : Tab w) (h : 3000 < s.size) :
    Calls Tryd.prog 5 #[.string s] w fun e w' => e = .returned (.bool true) ∧ Below w.heap.size w w' := by
  have T := Lib.hid hT
  clear hT
  have h' : (3000 : Int) < (s.size : Int) := by omega
  go_enter Tryd.func5, Tryd.ntmps5
  go_wp2_with (go_at_call 10; refine (castHead_any C _ (by first | exact T.out | exact T.out.below (by assumption))).mono ?_; rintro e w1 ⟨rfl, b1⟩)
  go_ret
  exact ⟨rfl, b1⟩

set_option maxHeartbeats 1000000 in
theorem cback_any (C : CastC) (l : List UInt8) (w : World) (hT : Tab w) (hl : l.length ≤ 3000) :
    Calls Tryd.prog 5 #[.string (mk l)] w fun e w' => e = .returned (.bool true) ∧ Below w.heap.size w w' := by
  have T := Lib.hid hT
  clear hT
  have hs : ((mk l).size : Int) ≤ 3000 := by rw [mk_size]; omega
  have ha : (cseal l).length = l.length + 8 := cseal_length l
  have hb : (cseal (cseal l)).length = l.length + 16 := by rw [cseal_length, ha]
  have H1 := Lib.hid (fun w => C.sealed l w (by omega))
  have H2 := Lib.hid (fun w => C.sealed (cseal l) w (by omega))
  have H3 := Lib.hid (fun w => C.opened (cseal l) w (by omega))
  have H4 := Lib.hid (fun w => C.opened (cseal (cseal l)) w (by omega))
  have O3 := Lib.hid (copen_seal l)
  have O4 := Lib.hid (copen_seal (cseal l))
  have q1 : ((((mk (cseal l)).size : Nat) : Int) == (((mk l).size : Nat) : Int) + 8) = true := by rw [mk_size, mk_size, ha]; simp
  have q2 : ((((mk (cseal (cseal l))).size : Nat) : Int) == (((mk l).size : Nat) : Int) + 16) = true := by rw [mk_size, mk_size, hb]; simp
  clear ha hb
  go_enter Tryd.func5, Tryd.ntmps5
  go_wp2_with fail
  refine (H1.out w (by first | exact T.out | exact T.out.below (by assumption))).mono ?_
  rintro e w1 ⟨rfl, B1⟩
  go_wp2_with fail
  refine (H2.out w1 (by first | exact T.out | exact T.out.below (by assumption))).mono ?_
  rintro e w2 ⟨rfl, b2⟩
  have B2 := B1.trans (b2.mono B1.size)
  clear b2
  go_wp2_with fail
  refine (H3.out w2 (by first | exact T.out | exact T.out.below (by assumption))).mono ?_
  rintro e w3 ⟨rfl, b3⟩
  have B3 := B2.trans (b3.mono B2.size)
  rw [O3.out]
  clear b3
  go_wp2_with fail
  refine (H4.out w3 (by first | exact T.out | exact T.out.below (by assumption))).mono ?_
  rintro e w4 ⟨rfl, b4⟩
  have B4 := B3.trans (b4.mono B3.size)
  rw [O4.out]
  clear b4 H1 H2 H3 H4
  go_wp2_with (go_at_call 10; refine (castHead_any C _ (by first | exact T.out | exact T.out.below (by assumption))).mono ?_; rintro e w5 ⟨rfl, b5⟩)
  go_ret
  exact ⟨rfl, B4.trans (b5.mono B4.size)⟩
end Go.Proofs.YtemekdoogocapaaDoor
