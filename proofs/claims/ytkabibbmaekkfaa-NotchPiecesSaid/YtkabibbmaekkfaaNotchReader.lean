/-
  LAYER 1: the reader's calls Num, Take, Text as steps of a plain machine.
-/
import Derived.Test.YtkabibbmaekkfaaNotchRead
namespace Go.Proofs.Ytkabibbmaekkfaa
open Go.RowKit

/-- What the reader tells, what is left, its state (1 good, 2 bad). -/
def rNum (l : List UInt8) (st : Nat) : Nat × List UInt8 × Nat := if st = 1 then (if okNum l = true then (numOf l, numRest l, 1) else (0, [], 2)) else (0, l, st)
def rTake (l : List UInt8) (st : Nat) (n : Int) : List UInt8 × List UInt8 × Nat := if st = 1 then (if 0 ≤ n ∧ n ≤ l.length then (l.take n.toNat, l.drop n.toNat, 1) else ([], [], 2)) else ([], l, st)
def rText (l : List UInt8) (st : Nat) (n : Int) : List UInt8 × List UInt8 × Nat := if st = 1 then (if okNum l = true ∧ 0 ≤ n ∧ (numOf l : Int) ≤ n then rTake (numRest l) 1 (numOf l : Nat) else ([], [], 2)) else ([], l, st)

theorem numRest_length (l : List UInt8) : (numRest l).length ≤ l.length := by simp [numRest]

def NumPost (w : World) (g : Nat) (x : Nat × List UInt8 × Nat) (e : Ending) (w' : World) : Prop := e = .returned (.int .u64 (x.1 : Nat)) ∧ RD w' g x.2.1 x.2.2 ∧ w.grownBy w' (some g)
def StrPost (w : World) (g : Nat) (x : List UInt8 × List UInt8 × Nat) (e : Ending) (w' : World) : Prop := e = .returned (.string (mk x.1)) ∧ RD w' g x.2.1 x.2.2 ∧ w.grownBy w' (some g)

set_option maxHeartbeats 1000000 in
theorem numR_any (g : Nat) (l : List UInt8) (st : Nat) (w : World) (h : RD w g l st) (hst : st = 1 ∨ st = 2) (hl : l.length ≤ 1099511627776) :
    Calls Try.prog 18 #[.pointer (some ⟨g, 0, none⟩)] w (NumPost w g (rNum l st)) := by
  rcases hst with rfl | rfl
  · by_cases hok : okNum l = true
    · have HX := Lib.hid (show rNum l 1 = (numOf l, numRest l, 1) by simp [rNum, hok])
      have HO := Lib.hid hok
      clear hok
      go_enter Try.func18, Try.ntmps18
      go_wp2_with (first
        | (go_at_call 28; refine (readable_any g l 1 _ h (.inl rfl)).mono ?_; rintro e w' ⟨rfl, rfl⟩)
        | (go_at_call 29; refine (number_good g l _ h hl HO.out).mono ?_; rintro e w1 ⟨rfl, h1, g1⟩))
      go_ret
      rw [HX.out]
      exact ⟨rfl, h1, g1⟩
    · have hok' : okNum l = false := by simpa using hok
      have HX := Lib.hid (show rNum l 1 = (0, [], 2) by simp [rNum, hok'])
      have HO := Lib.hid hok'
      clear hok hok'
      go_enter Try.func18, Try.ntmps18
      go_wp2_with (first
        | (go_at_call 28; refine (readable_any g l 1 _ h (.inl rfl)).mono ?_; rintro e w' ⟨rfl, rfl⟩)
        | (go_at_call 29; refine (number_bad g l _ h hl HO.out).mono ?_; rintro e w1 ⟨rfl, rfl⟩)
        | (go_at_call 30; refine (spoil_any g l 1 _ h).mono ?_; rintro e w1 ⟨rfl, h1, g1⟩))
      go_ret
      rw [HX.out]
      exact ⟨rfl, h1, g1⟩
  · have HX := Lib.hid (show rNum l 2 = (0, l, 2) by simp [rNum])
    go_enter Try.func18, Try.ntmps18
    go_wp2_with (go_at_call 28; refine (readable_any g l 2 _ h (.inr rfl)).mono ?_; rintro e w' ⟨rfl, rfl⟩)
    go_ret
    rw [HX.out]
    exact ⟨rfl, h, grown_below g (Below.refl _ _)⟩

set_option maxHeartbeats 400000 in
theorem numR_nil (w : World) : Calls Try.prog 18 #[.pointer none] w fun e w' => e = .returned (.int .u64 0) ∧ w = w' := by
  go_enter Try.func18, Try.ntmps18
  go_wp2_with (go_at_call 28; refine (readable_nil _).mono ?_; rintro e w' ⟨rfl, rfl⟩)
  go_ret
  exact ⟨rfl, rfl⟩

set_option maxHeartbeats 400000 in
theorem clone_any (s : ByteArray) (w : World) (hs : s.size ≤ 281474976710656) :
    Calls Try.prog 34 #[.string s] w fun e w' => e = .returned (.string s) ∧ Below w.heap.size w w' := by
  go_enter Try.func34, Try.ntmps34
  go_wp2_with (go_at_call 37; refine (Try.stringslite_Clone s _ hs).mono ?_; rintro e w1 ⟨rfl, hb1⟩)
  go_ret
  exact ⟨rfl, hb1⟩

set_option maxHeartbeats 1000000 in
theorem takeR_any (g : Nat) (l : List UInt8) (st : Nat) (n : Int) (w : World) (h : RD w g l st) (hst : st = 1 ∨ st = 2) (hl : l.length ≤ 1099511627776) :
    Calls Try.prog 22 #[.pointer (some ⟨g, 0, none⟩), .int .i64 n] w (StrPost w g (rTake l st n)) := by
  rcases hst with rfl | rfl
  · have hc := h.c0
    by_cases h0 : n < 0
    · have HX := Lib.hid (show rTake l 1 n = ([], [], 2) by simp [rTake]; intro hx; omega)
      go_enter Try.func22, Try.ntmps22
      go_wp2_with (first
        | (go_at_call 28; refine (readable_any g l 1 _ h (.inl rfl)).mono ?_; rintro e w' ⟨rfl, rfl⟩)
        | (go_at_call 30; refine (spoil_any g l 1 _ h).mono ?_; rintro e w1 ⟨rfl, h1, g1⟩))
      go_ret
      rw [HX.out]
      exact ⟨rfl, h1, g1⟩
    · by_cases h1 : n ≤ (l.length : Int)
      · have HX := Lib.hid (show rTake l 1 n = (l.take n.toNat, l.drop n.toNat, 1) by simp [rTake]; omega)
        have hcl : (mk (l.take n.toNat)).size ≤ 281474976710656 := by rw [mk_size, List.length_take]; omega
        have h0' : 0 ≤ n := by omega
        go_enter Try.func22, Try.ntmps22
        go_wp2_with (first
          | (go_at_call 28; refine (readable_any g l 1 _ h (.inl rfl)).mono ?_; rintro e w' ⟨rfl, rfl⟩)
          | (go_at_call 33; refine (left_any g l _ hc).mono ?_; rintro e w' ⟨rfl, rfl⟩)
          | (go_at_call 35; refine (cut_any g n l 1 _ h (by omega) (by omega) (by omega)).mono ?_; rintro e w1 ⟨rfl, h1, g1⟩)
          | (go_at_call 34; refine (clone_any _ _ hcl).mono ?_; rintro e w2 ⟨rfl, hb2⟩))
        go_ret
        rw [HX.out]
        exact ⟨rfl, h1.below hb2 h1.lt, grown_trans g1 (grown_below g hb2)⟩
      · have HX := Lib.hid (show rTake l 1 n = ([], [], 2) by simp [rTake]; intro hx; omega)
        go_enter Try.func22, Try.ntmps22
        go_wp2_with (first
          | (go_at_call 28; refine (readable_any g l 1 _ h (.inl rfl)).mono ?_; rintro e w' ⟨rfl, rfl⟩)
          | (go_at_call 33; refine (left_any g l _ hc).mono ?_; rintro e w' ⟨rfl, rfl⟩)
          | (go_at_call 30; refine (spoil_any g l 1 _ h).mono ?_; rintro e w1 ⟨rfl, h1, g1⟩))
        go_ret
        rw [HX.out]
        exact ⟨rfl, h1, g1⟩
  · have HX := Lib.hid (show rTake l 2 n = ([], l, 2) by simp [rTake])
    go_enter Try.func22, Try.ntmps22
    go_wp2_with (go_at_call 28; refine (readable_any g l 2 _ h (.inr rfl)).mono ?_; rintro e w' ⟨rfl, rfl⟩)
    go_ret
    rw [HX.out]
    exact ⟨rfl, h, grown_below g (Below.refl _ _)⟩

set_option maxHeartbeats 400000 in
theorem takeR_nil (n : Int) (w : World) : Calls Try.prog 22 #[.pointer none, .int .i64 n] w fun e w' => e = .returned (.string (mk [])) ∧ w = w' := by
  go_enter Try.func22, Try.ntmps22
  go_wp2_with (go_at_call 28; refine (readable_nil _).mono ?_; rintro e w' ⟨rfl, rfl⟩)
  go_ret
  exact ⟨rfl, rfl⟩

set_option maxHeartbeats 400000 in
theorem textR_nil (n : Int) (w : World) : Calls Try.prog 20 #[.pointer none, .int .i64 n] w fun e w' => e = .returned (.string (mk [])) ∧ w = w' := by
  go_enter Try.func20, Try.ntmps20
  go_wp2_with (go_at_call 28; refine (readable_nil _).mono ?_; rintro e w' ⟨rfl, rfl⟩)
  go_ret
  exact ⟨rfl, rfl⟩


theorem rTake_ok {l : List UInt8} {n : Nat} : rTake l 1 (n : Int) = if n ≤ l.length then (l.take n, l.drop n, 1) else ([], [], 2) := by
  simp [rTake]

set_option maxHeartbeats 1000000 in
theorem textR_any (g : Nat) (l : List UInt8) (st : Nat) (n : Int) (w : World) (h : RD w g l st) (hst : st = 1 ∨ st = 2) (hl : l.length ≤ 1099511627776) (hn : n ≤ 9223372036854775807) :
    Calls Try.prog 20 #[.pointer (some ⟨g, 0, none⟩), .int .i64 n] w (StrPost w g (rText l st n)) := by
  rcases hst with rfl | rfl
  · by_cases hok : okNum l = true
    · have hN := numOf_lt hok
      by_cases h0 : n < 0
      · have HX := Lib.hid (show rText l 1 n = ([], [], 2) by simp [rText]; intro _ hx; omega)
        have HO := Lib.hid hok
        clear hok
        go_enter Try.func20, Try.ntmps20
        go_wp2_with (first
          | (go_at_call 28; refine (readable_any g l 1 _ h (.inl rfl)).mono ?_; rintro e w' ⟨rfl, rfl⟩)
          | (go_at_call 29; refine (number_good g l _ h hl HO.out).mono ?_; rintro e w1 ⟨rfl, h1, g1⟩)
          | (go_at_call 30; refine (spoil_any g _ _ _ h1).mono ?_; rintro e w2 ⟨rfl, h2, g2⟩))
        go_ret
        rw [HX.out]
        exact ⟨rfl, h2, grown_trans g1 g2⟩
      · have h0' : 0 ≤ n := by omega
        by_cases h1n : (numOf l : Int) ≤ n
        · have HX := Lib.hid (show rText l 1 n = rTake (numRest l) 1 (numOf l : Nat) by simp [rText, hok]; intro hx; omega)
          have HO := Lib.hid hok
          have hlr := numRest_length l
          clear hok
          go_enter Try.func20, Try.ntmps20
          go_wp2_with (first
            | (go_at_call 28; refine (readable_any g l 1 _ h (.inl rfl)).mono ?_; rintro e w' ⟨rfl, rfl⟩)
            | (go_at_call 29; refine (number_good g l _ h hl HO.out).mono ?_; rintro e w1 ⟨rfl, h1, g1⟩)
            | (go_at_call 22; refine (takeR_any g _ 1 (numOf l : Nat) _ h1 (.inl rfl) (by omega)).mono ?_; rintro e w2 ⟨rfl, h2, g2⟩))
          go_ret
          rw [HX.out]
          exact ⟨rfl, h2, grown_trans g1 g2⟩
        · have HX := Lib.hid (show rText l 1 n = ([], [], 2) by simp [rText]; intro _ _ hx; omega)
          have HO := Lib.hid hok
          have h1n' : n < (numOf l : Int) := by omega
          clear hok
          go_enter Try.func20, Try.ntmps20
          go_wp2_with (first
            | (go_at_call 28; refine (readable_any g l 1 _ h (.inl rfl)).mono ?_; rintro e w' ⟨rfl, rfl⟩)
            | (go_at_call 29; refine (number_good g l _ h hl HO.out).mono ?_; rintro e w1 ⟨rfl, h1, g1⟩)
            | (go_at_call 30; refine (spoil_any g _ _ _ h1).mono ?_; rintro e w2 ⟨rfl, h2, g2⟩))
          go_ret
          rw [HX.out]
          exact ⟨rfl, h2, grown_trans g1 g2⟩
    · have hok' : okNum l = false := by simpa using hok
      have HX := Lib.hid (show rText l 1 n = ([], [], 2) by simp [rText, hok'])
      have HO := Lib.hid hok'
      clear hok hok'
      go_enter Try.func20, Try.ntmps20
      go_wp2_with (first
        | (go_at_call 28; refine (readable_any g l 1 _ h (.inl rfl)).mono ?_; rintro e w' ⟨rfl, rfl⟩)
        | (go_at_call 29; refine (number_bad g l _ h hl HO.out).mono ?_; rintro e w1 ⟨rfl, rfl⟩)
        | (go_at_call 30; refine (spoil_any g l 1 _ h).mono ?_; rintro e w1 ⟨rfl, h1, g1⟩))
      go_ret
      rw [HX.out]
      exact ⟨rfl, h1, g1⟩
  · have HX := Lib.hid (show rText l 2 n = ([], l, 2) by simp [rText])
    go_enter Try.func20, Try.ntmps20
    go_wp2_with (go_at_call 28; refine (readable_any g l 2 _ h (.inr rfl)).mono ?_; rintro e w' ⟨rfl, rfl⟩)
    go_ret
    rw [HX.out]
    exact ⟨rfl, h, grown_below g (Below.refl _ _)⟩

end Go.Proofs.Ytkabibbmaekkfaa
