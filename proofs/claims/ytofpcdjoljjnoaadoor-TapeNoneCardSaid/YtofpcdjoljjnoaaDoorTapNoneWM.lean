/-
  LAYER 17: the laws: a maker that is none.
-/
import Derived.Test.YtofpcdjoljjnoaaDoorTapZ27
namespace Go.Proofs.YtofpcdjoljjnoaaDoor
open Go.RowKit Go.Maps

theorem tp_zero (W : World) : TpAt 2048 W ⟨0, 0, [], []⟩ (.slice none 0 0) (.slice none 0 0) := ⟨i64_zero, i64_zero, by decide, by decide, none, 0, none, 0, rfl, rfl, fun i x hx => by simp at hx, fun i x hx => by simp at hx⟩

def NoneRel (q y z : Nat) (cs : Array Value) (w : World) (i : Value) (wr : World) : Prop :=
  ∃ k : Nat, k ≤ 2 ∧ i = .int .i64 (k : Int) ∧ BlkOf wr q #[.pointer none] 59 ∧ BlkOf wr y #[.pointer none, .pointer (some ⟨q, 0, none⟩)] 23 ∧ BlkOf wr z cs 35 ∧ Grow w wr

set_option maxRecDepth 100000 in
set_option maxHeartbeats 8000000 in
theorem tnone_any {what op : Nat} {a b : Int} {s : Bool} {A B : Option Addr} {n k ca cb : Nat} {w : World} (hn : n ≤ 9223372036854775807) (hk : k ≤ 9223372036854775807) (ht : Tab w) :
    Calls Tryd.prog 5 #[.agg #[.int .u8 (what : Int), .int .u8 (op : Int), .int .i64 a, .int .i64 b, .bool s, .slice A n ca, .slice B k cb]] w (Just (.bool true) w) := by
  obtain ⟨cs, hcs⟩ : ∃ cs : Array Value, cs = #[.int .u8 (what : Int), .int .u8 (op : Int), .int .i64 a, .int .i64 b, .bool s, .slice A n ca, .slice B k cb] := ⟨_, rfl⟩
  obtain ⟨W1, hW1⟩ : ∃ W1, W1 = w.alloc (.cells #[.int .u8 (what : Int), .int .u8 (op : Int), .int .i64 a, .int .i64 b, .bool s, .slice A n ca, .slice B k cb] 35) := ⟨_, rfl⟩
  have b0 : BlkOf W1 w.heap.size #[.int .u8 (what : Int), .int .u8 (op : Int), .int .i64 a, .int .i64 b, .bool s, .slice A n ca, .slice B k cb] 35 := by rw [hW1]; exact BlkOf.new w _ _
  have hg1 : Grow w W1 := by rw [hW1]; exact Grow.alloc _ _
  have HS := Lib.hid (small_any s A B n k ca cb W1 hn hk)
  have HH := Lib.hid (fun W (hW : Grow w W) => head_any W (ht.grow hW))
  have HB := Lib.hid b0
  have HG1 := Lib.hid hg1
  have HSZ : Hid (∀ W, Calls Tryd.prog 17 #[.agg #[.int .i64 0, .int .i64 0, .slice none 0 0, .slice none 0 0], .agg #[.int .i64 0, .int .i64 0, .slice none 0 0, .slice none 0 0]] W (Just (.bool true) W)) := Lib.hid (fun W => tsame_any (tp_zero W) (tp_zero W) (by decide))
  have c4 := b0.at 4 rfl
  have c5 := b0.at 5 rfl
  have c6 := b0.at 6 rfl
  subst hW1
  clear ht b0 hg1
  by_cases hs : (decide (n ≤ 3) && decide (k ≤ 3)) = true
  · rw [hs] at HS
    go_enter Tryd.func5, Tryd.ntmps5
    go_wp2_with (first | (go_at_call 9; refine HS.out.mono ?_) | fail)
    rintro e w2 ⟨rfl, hg2⟩
    have HB2 := Lib.hid (HB.out.below hg2 HB.out.lt)
    have HG2 := Lib.hid (Grow.trans HG1.out hg2)
    clear hg2 c4 c5 c6
    obtain ⟨q, hq⟩ : ∃ q, q = w2.heap.size := ⟨_, rfl⟩
    have HREL : Hid (NoneRel w2.heap.size (w2.heap.size + 1) w.heap.size #[.int .u8 (what : Int), .int .u8 (op : Int), .int .i64 a, .int .i64 b, .bool s, .slice A n ca, .slice B k cb] w (.int .i64 0) ((w2.alloc (.cells #[.pointer none] 59)).alloc (.cells #[.pointer none, .pointer (some ⟨w2.heap.size, 0, none⟩)] 23))) := Lib.hid
      ⟨0, by omega, rfl, (BlkOf.new w2 _ _).alloc _, BlkOf.news (by simp) _ _, (HB2.out.alloc _).alloc _, HG2.out.trans (Grow.trans (Grow.alloc _ _) (Grow.alloc _ _))⟩
    go_wp2_with fail
    go_loopw [5] (fun i wr => NoneRel w2.heap.size (w2.heap.size + 1) w.heap.size #[.int .u8 (what : Int), .int .u8 (op : Int), .int .i64 a, .int .i64 b, .bool s, .slice A n ca, .slice B k cb] w i wr) (fun i _ => 2 - (intOf i).toNat)
    case atStart => exact HREL.out
    case round =>
      obtain ⟨j, hj, rfl, hqb, hyb, hzb, hgr⟩ := hrel
      have hj3 : j = 0 ∨ j = 1 ∨ j = 2 := by omega
      have HQ := Lib.hid hqb
      have HY := Lib.hid hyb
      have HZ := Lib.hid hzb
      have HGR := Lib.hid hgr
      have HN0 : Hid (∀ W, NoMk W (.pointer none)) := Lib.hid (fun _ => .inl rfl)
      have HN1 : Hid (∀ W, Grow wr W → NoMk W (.pointer (some ⟨w2.heap.size, 0, none⟩))) := Lib.hid (fun W hW => .inr ⟨_, rfl, (hqb.below hW hqb.lt).at 0 rfl⟩)
      have y0 := hyb.at 0 rfl
      have y1 := hyb.at 1 rfl
      have z1 := hzb.at 1 rfl
      have z2 := hzb.at 2 rfl
      have z3 := hzb.at 3 rfl
      have z4 := hzb.at 4 rfl
      have z5 := hzb.at 5 rfl
      have z6 := hzb.at 6 rfl
      clear hj hqb hyb hzb hgr
      rcases hj3 with rfl | rfl | rfl
      · go_wp2_with (first | (go_at_call 11; refine (num_none (HN0.out _)).mono ?_) | fail)
        rintro e w3 ⟨rfl, hg3⟩
        have HG3 := Lib.hid hg3
        have HZ3 := Lib.hid (HZ.out.below hg3 HZ.out.lt)
        clear z1 z2 z3 z4 z5 z6 y0 y1 hg3
        have z1 := HZ3.out.at 1 rfl
        have z2 := HZ3.out.at 2 rfl
        have z3 := HZ3.out.at 3 rfl
        go_wp2_with (first | (go_at_call 14; refine (par_none (HN0.out _)).mono ?_; rintro e w4 ⟨rfl, rfl⟩) | fail)
        go_wp2_with (first | (go_at_call 12; refine (one_none (HN0.out _)).mono ?_) | fail)
        rintro e w4 ⟨rfl, hg4⟩
        have HG4 := Lib.hid (Grow.trans HG3.out hg4)
        have HZ4 := Lib.hid (HZ3.out.below hg4 HZ3.out.lt)
        clear z1 z2 z3 hg4
        have z1 := HZ4.out.at 1 rfl
        have z2 := HZ4.out.at 2 rfl
        have z3 := HZ4.out.at 3 rfl
        go_wp2_with (first | (go_at_call 13; refine (two_none (HN0.out _)).mono ?_) | fail)
        rintro e w5 ⟨rfl, hg5⟩
        have HG5 := Lib.hid (Grow.trans HG4.out hg5)
        have HZ5 := Lib.hid (HZ4.out.below hg5 HZ4.out.lt)
        clear z1 z2 z3 hg5
        have z2 := HZ5.out.at 2 rfl
        go_wp2_with (first | (go_at_call 15; refine (tape_none (HN0.out _)).mono ?_) | fail)
        rintro e w6 ⟨rfl, hg6⟩
        have HG6 := Lib.hid (Grow.trans HG5.out hg6)
        have HZ6 := Lib.hid (HZ5.out.below hg6 HZ5.out.lt)
        clear z2 hg6
        go_wp2_with (first | (go_at_call 10; refine (len_none (HN0.out _)).mono ?_; rintro e w7 ⟨rfl, rfl⟩) | fail)
        go_wp2_with (first | (go_at_call 17; refine (HSZ.out _).mono ?_) | fail)
        rintro e w8 ⟨rfl, hg8⟩
        have HG8 := Lib.hid (Grow.trans HG6.out (Grow.trans (Grow.alloc _ _) hg8))
        clear hg8
        go_wp2_with fail
        go_roundw
        case rel => exact ⟨1, by omega, rfl, HQ.out.below HG8.out HQ.out.lt, HY.out.below HG8.out HY.out.lt, HZ.out.below HG8.out HZ.out.lt, HGR.out.trans HG8.out⟩
        case measure => simp [intOf]
      · go_wp2_with (first | (go_at_call 11; refine (num_none (HN1.out _ (Below.refl _ _))).mono ?_) | fail)
        rintro e w3 ⟨rfl, hg3⟩
        have HG3 := Lib.hid hg3
        have HZ3 := Lib.hid (HZ.out.below hg3 HZ.out.lt)
        clear z1 z2 z3 z4 z5 z6 y0 y1 hg3
        have z1 := HZ3.out.at 1 rfl
        have z2 := HZ3.out.at 2 rfl
        have z3 := HZ3.out.at 3 rfl
        go_wp2_with (first | (go_at_call 14; refine (par_none (HN1.out _ (HG3.out))).mono ?_; rintro e w4 ⟨rfl, rfl⟩) | fail)
        go_wp2_with (first | (go_at_call 12; refine (one_none (HN1.out _ (HG3.out))).mono ?_) | fail)
        rintro e w4 ⟨rfl, hg4⟩
        have HG4 := Lib.hid (Grow.trans HG3.out hg4)
        have HZ4 := Lib.hid (HZ3.out.below hg4 HZ3.out.lt)
        clear z1 z2 z3 hg4
        have z1 := HZ4.out.at 1 rfl
        have z2 := HZ4.out.at 2 rfl
        have z3 := HZ4.out.at 3 rfl
        go_wp2_with (first | (go_at_call 13; refine (two_none (HN1.out _ (HG4.out))).mono ?_) | fail)
        rintro e w5 ⟨rfl, hg5⟩
        have HG5 := Lib.hid (Grow.trans HG4.out hg5)
        have HZ5 := Lib.hid (HZ4.out.below hg5 HZ4.out.lt)
        clear z1 z2 z3 hg5
        have z2 := HZ5.out.at 2 rfl
        go_wp2_with (first | (go_at_call 15; refine (tape_none (HN1.out _ (HG5.out))).mono ?_) | fail)
        rintro e w6 ⟨rfl, hg6⟩
        have HG6 := Lib.hid (Grow.trans HG5.out hg6)
        have HZ6 := Lib.hid (HZ5.out.below hg6 HZ5.out.lt)
        clear z2 hg6
        go_wp2_with (first | (go_at_call 10; refine (len_none (HN1.out _ (Grow.trans HG6.out (Grow.alloc _ _)))).mono ?_; rintro e w7 ⟨rfl, rfl⟩) | fail)
        go_wp2_with (first | (go_at_call 17; refine (HSZ.out _).mono ?_) | fail)
        rintro e w8 ⟨rfl, hg8⟩
        have HG8 := Lib.hid (Grow.trans HG6.out (Grow.trans (Grow.alloc _ _) hg8))
        clear hg8
        go_wp2_with fail
        go_roundw
        case rel => exact ⟨2, by omega, rfl, HQ.out.below HG8.out HQ.out.lt, HY.out.below HG8.out HY.out.lt, HZ.out.below HG8.out HZ.out.lt, HGR.out.trans HG8.out⟩
        case measure => simp [intOf]
      · clear z1 z2 z3 z4 z5 z6 y0 y1
        go_wp2_with (first | (go_at_call 8; refine (HH.out _ HGR.out).mono ?_) | fail)
        rintro e w3 ⟨rfl, hg3⟩
        have HG3 := Lib.hid (Grow.trans HGR.out hg3)
        clear hg3
        go_wp2_with fail
        go_ret
        exact ⟨rfl, HG3.out⟩
  · have hs' : (decide (n ≤ 3) && decide (k ≤ 3)) = false := by simpa using hs
    rw [hs'] at HS
    go_enter Tryd.func5, Tryd.ntmps5
    go_wp2_with (first | (go_at_call 9; refine HS.out.mono ?_) | fail)
    rintro e w2 ⟨rfl, hg2⟩
    have HG2 := Lib.hid (Grow.trans HG1.out hg2)
    clear hg2 c4 c5 c6
    go_wp2_with (first | (go_at_call 8; refine (HH.out _ HG2.out).mono ?_) | fail)
    rintro e w3 ⟨rfl, hg3⟩
    have HG3 := Lib.hid (Grow.trans HG2.out hg3)
    clear hg3
    go_wp2_with fail
    go_ret
    exact ⟨rfl, HG3.out⟩
end Go.Proofs.YtofpcdjoljjnoaaDoor
