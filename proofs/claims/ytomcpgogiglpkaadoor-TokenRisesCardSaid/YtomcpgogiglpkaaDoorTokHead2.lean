/-
  LAYER 11: the calls whose answers the document fixes: the walk.
-/
import Derived.Test.YtomcpgogiglpkaaDoorTokHead
namespace Go.Proofs.YtomcpgogiglpkaaDoor
open Go.RowKit

/-- Read, of a text whose tokens and fault are known. -/
theorem read_to {s : List UInt8} {L : List Tk} {e a : Nat} (h : told s = L ∧ flt s = (e, a)) (w : World) (hT : Tab w) :
    Calls Tryd.prog 9 #[.string (mk s)] w fun x w' => ∃ v, x = .returned (.tuple #[v, .agg #[.int .i64 (e : Int), .int .i64 (a : Int)]]) ∧ TkIn w' v L ∧ Below w.heap.size w w' := by
  refine (read_any s w hT).mono ?_
  rintro x w' ⟨v, rfl, hr, hb⟩
  rw [h.2]
  rw [h.1] at hr
  exact ⟨v, rfl, hr.in, hb⟩
theorem read_bad {s : List UInt8} {e a : Nat} (h : flt s = (e, a)) (w : World) (hT : Tab w) :
    Calls Tryd.prog 9 #[.string (mk s)] w fun x w' => ∃ v, x = .returned (.tuple #[v, .agg #[.int .i64 (e : Int), .int .i64 (a : Int)]]) ∧ Below w.heap.size w w' := by
  refine (read_any s w hT).mono ?_
  rintro x w' ⟨v, rfl, hr, hb⟩
  rw [h]
  exact ⟨v, rfl, hb⟩

/-- A fault, in a block of its own. -/
def Flt (W : World) (f : Nat) (e a : Int) : Prop := Blk W f #[.int .i64 e, .int .i64 a] 26
theorem Flt.stay {W W' : World} {f : Nat} {e a : Int} (h : Flt W f e a) (s : Below W.heap.size W W') : Flt W' f e a := Blk.stay h (Stay.of_below s)
/-- One more. -/
theorem flt_new {w w1 W : World} (b : Below w.heap.size w w1) (e a : Int) (hT : Tab w) (hW : w1.alloc (.cells #[.int .i64 e, .int .i64 a] 26) = W) :
    Flt W w1.heap.size e a ∧ Tab W ∧ Below w.heap.size w W ∧ Below w1.heap.size w1 W := by
  subst hW
  have b2 := b.alloc b.size (.cells #[.int .i64 e, .int .i64 a] 26)
  exact ⟨Blk.new _ _ _, hT.below b2, b2, (Below.refl _ _).alloc (Nat.le_refl _) _⟩

theorem head_one {W : World} {v : Value} (h : TkIn W v L1) : ∃ g p, v = .slice (some ⟨g, 0, none⟩) 4 p ∧ W.cell? ⟨g, 1, none⟩ = some (.string ⟨#[120, 49]⟩) ∧ W.cell? ⟨g, 4, none⟩ = some (.string ⟨#[60, 61]⟩) ∧
    W.cell? ⟨g, 7, none⟩ = some (.string ⟨#[50, 46, 53, 101, 51]⟩) ∧ W.cell? ⟨g, 6, none⟩ = some (.int .u8 2) ∧ W.cell? ⟨g, 11, none⟩ = some (.int .i64 9) := by
  obtain ⟨g, p, e, _, _, h01, _⟩ := h.block 0 _ rfl
  have same : ∀ {g' p'}, v = .slice (some ⟨g', 0, none⟩) L1.length p' → g' = g := fun e' => by rw [e] at e'; cases e'; rfl
  obtain ⟨_, _, e1, _, _, h11, _⟩ := h.block 1 _ rfl
  obtain ⟨_, _, e2, _, h20, h21, _⟩ := h.block 2 _ rfl
  obtain ⟨_, _, e3, _, _, _, h32⟩ := h.block 3 _ rfl
  rw [same e1] at h11
  rw [same e2] at h20 h21
  rw [same e3] at h32
  exact ⟨g, p, e, h01, h11, h21, h20, h32⟩
theorem head_two {W : World} {v : Value} (h : TkIn W v L2) : ∃ g p, v = .slice (some ⟨g, 0, none⟩) 3 p ∧ W.cell? ⟨g, 7, none⟩ = some (.string ⟨#[99]⟩) := by
  obtain ⟨g, p, e, _, _, h21, _⟩ := h.block 2 _ rfl
  exact ⟨g, p, e, h21⟩

set_option maxRecDepth 100000 in
set_option maxHeartbeats 4000000 in
theorem head_any (w : World) (hT : Tab w) : Calls Tryd.prog 8 #[] w fun e w' => e = .returned (.bool true) ∧ Below w.heap.size w w' := by
  have R1 : Hid (∀ w, Tab w → Calls Tryd.prog 9 #[.string ⟨#[120, 49, 60, 61, 50, 46, 53, 101, 51, 59]⟩] w fun x w' => ∃ v, x = .returned (.tuple #[v, .agg #[.int .i64 0, .int .i64 0]]) ∧ TkIn w' v L1 ∧ Below w.heap.size w w') := Lib.hid fun w h => read_to told1 w h
  have R2 : Hid (∀ w, Tab w → Calls Tryd.prog 9 #[.string ⟨#[97, 32, 47, 47, 32, 98, 10, 61, 61, 99]⟩] w fun x w' => ∃ v, x = .returned (.tuple #[v, .agg #[.int .i64 0, .int .i64 0]]) ∧ TkIn w' v L2 ∧ Below w.heap.size w w') := Lib.hid fun w h => read_to told2 w h
  have R3 : Hid (∀ w, Tab w → Calls Tryd.prog 9 #[.string ⟨#[49, 120]⟩] w fun x w' => ∃ v, x = .returned (.tuple #[v, .agg #[.int .i64 110, .int .i64 0]]) ∧ Below w.heap.size w w') := Lib.hid fun w h => read_bad told3 w h
  have R4 : Hid (∀ w, Tab w → Calls Tryd.prog 9 #[.string ⟨#[49, 101, 49, 50, 51, 52, 53]⟩] w fun x w' => ∃ v, x = .returned (.tuple #[v, .agg #[.int .i64 110, .int .i64 0]]) ∧ Below w.heap.size w w') := Lib.hid fun w h => read_bad told4 w h
  have R5 : Hid (∀ w, Calls Tryd.prog 12 #[.string ⟨#[97, 10, 98, 99]⟩, .int .i64 3] w fun e w' => e = .returned (.tuple #[.int .i64 2, .int .i64 2]) ∧ w = w') := Lib.hid fun w => by
    refine (place_any [97, 10, 98, 99] 3 w (by simp) (by omega) (by omega)).mono ?_
    rintro e w' ⟨rfl, rfl⟩
    exact ⟨by rw [show ([97, 10, 98, 99] : List UInt8).length = 4 from rfl, posn1]; rfl, rfl⟩
  go_enter Tryd.func8, Tryd.ntmps8
  go_wp2_with fail
  refine (R1.out _ hT).mono ?_
  rintro e w1 ⟨v1, rfl, i1, b1⟩
  go_wp2_with fail
  obtain ⟨f1, hf1⟩ : ∃ f, f = w1.heap.size := ⟨_, rfl⟩
  generalize hWa : w1.alloc (.cells #[.int .i64 0, .int .i64 0] 26) = Wa
  obtain ⟨f1a, Ta, ba, ca⟩ := flt_new b1 0 0 hT hWa
  rw [← hf1] at f1a ⊢
  have i1a := i1.stay ca
  clear hWa hf1 i1 b1 ca
  refine (R2.out _ Ta).mono ?_
  rintro e w2 ⟨v2, rfl, i2, b2⟩
  go_wp2_with fail
  obtain ⟨f2, hf2⟩ : ∃ f, f = w2.heap.size := ⟨_, rfl⟩
  generalize hWb : w2.alloc (.cells #[.int .i64 0, .int .i64 0] 26) = Wb
  obtain ⟨f2b, Tb, bb, cb⟩ := flt_new b2 0 0 Ta hWb
  rw [← hf2] at f2b ⊢
  have i2b := i2.stay cb
  have i1b := i1a.stay bb
  have f1b := f1a.stay bb
  have bwb := ba.trans (bb.mono ba.size)
  clear hWb hf2 i2 b2 cb i1a f1a ba bb Ta
  refine (R3.out _ Tb).mono ?_
  rintro e w3 ⟨v3, rfl, b3⟩
  go_wp2_with fail
  obtain ⟨f3, hf3⟩ : ∃ f, f = w3.heap.size := ⟨_, rfl⟩
  generalize hWc : w3.alloc (.cells #[.int .i64 110, .int .i64 0] 26) = Wc
  obtain ⟨f3c, Tc, bc, cc⟩ := flt_new b3 110 0 Tb hWc
  rw [← hf3] at f3c ⊢
  have i2c := i2b.stay bc
  have i1c := i1b.stay bc
  have f1c := f1b.stay bc
  have f2c := f2b.stay bc
  have bwc := bwb.trans (bc.mono bwb.size)
  clear hWc hf3 b3 cc i1b f1b i2b f2b bc bwb Tb
  refine (R4.out _ Tc).mono ?_
  rintro e w4 ⟨v4, rfl, b4⟩
  go_wp2_with fail
  obtain ⟨f4, hf4⟩ : ∃ f, f = w4.heap.size := ⟨_, rfl⟩
  generalize hWd : w4.alloc (.cells #[.int .i64 110, .int .i64 0] 26) = Wd
  obtain ⟨f4d, Td, bd, cd⟩ := flt_new b4 110 0 Tc hWd
  rw [← hf4] at f4d ⊢
  have i2d := i2c.stay bd
  have i1d := i1c.stay bd
  have f1d := f1c.stay bd
  have f2d := f2c.stay bd
  have f3d := f3c.stay bd
  have bwd := bwc.trans (bd.mono bwc.size)
  clear hWd hf4 b4 cd i1c f1c i2c f2c f3c bd bwc Tc Td
  obtain ⟨g1, p1, rfl, h01, h11, h21, h20, h32⟩ := head_one i1d
  obtain ⟨g2, p2, rfl, k21⟩ := head_two i2d
  have q1 := Blk.at f1d 0 (v := .int .i64 0) rfl
  have q2 := Blk.at f2d 0 (v := .int .i64 0) rfl
  have q30 := Blk.at f3d 0 (v := .int .i64 110) rfl
  have q31 := Blk.at f3d 1 (v := .int .i64 0) rfl
  have q40 := Blk.at f4d 0 (v := .int .i64 110) rfl
  have q41 := Blk.at f4d 1 (v := .int .i64 0) rfl
  clear i1d i2d f1d f2d f3d f4d
  refine (R5.out _).mono ?_
  rintro e w' ⟨rfl, rfl⟩
  go_wp2_with fail
  go_ret
  exact ⟨rfl, bwd⟩
end Go.Proofs.YtomcpgogiglpkaaDoor
