/-
  The texts TapTape2, TapTSame, TapHeadM, one behind the other.
-/
import Derived.Test.YtofpcdjoljjnoaaGreatDoorTapZ19
import Derived.Test.YtofpcdjoljjnoaaGreatDoorTapZ16

namespace Go.Proofs.YtofpcdjoljjnoaaGreatDoor
open Go.RowKit Go.Maps

/-- Does the tape exist that a maker is asked? -/
def existB (S : MkS) (out : Int) (T : List (List UInt8 × Int)) : Bool := tellsB (S.l.length : Int) T && (decide (0 ≤ out) && decide (out < (S.l.length : Int)))
/-- What is new since. -/
def newIn (w w' : World) : Nat → Prop := fun k => w.heap.size ≤ k ∧ k < w'.heap.size
/-- What Tape tells. -/
def TapePost (S : MkS) (out : Int) (T : List (List UInt8 × Int)) (w : World) (e : Ending) (w' : World) : Prop :=
  (existB S out T = true ∧ ∃ vN vT, e = .returned (.tuple #[.agg #[.int .i64 (S.pars : Int), .int .i64 out, vN, vT], .int .i64 0]) ∧ NdsIn (newIn w w') w' vN S.l ∧ TlsIn (newIn w w') w' vT T ∧ Grow w w') ∨
  (existB S out T = false ∧ e = .returned (.tuple #[.agg #[.int .i64 0, .int .i64 0, .slice none 0 0, .slice none 0 0], .int .i64 2]) ∧ Grow w w')

/-- The first loop. -/
def TapeRel (S : MkS) (out : Int) (z g : Nat) (w : World) (i : Value) (W : World) : Prop :=
  ∃ k, k ≤ S.l.length ∧ i = .int .i64 (k : Int) ∧ ∃ vN, BlkOf W z #[.int .i64 0, .int .i64 0, .slice none 0 0, .slice none 0 0] 25 ∧
    BlkOf W g #[.int .i64 (S.pars : Int), .int .i64 out, vN, .slice none 0 0] 25 ∧ NdsIn (newIn w W) W vN (S.l.take k) ∧ Grow w W
/-- The second. -/
def TapeRel2 (S : MkS) (out : Int) (T : List (List UInt8 × Int)) (z g : Nat) (w : World) (i : Value) (W : World) : Prop :=
  ∃ k, k ≤ T.length ∧ i = .int .i64 (k : Int) ∧ ∃ vN vT, BlkOf W z #[.int .i64 0, .int .i64 0, .slice none 0 0, .slice none 0 0] 25 ∧
    BlkOf W g #[.int .i64 (S.pars : Int), .int .i64 out, vN, vT] 25 ∧ NdsIn (newIn w W) W vN S.l ∧ TlsIn (newIn w W) W vT (T.take k) ∧ Grow w W

theorem info_tell : (Tryz.prog.info? 63).map (fun i => (i.zero, i.size, i.bytes)) = some (some (.agg #[.string ⟨#[]⟩, .int .i64 0]), 2, 24) := by kernel_rfl

set_option maxRecDepth 100000 in
set_option maxHeartbeats 8000000 in
theorem tape_some {P : Nat → Prop} {w : World} {m : Value} {S : MkS} {out : Int} {A : Option Addr} {cap : Nat} {T : List (List UInt8 × Int)} (h : MkAt P w m S) (ho : I64 out) (hT : TlsAt w A T) (hTn : T.length ≤ 1099511627776) (hTl : ∀ x ∈ T, x.1.length ≤ 1099511627776) :
    Calls Tryz.prog 24 #[m, .int .i64 out, .slice A T.length cap] w (TapePost S out T w) := by
  obtain ⟨W1, hW1⟩ : ∃ W1, W1 = w.alloc (.cells #[.int .i64 0, .int .i64 0, .slice none 0 0, .slice none 0 0] 25) := ⟨_, rfl⟩
  have b0 : BlkOf W1 w.heap.size #[.int .i64 0, .int .i64 0, .slice none 0 0, .slice none 0 0] 25 := by rw [hW1]; exact BlkOf.new w _ _
  have hbw : Grow w W1 := by rw [hW1]; exact Grow.alloc w _
  have HNO := Lib.hid (isnone_some (h.grow hbw))
  obtain ⟨pm, pr, rfl, hPm, hpm, hrow, hgood⟩ := h
  obtain ⟨mb, vN, hPr, hPmb, hblk, hnds, _, _⟩ := hrow
  obtain ⟨AN, cN, rfl, hat⟩ := hnds.form
  obtain ⟨N, hN⟩ : ∃ N, N = S.l.length := ⟨_, rfl⟩
  obtain ⟨M, hM⟩ : ∃ M, M = T.length := ⟨_, rfl⟩
  rw [← hN] at hblk
  rw [← hM]
  have hNI : (N : Int) ≤ 20000 := by have := hgood.2.2.2.1; have := hgood.2.1; omega
  have hPI : (S.pars : Int) ≤ 200 := by have := hgood.2.2.1; omega
  obtain ⟨ok, hok⟩ : ∃ ok, ok = existB S out T := ⟨_, rfl⟩
  have hex := fun W (hW : Grow W1 W) => exist_any (w := W) A cap T (N : Int) out hTn (hT.grow (hbw.trans hW)) (by constructor <;> omega) ho
  rw [show (tellsB (N : Int) T && (decide (0 ≤ out) && decide (out < (N : Int)))) = ok by rw [hok, hN]; rfl, ← hM] at hex
  have KC : Hid (∀ W, Grow w W → W.cell? ⟨pm, 0, none⟩ = some (.pointer (some ⟨pr, 0, none⟩)) ∧ W.cell? ⟨pr, 1, none⟩ = some (.int .i64 (S.pars : Int)) ∧ W.cell? ⟨pr, 2, none⟩ = some (.slice AN N cN)) := Lib.hid fun W hW => by
    have q2 := hpm.below hW hpm.lt
    have q3 := hblk.below hW hblk.lt
    exact ⟨q2.at 0 rfl, q3.at 1 rfl, q3.at 2 rfl⟩
  obtain ⟨c0, c1, c2⟩ := KC.out W1 hbw
  have HEX := Lib.hid hex
  have HOK := Lib.hid hok
  have HB := Lib.hid b0
  have HBW := Lib.hid hbw
  have HN := Lib.hid hN
  have HM := Lib.hid hM
  have HAT := Lib.hid hat
  have HT := Lib.hid (And.intro hT hTl)
  have hMI : (M : Int) ≤ 1099511627776 := by omega
  have HW1 := Lib.hid hW1
  clear hex hok b0 hbw hN hM hat hT hTl hTn hblk hnds hpm hgood ho
  cases ok with
  | false =>
    subst hW1
    go_enter Tryz.func24, Tryz.ntmps24
    go_wp2_with (first
      | (go_at_call 37; refine HNO.out.mono ?_; rintro e w3 ⟨rfl, rfl⟩)
      | (go_at_call 46; refine (HEX.out _ (Grow.refl _)).mono ?_)
      | fail)
    rintro e w3 ⟨rfl, hb3⟩
    have b3 := HB.out.below hb3 HB.out.lt
    have d0 := b3.at 0 rfl
    have d1 := b3.at 1 rfl
    have d2 := b3.at 2 rfl
    have d3 := b3.at 3 rfl
    have f0 := b3.free
    have HB3 := Lib.hid ((((b3.set 0 (.int .i64 0)).set 1 (.int .i64 0)).set 2 (.slice none 0 0)).set 3 (.slice none 0 0))
    have HG := Lib.hid (HBW.out.trans hb3)
    clear b3 hb3 c0 c1 c2
    go_wp2_with fail
    refine post_cell_tmp rfl (g := w.heap.size) rfl HB3.out Tryz.underlying25 rfl (by kernel_rfl) ?_
    exact .inr ⟨HOK.out.symm, rfl, (((Below.setCell HG.out (p := ⟨w.heap.size, 0, none⟩) (Nat.le_refl _) _).setCell (p := ⟨w.heap.size, 1, none⟩) (Nat.le_refl _) _).setCell (p := ⟨w.heap.size, 2, none⟩) (Nat.le_refl _) _).setCell (p := ⟨w.heap.size, 3, none⟩) (Nat.le_refl _) _⟩
  | true =>
    subst hW1
    go_enter Tryz.func24, Tryz.ntmps24
    go_wp2_with (first
      | (go_at_call 37; refine HNO.out.mono ?_; rintro e w3 ⟨rfl, rfl⟩)
      | (go_at_call 46; refine (HEX.out _ (Grow.refl _)).mono ?_)
      | fail)
    rintro e w3 ⟨rfl, hb3⟩
    have b3 := HB.out.below hb3 HB.out.lt
    have hg3 := HBW.out.trans hb3
    clear c0 c1 c2
    obtain ⟨c0, c1, c2⟩ := KC.out w3 hg3
    have HB3 := Lib.hid b3
    have HG3 := Lib.hid hg3
    clear b3 hg3 hb3
    have k0 := fun o => (KC.out (w3.alloc o) (Grow.trans HG3.out (Grow.alloc w3 o))).1
    have k2 := fun o => (KC.out (w3.alloc o) (Grow.trans HG3.out (Grow.alloc w3 o))).2.2
    go_wp2_with fail
    obtain ⟨W4, hW4⟩ : ∃ W4, W4 = w3.alloc (.cells #[.int .i64 (S.pars : Int), .int .i64 out, .slice none 0 0, .slice none 0 0] 25) := ⟨_, rfl⟩
    have hz4 : BlkOf W4 w.heap.size #[.int .i64 0, .int .i64 0, .slice none 0 0, .slice none 0 0] 25 := by rw [hW4]; exact HB3.out.alloc _
    have hg4 : BlkOf W4 w3.heap.size #[.int .i64 (S.pars : Int), .int .i64 out, .slice none 0 0, .slice none 0 0] 25 := by rw [hW4]; exact BlkOf.new w3 _ _
    have hgr4 : Grow w W4 := Grow.trans HG3.out (by rw [hW4]; exact Grow.alloc w3 _)
    obtain ⟨g, hg⟩ : ∃ g, g = w3.heap.size := ⟨_, rfl⟩
    rw [← hg] at hg4 ⊢
    rw [← hW4]
    have hzg : w.heap.size < g := by rw [hg]; exact HB3.out.lt
    have HS : Hid (TapeRel S out w.heap.size g w (.int .i64 0) W4) := Lib.hid ⟨0, Nat.zero_le _, rfl, .slice none 0 0, hz4, hg4, NdsIn.nil _ _, hgr4⟩
    have HZG := Lib.hid hzg
    clear hz4 hg4 hgr4 hW4 hg k0 k2 c0 c1 c2 HB3 HG3 hzg
    go_loopw [48] (fun i wr => TapeRel S out w.heap.size g w i wr) (fun i _ => N - (intOf i).toNat)
    case atStart => exact HS.out
    case round =>
      obtain ⟨k, hk, rfl, vN, hz, hg, hn, hgr⟩ := hrel
      have hkN : k ≤ N := by rw [HN.out]; exact hk
      have HZ := Lib.hid hz
      have HGB := Lib.hid hg
      have HNS := Lib.hid hn
      have HGR := Lib.hid hgr
      by_cases hlt : k < N
      · have hltI : (k : Int) < (N : Int) := by omega
        obtain ⟨x, hx⟩ : ∃ x, S.l[k]? = some x := ⟨_, List.getElem?_eq_getElem (by have := HN.out; omega)⟩
        obtain ⟨b, off, un, ud, rfl, hc, hok⟩ := HAT.out.grow hgr k x hx
        have d0 := hc 0 _ rfl
        have d1 := hc 1 _ rfl
        have d2 := hc 2 _ rfl
        have d3 := hc 3 _ rfl
        have d4 := hc 4 _ rfl
        have d5 := hc 5 _ rfl
        rw [Nat.add_zero] at d0
        have HOK1 := Lib.hid hok
        obtain ⟨⟨na, cna, rfl, _, _, _, _⟩, ⟨nd, cnd, rfl, _, _, _, _⟩, hl1, hl2⟩ := hok.2.2.2
        obtain ⟨op, xa, xb, s, L1, L2⟩ := x
        dsimp only at *
        obtain ⟨nw, hnw⟩ : ∃ nw, nw = wr.alloc (.cells #[.int .u8 (op : Int), .int .i64 xa, .int .i64 xb, .bool s, .slice na L1.length cna, .slice nd L2.length cnd] 71) := ⟨_, rfl⟩
        have bn : BlkOf nw wr.heap.size #[.int .u8 (op : Int), .int .i64 xa, .int .i64 xb, .bool s, .slice na L1.length cna, .slice nd L2.length cnd] 71 := by rw [hnw]; exact BlkOf.new wr _ _
        have hgn : Grow wr nw := by rw [hnw]; exact Grow.alloc _ _
        have hcp := copied_any (s := s) (HOK1.out.2.2.2.1.grow hgn) (HOK1.out.2.2.2.2.1.grow hgn) hl1 hl2
        have HCP := Lib.hid hcp
        have HBN := Lib.hid bn
        have HGN := Lib.hid hgn
        have HX := Lib.hid hx
        subst hnw
        clear hc hok hcp bn hgn hz hg hn hgr hl1 hl2 hx hk
        go_wp2_with (first | (go_at_call 47; refine HCP.out.mono ?_) | fail)
        rintro e w4 ⟨x', cx, y', cy, rfl, hx', hy', hgr4⟩
        have hgw4 : Grow wr w4 := Grow.trans HGN.out hgr4
        have hn4 := HBN.out.below hgr4 HBN.out.lt
        obtain ⟨nb, hnb⟩ : ∃ nb, nb = wr.heap.size := ⟨_, rfl⟩
        rw [← hnb] at hn4 ⊢
        have hg4 := HGB.out.below hgw4 HGB.out.lt
        have hz4 := HZ.out.below hgw4 HZ.out.lt
        have hgnb : g < nb := by rw [hnb]; exact HGB.out.lt
        have hn5 := ((hn4.set 3 (.bool s)).set 4 (.slice x' L1.length cx)).set 5 (.slice y' L2.length cy)
        have hgw5 : Grow wr (((w4.setCell ⟨nb, 3, none⟩ (.bool s)).setCell ⟨nb, 4, none⟩ (.slice x' L1.length cx)).setCell ⟨nb, 5, none⟩ (.slice y' L2.length cy)) :=
          ((Below.setCell hgw4 (p := ⟨nb, 3, none⟩) (Nat.le_of_eq hnb.symm) _).setCell (p := ⟨nb, 4, none⟩) (Nat.le_of_eq hnb.symm) _).setCell (p := ⟨nb, 5, none⟩) (Nat.le_of_eq hnb.symm) _
        have hg5 := HGB.out.below hgw5 HGB.out.lt
        have hk5 : Kin [100] w4 (((w4.setCell ⟨nb, 3, none⟩ (.bool s)).setCell ⟨nb, 4, none⟩ (.slice x' L1.length cx)).setCell ⟨nb, 5, none⟩ (.slice y' L2.length cy)) :=
          ((Kin.set hn4 (by decide) _).trans (Kin.set (hn4.set 3 _) (by decide) _)).trans (Kin.set ((hn4.set 3 _).set 4 _) (by decide) _)
        obtain ⟨W5, hW5⟩ : ∃ W5, W5 = ((w4.setCell ⟨nb, 3, none⟩ (.bool s)).setCell ⟨nb, 4, none⟩ (.slice x' L1.length cx)).setCell ⟨nb, 5, none⟩ (.slice y' L2.length cy) := ⟨_, rfl⟩
        rw [← hW5] at hn5 hgw5 hg5 hk5
        have HW5 := Lib.hid hW5
        have H5 := Lib.hid (And.intro hn5 (And.intro hgw5 (And.intro hg5 hk5)))
        have H4 := Lib.hid (And.intro hx' (And.intro hy' hgr4))
        have c3 := hn4.at 3 rfl
        have c4 := hn4.at 4 rfl
        have c5 := hn4.at 5 rfl
        have z4 := hn4.free
        have e0 := hn5.at 0 rfl
        have e1 := hn5.at 1 rfl
        have e2 := hn5.at 2 rfl
        have e3 := hn5.at 3 rfl
        have e4 := hn5.at 4 rfl
        have e5 := hn5.at 5 rfl
        have g5 := hg5.at 2 rfl
        rw [hW5] at e0 e1 e2 e3 e4 e5 g5
        have HNB := Lib.hid hnb
        have HGNB := Lib.hid hgnb
        clear hgw4 hn4 hg4 hz4 hn5 hgw5 hg5 hk5 hx' hy' hgr4 d0 d1 d2 d3 d4 d5 hW5 hnb hgnb
        obtain ⟨i0, hi, hi0, hi1, hi2⟩ := info_parts info_node
        obtain ⟨vs, hvs, hown, hoin, hndin⟩ := HNS.out
        have hlen : (S.l.take k).length = k := by rw [List.length_take]; have := HN.out; omega
        rw [hlen] at hown hvs
        have hsz5 : W5.heap.size = w4.heap.size := by rw [HW5.out]; simp [World.setCell]
        obtain ⟨W6, hW6⟩ : ∃ W6, W6 = W5.alloc (.cells #[.int .u8 (op : Int), .int .i64 xa, .int .i64 xb, .bool s, .slice x' L1.length cx, .slice y' L2.length cy] 71) := ⟨_, rfl⟩
        have h56 : Grow W5 W6 := by rw [hW6]; exact Grow.alloc _ _
        have h6 : Grow wr W6 := Grow.trans H5.out.2.1 h56
        have hb6 : BlkOf W6 w4.heap.size #[.int .u8 (op : Int), .int .i64 xa, .int .i64 xb, .bool s, .slice x' L1.length cx, .slice y' L2.length cy] 71 := by rw [hW6, ← hsz5]; exact BlkOf.new _ _ _
        have hown6 := ownsRow_kin (ts := [71]) hown (Kin.of_grow h6) (by decide)
        have hnews6 : ∀ j u, (ndCells ⟨op, xa, xb, s, L1, L2⟩ (.slice x' L1.length cx) (.slice y' L2.length cy))[j]? = some u → W6.cell? ((⟨w4.heap.size, 0, none⟩ : Addr).add j) = some u := fun j u hu => by
          have hj : j < 6 := by have := (List.getElem?_eq_some_iff.1 hu).1; rwa [ndCells_length] at this
          rw [Addr.add_mid, Nat.zero_add, hb6.cell j]
          have : (ndCells ⟨op, xa, xb, s, L1, L2⟩ (.slice x' L1.length cx) (.slice y' L2.length cy))[j]? = (#[.int .u8 (op : Int), .int .i64 xa, .int .i64 xb, .bool s, .slice x' L1.length cx, .slice y' L2.length cy] : Array Value)[j]? := by simp [ndCells]
          rw [← this]; exact hu
        have hone6 : ∀ u ∈ ndCells ⟨op, xa, xb, s, L1, L2⟩ (.slice x' L1.length cx) (.slice y' L2.length cy), u.oneCell' = true := fun u hu => by
          simp only [ndCells, List.mem_cons, List.not_mem_nil, or_false] at hu
          rcases hu with rfl | rfl | rfl | rfl | rfl | rfl <;> rfl
        have hg6 := H5.out.2.2.1.below h56 H5.out.2.2.1.lt
        have HO6 := Lib.hid hown6
        have HN6 := Lib.hid hnews6
        have HE6 := Lib.hid hone6
        have HG6 := Lib.hid hg6
        have H6 := Lib.hid (And.intro h56 h6)
        have HW6 := Lib.hid hW6
        have HVS := Lib.hid (And.intro hvs (And.intro hoin (And.intro hndin hlen)))
        clear hvs hown hoin hndin hlen h56 h6 hb6 hown6 hnews6 hone6 hg6 hW6 hsz5
        go_wp2_with (first
          | (at_builtin
             rw [← HW5.out, ← HW6.out]
             refine wpList_append_own_at _ rfl (.tmp 57) (.tmp 59) 22 rfl 0 71 i0 _ 6 80 Tryz.underlying22 hi hi0 hi1 hi2 rfl (by omega) vN k _ rfl HO6.out ⟨w4.heap.size, 0, none⟩ 1 1 _ rfl rfl HN6.out HE6.out (by unfold maxLen; omega) (by omega) (Nat.zero_le _) ?_
             intro v7 w7 hown7 hgb7 _ hblk7
             obtain ⟨A7, c7, rfl⟩ : ∃ A7 c7, v7 = .slice A7 (k + 1) c7 := by
               rcases hown7.2 with ⟨e, he⟩ | ⟨g', cap', cur, e, _⟩
               · omega
               · exact ⟨_, _, e⟩
             have hk7 : Kin [100, 25] W6 w7 := Kin.grown hgb7 (fun g' hg' => by
               obtain ⟨_, _, cur, hc⟩ := ownsRow_own HO6.out hg'
               exact ⟨cur, _, hc, by decide⟩)
             have hg7 := hk7 _ _ _ HG6.out (by decide)
             have q2 := hg7.at 2 rfl
             have f2 := hg7.free 2
             have H7 := Lib.hid (And.intro hown7 (And.intro hgb7 (And.intro hblk7 (And.intro hk7 hg7))))
             clear hown7 hgb7 hblk7 hk7 hg7)
          | fail)
        obtain ⟨hown7, hgb7, hblk7, hk7, hg7⟩ := H7.out
        obtain ⟨h56, h6⟩ := H6.out
        obtain ⟨hn5, hgw5, hg5, hk5⟩ := H5.out
        obtain ⟨hx', hy', hgr4⟩ := H4.out
        obtain ⟨hvs, hoin, hndin, hlen⟩ := HVS.out
        obtain ⟨w8, hw8⟩ : ∃ w8, w8 = w7.setCell ⟨g, 2, none⟩ (.slice A7 (k + 1) c7) := ⟨_, rfl⟩
        rw [← hw8]
        have hz7 := hk7 _ _ _ (HZ.out.below h6 HZ.out.lt) (by decide)
        have hz8 : BlkOf w8 w.heap.size #[.int .i64 0, .int .i64 0, .slice none 0 0, .slice none 0 0] 25 := by
          rw [hw8]; exact hz7.other (p := ⟨g, 2, none⟩) (by show g ≠ w.heap.size; have := HZG.out; omega) _
        have hg8 := hg7.set 2 (.slice A7 (k + 1) c7)
        rw [← hw8] at hg8
        have hs8 : w8.heap.size = w7.heap.size := by rw [hw8, size_set]
        have hgr7 : Grow w w7 := (Grow.trans HGR.out h6).grown hgb7 (Below.size (Grow.trans HGR.out h6)) (fun j hj => (hoin j hj).1)
        have hgr8 : Grow w w8 := by rw [hw8]; exact Below.setCell hgr7 (p := ⟨g, 2, none⟩) (Nat.le_of_lt HZG.out) _
        have k48 : Kin [100] w4 w8 := (hk5.trans (Kin.of_grow h56)).trans (Kin.trans (fun b cs t hb ht => hk7 b cs t hb (by simp at ht ⊢; exact .inl ht)) (by rw [hw8]; exact Kin.set hg7 (by decide) _))
        have kr8 : Kin [100] wr w8 := (Kin.of_grow (Grow.trans HGN.out hgr4)).trans k48
        have hs7 : w.heap.size ≤ wr.heap.size ∧ wr.heap.size ≤ w4.heap.size ∧ wr.heap.size ≤ W6.heap.size ∧ W6.heap.size ≤ w7.heap.size ∧ w4.heap.size ≤ w7.heap.size :=
          ⟨Below.size HGR.out, Below.size (Grow.trans HGN.out hgr4), Below.size h6, hgb7.size, Nat.le_trans (by rw [show w4.heap.size = W5.heap.size by rw [HW5.out]; simp [World.setCell]]; exact Below.size h56) hgb7.size⟩
        have hmono : ∀ j, newIn w wr j → newIn w w8 j := fun j hj => ⟨hj.1, by rw [hs8]; have := hj.2; omega⟩
        have hraw : ∀ {v : Value} {l : List Nat}, Fits l → NRow (wr.alloc (.cells #[.int .u8 (op : Int), .int .i64 xa, .int .i64 xb, .bool s, .slice na L1.length cna, .slice nd L2.length cnd] 71)).heap.size w4 v l → RawIn (newIn w w8) w8 v l := fun hf hr => by
          refine RawIn.kin (Q := newIn w w4) ⟨NRow.more hr (Nat.zero_le _), hf, fun j hj => ?_⟩ k48 (by decide) (fun j hj => ⟨hj.1, by rw [hs8]; have := hj.2; omega⟩)
          obtain ⟨h1, h2, _⟩ := ownsRow_own hr hj
          rw [World.size_alloc] at h1
          exact ⟨by omega, h2⟩
        have htk : S.l.take (k + 1) = S.l.take k ++ [⟨op, xa, xb, s, L1, L2⟩] := by rw [List.take_add_one, HX.out]; rfl
        obtain ⟨hop, hxa, hxb, ⟨_, _, _, _, _, hf1, _⟩, ⟨_, _, _, _, _, hf2, _⟩, hl1, hl2⟩ := HOK1.out
        have hn8 : NdsIn (newIn w w8) w8 (.slice A7 (k + 1) c7) (S.l.take (k + 1)) := by
          rw [htk]
          refine ⟨vs ++ [(.slice x' L1.length cx, .slice y' L2.length cy)], by simp [hvs, hlen], ?_, ?_, ?_⟩
          · rw [rowCells_snoc _ _ (by rw [hvs, hlen]), List.length_append, List.length_singleton, hlen]
            refine ownsRow_kin (ts := [71]) hown7 ?_ (by decide)
            rw [hw8]; exact Kin.set hg7 (by decide) _
          · intro j hj
            rcases hblk7 with h1 | h1
            · rw [h1] at hj; exact hmono j (hoin j hj)
            · have h2 := (ownsRow_own hown7 hj).2.1
              rw [h1] at hj
              injection hj with hj
              exact ⟨by omega, by rw [hs8]; exact h2⟩
          · intro i x p hx hp
            by_cases hik : i < k
            · rw [List.getElem?_append_left (by omega)] at hx hp
              exact (hndin i x p hx hp).kin kr8 (by decide) hmono
            · have hik2 : i = k := by
                have := (List.getElem?_eq_some_iff.1 hp).1
                rw [List.length_append, List.length_singleton, hvs] at this
                omega
              subst hik2
              rw [List.getElem?_append_right (by omega), hlen] at hx
              rw [List.getElem?_append_right (by omega), hvs] at hp
              simp at hx hp
              subst hx hp
              exact ⟨hop, hxa, hxb, hraw hf1 hx', hraw hf2 hy', hl1, hl2⟩
        have HREL : Hid (TapeRel S out w.heap.size g w (.int .i64 ((k + 1 : Nat) : Int)) w8) := Lib.hid ⟨k + 1, by have := HN.out; omega, rfl, _, hz8, hg8, hn8, hgr8⟩
        have hkk : ((k : Int) + 1) = ((k + 1 : Nat) : Int) := by omega
        rw [hkk]
        exact ⟨HREL.out, by simp [intOf]; omega⟩
      · obtain rfl : k = N := by omega
        have hall : S.l.take k = S.l := by rw [HN.out, List.take_length]
        have hn2 := HNS.out
        rw [hall] at hn2
        have HS2 : Hid (TapeRel2 S out T w.heap.size g w (.int .i64 0) wr) := Lib.hid ⟨0, Nat.zero_le _, rfl, vN, .slice none 0 0, HZ.out, HGB.out, hn2, TlsIn.nil _ _, HGR.out⟩
        clear hz hg hn hgr hall hn2 hk hlt HZ HGB HNS HGR HS
        go_wp2_with fail
        go_loopw [65] (fun i wr => TapeRel2 S out T w.heap.size g w i wr) (fun i _ => M - (intOf i).toNat)
        case atStart => exact HS2.out
        case round =>
          obtain ⟨j, hj, rfl, vN, vT, hz, hg, hn, ht, hgr⟩ := hrel
          have hjM : j ≤ M := by rw [HM.out]; exact hj
          have HZ := Lib.hid hz
          have HGB := Lib.hid hg
          have HNS := Lib.hid hn
          have HTS := Lib.hid ht
          have HGR := Lib.hid hgr
          by_cases hlt : j < M
          · have hltI : (j : Int) < (M : Int) := by omega
            obtain ⟨x, hx⟩ : ∃ x, T[j]? = some x := ⟨_, List.getElem?_eq_getElem (by have := HM.out; omega)⟩
            obtain ⟨hx2, b, off, rfl, d0, d1⟩ := HT.out.1.grow hgr j x hx
            have hxl := HT.out.2 x (List.mem_of_getElem? hx)
            obtain ⟨l, u⟩ := x
            dsimp only at *
            have hcp := fun W => strclone_any l W hxl
            have HCP := Lib.hid hcp
            have HX := Lib.hid (And.intro hx hx2)
            have HBN := Lib.hid (BlkOf.new wr #[.string (mk l), .int .i64 u] 63)
            have HGN := Lib.hid (Grow.alloc wr (.cells #[.string (mk l), .int .i64 u] 63))
            clear hcp hz hg hn ht hgr hx hx2 hxl hj
            go_wp2_with (first | (go_at_call 48; refine (HCP.out _).mono ?_) | fail)
            rintro e w4 ⟨rfl, hgr4⟩
            have hgw4 : Grow wr w4 := Grow.trans HGN.out hgr4
            have hn4 := HBN.out.below hgr4 HBN.out.lt
            obtain ⟨nb, hnb⟩ : ∃ nb, nb = wr.heap.size := ⟨_, rfl⟩
            rw [← hnb] at hn4 ⊢
            have hgnb : g < nb := by rw [hnb]; exact HGB.out.lt
            have hn5 := hn4.set 0 (.string (mk l))
            have hgw5 : Grow wr (w4.setCell ⟨nb, 0, none⟩ (.string (mk l))) := Below.setCell hgw4 (p := ⟨nb, 0, none⟩) (Nat.le_of_eq hnb.symm) _
            have hg5 := HGB.out.below hgw5 HGB.out.lt
            have hk5 : Kin [100, 71] w4 (w4.setCell ⟨nb, 0, none⟩ (.string (mk l))) := Kin.set hn4 (by decide) _
            obtain ⟨W5, hW5⟩ : ∃ W5, W5 = w4.setCell ⟨nb, 0, none⟩ (.string (mk l)) := ⟨_, rfl⟩
            rw [← hW5] at hn5 hgw5 hg5 hk5
            have HW5 := Lib.hid hW5
            have H5 := Lib.hid (And.intro hn5 (And.intro hgw5 (And.intro hg5 hk5)))
            have H4 := Lib.hid hgr4
            have c0 := hn4.at 0 rfl
            have z4 := hn4.free
            have e0 := hn5.at 0 rfl
            have e1 := hn5.at 1 rfl
            have g5 := hg5.at 3 rfl
            rw [hW5] at e0 e1 g5
            obtain ⟨i0, hi, hi0, hi1, hi2⟩ := info_parts info_tell
            obtain ⟨hown, hoin, hI⟩ := HTS.out
            have hlen : (T.take j).length = j := by rw [List.length_take]; have := HM.out; omega
            rw [hlen] at hown
            have hsz5 : W5.heap.size = w4.heap.size := by rw [HW5.out]; simp [World.setCell]
            obtain ⟨W6, hW6⟩ : ∃ W6, W6 = W5.alloc (.cells #[.string (mk l), .int .i64 u] 63) := ⟨_, rfl⟩
            have h56 : Grow W5 W6 := by rw [hW6]; exact Grow.alloc _ _
            have h6 : Grow wr W6 := Grow.trans hgw5 h56
            have hb6 : BlkOf W6 w4.heap.size #[.string (mk l), .int .i64 u] 63 := by rw [hW6, ← hsz5]; exact BlkOf.new _ _ _
            have hown6 := ownsRow_kin (ts := [63]) hown (Kin.of_grow h6) (by decide)
            have hnews6 : ∀ q v, [Value.string (mk l), .int .i64 u][q]? = some v → W6.cell? ((⟨w4.heap.size, 0, none⟩ : Addr).add q) = some v := fun q v hv => by
              rw [Addr.add_mid, Nat.zero_add, hb6.cell q]
              have : [Value.string (mk l), .int .i64 u][q]? = (#[.string (mk l), .int .i64 u] : Array Value)[q]? := by simp
              rw [← this]; exact hv
            have hone6 : ∀ v ∈ [Value.string (mk l), .int .i64 u], v.oneCell' = true := fun v hv => by
              simp only [List.mem_cons, List.not_mem_nil, or_false] at hv
              rcases hv with rfl | rfl <;> rfl
            have hg6 := hg5.below h56 hg5.lt
            have HO6 := Lib.hid hown6
            have HN6 := Lib.hid hnews6
            have HE6 := Lib.hid hone6
            have HG6 := Lib.hid hg6
            have H6 := Lib.hid (And.intro h56 h6)
            have HW6 := Lib.hid hW6
            have HVS := Lib.hid (And.intro hoin (And.intro hI hlen))
            have HNB := Lib.hid hnb
            have HGNB := Lib.hid hgnb
            clear hgw4 hn4 hn5 hgw5 hg5 hk5 hgr4 d0 d1 hW5 hnb hgnb hoin hI hlen h56 h6 hb6 hown hown6 hnews6 hone6 hg6 hW6 hsz5
            go_wp2_with (first
              | (at_builtin
                 rw [← HW5.out, ← HW6.out]
                 refine wpList_append_own_at _ rfl (.tmp 74) (.tmp 76) 23 rfl 0 63 i0 _ 2 24 Tryz.underlying23 hi hi0 hi1 hi2 rfl (by omega) vT j _ rfl HO6.out ⟨w4.heap.size, 0, none⟩ 1 1 _ rfl rfl HN6.out HE6.out (by unfold maxLen; omega) (by omega) (Nat.zero_le _) ?_
                 intro v7 w7 hown7 hgb7 _ hblk7
                 obtain ⟨A7, c7, rfl⟩ : ∃ A7 c7, v7 = .slice A7 (j + 1) c7 := by
                   rcases hown7.2 with ⟨e, he⟩ | ⟨g', cap', cur, e, _⟩
                   · omega
                   · exact ⟨_, _, e⟩
                 have hk7 : Kin [100, 25, 71] W6 w7 := Kin.grown hgb7 (fun g' hg' => by
                   obtain ⟨_, _, cur, hc⟩ := ownsRow_own HO6.out hg'
                   exact ⟨cur, _, hc, by decide⟩)
                 have hg7 := hk7 _ _ _ HG6.out (by decide)
                 have q2 := hg7.at 3 rfl
                 have f2 := hg7.free 3
                 have H7 := Lib.hid (And.intro hown7 (And.intro hgb7 (And.intro hblk7 (And.intro hk7 hg7))))
                 clear hown7 hgb7 hblk7 hk7 hg7)
              | fail)
            obtain ⟨hown7, hgb7, hblk7, hk7, hg7⟩ := H7.out
            obtain ⟨h56, h6⟩ := H6.out
            obtain ⟨hn5, hgw5, hg5, hk5⟩ := H5.out
            obtain ⟨hoin, hI, hlen⟩ := HVS.out
            have hgr4 := H4.out
            obtain ⟨w8, hw8⟩ : ∃ w8, w8 = w7.setCell ⟨g, 3, none⟩ (.slice A7 (j + 1) c7) := ⟨_, rfl⟩
            rw [← hw8]
            have hz7 := hk7 _ _ _ (HZ.out.below h6 HZ.out.lt) (by decide)
            have hz8 : BlkOf w8 w.heap.size #[.int .i64 0, .int .i64 0, .slice none 0 0, .slice none 0 0] 25 := by
              rw [hw8]; exact hz7.other (p := ⟨g, 3, none⟩) (by show g ≠ w.heap.size; have := HZG.out; omega) _
            have hg8 := hg7.set 3 (.slice A7 (j + 1) c7)
            rw [← hw8] at hg8
            have hs8 : w8.heap.size = w7.heap.size := by rw [hw8, size_set]
            have hgr7 : Grow w w7 := (Grow.trans HGR.out h6).grown hgb7 (Below.size (Grow.trans HGR.out h6)) (fun i hi => (hoin i hi).1)
            have hgr8 : Grow w w8 := by rw [hw8]; exact Below.setCell hgr7 (p := ⟨g, 3, none⟩) (Nat.le_of_lt HZG.out) _
            have k48 : Kin [100, 71] w4 w8 := (hk5.trans (Kin.of_grow h56)).trans (Kin.trans (fun b cs t hb ht => hk7 b cs t hb (by simp at ht ⊢; rcases ht with h | h; exact .inl h; exact .inr (.inr h))) (by rw [hw8]; exact Kin.set hg7 (by decide) _))
            have kr8 : Kin [100, 71] wr w8 := (Kin.of_grow (Grow.trans HGN.out hgr4)).trans k48
            have hs7 : w.heap.size ≤ wr.heap.size ∧ wr.heap.size ≤ W6.heap.size ∧ W6.heap.size ≤ w7.heap.size := ⟨Below.size HGR.out, Below.size h6, hgb7.size⟩
            have hmono : ∀ i, newIn w wr i → newIn w w8 i := fun i hi => ⟨hi.1, by rw [hs8]; have := hi.2; omega⟩
            have htk : T.take (j + 1) = T.take j ++ [(l, u)] := by rw [List.take_add_one, HX.out.1]; rfl
            have hn8 : NdsIn (newIn w w8) w8 vN S.l := HNS.out.kin kr8 (by decide) (by decide) hmono
            have ht8 : TlsIn (newIn w w8) w8 (.slice A7 (j + 1) c7) (T.take (j + 1)) := by
              rw [htk]
              refine ⟨?_, ?_, ?_⟩
              · rw [tlCells_snoc, List.length_append, List.length_singleton, hlen]
                refine ownsRow_kin (ts := [63]) hown7 ?_ (by decide)
                rw [hw8]; exact Kin.set hg7 (by decide) _
              · intro i hi
                rcases hblk7 with h1 | h1
                · rw [h1] at hi; exact hmono i (hoin i hi)
                · have h2 := (ownsRow_own hown7 hi).2.1
                  rw [h1] at hi
                  injection hi with hi
                  exact ⟨by omega, by rw [hs8]; exact h2⟩
              · intro y hy
                rcases List.mem_append.1 hy with h1 | h1
                · exact hI y h1
                · rw [List.mem_singleton.1 h1]; exact HX.out.2
            have HREL : Hid (TapeRel2 S out T w.heap.size g w (.int .i64 ((j + 1 : Nat) : Int)) w8) := Lib.hid ⟨j + 1, by have := HM.out; omega, rfl, _, _, hz8, hg8, hn8, ht8, hgr8⟩
            have hkk : ((j : Int) + 1) = ((j + 1 : Nat) : Int) := by omega
            rw [hkk]
            exact ⟨HREL.out, by simp [intOf]; omega⟩
          · obtain rfl : j = M := by omega
            have hall : T.take j = T := by rw [HM.out, List.take_length]
            have ht2 := HTS.out
            rw [hall] at ht2
            obtain ⟨AN', cN', rfl, _⟩ := HNS.out.form
            obtain ⟨AT', cT', rfl, _⟩ := ht2.form
            obtain ⟨nN, hnN⟩ : ∃ nN, nN = S.l.length := ⟨_, rfl⟩
            obtain ⟨nT, hnT⟩ : ∃ nT, nT = T.length := ⟨_, rfl⟩
            rw [← hnN, ← hnT] at hg
            rw [← hnN] at hn
            have HT2 := Lib.hid ht2
            have HNT := Lib.hid (And.intro hnN hnT)
            have HG4 := Lib.hid hg
            have g0 := hg.at 0 rfl
            have g1 := hg.at 1 rfl
            have g2 := hg.at 2 rfl
            have g3 := hg.at 3 rfl
            have z0 := hz.at 0 rfl
            have z1 := hz.at 1 rfl
            have z2 := hz.at 2 rfl
            have z3 := hz.at 3 rfl
            have fz := hz.free
            clear hz hg hn ht hgr hj hall ht2 hnN hnT HGB hlt
            go_wp2_with fail
            refine post_cell_tmp rfl (g := w.heap.size) rfl ((((HZ.out.set 0 (.int .i64 (S.pars : Int))).set 1 (.int .i64 out)).set 2 (.slice AN' nN cN')).set 3 (.slice AT' nT cT')) Tryz.underlying25 rfl (by kernel_rfl) ?_
            obtain ⟨W9, hW9⟩ : ∃ W9, W9 = (((wr.setCell ⟨w.heap.size, 0, none⟩ (.int .i64 (S.pars : Int))).setCell ⟨w.heap.size, 1, none⟩ (.int .i64 out)).setCell ⟨w.heap.size, 2, none⟩ (.slice AN' nN cN')).setCell ⟨w.heap.size, 3, none⟩ (.slice AT' nT cT') := ⟨_, rfl⟩
            have hg9 : Grow w W9 := by
              rw [hW9]
              exact (((Below.setCell HGR.out (p := ⟨w.heap.size, 0, none⟩) (Nat.le_refl _) _).setCell (p := ⟨w.heap.size, 1, none⟩) (Nat.le_refl _) _).setCell (p := ⟨w.heap.size, 2, none⟩) (Nat.le_refl _) _).setCell (p := ⟨w.heap.size, 3, none⟩) (Nat.le_refl _) _
            have hk9 : Kin [100, 71, 63] wr W9 := by
              rw [hW9]
              exact ((Kin.set HZ.out (by decide) _).trans (Kin.set (HZ.out.set 0 _) (by decide) _)).trans ((Kin.set ((HZ.out.set 0 _).set 1 _) (by decide) _).trans (Kin.set (((HZ.out.set 0 _).set 1 _).set 2 _) (by decide) _))
            have hs9 : W9.heap.size = wr.heap.size := by rw [hW9]; simp [World.setCell]
            have hm9 : ∀ i, newIn w wr i → newIn w W9 i := fun i hi => ⟨hi.1, by rw [hs9]; exact hi.2⟩
            rw [← hW9]
            rw [HNT.out.1, HNT.out.2]
            exact .inl ⟨HOK.out.symm, _, _, rfl, HNS.out.kin hk9 (by decide) (by decide) hm9, ⟨ownsRow_kin HT2.out.1 hk9 (by decide), fun i hi => hm9 i (HT2.out.2.1 i hi), HT2.out.2.2⟩, hg9⟩
end Go.Proofs.YtofpcdjoljjnoaaGreatDoor

namespace Go.Proofs.YtofpcdjoljjnoaaGreatDoor
open Go.RowKit

/-- Are two steps equal in everything? -/
def sameNd (x y : Nd) : Bool := ((decide (x.op = y.op) && decide (x.a = y.a)) && decide (x.b = y.b)) && sameB x.c y.c

set_option maxRecDepth 100000 in
set_option maxHeartbeats 2000000 in
theorem samenode_any {K K' : Nat} {w : World} {x y : Nd} {vn vd un ud : Value} (h : NdOK K w x vn vd) (h' : NdOK K' w y un ud) (hK : K ≤ 137438953472) :
    Calls Tryz.prog 34 #[ndV x vn vd, ndV y un ud] w (Just (.bool (sameNd x y)) w) := by
  have hs := fun W (hW : Grow w W) => issame_any (h.2.2.2.grow hW) (h'.2.2.2.grow hW) hK
  obtain ⟨h1, ⟨h2, h3⟩, ⟨h4, h5⟩, ⟨⟨a, ca, rfl, _, _, _, _⟩, ⟨b, cb, rfl, _, _, _, _⟩, _⟩⟩ := h
  obtain ⟨k1, ⟨k2, k3⟩, ⟨k4, k5⟩, ⟨⟨a', ca', rfl, _, _, _, _⟩, ⟨b', cb', rfl, _, _, _, _⟩, _⟩⟩ := h'
  obtain ⟨op, xa, xb, s, L, D⟩ := x
  obtain ⟨op', xa', xb', s', M, E⟩ := y
  unfold ndV
  dsimp only at *
  obtain ⟨W1, hW1⟩ : ∃ W1, W1 = (w.alloc (.cells #[.int .u8 (op : Int), .int .i64 xa, .int .i64 xb, .bool s, .slice a L.length ca, .slice b D.length cb] 71)).alloc (.cells #[.int .u8 (op' : Int), .int .i64 xa', .int .i64 xb', .bool s', .slice a' M.length ca', .slice b' E.length cb'] 71) := ⟨_, rfl⟩
  have hbw : Grow w W1 := by rw [hW1]; exact ((Below.refl _ w).alloc (Nat.le_refl _) _).alloc (by simp) _
  have HBW := Lib.hid hbw
  obtain ⟨r, hr⟩ : ∃ r, r = sameNd ⟨op, xa, xb, s, L, D⟩ ⟨op', xa', xb', s', M, E⟩ := ⟨_, rfl⟩
  rw [← hr]
  unfold sameNd at hr
  dsimp only at hr
  obtain ⟨t, ht⟩ : ∃ t, t = sameB ⟨s, L, D⟩ ⟨s', M, E⟩ := ⟨_, rfl⟩
  rw [← ht] at hs hr
  have HS := Lib.hid hs
  have HR := Lib.hid hr
  subst hW1
  clear hs hr ht hbw
  have hcase : (op = op' ∧ xa = xa' ∧ xb = xb') ∨ (op = op' ∧ xa = xa' ∧ xb ≠ xb') ∨ (op = op' ∧ xa ≠ xa') ∨ op ≠ op' := by omega
  rcases hcase with ⟨rfl, rfl, rfl⟩ | ⟨rfl, rfl, hne⟩ | ⟨rfl, hne⟩ | hne
  · have HRR : Hid (r = t) := Lib.hid (by rw [HR.out]; simp)
    go_enter Tryz.func34, Tryz.ntmps34
    go_wp2_with (first | (go_at_call 54; refine (HS.out _ HBW.out).mono ?_; rintro e w4 ⟨rfl, hb4⟩; have HG4 := Lib.hid (HBW.out.trans hb4); clear hb4) | fail)
    go_ret
    exact ⟨by rw [HRR.out]; rfl, HG4.out⟩
  · have HRF : Hid (r = false) := Lib.hid (by rw [HR.out, decide_eq_false hne, Bool.and_false]; rfl)
    have hb1 : (xb == xb') = false := by simpa using hne
    go_enter Tryz.func34, Tryz.ntmps34
    go_wp2_with fail
    go_ret
    exact ⟨by rw [HRF.out]; rfl, HBW.out⟩
  · have HRF : Hid (r = false) := Lib.hid (by rw [HR.out, decide_eq_false hne, Bool.and_false]; rfl)
    have hb1 : (xa == xa') = false := by simpa using hne
    go_enter Tryz.func34, Tryz.ntmps34
    go_wp2_with fail
    go_ret
    exact ⟨by rw [HRF.out]; rfl, HBW.out⟩
  · have HRF : Hid (r = false) := Lib.hid (by rw [HR.out, decide_eq_false hne]; rfl)
    have hi : ¬ ((op : Int) = (op' : Int)) := by omega
    have hb1 : ((op : Int) == (op' : Int)) = false := by simpa using hi
    go_enter Tryz.func34, Tryz.ntmps34
    go_wp2_with fail
    go_ret
    exact ⟨by rw [HRF.out]; rfl, HBW.out⟩

/-- Are two rows of steps the same? -/
def sameNds : List Nd → List Nd → Bool
  | [], [] => true
  | x :: l, y :: m => sameNd x y && sameNds l m
  | _, _ => false
theorem sameNds_take : ∀ {L M : List Nd} {i : Nat} {x y : Nd}, L[i]? = some x → M[i]? = some y → sameNds (L.take (i + 1)) (M.take (i + 1)) = (sameNds (L.take i) (M.take i) && sameNd x y)
  | [], _, _, _, _, h, _ => by simp at h
  | _ :: _, [], _, _, _, _, h => by simp at h
  | a :: L, b :: M, 0, x, y, h, k => by
    simp at h k
    subst h k
    simp [sameNds]
  | a :: L, b :: M, i + 1, x, y, h, k => by
    have := sameNds_take (L := L) (M := M) (i := i) (x := x) (y := y) (by simpa using h) (by simpa using k)
    simp only [List.take_succ_cons, sameNds] at this ⊢
    rw [this, Bool.and_assoc]
theorem sameNds_false : ∀ {L M : List Nd} {i : Nat}, L.length = M.length → sameNds (L.take i) (M.take i) = false → sameNds L M = false
  | [], [], _, _, h => by simpa using h
  | [], _ :: _, _, hl, _ => by simp at hl
  | _ :: _, [], _, hl, _ => by simp at hl
  | a :: L, b :: M, 0, _, h => by simp [sameNds] at h
  | a :: L, b :: M, i + 1, hl, h => by
    simp only [List.take_succ_cons, sameNds] at h ⊢
    rcases Bool.and_eq_false_iff.1 h with h | h
    · rw [h]; rfl
    · rw [sameNds_false (by simpa using hl) h, Bool.and_false]
theorem sameNds_length : ∀ {L M : List Nd}, L.length ≠ M.length → sameNds L M = false
  | [], [], h => by simp at h
  | [], _ :: _, _ => rfl
  | _ :: _, [], _ => rfl
  | a :: L, b :: M, h => by
    simp only [sameNds]
    rw [sameNds_length (by simpa using h), Bool.and_false]

def EqfRel (L M : List Nd) (w : World) (i : Value) (wr : World) : Prop := ∃ k : Nat, k ≤ L.length ∧ i = .int .i64 (k : Int) ∧ sameNds (L.take k) (M.take k) = true ∧ Below w.heap.size w wr

set_option maxRecDepth 100000 in
set_option maxHeartbeats 4000000 in
theorem equalnds_any {K K' : Nat} {w : World} (A B : Option Addr) (ca cb : Nat) (L M : List Nd) (hl : L.length ≤ 1099511627776) (h : NdsAt K w A L) (h' : NdsAt K' w B M) (hK : K ≤ 137438953472) :
    Calls Tryz.prog 33 #[.slice A L.length ca, .slice B M.length cb, .func (.func 34) #[] #[]] w (Just (.bool (sameNds L M)) w) := by
  have H := Lib.hid h
  have H' := Lib.hid h'
  clear h h'
  by_cases hlen : L.length = M.length
  · have HLEN := Lib.hid hlen
    rw [← hlen]
    obtain ⟨N, hN⟩ : ∃ N, N = L.length := ⟨_, rfl⟩
    have HN := Lib.hid hN
    rw [← hN] at hl ⊢
    clear hlen hN
    obtain ⟨r, hr⟩ : ∃ r, r = sameNds L M := ⟨_, rfl⟩
    have HR := Lib.hid hr
    rw [← hr]
    clear hr
    go_enter Tryz.func33, Tryz.ntmps33
    go_wp2_with fail
    go_loopw [17] (fun i wr => EqfRel L M w i wr) (fun i _ => N - (intOf i).toNat)
    case atStart => exact ⟨0, by omega, rfl, rfl, Below.refl _ _⟩
    case round =>
      obtain ⟨k, hk, rfl, hv, hb⟩ := hrel
      have HB := Lib.hid hb
      have HV := Lib.hid hv
      have hkN : k ≤ N := by rw [HN.out]; exact hk
      clear hk hv hb
      by_cases hlt : k < N
      · obtain ⟨x, hx⟩ : ∃ x, L[k]? = some x := ⟨_, List.getElem?_eq_getElem (by have := HN.out; omega)⟩
        obtain ⟨y, hy⟩ : ∃ y, M[k]? = some y := ⟨_, List.getElem?_eq_getElem (by have := HN.out; have := HLEN.out; omega)⟩
        have HST := Lib.hid (sameNds_take hx hy)
        obtain ⟨b1, o1, vn, vd, rfl, hc, hok⟩ := H.out.grow HB.out k x hx
        obtain ⟨b2, o2, un, ud, rfl, hc', hok'⟩ := H'.out.grow HB.out k y hy
        have c0 := hc 0 _ rfl
        have c1 := hc 1 _ rfl
        have c2 := hc 2 _ rfl
        have c3 := hc 3 _ rfl
        have c4 := hc 4 _ rfl
        have c5 := hc 5 _ rfl
        have hb2 := World.block_lt_of_cell? wr _ (hc' 0 _ rfl)
        have e0 := fun o => (Below.cell (Grow.alloc wr o) (p := ⟨b2, o2 + k * 6 + 0, none⟩) hb2).trans (hc' 0 _ rfl)
        have e1 := fun o => (Below.cell (Grow.alloc wr o) (p := ⟨b2, o2 + k * 6 + 1, none⟩) hb2).trans (hc' 1 _ rfl)
        have e2 := fun o => (Below.cell (Grow.alloc wr o) (p := ⟨b2, o2 + k * 6 + 2, none⟩) hb2).trans (hc' 2 _ rfl)
        have e3 := fun o => (Below.cell (Grow.alloc wr o) (p := ⟨b2, o2 + k * 6 + 3, none⟩) hb2).trans (hc' 3 _ rfl)
        have e4 := fun o => (Below.cell (Grow.alloc wr o) (p := ⟨b2, o2 + k * 6 + 4, none⟩) hb2).trans (hc' 4 _ rfl)
        have e5 := fun o => (Below.cell (Grow.alloc wr o) (p := ⟨b2, o2 + k * 6 + 5, none⟩) hb2).trans (hc' 5 _ rfl)
        rw [Nat.add_zero] at c0
        simp only [Nat.add_zero] at e0
        have hltI : (k : Int) < (N : Int) := by omega
        obtain ⟨p, hp⟩ : ∃ p, p = sameNd x y := ⟨_, rfl⟩
        have hcall := fun W (hW : Grow wr W) => samenode_any (w := W) (x := x) (y := y) ⟨hok.1, hok.2.1, hok.2.2.1, hok.2.2.2.grow hW⟩ ⟨hok'.1, hok'.2.1, hok'.2.2.1, hok'.2.2.2.grow hW⟩ hK
        rw [← hp] at hcall
        unfold ndV at hcall
        have HC := Lib.hid hcall
        have HP := Lib.hid hp
        have HG := Lib.hid (fun o o' => (Grow.trans (Grow.alloc wr o) (Grow.alloc _ o') : Grow wr ((wr.alloc o).alloc o')))
        obtain ⟨⟨na, ca1, rfl, _, _, _, _⟩, ⟨nd, cd1, rfl, _, _, _, _⟩, _⟩ := hok.2.2.2
        obtain ⟨⟨na', ca2, rfl, _, _, _, _⟩, ⟨nd', cd2, rfl, _, _, _, _⟩, _⟩ := hok'.2.2.2
        clear hc hc' hok hok' hcall hx hy hp hb2
        cases p with
        | true =>
          have HT1 : Hid (sameNds (L.take (k + 1)) (M.take (k + 1)) = true) := Lib.hid (by rw [HST.out, HV.out, ← HP.out]; rfl)
          go_wp2_with (first | (go_at_call 34; refine (HC.out _ (HG.out _ _)).mono ?_; rintro e w3 ⟨rfl, hb3⟩; have HG3 := Lib.hid (HB.out.trans (((HG.out _ _).trans hb3).mono (Below.size HB.out))); clear hb3) | fail)
          go_roundw
          case rel => exact ⟨k + 1, by have := HN.out; omega, by go_num, HT1.out, HG3.out⟩
          case measure => simp [intOf]; omega
        | false =>
          have HF : Hid (r = false) := Lib.hid (by rw [HR.out]; exact sameNds_false (i := k + 1) HLEN.out (by rw [HST.out, ← HP.out, Bool.and_false]))
          go_wp2_with (first | (go_at_call 34; refine (HC.out _ (HG.out _ _)).mono ?_; rintro e w3 ⟨rfl, hb3⟩; have HG3 := Lib.hid (HB.out.trans (((HG.out _ _).trans hb3).mono (Below.size HB.out))); clear hb3) | fail)
          go_ret
          exact ⟨by rw [HF.out]; rfl, HG3.out⟩
      · obtain rfl : k = N := by omega
        have HE : Hid (r = true) := Lib.hid (by
          have h1 := HV.out
          have h2 := HLEN.out
          rw [List.take_of_length_le (by have := HN.out; omega), List.take_of_length_le (by have := HN.out; omega)] at h1
          rw [HR.out]; exact h1)
        go_wp2_with fail
        go_ret
        exact ⟨by rw [HE.out]; rfl, HB.out⟩
  · have hne : ¬ ((L.length : Int) = (M.length : Int)) := by omega
    have HNE := Lib.hid (sameNds_length hlen)
    go_enter Tryz.func33, Tryz.ntmps33
    go_wp2_with fail
    go_ret
    exact ⟨by rw [HNE.out]; rfl, Below.refl _ _⟩

theorem take_tl {T U : List (List UInt8 × Int)} {k : Nat} {x y : List UInt8 × Int} (h : T.take k = U.take k) (hx : T[k]? = some x) (hy : U[k]? = some y) : (T.take (k + 1) = U.take (k + 1)) ↔ x = y := by
  have hl := (List.getElem?_eq_some_iff.1 hx).1
  have hm := (List.getElem?_eq_some_iff.1 hy).1
  have e1 : T[k] = x := (List.getElem?_eq_some_iff.1 hx).2
  have e2 : U[k] = y := (List.getElem?_eq_some_iff.1 hy).2
  rw [List.take_succ_eq_append_getElem hl, List.take_succ_eq_append_getElem hm, h, e1, e2]
  exact ⟨fun e => by have := List.append_cancel_left e; injection this, fun e => by rw [e]⟩
theorem mk_inj {a b : List UInt8} (h : mk a = mk b) : a = b := by
  have := congrArg ByteArray.toList h
  rwa [mk_toL, mk_toL] at this

def TlRel (T U : List (List UInt8 × Int)) (w : World) (i : Value) (wr : World) : Prop := ∃ k : Nat, k ≤ T.length ∧ i = .int .i64 (k : Int) ∧ T.take k = U.take k ∧ Below w.heap.size w wr

set_option maxRecDepth 100000 in
set_option maxHeartbeats 4000000 in
theorem equaltls_any {w : World} (A B : Option Addr) (ca cb : Nat) (T U : List (List UInt8 × Int)) (hl : T.length ≤ 1099511627776) (h : TlsAt w A T) (h' : TlsAt w B U) :
    Calls Tryz.prog 35 #[.slice A T.length ca, .slice B U.length cb] w (Just (.bool (decide (T = U))) w) := by
  have H := Lib.hid h
  have H' := Lib.hid h'
  clear h h'
  by_cases hlen : T.length = U.length
  · have HLEN := Lib.hid hlen
    rw [← hlen]
    obtain ⟨N, hN⟩ : ∃ N, N = T.length := ⟨_, rfl⟩
    have HN := Lib.hid hN
    rw [← hN] at hl ⊢
    clear hlen hN
    go_enter Tryz.func35, Tryz.ntmps35
    go_wp2_with fail
    go_loopw [13] (fun i wr => TlRel T U w i wr) (fun i _ => N - (intOf i).toNat)
    case atStart => exact ⟨0, by omega, rfl, rfl, Below.refl _ _⟩
    case round =>
      obtain ⟨k, hk, rfl, hv, hb⟩ := hrel
      have HB := Lib.hid hb
      have HV := Lib.hid hv
      have hkN : k ≤ N := by rw [HN.out]; exact hk
      clear hk hv hb
      by_cases hlt : k < N
      · obtain ⟨x, hx⟩ : ∃ x, T[k]? = some x := ⟨_, List.getElem?_eq_getElem (by have := HN.out; omega)⟩
        obtain ⟨y, hy⟩ : ∃ y, U[k]? = some y := ⟨_, List.getElem?_eq_getElem (by have := HN.out; have := HLEN.out; omega)⟩
        have HST := Lib.hid (take_tl HV.out hx hy)
        obtain ⟨_, b1, o1, rfl, c0, c1⟩ := H.out.grow HB.out k x hx
        obtain ⟨_, b2, o2, rfl, e0, e1⟩ := H'.out.grow HB.out k y hy
        have hltI : (k : Int) < (N : Int) := by omega
        obtain ⟨xn, xi⟩ := x
        obtain ⟨yn, yi⟩ := y
        dsimp only at c0 c1 e0 e1
        go_wp2_with fail
        by_cases hxy : (xn, xi) = (yn, yi)
        · have HT1 : Hid (T.take (k + 1) = U.take (k + 1)) := Lib.hid (HST.out.2 hxy)
          injection hxy with h1 h2
          subst h1 h2
          clear hx hy
          go_quiet (fail)
          go_wp2_with fail
          go_roundw
          case rel => exact ⟨k + 1, by have := HN.out; omega, by go_num, HT1.out, HB.out.trans ⟨rfl, rfl, rfl, Nat.le_refl _, fun _ _ => rfl⟩⟩
          case measure => simp [intOf]; omega
        · have HF : Hid (T ≠ U) := Lib.hid (fun e => hxy (HST.out.1 (by rw [e])))
          have hbin : ∀ W, (binOp .neq 63 (.agg #[.string (mk xn), .int .i64 xi]) (.agg #[.string (mk yn), .int .i64 yi])).run Tryz.prog W = .ok (.bool true) W := by
            intro W
            simp [go_sem]
            intro h1 h2
            rw [mk_toL, mk_toL] at h1
            exact hxy (by rw [h1, h2])
          clear hx hy
          go_quiet (fail)
          go_wp2_with fail
          go_ret
          exact ⟨by rw [decide_eq_false HF.out]; rfl, HB.out.trans ⟨rfl, rfl, rfl, Nat.le_refl _, fun _ _ => rfl⟩⟩
      · obtain rfl : k = N := by omega
        have HE : Hid (T = U) := Lib.hid (by
          have h1 := HV.out
          have h2 := HLEN.out
          rw [List.take_of_length_le (by have := HN.out; omega), List.take_of_length_le (by have := HN.out; omega)] at h1
          exact h1)
        go_wp2_with fail
        go_ret
        exact ⟨by rw [decide_eq_true HE.out]; rfl, HB.out⟩
  · have hne : ¬ ((T.length : Int) = (U.length : Int)) := by omega
    have HNE : Hid (T ≠ U) := Lib.hid (fun e => hlen (by rw [e]))
    go_enter Tryz.func35, Tryz.ntmps35
    go_wp2_with fail
    go_ret
    exact ⟨by rw [decide_eq_false HNE.out]; rfl, Below.refl _ _⟩

/-- Are two tapes equal in everything? -/
def sameTp (t u : Tp) : Bool := ((decide (t.pars = u.pars) && decide (t.out = u.out)) && sameNds t.nodes u.nodes) && decide (t.tells = u.tells)

set_option maxRecDepth 100000 in
set_option maxHeartbeats 4000000 in
theorem tsame_any {K K' : Nat} {w : World} {t u : Tp} {vn vt un ut : Value} (h : TpAt K w t vn vt) (h' : TpAt K' w u un ut) (hK : K ≤ 137438953472) :
    Calls Tryz.prog 11 #[tpV t vn vt, tpV u un ut] w (Just (.bool (sameTp t u)) w) := by
  obtain ⟨⟨h1, h2⟩, ⟨h3, h4⟩, h5, h6, A, ca, B, cb, rfl, rfl, h7, h8⟩ := h
  obtain ⟨⟨k1, k2⟩, ⟨k3, k4⟩, k5, k6, A', ca', B', cb', rfl, rfl, k7, k8⟩ := h'
  obtain ⟨pars, out, L, T⟩ := t
  obtain ⟨pars', out', M, U⟩ := u
  unfold tpV
  dsimp only at *
  obtain ⟨W1, hW1⟩ : ∃ W1, W1 = (w.alloc (.cells #[.int .i64 pars, .int .i64 out, .slice A L.length ca, .slice B T.length cb] 25)).alloc (.cells #[.int .i64 pars', .int .i64 out', .slice A' M.length ca', .slice B' U.length cb'] 25) := ⟨_, rfl⟩
  have b0 : BlkOf W1 w.heap.size #[.int .i64 pars, .int .i64 out, .slice A L.length ca, .slice B T.length cb] 25 := by rw [hW1]; exact (BlkOf.new w _ _).alloc _
  have b1 : BlkOf W1 (w.heap.size + 1) #[.int .i64 pars', .int .i64 out', .slice A' M.length ca', .slice B' U.length cb'] 25 := by rw [hW1]; exact BlkOf.news (by simp) _ _
  have hbw : Grow w W1 := by rw [hW1]; exact ((Below.refl _ w).alloc (Nat.le_refl _) _).alloc (by simp) _
  have hn := fun W (hW : Grow w W) => equalnds_any (w := W) A A' ca ca' L M h5 (h7.grow hW) (k7.grow hW) hK
  have ht := fun W (hW : Grow w W) => equaltls_any (w := W) B B' cb cb' T U h6 (h8.grow hW) (k8.grow hW)
  obtain ⟨r, hr⟩ : ∃ r, r = sameTp ⟨pars, out, L, T⟩ ⟨pars', out', M, U⟩ := ⟨_, rfl⟩
  rw [← hr]
  unfold sameTp at hr
  dsimp only at hr
  obtain ⟨p, hp⟩ : ∃ p, p = sameNds L M := ⟨_, rfl⟩
  obtain ⟨q, hq⟩ : ∃ q, q = decide (T = U) := ⟨_, rfl⟩
  rw [← hp] at hn hr
  rw [← hq] at ht hr
  have HN := Lib.hid hn
  have HT := Lib.hid ht
  have HR := Lib.hid hr
  have HBL := Lib.hid (And.intro b0 b1)
  have HBW := Lib.hid hbw
  subst hW1
  clear hn ht hr hp hq h5 h6 h7 h8 k5 k6 k7 k8 b0 b1 hbw
  have hcase : (pars = pars' ∧ out = out') ∨ (pars = pars' ∧ out ≠ out') ∨ pars ≠ pars' := by omega
  rcases hcase with ⟨rfl, rfl⟩ | ⟨rfl, hne⟩ | hne
  · have HRR : Hid (r = (p && q)) := Lib.hid (by rw [HR.out]; simp)
    cases p with
    | false =>
      go_enter Tryz.func11, Tryz.ntmps11
      go_wp2_with (first | (go_at_call 33; refine (HN.out _ HBW.out).mono ?_; rintro e w4 ⟨rfl, hb4⟩; have HG4 := Lib.hid (HBW.out.trans hb4); clear hb4) | fail)
      go_ret
      exact ⟨by rw [HRR.out]; rfl, HG4.out⟩
    | true =>
      go_enter Tryz.func11, Tryz.ntmps11
      go_wp2_with (first | (go_at_call 33; refine (HN.out _ HBW.out).mono ?_) | fail)
      rintro e w4 ⟨rfl, hb4⟩
      have HG4 := Lib.hid (HBW.out.trans hb4)
      have q0 := HBL.out.1.below hb4 HBL.out.1.lt
      have q1 := HBL.out.2.below hb4 HBL.out.2.lt
      have c0 := q0.at 3 rfl
      have c1 := q1.at 3 rfl
      clear q0 q1 hb4
      go_wp2_with (first | (go_at_call 35; refine (HT.out _ HG4.out).mono ?_; rintro e w5 ⟨rfl, hb5⟩; have HG5 := Lib.hid (HG4.out.trans hb5); clear hb5) | fail)
      go_ret
      exact ⟨by rw [HRR.out]; rfl, HG5.out⟩
  · have HRF : Hid (r = false) := Lib.hid (by rw [HR.out, decide_eq_false hne, Bool.and_false]; rfl)
    have hb1 : (out == out') = false := by simpa using hne
    go_enter Tryz.func11, Tryz.ntmps11
    go_wp2_with fail
    go_ret
    exact ⟨by rw [HRF.out]; rfl, HBW.out⟩
  · have HRF : Hid (r = false) := Lib.hid (by rw [HR.out, decide_eq_false hne]; rfl)
    have hb1 : (pars == pars') = false := by simpa using hne
    go_enter Tryz.func11, Tryz.ntmps11
    go_wp2_with fail
    go_ret
    exact ⟨by rw [HRF.out]; rfl, HBW.out⟩
end Go.Proofs.YtofpcdjoljjnoaaGreatDoor

namespace Go.Proofs.YtofpcdjoljjnoaaGreatDoor
open Go.RowKit Go.Maps

/-- Two makers, each of blocks of its own, since w0. -/
structure Two (w0 w : World) (P Q : Nat → Prop) (m n : Value) (S R : MkS) : Prop where
  one : MkAt P w m S
  two : MkAt Q w n R
  apart : ∀ k, P k → ¬ Q k
  low : ∀ k, P k → w0.heap.size ≤ k
  low2 : ∀ k, Q k → w0.heap.size ≤ k
  grow : Grow w0 w
section
variable {w0 w w' : World} {P Q : Nat → Prop} {m n : Value} {S R : MkS}
theorem Two.more (h : Two w0 w P Q m n S R) (hg : Grow w w') : Two w0 w' P Q m n S R :=
  ⟨h.one.grow hg, h.two.grow hg, h.apart, h.low, h.low2, h.grow.trans hg⟩
theorem Two.swap (h : Two w0 w P Q m n S R) : Two w0 w Q P n m R S := ⟨h.two, h.one, fun k h1 h2 => h.apart k h2 h1, h.low2, h.low, h.grow⟩
theorem Two.told {r : Int × Int × MkS} {e : Ending} (h : Two w0 w P Q m n S R) (hp : MkPost P m w r e w') : e = .returned (.tuple #[.int .i64 r.1, .int .i64 r.2.1]) ∧ ∃ P', Two w0 w' P' Q m n r.2.2 R := by
  obtain ⟨he, hs, P', hP, hP', hm⟩ := hp
  refine ⟨he, P', hm, h.two.spare hs (fun k hq hp => h.apart k hp hq), fun k hk hq => ?_, fun k hk => ?_, h.low2, ?_⟩
  · rcases hP' k hk with h1 | h1
    · exact h.apart k h1 hq
    · have := h.two.lt k hq; omega
  · rcases hP' k hk with h1 | h1
    · exact h.low k h1
    · exact Nat.le_trans (Below.size h.grow) h1
  · exact Below.trans h.grow (hs.below h.low (Below.size h.grow))
end

def x1 : Fr := ⟨false, nrow 1, nrow 1⟩
def x2 : Fr := ⟨false, nrow 2, nrow 1⟩
def m0 : MkS := ⟨100, 0, []⟩
def m1 : MkS := ⟨100, 1, [bareNd 2 0 0]⟩
def m2 : MkS := ⟨100, 1, [bareNd 2 0 0, ⟨1, 0, 0, ⟨false, [2], [1]⟩⟩]⟩
def m3 : MkS := ⟨100, 1, [bareNd 2 0 0, ⟨1, 0, 0, ⟨false, [2], [1]⟩⟩, bareNd 5 0 1]⟩
def n0 : MkS := ⟨1, 0, []⟩
def n1 : MkS := ⟨1, 0, [⟨1, 0, 0, ⟨false, [1], [1]⟩⟩]⟩
theorem nrow1 : nrow 1 = [1] := by decide
theorem nrow2 : nrow 2 = [2] := by decide
theorem say1 : parS m0 = (0, 0, m1) := by kernel_rfl
theorem say2 : numS m1 x2 = (1, 0, m2) := by kernel_rfl
theorem say3 : twoS m2 5 0 1 = (2, 0, m3) := by kernel_rfl
theorem say4 : twoS m3 5 0 1 = (2, 0, m3) := by kernel_rfl
theorem say5 : oneS m3 8 9 = (0, 2, m3) := by kernel_rfl
theorem say6 : oneS m3 3 0 = (0, 2, m3) := by kernel_rfl
theorem say7 : numS n0 x1 = (0, 0, n1) := by kernel_rfl
theorem say8 : numS n1 x2 = (0, 171, n1) := by kernel_rfl
theorem say9 : numS n1 x1 = (0, 0, n1) := by kernel_rfl
theorem say10 : existB m3 2 [([120], 0)] = true := by decide
theorem say11 : validB ⟨1, 2, m3.l, [([120], 0)]⟩ = true := by decide
theorem say12 : validB ⟨0, 0, [], []⟩ = false := by decide
end Go.Proofs.YtofpcdjoljjnoaaGreatDoor
