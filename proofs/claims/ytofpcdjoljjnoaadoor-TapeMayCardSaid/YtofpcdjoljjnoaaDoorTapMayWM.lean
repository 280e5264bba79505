/-
  LAYER 17: the laws: what a maker makes may be.
-/
import Derived.Test.YtofpcdjoljjnoaaDoorTapToldM
namespace Go.Proofs.YtofpcdjoljjnoaaDoor
open Go.RowKit Go.Maps

/-- What a call asks, where it is none of Par and Tape. -/
def askS (c : Cl) (S : MkS) : Int × Int × MkS := if c.what % 8 ≤ 1 then numS S c.x else if c.what % 8 ≤ 4 then oneS S c.op c.a else twoS S c.op c.a c.b
theorem askS_fine (c : Cl) (S : MkS) : Fine (askS c) S := by
  unfold askS
  by_cases h1 : c.what % 8 ≤ 1
  · simp only [if_pos h1]
    exact numS_fine S c.x
  · simp only [if_neg h1]
    by_cases h2 : c.what % 8 ≤ 4
    · simp only [if_pos h2]
      exact oneS_fine S c.op c.a
    · simp only [if_neg h2]
      exact twoS_fine S c.op c.a c.b
/-- It has been asked. -/
def Once (c : Cl) (S : MkS) : Prop := c.what % 8 ≠ 2 → c.what % 8 ≠ 7 → (askS c S).2.2 = S
def MayRel (l : List Cl) (B : Int) (m : Value) (w0 : World) (i : Value) (wr : World) : Prop :=
  ∃ k : Nat, k ≤ l.length ∧ k ≤ 80 ∧ i = .int .i64 (k : Int) ∧ ∃ P S, Mine w0 wr P m S ∧ (S.budget : Int) = B
def MayIn (c : Cl) (z : Nat) (cs : Array Value) (B : Int) (m : Value) (w0 : World) (i : Value) (wr : World) : Prop :=
  ∃ j : Nat, j ≤ 2 ∧ i = .int .i64 (j : Int) ∧ (∃ P S, Mine w0 wr P m S ∧ (S.budget : Int) = B ∧ (j = 1 → Once c S)) ∧ BlkOf wr z cs 35
def TwoRel (n zt : Nat) (cs : Array Value) (w : World) (i : Value) (wr : World) : Prop :=
  ∃ k : Nat, k ≤ n ∧ i = .int .i64 (k : Int) ∧ BlkOf wr zt cs 46 ∧ Grow w wr
/-- What the law looks at behind a call. -/
structure Seen (c : Cl) (S : MkS) (at' f : Int) (S' : MkS) : Prop where
  place : f = 0 → 0 ≤ at' ∧ at' < (S'.l.length : Int)
  fail : f ≠ 0 → S' = S
  once : Once c S'
  budget : S'.budget = S.budget
theorem seen_of (c : Cl) (S : MkS) {at' f : Int} {S' : MkS} (h : askS c S = (at', f, S')) : Seen c S at' f S' := by
  have hf := askS_fine c S
  have h1 := hf.place
  have h2 := hf.fail
  have h3 := hf.twice
  have h4 := hf.budget
  rw [h] at h1 h2 h3 h4
  exact ⟨h1, h2, fun _ _ => h3, h4⟩

set_option maxRecDepth 100000 in
set_option maxHeartbeats 8000000 in
theorem tmay_none {n : Int} {A : Option Addr} {len ca : Nat} {w : World} (hn : I64 n) (h : ¬ (1 ≤ n ∧ n ≤ 20000)) (ht : Tab w) :
    Calls Tryd.prog 3 #[.int .i64 n, .slice A len ca] w (Just (.bool true) w) := by
  have HN := Lib.hid (new_nomine w hn h)
  have HH := Lib.hid (head_any w ht)
  clear hn h ht
  go_enter Tryd.func3, Tryd.ntmps3
  go_wp2_with (first | (go_at_call 7; refine HN.out.mono ?_; rintro e w3 ⟨rfl, rfl⟩) | fail)
  go_wp2_with (first | (go_at_call 8; refine HH.out.mono ?_) | fail)
  rintro e w3 ⟨rfl, hg3⟩
  have HG3 := Lib.hid hg3
  clear hg3
  go_wp2_with fail
  go_ret
  exact ⟨rfl, HG3.out⟩

set_option maxRecDepth 100000 in
set_option maxHeartbeats 64000000 in
theorem tmay_some {n : Int} {A : Option Addr} {ca : Nat} {l : List Cl} {w : World} (hn : I64 n) (h1 : 1 ≤ n) (h2 : n ≤ 20000) (hl : l.length ≤ 9223372036854775807) (hc : ClsAt w A l) (ht : Tab w) :
    Calls Tryd.prog 3 #[.int .i64 n, .slice A l.length ca] w (Just (.bool true) w) := by
  have HNEW := Lib.hid (new_mine w hn h1 h2)
  have HT := Lib.hid ht
  have HC := Lib.hid hc
  have HH := Lib.hid (fun W (hW : Grow w W) => head_any W (ht.grow hW))
  obtain ⟨N, hN⟩ : ∃ N, N = l.length := ⟨_, rfl⟩
  rw [← hN] at hl ⊢
  have HNN := Lib.hid hN
  have HR := Lib.hid (And.intro h1 h2)
  clear hc ht hN h1 h2
  go_enter Tryd.func3, Tryd.ntmps3
  go_wp2_with (first | (go_at_call 7; refine HNEW.out.mono ?_) | fail)
  rintro e wa ⟨pm, P, rfl, hm⟩
  have HM := Lib.hid hm
  clear hm
  go_wp2_with fail
  go_loopw [7] (fun i wr => MayRel l n (.pointer (some ⟨pm, 0, none⟩)) w i wr) (fun i _ => 80 - (intOf i).toNat)
  case atStart => exact ⟨0, by omega, by omega, rfl, _, _, HM.out, by have := HR.out; show ((n.toNat : Nat) : Int) = n; omega⟩
  case round =>
    obtain ⟨k, hk, hk80, rfl, P, S, hm, hB⟩ := hrel
    have HM := Lib.hid hm
    have HB := Lib.hid hB
    have hkN : k ≤ N := by rw [HNN.out]; exact hk
    clear hk hm hB
    by_cases hgo : k < N ∧ k < 80
    · obtain ⟨hltN, hlt80⟩ := hgo
      have hltI : (k : Int) < (N : Int) := by omega
      have hltJ : (k : Int) < 80 := by omega
      obtain ⟨c, hcx⟩ : ∃ c, l[k]? = some c := ⟨_, List.getElem?_eq_getElem (by have := HNN.out; omega)⟩
      obtain ⟨b, off, vn, vd, rfl, hcell0, hok⟩ := HC.out k c hcx
      have hcell : ∀ j v, (clCells c vn vd)[j]? = some v → wr.cell? ⟨b, off + k * 7 + j, none⟩ = some v := fun j v hv => by
        have hbl := World.block_lt_of_cell? w _ (hcell0 0 _ rfl)
        exact (HM.out.grow.cell (p := ⟨b, off + k * 7 + j, none⟩) hbl).trans (hcell0 j v hv)
      clear hcell0
      have HOK := Lib.hid hok
      obtain ⟨q, hq⟩ : ∃ q, q = c.what % 8 := ⟨_, rfl⟩
      have HQ := Lib.hid hq
      have hq8 : q < 8 := by omega
      have c0 := hcell 0 _ rfl
      have c1 := hcell 1 _ rfl
      have c2 := hcell 2 _ rfl
      have c3 := hcell 3 _ rfl
      have c4 := hcell 4 _ rfl
      have c5 := hcell 5 _ rfl
      have c6 := hcell 6 _ rfl
      rw [Nat.add_zero] at c0
      obtain ⟨hw256, ho256, ⟨ha1, ha2⟩, ⟨hb1, hb2⟩, ⟨an, cn, rfl, hncap, hnn, hnf, hnat⟩, ⟨ad, cd, rfl, hdcap, hdn, hdf, hdat⟩, hln, hld⟩ := hok
      have hrem : (c.what : Int).tmod 8 = (q : Int) := by rw [hq]; rfl
      have hrem2 : (c.what : Int) % 8 = (q : Int) := by rw [hq]; omega
      obtain ⟨W1, hW1⟩ : ∃ W1, W1 = wr.alloc (.cells #[.int .u8 (c.what : Int), .int .u8 (c.op : Int), .int .i64 c.a, .int .i64 c.b, .bool c.x.s, .slice an c.x.m.length cn, .slice ad c.x.d.length cd] 35) := ⟨_, rfl⟩
      have b1 : BlkOf W1 wr.heap.size #[.int .u8 (c.what : Int), .int .u8 (c.op : Int), .int .i64 c.a, .int .i64 c.b, .bool c.x.s, .slice an c.x.m.length cn, .slice ad c.x.d.length cd] 35 := by rw [hW1]; exact BlkOf.new wr _ _
      have g1 : Grow wr W1 := by rw [hW1]; exact Grow.alloc _ _
      have HS := Lib.hid (small_any c.x.s an ad c.x.m.length c.x.d.length cn cd W1 hln hld)
      obtain ⟨r, hr⟩ : ∃ r, r = (decide (c.x.m.length ≤ 3) && decide (c.x.d.length ≤ 3)) := ⟨_, rfl⟩
      rw [← hr] at HS
      have HRR := Lib.hid hr
      have HB1 := Lib.hid b1
      have HG1 := Lib.hid g1
      have d4 := b1.at 4 rfl
      have d5 := b1.at 5 rfl
      have d6 := b1.at 6 rfl
      subst hW1
      clear hcx hcell hq hr b1 g1 hncap hnn hnf hnat hdcap hdn hdf hdat
      cases r with
      | false =>
        go_wp2_with (first | (go_at_call 9; refine HS.out.mono ?_) | fail)
        rintro e w2 ⟨rfl, hg2⟩
        have HG2 := Lib.hid (Grow.trans HM.out.grow (Grow.trans HG1.out hg2))
        clear hg2 c0 c1 c2 c3 c4 c5 c6 d4 d5 d6
        go_wp2_with (first | (go_at_call 8; refine (HH.out _ HG2.out).mono ?_) | fail)
        rintro e w3 ⟨rfl, hg3⟩
        have HG3 := Lib.hid (Grow.trans HG2.out hg3)
        clear hg3
        go_wp2_with fail
        go_ret
        exact ⟨rfl, HG3.out⟩
      | true =>
        go_wp2_with (first | (go_at_call 9; refine HS.out.mono ?_) | fail)
        rintro e w2 ⟨rfl, hg2⟩
        have HB2 := Lib.hid (HB1.out.below hg2 HB1.out.lt)
        have HM2 := Lib.hid (HM.out.more (Grow.trans HG1.out hg2))
        have HF : Hid (∀ W, Grow w W → FrAt 3 W c.x (.slice an c.x.m.length cn) (.slice ad c.x.d.length cd)) := Lib.hid (fun W hW => by
          have h := HOK.out.grow hW
          have h3 := HRR.out
          simp at h3
          exact ⟨h.2.2.2.2.1, h.2.2.2.2.2.1, h3.1, h3.2⟩)
        clear hg2 c0 c1 c2 c3 c4 c5 c6 d4 d5 d6 HRR HOK
        generalize c.x.m.length = lm at *
        generalize c.x.d.length = ld at *
        go_wp2_with fail
        obtain ⟨wz, hwz⟩ : ∃ wz, wz = wr := ⟨_, rfl⟩
        rw [← hwz] at HB2 HM HG1 HB1 ⊢
        clear hwz
        go_loopw [9] (fun i wr => MayIn c wz.heap.size #[.int .u8 (c.what : Int), .int .u8 (c.op : Int), .int .i64 c.a, .int .i64 c.b, .bool c.x.s, .slice an lm cn, .slice ad ld cd] n (.pointer (some ⟨pm, 0, none⟩)) w i wr) (fun i _ => 2 - (intOf i).toNat)
        case atStart => exact ⟨0, by omega, rfl, ⟨P, S, HM2.out, HB.out, fun h => by omega⟩, HB2.out⟩
        case round =>
          obtain ⟨j, hj, rfl, ⟨P1, S1, hm, hB, ho⟩, hb⟩ := hrel
          have HMI := Lib.hid hm
          have HBI := Lib.hid hb
          have HBI2 := Lib.hid hB
          have HON := Lib.hid ho
          have HLEN := Lib.hid (len_some hm.one)
          have d0 := hb.at 0 rfl
          have d1 := hb.at 1 rfl
          have d2 := hb.at 2 rfl
          have d3 := hb.at 3 rfl
          have d4 := hb.at 4 rfl
          have d5 := hb.at 5 rfl
          have d6 := hb.at 6 rfl
          clear hm hb hB ho
          have hq9 : q = 0 ∨ q = 1 ∨ q = 2 ∨ q = 3 ∨ q = 4 ∨ q = 5 ∨ q = 6 ∨ q = 7 := by omega
          have hj3 : j = 0 ∨ j = 1 ∨ j = 2 := by omega
          clear hj
          rcases hj3 with rfl | rfl | rfl
          · rcases hq9 with rfl | rfl | rfl | rfl | rfl | rfl | rfl | rfl
            · obtain ⟨at', f, S2, hr⟩ : ∃ at' f S2, askS c S1 = (at', f, S2) := ⟨_, _, _, rfl⟩
              have HSEEN := Lib.hid (seen_of c S1 hr)
              have HCALL : Hid (Calls Tryd.prog 11 #[.pointer (some ⟨pm, 0, none⟩), .agg #[.bool c.x.s, .slice an lm cn, .slice ad ld cd]] wr (Told w wr (.pointer (some ⟨pm, 0, none⟩)) (at', f, S2))) := Lib.hid (by
                have ha : askS c S1 = numS S1 c.x := by unfold askS; rw [if_pos (by have := HQ.out; omega)]
                rw [← hr, ha]
                exact HMI.out.num (HF.out _ HMI.out.grow))
              clear hr
              go_wp2_with (first | (go_at_call 10; refine HLEN.out.mono ?_; rintro e w3 ⟨rfl, rfl⟩) | (go_at_call 11; refine HCALL.out.mono ?_) | fail)
              rintro e w3 ⟨rfl, hkk, _, P2, hm2⟩
              have HM2 := Lib.hid hm2
              have HB3 := Lib.hid (hkk _ _ _ HBI.out (by decide) (by decide))
              have HLEN2 := Lib.hid (len_some hm2.one)
              clear hkk hm2 d0 d1 d2 d3 d4 d5 d6
              dsimp only at *
              by_cases hf : f = 0
              · obtain ⟨p1, p2⟩ := HSEEN.out.place hf
                subst hf
                have e1 : ¬ at' < 0 := by omega
                have e1d : decide (at' < 0) = false := by simp; omega
                generalize hz : (S2.l.length : Int) = z2 at *
                have e2 : ¬ z2 ≤ at' := by omega
                have e2d : decide (z2 ≤ at') = false := by simp; omega
                go_wp2_with (first | (go_at_call 10; refine HLEN2.out.mono ?_; rintro e w4 ⟨rfl, rfl⟩) | fail)
                go_roundw
                case rel => exact ⟨1, by omega, by go_num, ⟨P2, _, HM2.out, by rw [HSEEN.out.budget]; exact HBI2.out, fun h => HSEEN.out.once⟩, HB3.out⟩
                case measure => simp [intOf]
              · have hfb : (f == 0) = false := by simp [hf]
                obtain rfl : S2 = S1 := HSEEN.out.fail hf
                go_wp2_with (first | (go_at_call 10; refine HLEN2.out.mono ?_; rintro e w4 ⟨rfl, rfl⟩) | fail)
                go_roundw
                case rel => exact ⟨1, by omega, by go_num, ⟨P2, _, HM2.out, by rw [HSEEN.out.budget]; exact HBI2.out, fun h => HSEEN.out.once⟩, HB3.out⟩
                case measure => simp [intOf]
            · obtain ⟨at', f, S2, hr⟩ : ∃ at' f S2, askS c S1 = (at', f, S2) := ⟨_, _, _, rfl⟩
              have HSEEN := Lib.hid (seen_of c S1 hr)
              have HCALL : Hid (Calls Tryd.prog 11 #[.pointer (some ⟨pm, 0, none⟩), .agg #[.bool c.x.s, .slice an lm cn, .slice ad ld cd]] wr (Told w wr (.pointer (some ⟨pm, 0, none⟩)) (at', f, S2))) := Lib.hid (by
                have ha : askS c S1 = numS S1 c.x := by unfold askS; rw [if_pos (by have := HQ.out; omega)]
                rw [← hr, ha]
                exact HMI.out.num (HF.out _ HMI.out.grow))
              clear hr
              go_wp2_with (first | (go_at_call 10; refine HLEN.out.mono ?_; rintro e w3 ⟨rfl, rfl⟩) | (go_at_call 11; refine HCALL.out.mono ?_) | fail)
              rintro e w3 ⟨rfl, hkk, _, P2, hm2⟩
              have HM2 := Lib.hid hm2
              have HB3 := Lib.hid (hkk _ _ _ HBI.out (by decide) (by decide))
              have HLEN2 := Lib.hid (len_some hm2.one)
              clear hkk hm2 d0 d1 d2 d3 d4 d5 d6
              dsimp only at *
              by_cases hf : f = 0
              · obtain ⟨p1, p2⟩ := HSEEN.out.place hf
                subst hf
                have e1 : ¬ at' < 0 := by omega
                have e1d : decide (at' < 0) = false := by simp; omega
                generalize hz : (S2.l.length : Int) = z2 at *
                have e2 : ¬ z2 ≤ at' := by omega
                have e2d : decide (z2 ≤ at') = false := by simp; omega
                go_wp2_with (first | (go_at_call 10; refine HLEN2.out.mono ?_; rintro e w4 ⟨rfl, rfl⟩) | fail)
                go_roundw
                case rel => exact ⟨1, by omega, by go_num, ⟨P2, _, HM2.out, by rw [HSEEN.out.budget]; exact HBI2.out, fun h => HSEEN.out.once⟩, HB3.out⟩
                case measure => simp [intOf]
              · have hfb : (f == 0) = false := by simp [hf]
                obtain rfl : S2 = S1 := HSEEN.out.fail hf
                go_wp2_with (first | (go_at_call 10; refine HLEN2.out.mono ?_; rintro e w4 ⟨rfl, rfl⟩) | fail)
                go_roundw
                case rel => exact ⟨1, by omega, by go_num, ⟨P2, _, HM2.out, by rw [HSEEN.out.budget]; exact HBI2.out, fun h => HSEEN.out.once⟩, HB3.out⟩
                case measure => simp [intOf]
            · have HP := Lib.hid HMI.out.par
              go_wp2_with (first | (go_at_call 10; refine HLEN.out.mono ?_; rintro e w3 ⟨rfl, rfl⟩) | (go_at_call 14; refine HP.out.mono ?_) | fail)
              rintro e w3 ⟨rfl, hkk, _, P2, hm2⟩
              have HM2 := Lib.hid hm2
              have HB3 := Lib.hid (hkk _ _ _ HBI.out (by decide) (by decide))
              clear hkk hm2
              go_wp2_with fail
              go_roundw
              case rel => exact ⟨1, by omega, by go_num, ⟨P2, _, HM2.out, by rw [parS_budget]; exact HBI2.out, fun _ h2 h7 => by have := HQ.out; omega⟩, HB3.out⟩
              case measure => simp [intOf]
            · obtain ⟨at', f, S2, hr⟩ : ∃ at' f S2, askS c S1 = (at', f, S2) := ⟨_, _, _, rfl⟩
              have HSEEN := Lib.hid (seen_of c S1 hr)
              have HCALL : Hid (Calls Tryd.prog 12 #[.pointer (some ⟨pm, 0, none⟩), .int .u8 (c.op : Int), .int .i64 c.a] wr (Told w wr (.pointer (some ⟨pm, 0, none⟩)) (at', f, S2))) := Lib.hid (by
                have ha : askS c S1 = oneS S1 c.op c.a := by unfold askS; rw [if_neg (by have := HQ.out; omega), if_pos (by have := HQ.out; omega)]
                rw [← hr, ha]
                exact HMI.out.single HT.out ho256 ⟨ha1, ha2⟩)
              clear hr
              go_wp2_with (first | (go_at_call 10; refine HLEN.out.mono ?_; rintro e w3 ⟨rfl, rfl⟩) | (go_at_call 12; refine HCALL.out.mono ?_) | fail)
              rintro e w3 ⟨rfl, hkk, _, P2, hm2⟩
              have HM2 := Lib.hid hm2
              have HB3 := Lib.hid (hkk _ _ _ HBI.out (by decide) (by decide))
              have HLEN2 := Lib.hid (len_some hm2.one)
              clear hkk hm2 d0 d1 d2 d3 d4 d5 d6
              dsimp only at *
              by_cases hf : f = 0
              · obtain ⟨p1, p2⟩ := HSEEN.out.place hf
                subst hf
                have e1 : ¬ at' < 0 := by omega
                have e1d : decide (at' < 0) = false := by simp; omega
                generalize hz : (S2.l.length : Int) = z2 at *
                have e2 : ¬ z2 ≤ at' := by omega
                have e2d : decide (z2 ≤ at') = false := by simp; omega
                go_wp2_with (first | (go_at_call 10; refine HLEN2.out.mono ?_; rintro e w4 ⟨rfl, rfl⟩) | fail)
                go_roundw
                case rel => exact ⟨1, by omega, by go_num, ⟨P2, _, HM2.out, by rw [HSEEN.out.budget]; exact HBI2.out, fun h => HSEEN.out.once⟩, HB3.out⟩
                case measure => simp [intOf]
              · have hfb : (f == 0) = false := by simp [hf]
                obtain rfl : S2 = S1 := HSEEN.out.fail hf
                go_wp2_with (first | (go_at_call 10; refine HLEN2.out.mono ?_; rintro e w4 ⟨rfl, rfl⟩) | fail)
                go_roundw
                case rel => exact ⟨1, by omega, by go_num, ⟨P2, _, HM2.out, by rw [HSEEN.out.budget]; exact HBI2.out, fun h => HSEEN.out.once⟩, HB3.out⟩
                case measure => simp [intOf]
            · obtain ⟨at', f, S2, hr⟩ : ∃ at' f S2, askS c S1 = (at', f, S2) := ⟨_, _, _, rfl⟩
              have HSEEN := Lib.hid (seen_of c S1 hr)
              have HCALL : Hid (Calls Tryd.prog 12 #[.pointer (some ⟨pm, 0, none⟩), .int .u8 (c.op : Int), .int .i64 c.a] wr (Told w wr (.pointer (some ⟨pm, 0, none⟩)) (at', f, S2))) := Lib.hid (by
                have ha : askS c S1 = oneS S1 c.op c.a := by unfold askS; rw [if_neg (by have := HQ.out; omega), if_pos (by have := HQ.out; omega)]
                rw [← hr, ha]
                exact HMI.out.single HT.out ho256 ⟨ha1, ha2⟩)
              clear hr
              go_wp2_with (first | (go_at_call 10; refine HLEN.out.mono ?_; rintro e w3 ⟨rfl, rfl⟩) | (go_at_call 12; refine HCALL.out.mono ?_) | fail)
              rintro e w3 ⟨rfl, hkk, _, P2, hm2⟩
              have HM2 := Lib.hid hm2
              have HB3 := Lib.hid (hkk _ _ _ HBI.out (by decide) (by decide))
              have HLEN2 := Lib.hid (len_some hm2.one)
              clear hkk hm2 d0 d1 d2 d3 d4 d5 d6
              dsimp only at *
              by_cases hf : f = 0
              · obtain ⟨p1, p2⟩ := HSEEN.out.place hf
                subst hf
                have e1 : ¬ at' < 0 := by omega
                have e1d : decide (at' < 0) = false := by simp; omega
                generalize hz : (S2.l.length : Int) = z2 at *
                have e2 : ¬ z2 ≤ at' := by omega
                have e2d : decide (z2 ≤ at') = false := by simp; omega
                go_wp2_with (first | (go_at_call 10; refine HLEN2.out.mono ?_; rintro e w4 ⟨rfl, rfl⟩) | fail)
                go_roundw
                case rel => exact ⟨1, by omega, by go_num, ⟨P2, _, HM2.out, by rw [HSEEN.out.budget]; exact HBI2.out, fun h => HSEEN.out.once⟩, HB3.out⟩
                case measure => simp [intOf]
              · have hfb : (f == 0) = false := by simp [hf]
                obtain rfl : S2 = S1 := HSEEN.out.fail hf
                go_wp2_with (first | (go_at_call 10; refine HLEN2.out.mono ?_; rintro e w4 ⟨rfl, rfl⟩) | fail)
                go_roundw
                case rel => exact ⟨1, by omega, by go_num, ⟨P2, _, HM2.out, by rw [HSEEN.out.budget]; exact HBI2.out, fun h => HSEEN.out.once⟩, HB3.out⟩
                case measure => simp [intOf]
            · obtain ⟨at', f, S2, hr⟩ : ∃ at' f S2, askS c S1 = (at', f, S2) := ⟨_, _, _, rfl⟩
              have HSEEN := Lib.hid (seen_of c S1 hr)
              have HCALL : Hid (Calls Tryd.prog 13 #[.pointer (some ⟨pm, 0, none⟩), .int .u8 (c.op : Int), .int .i64 c.a, .int .i64 c.b] wr (Told w wr (.pointer (some ⟨pm, 0, none⟩)) (at', f, S2))) := Lib.hid (by
                have ha : askS c S1 = twoS S1 c.op c.a c.b := by unfold askS; rw [if_neg (by have := HQ.out; omega), if_neg (by have := HQ.out; omega)]
                rw [← hr, ha]
                exact HMI.out.pair HT.out ho256 ⟨ha1, ha2⟩ ⟨hb1, hb2⟩)
              clear hr
              go_wp2_with (first | (go_at_call 10; refine HLEN.out.mono ?_; rintro e w3 ⟨rfl, rfl⟩) | (go_at_call 13; refine HCALL.out.mono ?_) | fail)
              rintro e w3 ⟨rfl, hkk, _, P2, hm2⟩
              have HM2 := Lib.hid hm2
              have HB3 := Lib.hid (hkk _ _ _ HBI.out (by decide) (by decide))
              have HLEN2 := Lib.hid (len_some hm2.one)
              clear hkk hm2 d0 d1 d2 d3 d4 d5 d6
              dsimp only at *
              by_cases hf : f = 0
              · obtain ⟨p1, p2⟩ := HSEEN.out.place hf
                subst hf
                have e1 : ¬ at' < 0 := by omega
                have e1d : decide (at' < 0) = false := by simp; omega
                generalize hz : (S2.l.length : Int) = z2 at *
                have e2 : ¬ z2 ≤ at' := by omega
                have e2d : decide (z2 ≤ at') = false := by simp; omega
                go_wp2_with (first | (go_at_call 10; refine HLEN2.out.mono ?_; rintro e w4 ⟨rfl, rfl⟩) | fail)
                go_roundw
                case rel => exact ⟨1, by omega, by go_num, ⟨P2, _, HM2.out, by rw [HSEEN.out.budget]; exact HBI2.out, fun h => HSEEN.out.once⟩, HB3.out⟩
                case measure => simp [intOf]
              · have hfb : (f == 0) = false := by simp [hf]
                obtain rfl : S2 = S1 := HSEEN.out.fail hf
                go_wp2_with (first | (go_at_call 10; refine HLEN2.out.mono ?_; rintro e w4 ⟨rfl, rfl⟩) | fail)
                go_roundw
                case rel => exact ⟨1, by omega, by go_num, ⟨P2, _, HM2.out, by rw [HSEEN.out.budget]; exact HBI2.out, fun h => HSEEN.out.once⟩, HB3.out⟩
                case measure => simp [intOf]
            · obtain ⟨at', f, S2, hr⟩ : ∃ at' f S2, askS c S1 = (at', f, S2) := ⟨_, _, _, rfl⟩
              have HSEEN := Lib.hid (seen_of c S1 hr)
              have HCALL : Hid (Calls Tryd.prog 13 #[.pointer (some ⟨pm, 0, none⟩), .int .u8 (c.op : Int), .int .i64 c.a, .int .i64 c.b] wr (Told w wr (.pointer (some ⟨pm, 0, none⟩)) (at', f, S2))) := Lib.hid (by
                have ha : askS c S1 = twoS S1 c.op c.a c.b := by unfold askS; rw [if_neg (by have := HQ.out; omega), if_neg (by have := HQ.out; omega)]
                rw [← hr, ha]
                exact HMI.out.pair HT.out ho256 ⟨ha1, ha2⟩ ⟨hb1, hb2⟩)
              clear hr
              go_wp2_with (first | (go_at_call 10; refine HLEN.out.mono ?_; rintro e w3 ⟨rfl, rfl⟩) | (go_at_call 13; refine HCALL.out.mono ?_) | fail)
              rintro e w3 ⟨rfl, hkk, _, P2, hm2⟩
              have HM2 := Lib.hid hm2
              have HB3 := Lib.hid (hkk _ _ _ HBI.out (by decide) (by decide))
              have HLEN2 := Lib.hid (len_some hm2.one)
              clear hkk hm2 d0 d1 d2 d3 d4 d5 d6
              dsimp only at *
              by_cases hf : f = 0
              · obtain ⟨p1, p2⟩ := HSEEN.out.place hf
                subst hf
                have e1 : ¬ at' < 0 := by omega
                have e1d : decide (at' < 0) = false := by simp; omega
                generalize hz : (S2.l.length : Int) = z2 at *
                have e2 : ¬ z2 ≤ at' := by omega
                have e2d : decide (z2 ≤ at') = false := by simp; omega
                go_wp2_with (first | (go_at_call 10; refine HLEN2.out.mono ?_; rintro e w4 ⟨rfl, rfl⟩) | fail)
                go_roundw
                case rel => exact ⟨1, by omega, by go_num, ⟨P2, _, HM2.out, by rw [HSEEN.out.budget]; exact HBI2.out, fun h => HSEEN.out.once⟩, HB3.out⟩
                case measure => simp [intOf]
              · have hfb : (f == 0) = false := by simp [hf]
                obtain rfl : S2 = S1 := HSEEN.out.fail hf
                go_wp2_with (first | (go_at_call 10; refine HLEN2.out.mono ?_; rintro e w4 ⟨rfl, rfl⟩) | fail)
                go_roundw
                case rel => exact ⟨1, by omega, by go_num, ⟨P2, _, HM2.out, by rw [HSEEN.out.budget]; exact HBI2.out, fun h => HSEEN.out.once⟩, HB3.out⟩
                case measure => simp [intOf]
            · have HP := Lib.hid HMI.out.par
              go_wp2_with (first | (go_at_call 10; refine HLEN.out.mono ?_; rintro e w3 ⟨rfl, rfl⟩) | (go_at_call 14; refine HP.out.mono ?_) | fail)
              rintro e w3 ⟨rfl, hkk, _, P2, hm2⟩
              have HM2 := Lib.hid hm2
              have HB3 := Lib.hid (hkk _ _ _ HBI.out (by decide) (by decide))
              clear hkk hm2
              go_wp2_with fail
              go_roundw
              case rel => exact ⟨1, by omega, by go_num, ⟨P2, _, HM2.out, by rw [parS_budget]; exact HBI2.out, fun _ h2 h7 => by have := HQ.out; omega⟩, HB3.out⟩
              case measure => simp [intOf]
          · rcases hq9 with rfl | rfl | rfl | rfl | rfl | rfl | rfl | rfl
            · obtain ⟨at', f, S2, hr⟩ : ∃ at' f S2, askS c S1 = (at', f, S2) := ⟨_, _, _, rfl⟩
              have HSEEN := Lib.hid (seen_of c S1 hr)
              have HCALL : Hid (Calls Tryd.prog 11 #[.pointer (some ⟨pm, 0, none⟩), .agg #[.bool c.x.s, .slice an lm cn, .slice ad ld cd]] wr (Told w wr (.pointer (some ⟨pm, 0, none⟩)) (at', f, S2))) := Lib.hid (by
                have ha : askS c S1 = numS S1 c.x := by unfold askS; rw [if_pos (by have := HQ.out; omega)]
                rw [← hr, ha]
                exact HMI.out.num (HF.out _ HMI.out.grow))
              obtain rfl : S2 = S1 := by
                have := HON.out rfl (by have := HQ.out; omega) (by have := HQ.out; omega)
                rw [hr] at this
                exact this
              clear hr
              go_wp2_with (first | (go_at_call 10; refine HLEN.out.mono ?_; rintro e w3 ⟨rfl, rfl⟩) | (go_at_call 11; refine HCALL.out.mono ?_) | fail)
              rintro e w3 ⟨rfl, hkk, _, P2, hm2⟩
              have HM2 := Lib.hid hm2
              have HB3 := Lib.hid (hkk _ _ _ HBI.out (by decide) (by decide))
              have HLEN2 := Lib.hid (len_some hm2.one)
              clear hkk hm2 d0 d1 d2 d3 d4 d5 d6
              dsimp only at *
              by_cases hf : f = 0
              · obtain ⟨p1, p2⟩ := HSEEN.out.place hf
                subst hf
                have e1 : ¬ at' < 0 := by omega
                have e1d : decide (at' < 0) = false := by simp; omega
                generalize hz : (S2.l.length : Int) = z2 at *
                have e2 : ¬ z2 ≤ at' := by omega
                have e2d : decide (z2 ≤ at') = false := by simp; omega
                go_wp2_with (first | (go_at_call 10; refine HLEN2.out.mono ?_; rintro e w4 ⟨rfl, rfl⟩) | fail)
                go_roundw
                case rel => exact ⟨2, by omega, by go_num, ⟨P2, _, HM2.out, by rw [HSEEN.out.budget]; exact HBI2.out, fun h => by omega⟩, HB3.out⟩
                case measure => simp [intOf]
              · have hfb : (f == 0) = false := by simp [hf]
                go_wp2_with (first | (go_at_call 10; refine HLEN2.out.mono ?_; rintro e w4 ⟨rfl, rfl⟩) | fail)
                go_roundw
                case rel => exact ⟨2, by omega, by go_num, ⟨P2, _, HM2.out, by rw [HSEEN.out.budget]; exact HBI2.out, fun h => by omega⟩, HB3.out⟩
                case measure => simp [intOf]
            · obtain ⟨at', f, S2, hr⟩ : ∃ at' f S2, askS c S1 = (at', f, S2) := ⟨_, _, _, rfl⟩
              have HSEEN := Lib.hid (seen_of c S1 hr)
              have HCALL : Hid (Calls Tryd.prog 11 #[.pointer (some ⟨pm, 0, none⟩), .agg #[.bool c.x.s, .slice an lm cn, .slice ad ld cd]] wr (Told w wr (.pointer (some ⟨pm, 0, none⟩)) (at', f, S2))) := Lib.hid (by
                have ha : askS c S1 = numS S1 c.x := by unfold askS; rw [if_pos (by have := HQ.out; omega)]
                rw [← hr, ha]
                exact HMI.out.num (HF.out _ HMI.out.grow))
              obtain rfl : S2 = S1 := by
                have := HON.out rfl (by have := HQ.out; omega) (by have := HQ.out; omega)
                rw [hr] at this
                exact this
              clear hr
              go_wp2_with (first | (go_at_call 10; refine HLEN.out.mono ?_; rintro e w3 ⟨rfl, rfl⟩) | (go_at_call 11; refine HCALL.out.mono ?_) | fail)
              rintro e w3 ⟨rfl, hkk, _, P2, hm2⟩
              have HM2 := Lib.hid hm2
              have HB3 := Lib.hid (hkk _ _ _ HBI.out (by decide) (by decide))
              have HLEN2 := Lib.hid (len_some hm2.one)
              clear hkk hm2 d0 d1 d2 d3 d4 d5 d6
              dsimp only at *
              by_cases hf : f = 0
              · obtain ⟨p1, p2⟩ := HSEEN.out.place hf
                subst hf
                have e1 : ¬ at' < 0 := by omega
                have e1d : decide (at' < 0) = false := by simp; omega
                generalize hz : (S2.l.length : Int) = z2 at *
                have e2 : ¬ z2 ≤ at' := by omega
                have e2d : decide (z2 ≤ at') = false := by simp; omega
                go_wp2_with (first | (go_at_call 10; refine HLEN2.out.mono ?_; rintro e w4 ⟨rfl, rfl⟩) | fail)
                go_roundw
                case rel => exact ⟨2, by omega, by go_num, ⟨P2, _, HM2.out, by rw [HSEEN.out.budget]; exact HBI2.out, fun h => by omega⟩, HB3.out⟩
                case measure => simp [intOf]
              · have hfb : (f == 0) = false := by simp [hf]
                go_wp2_with (first | (go_at_call 10; refine HLEN2.out.mono ?_; rintro e w4 ⟨rfl, rfl⟩) | fail)
                go_roundw
                case rel => exact ⟨2, by omega, by go_num, ⟨P2, _, HM2.out, by rw [HSEEN.out.budget]; exact HBI2.out, fun h => by omega⟩, HB3.out⟩
                case measure => simp [intOf]
            · go_wp2_with (first | (go_at_call 10; refine HLEN.out.mono ?_; rintro e w3 ⟨rfl, rfl⟩) | fail)
              go_roundw
              case rel => exact ⟨2, by omega, by go_num, ⟨P1, S1, HMI.out, HBI2.out, fun h => by omega⟩, HBI.out⟩
              case measure => simp [intOf]
            · obtain ⟨at', f, S2, hr⟩ : ∃ at' f S2, askS c S1 = (at', f, S2) := ⟨_, _, _, rfl⟩
              have HSEEN := Lib.hid (seen_of c S1 hr)
              have HCALL : Hid (Calls Tryd.prog 12 #[.pointer (some ⟨pm, 0, none⟩), .int .u8 (c.op : Int), .int .i64 c.a] wr (Told w wr (.pointer (some ⟨pm, 0, none⟩)) (at', f, S2))) := Lib.hid (by
                have ha : askS c S1 = oneS S1 c.op c.a := by unfold askS; rw [if_neg (by have := HQ.out; omega), if_pos (by have := HQ.out; omega)]
                rw [← hr, ha]
                exact HMI.out.single HT.out ho256 ⟨ha1, ha2⟩)
              obtain rfl : S2 = S1 := by
                have := HON.out rfl (by have := HQ.out; omega) (by have := HQ.out; omega)
                rw [hr] at this
                exact this
              clear hr
              go_wp2_with (first | (go_at_call 10; refine HLEN.out.mono ?_; rintro e w3 ⟨rfl, rfl⟩) | (go_at_call 12; refine HCALL.out.mono ?_) | fail)
              rintro e w3 ⟨rfl, hkk, _, P2, hm2⟩
              have HM2 := Lib.hid hm2
              have HB3 := Lib.hid (hkk _ _ _ HBI.out (by decide) (by decide))
              have HLEN2 := Lib.hid (len_some hm2.one)
              clear hkk hm2 d0 d1 d2 d3 d4 d5 d6
              dsimp only at *
              by_cases hf : f = 0
              · obtain ⟨p1, p2⟩ := HSEEN.out.place hf
                subst hf
                have e1 : ¬ at' < 0 := by omega
                have e1d : decide (at' < 0) = false := by simp; omega
                generalize hz : (S2.l.length : Int) = z2 at *
                have e2 : ¬ z2 ≤ at' := by omega
                have e2d : decide (z2 ≤ at') = false := by simp; omega
                go_wp2_with (first | (go_at_call 10; refine HLEN2.out.mono ?_; rintro e w4 ⟨rfl, rfl⟩) | fail)
                go_roundw
                case rel => exact ⟨2, by omega, by go_num, ⟨P2, _, HM2.out, by rw [HSEEN.out.budget]; exact HBI2.out, fun h => by omega⟩, HB3.out⟩
                case measure => simp [intOf]
              · have hfb : (f == 0) = false := by simp [hf]
                go_wp2_with (first | (go_at_call 10; refine HLEN2.out.mono ?_; rintro e w4 ⟨rfl, rfl⟩) | fail)
                go_roundw
                case rel => exact ⟨2, by omega, by go_num, ⟨P2, _, HM2.out, by rw [HSEEN.out.budget]; exact HBI2.out, fun h => by omega⟩, HB3.out⟩
                case measure => simp [intOf]
            · obtain ⟨at', f, S2, hr⟩ : ∃ at' f S2, askS c S1 = (at', f, S2) := ⟨_, _, _, rfl⟩
              have HSEEN := Lib.hid (seen_of c S1 hr)
              have HCALL : Hid (Calls Tryd.prog 12 #[.pointer (some ⟨pm, 0, none⟩), .int .u8 (c.op : Int), .int .i64 c.a] wr (Told w wr (.pointer (some ⟨pm, 0, none⟩)) (at', f, S2))) := Lib.hid (by
                have ha : askS c S1 = oneS S1 c.op c.a := by unfold askS; rw [if_neg (by have := HQ.out; omega), if_pos (by have := HQ.out; omega)]
                rw [← hr, ha]
                exact HMI.out.single HT.out ho256 ⟨ha1, ha2⟩)
              obtain rfl : S2 = S1 := by
                have := HON.out rfl (by have := HQ.out; omega) (by have := HQ.out; omega)
                rw [hr] at this
                exact this
              clear hr
              go_wp2_with (first | (go_at_call 10; refine HLEN.out.mono ?_; rintro e w3 ⟨rfl, rfl⟩) | (go_at_call 12; refine HCALL.out.mono ?_) | fail)
              rintro e w3 ⟨rfl, hkk, _, P2, hm2⟩
              have HM2 := Lib.hid hm2
              have HB3 := Lib.hid (hkk _ _ _ HBI.out (by decide) (by decide))
              have HLEN2 := Lib.hid (len_some hm2.one)
              clear hkk hm2 d0 d1 d2 d3 d4 d5 d6
              dsimp only at *
              by_cases hf : f = 0
              · obtain ⟨p1, p2⟩ := HSEEN.out.place hf
                subst hf
                have e1 : ¬ at' < 0 := by omega
                have e1d : decide (at' < 0) = false := by simp; omega
                generalize hz : (S2.l.length : Int) = z2 at *
                have e2 : ¬ z2 ≤ at' := by omega
                have e2d : decide (z2 ≤ at') = false := by simp; omega
                go_wp2_with (first | (go_at_call 10; refine HLEN2.out.mono ?_; rintro e w4 ⟨rfl, rfl⟩) | fail)
                go_roundw
                case rel => exact ⟨2, by omega, by go_num, ⟨P2, _, HM2.out, by rw [HSEEN.out.budget]; exact HBI2.out, fun h => by omega⟩, HB3.out⟩
                case measure => simp [intOf]
              · have hfb : (f == 0) = false := by simp [hf]
                go_wp2_with (first | (go_at_call 10; refine HLEN2.out.mono ?_; rintro e w4 ⟨rfl, rfl⟩) | fail)
                go_roundw
                case rel => exact ⟨2, by omega, by go_num, ⟨P2, _, HM2.out, by rw [HSEEN.out.budget]; exact HBI2.out, fun h => by omega⟩, HB3.out⟩
                case measure => simp [intOf]
            · obtain ⟨at', f, S2, hr⟩ : ∃ at' f S2, askS c S1 = (at', f, S2) := ⟨_, _, _, rfl⟩
              have HSEEN := Lib.hid (seen_of c S1 hr)
              have HCALL : Hid (Calls Tryd.prog 13 #[.pointer (some ⟨pm, 0, none⟩), .int .u8 (c.op : Int), .int .i64 c.a, .int .i64 c.b] wr (Told w wr (.pointer (some ⟨pm, 0, none⟩)) (at', f, S2))) := Lib.hid (by
                have ha : askS c S1 = twoS S1 c.op c.a c.b := by unfold askS; rw [if_neg (by have := HQ.out; omega), if_neg (by have := HQ.out; omega)]
                rw [← hr, ha]
                exact HMI.out.pair HT.out ho256 ⟨ha1, ha2⟩ ⟨hb1, hb2⟩)
              obtain rfl : S2 = S1 := by
                have := HON.out rfl (by have := HQ.out; omega) (by have := HQ.out; omega)
                rw [hr] at this
                exact this
              clear hr
              go_wp2_with (first | (go_at_call 10; refine HLEN.out.mono ?_; rintro e w3 ⟨rfl, rfl⟩) | (go_at_call 13; refine HCALL.out.mono ?_) | fail)
              rintro e w3 ⟨rfl, hkk, _, P2, hm2⟩
              have HM2 := Lib.hid hm2
              have HB3 := Lib.hid (hkk _ _ _ HBI.out (by decide) (by decide))
              have HLEN2 := Lib.hid (len_some hm2.one)
              clear hkk hm2 d0 d1 d2 d3 d4 d5 d6
              dsimp only at *
              by_cases hf : f = 0
              · obtain ⟨p1, p2⟩ := HSEEN.out.place hf
                subst hf
                have e1 : ¬ at' < 0 := by omega
                have e1d : decide (at' < 0) = false := by simp; omega
                generalize hz : (S2.l.length : Int) = z2 at *
                have e2 : ¬ z2 ≤ at' := by omega
                have e2d : decide (z2 ≤ at') = false := by simp; omega
                go_wp2_with (first | (go_at_call 10; refine HLEN2.out.mono ?_; rintro e w4 ⟨rfl, rfl⟩) | fail)
                go_roundw
                case rel => exact ⟨2, by omega, by go_num, ⟨P2, _, HM2.out, by rw [HSEEN.out.budget]; exact HBI2.out, fun h => by omega⟩, HB3.out⟩
                case measure => simp [intOf]
              · have hfb : (f == 0) = false := by simp [hf]
                go_wp2_with (first | (go_at_call 10; refine HLEN2.out.mono ?_; rintro e w4 ⟨rfl, rfl⟩) | fail)
                go_roundw
                case rel => exact ⟨2, by omega, by go_num, ⟨P2, _, HM2.out, by rw [HSEEN.out.budget]; exact HBI2.out, fun h => by omega⟩, HB3.out⟩
                case measure => simp [intOf]
            · obtain ⟨at', f, S2, hr⟩ : ∃ at' f S2, askS c S1 = (at', f, S2) := ⟨_, _, _, rfl⟩
              have HSEEN := Lib.hid (seen_of c S1 hr)
              have HCALL : Hid (Calls Tryd.prog 13 #[.pointer (some ⟨pm, 0, none⟩), .int .u8 (c.op : Int), .int .i64 c.a, .int .i64 c.b] wr (Told w wr (.pointer (some ⟨pm, 0, none⟩)) (at', f, S2))) := Lib.hid (by
                have ha : askS c S1 = twoS S1 c.op c.a c.b := by unfold askS; rw [if_neg (by have := HQ.out; omega), if_neg (by have := HQ.out; omega)]
                rw [← hr, ha]
                exact HMI.out.pair HT.out ho256 ⟨ha1, ha2⟩ ⟨hb1, hb2⟩)
              obtain rfl : S2 = S1 := by
                have := HON.out rfl (by have := HQ.out; omega) (by have := HQ.out; omega)
                rw [hr] at this
                exact this
              clear hr
              go_wp2_with (first | (go_at_call 10; refine HLEN.out.mono ?_; rintro e w3 ⟨rfl, rfl⟩) | (go_at_call 13; refine HCALL.out.mono ?_) | fail)
              rintro e w3 ⟨rfl, hkk, _, P2, hm2⟩
              have HM2 := Lib.hid hm2
              have HB3 := Lib.hid (hkk _ _ _ HBI.out (by decide) (by decide))
              have HLEN2 := Lib.hid (len_some hm2.one)
              clear hkk hm2 d0 d1 d2 d3 d4 d5 d6
              dsimp only at *
              by_cases hf : f = 0
              · obtain ⟨p1, p2⟩ := HSEEN.out.place hf
                subst hf
                have e1 : ¬ at' < 0 := by omega
                have e1d : decide (at' < 0) = false := by simp; omega
                generalize hz : (S2.l.length : Int) = z2 at *
                have e2 : ¬ z2 ≤ at' := by omega
                have e2d : decide (z2 ≤ at') = false := by simp; omega
                go_wp2_with (first | (go_at_call 10; refine HLEN2.out.mono ?_; rintro e w4 ⟨rfl, rfl⟩) | fail)
                go_roundw
                case rel => exact ⟨2, by omega, by go_num, ⟨P2, _, HM2.out, by rw [HSEEN.out.budget]; exact HBI2.out, fun h => by omega⟩, HB3.out⟩
                case measure => simp [intOf]
              · have hfb : (f == 0) = false := by simp [hf]
                go_wp2_with (first | (go_at_call 10; refine HLEN2.out.mono ?_; rintro e w4 ⟨rfl, rfl⟩) | fail)
                go_roundw
                case rel => exact ⟨2, by omega, by go_num, ⟨P2, _, HM2.out, by rw [HSEEN.out.budget]; exact HBI2.out, fun h => by omega⟩, HB3.out⟩
                case measure => simp [intOf]
            · go_wp2_with (first | (go_at_call 10; refine HLEN.out.mono ?_; rintro e w3 ⟨rfl, rfl⟩) | fail)
              go_roundw
              case rel => exact ⟨2, by omega, by go_num, ⟨P1, S1, HMI.out, HBI2.out, fun h => by omega⟩, HBI.out⟩
              case measure => simp [intOf]
          · clear d0 d1 d2 d3 d4 d5 d6 hq9
            go_wp2_with fail
            go_roundw
            case rel => exact ⟨k + 1, by have := HNN.out; omega, by omega, by go_num, P1, S1, HMI.out, HBI2.out⟩
            case measure => simp [intOf]; omega
    · by_cases hlt : k < N
      · obtain rfl : k = 80 := by omega
        have hltI : ((80 : Nat) : Int) < (N : Int) := by omega
        have HLEN := Lib.hid (len_some HM.out.one)
        have HGOOD := Lib.hid HM.out.one.good
        by_cases hz : S.l.length = 0
        · rw [hz] at HLEN
          go_wp2_with (first | (go_at_call 10; refine HLEN.out.mono ?_; rintro e w3 ⟨rfl, rfl⟩) | fail)
          go_wp2_with (first | (go_at_call 8; refine (HH.out _ HM.out.grow).mono ?_) | fail)
          rintro e w3 ⟨rfl, hg3⟩
          have HG3 := Lib.hid (Grow.trans HM.out.grow hg3)
          clear hg3
          go_wp2_with fail
          go_ret
          exact ⟨rfl, HG3.out⟩
        · obtain ⟨z, hzz⟩ : ∃ z, z = S.l.length := ⟨_, rfl⟩
          have HZ := Lib.hid hzz
          have hz1 : 1 ≤ z := by omega
          have hz2 : z ≤ 20000 := by have := HGOOD.out; obtain ⟨_, h2, _, h4, _⟩ := this; omega
          have hzn : ((z : Nat) : Int) ≤ n := by have := HGOOD.out; obtain ⟨_, h2, _, h4, _⟩ := this; have := HB.out; omega
          have HTP : Hid (Calls Tryd.prog 15 #[.pointer (some ⟨pm, 0, none⟩), .int .i64 ((z : Int) - 1), .slice none 0 0] wr (TapePost S ((z : Int) - 1) [] wr)) := Lib.hid (tape_some (T := []) HM.out.one (by constructor <;> omega) (fun i x hx => by simp at hx) (by decide) (fun x hx => by cases hx))
          rw [← hzz] at HLEN
          clear hz hzz
          go_wp2_with (first | (go_at_call 10; refine HLEN.out.mono ?_; rintro e w3 ⟨rfl, rfl⟩) | (go_at_call 15; refine HTP.out.mono ?_) | fail)
          rintro e wm (⟨_, vN, vT, rfl, hn, htl, hg⟩ | ⟨h, _⟩)
          · obtain ⟨g, cap, rfl, hcap, hcm, _, hat⟩ := hn.form2 (fun e => by rw [HZ.out, e] at hz1; simp at hz1)
            obtain ⟨AT, ct, rfl, hatT⟩ := htl.form
            have htp : TpAt 2048 wm ⟨(S.pars : Int), (z : Int) - 1, S.l, []⟩ (.slice (some ⟨g, 0, none⟩) S.l.length cap) (.slice AT ([] : List (List UInt8 × Int)).length ct) := ⟨by constructor <;> simp only [] <;> (have := HGOOD.out; obtain ⟨_, _, h3, _⟩ := this; omega), by constructor <;> simp only [] <;> omega, by show S.l.length ≤ _; have := HZ.out; omega, by simp, _, _, _, _, rfl, rfl, hat, hatT⟩
            have hval := good_valid HGOOD.out (out := (z : Int) - 1) (T := []) (by omega) (by have := HZ.out; omega) rfl
            have hchk := fun W (hW : Grow wm W) => check_any (htp.grow hW) (by decide) (HT.out.grow (Grow.trans (HM.out.grow.trans hg) hW))
            rw [hval] at hchk
            unfold tpV at hchk
            dsimp only at hchk
            rw [← HZ.out] at hchk hcap ⊢
            have HCHK := Lib.hid hchk
            have HAT := Lib.hid hat
            have HTPT := Lib.hid htp
            have HMM := Lib.hid (HM.out.more hg)
            clear hn htl hg htp hval hchk hat hatT
            have hL0 : ([] : List (List UInt8 × Int)).length = 0 := rfl
            rw [hL0] at HCHK ⊢
            have HLEN2 := Lib.hid (fun W (hW : Grow wm W) => len_some (HMM.out.more hW).one)
            rw [← HZ.out] at HLEN2
            have hblk : BlkOf (wm.alloc (.cells #[.int .i64 (S.pars : Int), .int .i64 ((z : Int) - 1), .slice (some ⟨g, 0, none⟩) z cap, .slice AT 0 ct] 46)) wm.heap.size #[.int .i64 (S.pars : Int), .int .i64 ((z : Int) - 1), .slice (some ⟨g, 0, none⟩) z cap, .slice AT 0 ct] 46 := BlkOf.new wm _ _
            have HBLK := Lib.hid hblk
            have KC : Hid (∀ W, Grow (wm.alloc (.cells #[.int .i64 (S.pars : Int), .int .i64 ((z : Int) - 1), .slice (some ⟨g, 0, none⟩) z cap, .slice AT 0 ct] 46)) W → W.cell? ⟨wm.heap.size, 0, none⟩ = some (.int .i64 (S.pars : Int)) ∧ W.cell? ⟨wm.heap.size, 1, none⟩ = some (.int .i64 ((z : Int) - 1)) ∧ W.cell? ⟨wm.heap.size, 2, none⟩ = some (.slice (some ⟨g, 0, none⟩) z cap) ∧ W.cell? ⟨wm.heap.size, 3, none⟩ = some (.slice AT 0 ct)) := Lib.hid fun W hW => by
              have q := HBLK.out.below hW HBLK.out.lt
              exact ⟨q.at 0 rfl, q.at 1 rfl, q.at 2 rfl, q.at 3 rfl⟩
            have hgt : ¬ (n < (z : Int)) := by omega
            have hgtd : decide (n < (z : Int)) = false := by simp; omega
            clear hblk
            go_wp2_with fail
            rename_i K0 hK0
            refine wp_region_listG [fun v _ => v = .int .i64 0, fun v _ => v = .bool false, fun v _ => v = .bool false, fun v _ => v = .agg #[.int .i64 (S.pars : Int), .int .i64 ((z : Int) - 1), .slice (some ⟨g, 0, none⟩) z cap, .slice AT 0 ct], fun v _ => v = .int .i64 0, fun v _ => v = .bool false, fun v _ => v = .bool false, fun v _ => v = .bool false, fun v _ => v = .pointer (some ⟨wm.heap.size, 2, none⟩), fun v _ => v = .slice (some ⟨g, 0, none⟩) z cap, fun v _ => v = .int .i64 (z : Int), fun v _ => v = .pointer (some ⟨pm, 0, none⟩), fun v _ => v = .int .i64 (z : Int), fun v _ => v = .bool false, fun v _ => v = .bool false, fun v _ => v = .bool false, fun v _ => v = .pointer (some ⟨wm.heap.size, 2, none⟩), fun v _ => v = .slice (some ⟨g, 0, none⟩) z cap, fun v _ => v = .int .i64 (z : Int), fun v _ => v = .int .i64 n, fun v _ => v = .bool false]
              [(0, .int .i64 n), (5, .pointer (some ⟨pm, 0, none⟩)), (13, .pointer (some ⟨wm.heap.size, 0, none⟩)), (14, .int .i64 0)] 21 (by kernel_rfl) ⟨stays_pure _, stays_pure _, stays_pure _, stays_pure _, stays_pure _, stays_pure _, stays_pure _, stays_pure _, stays_pure _, stays_pure _, stays_pure _, stays_pure _, stays_pure _, stays_pure _, stays_pure _, stays_pure _, stays_pure _, stays_pure _, stays_pure _, stays_pure _, stays_pure _, trivial⟩ rfl (by kernel_rfl) rfl ?base (by kernel_rfl) ⟨?_, ?_, ?_, ?_, ?_, ?_, ?_, ?_, ?_, ?_, ?_, ?_, ?_, ?_, ?_, ?_, ?_, ?_, ?_, ?_, ?_, trivial⟩ ?last
            case base => simp
            case last =>
              intro vs W hW hv
              simp only [FactsL, Nat.zero_add, Nat.reduceAdd] at hv
              have v15 := hv.2.2.2.2.2.2.2.2.2.2.2.2.2.2.2.1
              have v20 := hv.2.2.2.2.2.2.2.2.2.2.2.2.2.2.2.2.2.2.2.2.1
              clear hv
              refine ⟨rfl, ?_⟩
              simp only [List.take_succ_cons, List.take_zero, putF, Act.put, List.setIfInBounds_toArray, List.set_cons_zero, List.set_cons_succ, Nat.reduceAdd, v15, v20]
              unfold Oper.wp
              simp [execOp, go_sem]
              have hb2 := HBLK.out.below hW HBLK.out.lt
              have hg2 : Grow wm W := Grow.trans (Grow.alloc _ _) hW
              have HB2 := Lib.hid hb2
              have HG2 := Lib.hid hg2
              have t2 := hb2.at 2 rfl
              refine hK0 _ _ ?_
              clear v15 v20 hb2 hg2 hgtd hgt KC HBLK
              go_wp2_with fail
              clear t2
              go_loopw [15] (fun i wr => TwoRel z wm.heap.size #[.int .i64 (S.pars : Int), .int .i64 ((z : Int) - 1), .slice (some ⟨g, 0, none⟩) z cap, .slice AT 0 ct] wm i wr) (fun i _ => z - (intOf i).toNat)
              case atStart => exact ⟨0, by omega, rfl, HB2.out, HG2.out⟩
              case round =>
                obtain ⟨i, hi, rfl, hb, hg⟩ := hrel
                have HB3 := Lib.hid hb
                have HG3 := Lib.hid hg
                have t2 := hb.at 2 rfl
                by_cases hlt : i < z
                · have hltI : (i : Int) < (z : Int) := by omega
                  clear hb hg
                  go_wp2_with fail
                  clear t2
                  obtain ⟨wi, hwi⟩ : ∃ wi, wi = wr := ⟨_, rfl⟩
                  rw [← hwi] at HB3 HG3 ⊢
                  clear hwi
                  go_loopw [16] (fun j wr => TwoRel i wm.heap.size #[.int .i64 (S.pars : Int), .int .i64 ((z : Int) - 1), .slice (some ⟨g, 0, none⟩) z cap, .slice AT 0 ct] wm j wr) (fun j _ => i - (intOf j).toNat)
                  case atStart => exact ⟨0, by omega, rfl, HB3.out, HG3.out⟩
                  case round =>
                    obtain ⟨j, hj, rfl, hb, hg⟩ := hrel
                    have HB4 := Lib.hid hb
                    have HG4 := Lib.hid hg
                    have t0 := hb.at 0 rfl
                    have t1 := hb.at 1 rfl
                    have t2 := hb.at 2 rfl
                    have t3 := hb.at 3 rfl
                    clear hb hg
                    by_cases hlt2 : j < i
                    · have hltJ : (j : Int) < (i : Int) := by omega
                      obtain ⟨xi, hxi⟩ : ∃ x, S.l[i]? = some x := ⟨_, List.getElem?_eq_getElem (by have := HZ.out; omega)⟩
                      obtain ⟨xj, hxj⟩ : ∃ x, S.l[j]? = some x := ⟨_, List.getElem?_eq_getElem (by have := HZ.out; omega)⟩
                      have hsm := fun W (hW : Grow wm W) => tsame_any (tp_one (cap := cap - i) (HAT.out.grow hW) hxi) (tp_one (cap := cap - j) (HAT.out.grow hW) hxj) (by decide)
                      rw [differ HGOOD.out (by omega) hxi hxj] at hsm
                      unfold tpV at hsm
                      dsimp only at hsm
                      have HSM := Lib.hid hsm
                      have t2' := fun o => (HB4.out.alloc o).at 2 rfl
                      clear hxi hxj hsm
                      go_wp2_with (first | (go_at_call 17; refine (HSM.out _ (Grow.trans HG4.out (Grow.trans (Grow.alloc _ _) (Grow.alloc _ _)))).mono ?_) | fail)
                      rintro e w6 ⟨rfl, hg6⟩
                      have HG6 := Lib.hid (Grow.trans (Grow.trans (Grow.alloc _ _) (Grow.alloc _ _)) hg6)
                      clear hg6 t0 t1 t2 t3 t2'
                      go_wp2_with fail
                      go_roundw
                      case rel => exact ⟨j + 1, by omega, by go_num, HB4.out.below HG6.out HB4.out.lt, HG4.out.trans HG6.out⟩
                      case measure => simp [intOf]; omega
                    · have hltJ : ¬ (j : Int) < (i : Int) := by omega
                      go_wp2_with fail
                      go_roundw
                      case rel => exact ⟨i + 1, by omega, by go_num, HB4.out, HG4.out⟩
                      case measure => simp [intOf]; omega
                · have hltI : ¬ (i : Int) < (z : Int) := by omega
                  have t0 := hb.at 0 rfl
                  have t1 := hb.at 1 rfl
                  have t3 := hb.at 3 rfl
                  have hsm := fun W (hW : Grow wm W) => tsame_any (HTPT.out.grow hW) (HTPT.out.grow hW) (by decide)
                  rw [sameTp_self] at hsm
                  unfold tpV at hsm
                  dsimp only at hsm
                  rw [← HZ.out, hL0] at hsm
                  have HSM := Lib.hid hsm
                  clear hb hg hsm
                  go_wp2_with (first | (go_at_call 17; refine (HSM.out _ HG3.out).mono ?_) | fail)
                  rintro e w6 ⟨rfl, hg6⟩
                  have HG6 := Lib.hid (Grow.trans HMM.out.grow (Grow.trans HG3.out hg6))
                  clear hg6 t0 t1 t2 t3
                  go_wp2_with (first | (go_at_call 8; refine (HH.out _ HG6.out).mono ?_) | fail)
                  rintro e w7 ⟨rfl, hg7⟩
                  have HG7 := Lib.hid (Grow.trans HG6.out hg7)
                  clear hg7
                  go_wp2_with fail
                  go_ret
                  exact ⟨rfl, HG7.out⟩
            all_goals
              intro a' W hW hb hf
              obtain ⟨e0, e1, e2, e3⟩ := KC.out W hW
              simp only [List.forall_mem_cons, List.not_mem_nil, false_imp_iff, implies_true, and_true] at hb
              obtain ⟨m0, m5, m13, m14⟩ := hb
              simp [FactsOf, FactAt, Region.binds, factsL] at hf
            · refine .inl ⟨rfl, fun K hK => ?_⟩
              unfold Oper.wp
              simp [execOp, go_sem, *]
              exact hK _ _ (Grow.refl _) rfl
            · refine .inl ⟨rfl, fun K hK => ?_⟩
              unfold Oper.wp
              simp [execOp, go_sem, *]
              exact hK _ _ (Grow.refl _) rfl
            · refine .inl ⟨rfl, fun K hK => ?_⟩
              unfold Oper.wp
              simp [execOp, go_sem, *]
              exact hK _ _ (Grow.refl _) rfl
            · refine .inl ⟨wanted_yes (j := 2) (b := false) rfl (yielded_of (d := 149) rfl (by simp [hf])), fun K hK => ?_⟩
              unfold Oper.wp
              simp [execOp, go_sem, *]
              exact hK _ _ (Grow.refl _) rfl
            · refine .inl ⟨wanted_yes (j := 2) (b := false) rfl (yielded_of (d := 149) rfl (by simp [hf])), fun K hK => ?_⟩
              unfold Oper.wp
              simp [go_sem, *]
              refine (HCHK.out W (Grow.trans (Grow.alloc _ _) hW)).mono ?_
              rintro e W' ⟨rfl, hg⟩
              exact hK _ _ hg rfl
            · refine .inl ⟨wanted_yes (j := 2) (b := false) rfl (yielded_of (d := 149) rfl (by simp [hf])), fun K hK => ?_⟩
              unfold Oper.wp
              simp [execOp, go_sem, *]
              exact hK _ _ (Grow.refl _) rfl
            · refine .inl ⟨rfl, fun K hK => ?_⟩
              unfold Oper.wp
              simp [execOp, go_sem, *]
              exact hK _ _ (Grow.refl _) rfl
            · refine .inl ⟨rfl, fun K hK => ?_⟩
              unfold Oper.wp
              simp [execOp, go_sem, *]
              exact hK _ _ (Grow.refl _) rfl
            · refine .inl ⟨wanted_yes (j := 7) (b := false) rfl (yielded_of (d := 154) rfl (by simp [hf])), fun K hK => ?_⟩
              unfold Oper.wp
              simp [execOp, go_sem, *]
              exact hK _ _ (Grow.refl _) rfl
            · refine .inl ⟨wanted_yes (j := 7) (b := false) rfl (yielded_of (d := 154) rfl (by simp [hf])), fun K hK => ?_⟩
              unfold Oper.wp
              simp [execOp, go_sem, *]
              exact hK _ _ (Grow.refl _) rfl
            · refine .inl ⟨wanted_yes (j := 7) (b := false) rfl (yielded_of (d := 154) rfl (by simp [hf])), fun K hK => ?_⟩
              unfold Oper.wp
              simp [go_sem, *]
              exact hK _ _ (Grow.refl _) rfl
            · refine .inl ⟨wanted_yes (j := 7) (b := false) rfl (yielded_of (d := 154) rfl (by simp [hf])), fun K hK => ?_⟩
              unfold Oper.wp
              simp [execOp, go_sem, *]
              exact hK _ _ (Grow.refl _) rfl
            · refine .inl ⟨wanted_yes (j := 7) (b := false) rfl (yielded_of (d := 154) rfl (by simp [hf])), fun K hK => ?_⟩
              unfold Oper.wp
              simp [go_sem, *]
              refine (HLEN2.out W (Grow.trans (Grow.alloc _ _) hW)).mono ?_
              rintro e W' ⟨rfl, rfl⟩
              exact hK _ _ (Grow.refl _) rfl
            · refine .inl ⟨wanted_yes (j := 7) (b := false) rfl (yielded_of (d := 154) rfl (by simp [hf])), fun K hK => ?_⟩
              unfold Oper.wp
              simp [execOp, go_sem, *]
              exact hK _ _ (Grow.refl _) rfl
            · refine .inl ⟨rfl, fun K hK => ?_⟩
              unfold Oper.wp
              simp [execOp, go_sem, *]
              exact hK _ _ (Grow.refl _) rfl
            · refine .inl ⟨rfl, fun K hK => ?_⟩
              unfold Oper.wp
              simp [execOp, go_sem, *]
              exact hK _ _ (Grow.refl _) rfl
            · refine .inl ⟨wanted_yes (j := 15) (b := false) rfl (yielded_of (d := 162) rfl (by simp [hf])), fun K hK => ?_⟩
              unfold Oper.wp
              simp [execOp, go_sem, *]
              exact hK _ _ (Grow.refl _) rfl
            · refine .inl ⟨wanted_yes (j := 15) (b := false) rfl (yielded_of (d := 162) rfl (by simp [hf])), fun K hK => ?_⟩
              unfold Oper.wp
              simp [execOp, go_sem, *]
              exact hK _ _ (Grow.refl _) rfl
            · refine .inl ⟨wanted_yes (j := 15) (b := false) rfl (yielded_of (d := 162) rfl (by simp [hf])), fun K hK => ?_⟩
              unfold Oper.wp
              simp [go_sem, *]
              exact hK _ _ (Grow.refl _) rfl
            · refine .inl ⟨wanted_yes (j := 15) (b := false) rfl (yielded_of (d := 162) rfl (by simp [hf])), fun K hK => ?_⟩
              unfold Oper.wp
              simp [execOp, go_sem, *]
              exact hK _ _ (Grow.refl _) rfl
            · refine .inl ⟨wanted_yes (j := 15) (b := false) rfl (yielded_of (d := 162) rfl (by simp [hf])), fun K hK => ?_⟩
              unfold Oper.wp
              simp [execOp, go_sem, *]
              exact hK _ _ (Grow.refl _) rfl
          · exfalso
            have h1 : existB S ((z : Int) - 1) [] = true := by
              unfold existB
              rw [← HZ.out, decide_eq_true (show (0 : Int) ≤ (z : Int) - 1 by omega), decide_eq_true (show (z : Int) - 1 < (z : Int) by omega)]
              rfl
            rw [h1] at h
            cases h
      · have hltI : ¬ (k : Int) < (N : Int) := by omega
        have HLEN := Lib.hid (len_some HM.out.one)
        have HGOOD := Lib.hid HM.out.one.good
        by_cases hz : S.l.length = 0
        · rw [hz] at HLEN
          go_wp2_with (first | (go_at_call 10; refine HLEN.out.mono ?_; rintro e w3 ⟨rfl, rfl⟩) | fail)
          go_wp2_with (first | (go_at_call 8; refine (HH.out _ HM.out.grow).mono ?_) | fail)
          rintro e w3 ⟨rfl, hg3⟩
          have HG3 := Lib.hid (Grow.trans HM.out.grow hg3)
          clear hg3
          go_wp2_with fail
          go_ret
          exact ⟨rfl, HG3.out⟩
        · obtain ⟨z, hzz⟩ : ∃ z, z = S.l.length := ⟨_, rfl⟩
          have HZ := Lib.hid hzz
          have hz1 : 1 ≤ z := by omega
          have hz2 : z ≤ 20000 := by have := HGOOD.out; obtain ⟨_, h2, _, h4, _⟩ := this; omega
          have hzn : ((z : Nat) : Int) ≤ n := by have := HGOOD.out; obtain ⟨_, h2, _, h4, _⟩ := this; have := HB.out; omega
          have HTP : Hid (Calls Tryd.prog 15 #[.pointer (some ⟨pm, 0, none⟩), .int .i64 ((z : Int) - 1), .slice none 0 0] wr (TapePost S ((z : Int) - 1) [] wr)) := Lib.hid (tape_some (T := []) HM.out.one (by constructor <;> omega) (fun i x hx => by simp at hx) (by decide) (fun x hx => by cases hx))
          rw [← hzz] at HLEN
          clear hz hzz
          go_wp2_with (first | (go_at_call 10; refine HLEN.out.mono ?_; rintro e w3 ⟨rfl, rfl⟩) | (go_at_call 15; refine HTP.out.mono ?_) | fail)
          rintro e wm (⟨_, vN, vT, rfl, hn, htl, hg⟩ | ⟨h, _⟩)
          · obtain ⟨g, cap, rfl, hcap, hcm, _, hat⟩ := hn.form2 (fun e => by rw [HZ.out, e] at hz1; simp at hz1)
            obtain ⟨AT, ct, rfl, hatT⟩ := htl.form
            have htp : TpAt 2048 wm ⟨(S.pars : Int), (z : Int) - 1, S.l, []⟩ (.slice (some ⟨g, 0, none⟩) S.l.length cap) (.slice AT ([] : List (List UInt8 × Int)).length ct) := ⟨by constructor <;> simp only [] <;> (have := HGOOD.out; obtain ⟨_, _, h3, _⟩ := this; omega), by constructor <;> simp only [] <;> omega, by show S.l.length ≤ _; have := HZ.out; omega, by simp, _, _, _, _, rfl, rfl, hat, hatT⟩
            have hval := good_valid HGOOD.out (out := (z : Int) - 1) (T := []) (by omega) (by have := HZ.out; omega) rfl
            have hchk := fun W (hW : Grow wm W) => check_any (htp.grow hW) (by decide) (HT.out.grow (Grow.trans (HM.out.grow.trans hg) hW))
            rw [hval] at hchk
            unfold tpV at hchk
            dsimp only at hchk
            rw [← HZ.out] at hchk hcap ⊢
            have HCHK := Lib.hid hchk
            have HAT := Lib.hid hat
            have HTPT := Lib.hid htp
            have HMM := Lib.hid (HM.out.more hg)
            clear hn htl hg htp hval hchk hat hatT
            have hL0 : ([] : List (List UInt8 × Int)).length = 0 := rfl
            rw [hL0] at HCHK ⊢
            have HLEN2 := Lib.hid (fun W (hW : Grow wm W) => len_some (HMM.out.more hW).one)
            rw [← HZ.out] at HLEN2
            have hblk : BlkOf (wm.alloc (.cells #[.int .i64 (S.pars : Int), .int .i64 ((z : Int) - 1), .slice (some ⟨g, 0, none⟩) z cap, .slice AT 0 ct] 46)) wm.heap.size #[.int .i64 (S.pars : Int), .int .i64 ((z : Int) - 1), .slice (some ⟨g, 0, none⟩) z cap, .slice AT 0 ct] 46 := BlkOf.new wm _ _
            have HBLK := Lib.hid hblk
            have KC : Hid (∀ W, Grow (wm.alloc (.cells #[.int .i64 (S.pars : Int), .int .i64 ((z : Int) - 1), .slice (some ⟨g, 0, none⟩) z cap, .slice AT 0 ct] 46)) W → W.cell? ⟨wm.heap.size, 0, none⟩ = some (.int .i64 (S.pars : Int)) ∧ W.cell? ⟨wm.heap.size, 1, none⟩ = some (.int .i64 ((z : Int) - 1)) ∧ W.cell? ⟨wm.heap.size, 2, none⟩ = some (.slice (some ⟨g, 0, none⟩) z cap) ∧ W.cell? ⟨wm.heap.size, 3, none⟩ = some (.slice AT 0 ct)) := Lib.hid fun W hW => by
              have q := HBLK.out.below hW HBLK.out.lt
              exact ⟨q.at 0 rfl, q.at 1 rfl, q.at 2 rfl, q.at 3 rfl⟩
            have hgt : ¬ (n < (z : Int)) := by omega
            have hgtd : decide (n < (z : Int)) = false := by simp; omega
            clear hblk
            go_wp2_with fail
            rename_i K0 hK0
            refine wp_region_listG [fun v _ => v = .int .i64 0, fun v _ => v = .bool false, fun v _ => v = .bool false, fun v _ => v = .agg #[.int .i64 (S.pars : Int), .int .i64 ((z : Int) - 1), .slice (some ⟨g, 0, none⟩) z cap, .slice AT 0 ct], fun v _ => v = .int .i64 0, fun v _ => v = .bool false, fun v _ => v = .bool false, fun v _ => v = .bool false, fun v _ => v = .pointer (some ⟨wm.heap.size, 2, none⟩), fun v _ => v = .slice (some ⟨g, 0, none⟩) z cap, fun v _ => v = .int .i64 (z : Int), fun v _ => v = .pointer (some ⟨pm, 0, none⟩), fun v _ => v = .int .i64 (z : Int), fun v _ => v = .bool false, fun v _ => v = .bool false, fun v _ => v = .bool false, fun v _ => v = .pointer (some ⟨wm.heap.size, 2, none⟩), fun v _ => v = .slice (some ⟨g, 0, none⟩) z cap, fun v _ => v = .int .i64 (z : Int), fun v _ => v = .int .i64 n, fun v _ => v = .bool false]
              [(0, .int .i64 n), (5, .pointer (some ⟨pm, 0, none⟩)), (13, .pointer (some ⟨wm.heap.size, 0, none⟩)), (14, .int .i64 0)] 21 (by kernel_rfl) ⟨stays_pure _, stays_pure _, stays_pure _, stays_pure _, stays_pure _, stays_pure _, stays_pure _, stays_pure _, stays_pure _, stays_pure _, stays_pure _, stays_pure _, stays_pure _, stays_pure _, stays_pure _, stays_pure _, stays_pure _, stays_pure _, stays_pure _, stays_pure _, stays_pure _, trivial⟩ rfl (by kernel_rfl) rfl ?base (by kernel_rfl) ⟨?_, ?_, ?_, ?_, ?_, ?_, ?_, ?_, ?_, ?_, ?_, ?_, ?_, ?_, ?_, ?_, ?_, ?_, ?_, ?_, ?_, trivial⟩ ?last
            case base => simp
            case last =>
              intro vs W hW hv
              simp only [FactsL, Nat.zero_add, Nat.reduceAdd] at hv
              have v15 := hv.2.2.2.2.2.2.2.2.2.2.2.2.2.2.2.1
              have v20 := hv.2.2.2.2.2.2.2.2.2.2.2.2.2.2.2.2.2.2.2.2.1
              clear hv
              refine ⟨rfl, ?_⟩
              simp only [List.take_succ_cons, List.take_zero, putF, Act.put, List.setIfInBounds_toArray, List.set_cons_zero, List.set_cons_succ, Nat.reduceAdd, v15, v20]
              unfold Oper.wp
              simp [execOp, go_sem]
              have hb2 := HBLK.out.below hW HBLK.out.lt
              have hg2 : Grow wm W := Grow.trans (Grow.alloc _ _) hW
              have HB2 := Lib.hid hb2
              have HG2 := Lib.hid hg2
              have t2 := hb2.at 2 rfl
              refine hK0 _ _ ?_
              clear v15 v20 hb2 hg2 hgtd hgt KC HBLK
              go_wp2_with fail
              clear t2
              go_loopw [15] (fun i wr => TwoRel z wm.heap.size #[.int .i64 (S.pars : Int), .int .i64 ((z : Int) - 1), .slice (some ⟨g, 0, none⟩) z cap, .slice AT 0 ct] wm i wr) (fun i _ => z - (intOf i).toNat)
              case atStart => exact ⟨0, by omega, rfl, HB2.out, HG2.out⟩
              case round =>
                obtain ⟨i, hi, rfl, hb, hg⟩ := hrel
                have HB3 := Lib.hid hb
                have HG3 := Lib.hid hg
                have t2 := hb.at 2 rfl
                by_cases hlt : i < z
                · have hltI : (i : Int) < (z : Int) := by omega
                  clear hb hg
                  go_wp2_with fail
                  clear t2
                  obtain ⟨wi, hwi⟩ : ∃ wi, wi = wr := ⟨_, rfl⟩
                  rw [← hwi] at HB3 HG3 ⊢
                  clear hwi
                  go_loopw [16] (fun j wr => TwoRel i wm.heap.size #[.int .i64 (S.pars : Int), .int .i64 ((z : Int) - 1), .slice (some ⟨g, 0, none⟩) z cap, .slice AT 0 ct] wm j wr) (fun j _ => i - (intOf j).toNat)
                  case atStart => exact ⟨0, by omega, rfl, HB3.out, HG3.out⟩
                  case round =>
                    obtain ⟨j, hj, rfl, hb, hg⟩ := hrel
                    have HB4 := Lib.hid hb
                    have HG4 := Lib.hid hg
                    have t0 := hb.at 0 rfl
                    have t1 := hb.at 1 rfl
                    have t2 := hb.at 2 rfl
                    have t3 := hb.at 3 rfl
                    clear hb hg
                    by_cases hlt2 : j < i
                    · have hltJ : (j : Int) < (i : Int) := by omega
                      obtain ⟨xi, hxi⟩ : ∃ x, S.l[i]? = some x := ⟨_, List.getElem?_eq_getElem (by have := HZ.out; omega)⟩
                      obtain ⟨xj, hxj⟩ : ∃ x, S.l[j]? = some x := ⟨_, List.getElem?_eq_getElem (by have := HZ.out; omega)⟩
                      have hsm := fun W (hW : Grow wm W) => tsame_any (tp_one (cap := cap - i) (HAT.out.grow hW) hxi) (tp_one (cap := cap - j) (HAT.out.grow hW) hxj) (by decide)
                      rw [differ HGOOD.out (by omega) hxi hxj] at hsm
                      unfold tpV at hsm
                      dsimp only at hsm
                      have HSM := Lib.hid hsm
                      have t2' := fun o => (HB4.out.alloc o).at 2 rfl
                      clear hxi hxj hsm
                      go_wp2_with (first | (go_at_call 17; refine (HSM.out _ (Grow.trans HG4.out (Grow.trans (Grow.alloc _ _) (Grow.alloc _ _)))).mono ?_) | fail)
                      rintro e w6 ⟨rfl, hg6⟩
                      have HG6 := Lib.hid (Grow.trans (Grow.trans (Grow.alloc _ _) (Grow.alloc _ _)) hg6)
                      clear hg6 t0 t1 t2 t3 t2'
                      go_wp2_with fail
                      go_roundw
                      case rel => exact ⟨j + 1, by omega, by go_num, HB4.out.below HG6.out HB4.out.lt, HG4.out.trans HG6.out⟩
                      case measure => simp [intOf]; omega
                    · have hltJ : ¬ (j : Int) < (i : Int) := by omega
                      go_wp2_with fail
                      go_roundw
                      case rel => exact ⟨i + 1, by omega, by go_num, HB4.out, HG4.out⟩
                      case measure => simp [intOf]; omega
                · have hltI : ¬ (i : Int) < (z : Int) := by omega
                  have t0 := hb.at 0 rfl
                  have t1 := hb.at 1 rfl
                  have t3 := hb.at 3 rfl
                  have hsm := fun W (hW : Grow wm W) => tsame_any (HTPT.out.grow hW) (HTPT.out.grow hW) (by decide)
                  rw [sameTp_self] at hsm
                  unfold tpV at hsm
                  dsimp only at hsm
                  rw [← HZ.out, hL0] at hsm
                  have HSM := Lib.hid hsm
                  clear hb hg hsm
                  go_wp2_with (first | (go_at_call 17; refine (HSM.out _ HG3.out).mono ?_) | fail)
                  rintro e w6 ⟨rfl, hg6⟩
                  have HG6 := Lib.hid (Grow.trans HMM.out.grow (Grow.trans HG3.out hg6))
                  clear hg6 t0 t1 t2 t3
                  go_wp2_with (first | (go_at_call 8; refine (HH.out _ HG6.out).mono ?_) | fail)
                  rintro e w7 ⟨rfl, hg7⟩
                  have HG7 := Lib.hid (Grow.trans HG6.out hg7)
                  clear hg7
                  go_wp2_with fail
                  go_ret
                  exact ⟨rfl, HG7.out⟩
            all_goals
              intro a' W hW hb hf
              obtain ⟨e0, e1, e2, e3⟩ := KC.out W hW
              simp only [List.forall_mem_cons, List.not_mem_nil, false_imp_iff, implies_true, and_true] at hb
              obtain ⟨m0, m5, m13, m14⟩ := hb
              simp [FactsOf, FactAt, Region.binds, factsL] at hf
            · refine .inl ⟨rfl, fun K hK => ?_⟩
              unfold Oper.wp
              simp [execOp, go_sem, *]
              exact hK _ _ (Grow.refl _) rfl
            · refine .inl ⟨rfl, fun K hK => ?_⟩
              unfold Oper.wp
              simp [execOp, go_sem, *]
              exact hK _ _ (Grow.refl _) rfl
            · refine .inl ⟨rfl, fun K hK => ?_⟩
              unfold Oper.wp
              simp [execOp, go_sem, *]
              exact hK _ _ (Grow.refl _) rfl
            · refine .inl ⟨wanted_yes (j := 2) (b := false) rfl (yielded_of (d := 149) rfl (by simp [hf])), fun K hK => ?_⟩
              unfold Oper.wp
              simp [execOp, go_sem, *]
              exact hK _ _ (Grow.refl _) rfl
            · refine .inl ⟨wanted_yes (j := 2) (b := false) rfl (yielded_of (d := 149) rfl (by simp [hf])), fun K hK => ?_⟩
              unfold Oper.wp
              simp [go_sem, *]
              refine (HCHK.out W (Grow.trans (Grow.alloc _ _) hW)).mono ?_
              rintro e W' ⟨rfl, hg⟩
              exact hK _ _ hg rfl
            · refine .inl ⟨wanted_yes (j := 2) (b := false) rfl (yielded_of (d := 149) rfl (by simp [hf])), fun K hK => ?_⟩
              unfold Oper.wp
              simp [execOp, go_sem, *]
              exact hK _ _ (Grow.refl _) rfl
            · refine .inl ⟨rfl, fun K hK => ?_⟩
              unfold Oper.wp
              simp [execOp, go_sem, *]
              exact hK _ _ (Grow.refl _) rfl
            · refine .inl ⟨rfl, fun K hK => ?_⟩
              unfold Oper.wp
              simp [execOp, go_sem, *]
              exact hK _ _ (Grow.refl _) rfl
            · refine .inl ⟨wanted_yes (j := 7) (b := false) rfl (yielded_of (d := 154) rfl (by simp [hf])), fun K hK => ?_⟩
              unfold Oper.wp
              simp [execOp, go_sem, *]
              exact hK _ _ (Grow.refl _) rfl
            · refine .inl ⟨wanted_yes (j := 7) (b := false) rfl (yielded_of (d := 154) rfl (by simp [hf])), fun K hK => ?_⟩
              unfold Oper.wp
              simp [execOp, go_sem, *]
              exact hK _ _ (Grow.refl _) rfl
            · refine .inl ⟨wanted_yes (j := 7) (b := false) rfl (yielded_of (d := 154) rfl (by simp [hf])), fun K hK => ?_⟩
              unfold Oper.wp
              simp [go_sem, *]
              exact hK _ _ (Grow.refl _) rfl
            · refine .inl ⟨wanted_yes (j := 7) (b := false) rfl (yielded_of (d := 154) rfl (by simp [hf])), fun K hK => ?_⟩
              unfold Oper.wp
              simp [execOp, go_sem, *]
              exact hK _ _ (Grow.refl _) rfl
            · refine .inl ⟨wanted_yes (j := 7) (b := false) rfl (yielded_of (d := 154) rfl (by simp [hf])), fun K hK => ?_⟩
              unfold Oper.wp
              simp [go_sem, *]
              refine (HLEN2.out W (Grow.trans (Grow.alloc _ _) hW)).mono ?_
              rintro e W' ⟨rfl, rfl⟩
              exact hK _ _ (Grow.refl _) rfl
            · refine .inl ⟨wanted_yes (j := 7) (b := false) rfl (yielded_of (d := 154) rfl (by simp [hf])), fun K hK => ?_⟩
              unfold Oper.wp
              simp [execOp, go_sem, *]
              exact hK _ _ (Grow.refl _) rfl
            · refine .inl ⟨rfl, fun K hK => ?_⟩
              unfold Oper.wp
              simp [execOp, go_sem, *]
              exact hK _ _ (Grow.refl _) rfl
            · refine .inl ⟨rfl, fun K hK => ?_⟩
              unfold Oper.wp
              simp [execOp, go_sem, *]
              exact hK _ _ (Grow.refl _) rfl
            · refine .inl ⟨wanted_yes (j := 15) (b := false) rfl (yielded_of (d := 162) rfl (by simp [hf])), fun K hK => ?_⟩
              unfold Oper.wp
              simp [execOp, go_sem, *]
              exact hK _ _ (Grow.refl _) rfl
            · refine .inl ⟨wanted_yes (j := 15) (b := false) rfl (yielded_of (d := 162) rfl (by simp [hf])), fun K hK => ?_⟩
              unfold Oper.wp
              simp [execOp, go_sem, *]
              exact hK _ _ (Grow.refl _) rfl
            · refine .inl ⟨wanted_yes (j := 15) (b := false) rfl (yielded_of (d := 162) rfl (by simp [hf])), fun K hK => ?_⟩
              unfold Oper.wp
              simp [go_sem, *]
              exact hK _ _ (Grow.refl _) rfl
            · refine .inl ⟨wanted_yes (j := 15) (b := false) rfl (yielded_of (d := 162) rfl (by simp [hf])), fun K hK => ?_⟩
              unfold Oper.wp
              simp [execOp, go_sem, *]
              exact hK _ _ (Grow.refl _) rfl
            · refine .inl ⟨wanted_yes (j := 15) (b := false) rfl (yielded_of (d := 162) rfl (by simp [hf])), fun K hK => ?_⟩
              unfold Oper.wp
              simp [execOp, go_sem, *]
              exact hK _ _ (Grow.refl _) rfl
          · exfalso
            have h1 : existB S ((z : Int) - 1) [] = true := by
              unfold existB
              rw [← HZ.out, decide_eq_true (show (0 : Int) ≤ (z : Int) - 1 by omega), decide_eq_true (show (z : Int) - 1 < (z : Int) by omega)]
              rfl
            rw [h1] at h
            cases h
end Go.Proofs.YtofpcdjoljjnoaaDoor
