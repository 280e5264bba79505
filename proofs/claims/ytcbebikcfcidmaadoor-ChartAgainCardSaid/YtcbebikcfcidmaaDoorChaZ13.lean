/-
  The texts TapStep, TapLaid, TapMap, TapValid, TapOf, TapText, one behind the other.
-/
import Derived.Test.YtcbebikcfcidmaaDoorChaZ12
import Derived.Test.YtcbebikcfcidmaaDoorChaZ01
import Derived.Test.YtcbebikcfcidmaaDoorTie
import Derived.LaidMore
import Derived.Stop.Joined
import Derived.Deep.Strs
import Derived.Maps.OwnOps
import Derived.Maps.OwnIn
import Derived.DeepKeys4
import Derived.ChangeMaps5

namespace Go.Proofs.YtcbebikcfcidmaaDoor
open Go.RowKit

set_option maxHeartbeats 1000000 in
theorem isnormal_any {K : Nat} {w : World} {x : Fr} {vn vd : Value} (h : FrAt K w x vn vd) (hK : K ≤ 137438953472) :
    Calls Tryd.prog 85 #[.agg #[.bool x.s, vn, vd]] w (Just (.bool (normB x)) w) := by
  obtain ⟨W1, hW1⟩ : ∃ W1, W1 = w.alloc (.cells #[.bool x.s, vn, vd] 35) := ⟨_, rfl⟩
  have b0 : BlkOf W1 w.heap.size #[.bool x.s, vn, vd] 35 := by rw [hW1]; exact BlkOf.new w _ _
  have hbw : Grow w W1 := by rw [hW1]; exact (Below.refl _ w).alloc (Nat.le_refl _) _
  have HN := Lib.hid (fnorm_any x.s (h.grow hbw).num hK)
  have HB := Lib.hid b0
  have HBW := Lib.hid hbw
  have H := Lib.hid h
  obtain ⟨⟨a, ca, rfl, _, _, _, _⟩, ⟨b, cb, rfl, _, _, _, _⟩, _⟩ := h
  obtain ⟨s, L, D⟩ := x
  dsimp only at *
  obtain ⟨p, hp⟩ : ∃ p, p = normB ⟨s, L, D⟩ := ⟨_, rfl⟩
  have HP := Lib.hid hp
  rw [← hp]
  subst hW1
  clear b0 hbw hp
  go_enter Tryd.func85, Tryd.ntmps85
  go_wp2_with (first | (go_at_call 14; refine HN.out.mono ?_) | fail)
  rintro e w1 (⟨hok, v, rfl, ⟨x, c, y, e', rfl, hx, hy⟩, hb1⟩ | ⟨hok, rfl, hb1⟩)
  · have hb0 := HB.out.below hb1 HB.out.lt
    have hbw1 : Grow w w1 := HBW.out.trans hb1
    have hpe : p = sameB ⟨rdS s (lv L), nrow (rdN (lv L) (lv D)), nrow (rdD (lv L) (lv D))⟩ ⟨s, L, D⟩ := by
      rw [HP.out]; unfold normB; dsimp only; rw [hok, Bool.true_and]
    obtain ⟨hsn, hsd, h0⟩ := okF_iff.1 hok
    have sN : (nrow (rdN (lv L) (lv D))).length ≤ 2048 := short_le (Nat.div_le_self _ _) hsn
    have sE : (nrow (rdD (lv L) (lv D))).length ≤ 2048 := short_le (Nat.div_le_self _ _) hsd
    generalize rdN (lv L) (lv D) = N at *
    generalize rdD (lv L) (lv D) = E at *
    generalize rdS s (lv L) = S at *
    unfold frV
    obtain ⟨W2, hW2⟩ : ∃ W2, W2 = w1.alloc (.cells #[.bool S, .slice x (nrow N).length c, .slice y (nrow E).length e'] 35) := ⟨_, rfl⟩
    have hg2 : Grow w1 W2 := by rw [hW2]; exact (Below.refl _ w1).alloc (Nat.le_refl _) _
    have hbw2 : Grow w W2 := Grow.trans hbw1 hg2
    have b2 := hb0.below hg2 hb0.lt
    have hfa : FrAt 2048 W2 ⟨S, nrow N, nrow E⟩ (.slice x (nrow N).length c) (.slice y (nrow E).length e') := ⟨hx.raw.grow hg2, hy.raw.grow hg2, sN, sE⟩
    have hs := issame_any hfa (H.out.grow hbw2) (by omega)
    rw [← hpe] at hs
    have HS := Lib.hid hs
    have HG := Lib.hid hbw2
    have HPE := Lib.hid hpe
    have c0 := hb0.at 0 rfl
    have c1 := hb0.at 1 rfl
    have c2 := hb0.at 2 rfl
    have c3 := b2.at 0 rfl
    have c4 := b2.at 1 rfl
    have c5 := b2.at 2 rfl
    subst hW2
    clear hs hfa hx hy hok hsn hsd h0 sN sE hpe
    go_wp2_with (first | (go_at_call 86; refine HS.out.mono ?_; rintro e w3 ⟨rfl, hb3⟩) | fail)
    go_ret
    rename_i w3 hb3
    exact ⟨by simp, HG.out.trans hb3⟩
  · have hbw1 : Grow w w1 := HBW.out.trans hb1
    have HPF : Hid (p = false) := Lib.hid (by rw [HP.out]; unfold normB; dsimp only; rw [hok, Bool.false_and])
    have HG := Lib.hid (hbw1.trans (Grow.alloc w1 (.cells #[.bool false, .slice none 0 0, .slice none 0 0] 35)))
    clear hok hb1 hbw1
    go_wp2_with fail
    go_ret
    exact ⟨by rw [HPF.out]; rfl, HG.out⟩

/-- Is C what it should be for such a field? -/
def writtenB (f : Nat) (x : Fr) : Bool := if f = 1 then normB x else sameB x ⟨false, [], []⟩

set_option maxHeartbeats 1000000 in
theorem iswritten_any {K f : Nat} {fi : Int} {w : World} {x : Fr} {vn vd : Value} (hfi : fi = (f : Int)) (h : FrAt K w x vn vd) (hK : K ≤ 137438953472) :
    Calls Tryd.prog 75 #[.int .u8 fi, .agg #[.bool x.s, vn, vd]] w (Just (.bool (writtenB f x)) w) := by
  obtain ⟨W1, hW1⟩ : ∃ W1, W1 = w.alloc (.cells #[.bool x.s, vn, vd] 35) := ⟨_, rfl⟩
  have hbw : Grow w W1 := by rw [hW1]; exact (Below.refl _ w).alloc (Nat.le_refl _) _
  have HN := Lib.hid (isnormal_any (h.grow hbw) hK)
  have HS := Lib.hid (issame_any (K' := 0) (y := ⟨false, [], []⟩) (h.grow hbw) ⟨Raw.nil _, Raw.nil _, Nat.le_refl _, Nat.le_refl _⟩ hK)
  have HBW := Lib.hid hbw
  obtain ⟨⟨a, ca, rfl, _, _, _, _⟩, ⟨b, cb, rfl, _, _, _, _⟩, _⟩ := h
  obtain ⟨s, L, D⟩ := x
  dsimp only at *
  subst hW1
  clear hbw
  subst hfi
  unfold writtenB
  by_cases h1 : f = 1
  · subst h1
    rw [if_pos rfl]
    go_enter Tryd.func75, Tryd.ntmps75
    go_wp2_with (first | (go_at_call 85; refine HN.out.mono ?_; rintro e w3 ⟨rfl, hb3⟩) | fail)
    go_ret
    rename_i w3 hb3
    exact ⟨rfl, HBW.out.trans hb3⟩
  · rw [if_neg h1]
    have hne : ¬ ((f : Int) = 1) := by omega
    have hnb : ((f : Int) == 1) = false := by simp; omega
    go_enter Tryd.func75, Tryd.ntmps75
    go_wp2_with (first | (go_at_call 86; refine HS.out.mono ?_; rintro e w3 ⟨rfl, hb3⟩) | fail)
    go_ret
    rename_i w3 hb3
    exact ⟨rfl, HBW.out.trans hb3⟩

/-- The table of the Ops' fields, three for each. -/
def fldL : List Nat := [0, 0, 0, 0, 0, 1, 2, 0, 0, 3, 3, 0, 3, 3, 0, 3, 3, 0, 3, 3, 0, 3, 0, 0, 3, 0, 0, 3, 0, 0, 3, 0, 0, 3, 0, 0]
def fld (op j : Nat) : Nat := fldL.getD (op * 3 + j) 0
/-- The table, as it lies. -/
def Tab (w : World) : Prop := ∀ i < 36, w.cell? ⟨2, i, none⟩ = some (.int .u8 ((fldL.getD i 0 : Nat) : Int))
theorem Tab.lt {w : World} (h : Tab w) : 2 < w.heap.size := World.block_lt_of_cell? w _ (h 0 (by omega))
theorem Tab.grow {w w' : World} (h : Tab w) (hg : Grow w w') : Tab w' := fun i hi => (hg.cell (p := ⟨2, i, none⟩) h.lt).trans (h i hi)
theorem fld_kinds (op : Nat) : (fld op 0 = 0 ∧ fld op 1 = 0 ∧ fld op 2 = 0) ∨ (fld op 0 = 0 ∧ fld op 1 = 0 ∧ fld op 2 = 1) ∨ (fld op 0 = 2 ∧ fld op 1 = 0 ∧ fld op 2 = 0) ∨ (fld op 0 = 3 ∧ fld op 1 = 3 ∧ fld op 2 = 0) ∨ (fld op 0 = 3 ∧ fld op 1 = 0 ∧ fld op 2 = 0) := by
  by_cases h : op < 12
  · have : ∀ op, op < 12 → ((fld op 0 = 0 ∧ fld op 1 = 0 ∧ fld op 2 = 0) ∨ (fld op 0 = 0 ∧ fld op 1 = 0 ∧ fld op 2 = 1) ∨ (fld op 0 = 2 ∧ fld op 1 = 0 ∧ fld op 2 = 0) ∨ (fld op 0 = 3 ∧ fld op 1 = 3 ∧ fld op 2 = 0) ∨ (fld op 0 = 3 ∧ fld op 1 = 0 ∧ fld op 2 = 0)) := by decide
    exact this op h
  · have hz : ∀ j, fld op j = 0 := fun j => by
      unfold fld
      rw [List.getD_eq_getElem?_getD, List.getElem?_eq_none (by simp [fldL]; omega)]
      rfl
    exact .inl ⟨hz 0, hz 1, hz 2⟩
theorem fld_none {op : Nat} (h : 12 ≤ op) (j : Nat) : fld op j = 0 := by
  unfold fld
  rw [List.getD_eq_getElem?_getD, List.getElem?_eq_none (by simp [fldL]; omega)]
  rfl
/-- The fields of an Op as a value. -/
def fldV (op : Nat) : Value := .agg #[.int .u8 ((fld op 0 : Nat) : Int), .int .u8 ((fld op 1 : Nat) : Int), .int .u8 ((fld op 2 : Nat) : Int)]

set_option maxHeartbeats 1000000 in
theorem fieldsof_any {w : World} (op : Nat) (hop : op < 256) (ht : Tab w) : Calls Tryd.prog 62 #[.int .u8 (op : Int)] w (Just (fldV op) w) := by
  by_cases h : op < 12
  · have htl := ht.lt
    have e0 := ht (op * 3) (by omega)
    have e1 := ht (op * 3 + 1) (by omega)
    have e2 := ht (op * 3 + 2) (by omega)
    unfold fldV
    rw [show fldL.getD (op * 3) 0 = fld op 0 from rfl] at e0
    rw [show fldL.getD (op * 3 + 1) 0 = fld op 1 from rfl] at e1
    rw [show fldL.getD (op * 3 + 2) 0 = fld op 2 from rfl] at e2
    generalize fld op 0 = p at *
    generalize fld op 1 = q at *
    generalize fld op 2 = r at *
    have hltI : (op : Int) < 12 := by omega
    clear ht
    go_enter Tryd.func62, Tryd.ntmps62
    go_wp2_with fail
    refine post_cell rfl (g := w.heap.size) rfl (BlkOf.new w _ _) Tryd.underlying97 rfl (by kernel_rfl) ?_
    exact ⟨rfl, Grow.alloc w _⟩
  · unfold fldV
    rw [fld_none (by omega) 0, fld_none (by omega) 1, fld_none (by omega) 2]
    have hltI : ¬ ((op : Int) < 12) := by omega
    clear ht
    go_enter Tryd.func62, Tryd.ntmps62
    go_wp2_with fail
    refine post_cell rfl (g := w.heap.size) rfl (BlkOf.new w _ _) Tryd.underlying97 rfl (by kernel_rfl) ?_
    exact ⟨rfl, Grow.alloc w _⟩

/-- An int. -/
abbrev I64 (i : Int) : Prop := -9223372036854775808 ≤ i ∧ i ≤ 9223372036854775807
/-- Is A or B what it should be for such a field? -/
def isB (f : Nat) (x steps pars : Int) : Bool := if f = 3 then decide (0 ≤ x) && decide (x < steps) else if f = 2 then decide (0 ≤ x) && decide (x < pars) else decide (x = 0)

set_option maxHeartbeats 1000000 in
theorem is_any {w : World} {f : Nat} {fi x steps pars : Int} {p q : Nat} (hf : fi = (f : Int)) (hx : I64 x) (hs : I64 steps) (hp : I64 pars) (c1 : w.cell? ⟨p, 0, none⟩ = some (.int .i64 steps)) (c2 : w.cell? ⟨q, 0, none⟩ = some (.int .i64 pars)) :
    Calls Tryd.prog 73 #[.int .u8 fi, .int .i64 x, .pointer (some ⟨p, 0, none⟩), .pointer (some ⟨q, 0, none⟩)] w (Same (.bool (isB f x steps pars)) w) := by
  have H1 := Lib.hid (isindex_any x steps w hx hs)
  have H2 := Lib.hid (isindex_any x pars w hx hp)
  subst hf
  unfold isB
  by_cases h3 : f = 3
  · subst h3
    rw [if_pos rfl]
    go_enter Tryd.func73, Tryd.ntmps73
    go_wp2_with (first | (go_at_call 74; refine H1.out.mono ?_; rintro e w3 ⟨rfl, rfl⟩) | fail)
    go_ret
    exact ⟨rfl, rfl⟩
  · rw [if_neg h3]
    have n3 : ¬ ((f : Int) = 3) := by omega
    by_cases h2 : f = 2
    · subst h2
      rw [if_pos rfl]
      go_enter Tryd.func73, Tryd.ntmps73
      go_wp2_with (first | (go_at_call 74; refine H2.out.mono ?_; rintro e w3 ⟨rfl, rfl⟩) | fail)
      go_ret
      exact ⟨rfl, rfl⟩
    · rw [if_neg h2]
      have n2 : ¬ ((f : Int) = 2) := by omega
      go_enter Tryd.func73, Tryd.ntmps73
      go_wp2_with fail
      go_ret
      exact ⟨by first | rfl | simp, rfl⟩

/-- A step. -/
structure Nd where
  op : Nat
  a : Int
  b : Int
  c : Fr
/-- A step as a value. -/
def ndV (x : Nd) (vn vd : Value) : Value := .agg #[.int .u8 (x.op : Int), .int .i64 x.a, .int .i64 x.b, .bool x.c.s, vn, vd]
/-- A step that may be read. -/
def NdOK (K : Nat) (w : World) (x : Nd) (vn vd : Value) : Prop := x.op < 256 ∧ I64 x.a ∧ I64 x.b ∧ FrAt K w x.c vn vd
/-- Is a step valid? -/
def stepB (x : Nd) (steps pars : Int) : Bool :=
  !(decide (fld x.op 0 = 0) && (decide (fld x.op 1 = 0) && decide (fld x.op 2 = 0))) && (isB (fld x.op 0) x.a steps pars && (isB (fld x.op 1) x.b steps pars && writtenB (fld x.op 2) x.c))

set_option maxRecDepth 100000 in
set_option maxHeartbeats 2000000 in
theorem isstep_any {K : Nat} {w : World} {x : Nd} {vn vd : Value} {steps pars : Int} (h : NdOK K w x vn vd) (hK : K ≤ 137438953472) (hs : I64 steps) (hp : I64 pars) (ht : Tab w) :
    Calls Tryd.prog 63 #[ndV x vn vd, .int .i64 steps, .int .i64 pars] w (Just (.bool (stepB x steps pars)) w) := by
  have hmf : ∀ (fn : Fn) (first cap : Array Value) (w : World), (Instr.makeFunc fn first cap).run Tryd.prog w = .ok (.func fn first cap) w := fun _ _ _ _ => rfl
  obtain ⟨op, a, b, ⟨s, L, D⟩⟩ := x
  obtain ⟨hop, ha, hb, hc⟩ := h
  unfold ndV
  dsimp only at *
  obtain ⟨W1, hW1⟩ : ∃ W1, W1 = ((w.alloc (.cells #[.int .u8 (op : Int), .int .i64 a, .int .i64 b, .bool s, vn, vd] 52)).alloc (.cells #[.int .i64 steps] 3)).alloc (.cells #[.int .i64 pars] 3) := ⟨_, rfl⟩
  obtain ⟨b0, b1, b2, hsz, hbw⟩ := three_new rfl _ _ _ _ _ _ hW1
  have HF := Lib.hid (fieldsof_any op hop (ht.grow hbw))
  have HBL := Lib.hid (And.intro b0 (And.intro b1 b2))
  have HBW := Lib.hid hbw
  have HSZ := Lib.hid hsz
  have HC := Lib.hid hc
  have HI := Lib.hid (And.intro ha (And.intro hb (And.intro hs hp)))
  obtain ⟨⟨an, cn, rfl, _, _, _, _⟩, ⟨ad, cd, rfl, _, _, _, _⟩, _⟩ := hc
  obtain ⟨r, hr⟩ : ∃ r, r = stepB ⟨op, a, b, s, L, D⟩ steps pars := ⟨_, rfl⟩
  have HR := Lib.hid hr
  rw [← hr]
  unfold fldV at HF
  have HK := fld_kinds op
  unfold stepB at hr
  dsimp only at hr HC
  generalize fld op 0 = f0 at *
  generalize fld op 1 = f1 at *
  generalize fld op 2 = f2 at *
  have HF2 := Lib.hid HF.out
  subst hW1
  clear b0 b1 b2 hsz hbw HF
  have HI1 := Lib.hid (fun (W : World) (c1 : W.cell? ⟨w.heap.size + 1, 0, none⟩ = some (.int .i64 steps)) (c2 : W.cell? ⟨w.heap.size + 1 + 1, 0, none⟩ = some (.int .i64 pars)) (fi : Int) (hfi : fi = (f0 : Int)) => is_any (f := f0) hfi ha hs hp c1 c2)
  have HI2 := Lib.hid (fun (W : World) (c1 : W.cell? ⟨w.heap.size + 1, 0, none⟩ = some (.int .i64 steps)) (c2 : W.cell? ⟨w.heap.size + 1 + 1, 0, none⟩ = some (.int .i64 pars)) (fi : Int) (hfi : fi = (f1 : Int)) => is_any (f := f1) hfi hb hs hp c1 c2)
  have HI3 := Lib.hid (fun W (hW : Grow w W) (fi : Int) (hfi : fi = (f2 : Int)) => iswritten_any (f := f2) hfi (HC.out.grow hW) hK)
  have hrr : (decide (f0 = 0) && (decide (f1 = 0) && decide (f2 = 0))) = true ∨ (decide (f0 = 0) && (decide (f1 = 0) && decide (f2 = 0))) = false ∧ r = (isB f0 a steps pars && (isB f1 b steps pars && writtenB f2 ⟨s, L, D⟩)) := by
    cases hx : (decide (f0 = 0) && (decide (f1 = 0) && decide (f2 = 0))) with
    | true => exact .inl rfl
    | false => rw [hx] at hr; exact .inr ⟨rfl, by rw [hr]; rfl⟩
  obtain ⟨p, hp'⟩ : ∃ p, p = isB f0 a steps pars := ⟨_, rfl⟩
  obtain ⟨q, hq'⟩ : ∃ q, q = isB f1 b steps pars := ⟨_, rfl⟩
  obtain ⟨t, ht'⟩ : ∃ t, t = writtenB f2 ⟨s, L, D⟩ := ⟨_, rfl⟩
  have HJ1 := HI1.out
  have HJ2 := HI2.out
  have HJ3 := HI3.out
  dsimp only at HJ3
  rw [← hp'] at HJ1 hrr
  rw [← hq'] at HJ2 hrr
  rw [← ht'] at HJ3 hrr
  have K1 := Lib.hid HJ1
  have K2 := Lib.hid HJ2
  have K3 := Lib.hid HJ3
  clear HI1 HI2 HI3 HJ1 HJ2 HJ3 hp' hq' ht'
  rcases HK with ⟨rfl, rfl, rfl⟩ | ⟨rfl, rfl, rfl⟩ | ⟨rfl, rfl, rfl⟩ | ⟨rfl, rfl, rfl⟩ | ⟨rfl, rfl, rfl⟩
  · have HRF : Hid (r = false) := Lib.hid (by rw [hr]; rfl)
    clear hr
    go_enter Tryd.func63, Tryd.ntmps63
    go_wp2_with (first | (go_at_call 62; refine HF2.out.mono ?_) | fail)
    rintro e w1 ⟨rfl, hb1⟩
    have HG := Lib.hid ((HBW.out.trans (hb1.mono HBW.out.size)).trans (Grow.alloc w1 (.cells #[.int .u8 0, .int .u8 0, .int .u8 0] 97) |>.mono (HBW.out.trans (hb1.mono HBW.out.size)).size))
    go_wp2_with fail
    go_ret
    exact ⟨by rw [HRF.out]; rfl, HG.out⟩
  all_goals
    have hrq : r = (p && (q && t)) := by
      rcases hrr with h | ⟨_, h⟩
      · exact absurd h (by decide)
      · exact h
    have HRQ := Lib.hid hrq
    clear hr hrr hrq
    go_enter Tryd.func63, Tryd.ntmps63
    go_wp2_with (first | (go_at_call 62; refine HF2.out.mono ?_) | fail)
    rintro e w1 ⟨rfl, hb1⟩
    have d0 := HBL.out.1.below hb1 HBL.out.1.lt
    have d1 := HBL.out.2.1.below hb1 HBL.out.2.1.lt
    have d2 := HBL.out.2.2.below hb1 HBL.out.2.2.lt
    have hg1 := HBW.out.trans (hb1.mono HBW.out.size)
    have c00 := fun o => (d0.alloc o).at 0 rfl
    have c01 := fun o => (d0.alloc o).at 1 rfl
    have c02 := fun o => (d0.alloc o).at 2 rfl
    have c03 := fun o => (d0.alloc o).at 3 rfl
    have c04 := fun o => (d0.alloc o).at 4 rfl
    have c05 := fun o => (d0.alloc o).at 5 rfl
    have KK1 := fun o => K1.out (w1.alloc o) ((d1.alloc o).at 0 rfl) ((d2.alloc o).at 0 rfl)
    have KK2 := fun o => K2.out (w1.alloc o) ((d1.alloc o).at 0 rfl) ((d2.alloc o).at 0 rfl)
    have KK3 := fun o => K3.out (w1.alloc o) (Grow.trans hg1 (Grow.alloc w1 o))
    have M1 := Lib.hid KK1
    have M2 := Lib.hid KK2
    have M3 := Lib.hid KK3
    have HG := Lib.hid (fun o => (Grow.trans hg1 (Grow.alloc w1 o) : Grow w (w1.alloc o)))
    clear KK1 KK2 KK3 d0 d1 d2 hg1 hb1
    cases p with
    | false =>
      go_wp2_with (first | (go_at_call 73; (with_reducible refine (M1.out _ _ (by simp)).mono ?_); rintro e w3 ⟨rfl, rfl⟩) | fail)
      go_ret
      exact ⟨by rw [HRQ.out]; rfl, HG.out _⟩
    | true =>
      cases q with
      | false =>
        go_wp2_with (first
          | (go_at_call 73; (with_reducible refine (M1.out _ _ (by simp)).mono ?_); rintro e w3 ⟨rfl, rfl⟩)
          | (go_at_call 73; (with_reducible refine (M2.out _ _ (by simp)).mono ?_); rintro e w3 ⟨rfl, rfl⟩)
          | fail)
        go_ret
        exact ⟨by rw [HRQ.out]; rfl, HG.out _⟩
      | true =>
        go_wp2_with (first
          | (go_at_call 73; (with_reducible refine (M1.out _ _ (by simp)).mono ?_); rintro e w3 ⟨rfl, rfl⟩)
          | (go_at_call 73; (with_reducible refine (M2.out _ _ (by simp)).mono ?_); rintro e w3 ⟨rfl, rfl⟩)
          | (go_at_call 75; (with_reducible refine (M3.out _ _ (by simp)).mono ?_); rintro e w3 ⟨rfl, hb3⟩)
          | fail)
        go_ret
        rename_i w3 hb3
        exact ⟨by rw [HRQ.out]; simp, (HG.out _).trans hb3⟩
end Go.Proofs.YtcbebikcfcidmaaDoor

namespace Go.Proofs.YtcbebikcfcidmaaDoor
open Go.ChangeShapes Go.WideShapes Go.ChangeAt Go.RowKit Go.Deep

theorem three_of {α : Type} {l : List α} (h : l.length = 3) : ∃ a b c, l = [a, b, c] := by
  match l, h with
  | [a, b, c], _ => exact ⟨a, b, c, rfl⟩
theorem cons_of {α : Type} {l : List α} {n : Nat} (h : l.length = n + 1) : ∃ a m, l = a :: m ∧ m.length = n := by
  match l, h with
  | a :: m, h => exact ⟨a, m, rfl, by simpa using h⟩
theorem nil_of {α : Type} {l : List α} (h : l.length = 0) : l = [] := List.eq_nil_of_length_eq_zero h
theorem all_of {α : Type} {l : List α} (h : l.length = 36) : ∃ c0 c1 c2 c3 c4 c5 c6 c7 c8 c9 c10 c11 c12 c13 c14 c15 c16 c17 c18 c19 c20 c21 c22 c23 c24 c25 c26 c27 c28 c29 c30 c31 c32 c33 c34 c35, l = [c0, c1, c2, c3, c4, c5, c6, c7, c8, c9, c10, c11, c12, c13, c14, c15, c16, c17, c18, c19, c20, c21, c22, c23, c24, c25, c26, c27, c28, c29, c30, c31, c32, c33, c34, c35] := by
  obtain ⟨a0, m0, rfl, h0⟩ := cons_of h
  obtain ⟨a1, m1, rfl, h1⟩ := cons_of h0
  obtain ⟨a2, m2, rfl, h2⟩ := cons_of h1
  obtain ⟨a3, m3, rfl, h3⟩ := cons_of h2
  obtain ⟨a4, m4, rfl, h4⟩ := cons_of h3
  obtain ⟨a5, m5, rfl, h5⟩ := cons_of h4
  obtain ⟨a6, m6, rfl, h6⟩ := cons_of h5
  obtain ⟨a7, m7, rfl, h7⟩ := cons_of h6
  obtain ⟨a8, m8, rfl, h8⟩ := cons_of h7
  obtain ⟨a9, m9, rfl, h9⟩ := cons_of h8
  obtain ⟨a10, m10, rfl, h10⟩ := cons_of h9
  obtain ⟨a11, m11, rfl, h11⟩ := cons_of h10
  obtain ⟨a12, m12, rfl, h12⟩ := cons_of h11
  obtain ⟨a13, m13, rfl, h13⟩ := cons_of h12
  obtain ⟨a14, m14, rfl, h14⟩ := cons_of h13
  obtain ⟨a15, m15, rfl, h15⟩ := cons_of h14
  obtain ⟨a16, m16, rfl, h16⟩ := cons_of h15
  obtain ⟨a17, m17, rfl, h17⟩ := cons_of h16
  obtain ⟨a18, m18, rfl, h18⟩ := cons_of h17
  obtain ⟨a19, m19, rfl, h19⟩ := cons_of h18
  obtain ⟨a20, m20, rfl, h20⟩ := cons_of h19
  obtain ⟨a21, m21, rfl, h21⟩ := cons_of h20
  obtain ⟨a22, m22, rfl, h22⟩ := cons_of h21
  obtain ⟨a23, m23, rfl, h23⟩ := cons_of h22
  obtain ⟨a24, m24, rfl, h24⟩ := cons_of h23
  obtain ⟨a25, m25, rfl, h25⟩ := cons_of h24
  obtain ⟨a26, m26, rfl, h26⟩ := cons_of h25
  obtain ⟨a27, m27, rfl, h27⟩ := cons_of h26
  obtain ⟨a28, m28, rfl, h28⟩ := cons_of h27
  obtain ⟨a29, m29, rfl, h29⟩ := cons_of h28
  obtain ⟨a30, m30, rfl, h30⟩ := cons_of h29
  obtain ⟨a31, m31, rfl, h31⟩ := cons_of h30
  obtain ⟨a32, m32, rfl, h32⟩ := cons_of h31
  obtain ⟨a33, m33, rfl, h33⟩ := cons_of h32
  obtain ⟨a34, m34, rfl, h34⟩ := cons_of h33
  obtain ⟨a35, m35, rfl, h35⟩ := cons_of h34
  obtain rfl := nil_of h35
  exact ⟨a0, a1, a2, a3, a4, a5, a6, a7, a8, a9, a10, a11, a12, a13, a14, a15, a16, a17, a18, a19, a20, a21, a22, a23, a24, a25, a26, a27, a28, a29, a30, a31, a32, a33, a34, a35, rfl⟩

theorem gFields : Tryd.prog.globalNamed "stepstone/tape.fieldsByOp" = some 2 := by kernel_rfl
theorem tFields : (Tryd.prog.globals[2]?).map (·.type) = some 127 := by kernel_rfl
theorem cFields : Tryd.prog.cellsOf 127 = 36 := by kernel_rfl
theorem cField3 : Tryd.prog.cellsOf 97 = 3 := by kernel_rfl
theorem cField1 : Tryd.prog.cellsOf 95 = 1 := by kernel_rfl
theorem int_of_trod {H : Type} {enc : TypeId × Value → H} {P : Program} {w : World} {base : Nat} {sp : Nat → Bool} {held : Bool} {fuel : Nat} {t : TypeId} {k : IntKind} {c : Value} {y : DataW H × List MemPlace}
    (ht : P.underlying t = some (.int k)) (h : DataW.trod enc P w base sp held fuel t [c] = some y) : ∃ n, c = .int k n ∧ y = (.lit (.int k n), []) := by
  cases fuel with
  | zero => simp [DataW.trod] at h
  | succ fuel =>
    cases c <;> simp [DataW.trod, ht] at h
    rename_i k' n
    obtain ⟨⟨rfl, _⟩, rfl⟩ := h
    exact ⟨n, rfl, rfl⟩
theorem fields_of_trod {H : Type} {enc : TypeId × Value → H} {w : World} {base : Nat} {sp : Nat → Bool} {held : Bool} {n : Nat} {cs : List Value} {y : DataW H × List MemPlace}
    (h : DataW.trod enc Tryd.prog w base sp held n 97 cs = some y) : ∃ a b c, cs = [.int .u8 a, .int .u8 b, .int .u8 c] ∧ y = (.agg [.lit (.int .u8 a), .lit (.int .u8 b), .lit (.int .u8 c)], []) := by
  obtain ⟨y0, y1, y2, m, rfl, hl, t0, t1, t2⟩ := trod_struct3 Tryd.underlying97 h
  rw [cField3] at hl
  obtain ⟨c0, c1, c2, rfl⟩ := three_of hl
  simp only [cField1, List.drop_zero, List.take_succ_cons, List.take_zero, List.drop_succ_cons] at t0 t1 t2
  obtain ⟨a, rfl, rfl⟩ := int_of_trod Tryd.underlying95 t0
  obtain ⟨b, rfl, rfl⟩ := int_of_trod Tryd.underlying95 t1
  obtain ⟨c, rfl, rfl⟩ := int_of_trod Tryd.underlying95 t2
  exact ⟨a, b, c, rfl, rfl⟩

set_option maxRecDepth 100000 in
set_option maxHeartbeats 4000000 in
theorem cells_of_laid {W : World} (h : laidMet Tryd.prog [("stepstone/tape.fieldsByOp", Rows.laid_stepstone_tape_fieldsByOp)] W) : W.var? Tryd.prog "stepstone/tape.fieldsByOp" = some (fldL.map fun n : Nat => Value.int .u8 (n : Int)).toArray := by
  obtain ⟨ps, ⟨g, t, cs, fuel, p, q, hg, ht, hvar, hd, _, _⟩, _⟩ := h
  obtain rfl := Option.some.inj (gFields.symm.trans hg)
  obtain rfl := Option.some.inj (tFields.symm.trans ht)
  rw [hvar]
  congr 1
  obtain ⟨l⟩ := cs
  cases fuel with
  | zero => simp [DataW.trod] at hd
  | succ fuel =>
    simp only [DataW.trod, Tryd.underlying127, cFields, cField3] at hd
    split at hd
    · rename_i hl
      obtain ⟨c0, c1, c2, c3, c4, c5, c6, c7, c8, c9, c10, c11, c12, c13, c14, c15, c16, c17, c18, c19, c20, c21, c22, c23, c24, c25, c26, c27, c28, c29, c30, c31, c32, c33, c34, c35, rfl⟩ := all_of hl
      have e : List.range 12 = [0, 1, 2, 3, 4, 5, 6, 7, 8, 9, 10, 11] := rfl
      rw [e] at hd
      simp only [Option.map_eq_some_iff, List.mapM_cons, List.mapM_nil, Option.bind_eq_bind, Option.bind_eq_some_iff, Option.pure_def, Option.some.injEq, List.drop_zero, Nat.zero_mul, Nat.one_mul, Nat.reduceMul, List.take_succ_cons, List.take_zero, List.drop_succ_cons] at hd
      obtain ⟨xs, ⟨y0, h0, _, ⟨y1, h1, _, ⟨y2, h2, _, ⟨y3, h3, _, ⟨y4, h4, _, ⟨y5, h5, _, ⟨y6, h6, _, ⟨y7, h7, _, ⟨y8, h8, _, ⟨y9, h9, _, ⟨y10, h10, _, ⟨y11, h11, _, rfl, rfl⟩, rfl⟩, rfl⟩, rfl⟩, rfl⟩, rfl⟩, rfl⟩, rfl⟩, rfl⟩, rfl⟩, rfl⟩, rfl⟩, hx⟩ := hd
      obtain ⟨a0, b0, d0, e0, rfl⟩ := fields_of_trod h0
      simp only [List.cons.injEq, and_true] at e0
      obtain ⟨rfl, rfl, rfl⟩ := e0
      obtain ⟨a1, b1, d1, e1, rfl⟩ := fields_of_trod h1
      simp only [List.cons.injEq, and_true] at e1
      obtain ⟨rfl, rfl, rfl⟩ := e1
      obtain ⟨a2, b2, d2, e2, rfl⟩ := fields_of_trod h2
      simp only [List.cons.injEq, and_true] at e2
      obtain ⟨rfl, rfl, rfl⟩ := e2
      obtain ⟨a3, b3, d3, e3, rfl⟩ := fields_of_trod h3
      simp only [List.cons.injEq, and_true] at e3
      obtain ⟨rfl, rfl, rfl⟩ := e3
      obtain ⟨a4, b4, d4, e4, rfl⟩ := fields_of_trod h4
      simp only [List.cons.injEq, and_true] at e4
      obtain ⟨rfl, rfl, rfl⟩ := e4
      obtain ⟨a5, b5, d5, e5, rfl⟩ := fields_of_trod h5
      simp only [List.cons.injEq, and_true] at e5
      obtain ⟨rfl, rfl, rfl⟩ := e5
      obtain ⟨a6, b6, d6, e6, rfl⟩ := fields_of_trod h6
      simp only [List.cons.injEq, and_true] at e6
      obtain ⟨rfl, rfl, rfl⟩ := e6
      obtain ⟨a7, b7, d7, e7, rfl⟩ := fields_of_trod h7
      simp only [List.cons.injEq, and_true] at e7
      obtain ⟨rfl, rfl, rfl⟩ := e7
      obtain ⟨a8, b8, d8, e8, rfl⟩ := fields_of_trod h8
      simp only [List.cons.injEq, and_true] at e8
      obtain ⟨rfl, rfl, rfl⟩ := e8
      obtain ⟨a9, b9, d9, e9, rfl⟩ := fields_of_trod h9
      simp only [List.cons.injEq, and_true] at e9
      obtain ⟨rfl, rfl, rfl⟩ := e9
      obtain ⟨a10, b10, d10, e10, rfl⟩ := fields_of_trod h10
      simp only [List.cons.injEq, and_true] at e10
      obtain ⟨rfl, rfl, rfl⟩ := e10
      obtain ⟨a11, b11, d11, e11, rfl⟩ := fields_of_trod h11
      simp only [List.cons.injEq, and_true] at e11
      obtain ⟨rfl, rfl, rfl⟩ := e11
      simp [Rows.laid_stepstone_tape_fieldsByOp] at hx
      obtain ⟨hx, _⟩ := hx
      simp [hx, fldL]
    · cases hd

/-- What the condition gives the walks. -/
theorem tab_of_laid {W : World} (h : laidMetH Tryd.prog [("stepstone/tape.fieldsByOp", Rows.laid_stepstone_tape_fieldsByOp)] W) : Tab W := by
  rw [MakeChecks.laidMetH_plain _ _ _ (by kernel_rfl)] at h
  have hv := cells_of_laid h
  intro i hi
  rw [World.var?_cell gFields hv i]
  have hl : fldL.length = 36 := rfl
  simp [List.getD_eq_getElem?_getD, List.getElem?_eq_getElem (show i < fldL.length by omega)]

/-- The program's own start meets the condition. -/
theorem door_met (os : Os) (args : Array Value) : laidMetH Tryd.prog [("stepstone/tape.fieldsByOp", Rows.laid_stepstone_tape_fieldsByOp)] ((World.doorLaid Tryd.prog 400 os).forCall (fun _ _ => 0) ⟨#[], args, []⟩).memory :=
  laidMetH_of_parts3 (fuel := 8) (laidMet_of_run' 8 (by kernel_rfl) (by kernel_rfl)) (by kernel_rfl) (by kernel_rfl)
end Go.Proofs.YtcbebikcfcidmaaDoor

namespace Go.Proofs.YtcbebikcfcidmaaDoor
open Go.RowKit Go.Maps

/-- A key: what a step is. -/
structure Ky where
  op : Nat
  a : Int
  b : Int
  t : List UInt8
  deriving DecidableEq
def kyV (k : Ky) : Value := .agg #[.int .u8 (k.op : Int), .int .i64 k.a, .int .i64 k.b, .string (mk k.t)]
def KyOK (k : Ky) : Prop := k.op < 256 ∧ I64 k.a ∧ I64 k.b ∧ k.t.length ≤ 1048576

set_option maxRecDepth 100000
theorem laidOutK : laidOutB Tryd.prog = true := by kernel_rfl
theorem typesK : 2 ≤ Tryd.prog.types.size := of_decide_eq_true (by kernel_rfl)
theorem deepK : Tryd.prog.keyTypeAt 3 65 = true := by kernel_rfl
theorem deepK2 : Tryd.prog.keyType 65 = true := by kernel_rfl
theorem rowK : 65 < Tryd.prog.types.size := of_decide_eq_true (by kernel_rfl)
theorem wideK : (match Tryd.prog.underlying 65 with | some (.array _ _) | some (.struct _) => true | _ => false) = true := by kernel_rfl
theorem lawK : Go.WideMaps.KeyLaw Tryd.prog 65 := deep_law_laid laidOutK (m := 3) (by omega) rowK deepK wideK
theorem keyedK : Keyed Tryd.prog 65 := Keyed.of_law lawK
theorem cellsK : Tryd.prog.cellsOf 65 = 4 := by kernel_rfl
theorem cellsU : Tryd.prog.cellsOf 5 = 1 := by kernel_rfl
theorem cellsI : Tryd.prog.cellsOf 3 = 1 := by kernel_rfl
theorem cellsS : Tryd.prog.cellsOf 9 = 1 := by kernel_rfl

theorem keyOf_four {P : Program} {k a b c : TypeId} {f0 f1 f2 f3 : Field} {fs : Array Field} (hk : P.underlying k = some (.struct fs)) (hfs : fs.toList = [f0, f1, f2, f3]) (h0 : f0.type = a) (h1 : f1.type = b) (h2 : f2.type = b) (h3 : f3.type = c)
    (o0 : f0.offset = 0) (o1 : f1.offset = 1) (o2 : f2.offset = 2) (o3 : f3.offset = 3) (n0 : (f0.name != "_") = true) (n1 : (f1.name != "_") = true) (n2 : (f2.name != "_") = true) (n3 : (f3.name != "_") = true)
    (ha : P.underlying a = some (.int .u8)) (hb : P.underlying b = some (.int .i64)) (hc : P.underlying c = some .string) (ck : P.cellsOf k = 4) (ca : P.cellsOf a = 1) (cb : P.cellsOf b = 1) (cc : P.cellsOf c = 1) (hkt : P.keyType k = true) (hn : 2 ≤ P.types.size)
    {x : Ky} (hx : KyOK x) : ∃ l, keyOf P k (kyV x) = some l := by
  obtain ⟨n, hn⟩ : ∃ n, P.types.size = n + 2 := ⟨P.types.size - 2, by omega⟩
  obtain ⟨hop, ⟨a1, a2⟩, ⟨b1, b2⟩, ht⟩ := hx
  have w0 : (Lit.int .u8 (x.op : Int)).wf = true := by
    simp [Lit.wf, IntKind.min, IntKind.max, IntKind.signed, IntKind.bits]; omega
  have w1 : (Lit.int .i64 x.a).wf = true := by
    simp [Lit.wf, IntKind.min, IntKind.max, IntKind.signed, IntKind.bits]; omega
  have w2 : (Lit.int .i64 x.b).wf = true := by
    simp [Lit.wf, IntKind.min, IntKind.max, IntKind.signed, IntKind.bits]; omega
  have w3 : (mk x.t).size ≤ maxLen := by rw [mk_size]; unfold maxLen; omega
  have hall : fs.all (fun f => f.name != "_") = true := by
    rw [← Array.all_toList, hfs]; simp only [List.all_cons, List.all_nil, n0, n1, n2, n3, Bool.and_self]
  unfold keyOf
  rw [hk]
  have e0 : Value.formed P k (kyV x) = true := by simp [kyV, Value.formed, hk, ck]
  have e1 : P.keyLits (n + 2) a [.int .u8 (x.op : Int)] = some [.int .u8 (x.op : Int)] := by simp [Program.keyLits, ha, w0]
  have e2 : P.keyLits (n + 2) b [.int .i64 x.a] = some [.int .i64 x.a] := by simp [Program.keyLits, hb, w1]
  have e3 : P.keyLits (n + 2) b [.int .i64 x.b] = some [.int .i64 x.b] := by simp [Program.keyLits, hb, w2]
  have e4 : P.keyLits (n + 2) c [.string (mk x.t)] = some [.string (mk x.t).data.toList] := by simp [Program.keyLits, hc, w3]
  have e5 : P.keyLits (n + 2 + 1) k [.int .u8 (x.op : Int), .int .i64 x.a, .int .i64 x.b, .string (mk x.t)] = some [.int .u8 (x.op : Int), .int .i64 x.a, .int .i64 x.b, .string (mk x.t).data.toList] := by
    unfold Program.keyLits
    simp only [hk]
    simp [ck, hall, hfs, h0, h1, h2, h3, o0, o1, o2, o3, ca, cb, cc, e1, e2, e3, e4]
  rw [hn]
  unfold kyV at e0 ⊢
  simp [hkt, e0, Value.cells, e5]
theorem key_reads {x : Ky} (hx : KyOK x) : ∃ l, keyOf Tryd.prog 65 (kyV x) = some l :=
  keyOf_four Tryd.underlying65 rfl rfl rfl rfl rfl rfl rfl rfl rfl (by decide) (by decide) (by decide) (by decide) Tryd.underlying5 Tryd.underlying3 Tryd.underlying9 cellsK cellsU cellsI cellsS deepK2 typesK hx
theorem zeroI (w : World) : (zeroValue 3).run Tryd.prog w = .ok (.int .i64 0) w := by kernel_rfl
theorem kyV_inj {x y : Ky} (h : kyV x = kyV y) : x = y := by
  unfold kyV at h
  obtain ⟨op, a, b, t⟩ := x
  obtain ⟨op', a', b', t'⟩ := y
  simp only [Value.agg.injEq, Array.mk.injEq, List.cons.injEq, Value.int.injEq, true_and, Value.string.injEq, and_true] at h
  obtain ⟨h1, h2, h3, h4⟩ := h
  have h5 : t = t' := by
    have := congrArg ByteArray.toList h4
    rwa [mk_toL, mk_toL] at this
  have h6 : op = op' := by omega
  rw [h6, h2, h3, h5]

/-- A map's block: the keys of a row of steps, each with its place. -/
def MapIn (w : World) (b : Nat) (L : List Ky) : Prop :=
  ∃ es clock, w.heap[b]? = some (.map es clock) ∧ es.toList.map (fun e => (e.key, e.val)) = L.zipIdx.map (fun x => (kyV x.1, .int .i64 ((x.2 : Nat) : Int))) ∧ ∀ x ∈ L, KyOK x
theorem MapIn.made (w : World) : MapIn (w.alloc (.map #[] 0)) w.heap.size [] := ⟨#[], 0, World.alloc_heap_new w _, rfl, by simp⟩
theorem MapIn.lt {w : World} {b : Nat} {L : List Ky} (h : MapIn w b L) : b < w.heap.size := by
  obtain ⟨es, clock, hb, _⟩ := h
  exact (Array.getElem?_eq_some_iff.1 hb).1
theorem MapIn.of_block {w w' : World} {b : Nat} {L : List Ky} (h : MapIn w b L) (e : w'.heap[b]? = w.heap[b]?) : MapIn w' b L := by
  obtain ⟨es, clock, hb, h2⟩ := h
  exact ⟨es, clock, e.trans hb, h2⟩
theorem MapIn.keys {es : Array MapEntry} {L : List Ky} (h : es.toList.map (fun e => (e.key, e.val)) = L.zipIdx.map (fun x => (kyV x.1, .int .i64 ((x.2 : Nat) : Int)))) (hs : ∀ x ∈ L, KyOK x) :
    ∀ e ∈ es.toList, ∃ l, keyOf Tryd.prog 65 e.key = some l := by
  intro e he
  have : (e.key, e.val) ∈ L.zipIdx.map (fun x => (kyV x.1, Value.int .i64 ((x.2 : Nat) : Int))) := by rw [← h]; exact List.mem_map.2 ⟨e, he, rfl⟩
  obtain ⟨x, hx, hxe⟩ := List.mem_map.1 this
  have e9 := congrArg Prod.fst hxe
  dsimp only at e9
  rw [← e9]
  exact key_reads (hs x.1 (List.fst_mem_of_mem_zipIdx hx))

/-- Where a key is. -/
def kyAt (L : List Ky) (k : Ky) : Option Nat := L.findIdx? (· == k)

/-- What is found. -/
theorem MapIn.look {w : World} {b : Nat} {L : List Ky} (h : MapIn w b L) (hd : L.Nodup) {k : Ky} (hk : KyOK k) :
    (Instr.lookup 44 (.map (some b)) (kyV k) true).run Tryd.prog w = .ok (match kyAt L k with | some i => .tuple #[.int .i64 ((i : Nat) : Int), .bool true] | none => .tuple #[.int .i64 0, .bool false]) w := by
  obtain ⟨es, clock, hb, hL, hs⟩ := h
  obtain ⟨l, hkey⟩ := key_reads hk
  have hz := zeroI w
  rcases keyedK.find w hkey es.toList (MapIn.keys hL hs) with ⟨h1, h2⟩ | ⟨j, e0, h1, h2, h3⟩
  · have hf : kyAt L k = none := by
      unfold kyAt
      rw [List.findIdx?_eq_none_iff]
      intro x hx
      obtain ⟨i, hi⟩ := List.mem_iff_getElem?.1 hx
      have hm : (x, i) ∈ L.zipIdx := by
        rw [List.mem_iff_getElem?]
        exact ⟨i, by simp [List.getElem?_zipIdx, hi]⟩
      have : (kyV x, Value.int .i64 ((i : Nat) : Int)) ∈ es.toList.map (fun e => (e.key, e.val)) := by rw [hL]; exact List.mem_map.2 ⟨_, hm, rfl⟩
      obtain ⟨e, he, hee⟩ := List.mem_map.1 this
      have e9 := congrArg Prod.fst hee
      dsimp only at e9
      have hne := h2 e he
      rw [e9] at hne
      simp only [beq_eq_false_iff_ne, ne_eq]
      exact fun hxk => hne (by rw [hxk])
    rw [hf]
    simp [Instr.lookup, run_underlying Tryd.underlying44, MapKept.run_getObj_map hb, keyedK.check w _ hkey, h1, hz, Result.andThen]
  · have hf : ∃ i, kyAt L k = some i ∧ e0.val = .int .i64 ((i : Nat) : Int) := by
      have h9 : (es.toList.map (fun e => (e.key, e.val)))[j]? = some (e0.key, e0.val) := by rw [List.getElem?_map, h2]; rfl
      rw [hL, List.getElem?_map, List.getElem?_zipIdx] at h9
      cases hx : L[j]? with
      | none => rw [hx] at h9; simp at h9
      | some x =>
        rw [hx] at h9
        simp at h9
        have hxk : x = k := kyV_inj (h9.1.trans h3)
        refine ⟨j, ?_, h9.2.symm⟩
        unfold kyAt
        rw [List.findIdx?_eq_some_iff_getElem]
        have hj := (List.getElem?_eq_some_iff.1 hx).1
        have hj2 := (List.getElem?_eq_some_iff.1 hx).2
        refine ⟨hj, by rw [hj2, hxk]; simp, fun i hi => ?_⟩
        simp only [beq_eq_false_iff_ne, ne_eq, Bool.not_eq_true]
        intro hc
        have hcj : L[i] = L[j] := by rw [hj2, hxk]; simpa using hc
        have hd' := hd
        unfold List.Nodup at hd'
        rw [List.pairwise_iff_getElem] at hd'
        exact hd' i j (by omega) hj hi hcj
    obtain ⟨i, hi, hv⟩ := hf
    rw [hi]
    simp [Instr.lookup, run_underlying Tryd.underlying44, MapKept.run_getObj_map hb, keyedK.check w _ hkey, h1, hv, Result.andThen]

/-- What is put. -/
theorem MapIn.put {w : World} {b : Nat} {L : List Ky} (h : MapIn w b L) {k : Ky} (hk : KyOK k) (hn : k ∉ L) :
    ∃ w', (Instr.mapUpdate 44 (.map (some b)) (kyV k) (.int .i64 (L.length : Int))).run Tryd.prog w = .ok () w' ∧ MapIn w' b (L ++ [k]) ∧ w.grownBy w' (some b) ∧ w'.heap.size = w.heap.size := by
  obtain ⟨es, clock, hb, hL, hs⟩ := h
  obtain ⟨l, hkey⟩ := key_reads hk
  rcases keyedK.find w hkey es.toList (MapIn.keys hL hs) with ⟨h1, h2⟩ | ⟨j, e0, h1, h2, h3⟩
  · refine ⟨ChangeMaps.setBlock w b (.map (es.push ⟨kyV k, .int .i64 (L.length : Int), clock⟩) (clock + 1)), ?_, ⟨es.push ⟨kyV k, .int .i64 (L.length : Int), clock⟩, clock + 1, ChangeMaps.heap_setBlock_same hb _, ?_, ?_⟩, ⟨rfl, rfl, rfl, by simp [ChangeMaps.setBlock], fun i _ hi => ChangeMaps.heap_setBlock_other hb _ (fun e => hi (by rw [e]))⟩, by simp [ChangeMaps.setBlock]⟩
    · simp [Instr.mapUpdate, run_underlying Tryd.underlying44, MapKept.run_getObj_map hb, keyedK.check w false hkey, h1, MapKept.run_setObj_map _ hb, Result.andThen, ChangeMaps.setBlock]
    · rw [Array.toList_push, List.map_append, hL, List.zipIdx_append, List.map_append]
      simp
    · intro x hx
      rcases List.mem_append.1 hx with h | h
      · exact hs x h
      · rw [List.mem_singleton.1 h]; exact hk
  · exfalso
    have hm : e0 ∈ es.toList := List.mem_of_getElem? h2
    have : (e0.key, e0.val) ∈ L.zipIdx.map (fun x => (kyV x.1, Value.int .i64 ((x.2 : Nat) : Int))) := by rw [← hL]; exact List.mem_map.2 ⟨e0, hm, rfl⟩
    obtain ⟨x, hx, hxe⟩ := List.mem_map.1 this
    have e9 := congrArg Prod.fst hxe
    dsimp only at e9
    have e1 : kyV x.1 = kyV k := e9.trans h3
    exact hn (by rw [← kyV_inj e1]; exact List.fst_mem_of_mem_zipIdx hx)
end Go.Proofs.YtcbebikcfcidmaaDoor

namespace Go.Proofs.YtcbebikcfcidmaaDoor
open Go.RowKit

/-- A step's cells. -/
def ndCells (x : Nd) (vn vd : Value) : List Value := [.int .u8 (x.op : Int), .int .i64 x.a, .int .i64 x.b, .bool x.c.s, vn, vd]
/-- A row of steps that may be read. -/
def NdsAt (K : Nat) (w : World) (A : Option Addr) (L : List Nd) : Prop :=
  ∀ i x, L[i]? = some x → ∃ b off vn vd, A = some ⟨b, off, none⟩ ∧ (∀ j v, (ndCells x vn vd)[j]? = some v → w.cell? ⟨b, off + i * 6 + j, none⟩ = some v) ∧ NdOK K w x vn vd
/-- A row of tells that may be read. -/
def TlsAt (w : World) (A : Option Addr) (T : List (List UInt8 × Int)) : Prop :=
  ∀ i x, T[i]? = some x → I64 x.2 ∧ ∃ b off, A = some ⟨b, off, none⟩ ∧ w.cell? ⟨b, off + i * 2, none⟩ = some (.string (mk x.1)) ∧ w.cell? ⟨b, off + i * 2 + 1, none⟩ = some (.int .i64 x.2)
theorem NdsAt.grow {K : Nat} {w w' : World} {A : Option Addr} {L : List Nd} (h : NdsAt K w A L) (hg : Grow w w') : NdsAt K w' A L := fun i x hx => by
  obtain ⟨b, off, vn, vd, h1, h2, h3, h4, h5, h6⟩ := h i x hx
  refine ⟨b, off, vn, vd, h1, fun j v hv => ?_, h3, h4, h5, h6.grow hg⟩
  have hb := World.block_lt_of_cell? w _ (h2 0 _ rfl)
  exact (hg.cell (p := ⟨b, off + i * 6 + j, none⟩) hb).trans (h2 j v hv)
theorem TlsAt.grow {w w' : World} {A : Option Addr} {T : List (List UInt8 × Int)} (h : TlsAt w A T) (hg : Grow w w') : TlsAt w' A T := fun i x hx => by
  obtain ⟨h0, b, off, h1, h2, h3⟩ := h i x hx
  have hb := World.block_lt_of_cell? w _ h2
  exact ⟨h0, b, off, h1, (hg.cell (p := ⟨b, off + i * 2, none⟩) hb).trans h2, (hg.cell (p := ⟨b, off + i * 2 + 1, none⟩) hb).trans h3⟩

/-- Are the first of them valid, each behind the elder ones? -/
def stepsB (pars : Int) : Nat → List Nd → Bool
  | _, [] => true
  | k, x :: l => stepB x (k : Int) pars && stepsB pars (k + 1) l
/-- A tape. -/
structure Tp where
  pars : Int
  out : Int
  nodes : List Nd
  tells : List (List UInt8 × Int)
/-- A tape that may be read. -/
def TpAt (K : Nat) (w : World) (t : Tp) (vn vt : Value) : Prop :=
  I64 t.pars ∧ I64 t.out ∧ t.nodes.length ≤ 1099511627776 ∧ t.tells.length ≤ 1099511627776 ∧ ∃ A ca B cb, vn = .slice A t.nodes.length ca ∧ vt = .slice B t.tells.length cb ∧ NdsAt K w A t.nodes ∧ TlsAt w B t.tells
theorem TpAt.grow {K : Nat} {w w' : World} {t : Tp} {vn vt : Value} (h : TpAt K w t vn vt) (hg : Grow w w') : TpAt K w' t vn vt := by
  obtain ⟨h1, h2, h3, h4, A, ca, B, cb, h5, h6, h7, h8⟩ := h
  exact ⟨h1, h2, h3, h4, A, ca, B, cb, h5, h6, h7.grow hg, h8.grow hg⟩
end Go.Proofs.YtcbebikcfcidmaaDoor

namespace Go.Proofs.YtcbebikcfcidmaaDoor
open Go.RowKit

theorem NRow.by_form {B : Nat} {w : World} {v : Value} {L : List Nat} {G : Prop} (h : NRow B w v L) (k : ∀ A cap, v = .slice A L.length cap → NRow B w (.slice A L.length cap) L → G) : G := by
  obtain ⟨A, cap, rfl, _, _, _⟩ := h.at_
  exact k A cap rfl h

section
variable {w : World}

set_option maxRecDepth 100000 in
set_option maxHeartbeats 2000000 in
theorem zof_any (n : Nat) (w : World) (hn : n ≤ 9223372036854775807) :
    Calls Tryd.prog 16 #[.int .i64 (n : Int)] w (fun e w' => ∃ x c, e = .returned (.agg #[.bool false, .slice x (nrow n).length c]) ∧ NRow w.heap.size w' (.slice x (nrow n).length c) (nrow n) ∧ Below w.heap.size w w') := by
  obtain ⟨W1, hW1⟩ : ∃ W1, W1 = w.alloc (.cells #[.bool false, .slice none 0 0] 33) := ⟨_, rfl⟩
  have b0 : BlkOf W1 w.heap.size #[.bool false, .slice none 0 0] 33 := by rw [hW1]; exact BlkOf.new w _ _
  have hbw : Below w.heap.size w W1 := by rw [hW1]; exact (Below.refl _ w).alloc (Nat.le_refl _) _
  have hsz : W1.heap.size = w.heap.size + 1 := by rw [hW1]; simp
  have HO := Lib.hid (of_any n W1 (by omega))
  have HB := Lib.hid b0
  have HBW := Lib.hid hbw
  have HSZ := Lib.hid hsz
  have h0 : ¬ ((n : Int) < 0) := by omega
  subst hW1
  clear b0 hbw hsz
  go_enter Tryd.func16, Tryd.ntmps16
  go_wp2_with (first | (go_at_call 17; refine HO.out.mono ?_) | fail)
  have hsz1 := HSZ.out
  rintro e w1 ⟨v, rfl, hr, hb1⟩
  refine NRow.by_form hr fun x c ev hr => ?_
  rw [ev]
  rw [hsz1] at hr
  have hbw1 : Below w.heap.size w w1 := HBW.out.trans (hb1.mono HBW.out.size)
  have b1 := HB.out.below hb1 (by rw [hsz1]; omega)
  have hz1 : w.heap.size + 1 ≤ w1.heap.size := by have := hb1.size; omega
  have c10 := b1.at 0 rfl
  have c11 := b1.at 1 rfl
  have z10 := b1.free
  have Q1 := Lib.hid ((b1.set 0 (.bool false)).set 1 (.slice x (nrow n).length c))
  have HX := Lib.hid (NRow.more (ownsRow_setCell_below (a := ⟨w.heap.size, 1, none⟩) (ownsRow_setCell_below (a := ⟨w.heap.size, 0, none⟩) hr (by show w.heap.size < _; omega) (.bool false)) (by show w.heap.size < _; omega) (.slice x (nrow n).length c)) (Nat.le_succ _))
  have HBF := Lib.hid ((hbw1.setCell (p := ⟨w.heap.size, 0, none⟩) (Nat.le_refl _) (.bool false)).setCell (p := ⟨w.heap.size, 1, none⟩) (Nat.le_refl _) (.slice x (nrow n).length c))
  clear hr ev
  go_wp2_with fail
  refine post_cell rfl (g := w.heap.size) rfl Q1.out Tryd.underlying33 rfl (by kernel_rfl) ?_
  exact ⟨x, c, rfl, HX.out, HBF.out⟩

set_option maxRecDepth 100000 in
set_option maxHeartbeats 2000000 in
theorem fof_any (n : Nat) (w : World) (hn : n ≤ 9223372036854775807) :
    Calls Tryd.prog 8 #[.int .i64 (n : Int)] w (fun e w' => ∃ v, e = .returned v ∧ FrRow w.heap.size w' v false n 1 ∧ Below w.heap.size w w') := by
  obtain ⟨W1, hW1⟩ : ∃ W1, W1 = w.alloc (.cells #[.bool false, .slice none 0 0, .slice none 0 0] 35) := ⟨_, rfl⟩
  have b0 : BlkOf W1 w.heap.size #[.bool false, .slice none 0 0, .slice none 0 0] 35 := by rw [hW1]; exact BlkOf.new w _ _
  have hbw : Below w.heap.size w W1 := by rw [hW1]; exact (Below.refl _ w).alloc (Nat.le_refl _) _
  have hsz : W1.heap.size = w.heap.size + 1 := by rw [hW1]; simp
  have HO := Lib.hid (zof_any n W1 hn)
  have HB := Lib.hid b0
  have HBW := Lib.hid hbw
  have HSZ := Lib.hid hsz
  subst hW1
  clear b0 hbw hsz
  go_enter Tryd.func8, Tryd.ntmps8
  go_wp2_with (first | (go_at_call 16; refine HO.out.mono ?_) | fail)
  have hsz1 := HSZ.out
  rintro e w1 ⟨x, c, rfl, hr, hb1⟩
  rw [hsz1] at hr
  have hbw1 : Below w.heap.size w w1 := HBW.out.trans (hb1.mono HBW.out.size)
  have b1 := HB.out.below hb1 (by rw [hsz1]; omega)
  have hz1 : w.heap.size + 1 ≤ w1.heap.size := by have := hb1.size; omega
  have HO2 := Lib.hid (of_any 1 w1 (by omega))
  go_wp2_with (first | (go_at_call 17; refine HO2.out.mono ?_) | fail)
  rintro e w2 ⟨v, rfl, hr2, hb2⟩
  have hr' := hr.below hb2 (Nat.le_refl _)
  have hr2' := hr2.more hz1
  refine NRow.by_form hr2' fun y c2 ev hr2 => ?_
  rw [ev]
  have hbw2 : Below w.heap.size w w2 := hbw1.trans (hb2.mono hbw1.size)
  have b2 := b1.below hb2 (by omega)
  have hz2 : w.heap.size + 1 ≤ w2.heap.size := by have := hb2.size; omega
  have c10 := b2.at 0 rfl
  have c11 := b2.at 1 rfl
  have c12 := b2.at 2 rfl
  have z10 := b2.free
  have Q1 := Lib.hid (((b2.set 0 (.bool false)).set 1 (.slice x (nrow n).length c)).set 2 (.slice y (nrow 1).length c2))
  have hrow : ∀ {v : Value} {l : List Nat}, NRow (w.heap.size + 1) w2 v l → NRow w.heap.size (((w2.setCell ⟨w.heap.size, 0, none⟩ (.bool false)).setCell ⟨w.heap.size, 1, none⟩ (.slice x (nrow n).length c)).setCell ⟨w.heap.size, 2, none⟩ (.slice y (nrow 1).length c2)) v l := fun hx =>
    NRow.more (ownsRow_setCell_below (a := ⟨w.heap.size, 2, none⟩) (ownsRow_setCell_below (a := ⟨w.heap.size, 1, none⟩) (ownsRow_setCell_below (a := ⟨w.heap.size, 0, none⟩) hx (by show w.heap.size < _; omega) _) (by show w.heap.size < _; omega) _) (by show w.heap.size < _; omega) _) (Nat.le_succ _)
  have HX := Lib.hid (hrow hr')
  have HY := Lib.hid (hrow hr2)
  have HBF := Lib.hid (((hbw2.setCell (p := ⟨w.heap.size, 0, none⟩) (Nat.le_refl _) (.bool false)).setCell (p := ⟨w.heap.size, 1, none⟩) (Nat.le_refl _) (.slice x (nrow n).length c)).setCell (p := ⟨w.heap.size, 2, none⟩) (Nat.le_refl _) (.slice y (nrow 1).length c2))
  clear hr hr' hr2 hr2' ev hrow
  go_wp2_with fail
  refine post_cell rfl (g := w.heap.size) rfl Q1.out Tryd.underlying35 rfl (by kernel_rfl) ?_
  exact ⟨_, rfl, ⟨_, _, _, _, rfl, HX.out, HY.out⟩, HBF.out⟩
end
end Go.Proofs.YtcbebikcfcidmaaDoor

namespace Go.Proofs.YtcbebikcfcidmaaDoor
open Go.RowKit

/-- The text of a normal number. -/
def fT (s : Bool) (n d : Nat) : List UInt8 := if d = 1 then zT s n else zT s n ++ 47 :: decT d

theorem one_row : nrow 1 = [1] := by decide +kernel
theorem short_one : Short 1 := by unfold Short; rw [one_row]; decide
theorem zT_len {s : Bool} {n : Nat} (h : Short n) : (zT s n).length ≤ 131073 := by
  have := decT_short h
  unfold zT
  split
  · simp; omega
  · omega

section
variable {K : Nat} {w : World} {n d : Nat}

set_option maxRecDepth 100000 in
set_option maxHeartbeats 2000000 in
theorem ftext_any {vn vd : Value} (s : Bool) (h : FrNum K w vn vd n d) (hK : K ≤ 137438953472) (hok : okF n d = true) (hsN : Short (rdN n d)) (hsD : Short (rdD n d)) :
    Calls Tryd.prog 15 #[.agg #[.bool s, vn, vd]] w (StrPost (fT (rdS s n) (rdN n d) (rdD n d)) w) := by
  obtain ⟨W1, hW1⟩ : ∃ W1, W1 = w.alloc (.cells #[.bool s, vn, vd] 35) := ⟨_, rfl⟩
  have b0 : BlkOf W1 w.heap.size #[.bool s, vn, vd] 35 := by rw [hW1]; exact BlkOf.new w _ _
  have hbw : Below w.heap.size w W1 := by rw [hW1]; exact (Below.refl _ w).alloc (Nat.le_refl _) _
  have hsz : W1.heap.size = w.heap.size + 1 := by rw [hW1]; simp
  have HN := Lib.hid (fnorm_any s (h.grow hbw) hK)
  have HB := Lib.hid b0
  have HBW := Lib.hid hbw
  have HSZ := Lib.hid hsz
  obtain ⟨⟨a, ca, A, rfl, _, _, _, _, _, _⟩, ⟨b, cb, B, rfl, _, _, _, _, _, _⟩⟩ := h
  subst hW1
  clear b0 hbw hsz
  go_enter Tryd.func15, Tryd.ntmps15
  go_wp2_with (first | (go_at_call 14; refine HN.out.mono ?_) | fail)
  have hsz1 := HSZ.out
  rintro e w1 (⟨_, v, rfl, ⟨x, c, y, e', rfl, hx, hy⟩, hb1⟩ | ⟨hno, _⟩)
  · unfold frV
    generalize rdN n d = N at *
    generalize rdD n d = D at *
    generalize rdS s n = S at *
    have hbw1 : Below w.heap.size w w1 := HBW.out.trans (hb1.mono HBW.out.size)
    have b1 := HB.out.below hb1 (by rw [hsz1]; omega)
    have hz1 : w.heap.size + 1 ≤ w1.heap.size := by have := hb1.size; omega
    rw [hsz1] at hx hy
    have c10 := b1.at 0 rfl
    have c11 := b1.at 1 rfl
    have c12 := b1.at 2 rfl
    have z10 := b1.free
    -- the world behind the store
    obtain ⟨W2, hW2⟩ : ∃ W2, W2 = ((w1.setCell ⟨w.heap.size, 0, none⟩ (.bool S)).setCell ⟨w.heap.size, 1, none⟩ (.slice x (nrow N).length c)).setCell ⟨w.heap.size, 2, none⟩ (.slice y (nrow D).length e') := ⟨_, rfl⟩
    have q1 : BlkOf W2 w.heap.size #[.bool S, .slice x (nrow N).length c, .slice y (nrow D).length e'] 35 := by rw [hW2]; exact ((b1.set 0 (.bool S)).set 1 (.slice x (nrow N).length c)).set 2 (.slice y (nrow D).length e')
    have hrow : ∀ {v : Value} {l : List Nat}, NRow (w.heap.size + 1) w1 v l → NRow (w.heap.size + 1) W2 v l := fun hx => by
      rw [hW2]
      exact ownsRow_setCell_below (a := ⟨w.heap.size, 2, none⟩) (ownsRow_setCell_below (a := ⟨w.heap.size, 1, none⟩) (ownsRow_setCell_below (a := ⟨w.heap.size, 0, none⟩) hx (by show w.heap.size < _; omega) _) (by show w.heap.size < _; omega) _) (by show w.heap.size < _; omega) _
    have HX := Lib.hid ((hrow hx).short hsN)
    have HY := Lib.hid ((hrow hy).short hsD)
    have HB2 : Hid (Below w.heap.size w W2) := Lib.hid (by rw [hW2]; exact ((hbw1.setCell (p := ⟨w.heap.size, 0, none⟩) (Nat.le_refl _) _).setCell (p := ⟨w.heap.size, 1, none⟩) (Nat.le_refl _) _).setCell (p := ⟨w.heap.size, 2, none⟩) (Nat.le_refl _) _)
    have HZ2 : Hid (w.heap.size + 1 ≤ W2.heap.size) := Lib.hid (by rw [hW2]; simpa [World.setCell] using hz1)
    have HW2 := Lib.hid hW2
    clear hrow hx hy hW2
    go_wp2_with fail
    rw [← HW2.out]
    have KC : Hid (∀ W, Grow W2 W → W.cell? ⟨w.heap.size, 0, none⟩ = some (.bool S) ∧ W.cell? ⟨w.heap.size, 1, none⟩ = some (.slice x (nrow N).length c) ∧ W.cell? ⟨w.heap.size, 2, none⟩ = some (.slice y (nrow D).length e')) := Lib.hid fun W hW => by
      have q := q1.below hW q1.lt
      exact ⟨q.at 0 rfl, q.at 1 rfl, q.at 2 rfl⟩
    have HCm := Lib.hid (fun W (hW : Grow W2 W) (v : Value) (hv : NRow W2.heap.size W v (nrow 1)) => cmp_p (HY.out.below hW) (hv.short short_one) (by omega) (by omega))
    have hce : ((cmpV D 1 : Int) == 0) = decide (D = 1) := by
      rcases Nat.lt_trichotomy D 1 with h | h | h
      · rw [cmpV_lt h]; simp; omega
      · rw [h, cmpV_eq rfl]; rfl
      · rw [cmpV_gt h]; simp; omega
    obtain ⟨cv, hcv⟩ : ∃ cv, cv = cmpV D 1 := ⟨_, rfl⟩
    unfold CmpAnd at HCm
    rw [← hcv] at hce
    have HCV := Lib.hid hcv
    clear hcv
    rename_i K0 hK0
    refine wp_region_list [fun v _ => v = .pointer (some ⟨w.heap.size, 2, none⟩), fun v _ => v = .slice y (nrow D).length e', fun v W => ∃ q c, v = .slice q (nrow 1).length c ∧ NRow W2.heap.size W (.slice q (nrow 1).length c) (nrow 1), fun v _ => v = .int .i64 cv, fun v _ => v = .bool (decide (D = 1))]
      [(1, .pointer (some ⟨w.heap.size, 0, none⟩))] 5 (by kernel_rfl) ?stay rfl (by kernel_rfl) rfl ?base (by kernel_rfl) ⟨?_, ?_, ?_, ?_, ?_, trivial⟩ ?last
    case stay =>
      refine ⟨stays_pure _, stays_pure _, ?_, stays_pure _, stays_pure _, trivial⟩
      exact fun v W W' hg ⟨x, c, h1, h2⟩ => ⟨x, c, h1, h2.below hg (Nat.le_refl _)⟩
    case base => simp
    case last =>
      intro vs W hW hv
      simp only [FactsL, Nat.zero_add, Nat.reduceAdd] at hv
      obtain ⟨v0, v1, v2, v3, v4, _⟩ := hv
      refine ⟨rfl, ?_⟩
      simp only [List.take_succ_cons, List.take_zero, putF, Act.put, List.setIfInBounds_toArray, List.set_cons_zero, List.set_cons_succ, Nat.reduceAdd, v4]
      unfold Oper.wp
      simp [execOp, go_sem]
      refine hK0 _ _ ?_
      have hbW := HB2.out.trans (hW.mono HB2.out.size)
      have q2 := q1.below hW q1.lt
      have HBW2 := Lib.hid hbW
      have HX2 := Lib.hid (HX.out.below hW)
      have HY2 := Lib.hid (HY.out.below hW)
      have Q2 := Lib.hid q2
      obtain ⟨T, hT⟩ : ∃ T, T = zT S N := ⟨_, rfl⟩
      have hzt := fun W' (hW' : Grow W W') => ztext_any S (HX2.out.below hW') (by omega) hsN
      rw [← hT] at hzt
      have HZT := Lib.hid hzt
      by_cases hD : D = 1
      · have hfT : fT S N D = T := by unfold fT; rw [if_pos hD, hT]
        rw [hfT]
        have c0 := q2.at 0 rfl
        have c1 := q2.at 1 rfl
        have hd : decide (D = 1) = true := by simp [hD]
        rw [hd]
        clear hD hd hfT hT hzt hbW q2 v0 v1 v2 v3 v4
        go_wp2_with (first | (go_at_call 27; refine (HZT.out _ (Grow.refl _)).mono ?_; rintro e W' ⟨rfl, hb2⟩) | fail)
        go_ret
        rename_i W' hb2
        exact ⟨rfl, HBW2.out.trans (hb2.mono HBW2.out.size)⟩
      · obtain ⟨U, hU⟩ : ∃ U, U = decT D := ⟨_, rfl⟩
        have hfT : fT S N D = T ++ [47] ++ U := by unfold fT; rw [if_neg hD, hT, hU]; simp
        rw [hfT]
        have hd : decide (D = 1) = false := by simp [hD]
        rw [hd]
        have htx := fun W' (hW' : Grow W W') => text_p (HY2.out.below hW') (by omega) hsD
        rw [← hU] at htx
        have HTX := Lib.hid htx
        have happ1 : mk T ++ (⟨#[47]⟩ : ByteArray) = mk (T ++ [47]) := mk_append T [47]
        have happ2 : mk (T ++ [47]) ++ mk U = mk (T ++ [47] ++ U) := mk_append _ _
        have s1 : (mk T).size ≤ 131073 := by rw [mk_size, hT]; exact zT_len hsN
        have s2 : (mk (T ++ [47])).size ≤ 131074 := by rw [mk_size, List.length_append, hT]; have := zT_len (s := S) hsN; simp; omega
        have s3 : (mk U).size ≤ 131072 := by rw [mk_size, hU]; exact decT_short hsD
        clear hD hd hfT hT hU hzt htx hbW q2 v0 v1 v2 v3 v4
        go_wp2_with fail
        have KC2 : Hid (∀ W', Grow W W' → W'.cell? ⟨w.heap.size, 0, none⟩ = some (.bool S) ∧ W'.cell? ⟨w.heap.size, 1, none⟩ = some (.slice x (nrow N).length c) ∧ W'.cell? ⟨w.heap.size, 2, none⟩ = some (.slice y (nrow D).length e')) := Lib.hid fun W' hW' => by
          have q := Q2.out.below hW' Q2.out.lt
          exact ⟨q.at 0 rfl, q.at 1 rfl, q.at 2 rfl⟩
        rename_i K1 hK1
        refine wp_region_list [fun v _ => v = .pointer (some ⟨w.heap.size, 0, none⟩), fun v _ => v = .agg #[.bool S, .slice x (nrow N).length c], fun v _ => v = .string (mk T), fun v _ => v = .string (mk (T ++ [47])), fun v _ => v = .pointer (some ⟨w.heap.size, 2, none⟩), fun v _ => v = .slice y (nrow D).length e', fun v _ => v = .string (mk U), fun v _ => v = .string (mk (T ++ [47] ++ U))]
          [(1, .pointer (some ⟨w.heap.size, 0, none⟩))] 8 (by kernel_rfl) ⟨stays_pure _, stays_pure _, stays_pure _, stays_pure _, stays_pure _, stays_pure _, stays_pure _, stays_pure _, trivial⟩ rfl (by kernel_rfl) rfl ?base (by kernel_rfl) ⟨?_, ?_, ?_, ?_, ?_, ?_, ?_, ?_, trivial⟩ ?last
        case base => simp
        case last =>
          intro vs W3 hW3 hv
          simp only [FactsL, Nat.zero_add, Nat.reduceAdd] at hv
          obtain ⟨v0, v1, v2, v3, v4, v5, v6, v7, _⟩ := hv
          refine ⟨rfl, ?_⟩
          simp only [List.take_succ_cons, List.take_zero, putF, Act.put, List.setIfInBounds_toArray, List.set_cons_zero, List.set_cons_succ, Nat.reduceAdd, v7]
          unfold Oper.wp
          simp [execOp, go_sem]
          refine hK1 _ _ ?_
          have HB3 := Lib.hid (HBW2.out.trans (hW3.mono HBW2.out.size))
          go_wp2_with fail
          go_ret
          exact ⟨by simp, HB3.out⟩
        all_goals
          intro a' W' hW' hb hf
          obtain ⟨q00, q01, q10⟩ := KC2.out W' hW'
          simp only [List.forall_mem_cons, List.not_mem_nil, false_imp_iff, implies_true, and_true] at hb
          simp [FactsOf, FactAt, Region.binds, factsL] at hf
          refine ⟨rfl, fun K hK => ?_⟩
          unfold Oper.wp
        · simp [execOp, go_sem, *]
          exact hK _ _ (Grow.refl _) rfl
        · simp [execOp, go_sem, *]
          exact hK _ _ (Grow.refl _) rfl
        · simp [go_sem, *]
          refine (HZT.out W' hW').mono ?_
          rintro e W4 ⟨rfl, hg⟩
          exact hK _ _ hg rfl
        · simp [execOp, go_sem, hf, happ1]
          rw [if_neg (by have : (⟨#[47]⟩ : ByteArray).size = 1 := rfl; omega)]
          exact hK _ _ (Grow.refl _) rfl
        · simp [execOp, go_sem, *]
          exact hK _ _ (Grow.refl _) rfl
        · simp [execOp, go_sem, *]
          exact hK _ _ (Grow.refl _) rfl
        · simp [go_sem, *]
          refine (HTX.out W' hW').mono ?_
          rintro e W4 ⟨rfl, hg⟩
          exact hK _ _ hg rfl
        · simp [execOp, go_sem, hf, happ2]
          rw [if_neg (by omega)]
          exact hK _ _ (Grow.refl _) (by simp)
    all_goals
      intro a' W hW hb hf
      obtain ⟨q00, q01, q10⟩ := KC.out W hW
      simp only [List.forall_mem_cons, List.not_mem_nil, false_imp_iff, implies_true, and_true] at hb
      simp [FactsOf, FactAt, Region.binds, factsL] at hf
      refine ⟨rfl, fun K hK => ?_⟩
      unfold Oper.wp
    · simp [execOp, go_sem, *]
      exact hK _ _ (Grow.refl _) rfl
    · simp [execOp, go_sem, *]
      exact hK _ _ (Grow.refl _) rfl
    · simp [go_sem, *]
      refine (of_any 1 W (by omega)).mono ?_
      rintro e W' ⟨v, rfl, hr, hg⟩
      refine NRow.by_form hr fun q c ev hr => ?_
      rw [ev]
      exact hK _ _ hg ⟨q, c, rfl, hr.more hW.size⟩
    · obtain ⟨q, c, ev, hr⟩ := hf.2
      have hf1 := hf.1
      clear hf
      simp [go_sem, hf1, ev]
      refine (HCm.out W hW _ hr).mono ?_
      rintro e W' ⟨rfl, hg⟩
      exact hK _ _ hg (by rw [HCV.out])
    · simp [execOp, go_sem, *]
      exact hK _ _ (Grow.refl _) rfl
  · rw [hok] at hno; cases hno
end
end Go.Proofs.YtcbebikcfcidmaaDoor
