/-
  The texts TapStep, TapMap, TapValid, TapOf, one behind the other.
-/
import Derived.Test.YtofpcdjoljjnoaaGreatDoorTapZ15
import Derived.Maps.OwnOps
import Derived.Maps.OwnIn
import Derived.DeepKeys4
import Derived.ChangeMaps5

namespace Go.Proofs.YtofpcdjoljjnoaaGreatDoor
open Go.RowKit

set_option maxHeartbeats 1000000 in
theorem isnormal_any {K : Nat} {w : World} {x : Fr} {vn vd : Value} (h : FrAt K w x vn vd) (hK : K ≤ 137438953472) :
    Calls Tryz.prog 110 #[.agg #[.bool x.s, vn, vd]] w (Just (.bool (normB x)) w) := by
  obtain ⟨W1, hW1⟩ : ∃ W1, W1 = w.alloc (.cells #[.bool x.s, vn, vd] 46) := ⟨_, rfl⟩
  have b0 : BlkOf W1 w.heap.size #[.bool x.s, vn, vd] 46 := by rw [hW1]; exact BlkOf.new w _ _
  have hbw : Grow w W1 := by rw [hW1]; exact (Below.refl _ w).alloc (Nat.le_refl _) _
  have HN := Lib.hid (fnorm_any x.s (h.grow hbw).num hK)
  have HB := Lib.hid b0
  have HBW := Lib.hid hbw
  have H := Lib.hid h
  obtain ⟨⟨a, ca, rfl, _, _, _, _⟩, ⟨b, cb, rfl, _, _, _, _⟩, _⟩ := h
  obtain ⟨s, L, D⟩ := x
  dsimp only at *
  obtain ⟨p, hp⟩ : ∃ p, p = normB ⟨s, L, D⟩ := ⟨_, rfl⟩
  have HP := Lib.hid hp
  rw [← hp]
  subst hW1
  clear b0 hbw hp
  go_enter Tryz.func110, Tryz.ntmps110
  go_wp2_with (first | (go_at_call 38; refine HN.out.mono ?_) | fail)
  rintro e w1 (⟨hok, v, rfl, ⟨x, c, y, e', rfl, hx, hy⟩, hb1⟩ | ⟨hok, rfl, hb1⟩)
  · have hb0 := HB.out.below hb1 HB.out.lt
    have hbw1 : Grow w w1 := HBW.out.trans hb1
    have hpe : p = sameB ⟨rdS s (lv L), nrow (rdN (lv L) (lv D)), nrow (rdD (lv L) (lv D))⟩ ⟨s, L, D⟩ := by
      rw [HP.out]; unfold normB; dsimp only; rw [hok, Bool.true_and]
    obtain ⟨hsn, hsd, h0⟩ := okF_iff.1 hok
    have sN : (nrow (rdN (lv L) (lv D))).length ≤ 2048 := short_le (Nat.div_le_self _ _) hsn
    have sE : (nrow (rdD (lv L) (lv D))).length ≤ 2048 := short_le (Nat.div_le_self _ _) hsd
    generalize rdN (lv L) (lv D) = N at *
    generalize rdD (lv L) (lv D) = E at *
    generalize rdS s (lv L) = S at *
    unfold frV
    obtain ⟨W2, hW2⟩ : ∃ W2, W2 = w1.alloc (.cells #[.bool S, .slice x (nrow N).length c, .slice y (nrow E).length e'] 46) := ⟨_, rfl⟩
    have hg2 : Grow w1 W2 := by rw [hW2]; exact (Below.refl _ w1).alloc (Nat.le_refl _) _
    have hbw2 : Grow w W2 := Grow.trans hbw1 hg2
    have b2 := hb0.below hg2 hb0.lt
    have hfa : FrAt 2048 W2 ⟨S, nrow N, nrow E⟩ (.slice x (nrow N).length c) (.slice y (nrow E).length e') := ⟨hx.raw.grow hg2, hy.raw.grow hg2, sN, sE⟩
    have hs := issame_any hfa (H.out.grow hbw2) (by omega)
    rw [← hpe] at hs
    have HS := Lib.hid hs
    have HG := Lib.hid hbw2
    have HPE := Lib.hid hpe
    have c0 := hb0.at 0 rfl
    have c1 := hb0.at 1 rfl
    have c2 := hb0.at 2 rfl
    have c3 := b2.at 0 rfl
    have c4 := b2.at 1 rfl
    have c5 := b2.at 2 rfl
    subst hW2
    clear hs hfa hx hy hok hsn hsd h0 sN sE hpe
    go_wp2_with (first | (go_at_call 54; refine HS.out.mono ?_; rintro e w3 ⟨rfl, hb3⟩) | fail)
    go_ret
    rename_i w3 hb3
    exact ⟨by simp, HG.out.trans hb3⟩
  · have hbw1 : Grow w w1 := HBW.out.trans hb1
    have HPF : Hid (p = false) := Lib.hid (by rw [HP.out]; unfold normB; dsimp only; rw [hok, Bool.false_and])
    have HG := Lib.hid (hbw1.trans (Grow.alloc w1 (.cells #[.bool false, .slice none 0 0, .slice none 0 0] 46)))
    clear hok hb1 hbw1
    go_wp2_with fail
    go_ret
    exact ⟨by rw [HPF.out]; rfl, HG.out⟩

/-- Is C what it should be for such a field? -/
def writtenB (f : Nat) (x : Fr) : Bool := if f = 1 then normB x else sameB x ⟨false, [], []⟩

set_option maxHeartbeats 1000000 in
theorem iswritten_any {K f : Nat} {fi : Int} {w : World} {x : Fr} {vn vd : Value} (hfi : fi = (f : Int)) (h : FrAt K w x vn vd) (hK : K ≤ 137438953472) :
    Calls Tryz.prog 92 #[.int .u8 fi, .agg #[.bool x.s, vn, vd]] w (Just (.bool (writtenB f x)) w) := by
  obtain ⟨W1, hW1⟩ : ∃ W1, W1 = w.alloc (.cells #[.bool x.s, vn, vd] 46) := ⟨_, rfl⟩
  have hbw : Grow w W1 := by rw [hW1]; exact (Below.refl _ w).alloc (Nat.le_refl _) _
  have HN := Lib.hid (isnormal_any (h.grow hbw) hK)
  have HS := Lib.hid (issame_any (K' := 0) (y := ⟨false, [], []⟩) (h.grow hbw) ⟨Raw.nil _, Raw.nil _, Nat.le_refl _, Nat.le_refl _⟩ hK)
  have HBW := Lib.hid hbw
  obtain ⟨⟨a, ca, rfl, _, _, _, _⟩, ⟨b, cb, rfl, _, _, _, _⟩, _⟩ := h
  obtain ⟨s, L, D⟩ := x
  dsimp only at *
  subst hW1
  clear hbw
  subst hfi
  unfold writtenB
  by_cases h1 : f = 1
  · subst h1
    rw [if_pos rfl]
    go_enter Tryz.func92, Tryz.ntmps92
    go_wp2_with (first | (go_at_call 110; refine HN.out.mono ?_; rintro e w3 ⟨rfl, hb3⟩) | fail)
    go_ret
    rename_i w3 hb3
    exact ⟨rfl, HBW.out.trans hb3⟩
  · rw [if_neg h1]
    have hne : ¬ ((f : Int) = 1) := by omega
    have hnb : ((f : Int) == 1) = false := by simp; omega
    go_enter Tryz.func92, Tryz.ntmps92
    go_wp2_with (first | (go_at_call 54; refine HS.out.mono ?_; rintro e w3 ⟨rfl, hb3⟩) | fail)
    go_ret
    rename_i w3 hb3
    exact ⟨rfl, HBW.out.trans hb3⟩

/-- The table of the Ops' fields, three for each. -/
def fldL : List Nat := [0, 0, 0, 0, 0, 1, 2, 0, 0, 3, 3, 0, 3, 3, 0, 3, 3, 0, 3, 3, 0, 3, 0, 0, 3, 0, 0, 3, 0, 0, 3, 0, 0, 3, 0, 0]
def fld (op j : Nat) : Nat := fldL.getD (op * 3 + j) 0
/-- The table, as it lies. -/
def Tab (w : World) : Prop := ∀ i < 36, w.cell? ⟨0, i, none⟩ = some (.int .u8 ((fldL.getD i 0 : Nat) : Int))
theorem Tab.lt {w : World} (h : Tab w) : 0 < w.heap.size := World.block_lt_of_cell? w _ (h 0 (by omega))
theorem Tab.grow {w w' : World} (h : Tab w) (hg : Grow w w') : Tab w' := fun i hi => (hg.cell (p := ⟨0, i, none⟩) h.lt).trans (h i hi)
theorem fld_kinds (op : Nat) : (fld op 0 = 0 ∧ fld op 1 = 0 ∧ fld op 2 = 0) ∨ (fld op 0 = 0 ∧ fld op 1 = 0 ∧ fld op 2 = 1) ∨ (fld op 0 = 2 ∧ fld op 1 = 0 ∧ fld op 2 = 0) ∨ (fld op 0 = 3 ∧ fld op 1 = 3 ∧ fld op 2 = 0) ∨ (fld op 0 = 3 ∧ fld op 1 = 0 ∧ fld op 2 = 0) := by
  by_cases h : op < 12
  · have : ∀ op, op < 12 → ((fld op 0 = 0 ∧ fld op 1 = 0 ∧ fld op 2 = 0) ∨ (fld op 0 = 0 ∧ fld op 1 = 0 ∧ fld op 2 = 1) ∨ (fld op 0 = 2 ∧ fld op 1 = 0 ∧ fld op 2 = 0) ∨ (fld op 0 = 3 ∧ fld op 1 = 3 ∧ fld op 2 = 0) ∨ (fld op 0 = 3 ∧ fld op 1 = 0 ∧ fld op 2 = 0)) := by decide
    exact this op h
  · have hz : ∀ j, fld op j = 0 := fun j => by
      unfold fld
      rw [List.getD_eq_getElem?_getD, List.getElem?_eq_none (by simp [fldL]; omega)]
      rfl
    exact .inl ⟨hz 0, hz 1, hz 2⟩
theorem fld_none {op : Nat} (h : 12 ≤ op) (j : Nat) : fld op j = 0 := by
  unfold fld
  rw [List.getD_eq_getElem?_getD, List.getElem?_eq_none (by simp [fldL]; omega)]
  rfl
/-- The fields of an Op as a value. -/
def fldV (op : Nat) : Value := .agg #[.int .u8 ((fld op 0 : Nat) : Int), .int .u8 ((fld op 1 : Nat) : Int), .int .u8 ((fld op 2 : Nat) : Int)]

set_option maxHeartbeats 1000000 in
theorem fieldsof_any {w : World} (op : Nat) (hop : op < 256) (ht : Tab w) : Calls Tryz.prog 30 #[.int .u8 (op : Int)] w (Just (fldV op) w) := by
  by_cases h : op < 12
  · have htl := ht.lt
    have e0 := ht (op * 3) (by omega)
    have e1 := ht (op * 3 + 1) (by omega)
    have e2 := ht (op * 3 + 2) (by omega)
    unfold fldV
    rw [show fldL.getD (op * 3) 0 = fld op 0 from rfl] at e0
    rw [show fldL.getD (op * 3 + 1) 0 = fld op 1 from rfl] at e1
    rw [show fldL.getD (op * 3 + 2) 0 = fld op 2 from rfl] at e2
    generalize fld op 0 = p at *
    generalize fld op 1 = q at *
    generalize fld op 2 = r at *
    have hltI : (op : Int) < 12 := by omega
    clear ht
    go_enter Tryz.func30, Tryz.ntmps30
    go_wp2_with fail
    refine post_cell rfl (g := w.heap.size) rfl (BlkOf.new w _ _) Tryz.underlying76 rfl (by kernel_rfl) ?_
    exact ⟨rfl, Grow.alloc w _⟩
  · unfold fldV
    rw [fld_none (by omega) 0, fld_none (by omega) 1, fld_none (by omega) 2]
    have hltI : ¬ ((op : Int) < 12) := by omega
    clear ht
    go_enter Tryz.func30, Tryz.ntmps30
    go_wp2_with fail
    refine post_cell rfl (g := w.heap.size) rfl (BlkOf.new w _ _) Tryz.underlying76 rfl (by kernel_rfl) ?_
    exact ⟨rfl, Grow.alloc w _⟩

/-- An int. -/
abbrev I64 (i : Int) : Prop := -9223372036854775808 ≤ i ∧ i ≤ 9223372036854775807
/-- Is A or B what it should be for such a field? -/
def isB (f : Nat) (x steps pars : Int) : Bool := if f = 3 then decide (0 ≤ x) && decide (x < steps) else if f = 2 then decide (0 ≤ x) && decide (x < pars) else decide (x = 0)

set_option maxHeartbeats 1000000 in
theorem is_any {w : World} {f : Nat} {fi x steps pars : Int} {p q : Nat} (hf : fi = (f : Int)) (hx : I64 x) (hs : I64 steps) (hp : I64 pars) (c1 : w.cell? ⟨p, 0, none⟩ = some (.int .i64 steps)) (c2 : w.cell? ⟨q, 0, none⟩ = some (.int .i64 pars)) :
    Calls Tryz.prog 91 #[.int .u8 fi, .int .i64 x, .pointer (some ⟨p, 0, none⟩), .pointer (some ⟨q, 0, none⟩)] w (Same (.bool (isB f x steps pars)) w) := by
  have H1 := Lib.hid (isindex_any x steps w hx hs)
  have H2 := Lib.hid (isindex_any x pars w hx hp)
  subst hf
  unfold isB
  by_cases h3 : f = 3
  · subst h3
    rw [if_pos rfl]
    go_enter Tryz.func91, Tryz.ntmps91
    go_wp2_with (first | (go_at_call 69; refine H1.out.mono ?_; rintro e w3 ⟨rfl, rfl⟩) | fail)
    go_ret
    exact ⟨rfl, rfl⟩
  · rw [if_neg h3]
    have n3 : ¬ ((f : Int) = 3) := by omega
    by_cases h2 : f = 2
    · subst h2
      rw [if_pos rfl]
      go_enter Tryz.func91, Tryz.ntmps91
      go_wp2_with (first | (go_at_call 69; refine H2.out.mono ?_; rintro e w3 ⟨rfl, rfl⟩) | fail)
      go_ret
      exact ⟨rfl, rfl⟩
    · rw [if_neg h2]
      have n2 : ¬ ((f : Int) = 2) := by omega
      go_enter Tryz.func91, Tryz.ntmps91
      go_wp2_with fail
      go_ret
      exact ⟨by first | rfl | simp, rfl⟩

/-- A step. -/
structure Nd where
  op : Nat
  a : Int
  b : Int
  c : Fr
/-- A step as a value. -/
def ndV (x : Nd) (vn vd : Value) : Value := .agg #[.int .u8 (x.op : Int), .int .i64 x.a, .int .i64 x.b, .bool x.c.s, vn, vd]
/-- A step that may be read. -/
def NdOK (K : Nat) (w : World) (x : Nd) (vn vd : Value) : Prop := x.op < 256 ∧ I64 x.a ∧ I64 x.b ∧ FrAt K w x.c vn vd
/-- Is a step valid? -/
def stepB (x : Nd) (steps pars : Int) : Bool :=
  !(decide (fld x.op 0 = 0) && (decide (fld x.op 1 = 0) && decide (fld x.op 2 = 0))) && (isB (fld x.op 0) x.a steps pars && (isB (fld x.op 1) x.b steps pars && writtenB (fld x.op 2) x.c))

set_option maxRecDepth 100000 in
set_option maxHeartbeats 2000000 in
theorem isstep_any {K : Nat} {w : World} {x : Nd} {vn vd : Value} {steps pars : Int} (h : NdOK K w x vn vd) (hK : K ≤ 137438953472) (hs : I64 steps) (hp : I64 pars) (ht : Tab w) :
    Calls Tryz.prog 68 #[ndV x vn vd, .int .i64 steps, .int .i64 pars] w (Just (.bool (stepB x steps pars)) w) := by
  have hmf : ∀ (fn : Fn) (first cap : Array Value) (w : World), (Instr.makeFunc fn first cap).run Tryz.prog w = .ok (.func fn first cap) w := fun _ _ _ _ => rfl
  obtain ⟨op, a, b, ⟨s, L, D⟩⟩ := x
  obtain ⟨hop, ha, hb, hc⟩ := h
  unfold ndV
  dsimp only at *
  obtain ⟨W1, hW1⟩ : ∃ W1, W1 = ((w.alloc (.cells #[.int .u8 (op : Int), .int .i64 a, .int .i64 b, .bool s, vn, vd] 71)).alloc (.cells #[.int .i64 steps] 3)).alloc (.cells #[.int .i64 pars] 3) := ⟨_, rfl⟩
  obtain ⟨b0, b1, b2, hsz, hbw⟩ := three_new rfl _ _ _ _ _ _ hW1
  have HF := Lib.hid (fieldsof_any op hop (ht.grow hbw))
  have HBL := Lib.hid (And.intro b0 (And.intro b1 b2))
  have HBW := Lib.hid hbw
  have HSZ := Lib.hid hsz
  have HC := Lib.hid hc
  have HI := Lib.hid (And.intro ha (And.intro hb (And.intro hs hp)))
  obtain ⟨⟨an, cn, rfl, _, _, _, _⟩, ⟨ad, cd, rfl, _, _, _, _⟩, _⟩ := hc
  obtain ⟨r, hr⟩ : ∃ r, r = stepB ⟨op, a, b, s, L, D⟩ steps pars := ⟨_, rfl⟩
  have HR := Lib.hid hr
  rw [← hr]
  unfold fldV at HF
  have HK := fld_kinds op
  unfold stepB at hr
  dsimp only at hr HC
  generalize fld op 0 = f0 at *
  generalize fld op 1 = f1 at *
  generalize fld op 2 = f2 at *
  have HF2 := Lib.hid HF.out
  subst hW1
  clear b0 b1 b2 hsz hbw HF
  have HI1 := Lib.hid (fun (W : World) (c1 : W.cell? ⟨w.heap.size + 1, 0, none⟩ = some (.int .i64 steps)) (c2 : W.cell? ⟨w.heap.size + 1 + 1, 0, none⟩ = some (.int .i64 pars)) (fi : Int) (hfi : fi = (f0 : Int)) => is_any (f := f0) hfi ha hs hp c1 c2)
  have HI2 := Lib.hid (fun (W : World) (c1 : W.cell? ⟨w.heap.size + 1, 0, none⟩ = some (.int .i64 steps)) (c2 : W.cell? ⟨w.heap.size + 1 + 1, 0, none⟩ = some (.int .i64 pars)) (fi : Int) (hfi : fi = (f1 : Int)) => is_any (f := f1) hfi hb hs hp c1 c2)
  have HI3 := Lib.hid (fun W (hW : Grow w W) (fi : Int) (hfi : fi = (f2 : Int)) => iswritten_any (f := f2) hfi (HC.out.grow hW) hK)
  have hrr : (decide (f0 = 0) && (decide (f1 = 0) && decide (f2 = 0))) = true ∨ (decide (f0 = 0) && (decide (f1 = 0) && decide (f2 = 0))) = false ∧ r = (isB f0 a steps pars && (isB f1 b steps pars && writtenB f2 ⟨s, L, D⟩)) := by
    cases hx : (decide (f0 = 0) && (decide (f1 = 0) && decide (f2 = 0))) with
    | true => exact .inl rfl
    | false => rw [hx] at hr; exact .inr ⟨rfl, by rw [hr]; rfl⟩
  obtain ⟨p, hp'⟩ : ∃ p, p = isB f0 a steps pars := ⟨_, rfl⟩
  obtain ⟨q, hq'⟩ : ∃ q, q = isB f1 b steps pars := ⟨_, rfl⟩
  obtain ⟨t, ht'⟩ : ∃ t, t = writtenB f2 ⟨s, L, D⟩ := ⟨_, rfl⟩
  have HJ1 := HI1.out
  have HJ2 := HI2.out
  have HJ3 := HI3.out
  dsimp only at HJ3
  rw [← hp'] at HJ1 hrr
  rw [← hq'] at HJ2 hrr
  rw [← ht'] at HJ3 hrr
  have K1 := Lib.hid HJ1
  have K2 := Lib.hid HJ2
  have K3 := Lib.hid HJ3
  clear HI1 HI2 HI3 HJ1 HJ2 HJ3 hp' hq' ht'
  rcases HK with ⟨rfl, rfl, rfl⟩ | ⟨rfl, rfl, rfl⟩ | ⟨rfl, rfl, rfl⟩ | ⟨rfl, rfl, rfl⟩ | ⟨rfl, rfl, rfl⟩
  · have HRF : Hid (r = false) := Lib.hid (by rw [hr]; rfl)
    clear hr
    go_enter Tryz.func68, Tryz.ntmps68
    go_wp2_with (first | (go_at_call 30; refine HF2.out.mono ?_) | fail)
    rintro e w1 ⟨rfl, hb1⟩
    have HG := Lib.hid ((HBW.out.trans (hb1.mono HBW.out.size)).trans (Grow.alloc w1 (.cells #[.int .u8 0, .int .u8 0, .int .u8 0] 76) |>.mono (HBW.out.trans (hb1.mono HBW.out.size)).size))
    go_wp2_with fail
    go_ret
    exact ⟨by rw [HRF.out]; rfl, HG.out⟩
  all_goals
    have hrq : r = (p && (q && t)) := by
      rcases hrr with h | ⟨_, h⟩
      · exact absurd h (by decide)
      · exact h
    have HRQ := Lib.hid hrq
    clear hr hrr hrq
    go_enter Tryz.func68, Tryz.ntmps68
    go_wp2_with (first | (go_at_call 30; refine HF2.out.mono ?_) | fail)
    rintro e w1 ⟨rfl, hb1⟩
    have d0 := HBL.out.1.below hb1 HBL.out.1.lt
    have d1 := HBL.out.2.1.below hb1 HBL.out.2.1.lt
    have d2 := HBL.out.2.2.below hb1 HBL.out.2.2.lt
    have hg1 := HBW.out.trans (hb1.mono HBW.out.size)
    have c00 := fun o => (d0.alloc o).at 0 rfl
    have c01 := fun o => (d0.alloc o).at 1 rfl
    have c02 := fun o => (d0.alloc o).at 2 rfl
    have c03 := fun o => (d0.alloc o).at 3 rfl
    have c04 := fun o => (d0.alloc o).at 4 rfl
    have c05 := fun o => (d0.alloc o).at 5 rfl
    have KK1 := fun o => K1.out (w1.alloc o) ((d1.alloc o).at 0 rfl) ((d2.alloc o).at 0 rfl)
    have KK2 := fun o => K2.out (w1.alloc o) ((d1.alloc o).at 0 rfl) ((d2.alloc o).at 0 rfl)
    have KK3 := fun o => K3.out (w1.alloc o) (Grow.trans hg1 (Grow.alloc w1 o))
    have M1 := Lib.hid KK1
    have M2 := Lib.hid KK2
    have M3 := Lib.hid KK3
    have HG := Lib.hid (fun o => (Grow.trans hg1 (Grow.alloc w1 o) : Grow w (w1.alloc o)))
    clear KK1 KK2 KK3 d0 d1 d2 hg1 hb1
    cases p with
    | false =>
      go_wp2_with (first | (go_at_call 91; (with_reducible refine (M1.out _ _ (by simp)).mono ?_); rintro e w3 ⟨rfl, rfl⟩) | fail)
      go_ret
      exact ⟨by rw [HRQ.out]; rfl, HG.out _⟩
    | true =>
      cases q with
      | false =>
        go_wp2_with (first
          | (go_at_call 91; (with_reducible refine (M1.out _ _ (by simp)).mono ?_); rintro e w3 ⟨rfl, rfl⟩)
          | (go_at_call 91; (with_reducible refine (M2.out _ _ (by simp)).mono ?_); rintro e w3 ⟨rfl, rfl⟩)
          | fail)
        go_ret
        exact ⟨by rw [HRQ.out]; rfl, HG.out _⟩
      | true =>
        go_wp2_with (first
          | (go_at_call 91; (with_reducible refine (M1.out _ _ (by simp)).mono ?_); rintro e w3 ⟨rfl, rfl⟩)
          | (go_at_call 91; (with_reducible refine (M2.out _ _ (by simp)).mono ?_); rintro e w3 ⟨rfl, rfl⟩)
          | (go_at_call 92; (with_reducible refine (M3.out _ _ (by simp)).mono ?_); rintro e w3 ⟨rfl, hb3⟩)
          | fail)
        go_ret
        rename_i w3 hb3
        exact ⟨by rw [HRQ.out]; simp, (HG.out _).trans hb3⟩
end Go.Proofs.YtofpcdjoljjnoaaGreatDoor

namespace Go.Proofs.YtofpcdjoljjnoaaGreatDoor
open Go.RowKit Go.Maps

/-- A key: what a step is. -/
structure Ky where
  op : Nat
  a : Int
  b : Int
  t : List UInt8
  deriving DecidableEq
def kyV (k : Ky) : Value := .agg #[.int .u8 (k.op : Int), .int .i64 k.a, .int .i64 k.b, .string (mk k.t)]
def KyOK (k : Ky) : Prop := k.op < 256 ∧ I64 k.a ∧ I64 k.b ∧ k.t.length ≤ 1048576

set_option maxRecDepth 100000
theorem laidOutK : laidOutB Tryz.prog = true := by kernel_rfl
theorem typesK : 2 ≤ Tryz.prog.types.size := of_decide_eq_true (by kernel_rfl)
theorem deepK : Tryz.prog.keyTypeAt 3 111 = true := by kernel_rfl
theorem deepK2 : Tryz.prog.keyType 111 = true := by kernel_rfl
theorem rowK : 111 < Tryz.prog.types.size := of_decide_eq_true (by kernel_rfl)
theorem wideK : (match Tryz.prog.underlying 111 with | some (.array _ _) | some (.struct _) => true | _ => false) = true := by kernel_rfl
theorem lawK : Go.WideMaps.KeyLaw Tryz.prog 111 := deep_law_laid laidOutK (m := 3) (by omega) rowK deepK wideK
theorem keyedK : Keyed Tryz.prog 111 := Keyed.of_law lawK
theorem cellsK : Tryz.prog.cellsOf 111 = 4 := by kernel_rfl
theorem cellsU : Tryz.prog.cellsOf 5 = 1 := by kernel_rfl
theorem cellsI : Tryz.prog.cellsOf 3 = 1 := by kernel_rfl
theorem cellsS : Tryz.prog.cellsOf 9 = 1 := by kernel_rfl

theorem keyOf_four {P : Program} {k a b c : TypeId} {f0 f1 f2 f3 : Field} {fs : Array Field} (hk : P.underlying k = some (.struct fs)) (hfs : fs.toList = [f0, f1, f2, f3]) (h0 : f0.type = a) (h1 : f1.type = b) (h2 : f2.type = b) (h3 : f3.type = c)
    (o0 : f0.offset = 0) (o1 : f1.offset = 1) (o2 : f2.offset = 2) (o3 : f3.offset = 3) (n0 : (f0.name != "_") = true) (n1 : (f1.name != "_") = true) (n2 : (f2.name != "_") = true) (n3 : (f3.name != "_") = true)
    (ha : P.underlying a = some (.int .u8)) (hb : P.underlying b = some (.int .i64)) (hc : P.underlying c = some .string) (ck : P.cellsOf k = 4) (ca : P.cellsOf a = 1) (cb : P.cellsOf b = 1) (cc : P.cellsOf c = 1) (hkt : P.keyType k = true) (hn : 2 ≤ P.types.size)
    {x : Ky} (hx : KyOK x) : ∃ l, keyOf P k (kyV x) = some l := by
  obtain ⟨n, hn⟩ : ∃ n, P.types.size = n + 2 := ⟨P.types.size - 2, by omega⟩
  obtain ⟨hop, ⟨a1, a2⟩, ⟨b1, b2⟩, ht⟩ := hx
  have w0 : (Lit.int .u8 (x.op : Int)).wf = true := by
    simp [Lit.wf, IntKind.min, IntKind.max, IntKind.signed, IntKind.bits]; omega
  have w1 : (Lit.int .i64 x.a).wf = true := by
    simp [Lit.wf, IntKind.min, IntKind.max, IntKind.signed, IntKind.bits]; omega
  have w2 : (Lit.int .i64 x.b).wf = true := by
    simp [Lit.wf, IntKind.min, IntKind.max, IntKind.signed, IntKind.bits]; omega
  have w3 : (mk x.t).size ≤ maxLen := by rw [mk_size]; unfold maxLen; omega
  have hall : fs.all (fun f => f.name != "_") = true := by
    rw [← Array.all_toList, hfs]; simp only [List.all_cons, List.all_nil, n0, n1, n2, n3, Bool.and_self]
  unfold keyOf
  rw [hk]
  have e0 : Value.formed P k (kyV x) = true := by simp [kyV, Value.formed, hk, ck]
  have e1 : P.keyLits (n + 2) a [.int .u8 (x.op : Int)] = some [.int .u8 (x.op : Int)] := by simp [Program.keyLits, ha, w0]
  have e2 : P.keyLits (n + 2) b [.int .i64 x.a] = some [.int .i64 x.a] := by simp [Program.keyLits, hb, w1]
  have e3 : P.keyLits (n + 2) b [.int .i64 x.b] = some [.int .i64 x.b] := by simp [Program.keyLits, hb, w2]
  have e4 : P.keyLits (n + 2) c [.string (mk x.t)] = some [.string (mk x.t).data.toList] := by simp [Program.keyLits, hc, w3]
  have e5 : P.keyLits (n + 2 + 1) k [.int .u8 (x.op : Int), .int .i64 x.a, .int .i64 x.b, .string (mk x.t)] = some [.int .u8 (x.op : Int), .int .i64 x.a, .int .i64 x.b, .string (mk x.t).data.toList] := by
    unfold Program.keyLits
    simp only [hk]
    simp [ck, hall, hfs, h0, h1, h2, h3, o0, o1, o2, o3, ca, cb, cc, e1, e2, e3, e4]
  rw [hn]
  unfold kyV at e0 ⊢
  simp [hkt, e0, Value.cells, e5]
theorem key_reads {x : Ky} (hx : KyOK x) : ∃ l, keyOf Tryz.prog 111 (kyV x) = some l :=
  keyOf_four Tryz.underlying111 rfl rfl rfl rfl rfl rfl rfl rfl rfl (by decide) (by decide) (by decide) (by decide) Tryz.underlying5 Tryz.underlying3 Tryz.underlying9 cellsK cellsU cellsI cellsS deepK2 typesK hx
theorem zeroI (w : World) : (zeroValue 3).run Tryz.prog w = .ok (.int .i64 0) w := by kernel_rfl
theorem kyV_inj {x y : Ky} (h : kyV x = kyV y) : x = y := by
  unfold kyV at h
  obtain ⟨op, a, b, t⟩ := x
  obtain ⟨op', a', b', t'⟩ := y
  simp only [Value.agg.injEq, Array.mk.injEq, List.cons.injEq, Value.int.injEq, true_and, Value.string.injEq, and_true] at h
  obtain ⟨h1, h2, h3, h4⟩ := h
  have h5 : t = t' := by
    have := congrArg ByteArray.toList h4
    rwa [mk_toL, mk_toL] at this
  have h6 : op = op' := by omega
  rw [h6, h2, h3, h5]

/-- A map's block: the keys of a row of steps, each with its place. -/
def MapIn (w : World) (b : Nat) (L : List Ky) : Prop :=
  ∃ es clock, w.heap[b]? = some (.map es clock) ∧ es.toList.map (fun e => (e.key, e.val)) = L.zipIdx.map (fun x => (kyV x.1, .int .i64 ((x.2 : Nat) : Int))) ∧ ∀ x ∈ L, KyOK x
theorem MapIn.made (w : World) : MapIn (w.alloc (.map #[] 0)) w.heap.size [] := ⟨#[], 0, World.alloc_heap_new w _, rfl, by simp⟩
theorem MapIn.lt {w : World} {b : Nat} {L : List Ky} (h : MapIn w b L) : b < w.heap.size := by
  obtain ⟨es, clock, hb, _⟩ := h
  exact (Array.getElem?_eq_some_iff.1 hb).1
theorem MapIn.of_block {w w' : World} {b : Nat} {L : List Ky} (h : MapIn w b L) (e : w'.heap[b]? = w.heap[b]?) : MapIn w' b L := by
  obtain ⟨es, clock, hb, h2⟩ := h
  exact ⟨es, clock, e.trans hb, h2⟩
theorem MapIn.keys {es : Array MapEntry} {L : List Ky} (h : es.toList.map (fun e => (e.key, e.val)) = L.zipIdx.map (fun x => (kyV x.1, .int .i64 ((x.2 : Nat) : Int)))) (hs : ∀ x ∈ L, KyOK x) :
    ∀ e ∈ es.toList, ∃ l, keyOf Tryz.prog 111 e.key = some l := by
  intro e he
  have : (e.key, e.val) ∈ L.zipIdx.map (fun x => (kyV x.1, Value.int .i64 ((x.2 : Nat) : Int))) := by rw [← h]; exact List.mem_map.2 ⟨e, he, rfl⟩
  obtain ⟨x, hx, hxe⟩ := List.mem_map.1 this
  have e9 := congrArg Prod.fst hxe
  dsimp only at e9
  rw [← e9]
  exact key_reads (hs x.1 (List.fst_mem_of_mem_zipIdx hx))

/-- Where a key is. -/
def kyAt (L : List Ky) (k : Ky) : Option Nat := L.findIdx? (· == k)

/-- What is found. -/
theorem MapIn.look {w : World} {b : Nat} {L : List Ky} (h : MapIn w b L) (hd : L.Nodup) {k : Ky} (hk : KyOK k) :
    (Instr.lookup 84 (.map (some b)) (kyV k) true).run Tryz.prog w = .ok (match kyAt L k with | some i => .tuple #[.int .i64 ((i : Nat) : Int), .bool true] | none => .tuple #[.int .i64 0, .bool false]) w := by
  obtain ⟨es, clock, hb, hL, hs⟩ := h
  obtain ⟨l, hkey⟩ := key_reads hk
  have hz := zeroI w
  rcases keyedK.find w hkey es.toList (MapIn.keys hL hs) with ⟨h1, h2⟩ | ⟨j, e0, h1, h2, h3⟩
  · have hf : kyAt L k = none := by
      unfold kyAt
      rw [List.findIdx?_eq_none_iff]
      intro x hx
      obtain ⟨i, hi⟩ := List.mem_iff_getElem?.1 hx
      have hm : (x, i) ∈ L.zipIdx := by
        rw [List.mem_iff_getElem?]
        exact ⟨i, by simp [List.getElem?_zipIdx, hi]⟩
      have : (kyV x, Value.int .i64 ((i : Nat) : Int)) ∈ es.toList.map (fun e => (e.key, e.val)) := by rw [hL]; exact List.mem_map.2 ⟨_, hm, rfl⟩
      obtain ⟨e, he, hee⟩ := List.mem_map.1 this
      have e9 := congrArg Prod.fst hee
      dsimp only at e9
      have hne := h2 e he
      rw [e9] at hne
      simp only [beq_eq_false_iff_ne, ne_eq]
      exact fun hxk => hne (by rw [hxk])
    rw [hf]
    simp [Instr.lookup, run_underlying Tryz.underlying84, MapKept.run_getObj_map hb, keyedK.check w _ hkey, h1, hz, Result.andThen]
  · have hf : ∃ i, kyAt L k = some i ∧ e0.val = .int .i64 ((i : Nat) : Int) := by
      have h9 : (es.toList.map (fun e => (e.key, e.val)))[j]? = some (e0.key, e0.val) := by rw [List.getElem?_map, h2]; rfl
      rw [hL, List.getElem?_map, List.getElem?_zipIdx] at h9
      cases hx : L[j]? with
      | none => rw [hx] at h9; simp at h9
      | some x =>
        rw [hx] at h9
        simp at h9
        have hxk : x = k := kyV_inj (h9.1.trans h3)
        refine ⟨j, ?_, h9.2.symm⟩
        unfold kyAt
        rw [List.findIdx?_eq_some_iff_getElem]
        have hj := (List.getElem?_eq_some_iff.1 hx).1
        have hj2 := (List.getElem?_eq_some_iff.1 hx).2
        refine ⟨hj, by rw [hj2, hxk]; simp, fun i hi => ?_⟩
        simp only [beq_eq_false_iff_ne, ne_eq, Bool.not_eq_true]
        intro hc
        have hcj : L[i] = L[j] := by rw [hj2, hxk]; simpa using hc
        have hd' := hd
        unfold List.Nodup at hd'
        rw [List.pairwise_iff_getElem] at hd'
        exact hd' i j (by omega) hj hi hcj
    obtain ⟨i, hi, hv⟩ := hf
    rw [hi]
    simp [Instr.lookup, run_underlying Tryz.underlying84, MapKept.run_getObj_map hb, keyedK.check w _ hkey, h1, hv, Result.andThen]

/-- What is put. -/
theorem MapIn.put {w : World} {b : Nat} {L : List Ky} (h : MapIn w b L) {k : Ky} (hk : KyOK k) (hn : k ∉ L) :
    ∃ w', (Instr.mapUpdate 84 (.map (some b)) (kyV k) (.int .i64 (L.length : Int))).run Tryz.prog w = .ok () w' ∧ MapIn w' b (L ++ [k]) ∧ w.grownBy w' (some b) ∧ w'.heap.size = w.heap.size := by
  obtain ⟨es, clock, hb, hL, hs⟩ := h
  obtain ⟨l, hkey⟩ := key_reads hk
  rcases keyedK.find w hkey es.toList (MapIn.keys hL hs) with ⟨h1, h2⟩ | ⟨j, e0, h1, h2, h3⟩
  · refine ⟨ChangeMaps.setBlock w b (.map (es.push ⟨kyV k, .int .i64 (L.length : Int), clock⟩) (clock + 1)), ?_, ⟨es.push ⟨kyV k, .int .i64 (L.length : Int), clock⟩, clock + 1, ChangeMaps.heap_setBlock_same hb _, ?_, ?_⟩, ⟨rfl, rfl, rfl, by simp [ChangeMaps.setBlock], fun i _ hi => ChangeMaps.heap_setBlock_other hb _ (fun e => hi (by rw [e]))⟩, by simp [ChangeMaps.setBlock]⟩
    · simp [Instr.mapUpdate, run_underlying Tryz.underlying84, MapKept.run_getObj_map hb, keyedK.check w false hkey, h1, MapKept.run_setObj_map _ hb, Result.andThen, ChangeMaps.setBlock]
    · rw [Array.toList_push, List.map_append, hL, List.zipIdx_append, List.map_append]
      simp
    · intro x hx
      rcases List.mem_append.1 hx with h | h
      · exact hs x h
      · rw [List.mem_singleton.1 h]; exact hk
  · exfalso
    have hm : e0 ∈ es.toList := List.mem_of_getElem? h2
    have : (e0.key, e0.val) ∈ L.zipIdx.map (fun x => (kyV x.1, Value.int .i64 ((x.2 : Nat) : Int))) := by rw [← hL]; exact List.mem_map.2 ⟨e0, hm, rfl⟩
    obtain ⟨x, hx, hxe⟩ := List.mem_map.1 this
    have e9 := congrArg Prod.fst hxe
    dsimp only at e9
    have e1 : kyV x.1 = kyV k := e9.trans h3
    exact hn (by rw [← kyV_inj e1]; exact List.fst_mem_of_mem_zipIdx hx)
end Go.Proofs.YtofpcdjoljjnoaaGreatDoor

namespace Go.Proofs.YtofpcdjoljjnoaaGreatDoor
open Go.RowKit

/-- A step's cells. -/
def ndCells (x : Nd) (vn vd : Value) : List Value := [.int .u8 (x.op : Int), .int .i64 x.a, .int .i64 x.b, .bool x.c.s, vn, vd]
/-- A row of steps that may be read. -/
def NdsAt (K : Nat) (w : World) (A : Option Addr) (L : List Nd) : Prop :=
  ∀ i x, L[i]? = some x → ∃ b off vn vd, A = some ⟨b, off, none⟩ ∧ (∀ j v, (ndCells x vn vd)[j]? = some v → w.cell? ⟨b, off + i * 6 + j, none⟩ = some v) ∧ NdOK K w x vn vd
/-- A row of tells that may be read. -/
def TlsAt (w : World) (A : Option Addr) (T : List (List UInt8 × Int)) : Prop :=
  ∀ i x, T[i]? = some x → I64 x.2 ∧ ∃ b off, A = some ⟨b, off, none⟩ ∧ w.cell? ⟨b, off + i * 2, none⟩ = some (.string (mk x.1)) ∧ w.cell? ⟨b, off + i * 2 + 1, none⟩ = some (.int .i64 x.2)
theorem NdsAt.grow {K : Nat} {w w' : World} {A : Option Addr} {L : List Nd} (h : NdsAt K w A L) (hg : Grow w w') : NdsAt K w' A L := fun i x hx => by
  obtain ⟨b, off, vn, vd, h1, h2, h3, h4, h5, h6⟩ := h i x hx
  refine ⟨b, off, vn, vd, h1, fun j v hv => ?_, h3, h4, h5, h6.grow hg⟩
  have hb := World.block_lt_of_cell? w _ (h2 0 _ rfl)
  exact (hg.cell (p := ⟨b, off + i * 6 + j, none⟩) hb).trans (h2 j v hv)
theorem TlsAt.grow {w w' : World} {A : Option Addr} {T : List (List UInt8 × Int)} (h : TlsAt w A T) (hg : Grow w w') : TlsAt w' A T := fun i x hx => by
  obtain ⟨h0, b, off, h1, h2, h3⟩ := h i x hx
  have hb := World.block_lt_of_cell? w _ h2
  exact ⟨h0, b, off, h1, (hg.cell (p := ⟨b, off + i * 2, none⟩) hb).trans h2, (hg.cell (p := ⟨b, off + i * 2 + 1, none⟩) hb).trans h3⟩

/-- Are the first of them valid, each behind the elder ones? -/
def stepsB (pars : Int) : Nat → List Nd → Bool
  | _, [] => true
  | k, x :: l => stepB x (k : Int) pars && stepsB pars (k + 1) l
theorem stepsB_take {pars : Int} : ∀ {L : List Nd} {k i : Nat} {x : Nd}, L[i]? = some x → stepsB pars k (L.take (i + 1)) = (stepsB pars k (L.take i) && stepB x ((k + i : Nat) : Int) pars)
  | [], _, _, _, h => by simp at h
  | y :: L, k, 0, x, h => by
    simp at h
    subst h
    simp [stepsB]
  | y :: L, k, i + 1, x, h => by
    have := stepsB_take (pars := pars) (k := k + 1) (L := L) (i := i) (x := x) (by simpa using h)
    simp only [List.take_succ_cons, stepsB, this, Bool.and_assoc, show k + 1 + i = k + (i + 1) by omega]
theorem stepsB_false {pars : Int} : ∀ {L : List Nd} {k i : Nat}, stepsB pars k (L.take i) = false → stepsB pars k L = false
  | [], _, _, h => by simpa using h
  | y :: L, k, 0, h => by simp [stepsB] at h
  | y :: L, k, i + 1, h => by
    simp only [List.take_succ_cons, stepsB] at h ⊢
    rcases Bool.and_eq_false_iff.1 h with h | h
    · rw [h]; rfl
    · rw [stepsB_false h, Bool.and_false]

def AreRel (pars : Int) (L : List Nd) (w : World) (i : Value) (wr : World) : Prop := ∃ k : Nat, k ≤ L.length ∧ i = .int .i64 (k : Int) ∧ stepsB pars 0 (L.take k) = true ∧ Below w.heap.size w wr

set_option maxHeartbeats 2000000 in
theorem aresteps_any {K : Nat} {w : World} (A : Option Addr) (cap : Nat) (L : List Nd) (pars : Int) (hl : L.length ≤ 1099511627776) (h : NdsAt K w A L) (hK : K ≤ 137438953472) (hp : I64 pars) (ht : Tab w) :
    Calls Tryz.prog 51 #[.slice A L.length cap, .int .i64 pars] w (Just (.bool (decide (L.length ≤ 20000) && stepsB pars 0 L)) w) := by
  obtain ⟨N, hN⟩ : ∃ N, N = L.length := ⟨_, rfl⟩
  have HN := Lib.hid hN
  have H := Lib.hid h
  have HT := Lib.hid ht
  have HP := Lib.hid hp
  rw [← hN] at hl ⊢
  clear h ht hp hN
  by_cases hbig : N ≤ 20000
  · have hbi : ¬ ((20000 : Int) < (N : Int)) := by omega
    rw [decide_eq_true hbig, Bool.true_and]
    go_enter Tryz.func51, Tryz.ntmps51
    go_wp2_with fail
    go_loopw [12] (fun i wr => AreRel pars L w i wr) (fun i _ => N - (intOf i).toNat)
    case atStart => exact ⟨0, by omega, rfl, rfl, Below.refl _ _⟩
    case round =>
      obtain ⟨k, hk, rfl, hv, hb⟩ := hrel
      have HB := Lib.hid hb
      have HV := Lib.hid hv
      have hkN : k ≤ N := by rw [HN.out]; exact hk
      clear hk hv hb
      by_cases hlt : k < N
      · obtain ⟨x, hx⟩ : ∃ x, L[k]? = some x := ⟨_, List.getElem?_eq_getElem (by have := HN.out; omega)⟩
        have HX := Lib.hid hx
        obtain ⟨b, off, vn, vd, rfl, hc, hok⟩ := H.out.grow HB.out k x hx
        have c0 := hc 0 _ rfl
        have c1 := hc 1 _ rfl
        have c2 := hc 2 _ rfl
        have c3 := hc 3 _ rfl
        have c4 := hc 4 _ rfl
        have c5 := hc 5 _ rfl
        rw [Nat.add_zero] at c0
        have hltI : (k : Int) < (N : Int) := by omega
        have hgrow : Grow wr (wr.alloc (.cells #[.int .u8 (x.op : Int), .int .i64 x.a, .int .i64 x.b, .bool x.c.s, vn, vd] 71)) := Grow.alloc _ _
        have hok2 : NdOK K (wr.alloc (.cells #[.int .u8 (x.op : Int), .int .i64 x.a, .int .i64 x.b, .bool x.c.s, vn, vd] 71)) x vn vd := ⟨hok.1, hok.2.1, hok.2.2.1, hok.2.2.2.grow hgrow⟩
        have hcall := isstep_any (steps := (k : Int)) (pars := pars) hok2 hK (by constructor <;> omega) HP.out ((HT.out.grow HB.out).grow hgrow)
        unfold ndV at hcall
        obtain ⟨r, hr⟩ : ∃ r, r = stepB x (k : Int) pars := ⟨_, rfl⟩
        rw [← hr] at hcall
        have HC := Lib.hid hcall
        have HG := Lib.hid (Grow.trans HB.out hgrow)
        have HST := Lib.hid (stepsB_take (pars := pars) (k := 0) hx)
        have HR := Lib.hid hr
        obtain ⟨⟨na, ca, rfl, _, _, _, _⟩, ⟨nd, cd, rfl, _, _, _, _⟩, _⟩ := hok.2.2.2
        clear hc hok hok2 hcall hgrow hr hx
        cases r with
        | true =>
          have HT1 : Hid (stepsB pars 0 (L.take (k + 1)) = true) := Lib.hid (by rw [HST.out, HV.out, Nat.zero_add, ← HR.out]; rfl)
          go_wp2_with (first | (go_at_call 68; refine HC.out.mono ?_; rintro e w3 ⟨rfl, hb3⟩; have HG3 := Lib.hid (HG.out.trans hb3); clear hb3) | fail)
          go_roundw
          case rel => exact ⟨k + 1, by have := HN.out; omega, by go_num, HT1.out, HG3.out⟩
          case measure => simp [intOf]; omega
        | false =>
          have HF : Hid (stepsB pars 0 L = false) := Lib.hid (stepsB_false (i := k + 1) (by rw [HST.out, Nat.zero_add, ← HR.out, Bool.and_false]))
          go_wp2_with (first | (go_at_call 68; refine HC.out.mono ?_; rintro e w3 ⟨rfl, hb3⟩; have HG3 := Lib.hid (HG.out.trans hb3); clear hb3) | fail)
          go_ret
          exact ⟨by rw [HF.out]; rfl, HG3.out⟩
      · obtain rfl : k = N := by omega
        have HE : Hid (stepsB pars 0 L = true) := Lib.hid (by
          have h1 := HV.out
          rw [List.take_of_length_le (by have := HN.out; omega)] at h1
          exact h1)
        go_wp2_with fail
        go_ret
        exact ⟨by rw [HE.out]; rfl, HB.out⟩
  · have hbi : (20000 : Int) < (N : Int) := by omega
    rw [decide_eq_false hbig, Bool.false_and]
    go_enter Tryz.func51, Tryz.ntmps51
    go_wp2_with fail
    go_ret
    exact ⟨rfl, Below.refl _ _⟩

/-- Are all tells among so many steps? -/
def tellsB (steps : Int) (T : List (List UInt8 × Int)) : Bool := T.all fun x => decide (0 ≤ x.2) && decide (x.2 < steps)
theorem tellsB_take {steps : Int} : ∀ {T : List (List UInt8 × Int)} {i : Nat} {x : List UInt8 × Int}, T[i]? = some x → tellsB steps (T.take (i + 1)) = (tellsB steps (T.take i) && (decide (0 ≤ x.2) && decide (x.2 < steps)))
  | [], _, _, h => by simp at h
  | y :: T, 0, x, h => by
    simp at h
    subst h
    simp [tellsB]
  | y :: T, i + 1, x, h => by
    have := tellsB_take (steps := steps) (T := T) (i := i) (x := x) (by simpa using h)
    simp only [tellsB, List.take_succ_cons, List.all_cons] at this ⊢
    rw [this]; simp [Bool.and_assoc]
theorem tellsB_false {steps : Int} {T : List (List UInt8 × Int)} {i : Nat} (h : tellsB steps (T.take i) = false) : tellsB steps T = false := by
  unfold tellsB at h ⊢
  rw [List.all_eq_false] at h ⊢
  obtain ⟨x, hx, hf⟩ := h
  exact ⟨x, List.mem_of_mem_take hx, hf⟩

def ExRel (steps : Int) (T : List (List UInt8 × Int)) (w : World) (i : Value) (wr : World) : Prop := ∃ k : Nat, k ≤ T.length ∧ i = .int .i64 (k : Int) ∧ tellsB steps (T.take k) = true ∧ Below w.heap.size w wr

set_option maxHeartbeats 2000000 in
theorem exist_any {w : World} (A : Option Addr) (cap : Nat) (T : List (List UInt8 × Int)) (steps out : Int) (hl : T.length ≤ 1099511627776) (h : TlsAt w A T) (hs : I64 steps) (ho : I64 out) :
    Calls Tryz.prog 46 #[.int .i64 steps, .int .i64 out, .slice A T.length cap] w (Just (.bool (tellsB steps T && (decide (0 ≤ out) && decide (out < steps)))) w) := by
  obtain ⟨N, hN⟩ : ∃ N, N = T.length := ⟨_, rfl⟩
  have HN := Lib.hid hN
  have H := Lib.hid h
  have HI := Lib.hid (And.intro hs ho)
  rw [← hN] at hl ⊢
  clear h hs ho hN
  obtain ⟨r, hr⟩ : ∃ r, r = (tellsB steps T && (decide (0 ≤ out) && decide (out < steps))) := ⟨_, rfl⟩
  have HR := Lib.hid hr
  rw [← hr]
  clear hr
  go_enter Tryz.func46, Tryz.ntmps46
  go_wp2_with fail
  go_loopw [11] (fun i wr => ExRel steps T w i wr) (fun i _ => N - (intOf i).toNat)
  case atStart => exact ⟨0, by omega, rfl, rfl, Below.refl _ _⟩
  case round =>
    obtain ⟨k, hk, rfl, hv, hb⟩ := hrel
    have HB := Lib.hid hb
    have HV := Lib.hid hv
    have hkN : k ≤ N := by rw [HN.out]; exact hk
    clear hk hv hb
    by_cases hlt : k < N
    · obtain ⟨x, hx⟩ : ∃ x, T[k]? = some x := ⟨_, List.getElem?_eq_getElem (by have := HN.out; omega)⟩
      obtain ⟨hx2, b, off, rfl, c0, c1⟩ := H.out.grow HB.out k x hx
      have HX2 := Lib.hid hx2
      have hltI : (k : Int) < (N : Int) := by omega
      obtain ⟨p, hp⟩ : ∃ p, p = (decide (0 ≤ x.2) && decide (x.2 < steps)) := ⟨_, rfl⟩
      have hcall := fun W => isindex_any x.2 steps W HX2.out HI.out.1
      rw [← hp] at hcall
      have HC := Lib.hid hcall
      have HST := Lib.hid (tellsB_take (steps := steps) hx)
      have HP := Lib.hid hp
      have HG := Lib.hid (fun o => (Grow.trans HB.out (Grow.alloc wr o) : Grow w (wr.alloc o)))
      clear hcall hp hx hx2
      cases p with
      | true =>
        have HT1 : Hid (tellsB steps (T.take (k + 1)) = true) := Lib.hid (by rw [HST.out, HV.out, ← HP.out]; rfl)
        go_wp2_with (first | (go_at_call 69; refine (HC.out _).mono ?_; rintro e w3 ⟨rfl, rfl⟩) | fail)
        go_roundw
        case rel => exact ⟨k + 1, by have := HN.out; omega, by go_num, HT1.out, HG.out _⟩
        case measure => simp [intOf]; omega
      | false =>
        have HF : Hid (r = false) := Lib.hid (by rw [HR.out, tellsB_false (i := k + 1) (by rw [HST.out, ← HP.out, Bool.and_false]), Bool.false_and])
        go_wp2_with (first | (go_at_call 69; refine (HC.out _).mono ?_; rintro e w3 ⟨rfl, rfl⟩) | fail)
        go_ret
        exact ⟨by rw [HF.out]; rfl, HG.out _⟩
    · obtain rfl : k = N := by omega
      have HE : Hid (r = (decide (0 ≤ out) && decide (out < steps))) := Lib.hid (by
        have h1 := HV.out
        rw [List.take_of_length_le (by have := HN.out; omega)] at h1
        rw [HR.out, h1, Bool.true_and])
      have hcall := fun W => isindex_any out steps W HI.out.2 HI.out.1
      rw [← HE.out] at hcall
      have HC := Lib.hid hcall
      clear hcall
      go_wp2_with (first | (go_at_call 69; refine (HC.out _).mono ?_; rintro e w3 ⟨rfl, rfl⟩) | fail)
      go_ret
      exact ⟨rfl, HB.out⟩

/-- A tape. -/
structure Tp where
  pars : Int
  out : Int
  nodes : List Nd
  tells : List (List UInt8 × Int)
/-- A tape as a value. -/
def tpV (t : Tp) (vn vt : Value) : Value := .agg #[.int .i64 t.pars, .int .i64 t.out, vn, vt]
/-- A tape that may be read. -/
def TpAt (K : Nat) (w : World) (t : Tp) (vn vt : Value) : Prop :=
  I64 t.pars ∧ I64 t.out ∧ t.nodes.length ≤ 1099511627776 ∧ t.tells.length ≤ 1099511627776 ∧ ∃ A ca B cb, vn = .slice A t.nodes.length ca ∧ vt = .slice B t.tells.length cb ∧ NdsAt K w A t.nodes ∧ TlsAt w B t.tells
theorem TpAt.grow {K : Nat} {w w' : World} {t : Tp} {vn vt : Value} (h : TpAt K w t vn vt) (hg : Grow w w') : TpAt K w' t vn vt := by
  obtain ⟨h1, h2, h3, h4, A, ca, B, cb, h5, h6, h7, h8⟩ := h
  exact ⟨h1, h2, h3, h4, A, ca, B, cb, h5, h6, h7.grow hg, h8.grow hg⟩
/-- Is a tape valid? -/
def validB (t : Tp) : Bool := (((decide (0 ≤ t.pars) && decide (t.pars ≤ 200)) && (decide (t.nodes.length ≤ 20000) && stepsB t.pars 0 t.nodes)) && (tellsB (t.nodes.length : Int) t.tells && (decide (0 ≤ t.out) && decide (t.out < (t.nodes.length : Int)))))

set_option maxRecDepth 100000 in
set_option maxHeartbeats 2000000 in
theorem isvalid_any {K : Nat} {w : World} {t : Tp} {vn vt : Value} (h : TpAt K w t vn vt) (hK : K ≤ 137438953472) (ht : Tab w) :
    Calls Tryz.prog 28 #[tpV t vn vt] w (Just (.bool (validB t)) w) := by
  obtain ⟨hp, ho, hnl, htl, A, ca, B, cb, rfl, rfl, hn, htt⟩ := h
  obtain ⟨pars, out, L, T⟩ := t
  unfold tpV
  dsimp only at *
  obtain ⟨W1, hW1⟩ : ∃ W1, W1 = w.alloc (.cells #[.int .i64 pars, .int .i64 out, .slice A L.length ca, .slice B T.length cb] 25) := ⟨_, rfl⟩
  have b0 : BlkOf W1 w.heap.size #[.int .i64 pars, .int .i64 out, .slice A L.length ca, .slice B T.length cb] 25 := by rw [hW1]; exact BlkOf.new w _ _
  have hbw : Grow w W1 := by rw [hW1]; exact Grow.alloc w _
  have hA := aresteps_any A ca L pars hnl (hn.grow hbw) hK hp (ht.grow hbw)
  have hE := fun W (hW : Grow w W) => exist_any (w := W) B cb T (L.length : Int) out htl (htt.grow hW) (by constructor <;> omega) ho
  obtain ⟨r, hr⟩ : ∃ r, r = validB ⟨pars, out, L, T⟩ := ⟨_, rfl⟩
  rw [← hr]
  unfold validB at hr
  dsimp only at hr
  obtain ⟨p, hp'⟩ : ∃ p, p = (decide (L.length ≤ 20000) && stepsB pars 0 L) := ⟨_, rfl⟩
  obtain ⟨q, hq'⟩ : ∃ q, q = (tellsB (L.length : Int) T && (decide (0 ≤ out) && decide (out < (L.length : Int)))) := ⟨_, rfl⟩
  rw [← hp'] at hA hr
  rw [← hq'] at hE hr
  have HA := Lib.hid hA
  have HE := Lib.hid hE
  have HR := Lib.hid hr
  have HB := Lib.hid b0
  have HBW := Lib.hid hbw
  obtain ⟨N, hN⟩ : ∃ N, N = L.length := ⟨_, rfl⟩
  have hNI : (N : Int) ≤ 1099511627776 := by omega
  rw [← hN] at HA HE HB hW1 ⊢
  have HA := Lib.hid HA.out
  have HE := Lib.hid HE.out
  have HB := Lib.hid HB.out
  subst hW1
  clear hA hE hr hp' hq' b0 hbw hn htt hN
  have hcase : (0 ≤ pars ∧ pars ≤ 200) ∨ (0 ≤ pars ∧ ¬ pars ≤ 200) ∨ ¬ 0 ≤ pars := by omega
  obtain ⟨hp1, hp2⟩ := hp
  rcases hcase with ⟨h1, h2⟩ | ⟨h1, h2⟩ | h1
  · have HRR : Hid (r = (p && q)) := Lib.hid (by rw [HR.out, decide_eq_true h1, decide_eq_true h2]; rfl)
    have d1 : decide (0 ≤ pars) = true := by simp [h1]
    have d2 : decide (pars ≤ 200) = true := by simp [h2]
    cases p with
    | false =>
      go_enter Tryz.func28, Tryz.ntmps28
      go_wp2_with (first | (go_at_call 51; refine HA.out.mono ?_; rintro e w3 ⟨rfl, hb3⟩; have HG3 := Lib.hid (HBW.out.trans hb3); clear hb3) | fail)
      go_ret
      exact ⟨by rw [HRR.out]; rfl, HG3.out⟩
    | true =>
      go_enter Tryz.func28, Tryz.ntmps28
      go_wp2_with (first | (go_at_call 51; refine HA.out.mono ?_) | fail)
      rintro e w3 ⟨rfl, hb3⟩
      have HG3 := Lib.hid (HBW.out.trans hb3)
      have b3 := HB.out.below hb3 HB.out.lt
      have c0 := b3.at 0 rfl
      have c1 := b3.at 1 rfl
      have c2 := b3.at 2 rfl
      have c3 := b3.at 3 rfl
      clear hb3
      go_wp2_with (first | (go_at_call 46; refine (HE.out _ HG3.out).mono ?_; rintro e w4 ⟨rfl, hb4⟩; have HG4 := Lib.hid (HG3.out.trans hb4); clear hb4) | fail)
      go_ret
      exact ⟨by rw [HRR.out]; simp, HG4.out⟩
  · have HRF : Hid (r = false) := Lib.hid (by rw [HR.out, decide_eq_false h2, Bool.and_false]; rfl)
    have d1 : decide (0 ≤ pars) = true := by simp [h1]
    have d2 : decide (pars ≤ 200) = false := by simp; omega
    go_enter Tryz.func28, Tryz.ntmps28
    go_wp2_with fail
    go_ret
    exact ⟨by rw [HRF.out]; simp, HBW.out⟩
  · have HRF : Hid (r = false) := Lib.hid (by rw [HR.out, decide_eq_false h1, Bool.false_and]; rfl)
    have d1 : decide (0 ≤ pars) = false := by simp; omega
    go_enter Tryz.func28, Tryz.ntmps28
    go_wp2_with fail
    go_ret
    exact ⟨by rw [HRF.out]; simp, HBW.out⟩

set_option maxRecDepth 100000 in
set_option maxHeartbeats 1000000 in
theorem check_any {K : Nat} {w : World} {t : Tp} {vn vt : Value} (h : TpAt K w t vn vt) (hK : K ≤ 137438953472) (ht : Tab w) :
    Calls Tryz.prog 9 #[tpV t vn vt] w (Just (.int .i64 (if validB t then 0 else 170)) w) := by
  have hv := fun W (hW : Grow w W) => isvalid_any (h.grow hW) hK (ht.grow hW)
  obtain ⟨hp, ho, hnl, htl, A, ca, B, cb, rfl, rfl, hn, htt⟩ := h
  unfold tpV at *
  obtain ⟨r, hr⟩ : ∃ r, r = validB t := ⟨_, rfl⟩
  rw [← hr] at hv ⊢
  have HV := Lib.hid hv
  have HG := Lib.hid (fun o => Grow.alloc w o)
  clear hv hr hn htt
  cases r with
  | true =>
    rw [if_pos rfl]
    go_enter Tryz.func9, Tryz.ntmps9
    go_wp2_with (first | (go_at_call 28; refine (HV.out _ (HG.out _)).mono ?_; rintro e w3 ⟨rfl, hb3⟩; have HG3 := Lib.hid ((HG.out _).trans hb3); clear hb3) | fail)
    go_ret
    exact ⟨rfl, HG3.out⟩
  | false =>
    rw [if_neg (by simp)]
    go_enter Tryz.func9, Tryz.ntmps9
    go_wp2_with (first | (go_at_call 28; refine (HV.out _ (HG.out _)).mono ?_; rintro e w3 ⟨rfl, hb3⟩; have HG3 := Lib.hid ((HG.out _).trans hb3); clear hb3) | fail)
    go_ret
    exact ⟨rfl, HG3.out⟩
end Go.Proofs.YtofpcdjoljjnoaaGreatDoor

namespace Go.Proofs.YtofpcdjoljjnoaaGreatDoor
open Go.RowKit

theorem NRow.by_form {B : Nat} {w : World} {v : Value} {L : List Nat} {G : Prop} (h : NRow B w v L) (k : ∀ A cap, v = .slice A L.length cap → NRow B w (.slice A L.length cap) L → G) : G := by
  obtain ⟨A, cap, rfl, _, _, _⟩ := h.at_
  exact k A cap rfl h

section
variable {w : World}

set_option maxRecDepth 100000 in
set_option maxHeartbeats 2000000 in
theorem zof_any (n : Nat) (w : World) (hn : n ≤ 9223372036854775807) :
    Calls Tryz.prog 49 #[.int .i64 (n : Int)] w (fun e w' => ∃ x c, e = .returned (.agg #[.bool false, .slice x (nrow n).length c]) ∧ NRow w.heap.size w' (.slice x (nrow n).length c) (nrow n) ∧ Below w.heap.size w w') := by
  obtain ⟨W1, hW1⟩ : ∃ W1, W1 = w.alloc (.cells #[.bool false, .slice none 0 0] 44) := ⟨_, rfl⟩
  have b0 : BlkOf W1 w.heap.size #[.bool false, .slice none 0 0] 44 := by rw [hW1]; exact BlkOf.new w _ _
  have hbw : Below w.heap.size w W1 := by rw [hW1]; exact (Below.refl _ w).alloc (Nat.le_refl _) _
  have hsz : W1.heap.size = w.heap.size + 1 := by rw [hW1]; simp
  have HO := Lib.hid (of_any n W1 (by omega))
  have HB := Lib.hid b0
  have HBW := Lib.hid hbw
  have HSZ := Lib.hid hsz
  have h0 : ¬ ((n : Int) < 0) := by omega
  subst hW1
  clear b0 hbw hsz
  go_enter Tryz.func49, Tryz.ntmps49
  go_wp2_with (first | (go_at_call 50; refine HO.out.mono ?_) | fail)
  have hsz1 := HSZ.out
  rintro e w1 ⟨v, rfl, hr, hb1⟩
  refine NRow.by_form hr fun x c ev hr => ?_
  rw [ev]
  rw [hsz1] at hr
  have hbw1 : Below w.heap.size w w1 := HBW.out.trans (hb1.mono HBW.out.size)
  have b1 := HB.out.below hb1 (by rw [hsz1]; omega)
  have hz1 : w.heap.size + 1 ≤ w1.heap.size := by have := hb1.size; omega
  have c10 := b1.at 0 rfl
  have c11 := b1.at 1 rfl
  have z10 := b1.free
  have Q1 := Lib.hid ((b1.set 0 (.bool false)).set 1 (.slice x (nrow n).length c))
  have HX := Lib.hid (NRow.more (ownsRow_setCell_below (a := ⟨w.heap.size, 1, none⟩) (ownsRow_setCell_below (a := ⟨w.heap.size, 0, none⟩) hr (by show w.heap.size < _; omega) (.bool false)) (by show w.heap.size < _; omega) (.slice x (nrow n).length c)) (Nat.le_succ _))
  have HBF := Lib.hid ((hbw1.setCell (p := ⟨w.heap.size, 0, none⟩) (Nat.le_refl _) (.bool false)).setCell (p := ⟨w.heap.size, 1, none⟩) (Nat.le_refl _) (.slice x (nrow n).length c))
  clear hr ev
  go_wp2_with fail
  refine post_cell rfl (g := w.heap.size) rfl Q1.out Tryz.underlying44 rfl (by kernel_rfl) ?_
  exact ⟨x, c, rfl, HX.out, HBF.out⟩

set_option maxRecDepth 100000 in
set_option maxHeartbeats 2000000 in
theorem fof_any (n : Nat) (w : World) (hn : n ≤ 9223372036854775807) :
    Calls Tryz.prog 27 #[.int .i64 (n : Int)] w (fun e w' => ∃ v, e = .returned v ∧ FrRow w.heap.size w' v false n 1 ∧ Below w.heap.size w w') := by
  obtain ⟨W1, hW1⟩ : ∃ W1, W1 = w.alloc (.cells #[.bool false, .slice none 0 0, .slice none 0 0] 46) := ⟨_, rfl⟩
  have b0 : BlkOf W1 w.heap.size #[.bool false, .slice none 0 0, .slice none 0 0] 46 := by rw [hW1]; exact BlkOf.new w _ _
  have hbw : Below w.heap.size w W1 := by rw [hW1]; exact (Below.refl _ w).alloc (Nat.le_refl _) _
  have hsz : W1.heap.size = w.heap.size + 1 := by rw [hW1]; simp
  have HO := Lib.hid (zof_any n W1 hn)
  have HB := Lib.hid b0
  have HBW := Lib.hid hbw
  have HSZ := Lib.hid hsz
  subst hW1
  clear b0 hbw hsz
  go_enter Tryz.func27, Tryz.ntmps27
  go_wp2_with (first | (go_at_call 49; refine HO.out.mono ?_) | fail)
  have hsz1 := HSZ.out
  rintro e w1 ⟨x, c, rfl, hr, hb1⟩
  rw [hsz1] at hr
  have hbw1 : Below w.heap.size w w1 := HBW.out.trans (hb1.mono HBW.out.size)
  have b1 := HB.out.below hb1 (by rw [hsz1]; omega)
  have hz1 : w.heap.size + 1 ≤ w1.heap.size := by have := hb1.size; omega
  have HO2 := Lib.hid (of_any 1 w1 (by omega))
  go_wp2_with (first | (go_at_call 50; refine HO2.out.mono ?_) | fail)
  rintro e w2 ⟨v, rfl, hr2, hb2⟩
  have hr' := hr.below hb2 (Nat.le_refl _)
  have hr2' := hr2.more hz1
  refine NRow.by_form hr2' fun y c2 ev hr2 => ?_
  rw [ev]
  have hbw2 : Below w.heap.size w w2 := hbw1.trans (hb2.mono hbw1.size)
  have b2 := b1.below hb2 (by omega)
  have hz2 : w.heap.size + 1 ≤ w2.heap.size := by have := hb2.size; omega
  have c10 := b2.at 0 rfl
  have c11 := b2.at 1 rfl
  have c12 := b2.at 2 rfl
  have z10 := b2.free
  have Q1 := Lib.hid (((b2.set 0 (.bool false)).set 1 (.slice x (nrow n).length c)).set 2 (.slice y (nrow 1).length c2))
  have hrow : ∀ {v : Value} {l : List Nat}, NRow (w.heap.size + 1) w2 v l → NRow w.heap.size (((w2.setCell ⟨w.heap.size, 0, none⟩ (.bool false)).setCell ⟨w.heap.size, 1, none⟩ (.slice x (nrow n).length c)).setCell ⟨w.heap.size, 2, none⟩ (.slice y (nrow 1).length c2)) v l := fun hx =>
    NRow.more (ownsRow_setCell_below (a := ⟨w.heap.size, 2, none⟩) (ownsRow_setCell_below (a := ⟨w.heap.size, 1, none⟩) (ownsRow_setCell_below (a := ⟨w.heap.size, 0, none⟩) hx (by show w.heap.size < _; omega) _) (by show w.heap.size < _; omega) _) (by show w.heap.size < _; omega) _) (Nat.le_succ _)
  have HX := Lib.hid (hrow hr')
  have HY := Lib.hid (hrow hr2)
  have HBF := Lib.hid (((hbw2.setCell (p := ⟨w.heap.size, 0, none⟩) (Nat.le_refl _) (.bool false)).setCell (p := ⟨w.heap.size, 1, none⟩) (Nat.le_refl _) (.slice x (nrow n).length c)).setCell (p := ⟨w.heap.size, 2, none⟩) (Nat.le_refl _) (.slice y (nrow 1).length c2))
  clear hr hr' hr2 hr2' ev hrow
  go_wp2_with fail
  refine post_cell rfl (g := w.heap.size) rfl Q1.out Tryz.underlying46 rfl (by kernel_rfl) ?_
  exact ⟨_, rfl, ⟨_, _, _, _, rfl, HX.out, HY.out⟩, HBF.out⟩
end
end Go.Proofs.YtofpcdjoljjnoaaGreatDoor
