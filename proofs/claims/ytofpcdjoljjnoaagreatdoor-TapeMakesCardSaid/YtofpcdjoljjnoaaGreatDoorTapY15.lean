/-
  The texts TapStep, TapLaid, TapValid, TapOpen, one behind the other.
-/
import Derived.Test.YtofpcdjoljjnoaaGreatDoorTapY14
import Derived.Test.YtofpcdjoljjnoaaGreatDoorTapY01
import Derived.Test.YtofpcdjoljjnoaaGreatDoorTie
import Derived.LaidMore
import Derived.Stop.Joined
import Derived.Deep.Strs
import Derived.Lib.SmallJoins

namespace Go.Proofs.YtofpcdjoljjnoaaGreatDoor
open Go.RowKit

set_option maxHeartbeats 1000000 in
theorem isnormal_any {K : Nat} {w : World} {x : Fr} {vn vd : Value} (h : FrAt K w x vn vd) (hK : K ≤ 137438953472) :
    Calls Tryz.prog 110 #[.agg #[.bool x.s, vn, vd]] w (Just (.bool (normB x)) w) := by
  obtain ⟨W1, hW1⟩ : ∃ W1, W1 = w.alloc (.cells #[.bool x.s, vn, vd] 46) := ⟨_, rfl⟩
  have b0 : BlkOf W1 w.heap.size #[.bool x.s, vn, vd] 46 := by rw [hW1]; exact BlkOf.new w _ _
  have hbw : Grow w W1 := by rw [hW1]; exact (Below.refl _ w).alloc (Nat.le_refl _) _
  have HN := Lib.hid (fnorm_any x.s (h.grow hbw).num hK)
  have HB := Lib.hid b0
  have HBW := Lib.hid hbw
  have H := Lib.hid h
  obtain ⟨⟨a, ca, rfl, _, _, _, _⟩, ⟨b, cb, rfl, _, _, _, _⟩, _⟩ := h
  obtain ⟨s, L, D⟩ := x
  dsimp only at *
  obtain ⟨p, hp⟩ : ∃ p, p = normB ⟨s, L, D⟩ := ⟨_, rfl⟩
  have HP := Lib.hid hp
  rw [← hp]
  subst hW1
  clear b0 hbw hp
  go_enter Tryz.func110, Tryz.ntmps110
  go_wp2_with (first | (go_at_call 38; refine HN.out.mono ?_) | fail)
  rintro e w1 (⟨hok, v, rfl, ⟨x, c, y, e', rfl, hx, hy⟩, hb1⟩ | ⟨hok, rfl, hb1⟩)
  · have hb0 := HB.out.below hb1 HB.out.lt
    have hbw1 : Grow w w1 := HBW.out.trans hb1
    have hpe : p = sameB ⟨rdS s (lv L), nrow (rdN (lv L) (lv D)), nrow (rdD (lv L) (lv D))⟩ ⟨s, L, D⟩ := by
      rw [HP.out]; unfold normB; dsimp only; rw [hok, Bool.true_and]
    obtain ⟨hsn, hsd, h0⟩ := okF_iff.1 hok
    have sN : (nrow (rdN (lv L) (lv D))).length ≤ 2048 := short_le (Nat.div_le_self _ _) hsn
    have sE : (nrow (rdD (lv L) (lv D))).length ≤ 2048 := short_le (Nat.div_le_self _ _) hsd
    generalize rdN (lv L) (lv D) = N at *
    generalize rdD (lv L) (lv D) = E at *
    generalize rdS s (lv L) = S at *
    unfold frV
    obtain ⟨W2, hW2⟩ : ∃ W2, W2 = w1.alloc (.cells #[.bool S, .slice x (nrow N).length c, .slice y (nrow E).length e'] 46) := ⟨_, rfl⟩
    have hg2 : Grow w1 W2 := by rw [hW2]; exact (Below.refl _ w1).alloc (Nat.le_refl _) _
    have hbw2 : Grow w W2 := Grow.trans hbw1 hg2
    have b2 := hb0.below hg2 hb0.lt
    have hfa : FrAt 2048 W2 ⟨S, nrow N, nrow E⟩ (.slice x (nrow N).length c) (.slice y (nrow E).length e') := ⟨hx.raw.grow hg2, hy.raw.grow hg2, sN, sE⟩
    have hs := issame_any hfa (H.out.grow hbw2) (by omega)
    rw [← hpe] at hs
    have HS := Lib.hid hs
    have HG := Lib.hid hbw2
    have HPE := Lib.hid hpe
    have c0 := hb0.at 0 rfl
    have c1 := hb0.at 1 rfl
    have c2 := hb0.at 2 rfl
    have c3 := b2.at 0 rfl
    have c4 := b2.at 1 rfl
    have c5 := b2.at 2 rfl
    subst hW2
    clear hs hfa hx hy hok hsn hsd h0 sN sE hpe
    go_wp2_with (first | (go_at_call 54; refine HS.out.mono ?_; rintro e w3 ⟨rfl, hb3⟩) | fail)
    go_ret
    rename_i w3 hb3
    exact ⟨by simp, HG.out.trans hb3⟩
  · have hbw1 : Grow w w1 := HBW.out.trans hb1
    have HPF : Hid (p = false) := Lib.hid (by rw [HP.out]; unfold normB; dsimp only; rw [hok, Bool.false_and])
    have HG := Lib.hid (hbw1.trans (Grow.alloc w1 (.cells #[.bool false, .slice none 0 0, .slice none 0 0] 46)))
    clear hok hb1 hbw1
    go_wp2_with fail
    go_ret
    exact ⟨by rw [HPF.out]; rfl, HG.out⟩

/-- Is C what it should be for such a field? -/
def writtenB (f : Nat) (x : Fr) : Bool := if f = 1 then normB x else sameB x ⟨false, [], []⟩

set_option maxHeartbeats 1000000 in
theorem iswritten_any {K f : Nat} {fi : Int} {w : World} {x : Fr} {vn vd : Value} (hfi : fi = (f : Int)) (h : FrAt K w x vn vd) (hK : K ≤ 137438953472) :
    Calls Tryz.prog 92 #[.int .u8 fi, .agg #[.bool x.s, vn, vd]] w (Just (.bool (writtenB f x)) w) := by
  obtain ⟨W1, hW1⟩ : ∃ W1, W1 = w.alloc (.cells #[.bool x.s, vn, vd] 46) := ⟨_, rfl⟩
  have hbw : Grow w W1 := by rw [hW1]; exact (Below.refl _ w).alloc (Nat.le_refl _) _
  have HN := Lib.hid (isnormal_any (h.grow hbw) hK)
  have HS := Lib.hid (issame_any (K' := 0) (y := ⟨false, [], []⟩) (h.grow hbw) ⟨Raw.nil _, Raw.nil _, Nat.le_refl _, Nat.le_refl _⟩ hK)
  have HBW := Lib.hid hbw
  obtain ⟨⟨a, ca, rfl, _, _, _, _⟩, ⟨b, cb, rfl, _, _, _, _⟩, _⟩ := h
  obtain ⟨s, L, D⟩ := x
  dsimp only at *
  subst hW1
  clear hbw
  subst hfi
  unfold writtenB
  by_cases h1 : f = 1
  · subst h1
    rw [if_pos rfl]
    go_enter Tryz.func92, Tryz.ntmps92
    go_wp2_with (first | (go_at_call 110; refine HN.out.mono ?_; rintro e w3 ⟨rfl, hb3⟩) | fail)
    go_ret
    rename_i w3 hb3
    exact ⟨rfl, HBW.out.trans hb3⟩
  · rw [if_neg h1]
    have hne : ¬ ((f : Int) = 1) := by omega
    have hnb : ((f : Int) == 1) = false := by simp; omega
    go_enter Tryz.func92, Tryz.ntmps92
    go_wp2_with (first | (go_at_call 54; refine HS.out.mono ?_; rintro e w3 ⟨rfl, hb3⟩) | fail)
    go_ret
    rename_i w3 hb3
    exact ⟨rfl, HBW.out.trans hb3⟩

/-- The table of the Ops' fields, three for each. -/
def fldL : List Nat := [0, 0, 0, 0, 0, 1, 2, 0, 0, 3, 3, 0, 3, 3, 0, 3, 3, 0, 3, 3, 0, 3, 0, 0, 3, 0, 0, 3, 0, 0, 3, 0, 0, 3, 0, 0]
def fld (op j : Nat) : Nat := fldL.getD (op * 3 + j) 0
/-- The table, as it lies. -/
def Tab (w : World) : Prop := ∀ i < 36, w.cell? ⟨0, i, none⟩ = some (.int .u8 ((fldL.getD i 0 : Nat) : Int))
theorem Tab.lt {w : World} (h : Tab w) : 0 < w.heap.size := World.block_lt_of_cell? w _ (h 0 (by omega))
theorem Tab.grow {w w' : World} (h : Tab w) (hg : Grow w w') : Tab w' := fun i hi => (hg.cell (p := ⟨0, i, none⟩) h.lt).trans (h i hi)
theorem fld_kinds (op : Nat) : (fld op 0 = 0 ∧ fld op 1 = 0 ∧ fld op 2 = 0) ∨ (fld op 0 = 0 ∧ fld op 1 = 0 ∧ fld op 2 = 1) ∨ (fld op 0 = 2 ∧ fld op 1 = 0 ∧ fld op 2 = 0) ∨ (fld op 0 = 3 ∧ fld op 1 = 3 ∧ fld op 2 = 0) ∨ (fld op 0 = 3 ∧ fld op 1 = 0 ∧ fld op 2 = 0) := by
  by_cases h : op < 12
  · have : ∀ op, op < 12 → ((fld op 0 = 0 ∧ fld op 1 = 0 ∧ fld op 2 = 0) ∨ (fld op 0 = 0 ∧ fld op 1 = 0 ∧ fld op 2 = 1) ∨ (fld op 0 = 2 ∧ fld op 1 = 0 ∧ fld op 2 = 0) ∨ (fld op 0 = 3 ∧ fld op 1 = 3 ∧ fld op 2 = 0) ∨ (fld op 0 = 3 ∧ fld op 1 = 0 ∧ fld op 2 = 0)) := by decide
    exact this op h
  · have hz : ∀ j, fld op j = 0 := fun j => by
      unfold fld
      rw [List.getD_eq_getElem?_getD, List.getElem?_eq_none (by simp [fldL]; omega)]
      rfl
    exact .inl ⟨hz 0, hz 1, hz 2⟩
theorem fld_none {op : Nat} (h : 12 ≤ op) (j : Nat) : fld op j = 0 := by
  unfold fld
  rw [List.getD_eq_getElem?_getD, List.getElem?_eq_none (by simp [fldL]; omega)]
  rfl
/-- The fields of an Op as a value. -/
def fldV (op : Nat) : Value := .agg #[.int .u8 ((fld op 0 : Nat) : Int), .int .u8 ((fld op 1 : Nat) : Int), .int .u8 ((fld op 2 : Nat) : Int)]

set_option maxHeartbeats 1000000 in
theorem fieldsof_any {w : World} (op : Nat) (hop : op < 256) (ht : Tab w) : Calls Tryz.prog 30 #[.int .u8 (op : Int)] w (Just (fldV op) w) := by
  by_cases h : op < 12
  · have htl := ht.lt
    have e0 := ht (op * 3) (by omega)
    have e1 := ht (op * 3 + 1) (by omega)
    have e2 := ht (op * 3 + 2) (by omega)
    unfold fldV
    rw [show fldL.getD (op * 3) 0 = fld op 0 from rfl] at e0
    rw [show fldL.getD (op * 3 + 1) 0 = fld op 1 from rfl] at e1
    rw [show fldL.getD (op * 3 + 2) 0 = fld op 2 from rfl] at e2
    generalize fld op 0 = p at *
    generalize fld op 1 = q at *
    generalize fld op 2 = r at *
    have hltI : (op : Int) < 12 := by omega
    clear ht
    go_enter Tryz.func30, Tryz.ntmps30
    go_wp2_with fail
    refine post_cell rfl (g := w.heap.size) rfl (BlkOf.new w _ _) Tryz.underlying76 rfl (by kernel_rfl) ?_
    exact ⟨rfl, Grow.alloc w _⟩
  · unfold fldV
    rw [fld_none (by omega) 0, fld_none (by omega) 1, fld_none (by omega) 2]
    have hltI : ¬ ((op : Int) < 12) := by omega
    clear ht
    go_enter Tryz.func30, Tryz.ntmps30
    go_wp2_with fail
    refine post_cell rfl (g := w.heap.size) rfl (BlkOf.new w _ _) Tryz.underlying76 rfl (by kernel_rfl) ?_
    exact ⟨rfl, Grow.alloc w _⟩

/-- An int. -/
abbrev I64 (i : Int) : Prop := -9223372036854775808 ≤ i ∧ i ≤ 9223372036854775807
/-- Is A or B what it should be for such a field? -/
def isB (f : Nat) (x steps pars : Int) : Bool := if f = 3 then decide (0 ≤ x) && decide (x < steps) else if f = 2 then decide (0 ≤ x) && decide (x < pars) else decide (x = 0)

set_option maxHeartbeats 1000000 in
theorem is_any {w : World} {f : Nat} {fi x steps pars : Int} {p q : Nat} (hf : fi = (f : Int)) (hx : I64 x) (hs : I64 steps) (hp : I64 pars) (c1 : w.cell? ⟨p, 0, none⟩ = some (.int .i64 steps)) (c2 : w.cell? ⟨q, 0, none⟩ = some (.int .i64 pars)) :
    Calls Tryz.prog 91 #[.int .u8 fi, .int .i64 x, .pointer (some ⟨p, 0, none⟩), .pointer (some ⟨q, 0, none⟩)] w (Same (.bool (isB f x steps pars)) w) := by
  have H1 := Lib.hid (isindex_any x steps w hx hs)
  have H2 := Lib.hid (isindex_any x pars w hx hp)
  subst hf
  unfold isB
  by_cases h3 : f = 3
  · subst h3
    rw [if_pos rfl]
    go_enter Tryz.func91, Tryz.ntmps91
    go_wp2_with (first | (go_at_call 69; refine H1.out.mono ?_; rintro e w3 ⟨rfl, rfl⟩) | fail)
    go_ret
    exact ⟨rfl, rfl⟩
  · rw [if_neg h3]
    have n3 : ¬ ((f : Int) = 3) := by omega
    by_cases h2 : f = 2
    · subst h2
      rw [if_pos rfl]
      go_enter Tryz.func91, Tryz.ntmps91
      go_wp2_with (first | (go_at_call 69; refine H2.out.mono ?_; rintro e w3 ⟨rfl, rfl⟩) | fail)
      go_ret
      exact ⟨rfl, rfl⟩
    · rw [if_neg h2]
      have n2 : ¬ ((f : Int) = 2) := by omega
      go_enter Tryz.func91, Tryz.ntmps91
      go_wp2_with fail
      go_ret
      exact ⟨by first | rfl | simp, rfl⟩

/-- A step. -/
structure Nd where
  op : Nat
  a : Int
  b : Int
  c : Fr
/-- A step as a value. -/
def ndV (x : Nd) (vn vd : Value) : Value := .agg #[.int .u8 (x.op : Int), .int .i64 x.a, .int .i64 x.b, .bool x.c.s, vn, vd]
/-- A step that may be read. -/
def NdOK (K : Nat) (w : World) (x : Nd) (vn vd : Value) : Prop := x.op < 256 ∧ I64 x.a ∧ I64 x.b ∧ FrAt K w x.c vn vd
/-- Is a step valid? -/
def stepB (x : Nd) (steps pars : Int) : Bool :=
  !(decide (fld x.op 0 = 0) && (decide (fld x.op 1 = 0) && decide (fld x.op 2 = 0))) && (isB (fld x.op 0) x.a steps pars && (isB (fld x.op 1) x.b steps pars && writtenB (fld x.op 2) x.c))

set_option maxRecDepth 100000 in
set_option maxHeartbeats 2000000 in
theorem isstep_any {K : Nat} {w : World} {x : Nd} {vn vd : Value} {steps pars : Int} (h : NdOK K w x vn vd) (hK : K ≤ 137438953472) (hs : I64 steps) (hp : I64 pars) (ht : Tab w) :
    Calls Tryz.prog 68 #[ndV x vn vd, .int .i64 steps, .int .i64 pars] w (Just (.bool (stepB x steps pars)) w) := by
  have hmf : ∀ (fn : Fn) (first cap : Array Value) (w : World), (Instr.makeFunc fn first cap).run Tryz.prog w = .ok (.func fn first cap) w := fun _ _ _ _ => rfl
  obtain ⟨op, a, b, ⟨s, L, D⟩⟩ := x
  obtain ⟨hop, ha, hb, hc⟩ := h
  unfold ndV
  dsimp only at *
  obtain ⟨W1, hW1⟩ : ∃ W1, W1 = ((w.alloc (.cells #[.int .u8 (op : Int), .int .i64 a, .int .i64 b, .bool s, vn, vd] 71)).alloc (.cells #[.int .i64 steps] 3)).alloc (.cells #[.int .i64 pars] 3) := ⟨_, rfl⟩
  obtain ⟨b0, b1, b2, hsz, hbw⟩ := three_new rfl _ _ _ _ _ _ hW1
  have HF := Lib.hid (fieldsof_any op hop (ht.grow hbw))
  have HBL := Lib.hid (And.intro b0 (And.intro b1 b2))
  have HBW := Lib.hid hbw
  have HSZ := Lib.hid hsz
  have HC := Lib.hid hc
  have HI := Lib.hid (And.intro ha (And.intro hb (And.intro hs hp)))
  obtain ⟨⟨an, cn, rfl, _, _, _, _⟩, ⟨ad, cd, rfl, _, _, _, _⟩, _⟩ := hc
  obtain ⟨r, hr⟩ : ∃ r, r = stepB ⟨op, a, b, s, L, D⟩ steps pars := ⟨_, rfl⟩
  have HR := Lib.hid hr
  rw [← hr]
  unfold fldV at HF
  have HK := fld_kinds op
  unfold stepB at hr
  dsimp only at hr HC
  generalize fld op 0 = f0 at *
  generalize fld op 1 = f1 at *
  generalize fld op 2 = f2 at *
  have HF2 := Lib.hid HF.out
  subst hW1
  clear b0 b1 b2 hsz hbw HF
  have HI1 := Lib.hid (fun (W : World) (c1 : W.cell? ⟨w.heap.size + 1, 0, none⟩ = some (.int .i64 steps)) (c2 : W.cell? ⟨w.heap.size + 1 + 1, 0, none⟩ = some (.int .i64 pars)) (fi : Int) (hfi : fi = (f0 : Int)) => is_any (f := f0) hfi ha hs hp c1 c2)
  have HI2 := Lib.hid (fun (W : World) (c1 : W.cell? ⟨w.heap.size + 1, 0, none⟩ = some (.int .i64 steps)) (c2 : W.cell? ⟨w.heap.size + 1 + 1, 0, none⟩ = some (.int .i64 pars)) (fi : Int) (hfi : fi = (f1 : Int)) => is_any (f := f1) hfi hb hs hp c1 c2)
  have HI3 := Lib.hid (fun W (hW : Grow w W) (fi : Int) (hfi : fi = (f2 : Int)) => iswritten_any (f := f2) hfi (HC.out.grow hW) hK)
  have hrr : (decide (f0 = 0) && (decide (f1 = 0) && decide (f2 = 0))) = true ∨ (decide (f0 = 0) && (decide (f1 = 0) && decide (f2 = 0))) = false ∧ r = (isB f0 a steps pars && (isB f1 b steps pars && writtenB f2 ⟨s, L, D⟩)) := by
    cases hx : (decide (f0 = 0) && (decide (f1 = 0) && decide (f2 = 0))) with
    | true => exact .inl rfl
    | false => rw [hx] at hr; exact .inr ⟨rfl, by rw [hr]; rfl⟩
  obtain ⟨p, hp'⟩ : ∃ p, p = isB f0 a steps pars := ⟨_, rfl⟩
  obtain ⟨q, hq'⟩ : ∃ q, q = isB f1 b steps pars := ⟨_, rfl⟩
  obtain ⟨t, ht'⟩ : ∃ t, t = writtenB f2 ⟨s, L, D⟩ := ⟨_, rfl⟩
  have HJ1 := HI1.out
  have HJ2 := HI2.out
  have HJ3 := HI3.out
  dsimp only at HJ3
  rw [← hp'] at HJ1 hrr
  rw [← hq'] at HJ2 hrr
  rw [← ht'] at HJ3 hrr
  have K1 := Lib.hid HJ1
  have K2 := Lib.hid HJ2
  have K3 := Lib.hid HJ3
  clear HI1 HI2 HI3 HJ1 HJ2 HJ3 hp' hq' ht'
  rcases HK with ⟨rfl, rfl, rfl⟩ | ⟨rfl, rfl, rfl⟩ | ⟨rfl, rfl, rfl⟩ | ⟨rfl, rfl, rfl⟩ | ⟨rfl, rfl, rfl⟩
  · have HRF : Hid (r = false) := Lib.hid (by rw [hr]; rfl)
    clear hr
    go_enter Tryz.func68, Tryz.ntmps68
    go_wp2_with (first | (go_at_call 30; refine HF2.out.mono ?_) | fail)
    rintro e w1 ⟨rfl, hb1⟩
    have HG := Lib.hid ((HBW.out.trans (hb1.mono HBW.out.size)).trans (Grow.alloc w1 (.cells #[.int .u8 0, .int .u8 0, .int .u8 0] 76) |>.mono (HBW.out.trans (hb1.mono HBW.out.size)).size))
    go_wp2_with fail
    go_ret
    exact ⟨by rw [HRF.out]; rfl, HG.out⟩
  all_goals
    have hrq : r = (p && (q && t)) := by
      rcases hrr with h | ⟨_, h⟩
      · exact absurd h (by decide)
      · exact h
    have HRQ := Lib.hid hrq
    clear hr hrr hrq
    go_enter Tryz.func68, Tryz.ntmps68
    go_wp2_with (first | (go_at_call 30; refine HF2.out.mono ?_) | fail)
    rintro e w1 ⟨rfl, hb1⟩
    have d0 := HBL.out.1.below hb1 HBL.out.1.lt
    have d1 := HBL.out.2.1.below hb1 HBL.out.2.1.lt
    have d2 := HBL.out.2.2.below hb1 HBL.out.2.2.lt
    have hg1 := HBW.out.trans (hb1.mono HBW.out.size)
    have c00 := fun o => (d0.alloc o).at 0 rfl
    have c01 := fun o => (d0.alloc o).at 1 rfl
    have c02 := fun o => (d0.alloc o).at 2 rfl
    have c03 := fun o => (d0.alloc o).at 3 rfl
    have c04 := fun o => (d0.alloc o).at 4 rfl
    have c05 := fun o => (d0.alloc o).at 5 rfl
    have KK1 := fun o => K1.out (w1.alloc o) ((d1.alloc o).at 0 rfl) ((d2.alloc o).at 0 rfl)
    have KK2 := fun o => K2.out (w1.alloc o) ((d1.alloc o).at 0 rfl) ((d2.alloc o).at 0 rfl)
    have KK3 := fun o => K3.out (w1.alloc o) (Grow.trans hg1 (Grow.alloc w1 o))
    have M1 := Lib.hid KK1
    have M2 := Lib.hid KK2
    have M3 := Lib.hid KK3
    have HG := Lib.hid (fun o => (Grow.trans hg1 (Grow.alloc w1 o) : Grow w (w1.alloc o)))
    clear KK1 KK2 KK3 d0 d1 d2 hg1 hb1
    cases p with
    | false =>
      go_wp2_with (first | (go_at_call 91; (with_reducible refine (M1.out _ _ (by simp)).mono ?_); rintro e w3 ⟨rfl, rfl⟩) | fail)
      go_ret
      exact ⟨by rw [HRQ.out]; rfl, HG.out _⟩
    | true =>
      cases q with
      | false =>
        go_wp2_with (first
          | (go_at_call 91; (with_reducible refine (M1.out _ _ (by simp)).mono ?_); rintro e w3 ⟨rfl, rfl⟩)
          | (go_at_call 91; (with_reducible refine (M2.out _ _ (by simp)).mono ?_); rintro e w3 ⟨rfl, rfl⟩)
          | fail)
        go_ret
        exact ⟨by rw [HRQ.out]; rfl, HG.out _⟩
      | true =>
        go_wp2_with (first
          | (go_at_call 91; (with_reducible refine (M1.out _ _ (by simp)).mono ?_); rintro e w3 ⟨rfl, rfl⟩)
          | (go_at_call 91; (with_reducible refine (M2.out _ _ (by simp)).mono ?_); rintro e w3 ⟨rfl, rfl⟩)
          | (go_at_call 92; (with_reducible refine (M3.out _ _ (by simp)).mono ?_); rintro e w3 ⟨rfl, hb3⟩)
          | fail)
        go_ret
        rename_i w3 hb3
        exact ⟨by rw [HRQ.out]; simp, (HG.out _).trans hb3⟩
end Go.Proofs.YtofpcdjoljjnoaaGreatDoor

namespace Go.Proofs.YtofpcdjoljjnoaaGreatDoor
open Go.ChangeShapes Go.WideShapes Go.ChangeAt Go.RowKit Go.Deep

theorem three_of {α : Type} {l : List α} (h : l.length = 3) : ∃ a b c, l = [a, b, c] := by
  match l, h with
  | [a, b, c], _ => exact ⟨a, b, c, rfl⟩
theorem cons_of {α : Type} {l : List α} {n : Nat} (h : l.length = n + 1) : ∃ a m, l = a :: m ∧ m.length = n := by
  match l, h with
  | a :: m, h => exact ⟨a, m, rfl, by simpa using h⟩
theorem nil_of {α : Type} {l : List α} (h : l.length = 0) : l = [] := List.eq_nil_of_length_eq_zero h
theorem all_of {α : Type} {l : List α} (h : l.length = 36) : ∃ c0 c1 c2 c3 c4 c5 c6 c7 c8 c9 c10 c11 c12 c13 c14 c15 c16 c17 c18 c19 c20 c21 c22 c23 c24 c25 c26 c27 c28 c29 c30 c31 c32 c33 c34 c35, l = [c0, c1, c2, c3, c4, c5, c6, c7, c8, c9, c10, c11, c12, c13, c14, c15, c16, c17, c18, c19, c20, c21, c22, c23, c24, c25, c26, c27, c28, c29, c30, c31, c32, c33, c34, c35] := by
  obtain ⟨a0, m0, rfl, h0⟩ := cons_of h
  obtain ⟨a1, m1, rfl, h1⟩ := cons_of h0
  obtain ⟨a2, m2, rfl, h2⟩ := cons_of h1
  obtain ⟨a3, m3, rfl, h3⟩ := cons_of h2
  obtain ⟨a4, m4, rfl, h4⟩ := cons_of h3
  obtain ⟨a5, m5, rfl, h5⟩ := cons_of h4
  obtain ⟨a6, m6, rfl, h6⟩ := cons_of h5
  obtain ⟨a7, m7, rfl, h7⟩ := cons_of h6
  obtain ⟨a8, m8, rfl, h8⟩ := cons_of h7
  obtain ⟨a9, m9, rfl, h9⟩ := cons_of h8
  obtain ⟨a10, m10, rfl, h10⟩ := cons_of h9
  obtain ⟨a11, m11, rfl, h11⟩ := cons_of h10
  obtain ⟨a12, m12, rfl, h12⟩ := cons_of h11
  obtain ⟨a13, m13, rfl, h13⟩ := cons_of h12
  obtain ⟨a14, m14, rfl, h14⟩ := cons_of h13
  obtain ⟨a15, m15, rfl, h15⟩ := cons_of h14
  obtain ⟨a16, m16, rfl, h16⟩ := cons_of h15
  obtain ⟨a17, m17, rfl, h17⟩ := cons_of h16
  obtain ⟨a18, m18, rfl, h18⟩ := cons_of h17
  obtain ⟨a19, m19, rfl, h19⟩ := cons_of h18
  obtain ⟨a20, m20, rfl, h20⟩ := cons_of h19
  obtain ⟨a21, m21, rfl, h21⟩ := cons_of h20
  obtain ⟨a22, m22, rfl, h22⟩ := cons_of h21
  obtain ⟨a23, m23, rfl, h23⟩ := cons_of h22
  obtain ⟨a24, m24, rfl, h24⟩ := cons_of h23
  obtain ⟨a25, m25, rfl, h25⟩ := cons_of h24
  obtain ⟨a26, m26, rfl, h26⟩ := cons_of h25
  obtain ⟨a27, m27, rfl, h27⟩ := cons_of h26
  obtain ⟨a28, m28, rfl, h28⟩ := cons_of h27
  obtain ⟨a29, m29, rfl, h29⟩ := cons_of h28
  obtain ⟨a30, m30, rfl, h30⟩ := cons_of h29
  obtain ⟨a31, m31, rfl, h31⟩ := cons_of h30
  obtain ⟨a32, m32, rfl, h32⟩ := cons_of h31
  obtain ⟨a33, m33, rfl, h33⟩ := cons_of h32
  obtain ⟨a34, m34, rfl, h34⟩ := cons_of h33
  obtain ⟨a35, m35, rfl, h35⟩ := cons_of h34
  obtain rfl := nil_of h35
  exact ⟨a0, a1, a2, a3, a4, a5, a6, a7, a8, a9, a10, a11, a12, a13, a14, a15, a16, a17, a18, a19, a20, a21, a22, a23, a24, a25, a26, a27, a28, a29, a30, a31, a32, a33, a34, a35, rfl⟩

theorem gFields : Tryz.prog.globalNamed "stepstone/tape.fieldsByOp" = some 0 := by kernel_rfl
theorem tFields : (Tryz.prog.globals[0]?).map (·.type) = some 102 := by kernel_rfl
theorem cFields : Tryz.prog.cellsOf 102 = 36 := by kernel_rfl
theorem cField3 : Tryz.prog.cellsOf 76 = 3 := by kernel_rfl
theorem cField1 : Tryz.prog.cellsOf 73 = 1 := by kernel_rfl
theorem int_of_trod {H : Type} {enc : TypeId × Value → H} {P : Program} {w : World} {base : Nat} {sp : Nat → Bool} {held : Bool} {fuel : Nat} {t : TypeId} {k : IntKind} {c : Value} {y : DataW H × List MemPlace}
    (ht : P.underlying t = some (.int k)) (h : DataW.trod enc P w base sp held fuel t [c] = some y) : ∃ n, c = .int k n ∧ y = (.lit (.int k n), []) := by
  cases fuel with
  | zero => simp [DataW.trod] at h
  | succ fuel =>
    cases c <;> simp [DataW.trod, ht] at h
    rename_i k' n
    obtain ⟨⟨rfl, _⟩, rfl⟩ := h
    exact ⟨n, rfl, rfl⟩
theorem fields_of_trod {H : Type} {enc : TypeId × Value → H} {w : World} {base : Nat} {sp : Nat → Bool} {held : Bool} {n : Nat} {cs : List Value} {y : DataW H × List MemPlace}
    (h : DataW.trod enc Tryz.prog w base sp held n 76 cs = some y) : ∃ a b c, cs = [.int .u8 a, .int .u8 b, .int .u8 c] ∧ y = (.agg [.lit (.int .u8 a), .lit (.int .u8 b), .lit (.int .u8 c)], []) := by
  obtain ⟨y0, y1, y2, m, rfl, hl, t0, t1, t2⟩ := trod_struct3 Tryz.underlying76 h
  rw [cField3] at hl
  obtain ⟨c0, c1, c2, rfl⟩ := three_of hl
  simp only [cField1, List.drop_zero, List.take_succ_cons, List.take_zero, List.drop_succ_cons] at t0 t1 t2
  obtain ⟨a, rfl, rfl⟩ := int_of_trod Tryz.underlying73 t0
  obtain ⟨b, rfl, rfl⟩ := int_of_trod Tryz.underlying73 t1
  obtain ⟨c, rfl, rfl⟩ := int_of_trod Tryz.underlying73 t2
  exact ⟨a, b, c, rfl, rfl⟩

set_option maxRecDepth 100000 in
set_option maxHeartbeats 4000000 in
theorem cells_of_laid {W : World} (h : laidMet Tryz.prog [("stepstone/tape.fieldsByOp", Rows.laid_stepstone_tape_fieldsByOp)] W) : W.var? Tryz.prog "stepstone/tape.fieldsByOp" = some (fldL.map fun n : Nat => Value.int .u8 (n : Int)).toArray := by
  obtain ⟨ps, ⟨g, t, cs, fuel, p, q, hg, ht, hvar, hd, _, _⟩, _⟩ := h
  obtain rfl := Option.some.inj (gFields.symm.trans hg)
  obtain rfl := Option.some.inj (tFields.symm.trans ht)
  rw [hvar]
  congr 1
  obtain ⟨l⟩ := cs
  cases fuel with
  | zero => simp [DataW.trod] at hd
  | succ fuel =>
    simp only [DataW.trod, Tryz.underlying102, cFields, cField3] at hd
    split at hd
    · rename_i hl
      obtain ⟨c0, c1, c2, c3, c4, c5, c6, c7, c8, c9, c10, c11, c12, c13, c14, c15, c16, c17, c18, c19, c20, c21, c22, c23, c24, c25, c26, c27, c28, c29, c30, c31, c32, c33, c34, c35, rfl⟩ := all_of hl
      have e : List.range 12 = [0, 1, 2, 3, 4, 5, 6, 7, 8, 9, 10, 11] := rfl
      rw [e] at hd
      simp only [Option.map_eq_some_iff, List.mapM_cons, List.mapM_nil, Option.bind_eq_bind, Option.bind_eq_some_iff, Option.pure_def, Option.some.injEq, List.drop_zero, Nat.zero_mul, Nat.one_mul, Nat.reduceMul, List.take_succ_cons, List.take_zero, List.drop_succ_cons] at hd
      obtain ⟨xs, ⟨y0, h0, _, ⟨y1, h1, _, ⟨y2, h2, _, ⟨y3, h3, _, ⟨y4, h4, _, ⟨y5, h5, _, ⟨y6, h6, _, ⟨y7, h7, _, ⟨y8, h8, _, ⟨y9, h9, _, ⟨y10, h10, _, ⟨y11, h11, _, rfl, rfl⟩, rfl⟩, rfl⟩, rfl⟩, rfl⟩, rfl⟩, rfl⟩, rfl⟩, rfl⟩, rfl⟩, rfl⟩, rfl⟩, hx⟩ := hd
      obtain ⟨a0, b0, d0, e0, rfl⟩ := fields_of_trod h0
      simp only [List.cons.injEq, and_true] at e0
      obtain ⟨rfl, rfl, rfl⟩ := e0
      obtain ⟨a1, b1, d1, e1, rfl⟩ := fields_of_trod h1
      simp only [List.cons.injEq, and_true] at e1
      obtain ⟨rfl, rfl, rfl⟩ := e1
      obtain ⟨a2, b2, d2, e2, rfl⟩ := fields_of_trod h2
      simp only [List.cons.injEq, and_true] at e2
      obtain ⟨rfl, rfl, rfl⟩ := e2
      obtain ⟨a3, b3, d3, e3, rfl⟩ := fields_of_trod h3
      simp only [List.cons.injEq, and_true] at e3
      obtain ⟨rfl, rfl, rfl⟩ := e3
      obtain ⟨a4, b4, d4, e4, rfl⟩ := fields_of_trod h4
      simp only [List.cons.injEq, and_true] at e4
      obtain ⟨rfl, rfl, rfl⟩ := e4
      obtain ⟨a5, b5, d5, e5, rfl⟩ := fields_of_trod h5
      simp only [List.cons.injEq, and_true] at e5
      obtain ⟨rfl, rfl, rfl⟩ := e5
      obtain ⟨a6, b6, d6, e6, rfl⟩ := fields_of_trod h6
      simp only [List.cons.injEq, and_true] at e6
      obtain ⟨rfl, rfl, rfl⟩ := e6
      obtain ⟨a7, b7, d7, e7, rfl⟩ := fields_of_trod h7
      simp only [List.cons.injEq, and_true] at e7
      obtain ⟨rfl, rfl, rfl⟩ := e7
      obtain ⟨a8, b8, d8, e8, rfl⟩ := fields_of_trod h8
      simp only [List.cons.injEq, and_true] at e8
      obtain ⟨rfl, rfl, rfl⟩ := e8
      obtain ⟨a9, b9, d9, e9, rfl⟩ := fields_of_trod h9
      simp only [List.cons.injEq, and_true] at e9
      obtain ⟨rfl, rfl, rfl⟩ := e9
      obtain ⟨a10, b10, d10, e10, rfl⟩ := fields_of_trod h10
      simp only [List.cons.injEq, and_true] at e10
      obtain ⟨rfl, rfl, rfl⟩ := e10
      obtain ⟨a11, b11, d11, e11, rfl⟩ := fields_of_trod h11
      simp only [List.cons.injEq, and_true] at e11
      obtain ⟨rfl, rfl, rfl⟩ := e11
      simp [Rows.laid_stepstone_tape_fieldsByOp] at hx
      obtain ⟨hx, _⟩ := hx
      simp [hx, fldL]
    · cases hd

/-- What the condition gives the walks. -/
theorem tab_of_laid {W : World} (h : laidMetH Tryz.prog [("stepstone/tape.fieldsByOp", Rows.laid_stepstone_tape_fieldsByOp)] W) : Tab W := by
  rw [MakeChecks.laidMetH_plain _ _ _ (by kernel_rfl)] at h
  have hv := cells_of_laid h
  intro i hi
  rw [World.var?_cell gFields hv i]
  have hl : fldL.length = 36 := rfl
  simp [List.getD_eq_getElem?_getD, List.getElem?_eq_getElem (show i < fldL.length by omega)]

/-- The program's own start meets the condition. -/
theorem door_met (os : Os) (args : Array Value) : laidMetH Tryz.prog [("stepstone/tape.fieldsByOp", Rows.laid_stepstone_tape_fieldsByOp)] ((World.doorLaid Tryz.prog 400 os).forCall (fun _ _ => 0) ⟨#[], args, []⟩).memory :=
  laidMetH_of_parts3 (fuel := 8) (laidMet_of_run' 8 (by kernel_rfl) (by kernel_rfl)) (by kernel_rfl) (by kernel_rfl)
end Go.Proofs.YtofpcdjoljjnoaaGreatDoor

namespace Go.Proofs.YtofpcdjoljjnoaaGreatDoor
open Go.RowKit

/-- A step's cells. -/
def ndCells (x : Nd) (vn vd : Value) : List Value := [.int .u8 (x.op : Int), .int .i64 x.a, .int .i64 x.b, .bool x.c.s, vn, vd]
/-- A row of steps that may be read. -/
def NdsAt (K : Nat) (w : World) (A : Option Addr) (L : List Nd) : Prop :=
  ∀ i x, L[i]? = some x → ∃ b off vn vd, A = some ⟨b, off, none⟩ ∧ (∀ j v, (ndCells x vn vd)[j]? = some v → w.cell? ⟨b, off + i * 6 + j, none⟩ = some v) ∧ NdOK K w x vn vd
/-- A row of tells that may be read. -/
def TlsAt (w : World) (A : Option Addr) (T : List (List UInt8 × Int)) : Prop :=
  ∀ i x, T[i]? = some x → I64 x.2 ∧ ∃ b off, A = some ⟨b, off, none⟩ ∧ w.cell? ⟨b, off + i * 2, none⟩ = some (.string (mk x.1)) ∧ w.cell? ⟨b, off + i * 2 + 1, none⟩ = some (.int .i64 x.2)
theorem NdsAt.grow {K : Nat} {w w' : World} {A : Option Addr} {L : List Nd} (h : NdsAt K w A L) (hg : Grow w w') : NdsAt K w' A L := fun i x hx => by
  obtain ⟨b, off, vn, vd, h1, h2, h3, h4, h5, h6⟩ := h i x hx
  refine ⟨b, off, vn, vd, h1, fun j v hv => ?_, h3, h4, h5, h6.grow hg⟩
  have hb := World.block_lt_of_cell? w _ (h2 0 _ rfl)
  exact (hg.cell (p := ⟨b, off + i * 6 + j, none⟩) hb).trans (h2 j v hv)
theorem TlsAt.grow {w w' : World} {A : Option Addr} {T : List (List UInt8 × Int)} (h : TlsAt w A T) (hg : Grow w w') : TlsAt w' A T := fun i x hx => by
  obtain ⟨h0, b, off, h1, h2, h3⟩ := h i x hx
  have hb := World.block_lt_of_cell? w _ h2
  exact ⟨h0, b, off, h1, (hg.cell (p := ⟨b, off + i * 2, none⟩) hb).trans h2, (hg.cell (p := ⟨b, off + i * 2 + 1, none⟩) hb).trans h3⟩

/-- Are the first of them valid, each behind the elder ones? -/
def stepsB (pars : Int) : Nat → List Nd → Bool
  | _, [] => true
  | k, x :: l => stepB x (k : Int) pars && stepsB pars (k + 1) l
theorem stepsB_take {pars : Int} : ∀ {L : List Nd} {k i : Nat} {x : Nd}, L[i]? = some x → stepsB pars k (L.take (i + 1)) = (stepsB pars k (L.take i) && stepB x ((k + i : Nat) : Int) pars)
  | [], _, _, _, h => by simp at h
  | y :: L, k, 0, x, h => by
    simp at h
    subst h
    simp [stepsB]
  | y :: L, k, i + 1, x, h => by
    have := stepsB_take (pars := pars) (k := k + 1) (L := L) (i := i) (x := x) (by simpa using h)
    simp only [List.take_succ_cons, stepsB, this, Bool.and_assoc, show k + 1 + i = k + (i + 1) by omega]
theorem stepsB_false {pars : Int} : ∀ {L : List Nd} {k i : Nat}, stepsB pars k (L.take i) = false → stepsB pars k L = false
  | [], _, _, h => by simpa using h
  | y :: L, k, 0, h => by simp [stepsB] at h
  | y :: L, k, i + 1, h => by
    simp only [List.take_succ_cons, stepsB] at h ⊢
    rcases Bool.and_eq_false_iff.1 h with h | h
    · rw [h]; rfl
    · rw [stepsB_false h, Bool.and_false]

def AreRel (pars : Int) (L : List Nd) (w : World) (i : Value) (wr : World) : Prop := ∃ k : Nat, k ≤ L.length ∧ i = .int .i64 (k : Int) ∧ stepsB pars 0 (L.take k) = true ∧ Below w.heap.size w wr

set_option maxHeartbeats 2000000 in
theorem aresteps_any {K : Nat} {w : World} (A : Option Addr) (cap : Nat) (L : List Nd) (pars : Int) (hl : L.length ≤ 1099511627776) (h : NdsAt K w A L) (hK : K ≤ 137438953472) (hp : I64 pars) (ht : Tab w) :
    Calls Tryz.prog 51 #[.slice A L.length cap, .int .i64 pars] w (Just (.bool (decide (L.length ≤ 20000) && stepsB pars 0 L)) w) := by
  obtain ⟨N, hN⟩ : ∃ N, N = L.length := ⟨_, rfl⟩
  have HN := Lib.hid hN
  have H := Lib.hid h
  have HT := Lib.hid ht
  have HP := Lib.hid hp
  rw [← hN] at hl ⊢
  clear h ht hp hN
  by_cases hbig : N ≤ 20000
  · have hbi : ¬ ((20000 : Int) < (N : Int)) := by omega
    rw [decide_eq_true hbig, Bool.true_and]
    go_enter Tryz.func51, Tryz.ntmps51
    go_wp2_with fail
    go_loopw [12] (fun i wr => AreRel pars L w i wr) (fun i _ => N - (intOf i).toNat)
    case atStart => exact ⟨0, by omega, rfl, rfl, Below.refl _ _⟩
    case round =>
      obtain ⟨k, hk, rfl, hv, hb⟩ := hrel
      have HB := Lib.hid hb
      have HV := Lib.hid hv
      have hkN : k ≤ N := by rw [HN.out]; exact hk
      clear hk hv hb
      by_cases hlt : k < N
      · obtain ⟨x, hx⟩ : ∃ x, L[k]? = some x := ⟨_, List.getElem?_eq_getElem (by have := HN.out; omega)⟩
        have HX := Lib.hid hx
        obtain ⟨b, off, vn, vd, rfl, hc, hok⟩ := H.out.grow HB.out k x hx
        have c0 := hc 0 _ rfl
        have c1 := hc 1 _ rfl
        have c2 := hc 2 _ rfl
        have c3 := hc 3 _ rfl
        have c4 := hc 4 _ rfl
        have c5 := hc 5 _ rfl
        rw [Nat.add_zero] at c0
        have hltI : (k : Int) < (N : Int) := by omega
        have hgrow : Grow wr (wr.alloc (.cells #[.int .u8 (x.op : Int), .int .i64 x.a, .int .i64 x.b, .bool x.c.s, vn, vd] 71)) := Grow.alloc _ _
        have hok2 : NdOK K (wr.alloc (.cells #[.int .u8 (x.op : Int), .int .i64 x.a, .int .i64 x.b, .bool x.c.s, vn, vd] 71)) x vn vd := ⟨hok.1, hok.2.1, hok.2.2.1, hok.2.2.2.grow hgrow⟩
        have hcall := isstep_any (steps := (k : Int)) (pars := pars) hok2 hK (by constructor <;> omega) HP.out ((HT.out.grow HB.out).grow hgrow)
        unfold ndV at hcall
        obtain ⟨r, hr⟩ : ∃ r, r = stepB x (k : Int) pars := ⟨_, rfl⟩
        rw [← hr] at hcall
        have HC := Lib.hid hcall
        have HG := Lib.hid (Grow.trans HB.out hgrow)
        have HST := Lib.hid (stepsB_take (pars := pars) (k := 0) hx)
        have HR := Lib.hid hr
        obtain ⟨⟨na, ca, rfl, _, _, _, _⟩, ⟨nd, cd, rfl, _, _, _, _⟩, _⟩ := hok.2.2.2
        clear hc hok hok2 hcall hgrow hr hx
        cases r with
        | true =>
          have HT1 : Hid (stepsB pars 0 (L.take (k + 1)) = true) := Lib.hid (by rw [HST.out, HV.out, Nat.zero_add, ← HR.out]; rfl)
          go_wp2_with (first | (go_at_call 68; refine HC.out.mono ?_; rintro e w3 ⟨rfl, hb3⟩; have HG3 := Lib.hid (HG.out.trans hb3); clear hb3) | fail)
          go_roundw
          case rel => exact ⟨k + 1, by have := HN.out; omega, by go_num, HT1.out, HG3.out⟩
          case measure => simp [intOf]; omega
        | false =>
          have HF : Hid (stepsB pars 0 L = false) := Lib.hid (stepsB_false (i := k + 1) (by rw [HST.out, Nat.zero_add, ← HR.out, Bool.and_false]))
          go_wp2_with (first | (go_at_call 68; refine HC.out.mono ?_; rintro e w3 ⟨rfl, hb3⟩; have HG3 := Lib.hid (HG.out.trans hb3); clear hb3) | fail)
          go_ret
          exact ⟨by rw [HF.out]; rfl, HG3.out⟩
      · obtain rfl : k = N := by omega
        have HE : Hid (stepsB pars 0 L = true) := Lib.hid (by
          have h1 := HV.out
          rw [List.take_of_length_le (by have := HN.out; omega)] at h1
          exact h1)
        go_wp2_with fail
        go_ret
        exact ⟨by rw [HE.out]; rfl, HB.out⟩
  · have hbi : (20000 : Int) < (N : Int) := by omega
    rw [decide_eq_false hbig, Bool.false_and]
    go_enter Tryz.func51, Tryz.ntmps51
    go_wp2_with fail
    go_ret
    exact ⟨rfl, Below.refl _ _⟩

/-- Are all tells among so many steps? -/
def tellsB (steps : Int) (T : List (List UInt8 × Int)) : Bool := T.all fun x => decide (0 ≤ x.2) && decide (x.2 < steps)
theorem tellsB_take {steps : Int} : ∀ {T : List (List UInt8 × Int)} {i : Nat} {x : List UInt8 × Int}, T[i]? = some x → tellsB steps (T.take (i + 1)) = (tellsB steps (T.take i) && (decide (0 ≤ x.2) && decide (x.2 < steps)))
  | [], _, _, h => by simp at h
  | y :: T, 0, x, h => by
    simp at h
    subst h
    simp [tellsB]
  | y :: T, i + 1, x, h => by
    have := tellsB_take (steps := steps) (T := T) (i := i) (x := x) (by simpa using h)
    simp only [tellsB, List.take_succ_cons, List.all_cons] at this ⊢
    rw [this]; simp [Bool.and_assoc]
theorem tellsB_false {steps : Int} {T : List (List UInt8 × Int)} {i : Nat} (h : tellsB steps (T.take i) = false) : tellsB steps T = false := by
  unfold tellsB at h ⊢
  rw [List.all_eq_false] at h ⊢
  obtain ⟨x, hx, hf⟩ := h
  exact ⟨x, List.mem_of_mem_take hx, hf⟩

def ExRel (steps : Int) (T : List (List UInt8 × Int)) (w : World) (i : Value) (wr : World) : Prop := ∃ k : Nat, k ≤ T.length ∧ i = .int .i64 (k : Int) ∧ tellsB steps (T.take k) = true ∧ Below w.heap.size w wr

set_option maxHeartbeats 2000000 in
theorem exist_any {w : World} (A : Option Addr) (cap : Nat) (T : List (List UInt8 × Int)) (steps out : Int) (hl : T.length ≤ 1099511627776) (h : TlsAt w A T) (hs : I64 steps) (ho : I64 out) :
    Calls Tryz.prog 46 #[.int .i64 steps, .int .i64 out, .slice A T.length cap] w (Just (.bool (tellsB steps T && (decide (0 ≤ out) && decide (out < steps)))) w) := by
  obtain ⟨N, hN⟩ : ∃ N, N = T.length := ⟨_, rfl⟩
  have HN := Lib.hid hN
  have H := Lib.hid h
  have HI := Lib.hid (And.intro hs ho)
  rw [← hN] at hl ⊢
  clear h hs ho hN
  obtain ⟨r, hr⟩ : ∃ r, r = (tellsB steps T && (decide (0 ≤ out) && decide (out < steps))) := ⟨_, rfl⟩
  have HR := Lib.hid hr
  rw [← hr]
  clear hr
  go_enter Tryz.func46, Tryz.ntmps46
  go_wp2_with fail
  go_loopw [11] (fun i wr => ExRel steps T w i wr) (fun i _ => N - (intOf i).toNat)
  case atStart => exact ⟨0, by omega, rfl, rfl, Below.refl _ _⟩
  case round =>
    obtain ⟨k, hk, rfl, hv, hb⟩ := hrel
    have HB := Lib.hid hb
    have HV := Lib.hid hv
    have hkN : k ≤ N := by rw [HN.out]; exact hk
    clear hk hv hb
    by_cases hlt : k < N
    · obtain ⟨x, hx⟩ : ∃ x, T[k]? = some x := ⟨_, List.getElem?_eq_getElem (by have := HN.out; omega)⟩
      obtain ⟨hx2, b, off, rfl, c0, c1⟩ := H.out.grow HB.out k x hx
      have HX2 := Lib.hid hx2
      have hltI : (k : Int) < (N : Int) := by omega
      obtain ⟨p, hp⟩ : ∃ p, p = (decide (0 ≤ x.2) && decide (x.2 < steps)) := ⟨_, rfl⟩
      have hcall := fun W => isindex_any x.2 steps W HX2.out HI.out.1
      rw [← hp] at hcall
      have HC := Lib.hid hcall
      have HST := Lib.hid (tellsB_take (steps := steps) hx)
      have HP := Lib.hid hp
      have HG := Lib.hid (fun o => (Grow.trans HB.out (Grow.alloc wr o) : Grow w (wr.alloc o)))
      clear hcall hp hx hx2
      cases p with
      | true =>
        have HT1 : Hid (tellsB steps (T.take (k + 1)) = true) := Lib.hid (by rw [HST.out, HV.out, ← HP.out]; rfl)
        go_wp2_with (first | (go_at_call 69; refine (HC.out _).mono ?_; rintro e w3 ⟨rfl, rfl⟩) | fail)
        go_roundw
        case rel => exact ⟨k + 1, by have := HN.out; omega, by go_num, HT1.out, HG.out _⟩
        case measure => simp [intOf]; omega
      | false =>
        have HF : Hid (r = false) := Lib.hid (by rw [HR.out, tellsB_false (i := k + 1) (by rw [HST.out, ← HP.out, Bool.and_false]), Bool.false_and])
        go_wp2_with (first | (go_at_call 69; refine (HC.out _).mono ?_; rintro e w3 ⟨rfl, rfl⟩) | fail)
        go_ret
        exact ⟨by rw [HF.out]; rfl, HG.out _⟩
    · obtain rfl : k = N := by omega
      have HE : Hid (r = (decide (0 ≤ out) && decide (out < steps))) := Lib.hid (by
        have h1 := HV.out
        rw [List.take_of_length_le (by have := HN.out; omega)] at h1
        rw [HR.out, h1, Bool.true_and])
      have hcall := fun W => isindex_any out steps W HI.out.2 HI.out.1
      rw [← HE.out] at hcall
      have HC := Lib.hid hcall
      clear hcall
      go_wp2_with (first | (go_at_call 69; refine (HC.out _).mono ?_; rintro e w3 ⟨rfl, rfl⟩) | fail)
      go_ret
      exact ⟨rfl, HB.out⟩

/-- A tape. -/
structure Tp where
  pars : Int
  out : Int
  nodes : List Nd
  tells : List (List UInt8 × Int)
/-- A tape as a value. -/
def tpV (t : Tp) (vn vt : Value) : Value := .agg #[.int .i64 t.pars, .int .i64 t.out, vn, vt]
/-- A tape that may be read. -/
def TpAt (K : Nat) (w : World) (t : Tp) (vn vt : Value) : Prop :=
  I64 t.pars ∧ I64 t.out ∧ t.nodes.length ≤ 1099511627776 ∧ t.tells.length ≤ 1099511627776 ∧ ∃ A ca B cb, vn = .slice A t.nodes.length ca ∧ vt = .slice B t.tells.length cb ∧ NdsAt K w A t.nodes ∧ TlsAt w B t.tells
theorem TpAt.grow {K : Nat} {w w' : World} {t : Tp} {vn vt : Value} (h : TpAt K w t vn vt) (hg : Grow w w') : TpAt K w' t vn vt := by
  obtain ⟨h1, h2, h3, h4, A, ca, B, cb, h5, h6, h7, h8⟩ := h
  exact ⟨h1, h2, h3, h4, A, ca, B, cb, h5, h6, h7.grow hg, h8.grow hg⟩
/-- Is a tape valid? -/
def validB (t : Tp) : Bool := (((decide (0 ≤ t.pars) && decide (t.pars ≤ 200)) && (decide (t.nodes.length ≤ 20000) && stepsB t.pars 0 t.nodes)) && (tellsB (t.nodes.length : Int) t.tells && (decide (0 ≤ t.out) && decide (t.out < (t.nodes.length : Int)))))

set_option maxRecDepth 100000 in
set_option maxHeartbeats 2000000 in
theorem isvalid_any {K : Nat} {w : World} {t : Tp} {vn vt : Value} (h : TpAt K w t vn vt) (hK : K ≤ 137438953472) (ht : Tab w) :
    Calls Tryz.prog 28 #[tpV t vn vt] w (Just (.bool (validB t)) w) := by
  obtain ⟨hp, ho, hnl, htl, A, ca, B, cb, rfl, rfl, hn, htt⟩ := h
  obtain ⟨pars, out, L, T⟩ := t
  unfold tpV
  dsimp only at *
  obtain ⟨W1, hW1⟩ : ∃ W1, W1 = w.alloc (.cells #[.int .i64 pars, .int .i64 out, .slice A L.length ca, .slice B T.length cb] 25) := ⟨_, rfl⟩
  have b0 : BlkOf W1 w.heap.size #[.int .i64 pars, .int .i64 out, .slice A L.length ca, .slice B T.length cb] 25 := by rw [hW1]; exact BlkOf.new w _ _
  have hbw : Grow w W1 := by rw [hW1]; exact Grow.alloc w _
  have hA := aresteps_any A ca L pars hnl (hn.grow hbw) hK hp (ht.grow hbw)
  have hE := fun W (hW : Grow w W) => exist_any (w := W) B cb T (L.length : Int) out htl (htt.grow hW) (by constructor <;> omega) ho
  obtain ⟨r, hr⟩ : ∃ r, r = validB ⟨pars, out, L, T⟩ := ⟨_, rfl⟩
  rw [← hr]
  unfold validB at hr
  dsimp only at hr
  obtain ⟨p, hp'⟩ : ∃ p, p = (decide (L.length ≤ 20000) && stepsB pars 0 L) := ⟨_, rfl⟩
  obtain ⟨q, hq'⟩ : ∃ q, q = (tellsB (L.length : Int) T && (decide (0 ≤ out) && decide (out < (L.length : Int)))) := ⟨_, rfl⟩
  rw [← hp'] at hA hr
  rw [← hq'] at hE hr
  have HA := Lib.hid hA
  have HE := Lib.hid hE
  have HR := Lib.hid hr
  have HB := Lib.hid b0
  have HBW := Lib.hid hbw
  obtain ⟨N, hN⟩ : ∃ N, N = L.length := ⟨_, rfl⟩
  have hNI : (N : Int) ≤ 1099511627776 := by omega
  rw [← hN] at HA HE HB hW1 ⊢
  have HA := Lib.hid HA.out
  have HE := Lib.hid HE.out
  have HB := Lib.hid HB.out
  subst hW1
  clear hA hE hr hp' hq' b0 hbw hn htt hN
  have hcase : (0 ≤ pars ∧ pars ≤ 200) ∨ (0 ≤ pars ∧ ¬ pars ≤ 200) ∨ ¬ 0 ≤ pars := by omega
  obtain ⟨hp1, hp2⟩ := hp
  rcases hcase with ⟨h1, h2⟩ | ⟨h1, h2⟩ | h1
  · have HRR : Hid (r = (p && q)) := Lib.hid (by rw [HR.out, decide_eq_true h1, decide_eq_true h2]; rfl)
    have d1 : decide (0 ≤ pars) = true := by simp [h1]
    have d2 : decide (pars ≤ 200) = true := by simp [h2]
    cases p with
    | false =>
      go_enter Tryz.func28, Tryz.ntmps28
      go_wp2_with (first | (go_at_call 51; refine HA.out.mono ?_; rintro e w3 ⟨rfl, hb3⟩; have HG3 := Lib.hid (HBW.out.trans hb3); clear hb3) | fail)
      go_ret
      exact ⟨by rw [HRR.out]; rfl, HG3.out⟩
    | true =>
      go_enter Tryz.func28, Tryz.ntmps28
      go_wp2_with (first | (go_at_call 51; refine HA.out.mono ?_) | fail)
      rintro e w3 ⟨rfl, hb3⟩
      have HG3 := Lib.hid (HBW.out.trans hb3)
      have b3 := HB.out.below hb3 HB.out.lt
      have c0 := b3.at 0 rfl
      have c1 := b3.at 1 rfl
      have c2 := b3.at 2 rfl
      have c3 := b3.at 3 rfl
      clear hb3
      go_wp2_with (first | (go_at_call 46; refine (HE.out _ HG3.out).mono ?_; rintro e w4 ⟨rfl, hb4⟩; have HG4 := Lib.hid (HG3.out.trans hb4); clear hb4) | fail)
      go_ret
      exact ⟨by rw [HRR.out]; simp, HG4.out⟩
  · have HRF : Hid (r = false) := Lib.hid (by rw [HR.out, decide_eq_false h2, Bool.and_false]; rfl)
    have d1 : decide (0 ≤ pars) = true := by simp [h1]
    have d2 : decide (pars ≤ 200) = false := by simp; omega
    go_enter Tryz.func28, Tryz.ntmps28
    go_wp2_with fail
    go_ret
    exact ⟨by rw [HRF.out]; simp, HBW.out⟩
  · have HRF : Hid (r = false) := Lib.hid (by rw [HR.out, decide_eq_false h1, Bool.false_and]; rfl)
    have d1 : decide (0 ≤ pars) = false := by simp; omega
    go_enter Tryz.func28, Tryz.ntmps28
    go_wp2_with fail
    go_ret
    exact ⟨by rw [HRF.out]; simp, HBW.out⟩

set_option maxRecDepth 100000 in
set_option maxHeartbeats 1000000 in
theorem check_any {K : Nat} {w : World} {t : Tp} {vn vt : Value} (h : TpAt K w t vn vt) (hK : K ≤ 137438953472) (ht : Tab w) :
    Calls Tryz.prog 9 #[tpV t vn vt] w (Just (.int .i64 (if validB t then 0 else 170)) w) := by
  have hv := fun W (hW : Grow w W) => isvalid_any (h.grow hW) hK (ht.grow hW)
  obtain ⟨hp, ho, hnl, htl, A, ca, B, cb, rfl, rfl, hn, htt⟩ := h
  unfold tpV at *
  obtain ⟨r, hr⟩ : ∃ r, r = validB t := ⟨_, rfl⟩
  rw [← hr] at hv ⊢
  have HV := Lib.hid hv
  have HG := Lib.hid (fun o => Grow.alloc w o)
  clear hv hr hn htt
  cases r with
  | true =>
    rw [if_pos rfl]
    go_enter Tryz.func9, Tryz.ntmps9
    go_wp2_with (first | (go_at_call 28; refine (HV.out _ (HG.out _)).mono ?_; rintro e w3 ⟨rfl, hb3⟩; have HG3 := Lib.hid ((HG.out _).trans hb3); clear hb3) | fail)
    go_ret
    exact ⟨rfl, HG3.out⟩
  | false =>
    rw [if_neg (by simp)]
    go_enter Tryz.func9, Tryz.ntmps9
    go_wp2_with (first | (go_at_call 28; refine (HV.out _ (HG.out _)).mono ?_; rintro e w3 ⟨rfl, hb3⟩; have HG3 := Lib.hid ((HG.out _).trans hb3); clear hb3) | fail)
    go_ret
    exact ⟨rfl, HG3.out⟩
end Go.Proofs.YtofpcdjoljjnoaaGreatDoor

namespace Go.Proofs.YtofpcdjoljjnoaaGreatDoor
open Go.ChangeShapes Go.WideShapes Go.ChangeAt Go.RowKit Go.Deep Go.Joins

theorem list3 {α : Type} {l : List α} (h : l.length = 3) : ∃ a b c, l = [a, b, c] := by
  match l, h with
  | [a, b, c], _ => exact ⟨a, b, c, rfl⟩
theorem list7 {α : Type} {l : List α} (h : l.length = 7) : ∃ a b c d e f g, l = [a, b, c, d, e, f, g] := by
  match l, h with
  | [a, b, c, d, e, f, g], _ => exact ⟨a, b, c, d, e, f, g, rfl⟩
theorem trod_five {H : Type} {enc : TypeId × Value → H} {P : Program} {w : World} {base : Nat} {spare : Nat → Bool} {held : Bool} {t : TypeId} {f0 f1 f2 f3 f4 : Field} {fuel : Nat} {cs : List Value} {x : DataW H × List MemPlace}
    (ht : P.underlying t = some (.struct #[f0, f1, f2, f3, f4])) (h : DataW.trod enc P w base spare held fuel t cs = some x) :
    ∃ y0 y1 y2 y3 y4 n, cs.length = P.cellsOf t ∧ DataW.trod enc P w base spare held n f0.type ((cs.drop f0.offset).take (P.cellsOf f0.type)) = some y0 ∧
      DataW.trod enc P w base spare held n f1.type ((cs.drop f1.offset).take (P.cellsOf f1.type)) = some y1 ∧ DataW.trod enc P w base spare held n f2.type ((cs.drop f2.offset).take (P.cellsOf f2.type)) = some y2 ∧
      DataW.trod enc P w base spare held n f3.type ((cs.drop f3.offset).take (P.cellsOf f3.type)) = some y3 ∧ DataW.trod enc P w base spare held n f4.type ((cs.drop f4.offset).take (P.cellsOf f4.type)) = some y4 := by
  obtain ⟨xs, n, _, _, hl, hlen, hf⟩ := DataW.trod_struct ht h
  match xs, hlen with
  | [y0, y1, y2, y3, y4], _ => exact ⟨y0, y1, y2, y3, y4, n, hl, by simpa using hf 0 f0 rfl, by simpa using hf 1 f1 rfl, by simpa using hf 2 f2 rfl, by simpa using hf 3 f3 rfl, by simpa using hf 4 f4 rfl⟩
theorem cU8 : Tryz.prog.cellsOf 5 = 1 := by kernel_rfl
theorem cInt : Tryz.prog.cellsOf 3 = 1 := by kernel_rfl
theorem cBool : Tryz.prog.cellsOf 4 = 1 := by kernel_rfl
theorem cNat : Tryz.prog.cellsOf 42 = 1 := by kernel_rfl
theorem cZint : Tryz.prog.cellsOf 44 = 2 := by kernel_rfl
theorem cFrac : Tryz.prog.cellsOf 46 = 3 := by kernel_rfl

/-- A row of limbs in a cell. -/
theorem open_raw {H : Type} {enc : TypeId × Value → H} {W : World} {n : Nat} {cs : List Value} {y : DataW H × List MemPlace}
    (h : DataW.trod enc Tryz.prog W 0 (fun _ => true) true n 42 cs = some y) : ∃ v L, cs = [v] ∧ Raw W v L ∧ L.length ≤ 9223372036854775807 := by
  rcases open_ints (k := .u64) Tryz.underlying42 Tryz.underlying100 (by kernel_rfl) h with ⟨hcs, _⟩ | ⟨a, len, cap, zs, hcs, _, hl, hm, hz, _, hcell, hwz⟩
  · exact ⟨_, [], hcs, Raw.nil W, by simp⟩
  · unfold maxLen at hm
    have hzl : len ≤ zs.length := by simp at hz; omega
    have hwf : ∀ i, 0 ≤ zs.getD i 0 ∧ zs.getD i 0 < 18446744073709551616 := fun i => by
      rcases Nat.lt_or_ge i zs.length with h | h
      · rw [List.getD_eq_getElem?_getD, List.getElem?_eq_getElem h]
        obtain ⟨n, e, hn⟩ := nat_of_u64 (hwz _ (List.getElem_mem h))
        show 0 ≤ zs[i] ∧ zs[i] < 18446744073709551616
        omega
      · rw [List.getD_eq_getElem?_getD, List.getElem?_eq_none h]
        show (0 : Int) ≤ 0 ∧ (0 : Int) < 18446744073709551616
        omega
    have hLl : ((zs.take len).map Int.toNat).length = len := by rw [List.length_map, List.length_take]; omega
    have hget : ∀ i, i < len → ((((zs.take len).map Int.toNat).getD i 0 : Nat) : Int) = zs.getD i 0 := fun i hi => by
      have h1 := (hwf i).1
      rw [List.getD_eq_getElem?_getD, List.getElem?_map, List.getElem?_take, if_pos hi, List.getElem?_eq_getElem (show i < zs.length by omega)]
      rw [List.getD_eq_getElem?_getD, List.getElem?_eq_getElem (show i < zs.length by omega)] at h1 ⊢
      show ((zs[i].toNat : Nat) : Int) = zs[i]
      have h2 : 0 ≤ zs[i] := h1
      omega
    refine ⟨_, (zs.take len).map Int.toNat, hcs, ⟨some a, cap, by rw [hLl], by omega, fun e => (by cases e), fun x hx => ?_, fun i hi => ?_⟩, by omega⟩
    · obtain ⟨i, hi, rfl⟩ := List.getElem_of_mem hx
      have h2 := hget i (by omega)
      rw [List.getD_eq_getElem?_getD, List.getElem?_eq_getElem hi] at h2
      have h3 : ((((zs.take len).map Int.toNat)[i] : Nat) : Int) = zs.getD i 0 := h2
      have h4 := (hwf i).2
      omega
    · obtain ⟨b, off, rfl, hc⟩ := ints_at hcell (by omega)
      refine ⟨b, off, rfl, ?_⟩
      rw [hget i (by omega)]
      exact hc i (by omega)

/-- A number in three cells. -/
theorem open_frac {H : Type} {enc : TypeId × Value → H} {W : World} {n : Nat} {cs : List Value} {y : DataW H × List MemPlace}
    (h : DataW.trod enc Tryz.prog W 0 (fun _ => true) true n 46 cs = some y) :
    ∃ (x : Fr) (vn vd : Value), cs = [.bool x.s, vn, vd] ∧ Raw W vn x.m ∧ Raw W vd x.d ∧ x.m.length ≤ 9223372036854775807 ∧ x.d.length ≤ 9223372036854775807 := by
  obtain ⟨y0, y1, m, _, hl, t0, t1⟩ := trod_struct2 Tryz.underlying46 h
  rw [cFrac] at hl
  obtain ⟨c0, c1, c2, rfl⟩ := list3 hl
  simp only [cZint, cNat, List.drop_zero, List.take_succ_cons, List.take_zero, List.drop_succ_cons] at t0 t1
  obtain ⟨z0, z1, m2, _, _, s0, s1⟩ := trod_struct2 Tryz.underlying44 t0
  simp only [cBool, cNat, List.drop_zero, List.take_succ_cons, List.take_zero, List.drop_succ_cons] at s0 s1
  obtain ⟨b, e0, _⟩ := DataW.trod_bool Tryz.underlying4 s0
  obtain ⟨v1, L, e1, r1, l1⟩ := open_raw s1
  obtain ⟨v2, D, e2, r2, l2⟩ := open_raw t1
  simp only [List.cons.injEq, and_true] at e0 e1 e2
  subst e0 e1 e2
  exact ⟨⟨b, L, D⟩, _, _, rfl, r1, r2, l1, l2⟩

/-- A call. -/
structure Cl where
  what : Nat
  op : Nat
  a : Int
  b : Int
  x : Fr
/-- Its cells. -/
def clCells (c : Cl) (vn vd : Value) : List Value := [.int .u8 (c.what : Int), .int .u8 (c.op : Int), .int .i64 c.a, .int .i64 c.b, .bool c.x.s, vn, vd]
/-- It may be read. -/
def ClOK (W : World) (c : Cl) (vn vd : Value) : Prop := c.what < 256 ∧ c.op < 256 ∧ I64 c.a ∧ I64 c.b ∧ Raw W vn c.x.m ∧ Raw W vd c.x.d ∧ c.x.m.length ≤ 9223372036854775807 ∧ c.x.d.length ≤ 9223372036854775807
theorem ClOK.grow {W W' : World} {c : Cl} {vn vd : Value} (h : ClOK W c vn vd) (hg : Grow W W') : ClOK W' c vn vd := ⟨h.1, h.2.1, h.2.2.1, h.2.2.2.1, h.2.2.2.2.1.grow hg, h.2.2.2.2.2.1.grow hg, h.2.2.2.2.2.2⟩
theorem cCall : Tryz.prog.cellsOf 48 = 7 := by kernel_rfl
theorem open_cl {H : Type} {enc : TypeId × Value → H} {W : World} {n : Nat} {l : List Value} {y : DataW H × List MemPlace}
    (hf : DataW.trod enc Tryz.prog W 0 (fun _ => true) true n 48 l = some y) : ∃ c vn vd, l = clCells c vn vd ∧ ClOK W c vn vd := by
  obtain ⟨y0, y1, y2, y3, y4, n, hsz, g0, g1, g2, g3, g4⟩ := trod_five Tryz.underlying48 hf
  rw [cCall] at hsz
  obtain ⟨c0, c1, c2, c3, c4, c5, c6, rfl⟩ := list7 hsz
  simp only [cU8, cInt, cFrac, List.drop_zero, List.take_succ_cons, List.take_zero, List.drop_succ_cons] at g0 g1 g2 g3 g4
  obtain ⟨q, e0, _, w0⟩ := DataW.trod_int Tryz.underlying5 g0
  obtain ⟨o, e1, _, w1⟩ := DataW.trod_int Tryz.underlying5 g1
  obtain ⟨a, e2, _, w2⟩ := DataW.trod_int Tryz.underlying3 g2
  obtain ⟨b, e3, _, w3⟩ := DataW.trod_int Tryz.underlying3 g3
  obtain ⟨x, vn, vd, e4, r1, r2, l1, l2⟩ := open_frac g4
  simp only [List.cons.injEq, and_true] at e0 e1 e2 e3 e4
  obtain ⟨rfl, rfl, rfl⟩ := e4
  subst e0 e1 e2 e3
  obtain ⟨q, rfl, hq⟩ := nat_of_u8 w0
  obtain ⟨o, rfl, ho⟩ := nat_of_u8 w1
  exact ⟨⟨q, o, a, b, x⟩, _, _, rfl, hq, ho, range_of_i64 w2, range_of_i64 w3, r1, r2, l1, l2⟩
/-- A list of calls that a law is handed. -/
def ClsAt (W : World) (A : Option Addr) (l : List Cl) : Prop :=
  ∀ i c, l[i]? = some c → ∃ b off vn vd, A = some ⟨b, off, none⟩ ∧ (∀ j v, (clCells c vn vd)[j]? = some v → W.cell? ⟨b, off + i * 7 + j, none⟩ = some v) ∧ ClOK W c vn vd
theorem ClsAt.grow {W W' : World} {A : Option Addr} {l : List Cl} (h : ClsAt W A l) (hg : Grow W W') : ClsAt W' A l := fun i c hc => by
  obtain ⟨b, off, vn, vd, h1, h2, h3⟩ := h i c hc
  refine ⟨b, off, vn, vd, h1, fun j v hv => ?_, h3.grow hg⟩
  have hb := World.block_lt_of_cell? W _ (h2 0 _ rfl)
  exact (hg.cell (p := ⟨b, off + i * 7 + j, none⟩) hb).trans (h2 j v hv)
theorem list_of {α : Type} {n : Nat} {p : Nat → α → Prop} (h : ∀ i, i < n → ∃ x, p i x) : ∃ l : List α, l.length = n ∧ ∀ i x, l[i]? = some x → p i x := by
  induction n with
  | zero => exact ⟨[], rfl, fun i x hx => by simp at hx⟩
  | succ n ih =>
    obtain ⟨l, hl, hp⟩ := ih (fun i hi => h i (by omega))
    obtain ⟨x, hx⟩ := h n (by omega)
    refine ⟨l ++ [x], by simp [hl], fun i y hy => ?_⟩
    rcases Nat.lt_or_ge i n with hi | hi
    · rw [List.getElem?_append_left (by omega)] at hy
      exact hp i y hy
    · rw [List.getElem?_append_right (by omega), hl] at hy
      have h0 : i - n = 0 := by
        rcases Nat.eq_zero_or_pos (i - n) with h | h
        · exact h
        · rw [List.getElem?_eq_none (by simp; omega)] at hy; cases hy
      rw [h0] at hy
      simp at hy
      obtain rfl : i = n := by omega
      rw [← hy]; exact hx
set_option maxRecDepth 100000 in
theorem open_calls {H : Type} {enc : TypeId × Value → H} {W : World} {b0 : Nat} {v : Value} {d : DataW H} {p : List MemPlace}
    (hv : Value.okWide Tryz.prog W .any b0 34 v) (h : DataW.Trod enc Tryz.prog W 0 (fun _ => true) true 34 v d p) :
    ∃ A cap l, v = .slice A l.length cap ∧ l.length ≤ 9223372036854775807 ∧ ClsAt W A l := by
  obtain ⟨A, len, cap, rfl, hlen, hel⟩ := open_rows Tryz.underlying34 cCall (by decide) hv h
  obtain ⟨l, hl, hp⟩ := list_of (n := len) (p := fun i c => ∃ b off vn vd, A = some ⟨b, off, none⟩ ∧ (∀ j v, (clCells c vn vd)[j]? = some v → W.cell? ⟨b, off + i * 7 + j, none⟩ = some v) ∧ ClOK W c vn vd) (fun i hi => by
    obtain ⟨b, off, cs, n, x, hA, _, hlc, hc, ht⟩ := hel i hi
    obtain ⟨c, vn, vd, rfl, hok⟩ := open_cl ht
    exact ⟨c, b, off, vn, vd, hA, fun j v hv => by rw [hc j (by have := (List.getElem?_eq_some_iff.1 hv).1; rw [hlc] at this; exact this), hv], hok⟩)
  exact ⟨A, cap, l, by rw [hl], by omega, hp⟩

def NdRaw (W : World) (x : Nd) (vn vd : Value) : Prop := x.op < 256 ∧ I64 x.a ∧ I64 x.b ∧ Raw W vn x.c.m ∧ Raw W vd x.c.d ∧ x.c.m.length ≤ 9223372036854775807 ∧ x.c.d.length ≤ 9223372036854775807
theorem NdRaw.grow {W W' : World} {x : Nd} {vn vd : Value} (h : NdRaw W x vn vd) (hg : Grow W W') : NdRaw W' x vn vd := ⟨h.1, h.2.1, h.2.2.1, h.2.2.2.1.grow hg, h.2.2.2.2.1.grow hg, h.2.2.2.2.2⟩
/-- Steps that a law is handed. -/
def NdsRaw (W : World) (A : Option Addr) (L : List Nd) : Prop :=
  ∀ i x, L[i]? = some x → ∃ b off vn vd, A = some ⟨b, off, none⟩ ∧ (∀ j v, (ndCells x vn vd)[j]? = some v → W.cell? ⟨b, off + i * 6 + j, none⟩ = some v) ∧ NdRaw W x vn vd
theorem NdsRaw.at {W : World} {A : Option Addr} {L : List Nd} {K : Nat} (h : NdsRaw W A L) (hK : ∀ (i : Nat) (x : Nd), L[i]? = some x → x.c.m.length ≤ K ∧ x.c.d.length ≤ K) : NdsAt K W A L := fun i x hx => by
  obtain ⟨b, off, vn, vd, h1, h2, h3, h4, h5, h6, h7, _⟩ := h i x hx
  exact ⟨b, off, vn, vd, h1, h2, h3, h4, h5, h6, h7, hK i x hx⟩
end Go.Proofs.YtofpcdjoljjnoaaGreatDoor
