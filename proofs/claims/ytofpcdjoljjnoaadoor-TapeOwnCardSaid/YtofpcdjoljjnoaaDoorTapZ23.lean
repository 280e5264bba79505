/-
  The texts TapOfM, one behind the other.
-/
import Derived.Test.YtofpcdjoljjnoaaDoorTapZ22

namespace Go.Proofs.YtofpcdjoljjnoaaDoor
open Go.RowKit Go.Maps

theorem wanted_yes {o : Oper} {y : Nat → Option Bool} {j : Nat} {b : Bool} (hg : o.guard = some (j, b)) (h : y j = some b) : Region.wanted o y = true := by
  unfold Region.wanted
  simp [hg, h]
theorem wanted_no {o : Oper} {y : Nat → Option Bool} {j : Nat} {b : Bool} (hg : o.guard = some (j, b)) (h : y j = some (!b)) : Region.wanted o y = false := by
  unfold Region.wanted
  simp [hg, h]

/-- What 'of' tells. -/
def ofS (S : MkS) (f0 f1 f2 : Nat) (x : Nd) : Int × Int × MkS :=
  if (fld x.op 0 = f0 ∧ fld x.op 1 = f1 ∧ fld x.op 2 = f2) ∧ stepB x (S.l.length : Int) (S.pars : Int) = true then putS S x else (0, 2, S)
/-- A step without a number. -/
def bareNd (op : Nat) (a b : Int) : Nd := ⟨op, a, b, ⟨false, [], []⟩⟩

theorem bare_key {op : Nat} {a b : Int} (h : op ≠ 1) : keyN (bareNd op a b) = ⟨op, a, b, []⟩ := by
  unfold keyN bareNd
  dsimp only
  rw [if_neg h]

theorem of_none {w : World} {m : Value} {f0 f1 f2 op a b : Int} (h : NoMk w m) :
    Calls Tryd.prog 25 #[m, .agg #[.int .u8 f0, .int .u8 f1, .int .u8 f2], .agg #[.int .u8 op, .int .i64 a, .int .i64 b, .bool false, .slice none 0 0, .slice none 0 0]] w (Just (.tuple #[.int .i64 0, .int .i64 1]) w) := by
  have hg := Grow.trans (Grow.alloc w (.cells #[.int .u8 f0, .int .u8 f1, .int .u8 f2] 77)) (Grow.alloc _ (.cells #[.int .u8 op, .int .i64 a, .int .i64 b, .bool false, .slice none 0 0, .slice none 0 0] 56))
  have HN := Lib.hid (isnone_none (h.grow hg))
  have HG := Lib.hid hg
  clear h hg
  go_enter Tryd.func25, Tryd.ntmps25
  go_wp2_with (first | (go_at_call 21; refine HN.out.mono ?_; rintro e w3 ⟨rfl, rfl⟩) | fail)
  go_ret2
  exact ⟨rfl, HG.out⟩

set_option maxRecDepth 100000 in
set_option maxHeartbeats 8000000 in
theorem of_some {P : Nat → Prop} {w : World} {m : Value} {S : MkS} {f0 f1 f2 op : Nat} {a b : Int} (h : MkAt P w m S) (hop : op < 256) (ha : I64 a) (hb : I64 b) (ht : Tab w) (hf : f2 = 0) (hf0 : f0 = 3) :
    Calls Tryd.prog 25 #[m, .agg #[.int .u8 (f0 : Int), .int .u8 (f1 : Int), .int .u8 (f2 : Int)], .agg #[.int .u8 (op : Int), .int .i64 a, .int .i64 b, .bool false, .slice none 0 0, .slice none 0 0]] w (MkPost P m w (ofS S f0 f1 f2 (bareNd op a b))) := by
  have H := Lib.hid h
  obtain ⟨pm, pr, rfl, hPm, hpm, hrow, hgood⟩ := h
  have hrow' := hrow
  obtain ⟨mb, vN, hPr, hPmb, hblk, hnds, _, _⟩ := hrow'
  obtain ⟨AN, cN, rfl, _⟩ := hnds.form
  obtain ⟨N, hN⟩ : ∃ N, N = S.l.length := ⟨_, rfl⟩
  rw [← hN] at hblk
  have hNI : (N : Int) ≤ 20000 := by have := hgood.2.2.2.1; have := hgood.2.1; omega
  have hPI : (S.pars : Int) ≤ 200 := by have := hgood.2.2.1; omega
  obtain ⟨W1, hW1⟩ : ∃ W1, W1 = (w.alloc (.cells #[.int .u8 (f0 : Int), .int .u8 (f1 : Int), .int .u8 (f2 : Int)] 77)).alloc (.cells #[.int .u8 (op : Int), .int .i64 a, .int .i64 b, .bool false, .slice none 0 0, .slice none 0 0] 56) := ⟨_, rfl⟩
  have b0 : BlkOf W1 w.heap.size #[.int .u8 (f0 : Int), .int .u8 (f1 : Int), .int .u8 (f2 : Int)] 77 := by rw [hW1]; exact (BlkOf.new w _ _).alloc _
  have b1 : BlkOf W1 (w.heap.size + 1) #[.int .u8 (op : Int), .int .i64 a, .int .i64 b, .bool false, .slice none 0 0, .slice none 0 0] 56 := by rw [hW1]; exact BlkOf.news (by simp) _ _
  have hbw : Grow w W1 := by rw [hW1]; exact ((Below.refl _ w).alloc (Nat.le_refl _) _).alloc (by simp) _
  have HNO := Lib.hid (isnone_some (H.out.grow hbw))
  have HF := Lib.hid (fun W (hW : Grow W1 W) => fieldsof_any (w := W) op hop (ht.grow (hbw.trans hW)))
  have hnd : ∀ W, NdOK 0 W (bareNd op a b) (.slice none 0 0) (.slice none 0 0) := fun W => ⟨hop, ha, hb, Raw.nil W, Raw.nil W, Nat.le_refl _, Nat.le_refl _⟩
  have hst := fun W (hW : Grow W1 W) => isstep_any (hnd W) (by omega) (steps := (N : Int)) (pars := (S.pars : Int)) (by constructor <;> omega) (by constructor <;> omega) (ht.grow (hbw.trans hW))
  unfold ndV bareNd at hst
  dsimp only at hst
  obtain ⟨st, hst'⟩ : ∃ st, st = stepB ⟨op, a, b, false, [], []⟩ (N : Int) (S.pars : Int) := ⟨_, rfl⟩
  rw [← hst'] at hst
  have HST := Lib.hid hst
  have HSE := Lib.hid hst'
  unfold fldV at HF
  have KC : Hid (∀ W, Grow W1 W → W.cell? ⟨w.heap.size, 0, none⟩ = some (.int .u8 (f0 : Int)) ∧ W.cell? ⟨w.heap.size, 1, none⟩ = some (.int .u8 (f1 : Int)) ∧ W.cell? ⟨w.heap.size, 2, none⟩ = some (.int .u8 (f2 : Int)) ∧
      W.cell? ⟨w.heap.size + 1, 0, none⟩ = some (.int .u8 (op : Int)) ∧ W.cell? ⟨w.heap.size + 1, 1, none⟩ = some (.int .i64 a) ∧ W.cell? ⟨w.heap.size + 1, 2, none⟩ = some (.int .i64 b) ∧ W.cell? ⟨w.heap.size + 1, 3, none⟩ = some (.bool false) ∧ W.cell? ⟨w.heap.size + 1, 4, none⟩ = some (.slice none 0 0) ∧ W.cell? ⟨w.heap.size + 1, 5, none⟩ = some (.slice none 0 0) ∧
      W.cell? ⟨pm, 0, none⟩ = some (.pointer (some ⟨pr, 0, none⟩)) ∧ W.cell? ⟨pr, 1, none⟩ = some (.int .i64 (S.pars : Int)) ∧ W.cell? ⟨pr, 2, none⟩ = some (.slice AN N cN)) := Lib.hid fun W hW => by
    have q0 := b0.below hW b0.lt
    have q1 := b1.below hW b1.lt
    have hw := hbw.trans hW
    have q2 := hpm.below hw hpm.lt
    have q3 := hblk.below hw hblk.lt
    exact ⟨q0.at 0 rfl, q0.at 1 rfl, q0.at 2 rfl, q1.at 0 rfl, q1.at 1 rfl, q1.at 2 rfl, q1.at 3 rfl, q1.at 4 rfl, q1.at 5 rfl, q2.at 0 rfl, q3.at 1 rfl, q3.at 2 rfl⟩
  obtain ⟨r, hr⟩ : ∃ r, r = ofS S f0 f1 f2 (bareNd op a b) := ⟨_, rfl⟩
  have HR := Lib.hid hr
  rw [← hr]
  have HBW := Lib.hid hbw
  have HN := Lib.hid hN
  have HGD := Lib.hid hgood
  have HPM := Lib.hid hpm
  have HROW := Lib.hid hrow
  have HB1 := Lib.hid b1
  have HOP := Lib.hid hop
  have HII := Lib.hid (And.intro ha hb)
  have HFF := Lib.hid (And.intro hf0 hf)
  have c0 := hpm.at 0 rfl
  have KD := KC.out W1 (Grow.refl _)
  obtain ⟨d0, d1, d2, d3, d4, d5, d6, d7, d8, d9, d10, d11⟩ := KD
  obtain ⟨pars, hpars⟩ : ∃ pars, pars = S.pars := ⟨_, rfl⟩
  subst hW1
  clear hst hst' hnd b0 b1 hbw hrow hblk hnds hgood hr hN hop ha hb hpm c0 hf hf0 hpars
  by_cases heq : fld op 0 = f0 ∧ fld op 1 = f1 ∧ fld op 2 = f2
  · have hbin : ∀ W, (binOp .neq 77 (.agg #[.int .u8 ((fld op 0 : Nat) : Int), .int .u8 ((fld op 1 : Nat) : Int), .int .u8 ((fld op 2 : Nat) : Int)]) (.agg #[.int .u8 (f0 : Int), .int .u8 (f1 : Int), .int .u8 (f2 : Int)])).run Tryd.prog W = .ok (.bool false) W := by
      intro W
      rw [heq.1, heq.2.1, heq.2.2]
      simp [go_sem]
    have HEQ := Lib.hid heq
    clear heq
    go_enter Tryd.func25, Tryd.ntmps25
    go_wp2_with (first | (go_at_call 21; refine HNO.out.mono ?_; rintro e w3 ⟨rfl, rfl⟩) | fail)
    rename_i K0 hK0
    refine wp_region_listG [fun v _ => v = .pointer (some ⟨w.heap.size + 1, 0, none⟩), fun v _ => v = .int .u8 (op : Int), fun v _ => v = .agg #[.int .u8 ((fld op 0 : Nat) : Int), .int .u8 ((fld op 1 : Nat) : Int), .int .u8 ((fld op 2 : Nat) : Int)], fun v _ => v = .agg #[.int .u8 (f0 : Int), .int .u8 (f1 : Int), .int .u8 (f2 : Int)], fun v _ => v = .bool false, fun v _ => v = .bool false, fun v _ => v = .agg #[.int .u8 (op : Int), .int .i64 a, .int .i64 b, .bool false, .slice none 0 0, .slice none 0 0], fun v _ => v = .pointer (some ⟨pm, 0, none⟩), fun v _ => v = .pointer (some ⟨pm, 0, none⟩), fun v _ => v = .pointer (some ⟨pm, 0, none⟩), fun v _ => v = .pointer (some ⟨pr, 0, none⟩), fun v _ => v = .pointer (some ⟨pr, 0, none⟩), fun v _ => v = .pointer (some ⟨pr, 2, none⟩), fun v _ => v = .slice AN N cN, fun v _ => v = .int .i64 (N : Int), fun v _ => v = .pointer (some ⟨pm, 0, none⟩), fun v _ => v = .pointer (some ⟨pm, 0, none⟩), fun v _ => v = .pointer (some ⟨pm, 0, none⟩), fun v _ => v = .pointer (some ⟨pr, 0, none⟩), fun v _ => v = .pointer (some ⟨pr, 0, none⟩), fun v _ => v = .pointer (some ⟨pr, 1, none⟩), fun v _ => v = .int .i64 (S.pars : Int), fun v _ => v = .bool st, fun v _ => v = .bool (!st), fun v _ => v = .bool (!st)]
      [(0, .pointer (some ⟨pm, 0, none⟩)), (4, .pointer (some ⟨w.heap.size, 0, none⟩)), (5, .pointer (some ⟨w.heap.size + 1, 0, none⟩))] 25 (by kernel_rfl) ⟨stays_pure _, stays_pure _, stays_pure _, stays_pure _, stays_pure _, stays_pure _, stays_pure _, stays_pure _, stays_pure _, stays_pure _, stays_pure _, stays_pure _, stays_pure _, stays_pure _, stays_pure _, stays_pure _, stays_pure _, stays_pure _, stays_pure _, stays_pure _, stays_pure _, stays_pure _, stays_pure _, stays_pure _, stays_pure _, trivial⟩ rfl (by kernel_rfl) rfl ?base (by kernel_rfl) ⟨?_, ?_, ?_, ?_, ?_, ?_, ?_, ?_, ?_, ?_, ?_, ?_, ?_, ?_, ?_, ?_, ?_, ?_, ?_, ?_, ?_, ?_, ?_, ?_, ?_, trivial⟩ ?last
    case base => simp
    case last =>
      intro vs W hW hv
      simp only [FactsL, Nat.zero_add, Nat.reduceAdd] at hv
      have v24 := hv.2.2.2.2.2.2.2.2.2.2.2.2.2.2.2.2.2.2.2.2.2.2.2.2.1
      clear hv
      refine ⟨rfl, ?_⟩
      simp only [List.take_succ_cons, List.take_zero, putF, Act.put, List.setIfInBounds_toArray, List.set_cons_zero, List.set_cons_succ, Nat.reduceAdd, v24]
      unfold Oper.wp
      simp [execOp, go_sem]
      refine hK0 _ _ ?_
      have hg := HBW.out.trans hW
      have HG := Lib.hid hg
      cases st with
      | false =>
        have HRE : Hid (r = (0, 2, S)) := Lib.hid (by
          rw [HR.out]; unfold ofS
          rw [if_neg (fun h => by have h1 := h.2; unfold bareNd at h1; rw [← HN.out, ← HSE.out] at h1; cases h1)])
        clear v24 hg
        go_wp2_with fail
        go_ret2
        rw [HRE.out]
        exact ⟨rfl, Sparing.of_grow HG.out, P, fun _ h => h, fun _ h => .inl h, H.out.grow HG.out⟩
      | true =>
        have HRE : Hid (r = putS S (bareNd op a b)) := Lib.hid (by
          rw [HR.out]; unfold ofS
          rw [if_pos ⟨HEQ.out, by unfold bareNd; rw [← HN.out, ← HSE.out]⟩])
        have hstep : stepB (bareNd op a b) (S.l.length : Int) (S.pars : Int) = true := by unfold bareNd; rw [← HN.out, ← HSE.out]
        have hop1 : op ≠ 1 := fun e => by
          have h1 := HEQ.out.1
          rw [e, HFF.out.1] at h1
          exact absurd h1 (by decide)
        have hkn := bare_key (a := a) (b := b) hop1
        have hky : KyOK (keyN (bareNd op a b)) := by rw [hkn]; exact ⟨HOP.out, HII.out.1, HII.out.2, Nat.zero_le _⟩
        have hnd : NdIn P W (bareNd op a b) (.slice none 0 0) (.slice none 0 0) := ⟨HOP.out, HII.out.1, HII.out.2, RawIn.nil _ _, RawIn.nil _ _, Nat.zero_le _, Nat.zero_le _⟩
        have hidx := fun n => index_any ((HROW.out.grow hg).grow (Grow.drewN W n)) HGD.out (hnd.kept (fun _ _ => rfl)) hky (show (keyN (bareNd op a b)).t = [] by rw [hkn])
        unfold ndV bareNd at hidx
        dsimp only at hidx
        have HIDX := Lib.hid hidx
        have hpm2 := HPM.out.below hg HPM.out.lt
        have hb2 := HB1.out.below hW HB1.out.lt
        have HPM2 := Lib.hid hpm2
        have HB2 := Lib.hid hb2
        have HSTP := Lib.hid hstep
        obtain ⟨e0, e1, e2, e3, e4, e5, e6, e7, e8, e9, e10, e11⟩ := KC.out W hW
        clear v24 hg hstep hop1 hkn hky hnd hidx hpm2 hb2
        go_wp2_with fail
        rename_i K1 hK1
        have hS : W.drew.cell? ⟨pm, 0, none⟩ = some (.pointer (some ⟨pr, 0, none⟩)) ∧ W.drew.cell? ⟨w.heap.size + 1, 0, none⟩ = some (.int .u8 (op : Int)) ∧ W.drew.cell? ⟨w.heap.size + 1, 1, none⟩ = some (.int .i64 a) ∧ W.drew.cell? ⟨w.heap.size + 1, 2, none⟩ = some (.int .i64 b) ∧ W.drew.cell? ⟨w.heap.size + 1, 3, none⟩ = some (.bool false) ∧ W.drew.cell? ⟨w.heap.size + 1, 4, none⟩ = some (.slice none 0 0) ∧ W.drew.cell? ⟨w.heap.size + 1, 5, none⟩ = some (.slice none 0 0) := ⟨e9, e3, e4, e5, e6, e7, e8⟩
        refine wp_region_walk (fun w' => w'.cell? ⟨pm, 0, none⟩ = some (.pointer (some ⟨pr, 0, none⟩)) ∧ w'.cell? ⟨w.heap.size + 1, 0, none⟩ = some (.int .u8 (op : Int)) ∧ w'.cell? ⟨w.heap.size + 1, 1, none⟩ = some (.int .i64 a) ∧ w'.cell? ⟨w.heap.size + 1, 2, none⟩ = some (.int .i64 b) ∧ w'.cell? ⟨w.heap.size + 1, 3, none⟩ = some (.bool false) ∧ w'.cell? ⟨w.heap.size + 1, 4, none⟩ = some (.slice none 0 0) ∧ w'.cell? ⟨w.heap.size + 1, 5, none⟩ = some (.slice none 0 0))
          [true, true, true, true, true, false, true, true, true, true] (by kernel_rfl) (by kernel_rfl) rfl (by kernel_rfl) (fun _ _ d _ _ h => by cases d <;> exact h) ?_
        repeat (refine walkS_yes hS rfl (fun w' hw' => by obtain ⟨q0, q1, q2, q3, q4, q5, q6⟩ := hw'; go_simp; rfl) ?_; simp only [Act.put, List.setIfInBounds_toArray, List.set_cons_zero, List.set_cons_succ])
        refine walkS_no rfl (fun K hK => ?_)
        go_simp
        refine (HIDX.out 1).mono ?_
        rintro e w4 ⟨rfl, hsp, P2, hP2a, hP2b, hrow4⟩
        have hpm4 := hsp.kinds _ _ _ HPM2.out (by decide) (by decide)
        have hlt2 : w.heap.size + 1 < W.heap.size := HB2.out.lt
        have hq4 : BlkOf w4 (w.heap.size + 1) _ _ := (hsp.other (w.heap.size + 1) hlt2 (fun h => by have := H.out.lt _ h; omega)).trans HB2.out
        have hS4 : w4.cell? ⟨pm, 0, none⟩ = some (.pointer (some ⟨pr, 0, none⟩)) ∧ w4.cell? ⟨w.heap.size + 1, 0, none⟩ = some (.int .u8 (op : Int)) ∧ w4.cell? ⟨w.heap.size + 1, 1, none⟩ = some (.int .i64 a) ∧ w4.cell? ⟨w.heap.size + 1, 2, none⟩ = some (.int .i64 b) ∧ w4.cell? ⟨w.heap.size + 1, 3, none⟩ = some (.bool false) ∧ w4.cell? ⟨w.heap.size + 1, 4, none⟩ = some (.slice none 0 0) ∧ w4.cell? ⟨w.heap.size + 1, 5, none⟩ = some (.slice none 0 0) := ⟨hpm4.at 0 rfl, hq4.at 0 rfl, hq4.at 1 rfl, hq4.at 2 rfl, hq4.at 3 rfl, hq4.at 4 rfl, hq4.at 5 rfl⟩
        refine hK _ _ hS4 ?_
        clear hK K hS
        repeat (refine walkS_yes hS4 rfl (fun w' hw' => by obtain ⟨q0, q1, q2, q3, q4, q5, q6⟩ := hw'; go_simp; rfl) ?_; simp only [Act.put, List.setIfInBounds_toArray, List.set_cons_zero, List.set_cons_succ])
        simp only [walkS]
        have HFIN : Hid (Sparing P w w4 ∧ ∃ P', (∀ k, P k → P' k) ∧ (∀ k, P' k → P k ∨ w.heap.size ≤ k) ∧ MkAt P' w4 (.pointer (some ⟨pm, 0, none⟩)) r.2.2) := Lib.hid (by
          have hg := HBW.out.trans hW
          refine ⟨(Sparing.of_grow (P := P) (hg.trans (Grow.drewN W 1))).trans hsp (fun k hk => .inl hk), P2, hP2a, fun k hk => ?_, pm, pr, rfl, hP2a _ hPm, hpm4, ?_, ?_⟩
          · rcases hP2b k hk with h | h
            · exact .inl h
            · exact .inr (Nat.le_trans (Below.size hg) h)
          · rw [HRE.out]; exact hrow4
          · rw [HRE.out]; exact putS_good HGD.out HSTP.out)
        clear hsp hrow4 hpm4 hq4 hS4 hP2a hP2b
        refine hK1 _ _ ?_
        go_wp2_with fail
        go_ret2
        exact ⟨by rw [HRE.out]; rfl, HFIN.out⟩
    all_goals
      intro a' W hW hb hf
      obtain ⟨e0, e1, e2, e3, e4, e5, e6, e7, e8, e9, e10, e11⟩ := KC.out W hW
      simp only [List.forall_mem_cons, List.not_mem_nil, false_imp_iff, implies_true, and_true] at hb
      obtain ⟨m0, m4, m5⟩ := hb
      simp [FactsOf, FactAt, Region.binds, factsL] at hf
    · refine .inl ⟨rfl, fun K hK => ?_⟩
      unfold Oper.wp
      simp [execOp, go_sem, *]
      exact hK _ _ (Grow.refl _) rfl
    · refine .inl ⟨rfl, fun K hK => ?_⟩
      unfold Oper.wp
      simp [execOp, go_sem, *]
      exact hK _ _ (Grow.refl _) rfl
    · refine .inl ⟨rfl, fun K hK => ?_⟩
      unfold Oper.wp
      simp [go_sem, hf]
      refine (HF.out W hW).mono ?_
      rintro e W' ⟨rfl, hg⟩
      exact hK _ _ hg rfl
    · refine .inl ⟨rfl, fun K hK => ?_⟩
      unfold Oper.wp
      simp [execOp, go_sem, *]
      exact hK _ _ (Grow.refl _) rfl
    · refine .inl ⟨rfl, fun K hK => ?_⟩
      unfold Oper.wp
      simp [execOp, go_sem, hf, hbin]
      exact hK _ _ (Grow.refl _) rfl
    · refine .inl ⟨rfl, fun K hK => ?_⟩
      unfold Oper.wp
      simp [execOp, go_sem, *]
      exact hK _ _ (Grow.refl _) rfl
    · refine .inl ⟨wanted_yes (j := 5) (b := false) rfl (yielded_of (d := 17) rfl (by simp [hf])), fun K hK => ?_⟩
      unfold Oper.wp
      simp [execOp, go_sem, *]
      exact hK _ _ (Grow.refl _) rfl
    · refine .inl ⟨wanted_yes (j := 5) (b := false) rfl (yielded_of (d := 17) rfl (by simp [hf])), fun K hK => ?_⟩
      unfold Oper.wp
      simp [execOp, go_sem, *]
      exact hK _ _ (Grow.refl _) rfl
    · refine .inl ⟨wanted_yes (j := 5) (b := false) rfl (yielded_of (d := 17) rfl (by simp [hf])), fun K hK => ?_⟩
      unfold Oper.wp
      simp [execOp, go_sem, *]
      exact hK _ _ (Grow.refl _) rfl
    · refine .inl ⟨wanted_yes (j := 5) (b := false) rfl (yielded_of (d := 17) rfl (by simp [hf])), fun K hK => ?_⟩
      unfold Oper.wp
      simp [execOp, go_sem, *]
      exact hK _ _ (Grow.refl _) rfl
    · refine .inl ⟨wanted_yes (j := 5) (b := false) rfl (yielded_of (d := 17) rfl (by simp [hf])), fun K hK => ?_⟩
      unfold Oper.wp
      simp [execOp, go_sem, *]
      exact hK _ _ (Grow.refl _) rfl
    · refine .inl ⟨wanted_yes (j := 5) (b := false) rfl (yielded_of (d := 17) rfl (by simp [hf])), fun K hK => ?_⟩
      unfold Oper.wp
      simp [execOp, go_sem, *]
      exact hK _ _ (Grow.refl _) rfl
    · refine .inl ⟨wanted_yes (j := 5) (b := false) rfl (yielded_of (d := 17) rfl (by simp [hf])), fun K hK => ?_⟩
      unfold Oper.wp
      simp [execOp, go_sem, *]
      exact hK _ _ (Grow.refl _) rfl
    · refine .inl ⟨wanted_yes (j := 5) (b := false) rfl (yielded_of (d := 17) rfl (by simp [hf])), fun K hK => ?_⟩
      unfold Oper.wp
      simp [execOp, go_sem, *]
      exact hK _ _ (Grow.refl _) rfl
    · refine .inl ⟨wanted_yes (j := 5) (b := false) rfl (yielded_of (d := 17) rfl (by simp [hf])), fun K hK => ?_⟩
      unfold Oper.wp
      simp [go_sem, *]
      exact hK _ _ (Grow.refl _) rfl
    · refine .inl ⟨wanted_yes (j := 5) (b := false) rfl (yielded_of (d := 17) rfl (by simp [hf])), fun K hK => ?_⟩
      unfold Oper.wp
      simp [execOp, go_sem, *]
      exact hK _ _ (Grow.refl _) rfl
    · refine .inl ⟨wanted_yes (j := 5) (b := false) rfl (yielded_of (d := 17) rfl (by simp [hf])), fun K hK => ?_⟩
      unfold Oper.wp
      simp [execOp, go_sem, *]
      exact hK _ _ (Grow.refl _) rfl
    · refine .inl ⟨wanted_yes (j := 5) (b := false) rfl (yielded_of (d := 17) rfl (by simp [hf])), fun K hK => ?_⟩
      unfold Oper.wp
      simp [execOp, go_sem, *]
      exact hK _ _ (Grow.refl _) rfl
    · refine .inl ⟨wanted_yes (j := 5) (b := false) rfl (yielded_of (d := 17) rfl (by simp [hf])), fun K hK => ?_⟩
      unfold Oper.wp
      simp [execOp, go_sem, *]
      exact hK _ _ (Grow.refl _) rfl
    · refine .inl ⟨wanted_yes (j := 5) (b := false) rfl (yielded_of (d := 17) rfl (by simp [hf])), fun K hK => ?_⟩
      unfold Oper.wp
      simp [execOp, go_sem, *]
      exact hK _ _ (Grow.refl _) rfl
    · refine .inl ⟨wanted_yes (j := 5) (b := false) rfl (yielded_of (d := 17) rfl (by simp [hf])), fun K hK => ?_⟩
      unfold Oper.wp
      simp [execOp, go_sem, *]
      exact hK _ _ (Grow.refl _) rfl
    · refine .inl ⟨wanted_yes (j := 5) (b := false) rfl (yielded_of (d := 17) rfl (by simp [hf])), fun K hK => ?_⟩
      unfold Oper.wp
      simp [execOp, go_sem, *]
      exact hK _ _ (Grow.refl _) rfl
    · refine .inl ⟨wanted_yes (j := 5) (b := false) rfl (yielded_of (d := 17) rfl (by simp [hf])), fun K hK => ?_⟩
      unfold Oper.wp
      simp [go_sem, hf]
      refine (HST.out W hW).mono ?_
      rintro e W' ⟨rfl, hg⟩
      exact hK _ _ hg rfl
    · refine .inl ⟨wanted_yes (j := 5) (b := false) rfl (yielded_of (d := 17) rfl (by simp [hf])), fun K hK => ?_⟩
      unfold Oper.wp
      simp [execOp, go_sem, *]
      exact hK _ _ (Grow.refl _) rfl
    · refine .inl ⟨rfl, fun K hK => ?_⟩
      unfold Oper.wp
      simp [execOp, go_sem, *]
      exact hK _ _ (Grow.refl _) rfl
  · have hbin : ∀ W, (binOp .neq 77 (.agg #[.int .u8 ((fld op 0 : Nat) : Int), .int .u8 ((fld op 1 : Nat) : Int), .int .u8 ((fld op 2 : Nat) : Int)]) (.agg #[.int .u8 (f0 : Int), .int .u8 (f1 : Int), .int .u8 (f2 : Int)])).run Tryd.prog W = .ok (.bool true) W := by
      intro W
      simp [go_sem]
      omega
    have HEQ := Lib.hid heq
    clear heq
    go_enter Tryd.func25, Tryd.ntmps25
    go_wp2_with (first | (go_at_call 21; refine HNO.out.mono ?_; rintro e w3 ⟨rfl, rfl⟩) | fail)
    rename_i K0 hK0
    refine wp_region_listG [fun v _ => v = .pointer (some ⟨w.heap.size + 1, 0, none⟩), fun v _ => v = .int .u8 (op : Int), fun v _ => v = .agg #[.int .u8 ((fld op 0 : Nat) : Int), .int .u8 ((fld op 1 : Nat) : Int), .int .u8 ((fld op 2 : Nat) : Int)], fun v _ => v = .agg #[.int .u8 (f0 : Int), .int .u8 (f1 : Int), .int .u8 (f2 : Int)], fun v _ => v = .bool true, fun v _ => v = .bool true, fun _ _ => True, fun _ _ => True, fun _ _ => True, fun _ _ => True, fun _ _ => True, fun _ _ => True, fun _ _ => True, fun _ _ => True, fun _ _ => True, fun _ _ => True, fun _ _ => True, fun _ _ => True, fun _ _ => True, fun _ _ => True, fun _ _ => True, fun _ _ => True, fun _ _ => True, fun _ _ => True, fun v _ => v = .bool true]
      [(0, .pointer (some ⟨pm, 0, none⟩)), (4, .pointer (some ⟨w.heap.size, 0, none⟩)), (5, .pointer (some ⟨w.heap.size + 1, 0, none⟩))] 25 (by kernel_rfl) ⟨stays_pure _, stays_pure _, stays_pure _, stays_pure _, stays_pure _, stays_pure _, stays_pure _, stays_pure _, stays_pure _, stays_pure _, stays_pure _, stays_pure _, stays_pure _, stays_pure _, stays_pure _, stays_pure _, stays_pure _, stays_pure _, stays_pure _, stays_pure _, stays_pure _, stays_pure _, stays_pure _, stays_pure _, stays_pure _, trivial⟩ rfl (by kernel_rfl) rfl ?base (by kernel_rfl) ⟨?_, ?_, ?_, ?_, ?_, ?_, ?_, ?_, ?_, ?_, ?_, ?_, ?_, ?_, ?_, ?_, ?_, ?_, ?_, ?_, ?_, ?_, ?_, ?_, ?_, trivial⟩ ?last
    case base => simp
    case last =>
      intro vs W hW hv
      simp only [FactsL, Nat.zero_add, Nat.reduceAdd] at hv
      have v24 := hv.2.2.2.2.2.2.2.2.2.2.2.2.2.2.2.2.2.2.2.2.2.2.2.2.1
      clear hv
      refine ⟨rfl, ?_⟩
      simp only [List.take_succ_cons, List.take_zero, putF, Act.put, List.setIfInBounds_toArray, List.set_cons_zero, List.set_cons_succ, Nat.reduceAdd, v24]
      unfold Oper.wp
      simp [execOp, go_sem]
      refine hK0 _ _ ?_
      have HG := Lib.hid (HBW.out.trans hW)
      have HRE : Hid (r = (0, 2, S)) := Lib.hid (by
        rw [HR.out]; unfold ofS
        rw [if_neg (fun h => HEQ.out h.1)])
      clear v24
      go_wp2_with fail
      go_ret2
      rw [HRE.out]
      exact ⟨rfl, Sparing.of_grow HG.out, P, fun _ h => h, fun _ h => .inl h, H.out.grow HG.out⟩
    all_goals
      intro a' W hW hb hf
      obtain ⟨e0, e1, e2, e3, e4, e5, e6, e7, e8, e9, e10, e11⟩ := KC.out W hW
      simp only [List.forall_mem_cons, List.not_mem_nil, false_imp_iff, implies_true, and_true] at hb
      obtain ⟨m0, m4, m5⟩ := hb
      simp [FactsOf, FactAt, Region.binds, factsL] at hf
    · refine .inl ⟨rfl, fun K hK => ?_⟩
      unfold Oper.wp
      simp [execOp, go_sem, *]
      exact hK _ _ (Grow.refl _) rfl
    · refine .inl ⟨rfl, fun K hK => ?_⟩
      unfold Oper.wp
      simp [execOp, go_sem, *]
      exact hK _ _ (Grow.refl _) rfl
    · refine .inl ⟨rfl, fun K hK => ?_⟩
      unfold Oper.wp
      simp [go_sem, hf]
      refine (HF.out W hW).mono ?_
      rintro e W' ⟨rfl, hg⟩
      exact hK _ _ hg rfl
    · refine .inl ⟨rfl, fun K hK => ?_⟩
      unfold Oper.wp
      simp [execOp, go_sem, *]
      exact hK _ _ (Grow.refl _) rfl
    · refine .inl ⟨rfl, fun K hK => ?_⟩
      unfold Oper.wp
      simp [execOp, go_sem, hf, hbin]
      exact hK _ _ (Grow.refl _) rfl
    · refine .inl ⟨rfl, fun K hK => ?_⟩
      unfold Oper.wp
      simp [execOp, go_sem, *]
      exact hK _ _ (Grow.refl _) rfl
    · refine .inr ⟨?_, trivial⟩
      exact wanted_no (j := 5) (b := false) rfl (yielded_of (d := 17) rfl (by simp [hf]))
    · refine .inr ⟨?_, trivial⟩
      exact wanted_no (j := 5) (b := false) rfl (yielded_of (d := 17) rfl (by simp [hf]))
    · refine .inr ⟨?_, trivial⟩
      exact wanted_no (j := 5) (b := false) rfl (yielded_of (d := 17) rfl (by simp [hf]))
    · refine .inr ⟨?_, trivial⟩
      exact wanted_no (j := 5) (b := false) rfl (yielded_of (d := 17) rfl (by simp [hf]))
    · refine .inr ⟨?_, trivial⟩
      exact wanted_no (j := 5) (b := false) rfl (yielded_of (d := 17) rfl (by simp [hf]))
    · refine .inr ⟨?_, trivial⟩
      exact wanted_no (j := 5) (b := false) rfl (yielded_of (d := 17) rfl (by simp [hf]))
    · refine .inr ⟨?_, trivial⟩
      exact wanted_no (j := 5) (b := false) rfl (yielded_of (d := 17) rfl (by simp [hf]))
    · refine .inr ⟨?_, trivial⟩
      exact wanted_no (j := 5) (b := false) rfl (yielded_of (d := 17) rfl (by simp [hf]))
    · refine .inr ⟨?_, trivial⟩
      exact wanted_no (j := 5) (b := false) rfl (yielded_of (d := 17) rfl (by simp [hf]))
    · refine .inr ⟨?_, trivial⟩
      exact wanted_no (j := 5) (b := false) rfl (yielded_of (d := 17) rfl (by simp [hf]))
    · refine .inr ⟨?_, trivial⟩
      exact wanted_no (j := 5) (b := false) rfl (yielded_of (d := 17) rfl (by simp [hf]))
    · refine .inr ⟨?_, trivial⟩
      exact wanted_no (j := 5) (b := false) rfl (yielded_of (d := 17) rfl (by simp [hf]))
    · refine .inr ⟨?_, trivial⟩
      exact wanted_no (j := 5) (b := false) rfl (yielded_of (d := 17) rfl (by simp [hf]))
    · refine .inr ⟨?_, trivial⟩
      exact wanted_no (j := 5) (b := false) rfl (yielded_of (d := 17) rfl (by simp [hf]))
    · refine .inr ⟨?_, trivial⟩
      exact wanted_no (j := 5) (b := false) rfl (yielded_of (d := 17) rfl (by simp [hf]))
    · refine .inr ⟨?_, trivial⟩
      exact wanted_no (j := 5) (b := false) rfl (yielded_of (d := 17) rfl (by simp [hf]))
    · refine .inr ⟨?_, trivial⟩
      exact wanted_no (j := 5) (b := false) rfl (yielded_of (d := 17) rfl (by simp [hf]))
    · refine .inr ⟨?_, trivial⟩
      exact wanted_no (j := 5) (b := false) rfl (yielded_of (d := 17) rfl (by simp [hf]))
    · refine .inl ⟨rfl, fun K hK => ?_⟩
      unfold Oper.wp
      simp [execOp, go_sem, *]
      exact hK _ _ (Grow.refl _) rfl
end Go.Proofs.YtofpcdjoljjnoaaDoor
