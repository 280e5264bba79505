/-
  The texts TapOne, ChaFact, ChaMod, ChaStep, one behind the other.
-/
import Derived.Test.YtcbebikcfcidmaaDoorChaZ15

namespace Go.Proofs.YtcbebikcfcidmaaDoor
open Go.RowKit Go.Maps

def oneS (S : MkS) (op : Nat) (a : Int) : Int × Int × MkS := ofS S 3 0 0 (bareNd op a 0)
def twoS (S : MkS) (op : Nat) (a b : Int) : Int × Int × MkS := ofS S 3 3 0 (bareNd op a b)

section
variable {P : Nat → Prop} {w : World} {m : Value} {S : MkS}
theorem MkAt.ptr (h : MkAt P w m S) : ∃ pm, m = .pointer (some ⟨pm, 0, none⟩) := by
  obtain ⟨pm, _, h1, _⟩ := h
  exact ⟨pm, h1⟩
theorem one_some {op : Nat} {a : Int} (h : MkAt P w m S) (hop : op < 256) (ha : I64 a) (ht : Tab w) :
    Calls Tryd.prog 30 #[m, .int .u8 (op : Int), .int .i64 a] w (MkPost P m w (oneS S op a)) := by
  have hO : Calls Tryd.prog 47 #[m, .agg #[.int .u8 3, .int .u8 0, .int .u8 0], .agg #[.int .u8 (op : Int), .int .i64 a, .int .i64 0, .bool false, .slice none 0 0, .slice none 0 0]] w (MkPost P m w (oneS S op a)) :=
    of_some (f0 := 3) (f1 := 0) (f2 := 0) h hop ha i64_zero ht rfl rfl
  obtain ⟨pm, rfl⟩ := h.ptr
  have HO := Lib.hid hO
  clear hO h
  go_enter Tryd.func30, Tryd.ntmps30
  go_wp2_with (first | (go_at_call 47; refine HO.out.mono ?_; rintro e w3 ⟨rfl, h3⟩; have H3 := Lib.hid h3; clear h3) | fail)
  go_ret2
  exact ⟨rfl, H3.out⟩
theorem two_some {op : Nat} {a b : Int} (h : MkAt P w m S) (hop : op < 256) (ha : I64 a) (hb : I64 b) (ht : Tab w) :
    Calls Tryd.prog 64 #[m, .int .u8 (op : Int), .int .i64 a, .int .i64 b] w (MkPost P m w (twoS S op a b)) := by
  have hO : Calls Tryd.prog 47 #[m, .agg #[.int .u8 3, .int .u8 3, .int .u8 0], .agg #[.int .u8 (op : Int), .int .i64 a, .int .i64 b, .bool false, .slice none 0 0, .slice none 0 0]] w (MkPost P m w (twoS S op a b)) :=
    of_some (f0 := 3) (f1 := 3) (f2 := 0) h hop ha hb ht rfl rfl
  obtain ⟨pm, rfl⟩ := h.ptr
  have HO := Lib.hid hO
  clear hO h
  go_enter Tryd.func64, Tryd.ntmps64
  go_wp2_with (first | (go_at_call 47; refine HO.out.mono ?_; rintro e w3 ⟨rfl, h3⟩; have H3 := Lib.hid h3; clear h3) | fail)
  go_ret2
  exact ⟨rfl, H3.out⟩
theorem one_none {op a : Int} (h : NoMk w m) : Calls Tryd.prog 30 #[m, .int .u8 op, .int .i64 a] w (Just (.tuple #[.int .i64 0, .int .i64 1]) w) := by
  have HO := Lib.hid (of_none (f0 := 3) (f1 := 0) (f2 := 0) (op := op) (a := a) (b := 0) h)
  clear h
  go_enter Tryd.func30, Tryd.ntmps30
  go_wp2_with (first | (go_at_call 47; refine HO.out.mono ?_; rintro e w3 ⟨rfl, h3⟩; have H3 := Lib.hid h3; clear h3) | fail)
  go_ret2
  exact ⟨rfl, H3.out⟩
end

/-- What Par tells. -/
def parNd (S : MkS) : Nd := bareNd 2 (S.pars : Int) 0
def parS (S : MkS) : Int × Int × MkS :=
  if S.pars = 200 then (0, 171, S) else if S.l.length = S.budget then (0, 171, S) else ((S.l.length : Int), 0, { S with pars := S.pars + 1, l := S.l ++ [parNd S] })
theorem fld2 : fld 2 0 = 2 ∧ fld 2 1 = 0 ∧ fld 2 2 = 0 := by decide
theorem par_new {S : MkS} (h : Good S) : kyAt (S.l.map keyN) (keyN (parNd S)) = none := by
  unfold kyAt
  rw [List.findIdx?_eq_none_iff]
  intro k hk
  obtain ⟨x, hx, rfl⟩ := List.mem_map.1 hk
  obtain ⟨i, hi⟩ := List.mem_iff_getElem?.1 hx
  have hs := stepsB_at h.2.2.2.2.1 hi
  simp only [beq_eq_false_iff_ne, ne_eq]
  intro e
  have h1 : x.op = 2 := congrArg Ky.op e
  have h2 : x.a = (S.pars : Int) := congrArg Ky.a e
  unfold stepB at hs
  simp only [Bool.and_eq_true] at hs
  have h3 := hs.2.1
  rw [h1, fld2.1, h2] at h3
  unfold isB at h3
  simp at h3
theorem stepB_more {x : Nd} {i p : Int} (h : stepB x i p = true) : stepB x i (p + 1) = true := by
  unfold stepB at h ⊢
  simp only [Bool.and_eq_true] at h ⊢
  refine ⟨h.1, ?_, ?_, h.2.2.2⟩
  · have := h.2.1
    unfold isB at this ⊢
    split
    · rename_i h3; rw [if_pos h3] at this; exact this
    · rename_i h3
      rw [if_neg h3] at this
      split
      · rename_i h2; rw [if_pos h2] at this; simp at this ⊢; omega
      · rename_i h2; rw [if_neg h2] at this; exact this
  · have := h.2.2.1
    unfold isB at this ⊢
    split
    · rename_i h3; rw [if_pos h3] at this; exact this
    · rename_i h3
      rw [if_neg h3] at this
      split
      · rename_i h2; rw [if_pos h2] at this; simp at this ⊢; omega
      · rename_i h2; rw [if_neg h2] at this; exact this
theorem stepsB_more {p : Int} : ∀ {L : List Nd} {k : Nat}, stepsB p k L = true → stepsB (p + 1) k L = true
  | [], _, _ => rfl
  | x :: L, k, h => by
    simp only [stepsB, Bool.and_eq_true] at h ⊢
    exact ⟨stepB_more h.1, stepsB_more h.2⟩
theorem parS_good {S : MkS} (h : Good S) : Good (parS S).2.2 := by
  unfold parS
  split
  · exact h
  · rename_i hp
    split
    · exact h
    · rename_i hf
      have hn := kyAt_none (par_new h)
      obtain ⟨h1, h2, h3, h4, h5, h6⟩ := h
      refine ⟨h1, h2, by show S.pars + 1 ≤ 200; omega, ?_, ?_, ?_⟩
      · show (S.l ++ [parNd S]).length ≤ S.budget
        rw [List.length_append, List.length_singleton]; omega
      · show stepsB ((S.pars + 1 : Nat) : Int) 0 (S.l ++ [parNd S]) = true
        rw [stepsB_snoc, show ((S.pars + 1 : Nat) : Int) = (S.pars : Int) + 1 by omega, stepsB_more h5, Bool.true_and]
        unfold stepB parNd bareNd
        dsimp only
        rw [fld2.1, fld2.2.1, fld2.2.2]
        unfold isB writtenB
        simp [sameB]
        omega
      · show ((S.l ++ [parNd S]).map keyN).Nodup
        rw [List.map_append, List.map_singleton]
        unfold List.Nodup at h6 ⊢
        rw [List.pairwise_append]
        refine ⟨h6, List.pairwise_singleton _ _, fun a ha b hb => ?_⟩
        rw [List.mem_singleton.1 hb]
        exact fun e => hn (by rw [← e]; exact ha)

/-- A store into a maker's row leaves what is of another type. -/
theorem set_apart {w : World} {pr i : Nat} {cs : Array Value} {x : Value} (hb : BlkOf w pr cs 47) {B e K : Nat} {v : Value} {n : Nat} {xs : List Value} (h : w.ownsRow B e K v n xs) (he : e ≠ 47) : (w.setCell ⟨pr, i, none⟩ x).ownsRow B e K v n xs := by
  refine ownsRow_kept (P := fun g => v.ownBlock = some g) h (fun g hg => hg) (fun g hg => Below.heap_setCell _ _ _ _ (fun e1 => ?_))
  obtain ⟨_, _, cur, hc⟩ := ownsRow_own h hg
  unfold BlkOf at hc hb
  have e2 : g = pr := e1
  rw [e2, hb] at hc
  injection hc with hc
  injection hc with _ hT
  exact he hT.symm
theorem set_sparing {P : Nat → Prop} {w : World} {pr i : Nat} {cs : Array Value} {x : Value} (hb : BlkOf w pr cs 47) (hP : P pr) : Sparing P w (w.setCell ⟨pr, i, none⟩ x) := by
  refine ⟨rfl, rfl, rfl, Nat.le_of_eq (size_set _ _ _).symm, fun k _ hn => Below.heap_setCell _ _ _ _ (fun e => hn (by rw [show k = pr from e]; exact hP)), fun b cs' t hb' h1 _ => ?_⟩
  refine (Below.heap_setCell _ _ _ _ (fun e => ?_)).trans hb'
  have e2 : b = pr := e
  unfold BlkOf at hb hb'
  rw [e2, hb] at hb'
  injection hb' with hb'
  injection hb' with _ hT
  exact h1 hT.symm
theorem row_setpar {P : Nat → Prop} {w : World} {pr : Nat} {S : MkS} (h : RowAt P w pr S) (n : Nat) : RowAt P (w.setCell ⟨pr, 1, none⟩ (.int .i64 (n : Int))) pr { S with pars := n } := by
  obtain ⟨mb, vN, h1, h2, h3, ⟨vs, k1, k2, k3, k4⟩, h5, h6⟩ := h
  refine ⟨mb, vN, h1, h2, h3.set 1 _, ⟨vs, k1, set_apart h3 k2 (by decide), k3, fun i x p hx hp => ?_⟩, ?_, fun k hk => by rw [size_set]; exact h6 k hk⟩
  · obtain ⟨q1, q2, q3, q4, q5, q6⟩ := k4 i x p hx hp
    exact ⟨q1, q2, q3, ⟨set_apart h3 q4.1 (by decide), q4.2⟩, ⟨set_apart h3 q5.1 (by decide), q5.2⟩, q6⟩
  · refine MapIn.of_block h5 (Below.heap_setCell _ _ _ _ (fun e => ?_))
    have e2 : mb = pr := e
    obtain ⟨es, clock, hm, _⟩ := h5
    unfold BlkOf at h3
    rw [e2, h3] at hm
    cases hm
theorem putS_pars (S : MkS) (x : Nd) : (putS S x).2.2.pars = S.pars := by
  unfold putS
  split
  · rfl
  · split <;> rfl

set_option maxRecDepth 100000 in
set_option maxHeartbeats 4000000 in
theorem par_some {P : Nat → Prop} {w : World} {m : Value} {S : MkS} (h : MkAt P w m S) :
    Calls Tryd.prog 6 #[m] w (MkPost P m w (parS S)) := by
  have H := Lib.hid h
  have HNO := Lib.hid (isnone_some h)
  obtain ⟨pm, pr, rfl, hPm, hpm, hrow, hgood⟩ := h
  have hrow' := hrow
  obtain ⟨mb, vN, hPr, hPmb, hblk, hnds, _, _⟩ := hrow'
  obtain ⟨r, hr⟩ : ∃ r, r = parS S := ⟨_, rfl⟩
  have HR := Lib.hid hr
  rw [← hr]
  obtain ⟨pars, hpars⟩ : ∃ pars, pars = S.pars := ⟨_, rfl⟩
  have HPS := Lib.hid hpars
  have hPI : (pars : Int) ≤ 200 := by have := hgood.2.2.1; omega
  have c0 := hpm.at 0 rfl
  have c1 := hblk.at 1 rfl
  rw [← hpars] at c1
  have HPM := Lib.hid hpm
  have HROW := Lib.hid hrow
  have HGD := Lib.hid hgood
  by_cases hfull : pars = 200
  · have HRE : Hid (r = (0, 171, S)) := Lib.hid (by rw [hr]; unfold parS; rw [if_pos (by rw [← hpars]; exact hfull)])
    have hfi : (pars : Int) = 200 := by omega
    clear hpm hrow hgood hblk hnds hr hpars
    go_enter Tryd.func6, Tryd.ntmps6
    go_wp2_with (first | (go_at_call 12; refine HNO.out.mono ?_; rintro e w3 ⟨rfl, rfl⟩) | fail)
    go_ret2
    rw [HRE.out]
    exact ⟨rfl, Sparing.of_grow (Grow.refl _), P, fun _ h => h, fun _ h => .inl h, H.out⟩
  · have hfi : ¬ ((pars : Int) = 200) := by omega
    have hnp : ¬ (S.pars = 200) := by rw [← hpars]; exact hfull
    have hnd : NdIn P w (parNd S) (.slice none 0 0) (.slice none 0 0) := ⟨(by decide : (2 : Nat) < 256), (by unfold parNd bareNd; dsimp only; constructor <;> omega), i64_zero, RawIn.nil _ _, RawIn.nil _ _, Nat.zero_le _, Nat.zero_le _⟩
    have hkn : keyN (parNd S) = ⟨2, (S.pars : Int), 0, []⟩ := bare_key (by decide)
    have hky : KyOK (keyN (parNd S)) := by rw [hkn]; exact ⟨(show (2:Nat) < 256 by decide), by dsimp only; constructor <;> omega, i64_zero, Nat.zero_le _⟩
    have hidx := fun n => index_any (hrow.grow (Grow.drewN w n)) hgood (hnd.kept (fun _ _ => rfl)) hky (show (keyN (parNd S)).t = [] by rw [hkn])
    have hidx2 : ∀ n, Calls Tryd.prog 13 #[.pointer (some ⟨pr, 0, none⟩), .agg #[.int .u8 2, .int .i64 (pars : Int), .int .i64 0, .bool false, .slice none 0 0, .slice none 0 0], .string (mk [])] (w.drewN n) (RowPost P pr (w.drewN n) (putS S (parNd S))) := by
      rw [hpars]; exact hidx
    have HIDX := Lib.hid hidx2
    have HNP := Lib.hid hnp
    clear hpm hrow hgood hblk hnds hr hpars hnd hkn hky hidx hidx2 hnp
    go_enter Tryd.func6, Tryd.ntmps6
    go_wp2_with (first | (go_at_call 12; refine HNO.out.mono ?_; rintro e w3 ⟨rfl, rfl⟩) | fail)
    rename_i K0 hK0
    refine wp_region_walk (fun w' => w'.cell? ⟨pm, 0, none⟩ = some (.pointer (some ⟨pr, 0, none⟩)) ∧ w'.cell? ⟨pr, 1, none⟩ = some (.int .i64 (pars : Int)))
      [true, true, true, true, true, true, true, true, true, true, true, true, false, true, true, true, true, true] (by kernel_rfl) (by kernel_rfl) rfl (by kernel_rfl) (fun _ _ d _ _ h => by cases d <;> exact h) ?_
    have hS : w.drew.cell? ⟨pm, 0, none⟩ = some (.pointer (some ⟨pr, 0, none⟩)) ∧ w.drew.cell? ⟨pr, 1, none⟩ = some (.int .i64 (pars : Int)) := ⟨c0, c1⟩
    repeat (refine walkS_yes hS rfl (fun w' hw' => by obtain ⟨q0, q1⟩ := hw'; go_simp; rfl) ?_; simp only [Act.put, List.setIfInBounds_toArray, List.set_cons_zero, List.set_cons_succ])
    refine walkS_no rfl (fun K hK => ?_)
    go_simp
    refine (HIDX.out 1).mono ?_
    rintro e w4 ⟨rfl, hsp, P2, hP2a, hP2b, hrow4⟩
    have hpm4 := hsp.kinds _ _ _ (HPM.out.below (Grow.drew w) HPM.out.lt) (by decide) (by decide)
    have hrow4' := hrow4
    obtain ⟨mb4, vN4, _, _, hblk4, _⟩ := hrow4'
    rw [putS_pars, ← HPS.out] at hblk4
    have hS4 : w4.cell? ⟨pm, 0, none⟩ = some (.pointer (some ⟨pr, 0, none⟩)) ∧ w4.cell? ⟨pr, 1, none⟩ = some (.int .i64 (pars : Int)) := ⟨hpm4.at 0 rfl, hblk4.at 1 rfl⟩
    refine hK _ _ hS4 ?_
    clear hK K hS
    repeat (refine walkS_yes hS4 rfl (fun w' hw' => by obtain ⟨q0, q1⟩ := hw'; go_simp; rfl) ?_; simp only [Act.put, List.setIfInBounds_toArray, List.set_cons_zero, List.set_cons_succ])
    simp only [walkS]
    have hg1 : Grow w w.drew := Grow.drew w
    have hspw : Sparing P w w4 := (Sparing.of_grow (P := P) hg1).trans hsp (fun _ h => .inl h)
    have hPb : ∀ k, P2 k → P k ∨ w.heap.size ≤ k := fun k hk => (hP2b k hk).imp id (fun h => Nat.le_trans (Below.size hg1) h)
    have c0 := hpm4.at 0 rfl
    have c1 := hblk4.at 1 rfl
    have f1 := hblk4.free 1
    by_cases hf : S.l.length = S.budget
    · have hput : putS S (parNd S) = (0, 171, S) := by unfold putS; rw [par_new HGD.out]; exact if_pos hf
      have hre : r = (0, 171, S) := by rw [HR.out]; unfold parS; rw [if_neg HNP.out, if_pos hf]
      rw [hput] at hrow4 ⊢
      have HFIN : Hid (Sparing P w w4 ∧ ∃ P', (∀ k, P k → P' k) ∧ (∀ k, P' k → P k ∨ w.heap.size ≤ k) ∧ MkAt P' w4 (.pointer (some ⟨pm, 0, none⟩)) r.2.2) := Lib.hid (by
        refine ⟨hspw, P2, hP2a, hPb, pm, pr, rfl, hP2a _ hPm, hpm4, ?_, ?_⟩
        · rw [hre]; exact hrow4
        · rw [hre]; exact HGD.out)
      have HRE := Lib.hid hre
      clear hspw hPb hsp hrow4 hpm4 hblk4 hS4 hP2a hP2b hre hput hg1
      refine hK0 _ _ ?_
      go_wp2_with fail
      go_ret2
      exact ⟨by rw [HRE.out]; rfl, HFIN.out⟩
    · have hput : putS S (parNd S) = ((S.l.length : Int), 0, { S with l := S.l ++ [parNd S] }) := by unfold putS; rw [par_new HGD.out]; exact if_neg hf
      have hre : r = ((S.l.length : Int), 0, { S with pars := S.pars + 1, l := S.l ++ [parNd S] }) := by rw [HR.out]; unfold parS; rw [if_neg HNP.out, if_neg hf]
      have hgd : Good r.2.2 := by rw [HR.out]; exact parS_good HGD.out
      rw [hput] at hrow4 ⊢
      have hpar1 : ((pars : Int) + 1) = ((pars + 1 : Nat) : Int) := by omega
      have hrow5 := row_setpar hrow4 (pars + 1)
      have hsp5 := (set_sparing (i := 1) (x := .int .i64 ((pars + 1 : Nat) : Int)) hblk4 (hP2a _ (by obtain ⟨_, _, h, _⟩ := HROW.out; exact h)))
      have hpm5 := hsp5.kinds _ _ _ hpm4 (by decide) (by decide)
      have HFIN : Hid (∀ w5, w5 = w4.setCell ⟨pr, 1, none⟩ (.int .i64 ((pars : Int) + 1)) → Sparing P w w5 ∧ ∃ P', (∀ k, P k → P' k) ∧ (∀ k, P' k → P k ∨ w.heap.size ≤ k) ∧ MkAt P' w5 (.pointer (some ⟨pm, 0, none⟩)) r.2.2) := Lib.hid (by
        rintro w5 rfl
        rw [hpar1]
        refine ⟨hspw.trans hsp5 hPb, P2, hP2a, hPb, pm, pr, rfl, hP2a _ hPm, hpm5, ?_, hgd⟩
        rw [hre, ← HPS.out]; exact hrow5)
      have HRE := Lib.hid hre
      clear hspw hPb hsp hrow4 hpm4 hblk4 hS4 hP2a hP2b hre hput hg1 hrow5 hsp5 hpm5 hgd hpar1
      have hb1 : (pars : Int) + 1 < 9223372036854775808 := by omega
      refine hK0 _ _ ?_
      go_wp2_with fail
      go_ret2
      exact ⟨by rw [HRE.out]; rfl, HFIN.out _ rfl⟩
end Go.Proofs.YtcbebikcfcidmaaDoor

namespace Go.Proofs.YtcbebikcfcidmaaDoor
open Go.RowKit

/-- What stands in the slots that are not filled, and that nothing is deferred beside. -/
def BaseAt (base : List (Nat × Value)) (a0 a : Act) : Prop := (∀ p ∈ base, a.tmps[p.1]?.getD undef = p.2) ∧ a.defers = a0.defers
structure MidJ (I : Array Bool → World → Prop) (L : List Oper) (F : Nat → Value → World → Prop) (t : Nat) (a0 : Act) (listed : Array Bool) (a : Act) (w : World) : Prop where
  inv : I listed w
  size : a.tmps.size = a0.tmps.size
  defers : a.defers = a0.defers
  other : ∀ s, s ∉ dstsOf (L.take t) → a.tmps[s]? = a0.tmps[s]?
  fact : ∀ j, j < t → listed.getD j false = true → FactAt L F j a w

section
variable {P : Program} {L : List Oper} {Q : Exit → Act → World → Prop}

/-- What is asked of operation number i, which is o. -/
def StepJ (R : World → World → Prop) (I : Array Bool → World → Prop) (P : Program) (Q : Exit → Act → World → Prop) (L : List Oper) (F : Nat → Value → World → Prop) (base : List (Nat × Value)) (a0 : Act) (i : Nat) (o : Oper) : Prop :=
  ∀ listed a w, I listed w → listed.getD i false = false → (∀ e ∈ o.after.toList, Region.binds .any e = true → listed.getD e.on false = true) → Closed .any L.toArray listed → BaseAt base a0 a → FactsOf L F o.after a w →
    Region.wanted o (yielded L.toArray a.tmps) = true ∧ ∀ K : Act → World → Prop, (∀ v w', R w w' → I (listed.setIfInBounds i true) w' → F i v w' → K (a.put o.dst v) w') → o.wp P a w K Q
/-- The same of each of a row of operations, from number k on. -/
def StepsJ (R : World → World → Prop) (I : Array Bool → World → Prop) (P : Program) (Q : Exit → Act → World → Prop) (L : List Oper) (F : Nat → Value → World → Prop) (base : List (Nat × Value)) (a0 : Act) : Nat → List Oper → Prop
  | _, [] => True
  | k, o :: r => StepJ R I P Q L F base a0 k o ∧ StepsJ R I P Q L F base a0 (k + 1) r
theorem StepsJ.at {R : World → World → Prop} {I : Array Bool → World → Prop} {F : Nat → Value → World → Prop} {base : List (Nat × Value)} {a0 : Act} : ∀ {r : List Oper} {k : Nat}, StepsJ R I P Q L F base a0 k r → ∀ j o, r[j]? = some o → StepJ R I P Q L F base a0 (k + j) o
  | [], _, _, _, _, h => by simp at h
  | o :: r, k, hs, j, o', h => by
    cases j with
    | zero => simp at h; subst h; exact hs.1
    | succ j =>
      simp at h
      have := StepsJ.at hs.2 j o' h
      rwa [show k + 1 + j = k + (j + 1) by omega] at this

theorem wpAny_factsJ {R : World → World → Prop} {I : Array Bool → World → Prop} {F : Nat → Value → World → Prop} {base : List (Nat × Value)} {t : Nat} {a0 : Act} {last : Oper}
    (hF : ∀ i v w w', R w w' → F i v w → F i v w')
    (hok : factOK L t a0.tmps.size = true) (hl : L[t]? = some last)
    (hb : ∀ p ∈ base, a0.tmps[p.1]?.getD undef = p.2) (hfree : ∀ p ∈ base, p.1 ∉ dstsOf (L.take t))
    (hsteps : StepsJ R I P Q L F base a0 0 (L.take t))
    (hlast : ∀ vs w listed, I listed w → (∀ j, j < t → listed.getD j false = true) → (∀ j, j < t → F j (vs j) w) → Region.wanted last (yielded L.toArray (putF vs (L.take t) 0 a0).tmps) = true ∧ last.wp P (putF vs (L.take t) 0 a0) w (fun a' w' => Q .normal a' w') Q) :
    ∀ (fuel : Nat) (listed : Array Bool) (a : Act) (w : World), listed.size = L.length → (listed.toList.filter (· == false)).length ≤ fuel → Closed .any L.toArray listed →
      ((∀ i, i < L.length → listed.getD i false = true) ∧ Q .normal a w ∨ listed.getD t true = false ∧ MidJ I L F t a0 listed a w) →
      wpAny P .any L.toArray Q fuel listed a w := by
  unfold factOK at hok
  simp only [Bool.and_eq_true, decide_eq_true_eq] at hok
  obtain ⟨⟨⟨⟨⟨hlen, hord⟩, hnod⟩, hlow⟩, hsome⟩, hchain⟩ := hok
  have hsz0 : L.toArray.size = t + 1 := by simpa using hlen
  have hmemT : ∀ (listed : Array Bool), Closed .any L.toArray listed → t ∈ Region.ready .any L.toArray listed → ∀ i, i < t → listed.getD i true = true := by
    intro listed hcl hm i hi
    cases hq : listed.getD i true with
    | true => rfl
    | false => exact absurd hm (chain_waits hchain (by rw [hsz0]) hcl (t - i) i rfl hi hq)
  intro fuel
  induction fuel with
  | zero =>
    intro listed a w hsz hf hcl h
    have hall : ∀ i, i < L.length → listed.getD i false = true := by
      intro i hi
      have h0 : listed.toList.filter (· == false) = [] := List.eq_nil_of_length_eq_zero (by omega)
      rw [List.filter_eq_nil_iff] at h0
      have h1 := h0 (listed[i]'(by omega)) (by simp)
      rw [Array.getD_eq_getD_getElem?, Array.getElem?_eq_getElem (by omega)]
      simpa using h1
    rcases h with ⟨_, hq⟩ | ⟨hq, _⟩
    · refine ⟨List.eq_nil_iff_forall_not_mem.2 fun i hi => ?_, hq⟩
      obtain ⟨hl1, o, ho, _⟩ := mem_ready.1 hi
      have hlt : i < L.length := by have := (Array.getElem?_eq_some_iff.1 ho).1; simpa using this
      have := hall i hlt
      rw [Array.getD_eq_getD_getElem?, Array.getElem?_eq_getElem (by omega)] at this hl1
      simp at this hl1
      rw [this] at hl1; cases hl1
    · have := hall t (by omega)
      rw [Array.getD_eq_getD_getElem?, Array.getElem?_eq_getElem (by omega)] at this hq
      simp at this hq
      rw [this] at hq; cases hq
  | succ fuel ih =>
    intro listed a w hsz hf hcl h
    -- nothing is ready only when all is listed
    have hready : Region.ready .any L.toArray listed = [] → ∀ i, i < L.length → listed.getD i false = true := by
      intro hr i
      induction i using Nat.strongRecOn with
      | _ i ihi =>
        intro hi
        cases hq : listed.getD i false with
        | true => rfl
        | false =>
          have hmem : i ∈ Region.ready .any L.toArray listed := by
            refine mem_ready.2 ⟨?_, L[i], by simp [hi], fun e he hbd => ?_⟩
            · rw [Array.getD_eq_getD_getElem?, Array.getElem?_eq_getElem (by omega)] at hq ⊢
              exact hq
            · have h1 := List.all_eq_true.1 hord i (List.mem_range.2 (by omega))
              rw [List.getElem?_eq_getElem hi] at h1
              have h2 := Array.all_eq_true'.1 h1 e he
              simp only [hbd, Bool.not_true, Bool.false_or, decide_eq_true_eq] at h2
              exact ihi e.on h2 (by omega)
          rw [hr] at hmem
          cases hmem
    refine ⟨fun hr => ?_, fun i hi => ?_⟩
    · rcases h with ⟨_, hq⟩ | ⟨hq, _⟩
      · exact hq
      · have := hready hr t (by omega)
        rw [Array.getD_eq_getD_getElem?, Array.getElem?_eq_getElem (by omega)] at this hq
        simp at this hq
        rw [this] at hq; cases hq
    · have hi0 := hi
      obtain ⟨hl1, o, ho, hdeps⟩ := mem_ready.1 hi
      have hlt : i < L.length := by have := (Array.getElem?_eq_some_iff.1 ho).1; simpa using this
      have hoL : L[i]? = some o := by simpa using ho
      rcases h with ⟨hall, _⟩ | ⟨htf, hmid⟩
      · have := hall i hlt
        rw [Array.getD_eq_getD_getElem?, Array.getElem?_eq_getElem (by omega)] at this hl1
        simp at this hl1
        rw [this] at hl1; cases hl1
      · have hfuel : ((listed.setIfInBounds i true).toList.filter (· == false)).length ≤ fuel := by
          have hi2 : i < listed.size := by omega
          have e1 : (listed.setIfInBounds i true).toList = listed.toList.set i true := by simp
          have hli : listed.toList[i]? = some false := by
            rw [Array.getD_eq_getD_getElem?, Array.getElem?_eq_getElem hi2] at hl1
            simp at hl1
            simp [hi2, hl1]
          rw [e1]
          have key : ∀ (l : List Bool) (i : Nat), l[i]? = some false → ((l.set i true).filter (· == false)).length + 1 = (l.filter (· == false)).length := by
            intro l
            induction l with
            | nil => intro i h; simp at h
            | cons b l ihl =>
              intro i h
              cases i with
              | zero => simp at h; subst h; simp
              | succ i =>
                have := ihl i (by simpa using h)
                rw [List.set_cons_succ]
                cases b <;> simp at this ⊢ <;> omega
          have := key _ _ hli
          omega
        by_cases hit : i = t
        · -- the last one
          subst hit
          have hallT := hmemT listed hcl hi0
          obtain rfl : last = o := by rw [hl] at hoL; injection hoL
          -- the values
          have hvs : ∃ vs : Nat → Value, a = putF vs (L.take i) 0 a0 ∧ ∀ j, j < i → F j (vs j) w := by
            refine ⟨fun j => match (L[j]?).bind (·.dst) with | some d => a.tmps[d]?.getD undef | none => undef, ?_, fun j hj => ?_⟩
            · have hs := putF_size (fun j => match (L[j]?).bind (·.dst) with | some d => a.tmps[d]?.getD undef | none => undef) (L.take i) 0 a0
              have ht : a.tmps = (putF (fun j => match (L[j]?).bind (·.dst) with | some d => a.tmps[d]?.getD undef | none => undef) (L.take i) 0 a0).tmps := by
                apply Array.ext_getElem?
                intro s
                by_cases hmem : s ∈ dstsOf (L.take i)
                · have hmem' := hmem
                  unfold dstsOf at hmem'
                  rw [List.mem_filterMap] at hmem'
                  obtain ⟨o', ho', hd'⟩ := hmem'
                  obtain ⟨j, hj, hj'⟩ := List.mem_iff_getElem.1 ho'
                  have hjL : (L.take i)[j]? = some o' := by rw [List.getElem?_eq_getElem hj, hj']
                  have hji : j < i := by simp at hj; omega
                  have hjL2 : L[j]? = some o' := by rw [List.getElem?_take, if_pos hji] at hjL; exact hjL
                  have hsl : s < a0.tmps.size := by have := List.all_eq_true.1 hlow s hmem; simpa using this
                  rw [putF_at _ s (L.take i) 0 a0 j o' hnod hjL hd' hsl, Nat.zero_add, hjL2]
                  simp only [Option.bind_some, hd']
                  rw [Array.getElem?_eq_getElem (by rw [hmid.size]; exact hsl)]
                  rfl
                · rw [putF_ne _ s _ _ _ hmem]
                  exact hmid.other s hmem
              have hd : a.defers = (putF (fun j => match (L[j]?).bind (·.dst) with | some d => a.tmps[d]?.getD undef | none => undef) (L.take i) 0 a0).defers := hmid.defers.trans hs.2.symm
              exact act_ext ht hd
            · have h1 := hmid.fact j hj (by
                have := hallT j hj
                rw [Array.getD_eq_getD_getElem?, Array.getElem?_eq_getElem (by omega)] at this ⊢
                exact this)
              unfold FactAt at h1
              show F j (match (L[j]?).bind (·.dst) with | some d => a.tmps[d]?.getD undef | none => undef) w
              cases hx : (L[j]?).bind (·.dst) with
              | none => rw [hx] at h1; exact h1
              | some d => rw [hx] at h1; exact h1
          obtain ⟨vs, rfl, hvs⟩ := hvs
          have hallF : ∀ j, j < i → listed.getD j false = true := fun j hj => by
            have := hallT j hj
            rw [Array.getD_eq_getD_getElem?, Array.getElem?_eq_getElem (by omega)] at this ⊢
            exact this
          obtain ⟨hw, hop⟩ := hlast vs w listed hmid.inv hallF hvs
          unfold wpOp
          simp only [ho]
          rw [if_pos hw]
          refine .inl (Oper.wp_mono (fun a' w' hq => ih _ a' w' (by simpa using hsz) hfuel (hcl.set hi0) (.inl ⟨fun k hk => ?_, hq⟩)) hop)
          by_cases hki : i = k
          · subst hki
            rw [Array.getD_eq_getD_getElem?, Array.getElem?_setIfInBounds, if_pos rfl, if_pos (by omega)]; rfl
          · rw [Array.getD_eq_getD_getElem?, Array.getElem?_setIfInBounds, if_neg hki]
            have := hallT k (by omega)
            rw [Array.getD_eq_getD_getElem?, Array.getElem?_eq_getElem (by omega)] at this
            rw [Array.getElem?_eq_getElem (by omega)]
            exact this
        · have hit' : i < t := by omega
          have hstep := hsteps.at i o (by rw [List.getElem?_take, if_pos hit']; exact hoL)
          rw [Nat.zero_add] at hstep
          have hbase : ∀ p ∈ base, a.tmps[p.1]?.getD undef = p.2 := by
            intro p hp
            rw [← hb p hp, hmid.other p.1 (hfree p hp)]
          have hfacts : FactsOf L F o.after a w := by
            intro e he hbd
            have he' : e ∈ o.after := by simpa using he
            have h1 := List.all_eq_true.1 hord i (List.mem_range.2 (by omega))
            rw [hoL] at h1
            have h2 := Array.all_eq_true'.1 h1 e he'
            simp only [hbd, Bool.not_true, Bool.false_or, decide_eq_true_eq] at h2
            exact hmid.fact e.on (by omega) (hdeps e he' hbd)
          have hgo : ∀ v w', R w w' → I (listed.setIfInBounds i true) w' → F i v w' → wpAny P .any L.toArray Q fuel (listed.setIfInBounds i true) (a.put o.dst v) w' := by
            intro v w' hg hI hFv
            refine ih _ _ w' (by simpa using hsz) hfuel (hcl.set hi0) (.inr ⟨?_, ?_⟩)
            · rw [Array.getD_eq_getD_getElem?, Array.getElem?_setIfInBounds, if_neg hit, ← Array.getD_eq_getD_getElem?]
              exact htf
            · have hdmem : ∀ d, o.dst = some d → d ∈ dstsOf (L.take t) := fun d hd => by
                unfold dstsOf
                rw [List.mem_filterMap]
                exact ⟨o, List.mem_iff_getElem?.2 ⟨i, by rw [List.getElem?_take, if_pos hit']; exact hoL⟩, hd⟩
              refine ⟨hI, (put_size _ _ _).trans hmid.size, (put_defers _ _ _).trans hmid.defers, fun s hs => (put_get_ne v (fun e => hs (hdmem s e))).trans (hmid.other s hs), fun j hj hlj => ?_⟩
              by_cases hji : i = j
              · subst hji
                unfold FactAt
                rw [hoL]
                simp only [Option.bind_some]
                cases hd : o.dst with
                | none =>
                  have h1 := List.all_eq_true.1 hsome o (List.mem_iff_getElem?.2 ⟨i, by rw [List.getElem?_take, if_pos hit']; exact hoL⟩)
                  rw [hd] at h1
                  cases h1
                | some d =>
                  simp only
                  have : (a.put (some d) v).tmps[d]?.getD undef = v := by
                    rw [put_get v (by
                      rw [hmid.size]
                      have := List.all_eq_true.1 hlow d (hdmem d hd)
                      simpa using this)]
                    rfl
                  rw [this]
                  exact hFv
              · rw [Array.getD_eq_getD_getElem?, Array.getElem?_setIfInBounds, if_neg hji, ← Array.getD_eq_getD_getElem?] at hlj
                have h1 := hmid.fact j hj hlj
                unfold FactAt at h1 ⊢
                cases hjb : (L[j]?).bind (·.dst) with
                | none => rw [hjb] at h1; exact hF j _ w w' hg h1
                | some d =>
                  rw [hjb] at h1
                  have hne : o.dst ≠ some d := fun e => by
                    -- two operations with one slot
                    obtain ⟨oj, hoj, hdj⟩ := Option.bind_eq_some_iff.1 hjb
                    have := nodup_slot hnod (i := i) (j := j) (by rw [List.getElem?_take, if_pos hit']; exact hoL) (by rw [List.getElem?_take, if_pos hj]; exact hoj) e hdj
                    exact hji this
                  have : (a.put o.dst v).tmps[d]?.getD undef = a.tmps[d]?.getD undef := by
                    rw [put_get_ne v hne]
                  simp only [this]
                  exact hF j _ w w' hg h1
          have hun : listed.getD i false = false := by
            rw [Array.getD_eq_getD_getElem?, Array.getElem?_eq_getElem (by omega)] at hl1 ⊢
            simpa using hl1
          obtain ⟨hw, hop⟩ := hstep listed a w hmid.inv hun (fun e he hbd => hdeps e (by simpa using he) hbd) hcl ⟨hbase, hmid.defers⟩ hfacts
          unfold wpOp
          simp only [ho]
          rw [if_pos hw]
          exact .inl (hop _ hgo)


/-- Operation number i waits for number r. -/
def late (L : List Oper) (r : Nat) : Nat → Nat → Bool
  | 0, _ => false
  | n + 1, i => match L[i]? with
    | some o => o.after.toList.any fun e => Region.binds .any e && (decide (e.on = r) || late L r n e.on)
    | none => false
theorem late_listed {r : Nat} {listed : Array Bool} (hcl : Closed .any L.toArray listed) : ∀ {n i : Nat} {o : Oper}, L[i]? = some o → (∀ e ∈ o.after.toList, Region.binds .any e = true → listed.getD e.on false = true) → late L r n i = true → listed.getD r false = true
  | 0, _, _, _, _, h => by cases h
  | n + 1, i, o, ho, hd, h => by
    unfold late at h
    rw [ho] at h
    dsimp only at h
    rw [List.any_eq_true] at h
    obtain ⟨e, he, h2⟩ := h
    simp only [Bool.and_eq_true, Bool.or_eq_true, decide_eq_true_eq] at h2
    have hl := hd e he h2.1
    rcases h2.2 with h3 | h3
    · rw [← h3]; exact hl
    · cases ho2 : L[e.on]? with
      | none =>
        cases n with
        | zero => cases h3
        | succ n => unfold late at h3; rw [ho2] at h3; cases h3
      | some o2 => exact late_listed hcl ho2 (fun e' he' hb' => hcl.2 e.on o2 (by simpa using ho2) hl e' (by simpa using he') hb') h3

/-- A region of which one operation, number r, may change more than the others, that only let memory grow: C holds ahead of it, D behind it. -/
def StepO (R : World → World → Prop) (C D : World → Prop) (P : Program) (Q : Exit → Act → World → Prop) (L : List Oper) (l : List (Value → World → Prop)) (base : List (Nat × Value)) (a0 : Act) (r i : Nat) (f : Value → World → Prop) (o : Oper) : Prop :=
  ∀ a w, (if i = r then C w else if late L r L.length i = true then D w else C w ∨ D w) → BaseAt base a0 a → FactsOf L (factsL l) o.after a w →
    Region.wanted o (yielded L.toArray a.tmps) = true ∧ ∀ K : Act → World → Prop, (∀ v w', R w w' → (if i = r then D w' else (late L r L.length i = true ∨ (C w → C w')) ∧ (D w → D w')) → f v w' → K (a.put o.dst v) w') → o.wp P a w K Q
def StepsO (R : World → World → Prop) (C D : World → Prop) (P : Program) (Q : Exit → Act → World → Prop) (L : List Oper) (l : List (Value → World → Prop)) (base : List (Nat × Value)) (a0 : Act) (r : Nat) : Nat → List (Value → World → Prop) → List Oper → Prop
  | _, [], [] => True
  | k, f :: fs, o :: os => StepO R C D P Q L l base a0 r k f o ∧ StepsO R C D P Q L l base a0 r (k + 1) fs os
  | _, _, _ => False
theorem StepsO.steps {R : World → World → Prop} {C D : World → Prop} {l : List (Value → World → Prop)} {base : List (Nat × Value)} {a0 : Act} {r : Nat} : ∀ {fs : List (Value → World → Prop)} {os : List Oper} {k : Nat}, (∀ j, fs[j]? = l[k + j]?) → (∀ j, j < os.length → k + j < L.length) → (∀ j, j < os.length → L[k + j]? = os[j]?) → StepsO R C D P Q L l base a0 r k fs os →
    StepsJ R (fun listed w => if listed.getD r false = true then D w else C w) P Q L (factsL l) base a0 k os
  | [], [], _, _, _, _, _ => trivial
  | [], _ :: _, _, _, _, _, h => h.elim
  | _ :: _, [], _, _, _, _, h => h.elim
  | f :: fs, o :: os, k, hk, hlen, hat, h => by
    refine ⟨fun listed a w hI hun hd hcl hb hf => ?_, StepsO.steps (k := k + 1) (fun j => by have := hk (j + 1); rw [List.getElem?_cons_succ] at this; rw [this]; congr 1; omega) (fun j hj => by have := hlen (j + 1) (by simpa using hj); omega) (fun j hj => by have := hat (j + 1) (by simpa using hj); rw [List.getElem?_cons_succ] at this; rw [← this]; congr 1; omega) h.2⟩
    have h0 := hk 0
    simp at h0
    dsimp only at hI
    have hks : k < listed.size := by
      have := hlen 0 (by simp)
      rw [hcl.1]
      simpa using this
    have hgk : (listed.setIfInBounds k true).getD k false = true := by
      rw [Array.getD_eq_getD_getElem?, Array.getElem?_setIfInBounds, if_pos rfl, if_pos hks]; rfl
    have hgo : ∀ {v : Value} {w' : World}, f v w' → factsL l k v w' := fun hfv => by
      unfold factsL
      rw [← h0]
      exact hfv
    by_cases hkr : k = r
    · subst hkr
      rw [hun] at hI
      simp only [Bool.false_eq_true, if_false] at hI
      obtain ⟨h1, h2⟩ := h.1 a w (by rw [if_pos rfl]; exact hI) hb hf
      refine ⟨h1, fun K hK => h2 K fun v w' hR hD hfv => hK v w' hR ?_ (hgo hfv)⟩
      dsimp only
      rw [if_pos rfl] at hD
      rw [if_pos hgk]
      exact hD
    · have hgr : (listed.setIfInBounds k true).getD r false = listed.getD r false := by
        rw [Array.getD_eq_getD_getElem?, Array.getElem?_setIfInBounds, if_neg hkr, ← Array.getD_eq_getD_getElem?]
      have hok0 : L[k]? = some o := by have := hat 0 (by simp); simpa using this
      obtain ⟨h1, h2⟩ := h.1 a w (by
        rw [if_neg hkr]
        split
        · rename_i hla
          rw [if_pos (late_listed hcl hok0 hd hla)] at hI
          exact hI
        · split at hI
          · exact .inr hI
          · exact .inl hI) hb hf
      refine ⟨h1, fun K hK => h2 K fun v w' hR hD hfv => hK v w' hR ?_ (hgo hfv)⟩
      dsimp only
      rw [if_neg hkr] at hD
      rw [hgr]
      split at hI
      · rename_i hx; rw [if_pos hx]; exact hD.2 hI
      · rename_i hx
        rw [if_neg hx]
        rcases hD.1 with h5 | h5
        · exact absurd (late_listed hcl hok0 hd h5) hx
        · exact h5 hI
theorem StepO.pure {R : World → World → Prop} {C D : World → Prop} {l : List (Value → World → Prop)} {base : List (Nat × Value)} {a0 : Act} {r i : Nat} {f : Value → World → Prop} {o : Oper} (hi : i ≠ r)
    (h : ∀ a w, C w ∨ D w → BaseAt base a0 a → FactsOf L (factsL l) o.after a w →
      Region.wanted o (yielded L.toArray a.tmps) = true ∧ ∀ K : Act → World → Prop, (∀ v w', R w w' → (C w → C w') → (D w → D w') → f v w' → K (a.put o.dst v) w') → o.wp P a w K Q) : StepO R C D P Q L l base a0 r i f o := fun a w hC hb hf => by
  rw [if_neg hi] at hC
  replace hC : C w ∨ D w := by
    split at hC
    · exact .inr hC
    · exact hC
  refine ⟨(h a w hC hb hf).1, fun K hK => (h a w hC hb hf).2 K fun v w' h1 h2 h3 h4 => hK v w' h1 ?_ h4⟩
  rw [if_neg hi]
  exact ⟨.inr h2, h3⟩
theorem StepO.late {R : World → World → Prop} {C D : World → Prop} {l : List (Value → World → Prop)} {base : List (Nat × Value)} {a0 : Act} {r i : Nat} {f : Value → World → Prop} {o : Oper} (hi : i ≠ r) (hla : Go.Proofs.YtcbebikcfcidmaaDoor.late L r L.length i = true)
    (h : ∀ a w, D w → BaseAt base a0 a → FactsOf L (factsL l) o.after a w →
      Region.wanted o (yielded L.toArray a.tmps) = true ∧ ∀ K : Act → World → Prop, (∀ v w', R w w' → (D w → D w') → f v w' → K (a.put o.dst v) w') → o.wp P a w K Q) : StepO R C D P Q L l base a0 r i f o := fun a w hC hb hf => by
  rw [if_neg hi, if_pos hla] at hC
  refine ⟨(h a w hC hb hf).1, fun K hK => (h a w hC hb hf).2 K fun v w' h1 h2 h4 => hK v w' h1 ?_ h4⟩
  rw [if_neg hi]
  exact ⟨.inl hla, h2⟩
theorem StepO.main {R : World → World → Prop} {C D : World → Prop} {l : List (Value → World → Prop)} {base : List (Nat × Value)} {a0 : Act} {r i : Nat} {f : Value → World → Prop} {o : Oper} (hi : i = r)
    (h : ∀ a w, C w → BaseAt base a0 a → FactsOf L (factsL l) o.after a w →
      Region.wanted o (yielded L.toArray a.tmps) = true ∧ ∀ K : Act → World → Prop, (∀ v w', R w w' → D w' → f v w' → K (a.put o.dst v) w') → o.wp P a w K Q) : StepO R C D P Q L l base a0 r i f o := fun a w hC hb hf => by
  rw [if_pos hi] at hC
  refine ⟨(h a w hC hb hf).1, fun K hK => (h a w hC hb hf).2 K fun v w' h1 h2 h4 => hK v w' h1 ?_ h4⟩
  rw [if_pos hi]
  exact h2
theorem wp_region_one (R : World → World → Prop) (C D : World → Prop) {id : Nat} {a0 : Act} {w0 : World} (l : List (Value → World → Prop)) (base : List (Nat × Value)) (t r : Nat) {last : Oper} (hm : P.follows .mixedOrders = true)
    (hF : ∀ f ∈ l, ∀ v w w', R w w' → f v w → f v w') (hlen : l.length = t) (hr : r < t) (hC : C w0.drew)
    (hok : factOK L t a0.tmps.size = true) (hl : L[t]? = some last)
    (hb : ∀ p ∈ base, a0.tmps[p.1]?.getD undef = p.2) (hfree : base.all (fun p => !(dstsOf (L.take t)).contains p.1) = true)
    (hsteps : StepsO R C D P Q L l base a0 r 0 l (L.take t))
    (hlast : ∀ vs w, D w → FactsL vs w 0 l → Region.wanted last (yielded L.toArray (putF vs (L.take t) 0 a0).tmps) = true ∧ last.wp P (putF vs (L.take t) 0 a0) w (fun a' w' => Q .normal a' w') Q) :
    (Code.region id L.toArray true).wp P Q a0 w0 := by
  have hFF : ∀ i v w w', R w w' → factsL l i v w → factsL l i v w' := fun i v w w' hg hf => by
    unfold factsL at hf ⊢
    cases hx : l[i]? with
    | none => trivial
    | some f =>
      rw [hx] at hf
      exact hF f (List.mem_of_getElem? hx) v w w' hg hf
  have hlt : t < L.length := (List.getElem?_eq_some_iff.1 hl).1
  refine wp_region_any hm (wpAny_factsJ (I := fun listed w => if listed.getD r false = true then D w else C w) hFF hok hl hb (fun p hp => ?_) (StepsO.steps (fun j => by rw [Nat.zero_add]) (fun j hj => by rw [List.length_take] at hj; omega) (fun j hj => by rw [List.length_take] at hj; rw [Nat.zero_add, List.getElem?_take, if_pos (by omega)]) hsteps) (fun vs w listed hI hall h => ?_) _ _ _ _ (by simp) (Nat.le_trans (List.length_filter_le _ _) (by simp)) ⟨by simp, fun j oj _ hl => (by rw [getD_replicate_false] at hl; cases hl)⟩ (.inr ⟨?_, ?_⟩))
  · have := List.all_eq_true.1 hfree p hp
    simpa using this
  · skip
    rw [if_pos (hall r hr)] at hI
    refine hlast vs w hI (FactsL.of fun j f hj => ?_)
    have hjt : j < t := by rw [← hlen]; exact (List.getElem?_eq_some_iff.1 hj).1
    have := h j hjt
    unfold factsL at this
    rw [hj] at this
    rwa [Nat.zero_add]
  · rw [Array.getD_eq_getD_getElem?]
    simp [hlt]
  · refine ⟨?_, rfl, rfl, fun _ _ => rfl, fun j _ hlj => (by rw [getD_replicate_false] at hlj; cases hlj)⟩
    rw [getD_replicate_false]
    simp only [Bool.false_eq_true, if_false]
    exact hC
end
end Go.Proofs.YtcbebikcfcidmaaDoor

namespace Go.Proofs.YtcbebikcfcidmaaDoor
open Go.RowKit Go.Maps

/-- A maker of blocks that are new since w0. -/
structure Ours (w0 w : World) (P : Nat → Prop) (m : Value) (S : MkS) : Prop where
  one : MkAt P w m S
  low : ∀ k, P k → w0.heap.size ≤ k
  grow : Grow w0 w
/-- Blocks of kinds that no call on a maker writes. -/
def Kinds (w w' : World) : Prop := ∀ b cs t, BlkOf w b cs t → t ≠ 47 → t ≠ 52 → BlkOf w' b cs t
theorem Kinds.refl (w : World) : Kinds w w := fun _ _ _ h _ _ => h
theorem Kinds.trans {a b c : World} (h : Kinds a b) (k : Kinds b c) : Kinds a c := fun i cs t hb h1 h2 => k i cs t (h i cs t hb h1 h2) h1 h2
theorem Kinds.of_grow {a b : World} (h : Grow a b) : Kinds a b := fun _ _ _ hb _ _ => hb.below h hb.lt
/-- Behind a call on it. -/
def Then (w0 w : World) (P : Nat → Prop) (m : Value) (S' : MkS) (w' : World) : Prop :=
  Sparing P w w' ∧ ∃ P', (∀ k, P k → P' k) ∧ (∀ k, P' k → P k ∨ w.heap.size ≤ k) ∧ Ours w0 w' P' m S'
section
variable {w0 w w1 w2 w' : World} {P P1 : Nat → Prop} {m : Value} {S S1 S2 : MkS}
theorem Ours.more (h : Ours w0 w P m S) (hg : Grow w w') : Ours w0 w' P m S := ⟨h.one.grow hg, h.low, h.grow.trans hg⟩
theorem Ours.ptr (h : Ours w0 w P m S) : ∃ pm, m = .pointer (some ⟨pm, 0, none⟩) := h.one.ptr
theorem Ours.good (h : Ours w0 w P m S) : Good S := by
  obtain ⟨⟨_, _, _, _, _, _, h5⟩, _, _⟩ := h
  exact h5
theorem Then.kinds (h : Then w0 w P m S w') : Kinds w w' := h.1.kinds
theorem Then.size (h : Then w0 w P m S w') : w.heap.size ≤ w'.heap.size := h.1.size
theorem Then.of_grow (h : Ours w0 w P m S) (hg : Grow w w') : Then w0 w P m S w' := ⟨Sparing.of_grow hg, P, fun _ h => h, fun _ h => .inl h, h.more hg⟩
theorem Then.join (h : Then w0 w P m S1 w1) (k : ∀ P1, Ours w0 w1 P1 m S1 → Then w0 w1 P1 m S2 w2) : Then w0 w P m S2 w2 := by
  obtain ⟨hs, P1, ha, hb, ho⟩ := h
  obtain ⟨hs2, P2, ha2, hb2, ho2⟩ := k P1 ho
  refine ⟨hs.trans hs2 hb, P2, fun k hk => ha2 k (ha k hk), fun k hk => ?_, ho2⟩
  rcases hb2 k hk with h1 | h1
  · exact hb k h1
  · exact .inr (Nat.le_trans hs.size h1)
theorem Then.ours (h : Then w0 w P m S1 w1) : ∃ P1, Ours w0 w1 P1 m S1 := by
  obtain ⟨_, P1, _, _, ho⟩ := h
  exact ⟨P1, ho⟩
/-- One behind the other. -/
theorem Then.next (h : Then w0 w P m S1 w1) : ∃ P1, Ours w0 w1 P1 m S1 ∧ ∀ S2 w2, Then w0 w1 P1 m S2 w2 → Then w0 w P m S2 w2 := by
  obtain ⟨hs, P1, ha, hb, ho⟩ := h
  refine ⟨P1, ho, fun S2 w2 ⟨hs2, P2, ha2, hb2, ho2⟩ => ⟨hs.trans hs2 hb, P2, fun k hk => ha2 k (ha k hk), fun k hk => ?_, ho2⟩⟩
  rcases hb2 k hk with h1 | h1
  · exact hb k h1
  · exact .inr (Nat.le_trans hs.size h1)
theorem Then.ahead (hg : Grow w w1) (h : Then w0 w1 P m S2 w2) : Then w0 w P m S2 w2 := by
  obtain ⟨hs2, P2, ha2, hb2, ho2⟩ := h
  refine ⟨(Sparing.of_grow (P := P) hg).trans hs2 (fun _ h => .inl h), P2, ha2, fun k hk => ?_, ho2⟩
  rcases hb2 k hk with h1 | h1
  · exact .inl h1
  · exact .inr (Nat.le_trans (Below.size hg) h1)
theorem Ours.tells {r : Int × Int × MkS} {e : Ending} (h : Ours w0 w P m S) (hp : MkPost P m w r e w') : e = .returned (.tuple #[.int .i64 r.1, .int .i64 r.2.1]) ∧ Then w0 w P m r.2.2 w' := by
  obtain ⟨he, hs, P', hP, hP', hm⟩ := hp
  refine ⟨he, hs, P', hP, hP', hm, fun k hk => ?_, Below.trans h.grow (hs.below h.low (Below.size h.grow))⟩
  rcases hP' k hk with h1 | h1
  · exact h.low k h1
  · exact Nat.le_trans (Below.size h.grow) h1
end

/-- Places are small. -/
theorem kyAt_lt {L : List Ky} {k : Ky} {i : Nat} (h : kyAt L k = some i) : i < L.length := by
  unfold kyAt at h
  rw [List.findIdx?_eq_some_iff_getElem] at h
  exact h.1
theorem putS_i64 {S : MkS} (h : Good S) (x : Nd) : I64 (putS S x).1 ∧ I64 (putS S x).2.1 := by
  have hl : S.l.length ≤ 20000 := Nat.le_trans h.2.2.2.1 h.2.1
  unfold putS
  split
  · rename_i i hi
    have := kyAt_lt hi
    rw [List.length_map] at this
    exact ⟨⟨by show -9223372036854775808 ≤ (i : Int); omega, by show (i : Int) ≤ 9223372036854775807; omega⟩, i64_zero⟩
  · split
    · exact ⟨i64_zero, (⟨by decide, by decide⟩ : I64 171)⟩
    · exact ⟨⟨by show -9223372036854775808 ≤ (S.l.length : Int); omega, by show (S.l.length : Int) ≤ 9223372036854775807; omega⟩, i64_zero⟩
theorem ofS_i64 {S : MkS} (h : Good S) (f0 f1 f2 : Nat) (x : Nd) : I64 (ofS S f0 f1 f2 x).1 := by
  unfold ofS
  split
  · exact (putS_i64 h x).1
  · exact i64_zero
theorem numS_i64 {S : MkS} (h : Good S) (x : Fr) : I64 (numS S x).1 := by
  unfold numS
  split
  · exact (putS_i64 h _).1
  · exact i64_zero

/-- Behind a step that is made, or fails. -/
def StepPost (w0 w : World) (P : Nat → Prop) (m : Value) (r : Int × Int × MkS) (e : Ending) (w' : World) : Prop :=
  Then w0 w P m r.2.2 w' ∧ I64 r.1 ∧ (r.2.1 = 0 ∧ e = .returned (.int .i64 r.1) ∨ r.2.1 ≠ 0 ∧ e = .panicked (thrown r.2.1))
/-- A function that makes a step of the last one. -/
def Link (w0 : World) (m : Value) (g : Int → MkS → Int × Int × MkS) (v : Value) (W : World) : Prop :=
  ∃ f first cap, v = .func (.func f) first cap ∧ (∀ args w, (callFunc f args).run Tryd.prog w = .ok (.enter f args) w) ∧ ∀ W' P S i, Kinds W W' → Ours w0 W' P m S → I64 i → Calls Tryd.prog f (first.push (.int .i64 i) ++ cap) W' (StepPost w0 W' P m (g i S))
theorem Link.kinds {w0 W W' : World} {m : Value} {g : Int → MkS → Int × Int × MkS} {v : Value} (h : Link w0 m g v W) (hk : Kinds W W') : Link w0 m g v W' := by
  obtain ⟨f, first, cap, rfl, he, hc⟩ := h
  exact ⟨f, first, cap, rfl, he, fun W2 P S i h2 => hc W2 P S i (hk.trans h2)⟩
/-- A row of them, one behind the other, till one fails. -/
def runL : List (Int → MkS → Int × Int × MkS) → Int → MkS → Int × Int × MkS
  | [], i, S => (i, 0, S)
  | g :: gs, i, S => if (g i S).2.1 = 0 then runL gs (g i S).1 (g i S).2.2 else g i S
end Go.Proofs.YtcbebikcfcidmaaDoor

namespace Go.Proofs.YtcbebikcfcidmaaDoor
open Go.RowKit Go.Maps

theorem must_ok (a : Int) (w : World) : Calls Tryd.prog 48 #[.int .i64 a, .int .i64 0] w (Same (.int .i64 a) w) := by
  go_enter Tryd.func48, Tryd.ntmps48
  go_wp2_with fail
  go_ret
  exact ⟨rfl, rfl⟩
theorem must_bad (a b : Int) (w : World) (hb : ¬ b = 0) : Calls Tryd.prog 48 #[.int .i64 a, .int .i64 b] w (fun e w' => e = .panicked (thrown b) ∧ w' = w) := by
  go_enter Tryd.func48, Tryd.ntmps48
  go_wp2_with fail
  exact ⟨rfl, rfl, rfl⟩

section
variable {w0 w : World} {P : Nat → Prop} {m : Value} {S : MkS}
set_option maxHeartbeats 1000000 in
theorem two_any {op : Nat} {a b : Int} (h : Ours w0 w P m S) (ht : Tab w0) (hop : op < 256) (ha : I64 a) (hb : I64 b) :
    Calls Tryd.prog 51 #[.agg #[m], .int .u8 (op : Int), .int .i64 a, .int .i64 b] w (StepPost w0 w P m (twoS S op a b)) := by
  obtain ⟨pm, rfl⟩ := h.ptr
  obtain ⟨W1, hW1⟩ : ∃ W1, W1 = w.alloc (.cells #[.pointer (some ⟨pm, 0, none⟩)] 60) := ⟨_, rfl⟩
  have hg1 : Grow w W1 := by rw [hW1]; exact Grow.alloc w _
  have HT2 := Lib.hid (two_some (h.more hg1).one hop ha hb (ht.grow (h.more hg1).grow))
  have HO := Lib.hid (h.more hg1)
  have HG := Lib.hid hg1
  obtain ⟨r, hr⟩ : ∃ r, r = twoS S op a b := ⟨_, rfl⟩
  have HI2 : Hid (I64 r.1) := Lib.hid (by rw [hr]; exact ofS_i64 h.good 3 3 0 (bareNd op a b))
  have HR := Lib.hid hr
  rw [← hr] at HT2 ⊢
  subst hW1
  clear h hg1 hr
  go_enter Tryd.func51, Tryd.ntmps51
  go_wp2_with (first | (go_at_call 64; refine HT2.out.mono ?_) | fail)
  intro e w2 hp
  obtain ⟨rfl, hth⟩ := HO.out.tells hp
  have HTH := Lib.hid (hth.ahead HG.out)
  clear hp hth HR
  obtain ⟨i, e, S'⟩ := r
  dsimp only at *
  by_cases he : e = 0
  · subst he
    go_wp2_with (first | (go_at_call 48; refine (must_ok i _).mono ?_; rintro e w3 ⟨rfl, rfl⟩) | fail)
    go_ret
    exact ⟨HTH.out, HI2.out, .inl ⟨rfl, rfl⟩⟩
  · have HE := Lib.hid he
    clear he
    go_wp2_with (first | (go_at_call 48; refine (must_bad i e _ HE.out).mono ?_; rintro e' w3 ⟨rfl, rfl⟩) | fail)
    exact ⟨rfl, HTH.out, HI2.out, .inr ⟨HE.out, rfl⟩⟩

/-- A box of a value. -/
def BoxOf (W : World) (b : Nat) (v : Value) (t : TypeId) : Prop := BlkOf W b #[v] t
theorem BoxOf.kinds {W W' : World} {b : Nat} {v : Value} {t : TypeId} (h : BoxOf W b v t) (hk : Kinds W W') (h1 : t ≠ 47) (h2 : t ≠ 52) : BoxOf W' b v t := hk _ _ _ h h1 h2

set_option maxHeartbeats 1000000 in
theorem ofstep_any {op b1 b2 : Nat} {i : Int} (h : Ours w0 w P m S) (ht : Tab w0) (hop : op < 256) (hi : I64 i) (h1 : BlkOf w b1 #[m] 60) (h2 : BlkOf w b2 #[.int .u8 (op : Int)] 5) :
    Calls Tryd.prog 49 #[.int .i64 i, .pointer (some ⟨b1, 0, none⟩), .pointer (some ⟨b2, 0, none⟩)] w (StepPost w0 w P m (oneS S op i)) := by
  obtain ⟨pm, rfl⟩ := h.ptr
  have HT2 := Lib.hid (one_some h.one hop hi (ht.grow h.grow))
  have HO := Lib.hid h
  obtain ⟨r, hr⟩ : ∃ r, r = oneS S op i := ⟨_, rfl⟩
  have HI2 : Hid (I64 r.1) := Lib.hid (by rw [hr]; exact ofS_i64 h.good 3 0 0 (bareNd op i 0))
  have HR := Lib.hid hr
  rw [← hr] at HT2 ⊢
  have c1 := h1.at 0 rfl
  have c2 := h2.at 0 rfl
  clear h h1 h2 hr
  go_enter Tryd.func49, Tryd.ntmps49
  go_wp2_with (first | (go_at_call 30; refine HT2.out.mono ?_) | fail)
  intro e w2 hp
  obtain ⟨rfl, hth⟩ := HO.out.tells hp
  have HTH := Lib.hid hth
  clear hp hth HR
  obtain ⟨i, e, S'⟩ := r
  dsimp only at *
  by_cases he : e = 0
  · subst he
    go_wp2_with (first | (go_at_call 48; refine (must_ok i _).mono ?_; rintro e w3 ⟨rfl, rfl⟩) | fail)
    go_ret
    exact ⟨HTH.out, HI2.out, .inl ⟨rfl, rfl⟩⟩
  · have HE := Lib.hid he
    clear he
    go_wp2_with (first | (go_at_call 48; refine (must_bad i e _ HE.out).mono ?_; rintro e' w3 ⟨rfl, rfl⟩) | fail)
    exact ⟨rfl, HTH.out, HI2.out, .inr ⟨HE.out, rfl⟩⟩

/-- What two tells, told through a function of its own. -/
theorem StepPost.panic_or {r : Int × Int × MkS} {e : Ending} {w' : World} (h : StepPost w0 w P m r e w') : (∃ i S', r = (i, 0, S') ∧ e = .returned (.int .i64 i)) ∨ (r.2.1 ≠ 0 ∧ e = .panicked (thrown r.2.1)) := by
  obtain ⟨i, e0, S'⟩ := r
  rcases h.2.2 with ⟨h1, h2⟩ | h1
  · dsimp only at h1 h2
    subst h1
    exact .inl ⟨i, S', rfl, h2⟩
  · exact .inr h1

set_option maxHeartbeats 1000000 in
theorem afterstep_any {op b1 b2 b3 : Nat} {a i : Int} (h : Ours w0 w P m S) (ht : Tab w0) (hop : op < 256) (ha : I64 a) (hi : I64 i) (h1 : BlkOf w b1 #[m] 60) (h2 : BlkOf w b2 #[.int .u8 (op : Int)] 5) (h3 : BlkOf w b3 #[.int .i64 a] 3) :
    Calls Tryd.prog 50 #[.int .i64 i, .pointer (some ⟨b1, 0, none⟩), .pointer (some ⟨b2, 0, none⟩), .pointer (some ⟨b3, 0, none⟩)] w (StepPost w0 w P m (twoS S op a i)) := by
  obtain ⟨pm, rfl⟩ := h.ptr
  have HT2 := Lib.hid (two_any h ht hop ha hi)
  have c1 := h1.at 0 rfl
  have c2 := h2.at 0 rfl
  have c3 := h3.at 0 rfl
  clear h h1 h2 h3
  go_enter Tryd.func50, Tryd.ntmps50
  go_wp2_with (first | (go_at_call 51; refine HT2.out.mono ?_) | fail)
  intro e w2 hp
  have HP := Lib.hid hp
  rcases hp.panic_or with ⟨j, S', hr, rfl⟩ | ⟨hr, rfl⟩
  · clear hp
    go_wp2_with fail
    go_ret
    exact HP.out
  · clear hp
    go_wp2_with fail
    exact ⟨rfl, HP.out⟩
set_option maxHeartbeats 1000000 in
theorem aheadstep_any {op b1 b2 b3 : Nat} {b i : Int} (h : Ours w0 w P m S) (ht : Tab w0) (hop : op < 256) (hb : I64 b) (hi : I64 i) (h1 : BlkOf w b1 #[m] 60) (h2 : BlkOf w b2 #[.int .u8 (op : Int)] 5) (h3 : BlkOf w b3 #[.int .i64 b] 3) :
    Calls Tryd.prog 65 #[.int .i64 i, .pointer (some ⟨b1, 0, none⟩), .pointer (some ⟨b2, 0, none⟩), .pointer (some ⟨b3, 0, none⟩)] w (StepPost w0 w P m (twoS S op i b)) := by
  obtain ⟨pm, rfl⟩ := h.ptr
  have HT2 := Lib.hid (two_any h ht hop hi hb)
  have c1 := h1.at 0 rfl
  have c2 := h2.at 0 rfl
  have c3 := h3.at 0 rfl
  clear h h1 h2 h3
  go_enter Tryd.func65, Tryd.ntmps65
  go_wp2_with (first | (go_at_call 51; refine HT2.out.mono ?_) | fail)
  intro e w2 hp
  have HP := Lib.hid hp
  rcases hp.panic_or with ⟨j, S', hr, rfl⟩ | ⟨hr, rfl⟩
  · clear hp
    go_wp2_with fail
    go_ret
    exact HP.out
  · clear hp
    go_wp2_with fail
    exact ⟨rfl, HP.out⟩

theorem of_link {op : Nat} (m : Value) (w0 w : World) (hm : ∃ pm, m = .pointer (some ⟨pm, 0, none⟩)) (ht : Tab w0) (hop : op < 256) :
    Calls Tryd.prog 33 #[.agg #[m], .int .u8 (op : Int)] w (fun e w' => ∃ v, e = .returned v ∧ Link w0 m (fun i S => oneS S op i) v w' ∧ Grow w w') := by
  have hmf : ∀ (fn : Fn) (first cap : Array Value) (w : World), (Instr.makeFunc fn first cap).run Tryd.prog w = .ok (.func fn first cap) w := fun _ _ _ _ => rfl
  obtain ⟨pm, rfl⟩ := hm
  go_enter Tryd.func33, Tryd.ntmps33
  go_wp2_with fail
  go_ret
  have b1 : BlkOf ((w.alloc (.cells #[.pointer (some ⟨pm, 0, none⟩)] 60)).alloc (.cells #[.int .u8 (op : Int)] 5)) w.heap.size #[.pointer (some ⟨pm, 0, none⟩)] 60 := (BlkOf.new w _ _).alloc _
  have b2 : BlkOf ((w.alloc (.cells #[.pointer (some ⟨pm, 0, none⟩)] 60)).alloc (.cells #[.int .u8 (op : Int)] 5)) (w.heap.size + 1) #[.int .u8 (op : Int)] 5 := BlkOf.news (by simp) _ _
  refine ⟨_, rfl, ⟨_, _, _, rfl, enters_of Tryd.func49 (by kernel_rfl) rfl, fun W' P S i hk ho hi => ?_⟩, (Grow.alloc w _).trans (Grow.alloc _ _)⟩
  exact ofstep_any ho ht hop hi (hk _ _ _ b1 (by decide) (by decide)) (hk _ _ _ b2 (by decide) (by decide))
theorem after_link {op : Nat} {a : Int} (m : Value) (w0 w : World) (hm : ∃ pm, m = .pointer (some ⟨pm, 0, none⟩)) (ht : Tab w0) (hop : op < 256) (ha : I64 a) :
    Calls Tryd.prog 34 #[.agg #[m], .int .u8 (op : Int), .int .i64 a] w (fun e w' => ∃ v, e = .returned v ∧ Link w0 m (fun i S => twoS S op a i) v w' ∧ Grow w w') := by
  have hmf : ∀ (fn : Fn) (first cap : Array Value) (w : World), (Instr.makeFunc fn first cap).run Tryd.prog w = .ok (.func fn first cap) w := fun _ _ _ _ => rfl
  obtain ⟨pm, rfl⟩ := hm
  go_enter Tryd.func34, Tryd.ntmps34
  go_wp2_with fail
  go_ret
  obtain ⟨W, hW⟩ : ∃ W, W = (((w.alloc (.cells #[.pointer (some ⟨pm, 0, none⟩)] 60)).alloc (.cells #[.int .u8 (op : Int)] 5)).alloc (.cells #[.int .i64 a] 3)) := ⟨_, rfl⟩
  have b1 : BlkOf W w.heap.size #[.pointer (some ⟨pm, 0, none⟩)] 60 := by rw [hW]; exact ((BlkOf.new w _ _).alloc _).alloc _
  have b2 : BlkOf W (w.heap.size + 1) #[.int .u8 (op : Int)] 5 := by rw [hW]; exact (BlkOf.news (by simp) _ _).alloc _
  have b3 : BlkOf W (w.heap.size + 2) #[.int .i64 a] 3 := by rw [hW]; exact BlkOf.news (by simp) _ _
  have hg : Grow w W := by rw [hW]; exact ((Grow.alloc w _).trans (Grow.alloc _ _)).trans (Grow.alloc _ _)
  rw [← hW]
  refine ⟨_, rfl, ⟨_, _, _, rfl, enters_of Tryd.func50 (by kernel_rfl) rfl, fun W' P S i hk ho hi => ?_⟩, hg⟩
  exact afterstep_any ho ht hop ha hi (hk _ _ _ b1 (by decide) (by decide)) (hk _ _ _ b2 (by decide) (by decide)) (hk _ _ _ b3 (by decide) (by decide))
theorem ahead_link {op : Nat} {a : Int} (m : Value) (w0 w : World) (hm : ∃ pm, m = .pointer (some ⟨pm, 0, none⟩)) (ht : Tab w0) (hop : op < 256) (ha : I64 a) :
    Calls Tryd.prog 52 #[.agg #[m], .int .u8 (op : Int), .int .i64 a] w (fun e w' => ∃ v, e = .returned v ∧ Link w0 m (fun i S => twoS S op i a) v w' ∧ Grow w w') := by
  have hmf : ∀ (fn : Fn) (first cap : Array Value) (w : World), (Instr.makeFunc fn first cap).run Tryd.prog w = .ok (.func fn first cap) w := fun _ _ _ _ => rfl
  obtain ⟨pm, rfl⟩ := hm
  go_enter Tryd.func52, Tryd.ntmps52
  go_wp2_with fail
  go_ret
  obtain ⟨W, hW⟩ : ∃ W, W = (((w.alloc (.cells #[.pointer (some ⟨pm, 0, none⟩)] 60)).alloc (.cells #[.int .u8 (op : Int)] 5)).alloc (.cells #[.int .i64 a] 3)) := ⟨_, rfl⟩
  have b1 : BlkOf W w.heap.size #[.pointer (some ⟨pm, 0, none⟩)] 60 := by rw [hW]; exact ((BlkOf.new w _ _).alloc _).alloc _
  have b2 : BlkOf W (w.heap.size + 1) #[.int .u8 (op : Int)] 5 := by rw [hW]; exact (BlkOf.news (by simp) _ _).alloc _
  have b3 : BlkOf W (w.heap.size + 2) #[.int .i64 a] 3 := by rw [hW]; exact BlkOf.news (by simp) _ _
  have hg : Grow w W := by rw [hW]; exact ((Grow.alloc w _).trans (Grow.alloc _ _)).trans (Grow.alloc _ _)
  rw [← hW]
  refine ⟨_, rfl, ⟨_, _, _, rfl, enters_of Tryd.func65 (by kernel_rfl) rfl, fun W' P S i hk ho hi => ?_⟩, hg⟩
  exact aheadstep_any ho ht hop ha hi (hk _ _ _ b1 (by decide) (by decide)) (hk _ _ _ b2 (by decide) (by decide)) (hk _ _ _ b3 (by decide) (by decide))
end
end Go.Proofs.YtcbebikcfcidmaaDoor
