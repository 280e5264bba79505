/-
  The texts ChaNum, ChaTwice, ChaRow, ChaPair, ChaLow, one behind the other.
-/
import Derived.Test.YtcbebikcfcidmaaDoorChaZ16
import Derived.Test.YtcbebikcfcidmaaDoorChaZ13

namespace Go.Proofs.YtcbebikcfcidmaaDoor
open Go.RowKit Go.Maps

theorem nrow_kinds {B : Nat} {w w' : World} {v : Value} {L : List Nat} (h : NRow B w v L) (hk : Kinds w w') : NRow B w' v L := by
  refine ownsRow_kept (P := fun g => v.ownBlock = some g) h (fun _ hg => hg) (fun g hg => ?_)
  obtain ⟨_, _, cur, hc⟩ := ownsRow_own h hg
  exact (hk g cur _ hc (by decide) (by decide)).trans hc.symm
theorem fr_of_rows {n : Nat} {W : World} {x y : Value} (h1 : NRow 0 W x (nrow n)) (h2 : NRow 0 W y (nrow 1)) (hl : (nrow n).length ≤ 2048) : FrAt 2048 W ⟨false, nrow n, nrow 1⟩ x y :=
  ⟨h1.raw, h2.raw, hl, (by decide : (nrow 1).length ≤ 2048)⟩
theorem of_rows (k : Nat) (hk : k ≤ 9223372036854775807) (w : World) : Calls Tryd.prog 8 #[.int .i64 (k : Int)] w fun e w' => ∃ x c y c', e = .returned (.agg #[.bool false, .slice x (nrow k).length c, .slice y (nrow 1).length c']) ∧ NRow 0 w' (.slice x (nrow k).length c) (nrow k) ∧ NRow 0 w' (.slice y (nrow 1).length c') (nrow 1) ∧ Grow w w' := by
  refine (fof_any k w hk).mono ?_
  rintro e w' ⟨v, rfl, ⟨x, c, y, c', rfl, h1, h2⟩, hb⟩
  exact ⟨x, c, y, c', rfl, h1.more (Nat.zero_le _), h2.more (Nat.zero_le _), hb⟩

section
variable {w0 w : World} {P : Nat → Prop} {m : Value} {S : MkS}
set_option maxRecDepth 100000 in
set_option maxHeartbeats 2000000 in
theorem cnum_any {n : Nat} (h : Ours w0 w P m S) (hn : n ≤ 9223372036854775807) (hl : (nrow n).length ≤ 2048) :
    Calls Tryd.prog 31 #[.agg #[m], .int .i64 (n : Int)] w (StepPost w0 w P m (numS S ⟨false, nrow n, nrow 1⟩)) := by
  obtain ⟨pm, rfl⟩ := h.ptr
  obtain ⟨W1, hW1⟩ : ∃ W1, W1 = w.alloc (.cells #[.pointer (some ⟨pm, 0, none⟩)] 60) := ⟨_, rfl⟩
  have hg1 : Grow w W1 := by rw [hW1]; exact Grow.alloc w _
  have hb1 : BlkOf W1 w.heap.size #[.pointer (some ⟨pm, 0, none⟩)] 60 := by rw [hW1]; exact BlkOf.new w _ _
  obtain ⟨r, hr⟩ : ∃ r, r = numS S ⟨false, nrow n, nrow 1⟩ := ⟨_, rfl⟩
  have HI2 : Hid (I64 r.1) := Lib.hid (by rw [hr]; exact numS_i64 h.good _)
  have hnum : ∀ W, Grow W1 W → ∀ x c y c', NRow 0 W (.slice x (nrow n).length c) (nrow n) → NRow 0 W (.slice y (nrow 1).length c') (nrow 1) →
      Calls Tryd.prog 7 #[.pointer (some ⟨pm, 0, none⟩), .agg #[.bool false, .slice x (nrow n).length c, .slice y (nrow 1).length c']] W (fun e W' => e = .returned (.tuple #[.int .i64 r.1, .int .i64 r.2.1]) ∧ Then w0 W P (.pointer (some ⟨pm, 0, none⟩)) r.2.2 W') := fun W hW x c y c' hx hy => by
    rw [hr]
    exact (num_some (h.more (hg1.trans hW)).one (fr_of_rows hx hy hl) (by decide)).mono fun e W' hp => (h.more (hg1.trans hW)).tells hp
  rw [← hr]
  obtain ⟨i0, e0, S'⟩ := r
  dsimp only at hnum HI2
  have HNUM := Lib.hid hnum
  have HGC : Hid (∀ W W', Grow W W' → (Grow W1 W → Grow W1 W') ∧ (Then w0 W1 P (.pointer (some ⟨pm, 0, none⟩)) S' W → Then w0 W1 P (.pointer (some ⟨pm, 0, none⟩)) S' W')) := Lib.hid fun W W' hg => ⟨fun h => h.trans hg, fun h => h.join fun P1 ho => Then.of_grow ho hg⟩
  have HCELL : Hid (∀ W, Grow W1 W ∨ Then w0 W1 P (.pointer (some ⟨pm, 0, none⟩)) S' W → W.cell? ⟨w.heap.size, 0, none⟩ = some (.pointer (some ⟨pm, 0, none⟩))) := Lib.hid fun W hW => by
    rcases hW with hW | hW
    · exact (hb1.below hW hb1.lt).at 0 rfl
    · exact BlkOf.at (hW.kinds _ _ _ hb1 (by decide) (by decide)) 0 rfl
  have HG1 := Lib.hid hg1
  have HOF := Lib.hid (of_rows n hn)
  subst hW1
  clear h hg1 hr hb1 hnum
  go_enter Tryd.func31, Tryd.ntmps31
  go_wp2_with fail
  refine wp_region_one Kinds (fun W => Grow (w.alloc (.cells #[.pointer (some ⟨pm, 0, none⟩)] 60)) W) (fun W => Then w0 (w.alloc (.cells #[.pointer (some ⟨pm, 0, none⟩)] 60)) P (.pointer (some ⟨pm, 0, none⟩)) S' W) [fun v _ => v = .pointer (some ⟨w.heap.size, 0, none⟩), fun v _ => v = .pointer (some ⟨pm, 0, none⟩), fun v _ => v = .int .i64 (n : Int), fun v W => ∃ x c y c', v = .agg #[.bool false, .slice x (nrow n).length c, .slice y (nrow 1).length c'] ∧ NRow 0 W (.slice x (nrow n).length c) (nrow n) ∧ NRow 0 W (.slice y (nrow 1).length c') (nrow 1), fun v _ => v = .tuple #[.int .i64 i0, .int .i64 e0], fun v _ => v = .int .i64 i0, fun v _ => v = .int .i64 e0, fun v _ => v = .int .i64 i0 ∧ e0 = 0]
    [(2, .pointer (some ⟨w.heap.size, 0, none⟩)), (1, .int .i64 (n : Int))] 8 4 (by kernel_rfl) ?stay rfl (by decide) ?atC (by kernel_rfl) rfl ?base (by kernel_rfl) ⟨?_, ?_, ?_, ?_, ?_, ?_, ?_, ?_, trivial⟩ ?last
  case stay =>
    simp only [List.forall_mem_cons, List.not_mem_nil, false_imp_iff, implies_true, and_true]
    exact ⟨fun _ _ _ _ h => h, fun _ _ _ _ h => h, fun _ _ _ _ h => h, fun _ _ _ hk h => (by obtain ⟨x, c, y, c', e, h1, h2⟩ := h; exact ⟨x, c, y, c', e, nrow_kinds h1 hk, nrow_kinds h2 hk⟩), fun _ _ _ _ h => h, fun _ _ _ _ h => h, fun _ _ _ _ h => h, fun _ _ _ _ h => h⟩
  case atC => exact Grow.drew _
  case base => simp
  case last =>
    intro vs W hW hv
    simp only [FactsL, Nat.zero_add, Nat.reduceAdd] at hv
    have v7 := hv.2.2.2.2.2.2.2.1
    clear hv
    refine ⟨rfl, ?_⟩
    simp only [List.take_succ_cons, List.take_zero, putF, Act.put, List.setIfInBounds_toArray, List.set_cons_zero, List.set_cons_succ, Nat.reduceAdd, v7]
    obtain ⟨e12, rfl⟩ := v7
    unfold Oper.wp
    simp [execOp, go_sem]
    have HTH := Lib.hid (hW.ahead HG1.out)
    clear hW
    go_wp2_with fail
    go_ret
    exact ⟨HTH.out, HI2.out, .inl ⟨rfl, rfl⟩⟩
  · refine StepO.pure (by decide) fun a' W hW hb hf => ⟨rfl, fun K hK => ?_⟩
    obtain ⟨hb, hdf⟩ := hb
    have HDF := Lib.hid hdf
    clear hdf
    simp only [List.forall_mem_cons, List.not_mem_nil, false_imp_iff, implies_true, and_true] at hb
    obtain ⟨m2, m1⟩ := hb
    simp [FactsOf, FactAt, Region.binds, factsL] at hf
    have c0 := HCELL.out W hW
    unfold Oper.wp
    simp [execOp, go_sem, *]
    exact hK _ _ (Kinds.refl _) id id rfl
  · refine StepO.pure (by decide) fun a' W hW hb hf => ⟨rfl, fun K hK => ?_⟩
    obtain ⟨hb, hdf⟩ := hb
    have HDF := Lib.hid hdf
    clear hdf
    simp only [List.forall_mem_cons, List.not_mem_nil, false_imp_iff, implies_true, and_true] at hb
    obtain ⟨m2, m1⟩ := hb
    simp [FactsOf, FactAt, Region.binds, factsL] at hf
    have c0 := HCELL.out W hW
    unfold Oper.wp
    simp [execOp, go_sem, *]
    exact hK _ _ (Kinds.refl _) id id rfl
  · refine StepO.pure (by decide) fun a' W hW hb hf => ⟨rfl, fun K hK => ?_⟩
    obtain ⟨hb, hdf⟩ := hb
    have HDF := Lib.hid hdf
    clear hdf
    simp only [List.forall_mem_cons, List.not_mem_nil, false_imp_iff, implies_true, and_true] at hb
    obtain ⟨m2, m1⟩ := hb
    simp [FactsOf, FactAt, Region.binds, factsL] at hf
    have c0 := HCELL.out W hW
    unfold Oper.wp
    simp [execOp, go_sem, *]
    exact hK _ _ (Kinds.refl _) id id rfl
  · refine StepO.pure (by decide) fun a' W hW hb hf => ⟨rfl, fun K hK => ?_⟩
    obtain ⟨hb, hdf⟩ := hb
    have HDF := Lib.hid hdf
    clear hdf
    simp only [List.forall_mem_cons, List.not_mem_nil, false_imp_iff, implies_true, and_true] at hb
    obtain ⟨m2, m1⟩ := hb
    simp [FactsOf, FactAt, Region.binds, factsL] at hf
    unfold Oper.wp
    simp [go_sem, *]
    refine (HOF.out W).mono ?_
    rintro e W' ⟨x, c, y, c', rfl, h1, h2, hg⟩
    exact hK _ _ (Kinds.of_grow hg) (HGC.out W W' hg).1 (HGC.out W W' hg).2 ⟨x, c, y, c', rfl, h1, h2⟩
  · refine StepO.main (by decide) fun a' W hW hb hf => ⟨rfl, fun K hK => ?_⟩
    obtain ⟨hb, hdf⟩ := hb
    have HDF := Lib.hid hdf
    clear hdf
    simp only [List.forall_mem_cons, List.not_mem_nil, false_imp_iff, implies_true, and_true] at hb
    obtain ⟨m2, m1⟩ := hb
    simp [FactsOf, FactAt, Region.binds, factsL] at hf
    obtain ⟨h6, x, c, y, c', h8, hx, hy⟩ := hf
    unfold Oper.wp
    simp [go_sem, *]
    refine (HNUM.out W hW x c y c' hx hy).mono ?_
    rintro e W' ⟨rfl, hth⟩
    exact hK _ _ hth.kinds (hth.ahead hW) rfl
  · refine StepO.late (by decide) (by kernel_rfl) fun a' W hW hb hf => ⟨rfl, fun K hK => ?_⟩
    obtain ⟨hb, hdf⟩ := hb
    have HDF := Lib.hid hdf
    clear hdf
    simp only [List.forall_mem_cons, List.not_mem_nil, false_imp_iff, implies_true, and_true] at hb
    obtain ⟨m2, m1⟩ := hb
    simp [FactsOf, FactAt, Region.binds, factsL] at hf
    have c0 := HCELL.out W (.inr hW)
    unfold Oper.wp
    simp [execOp, go_sem, *]
    exact hK _ _ (Kinds.refl _) id rfl
  · refine StepO.late (by decide) (by kernel_rfl) fun a' W hW hb hf => ⟨rfl, fun K hK => ?_⟩
    obtain ⟨hb, hdf⟩ := hb
    have HDF := Lib.hid hdf
    clear hdf
    simp only [List.forall_mem_cons, List.not_mem_nil, false_imp_iff, implies_true, and_true] at hb
    obtain ⟨m2, m1⟩ := hb
    simp [FactsOf, FactAt, Region.binds, factsL] at hf
    have c0 := HCELL.out W (.inr hW)
    unfold Oper.wp
    simp [execOp, go_sem, *]
    exact hK _ _ (Kinds.refl _) id rfl
  · refine StepO.late (by decide) (by kernel_rfl) fun a' W hW hb hf => ⟨rfl, fun K hK => ?_⟩
    obtain ⟨hb, hdf⟩ := hb
    have HDF := Lib.hid hdf
    clear hdf
    simp only [List.forall_mem_cons, List.not_mem_nil, false_imp_iff, implies_true, and_true] at hb
    obtain ⟨m2, m1⟩ := hb
    simp [FactsOf, FactAt, Region.binds, factsL] at hf
    unfold Oper.wp
    simp [go_sem, *]
    by_cases he : e0 = 0
    · subst he
      refine (must_ok i0 W).mono ?_
      rintro e W' ⟨rfl, rfl⟩
      exact hK _ _ (Kinds.refl _) id ⟨rfl, rfl⟩
    · refine (must_bad i0 e0 W he).mono ?_
      rintro e W' ⟨rfl, rfl⟩
      exact ⟨HDF.out, hW.ahead HG1.out, HI2.out, .inr ⟨he, rfl⟩⟩
end
end Go.Proofs.YtcbebikcfcidmaaDoor

namespace Go.Proofs.YtcbebikcfcidmaaDoor
open Go.RowKit Go.Maps

def frOf (n : Nat) : Fr := ⟨false, nrow n, nrow 1⟩
def twiceS (i : Int) (S : MkS) : Int × Int × MkS := if (numS S (frOf 2)).2.1 = 0 then twoS (numS S (frOf 2)).2.2 5 (numS S (frOf 2)).1 i else numS S (frOf 2)

section
variable {w0 w : World} {P : Nat → Prop} {m : Value} {S : MkS}
set_option maxRecDepth 100000 in
set_option maxHeartbeats 2000000 in
theorem twice_any {i : Int} (h : Ours w0 w P m S) (ht : Tab w0) (hi : I64 i) :
    Calls Tryd.prog 53 #[.agg #[m], .int .i64 i] w (StepPost w0 w P m (twiceS i S)) := by
  obtain ⟨pm, rfl⟩ := h.ptr
  obtain ⟨W1, hW1⟩ : ∃ W1, W1 = w.alloc (.cells #[.pointer (some ⟨pm, 0, none⟩)] 60) := ⟨_, rfl⟩
  have hg1 : Grow w W1 := by rw [hW1]; exact Grow.alloc w _
  have hb1 : BlkOf W1 w.heap.size #[.pointer (some ⟨pm, 0, none⟩)] 60 := by rw [hW1]; exact BlkOf.new w _ _
  have HNUM := Lib.hid (cnum_any (n := 2) (h.more (hg1.trans (Grow.drew W1))) (by decide) (by decide))
  have HB := Lib.hid hb1
  have HG := Lib.hid (hg1.trans (Grow.drew W1))
  have HTAB := Lib.hid ht
  have HI := Lib.hid hi
  obtain ⟨r, hr⟩ : ∃ r, r = twiceS i S := ⟨_, rfl⟩
  have HR := Lib.hid hr
  rw [← hr]
  have c0 := hb1.at 0 rfl
  subst hW1
  clear h hg1 hb1 hr ht hi
  go_enter Tryd.func53, Tryd.ntmps53
  go_wp2_with fail
  refine wp_region_walkT (fun w' => w'.cell? ⟨w.heap.size, 0, none⟩ = some (.pointer (some ⟨pm, 0, none⟩))) [.yes 0, .yes 1, .yes 3, .no 2, .no 4, .no 5] 5 (by kernel_rfl) (by kernel_rfl) rfl (by kernel_rfl) (by kernel_rfl) (fun _ _ d _ _ h => by cases d <;> exact h) ?_
  have hS : (w.alloc (.cells #[.pointer (some ⟨pm, 0, none⟩)] 60)).drew.cell? ⟨w.heap.size, 0, none⟩ = some (.pointer (some ⟨pm, 0, none⟩)) := c0
  repeat (refine walkT_yes rfl hS rfl (fun w' hw' => by go_simp; rfl) ?_; simp only [Act.put, List.setIfInBounds_toArray, List.set_cons_zero, List.set_cons_succ])
  refine walkT_no rfl rfl (fun K hK => ?_)
  go_simp
  refine HNUM.out.mono ?_
  intro e w2 hp
  have HP := Lib.hid hp
  have hc2 : w2.cell? ⟨w.heap.size, 0, none⟩ = some (.pointer (some ⟨pm, 0, none⟩)) := BlkOf.at (HP.out.1.kinds _ _ _ (HB.out.below (Grow.drew _) HB.out.lt) (by decide) (by decide)) 0 rfl
  have HB2 := Lib.hid (HP.out.1.kinds _ _ _ (HB.out.below (Grow.drew _) HB.out.lt) (by decide) (by decide))
  have HT1 := Lib.hid (HP.out.1.ahead HG.out)
  rcases hp.panic_or with ⟨j, S1, hr1, rfl⟩ | ⟨hr1, rfl⟩
  · have hI1 : I64 j := by have := HP.out.2.1; rw [hr1] at this; exact this
    rw [hr1] at HT1
    have HT1' : Hid (Then w0 w P (.pointer (some ⟨pm, 0, none⟩)) S1 w2) := HT1
    obtain ⟨P1, ho1, hnx⟩ := HT1'.out.next
    have hrr : r = twoS S1 5 j i := by rw [HR.out]; unfold twiceS frOf; rw [hr1, if_pos rfl]
    have HTW := Lib.hid (two_any (op := 5) ho1 HTAB.out (by decide) hI1 HI.out)
    rw [← hrr] at HTW
    have HNX := Lib.hid hnx
    clear hp hr1 hrr ho1 hI1 hnx
    refine hK _ _ (fun _ => hc2) ?_
    refine walkT_no rfl rfl (fun K2 hK2 => ?_)
    go_simp
    refine HTW.out.mono ?_
    intro e w3 hp
    have HP3 := Lib.hid hp
    have HFIN := Lib.hid (HNX.out _ _ hp.1)
    have hc3 : w3.cell? ⟨w.heap.size, 0, none⟩ = some (.pointer (some ⟨pm, 0, none⟩)) := BlkOf.at (hp.1.kinds _ _ _ HB2.out (by decide) (by decide)) 0 rfl
    obtain ⟨i3, e3, S3⟩ := r
    have HI3 : Hid (I64 i3) := Lib.hid hp.2.1
    rcases hp.2.2 with ⟨he, rfl⟩ | ⟨he, rfl⟩
    · dsimp only at he
      subst he
      clear hp
      refine hK2 _ _ (fun _ => hc3) ?_
      refine walkT_no rfl rfl (fun K3 hK3 => ?_)
      go_simp
      refine hK3 _ _ (fun h => absurd h (by decide)) ?_
      simp only [walkT]
      go_wp2_with fail
      go_ret
      exact ⟨HFIN.out, HI3.out, .inl ⟨rfl, rfl⟩⟩
    · exact ⟨rfl, HFIN.out, HI3.out, .inr ⟨he, rfl⟩⟩
  · have hrr : r = numS S (frOf 2) := by rw [HR.out]; unfold twiceS; exact if_neg hr1
    refine ⟨rfl, ?_⟩
    rw [hrr]
    exact ⟨HT1.out, HP.out.2.1, .inr ⟨hr1, rfl⟩⟩
end
end Go.Proofs.YtcbebikcfcidmaaDoor

namespace Go.Proofs.YtcbebikcfcidmaaDoor
open Go.RowKit Go.Maps

section
variable {w0 w : World} {P : Nat → Prop} {m : Value} {S : MkS}
theorem StepPost.join {S1 : MkS} {w1 w2 : World} {r : Int × Int × MkS} {e : Ending} (h : Then w0 w P m S1 w1) (k : ∀ P1, Ours w0 w1 P1 m S1 → StepPost w0 w1 P1 m r e w2) : StepPost w0 w P m r e w2 := by
  obtain ⟨P1, ho⟩ := h.ours
  exact ⟨h.join fun P1 ho => (k P1 ho).1, (k P1 ho).2⟩
def RowRel (w0 w : World) (P : Nat → Prop) (m : Value) (gs : List (Int → MkS → Int × Int × MkS)) (r : Int × Int × MkS) (x i : Value) (wr : World) : Prop :=
  ∃ (k : Nat) (j : Int) (S1 : MkS), k ≤ gs.length ∧ x = .int .i64 j ∧ i = .int .i64 (k : Int) ∧ I64 j ∧ r = runL (gs.drop k) j S1 ∧ Then w0 w P m S1 wr
set_option maxRecDepth 100000 in
set_option maxHeartbeats 2000000 in
theorem row_any {gs : List (Int → MkS → Int × Int × MkS)} {vs : List Value} {b n : Nat} {u : Int} (h : Ours w0 w P m S) (hu : I64 u) (hb : BlkOf w b vs.toArray 80)
    (hl : ∀ (k : Nat) (v : Value), vs[k]? = some v → ∃ g, gs[k]? = some g ∧ Link w0 m g v w) (hn : vs.length = n) (hg : gs.length = n) (hn3 : n ≤ 1000) :
    Calls Tryd.prog 32 #[.int .i64 u, .slice (some ⟨b, 0, none⟩) n n] w (StepPost w0 w P m (runL gs u S)) := by
  obtain ⟨r, hr⟩ : ∃ r, r = runL gs u S := ⟨_, rfl⟩
  rw [← hr]
  have HS : Hid (RowRel w0 w P m gs r (.int .i64 u) (.int .i64 0) w) := Lib.hid ⟨0, u, S, Nat.zero_le _, rfl, rfl, hu, hr, Then.of_grow h (Grow.refl _)⟩
  have HB := Lib.hid hb
  have HL := Lib.hid hl
  have HN := Lib.hid hn
  have HGN := Lib.hid hg
  clear h hu hb hl hn hg hr
  go_enter Tryd.func32, Tryd.ntmps32
  go_wp2_with fail
  go_loopw [0, 9] (fun x i wr => RowRel w0 w P m gs r x i wr) (fun _ i _ => n - (intOf i).toNat)
  case atStart => exact HS.out
  case round =>
    obtain ⟨k, j, S1, hk, rfl, rfl, hj, hrk, hth⟩ := hrel
    rw [HGN.out] at hk
    have HJ := Lib.hid hj
    have HRK := Lib.hid hrk
    have HTH := Lib.hid hth
    by_cases hlt : k < n
    · have hltI : (k : Int) < (n : Int) := by omega
      obtain ⟨v, hv⟩ : ∃ v, vs[k]? = some v := ⟨_, List.getElem?_eq_getElem (by rw [HN.out]; exact hlt)⟩
      obtain ⟨g, hgk, f, first, cap, rfl, hen, hc⟩ := HL.out k v hv
      have d0 := BlkOf.at (hth.kinds _ _ _ HB.out (by decide) (by decide)) k (by simpa using hv)
      obtain ⟨P1, ho, hnx⟩ := hth.next
      have HC := Lib.hid (hc _ P1 S1 j hth.kinds ho hj)
      have HNX := Lib.hid hnx
      have hdr : gs.drop k = g :: gs.drop (k + 1) := by
        rw [List.drop_eq_getElem_cons (by rw [HGN.out]; exact hlt)]
        congr 1
        have := List.getElem?_eq_some_iff.1 hgk
        exact this.2
      have HDR := Lib.hid hdr
      clear hj hrk hth hc ho hnx hdr hgk hv hk
      go_wp2_with fail
      refine HC.out.mono ?_
      intro e w2 hp
      have HP := Lib.hid hp
      have HTN := Lib.hid (HNX.out _ _ hp.1)
      rcases hp.panic_or with ⟨j2, S2, hr2, rfl⟩ | ⟨hr2, rfl⟩
      · have hj2 : I64 j2 := by have := HP.out.2.1; rw [hr2] at this; exact this
        have hrk2 : r = runL (gs.drop (k + 1)) j2 S2 := by
          rw [HRK.out, HDR.out]
          show (if (g j S1).2.1 = 0 then runL (gs.drop (k + 1)) (g j S1).1 (g j S1).2.2 else g j S1) = _
          rw [hr2, if_pos rfl]
        rw [hr2] at HTN
        have HR2 := Lib.hid hrk2
        have HJ2 := Lib.hid hj2
        clear hp hr2 hrk2 hj2
        go_wp2_with fail
        go_roundw
        case rel => exact ⟨k + 1, j2, S2, by rw [HGN.out]; omega, rfl, by go_num, HJ2.out, HR2.out, HTN.out⟩
        case measure => simp [intOf]; omega
      · have hrr : r = g j S1 := by
          rw [HRK.out, HDR.out]
          unfold runL
          exact if_neg hr2
        have HRR := Lib.hid hrr
        have HE2 := Lib.hid hr2
        clear hp hrr hr2
        go_wp2_with fail
        refine ⟨rfl, ?_⟩
        rw [HRR.out]
        exact ⟨HTN.out, HP.out.2.1, .inr ⟨HE2.out, rfl⟩⟩
    · obtain rfl : k = n := by omega
      have hend : r = (j, 0, S1) := by rw [hrk, ← HGN.out, List.drop_length]; rfl
      have HE := Lib.hid hend
      clear hj hrk hth hend hk
      go_wp2_with fail
      go_ret
      rw [HE.out]
      exact ⟨HTH.out, HJ.out, .inl ⟨rfl, rfl⟩⟩
end
end Go.Proofs.YtcbebikcfcidmaaDoor

namespace Go.Proofs.YtcbebikcfcidmaaDoor
open Go.RowKit Go.Maps

/-- What is told of two steps, behind a step that may fail. -/
def endS (r : Int × Int × MkS) (f : Int → MkS → Int × Int × Int × MkS) : Int × Int × Int × MkS := if r.2.1 = 0 then f r.1 r.2.2 else (0, 0, r.2.1, r.2.2)
/-- Behind a chart that is made, or fails. -/
def PairPost (w0 w : World) (P : Nat → Prop) (m : Value) (r : Int × Int × Int × MkS) (e : Ending) (w' : World) : Prop :=
  Then w0 w P m r.2.2.2 w' ∧ I64 r.1 ∧ I64 r.2.1 ∧ (r.2.2.1 = 0 ∧ e = .returned (.tuple #[.int .i64 r.1, .int .i64 r.2.1]) ∨ r.2.2.1 ≠ 0 ∧ e = .panicked (thrown r.2.2.1))
theorem putS_of_good {S : MkS} {x : Nd} {f0 f1 f2 : Nat} (h : Good S) : Good (ofS S f0 f1 f2 x).2.2 := by
  unfold ofS
  split
  · rename_i hx; exact putS_good h hx.2
  · exact h
theorem ofS_good {S : MkS} (h : Good S) (f0 f1 f2 : Nat) (x : Nd) : Good (ofS S f0 f1 f2 x).2.2 := putS_of_good h
theorem numS_good {S : MkS} (h : Good S) (x : Fr) : Good (numS S x).2.2 := by
  unfold numS
  split
  · rename_i hok; exact putS_good h (numNd_step hok _ _)
  · exact h
theorem runL_i64 : ∀ {gs : List (Int → MkS → Int × Int × MkS)} (_ : ∀ g ∈ gs, ∀ S, Good S → ∀ j, I64 j → I64 (g j S).1 ∧ Good (g j S).2.2) {u : Int} {S : MkS}, Good S → I64 u → I64 (runL gs u S).1
  | [], _, _, _, _, hu => hu
  | g :: gs, hg, u, S, hS, hu => by
    have h1 := hg g (List.mem_cons_self ..) S hS u hu
    show I64 (if (g u S).2.1 = 0 then runL gs (g u S).1 (g u S).2.2 else g u S).1
    split
    · exact runL_i64 (fun g' hg' => hg g' (List.mem_cons_of_mem _ hg')) h1.2 h1.1
    · exact h1.1
/-- A row of such functions in memory. -/
def RowOf (w0 : World) (m : Value) (gs : List (Int → MkS → Int × Int × MkS)) (n : Nat) (v : Value) (W : World) : Prop :=
  ∃ b vs, v = .slice (some ⟨b, 0, none⟩) n n ∧ BlkOf W b (List.toArray vs) 80 ∧ vs.length = n ∧ ∀ (k : Nat) (v : Value), vs[k]? = some v → ∃ g, gs[k]? = some g ∧ Link w0 m g v W
theorem RowOf.kinds {w0 W W' : World} {m : Value} {gs : List (Int → MkS → Int × Int × MkS)} {n : Nat} {v : Value} (h : RowOf w0 m gs n v W) (hk : Kinds W W') : RowOf w0 m gs n v W' := by
  obtain ⟨b, vs, e, hb, hn, hl⟩ := h
  exact ⟨b, vs, e, hk _ _ _ hb (by decide) (by decide), hn, fun k v hv => (hl k v hv).imp fun g hg => ⟨hg.1, hg.2.kinds hk⟩⟩
theorem row_of2 {w0 W : World} {m : Value} {g1 g2 : Int → MkS → Int × Int × MkS} {v1 v2 : Value} {b : Nat} (hb : BlkOf W b #[v1, v2] 80) (h1 : Link w0 m g1 v1 W) (h2 : Link w0 m g2 v2 W) : RowOf w0 m [g1, g2] 2 (.slice (some ⟨b, 0, none⟩) 2 2) W :=
  ⟨b, [v1, v2], rfl, hb, rfl, fun k v h => match k, h with
    | 0, h => by simp at h; subst h; exact ⟨_, rfl, h1⟩
    | 1, h => by simp at h; subst h; exact ⟨_, rfl, h2⟩
    | k + 2, h => by simp at h⟩
theorem row_of3 {w0 W : World} {m : Value} {g1 g2 g3 : Int → MkS → Int × Int × MkS} {v1 v2 v3 : Value} {b : Nat} (hb : BlkOf W b #[v1, v2, v3] 80) (h1 : Link w0 m g1 v1 W) (h2 : Link w0 m g2 v2 W) (h3 : Link w0 m g3 v3 W) : RowOf w0 m [g1, g2, g3] 3 (.slice (some ⟨b, 0, none⟩) 3 3) W :=
  ⟨b, [v1, v2, v3], rfl, hb, rfl, fun k v h => match k, h with
    | 0, h => by simp at h; subst h; exact ⟨_, rfl, h1⟩
    | 1, h => by simp at h; subst h; exact ⟨_, rfl, h2⟩
    | 2, h => by simp at h; subst h; exact ⟨_, rfl, h3⟩
    | k + 3, h => by simp at h⟩

section
variable {w0 w : World} {P : Nat → Prop} {m : Value} {S : MkS}
set_option maxHeartbeats 1000000 in
/-- No bounds. -/
theorem chart_none {u : Int} (h : Ours w0 w P m S) (hu : I64 u) :
    Calls Tryd.prog 20 #[.agg #[m], .int .i64 u, .int .i64 (-1), .int .i64 (-1)] w (PairPost w0 w P m (endS (numS S (frOf 0)) fun j S => (u, j, 0, S))) := by
  obtain ⟨pm, rfl⟩ := h.ptr
  have hg1 : Grow w (w.alloc (.cells #[.pointer (some ⟨pm, 0, none⟩)] 60)) := Grow.alloc w _
  have hb1 : BlkOf (w.alloc (.cells #[.pointer (some ⟨pm, 0, none⟩)] 60)) w.heap.size #[.pointer (some ⟨pm, 0, none⟩)] 60 := BlkOf.new w _ _
  have c0 := hb1.at 0 rfl
  have HNUM := Lib.hid (cnum_any (n := 0) (h.more hg1) (by decide) (by decide))
  have HG1 := Lib.hid hg1
  have HU := Lib.hid hu
  obtain ⟨r, hr⟩ : ∃ r, r = numS S (frOf 0) := ⟨_, rfl⟩
  have hf : numS S ⟨false, nrow 0, nrow 1⟩ = r := hr.symm
  rw [hf] at HNUM
  rw [← hr]
  clear h hg1 hb1 hu hr hf
  go_enter Tryd.func20, Tryd.ntmps20
  go_wp2_with (first | (go_at_call 31; refine HNUM.out.mono ?_) | fail)
  intro e w2 hp
  have HP := Lib.hid hp
  have HTH := Lib.hid (hp.1.ahead HG1.out)
  obtain ⟨i0, e0, S'⟩ := r
  rcases hp.2.2 with ⟨he, rfl⟩ | ⟨he, rfl⟩
  · dsimp only at he
    subst he
    clear hp
    go_wp2_with fail
    go_ret2
    exact ⟨HTH.out, HU.out, HP.out.2.1, .inl ⟨rfl, rfl⟩⟩
  · clear hp
    go_wp2_with fail
    refine ⟨rfl, ?_⟩
    unfold endS
    rw [if_neg he]
    exact ⟨HTH.out, i64_zero, i64_zero, .inr ⟨he, rfl⟩⟩
end
end Go.Proofs.YtcbebikcfcidmaaDoor

namespace Go.Proofs.YtcbebikcfcidmaaDoor
open Go.RowKit Go.Maps

section
variable {w0 w : World} {P : Nat → Prop} {m : Value} {S : MkS}

set_option maxRecDepth 100000 in
set_option maxHeartbeats 4000000 in
/-- A lower bound. -/
theorem chart_low {u l : Int} (h : Ours w0 w P m S) (ht : Tab w0) (hu : I64 u) (hb : I64 l) (hne : ¬ l = -1) :
    Calls Tryd.prog 20 #[.agg #[m], .int .i64 u, .int .i64 l, .int .i64 (-1)] w (PairPost w0 w P m (endS (runL [fun i S => oneS S 8 i, fun i S => twoS S 3 l i] u S) fun x S => (x, u, 0, S))) := by
  obtain ⟨pm, rfl⟩ := h.ptr
  obtain ⟨W1, hW1⟩ : ∃ W1, W1 = w.alloc (.cells #[.pointer (some ⟨pm, 0, none⟩)] 60) := ⟨_, rfl⟩
  have hg1 : Grow w W1 := by rw [hW1]; exact Grow.alloc w _
  have hb1 : BlkOf W1 w.heap.size #[.pointer (some ⟨pm, 0, none⟩)] 60 := by rw [hW1]; exact BlkOf.new w _ _
  obtain ⟨r, hr⟩ : ∃ r, r = runL [fun i S => oneS S 8 i, fun i S => twoS S 3 l i] u S := ⟨_, rfl⟩
  rw [← hr]
  have hrow : ∀ W, Grow W1 W → ∀ b (vs : List Value), BlkOf W b vs.toArray 80 → vs.length = 2 → (∀ (k : Nat) (v : Value), vs[k]? = some v → ∃ g, [fun i S => oneS S 8 i, fun i S => twoS S 3 l i][k]? = some g ∧ Link w0 (.pointer (some ⟨pm, 0, none⟩)) g v W) →
      Calls Tryd.prog 32 #[.int .i64 u, .slice (some ⟨b, 0, none⟩) 2 2] W (StepPost w0 W P (.pointer (some ⟨pm, 0, none⟩)) r) := fun W hW b vs hb2 hn2 hl2 => by
    rw [hr]
    exact row_any (n := 2) (h.more (hg1.trans hW)) hu hb2 hl2 hn2 rfl (by decide)
  have hI : I64 r.1 := by rw [hr]; exact runL_i64 (fun g hg S hS j hj => by simp at hg; rcases hg with rfl | rfl <;> exact ⟨ofS_i64 hS _ _ _ _, ofS_good hS _ _ _ _⟩) h.good hu
  obtain ⟨i0, e0, S'⟩ := r
  dsimp only at hI
  have HROW := Lib.hid hrow
  have HI2 := Lib.hid hI
  have HU := Lib.hid hu
  have HG1 := Lib.hid hg1
  have HBAD : Hid (∀ W W', Grow W1 W → Then w0 W P (.pointer (some ⟨pm, 0, none⟩)) S' W' → e0 ≠ 0 → PairPost w0 w P (.pointer (some ⟨pm, 0, none⟩)) (endS (i0, e0, S') fun x S => (x, u, 0, S)) (.panicked (thrown e0)) W') := Lib.hid fun W W' hW hth he => by
    unfold endS
    rw [if_neg he]
    exact ⟨hth.ahead (hg1.trans hW), i64_zero, i64_zero, .inr ⟨he, rfl⟩⟩
  have HGC : Hid (∀ W W', Grow W W' → (Grow W1 W → Grow W1 W') ∧ (Then w0 W1 P (.pointer (some ⟨pm, 0, none⟩)) S' W → Then w0 W1 P (.pointer (some ⟨pm, 0, none⟩)) S' W')) := Lib.hid fun W W' hg => ⟨fun h => h.trans hg, fun h => h.join fun P1 ho => Then.of_grow ho hg⟩
  have HCELL : Hid (∀ W, Grow W1 W ∨ Then w0 W1 P (.pointer (some ⟨pm, 0, none⟩)) S' W → W.cell? ⟨w.heap.size, 0, none⟩ = some (.pointer (some ⟨pm, 0, none⟩))) := Lib.hid fun W hW => by
    rcases hW with hW | hW
    · exact (hb1.below hW hb1.lt).at 0 rfl
    · exact BlkOf.at (hW.kinds _ _ _ hb1 (by decide) (by decide)) 0 rfl
  have HOF : Hid (∀ W, Calls Tryd.prog 33 #[.agg #[.pointer (some ⟨pm, 0, none⟩)], .int .u8 8] W (fun e w' => ∃ v, e = .returned v ∧ Link w0 (.pointer (some ⟨pm, 0, none⟩)) (fun i S => oneS S 8 i) v w' ∧ Grow W w')) := Lib.hid fun W => of_link (op := 8) _ w0 W ⟨_, rfl⟩ ht (by decide)
  have HAF : Hid (∀ W, Calls Tryd.prog 34 #[.agg #[.pointer (some ⟨pm, 0, none⟩)], .int .u8 3, .int .i64 l] W (fun e w' => ∃ v, e = .returned v ∧ Link w0 (.pointer (some ⟨pm, 0, none⟩)) (fun i S => twoS S 3 l i) v w' ∧ Grow W w')) := Lib.hid fun W => after_link (op := 3) _ w0 W ⟨_, rfl⟩ ht (by decide) hb
  have hnb : (l == -1) = false := by simp; exact hne
  subst hW1
  clear h hg1 hr hb1 hrow hI hu hb ht
  go_enter Tryd.func20, Tryd.ntmps20
  go_wp2_with fail
  refine wp_region_one Kinds (fun W => Grow (w.alloc (.cells #[.pointer (some ⟨pm, 0, none⟩)] 60)) W) (fun W => Then w0 (w.alloc (.cells #[.pointer (some ⟨pm, 0, none⟩)] 60)) P (.pointer (some ⟨pm, 0, none⟩)) S' W) [fun v _ => v = .int .i64 u, fun v _ => v = .agg #[.pointer (some ⟨pm, 0, none⟩)], fun v W => Link w0 (.pointer (some ⟨pm, 0, none⟩)) (fun i S => oneS S 8 i) v W, fun v _ => v = .agg #[.pointer (some ⟨pm, 0, none⟩)], fun v _ => v = .int .i64 l, fun v W => Link w0 (.pointer (some ⟨pm, 0, none⟩)) (fun i S => twoS S 3 l i) v W, fun v W => RowOf w0 (.pointer (some ⟨pm, 0, none⟩)) [fun i S => oneS S 8 i, fun i S => twoS S 3 l i] 2 v W, fun v _ => v = .int .i64 i0 ∧ e0 = 0, fun v _ => v = .int .i64 u, fun v _ => v = .int .i64 i0 ∧ e0 = 0]
    [(4, .pointer (some ⟨w.heap.size, 0, none⟩)), (1, .int .i64 u), (2, .int .i64 l)] 10 7 (by kernel_rfl) ?stay rfl (by decide) ?atC (by kernel_rfl) rfl ?base (by kernel_rfl) ⟨?_, ?_, ?_, ?_, ?_, ?_, ?_, ?_, ?_, ?_, trivial⟩ ?last
  case stay =>
    simp only [List.forall_mem_cons, List.not_mem_nil, false_imp_iff, implies_true, and_true]
    exact ⟨fun _ _ _ _ h => h, fun _ _ _ _ h => h, fun _ _ _ hk h => h.kinds hk, fun _ _ _ _ h => h, fun _ _ _ _ h => h, fun _ _ _ hk h => h.kinds hk, fun _ _ _ hk h => h.kinds hk, fun _ _ _ _ h => h, fun _ _ _ _ h => h, fun _ _ _ _ h => h⟩
  case atC => exact Grow.drew _
  case base => simp
  case last =>
    intro vs W hW hv
    simp only [FactsL, Nat.zero_add, Nat.reduceAdd] at hv
    have v8 := hv.2.2.2.2.2.2.2.2.1
    have v9 := hv.2.2.2.2.2.2.2.2.2.1
    clear hv
    refine ⟨rfl, ?_⟩
    simp only [List.take_succ_cons, List.take_zero, putF, Act.put, List.setIfInBounds_toArray, List.set_cons_zero, List.set_cons_succ, Nat.reduceAdd, v8, v9]
    obtain ⟨e12, rfl⟩ := v9
    unfold Oper.wp
    simp [execOp, go_sem]
    have HTH := Lib.hid (hW.ahead HG1.out)
    clear hW
    go_wp2_with fail
    go_ret2
    exact ⟨HTH.out, HI2.out, HU.out, .inl ⟨rfl, rfl⟩⟩
  · refine StepO.pure (by decide) fun a' W hW hb hf => ⟨rfl, fun K hK => ?_⟩
    obtain ⟨hb, hdf⟩ := hb
    have HDF := Lib.hid hdf
    clear hdf
    simp only [List.forall_mem_cons, List.not_mem_nil, false_imp_iff, implies_true, and_true] at hb
    obtain ⟨m4, m1, m2⟩ := hb
    simp [FactsOf, FactAt, Region.binds, factsL] at hf
    have c0 := HCELL.out W hW
    unfold Oper.wp
    simp [execOp, go_sem, *]
    exact hK _ _ (Kinds.refl _) id id rfl
  · refine StepO.pure (by decide) fun a' W hW hb hf => ⟨rfl, fun K hK => ?_⟩
    obtain ⟨hb, hdf⟩ := hb
    have HDF := Lib.hid hdf
    clear hdf
    simp only [List.forall_mem_cons, List.not_mem_nil, false_imp_iff, implies_true, and_true] at hb
    obtain ⟨m4, m1, m2⟩ := hb
    simp [FactsOf, FactAt, Region.binds, factsL] at hf
    have c0 := HCELL.out W hW
    unfold Oper.wp
    simp [execOp, go_sem, *]
    exact hK _ _ (Kinds.refl _) id id rfl
  · refine StepO.pure (by decide) fun a' W hW hb hf => ⟨rfl, fun K hK => ?_⟩
    obtain ⟨hb, hdf⟩ := hb
    have HDF := Lib.hid hdf
    clear hdf
    simp only [List.forall_mem_cons, List.not_mem_nil, false_imp_iff, implies_true, and_true] at hb
    obtain ⟨m4, m1, m2⟩ := hb
    simp [FactsOf, FactAt, Region.binds, factsL] at hf
    unfold Oper.wp
    simp [go_sem, *]
    refine (HOF.out W).mono ?_
    rintro e W' ⟨v, rfl, hl, hg⟩
    exact hK _ _ (Kinds.of_grow hg) (HGC.out W W' hg).1 (HGC.out W W' hg).2 hl
  · refine StepO.pure (by decide) fun a' W hW hb hf => ⟨rfl, fun K hK => ?_⟩
    obtain ⟨hb, hdf⟩ := hb
    have HDF := Lib.hid hdf
    clear hdf
    simp only [List.forall_mem_cons, List.not_mem_nil, false_imp_iff, implies_true, and_true] at hb
    obtain ⟨m4, m1, m2⟩ := hb
    simp [FactsOf, FactAt, Region.binds, factsL] at hf
    have c0 := HCELL.out W hW
    unfold Oper.wp
    simp [execOp, go_sem, *]
    exact hK _ _ (Kinds.refl _) id id rfl
  · refine StepO.pure (by decide) fun a' W hW hb hf => ⟨rfl, fun K hK => ?_⟩
    obtain ⟨hb, hdf⟩ := hb
    have HDF := Lib.hid hdf
    clear hdf
    simp only [List.forall_mem_cons, List.not_mem_nil, false_imp_iff, implies_true, and_true] at hb
    obtain ⟨m4, m1, m2⟩ := hb
    simp [FactsOf, FactAt, Region.binds, factsL] at hf
    have c0 := HCELL.out W hW
    unfold Oper.wp
    simp [execOp, go_sem, *]
    exact hK _ _ (Kinds.refl _) id id rfl
  · refine StepO.pure (by decide) fun a' W hW hb hf => ⟨rfl, fun K hK => ?_⟩
    obtain ⟨hb, hdf⟩ := hb
    have HDF := Lib.hid hdf
    clear hdf
    simp only [List.forall_mem_cons, List.not_mem_nil, false_imp_iff, implies_true, and_true] at hb
    obtain ⟨m4, m1, m2⟩ := hb
    simp [FactsOf, FactAt, Region.binds, factsL] at hf
    unfold Oper.wp
    simp [go_sem, *]
    refine (HAF.out W).mono ?_
    rintro e W' ⟨v, rfl, hl, hg⟩
    exact hK _ _ (Kinds.of_grow hg) (HGC.out W W' hg).1 (HGC.out W W' hg).2 hl
  · refine StepO.pure (by decide) fun a' W hW hb hf => ⟨rfl, fun K hK => ?_⟩
    obtain ⟨hb, hdf⟩ := hb
    have HDF := Lib.hid hdf
    clear hdf
    simp only [List.forall_mem_cons, List.not_mem_nil, false_imp_iff, implies_true, and_true] at hb
    obtain ⟨m4, m1, m2⟩ := hb
    simp [FactsOf, FactAt, Region.binds, factsL] at hf
    obtain ⟨h1, h2⟩ := hf
    obtain ⟨f1, x1, y1, e1, q1⟩ := h1
    obtain ⟨f2, x2, y2, e2, q2⟩ := h2
    unfold Oper.wp
    simp [execOp, go_sem, e1, e2]
    have hg := fun (cs : Array Value) => Grow.alloc W (.cells cs 80)
    exact hK _ _ (Kinds.of_grow (hg _)) (HGC.out _ _ (hg _)).1 (HGC.out _ _ (hg _)).2 (row_of2 (BlkOf.new W _ _) (Link.kinds ⟨f1, x1, y1, rfl, q1⟩ (Kinds.of_grow (hg _))) (Link.kinds ⟨f2, x2, y2, rfl, q2⟩ (Kinds.of_grow (hg _))))
  · refine StepO.main (by decide) fun a' W hW hb hf => ⟨rfl, fun K hK => ?_⟩
    obtain ⟨hb, hdf⟩ := hb
    have HDF := Lib.hid hdf
    clear hdf
    simp only [List.forall_mem_cons, List.not_mem_nil, false_imp_iff, implies_true, and_true] at hb
    obtain ⟨m4, m1, m2⟩ := hb
    simp [FactsOf, FactAt, Region.binds, factsL] at hf
    obtain ⟨ea, hro, _⟩ := hf
    obtain ⟨b, vs, ev, hb, hn, hl⟩ := hro
    unfold Oper.wp
    simp [go_sem, ea, ev]
    refine (HROW.out W hW b vs hb hn hl).mono ?_
    intro e W' hp
    rcases hp.2.2 with ⟨he, rfl⟩ | ⟨he, rfl⟩
    · exact hK _ _ hp.1.kinds (hp.1.ahead hW) ⟨rfl, he⟩
    · exact ⟨HDF.out, HBAD.out W W' hW hp.1 he⟩
  · refine StepO.pure (by decide) fun a' W hW hb hf => ⟨rfl, fun K hK => ?_⟩
    obtain ⟨hb, hdf⟩ := hb
    have HDF := Lib.hid hdf
    clear hdf
    simp only [List.forall_mem_cons, List.not_mem_nil, false_imp_iff, implies_true, and_true] at hb
    obtain ⟨m4, m1, m2⟩ := hb
    simp [FactsOf, FactAt, Region.binds, factsL] at hf
    have c0 := HCELL.out W hW
    unfold Oper.wp
    simp [execOp, go_sem, *]
    exact hK _ _ (Kinds.refl _) id id rfl
  · refine StepO.late (by decide) (by kernel_rfl) fun a' W hW hb hf => ⟨rfl, fun K hK => ?_⟩
    obtain ⟨hb, hdf⟩ := hb
    have HDF := Lib.hid hdf
    clear hdf
    simp only [List.forall_mem_cons, List.not_mem_nil, false_imp_iff, implies_true, and_true] at hb
    obtain ⟨m4, m1, m2⟩ := hb
    simp [FactsOf, FactAt, Region.binds, factsL] at hf
    unfold Oper.wp
    simp [execOp, go_sem, hf.1.1]
    exact hK _ _ (Kinds.refl _) id ⟨rfl, hf.1.2⟩

set_option maxRecDepth 100000 in
set_option maxHeartbeats 4000000 in
/-- An upper bound. -/
theorem chart_high {u h' : Int} (h : Ours w0 w P m S) (ht : Tab w0) (hu : I64 u) (hb : I64 h') (hne : ¬ h' = -1) :
    Calls Tryd.prog 20 #[.agg #[m], .int .i64 u, .int .i64 (-1), .int .i64 h'] w (PairPost w0 w P m (endS (runL [fun i S => oneS S 8 i, fun i S => twoS S 4 h' i] u S) fun x S => (x, u, 0, S))) := by
  obtain ⟨pm, rfl⟩ := h.ptr
  obtain ⟨W1, hW1⟩ : ∃ W1, W1 = w.alloc (.cells #[.pointer (some ⟨pm, 0, none⟩)] 60) := ⟨_, rfl⟩
  have hg1 : Grow w W1 := by rw [hW1]; exact Grow.alloc w _
  have hb1 : BlkOf W1 w.heap.size #[.pointer (some ⟨pm, 0, none⟩)] 60 := by rw [hW1]; exact BlkOf.new w _ _
  obtain ⟨r, hr⟩ : ∃ r, r = runL [fun i S => oneS S 8 i, fun i S => twoS S 4 h' i] u S := ⟨_, rfl⟩
  rw [← hr]
  have hrow : ∀ W, Grow W1 W → ∀ b (vs : List Value), BlkOf W b vs.toArray 80 → vs.length = 2 → (∀ (k : Nat) (v : Value), vs[k]? = some v → ∃ g, [fun i S => oneS S 8 i, fun i S => twoS S 4 h' i][k]? = some g ∧ Link w0 (.pointer (some ⟨pm, 0, none⟩)) g v W) →
      Calls Tryd.prog 32 #[.int .i64 u, .slice (some ⟨b, 0, none⟩) 2 2] W (StepPost w0 W P (.pointer (some ⟨pm, 0, none⟩)) r) := fun W hW b vs hb2 hn2 hl2 => by
    rw [hr]
    exact row_any (n := 2) (h.more (hg1.trans hW)) hu hb2 hl2 hn2 rfl (by decide)
  have hI : I64 r.1 := by rw [hr]; exact runL_i64 (fun g hg S hS j hj => by simp at hg; rcases hg with rfl | rfl <;> exact ⟨ofS_i64 hS _ _ _ _, ofS_good hS _ _ _ _⟩) h.good hu
  obtain ⟨i0, e0, S'⟩ := r
  dsimp only at hI
  have HROW := Lib.hid hrow
  have HI2 := Lib.hid hI
  have HU := Lib.hid hu
  have HG1 := Lib.hid hg1
  have HBAD : Hid (∀ W W', Grow W1 W → Then w0 W P (.pointer (some ⟨pm, 0, none⟩)) S' W' → e0 ≠ 0 → PairPost w0 w P (.pointer (some ⟨pm, 0, none⟩)) (endS (i0, e0, S') fun x S => (x, u, 0, S)) (.panicked (thrown e0)) W') := Lib.hid fun W W' hW hth he => by
    unfold endS
    rw [if_neg he]
    exact ⟨hth.ahead (hg1.trans hW), i64_zero, i64_zero, .inr ⟨he, rfl⟩⟩
  have HGC : Hid (∀ W W', Grow W W' → (Grow W1 W → Grow W1 W') ∧ (Then w0 W1 P (.pointer (some ⟨pm, 0, none⟩)) S' W → Then w0 W1 P (.pointer (some ⟨pm, 0, none⟩)) S' W')) := Lib.hid fun W W' hg => ⟨fun h => h.trans hg, fun h => h.join fun P1 ho => Then.of_grow ho hg⟩
  have HCELL : Hid (∀ W, Grow W1 W ∨ Then w0 W1 P (.pointer (some ⟨pm, 0, none⟩)) S' W → W.cell? ⟨w.heap.size, 0, none⟩ = some (.pointer (some ⟨pm, 0, none⟩))) := Lib.hid fun W hW => by
    rcases hW with hW | hW
    · exact (hb1.below hW hb1.lt).at 0 rfl
    · exact BlkOf.at (hW.kinds _ _ _ hb1 (by decide) (by decide)) 0 rfl
  have HOF : Hid (∀ W, Calls Tryd.prog 33 #[.agg #[.pointer (some ⟨pm, 0, none⟩)], .int .u8 8] W (fun e w' => ∃ v, e = .returned v ∧ Link w0 (.pointer (some ⟨pm, 0, none⟩)) (fun i S => oneS S 8 i) v w' ∧ Grow W w')) := Lib.hid fun W => of_link (op := 8) _ w0 W ⟨_, rfl⟩ ht (by decide)
  have HAF : Hid (∀ W, Calls Tryd.prog 34 #[.agg #[.pointer (some ⟨pm, 0, none⟩)], .int .u8 4, .int .i64 h'] W (fun e w' => ∃ v, e = .returned v ∧ Link w0 (.pointer (some ⟨pm, 0, none⟩)) (fun i S => twoS S 4 h' i) v w' ∧ Grow W w')) := Lib.hid fun W => after_link (op := 4) _ w0 W ⟨_, rfl⟩ ht (by decide) hb
  have hnb : (h' == -1) = false := by simp; exact hne
  subst hW1
  clear h hg1 hr hb1 hrow hI hu hb ht
  go_enter Tryd.func20, Tryd.ntmps20
  go_wp2_with fail
  refine wp_region_one Kinds (fun W => Grow (w.alloc (.cells #[.pointer (some ⟨pm, 0, none⟩)] 60)) W) (fun W => Then w0 (w.alloc (.cells #[.pointer (some ⟨pm, 0, none⟩)] 60)) P (.pointer (some ⟨pm, 0, none⟩)) S' W) [fun v _ => v = .int .i64 u, fun v _ => v = .agg #[.pointer (some ⟨pm, 0, none⟩)], fun v W => Link w0 (.pointer (some ⟨pm, 0, none⟩)) (fun i S => oneS S 8 i) v W, fun v _ => v = .agg #[.pointer (some ⟨pm, 0, none⟩)], fun v _ => v = .int .i64 h', fun v W => Link w0 (.pointer (some ⟨pm, 0, none⟩)) (fun i S => twoS S 4 h' i) v W, fun v W => RowOf w0 (.pointer (some ⟨pm, 0, none⟩)) [fun i S => oneS S 8 i, fun i S => twoS S 4 h' i] 2 v W, fun v _ => v = .int .i64 i0 ∧ e0 = 0, fun v _ => v = .int .i64 u, fun v _ => v = .int .i64 i0 ∧ e0 = 0]
    [(4, .pointer (some ⟨w.heap.size, 0, none⟩)), (1, .int .i64 u), (3, .int .i64 h')] 10 7 (by kernel_rfl) ?stay rfl (by decide) ?atC (by kernel_rfl) rfl ?base (by kernel_rfl) ⟨?_, ?_, ?_, ?_, ?_, ?_, ?_, ?_, ?_, ?_, trivial⟩ ?last
  case stay =>
    simp only [List.forall_mem_cons, List.not_mem_nil, false_imp_iff, implies_true, and_true]
    exact ⟨fun _ _ _ _ h => h, fun _ _ _ _ h => h, fun _ _ _ hk h => h.kinds hk, fun _ _ _ _ h => h, fun _ _ _ _ h => h, fun _ _ _ hk h => h.kinds hk, fun _ _ _ hk h => h.kinds hk, fun _ _ _ _ h => h, fun _ _ _ _ h => h, fun _ _ _ _ h => h⟩
  case atC => exact Grow.drew _
  case base => simp
  case last =>
    intro vs W hW hv
    simp only [FactsL, Nat.zero_add, Nat.reduceAdd] at hv
    have v8 := hv.2.2.2.2.2.2.2.2.1
    have v9 := hv.2.2.2.2.2.2.2.2.2.1
    clear hv
    refine ⟨rfl, ?_⟩
    simp only [List.take_succ_cons, List.take_zero, putF, Act.put, List.setIfInBounds_toArray, List.set_cons_zero, List.set_cons_succ, Nat.reduceAdd, v8, v9]
    obtain ⟨e12, rfl⟩ := v9
    unfold Oper.wp
    simp [execOp, go_sem]
    have HTH := Lib.hid (hW.ahead HG1.out)
    clear hW
    go_wp2_with fail
    go_ret2
    exact ⟨HTH.out, HI2.out, HU.out, .inl ⟨rfl, rfl⟩⟩
  · refine StepO.pure (by decide) fun a' W hW hb hf => ⟨rfl, fun K hK => ?_⟩
    obtain ⟨hb, hdf⟩ := hb
    have HDF := Lib.hid hdf
    clear hdf
    simp only [List.forall_mem_cons, List.not_mem_nil, false_imp_iff, implies_true, and_true] at hb
    obtain ⟨m4, m1, m3⟩ := hb
    simp [FactsOf, FactAt, Region.binds, factsL] at hf
    have c0 := HCELL.out W hW
    unfold Oper.wp
    simp [execOp, go_sem, *]
    exact hK _ _ (Kinds.refl _) id id rfl
  · refine StepO.pure (by decide) fun a' W hW hb hf => ⟨rfl, fun K hK => ?_⟩
    obtain ⟨hb, hdf⟩ := hb
    have HDF := Lib.hid hdf
    clear hdf
    simp only [List.forall_mem_cons, List.not_mem_nil, false_imp_iff, implies_true, and_true] at hb
    obtain ⟨m4, m1, m3⟩ := hb
    simp [FactsOf, FactAt, Region.binds, factsL] at hf
    have c0 := HCELL.out W hW
    unfold Oper.wp
    simp [execOp, go_sem, *]
    exact hK _ _ (Kinds.refl _) id id rfl
  · refine StepO.pure (by decide) fun a' W hW hb hf => ⟨rfl, fun K hK => ?_⟩
    obtain ⟨hb, hdf⟩ := hb
    have HDF := Lib.hid hdf
    clear hdf
    simp only [List.forall_mem_cons, List.not_mem_nil, false_imp_iff, implies_true, and_true] at hb
    obtain ⟨m4, m1, m3⟩ := hb
    simp [FactsOf, FactAt, Region.binds, factsL] at hf
    unfold Oper.wp
    simp [go_sem, *]
    refine (HOF.out W).mono ?_
    rintro e W' ⟨v, rfl, hl, hg⟩
    exact hK _ _ (Kinds.of_grow hg) (HGC.out W W' hg).1 (HGC.out W W' hg).2 hl
  · refine StepO.pure (by decide) fun a' W hW hb hf => ⟨rfl, fun K hK => ?_⟩
    obtain ⟨hb, hdf⟩ := hb
    have HDF := Lib.hid hdf
    clear hdf
    simp only [List.forall_mem_cons, List.not_mem_nil, false_imp_iff, implies_true, and_true] at hb
    obtain ⟨m4, m1, m3⟩ := hb
    simp [FactsOf, FactAt, Region.binds, factsL] at hf
    have c0 := HCELL.out W hW
    unfold Oper.wp
    simp [execOp, go_sem, *]
    exact hK _ _ (Kinds.refl _) id id rfl
  · refine StepO.pure (by decide) fun a' W hW hb hf => ⟨rfl, fun K hK => ?_⟩
    obtain ⟨hb, hdf⟩ := hb
    have HDF := Lib.hid hdf
    clear hdf
    simp only [List.forall_mem_cons, List.not_mem_nil, false_imp_iff, implies_true, and_true] at hb
    obtain ⟨m4, m1, m3⟩ := hb
    simp [FactsOf, FactAt, Region.binds, factsL] at hf
    have c0 := HCELL.out W hW
    unfold Oper.wp
    simp [execOp, go_sem, *]
    exact hK _ _ (Kinds.refl _) id id rfl
  · refine StepO.pure (by decide) fun a' W hW hb hf => ⟨rfl, fun K hK => ?_⟩
    obtain ⟨hb, hdf⟩ := hb
    have HDF := Lib.hid hdf
    clear hdf
    simp only [List.forall_mem_cons, List.not_mem_nil, false_imp_iff, implies_true, and_true] at hb
    obtain ⟨m4, m1, m3⟩ := hb
    simp [FactsOf, FactAt, Region.binds, factsL] at hf
    unfold Oper.wp
    simp [go_sem, *]
    refine (HAF.out W).mono ?_
    rintro e W' ⟨v, rfl, hl, hg⟩
    exact hK _ _ (Kinds.of_grow hg) (HGC.out W W' hg).1 (HGC.out W W' hg).2 hl
  · refine StepO.pure (by decide) fun a' W hW hb hf => ⟨rfl, fun K hK => ?_⟩
    obtain ⟨hb, hdf⟩ := hb
    have HDF := Lib.hid hdf
    clear hdf
    simp only [List.forall_mem_cons, List.not_mem_nil, false_imp_iff, implies_true, and_true] at hb
    obtain ⟨m4, m1, m3⟩ := hb
    simp [FactsOf, FactAt, Region.binds, factsL] at hf
    obtain ⟨h1, h2⟩ := hf
    obtain ⟨f1, x1, y1, e1, q1⟩ := h1
    obtain ⟨f2, x2, y2, e2, q2⟩ := h2
    unfold Oper.wp
    simp [execOp, go_sem, e1, e2]
    have hg := fun (cs : Array Value) => Grow.alloc W (.cells cs 80)
    exact hK _ _ (Kinds.of_grow (hg _)) (HGC.out _ _ (hg _)).1 (HGC.out _ _ (hg _)).2 (row_of2 (BlkOf.new W _ _) (Link.kinds ⟨f1, x1, y1, rfl, q1⟩ (Kinds.of_grow (hg _))) (Link.kinds ⟨f2, x2, y2, rfl, q2⟩ (Kinds.of_grow (hg _))))
  · refine StepO.main (by decide) fun a' W hW hb hf => ⟨rfl, fun K hK => ?_⟩
    obtain ⟨hb, hdf⟩ := hb
    have HDF := Lib.hid hdf
    clear hdf
    simp only [List.forall_mem_cons, List.not_mem_nil, false_imp_iff, implies_true, and_true] at hb
    obtain ⟨m4, m1, m3⟩ := hb
    simp [FactsOf, FactAt, Region.binds, factsL] at hf
    obtain ⟨ea, hro, _⟩ := hf
    obtain ⟨b, vs, ev, hb, hn, hl⟩ := hro
    unfold Oper.wp
    simp [go_sem, ea, ev]
    refine (HROW.out W hW b vs hb hn hl).mono ?_
    intro e W' hp
    rcases hp.2.2 with ⟨he, rfl⟩ | ⟨he, rfl⟩
    · exact hK _ _ hp.1.kinds (hp.1.ahead hW) ⟨rfl, he⟩
    · exact ⟨HDF.out, HBAD.out W W' hW hp.1 he⟩
  · refine StepO.pure (by decide) fun a' W hW hb hf => ⟨rfl, fun K hK => ?_⟩
    obtain ⟨hb, hdf⟩ := hb
    have HDF := Lib.hid hdf
    clear hdf
    simp only [List.forall_mem_cons, List.not_mem_nil, false_imp_iff, implies_true, and_true] at hb
    obtain ⟨m4, m1, m3⟩ := hb
    simp [FactsOf, FactAt, Region.binds, factsL] at hf
    have c0 := HCELL.out W hW
    unfold Oper.wp
    simp [execOp, go_sem, *]
    exact hK _ _ (Kinds.refl _) id id rfl
  · refine StepO.late (by decide) (by kernel_rfl) fun a' W hW hb hf => ⟨rfl, fun K hK => ?_⟩
    obtain ⟨hb, hdf⟩ := hb
    have HDF := Lib.hid hdf
    clear hdf
    simp only [List.forall_mem_cons, List.not_mem_nil, false_imp_iff, implies_true, and_true] at hb
    obtain ⟨m4, m1, m3⟩ := hb
    simp [FactsOf, FactAt, Region.binds, factsL] at hf
    unfold Oper.wp
    simp [execOp, go_sem, hf.1.1]
    exact hK _ _ (Kinds.refl _) id ⟨rfl, hf.1.2⟩
end
end Go.Proofs.YtcbebikcfcidmaaDoor
