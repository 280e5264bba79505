/-
  The texts ChaBtw, ChaPut1, one behind the other.
-/
import Derived.Test.YtcbebikcfcidmaaDoorChaZ17
import Derived.Test.YtcbebikcfcidmaaDoorChaZ12

namespace Go.Proofs.YtcbebikcfcidmaaDoor
open Go.RowKit Go.Maps

def btw6 (S : MkS) (d x less : Int) : Int × Int × Int × MkS := endS (runL [fun i S => oneS S 9 i, fun i S => twiceS i S, fun i S => twoS S 4 less i] d S) fun j S => (x, j, 0, S)
def btw5 (S : MkS) (u w d x : Int) : Int × Int × Int × MkS := endS (runL [fun i S => oneS S 9 i, fun i S => twoS S 4 i u] w S) fun less S => btw6 S d x less
def btw4 (S : MkS) (u l w one d : Int) : Int × Int × Int × MkS := endS (runL [fun i S => twoS S 6 one i, fun i S => twoS S 5 w i, fun i S => twoS S 3 l i] d S) fun x S => btw5 S u w d x
def btw3 (S : MkS) (u l w one : Int) : Int × Int × Int × MkS := endS (runL [fun i S => oneS S 7 i, fun i S => oneS S 8 i, fun i S => twoS S 3 one i] u S) fun d S => btw4 S u l w one d
def btw2 (S : MkS) (u l w : Int) : Int × Int × Int × MkS := endS (numS S (frOf 1)) fun one S => btw3 S u l w one
def btw1 (S : MkS) (u l h : Int) : Int × Int × Int × MkS := endS (twoS S 4 h l) fun w S => btw2 S u l w
theorem twiceS_i64 {S : MkS} (hS : Good S) {j : Int} : I64 (twiceS j S).1 ∧ Good (twiceS j S).2.2 := by
  unfold twiceS
  split
  · exact ⟨ofS_i64 (numS_good hS _) _ _ _ _, ofS_good (numS_good hS _) _ _ _ _⟩
  · exact ⟨numS_i64 hS _, numS_good hS _⟩

/-- In the middle of a function that has a maker in a box. -/
structure Stage (w0 w : World) (P : Nat → Prop) (m : Value) (rt : Int × Int × Int × MkS) (W : World) (PW : Nat → Prop) (SW : MkS) : Prop where
  ours : Ours w0 W PW m SW
  box : BlkOf W w.heap.size #[m] 60
  fin : ∀ S2 w2, Then w0 W PW m S2 w2 → Then w0 w P m S2 w2
section
variable {w0 w W : World} {P PW : Nat → Prop} {m : Value} {S SW S' : MkS} {rt : Int × Int × Int × MkS}
theorem Stage.grow (_ : Stage w0 w P m rt W PW SW) (S' : MkS) (X X' : World) (hg : Grow X X') : (Grow W X → Grow W X') ∧ (Then w0 W PW m S' X → Then w0 W PW m S' X') :=
  ⟨fun h => h.trans hg, fun h => h.join fun _ ho => Then.of_grow ho hg⟩
theorem Stage.cell (h : Stage w0 w P m rt W PW SW) (S' : MkS) (X : World) (hX : Grow W X ∨ Then w0 W PW m S' X) : X.cell? ⟨w.heap.size, 0, none⟩ = some m := by
  rcases hX with hX | hX
  · exact (h.box.below hX h.box.lt).at 0 rfl
  · exact BlkOf.at (hX.kinds _ _ _ h.box (by decide) (by decide)) 0 rfl
theorem Stage.bad (h : Stage w0 w P m rt W PW SW) {e : Int} {X X' : World} (hr : rt = (0, 0, e, S')) (hX : Grow W X) (hth : Then w0 X PW m S' X') (he : e ≠ 0) : PairPost w0 w P m rt (.panicked (thrown e)) X' := by
  rw [hr]
  exact ⟨h.fin _ _ (hth.ahead hX), i64_zero, i64_zero, .inr ⟨he, rfl⟩⟩
theorem Stage.next (h : Stage w0 w P m rt W PW SW) (S' : MkS) (X : World) (hth : Then w0 W PW m S' X) : ∃ PX, Stage w0 w P m rt X PX S' := by
  obtain ⟨PX, ho, hn⟩ := hth.next
  exact ⟨PX, ho, hth.kinds _ _ _ h.box (by decide) (by decide), fun S2 w2 h2 => h.fin _ _ (hn _ _ h2)⟩
theorem Stage.back (h : Stage w0 w P m rt W PW SW) {X : World} (hX : Grow W X) (S' : MkS) (hS : S' = SW) : Then w0 w P m S' X := by
  rw [hS]
  exact h.fin _ _ (Then.of_grow h.ours hX)

set_option maxRecDepth 100000 in
set_option maxHeartbeats 16000000 in
theorem between_any {u l hh : Int} (h : Ours w0 w P m S) (ht : Tab w0) (hu : I64 u) (hl : I64 l) (hb : I64 hh) :
    Calls Tryd.prog 35 #[.agg #[m], .int .i64 u, .int .i64 l, .int .i64 hh] w (PairPost w0 w P m (btw1 S u l hh)) := by
  obtain ⟨pm, rfl⟩ := h.ptr
  obtain ⟨W1, hW1⟩ : ∃ W1, W1 = w.alloc (.cells #[.pointer (some ⟨pm, 0, none⟩)] 60) := ⟨_, rfl⟩
  have hg1 : Grow w W1 := by rw [hW1]; exact Grow.alloc w _
  have hb1 : BlkOf W1 w.heap.size #[.pointer (some ⟨pm, 0, none⟩)] 60 := by rw [hW1]; exact BlkOf.new w _ _
  obtain ⟨rt, hrt⟩ : ∃ rt, rt = btw1 S u l hh := ⟨_, rfl⟩
  rw [← hrt]
  have ST1 : Hid (Stage w0 w P (.pointer (some ⟨pm, 0, none⟩)) rt W1 P S) := Lib.hid ⟨h.more hg1, hb1, fun S2 w2 h2 => h2.ahead hg1⟩
  have HU := Lib.hid hu
  have HL := Lib.hid hl
  have HTAB := Lib.hid ht
  have HTW := Lib.hid (two_any (op := 4) ST1.out.ours ht (by decide) hb hl)
  obtain ⟨r1, hr1⟩ : ∃ r, r = twoS S 4 hh l := ⟨_, rfl⟩
  have HR1 : Hid (rt = endS r1 (fun w S => btw2 S u l w)) := Lib.hid (by rw [hrt, hr1]; rfl)
  rw [← hr1] at HTW
  have HTWI : Hid (∀ W, Link w0 (.pointer (some ⟨pm, 0, none⟩)) (fun i S => twiceS i S) (.func (.func 53) #[.agg #[.pointer (some ⟨pm, 0, none⟩)]] #[]) W) := Lib.hid fun W => ⟨_, _, _, rfl, enters_of Tryd.func53 (by kernel_rfl) rfl, fun W' P S i _ ho hi => twice_any ho ht hi⟩
  have HOF7 : Hid (∀ W, Calls Tryd.prog 33 #[.agg #[.pointer (some ⟨pm, 0, none⟩)], .int .u8 7] W (fun e w' => ∃ v, e = .returned v ∧ Link w0 (.pointer (some ⟨pm, 0, none⟩)) (fun i S => oneS S 7 i) v w' ∧ Grow W w')) := Lib.hid fun W => of_link (op := 7) _ w0 W ⟨_, rfl⟩ HTAB.out (by decide)
  have HOF8 : Hid (∀ W, Calls Tryd.prog 33 #[.agg #[.pointer (some ⟨pm, 0, none⟩)], .int .u8 8] W (fun e w' => ∃ v, e = .returned v ∧ Link w0 (.pointer (some ⟨pm, 0, none⟩)) (fun i S => oneS S 8 i) v w' ∧ Grow W w')) := Lib.hid fun W => of_link (op := 8) _ w0 W ⟨_, rfl⟩ HTAB.out (by decide)
  have HOF9 : Hid (∀ W, Calls Tryd.prog 33 #[.agg #[.pointer (some ⟨pm, 0, none⟩)], .int .u8 9] W (fun e w' => ∃ v, e = .returned v ∧ Link w0 (.pointer (some ⟨pm, 0, none⟩)) (fun i S => oneS S 9 i) v w' ∧ Grow W w')) := Lib.hid fun W => of_link (op := 9) _ w0 W ⟨_, rfl⟩ HTAB.out (by decide)
  have HAF43 : Hid (∀ W, Calls Tryd.prog 34 #[.agg #[.pointer (some ⟨pm, 0, none⟩)], .int .u8 3, .int .i64 l] W (fun e w' => ∃ v, e = .returned v ∧ Link w0 (.pointer (some ⟨pm, 0, none⟩)) (fun i S => twoS S 3 l i) v w' ∧ Grow W w')) := Lib.hid fun W => after_link (op := 3) _ w0 W ⟨_, rfl⟩ HTAB.out (by decide) HL.out
  have HAH : Hid (∀ W, Calls Tryd.prog 52 #[.agg #[.pointer (some ⟨pm, 0, none⟩)], .int .u8 4, .int .i64 u] W (fun e w' => ∃ v, e = .returned v ∧ Link w0 (.pointer (some ⟨pm, 0, none⟩)) (fun i S => twoS S 4 i u) v w' ∧ Grow W w')) := Lib.hid fun W => ahead_link (op := 4) _ w0 W ⟨_, rfl⟩ HTAB.out (by decide) HU.out
  have c1 := hb1.at 0 rfl
  subst hW1
  clear h hg1 hb1 ht hu hl hb hrt hr1
  go_enter Tryd.func35, Tryd.ntmps35
  go_wp2_with (first | (go_at_call 51; refine HTW.out.mono ?_) | fail)
  intro e W2 hp
  have hp1 := hp.1
  obtain ⟨i1, e1, S2⟩ := r1
  have HI1 : Hid (I64 i1) := Lib.hid hp.2.1
  obtain ⟨P2, hst⟩ := ST1.out.next S2 W2 hp1
  rcases hp.2.2 with ⟨he, rfl⟩ | ⟨he, rfl⟩
  · dsimp only at he
    subst he
    have ST2 := Lib.hid hst
    have c2 := hst.box.at 0 rfl
    obtain ⟨r2, hr2⟩ : ∃ r, r = numS S2 (frOf 1) := ⟨_, rfl⟩
    have HNU := Lib.hid (cnum_any (n := 1) hst.ours (by decide) (by decide))
    have HR2 : Hid (rt = endS r2 (fun one S => btw3 S u l i1 one)) := Lib.hid (by rw [HR1.out, hr2]; exact if_pos rfl)
    have hf : numS S2 ⟨false, nrow 1, nrow 1⟩ = r2 := hr2.symm
    rw [hf] at HNU
    clear hst hp hp1 hr2 hf
    go_wp2_with (first | (go_at_call 31; refine HNU.out.mono ?_) | fail)
    intro e W3 hp
    have hp1 := hp.1
    obtain ⟨i2, e2, S3⟩ := r2
    have HI2 : Hid (I64 i2) := Lib.hid hp.2.1
    obtain ⟨P3, hst⟩ := ST2.out.next S3 W3 hp1
    rcases hp.2.2 with ⟨he, rfl⟩ | ⟨he, rfl⟩
    · dsimp only at he
      subst he
      have ST3 := Lib.hid hst
      have c3 := hst.box.at 0 rfl
      have HR3 : Hid (rt = btw3 S3 u l i1 i2) := Lib.hid (by rw [HR2.out]; exact if_pos rfl)
      clear hst hp hp1
      have HAF33 : Hid (∀ W, Calls Tryd.prog 34 #[.agg #[.pointer (some ⟨pm, 0, none⟩)], .int .u8 3, .int .i64 i2] W (fun e w' => ∃ v, e = .returned v ∧ Link w0 (.pointer (some ⟨pm, 0, none⟩)) (fun i S => twoS S 3 i2 i) v w' ∧ Grow W w')) := Lib.hid fun W => after_link (op := 3) _ w0 W ⟨_, rfl⟩ HTAB.out (by decide) HI2.out
      have HAF41 : Hid (∀ W, Calls Tryd.prog 34 #[.agg #[.pointer (some ⟨pm, 0, none⟩)], .int .u8 6, .int .i64 i2] W (fun e w' => ∃ v, e = .returned v ∧ Link w0 (.pointer (some ⟨pm, 0, none⟩)) (fun i S => twoS S 6 i2 i) v w' ∧ Grow W w')) := Lib.hid fun W => after_link (op := 6) _ w0 W ⟨_, rfl⟩ HTAB.out (by decide) HI2.out
      have HAF42 : Hid (∀ W, Calls Tryd.prog 34 #[.agg #[.pointer (some ⟨pm, 0, none⟩)], .int .u8 5, .int .i64 i1] W (fun e w' => ∃ v, e = .returned v ∧ Link w0 (.pointer (some ⟨pm, 0, none⟩)) (fun i S => twoS S 5 i1 i) v w' ∧ Grow W w')) := Lib.hid fun W => after_link (op := 5) _ w0 W ⟨_, rfl⟩ HTAB.out (by decide) HI1.out
      go_wp2_with fail
      obtain ⟨r3, hr3⟩ : ∃ r, r = runL [fun i S => oneS S 7 i, fun i S => oneS S 8 i, fun i S => twoS S 3 i2 i] u S3 := ⟨_, rfl⟩
      have hI : I64 r3.1 := by
        rw [hr3]
        exact runL_i64 (fun g hg S hS j hj => by simp at hg; rcases hg with rfl | rfl | rfl <;> first | exact ⟨ofS_i64 hS _ _ _ _, ofS_good hS _ _ _ _⟩ | exact twiceS_i64 hS) ST3.out.ours.good HU.out
      have hrow : ∀ W, Grow W3 W → ∀ b (vs : List Value), BlkOf W b vs.toArray 80 → vs.length = 3 → (∀ (k : Nat) (v : Value), vs[k]? = some v → ∃ g, [fun i S => oneS S 7 i, fun i S => oneS S 8 i, fun i S => twoS S 3 i2 i][k]? = some g ∧ Link w0 (.pointer (some ⟨pm, 0, none⟩)) g v W) →
          Calls Tryd.prog 32 #[.int .i64 u, .slice (some ⟨b, 0, none⟩) 3 3] W (StepPost w0 W P3 (.pointer (some ⟨pm, 0, none⟩)) r3) := fun W hW b vs hb2 hn2 hl2 => by
        rw [hr3]
        exact row_any (n := 3) (ST3.out.ours.more hW) HU.out hb2 hl2 hn2 rfl (by decide)
      have hrt : rt = endS r3 (fun x S => btw4 S u l i1 i2 x) := by rw [HR3.out, hr3]; rfl
      obtain ⟨i3, e3, S4⟩ := r3
      have HROW := Lib.hid hrow
      have HI3 : Hid (I64 i3) := Lib.hid hI
      have HBAD : Hid (∀ W W', Grow W3 W → Then w0 W P3 (.pointer (some ⟨pm, 0, none⟩)) S4 W' → e3 ≠ 0 → PairPost w0 w P (.pointer (some ⟨pm, 0, none⟩)) rt (.panicked (thrown e3)) W') := Lib.hid fun W W' hW hth he => ST3.out.bad (by rw [hrt]; exact if_neg he) hW hth he
      have HGC := Lib.hid (fun W W' hg => ST3.out.grow S4 W W' hg)
      have HCELL := Lib.hid (fun W hW => ST3.out.cell S4 W hW)
      have HRT3 := Lib.hid hrt
      clear hr3 hI hrow hrt
      refine wp_region_one Kinds (fun W => Grow W3 W) (fun W => Then w0 W3 P3 (.pointer (some ⟨pm, 0, none⟩)) S4 W) [fun v _ => v = .int .i64 u, fun v _ => v = .agg #[.pointer (some ⟨pm, 0, none⟩)], fun v W => Link w0 (.pointer (some ⟨pm, 0, none⟩)) (fun i S => oneS S 7 i) v W, fun v _ => v = .agg #[.pointer (some ⟨pm, 0, none⟩)], fun v W => Link w0 (.pointer (some ⟨pm, 0, none⟩)) (fun i S => oneS S 8 i) v W, fun v _ => v = .agg #[.pointer (some ⟨pm, 0, none⟩)], fun v _ => v = .int .i64 i2, fun v W => Link w0 (.pointer (some ⟨pm, 0, none⟩)) (fun i S => twoS S 3 i2 i) v W, fun v W => RowOf w0 (.pointer (some ⟨pm, 0, none⟩)) [fun i S => oneS S 7 i, fun i S => oneS S 8 i, fun i S => twoS S 3 i2 i] 3 v W, fun v _ => v = .int .i64 i3 ∧ e3 = 0]
        [(4, .pointer (some ⟨w.heap.size, 0, none⟩)), (1, .int .i64 u), (11, .int .i64 i2)] 10 9 (by kernel_rfl) ?stay rfl (by decide) ?atC (by kernel_rfl) rfl ?base (by kernel_rfl) ⟨?_, ?_, ?_, ?_, ?_, ?_, ?_, ?_, ?_, ?_, trivial⟩ ?last
      case stay =>
        simp only [List.forall_mem_cons, List.not_mem_nil, false_imp_iff, implies_true, and_true]
        exact ⟨fun _ _ _ _ h => h, fun _ _ _ _ h => h, fun _ _ _ hk h => h.kinds hk, fun _ _ _ _ h => h, fun _ _ _ hk h => h.kinds hk, fun _ _ _ _ h => h, fun _ _ _ _ h => h, fun _ _ _ hk h => h.kinds hk, fun _ _ _ hk h => h.kinds hk, fun _ _ _ _ h => h⟩
      case atC => exact Grow.drew _
      case base => simp
      case last =>
        intro vs W hW hv
        simp only [FactsL, Nat.zero_add, Nat.reduceAdd] at hv
        have v9 := hv.2.2.2.2.2.2.2.2.2.1
        clear hv
        refine ⟨rfl, ?_⟩
        simp only [List.take_succ_cons, List.take_zero, putF, Act.put, List.setIfInBounds_toArray, List.set_cons_zero, List.set_cons_succ, Nat.reduceAdd, v9]
        obtain ⟨e12, rfl⟩ := v9
        unfold Oper.wp
        simp [execOp, go_sem]
        obtain ⟨P4, hst⟩ := ST3.out.next S4 W hW
        obtain ⟨W4, hWW⟩ : ∃ W4, W4 = W := ⟨_, rfl⟩
        rw [← hWW] at hst ⊢
        have ST4 := Lib.hid hst
        have c4 := hst.box.at 0 rfl
        have HR4 : Hid (rt = btw4 S4 u l i1 i2 i3) := Lib.hid (by rw [HRT3.out]; exact if_pos rfl)
        clear hW hWW hst HROW HBAD HGC HCELL
        go_wp2_with fail
        obtain ⟨r4, hr4⟩ : ∃ r, r = runL [fun i S => twoS S 6 i2 i, fun i S => twoS S 5 i1 i, fun i S => twoS S 3 l i] i3 S4 := ⟨_, rfl⟩
        have hI : I64 r4.1 := by
          rw [hr4]
          exact runL_i64 (fun g hg S hS j hj => by simp at hg; rcases hg with rfl | rfl | rfl <;> first | exact ⟨ofS_i64 hS _ _ _ _, ofS_good hS _ _ _ _⟩ | exact twiceS_i64 hS) ST4.out.ours.good HI3.out
        have hrow : ∀ W, Grow W4 W → ∀ b (vs : List Value), BlkOf W b vs.toArray 80 → vs.length = 3 → (∀ (k : Nat) (v : Value), vs[k]? = some v → ∃ g, [fun i S => twoS S 6 i2 i, fun i S => twoS S 5 i1 i, fun i S => twoS S 3 l i][k]? = some g ∧ Link w0 (.pointer (some ⟨pm, 0, none⟩)) g v W) →
            Calls Tryd.prog 32 #[.int .i64 i3, .slice (some ⟨b, 0, none⟩) 3 3] W (StepPost w0 W P4 (.pointer (some ⟨pm, 0, none⟩)) r4) := fun W hW b vs hb2 hn2 hl2 => by
          rw [hr4]
          exact row_any (n := 3) (ST4.out.ours.more hW) HI3.out hb2 hl2 hn2 rfl (by decide)
        have hrt : rt = endS r4 (fun x S => btw5 S u i1 i3 x) := by rw [HR4.out, hr4]; rfl
        obtain ⟨i4, e4, S5⟩ := r4
        have HROW := Lib.hid hrow
        have HI4 : Hid (I64 i4) := Lib.hid hI
        have HBAD : Hid (∀ W W', Grow W4 W → Then w0 W P4 (.pointer (some ⟨pm, 0, none⟩)) S5 W' → e4 ≠ 0 → PairPost w0 w P (.pointer (some ⟨pm, 0, none⟩)) rt (.panicked (thrown e4)) W') := Lib.hid fun W W' hW hth he => ST4.out.bad (by rw [hrt]; exact if_neg he) hW hth he
        have HGC := Lib.hid (fun W W' hg => ST4.out.grow S5 W W' hg)
        have HCELL := Lib.hid (fun W hW => ST4.out.cell S5 W hW)
        have HRT4 := Lib.hid hrt
        clear hr4 hI hrow hrt
        refine wp_region_one Kinds (fun W => Grow W4 W) (fun W => Then w0 W4 P4 (.pointer (some ⟨pm, 0, none⟩)) S5 W) [fun v _ => v = .int .i64 i3, fun v _ => v = .agg #[.pointer (some ⟨pm, 0, none⟩)], fun v _ => v = .int .i64 i2, fun v W => Link w0 (.pointer (some ⟨pm, 0, none⟩)) (fun i S => twoS S 6 i2 i) v W, fun v _ => v = .agg #[.pointer (some ⟨pm, 0, none⟩)], fun v _ => v = .int .i64 i1, fun v W => Link w0 (.pointer (some ⟨pm, 0, none⟩)) (fun i S => twoS S 5 i1 i) v W, fun v _ => v = .agg #[.pointer (some ⟨pm, 0, none⟩)], fun v _ => v = .int .i64 l, fun v W => Link w0 (.pointer (some ⟨pm, 0, none⟩)) (fun i S => twoS S 3 l i) v W, fun v W => RowOf w0 (.pointer (some ⟨pm, 0, none⟩)) [fun i S => twoS S 6 i2 i, fun i S => twoS S 5 i1 i, fun i S => twoS S 3 l i] 3 v W, fun v _ => v = .int .i64 i4 ∧ e4 = 0]
          [(4, .pointer (some ⟨w.heap.size, 0, none⟩)), (12, .int .i64 i3), (11, .int .i64 i2), (10, .int .i64 i1), (2, .int .i64 l)] 12 11 (by kernel_rfl) ?stay rfl (by decide) ?atC (by kernel_rfl) rfl ?base (by kernel_rfl) ⟨?_, ?_, ?_, ?_, ?_, ?_, ?_, ?_, ?_, ?_, ?_, ?_, trivial⟩ ?last
        case stay =>
          simp only [List.forall_mem_cons, List.not_mem_nil, false_imp_iff, implies_true, and_true]
          exact ⟨fun _ _ _ _ h => h, fun _ _ _ _ h => h, fun _ _ _ _ h => h, fun _ _ _ hk h => h.kinds hk, fun _ _ _ _ h => h, fun _ _ _ _ h => h, fun _ _ _ hk h => h.kinds hk, fun _ _ _ _ h => h, fun _ _ _ _ h => h, fun _ _ _ hk h => h.kinds hk, fun _ _ _ hk h => h.kinds hk, fun _ _ _ _ h => h⟩
        case atC => exact Grow.drew _
        case base => simp
        case last =>
          intro vs W hW hv
          simp only [FactsL, Nat.zero_add, Nat.reduceAdd] at hv
          have v11 := hv.2.2.2.2.2.2.2.2.2.2.2.1
          clear hv
          refine ⟨rfl, ?_⟩
          simp only [List.take_succ_cons, List.take_zero, putF, Act.put, List.setIfInBounds_toArray, List.set_cons_zero, List.set_cons_succ, Nat.reduceAdd, v11]
          obtain ⟨e12, rfl⟩ := v11
          unfold Oper.wp
          simp [execOp, go_sem]
          obtain ⟨P5, hst⟩ := ST4.out.next S5 W hW
          obtain ⟨W5, hWW⟩ : ∃ W5, W5 = W := ⟨_, rfl⟩
          rw [← hWW] at hst ⊢
          have ST5 := Lib.hid hst
          have c5 := hst.box.at 0 rfl
          have HR5 : Hid (rt = btw5 S5 u i1 i3 i4) := Lib.hid (by rw [HRT4.out]; exact if_pos rfl)
          clear hW hWW hst HROW HBAD HGC HCELL
          go_wp2_with fail
          obtain ⟨r5, hr5⟩ : ∃ r, r = runL [fun i S => oneS S 9 i, fun i S => twoS S 4 i u] i1 S5 := ⟨_, rfl⟩
          have hI : I64 r5.1 := by
            rw [hr5]
            exact runL_i64 (fun g hg S hS j hj => by simp at hg; rcases hg with rfl | rfl <;> first | exact ⟨ofS_i64 hS _ _ _ _, ofS_good hS _ _ _ _⟩ | exact twiceS_i64 hS) ST5.out.ours.good HI1.out
          have hrow : ∀ W, Grow W5 W → ∀ b (vs : List Value), BlkOf W b vs.toArray 80 → vs.length = 2 → (∀ (k : Nat) (v : Value), vs[k]? = some v → ∃ g, [fun i S => oneS S 9 i, fun i S => twoS S 4 i u][k]? = some g ∧ Link w0 (.pointer (some ⟨pm, 0, none⟩)) g v W) →
              Calls Tryd.prog 32 #[.int .i64 i1, .slice (some ⟨b, 0, none⟩) 2 2] W (StepPost w0 W P5 (.pointer (some ⟨pm, 0, none⟩)) r5) := fun W hW b vs hb2 hn2 hl2 => by
            rw [hr5]
            exact row_any (n := 2) (ST5.out.ours.more hW) HI1.out hb2 hl2 hn2 rfl (by decide)
          have hrt : rt = endS r5 (fun x S => btw6 S i3 i4 x) := by rw [HR5.out, hr5]; rfl
          obtain ⟨i5, e5, S6⟩ := r5
          have HROW := Lib.hid hrow
          have HI5 : Hid (I64 i5) := Lib.hid hI
          have HBAD : Hid (∀ W W', Grow W5 W → Then w0 W P5 (.pointer (some ⟨pm, 0, none⟩)) S6 W' → e5 ≠ 0 → PairPost w0 w P (.pointer (some ⟨pm, 0, none⟩)) rt (.panicked (thrown e5)) W') := Lib.hid fun W W' hW hth he => ST5.out.bad (by rw [hrt]; exact if_neg he) hW hth he
          have HGC := Lib.hid (fun W W' hg => ST5.out.grow S6 W W' hg)
          have HCELL := Lib.hid (fun W hW => ST5.out.cell S6 W hW)
          have HRT5 := Lib.hid hrt
          clear hr5 hI hrow hrt
          refine wp_region_one Kinds (fun W => Grow W5 W) (fun W => Then w0 W5 P5 (.pointer (some ⟨pm, 0, none⟩)) S6 W) [fun v _ => v = .int .i64 i1, fun v _ => v = .agg #[.pointer (some ⟨pm, 0, none⟩)], fun v W => Link w0 (.pointer (some ⟨pm, 0, none⟩)) (fun i S => oneS S 9 i) v W, fun v _ => v = .agg #[.pointer (some ⟨pm, 0, none⟩)], fun v _ => v = .int .i64 u, fun v W => Link w0 (.pointer (some ⟨pm, 0, none⟩)) (fun i S => twoS S 4 i u) v W, fun v W => RowOf w0 (.pointer (some ⟨pm, 0, none⟩)) [fun i S => oneS S 9 i, fun i S => twoS S 4 i u] 2 v W, fun v _ => v = .int .i64 i5 ∧ e5 = 0]
            [(4, .pointer (some ⟨w.heap.size, 0, none⟩)), (10, .int .i64 i1), (1, .int .i64 u)] 8 7 (by kernel_rfl) ?stay rfl (by decide) ?atC (by kernel_rfl) rfl ?base (by kernel_rfl) ⟨?_, ?_, ?_, ?_, ?_, ?_, ?_, ?_, trivial⟩ ?last
          case stay =>
            simp only [List.forall_mem_cons, List.not_mem_nil, false_imp_iff, implies_true, and_true]
            exact ⟨fun _ _ _ _ h => h, fun _ _ _ _ h => h, fun _ _ _ hk h => h.kinds hk, fun _ _ _ _ h => h, fun _ _ _ _ h => h, fun _ _ _ hk h => h.kinds hk, fun _ _ _ hk h => h.kinds hk, fun _ _ _ _ h => h⟩
          case atC => exact Grow.drew _
          case base => simp
          case last =>
            intro vs W hW hv
            simp only [FactsL, Nat.zero_add, Nat.reduceAdd] at hv
            have v7 := hv.2.2.2.2.2.2.2.1
            clear hv
            refine ⟨rfl, ?_⟩
            simp only [List.take_succ_cons, List.take_zero, putF, Act.put, List.setIfInBounds_toArray, List.set_cons_zero, List.set_cons_succ, Nat.reduceAdd, v7]
            obtain ⟨e12, rfl⟩ := v7
            unfold Oper.wp
            simp [execOp, go_sem]
            obtain ⟨P6, hst⟩ := ST5.out.next S6 W hW
            obtain ⟨W6, hWW⟩ : ∃ W6, W6 = W := ⟨_, rfl⟩
            rw [← hWW] at hst ⊢
            have ST6 := Lib.hid hst
            have c6 := hst.box.at 0 rfl
            have HR6 : Hid (rt = btw6 S6 i3 i4 i5) := Lib.hid (by rw [HRT5.out]; exact if_pos rfl)
            clear hW hWW hst HROW HBAD HGC HCELL
            have HAF63 : Hid (∀ W, Calls Tryd.prog 34 #[.agg #[.pointer (some ⟨pm, 0, none⟩)], .int .u8 4, .int .i64 i5] W (fun e w' => ∃ v, e = .returned v ∧ Link w0 (.pointer (some ⟨pm, 0, none⟩)) (fun i S => twoS S 4 i5 i) v w' ∧ Grow W w')) := Lib.hid fun W => after_link (op := 4) _ w0 W ⟨_, rfl⟩ HTAB.out (by decide) HI5.out
            go_wp2_with fail
            obtain ⟨r6, hr6⟩ : ∃ r, r = runL [fun i S => oneS S 9 i, fun i S => twiceS i S, fun i S => twoS S 4 i5 i] i3 S6 := ⟨_, rfl⟩
            have hI : I64 r6.1 := by
              rw [hr6]
              exact runL_i64 (fun g hg S hS j hj => by simp at hg; rcases hg with rfl | rfl | rfl <;> first | exact ⟨ofS_i64 hS _ _ _ _, ofS_good hS _ _ _ _⟩ | exact twiceS_i64 hS) ST6.out.ours.good HI3.out
            have hrow : ∀ W, Grow W6 W → ∀ b (vs : List Value), BlkOf W b vs.toArray 80 → vs.length = 3 → (∀ (k : Nat) (v : Value), vs[k]? = some v → ∃ g, [fun i S => oneS S 9 i, fun i S => twiceS i S, fun i S => twoS S 4 i5 i][k]? = some g ∧ Link w0 (.pointer (some ⟨pm, 0, none⟩)) g v W) →
                Calls Tryd.prog 32 #[.int .i64 i3, .slice (some ⟨b, 0, none⟩) 3 3] W (StepPost w0 W P6 (.pointer (some ⟨pm, 0, none⟩)) r6) := fun W hW b vs hb2 hn2 hl2 => by
              rw [hr6]
              exact row_any (n := 3) (ST6.out.ours.more hW) HI3.out hb2 hl2 hn2 rfl (by decide)
            have hrt : rt = endS r6 (fun x S => (i4, x, 0, S)) := by rw [HR6.out, hr6]; rfl
            obtain ⟨i6, e6, S7⟩ := r6
            have HROW := Lib.hid hrow
            have HI6 : Hid (I64 i6) := Lib.hid hI
            have HBAD : Hid (∀ W W', Grow W6 W → Then w0 W P6 (.pointer (some ⟨pm, 0, none⟩)) S7 W' → e6 ≠ 0 → PairPost w0 w P (.pointer (some ⟨pm, 0, none⟩)) rt (.panicked (thrown e6)) W') := Lib.hid fun W W' hW hth he => ST6.out.bad (by rw [hrt]; exact if_neg he) hW hth he
            have HGC := Lib.hid (fun W W' hg => ST6.out.grow S7 W W' hg)
            have HCELL := Lib.hid (fun W hW => ST6.out.cell S7 W hW)
            have HRT6 := Lib.hid hrt
            clear hr6 hI hrow hrt
            refine wp_region_one Kinds (fun W => Grow W6 W) (fun W => Then w0 W6 P6 (.pointer (some ⟨pm, 0, none⟩)) S7 W) [fun v _ => v = .int .i64 i3, fun v _ => v = .agg #[.pointer (some ⟨pm, 0, none⟩)], fun v W => Link w0 (.pointer (some ⟨pm, 0, none⟩)) (fun i S => oneS S 9 i) v W, fun v _ => v = .agg #[.pointer (some ⟨pm, 0, none⟩)], fun v W => Link w0 (.pointer (some ⟨pm, 0, none⟩)) (fun i S => twiceS i S) v W, fun v _ => v = .agg #[.pointer (some ⟨pm, 0, none⟩)], fun v _ => v = .int .i64 i5, fun v W => Link w0 (.pointer (some ⟨pm, 0, none⟩)) (fun i S => twoS S 4 i5 i) v W, fun v W => RowOf w0 (.pointer (some ⟨pm, 0, none⟩)) [fun i S => oneS S 9 i, fun i S => twiceS i S, fun i S => twoS S 4 i5 i] 3 v W, fun v _ => v = .int .i64 i6 ∧ e6 = 0]
              [(4, .pointer (some ⟨w.heap.size, 0, none⟩)), (12, .int .i64 i3), (13, .int .i64 i5)] 10 9 (by kernel_rfl) ?stay rfl (by decide) ?atC (by kernel_rfl) rfl ?base (by kernel_rfl) ⟨?_, ?_, ?_, ?_, ?_, ?_, ?_, ?_, ?_, ?_, trivial⟩ ?last
            case stay =>
              simp only [List.forall_mem_cons, List.not_mem_nil, false_imp_iff, implies_true, and_true]
              exact ⟨fun _ _ _ _ h => h, fun _ _ _ _ h => h, fun _ _ _ hk h => h.kinds hk, fun _ _ _ _ h => h, fun _ _ _ hk h => h.kinds hk, fun _ _ _ _ h => h, fun _ _ _ _ h => h, fun _ _ _ hk h => h.kinds hk, fun _ _ _ hk h => h.kinds hk, fun _ _ _ _ h => h⟩
            case atC => exact Grow.drew _
            case base => simp
            case last =>
              intro vs W hW hv
              simp only [FactsL, Nat.zero_add, Nat.reduceAdd] at hv
              have v9 := hv.2.2.2.2.2.2.2.2.2.1
              clear hv
              refine ⟨rfl, ?_⟩
              simp only [List.take_succ_cons, List.take_zero, putF, Act.put, List.setIfInBounds_toArray, List.set_cons_zero, List.set_cons_succ, Nat.reduceAdd, v9]
              obtain ⟨e12, rfl⟩ := v9
              unfold Oper.wp
              simp [execOp, go_sem]
              obtain ⟨P7, hst⟩ := ST6.out.next S7 W hW
              obtain ⟨W7, hWW⟩ : ∃ W7, W7 = W := ⟨_, rfl⟩
              rw [← hWW] at hst ⊢
              have ST7 := Lib.hid hst
              have c7 := hst.box.at 0 rfl
              have HR7 : Hid (rt = (i4, i6, 0, S7)) := Lib.hid (by rw [HRT6.out]; exact if_pos rfl)
              clear hW hWW hst HROW HBAD HGC HCELL
              go_wp2_with fail
              go_ret2
              refine ⟨ST7.out.back (Grow.refl _) _ (by rw [HR7.out]), ?_, ?_, .inl ⟨?_, ?_⟩⟩
              all_goals rw [HR7.out]
              · exact HI4.out
              · exact HI6.out
              · rfl
              
            · refine StepO.pure (by decide) fun a' W hW hb hf => ⟨rfl, fun K hK => ?_⟩
              obtain ⟨hb, hdf⟩ := hb
              have HDF := Lib.hid hdf
              clear hdf
              simp only [List.forall_mem_cons, List.not_mem_nil, false_imp_iff, implies_true, and_true] at hb
              obtain ⟨m4, m12, m13⟩ := hb
              simp [FactsOf, FactAt, Region.binds, factsL] at hf
              have c0 := HCELL.out W hW
              unfold Oper.wp
              simp [execOp, go_sem, *]
              exact hK _ _ (Kinds.refl _) id id rfl
            · refine StepO.pure (by decide) fun a' W hW hb hf => ⟨rfl, fun K hK => ?_⟩
              obtain ⟨hb, hdf⟩ := hb
              have HDF := Lib.hid hdf
              clear hdf
              simp only [List.forall_mem_cons, List.not_mem_nil, false_imp_iff, implies_true, and_true] at hb
              obtain ⟨m4, m12, m13⟩ := hb
              simp [FactsOf, FactAt, Region.binds, factsL] at hf
              have c0 := HCELL.out W hW
              unfold Oper.wp
              simp [execOp, go_sem, *]
              exact hK _ _ (Kinds.refl _) id id rfl
            · refine StepO.pure (by decide) fun a' W hW hb hf => ⟨rfl, fun K hK => ?_⟩
              obtain ⟨hb, hdf⟩ := hb
              have HDF := Lib.hid hdf
              clear hdf
              simp only [List.forall_mem_cons, List.not_mem_nil, false_imp_iff, implies_true, and_true] at hb
              obtain ⟨m4, m12, m13⟩ := hb
              simp [FactsOf, FactAt, Region.binds, factsL] at hf
              unfold Oper.wp
              simp [go_sem, *]
              refine (HOF9.out W).mono ?_
              rintro e W' ⟨v, rfl, hl, hg⟩
              exact hK _ _ (Kinds.of_grow hg) (HGC.out W W' hg).1 (HGC.out W W' hg).2 hl
            · refine StepO.pure (by decide) fun a' W hW hb hf => ⟨rfl, fun K hK => ?_⟩
              obtain ⟨hb, hdf⟩ := hb
              have HDF := Lib.hid hdf
              clear hdf
              simp only [List.forall_mem_cons, List.not_mem_nil, false_imp_iff, implies_true, and_true] at hb
              obtain ⟨m4, m12, m13⟩ := hb
              simp [FactsOf, FactAt, Region.binds, factsL] at hf
              have c0 := HCELL.out W hW
              unfold Oper.wp
              simp [execOp, go_sem, *]
              exact hK _ _ (Kinds.refl _) id id rfl
            · refine StepO.pure (by decide) fun a' W hW hb hf => ⟨rfl, fun K hK => ?_⟩
              obtain ⟨hb, hdf⟩ := hb
              have HDF := Lib.hid hdf
              clear hdf
              simp only [List.forall_mem_cons, List.not_mem_nil, false_imp_iff, implies_true, and_true] at hb
              obtain ⟨m4, m12, m13⟩ := hb
              simp [FactsOf, FactAt, Region.binds, factsL] at hf
              unfold Oper.wp
              simp [go_sem, *]
              exact hK _ _ (Kinds.refl _) id id (HTWI.out W)
            · refine StepO.pure (by decide) fun a' W hW hb hf => ⟨rfl, fun K hK => ?_⟩
              obtain ⟨hb, hdf⟩ := hb
              have HDF := Lib.hid hdf
              clear hdf
              simp only [List.forall_mem_cons, List.not_mem_nil, false_imp_iff, implies_true, and_true] at hb
              obtain ⟨m4, m12, m13⟩ := hb
              simp [FactsOf, FactAt, Region.binds, factsL] at hf
              have c0 := HCELL.out W hW
              unfold Oper.wp
              simp [execOp, go_sem, *]
              exact hK _ _ (Kinds.refl _) id id rfl
            · refine StepO.pure (by decide) fun a' W hW hb hf => ⟨rfl, fun K hK => ?_⟩
              obtain ⟨hb, hdf⟩ := hb
              have HDF := Lib.hid hdf
              clear hdf
              simp only [List.forall_mem_cons, List.not_mem_nil, false_imp_iff, implies_true, and_true] at hb
              obtain ⟨m4, m12, m13⟩ := hb
              simp [FactsOf, FactAt, Region.binds, factsL] at hf
              have c0 := HCELL.out W hW
              unfold Oper.wp
              simp [execOp, go_sem, *]
              exact hK _ _ (Kinds.refl _) id id rfl
            · refine StepO.pure (by decide) fun a' W hW hb hf => ⟨rfl, fun K hK => ?_⟩
              obtain ⟨hb, hdf⟩ := hb
              have HDF := Lib.hid hdf
              clear hdf
              simp only [List.forall_mem_cons, List.not_mem_nil, false_imp_iff, implies_true, and_true] at hb
              obtain ⟨m4, m12, m13⟩ := hb
              simp [FactsOf, FactAt, Region.binds, factsL] at hf
              unfold Oper.wp
              simp [go_sem, *]
              refine (HAF63.out W).mono ?_
              rintro e W' ⟨v, rfl, hl, hg⟩
              exact hK _ _ (Kinds.of_grow hg) (HGC.out W W' hg).1 (HGC.out W W' hg).2 hl
            · refine StepO.pure (by decide) fun a' W hW hb hf => ⟨rfl, fun K hK => ?_⟩
              obtain ⟨hb, hdf⟩ := hb
              have HDF := Lib.hid hdf
              clear hdf
              simp only [List.forall_mem_cons, List.not_mem_nil, false_imp_iff, implies_true, and_true] at hb
              obtain ⟨m4, m12, m13⟩ := hb
              simp [FactsOf, FactAt, Region.binds, factsL] at hf
              obtain ⟨h1, h2, h3⟩ := hf
              obtain ⟨f1, x1, y1, e1, q1⟩ := h1
              obtain ⟨f2, x2, y2, e2, q2⟩ := h2
              obtain ⟨f3, x3, y3, e3, q3⟩ := h3
              unfold Oper.wp
              simp [execOp, go_sem, e1, e2, e3]
              have hg := fun (cs : Array Value) => Grow.alloc W (.cells cs 80)
              exact hK _ _ (Kinds.of_grow (hg _)) (HGC.out _ _ (hg _)).1 (HGC.out _ _ (hg _)).2 (row_of3 (BlkOf.new W _ _) (Link.kinds ⟨f1, x1, y1, rfl, q1⟩ (Kinds.of_grow (hg _))) (Link.kinds ⟨f2, x2, y2, rfl, q2⟩ (Kinds.of_grow (hg _))) (Link.kinds ⟨f3, x3, y3, rfl, q3⟩ (Kinds.of_grow (hg _))))
            · refine StepO.main (by decide) fun a' W hW hb hf => ⟨rfl, fun K hK => ?_⟩
              obtain ⟨hb, hdf⟩ := hb
              have HDF := Lib.hid hdf
              clear hdf
              simp only [List.forall_mem_cons, List.not_mem_nil, false_imp_iff, implies_true, and_true] at hb
              obtain ⟨m4, m12, m13⟩ := hb
              simp [FactsOf, FactAt, Region.binds, factsL] at hf
              obtain ⟨ea, hro, _⟩ := hf
              obtain ⟨b, vs, ev, hb, hn, hl⟩ := hro
              unfold Oper.wp
              simp [go_sem, ea, ev]
              refine (HROW.out W hW b vs hb hn hl).mono ?_
              intro e W' hp
              rcases hp.2.2 with ⟨he, rfl⟩ | ⟨he, rfl⟩
              · exact hK _ _ hp.1.kinds (hp.1.ahead hW) ⟨rfl, he⟩
              · exact ⟨HDF.out, HBAD.out W W' hW hp.1 he⟩
            
          · refine StepO.pure (by decide) fun a' W hW hb hf => ⟨rfl, fun K hK => ?_⟩
            obtain ⟨hb, hdf⟩ := hb
            have HDF := Lib.hid hdf
            clear hdf
            simp only [List.forall_mem_cons, List.not_mem_nil, false_imp_iff, implies_true, and_true] at hb
            obtain ⟨m4, m10, m1⟩ := hb
            simp [FactsOf, FactAt, Region.binds, factsL] at hf
            have c0 := HCELL.out W hW
            unfold Oper.wp
            simp [execOp, go_sem, *]
            exact hK _ _ (Kinds.refl _) id id rfl
          · refine StepO.pure (by decide) fun a' W hW hb hf => ⟨rfl, fun K hK => ?_⟩
            obtain ⟨hb, hdf⟩ := hb
            have HDF := Lib.hid hdf
            clear hdf
            simp only [List.forall_mem_cons, List.not_mem_nil, false_imp_iff, implies_true, and_true] at hb
            obtain ⟨m4, m10, m1⟩ := hb
            simp [FactsOf, FactAt, Region.binds, factsL] at hf
            have c0 := HCELL.out W hW
            unfold Oper.wp
            simp [execOp, go_sem, *]
            exact hK _ _ (Kinds.refl _) id id rfl
          · refine StepO.pure (by decide) fun a' W hW hb hf => ⟨rfl, fun K hK => ?_⟩
            obtain ⟨hb, hdf⟩ := hb
            have HDF := Lib.hid hdf
            clear hdf
            simp only [List.forall_mem_cons, List.not_mem_nil, false_imp_iff, implies_true, and_true] at hb
            obtain ⟨m4, m10, m1⟩ := hb
            simp [FactsOf, FactAt, Region.binds, factsL] at hf
            unfold Oper.wp
            simp [go_sem, *]
            refine (HOF9.out W).mono ?_
            rintro e W' ⟨v, rfl, hl, hg⟩
            exact hK _ _ (Kinds.of_grow hg) (HGC.out W W' hg).1 (HGC.out W W' hg).2 hl
          · refine StepO.pure (by decide) fun a' W hW hb hf => ⟨rfl, fun K hK => ?_⟩
            obtain ⟨hb, hdf⟩ := hb
            have HDF := Lib.hid hdf
            clear hdf
            simp only [List.forall_mem_cons, List.not_mem_nil, false_imp_iff, implies_true, and_true] at hb
            obtain ⟨m4, m10, m1⟩ := hb
            simp [FactsOf, FactAt, Region.binds, factsL] at hf
            have c0 := HCELL.out W hW
            unfold Oper.wp
            simp [execOp, go_sem, *]
            exact hK _ _ (Kinds.refl _) id id rfl
          · refine StepO.pure (by decide) fun a' W hW hb hf => ⟨rfl, fun K hK => ?_⟩
            obtain ⟨hb, hdf⟩ := hb
            have HDF := Lib.hid hdf
            clear hdf
            simp only [List.forall_mem_cons, List.not_mem_nil, false_imp_iff, implies_true, and_true] at hb
            obtain ⟨m4, m10, m1⟩ := hb
            simp [FactsOf, FactAt, Region.binds, factsL] at hf
            have c0 := HCELL.out W hW
            unfold Oper.wp
            simp [execOp, go_sem, *]
            exact hK _ _ (Kinds.refl _) id id rfl
          · refine StepO.pure (by decide) fun a' W hW hb hf => ⟨rfl, fun K hK => ?_⟩
            obtain ⟨hb, hdf⟩ := hb
            have HDF := Lib.hid hdf
            clear hdf
            simp only [List.forall_mem_cons, List.not_mem_nil, false_imp_iff, implies_true, and_true] at hb
            obtain ⟨m4, m10, m1⟩ := hb
            simp [FactsOf, FactAt, Region.binds, factsL] at hf
            unfold Oper.wp
            simp [go_sem, *]
            refine (HAH.out W).mono ?_
            rintro e W' ⟨v, rfl, hl, hg⟩
            exact hK _ _ (Kinds.of_grow hg) (HGC.out W W' hg).1 (HGC.out W W' hg).2 hl
          · refine StepO.pure (by decide) fun a' W hW hb hf => ⟨rfl, fun K hK => ?_⟩
            obtain ⟨hb, hdf⟩ := hb
            have HDF := Lib.hid hdf
            clear hdf
            simp only [List.forall_mem_cons, List.not_mem_nil, false_imp_iff, implies_true, and_true] at hb
            obtain ⟨m4, m10, m1⟩ := hb
            simp [FactsOf, FactAt, Region.binds, factsL] at hf
            obtain ⟨h1, h2⟩ := hf
            obtain ⟨f1, x1, y1, e1, q1⟩ := h1
            obtain ⟨f2, x2, y2, e2, q2⟩ := h2
            unfold Oper.wp
            simp [execOp, go_sem, e1, e2]
            have hg := fun (cs : Array Value) => Grow.alloc W (.cells cs 80)
            exact hK _ _ (Kinds.of_grow (hg _)) (HGC.out _ _ (hg _)).1 (HGC.out _ _ (hg _)).2 (row_of2 (BlkOf.new W _ _) (Link.kinds ⟨f1, x1, y1, rfl, q1⟩ (Kinds.of_grow (hg _))) (Link.kinds ⟨f2, x2, y2, rfl, q2⟩ (Kinds.of_grow (hg _))))
          · refine StepO.main (by decide) fun a' W hW hb hf => ⟨rfl, fun K hK => ?_⟩
            obtain ⟨hb, hdf⟩ := hb
            have HDF := Lib.hid hdf
            clear hdf
            simp only [List.forall_mem_cons, List.not_mem_nil, false_imp_iff, implies_true, and_true] at hb
            obtain ⟨m4, m10, m1⟩ := hb
            simp [FactsOf, FactAt, Region.binds, factsL] at hf
            obtain ⟨ea, hro, _⟩ := hf
            obtain ⟨b, vs, ev, hb, hn, hl⟩ := hro
            unfold Oper.wp
            simp [go_sem, ea, ev]
            refine (HROW.out W hW b vs hb hn hl).mono ?_
            intro e W' hp
            rcases hp.2.2 with ⟨he, rfl⟩ | ⟨he, rfl⟩
            · exact hK _ _ hp.1.kinds (hp.1.ahead hW) ⟨rfl, he⟩
            · exact ⟨HDF.out, HBAD.out W W' hW hp.1 he⟩
          
        · refine StepO.pure (by decide) fun a' W hW hb hf => ⟨rfl, fun K hK => ?_⟩
          obtain ⟨hb, hdf⟩ := hb
          have HDF := Lib.hid hdf
          clear hdf
          simp only [List.forall_mem_cons, List.not_mem_nil, false_imp_iff, implies_true, and_true] at hb
          obtain ⟨m4, m12, m11, m10, m2⟩ := hb
          simp [FactsOf, FactAt, Region.binds, factsL] at hf
          have c0 := HCELL.out W hW
          unfold Oper.wp
          simp [execOp, go_sem, *]
          exact hK _ _ (Kinds.refl _) id id rfl
        · refine StepO.pure (by decide) fun a' W hW hb hf => ⟨rfl, fun K hK => ?_⟩
          obtain ⟨hb, hdf⟩ := hb
          have HDF := Lib.hid hdf
          clear hdf
          simp only [List.forall_mem_cons, List.not_mem_nil, false_imp_iff, implies_true, and_true] at hb
          obtain ⟨m4, m12, m11, m10, m2⟩ := hb
          simp [FactsOf, FactAt, Region.binds, factsL] at hf
          have c0 := HCELL.out W hW
          unfold Oper.wp
          simp [execOp, go_sem, *]
          exact hK _ _ (Kinds.refl _) id id rfl
        · refine StepO.pure (by decide) fun a' W hW hb hf => ⟨rfl, fun K hK => ?_⟩
          obtain ⟨hb, hdf⟩ := hb
          have HDF := Lib.hid hdf
          clear hdf
          simp only [List.forall_mem_cons, List.not_mem_nil, false_imp_iff, implies_true, and_true] at hb
          obtain ⟨m4, m12, m11, m10, m2⟩ := hb
          simp [FactsOf, FactAt, Region.binds, factsL] at hf
          have c0 := HCELL.out W hW
          unfold Oper.wp
          simp [execOp, go_sem, *]
          exact hK _ _ (Kinds.refl _) id id rfl
        · refine StepO.pure (by decide) fun a' W hW hb hf => ⟨rfl, fun K hK => ?_⟩
          obtain ⟨hb, hdf⟩ := hb
          have HDF := Lib.hid hdf
          clear hdf
          simp only [List.forall_mem_cons, List.not_mem_nil, false_imp_iff, implies_true, and_true] at hb
          obtain ⟨m4, m12, m11, m10, m2⟩ := hb
          simp [FactsOf, FactAt, Region.binds, factsL] at hf
          unfold Oper.wp
          simp [go_sem, *]
          refine (HAF41.out W).mono ?_
          rintro e W' ⟨v, rfl, hl, hg⟩
          exact hK _ _ (Kinds.of_grow hg) (HGC.out W W' hg).1 (HGC.out W W' hg).2 hl
        · refine StepO.pure (by decide) fun a' W hW hb hf => ⟨rfl, fun K hK => ?_⟩
          obtain ⟨hb, hdf⟩ := hb
          have HDF := Lib.hid hdf
          clear hdf
          simp only [List.forall_mem_cons, List.not_mem_nil, false_imp_iff, implies_true, and_true] at hb
          obtain ⟨m4, m12, m11, m10, m2⟩ := hb
          simp [FactsOf, FactAt, Region.binds, factsL] at hf
          have c0 := HCELL.out W hW
          unfold Oper.wp
          simp [execOp, go_sem, *]
          exact hK _ _ (Kinds.refl _) id id rfl
        · refine StepO.pure (by decide) fun a' W hW hb hf => ⟨rfl, fun K hK => ?_⟩
          obtain ⟨hb, hdf⟩ := hb
          have HDF := Lib.hid hdf
          clear hdf
          simp only [List.forall_mem_cons, List.not_mem_nil, false_imp_iff, implies_true, and_true] at hb
          obtain ⟨m4, m12, m11, m10, m2⟩ := hb
          simp [FactsOf, FactAt, Region.binds, factsL] at hf
          have c0 := HCELL.out W hW
          unfold Oper.wp
          simp [execOp, go_sem, *]
          exact hK _ _ (Kinds.refl _) id id rfl
        · refine StepO.pure (by decide) fun a' W hW hb hf => ⟨rfl, fun K hK => ?_⟩
          obtain ⟨hb, hdf⟩ := hb
          have HDF := Lib.hid hdf
          clear hdf
          simp only [List.forall_mem_cons, List.not_mem_nil, false_imp_iff, implies_true, and_true] at hb
          obtain ⟨m4, m12, m11, m10, m2⟩ := hb
          simp [FactsOf, FactAt, Region.binds, factsL] at hf
          unfold Oper.wp
          simp [go_sem, *]
          refine (HAF42.out W).mono ?_
          rintro e W' ⟨v, rfl, hl, hg⟩
          exact hK _ _ (Kinds.of_grow hg) (HGC.out W W' hg).1 (HGC.out W W' hg).2 hl
        · refine StepO.pure (by decide) fun a' W hW hb hf => ⟨rfl, fun K hK => ?_⟩
          obtain ⟨hb, hdf⟩ := hb
          have HDF := Lib.hid hdf
          clear hdf
          simp only [List.forall_mem_cons, List.not_mem_nil, false_imp_iff, implies_true, and_true] at hb
          obtain ⟨m4, m12, m11, m10, m2⟩ := hb
          simp [FactsOf, FactAt, Region.binds, factsL] at hf
          have c0 := HCELL.out W hW
          unfold Oper.wp
          simp [execOp, go_sem, *]
          exact hK _ _ (Kinds.refl _) id id rfl
        · refine StepO.pure (by decide) fun a' W hW hb hf => ⟨rfl, fun K hK => ?_⟩
          obtain ⟨hb, hdf⟩ := hb
          have HDF := Lib.hid hdf
          clear hdf
          simp only [List.forall_mem_cons, List.not_mem_nil, false_imp_iff, implies_true, and_true] at hb
          obtain ⟨m4, m12, m11, m10, m2⟩ := hb
          simp [FactsOf, FactAt, Region.binds, factsL] at hf
          have c0 := HCELL.out W hW
          unfold Oper.wp
          simp [execOp, go_sem, *]
          exact hK _ _ (Kinds.refl _) id id rfl
        · refine StepO.pure (by decide) fun a' W hW hb hf => ⟨rfl, fun K hK => ?_⟩
          obtain ⟨hb, hdf⟩ := hb
          have HDF := Lib.hid hdf
          clear hdf
          simp only [List.forall_mem_cons, List.not_mem_nil, false_imp_iff, implies_true, and_true] at hb
          obtain ⟨m4, m12, m11, m10, m2⟩ := hb
          simp [FactsOf, FactAt, Region.binds, factsL] at hf
          unfold Oper.wp
          simp [go_sem, *]
          refine (HAF43.out W).mono ?_
          rintro e W' ⟨v, rfl, hl, hg⟩
          exact hK _ _ (Kinds.of_grow hg) (HGC.out W W' hg).1 (HGC.out W W' hg).2 hl
        · refine StepO.pure (by decide) fun a' W hW hb hf => ⟨rfl, fun K hK => ?_⟩
          obtain ⟨hb, hdf⟩ := hb
          have HDF := Lib.hid hdf
          clear hdf
          simp only [List.forall_mem_cons, List.not_mem_nil, false_imp_iff, implies_true, and_true] at hb
          obtain ⟨m4, m12, m11, m10, m2⟩ := hb
          simp [FactsOf, FactAt, Region.binds, factsL] at hf
          obtain ⟨h1, h2, h3⟩ := hf
          obtain ⟨f1, x1, y1, e1, q1⟩ := h1
          obtain ⟨f2, x2, y2, e2, q2⟩ := h2
          obtain ⟨f3, x3, y3, e3, q3⟩ := h3
          unfold Oper.wp
          simp [execOp, go_sem, e1, e2, e3]
          have hg := fun (cs : Array Value) => Grow.alloc W (.cells cs 80)
          exact hK _ _ (Kinds.of_grow (hg _)) (HGC.out _ _ (hg _)).1 (HGC.out _ _ (hg _)).2 (row_of3 (BlkOf.new W _ _) (Link.kinds ⟨f1, x1, y1, rfl, q1⟩ (Kinds.of_grow (hg _))) (Link.kinds ⟨f2, x2, y2, rfl, q2⟩ (Kinds.of_grow (hg _))) (Link.kinds ⟨f3, x3, y3, rfl, q3⟩ (Kinds.of_grow (hg _))))
        · refine StepO.main (by decide) fun a' W hW hb hf => ⟨rfl, fun K hK => ?_⟩
          obtain ⟨hb, hdf⟩ := hb
          have HDF := Lib.hid hdf
          clear hdf
          simp only [List.forall_mem_cons, List.not_mem_nil, false_imp_iff, implies_true, and_true] at hb
          obtain ⟨m4, m12, m11, m10, m2⟩ := hb
          simp [FactsOf, FactAt, Region.binds, factsL] at hf
          obtain ⟨ea, hro, _⟩ := hf
          obtain ⟨b, vs, ev, hb, hn, hl⟩ := hro
          unfold Oper.wp
          simp [go_sem, ea, ev]
          refine (HROW.out W hW b vs hb hn hl).mono ?_
          intro e W' hp
          rcases hp.2.2 with ⟨he, rfl⟩ | ⟨he, rfl⟩
          · exact hK _ _ hp.1.kinds (hp.1.ahead hW) ⟨rfl, he⟩
          · exact ⟨HDF.out, HBAD.out W W' hW hp.1 he⟩
        
      · refine StepO.pure (by decide) fun a' W hW hb hf => ⟨rfl, fun K hK => ?_⟩
        obtain ⟨hb, hdf⟩ := hb
        have HDF := Lib.hid hdf
        clear hdf
        simp only [List.forall_mem_cons, List.not_mem_nil, false_imp_iff, implies_true, and_true] at hb
        obtain ⟨m4, m1, m11⟩ := hb
        simp [FactsOf, FactAt, Region.binds, factsL] at hf
        have c0 := HCELL.out W hW
        unfold Oper.wp
        simp [execOp, go_sem, *]
        exact hK _ _ (Kinds.refl _) id id rfl
      · refine StepO.pure (by decide) fun a' W hW hb hf => ⟨rfl, fun K hK => ?_⟩
        obtain ⟨hb, hdf⟩ := hb
        have HDF := Lib.hid hdf
        clear hdf
        simp only [List.forall_mem_cons, List.not_mem_nil, false_imp_iff, implies_true, and_true] at hb
        obtain ⟨m4, m1, m11⟩ := hb
        simp [FactsOf, FactAt, Region.binds, factsL] at hf
        have c0 := HCELL.out W hW
        unfold Oper.wp
        simp [execOp, go_sem, *]
        exact hK _ _ (Kinds.refl _) id id rfl
      · refine StepO.pure (by decide) fun a' W hW hb hf => ⟨rfl, fun K hK => ?_⟩
        obtain ⟨hb, hdf⟩ := hb
        have HDF := Lib.hid hdf
        clear hdf
        simp only [List.forall_mem_cons, List.not_mem_nil, false_imp_iff, implies_true, and_true] at hb
        obtain ⟨m4, m1, m11⟩ := hb
        simp [FactsOf, FactAt, Region.binds, factsL] at hf
        unfold Oper.wp
        simp [go_sem, *]
        refine (HOF7.out W).mono ?_
        rintro e W' ⟨v, rfl, hl, hg⟩
        exact hK _ _ (Kinds.of_grow hg) (HGC.out W W' hg).1 (HGC.out W W' hg).2 hl
      · refine StepO.pure (by decide) fun a' W hW hb hf => ⟨rfl, fun K hK => ?_⟩
        obtain ⟨hb, hdf⟩ := hb
        have HDF := Lib.hid hdf
        clear hdf
        simp only [List.forall_mem_cons, List.not_mem_nil, false_imp_iff, implies_true, and_true] at hb
        obtain ⟨m4, m1, m11⟩ := hb
        simp [FactsOf, FactAt, Region.binds, factsL] at hf
        have c0 := HCELL.out W hW
        unfold Oper.wp
        simp [execOp, go_sem, *]
        exact hK _ _ (Kinds.refl _) id id rfl
      · refine StepO.pure (by decide) fun a' W hW hb hf => ⟨rfl, fun K hK => ?_⟩
        obtain ⟨hb, hdf⟩ := hb
        have HDF := Lib.hid hdf
        clear hdf
        simp only [List.forall_mem_cons, List.not_mem_nil, false_imp_iff, implies_true, and_true] at hb
        obtain ⟨m4, m1, m11⟩ := hb
        simp [FactsOf, FactAt, Region.binds, factsL] at hf
        unfold Oper.wp
        simp [go_sem, *]
        refine (HOF8.out W).mono ?_
        rintro e W' ⟨v, rfl, hl, hg⟩
        exact hK _ _ (Kinds.of_grow hg) (HGC.out W W' hg).1 (HGC.out W W' hg).2 hl
      · refine StepO.pure (by decide) fun a' W hW hb hf => ⟨rfl, fun K hK => ?_⟩
        obtain ⟨hb, hdf⟩ := hb
        have HDF := Lib.hid hdf
        clear hdf
        simp only [List.forall_mem_cons, List.not_mem_nil, false_imp_iff, implies_true, and_true] at hb
        obtain ⟨m4, m1, m11⟩ := hb
        simp [FactsOf, FactAt, Region.binds, factsL] at hf
        have c0 := HCELL.out W hW
        unfold Oper.wp
        simp [execOp, go_sem, *]
        exact hK _ _ (Kinds.refl _) id id rfl
      · refine StepO.pure (by decide) fun a' W hW hb hf => ⟨rfl, fun K hK => ?_⟩
        obtain ⟨hb, hdf⟩ := hb
        have HDF := Lib.hid hdf
        clear hdf
        simp only [List.forall_mem_cons, List.not_mem_nil, false_imp_iff, implies_true, and_true] at hb
        obtain ⟨m4, m1, m11⟩ := hb
        simp [FactsOf, FactAt, Region.binds, factsL] at hf
        have c0 := HCELL.out W hW
        unfold Oper.wp
        simp [execOp, go_sem, *]
        exact hK _ _ (Kinds.refl _) id id rfl
      · refine StepO.pure (by decide) fun a' W hW hb hf => ⟨rfl, fun K hK => ?_⟩
        obtain ⟨hb, hdf⟩ := hb
        have HDF := Lib.hid hdf
        clear hdf
        simp only [List.forall_mem_cons, List.not_mem_nil, false_imp_iff, implies_true, and_true] at hb
        obtain ⟨m4, m1, m11⟩ := hb
        simp [FactsOf, FactAt, Region.binds, factsL] at hf
        unfold Oper.wp
        simp [go_sem, *]
        refine (HAF33.out W).mono ?_
        rintro e W' ⟨v, rfl, hl, hg⟩
        exact hK _ _ (Kinds.of_grow hg) (HGC.out W W' hg).1 (HGC.out W W' hg).2 hl
      · refine StepO.pure (by decide) fun a' W hW hb hf => ⟨rfl, fun K hK => ?_⟩
        obtain ⟨hb, hdf⟩ := hb
        have HDF := Lib.hid hdf
        clear hdf
        simp only [List.forall_mem_cons, List.not_mem_nil, false_imp_iff, implies_true, and_true] at hb
        obtain ⟨m4, m1, m11⟩ := hb
        simp [FactsOf, FactAt, Region.binds, factsL] at hf
        obtain ⟨h1, h2, h3⟩ := hf
        obtain ⟨f1, x1, y1, e1, q1⟩ := h1
        obtain ⟨f2, x2, y2, e2, q2⟩ := h2
        obtain ⟨f3, x3, y3, e3, q3⟩ := h3
        unfold Oper.wp
        simp [execOp, go_sem, e1, e2, e3]
        have hg := fun (cs : Array Value) => Grow.alloc W (.cells cs 80)
        exact hK _ _ (Kinds.of_grow (hg _)) (HGC.out _ _ (hg _)).1 (HGC.out _ _ (hg _)).2 (row_of3 (BlkOf.new W _ _) (Link.kinds ⟨f1, x1, y1, rfl, q1⟩ (Kinds.of_grow (hg _))) (Link.kinds ⟨f2, x2, y2, rfl, q2⟩ (Kinds.of_grow (hg _))) (Link.kinds ⟨f3, x3, y3, rfl, q3⟩ (Kinds.of_grow (hg _))))
      · refine StepO.main (by decide) fun a' W hW hb hf => ⟨rfl, fun K hK => ?_⟩
        obtain ⟨hb, hdf⟩ := hb
        have HDF := Lib.hid hdf
        clear hdf
        simp only [List.forall_mem_cons, List.not_mem_nil, false_imp_iff, implies_true, and_true] at hb
        obtain ⟨m4, m1, m11⟩ := hb
        simp [FactsOf, FactAt, Region.binds, factsL] at hf
        obtain ⟨ea, hro, _⟩ := hf
        obtain ⟨b, vs, ev, hb, hn, hl⟩ := hro
        unfold Oper.wp
        simp [go_sem, ea, ev]
        refine (HROW.out W hW b vs hb hn hl).mono ?_
        intro e W' hp
        rcases hp.2.2 with ⟨he, rfl⟩ | ⟨he, rfl⟩
        · exact hK _ _ hp.1.kinds (hp.1.ahead hW) ⟨rfl, he⟩
        · exact ⟨HDF.out, HBAD.out W W' hW hp.1 he⟩

    · have hbd := ST2.out.bad (e := e2) (S' := S3) (by rw [HR2.out]; exact if_neg he) (Grow.refl _) hp1 he
      clear hst hp hp1
      go_wp2_with fail
      exact ⟨rfl, hbd⟩
  · have hbd := ST1.out.bad (e := e1) (S' := S2) (by rw [HR1.out]; exact if_neg he) (Grow.refl _) hp1 he
    clear hst hp hp1
    go_wp2_with fail
    exact ⟨rfl, hbd⟩
end
end Go.Proofs.YtcbebikcfcidmaaDoor

namespace Go.Proofs.YtcbebikcfcidmaaDoor
open Go.RowKit Go.Maps

set_option maxHeartbeats 1000000 in
theorem put1_idle (p q r : Addr) (w : World) :
    CallsD Tryd.prog 18 #[.pointer (some p), .pointer (some q), .pointer (some r)] .returning w fun e u' w' => e = .returned (.tuple #[]) ∧ u' = .returning ∧ w' = w := by
  refine callsD_of_wpS Tryd.func18 rfl fun c₀ cs hu => ?_
  apply wpS_seq
  apply wpS_region
  simp [wpOpsS, go_sem, recoverD, hu, Tryd.ntmps18, Exit.thenS]
  apply wpS_seq
  apply wpS_region
  simp [wpOpsS, go_sem, Exit.thenS]
  refine wpS_cond (t := false) (by simp [Act.eval, Array.replicate]) ?_
  simp only [Bool.false_eq_true, if_false]
  refine wpS_of_wp (wp_skip ?_)
  cases c₀
  simp_all [bodyPostS, results, Tryd.results18]
set_option maxHeartbeats 1000000 in
theorem put1_panicking (p q r : Addr) (x y z c : Int) (older : List PanicEntry) (w : World) (hp : w.cell? p = some (.int .i64 x)) (hq : w.cell? q = some (.int .i64 y)) (hr : w.cell? r = some (.int .i64 z)) (zp : w.frozen? p = false) (zq : w.frozen? q = false) (zr : w.frozen? r = false) (hpq : p ≠ q) (hpr : p ≠ r) (hqr : q ≠ r) :
    CallsD Tryd.prog 18 #[.pointer (some p), .pointer (some q), .pointer (some r)] (.panicking ({ v := .iface 24 (.int .i64 c), recovered := false } :: older)) w fun e u' w' =>
      e = .returned (.tuple #[]) ∧ u' = .panicking ({ v := .iface 24 (.int .i64 c), recovered := true } :: older) ∧ w' = ((w.drew.setCell p (.int .i64 0)).setCell q (.int .i64 0)).setCell r (.int .i64 c) := by
  refine callsD_of_wpS Tryd.func18 rfl fun c₀ cs hu => ?_
  apply wpS_seq
  apply wpS_region
  simp [wpOpsS, go_sem, recoverD, hu, Tryd.ntmps18, Exit.thenS]
  apply wpS_seq
  apply wpS_region
  simp [wpOpsS, go_sem, Exit.thenS]
  refine wpS_cond (t := true) (by simp [Act.eval, Array.replicate]) ?_
  simp only [if_true]
  refine wpS_of_wp ?_
  have hmv : ∀ W : World, (Instr.typeAssert (.iface 24 (.int .i64 c)) 20 24 false).run Tryd.prog W = .ok (.int .i64 c) W := fun W => assert_errno W _
  simp only [Array.replicate, List.replicate, List.setIfInBounds_toArray, List.set_cons_zero, List.set_cons_succ, List.append_toArray, List.cons_append, List.nil_append]
  go_region
  cases c₀
  simp_all [bodyPostS, results, Tryd.results18]

/-- A step of no Op is none. -/
theorem one_zero (S : MkS) (a : Int) : oneS S 0 a = (0, 2, S) := by
  unfold oneS ofS
  rw [if_neg]
  rintro ⟨⟨h, _⟩, _⟩
  exact absurd (show fld 0 0 = 3 from h) (by decide)
/-- May a chart be asked for? -/
def askB (S : MkS) (u l h : Int) : Bool := decide (0 ≤ u) && decide (u < (S.l.length : Int)) && decide (-1 ≤ l) && decide (-1 ≤ h)
/-- Behind the check. -/
def CheckedPost (w0 w : World) (P : Nat → Prop) (m : Value) (S : MkS) (ok : Bool) (e : Ending) (w' : World) : Prop :=
  Then w0 w P m S w' ∧ (ok = true ∧ e = .returned (.tuple #[]) ∨ ok = false ∧ e = .panicked (thrown 2))
section
variable {w0 w : World} {P : Nat → Prop} {m : Value} {S : MkS}
set_option maxHeartbeats 2000000 in
theorem check_some {u l h : Int} (ho : Ours w0 w P m S) (ht : Tab w0) (hu : I64 u) :
    Calls Tryd.prog 19 #[.agg #[m], .int .i64 u, .int .i64 l, .int .i64 h] w (CheckedPost w0 w P m S (askB S u l h)) := by
  obtain ⟨pm, rfl⟩ := ho.ptr
  have hg1 : Grow w (w.alloc (.cells #[.pointer (some ⟨pm, 0, none⟩)] 60)) := Grow.alloc w _
  have hb1 : BlkOf (w.alloc (.cells #[.pointer (some ⟨pm, 0, none⟩)] 60)) w.heap.size #[.pointer (some ⟨pm, 0, none⟩)] 60 := BlkOf.new w _ _
  have hone := one_some (op := 0) (a := u) (ho.more hg1).one (by decide) hu (ht.grow (ho.more hg1).grow)
  rw [one_zero] at hone
  have HONE := Lib.hid hone
  have HO := Lib.hid (ho.more hg1)
  have HG1 := Lib.hid hg1
  have HB1 := Lib.hid hb1
  have c0 := hb1.at 0 rfl
  obtain ⟨n, hn⟩ : ∃ n, n = S.l.length := ⟨_, rfl⟩
  have HN := Lib.hid hn
  have hcase : (0 ≤ u ∧ u < (n : Int) ∧ -1 ≤ l ∧ -1 ≤ h) ∨ (0 ≤ u ∧ u < (n : Int) ∧ -1 ≤ l ∧ h < -1) ∨ (0 ≤ u ∧ u < (n : Int) ∧ l < -1) ∨ (0 ≤ u ∧ (n : Int) ≤ u) ∨ u < 0 := by omega
  have hask : askB S u l h = decide (0 ≤ u ∧ u < (n : Int) ∧ -1 ≤ l ∧ -1 ≤ h) := by
    unfold askB
    rw [hn]
    simp [Bool.and_assoc]
  rw [hask]
  clear ho ht hu hg1 hb1 hone hn hask
  rcases hcase with hq | hq | hq | hq | hq
  all_goals
    first
      | have hok : decide (0 ≤ u ∧ u < (n : Int) ∧ -1 ≤ l ∧ -1 ≤ h) = true := by simp; omega
      | have hok : decide (0 ≤ u ∧ u < (n : Int) ∧ -1 ≤ l ∧ -1 ≤ h) = false := by simp; omega
    rw [hok]
    try have q1 : decide (u < 0) = false := by simp; omega
    try have q1 : decide (u < 0) = true := by simp; omega
    try have q2 : decide ((n : Int) ≤ u) = false := by simp; omega
    try have q2 : decide ((n : Int) ≤ u) = true := by simp; omega
    try have q3 : decide (l < -1) = false := by simp; omega
    try have q3 : decide (l < -1) = true := by simp; omega
    try have q4 : decide (h < -1) = false := by simp; omega
    try have q4 : decide (h < -1) = true := by simp; omega
    clear hok
    go_enter Tryd.func19, Tryd.ntmps19
    go_wp2_with (first | (go_at_call 30; refine HONE.out.mono ?_) | fail)
    intro e w2 hp
    obtain ⟨rfl, hth⟩ := HO.out.tells hp
    have HT1 := Lib.hid (hth.ahead HG1.out)
    have c0 := BlkOf.at (hth.kinds _ _ _ HB1.out (by decide) (by decide)) 0 rfl
    obtain ⟨P1, ho1⟩ := hth.ours
    have hlen := len_some ho1.one
    dsimp only at hlen
    rw [← HN.out] at hlen
    have HLEN := Lib.hid hlen
    clear hp hth ho1 hlen
    go_wp2_with (first | (go_at_call 10; refine HLEN.out.mono ?_; rintro e w3 ⟨rfl, rfl⟩) | fail)
    first
      | (go_end0; exact ⟨HT1.out, .inl ⟨rfl, rfl⟩⟩)
      | exact ⟨rfl, HT1.out, .inr ⟨rfl, rfl⟩⟩
theorem check_nil {u l h : Int} (w : World) : Calls Tryd.prog 19 #[.agg #[.pointer none], .int .i64 u, .int .i64 l, .int .i64 h] w (fun e w' => e = .panicked (thrown 1) ∧ Grow w w') := by
  have hg1 : Grow w (w.alloc (.cells #[.pointer none] 60)) := Grow.alloc w _
  have hb1 : BlkOf (w.alloc (.cells #[.pointer none] 60)) w.heap.size #[.pointer none] 60 := BlkOf.new w _ _
  have c0 := hb1.at 0 rfl
  have HONE := Lib.hid (one_none (op := 0) (a := u) (w := w.alloc (.cells #[.pointer none] 60)) (m := .pointer none) (.inl rfl))
  have HG1 := Lib.hid hg1
  clear hg1 hb1
  go_enter Tryd.func19, Tryd.ntmps19
  go_wp2_with (first | (go_at_call 30; refine HONE.out.mono ?_; rintro e w3 ⟨rfl, h3⟩; have H3 := Lib.hid h3; clear h3) | fail)
  exact ⟨rfl, rfl, HG1.out.trans H3.out⟩
end
end Go.Proofs.YtcbebikcfcidmaaDoor
