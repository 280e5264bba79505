/-
  The texts TapShelf, TapCopy, TapKin, TapTape, TapTape2, TapTSame, TapHeadM, one behind the other.
-/
import Derived.Test.YtofpcdjoljjnoaaGreatDoorTapY02
import Derived.Test.YtofpcdjoljjnoaaGreatDoorTapY18
import Derived.Test.YtofpcdjoljjnoaaGreatDoorTapY15


namespace Go.Proofs.YtofpcdjoljjnoaaGreatDoor
open Go.RowKit Go.Maps

theorem row_kept {B : Nat} {w w' : World} {v : Value} {L : List Nat} (h : NRow B w v L) (hg : Grow w w') : NRow B w' v L :=
  ownsRow_kept (P := fun g => v.ownBlock = some g) h (fun _ hg => hg) (fun g hb => hg.block g (ownsRow_own h hb).2.1)
theorem clone_raw {w : World} {v : Value} {L : List Nat} (h : Raw w v L) (hl : L.length ≤ 1099511627776) : Calls Tryz.prog 70 #[v] w (OwnRes L w) := by
  obtain ⟨a, cap, rfl, hc, hn, _, hat⟩ := h
  exact clone_any a cap L w hl hc hn hat
/-- A string's copy. -/
theorem strclone_any (l : List UInt8) (w : World) (hl : l.length ≤ 1099511627776) :
    Calls Tryz.prog 48 #[.string (mk l)] w fun e w' => e = .returned (.string (mk l)) ∧ Grow w w' := by
  have hsz : (mk l).size ≤ 281474976710656 := by rw [mk_size]; omega
  go_enter Tryz.func48, Tryz.ntmps48
  go_wp2_with (go_at_call 71; refine (Tryz.stringslite_Clone (mk l) _ hsz).mono ?_; rintro e w' ⟨rfl, hb⟩)
  go_ret
  exact ⟨rfl, hb⟩

/-- A number of the call's own. -/
def CopyPost (s : Bool) (m d : List Nat) (w : World) (e : Ending) (w' : World) : Prop :=
  ∃ x c y c', e = .returned (.agg #[.bool s, .slice x m.length c, .slice y d.length c']) ∧ NRow w.heap.size w' (.slice x m.length c) m ∧ NRow w.heap.size w' (.slice y d.length c') d ∧ Grow w w'

set_option maxRecDepth 100000 in
set_option maxHeartbeats 2000000 in
theorem copied_any {w : World} {s : Bool} {m d : List Nat} {vm vd : Value} (hm : Raw w vm m) (hd : Raw w vd d) (hml : m.length ≤ 2048) (hdl : d.length ≤ 2048) :
    Calls Tryz.prog 47 #[.agg #[.bool s, vm, vd]] w (CopyPost s m d w) := by
  have H := Lib.hid (And.intro hm hd)
  obtain ⟨a, ca, rfl, _, _, _, _⟩ := hm
  obtain ⟨b, cb, rfl, _, _, _, _⟩ := hd
  obtain ⟨z, hz⟩ : ∃ z, z = w.heap.size := ⟨_, rfl⟩
  obtain ⟨W1, hW1⟩ : ∃ W1, W1 = (w.alloc (.cells #[.bool s, .slice a m.length ca, .slice b d.length cb] 46)).alloc (.cells #[.bool false, .slice none 0 0, .slice none 0 0] 46) := ⟨_, rfl⟩
  have b0 : BlkOf W1 z #[.bool s, .slice a m.length ca, .slice b d.length cb] 46 := by rw [hW1, hz]; exact (BlkOf.new w _ _).alloc _
  have b1 : BlkOf W1 (z + 1) #[.bool false, .slice none 0 0, .slice none 0 0] 46 := by rw [hW1, hz]; exact BlkOf.news (by simp) _ _
  have hbw : Grow w W1 := by rw [hW1]; exact ((Below.refl _ w).alloc (Nat.le_refl _) _).alloc (by simp) _
  have hsz : W1.heap.size = z + 2 := by rw [hW1, hz]; simp
  have HC1 := Lib.hid (fun W (hW : Grow W1 W) => (clone_raw (H.out.1.grow (hbw.trans hW)) (by omega)).mono (fun e W' h => h.elim fun v h => (⟨v, h.1, h.2.1.more (Nat.le_trans (Nat.le_of_eq hsz.symm) hW.size), h.2.2⟩ : ∃ v, e = .returned v ∧ NRow (z + 2) W' v m ∧ Grow W W')))
  have HC2 := Lib.hid (fun W (hW : Grow W1 W) => (clone_raw (H.out.2.grow (hbw.trans hW)) (by omega)).mono (fun e W' h => h.elim fun v h => (⟨v, h.1, h.2.1.more (Nat.le_trans (Nat.le_of_eq hsz.symm) hW.size), h.2.2⟩ : ∃ v, e = .returned v ∧ NRow (z + 2) W' v d ∧ Grow W W')))
  have KC : Hid (∀ W, Grow W1 W → W.cell? ⟨z, 0, none⟩ = some (.bool s) ∧ W.cell? ⟨z, 1, none⟩ = some (.slice a m.length ca) ∧ W.cell? ⟨z, 2, none⟩ = some (.slice b d.length cb)) := Lib.hid fun W hW => by
    have q0 := b0.below hW b0.lt
    exact ⟨q0.at 0 rfl, q0.at 1 rfl, q0.at 2 rfl⟩
  have HB1 := Lib.hid b1
  have HBW := Lib.hid hbw
  have HSZ := Lib.hid hsz
  have HZ := Lib.hid hz
  have HW1 := Lib.hid hW1
  clear b0 b1 hbw hsz hz hW1
  go_enter Tryz.func47, Tryz.ntmps47
  go_wp2_with fail
  rw [← HW1.out, ← HZ.out]
  rename_i K0 hK0
  refine wp_region_list [fun v _ => v = .pointer (some ⟨z, 0, none⟩), fun v _ => v = .pointer (some ⟨z, 0, none⟩), fun v _ => v = .bool s,
      fun v _ => v = .pointer (some ⟨z, 0, none⟩), fun v _ => v = .pointer (some ⟨z, 1, none⟩), fun v _ => v = .slice a m.length ca, fun v W => NRow (z + 2) W v m,
      fun v W => ∃ x c, v = .agg #[.bool s, .slice x m.length c] ∧ NRow (z + 2) W (.slice x m.length c) m,
      fun v _ => v = .pointer (some ⟨z, 2, none⟩), fun v _ => v = .slice b d.length cb, fun v W => NRow (z + 2) W v d,
      fun v W => ∃ x c y e, v = .agg #[.bool s, .slice x m.length c, .slice y d.length e] ∧ NRow (z + 2) W (.slice x m.length c) m ∧ NRow (z + 2) W (.slice y d.length e) d]
    [(1, .pointer (some ⟨z, 0, none⟩)), (2, .pointer (some ⟨z + 1, 0, none⟩))] 12 (by kernel_rfl) ?stay rfl (by kernel_rfl) rfl ?base (by kernel_rfl) ⟨?_, ?_, ?_, ?_, ?_, ?_, ?_, ?_, ?_, ?_, ?_, ?_, trivial⟩ ?last
  case stay =>
    refine ⟨stays_pure _, stays_pure _, stays_pure _, stays_pure _, stays_pure _, stays_pure _, ?_, ?_, stays_pure _, stays_pure _, ?_, ?_, trivial⟩
    · exact fun v W W' hg h => row_kept h hg
    · exact fun v W W' hg ⟨x, c, h1, h2⟩ => ⟨x, c, h1, row_kept h2 hg⟩
    · exact fun v W W' hg h => row_kept h hg
    · exact fun v W W' hg ⟨x, c, y, e, h1, h2, h3⟩ => ⟨x, c, y, e, h1, row_kept h2 hg, row_kept h3 hg⟩
  case base => simp
  case last =>
    intro vs W hW hv
    simp only [FactsL, Nat.zero_add, Nat.reduceAdd] at hv
    obtain ⟨v0, v1, v2, v3, v4, v5, v6, v7, v8, v9, v10, ⟨x, c, y, e, v11, hx, hy⟩, _⟩ := hv
    have q2 := HB1.out.below hW HB1.out.lt
    refine ⟨rfl, ?_⟩
    simp only [List.take_succ_cons, List.take_zero, putF, Act.put, List.setIfInBounds_toArray, List.set_cons_zero, List.set_cons_succ, Nat.reduceAdd, v11]
    unfold Oper.wp
    have c20 : W.cell? ⟨z + 1, 0, none⟩ = some (.bool false) := q2.at 0 rfl
    have c21 : W.cell? ⟨z + 1, 1, none⟩ = some (.slice none 0 0) := q2.at 1 rfl
    have c22 : W.cell? ⟨z + 1, 2, none⟩ = some (.slice none 0 0) := q2.at 2 rfl
    have d20 : W.frozen? ⟨z + 1, 0, none⟩ = false := q2.free 0
    have d21 : W.frozen? ⟨z + 1, 1, none⟩ = false := q2.free 1
    have d22 : W.frozen? ⟨z + 1, 2, none⟩ = false := q2.free 2
    simp [execOp, go_sem, c20, c21, c22, d20, d21, d22]
    refine hK0 _ _ ?_
    have q3 := ((q2.set 0 (.bool s)).set 1 (.slice x m.length c)).set 2 (.slice y d.length e)
    have hbW : Grow w W := HBW.out.trans hW
    have hzw := HZ.out
    have hbF : Grow w (((W.setCell ⟨z + 1, 0, none⟩ (.bool s)).setCell ⟨z + 1, 1, none⟩ (.slice x m.length c)).setCell ⟨z + 1, 2, none⟩ (.slice y d.length e)) :=
      ((Below.setCell hbW (p := ⟨z + 1, 0, none⟩) (by show w.heap.size ≤ z + 1; omega) _).setCell (p := ⟨z + 1, 1, none⟩) (by show w.heap.size ≤ z + 1; omega) _).setCell (p := ⟨z + 1, 2, none⟩) (by show w.heap.size ≤ z + 1; omega) _
    have Q3 := Lib.hid q3
    have HBF := Lib.hid hbF
    go_wp2_with fail
    refine post_cell rfl (g := z + 1) rfl Q3.out Tryz.underlying46 rfl (by kernel_rfl) ?_
    unfold CopyPost
    refine ⟨_, _, _, _, rfl, ?_, ?_, HBF.out⟩
    · have h1 := ownsRow_setCell_below (a := ⟨z + 1, 2, none⟩) (ownsRow_setCell_below (a := ⟨z + 1, 1, none⟩) (ownsRow_setCell_below (a := ⟨z + 1, 0, none⟩) hx (by show z + 1 < _; omega) (.bool s)) (by show z + 1 < _; omega) (.slice x m.length c)) (by show z + 1 < _; omega) (.slice y d.length e)
      exact NRow.more h1 (by omega)
    · have h1 := ownsRow_setCell_below (a := ⟨z + 1, 2, none⟩) (ownsRow_setCell_below (a := ⟨z + 1, 1, none⟩) (ownsRow_setCell_below (a := ⟨z + 1, 0, none⟩) hy (by show z + 1 < _; omega) (.bool s)) (by show z + 1 < _; omega) (.slice x m.length c)) (by show z + 1 < _; omega) (.slice y d.length e)
      exact NRow.more h1 (by omega)
  all_goals
    intro a' W hW hb hf
    obtain ⟨q0, q1, q2⟩ := KC.out W hW
    simp only [List.forall_mem_cons, List.not_mem_nil, false_imp_iff, implies_true, and_true] at hb
    obtain ⟨e1, e2⟩ := hb
    simp [FactsOf, FactAt, Region.binds, factsL] at hf
    refine ⟨rfl, fun K hK => ?_⟩
    unfold Oper.wp
  · simp [execOp, go_sem, *]
    exact hK _ _ (Grow.refl _) rfl
  · simp [execOp, go_sem, *]
    exact hK _ _ (Grow.refl _) rfl
  · simp [execOp, go_sem, *]
    exact hK _ _ (Grow.refl _) rfl
  · simp [execOp, go_sem, *]
    exact hK _ _ (Grow.refl _) rfl
  · simp [execOp, go_sem, *]
    exact hK _ _ (Grow.refl _) rfl
  · simp [execOp, go_sem, *]
    exact hK _ _ (Grow.refl _) rfl
  · simp [go_sem, *]
    refine (HC1.out W hW).mono ?_
    rintro e W' ⟨v, rfl, hr, hg⟩
    exact hK _ _ hg hr
  · have f5 := hf.1
    have f9 := hf.2
    obtain ⟨x, c, ex, _⟩ := f9.at_
    rw [ex] at f9
    clear hf
    simp [execOp, go_sem, f5, ex]
    exact hK _ _ (Grow.refl _) ⟨x, c, rfl, f9⟩
  · simp [execOp, go_sem, *]
    exact hK _ _ (Grow.refl _) rfl
  · simp [execOp, go_sem, *]
    exact hK _ _ (Grow.refl _) rfl
  · simp [go_sem, *]
    refine (HC2.out W hW).mono ?_
    rintro e W' ⟨v, rfl, hr, hg⟩
    exact hK _ _ hg hr
  · obtain ⟨x, c, ex, hx⟩ := hf.1
    have f9 := hf.2
    obtain ⟨y, c', ey, _⟩ := f9.at_
    rw [ey] at f9
    clear hf
    simp [execOp, go_sem, ex, ey]
    exact hK _ _ (Grow.refl _) ⟨x, c, y, c', rfl, hx, f9⟩
end Go.Proofs.YtofpcdjoljjnoaaGreatDoor

namespace Go.Proofs.YtofpcdjoljjnoaaGreatDoor
open Go.RowKit Go.Maps

/-- The blocks of these types are as they were. -/
def Kin (ts : List TypeId) (w w' : World) : Prop := ∀ b cs t, BlkOf w b cs t → t ∈ ts → BlkOf w' b cs t
section
variable {ts : List TypeId} {a b c : World}
theorem Kin.trans (h : Kin ts a b) (k : Kin ts b c) : Kin ts a c := fun i cs t hb ht => k i cs t (h i cs t hb ht) ht
theorem Kin.of_grow (h : Grow a b) : Kin ts a b := fun _ _ _ hb _ => hb.below h hb.lt
theorem Kin.set {p i : Nat} {cs : Array Value} {t : TypeId} (hb : BlkOf a p cs t) (ht : t ∉ ts) (x : Value) : Kin ts a (a.setCell ⟨p, i, none⟩ x) := fun k cs' t' hk ht' => by
  refine (Below.heap_setCell _ _ _ _ (fun e => ?_)).trans hk
  have e2 : k = p := e
  unfold BlkOf at hb hk
  rw [e2, hb] at hk
  injection hk with hk
  injection hk with _ hT
  exact ht (by rw [hT]; exact ht')
theorem Kin.grown {row : Option Nat} (h : a.grownBy b row) (hr : ∀ g, row = some g → ∃ cs t, BlkOf a g cs t ∧ t ∉ ts) : Kin ts a b := fun k cs' t' hk ht' => by
  refine (h.block k hk.lt (fun e => ?_)).trans hk
  obtain ⟨cs, t, hb, ht⟩ := hr k e.symm
  unfold BlkOf at hb hk
  rw [hb] at hk
  injection hk with hk
  injection hk with _ hT
  exact ht (by rw [hT]; exact ht')
theorem ownsRow_kin {w w' : World} {B e K : Nat} {v : Value} {n : Nat} {xs : List Value} (h : w.ownsRow B e K v n xs) (hk : Kin ts w w') (he : e ∈ ts) : w'.ownsRow B e K v n xs := by
  refine ownsRow_kept (P := fun g => v.ownBlock = some g) h (fun _ hg => hg) (fun g hg => ?_)
  obtain ⟨_, _, cur, hc⟩ := ownsRow_own h hg
  exact (hk g cur e hc he).trans hc.symm
theorem RawIn.kin {Q Q' : Nat → Prop} {w w' : World} {v : Value} {L : List Nat} (h : RawIn Q w v L) (hk : Kin ts w w') (ht : 100 ∈ ts) (hq : ∀ k, Q k → Q' k) : RawIn Q' w' v L :=
  ⟨ownsRow_kin h.1 hk ht, h.2.1, fun g hg => hq g (h.2.2 g hg)⟩
theorem NdIn.kin {Q Q' : Nat → Prop} {w w' : World} {x : Nd} {vn vd : Value} (h : NdIn Q w x vn vd) (hk : Kin ts w w') (ht : 100 ∈ ts) (hq : ∀ k, Q k → Q' k) : NdIn Q' w' x vn vd :=
  ⟨h.1, h.2.1, h.2.2.1, h.2.2.2.1.kin hk ht hq, h.2.2.2.2.1.kin hk ht hq, h.2.2.2.2.2⟩
theorem NdsIn.kin {Q Q' : Nat → Prop} {w w' : World} {v : Value} {L : List Nd} (h : NdsIn Q w v L) (hk : Kin ts w w') (ht : 100 ∈ ts) (hn : 71 ∈ ts) (hq : ∀ k, Q k → Q' k) : NdsIn Q' w' v L := by
  obtain ⟨vs, h1, h2, h3, h4⟩ := h
  exact ⟨vs, h1, ownsRow_kin h2 hk hn, fun g hg => hq g (h3 g hg), fun i x p hx hp => (h4 i x p hx hp).kin hk ht hq⟩
end

/-- The cells of a row of tells. -/
def tlCells : List (List UInt8 × Int) → List Value
  | [] => []
  | x :: T => [.string (mk x.1), .int .i64 x.2] ++ tlCells T
theorem tlCells_snoc : ∀ T x, tlCells (T ++ [x]) = tlCells T ++ [.string (mk x.1), .int .i64 x.2]
  | [], x => by simp [tlCells]
  | y :: T, x => by rw [List.cons_append, tlCells, tlCells_snoc T, tlCells, List.append_assoc]
theorem tlCells_get : ∀ {T : List (List UInt8 × Int)} {i : Nat} {x : List UInt8 × Int}, T[i]? = some x → (tlCells T)[i * 2]? = some (.string (mk x.1)) ∧ (tlCells T)[i * 2 + 1]? = some (.int .i64 x.2)
  | [], _, _, h => by simp at h
  | y :: T, 0, x, h => by
    simp at h
    subst h
    simp [tlCells]
  | y :: T, i + 1, x, h => by
    have := tlCells_get (T := T) (i := i) (x := x) (by simpa using h)
    rw [tlCells, show (i + 1) * 2 = i * 2 + 2 by omega]
    simpa using this
/-- A row of tells among Q. -/
def TlsIn (Q : Nat → Prop) (w : World) (v : Value) (T : List (List UInt8 × Int)) : Prop := w.ownsRow 0 63 2 v T.length (tlCells T) ∧ OwnIn Q v ∧ ∀ x ∈ T, I64 x.2
theorem TlsIn.nil (Q : Nat → Prop) (w : World) : TlsIn Q w (.slice none 0 0) [] := ⟨World.ownsRow_nil w 0 _ 2, fun _ h => (by cases h), fun _ h => by cases h⟩
theorem TlsIn.form {Q : Nat → Prop} {w : World} {v : Value} {T : List (List UInt8 × Int)} (h : TlsIn Q w v T) : ∃ A cap, v = .slice A T.length cap ∧ TlsAt w A T := by
  obtain ⟨h2, _, h4⟩ := h
  rcases h2.2 with ⟨e, he⟩ | ⟨g, cap, cur, e, _, hg, hn, hm, hs, htk⟩
  · have : T = [] := List.eq_nil_of_length_eq_zero he
    subst this
    exact ⟨none, 0, e, fun i x hx => by simp at hx⟩
  · refine ⟨some ⟨g, 0, none⟩, cap, e, fun i x hx => ?_⟩
    have hi := (List.getElem?_eq_some_iff.1 hx).1
    have h5 := tlCells_get hx
    rw [← htk] at h5
    refine ⟨h4 x (List.mem_of_getElem? hx), g, 0, rfl, ?_, ?_⟩
    · have := h5.1
      rw [List.getElem?_take, if_pos (by omega)] at this
      rw [cell_of_row w g (0 + i * 2) cur _ (0, 0) hg, Nat.zero_add]
      simpa using this
    · have := h5.2
      rw [List.getElem?_take, if_pos (by omega)] at this
      rw [cell_of_row w g (0 + i * 2 + 1) cur _ (0, 0) hg, Nat.zero_add]
      simpa using this
end Go.Proofs.YtofpcdjoljjnoaaGreatDoor

namespace Go.Proofs.YtofpcdjoljjnoaaGreatDoor
open Go.RowKit Go.Maps

end Go.Proofs.YtofpcdjoljjnoaaGreatDoor

namespace Go.Proofs.YtofpcdjoljjnoaaGreatDoor
open Go.RowKit Go.Maps

/-- Does the tape exist that a maker is asked? -/
def existB (S : MkS) (out : Int) (T : List (List UInt8 × Int)) : Bool := tellsB (S.l.length : Int) T && (decide (0 ≤ out) && decide (out < (S.l.length : Int)))
/-- What is new since. -/
def newIn (w w' : World) : Nat → Prop := fun k => w.heap.size ≤ k ∧ k < w'.heap.size
/-- What Tape tells. -/
def TapePost (S : MkS) (out : Int) (T : List (List UInt8 × Int)) (w : World) (e : Ending) (w' : World) : Prop :=
  (existB S out T = true ∧ ∃ vN vT, e = .returned (.tuple #[.agg #[.int .i64 (S.pars : Int), .int .i64 out, vN, vT], .int .i64 0]) ∧ NdsIn (newIn w w') w' vN S.l ∧ TlsIn (newIn w w') w' vT T ∧ Grow w w') ∨
  (existB S out T = false ∧ e = .returned (.tuple #[.agg #[.int .i64 0, .int .i64 0, .slice none 0 0, .slice none 0 0], .int .i64 2]) ∧ Grow w w')

/-- The first loop. -/
def TapeRel (S : MkS) (out : Int) (z g : Nat) (w : World) (i : Value) (W : World) : Prop :=
  ∃ k, k ≤ S.l.length ∧ i = .int .i64 (k : Int) ∧ ∃ vN, BlkOf W z #[.int .i64 0, .int .i64 0, .slice none 0 0, .slice none 0 0] 25 ∧
    BlkOf W g #[.int .i64 (S.pars : Int), .int .i64 out, vN, .slice none 0 0] 25 ∧ NdsIn (newIn w W) W vN (S.l.take k) ∧ Grow w W
/-- The second. -/
def TapeRel2 (S : MkS) (out : Int) (T : List (List UInt8 × Int)) (z g : Nat) (w : World) (i : Value) (W : World) : Prop :=
  ∃ k, k ≤ T.length ∧ i = .int .i64 (k : Int) ∧ ∃ vN vT, BlkOf W z #[.int .i64 0, .int .i64 0, .slice none 0 0, .slice none 0 0] 25 ∧
    BlkOf W g #[.int .i64 (S.pars : Int), .int .i64 out, vN, vT] 25 ∧ NdsIn (newIn w W) W vN S.l ∧ TlsIn (newIn w W) W vT (T.take k) ∧ Grow w W

theorem info_tell : (Tryz.prog.info? 63).map (fun i => (i.zero, i.size, i.bytes)) = some (some (.agg #[.string ⟨#[]⟩, .int .i64 0]), 2, 24) := by kernel_rfl

set_option maxRecDepth 100000 in
set_option maxHeartbeats 8000000 in
theorem tape_some {P : Nat → Prop} {w : World} {m : Value} {S : MkS} {out : Int} {A : Option Addr} {cap : Nat} {T : List (List UInt8 × Int)} (h : MkAt P w m S) (ho : I64 out) (hT : TlsAt w A T) (hTn : T.length ≤ 1099511627776) (hTl : ∀ x ∈ T, x.1.length ≤ 1099511627776) :
    Calls Tryz.prog 24 #[m, .int .i64 out, .slice A T.length cap] w (TapePost S out T w) := by
  obtain ⟨W1, hW1⟩ : ∃ W1, W1 = w.alloc (.cells #[.int .i64 0, .int .i64 0, .slice none 0 0, .slice none 0 0] 25) := ⟨_, rfl⟩
  have b0 : BlkOf W1 w.heap.size #[.int .i64 0, .int .i64 0, .slice none 0 0, .slice none 0 0] 25 := by rw [hW1]; exact BlkOf.new w _ _
  have hbw : Grow w W1 := by rw [hW1]; exact Grow.alloc w _
  have HNO := Lib.hid (isnone_some (h.grow hbw))
  obtain ⟨pm, pr, rfl, hPm, hpm, hrow, hgood⟩ := h
  obtain ⟨mb, vN, hPr, hPmb, hblk, hnds, _, _⟩ := hrow
  obtain ⟨AN, cN, rfl, hat⟩ := hnds.form
  obtain ⟨N, hN⟩ : ∃ N, N = S.l.length := ⟨_, rfl⟩
  obtain ⟨M, hM⟩ : ∃ M, M = T.length := ⟨_, rfl⟩
  rw [← hN] at hblk
  rw [← hM]
  have hNI : (N : Int) ≤ 20000 := by have := hgood.2.2.2.1; have := hgood.2.1; omega
  have hPI : (S.pars : Int) ≤ 200 := by have := hgood.2.2.1; omega
  obtain ⟨ok, hok⟩ : ∃ ok, ok = existB S out T := ⟨_, rfl⟩
  have hex := fun W (hW : Grow W1 W) => exist_any (w := W) A cap T (N : Int) out hTn (hT.grow (hbw.trans hW)) (by constructor <;> omega) ho
  rw [show (tellsB (N : Int) T && (decide (0 ≤ out) && decide (out < (N : Int)))) = ok by rw [hok, hN]; rfl, ← hM] at hex
  have KC : Hid (∀ W, Grow w W → W.cell? ⟨pm, 0, none⟩ = some (.pointer (some ⟨pr, 0, none⟩)) ∧ W.cell? ⟨pr, 1, none⟩ = some (.int .i64 (S.pars : Int)) ∧ W.cell? ⟨pr, 2, none⟩ = some (.slice AN N cN)) := Lib.hid fun W hW => by
    have q2 := hpm.below hW hpm.lt
    have q3 := hblk.below hW hblk.lt
    exact ⟨q2.at 0 rfl, q3.at 1 rfl, q3.at 2 rfl⟩
  obtain ⟨c0, c1, c2⟩ := KC.out W1 hbw
  have HEX := Lib.hid hex
  have HOK := Lib.hid hok
  have HB := Lib.hid b0
  have HBW := Lib.hid hbw
  have HN := Lib.hid hN
  have HM := Lib.hid hM
  have HAT := Lib.hid hat
  have HT := Lib.hid (And.intro hT hTl)
  have hMI : (M : Int) ≤ 1099511627776 := by omega
  have HW1 := Lib.hid hW1
  clear hex hok b0 hbw hN hM hat hT hTl hTn hblk hnds hpm hgood ho
  cases ok with
  | false =>
    subst hW1
    go_enter Tryz.func24, Tryz.ntmps24
    go_wp2_with (first
      | (go_at_call 37; refine HNO.out.mono ?_; rintro e w3 ⟨rfl, rfl⟩)
      | (go_at_call 46; refine (HEX.out _ (Grow.refl _)).mono ?_)
      | fail)
    rintro e w3 ⟨rfl, hb3⟩
    have b3 := HB.out.below hb3 HB.out.lt
    have d0 := b3.at 0 rfl
    have d1 := b3.at 1 rfl
    have d2 := b3.at 2 rfl
    have d3 := b3.at 3 rfl
    have f0 := b3.free
    have HB3 := Lib.hid ((((b3.set 0 (.int .i64 0)).set 1 (.int .i64 0)).set 2 (.slice none 0 0)).set 3 (.slice none 0 0))
    have HG := Lib.hid (HBW.out.trans hb3)
    clear b3 hb3 c0 c1 c2
    go_wp2_with fail
    refine post_cell_tmp rfl (g := w.heap.size) rfl HB3.out Tryz.underlying25 rfl (by kernel_rfl) ?_
    exact .inr ⟨HOK.out.symm, rfl, (((Below.setCell HG.out (p := ⟨w.heap.size, 0, none⟩) (Nat.le_refl _) _).setCell (p := ⟨w.heap.size, 1, none⟩) (Nat.le_refl _) _).setCell (p := ⟨w.heap.size, 2, none⟩) (Nat.le_refl _) _).setCell (p := ⟨w.heap.size, 3, none⟩) (Nat.le_refl _) _⟩
  | true =>
    subst hW1
    go_enter Tryz.func24, Tryz.ntmps24
    go_wp2_with (first
      | (go_at_call 37; refine HNO.out.mono ?_; rintro e w3 ⟨rfl, rfl⟩)
      | (go_at_call 46; refine (HEX.out _ (Grow.refl _)).mono ?_)
      | fail)
    rintro e w3 ⟨rfl, hb3⟩
    have b3 := HB.out.below hb3 HB.out.lt
    have hg3 := HBW.out.trans hb3
    clear c0 c1 c2
    obtain ⟨c0, c1, c2⟩ := KC.out w3 hg3
    have HB3 := Lib.hid b3
    have HG3 := Lib.hid hg3
    clear b3 hg3 hb3
    have k0 := fun o => (KC.out (w3.alloc o) (Grow.trans HG3.out (Grow.alloc w3 o))).1
    have k2 := fun o => (KC.out (w3.alloc o) (Grow.trans HG3.out (Grow.alloc w3 o))).2.2
    go_wp2_with fail
    obtain ⟨W4, hW4⟩ : ∃ W4, W4 = w3.alloc (.cells #[.int .i64 (S.pars : Int), .int .i64 out, .slice none 0 0, .slice none 0 0] 25) := ⟨_, rfl⟩
    have hz4 : BlkOf W4 w.heap.size #[.int .i64 0, .int .i64 0, .slice none 0 0, .slice none 0 0] 25 := by rw [hW4]; exact HB3.out.alloc _
    have hg4 : BlkOf W4 w3.heap.size #[.int .i64 (S.pars : Int), .int .i64 out, .slice none 0 0, .slice none 0 0] 25 := by rw [hW4]; exact BlkOf.new w3 _ _
    have hgr4 : Grow w W4 := Grow.trans HG3.out (by rw [hW4]; exact Grow.alloc w3 _)
    obtain ⟨g, hg⟩ : ∃ g, g = w3.heap.size := ⟨_, rfl⟩
    rw [← hg] at hg4 ⊢
    rw [← hW4]
    have hzg : w.heap.size < g := by rw [hg]; exact HB3.out.lt
    have HS : Hid (TapeRel S out w.heap.size g w (.int .i64 0) W4) := Lib.hid ⟨0, Nat.zero_le _, rfl, .slice none 0 0, hz4, hg4, NdsIn.nil _ _, hgr4⟩
    have HZG := Lib.hid hzg
    clear hz4 hg4 hgr4 hW4 hg k0 k2 c0 c1 c2 HB3 HG3 hzg
    go_loopw [48] (fun i wr => TapeRel S out w.heap.size g w i wr) (fun i _ => N - (intOf i).toNat)
    case atStart => exact HS.out
    case round =>
      obtain ⟨k, hk, rfl, vN, hz, hg, hn, hgr⟩ := hrel
      have hkN : k ≤ N := by rw [HN.out]; exact hk
      have HZ := Lib.hid hz
      have HGB := Lib.hid hg
      have HNS := Lib.hid hn
      have HGR := Lib.hid hgr
      by_cases hlt : k < N
      · have hltI : (k : Int) < (N : Int) := by omega
        obtain ⟨x, hx⟩ : ∃ x, S.l[k]? = some x := ⟨_, List.getElem?_eq_getElem (by have := HN.out; omega)⟩
        obtain ⟨b, off, un, ud, rfl, hc, hok⟩ := HAT.out.grow hgr k x hx
        have d0 := hc 0 _ rfl
        have d1 := hc 1 _ rfl
        have d2 := hc 2 _ rfl
        have d3 := hc 3 _ rfl
        have d4 := hc 4 _ rfl
        have d5 := hc 5 _ rfl
        rw [Nat.add_zero] at d0
        have HOK1 := Lib.hid hok
        obtain ⟨⟨na, cna, rfl, _, _, _, _⟩, ⟨nd, cnd, rfl, _, _, _, _⟩, hl1, hl2⟩ := hok.2.2.2
        obtain ⟨op, xa, xb, s, L1, L2⟩ := x
        dsimp only at *
        obtain ⟨nw, hnw⟩ : ∃ nw, nw = wr.alloc (.cells #[.int .u8 (op : Int), .int .i64 xa, .int .i64 xb, .bool s, .slice na L1.length cna, .slice nd L2.length cnd] 71) := ⟨_, rfl⟩
        have bn : BlkOf nw wr.heap.size #[.int .u8 (op : Int), .int .i64 xa, .int .i64 xb, .bool s, .slice na L1.length cna, .slice nd L2.length cnd] 71 := by rw [hnw]; exact BlkOf.new wr _ _
        have hgn : Grow wr nw := by rw [hnw]; exact Grow.alloc _ _
        have hcp := copied_any (s := s) (HOK1.out.2.2.2.1.grow hgn) (HOK1.out.2.2.2.2.1.grow hgn) hl1 hl2
        have HCP := Lib.hid hcp
        have HBN := Lib.hid bn
        have HGN := Lib.hid hgn
        have HX := Lib.hid hx
        subst hnw
        clear hc hok hcp bn hgn hz hg hn hgr hl1 hl2 hx hk
        go_wp2_with (first | (go_at_call 47; refine HCP.out.mono ?_) | fail)
        rintro e w4 ⟨x', cx, y', cy, rfl, hx', hy', hgr4⟩
        have hgw4 : Grow wr w4 := Grow.trans HGN.out hgr4
        have hn4 := HBN.out.below hgr4 HBN.out.lt
        obtain ⟨nb, hnb⟩ : ∃ nb, nb = wr.heap.size := ⟨_, rfl⟩
        rw [← hnb] at hn4 ⊢
        have hg4 := HGB.out.below hgw4 HGB.out.lt
        have hz4 := HZ.out.below hgw4 HZ.out.lt
        have hgnb : g < nb := by rw [hnb]; exact HGB.out.lt
        have hn5 := ((hn4.set 3 (.bool s)).set 4 (.slice x' L1.length cx)).set 5 (.slice y' L2.length cy)
        have hgw5 : Grow wr (((w4.setCell ⟨nb, 3, none⟩ (.bool s)).setCell ⟨nb, 4, none⟩ (.slice x' L1.length cx)).setCell ⟨nb, 5, none⟩ (.slice y' L2.length cy)) :=
          ((Below.setCell hgw4 (p := ⟨nb, 3, none⟩) (Nat.le_of_eq hnb.symm) _).setCell (p := ⟨nb, 4, none⟩) (Nat.le_of_eq hnb.symm) _).setCell (p := ⟨nb, 5, none⟩) (Nat.le_of_eq hnb.symm) _
        have hg5 := HGB.out.below hgw5 HGB.out.lt
        have hk5 : Kin [100] w4 (((w4.setCell ⟨nb, 3, none⟩ (.bool s)).setCell ⟨nb, 4, none⟩ (.slice x' L1.length cx)).setCell ⟨nb, 5, none⟩ (.slice y' L2.length cy)) :=
          ((Kin.set hn4 (by decide) _).trans (Kin.set (hn4.set 3 _) (by decide) _)).trans (Kin.set ((hn4.set 3 _).set 4 _) (by decide) _)
        obtain ⟨W5, hW5⟩ : ∃ W5, W5 = ((w4.setCell ⟨nb, 3, none⟩ (.bool s)).setCell ⟨nb, 4, none⟩ (.slice x' L1.length cx)).setCell ⟨nb, 5, none⟩ (.slice y' L2.length cy) := ⟨_, rfl⟩
        rw [← hW5] at hn5 hgw5 hg5 hk5
        have HW5 := Lib.hid hW5
        have H5 := Lib.hid (And.intro hn5 (And.intro hgw5 (And.intro hg5 hk5)))
        have H4 := Lib.hid (And.intro hx' (And.intro hy' hgr4))
        have c3 := hn4.at 3 rfl
        have c4 := hn4.at 4 rfl
        have c5 := hn4.at 5 rfl
        have z4 := hn4.free
        have e0 := hn5.at 0 rfl
        have e1 := hn5.at 1 rfl
        have e2 := hn5.at 2 rfl
        have e3 := hn5.at 3 rfl
        have e4 := hn5.at 4 rfl
        have e5 := hn5.at 5 rfl
        have g5 := hg5.at 2 rfl
        rw [hW5] at e0 e1 e2 e3 e4 e5 g5
        have HNB := Lib.hid hnb
        have HGNB := Lib.hid hgnb
        clear hgw4 hn4 hg4 hz4 hn5 hgw5 hg5 hk5 hx' hy' hgr4 d0 d1 d2 d3 d4 d5 hW5 hnb hgnb
        obtain ⟨i0, hi, hi0, hi1, hi2⟩ := info_parts info_node
        obtain ⟨vs, hvs, hown, hoin, hndin⟩ := HNS.out
        have hlen : (S.l.take k).length = k := by rw [List.length_take]; have := HN.out; omega
        rw [hlen] at hown hvs
        have hsz5 : W5.heap.size = w4.heap.size := by rw [HW5.out]; simp [World.setCell]
        obtain ⟨W6, hW6⟩ : ∃ W6, W6 = W5.alloc (.cells #[.int .u8 (op : Int), .int .i64 xa, .int .i64 xb, .bool s, .slice x' L1.length cx, .slice y' L2.length cy] 71) := ⟨_, rfl⟩
        have h56 : Grow W5 W6 := by rw [hW6]; exact Grow.alloc _ _
        have h6 : Grow wr W6 := Grow.trans H5.out.2.1 h56
        have hb6 : BlkOf W6 w4.heap.size #[.int .u8 (op : Int), .int .i64 xa, .int .i64 xb, .bool s, .slice x' L1.length cx, .slice y' L2.length cy] 71 := by rw [hW6, ← hsz5]; exact BlkOf.new _ _ _
        have hown6 := ownsRow_kin (ts := [71]) hown (Kin.of_grow h6) (by decide)
        have hnews6 : ∀ j u, (ndCells ⟨op, xa, xb, s, L1, L2⟩ (.slice x' L1.length cx) (.slice y' L2.length cy))[j]? = some u → W6.cell? ((⟨w4.heap.size, 0, none⟩ : Addr).add j) = some u := fun j u hu => by
          have hj : j < 6 := by have := (List.getElem?_eq_some_iff.1 hu).1; rwa [ndCells_length] at this
          rw [Addr.add_mid, Nat.zero_add, hb6.cell j]
          have : (ndCells ⟨op, xa, xb, s, L1, L2⟩ (.slice x' L1.length cx) (.slice y' L2.length cy))[j]? = (#[.int .u8 (op : Int), .int .i64 xa, .int .i64 xb, .bool s, .slice x' L1.length cx, .slice y' L2.length cy] : Array Value)[j]? := by simp [ndCells]
          rw [← this]; exact hu
        have hone6 : ∀ u ∈ ndCells ⟨op, xa, xb, s, L1, L2⟩ (.slice x' L1.length cx) (.slice y' L2.length cy), u.oneCell' = true := fun u hu => by
          simp only [ndCells, List.mem_cons, List.not_mem_nil, or_false] at hu
          rcases hu with rfl | rfl | rfl | rfl | rfl | rfl <;> rfl
        have hg6 := H5.out.2.2.1.below h56 H5.out.2.2.1.lt
        have HO6 := Lib.hid hown6
        have HN6 := Lib.hid hnews6
        have HE6 := Lib.hid hone6
        have HG6 := Lib.hid hg6
        have H6 := Lib.hid (And.intro h56 h6)
        have HW6 := Lib.hid hW6
        have HVS := Lib.hid (And.intro hvs (And.intro hoin (And.intro hndin hlen)))
        clear hvs hown hoin hndin hlen h56 h6 hb6 hown6 hnews6 hone6 hg6 hW6 hsz5
        go_wp2_with (first
          | (at_builtin
             rw [← HW5.out, ← HW6.out]
             refine wpList_append_own_at _ rfl (.tmp 57) (.tmp 59) 22 rfl 0 71 i0 _ 6 80 Tryz.underlying22 hi hi0 hi1 hi2 rfl (by omega) vN k _ rfl HO6.out ⟨w4.heap.size, 0, none⟩ 1 1 _ rfl rfl HN6.out HE6.out (by unfold maxLen; omega) (by omega) (Nat.zero_le _) ?_
             intro v7 w7 hown7 hgb7 _ hblk7
             obtain ⟨A7, c7, rfl⟩ : ∃ A7 c7, v7 = .slice A7 (k + 1) c7 := by
               rcases hown7.2 with ⟨e, he⟩ | ⟨g', cap', cur, e, _⟩
               · omega
               · exact ⟨_, _, e⟩
             have hk7 : Kin [100, 25] W6 w7 := Kin.grown hgb7 (fun g' hg' => by
               obtain ⟨_, _, cur, hc⟩ := ownsRow_own HO6.out hg'
               exact ⟨cur, _, hc, by decide⟩)
             have hg7 := hk7 _ _ _ HG6.out (by decide)
             have q2 := hg7.at 2 rfl
             have f2 := hg7.free 2
             have H7 := Lib.hid (And.intro hown7 (And.intro hgb7 (And.intro hblk7 (And.intro hk7 hg7))))
             clear hown7 hgb7 hblk7 hk7 hg7)
          | fail)
        obtain ⟨hown7, hgb7, hblk7, hk7, hg7⟩ := H7.out
        obtain ⟨h56, h6⟩ := H6.out
        obtain ⟨hn5, hgw5, hg5, hk5⟩ := H5.out
        obtain ⟨hx', hy', hgr4⟩ := H4.out
        obtain ⟨hvs, hoin, hndin, hlen⟩ := HVS.out
        obtain ⟨w8, hw8⟩ : ∃ w8, w8 = w7.setCell ⟨g, 2, none⟩ (.slice A7 (k + 1) c7) := ⟨_, rfl⟩
        rw [← hw8]
        have hz7 := hk7 _ _ _ (HZ.out.below h6 HZ.out.lt) (by decide)
        have hz8 : BlkOf w8 w.heap.size #[.int .i64 0, .int .i64 0, .slice none 0 0, .slice none 0 0] 25 := by
          rw [hw8]; exact hz7.other (p := ⟨g, 2, none⟩) (by show g ≠ w.heap.size; have := HZG.out; omega) _
        have hg8 := hg7.set 2 (.slice A7 (k + 1) c7)
        rw [← hw8] at hg8
        have hs8 : w8.heap.size = w7.heap.size := by rw [hw8, size_set]
        have hgr7 : Grow w w7 := (Grow.trans HGR.out h6).grown hgb7 (Below.size (Grow.trans HGR.out h6)) (fun j hj => (hoin j hj).1)
        have hgr8 : Grow w w8 := by rw [hw8]; exact Below.setCell hgr7 (p := ⟨g, 2, none⟩) (Nat.le_of_lt HZG.out) _
        have k48 : Kin [100] w4 w8 := (hk5.trans (Kin.of_grow h56)).trans (Kin.trans (fun b cs t hb ht => hk7 b cs t hb (by simp at ht ⊢; exact .inl ht)) (by rw [hw8]; exact Kin.set hg7 (by decide) _))
        have kr8 : Kin [100] wr w8 := (Kin.of_grow (Grow.trans HGN.out hgr4)).trans k48
        have hs7 : w.heap.size ≤ wr.heap.size ∧ wr.heap.size ≤ w4.heap.size ∧ wr.heap.size ≤ W6.heap.size ∧ W6.heap.size ≤ w7.heap.size ∧ w4.heap.size ≤ w7.heap.size :=
          ⟨Below.size HGR.out, Below.size (Grow.trans HGN.out hgr4), Below.size h6, hgb7.size, Nat.le_trans (by rw [show w4.heap.size = W5.heap.size by rw [HW5.out]; simp [World.setCell]]; exact Below.size h56) hgb7.size⟩
        have hmono : ∀ j, newIn w wr j → newIn w w8 j := fun j hj => ⟨hj.1, by rw [hs8]; have := hj.2; omega⟩
        have hraw : ∀ {v : Value} {l : List Nat}, Fits l → NRow (wr.alloc (.cells #[.int .u8 (op : Int), .int .i64 xa, .int .i64 xb, .bool s, .slice na L1.length cna, .slice nd L2.length cnd] 71)).heap.size w4 v l → RawIn (newIn w w8) w8 v l := fun hf hr => by
          refine RawIn.kin (Q := newIn w w4) ⟨NRow.more hr (Nat.zero_le _), hf, fun j hj => ?_⟩ k48 (by decide) (fun j hj => ⟨hj.1, by rw [hs8]; have := hj.2; omega⟩)
          obtain ⟨h1, h2, _⟩ := ownsRow_own hr hj
          rw [World.size_alloc] at h1
          exact ⟨by omega, h2⟩
        have htk : S.l.take (k + 1) = S.l.take k ++ [⟨op, xa, xb, s, L1, L2⟩] := by rw [List.take_add_one, HX.out]; rfl
        obtain ⟨hop, hxa, hxb, ⟨_, _, _, _, _, hf1, _⟩, ⟨_, _, _, _, _, hf2, _⟩, hl1, hl2⟩ := HOK1.out
        have hn8 : NdsIn (newIn w w8) w8 (.slice A7 (k + 1) c7) (S.l.take (k + 1)) := by
          rw [htk]
          refine ⟨vs ++ [(.slice x' L1.length cx, .slice y' L2.length cy)], by simp [hvs, hlen], ?_, ?_, ?_⟩
          · rw [rowCells_snoc _ _ (by rw [hvs, hlen]), List.length_append, List.length_singleton, hlen]
            refine ownsRow_kin (ts := [71]) hown7 ?_ (by decide)
            rw [hw8]; exact Kin.set hg7 (by decide) _
          · intro j hj
            rcases hblk7 with h1 | h1
            · rw [h1] at hj; exact hmono j (hoin j hj)
            · have h2 := (ownsRow_own hown7 hj).2.1
              rw [h1] at hj
              injection hj with hj
              exact ⟨by omega, by rw [hs8]; exact h2⟩
          · intro i x p hx hp
            by_cases hik : i < k
            · rw [List.getElem?_append_left (by omega)] at hx hp
              exact (hndin i x p hx hp).kin kr8 (by decide) hmono
            · have hik2 : i = k := by
                have := (List.getElem?_eq_some_iff.1 hp).1
                rw [List.length_append, List.length_singleton, hvs] at this
                omega
              subst hik2
              rw [List.getElem?_append_right (by omega), hlen] at hx
              rw [List.getElem?_append_right (by omega), hvs] at hp
              simp at hx hp
              subst hx hp
              exact ⟨hop, hxa, hxb, hraw hf1 hx', hraw hf2 hy', hl1, hl2⟩
        have HREL : Hid (TapeRel S out w.heap.size g w (.int .i64 ((k + 1 : Nat) : Int)) w8) := Lib.hid ⟨k + 1, by have := HN.out; omega, rfl, _, hz8, hg8, hn8, hgr8⟩
        have hkk : ((k : Int) + 1) = ((k + 1 : Nat) : Int) := by omega
        rw [hkk]
        exact ⟨HREL.out, by simp [intOf]; omega⟩
      · obtain rfl : k = N := by omega
        have hall : S.l.take k = S.l := by rw [HN.out, List.take_length]
        have hn2 := HNS.out
        rw [hall] at hn2
        have HS2 : Hid (TapeRel2 S out T w.heap.size g w (.int .i64 0) wr) := Lib.hid ⟨0, Nat.zero_le _, rfl, vN, .slice none 0 0, HZ.out, HGB.out, hn2, TlsIn.nil _ _, HGR.out⟩
        clear hz hg hn hgr hall hn2 hk hlt HZ HGB HNS HGR HS
        go_wp2_with fail
        go_loopw [65] (fun i wr => TapeRel2 S out T w.heap.size g w i wr) (fun i _ => M - (intOf i).toNat)
        case atStart => exact HS2.out
        case round =>
          obtain ⟨j, hj, rfl, vN, vT, hz, hg, hn, ht, hgr⟩ := hrel
          have hjM : j ≤ M := by rw [HM.out]; exact hj
          have HZ := Lib.hid hz
          have HGB := Lib.hid hg
          have HNS := Lib.hid hn
          have HTS := Lib.hid ht
          have HGR := Lib.hid hgr
          by_cases hlt : j < M
          · have hltI : (j : Int) < (M : Int) := by omega
            obtain ⟨x, hx⟩ : ∃ x, T[j]? = some x := ⟨_, List.getElem?_eq_getElem (by have := HM.out; omega)⟩
            obtain ⟨hx2, b, off, rfl, d0, d1⟩ := HT.out.1.grow hgr j x hx
            have hxl := HT.out.2 x (List.mem_of_getElem? hx)
            obtain ⟨l, u⟩ := x
            dsimp only at *
            have hcp := fun W => strclone_any l W hxl
            have HCP := Lib.hid hcp
            have HX := Lib.hid (And.intro hx hx2)
            have HBN := Lib.hid (BlkOf.new wr #[.string (mk l), .int .i64 u] 63)
            have HGN := Lib.hid (Grow.alloc wr (.cells #[.string (mk l), .int .i64 u] 63))
            clear hcp hz hg hn ht hgr hx hx2 hxl hj
            go_wp2_with (first | (go_at_call 48; refine (HCP.out _).mono ?_) | fail)
            rintro e w4 ⟨rfl, hgr4⟩
            have hgw4 : Grow wr w4 := Grow.trans HGN.out hgr4
            have hn4 := HBN.out.below hgr4 HBN.out.lt
            obtain ⟨nb, hnb⟩ : ∃ nb, nb = wr.heap.size := ⟨_, rfl⟩
            rw [← hnb] at hn4 ⊢
            have hgnb : g < nb := by rw [hnb]; exact HGB.out.lt
            have hn5 := hn4.set 0 (.string (mk l))
            have hgw5 : Grow wr (w4.setCell ⟨nb, 0, none⟩ (.string (mk l))) := Below.setCell hgw4 (p := ⟨nb, 0, none⟩) (Nat.le_of_eq hnb.symm) _
            have hg5 := HGB.out.below hgw5 HGB.out.lt
            have hk5 : Kin [100, 71] w4 (w4.setCell ⟨nb, 0, none⟩ (.string (mk l))) := Kin.set hn4 (by decide) _
            obtain ⟨W5, hW5⟩ : ∃ W5, W5 = w4.setCell ⟨nb, 0, none⟩ (.string (mk l)) := ⟨_, rfl⟩
            rw [← hW5] at hn5 hgw5 hg5 hk5
            have HW5 := Lib.hid hW5
            have H5 := Lib.hid (And.intro hn5 (And.intro hgw5 (And.intro hg5 hk5)))
            have H4 := Lib.hid hgr4
            have c0 := hn4.at 0 rfl
            have z4 := hn4.free
            have e0 := hn5.at 0 rfl
            have e1 := hn5.at 1 rfl
            have g5 := hg5.at 3 rfl
            rw [hW5] at e0 e1 g5
            obtain ⟨i0, hi, hi0, hi1, hi2⟩ := info_parts info_tell
            obtain ⟨hown, hoin, hI⟩ := HTS.out
            have hlen : (T.take j).length = j := by rw [List.length_take]; have := HM.out; omega
            rw [hlen] at hown
            have hsz5 : W5.heap.size = w4.heap.size := by rw [HW5.out]; simp [World.setCell]
            obtain ⟨W6, hW6⟩ : ∃ W6, W6 = W5.alloc (.cells #[.string (mk l), .int .i64 u] 63) := ⟨_, rfl⟩
            have h56 : Grow W5 W6 := by rw [hW6]; exact Grow.alloc _ _
            have h6 : Grow wr W6 := Grow.trans hgw5 h56
            have hb6 : BlkOf W6 w4.heap.size #[.string (mk l), .int .i64 u] 63 := by rw [hW6, ← hsz5]; exact BlkOf.new _ _ _
            have hown6 := ownsRow_kin (ts := [63]) hown (Kin.of_grow h6) (by decide)
            have hnews6 : ∀ q v, [Value.string (mk l), .int .i64 u][q]? = some v → W6.cell? ((⟨w4.heap.size, 0, none⟩ : Addr).add q) = some v := fun q v hv => by
              rw [Addr.add_mid, Nat.zero_add, hb6.cell q]
              have : [Value.string (mk l), .int .i64 u][q]? = (#[.string (mk l), .int .i64 u] : Array Value)[q]? := by simp
              rw [← this]; exact hv
            have hone6 : ∀ v ∈ [Value.string (mk l), .int .i64 u], v.oneCell' = true := fun v hv => by
              simp only [List.mem_cons, List.not_mem_nil, or_false] at hv
              rcases hv with rfl | rfl <;> rfl
            have hg6 := hg5.below h56 hg5.lt
            have HO6 := Lib.hid hown6
            have HN6 := Lib.hid hnews6
            have HE6 := Lib.hid hone6
            have HG6 := Lib.hid hg6
            have H6 := Lib.hid (And.intro h56 h6)
            have HW6 := Lib.hid hW6
            have HVS := Lib.hid (And.intro hoin (And.intro hI hlen))
            have HNB := Lib.hid hnb
            have HGNB := Lib.hid hgnb
            clear hgw4 hn4 hn5 hgw5 hg5 hk5 hgr4 d0 d1 hW5 hnb hgnb hoin hI hlen h56 h6 hb6 hown hown6 hnews6 hone6 hg6 hW6 hsz5
            go_wp2_with (first
              | (at_builtin
                 rw [← HW5.out, ← HW6.out]
                 refine wpList_append_own_at _ rfl (.tmp 74) (.tmp 76) 23 rfl 0 63 i0 _ 2 24 Tryz.underlying23 hi hi0 hi1 hi2 rfl (by omega) vT j _ rfl HO6.out ⟨w4.heap.size, 0, none⟩ 1 1 _ rfl rfl HN6.out HE6.out (by unfold maxLen; omega) (by omega) (Nat.zero_le _) ?_
                 intro v7 w7 hown7 hgb7 _ hblk7
                 obtain ⟨A7, c7, rfl⟩ : ∃ A7 c7, v7 = .slice A7 (j + 1) c7 := by
                   rcases hown7.2 with ⟨e, he⟩ | ⟨g', cap', cur, e, _⟩
                   · omega
                   · exact ⟨_, _, e⟩
                 have hk7 : Kin [100, 25, 71] W6 w7 := Kin.grown hgb7 (fun g' hg' => by
                   obtain ⟨_, _, cur, hc⟩ := ownsRow_own HO6.out hg'
                   exact ⟨cur, _, hc, by decide⟩)
                 have hg7 := hk7 _ _ _ HG6.out (by decide)
                 have q2 := hg7.at 3 rfl
                 have f2 := hg7.free 3
                 have H7 := Lib.hid (And.intro hown7 (And.intro hgb7 (And.intro hblk7 (And.intro hk7 hg7))))
                 clear hown7 hgb7 hblk7 hk7 hg7)
              | fail)
            obtain ⟨hown7, hgb7, hblk7, hk7, hg7⟩ := H7.out
            obtain ⟨h56, h6⟩ := H6.out
            obtain ⟨hn5, hgw5, hg5, hk5⟩ := H5.out
            obtain ⟨hoin, hI, hlen⟩ := HVS.out
            have hgr4 := H4.out
            obtain ⟨w8, hw8⟩ : ∃ w8, w8 = w7.setCell ⟨g, 3, none⟩ (.slice A7 (j + 1) c7) := ⟨_, rfl⟩
            rw [← hw8]
            have hz7 := hk7 _ _ _ (HZ.out.below h6 HZ.out.lt) (by decide)
            have hz8 : BlkOf w8 w.heap.size #[.int .i64 0, .int .i64 0, .slice none 0 0, .slice none 0 0] 25 := by
              rw [hw8]; exact hz7.other (p := ⟨g, 3, none⟩) (by show g ≠ w.heap.size; have := HZG.out; omega) _
            have hg8 := hg7.set 3 (.slice A7 (j + 1) c7)
            rw [← hw8] at hg8
            have hs8 : w8.heap.size = w7.heap.size := by rw [hw8, size_set]
            have hgr7 : Grow w w7 := (Grow.trans HGR.out h6).grown hgb7 (Below.size (Grow.trans HGR.out h6)) (fun i hi => (hoin i hi).1)
            have hgr8 : Grow w w8 := by rw [hw8]; exact Below.setCell hgr7 (p := ⟨g, 3, none⟩) (Nat.le_of_lt HZG.out) _
            have k48 : Kin [100, 71] w4 w8 := (hk5.trans (Kin.of_grow h56)).trans (Kin.trans (fun b cs t hb ht => hk7 b cs t hb (by simp at ht ⊢; rcases ht with h | h; exact .inl h; exact .inr (.inr h))) (by rw [hw8]; exact Kin.set hg7 (by decide) _))
            have kr8 : Kin [100, 71] wr w8 := (Kin.of_grow (Grow.trans HGN.out hgr4)).trans k48
            have hs7 : w.heap.size ≤ wr.heap.size ∧ wr.heap.size ≤ W6.heap.size ∧ W6.heap.size ≤ w7.heap.size := ⟨Below.size HGR.out, Below.size h6, hgb7.size⟩
            have hmono : ∀ i, newIn w wr i → newIn w w8 i := fun i hi => ⟨hi.1, by rw [hs8]; have := hi.2; omega⟩
            have htk : T.take (j + 1) = T.take j ++ [(l, u)] := by rw [List.take_add_one, HX.out.1]; rfl
            have hn8 : NdsIn (newIn w w8) w8 vN S.l := HNS.out.kin kr8 (by decide) (by decide) hmono
            have ht8 : TlsIn (newIn w w8) w8 (.slice A7 (j + 1) c7) (T.take (j + 1)) := by
              rw [htk]
              refine ⟨?_, ?_, ?_⟩
              · rw [tlCells_snoc, List.length_append, List.length_singleton, hlen]
                refine ownsRow_kin (ts := [63]) hown7 ?_ (by decide)
                rw [hw8]; exact Kin.set hg7 (by decide) _
              · intro i hi
                rcases hblk7 with h1 | h1
                · rw [h1] at hi; exact hmono i (hoin i hi)
                · have h2 := (ownsRow_own hown7 hi).2.1
                  rw [h1] at hi
                  injection hi with hi
                  exact ⟨by omega, by rw [hs8]; exact h2⟩
              · intro y hy
                rcases List.mem_append.1 hy with h1 | h1
                · exact hI y h1
                · rw [List.mem_singleton.1 h1]; exact HX.out.2
            have HREL : Hid (TapeRel2 S out T w.heap.size g w (.int .i64 ((j + 1 : Nat) : Int)) w8) := Lib.hid ⟨j + 1, by have := HM.out; omega, rfl, _, _, hz8, hg8, hn8, ht8, hgr8⟩
            have hkk : ((j : Int) + 1) = ((j + 1 : Nat) : Int) := by omega
            rw [hkk]
            exact ⟨HREL.out, by simp [intOf]; omega⟩
          · obtain rfl : j = M := by omega
            have hall : T.take j = T := by rw [HM.out, List.take_length]
            have ht2 := HTS.out
            rw [hall] at ht2
            obtain ⟨AN', cN', rfl, _⟩ := HNS.out.form
            obtain ⟨AT', cT', rfl, _⟩ := ht2.form
            obtain ⟨nN, hnN⟩ : ∃ nN, nN = S.l.length := ⟨_, rfl⟩
            obtain ⟨nT, hnT⟩ : ∃ nT, nT = T.length := ⟨_, rfl⟩
            rw [← hnN, ← hnT] at hg
            rw [← hnN] at hn
            have HT2 := Lib.hid ht2
            have HNT := Lib.hid (And.intro hnN hnT)
            have HG4 := Lib.hid hg
            have g0 := hg.at 0 rfl
            have g1 := hg.at 1 rfl
            have g2 := hg.at 2 rfl
            have g3 := hg.at 3 rfl
            have z0 := hz.at 0 rfl
            have z1 := hz.at 1 rfl
            have z2 := hz.at 2 rfl
            have z3 := hz.at 3 rfl
            have fz := hz.free
            clear hz hg hn ht hgr hj hall ht2 hnN hnT HGB hlt
            go_wp2_with fail
            refine post_cell_tmp rfl (g := w.heap.size) rfl ((((HZ.out.set 0 (.int .i64 (S.pars : Int))).set 1 (.int .i64 out)).set 2 (.slice AN' nN cN')).set 3 (.slice AT' nT cT')) Tryz.underlying25 rfl (by kernel_rfl) ?_
            obtain ⟨W9, hW9⟩ : ∃ W9, W9 = (((wr.setCell ⟨w.heap.size, 0, none⟩ (.int .i64 (S.pars : Int))).setCell ⟨w.heap.size, 1, none⟩ (.int .i64 out)).setCell ⟨w.heap.size, 2, none⟩ (.slice AN' nN cN')).setCell ⟨w.heap.size, 3, none⟩ (.slice AT' nT cT') := ⟨_, rfl⟩
            have hg9 : Grow w W9 := by
              rw [hW9]
              exact (((Below.setCell HGR.out (p := ⟨w.heap.size, 0, none⟩) (Nat.le_refl _) _).setCell (p := ⟨w.heap.size, 1, none⟩) (Nat.le_refl _) _).setCell (p := ⟨w.heap.size, 2, none⟩) (Nat.le_refl _) _).setCell (p := ⟨w.heap.size, 3, none⟩) (Nat.le_refl _) _
            have hk9 : Kin [100, 71, 63] wr W9 := by
              rw [hW9]
              exact ((Kin.set HZ.out (by decide) _).trans (Kin.set (HZ.out.set 0 _) (by decide) _)).trans ((Kin.set ((HZ.out.set 0 _).set 1 _) (by decide) _).trans (Kin.set (((HZ.out.set 0 _).set 1 _).set 2 _) (by decide) _))
            have hs9 : W9.heap.size = wr.heap.size := by rw [hW9]; simp [World.setCell]
            have hm9 : ∀ i, newIn w wr i → newIn w W9 i := fun i hi => ⟨hi.1, by rw [hs9]; exact hi.2⟩
            rw [← hW9]
            rw [HNT.out.1, HNT.out.2]
            exact .inl ⟨HOK.out.symm, _, _, rfl, HNS.out.kin hk9 (by decide) (by decide) hm9, ⟨ownsRow_kin HT2.out.1 hk9 (by decide), fun i hi => hm9 i (HT2.out.2.1 i hi), HT2.out.2.2⟩, hg9⟩
end Go.Proofs.YtofpcdjoljjnoaaGreatDoor

namespace Go.Proofs.YtofpcdjoljjnoaaGreatDoor
open Go.RowKit

/-- Are two steps equal in everything? -/
def sameNd (x y : Nd) : Bool := ((decide (x.op = y.op) && decide (x.a = y.a)) && decide (x.b = y.b)) && sameB x.c y.c

/-- Are two rows of steps the same? -/
def sameNds : List Nd → List Nd → Bool
  | [], [] => true
  | x :: l, y :: m => sameNd x y && sameNds l m
  | _, _ => false
theorem sameNds_take : ∀ {L M : List Nd} {i : Nat} {x y : Nd}, L[i]? = some x → M[i]? = some y → sameNds (L.take (i + 1)) (M.take (i + 1)) = (sameNds (L.take i) (M.take i) && sameNd x y)
  | [], _, _, _, _, h, _ => by simp at h
  | _ :: _, [], _, _, _, _, h => by simp at h
  | a :: L, b :: M, 0, x, y, h, k => by
    simp at h k
    subst h k
    simp [sameNds]
  | a :: L, b :: M, i + 1, x, y, h, k => by
    have := sameNds_take (L := L) (M := M) (i := i) (x := x) (y := y) (by simpa using h) (by simpa using k)
    simp only [List.take_succ_cons, sameNds] at this ⊢
    rw [this, Bool.and_assoc]
theorem sameNds_false : ∀ {L M : List Nd} {i : Nat}, L.length = M.length → sameNds (L.take i) (M.take i) = false → sameNds L M = false
  | [], [], _, _, h => by simpa using h
  | [], _ :: _, _, hl, _ => by simp at hl
  | _ :: _, [], _, hl, _ => by simp at hl
  | a :: L, b :: M, 0, _, h => by simp [sameNds] at h
  | a :: L, b :: M, i + 1, hl, h => by
    simp only [List.take_succ_cons, sameNds] at h ⊢
    rcases Bool.and_eq_false_iff.1 h with h | h
    · rw [h]; rfl
    · rw [sameNds_false (by simpa using hl) h, Bool.and_false]
theorem sameNds_length : ∀ {L M : List Nd}, L.length ≠ M.length → sameNds L M = false
  | [], [], h => by simp at h
  | [], _ :: _, _ => rfl
  | _ :: _, [], _ => rfl
  | a :: L, b :: M, h => by
    simp only [sameNds]
    rw [sameNds_length (by simpa using h), Bool.and_false]

theorem take_tl {T U : List (List UInt8 × Int)} {k : Nat} {x y : List UInt8 × Int} (h : T.take k = U.take k) (hx : T[k]? = some x) (hy : U[k]? = some y) : (T.take (k + 1) = U.take (k + 1)) ↔ x = y := by
  have hl := (List.getElem?_eq_some_iff.1 hx).1
  have hm := (List.getElem?_eq_some_iff.1 hy).1
  have e1 : T[k] = x := (List.getElem?_eq_some_iff.1 hx).2
  have e2 : U[k] = y := (List.getElem?_eq_some_iff.1 hy).2
  rw [List.take_succ_eq_append_getElem hl, List.take_succ_eq_append_getElem hm, h, e1, e2]
  exact ⟨fun e => by have := List.append_cancel_left e; injection this, fun e => by rw [e]⟩
/-- Are two tapes equal in everything? -/
def sameTp (t u : Tp) : Bool := ((decide (t.pars = u.pars) && decide (t.out = u.out)) && sameNds t.nodes u.nodes) && decide (t.tells = u.tells)

end Go.Proofs.YtofpcdjoljjnoaaGreatDoor

namespace Go.Proofs.YtofpcdjoljjnoaaGreatDoor
open Go.RowKit Go.Maps

/-- Two makers, each of blocks of its own, since w0. -/
structure Two (w0 w : World) (P Q : Nat → Prop) (m n : Value) (S R : MkS) : Prop where
  one : MkAt P w m S
  two : MkAt Q w n R
  apart : ∀ k, P k → ¬ Q k
  low : ∀ k, P k → w0.heap.size ≤ k
  low2 : ∀ k, Q k → w0.heap.size ≤ k
  grow : Grow w0 w
section
variable {w0 w w' : World} {P Q : Nat → Prop} {m n : Value} {S R : MkS}
theorem Two.more (h : Two w0 w P Q m n S R) (hg : Grow w w') : Two w0 w' P Q m n S R :=
  ⟨h.one.grow hg, h.two.grow hg, h.apart, h.low, h.low2, h.grow.trans hg⟩
theorem Two.swap (h : Two w0 w P Q m n S R) : Two w0 w Q P n m R S := ⟨h.two, h.one, fun k h1 h2 => h.apart k h2 h1, h.low2, h.low, h.grow⟩
theorem Two.told {r : Int × Int × MkS} {e : Ending} (h : Two w0 w P Q m n S R) (hp : MkPost P m w r e w') : e = .returned (.tuple #[.int .i64 r.1, .int .i64 r.2.1]) ∧ ∃ P', Two w0 w' P' Q m n r.2.2 R := by
  obtain ⟨he, hs, P', hP, hP', hm⟩ := hp
  refine ⟨he, P', hm, h.two.spare hs (fun k hq hp => h.apart k hp hq), fun k hk hq => ?_, fun k hk => ?_, h.low2, ?_⟩
  · rcases hP' k hk with h1 | h1
    · exact h.apart k h1 hq
    · have := h.two.lt k hq; omega
  · rcases hP' k hk with h1 | h1
    · exact h.low k h1
    · exact Nat.le_trans (Below.size h.grow) h1
  · exact Below.trans h.grow (hs.below h.low (Below.size h.grow))
end

def x1 : Fr := ⟨false, nrow 1, nrow 1⟩
def x2 : Fr := ⟨false, nrow 2, nrow 1⟩
def m0 : MkS := ⟨100, 0, []⟩
def m1 : MkS := ⟨100, 1, [bareNd 2 0 0]⟩
def m2 : MkS := ⟨100, 1, [bareNd 2 0 0, ⟨1, 0, 0, ⟨false, [2], [1]⟩⟩]⟩
def m3 : MkS := ⟨100, 1, [bareNd 2 0 0, ⟨1, 0, 0, ⟨false, [2], [1]⟩⟩, bareNd 5 0 1]⟩
def n0 : MkS := ⟨1, 0, []⟩
def n1 : MkS := ⟨1, 0, [⟨1, 0, 0, ⟨false, [1], [1]⟩⟩]⟩
theorem say1 : parS m0 = (0, 0, m1) := by kernel_rfl
theorem say2 : numS m1 x2 = (1, 0, m2) := by kernel_rfl
theorem say3 : twoS m2 5 0 1 = (2, 0, m3) := by kernel_rfl
theorem say4 : twoS m3 5 0 1 = (2, 0, m3) := by kernel_rfl
theorem say5 : oneS m3 8 9 = (0, 2, m3) := by kernel_rfl
theorem say6 : oneS m3 3 0 = (0, 2, m3) := by kernel_rfl
theorem say7 : numS n0 x1 = (0, 0, n1) := by kernel_rfl
theorem say8 : numS n1 x2 = (0, 171, n1) := by kernel_rfl
theorem say9 : numS n1 x1 = (0, 0, n1) := by kernel_rfl
theorem say10 : existB m3 2 [([120], 0)] = true := by decide
theorem say11 : validB ⟨1, 2, m3.l, [([120], 0)]⟩ = true := by decide
theorem say12 : validB ⟨0, 0, [], []⟩ = false := by decide
end Go.Proofs.YtofpcdjoljjnoaaGreatDoor
