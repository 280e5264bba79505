/-
  The texts TapCopy, TapKin, TapTape, one behind the other.
-/
import Derived.Test.YtofpcdjoljjnoaaDoorTapZ24

namespace Go.Proofs.YtofpcdjoljjnoaaDoor
open Go.RowKit Go.Maps

theorem row_kept {B : Nat} {w w' : World} {v : Value} {L : List Nat} (h : NRow B w v L) (hg : Grow w w') : NRow B w' v L :=
  ownsRow_kept (P := fun g => v.ownBlock = some g) h (fun _ hg => hg) (fun g hb => hg.block g (ownsRow_own h hb).2.1)
theorem clone_raw {w : World} {v : Value} {L : List Nat} (h : Raw w v L) (hl : L.length ≤ 1099511627776) : Calls Tryd.prog 47 #[v] w (OwnRes L w) := by
  obtain ⟨a, cap, rfl, hc, hn, _, hat⟩ := h
  exact clone_any a cap L w hl hc hn hat
/-- A string's copy. -/
theorem strclone_any (l : List UInt8) (w : World) (hl : l.length ≤ 1099511627776) :
    Calls Tryd.prog 28 #[.string (mk l)] w fun e w' => e = .returned (.string (mk l)) ∧ Grow w w' := by
  have hsz : (mk l).size ≤ 281474976710656 := by rw [mk_size]; omega
  go_enter Tryd.func28, Tryd.ntmps28
  go_wp2_with (go_at_call 48; refine (Tryd.stringslite_Clone (mk l) _ hsz).mono ?_; rintro e w' ⟨rfl, hb⟩)
  go_ret
  exact ⟨rfl, hb⟩

/-- A number of the call's own. -/
def CopyPost (s : Bool) (m d : List Nat) (w : World) (e : Ending) (w' : World) : Prop :=
  ∃ x c y c', e = .returned (.agg #[.bool s, .slice x m.length c, .slice y d.length c']) ∧ NRow w.heap.size w' (.slice x m.length c) m ∧ NRow w.heap.size w' (.slice y d.length c') d ∧ Grow w w'

set_option maxRecDepth 100000 in
set_option maxHeartbeats 2000000 in
theorem copied_any {w : World} {s : Bool} {m d : List Nat} {vm vd : Value} (hm : Raw w vm m) (hd : Raw w vd d) (hml : m.length ≤ 2048) (hdl : d.length ≤ 2048) :
    Calls Tryd.prog 27 #[.agg #[.bool s, vm, vd]] w (CopyPost s m d w) := by
  have H := Lib.hid (And.intro hm hd)
  obtain ⟨a, ca, rfl, _, _, _, _⟩ := hm
  obtain ⟨b, cb, rfl, _, _, _, _⟩ := hd
  obtain ⟨z, hz⟩ : ∃ z, z = w.heap.size := ⟨_, rfl⟩
  obtain ⟨W1, hW1⟩ : ∃ W1, W1 = (w.alloc (.cells #[.bool s, .slice a m.length ca, .slice b d.length cb] 33)).alloc (.cells #[.bool false, .slice none 0 0, .slice none 0 0] 33) := ⟨_, rfl⟩
  have b0 : BlkOf W1 z #[.bool s, .slice a m.length ca, .slice b d.length cb] 33 := by rw [hW1, hz]; exact (BlkOf.new w _ _).alloc _
  have b1 : BlkOf W1 (z + 1) #[.bool false, .slice none 0 0, .slice none 0 0] 33 := by rw [hW1, hz]; exact BlkOf.news (by simp) _ _
  have hbw : Grow w W1 := by rw [hW1]; exact ((Below.refl _ w).alloc (Nat.le_refl _) _).alloc (by simp) _
  have hsz : W1.heap.size = z + 2 := by rw [hW1, hz]; simp
  have HC1 := Lib.hid (fun W (hW : Grow W1 W) => (clone_raw (H.out.1.grow (hbw.trans hW)) (by omega)).mono (fun e W' h => h.elim fun v h => (⟨v, h.1, h.2.1.more (Nat.le_trans (Nat.le_of_eq hsz.symm) hW.size), h.2.2⟩ : ∃ v, e = .returned v ∧ NRow (z + 2) W' v m ∧ Grow W W')))
  have HC2 := Lib.hid (fun W (hW : Grow W1 W) => (clone_raw (H.out.2.grow (hbw.trans hW)) (by omega)).mono (fun e W' h => h.elim fun v h => (⟨v, h.1, h.2.1.more (Nat.le_trans (Nat.le_of_eq hsz.symm) hW.size), h.2.2⟩ : ∃ v, e = .returned v ∧ NRow (z + 2) W' v d ∧ Grow W W')))
  have KC : Hid (∀ W, Grow W1 W → W.cell? ⟨z, 0, none⟩ = some (.bool s) ∧ W.cell? ⟨z, 1, none⟩ = some (.slice a m.length ca) ∧ W.cell? ⟨z, 2, none⟩ = some (.slice b d.length cb)) := Lib.hid fun W hW => by
    have q0 := b0.below hW b0.lt
    exact ⟨q0.at 0 rfl, q0.at 1 rfl, q0.at 2 rfl⟩
  have HB1 := Lib.hid b1
  have HBW := Lib.hid hbw
  have HSZ := Lib.hid hsz
  have HZ := Lib.hid hz
  have HW1 := Lib.hid hW1
  clear b0 b1 hbw hsz hz hW1
  go_enter Tryd.func27, Tryd.ntmps27
  go_wp2_with fail
  rw [← HW1.out, ← HZ.out]
  rename_i K0 hK0
  refine wp_region_list [fun v _ => v = .pointer (some ⟨z, 0, none⟩), fun v _ => v = .pointer (some ⟨z, 0, none⟩), fun v _ => v = .bool s,
      fun v _ => v = .pointer (some ⟨z, 0, none⟩), fun v _ => v = .pointer (some ⟨z, 1, none⟩), fun v _ => v = .slice a m.length ca, fun v W => NRow (z + 2) W v m,
      fun v W => ∃ x c, v = .agg #[.bool s, .slice x m.length c] ∧ NRow (z + 2) W (.slice x m.length c) m,
      fun v _ => v = .pointer (some ⟨z, 2, none⟩), fun v _ => v = .slice b d.length cb, fun v W => NRow (z + 2) W v d,
      fun v W => ∃ x c y e, v = .agg #[.bool s, .slice x m.length c, .slice y d.length e] ∧ NRow (z + 2) W (.slice x m.length c) m ∧ NRow (z + 2) W (.slice y d.length e) d]
    [(1, .pointer (some ⟨z, 0, none⟩)), (2, .pointer (some ⟨z + 1, 0, none⟩))] 12 (by kernel_rfl) ?stay rfl (by kernel_rfl) rfl ?base (by kernel_rfl) ⟨?_, ?_, ?_, ?_, ?_, ?_, ?_, ?_, ?_, ?_, ?_, ?_, trivial⟩ ?last
  case stay =>
    refine ⟨stays_pure _, stays_pure _, stays_pure _, stays_pure _, stays_pure _, stays_pure _, ?_, ?_, stays_pure _, stays_pure _, ?_, ?_, trivial⟩
    · exact fun v W W' hg h => row_kept h hg
    · exact fun v W W' hg ⟨x, c, h1, h2⟩ => ⟨x, c, h1, row_kept h2 hg⟩
    · exact fun v W W' hg h => row_kept h hg
    · exact fun v W W' hg ⟨x, c, y, e, h1, h2, h3⟩ => ⟨x, c, y, e, h1, row_kept h2 hg, row_kept h3 hg⟩
  case base => simp
  case last =>
    intro vs W hW hv
    simp only [FactsL, Nat.zero_add, Nat.reduceAdd] at hv
    obtain ⟨v0, v1, v2, v3, v4, v5, v6, v7, v8, v9, v10, ⟨x, c, y, e, v11, hx, hy⟩, _⟩ := hv
    have q2 := HB1.out.below hW HB1.out.lt
    refine ⟨rfl, ?_⟩
    simp only [List.take_succ_cons, List.take_zero, putF, Act.put, List.setIfInBounds_toArray, List.set_cons_zero, List.set_cons_succ, Nat.reduceAdd, v11]
    unfold Oper.wp
    have c20 : W.cell? ⟨z + 1, 0, none⟩ = some (.bool false) := q2.at 0 rfl
    have c21 : W.cell? ⟨z + 1, 1, none⟩ = some (.slice none 0 0) := q2.at 1 rfl
    have c22 : W.cell? ⟨z + 1, 2, none⟩ = some (.slice none 0 0) := q2.at 2 rfl
    have d20 : W.frozen? ⟨z + 1, 0, none⟩ = false := q2.free 0
    have d21 : W.frozen? ⟨z + 1, 1, none⟩ = false := q2.free 1
    have d22 : W.frozen? ⟨z + 1, 2, none⟩ = false := q2.free 2
    simp [execOp, go_sem, c20, c21, c22, d20, d21, d22]
    refine hK0 _ _ ?_
    have q3 := ((q2.set 0 (.bool s)).set 1 (.slice x m.length c)).set 2 (.slice y d.length e)
    have hbW : Grow w W := HBW.out.trans hW
    have hzw := HZ.out
    have hbF : Grow w (((W.setCell ⟨z + 1, 0, none⟩ (.bool s)).setCell ⟨z + 1, 1, none⟩ (.slice x m.length c)).setCell ⟨z + 1, 2, none⟩ (.slice y d.length e)) :=
      ((Below.setCell hbW (p := ⟨z + 1, 0, none⟩) (by show w.heap.size ≤ z + 1; omega) _).setCell (p := ⟨z + 1, 1, none⟩) (by show w.heap.size ≤ z + 1; omega) _).setCell (p := ⟨z + 1, 2, none⟩) (by show w.heap.size ≤ z + 1; omega) _
    have Q3 := Lib.hid q3
    have HBF := Lib.hid hbF
    go_wp2_with fail
    refine post_cell rfl (g := z + 1) rfl Q3.out Tryd.underlying33 rfl (by kernel_rfl) ?_
    unfold CopyPost
    refine ⟨_, _, _, _, rfl, ?_, ?_, HBF.out⟩
    · have h1 := ownsRow_setCell_below (a := ⟨z + 1, 2, none⟩) (ownsRow_setCell_below (a := ⟨z + 1, 1, none⟩) (ownsRow_setCell_below (a := ⟨z + 1, 0, none⟩) hx (by show z + 1 < _; omega) (.bool s)) (by show z + 1 < _; omega) (.slice x m.length c)) (by show z + 1 < _; omega) (.slice y d.length e)
      exact NRow.more h1 (by omega)
    · have h1 := ownsRow_setCell_below (a := ⟨z + 1, 2, none⟩) (ownsRow_setCell_below (a := ⟨z + 1, 1, none⟩) (ownsRow_setCell_below (a := ⟨z + 1, 0, none⟩) hy (by show z + 1 < _; omega) (.bool s)) (by show z + 1 < _; omega) (.slice x m.length c)) (by show z + 1 < _; omega) (.slice y d.length e)
      exact NRow.more h1 (by omega)
  all_goals
    intro a' W hW hb hf
    obtain ⟨q0, q1, q2⟩ := KC.out W hW
    simp only [List.forall_mem_cons, List.not_mem_nil, false_imp_iff, implies_true, and_true] at hb
    obtain ⟨e1, e2⟩ := hb
    simp [FactsOf, FactAt, Region.binds, factsL] at hf
    refine ⟨rfl, fun K hK => ?_⟩
    unfold Oper.wp
  · simp [execOp, go_sem, *]
    exact hK _ _ (Grow.refl _) rfl
  · simp [execOp, go_sem, *]
    exact hK _ _ (Grow.refl _) rfl
  · simp [execOp, go_sem, *]
    exact hK _ _ (Grow.refl _) rfl
  · simp [execOp, go_sem, *]
    exact hK _ _ (Grow.refl _) rfl
  · simp [execOp, go_sem, *]
    exact hK _ _ (Grow.refl _) rfl
  · simp [execOp, go_sem, *]
    exact hK _ _ (Grow.refl _) rfl
  · simp [go_sem, *]
    refine (HC1.out W hW).mono ?_
    rintro e W' ⟨v, rfl, hr, hg⟩
    exact hK _ _ hg hr
  · have f5 := hf.1
    have f9 := hf.2
    obtain ⟨x, c, ex, _⟩ := f9.at_
    rw [ex] at f9
    clear hf
    simp [execOp, go_sem, f5, ex]
    exact hK _ _ (Grow.refl _) ⟨x, c, rfl, f9⟩
  · simp [execOp, go_sem, *]
    exact hK _ _ (Grow.refl _) rfl
  · simp [execOp, go_sem, *]
    exact hK _ _ (Grow.refl _) rfl
  · simp [go_sem, *]
    refine (HC2.out W hW).mono ?_
    rintro e W' ⟨v, rfl, hr, hg⟩
    exact hK _ _ hg hr
  · obtain ⟨x, c, ex, hx⟩ := hf.1
    have f9 := hf.2
    obtain ⟨y, c', ey, _⟩ := f9.at_
    rw [ey] at f9
    clear hf
    simp [execOp, go_sem, ex, ey]
    exact hK _ _ (Grow.refl _) ⟨x, c, y, c', rfl, hx, f9⟩
end Go.Proofs.YtofpcdjoljjnoaaDoor

namespace Go.Proofs.YtofpcdjoljjnoaaDoor
open Go.RowKit Go.Maps

/-- The blocks of these types are as they were. -/
def Kin (ts : List TypeId) (w w' : World) : Prop := ∀ b cs t, BlkOf w b cs t → t ∈ ts → BlkOf w' b cs t
section
variable {ts : List TypeId} {a b c : World}
theorem Kin.trans (h : Kin ts a b) (k : Kin ts b c) : Kin ts a c := fun i cs t hb ht => k i cs t (h i cs t hb ht) ht
theorem Kin.of_grow (h : Grow a b) : Kin ts a b := fun _ _ _ hb _ => hb.below h hb.lt
theorem Kin.set {p i : Nat} {cs : Array Value} {t : TypeId} (hb : BlkOf a p cs t) (ht : t ∉ ts) (x : Value) : Kin ts a (a.setCell ⟨p, i, none⟩ x) := fun k cs' t' hk ht' => by
  refine (Below.heap_setCell _ _ _ _ (fun e => ?_)).trans hk
  have e2 : k = p := e
  unfold BlkOf at hb hk
  rw [e2, hb] at hk
  injection hk with hk
  injection hk with _ hT
  exact ht (by rw [hT]; exact ht')
theorem Kin.grown {row : Option Nat} (h : a.grownBy b row) (hr : ∀ g, row = some g → ∃ cs t, BlkOf a g cs t ∧ t ∉ ts) : Kin ts a b := fun k cs' t' hk ht' => by
  refine (h.block k hk.lt (fun e => ?_)).trans hk
  obtain ⟨cs, t, hb, ht⟩ := hr k e.symm
  unfold BlkOf at hb hk
  rw [hb] at hk
  injection hk with hk
  injection hk with _ hT
  exact ht (by rw [hT]; exact ht')
theorem ownsRow_kin {w w' : World} {B e K : Nat} {v : Value} {n : Nat} {xs : List Value} (h : w.ownsRow B e K v n xs) (hk : Kin ts w w') (he : e ∈ ts) : w'.ownsRow B e K v n xs := by
  refine ownsRow_kept (P := fun g => v.ownBlock = some g) h (fun _ hg => hg) (fun g hg => ?_)
  obtain ⟨_, _, cur, hc⟩ := ownsRow_own h hg
  exact (hk g cur e hc he).trans hc.symm
theorem RawIn.kin {Q Q' : Nat → Prop} {w w' : World} {v : Value} {L : List Nat} (h : RawIn Q w v L) (hk : Kin ts w w') (ht : 64 ∈ ts) (hq : ∀ k, Q k → Q' k) : RawIn Q' w' v L :=
  ⟨ownsRow_kin h.1 hk ht, h.2.1, fun g hg => hq g (h.2.2 g hg)⟩
theorem NdIn.kin {Q Q' : Nat → Prop} {w w' : World} {x : Nd} {vn vd : Value} (h : NdIn Q w x vn vd) (hk : Kin ts w w') (ht : 64 ∈ ts) (hq : ∀ k, Q k → Q' k) : NdIn Q' w' x vn vd :=
  ⟨h.1, h.2.1, h.2.2.1, h.2.2.2.1.kin hk ht hq, h.2.2.2.2.1.kin hk ht hq, h.2.2.2.2.2⟩
theorem NdsIn.kin {Q Q' : Nat → Prop} {w w' : World} {v : Value} {L : List Nd} (h : NdsIn Q w v L) (hk : Kin ts w w') (ht : 64 ∈ ts) (hn : 56 ∈ ts) (hq : ∀ k, Q k → Q' k) : NdsIn Q' w' v L := by
  obtain ⟨vs, h1, h2, h3, h4⟩ := h
  exact ⟨vs, h1, ownsRow_kin h2 hk hn, fun g hg => hq g (h3 g hg), fun i x p hx hp => (h4 i x p hx hp).kin hk ht hq⟩
end

/-- The cells of a row of tells. -/
def tlCells : List (List UInt8 × Int) → List Value
  | [] => []
  | x :: T => [.string (mk x.1), .int .i64 x.2] ++ tlCells T
theorem tlCells_length : ∀ T, (tlCells T).length = T.length * 2
  | [] => rfl
  | x :: T => by rw [tlCells, List.length_append, tlCells_length T]; simp; omega
theorem tlCells_snoc : ∀ T x, tlCells (T ++ [x]) = tlCells T ++ [.string (mk x.1), .int .i64 x.2]
  | [], x => by simp [tlCells]
  | y :: T, x => by rw [List.cons_append, tlCells, tlCells_snoc T, tlCells, List.append_assoc]
theorem tlCells_get : ∀ {T : List (List UInt8 × Int)} {i : Nat} {x : List UInt8 × Int}, T[i]? = some x → (tlCells T)[i * 2]? = some (.string (mk x.1)) ∧ (tlCells T)[i * 2 + 1]? = some (.int .i64 x.2)
  | [], _, _, h => by simp at h
  | y :: T, 0, x, h => by
    simp at h
    subst h
    simp [tlCells]
  | y :: T, i + 1, x, h => by
    have := tlCells_get (T := T) (i := i) (x := x) (by simpa using h)
    rw [tlCells, show (i + 1) * 2 = i * 2 + 2 by omega]
    simpa using this
/-- A row of tells among Q. -/
def TlsIn (Q : Nat → Prop) (w : World) (v : Value) (T : List (List UInt8 × Int)) : Prop := w.ownsRow 0 63 2 v T.length (tlCells T) ∧ OwnIn Q v ∧ ∀ x ∈ T, I64 x.2
theorem TlsIn.nil (Q : Nat → Prop) (w : World) : TlsIn Q w (.slice none 0 0) [] := ⟨World.ownsRow_nil w 0 _ 2, fun _ h => (by cases h), fun _ h => by cases h⟩
theorem TlsIn.form {Q : Nat → Prop} {w : World} {v : Value} {T : List (List UInt8 × Int)} (h : TlsIn Q w v T) : ∃ A cap, v = .slice A T.length cap ∧ TlsAt w A T := by
  obtain ⟨h2, _, h4⟩ := h
  rcases h2.2 with ⟨e, he⟩ | ⟨g, cap, cur, e, _, hg, hn, hm, hs, htk⟩
  · have : T = [] := List.eq_nil_of_length_eq_zero he
    subst this
    exact ⟨none, 0, e, fun i x hx => by simp at hx⟩
  · refine ⟨some ⟨g, 0, none⟩, cap, e, fun i x hx => ?_⟩
    have hi := (List.getElem?_eq_some_iff.1 hx).1
    have h5 := tlCells_get hx
    rw [← htk] at h5
    refine ⟨h4 x (List.mem_of_getElem? hx), g, 0, rfl, ?_, ?_⟩
    · have := h5.1
      rw [List.getElem?_take, if_pos (by omega)] at this
      rw [cell_of_row w g (0 + i * 2) cur _ (0, 0) hg, Nat.zero_add]
      simpa using this
    · have := h5.2
      rw [List.getElem?_take, if_pos (by omega)] at this
      rw [cell_of_row w g (0 + i * 2 + 1) cur _ (0, 0) hg, Nat.zero_add]
      simpa using this
end Go.Proofs.YtofpcdjoljjnoaaDoor

namespace Go.Proofs.YtofpcdjoljjnoaaDoor
open Go.RowKit Go.Maps

set_option maxRecDepth 100000 in
set_option maxHeartbeats 4000000 in
theorem tape_none {w : World} {m : Value} {out : Int} {v : Value} (h : NoMk w m) :
    Calls Tryd.prog 15 #[m, .int .i64 out, v] w (Just (.tuple #[.agg #[.int .i64 0, .int .i64 0, .slice none 0 0, .slice none 0 0], .int .i64 1]) w) := by
  obtain ⟨W1, hW1⟩ : ∃ W1, W1 = w.alloc (.cells #[.int .i64 0, .int .i64 0, .slice none 0 0, .slice none 0 0] 46) := ⟨_, rfl⟩
  have b0 : BlkOf W1 w.heap.size #[.int .i64 0, .int .i64 0, .slice none 0 0, .slice none 0 0] 46 := by rw [hW1]; exact BlkOf.new w _ _
  have hbw : Grow w W1 := by rw [hW1]; exact Grow.alloc w _
  have HN := Lib.hid (isnone_none (h.grow hbw))
  have HB := Lib.hid b0
  have HBW := Lib.hid hbw
  have c0 := b0.at 0 rfl
  have c1 := b0.at 1 rfl
  have c2 := b0.at 2 rfl
  have c3 := b0.at 3 rfl
  have f0 := b0.free
  subst hW1
  clear h b0 hbw
  go_enter Tryd.func15, Tryd.ntmps15
  go_wp2_with (first | (go_at_call 21; refine HN.out.mono ?_; rintro e w3 ⟨rfl, rfl⟩) | fail)
  refine post_cell_tmp rfl (g := w.heap.size) rfl HB.out Tryd.underlying46 rfl (by kernel_rfl) ?_
  exact ⟨rfl, HBW.out⟩
end Go.Proofs.YtofpcdjoljjnoaaDoor
