/-
  The texts TapMk, TapIndex, TapMaker, TapNum, one behind the other.
-/
import Derived.Test.YtcbebikcfcidmaaDoorChaZ13
import Derived.Maps.AppendAt
import Derived.BigQuiet

namespace Go.Proofs.YtcbebikcfcidmaaDoor
open Go.RowKit Go.Maps

/-- A slice's block is among P. -/
def OwnIn (P : Nat → Prop) (v : Value) : Prop := ∀ g, v.ownBlock = some g → P g
/-- The blocks of P are as they were. -/
def Kept (P : Nat → Prop) (w w' : World) : Prop := ∀ k, P k → w'.heap[k]? = w.heap[k]?
theorem ownsRow_kept {P : Nat → Prop} {w w' : World} {B e K : Nat} {v : Value} {n : Nat} {xs : List Value} (h : w.ownsRow B e K v n xs) (ho : OwnIn P v) (hk : Kept P w w') : w'.ownsRow B e K v n xs := by
  refine ⟨h.1, ?_⟩
  rcases h.2 with h2 | ⟨g, cap, cur, e1, hB, hg, hr⟩
  · exact .inl h2
  · exact .inr ⟨g, cap, cur, e1, hB, (hk g (ho g (by rw [e1]; rfl))).trans hg, hr⟩
theorem ownsRow_own {w : World} {B e K : Nat} {v : Value} {n : Nat} {xs : List Value} (h : w.ownsRow B e K v n xs) {g : Nat} (hg : v.ownBlock = some g) : B ≤ g ∧ g < w.heap.size ∧ ∃ cur, BlkOf w g cur e := by
  rcases h.2 with ⟨h2, _⟩ | ⟨g', cap, cur, e1, hB, hh, hr⟩
  · rw [h2] at hg; cases hg
  · rw [e1] at hg
    cases hg
    exact ⟨hB, (Array.getElem?_eq_some_iff.1 hh).1, cur, hh⟩

/-- A row of limbs among P. -/
def RawIn (P : Nat → Prop) (w : World) (v : Value) (L : List Nat) : Prop := NRow 0 w v L ∧ Fits L ∧ OwnIn P v
theorem RawIn.kept {P : Nat → Prop} {w w' : World} {v : Value} {L : List Nat} (h : RawIn P w v L) (hk : Kept P w w') : RawIn P w' v L := ⟨ownsRow_kept h.1 h.2.2 hk, h.2⟩
theorem RawIn.mono {P P' : Nat → Prop} {w : World} {v : Value} {L : List Nat} (h : RawIn P w v L) (hp : ∀ k, P k → P' k) : RawIn P' w v L := ⟨h.1, h.2.1, fun g hg => hp g (h.2.2 g hg)⟩
theorem RawIn.nil (P : Nat → Prop) (w : World) : RawIn P w (.slice none 0 0) [] := ⟨NRow.nil _ _, fun _ h => by simp at h, fun _ h => by cases h⟩
theorem raw_of_row {B : Nat} {w : World} {v : Value} {L : List Nat} (h : NRow B w v L) (hf : Fits L) : Raw w v L := by
  have h2 := h.2
  obtain ⟨A, cap, rfl, h1, _, h3⟩ := h.at_
  refine ⟨A, cap, rfl, h1, fun hA => ?_, hf, h3⟩
  rcases h2 with ⟨e, _⟩ | ⟨g, cap', cur, e, _⟩
  · injection e
  · injection e with e1
    rw [hA] at e1; cases e1
theorem RawIn.raw {P : Nat → Prop} {w : World} {v : Value} {L : List Nat} (h : RawIn P w v L) : Raw w v L := raw_of_row h.1 h.2.1

/-- A step among P. -/
def NdIn (P : Nat → Prop) (w : World) (x : Nd) (vn vd : Value) : Prop := x.op < 256 ∧ I64 x.a ∧ I64 x.b ∧ RawIn P w vn x.c.m ∧ RawIn P w vd x.c.d ∧ x.c.m.length ≤ 2048 ∧ x.c.d.length ≤ 2048
theorem NdIn.kept {P : Nat → Prop} {w w' : World} {x : Nd} {vn vd : Value} (h : NdIn P w x vn vd) (hk : Kept P w w') : NdIn P w' x vn vd := ⟨h.1, h.2.1, h.2.2.1, h.2.2.2.1.kept hk, h.2.2.2.2.1.kept hk, h.2.2.2.2.2⟩
theorem NdIn.mono {P P' : Nat → Prop} {w : World} {x : Nd} {vn vd : Value} (h : NdIn P w x vn vd) (hp : ∀ k, P k → P' k) : NdIn P' w x vn vd := ⟨h.1, h.2.1, h.2.2.1, h.2.2.2.1.mono hp, h.2.2.2.2.1.mono hp, h.2.2.2.2.2⟩
theorem NdIn.ok {P : Nat → Prop} {w : World} {x : Nd} {vn vd : Value} (h : NdIn P w x vn vd) : NdOK 2048 w x vn vd := ⟨h.1, h.2.1, h.2.2.1, h.2.2.2.1.raw, h.2.2.2.2.1.raw, h.2.2.2.2.2⟩

/-- The cells of a row of steps. -/
def rowCells : List Nd → List (Value × Value) → List Value
  | x :: L, p :: vs => ndCells x p.1 p.2 ++ rowCells L vs
  | _, _ => []
theorem ndCells_length (x : Nd) (vn vd : Value) : (ndCells x vn vd).length = 6 := rfl
theorem rowCells_snoc : ∀ {L : List Nd} {vs : List (Value × Value)} (x : Nd) (p : Value × Value), vs.length = L.length → rowCells (L ++ [x]) (vs ++ [p]) = rowCells L vs ++ ndCells x p.1 p.2
  | [], [], x, p, _ => by simp [rowCells]
  | [], _ :: _, _, _, h => by simp at h
  | _ :: _, [], _, _, h => by simp at h
  | y :: L, q :: vs, x, p, h => by
    rw [List.cons_append, List.cons_append, rowCells, rowCells_snoc x p (by simpa using h), rowCells, List.append_assoc]
theorem rowCells_get : ∀ {L : List Nd} {vs : List (Value × Value)} {i j : Nat} {x : Nd} {p : Value × Value}, L[i]? = some x → vs[i]? = some p → j < 6 → (rowCells L vs)[i * 6 + j]? = (ndCells x p.1 p.2)[j]?
  | [], _, _, _, _, _, h, _, _ => by simp at h
  | _ :: _, [], _, _, _, _, _, h, _ => by simp at h
  | y :: L, q :: vs, 0, j, x, p, h, k, hj => by
    simp at h k
    subst h k
    rw [rowCells, Nat.zero_mul, Nat.zero_add, List.getElem?_append_left (by rw [ndCells_length]; exact hj)]
  | y :: L, q :: vs, i + 1, j, x, p, h, k, hj => by
    rw [rowCells, List.getElem?_append_right (by rw [ndCells_length]; omega), ndCells_length, show (i + 1) * 6 + j - 6 = i * 6 + j by omega]
    exact rowCells_get (by simpa using h) (by simpa using k) hj

/-- A row of steps among P. -/
def NdsIn (P : Nat → Prop) (w : World) (v : Value) (L : List Nd) : Prop :=
  ∃ vs : List (Value × Value), vs.length = L.length ∧ w.ownsRow 0 52 6 v L.length (rowCells L vs) ∧ OwnIn P v ∧ ∀ (i : Nat) (x : Nd) (p : Value × Value), L[i]? = some x → vs[i]? = some p → NdIn P w x p.1 p.2
theorem NdsIn.kept {P : Nat → Prop} {w w' : World} {v : Value} {L : List Nd} (h : NdsIn P w v L) (hk : Kept P w w') : NdsIn P w' v L := by
  obtain ⟨vs, h1, h2, h3, h4⟩ := h
  exact ⟨vs, h1, ownsRow_kept h2 h3 hk, h3, fun i x p hx hp => (h4 i x p hx hp).kept hk⟩
theorem NdsIn.mono {P P' : Nat → Prop} {w : World} {v : Value} {L : List Nd} (h : NdsIn P w v L) (hp : ∀ k, P k → P' k) : NdsIn P' w v L := by
  obtain ⟨vs, h1, h2, h3, h4⟩ := h
  exact ⟨vs, h1, h2, fun g hg => hp g (h3 g hg), fun i x p hx hp' => (h4 i x p hx hp').mono hp⟩
theorem NdsIn.nil (P : Nat → Prop) (w : World) : NdsIn P w (.slice none 0 0) [] := ⟨[], rfl, World.ownsRow_nil w 0 _ 6, fun _ h => (by cases h), fun _ _ _ h => by simp at h⟩
theorem NdsIn.form {P : Nat → Prop} {w : World} {v : Value} {L : List Nd} (h : NdsIn P w v L) : ∃ A cap, v = .slice A L.length cap ∧ NdsAt 2048 w A L := by
  obtain ⟨vs, h1, h2, h3, h4⟩ := h
  rcases h2.2 with ⟨e, he⟩ | ⟨g, cap, cur, e, _, hg, hn, hm, hs, htk⟩
  · have : L = [] := List.eq_nil_of_length_eq_zero he
    subst this
    exact ⟨none, 0, e, fun i x hx => by simp at hx⟩
  · refine ⟨some ⟨g, 0, none⟩, cap, e, fun i x hx => ?_⟩
    have hi := (List.getElem?_eq_some_iff.1 hx).1
    obtain ⟨p, hp⟩ : ∃ p, vs[i]? = some p := ⟨_, List.getElem?_eq_getElem (by omega)⟩
    refine ⟨g, 0, p.1, p.2, rfl, fun j u hu => ?_, (h4 i x p hx hp).ok⟩
    have hj : j < 6 := by have := (List.getElem?_eq_some_iff.1 hu).1; rwa [ndCells_length] at this
    have h5 := rowCells_get hx hp hj
    rw [hu, ← htk, List.getElem?_take, if_pos (by omega)] at h5
    rw [cell_of_row w g (0 + i * 6 + j) cur _ (0, 0) hg, Nat.zero_add]
    simpa using h5

/-- What a maker has. -/
structure MkS where
  budget : Nat
  pars : Nat
  l : List Nd
/-- A step's key. -/
def keyN (x : Nd) : Ky := ⟨x.op, x.a, x.b, if x.op = 1 then fT x.c.s (lv x.c.m) (lv x.c.d) else []⟩
/-- What holds of it always. -/
def Good (S : MkS) : Prop := 1 ≤ S.budget ∧ S.budget ≤ 20000 ∧ S.pars ≤ 200 ∧ S.l.length ≤ S.budget ∧ stepsB (S.pars : Int) 0 S.l = true ∧ (S.l.map keyN).Nodup
/-- The row of a maker in memory. -/
def RowAt (P : Nat → Prop) (w : World) (pr : Nat) (S : MkS) : Prop :=
  ∃ mb vN, P pr ∧ P mb ∧ BlkOf w pr #[.int .i64 (S.budget : Int), .int .i64 (S.pars : Int), vN, .map (some mb)] 47 ∧ NdsIn P w vN S.l ∧ MapIn w mb (S.l.map keyN) ∧ (∀ k, P k → k < w.heap.size)
theorem RowAt.kept {P : Nat → Prop} {w w' : World} {pr : Nat} {S : MkS} (h : RowAt P w pr S) (hk : Kept P w w') (hs : w.heap.size ≤ w'.heap.size) : RowAt P w' pr S := by
  obtain ⟨mb, vN, h1, h2, h3, h4, h5, h6⟩ := h
  exact ⟨mb, vN, h1, h2, (hk pr h1).trans h3, h4.kept hk, h5.of_block (hk mb h2), fun k h => Nat.lt_of_lt_of_le (h6 k h) hs⟩
theorem RowAt.grow {P : Nat → Prop} {w w' : World} {pr : Nat} {S : MkS} (h : RowAt P w pr S) (hg : Grow w w') : RowAt P w' pr S := by
  have h6 := h
  obtain ⟨_, _, _, _, _, _, _, h7⟩ := h6
  exact h.kept (fun k hk => hg.block k (h7 k hk)) (Below.size hg)
end Go.Proofs.YtcbebikcfcidmaaDoor

namespace Go.Proofs.YtcbebikcfcidmaaDoor
open Go.RowKit Go.Maps

/-- Memory behind a call that writes a maker's row: what is not among P is as it was; of P only the row and the steps' cells have turned. -/
structure Sparing (P : Nat → Prop) (w w' : World) : Prop where
  os : w'.os = w.os
  tape : w'.tape = w.tape
  output : w'.output = w.output
  size : w.heap.size ≤ w'.heap.size
  other : ∀ k, k < w.heap.size → ¬ P k → w'.heap[k]? = w.heap[k]?
  kinds : ∀ b cs t, BlkOf w b cs t → t ≠ 47 → t ≠ 52 → BlkOf w' b cs t
theorem Sparing.of_grow {P : Nat → Prop} {w w' : World} (h : Grow w w') : Sparing P w w' := ⟨h.os, h.tape, h.output, Below.size h, fun k hk _ => h.block k hk, fun _ _ _ hb _ _ => hb.below h hb.lt⟩
theorem Sparing.trans {P P' : Nat → Prop} {a b c : World} (h : Sparing P a b) (k : Sparing P' b c) (hp : ∀ i, P' i → P i ∨ a.heap.size ≤ i) : Sparing P a c :=
  ⟨k.os.trans h.os, k.tape.trans h.tape, k.output.trans h.output, Nat.le_trans h.size k.size, fun i hi hn => (k.other i (by have := h.size; omega) (fun hp' => by rcases hp i hp' with h1 | h1; exact hn h1; omega)).trans (h.other i hi hn),
    fun b cs t hb h1 h2 => k.kinds b cs t (h.kinds b cs t hb h1 h2) h1 h2⟩
theorem Sparing.below {P : Nat → Prop} {B : Nat} {w w' : World} (h : Sparing P w w') (hp : ∀ k, P k → B ≤ k) (hB : B ≤ w.heap.size) : Below B w w' :=
  ⟨h.os, h.tape, h.output, h.size, fun k hk => h.other k (by omega) (fun hk' => by have := hp k hk'; omega)⟩

/-- What is told of a step, and what a maker has behind it. -/
def putS (S : MkS) (x : Nd) : Int × Int × MkS :=
  match kyAt (S.l.map keyN) (keyN x) with
  | some i => ((i : Int), 0, S)
  | none => if S.l.length = S.budget then (0, 171, S) else ((S.l.length : Int), 0, { S with l := S.l ++ [x] })
/-- Behind a call on a maker's row. -/
def RowPost (P : Nat → Prop) (pr : Nat) (w : World) (r : Int × Int × MkS) (e : Ending) (w' : World) : Prop :=
  e = .returned (.tuple #[.int .i64 r.1, .int .i64 r.2.1]) ∧ Sparing P w w' ∧ ∃ P', (∀ k, P k → P' k) ∧ (∀ k, P' k → P k ∨ w.heap.size ≤ k) ∧ RowAt P' w' pr r.2.2

theorem info_node : (Tryd.prog.info? 52).map (fun i => (i.zero, i.size, i.bytes)) = some (some (.agg #[.int .u8 0, .int .i64 0, .int .i64 0, .bool false, .slice none 0 0, .slice none 0 0]), 6, 80) := by kernel_rfl

set_option maxRecDepth 100000 in
set_option maxHeartbeats 4000000 in
theorem index_any {P : Nat → Prop} {w : World} {pr : Nat} {S : MkS} {x : Nd} {vn vd : Value} {key : List UInt8} (h : RowAt P w pr S) (hg : Good S) (hx : NdIn P w x vn vd) (hk : KyOK (keyN x)) (hkey : (keyN x).t = key) :
    Calls Tryd.prog 13 #[.pointer (some ⟨pr, 0, none⟩), ndV x vn vd, .string (mk key)] w (RowPost P pr w (putS S x)) := by
  obtain ⟨W1, hW1⟩ : ∃ W1, W1 = (w.alloc (.cells #[.int .u8 (x.op : Int), .int .i64 x.a, .int .i64 x.b, .bool x.c.s, vn, vd] 52)).alloc (.cells #[.int .u8 (x.op : Int), .int .i64 x.a, .int .i64 x.b, .string (mk key)] 65) := ⟨_, rfl⟩
  have b0 : BlkOf W1 w.heap.size #[.int .u8 (x.op : Int), .int .i64 x.a, .int .i64 x.b, .bool x.c.s, vn, vd] 52 := by rw [hW1]; exact (BlkOf.new w _ _).alloc _
  have b1 : BlkOf W1 (w.heap.size + 1) #[.int .u8 (x.op : Int), .int .i64 x.a, .int .i64 x.b, .string (mk key)] 65 := by rw [hW1]; exact BlkOf.news (by simp) _ _
  have hbw : Grow w W1 := by rw [hW1]; exact ((Below.refl _ w).alloc (Nat.le_refl _) _).alloc (by simp) _
  have hsz : W1.heap.size = w.heap.size + 2 := by rw [hW1]; simp
  have h' := h
  obtain ⟨mb, vN, hPr, hPm, hblk0, hnds0, hmap0, hP0⟩ := h'
  have hblk := hblk0.below hbw hblk0.lt
  have hnds := hnds0.kept (fun k hk => hbw.block k (hP0 k hk))
  have hmap := hmap0.of_block (hbw.block mb hmap0.lt)
  have HW0 := Lib.hid (And.intro hblk0 (And.intro hnds0 (And.intro hmap0 hP0)))
  have hkv : kyV (keyN x) = .agg #[.int .u8 (x.op : Int), .int .i64 x.a, .int .i64 x.b, .string (mk key)] := by unfold kyV; rw [hkey]; rfl
  have hlook := fun n => (hmap.of_block (w' := W1.drewN n) rfl).look hg.2.2.2.2.2 hk
  rw [hkv] at hlook
  have hx' := hx
  obtain ⟨hop, hxa, hxb, hrn, hrd, _, _⟩ := hx
  obtain ⟨an, cn, rfl, _, _, _, _⟩ := hrn.raw
  obtain ⟨ad, cd, rfl, _, _, _, _⟩ := hrd.raw
  obtain ⟨AN, cN, rfl, hndsat⟩ := hnds.form
  have c0 := hblk.at 0 rfl
  have c2 := hblk.at 2 rfl
  have c3 := hblk.at 3 rfl
  have k0 := b1.at 0 rfl
  have k1 := b1.at 1 rfl
  have k2 := b1.at 2 rfl
  have k3 := b1.at 3 rfl
  have HG := Lib.hid hg
  have HH := Lib.hid h
  have HX := Lib.hid hx'
  have HB0 := Lib.hid b0
  have HB1 := Lib.hid b1
  have HBW := Lib.hid hbw
  have HSZ := Lib.hid hsz
  have HBLK := Lib.hid hblk
  have HNDS := Lib.hid hnds
  have HMAP := Lib.hid hmap
  have HP := Lib.hid (And.intro hPr hPm)
  obtain ⟨N, hN⟩ : ∃ N, N = S.l.length := ⟨_, rfl⟩
  have HN := Lib.hid hN
  rw [← hN] at c2
  have hNI : (N : Int) ≤ 20000 := by have := hg.2.2.2.1; have := hg.2.1; omega
  have hBI : (S.budget : Int) ≤ 20000 := by have := hg.2.1; omega
  obtain ⟨bud, hbud⟩ : ∃ bud, bud = S.budget := ⟨_, rfl⟩
  rw [← hbud] at c0 hBI
  have HBUD := Lib.hid hbud
  obtain ⟨r, hr⟩ : ∃ r, r = putS S x := ⟨_, rfl⟩
  rw [← hr]
  have HR := Lib.hid hr
  unfold putS at hr
  unfold ndV
  subst hW1
  cases hky : kyAt (S.l.map keyN) (keyN x) with
  | some i =>
    rw [hky] at hlook hr
    have HRE := Lib.hid hr
    clear hr hrn hrd hndsat hblk hnds hmap b0 b1 hbw hsz h hg hx' hN hbud hPr hPm hblk0 hnds0 hmap0 hP0 hky hk
    go_enter Tryd.func13, Tryd.ntmps13
    go_wp2_with fail
    go_quiet (fail)
    go_wp2_with fail
    go_ret2
    rw [HRE.out]
    exact ⟨rfl, Sparing.of_grow (Grow.trans HBW.out (Grow.drewN _ _)), P, fun _ h => h, fun _ h => .inl h, HH.out.grow (Grow.trans HBW.out (Grow.drewN _ _))⟩
  | none =>
    rw [hky] at hlook hr
    dsimp only at hr hlook
    by_cases hfull : N = bud
    · have HRE : Hid (r = (0, 171, S)) := Lib.hid (by rw [hr, if_pos (by rw [← hN, ← hbud]; exact hfull)])
      have hfi : (N : Int) = (bud : Int) := by rw [hfull]
      clear hr hrn hrd hndsat hblk hnds hmap b0 b1 hbw hsz h hg hx' hN hbud hPr hPm hblk0 hnds0 hmap0 hP0 hky hk
      go_enter Tryd.func13, Tryd.ntmps13
      go_wp2_with fail
      go_quiet (fail)
      go_wp2_with fail
      go_ret2
      rw [HRE.out]
      exact ⟨rfl, Sparing.of_grow (Grow.trans HBW.out (Grow.drewN _ _)), P, fun _ h => h, fun _ h => .inl h, HH.out.grow (Grow.trans HBW.out (Grow.drewN _ _))⟩
    · have HRE : Hid (r = ((N : Int), 0, { S with l := S.l ++ [x] })) := Lib.hid (by rw [hr, if_neg (by rw [← hN, ← hbud]; exact hfull), hN])
      have hfi : ¬ ((N : Int) = (bud : Int)) := by omega
      have HKY := Lib.hid hky
      have HK := Lib.hid hk
      clear hr hrn hrd hndsat hblk hnds hmap b0 b1 hbw hsz h hg hx' hN hbud hPr hPm hblk0 hnds0 hmap0 hP0 hky hk
      go_enter Tryd.func13, Tryd.ntmps13
      go_wp2_with fail
      go_quiet (fail)
      go_wp2_with fail
      rename_i K0 hK0
      clear c0 c2 c3 k0 k1 k2 k3 hlook
      have KC : Hid (∀ W, Grow (((w.alloc (.cells #[.int .u8 (x.op : Int), .int .i64 x.a, .int .i64 x.b, .bool x.c.s, .slice an x.c.m.length cn, .slice ad x.c.d.length cd] 52)).alloc (.cells #[.int .u8 (x.op : Int), .int .i64 x.a, .int .i64 x.b, .string (mk key)] 65)).drewN nq) W →
          Grow ((w.alloc (.cells #[.int .u8 (x.op : Int), .int .i64 x.a, .int .i64 x.b, .bool x.c.s, .slice an x.c.m.length cn, .slice ad x.c.d.length cd] 52)).alloc (.cells #[.int .u8 (x.op : Int), .int .i64 x.a, .int .i64 x.b, .string (mk key)] 65)) W) := Lib.hid fun W hW => Grow.trans (Grow.drewN _ _) hW
      refine wp_region_list [fun v _ => v = .pointer (some ⟨pr, 0, none⟩), fun v _ => v = .pointer (some ⟨pr, 0, none⟩), fun v _ => v = .pointer (some ⟨pr, 3, none⟩), fun v _ => v = .map (some mb), fun v _ => v = .agg #[.int .u8 (x.op : Int), .int .i64 x.a, .int .i64 x.b, .string (mk key)], fun v _ => v = .int .i64 (N : Int)]
        [(0, .pointer (some ⟨pr, 0, none⟩)), (8, .pointer (some ⟨w.heap.size + 1, 0, none⟩)), (11, .int .i64 (N : Int))] 6 (by kernel_rfl) ⟨stays_pure _, stays_pure _, stays_pure _, stays_pure _, stays_pure _, stays_pure _, trivial⟩ rfl (by kernel_rfl) rfl ?base (by kernel_rfl) ⟨?_, ?_, ?_, ?_, ?_, ?_, trivial⟩ ?last
      case base => simp
      case last =>
        intro vs W hW hv
        simp only [FactsL, Nat.zero_add, Nat.reduceAdd] at hv
        obtain ⟨v0, v1, v2, v3, v4, v5, _⟩ := hv
        have hgW := KC.out W hW
        have hmapW := HMAP.out.of_block (hgW.block mb HMAP.out.lt)
        obtain ⟨w3, hput, hmap3, hgb3, hsz3⟩ := hmapW.put HK.out (by
          intro hm
          have h1 := HKY.out
          unfold kyAt at h1
          rw [List.findIdx?_eq_none_iff] at h1
          have := h1 _ hm
          simp at this)
        rw [hkv, List.length_map, ← HN.out] at hput
        refine ⟨rfl, ?_⟩
        simp only [List.take_succ_cons, List.take_zero, putF, Act.put, List.setIfInBounds_toArray, List.set_cons_zero, List.set_cons_succ, Nat.reduceAdd, v0, v1, v2, v3, v4, v5]
        unfold Oper.wp
        simp [execOp, go_sem, hput]
        refine hK0 _ _ ?_
        -- the world behind the map's new entry
        have hkeep3 : ∀ k, k < W.heap.size → k ≠ mb → w3.heap[k]? = W.heap[k]? := fun k hk hne => hgb3.block k hk (fun e => hne (by injection e))
        have hmbcells : ∀ {b : Nat} {cs : Array Value} {t : TypeId}, BlkOf W b cs t → b ≠ mb := fun hb e => by
          obtain ⟨es, clock, hm, _⟩ := hmapW
          unfold BlkOf at hb
          rw [e, hm] at hb
          cases hb
        have z0 : BlkOf w3 w.heap.size _ _ := (hkeep3 _ (HB0.out.below hgW HB0.out.lt).lt (hmbcells (HB0.out.below hgW HB0.out.lt))).trans (HB0.out.below hgW HB0.out.lt)
        have p0 : BlkOf w3 pr _ _ := (hkeep3 _ (HBLK.out.below hgW HBLK.out.lt).lt (hmbcells (HBLK.out.below hgW HBLK.out.lt))).trans (HBLK.out.below hgW HBLK.out.lt)
        have Z0 := Lib.hid z0
        have P0 := Lib.hid p0
        have e0 := z0.at 0 rfl
        have e1 := z0.at 1 rfl
        have e2 := z0.at 2 rfl
        have e3 := z0.at 3 rfl
        have e4 := z0.at 4 rfl
        have e5 := z0.at 5 rfl
        have e6 := p0.at 2 rfl
        rw [← HN.out] at e6
        have HK3 := Lib.hid hkeep3
        have HM3 := Lib.hid hmap3
        have HS3 := Lib.hid hsz3
        have HGB3 := Lib.hid hgb3
        have HGW := Lib.hid hgW
        clear hkeep3 hmbcells z0 p0 hmap3 hsz3 hgb3 hgW hmapW hput v0 v1 v2 v3 v4 v5 hW
        go_wp2_with fail
        rename_i K1 hK1
        refine wp_region_walkT (fun w' => w'.cell? ⟨pr, 2, none⟩ = some (.slice AN N cN) ∧ w'.cell? ⟨w.heap.size, 0, none⟩ = some (.int .u8 (x.op : Int)) ∧ w'.cell? ⟨w.heap.size, 1, none⟩ = some (.int .i64 x.a) ∧ w'.cell? ⟨w.heap.size, 2, none⟩ = some (.int .i64 x.b) ∧ w'.cell? ⟨w.heap.size, 3, none⟩ = some (.bool x.c.s) ∧ w'.cell? ⟨w.heap.size, 4, none⟩ = some (.slice an x.c.m.length cn) ∧ w'.cell? ⟨w.heap.size, 5, none⟩ = some (.slice ad x.c.d.length cd))
          [.yes 0, .yes 1, .yes 2, .yes 3, .yes 4, .yes 5, .no 6, .no 7, .yes 8, .yes 9, .no 10] 10 (by kernel_rfl) (by kernel_rfl) rfl (by kernel_rfl) (by kernel_rfl) (fun _ _ d _ _ h => by cases d <;> exact h) ?_
        have hS : w3.drew.cell? ⟨pr, 2, none⟩ = some (.slice AN N cN) ∧ w3.drew.cell? ⟨w.heap.size, 0, none⟩ = some (.int .u8 (x.op : Int)) ∧ w3.drew.cell? ⟨w.heap.size, 1, none⟩ = some (.int .i64 x.a) ∧ w3.drew.cell? ⟨w.heap.size, 2, none⟩ = some (.int .i64 x.b) ∧ w3.drew.cell? ⟨w.heap.size, 3, none⟩ = some (.bool x.c.s) ∧ w3.drew.cell? ⟨w.heap.size, 4, none⟩ = some (.slice an x.c.m.length cn) ∧ w3.drew.cell? ⟨w.heap.size, 5, none⟩ = some (.slice ad x.c.d.length cd) := ⟨e6, e0, e1, e2, e3, e4, e5⟩
        repeat (refine walkT_yes rfl hS rfl (fun w' hw' => by obtain ⟨r0, r1, r2, r3, r4, r5, r6⟩ := hw'; go_simp; rfl) ?_; simp only [Act.put, List.setIfInBounds_toArray, List.set_cons_zero, List.set_cons_succ])
        refine walkT_no rfl rfl (fun K hK => ?_)
        go_simp
        obtain ⟨w4, hw4⟩ : ∃ w4, w4 = (w3.alloc (.cells #[.int .u8 (x.op : Int), .int .i64 x.a, .int .i64 x.b, .bool x.c.s, .slice an x.c.m.length cn, .slice ad x.c.d.length cd] 52)).drew := ⟨_, rfl⟩
        have hg34 : Grow w3 w4 := by rw [hw4]; exact Grow.trans (Grow.alloc w3 _) (Grow.drew _)
        have hbn4 : BlkOf w4 w3.heap.size #[.int .u8 (x.op : Int), .int .i64 x.a, .int .i64 x.b, .bool x.c.s, .slice an x.c.m.length cn, .slice ad x.c.d.length cd] 52 := by rw [hw4]; exact (BlkOf.new w3 _ _).drew
        have z4 := Z0.out.below hg34 Z0.out.lt
        have p4 := P0.out.below hg34 P0.out.lt
        rw [← HN.out] at p4
        rw [← hw4]
        refine hK _ w4 (fun _ => ⟨p4.at 2 rfl, z4.at 0 rfl, z4.at 1 rfl, z4.at 2 rfl, z4.at 3 rfl, z4.at 4 rfl, z4.at 5 rfl⟩) ?_
        clear hK K hS hw4 e0 e1 e2 e3 e4 e5 e6
        -- the append
        obtain ⟨hblk0, hnds0, hmap0, hP0⟩ := HW0.out
        obtain ⟨vs, hvs, hown0, hoin, hndin⟩ := hnds0
        have hownW := ownsRow_kept hown0 hoin (w' := W) (fun k hk => (HGW.out.block k (by have := hP0 k hk; have := HSZ.out; omega)).trans (HBW.out.block k (hP0 k hk)))
        have hown3 : w3.ownsRow 0 52 6 (.slice AN S.l.length cN) S.l.length (rowCells S.l vs) := by
          refine ownsRow_kept (P := fun k => k < W.heap.size ∧ k ≠ mb) hownW (fun g hg => ?_) (fun k hk => HK3.out k hk.1 hk.2)
          obtain ⟨_, hlt, cur, hc⟩ := ownsRow_own hownW hg
          refine ⟨hlt, fun e => ?_⟩
          obtain ⟨es, clock, hm, _⟩ := hmap0
          have h1 := (HGW.out.block mb (by have := hP0 mb HP.out.2; have := HSZ.out; omega)).trans ((HBW.out.block mb (hP0 mb HP.out.2)).trans hm)
          unfold BlkOf at hc
          rw [e, h1] at hc
          cases hc
        have hown4 := ownsRow_kept (P := fun k => k < w3.heap.size) hown3 (fun g hg => (ownsRow_own hown3 hg).2.1) (fun k hk => hg34.block k hk)
        obtain ⟨i0, hi0⟩ : ∃ i0, Tryd.prog.info? 52 = some i0 := by
          cases hq : Tryd.prog.info? 52 with
          | none => have := info_node; rw [hq] at this; cases this
          | some i => exact ⟨i, rfl⟩
        have hi1 : i0.zero = some (.agg #[.int .u8 0, .int .i64 0, .int .i64 0, .bool false, .slice none 0 0, .slice none 0 0]) ∧ i0.size = 6 ∧ i0.bytes = 80 := by
          have := info_node
          rw [hi0] at this
          simpa using this
        obtain ⟨v', w5, hrun, hown5, hgb5, _, hblk5⟩ := run_append_own_at (P := Tryd.prog) w4 0 45 45 52 i0 _ 6 80 Tryd.underlying45 hi0 hi1.1 hi1.2.1 hi1.2.2 rfl (by omega)
          (.slice AN S.l.length cN) S.l.length (rowCells S.l vs) hown4 ⟨w3.heap.size, 0, none⟩ 1 1 (ndCells x (.slice an x.c.m.length cn) (.slice ad x.c.d.length cd)) rfl
          (fun j u hu => by
            have hj : j < 6 := by have := (List.getElem?_eq_some_iff.1 hu).1; rwa [ndCells_length] at this
            rw [Addr.add_mid, Nat.zero_add, hbn4.cell j]
            have : (ndCells x (.slice an x.c.m.length cn) (.slice ad x.c.d.length cd))[j]? = (#[.int .u8 (x.op : Int), .int .i64 x.a, .int .i64 x.b, .bool x.c.s, .slice an x.c.m.length cn, .slice ad x.c.d.length cd] : Array Value)[j]? := by simp [ndCells]
            rw [← this]; exact hu)
          (fun u hu => by
            simp only [ndCells, List.mem_cons, List.not_mem_nil, or_false] at hu
            rcases hu with rfl | rfl | rfl | rfl | rfl | rfl <;> rfl)
          (by unfold maxLen; have := HN.out; omega) (by have := HN.out; omega) (Nat.zero_le _)
        rw [← HN.out] at hrun
        rw [← HN.out] at hgb5
        rw [← HN.out] at hblk5
        -- which blocks may have turned
        have hownlt : ∀ g, (Value.slice AN N cN).ownBlock = some g → P g ∧ g < w.heap.size ∧ ∃ cur, BlkOf w g cur 52 := fun g hg => by
          rw [HN.out] at hg
          obtain ⟨_, h2, h3⟩ := ownsRow_own hown0 hg
          exact ⟨hoin g hg, h2, h3⟩
        have hpr0 := hP0 pr HP.out.1
        have hne_pr : ∀ g, (Value.slice AN N cN).ownBlock = some g → pr ≠ g := fun g hg e => by
          obtain ⟨_, _, cur, hc⟩ := hownlt g hg
          unfold BlkOf at hc hblk0
          rw [← e, hblk0] at hc
          injection hc with hc
          injection hc with _ hT
          exact absurd hT (by decide)
        have hz5 : BlkOf w5 w.heap.size _ _ := (hgb5.block w.heap.size z4.lt (fun e => by have := (hownlt w.heap.size e.symm).2.1; omega)).trans z4
        have hp5 : BlkOf w5 pr _ _ := (hgb5.block pr p4.lt (fun e => hne_pr pr e.symm rfl)).trans p4
        refine walkT_no rfl rfl (fun K hK => ?_)
        refine oper_append (t := 45) (.tmp 52) (.tmp 54) rfl _ _ rfl rfl hrun ?_
        have hS5 := And.intro (hp5.at 2 rfl) (And.intro (hz5.at 0 rfl) (And.intro (hz5.at 1 rfl) (And.intro (hz5.at 2 rfl) (And.intro (hz5.at 3 rfl) (And.intro (hz5.at 4 rfl) (hz5.at 5 rfl))))))
        refine hK _ w5 (fun _ => hS5) ?_
        clear hK K
        simp only [Act.put, List.setIfInBounds_toArray, List.set_cons_zero, List.set_cons_succ]
        repeat (refine walkT_yes rfl hS5 rfl (fun w' hw' => by obtain ⟨r0, r1, r2, r3, r4, r5, r6⟩ := hw'; go_simp; rfl) ?_; simp only [Act.put, List.setIfInBounds_toArray, List.set_cons_zero, List.set_cons_succ])
        -- the store
        have d2 := hp5.at 2 rfl
        have f2 := hp5.free 2
        have hform : ∃ A' c', v' = .slice A' (N + 1) c' := by
          rcases hown5.2 with ⟨e, he⟩ | ⟨g, cap, cur, e, _⟩
          · omega
          · exact ⟨_, _, by rw [e, HN.out]⟩
        obtain ⟨A', c', hv'⟩ := hform
        refine walkT_no rfl rfl (fun K hK => ?_)
        go_simp
        obtain ⟨w6, hw6⟩ : ∃ w6, w6 = w5.setCell ⟨pr, 2, none⟩ (.slice A' (N + 1) c') := ⟨_, rfl⟩
        rw [← hw6]
        refine hK _ w6 (fun h => absurd h (by decide)) ?_
        clear hK K hS5 d2 f2
        simp only [walkT]
        rw [hv'] at hown5 hblk5
        have HV := Lib.hid (And.intro hv' hw6)
        -- what has been written
        have hsp : Sparing P w w6 := by
          have hs5 : w.heap.size ≤ w5.heap.size := by have h1 := HBW.out.size; have h2 := HGW.out.size; have h3 := HS3.out; have h4 := hg34.size; have h5 := hgb5.size; omega
          have hstep : ∀ k, k < w.heap.size → k ≠ mb → k ≠ pr → (Value.slice AN N cN).ownBlock ≠ some k → w6.heap[k]? = w.heap[k]? := fun k hk h1 h2 h3 => by
            have a1 := HBW.out.block k hk
            have a2 := HGW.out.block k (by have := HBW.out.size; omega)
            have a3 := HK3.out k (by have := HBW.out.size; have := HGW.out.size; omega) h1
            have a4 := hg34.block k (by have := HBW.out.size; have := HGW.out.size; have := HS3.out; omega)
            have a5 := hgb5.block k (by have := HBW.out.size; have := HGW.out.size; have := HS3.out; have := hg34.size; omega) (fun e => h3 e.symm)
            have a6 : w6.heap[k]? = w5.heap[k]? := by rw [hw6]; exact Below.heap_setCell _ _ _ _ h2
            rw [a6, a5, a4, a3, a2, a1]
          refine ⟨?_, ?_, ?_, ?_, ?_, ?_⟩
          · rw [hw6]; show w5.os = w.os
            rw [hgb5.os, hg34.os, HGB3.out.os, HGW.out.os, HBW.out.os]
          · rw [hw6]; show w5.tape = w.tape
            rw [hgb5.tape, hg34.tape, HGB3.out.tape, HGW.out.tape, HBW.out.tape]
          · rw [hw6]; show w5.output = w.output
            rw [hgb5.output, hg34.output, HGB3.out.output, HGW.out.output, HBW.out.output]
          · rw [hw6, size_set]; exact hs5
          · intro k hk hn
            exact hstep k hk (fun e => hn (by rw [e]; exact HP.out.2)) (fun e => hn (by rw [e]; exact HP.out.1)) (fun e => hn (hownlt k e).1)
          · intro b cs t hb h1 h2
            refine (hstep b hb.lt (fun e => ?_) (fun e => ?_) (fun e => ?_)).trans hb
            · obtain ⟨es, clock, hm, _⟩ := hmap0
              unfold BlkOf at hb
              rw [e, hm] at hb
              cases hb
            · unfold BlkOf at hb hblk0
              rw [e, hblk0] at hb
              injection hb with hb
              injection hb with _ hT
              exact h1 hT.symm
            · obtain ⟨_, _, cur, hc⟩ := hownlt b e
              unfold BlkOf at hb hc
              rw [hc] at hb
              injection hb with hb
              injection hb with _ hT
              exact h2 hT.symm
        have hsz6 : w6.heap.size = w5.heap.size := by rw [hw6, size_set]
        have hraw : ∀ {v : Value} {l : List Nat}, RawIn P w v l → RawIn (fun k => P k ∨ (w.heap.size ≤ k ∧ k < w6.heap.size)) w6 v l := fun {v l} hr => by
          refine ⟨?_, hr.2.1, fun g hg => .inl (hr.2.2 g hg)⟩
          refine ownsRow_kept (P := fun g => v.ownBlock = some g) hr.1 (fun g hg => hg) (fun g hg => ?_)
          obtain ⟨_, _, cur, hc⟩ := ownsRow_own hr.1 hg
          exact (hsp.kinds g cur 58 hc (by decide) (by decide)).trans hc.symm
        have hrow6 : RowAt (fun k => P k ∨ (w.heap.size ≤ k ∧ k < w6.heap.size)) w6 pr { S with l := S.l ++ [x] } := by
          refine ⟨mb, .slice A' (N + 1) c', .inl HP.out.1, .inl HP.out.2, ?_, ?_, ?_, ?_⟩
          · have h1 := hp5.set 2 (.slice A' (N + 1) c')
            rw [← hw6] at h1
            exact h1
          · refine ⟨vs ++ [(.slice an x.c.m.length cn, .slice ad x.c.d.length cd)], by simp [hvs], ?_, ?_, ?_⟩
            · rw [rowCells_snoc _ _ hvs]
              show w6.ownsRow 0 _ 6 _ (S.l ++ [x]).length _
              rw [List.length_append, List.length_singleton]
              refine ownsRow_kept (P := fun g => g ≠ pr) hown5 (fun g hg => ?_) (fun g hg => by rw [hw6]; exact Below.heap_setCell _ _ _ _ hg)
              rcases hblk5 with h1 | h1
              · rw [h1] at hg; exact fun e => hne_pr g hg e.symm
              · rw [h1] at hg
                injection hg with hg
                have := p4.lt
                omega
            · intro g hg
              rcases hblk5 with h1 | h1
              · rw [h1] at hg; exact .inl (hownlt g hg).1
              · rw [h1] at hg
                injection hg with hg
                obtain ⟨_, h9, _⟩ := ownsRow_own hown5 (by rw [h1, hg])
                exact .inr ⟨by have h1 := HBW.out.size; have h2 := HGW.out.size; have h3 := HS3.out; have h4 := hg34.size; omega, by rw [hsz6]; exact h9⟩
            · intro i y p hy hp
              rcases Nat.lt_or_ge i S.l.length with hi | hi
              · rw [List.getElem?_append_left hi] at hy
                rw [List.getElem?_append_left (by omega)] at hp
                obtain ⟨g1, g2, g3, g4, g5, g6⟩ := hndin i y p hy hp
                exact ⟨g1, g2, g3, hraw g4, hraw g5, g6⟩
              · rw [List.getElem?_append_right hi] at hy
                rw [List.getElem?_append_right (by omega)] at hp
                have h1 : i - S.l.length = 0 := by have := (List.getElem?_eq_some_iff.1 hy).1; simp at this; omega
                rw [h1] at hy
                rw [hvs, h1] at hp
                simp at hy hp
                subst hy hp
                obtain ⟨g1, g2, g3, g4, g5, g6⟩ := HX.out
                exact ⟨g1, g2, g3, hraw g4, hraw g5, g6⟩
          · show MapIn w6 mb ((S.l ++ [x]).map keyN)
            rw [List.map_append, List.map_singleton]
            refine HM3.out.of_block ?_
            have hmlt := HM3.out.lt
            have hmpr : mb ≠ pr := fun e => by
              obtain ⟨es, clock, hm, _⟩ := hmap0
              unfold BlkOf at hblk0
              rw [← e, hm] at hblk0
              cases hblk0
            have a4 := hg34.block mb hmlt
            have a5 := hgb5.block mb (by have := hg34.size; omega) (fun e => by
              obtain ⟨_, _, cur, hc⟩ := hownlt mb e.symm
              obtain ⟨es, clock, hm, _⟩ := hmap0
              unfold BlkOf at hc
              rw [hm] at hc
              cases hc)
            have a6 : w6.heap[mb]? = w5.heap[mb]? := by rw [hw6]; exact Below.heap_setCell _ _ _ _ hmpr
            rw [a6, a5, a4]
          · rintro k (hk | ⟨_, hk⟩)
            · have := hP0 k hk
              have := hsp.size
              omega
            · exact hk
        have HSP := Lib.hid hsp
        have HROW := Lib.hid hrow6
        clear hsp hrow6 hraw hsz6 hw6 hv' hblk5 hown5 hrun hgb5 hz5 hp5 z4 p4 hbn4 hg34 hown4 hown3 hownW hown0 hoin hndin hne_pr hownlt
        refine hK1 _ _ ?_
        go_wp2_with fail
        go_ret2
        rw [HRE.out]
        exact ⟨rfl, HSP.out, _, fun k h => .inl h, fun k h => h.elim .inl (fun h => .inr h.1), HROW.out⟩
      all_goals
        intro a' W hW hb hf
        have hgW := KC.out W hW
        have q1 := HB1.out.below hgW HB1.out.lt
        have q2 := HBLK.out.below hgW HBLK.out.lt
        have e0 := q1.at 0 rfl
        have e1 := q1.at 1 rfl
        have e2 := q1.at 2 rfl
        have e3 := q1.at 3 rfl
        have e4 := q2.at 3 rfl
        clear q1 q2 hgW
        simp only [List.forall_mem_cons, List.not_mem_nil, false_imp_iff, implies_true, and_true] at hb
        obtain ⟨m0, m8, m11⟩ := hb
        simp [FactsOf, FactAt, Region.binds, factsL] at hf
        refine ⟨rfl, fun K hK => ?_⟩
        unfold Oper.wp
        simp [execOp, go_sem, m0, m8, m11, hf, e0, e1, e2, e3, e4]
        exact hK _ _ (Grow.refl _) rfl
end Go.Proofs.YtcbebikcfcidmaaDoor

namespace Go.Proofs.YtcbebikcfcidmaaDoor
open Go.RowKit Go.Maps

/-- A maker in memory. -/
def MkAt (P : Nat → Prop) (w : World) (m : Value) (S : MkS) : Prop :=
  ∃ pm pr, m = .pointer (some ⟨pm, 0, none⟩) ∧ P pm ∧ BlkOf w pm #[.pointer (some ⟨pr, 0, none⟩)] 49 ∧ RowAt P w pr S ∧ Good S
theorem MkAt.kept {P : Nat → Prop} {w w' : World} {m : Value} {S : MkS} (h : MkAt P w m S) (hk : Kept P w w') (hs : w.heap.size ≤ w'.heap.size) : MkAt P w' m S := by
  obtain ⟨pm, pr, h1, h2, h3, h4, h5⟩ := h
  exact ⟨pm, pr, h1, h2, (hk pm h2).trans h3, h4.kept hk hs, h5⟩
theorem MkAt.lt {P : Nat → Prop} {w : World} {m : Value} {S : MkS} (h : MkAt P w m S) : ∀ k, P k → k < w.heap.size := by
  obtain ⟨_, _, _, _, _, ⟨_, _, _, _, _, _, _, h7⟩, _⟩ := h
  exact h7
theorem MkAt.grow {P : Nat → Prop} {w w' : World} {m : Value} {S : MkS} (h : MkAt P w m S) (hg : Grow w w') : MkAt P w' m S := h.kept (fun k hk => hg.block k (h.lt k hk)) (Below.size hg)
/-- Another maker, of other blocks. -/
theorem MkAt.spare {P Q : Nat → Prop} {w w' : World} {m : Value} {S : MkS} (h : MkAt P w m S) (hs : Sparing Q w w') (hd : ∀ k, P k → ¬ Q k) : MkAt P w' m S :=
  h.kept (fun k hk => hs.other k (h.lt k hk) (hd k hk)) hs.size
/-- Behind a call on a maker. -/
def MkPost (P : Nat → Prop) (m : Value) (w : World) (r : Int × Int × MkS) (e : Ending) (w' : World) : Prop :=
  e = .returned (.tuple #[.int .i64 r.1, .int .i64 r.2.1]) ∧ Sparing P w w' ∧ ∃ P', (∀ k, P k → P' k) ∧ (∀ k, P' k → P k ∨ w.heap.size ≤ k) ∧ MkAt P' w' m r.2.2

theorem stepsB_snoc {pars : Int} : ∀ {L : List Nd} {k : Nat} {x : Nd}, stepsB pars k (L ++ [x]) = (stepsB pars k L && stepB x ((k + L.length : Nat) : Int) pars)
  | [], k, x => by simp [stepsB]
  | y :: L, k, x => by
    rw [List.cons_append, stepsB, stepsB_snoc, stepsB, Bool.and_assoc, List.length_cons, show k + 1 + L.length = k + (L.length + 1) by omega]
theorem kyAt_none {L : List Ky} {k : Ky} (h : kyAt L k = none) : k ∉ L := by
  intro hm
  unfold kyAt at h
  rw [List.findIdx?_eq_none_iff] at h
  have := h _ hm
  simp at this
theorem putS_good {S : MkS} {x : Nd} (h : Good S) (hx : stepB x (S.l.length : Int) (S.pars : Int) = true) : Good (putS S x).2.2 := by
  unfold putS
  split
  · exact h
  · rename_i hk
    split
    · exact h
    · rename_i hf
      obtain ⟨h1, h2, h3, h4, h5, h6⟩ := h
      refine ⟨h1, h2, h3, ?_, ?_, ?_⟩
      · show (S.l ++ [x]).length ≤ S.budget
        rw [List.length_append, List.length_singleton]; omega
      · show stepsB _ 0 (S.l ++ [x]) = true
        rw [stepsB_snoc, h5, Nat.zero_add, hx]; rfl
      · show ((S.l ++ [x]).map keyN).Nodup
        rw [List.map_append, List.map_singleton]
        unfold List.Nodup at h6 ⊢
        rw [List.pairwise_append]
        refine ⟨h6, List.pairwise_singleton _ _, fun a ha b hb => ?_⟩
        rw [List.mem_singleton.1 hb]
        exact fun e => kyAt_none hk (by rw [← e]; exact ha)

theorem isnone_some {P : Nat → Prop} {w : World} {m : Value} {S : MkS} (h : MkAt P w m S) :
    Calls Tryd.prog 12 #[m] w (Same (.bool false) w) := by
  obtain ⟨pm, pr, rfl, _, hb, _⟩ := h
  have c0 := hb.at 0 rfl
  clear hb
  go_enter Tryd.func12, Tryd.ntmps12
  go_wp2_with fail
  go_ret
  exact ⟨rfl, rfl⟩
/-- Makers that are none. -/
def NoMk (w : World) (m : Value) : Prop := m = .pointer none ∨ ∃ pm, m = .pointer (some ⟨pm, 0, none⟩) ∧ w.cell? ⟨pm, 0, none⟩ = some (.pointer none)
theorem NoMk.grow {w w' : World} {m : Value} (h : NoMk w m) (hg : Grow w w') : NoMk w' m := by
  rcases h with h | ⟨pm, h1, h2⟩
  · exact .inl h
  · exact .inr ⟨pm, h1, (hg.cell (p := ⟨pm, 0, none⟩) (World.block_lt_of_cell? w _ h2)).trans h2⟩
theorem isnone_none {w : World} {m : Value} (h : NoMk w m) :
    Calls Tryd.prog 12 #[m] w (Same (.bool true) w) := by
  rcases h with rfl | ⟨pm, rfl, c0⟩
  · go_enter Tryd.func12, Tryd.ntmps12
    go_wp2_with fail
    go_ret
    exact ⟨rfl, rfl⟩
  · go_enter Tryd.func12, Tryd.ntmps12
    go_wp2_with fail
    go_ret
    exact ⟨rfl, rfl⟩

theorem len_some {P : Nat → Prop} {w : World} {m : Value} {S : MkS} (h : MkAt P w m S) :
    Calls Tryd.prog 10 #[m] w (Same (.int .i64 (S.l.length : Int)) w) := by
  have HN := Lib.hid (isnone_some h)
  obtain ⟨pm, pr, rfl, _, hb, ⟨mb, vN, _, _, hblk, hnds, _, _⟩, _⟩ := h
  obtain ⟨A, cap, rfl, _⟩ := hnds.form
  have c0 := hb.at 0 rfl
  have c2 := hblk.at 2 rfl
  clear hb hblk hnds
  go_enter Tryd.func10, Tryd.ntmps10
  go_wp2_with (first | (go_at_call 12; refine HN.out.mono ?_; rintro e w3 ⟨rfl, rfl⟩) | fail)
  go_ret
  exact ⟨rfl, rfl⟩
/-- What New tells. -/
def NewPost (n : Int) (w : World) (e : Ending) (w' : World) : Prop :=
  (1 ≤ n ∧ n ≤ 20000 ∧ ∃ m, e = .returned (.tuple #[m, .int .i64 0]) ∧ Below w.heap.size w w' ∧ MkAt (fun k => w.heap.size ≤ k ∧ k < w'.heap.size) w' m ⟨n.toNat, 0, []⟩) ∨
  (¬ (1 ≤ n ∧ n ≤ 20000) ∧ e = .returned (.tuple #[.pointer none, .int .i64 2]) ∧ w' = w)

set_option maxHeartbeats 1000000 in
theorem new_any (n : Int) (w : World) (hn : I64 n) : Calls Tryd.prog 4 #[.int .i64 n] w (NewPost n w) := by
  by_cases h1 : 1 ≤ n
  · have d1 : decide (n < 1) = false := by simp; omega
    have h1' : ¬ n < 1 := by omega
    by_cases h2 : n ≤ 20000
    · have d2 : decide (20000 < n) = false := by simp; omega
      have h2' : ¬ 20000 < n := by omega
      have hmk : ∀ W : World, (Instr.makeMap 44 none).run Tryd.prog W = .ok (.map (some W.heap.size)) (W.alloc (.map #[] 0)) := fun W => by
        simp [Instr.makeMap, go_sem]
      go_enter Tryd.func4, Tryd.ntmps4
      go_wp2_with fail
      go_ret2
      obtain ⟨k, rfl⟩ := Int.eq_ofNat_of_zero_le (show 0 ≤ n by omega)
      refine .inl ⟨h1, h2, _, rfl, ((((Below.refl _ w).alloc (Nat.le_refl _) _).alloc (by simp) _).alloc (by simp only [World.size_alloc]; omega) _), ?_⟩
      obtain ⟨W, hW⟩ : ∃ W, W = ((w.alloc (.map #[] 0)).alloc (.cells #[.int .i64 (k : Int), .int .i64 0, .slice none 0 0, .map (some w.heap.size)] 47)).alloc (.cells #[.pointer (some ⟨w.heap.size + 1, 0, none⟩)] 49) := ⟨_, rfl⟩
      have hs : W.heap.size = w.heap.size + 3 := by rw [hW]; simp
      have hm : MapIn W w.heap.size [] := by
        rw [hW]
        refine (MapIn.made w).of_block ?_
        rw [Below.heap_alloc _ _ _ (by simp only [World.size_alloc]; omega), Below.heap_alloc _ _ _ (by simp only [World.size_alloc]; omega)]
      have hr : BlkOf W (w.heap.size + 1) #[.int .i64 (k : Int), .int .i64 0, .slice none 0 0, .map (some w.heap.size)] 47 := by rw [hW]; exact (BlkOf.news (by simp) _ _).alloc _
      have hp : BlkOf W (w.heap.size + 2) #[.pointer (some ⟨w.heap.size + 1, 0, none⟩)] 49 := by rw [hW]; exact BlkOf.news (by simp) _ _
      rw [← hW]
      rw [show (k : Int).toNat = k by simp]
      refine ⟨w.heap.size + 2, w.heap.size + 1, rfl, ⟨by omega, by omega⟩, hp, ⟨w.heap.size, .slice none 0 0, ⟨by omega, by omega⟩, ⟨Nat.le_refl _, by omega⟩, hr, NdsIn.nil _ _, hm, fun k hk => hk.2⟩, ⟨by show 1 ≤ k; omega, by show k ≤ 20000; omega, by show 0 ≤ 200; omega, by simp, rfl, by simp⟩⟩
    · have d2 : decide (20000 < n) = true := by simp; omega
      have h2' : 20000 < n := by omega
      go_enter Tryd.func4, Tryd.ntmps4
      go_wp2_with fail
      go_ret2
      exact .inr ⟨by omega, rfl, rfl⟩
  · have d1 : decide (n < 1) = true := by simp; omega
    have h1' : n < 1 := by omega
    go_enter Tryd.func4, Tryd.ntmps4
    go_wp2_with fail
    go_ret2
    exact .inr ⟨by omega, rfl, rfl⟩

/-- What Num tells. -/
def numNd (x : Fr) : Nd := ⟨1, 0, 0, ⟨rdS x.s (lv x.m), nrow (rdN (lv x.m) (lv x.d)), nrow (rdD (lv x.m) (lv x.d))⟩⟩
def numS (S : MkS) (x : Fr) : Int × Int × MkS := if okF (lv x.m) (lv x.d) then putS S (numNd x) else (0, 2, S)

end Go.Proofs.YtcbebikcfcidmaaDoor

namespace Go.Proofs.YtcbebikcfcidmaaDoor
open Go.RowKit Go.Maps

/-- A normal number's normal form is itself. -/
theorem norm_again {s : Bool} {n d : Nat} (hok : okF n d = true) :
    okF (rdN n d) (rdD n d) = true ∧ rdS (rdS s n) (rdN n d) = rdS s n ∧ rdN (rdN n d) (rdD n d) = rdN n d ∧ rdD (rdN n d) (rdD n d) = rdD n d ∧ Short (rdN n d) ∧ Short (rdD n d) := by
  obtain ⟨h1, h2, h3⟩ := okF_iff.1 hok
  have hg : 0 < Nat.gcd n d := Nat.gcd_pos_of_pos_right n (by omega)
  have hcop : Nat.gcd (rdN n d) (rdD n d) = 1 := Nat.coprime_div_gcd_div_gcd hg
  have hd0 : rdD n d ≠ 0 := by
    unfold rdD
    exact fun e => by
      have := Nat.div_mul_cancel (Nat.gcd_dvd_right n d)
      rw [e, Nat.zero_mul] at this
      exact h3 this.symm
  have sN : Short (rdN n d) := short_le (Nat.div_le_self _ _) h1
  have sD : Short (rdD n d) := short_le (Nat.div_le_self _ _) h2
  refine ⟨okF_iff.2 ⟨sN, sD, hd0⟩, ?_, ?_, ?_, sN, sD⟩
  · unfold rdS
    by_cases hn : n = 0
    · simp [hn]
    · have : rdN n d ≠ 0 := by
        unfold rdN
        exact fun e => by
          have := Nat.div_mul_cancel (Nat.gcd_dvd_left n d)
          rw [e, Nat.zero_mul] at this
          exact hn this.symm
      simp [hn, this]
  · show rdN n d / Nat.gcd (rdN n d) (rdD n d) = rdN n d
    rw [hcop, Nat.div_one]
  · show rdD n d / Nat.gcd (rdN n d) (rdD n d) = rdD n d
    rw [hcop, Nat.div_one]
theorem i64_zero : I64 0 := ⟨by decide, by decide⟩
theorem numNd_step {x : Fr} (hok : okF (lv x.m) (lv x.d) = true) (k pars : Int) : stepB (numNd x) k pars = true := by
  obtain ⟨h1, h2, h3, h4, _, _⟩ := norm_again (s := x.s) hok
  have hn : normB (numNd x).c = true := by
    unfold normB numNd
    dsimp only
    rw [lv_nrow, lv_nrow, h1, h2, h3, h4]
    unfold sameB
    simp
  unfold stepB
  have f0 : fld (numNd x).op 0 = 0 := rfl
  have f1 : fld (numNd x).op 1 = 0 := rfl
  have f2 : fld (numNd x).op 2 = 1 := rfl
  rw [f0, f1, f2]
  unfold isB writtenB
  simp [hn]
  exact ⟨rfl, rfl⟩
theorem numNd_key {x : Fr} : (keyN (numNd x)).t = fT (rdS x.s (lv x.m)) (rdN (lv x.m) (lv x.d)) (rdD (lv x.m) (lv x.d)) := by
  unfold keyN numNd
  dsimp only
  rw [if_pos rfl, lv_nrow, lv_nrow]
theorem fT_len {s : Bool} {n d : Nat} (hn : Short n) (hd : Short d) : (fT s n d).length ≤ 1048576 := by
  have h1 := zT_len (s := s) hn
  have h2 := decT_short hd
  unfold fT
  split
  · omega
  · rw [List.length_append, List.length_cons]; omega
theorem RowAt.mono {P P' : Nat → Prop} {w : World} {pr : Nat} {S : MkS} (h : RowAt P w pr S) (hp : ∀ k, P k → P' k) (hl : ∀ k, P' k → k < w.heap.size) : RowAt P' w pr S := by
  obtain ⟨mb, vN, h1, h2, h3, h4, h5, _⟩ := h
  exact ⟨mb, vN, hp _ h1, hp _ h2, h3, h4.mono hp, h5, hl⟩

set_option maxRecDepth 100000 in
set_option maxHeartbeats 4000000 in
theorem num_some {P : Nat → Prop} {w : World} {m : Value} {S : MkS} {K : Nat} {x : Fr} {vn vd : Value} (h : MkAt P w m S) (hx : FrAt K w x vn vd) (hK : K ≤ 137438953472) :
    Calls Tryd.prog 7 #[m, .agg #[.bool x.s, vn, vd]] w (MkPost P m w (numS S x)) := by
  have H := Lib.hid h
  obtain ⟨pm, pr, rfl, hPm, hpm, hrow, hgood⟩ := h
  obtain ⟨W1, hW1⟩ : ∃ W1, W1 = w.alloc (.cells #[.bool x.s, vn, vd] 35) := ⟨_, rfl⟩
  have b0 : BlkOf W1 w.heap.size #[.bool x.s, vn, vd] 35 := by rw [hW1]; exact BlkOf.new w _ _
  have hbw : Grow w W1 := by rw [hW1]; exact Grow.alloc w _
  have HNO := Lib.hid (isnone_some (H.out.grow hbw))
  have HNM := Lib.hid (fnorm_any x.s (hx.grow hbw).num hK)
  have HB := Lib.hid b0
  have HBW := Lib.hid hbw
  have HPM := Lib.hid hpm
  have HROW := Lib.hid hrow
  have HGD := Lib.hid hgood
  obtain ⟨⟨a, ca, rfl, _, _, _, _⟩, ⟨b, cb, rfl, _, _, _, _⟩, _⟩ := hx
  obtain ⟨r, hr⟩ : ∃ r, r = numS S x := ⟨_, rfl⟩
  rw [← hr]
  unfold numS at hr
  have HR0 := Lib.hid hr
  subst hW1
  clear b0 hbw hpm hrow hgood hr
  go_enter Tryd.func7, Tryd.ntmps7
  go_wp2_with (first
    | (go_at_call 12; refine HNO.out.mono ?_; rintro e w3 ⟨rfl, rfl⟩)
    | (go_at_call 14; refine HNM.out.mono ?_)
    | fail)
  rintro e w1 (⟨hok, v, rfl, ⟨y, c, y2, c2, rfl, hy, hy2⟩, hb1⟩ | ⟨hok, rfl, hb1⟩)
  · have hr := HR0.out
    rw [hok, if_pos rfl] at hr
    have hb0 := HB.out.below hb1 HB.out.lt
    have hbw1 : Grow w w1 := HBW.out.trans hb1
    obtain ⟨n1, n2, n3, n4, n5, n6⟩ := norm_again (s := x.s) hok
    have hstep := fun k => numNd_step hok k (S.pars : Int)
    have hkt := numNd_key (x := x)
    have hxc : (numNd x).c = ⟨rdS x.s (lv x.m), nrow (rdN (lv x.m) (lv x.d)), nrow (rdD (lv x.m) (lv x.d))⟩ := rfl
    have hxo : numNd x = ⟨1, 0, 0, (numNd x).c⟩ := rfl
    rw [hxc] at hxo
    generalize numNd x = nx at *
    generalize rdN (lv x.m) (lv x.d) = N at *
    generalize rdD (lv x.m) (lv x.d) = D at *
    generalize rdS x.s (lv x.m) = sg at *
    unfold frV
    -- the world behind the store
    obtain ⟨W2, hW2⟩ : ∃ W2, W2 = ((w1.setCell ⟨w.heap.size, 0, none⟩ (.bool sg)).setCell ⟨w.heap.size, 1, none⟩ (.slice y (nrow N).length c)).setCell ⟨w.heap.size, 2, none⟩ (.slice y2 (nrow D).length c2) := ⟨_, rfl⟩
    have hsz1 : w.heap.size + 1 ≤ w1.heap.size := hb0.lt
    have q2 : BlkOf W2 w.heap.size #[.bool sg, .slice y (nrow N).length c, .slice y2 (nrow D).length c2] 35 := by rw [hW2]; exact ((hb0.set 0 (.bool sg)).set 1 (.slice y (nrow N).length c)).set 2 (.slice y2 (nrow D).length c2)
    have hg2 : Grow w W2 := by rw [hW2]; exact ((Below.setCell hbw1 (p := ⟨w.heap.size, 0, none⟩) (Nat.le_refl _) _).setCell (p := ⟨w.heap.size, 1, none⟩) (Nat.le_refl _) _).setCell (p := ⟨w.heap.size, 2, none⟩) (Nat.le_refl _) _
    have hWs : W2.heap.size = w1.heap.size := by rw [hW2]; simp [World.setCell]
    have hrowr : ∀ {v : Value} {l : List Nat}, NRow (w.alloc (.cells #[.bool x.s, .slice a x.m.length ca, .slice b x.d.length cb] 35)).heap.size w1 v l → NRow (w.heap.size + 1) W2 v l := fun hy => by
      rw [World.size_alloc] at hy
      rw [hW2]
      exact ownsRow_setCell_below (a := ⟨w.heap.size, 2, none⟩) (ownsRow_setCell_below (a := ⟨w.heap.size, 1, none⟩) (ownsRow_setCell_below (a := ⟨w.heap.size, 0, none⟩) hy (by show w.heap.size < _; omega) _) (by show w.heap.size < _; omega) _) (by show w.heap.size < _; omega) _
    have r1 := hrowr hy
    have r2 := hrowr hy2
    -- what the maker owns from now on
    obtain ⟨P1, hP1⟩ : ∃ P1 : Nat → Prop, P1 = fun k => P k ∨ (w.heap.size ≤ k ∧ k < W2.heap.size) := ⟨_, rfl⟩
    have hPlt := H.out.lt
    have hP1a : ∀ k, P k → P1 k := fun k hk => by rw [hP1]; exact .inl hk
    have hP1b : ∀ k, P1 k → P k ∨ w.heap.size ≤ k := fun k hk => by rw [hP1] at hk; exact hk.elim .inl (fun h => .inr h.1)
    have hP1c : ∀ k, P1 k → k < W2.heap.size := fun k hk => by
      rw [hP1] at hk
      rcases hk with hk | hk
      · have := hPlt k hk; omega
      · exact hk.2
    have hraw : ∀ {v : Value} {n : Nat}, NRow (w.heap.size + 1) W2 v (nrow n) → RawIn P1 W2 v (nrow n) := fun hy => by
      refine ⟨NRow.more hy (Nat.zero_le _), nrow_fits _, fun g hg => ?_⟩
      obtain ⟨h1, h2, _⟩ := ownsRow_own hy hg
      rw [hP1]; exact .inr ⟨by omega, h2⟩
    have hrow2 := (HROW.out.grow hg2).mono hP1a hP1c
    have hnd : NdIn P1 W2 nx (.slice y (nrow N).length c) (.slice y2 (nrow D).length c2) := by
      rw [hxo]
      exact ⟨(by decide : (1 : Nat) < 256), i64_zero, i64_zero, hraw r1, hraw r2, n5, n6⟩
    have hky : KyOK (keyN nx) := by
      refine ⟨?_, ?_, ?_, ?_⟩
      · rw [hxo]; show (1 : Nat) < 256; decide
      · rw [hxo]; exact i64_zero
      · rw [hxo]; exact i64_zero
      · rw [hkt]; exact fT_len n5 n6
    obtain ⟨key, hkey⟩ : ∃ key, key = fT sg N D := ⟨_, rfl⟩
    rw [← hkey] at hkt
    have hidx := fun W (hW : Grow W2 W) => index_any (hrow2.grow hW) HGD.out (hnd.kept (fun k hk => hW.block k (hP1c k hk))) hky hkt
    unfold ndV at hidx
    have hidx2 : ∀ W, Grow W2 W → Calls Tryd.prog 13 #[.pointer (some ⟨pr, 0, none⟩), .agg #[.int .u8 1, .int .i64 0, .int .i64 0, .bool sg, .slice y (nrow N).length c, .slice y2 (nrow D).length c2], .string (mk key)] W (RowPost P1 pr W (putS S nx)) := by
      rw [hxo] at hidx ⊢; exact hidx
    have htx := fun W (hW : Grow W2 W) => ftext_any (w := W) (K := 2048) sg (FrNum.grow ⟨(NRow.short r1 n5), (NRow.short r2 n6)⟩ hW) (by omega) n1 (by rw [n3]; exact n5) (by rw [n4]; exact n6)
    rw [n2, n3, n4, ← hkey] at htx
    have HIDX := Lib.hid hidx2
    have HTX := Lib.hid htx
    have c0 := hb0.at 0 rfl
    have c1 := hb0.at 1 rfl
    have c2' := hb0.at 2 rfl
    have z0 := hb0.free
    have HQ2 := Lib.hid q2
    have HG2 := Lib.hid hg2
    have HP1 := Lib.hid (And.intro hP1a (And.intro hP1b hP1c))
    have HRR := Lib.hid hr
    have HST := Lib.hid (hstep (S.l.length : Int))
    have HPL := Lib.hid hPlt
    have hpm2 := HPM.out.below hg2 HPM.out.lt
    have HPM2 := Lib.hid hpm2
    have HW2 := Lib.hid hW2
    clear hb0 hb1 hbw1 hok hstep hkt hxo hxc hrowr r1 r2 hP1a hP1b hP1c hraw hrow2 hnd hky hidx hidx2 htx hr q2 hg2 hPlt hpm2 hsz1 hWs n1 n2 n3 n4 hy hy2 hW2 hP1 hkey
    go_wp2_with fail
    rw [← HW2.out]
    have k0 := HPM2.out.at 0 rfl
    have k1 := HQ2.out.at 0 rfl
    have k2 := HQ2.out.at 1 rfl
    have k3 := HQ2.out.at 2 rfl
    rename_i K0 hK0
    refine wp_region_walk (fun w' => w'.cell? ⟨pm, 0, none⟩ = some (.pointer (some ⟨pr, 0, none⟩)) ∧ w'.cell? ⟨w.heap.size, 0, none⟩ = some (.bool sg) ∧ w'.cell? ⟨w.heap.size, 1, none⟩ = some (.slice y (nrow N).length c) ∧ w'.cell? ⟨w.heap.size, 2, none⟩ = some (.slice y2 (nrow D).length c2))
      [true, true, true, true, true, true, true, false, false, true, true, true, true] (by kernel_rfl) (by kernel_rfl) rfl (by kernel_rfl) (fun _ _ d _ _ h => by cases d <;> exact h) ?_
    have hS : W2.drew.cell? ⟨pm, 0, none⟩ = some (.pointer (some ⟨pr, 0, none⟩)) ∧ W2.drew.cell? ⟨w.heap.size, 0, none⟩ = some (.bool sg) ∧ W2.drew.cell? ⟨w.heap.size, 1, none⟩ = some (.slice y (nrow N).length c) ∧ W2.drew.cell? ⟨w.heap.size, 2, none⟩ = some (.slice y2 (nrow D).length c2) := ⟨k0, k1, k2, k3⟩
    repeat (refine walkS_yes hS rfl (fun w' hw' => by obtain ⟨q0, q1, q2, q3⟩ := hw'; go_simp; rfl) ?_; simp only [Act.put, List.setIfInBounds_toArray, List.set_cons_zero, List.set_cons_succ])
    refine walkS_no rfl (fun K hK => ?_)
    go_simp
    refine (HTX.out _ (Grow.drew _)).mono ?_
    rintro e w3 ⟨rfl, hb3⟩
    have hg3 : Grow W2 w3 := Grow.trans (Grow.drew _) hb3
    have hS3 : w3.cell? ⟨pm, 0, none⟩ = some (.pointer (some ⟨pr, 0, none⟩)) ∧ w3.cell? ⟨w.heap.size, 0, none⟩ = some (.bool sg) ∧ w3.cell? ⟨w.heap.size, 1, none⟩ = some (.slice y (nrow N).length c) ∧ w3.cell? ⟨w.heap.size, 2, none⟩ = some (.slice y2 (nrow D).length c2) :=
      ⟨(HPM2.out.below hg3 HPM2.out.lt).at 0 rfl, (HQ2.out.below hg3 HQ2.out.lt).at 0 rfl, (HQ2.out.below hg3 HQ2.out.lt).at 1 rfl, (HQ2.out.below hg3 HQ2.out.lt).at 2 rfl⟩
    refine hK _ _ hS3 ?_
    clear hK K hS k0 k1 k2 k3 hb3
    refine walkS_no rfl (fun K hK => ?_)
    go_simp
    refine (HIDX.out _ hg3).mono ?_
    rintro e w4 ⟨rfl, hsp, P2, hP2a, hP2b, hrow4⟩
    have hpm4 := hsp.kinds _ _ _ (HPM2.out.below hg3 HPM2.out.lt) (by decide) (by decide)
    have hq4 := hsp.kinds _ _ _ (HQ2.out.below hg3 HQ2.out.lt) (by decide) (by decide)
    have hS4 : w4.cell? ⟨pm, 0, none⟩ = some (.pointer (some ⟨pr, 0, none⟩)) ∧ w4.cell? ⟨w.heap.size, 0, none⟩ = some (.bool sg) ∧ w4.cell? ⟨w.heap.size, 1, none⟩ = some (.slice y (nrow N).length c) ∧ w4.cell? ⟨w.heap.size, 2, none⟩ = some (.slice y2 (nrow D).length c2) :=
      ⟨hpm4.at 0 rfl, hq4.at 0 rfl, hq4.at 1 rfl, hq4.at 2 rfl⟩
    refine hK _ _ hS4 ?_
    clear hK K hS3
    repeat (refine walkS_yes hS4 rfl (fun w' hw' => by obtain ⟨q0, q1, q2, q3⟩ := hw'; go_simp; rfl) ?_; simp only [Act.put, List.setIfInBounds_toArray, List.set_cons_zero, List.set_cons_succ])
    simp only [walkS]
    have HFIN : Hid (Sparing P w w4 ∧ ∃ P', (∀ k, P k → P' k) ∧ (∀ k, P' k → P k ∨ w.heap.size ≤ k) ∧ MkAt P' w4 (.pointer (some ⟨pm, 0, none⟩)) r.2.2) := Lib.hid (by
      refine ⟨(Sparing.of_grow (P := P) (Grow.trans HG2.out hg3)).trans hsp HP1.out.2.1, P2, fun k hk => hP2a k (HP1.out.1 k hk), fun k hk => ?_, pm, pr, rfl, hP2a _ (HP1.out.1 _ hPm), hpm4, ?_, ?_⟩
      · rcases hP2b k hk with h | h
        · exact HP1.out.2.1 k h
        · exact .inr (Nat.le_trans (Below.size (Grow.trans HG2.out hg3)) h)
      · rw [HRR.out]; exact hrow4
      · rw [HRR.out]; exact putS_good HGD.out HST.out)
    clear hsp hrow4 hpm4 hq4 hS4 hP2a hP2b hg3
    refine hK0 _ _ ?_
    go_wp2_with fail
    go_ret2
    exact ⟨by rw [HRR.out]; rfl, HFIN.out⟩
  · have hr := HR0.out
    rw [hok] at hr
    have HRE : Hid (r = (0, 2, S)) := Lib.hid (by rw [hr]; rfl)
    have hb0 := HB.out.below hb1 HB.out.lt
    have hbw1 : Grow w w1 := HBW.out.trans hb1
    have c0 := hb0.at 0 rfl
    have c1 := hb0.at 1 rfl
    have c2 := hb0.at 2 rfl
    have z0 := hb0.free
    have hg2 : Below w.heap.size w (((w1.setCell ⟨w.heap.size, 0, none⟩ (.bool false)).setCell ⟨w.heap.size, 1, none⟩ (.slice none 0 0)).setCell ⟨w.heap.size, 2, none⟩ (.slice none 0 0)) :=
      ((Below.setCell hbw1 (p := ⟨w.heap.size, 0, none⟩) (Nat.le_refl _) _).setCell (p := ⟨w.heap.size, 1, none⟩) (Nat.le_refl _) _).setCell (p := ⟨w.heap.size, 2, none⟩) (Nat.le_refl _) _
    have HG2 := Lib.hid hg2
    clear hr hb0 hb1 hbw1 hg2 hok
    go_wp2_with fail
    go_ret2
    rw [HRE.out]
    exact ⟨rfl, Sparing.of_grow HG2.out, P, fun _ h => h, fun _ h => .inl h, H.out.grow HG2.out⟩
end Go.Proofs.YtcbebikcfcidmaaDoor
