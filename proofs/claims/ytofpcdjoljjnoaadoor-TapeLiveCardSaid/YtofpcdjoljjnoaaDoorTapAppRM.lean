/-
  LAYER 17: append to a row of steps, by the relation of what it may do to memory.
-/
import Derived.Test.YtofpcdjoljjnoaaDoorTapFactRM
import Derived.Test.YtofpcdjoljjnoaaDoorTapZ28
import Derived.Test.YtofpcdjoljjnoaaDoorTapZ25
namespace Go.Proofs.YtofpcdjoljjnoaaDoor
open Go.RowKit Go.Maps

section
variable {P : Program} {w : World}
/-- What append does to memory: it grows, or the row's own block is written behind the row. -/
def AppDone (w w' : World) (e : TypeId) (size : Nat) (v : Value) (n m : Nat) (xs news : List Value) : Prop :=
  Grow w w' ∨ ∃ g cap cur, v = .slice (some ⟨g, 0, none⟩) n cap ∧ w.heap[g]? = some (.cells cur e (0, 0)) ∧ n + m ≤ cap ∧ cur.size = cap * size ∧ cur.toList.take (n * size) = xs ∧
    w' = w.setRow g (cur.toList.take (n * size) ++ news ++ cur.toList.drop (n * size + news.length)).toArray
theorem run_append_done (base : Nat) (t ty e : TypeId) (i : TypeInfo) (z : Value) (size bytes : Nat) (ht : P.underlying t = some (.slice e)) (hi : P.info? e = some i) (hz : i.zero = some z)
    (hsize : i.size = size) (hby : i.bytes = bytes) (hzs : z.cells.size = size)
    (v : Value) (n : Nat) (xs : List Value) (hown : w.ownsRow base e size v n xs) (hv : v ≠ .slice none 0 0)
    (a : Addr) (m c : Nat) (news : List Value) (hl : news.length = m * size) (hnews : ∀ j u, news[j]? = some u → w.cell? (a.add j) = some u) (h1 : ∀ u ∈ news, u.oneCell' = true)
    (h63 : n + m ≤ maxLen) (hbytes : (n + m) * bytes ≤ 140737488355328) (hbase : base ≤ w.heap.size) :
    ∃ v' w', (Builtin.append_ #[t, t] ty #[v, .slice (some a) m c]).run P w = .ok v' w' ∧ w'.ownsRow base e size v' (n + m) (xs ++ news) ∧ AppDone w w' e size v n m xs news := by
  subst hsize
  subst hby
  have hsmall : n + m ≤ 9223372036854775807 := by simp only [maxLen] at h63; omega
  have hlen : (xs ++ news).length = (n + m) * i.size := by rw [List.length_append, hown.1, hl, Nat.add_mul]
  have hown0 := hown
  rcases hown.2 with ⟨rfl, rfl⟩ | ⟨g, cap, cur, rfl, hbg, hg, hnc, hcm, hcs, htake⟩
  · exact absurd rfl hv
  · by_cases hroom : n + m ≤ cap
    · have hfit : n * i.size + news.length ≤ cur.size := by rw [hl, hcs, ← Nat.add_mul]; exact Nat.mul_le_mul_right _ hroom
      have hr := run_append_room (P := P) w t ty e i ht hi g n cap cur hg a m c news hl hnews h1 hroom hfit
      refine ⟨_, _, hr, ⟨hlen, .inr ⟨g, cap, _, rfl, hbg, setRow_heap w g cur _ e _ hg, hroom, hcm, ?_, ?_⟩⟩, .inr ⟨g, cap, cur, rfl, hg, hroom, hcs, htake, rfl⟩⟩
      · simp only [List.size_toArray, List.length_append, List.length_take, List.length_drop, Array.length_toList]
        omega
      · rw [htake, ← hlen]
        exact List.take_left
    · have holds : ∀ j u, xs[j]? = some u → w.cell? ((⟨g, 0, none⟩ : Addr).add j) = some u := hown0.cells (g := g) rfl
      have hr := run_append_grow (P := P) w t ty e i z ht hi hz ⟨g, 0, none⟩ n cap xs hown0.1 holds a m c news hl hnews (by omega) (by omega) (growslice_fits (by omega) hbytes)
      have hge := grownCap_ge w (n + m) cap e
      have hcm : grownCap w (n + m) cap e ≤ maxLen := grownCap_le_maxLen w (n + m) cap e h63
      refine ⟨_, _, hr, ⟨hlen, .inr ⟨w.heap.size, _, _, rfl, hbase, World.alloc_heap_new w.drew _, hge, hcm, ?_, ?_⟩⟩, .inl (Grow.trans (Grow.drew w) (Grow.alloc _ _))⟩
      · simp only [Array.size_append, List.size_toArray, size_zeroCells, hzs, hown0.1, hl, ← Nat.add_mul]
        congr 1
        omega
      · simp only [Array.toList_append, List.append_assoc]
        rw [← List.append_assoc, ← hlen]
        exact List.take_left
theorem wp_append_done {o : Oper} {a : Act} {K : Act → World → Prop} {Q : Exit → Act → World → Prop} (w : World) (s x : Operand) (t : TypeId) (ho : o.op = .call { callee := .builtin .append, args := #[s, x], argTypes := #[t, t] })
    (base : Nat) (e : TypeId) (i : TypeInfo) (z : Value) (size bytes : Nat) (ht : P.underlying t = some (.slice e)) (hi : P.info? e = some i) (hz : i.zero = some z)
    (hsize : i.size = size) (hby : i.bytes = bytes) (hzs : z.cells.size = size)
    (v : Value) (n : Nat) (xs : List Value) (hs : a.eval s = v) (hown : w.ownsRow base e size v n xs) (hv : v ≠ .slice none 0 0)
    (ad : Addr) (m c : Nat) (news : List Value) (hx : a.eval x = .slice (some ad) m c) (hl : news.length = m * size) (hnews : ∀ j u, news[j]? = some u → w.cell? (ad.add j) = some u) (h1 : ∀ u ∈ news, u.oneCell' = true)
    (h63 : n + m ≤ maxLen) (hbytes : (n + m) * bytes ≤ 140737488355328) (hbase : base ≤ w.heap.size)
    (h : ∀ v' w', w'.ownsRow base e size v' (n + m) (xs ++ news) → AppDone w w' e size v n m xs news → K (a.put o.dst v') w') : Oper.wp P o a w K Q := by
  obtain ⟨v', w', hr, h2, h3⟩ := run_append_done (P := P) (w := w) base t o.type e i z size bytes ht hi hz hsize hby hzs v n xs hown hv ad m c news hl hnews h1 h63 hbytes hbase
  unfold Oper.wp execOp
  simp only [ho, resolve, invoke, builtin, Sem.run_bind, Sem.run_pure, Result.andThen_ok, List.map_toArray, List.map_cons, List.map_nil, hs, hx, hr]
  exact h v' w' h2 h3
end

/-- Blocks elder than B stay; rows of steps since B keep their first places, and what is a row X stays one. -/
def rowsRel (B n6 : Nat) (X : List Value) : Rel where
  to w w' := Below B w w' ∧ ∀ g cur, BlkOf w g cur 56 → ∃ cur', BlkOf w' g cur' 56 ∧ cur'.size = cur.size ∧ cur'.toList.take n6 = cur.toList.take n6 ∧ (cur.toList.take X.length = X → cur'.toList.take X.length = X)
  refl w := ⟨Below.refl _ w, fun g cur h => ⟨cur, h, rfl, rfl, fun h => h⟩⟩
  trans := fun h k => ⟨Below.trans h.1 (k.1), fun g cur hc => by
    obtain ⟨c1, h1, h2, h3, h4⟩ := h.2 g cur hc
    obtain ⟨c2, k1, k2, k3, k4⟩ := k.2 g c1 h1
    exact ⟨c2, k1, k2.trans h2, k3.trans h3, fun hx => k4 (h4 hx)⟩⟩
  drew w := ⟨⟨rfl, rfl, rfl, Nat.le_refl _, fun _ _ => rfl⟩, fun g cur h => ⟨cur, h, rfl, rfl, fun h => h⟩⟩
section
variable {B n6 : Nat} {X : List Value} {w w' : World}
theorem rows_grow (h : Grow w w') (hB : B ≤ w.heap.size) : (rowsRel B n6 X).to w w' := ⟨h.mono hB, fun _ cur hc => ⟨cur, hc.below h hc.lt, rfl, rfl, fun h => h⟩⟩
theorem rows_app {v : Value} {n m : Nat} {xs news : List Value} (h : AppDone w w' 56 6 v n m xs news) (hown : w.ownsRow B 56 6 v n xs) (hn : n * 6 = n6) (hX : X = xs ++ news) (hl : news.length = m * 6) (hB : B ≤ w.heap.size) : (rowsRel B n6 X).to w w' := by
  rcases h with h | ⟨g, cap, cur, rfl, hg, hroom, hcs, htake, rfl⟩
  · exact rows_grow h hB
  · have hgB : B ≤ g := (ownsRow_own hown rfl).1
    have hfit : n * 6 + news.length ≤ cur.size := by rw [hl, hcs, ← Nat.add_mul]; exact Nat.mul_le_mul_right _ hroom
    have hnx : xs.length = n * 6 := hown.1
    refine ⟨⟨rfl, rfl, rfl, by simp, fun k hk => setRow_other w g k _ (by omega)⟩, fun g' cur' hc => ?_⟩
    by_cases hgg : g' = g
    · subst hgg
      obtain rfl : cur = cur' := by
        have h1 : some (Obj.cells cur 56 (0, 0)) = some (Obj.cells cur' 56 (0, 0)) := hg.symm.trans hc
        injection h1 with h2
        injection h2
      refine ⟨_, setRow_heap w g' cur _ _ _ hg, ?_, ?_, fun _ => ?_⟩
      · simp only [List.size_toArray, List.length_append, List.length_take, List.length_drop, Array.length_toList]
        omega
      · rw [htake, ← hn, ← hnx, List.append_assoc]
        show (xs ++ (news ++ _)).take xs.length = _
        rw [List.take_left, hnx, htake]
      · rw [htake, hX]
        show (xs ++ news ++ _).take (xs ++ news).length = _
        exact List.take_left
    · exact ⟨cur', (setRow_other w g g' _ hgg).trans hc, rfl, rfl, fun h => h⟩
theorem stays_rows {k : Nat} {xs : List Value} (hk : k * 6 ≤ n6 ∨ xs = X) : StaysR (rowsRel B n6 X) (fun v W => W.ownsRow B 56 6 v k xs) := by
  rintro v w w' hr ⟨hl, h⟩
  refine ⟨hl, ?_⟩
  rcases h with h | ⟨g, cap, cur, e, hB, hg, hn, hm, hs, ht⟩
  · exact .inl h
  · obtain ⟨cur', h1, h2, h3, h4⟩ := hr.2 g cur hg
    refine .inr ⟨g, cap, cur', e, hB, h1, hn, hm, h2.trans hs, ?_⟩
    rcases hk with hk | hk
    · have h5 : (cur'.toList.take n6).take (k * 6) = (cur.toList.take n6).take (k * 6) := by rw [h3]
      rwa [List.take_take, List.take_take, Nat.min_eq_left hk, ht] at h5
    · subst hk
      rw [← hl] at ht ⊢
      exact h4 ht
theorem own_empty (W : World) (hB : B ≤ W.heap.size) : (W.alloc (.cells #[] 56)).ownsRow B 56 6 (.slice (some ⟨W.heap.size, 0, none⟩) 0 0) 0 [] :=
  ⟨rfl, .inr ⟨_, 0, #[], rfl, hB, World.alloc_heap_new W _, Nat.le_refl _, Nat.zero_le _, rfl, rfl⟩⟩
theorem own_single (W : World) (hB : B ≤ W.heap.size) (x : Nd) (vn vd : Value) : (W.alloc (.cells (ndCells x vn vd).toArray 56)).ownsRow B 56 6 (.slice (some ⟨W.heap.size, 0, none⟩) 1 1) 1 (ndCells x vn vd) :=
  ⟨rfl, .inr ⟨_, 1, (ndCells x vn vd).toArray, rfl, hB, World.alloc_heap_new W _, Nat.le_refl _, by unfold maxLen; omega, rfl, rfl⟩⟩
end

theorem ownsRow_ne {B e K n : Nat} {w : World} {v : Value} {xs : List Value} (h : w.ownsRow B e K v n xs) (hn : 1 ≤ n) : v ≠ .slice none 0 0 := by
  rintro rfl
  rcases h.2 with ⟨_, h⟩ | ⟨_, _, _, e, _⟩
  · omega
  · cases e

/-- A row of steps that may be read: its values, and its cells. -/
theorem rows_of_at {K : Nat} {w : World} {A : Option Addr} {L : List Nd} (h : NdsAt K w A L) : ∃ vs : List (Value × Value), vs.length = L.length ∧ (∀ (i : Nat) (x : Nd) (p : Value × Value), L[i]? = some x → vs[i]? = some p → NdOK K w x p.1 p.2) ∧
    (∀ b off, A = some ⟨b, off, none⟩ → ∀ j u, (rowCells L vs)[j]? = some u → w.cell? ((⟨b, off, none⟩ : Addr).add j) = some u) ∧ (∀ u ∈ rowCells L vs, u.oneCell' = true) := by
  obtain ⟨vs, hl, hp⟩ := list_of (n := L.length) (p := fun i (p : Value × Value) => ∀ x, L[i]? = some x → NdOK K w x p.1 p.2 ∧ ∀ b off, A = some ⟨b, off, none⟩ → ∀ j u, (ndCells x p.1 p.2)[j]? = some u → w.cell? ⟨b, off + i * 6 + j, none⟩ = some u) (fun i hi => by
    obtain ⟨b, off, vn, vd, hA, hc, hok⟩ := h i L[i] (List.getElem?_eq_getElem hi)
    refine ⟨(vn, vd), fun x hx => ?_⟩
    rw [List.getElem?_eq_getElem hi] at hx
    cases hx
    refine ⟨hok, fun b' off' hA' => ?_⟩
    rw [hA] at hA'
    cases hA'
    exact hc)
  have key : ∀ j u, (rowCells L vs)[j]? = some u → ∃ i x p r, L[i]? = some x ∧ vs[i]? = some p ∧ j = i * 6 + r ∧ (ndCells x p.1 p.2)[r]? = some u := fun j u hu => by
    have hj := (List.getElem?_eq_some_iff.1 hu).1
    rw [rowCells_length hl] at hj
    have hi : j / 6 < L.length := by omega
    obtain ⟨x, hx⟩ : ∃ x, L[j / 6]? = some x := ⟨_, List.getElem?_eq_getElem hi⟩
    obtain ⟨p, hp⟩ : ∃ p, vs[j / 6]? = some p := ⟨_, List.getElem?_eq_getElem (by omega)⟩
    refine ⟨j / 6, x, p, j % 6, hx, hp, by omega, ?_⟩
    rw [← rowCells_get hx hp (by omega), show j / 6 * 6 + j % 6 = j by omega]
    exact hu
  refine ⟨vs, hl, fun i x p hx hpp => (hp i p hpp x hx).1, fun b off hA j u hu => ?_, fun u hu => ?_⟩
  · obtain ⟨i, x, p, r, hx, hpp, rfl, hr⟩ := key j u hu
    have h1 := (hp i p hpp x hx).2 b off hA r u hr
    have e : (⟨b, off, none⟩ : Addr).add (i * 6 + r) = ⟨b, off + i * 6 + r, none⟩ := by
      unfold Addr.add
      split
      · rename_i h0
        have h1 : i * 6 = 0 := by omega
        have h2 : r = 0 := by omega
        rw [h1, h2]; rfl
      · simp [Nat.add_assoc]
    rw [e]; exact h1
  · obtain ⟨j, hj⟩ := List.mem_iff_getElem?.1 hu
    obtain ⟨i, x, p, r, hx, hpp, _, hr⟩ := key j u hj
    obtain ⟨⟨_, _, _, ⟨a1, c1, e1, _⟩, ⟨a2, c2, e2, _⟩, _⟩, _⟩ := hp i p hpp x hx
    have hm := List.mem_of_getElem? hr
    unfold ndCells at hm
    rw [e1, e2] at hm
    simp only [List.mem_cons, List.not_mem_nil, or_false] at hm
    rcases hm with rfl | rfl | rfl | rfl | rfl | rfl <;> rfl
/-- The row again, from its cells. -/
theorem at_of_rows {K B : Nat} {w : World} {v : Value} {L : List Nd} {vs : List (Value × Value)} (hl : vs.length = L.length) (ho : w.ownsRow B 56 6 v L.length (rowCells L vs)) (hv : ∀ (i : Nat) (x : Nd) (p : Value × Value), L[i]? = some x → vs[i]? = some p → NdOK K w x p.1 p.2) (hne : L ≠ []) :
    ∃ g cap, v = .slice (some ⟨g, 0, none⟩) L.length cap ∧ B ≤ g ∧ NdsAt K w (some ⟨g, 0, none⟩) L := by
  rcases ho.2 with ⟨_, h⟩ | ⟨g, cap, cur, e, hB, hg, hn, hm, hs, htk⟩
  · exact absurd (List.eq_nil_of_length_eq_zero h) hne
  · refine ⟨g, cap, e, hB, fun i x hx => ?_⟩
    have hi := (List.getElem?_eq_some_iff.1 hx).1
    obtain ⟨p, hp⟩ : ∃ p, vs[i]? = some p := ⟨_, List.getElem?_eq_getElem (by omega)⟩
    refine ⟨g, 0, p.1, p.2, rfl, fun j u hu => ?_, hv i x p hx hp⟩
    have hj : j < 6 := by have := (List.getElem?_eq_some_iff.1 hu).1; rwa [ndCells_length] at this
    have h5 := rowCells_get hx hp hj
    rw [hu, ← htk, List.getElem?_take, if_pos (by omega)] at h5
    rw [cell_of_row w g (0 + i * 6 + j) cur _ (0, 0) hg, Nat.zero_add]
    simpa using h5
end Go.Proofs.YtofpcdjoljjnoaaDoor
