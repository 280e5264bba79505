/-
  LAYER 17: the laws: a tape that is spoilt, and what is not.
-/
import Derived.Test.YtofpcdjoljjnoaaDoorTapToldM
namespace Go.Proofs.YtofpcdjoljjnoaaDoor
open Go.RowKit Go.Maps

/-- Blocks from lo to hi may have been written: rows of limbs keep their sizes, the row of steps ga all but what A is. -/
structure Spoilt (w0 wr : World) (lo hi ga : Nat) (cur : Array Value) : Prop where
  os : wr.os = w0.os
  tape : wr.tape = w0.tape
  output : wr.output = w0.output
  size : wr.heap.size = w0.heap.size
  other : ∀ k, ¬ (lo ≤ k ∧ k < hi) → wr.heap[k]? = w0.heap[k]?
  node : ∃ cur', BlkOf wr ga cur' 56 ∧ cur'.size = cur.size ∧ ∀ j, j % 6 ≠ 1 → cur'[j]? = cur[j]?
  limbs : ∀ k cs, BlkOf w0 k cs 64 → ∃ cs', BlkOf wr k cs' 64 ∧ cs'.size = cs.size
section
variable {w0 wr : World} {lo hi ga : Nat} {cur : Array Value}
theorem Spoilt.start (h : BlkOf w0 ga cur 56) : Spoilt w0 w0 lo hi ga cur := ⟨rfl, rfl, rfl, rfl, fun _ _ => rfl, ⟨cur, h, rfl, fun _ _ => rfl⟩, fun _ cs h => ⟨cs, h, rfl⟩⟩
theorem Spoilt.limb (h : Spoilt w0 wr lo hi ga cur) {k j : Nat} {cs : Array Value} (hk : BlkOf w0 k cs 64) (h1 : lo ≤ k) (h2 : k < hi) (v : Value) : Spoilt w0 (wr.setCell ⟨k, j, none⟩ v) lo hi ga cur := by
  obtain ⟨cs', hk', hs'⟩ := h.limbs k cs hk
  refine ⟨h.os, h.tape, h.output, by simp [World.setCell, h.size], fun i hi' => ?_, ?_, fun i ds hd => ?_⟩
  · rw [Below.heap_setCell _ _ _ _ (fun e => hi' (by have e2 : i = k := e; omega))]
    exact h.other i hi'
  · obtain ⟨cur', hc, hsz, hcells⟩ := h.node
    refine ⟨cur', hc.other (p := ⟨k, j, none⟩) (fun e => ?_) v, hsz, hcells⟩
    have e2 : k = ga := e
    subst e2
    unfold BlkOf at hk' hc
    rw [hk'] at hc
    injection hc with hc
    injection hc with _ hc
    exact absurd hc (by decide)
  · obtain ⟨ds', hd', hs2⟩ := h.limbs i ds hd
    by_cases e : i = k
    · subst e
      exact ⟨_, hd'.set j v, by simp [hs2]⟩
    · exact ⟨ds', hd'.other (p := ⟨k, j, none⟩) (fun e2 => e (by have e3 : k = i := e2; omega)) v, hs2⟩
theorem Spoilt.step (h : Spoilt w0 wr lo hi ga cur) (h1 : lo ≤ ga) (h2 : ga < hi) {i : Nat} (v : Value) : Spoilt w0 (wr.setCell ⟨ga, i * 6 + 1, none⟩ v) lo hi ga cur := by
  obtain ⟨cur', hc, hsz, hcells⟩ := h.node
  refine ⟨h.os, h.tape, h.output, by simp [World.setCell, h.size], fun k hk => ?_, ⟨_, hc.set (i * 6 + 1) v, by simp [hsz], fun j hj => ?_⟩, fun k ds hd => ?_⟩
  · rw [Below.heap_setCell _ _ _ _ (fun e => hk (by have e2 : k = ga := e; omega))]
    exact h.other k hk
  · rw [Array.getElem?_setIfInBounds, if_neg (by omega)]
    exact hcells j hj
  · obtain ⟨ds', hd', hs2⟩ := h.limbs k ds hd
    refine ⟨ds', hd'.other (p := ⟨ga, i * 6 + 1, none⟩) (fun e => ?_) v, hs2⟩
    have e2 : ga = k := e
    subst e2
    unfold BlkOf at hd' hc
    rw [hc] at hd'
    injection hd' with hc
    injection hc with _ hc
    exact absurd hc (by decide)
theorem Spoilt.kept (h : Spoilt w0 wr lo hi ga cur) {P : Nat → Prop} (hP : ∀ k, P k → ¬ (lo ≤ k ∧ k < hi)) : Kept P w0 wr := fun k hk => h.other k (hP k hk)
theorem Spoilt.below (h : Spoilt w0 wr lo hi ga cur) : Below lo w0 wr := ⟨h.os, h.tape, h.output, Nat.le_of_eq h.size.symm, fun k hk => h.other k (by omega)⟩
theorem Spoilt.blk (h : Spoilt w0 wr lo hi ga cur) {b : Nat} {cs : Array Value} {t : TypeId} (hb : BlkOf w0 b cs t) (hn : ¬ (lo ≤ b ∧ b < hi)) : BlkOf wr b cs t := (h.other b hn).trans hb
end
/-- The rows of a tape's own steps, in memory. -/
theorem NdsIn.rows {P : Nat → Prop} {w : World} {v : Value} {L : List Nd} (h : NdsIn P w v L) (hl : L ≠ []) : ∃ g cap cur, v = .slice (some ⟨g, 0, none⟩) L.length cap ∧ P g ∧ BlkOf w g cur 56 ∧ cur.size = cap * 6 ∧ L.length ≤ cap ∧
    ∀ i, i < L.length → ∃ op a b s vn vd M, cur[i * 6]? = some op ∧ cur[i * 6 + 1]? = some a ∧ cur[i * 6 + 2]? = some b ∧ cur[i * 6 + 3]? = some (.bool s) ∧ cur[i * 6 + 4]? = some vn ∧ cur[i * 6 + 5]? = some vd ∧ RawIn P w vn M ∧ M.length ≤ 2048 := by
  obtain ⟨vs, h1, h2, h3, h4⟩ := h
  rcases h2.2 with ⟨e, he⟩ | ⟨g, cap, cur, e, _, hg, hn, hm, hs, htk⟩
  · exact absurd (List.eq_nil_of_length_eq_zero he) hl
  · refine ⟨g, cap, cur, e, h3 g (by rw [e]; rfl), hg, hs, hn, fun i hi => ?_⟩
    obtain ⟨x, hx⟩ : ∃ x, L[i]? = some x := ⟨_, List.getElem?_eq_getElem hi⟩
    obtain ⟨p, hp⟩ : ∃ p, vs[i]? = some p := ⟨_, List.getElem?_eq_getElem (by omega)⟩
    have hc : ∀ j u, j < 6 → (ndCells x p.1 p.2)[j]? = some u → cur[i * 6 + j]? = some u := fun j u hj hu => by
      have h5 := rowCells_get hx hp hj
      rw [hu, ← htk, List.getElem?_take, if_pos (by omega)] at h5
      simpa using h5
    have hr := h4 i x p hx hp
    exact ⟨_, _, _, x.c.s, p.1, p.2, x.c.m, hc 0 _ (by omega) rfl, hc 1 _ (by omega) rfl, hc 2 _ (by omega) rfl, hc 3 _ (by omega) rfl, hc 4 _ (by omega) rfl, hc 5 _ (by omega) rfl, hr.2.2.2.1, hr.2.2.2.2.2.1⟩
/-- A row of limbs: none, or a block. -/
theorem RawIn.block {P : Nat → Prop} {w : World} {v : Value} {L : List Nat} (h : RawIn P w v L) : (v = .slice none 0 0 ∧ L.length = 0) ∨ ∃ g cap cs, v = .slice (some ⟨g, 0, none⟩) L.length cap ∧ P g ∧ BlkOf w g cs 64 ∧ cs.size = cap ∧ L.length ≤ cap := by
  rcases h.1.2 with ⟨e, he⟩ | ⟨g, cap, cur, e, _, hg, hn, hm, hs, htk⟩
  · exact .inl ⟨e, he⟩
  · exact .inr ⟨g, cap, cur, e, h.2.2 g (by rw [e]; rfl), hg, by omega, hn⟩
end Go.Proofs.YtofpcdjoljjnoaaDoor
