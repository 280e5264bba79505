/-
  LAYER 17: the laws: what a maker's tape is, and its steps one by one.
-/
import Derived.Test.YtofpcdjoljjnoaaDoorTapMineM
namespace Go.Proofs.YtofpcdjoljjnoaaDoor
open Go.RowKit Go.Maps

theorem NdsIn.form2 {P : Nat → Prop} {w : World} {v : Value} {L : List Nd} (h : NdsIn P w v L) (hl : L ≠ []) : ∃ g cap, v = .slice (some ⟨g, 0, none⟩) L.length cap ∧ L.length ≤ cap ∧ cap ≤ maxLen ∧ P g ∧ NdsAt 2048 w (some ⟨g, 0, none⟩) L := by
  obtain ⟨A, ca, e0, hat⟩ := h.form
  obtain ⟨vs, h1, h2, h3, h4⟩ := h
  rcases h2.2 with ⟨e, he⟩ | ⟨g, cap, cur, e, _, hg, hn, hm, hs, htk⟩
  · exact absurd (List.eq_nil_of_length_eq_zero he) hl
  · rw [e0] at e
    injection e with e1 e2 e3
    subst e1 e3
    exact ⟨g, ca, e0, hn, hm, h3 g (by rw [e0]; rfl), hat⟩
theorem NdsAt.one {K : Nat} {w : World} {g i : Nat} {L : List Nd} {x : Nd} (h : NdsAt K w (some ⟨g, 0, none⟩) L) (hx : L[i]? = some x) : NdsAt K w (some ⟨g, i * 6, none⟩) [x] := by
  intro j y hy
  have hj := (List.getElem?_eq_some_iff.1 hy).1
  obtain rfl : j = 0 := by simpa using hj
  simp at hy
  subst hy
  obtain ⟨b, off, vn, vd, e, hc, hok⟩ := h i x hx
  cases e
  exact ⟨g, i * 6, vn, vd, rfl, fun j v hv => by have := hc j v hv; rw [Nat.zero_add] at this; rw [Nat.zero_mul, Nat.add_zero]; exact this, hok⟩
theorem tp_one {w : World} {g i cap : Nat} {L : List Nd} {x : Nd} (h : NdsAt 2048 w (some ⟨g, 0, none⟩) L) (hx : L[i]? = some x) : TpAt 2048 w ⟨0, 0, [x], []⟩ (.slice (some ⟨g, i * 6, none⟩) 1 cap) (.slice none 0 0) :=
  ⟨i64_zero, i64_zero, by simp, by simp, _, _, none, 0, rfl, rfl, h.one hx, fun i x hx => by simp at hx⟩
theorem differ {S : MkS} (h : Good S) {i k : Nat} {x y : Nd} (hik : k ≠ i) (hx : S.l[i]? = some x) (hy : S.l[k]? = some y) : sameTp ⟨0, 0, [x], []⟩ ⟨0, 0, [y], []⟩ = false := by
  cases hs : sameNd x y with
  | false => simp [sameTp, sameNds, hs]
  | true =>
    exfalso
    have hk := key_of_same hs
    have hn := h.2.2.2.2.2
    have hi := (List.getElem?_eq_some_iff.1 hx)
    have hj := (List.getElem?_eq_some_iff.1 hy)
    obtain ⟨hil, hi⟩ := hi
    obtain ⟨hjl, hj⟩ := hj
    have hnd := List.pairwise_iff_getElem.1 hn
    rcases Nat.lt_or_ge k i with hlt | hge
    · exact hnd k i (by simpa using hjl) (by simpa using hil) hlt (by simp [hi, hj, hk])
    · exact hnd i k (by simpa using hil) (by simpa using hjl) (by omega) (by simp [hi, hj, hk])
theorem good_valid {S : MkS} (h : Good S) {out : Int} {T : List (List UInt8 × Int)} (h0 : 0 ≤ out) (h1 : out < (S.l.length : Int)) (ht : tellsB (S.l.length : Int) T = true) : validB ⟨(S.pars : Int), out, S.l, T⟩ = true := by
  obtain ⟨_, g2, g3, g4, g5, _⟩ := h
  unfold validB
  dsimp only
  rw [g5, ht, decide_eq_true h0, decide_eq_true h1, decide_eq_true (show (0 : Int) ≤ (S.pars : Int) by omega), decide_eq_true (show (S.pars : Int) ≤ 200 by omega), decide_eq_true (show S.l.length ≤ 20000 by omega)]
  rfl
theorem MkAt.good {P : Nat → Prop} {w : World} {m : Value} {S : MkS} (h : MkAt P w m S) : Good S := by
  obtain ⟨_, _, _, _, _, _, hg⟩ := h
  exact hg
end Go.Proofs.YtofpcdjoljjnoaaDoor
