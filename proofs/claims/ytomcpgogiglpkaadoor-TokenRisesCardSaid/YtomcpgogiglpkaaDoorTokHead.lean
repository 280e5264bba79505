/-
  LAYER 11: the calls whose answers the document fixes.
-/
import Derived.Test.YtomcpgogiglpkaaDoorTokRead
import Derived.Test.YtomcpgogiglpkaaDoorTokPlace
namespace Go.Proofs.YtomcpgogiglpkaaDoor
open Go.RowKit

theorem tkCells_get {L : List Tk} {i : Nat} {t : Tk} (h : L[i]? = some t) :
    (tkCells L)[i * 3]? = some (.int .u8 ((t.kind : Nat) : Int)) ∧ (tkCells L)[i * 3 + 1]? = some (.string (mk t.text)) ∧ (tkCells L)[i * 3 + 2]? = some (.int .i64 ((t.spot : Nat) : Int)) := by
  induction L generalizing i with
  | nil => simp at h
  | cons a L ih =>
    have e : tkCells (a :: L) = .int .u8 ((a.kind : Nat) : Int) :: .string (mk a.text) :: .int .i64 ((a.spot : Nat) : Int) :: tkCells L := rfl
    cases i with
    | zero =>
      simp at h; subst h
      rw [e]; simp
    | succ i =>
      have := ih (i := i) (by simpa using h)
      rw [e, show (i + 1) * 3 = i * 3 + 3 by omega]
      simpa using this

/-- What a row of tokens is, to be read. -/
structure TkIn (W : World) (v : Value) (L : List Tk) : Prop where
  block : ∀ i t, L[i]? = some t → ∃ g cap, v = .slice (some ⟨g, 0, none⟩) L.length cap ∧ g < W.heap.size ∧ W.cell? ⟨g, i * 3, none⟩ = some (.int .u8 ((t.kind : Nat) : Int)) ∧
    W.cell? ⟨g, i * 3 + 1, none⟩ = some (.string (mk t.text)) ∧ W.cell? ⟨g, i * 3 + 2, none⟩ = some (.int .i64 ((t.spot : Nat) : Int))
theorem TkRow.in {B : Nat} {W : World} {v : Value} {L : List Tk} (h : TkRow B W v L) : TkIn W v L := by
  refine ⟨fun i t hi => ?_⟩
  have hlt : i < L.length := (List.getElem?_eq_some_iff.1 hi).1
  rcases h.2 with ⟨_, h3⟩ | ⟨g, cap, cur, e, hB, hg, hc, hm, hs, htk⟩
  · omega
  · obtain ⟨c0, c1, c2⟩ := tkCells_get hi
    have at' : ∀ j u, (tkCells L)[j]? = some u → W.cell? ⟨g, j, none⟩ = some u := fun j u hu => by
      rw [cell_of_row _ _ j _ _ _ hg]
      rw [← htk, List.getElem?_take] at hu
      split at hu
      · simpa using hu
      · cases hu
    exact ⟨g, cap, e, (Array.getElem?_eq_some_iff.1 hg).1, at' _ _ c0, at' _ _ c1, at' _ _ c2⟩
theorem TkIn.stay {W W' : World} {v : Value} {L : List Tk} (h : TkIn W v L) (s : Below W.heap.size W W') : TkIn W' v L := by
  refine ⟨fun i t hi => ?_⟩
  obtain ⟨g, cap, e, hg, c0, c1, c2⟩ := h.block i t hi
  have := s.size
  exact ⟨g, cap, e, by omega, (s.cell (p := ⟨g, _, none⟩) hg).trans c0, (s.cell (p := ⟨g, _, none⟩) hg).trans c1, (s.cell (p := ⟨g, _, none⟩) hg).trans c2⟩

def L1 : List Tk := [⟨1, [120, 49], 0⟩, ⟨3, [60, 61], 2⟩, ⟨2, [50, 46, 53, 101, 51], 4⟩, ⟨3, [59], 9⟩]
def L2 : List Tk := [⟨1, [97], 0⟩, ⟨3, [61, 61], 7⟩, ⟨1, [99], 9⟩]
def S1 : List UInt8 := [120, 49, 60, 61, 50, 46, 53, 101, 51, 59]
def S2 : List UInt8 := [97, 32, 47, 47, 32, 98, 10, 61, 61, 99]
def S3 : List UInt8 := [49, 120]
def S4 : List UInt8 := [49, 101, 49, 50, 51, 52, 53]
theorem told1 : told S1 = L1 ∧ flt S1 = (0, 0) := by decide +kernel
theorem told2 : told S2 = L2 ∧ flt S2 = (0, 0) := by decide +kernel
theorem told3 : flt S3 = (110, 0) := by decide +kernel
theorem told4 : flt S4 = (110, 0) := by decide +kernel
theorem posn1 : posn [97, 10, 98, 99] (clip 3 4) = (2, 2) := by decide +kernel
end Go.Proofs.YtomcpgogiglpkaaDoor
