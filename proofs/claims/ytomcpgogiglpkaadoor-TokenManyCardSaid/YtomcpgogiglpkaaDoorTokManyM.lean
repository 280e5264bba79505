/-
  LAYER 11: many tokens, many blanks: what is told of them; rows of bytes that are written.
-/
import Derived.Test.YtomcpgogiglpkaaDoorTokReadsW
namespace Go.Proofs.YtomcpgogiglpkaaDoor
open Go.RowKit

theorem tok_semi (l : List UInt8) : tok (59 :: l) = (3, 1) := by rfl
theorem trm_semi (l : List UInt8) : trm false (59 :: l) = 59 :: l := by
  conv => lhs; unfold trm
  rfl
theorem st_semi (n k : Nat) (h : k ≤ n) : st (List.replicate n 59) k = List.replicate (n - k) 59 := by
  induction k with
  | zero =>
    show trm false (List.replicate n 59) = List.replicate (n - 0) 59
    cases n with
    | zero => rfl
    | succ n => exact trm_semi _
  | succ k ih =>
    show nxt (st _ k) = _
    rw [ih (by omega)]
    obtain ⟨m, hm⟩ : ∃ m, n - k = m + 1 := ⟨n - k - 1, by omega⟩
    rw [hm, List.replicate_succ, show n - (k + 1) = m by omega]
    unfold nxt
    rw [tok_semi]
    show trm false (List.replicate m 59) = List.replicate m 59
    cases m with
    | zero => rfl
    | succ m => exact trm_semi _
theorem live_semi (m : Nat) : live (List.replicate (m + 1) 59) = true := by
  rw [List.replicate_succ, live_iff, tok_semi]; simp
theorem tkN_semi (n : Nat) : tkN (List.replicate n 59) = n := by
  refine tkN_uniq (fun k hk => ?_) ?_
  · rw [st_semi n k (by omega)]
    obtain ⟨m, hm⟩ : ∃ m, n - k = m + 1 := ⟨n - k - 1, by omega⟩
    rw [hm]; exact live_semi m
  · rw [st_semi n n (Nat.le_refl _), Nat.sub_self]; rfl
theorem bad_semi (n : Nat) : bad (List.replicate n 59) = false := by
  unfold bad
  rw [tkN_semi, st_semi n n (Nat.le_refl _), Nat.sub_self]; rfl
theorem tk_spot (l : List UInt8) (k : Nat) : (tk l k).spot = l.length - (st l k).length := rfl
theorem semi_few {n : Nat} (h : n ≤ 6000) : flt (List.replicate n 59) = (0, 0) ∧ (told (List.replicate n 59)).length = n := by
  have hf : flt (List.replicate n 59) = (0, 0) := by
    unfold flt
    rw [List.length_replicate, if_neg (by omega), tkN_semi, if_neg (by omega), bad_semi]; rfl
  refine ⟨hf, ?_⟩
  unfold told
  rw [hf, if_pos rfl, tks_length, tkN_semi]
theorem semi_many {n : Nat} (h : 6000 < n) (h2 : n ≤ 20000) : flt (List.replicate n 59) = (6, 6000) ∧ (told (List.replicate n 59)).length = 0 := by
  have hf : flt (List.replicate n 59) = (6, 6000) := by
    unfold flt
    rw [List.length_replicate, if_neg (by omega), tkN_semi, if_pos h]
    rw [tk_spot, st_semi n 6000 (by omega), List.length_replicate, List.length_replicate, show n - (n - 6000) = 6000 by omega]
  refine ⟨hf, ?_⟩
  unfold told
  rw [hf]; rfl
theorem trm_spaces (n : Nat) : trm false (List.replicate n 32) = [] := by
  induction n with
  | zero => rfl
  | succ n ih => rw [List.replicate_succ, trm_blank rfl, ih]
theorem tkN_spaces (n : Nat) : tkN (List.replicate n 32) = 0 := by
  refine tkN_uniq (fun k hk => absurd hk (by omega)) ?_
  show live (trm false _) = false
  rw [trm_spaces]; rfl
theorem bad_spaces (n : Nat) : bad (List.replicate n 32) = false := by
  unfold bad
  rw [tkN_spaces]
  show (!(trm false (List.replicate n 32)).isEmpty) = false
  rw [trm_spaces]; rfl
theorem told_spaces (n : Nat) : (told (List.replicate n 32)).length = 0 := by
  unfold told
  split
  · rw [tks_length, tkN_spaces]
  · rfl
theorem spaces_few {n : Nat} (h : n ≤ 20000) : flt (List.replicate n 32) = (0, 0) := by
  unfold flt
  rw [List.length_replicate, if_neg (by omega), tkN_spaces, if_neg (by omega), bad_spaces]; rfl
theorem spaces_many {n : Nat} (h : 20000 < n) : flt (List.replicate n 32) = (3, 0) := by
  unfold flt
  rw [List.length_replicate, if_pos h]

/-! Rows of bytes that are written. -/
theorem set_fill (c : UInt8) (n k : Nat) (h : k < n) : (List.replicate k c ++ List.replicate (n - k) 0).set k c = List.replicate (k + 1) c ++ List.replicate (n - (k + 1)) 0 := by
  obtain ⟨m, hm⟩ : ∃ m, n - k = m + 1 := ⟨n - k - 1, by omega⟩
  rw [hm, show n - (k + 1) = m by omega, List.set_append_right _ _ (by simp), List.length_replicate, Nat.sub_self, List.replicate_succ, List.set_cons_zero, List.replicate_succ']
  simp
theorem ByteRow.at {B : Nat} {w : World} {g n cap : Nat} {L : List UInt8} (h : ByteRow B w (.slice (some ⟨g, 0, none⟩) n cap) L) {k : Nat} (hk : k < L.length) :
    w.cell? ⟨g, k, none⟩ = some (.int .u8 ((bAt L k).toNat : Int)) ∧ w.frozen? ⟨g, k, none⟩ = false ∧ B ≤ g := by
  rcases h.2 with ⟨e, _⟩ | ⟨g', cap', cur, e, hB, hg, _, _, _, htk⟩
  · cases e
  · cases e
    refine ⟨?_, by simp [World.frozen?, hg], hB⟩
    rw [cell_of_row _ _ k _ _ _ hg]
    have h1 : (cur.toList.take (L.length * 1))[k]? = some (.int .u8 (L[k].toNat : Int)) := by
      rw [htk]; simp [Lib.byteCells, hk]
    rw [List.getElem?_take] at h1
    split at h1
    · rw [bAt_lt hk]; simpa using h1
    · cases h1
theorem ByteRow.set {B : Nat} {w : World} {g n cap : Nat} {L : List UInt8} (h : ByteRow B w (.slice (some ⟨g, 0, none⟩) n cap) L) (k : Nat) (c : UInt8) :
    ByteRow B (w.setCell ⟨g, k, none⟩ (.int .u8 (c.toNat : Int))) (.slice (some ⟨g, 0, none⟩) n cap) (L.set k c) := by
  rcases h.2 with ⟨e, _⟩ | ⟨g', cap', cur, e, hB, hg, h1, h2, h3, htk⟩
  · cases e
  · cases e
    refine ⟨by simp [Lib.byteCells], .inr ⟨g, cap, cur.setIfInBounds k (.int .u8 (c.toNat : Int)), by rw [List.length_set], hB, ?_, by rw [List.length_set]; exact h1, h2, by simpa using h3, ?_⟩⟩
    · simp [World.setCell, Array.getElem?_modify, hg]
    · rw [List.length_set, Array.toList_setIfInBounds, List.take_set, htk]
      simp [Lib.byteCells, List.map_set]
end Go.Proofs.YtomcpgogiglpkaaDoor
