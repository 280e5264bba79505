/-
  The texts TapSame, TapStep, TapMap, one behind the other.
-/
import Derived.Test.YtofpcdjoljjnoaaDoorTapZ18
import Derived.BigQuiet
import Derived.Maps.OwnOps
import Derived.Maps.OwnIn
import Derived.DeepKeys4
import Derived.ChangeMaps5

namespace Go.Proofs.YtofpcdjoljjnoaaDoor
open Go.RowKit

/-- A row of limbs that may be read. -/
def Raw (w : World) (v : Value) (L : List Nat) : Prop := ∃ a cap, v = .slice a L.length cap ∧ L.length ≤ cap ∧ (a = none → cap = 0) ∧ Fits L ∧ NatAt w a L
theorem Raw.grow {w w' : World} {v : Value} {L : List Nat} (h : Raw w v L) (hg : Grow w w') : Raw w' v L := by
  obtain ⟨a, cap, h1, h2, h3, h4, h5⟩ := h
  exact ⟨a, cap, h1, h2, h3, h4, h5.below hg (Nat.le_refl _)⟩
theorem Raw.num {w : World} {v : Value} {L : List Nat} {K : Nat} (h : Raw w v L) (hK : L.length ≤ K) : NNum K w v (lv L) := by
  obtain ⟨a, cap, h1, h2, h3, h4, h5⟩ := h
  exact ⟨a, cap, L, h1, h2, h3, h4, h5, rfl, hK⟩
theorem Raw.nil (w : World) : Raw w (.slice none 0 0) [] := ⟨none, 0, rfl, Nat.le_refl _, fun _ => rfl, fun _ h => by simp at h, fun _ h => by simp at h⟩
theorem NRow.raw {B : Nat} {w : World} {v : Value} {n : Nat} (h : NRow B w v (nrow n)) : Raw w v (nrow n) := by
  have hh := h.num (K := (nrow n).length) (nrow_fits n) (Nat.le_refl _)
  obtain ⟨A, cap, rfl, h1, h2, h3⟩ := h.at_
  refine ⟨A, cap, rfl, h1, fun hA => ?_, nrow_fits n, h3⟩
  obtain ⟨a', cap', L', e, _, hn, _⟩ := hh
  injection e with e1 _ e3
  rw [e3]
  exact hn (by rw [← e1]; exact hA)

theorem take_eq_step {L M : List Nat} {k : Nat} (h : L.take k = M.take k) (hl : k < L.length) (hm : k < M.length) : (L.take (k + 1) = M.take (k + 1)) ↔ L.getD k 0 = M.getD k 0 := by
  have e1 : L.getD k 0 = L[k] := by rw [List.getD_eq_getElem?_getD, List.getElem?_eq_getElem hl]; rfl
  have e2 : M.getD k 0 = M[k] := by rw [List.getD_eq_getElem?_getD, List.getElem?_eq_getElem hm]; rfl
  rw [List.take_succ_eq_append_getElem hl, List.take_succ_eq_append_getElem hm, h, e1, e2]
  exact ⟨fun e => by have := List.append_cancel_left e; injection this, fun e => by rw [e]⟩
theorem getD_ne {L M : List Nat} {k : Nat} (h : L.getD k 0 ≠ M.getD k 0) : L ≠ M := fun e => h (by rw [e])

def EqRel (L M : List Nat) (w : World) (i : Value) (wr : World) : Prop := ∃ k : Nat, k ≤ L.length ∧ i = .int .i64 (k : Int) ∧ L.take k = M.take k ∧ Below w.heap.size w wr

set_option maxHeartbeats 1000000 in
theorem equal_any (a b : Option Addr) (ca cb : Nat) (L M : List Nat) (w : World) (hl : L.length ≤ 1099511627776) (hL : NatAt w a L) (hM : NatAt w b M) :
    Calls Tryd.prog 64 #[.slice a L.length ca, .slice b M.length cb] w (Just (.bool (decide (L = M))) w) := by
  by_cases hlen : L.length = M.length
  · have HL := Lib.hid hL
    have HM := Lib.hid hM
    have HLEN := Lib.hid hlen
    rw [← hlen]
    clear hL hM hlen
    obtain ⟨N, hN⟩ : ∃ N, N = L.length := ⟨_, rfl⟩
    rw [← hN] at hl ⊢
    have HN := Lib.hid hN
    clear hN
    go_enter Tryd.func64, Tryd.ntmps64
    go_wp2_with fail
    go_loopw [13] (fun i wr => EqRel L M w i wr) (fun i _ => N - (intOf i).toNat)
    case atStart => exact ⟨0, by omega, rfl, rfl, Below.refl _ _⟩
    case round =>
      obtain ⟨k, hk, rfl, ht, hb⟩ := hrel
      have HB := Lib.hid hb
      have HT := Lib.hid ht
      have hkN : k ≤ N := by rw [HN.out]; exact hk
      clear hk ht hb
      by_cases hlt : k < N
      · obtain ⟨b1, o1, rfl, hc1⟩ := HL.out.below HB.out (Nat.le_refl _) k (by have := HN.out; omega)
        obtain ⟨b2, o2, rfl, hc2⟩ := HM.out.below HB.out (Nat.le_refl _) k (by have := HN.out; have := HLEN.out; omega)
        obtain ⟨p, hp⟩ : ∃ p, p = L.getD k 0 := ⟨_, rfl⟩
        obtain ⟨q, hq⟩ : ∃ q, q = M.getD k 0 := ⟨_, rfl⟩
        rw [← hp] at hc1
        rw [← hq] at hc2
        have HP := Lib.hid hp
        have HQ := Lib.hid hq
        have hltI : (k : Int) < (N : Int) := by omega
        clear hp hq
        have HST := Lib.hid (take_eq_step HT.out (by have := HN.out; omega) (by have := HN.out; have := HLEN.out; omega))
        go_wp2_with fail
        by_cases hpq : p = q
        · have hbe : (p : Int) = (q : Int) := by rw [hpq]
          have hne : ((p : Int) != (q : Int)) = false := by simp [hpq]
          have HST2 : Hid (L.take (k + 1) = M.take (k + 1)) := Lib.hid (HST.out.2 (by rw [← HP.out, ← HQ.out, hpq]))
          go_quiet (fail)
          go_wp2_with fail
          go_roundw
          case rel => exact ⟨k + 1, by have := HN.out; omega, by go_num, HST2.out, HB.out.trans ⟨rfl, rfl, rfl, Nat.le_refl _, fun _ _ => rfl⟩⟩
          case measure => simp [intOf]; omega
        · have hbe : ((p : Int) == (q : Int)) = false := by simp; omega
          have hpi : ¬ ((p : Int) = (q : Int)) := by omega
          have HNE : Hid (L ≠ M) := Lib.hid (getD_ne (by rw [← HP.out, ← HQ.out]; exact hpq))
          go_quiet (fail)
          go_wp2_with fail
          go_ret
          exact ⟨by rw [decide_eq_false HNE.out]; rfl, HB.out.trans ⟨rfl, rfl, rfl, Nat.le_refl _, fun _ _ => rfl⟩⟩
      · obtain rfl : k = N := by omega
        have HE : Hid (L = M) := Lib.hid (by
          have h1 := HT.out
          have h2 := HN.out
          have h3 := HLEN.out
          rw [List.take_of_length_le (by omega), List.take_of_length_le (by omega)] at h1
          exact h1)
        go_wp2_with fail
        go_ret
        exact ⟨by rw [decide_eq_true HE.out]; rfl, HB.out⟩
  · have hne : ¬ ((L.length : Int) = (M.length : Int)) := by omega
    have HNE : Hid (L ≠ M) := Lib.hid (fun e => hlen (by rw [e]))
    clear hL hM
    go_enter Tryd.func64, Tryd.ntmps64
    go_wp2_with fail
    go_ret
    exact ⟨by rw [decide_eq_false HNE.out]; rfl, Below.refl _ _⟩

/-- A number as it is written. -/
structure Fr where
  s : Bool
  m : List Nat
  d : List Nat
/-- A number that may be read, as it is written; no row of it is longer than K. -/
def FrAt (K : Nat) (w : World) (x : Fr) (vn vd : Value) : Prop := Raw w vn x.m ∧ Raw w vd x.d ∧ x.m.length ≤ K ∧ x.d.length ≤ K
theorem FrAt.grow {K : Nat} {w w' : World} {x : Fr} {vn vd : Value} (h : FrAt K w x vn vd) (hg : Grow w w') : FrAt K w' x vn vd := ⟨h.1.grow hg, h.2.1.grow hg, h.2.2⟩
theorem FrAt.num {K : Nat} {w : World} {x : Fr} {vn vd : Value} (h : FrAt K w x vn vd) : FrNum K w vn vd (lv x.m) (lv x.d) := ⟨h.1.num h.2.2.1, h.2.1.num h.2.2.2⟩
theorem FrAt.equal {K : Nat} {w : World} {v v' : Value} {L M : List Nat} (h : Raw w v L) (h' : Raw w v' M) (hK : L.length ≤ K) (hK2 : K ≤ 137438953472) :
    Calls Tryd.prog 64 #[v, v'] w (Just (.bool (decide (L = M))) w) := by
  obtain ⟨a, ca, rfl, _, _, _, h1⟩ := h
  obtain ⟨b, cb, rfl, _, _, _, h2⟩ := h'
  exact equal_any a b ca cb L M w (by omega) h1 h2
/-- Are they written in the same way? -/
def sameB (x y : Fr) : Bool := (x.s == y.s && decide (x.m = y.m)) && decide (x.d = y.d)

set_option maxHeartbeats 1000000 in
theorem issame_any {K K' : Nat} {w : World} {x y : Fr} {vn vd un ud : Value} (h : FrAt K w x vn vd) (h' : FrAt K' w y un ud) (hK : K ≤ 137438953472) :
    Calls Tryd.prog 50 #[.agg #[.bool x.s, vn, vd], .agg #[.bool y.s, un, ud]] w (Just (.bool (sameB x y)) w) := by
  have HE1 := Lib.hid (fun W (hW : Grow w W) => FrAt.equal (h.grow hW).1 (h'.grow hW).1 h.2.2.1 hK)
  have HE2 := Lib.hid (fun W (hW : Grow w W) => FrAt.equal (h.grow hW).2.1 (h'.grow hW).2.1 h.2.2.2 hK)
  obtain ⟨⟨a, ca, rfl, _, _, _, _⟩, ⟨b, cb, rfl, _, _, _, _⟩, _⟩ := h
  obtain ⟨⟨a', ca', rfl, _, _, _, _⟩, ⟨b', cb', rfl, _, _, _, _⟩, _⟩ := h'
  obtain ⟨s, L, D⟩ := x
  obtain ⟨s', M, E⟩ := y
  dsimp only at *
  obtain ⟨W1, hW1⟩ : ∃ W1, W1 = (w.alloc (.cells #[.bool s, .slice a L.length ca, .slice b D.length cb] 33)).alloc (.cells #[.bool s', .slice a' M.length ca', .slice b' E.length cb'] 33) := ⟨_, rfl⟩
  have b0 : BlkOf W1 w.heap.size #[.bool s, .slice a L.length ca, .slice b D.length cb] 33 := by rw [hW1]; exact (BlkOf.new w _ _).alloc _
  have b1 : BlkOf W1 (w.heap.size + 1) #[.bool s', .slice a' M.length ca', .slice b' E.length cb'] 33 := by rw [hW1]; exact BlkOf.news (by simp) _ _
  have hbw : Grow w W1 := by rw [hW1]; exact ((Below.refl _ w).alloc (Nat.le_refl _) _).alloc (by simp) _
  have HBL := Lib.hid (And.intro b0 b1)
  have HBW := Lib.hid hbw
  unfold sameB
  dsimp only
  subst hW1
  clear b0 b1 hbw
  have hs : s = s' ∨ (s = true ∧ s' = false) ∨ (s = false ∧ s' = true) := by cases s <;> cases s' <;> simp
  rcases hs with rfl | ⟨rfl, rfl⟩ | ⟨rfl, rfl⟩
  · obtain ⟨p, hp⟩ : ∃ p, p = decide (L = M) := ⟨_, rfl⟩
    obtain ⟨q, hq⟩ : ∃ q, q = decide (D = E) := ⟨_, rfl⟩
    have HE1' := HE1.out
    have HE2' := HE2.out
    rw [← hp] at HE1' ⊢
    rw [← hq] at HE2' ⊢
    have H1 := Lib.hid HE1'
    have H2 := Lib.hid HE2'
    clear HE1 HE2 HE1' HE2' hp hq
    cases p with
    | true =>
      go_enter Tryd.func50, Tryd.ntmps50
      go_wp2_with (first | (go_at_call 64; refine (H1.out _ HBW.out).mono ?_) | fail)
      rintro e w1 ⟨rfl, hb1⟩
      have b0 := HBL.out.1.below hb1 HBL.out.1.lt
      have b1 := HBL.out.2.below hb1 HBL.out.2.lt
      have HG := Lib.hid (HBW.out.trans hb1)
      have c0 := b0.at 0 rfl
      have c1 := b0.at 1 rfl
      have c2 := b0.at 2 rfl
      have c3 := b1.at 0 rfl
      have c4 := b1.at 1 rfl
      have c5 := b1.at 2 rfl
      clear hb1
      go_wp2_with (first | (go_at_call 64; refine (H2.out _ HG.out).mono ?_; rintro e w2 ⟨rfl, hb2⟩) | fail)
      go_ret
      rename_i w2 hb2
      exact ⟨by simp, HG.out.trans hb2⟩
    | false =>
      go_enter Tryd.func50, Tryd.ntmps50
      go_wp2_with (first | (go_at_call 64; refine (H1.out _ HBW.out).mono ?_) | fail)
      rintro e w1 ⟨rfl, hb1⟩
      have HG := Lib.hid (HBW.out.trans hb1)
      clear hb1
      go_wp2_with fail
      go_ret
      exact ⟨by simp, HG.out⟩
  all_goals
    go_enter Tryd.func50, Tryd.ntmps50
    go_wp2_with fail
    go_ret
    exact ⟨rfl, HBW.out⟩

/-- Is it normal? -/
def normB (x : Fr) : Bool := okF (lv x.m) (lv x.d) && sameB ⟨rdS x.s (lv x.m), nrow (rdN (lv x.m) (lv x.d)), nrow (rdD (lv x.m) (lv x.d))⟩ x

theorem isindex_any (i n : Int) (w : World) (hi : -9223372036854775808 ≤ i ∧ i ≤ 9223372036854775807) (hn : -9223372036854775808 ≤ n ∧ n ≤ 9223372036854775807) :
    Calls Tryd.prog 46 #[.int .i64 i, .int .i64 n] w (Same (.bool (decide (0 ≤ i) && decide (i < n))) w) := by
  obtain ⟨i1, i2⟩ := hi
  obtain ⟨n1, n2⟩ := hn
  by_cases h : 0 ≤ i
  · have hd : decide (0 ≤ i) = true := by simp [h]
    rw [hd]
    go_enter Tryd.func46, Tryd.ntmps46
    go_wp2_with fail
    go_ret
    exact ⟨by simp, rfl⟩
  · have hd : decide (0 ≤ i) = false := by simp; omega
    rw [hd]
    go_enter Tryd.func46, Tryd.ntmps46
    go_wp2_with fail
    go_ret
    exact ⟨by simp, rfl⟩
end Go.Proofs.YtofpcdjoljjnoaaDoor

namespace Go.Proofs.YtofpcdjoljjnoaaDoor
open Go.RowKit

set_option maxHeartbeats 1000000 in
theorem isnormal_any {K : Nat} {w : World} {x : Fr} {vn vd : Value} (h : FrAt K w x vn vd) (hK : K ≤ 137438953472) :
    Calls Tryd.prog 73 #[.agg #[.bool x.s, vn, vd]] w (Just (.bool (normB x)) w) := by
  obtain ⟨W1, hW1⟩ : ∃ W1, W1 = w.alloc (.cells #[.bool x.s, vn, vd] 33) := ⟨_, rfl⟩
  have b0 : BlkOf W1 w.heap.size #[.bool x.s, vn, vd] 33 := by rw [hW1]; exact BlkOf.new w _ _
  have hbw : Grow w W1 := by rw [hW1]; exact (Below.refl _ w).alloc (Nat.le_refl _) _
  have HN := Lib.hid (fnorm_any x.s (h.grow hbw).num hK)
  have HB := Lib.hid b0
  have HBW := Lib.hid hbw
  have H := Lib.hid h
  obtain ⟨⟨a, ca, rfl, _, _, _, _⟩, ⟨b, cb, rfl, _, _, _, _⟩, _⟩ := h
  obtain ⟨s, L, D⟩ := x
  dsimp only at *
  obtain ⟨p, hp⟩ : ∃ p, p = normB ⟨s, L, D⟩ := ⟨_, rfl⟩
  have HP := Lib.hid hp
  rw [← hp]
  subst hW1
  clear b0 hbw hp
  go_enter Tryd.func73, Tryd.ntmps73
  go_wp2_with (first | (go_at_call 22; refine HN.out.mono ?_) | fail)
  rintro e w1 (⟨hok, v, rfl, ⟨x, c, y, e', rfl, hx, hy⟩, hb1⟩ | ⟨hok, rfl, hb1⟩)
  · have hb0 := HB.out.below hb1 HB.out.lt
    have hbw1 : Grow w w1 := HBW.out.trans hb1
    have hpe : p = sameB ⟨rdS s (lv L), nrow (rdN (lv L) (lv D)), nrow (rdD (lv L) (lv D))⟩ ⟨s, L, D⟩ := by
      rw [HP.out]; unfold normB; dsimp only; rw [hok, Bool.true_and]
    obtain ⟨hsn, hsd, h0⟩ := okF_iff.1 hok
    have sN : (nrow (rdN (lv L) (lv D))).length ≤ 2048 := short_le (Nat.div_le_self _ _) hsn
    have sE : (nrow (rdD (lv L) (lv D))).length ≤ 2048 := short_le (Nat.div_le_self _ _) hsd
    generalize rdN (lv L) (lv D) = N at *
    generalize rdD (lv L) (lv D) = E at *
    generalize rdS s (lv L) = S at *
    unfold frV
    obtain ⟨W2, hW2⟩ : ∃ W2, W2 = w1.alloc (.cells #[.bool S, .slice x (nrow N).length c, .slice y (nrow E).length e'] 33) := ⟨_, rfl⟩
    have hg2 : Grow w1 W2 := by rw [hW2]; exact (Below.refl _ w1).alloc (Nat.le_refl _) _
    have hbw2 : Grow w W2 := Grow.trans hbw1 hg2
    have b2 := hb0.below hg2 hb0.lt
    have hfa : FrAt 2048 W2 ⟨S, nrow N, nrow E⟩ (.slice x (nrow N).length c) (.slice y (nrow E).length e') := ⟨hx.raw.grow hg2, hy.raw.grow hg2, sN, sE⟩
    have hs := issame_any hfa (H.out.grow hbw2) (by omega)
    rw [← hpe] at hs
    have HS := Lib.hid hs
    have HG := Lib.hid hbw2
    have HPE := Lib.hid hpe
    have c0 := hb0.at 0 rfl
    have c1 := hb0.at 1 rfl
    have c2 := hb0.at 2 rfl
    have c3 := b2.at 0 rfl
    have c4 := b2.at 1 rfl
    have c5 := b2.at 2 rfl
    subst hW2
    clear hs hfa hx hy hok hsn hsd h0 sN sE hpe
    go_wp2_with (first | (go_at_call 50; refine HS.out.mono ?_; rintro e w3 ⟨rfl, hb3⟩) | fail)
    go_ret
    rename_i w3 hb3
    exact ⟨by simp, HG.out.trans hb3⟩
  · have hbw1 : Grow w w1 := HBW.out.trans hb1
    have HPF : Hid (p = false) := Lib.hid (by rw [HP.out]; unfold normB; dsimp only; rw [hok, Bool.false_and])
    have HG := Lib.hid (hbw1.trans (Grow.alloc w1 (.cells #[.bool false, .slice none 0 0, .slice none 0 0] 33)))
    clear hok hb1 hbw1
    go_wp2_with fail
    go_ret
    exact ⟨by rw [HPF.out]; rfl, HG.out⟩

/-- Is C what it should be for such a field? -/
def writtenB (f : Nat) (x : Fr) : Bool := if f = 1 then normB x else sameB x ⟨false, [], []⟩

set_option maxHeartbeats 1000000 in
theorem iswritten_any {K f : Nat} {fi : Int} {w : World} {x : Fr} {vn vd : Value} (hfi : fi = (f : Int)) (h : FrAt K w x vn vd) (hK : K ≤ 137438953472) :
    Calls Tryd.prog 63 #[.int .u8 fi, .agg #[.bool x.s, vn, vd]] w (Just (.bool (writtenB f x)) w) := by
  obtain ⟨W1, hW1⟩ : ∃ W1, W1 = w.alloc (.cells #[.bool x.s, vn, vd] 33) := ⟨_, rfl⟩
  have hbw : Grow w W1 := by rw [hW1]; exact (Below.refl _ w).alloc (Nat.le_refl _) _
  have HN := Lib.hid (isnormal_any (h.grow hbw) hK)
  have HS := Lib.hid (issame_any (K' := 0) (y := ⟨false, [], []⟩) (h.grow hbw) ⟨Raw.nil _, Raw.nil _, Nat.le_refl _, Nat.le_refl _⟩ hK)
  have HBW := Lib.hid hbw
  obtain ⟨⟨a, ca, rfl, _, _, _, _⟩, ⟨b, cb, rfl, _, _, _, _⟩, _⟩ := h
  obtain ⟨s, L, D⟩ := x
  dsimp only at *
  subst hW1
  clear hbw
  subst hfi
  unfold writtenB
  by_cases h1 : f = 1
  · subst h1
    rw [if_pos rfl]
    go_enter Tryd.func63, Tryd.ntmps63
    go_wp2_with (first | (go_at_call 73; refine HN.out.mono ?_; rintro e w3 ⟨rfl, hb3⟩) | fail)
    go_ret
    rename_i w3 hb3
    exact ⟨rfl, HBW.out.trans hb3⟩
  · rw [if_neg h1]
    have hne : ¬ ((f : Int) = 1) := by omega
    have hnb : ((f : Int) == 1) = false := by simp; omega
    go_enter Tryd.func63, Tryd.ntmps63
    go_wp2_with (first | (go_at_call 50; refine HS.out.mono ?_; rintro e w3 ⟨rfl, hb3⟩) | fail)
    go_ret
    rename_i w3 hb3
    exact ⟨rfl, HBW.out.trans hb3⟩

/-- The table of the Ops' fields, three for each. -/
def fldL : List Nat := [0, 0, 0, 0, 0, 1, 2, 0, 0, 3, 3, 0, 3, 3, 0, 3, 3, 0, 3, 3, 0, 3, 0, 0, 3, 0, 0, 3, 0, 0, 3, 0, 0, 3, 0, 0]
def fld (op j : Nat) : Nat := fldL.getD (op * 3 + j) 0
/-- The table, as it lies. -/
def Tab (w : World) : Prop := ∀ i < 36, w.cell? ⟨0, i, none⟩ = some (.int .u8 ((fldL.getD i 0 : Nat) : Int))
theorem Tab.lt {w : World} (h : Tab w) : 0 < w.heap.size := World.block_lt_of_cell? w _ (h 0 (by omega))
theorem Tab.grow {w w' : World} (h : Tab w) (hg : Grow w w') : Tab w' := fun i hi => (hg.cell (p := ⟨0, i, none⟩) h.lt).trans (h i hi)
theorem fld_kinds (op : Nat) : (fld op 0 = 0 ∧ fld op 1 = 0 ∧ fld op 2 = 0) ∨ (fld op 0 = 0 ∧ fld op 1 = 0 ∧ fld op 2 = 1) ∨ (fld op 0 = 2 ∧ fld op 1 = 0 ∧ fld op 2 = 0) ∨ (fld op 0 = 3 ∧ fld op 1 = 3 ∧ fld op 2 = 0) ∨ (fld op 0 = 3 ∧ fld op 1 = 0 ∧ fld op 2 = 0) := by
  by_cases h : op < 12
  · have : ∀ op, op < 12 → ((fld op 0 = 0 ∧ fld op 1 = 0 ∧ fld op 2 = 0) ∨ (fld op 0 = 0 ∧ fld op 1 = 0 ∧ fld op 2 = 1) ∨ (fld op 0 = 2 ∧ fld op 1 = 0 ∧ fld op 2 = 0) ∨ (fld op 0 = 3 ∧ fld op 1 = 3 ∧ fld op 2 = 0) ∨ (fld op 0 = 3 ∧ fld op 1 = 0 ∧ fld op 2 = 0)) := by decide
    exact this op h
  · have hz : ∀ j, fld op j = 0 := fun j => by
      unfold fld
      rw [List.getD_eq_getElem?_getD, List.getElem?_eq_none (by simp [fldL]; omega)]
      rfl
    exact .inl ⟨hz 0, hz 1, hz 2⟩
theorem fld_none {op : Nat} (h : 12 ≤ op) (j : Nat) : fld op j = 0 := by
  unfold fld
  rw [List.getD_eq_getElem?_getD, List.getElem?_eq_none (by simp [fldL]; omega)]
  rfl
/-- The fields of an Op as a value. -/
def fldV (op : Nat) : Value := .agg #[.int .u8 ((fld op 0 : Nat) : Int), .int .u8 ((fld op 1 : Nat) : Int), .int .u8 ((fld op 2 : Nat) : Int)]

set_option maxHeartbeats 1000000 in
theorem fieldsof_any {w : World} (op : Nat) (hop : op < 256) (ht : Tab w) : Calls Tryd.prog 34 #[.int .u8 (op : Int)] w (Just (fldV op) w) := by
  by_cases h : op < 12
  · have htl := ht.lt
    have e0 := ht (op * 3) (by omega)
    have e1 := ht (op * 3 + 1) (by omega)
    have e2 := ht (op * 3 + 2) (by omega)
    unfold fldV
    rw [show fldL.getD (op * 3) 0 = fld op 0 from rfl] at e0
    rw [show fldL.getD (op * 3 + 1) 0 = fld op 1 from rfl] at e1
    rw [show fldL.getD (op * 3 + 2) 0 = fld op 2 from rfl] at e2
    generalize fld op 0 = p at *
    generalize fld op 1 = q at *
    generalize fld op 2 = r at *
    have hltI : (op : Int) < 12 := by omega
    clear ht
    go_enter Tryd.func34, Tryd.ntmps34
    go_wp2_with fail
    refine post_cell rfl (g := w.heap.size) rfl (BlkOf.new w _ _) Tryd.underlying77 rfl (by kernel_rfl) ?_
    exact ⟨rfl, Grow.alloc w _⟩
  · unfold fldV
    rw [fld_none (by omega) 0, fld_none (by omega) 1, fld_none (by omega) 2]
    have hltI : ¬ ((op : Int) < 12) := by omega
    clear ht
    go_enter Tryd.func34, Tryd.ntmps34
    go_wp2_with fail
    refine post_cell rfl (g := w.heap.size) rfl (BlkOf.new w _ _) Tryd.underlying77 rfl (by kernel_rfl) ?_
    exact ⟨rfl, Grow.alloc w _⟩

/-- An int. -/
abbrev I64 (i : Int) : Prop := -9223372036854775808 ≤ i ∧ i ≤ 9223372036854775807
/-- Is A or B what it should be for such a field? -/
def isB (f : Nat) (x steps pars : Int) : Bool := if f = 3 then decide (0 ≤ x) && decide (x < steps) else if f = 2 then decide (0 ≤ x) && decide (x < pars) else decide (x = 0)

set_option maxHeartbeats 1000000 in
theorem is_any {w : World} {f : Nat} {fi x steps pars : Int} {p q : Nat} (hf : fi = (f : Int)) (hx : I64 x) (hs : I64 steps) (hp : I64 pars) (c1 : w.cell? ⟨p, 0, none⟩ = some (.int .i64 steps)) (c2 : w.cell? ⟨q, 0, none⟩ = some (.int .i64 pars)) :
    Calls Tryd.prog 62 #[.int .u8 fi, .int .i64 x, .pointer (some ⟨p, 0, none⟩), .pointer (some ⟨q, 0, none⟩)] w (Same (.bool (isB f x steps pars)) w) := by
  have H1 := Lib.hid (isindex_any x steps w hx hs)
  have H2 := Lib.hid (isindex_any x pars w hx hp)
  subst hf
  unfold isB
  by_cases h3 : f = 3
  · subst h3
    rw [if_pos rfl]
    go_enter Tryd.func62, Tryd.ntmps62
    go_wp2_with (first | (go_at_call 46; refine H1.out.mono ?_; rintro e w3 ⟨rfl, rfl⟩) | fail)
    go_ret
    exact ⟨rfl, rfl⟩
  · rw [if_neg h3]
    have n3 : ¬ ((f : Int) = 3) := by omega
    by_cases h2 : f = 2
    · subst h2
      rw [if_pos rfl]
      go_enter Tryd.func62, Tryd.ntmps62
      go_wp2_with (first | (go_at_call 46; refine H2.out.mono ?_; rintro e w3 ⟨rfl, rfl⟩) | fail)
      go_ret
      exact ⟨rfl, rfl⟩
    · rw [if_neg h2]
      have n2 : ¬ ((f : Int) = 2) := by omega
      go_enter Tryd.func62, Tryd.ntmps62
      go_wp2_with fail
      go_ret
      exact ⟨by first | rfl | simp, rfl⟩

/-- A step. -/
structure Nd where
  op : Nat
  a : Int
  b : Int
  c : Fr
/-- A step as a value. -/
def ndV (x : Nd) (vn vd : Value) : Value := .agg #[.int .u8 (x.op : Int), .int .i64 x.a, .int .i64 x.b, .bool x.c.s, vn, vd]
/-- A step that may be read. -/
def NdOK (K : Nat) (w : World) (x : Nd) (vn vd : Value) : Prop := x.op < 256 ∧ I64 x.a ∧ I64 x.b ∧ FrAt K w x.c vn vd
/-- Is a step valid? -/
def stepB (x : Nd) (steps pars : Int) : Bool :=
  !(decide (fld x.op 0 = 0) && (decide (fld x.op 1 = 0) && decide (fld x.op 2 = 0))) && (isB (fld x.op 0) x.a steps pars && (isB (fld x.op 1) x.b steps pars && writtenB (fld x.op 2) x.c))

set_option maxRecDepth 100000 in
set_option maxHeartbeats 2000000 in
theorem isstep_any {K : Nat} {w : World} {x : Nd} {vn vd : Value} {steps pars : Int} (h : NdOK K w x vn vd) (hK : K ≤ 137438953472) (hs : I64 steps) (hp : I64 pars) (ht : Tab w) :
    Calls Tryd.prog 45 #[ndV x vn vd, .int .i64 steps, .int .i64 pars] w (Just (.bool (stepB x steps pars)) w) := by
  have hmf : ∀ (fn : Fn) (first cap : Array Value) (w : World), (Instr.makeFunc fn first cap).run Tryd.prog w = .ok (.func fn first cap) w := fun _ _ _ _ => rfl
  obtain ⟨op, a, b, ⟨s, L, D⟩⟩ := x
  obtain ⟨hop, ha, hb, hc⟩ := h
  unfold ndV
  dsimp only at *
  obtain ⟨W1, hW1⟩ : ∃ W1, W1 = ((w.alloc (.cells #[.int .u8 (op : Int), .int .i64 a, .int .i64 b, .bool s, vn, vd] 56)).alloc (.cells #[.int .i64 steps] 3)).alloc (.cells #[.int .i64 pars] 3) := ⟨_, rfl⟩
  obtain ⟨b0, b1, b2, hsz, hbw⟩ := three_new rfl _ _ _ _ _ _ hW1
  have HF := Lib.hid (fieldsof_any op hop (ht.grow hbw))
  have HBL := Lib.hid (And.intro b0 (And.intro b1 b2))
  have HBW := Lib.hid hbw
  have HSZ := Lib.hid hsz
  have HC := Lib.hid hc
  have HI := Lib.hid (And.intro ha (And.intro hb (And.intro hs hp)))
  obtain ⟨⟨an, cn, rfl, _, _, _, _⟩, ⟨ad, cd, rfl, _, _, _, _⟩, _⟩ := hc
  obtain ⟨r, hr⟩ : ∃ r, r = stepB ⟨op, a, b, s, L, D⟩ steps pars := ⟨_, rfl⟩
  have HR := Lib.hid hr
  rw [← hr]
  unfold fldV at HF
  have HK := fld_kinds op
  unfold stepB at hr
  dsimp only at hr HC
  generalize fld op 0 = f0 at *
  generalize fld op 1 = f1 at *
  generalize fld op 2 = f2 at *
  have HF2 := Lib.hid HF.out
  subst hW1
  clear b0 b1 b2 hsz hbw HF
  have HI1 := Lib.hid (fun (W : World) (c1 : W.cell? ⟨w.heap.size + 1, 0, none⟩ = some (.int .i64 steps)) (c2 : W.cell? ⟨w.heap.size + 1 + 1, 0, none⟩ = some (.int .i64 pars)) (fi : Int) (hfi : fi = (f0 : Int)) => is_any (f := f0) hfi ha hs hp c1 c2)
  have HI2 := Lib.hid (fun (W : World) (c1 : W.cell? ⟨w.heap.size + 1, 0, none⟩ = some (.int .i64 steps)) (c2 : W.cell? ⟨w.heap.size + 1 + 1, 0, none⟩ = some (.int .i64 pars)) (fi : Int) (hfi : fi = (f1 : Int)) => is_any (f := f1) hfi hb hs hp c1 c2)
  have HI3 := Lib.hid (fun W (hW : Grow w W) (fi : Int) (hfi : fi = (f2 : Int)) => iswritten_any (f := f2) hfi (HC.out.grow hW) hK)
  have hrr : (decide (f0 = 0) && (decide (f1 = 0) && decide (f2 = 0))) = true ∨ (decide (f0 = 0) && (decide (f1 = 0) && decide (f2 = 0))) = false ∧ r = (isB f0 a steps pars && (isB f1 b steps pars && writtenB f2 ⟨s, L, D⟩)) := by
    cases hx : (decide (f0 = 0) && (decide (f1 = 0) && decide (f2 = 0))) with
    | true => exact .inl rfl
    | false => rw [hx] at hr; exact .inr ⟨rfl, by rw [hr]; rfl⟩
  obtain ⟨p, hp'⟩ : ∃ p, p = isB f0 a steps pars := ⟨_, rfl⟩
  obtain ⟨q, hq'⟩ : ∃ q, q = isB f1 b steps pars := ⟨_, rfl⟩
  obtain ⟨t, ht'⟩ : ∃ t, t = writtenB f2 ⟨s, L, D⟩ := ⟨_, rfl⟩
  have HJ1 := HI1.out
  have HJ2 := HI2.out
  have HJ3 := HI3.out
  dsimp only at HJ3
  rw [← hp'] at HJ1 hrr
  rw [← hq'] at HJ2 hrr
  rw [← ht'] at HJ3 hrr
  have K1 := Lib.hid HJ1
  have K2 := Lib.hid HJ2
  have K3 := Lib.hid HJ3
  clear HI1 HI2 HI3 HJ1 HJ2 HJ3 hp' hq' ht'
  rcases HK with ⟨rfl, rfl, rfl⟩ | ⟨rfl, rfl, rfl⟩ | ⟨rfl, rfl, rfl⟩ | ⟨rfl, rfl, rfl⟩ | ⟨rfl, rfl, rfl⟩
  · have HRF : Hid (r = false) := Lib.hid (by rw [hr]; rfl)
    clear hr
    go_enter Tryd.func45, Tryd.ntmps45
    go_wp2_with (first | (go_at_call 34; refine HF2.out.mono ?_) | fail)
    rintro e w1 ⟨rfl, hb1⟩
    have HG := Lib.hid ((HBW.out.trans (hb1.mono HBW.out.size)).trans (Grow.alloc w1 (.cells #[.int .u8 0, .int .u8 0, .int .u8 0] 77) |>.mono (HBW.out.trans (hb1.mono HBW.out.size)).size))
    go_wp2_with fail
    go_ret
    exact ⟨by rw [HRF.out]; rfl, HG.out⟩
  all_goals
    have hrq : r = (p && (q && t)) := by
      rcases hrr with h | ⟨_, h⟩
      · exact absurd h (by decide)
      · exact h
    have HRQ := Lib.hid hrq
    clear hr hrr hrq
    go_enter Tryd.func45, Tryd.ntmps45
    go_wp2_with (first | (go_at_call 34; refine HF2.out.mono ?_) | fail)
    rintro e w1 ⟨rfl, hb1⟩
    have d0 := HBL.out.1.below hb1 HBL.out.1.lt
    have d1 := HBL.out.2.1.below hb1 HBL.out.2.1.lt
    have d2 := HBL.out.2.2.below hb1 HBL.out.2.2.lt
    have hg1 := HBW.out.trans (hb1.mono HBW.out.size)
    have c00 := fun o => (d0.alloc o).at 0 rfl
    have c01 := fun o => (d0.alloc o).at 1 rfl
    have c02 := fun o => (d0.alloc o).at 2 rfl
    have c03 := fun o => (d0.alloc o).at 3 rfl
    have c04 := fun o => (d0.alloc o).at 4 rfl
    have c05 := fun o => (d0.alloc o).at 5 rfl
    have KK1 := fun o => K1.out (w1.alloc o) ((d1.alloc o).at 0 rfl) ((d2.alloc o).at 0 rfl)
    have KK2 := fun o => K2.out (w1.alloc o) ((d1.alloc o).at 0 rfl) ((d2.alloc o).at 0 rfl)
    have KK3 := fun o => K3.out (w1.alloc o) (Grow.trans hg1 (Grow.alloc w1 o))
    have M1 := Lib.hid KK1
    have M2 := Lib.hid KK2
    have M3 := Lib.hid KK3
    have HG := Lib.hid (fun o => (Grow.trans hg1 (Grow.alloc w1 o) : Grow w (w1.alloc o)))
    clear KK1 KK2 KK3 d0 d1 d2 hg1 hb1
    cases p with
    | false =>
      go_wp2_with (first | (go_at_call 62; (with_reducible refine (M1.out _ _ (by simp)).mono ?_); rintro e w3 ⟨rfl, rfl⟩) | fail)
      go_ret
      exact ⟨by rw [HRQ.out]; rfl, HG.out _⟩
    | true =>
      cases q with
      | false =>
        go_wp2_with (first
          | (go_at_call 62; (with_reducible refine (M1.out _ _ (by simp)).mono ?_); rintro e w3 ⟨rfl, rfl⟩)
          | (go_at_call 62; (with_reducible refine (M2.out _ _ (by simp)).mono ?_); rintro e w3 ⟨rfl, rfl⟩)
          | fail)
        go_ret
        exact ⟨by rw [HRQ.out]; rfl, HG.out _⟩
      | true =>
        go_wp2_with (first
          | (go_at_call 62; (with_reducible refine (M1.out _ _ (by simp)).mono ?_); rintro e w3 ⟨rfl, rfl⟩)
          | (go_at_call 62; (with_reducible refine (M2.out _ _ (by simp)).mono ?_); rintro e w3 ⟨rfl, rfl⟩)
          | (go_at_call 63; (with_reducible refine (M3.out _ _ (by simp)).mono ?_); rintro e w3 ⟨rfl, hb3⟩)
          | fail)
        go_ret
        rename_i w3 hb3
        exact ⟨by rw [HRQ.out]; simp, (HG.out _).trans hb3⟩
end Go.Proofs.YtofpcdjoljjnoaaDoor

namespace Go.Proofs.YtofpcdjoljjnoaaDoor
open Go.RowKit Go.Maps

/-- A key: what a step is. -/
structure Ky where
  op : Nat
  a : Int
  b : Int
  t : List UInt8
  deriving DecidableEq
def kyV (k : Ky) : Value := .agg #[.int .u8 (k.op : Int), .int .i64 k.a, .int .i64 k.b, .string (mk k.t)]
def KyOK (k : Ky) : Prop := k.op < 256 ∧ I64 k.a ∧ I64 k.b ∧ k.t.length ≤ 1048576

set_option maxRecDepth 100000
theorem laidOutK : laidOutB Tryd.prog = true := by kernel_rfl
theorem typesK : 2 ≤ Tryd.prog.types.size := of_decide_eq_true (by kernel_rfl)
theorem deepK : Tryd.prog.keyTypeAt 3 94 = true := by kernel_rfl
theorem deepK2 : Tryd.prog.keyType 94 = true := by kernel_rfl
theorem rowK : 94 < Tryd.prog.types.size := of_decide_eq_true (by kernel_rfl)
theorem wideK : (match Tryd.prog.underlying 94 with | some (.array _ _) | some (.struct _) => true | _ => false) = true := by kernel_rfl
theorem lawK : Go.WideMaps.KeyLaw Tryd.prog 94 := deep_law_laid laidOutK (m := 3) (by omega) rowK deepK wideK
theorem keyedK : Keyed Tryd.prog 94 := Keyed.of_law lawK
theorem cellsK : Tryd.prog.cellsOf 94 = 4 := by kernel_rfl
theorem cellsU : Tryd.prog.cellsOf 5 = 1 := by kernel_rfl
theorem cellsI : Tryd.prog.cellsOf 3 = 1 := by kernel_rfl
theorem cellsS : Tryd.prog.cellsOf 9 = 1 := by kernel_rfl

theorem keyOf_four {P : Program} {k a b c : TypeId} {f0 f1 f2 f3 : Field} {fs : Array Field} (hk : P.underlying k = some (.struct fs)) (hfs : fs.toList = [f0, f1, f2, f3]) (h0 : f0.type = a) (h1 : f1.type = b) (h2 : f2.type = b) (h3 : f3.type = c)
    (o0 : f0.offset = 0) (o1 : f1.offset = 1) (o2 : f2.offset = 2) (o3 : f3.offset = 3) (n0 : (f0.name != "_") = true) (n1 : (f1.name != "_") = true) (n2 : (f2.name != "_") = true) (n3 : (f3.name != "_") = true)
    (ha : P.underlying a = some (.int .u8)) (hb : P.underlying b = some (.int .i64)) (hc : P.underlying c = some .string) (ck : P.cellsOf k = 4) (ca : P.cellsOf a = 1) (cb : P.cellsOf b = 1) (cc : P.cellsOf c = 1) (hkt : P.keyType k = true) (hn : 2 ≤ P.types.size)
    {x : Ky} (hx : KyOK x) : ∃ l, keyOf P k (kyV x) = some l := by
  obtain ⟨n, hn⟩ : ∃ n, P.types.size = n + 2 := ⟨P.types.size - 2, by omega⟩
  obtain ⟨hop, ⟨a1, a2⟩, ⟨b1, b2⟩, ht⟩ := hx
  have w0 : (Lit.int .u8 (x.op : Int)).wf = true := by
    simp [Lit.wf, IntKind.min, IntKind.max, IntKind.signed, IntKind.bits]; omega
  have w1 : (Lit.int .i64 x.a).wf = true := by
    simp [Lit.wf, IntKind.min, IntKind.max, IntKind.signed, IntKind.bits]; omega
  have w2 : (Lit.int .i64 x.b).wf = true := by
    simp [Lit.wf, IntKind.min, IntKind.max, IntKind.signed, IntKind.bits]; omega
  have w3 : (mk x.t).size ≤ maxLen := by rw [mk_size]; unfold maxLen; omega
  have hall : fs.all (fun f => f.name != "_") = true := by
    rw [← Array.all_toList, hfs]; simp only [List.all_cons, List.all_nil, n0, n1, n2, n3, Bool.and_self]
  unfold keyOf
  rw [hk]
  have e0 : Value.formed P k (kyV x) = true := by simp [kyV, Value.formed, hk, ck]
  have e1 : P.keyLits (n + 2) a [.int .u8 (x.op : Int)] = some [.int .u8 (x.op : Int)] := by simp [Program.keyLits, ha, w0]
  have e2 : P.keyLits (n + 2) b [.int .i64 x.a] = some [.int .i64 x.a] := by simp [Program.keyLits, hb, w1]
  have e3 : P.keyLits (n + 2) b [.int .i64 x.b] = some [.int .i64 x.b] := by simp [Program.keyLits, hb, w2]
  have e4 : P.keyLits (n + 2) c [.string (mk x.t)] = some [.string (mk x.t).data.toList] := by simp [Program.keyLits, hc, w3]
  have e5 : P.keyLits (n + 2 + 1) k [.int .u8 (x.op : Int), .int .i64 x.a, .int .i64 x.b, .string (mk x.t)] = some [.int .u8 (x.op : Int), .int .i64 x.a, .int .i64 x.b, .string (mk x.t).data.toList] := by
    unfold Program.keyLits
    simp only [hk]
    simp [ck, hall, hfs, h0, h1, h2, h3, o0, o1, o2, o3, ca, cb, cc, e1, e2, e3, e4]
  rw [hn]
  unfold kyV at e0 ⊢
  simp [hkt, e0, Value.cells, e5]
theorem key_reads {x : Ky} (hx : KyOK x) : ∃ l, keyOf Tryd.prog 94 (kyV x) = some l :=
  keyOf_four Tryd.underlying94 rfl rfl rfl rfl rfl rfl rfl rfl rfl (by decide) (by decide) (by decide) (by decide) Tryd.underlying5 Tryd.underlying3 Tryd.underlying9 cellsK cellsU cellsI cellsS deepK2 typesK hx
theorem zeroI (w : World) : (zeroValue 3).run Tryd.prog w = .ok (.int .i64 0) w := by kernel_rfl
theorem kyV_inj {x y : Ky} (h : kyV x = kyV y) : x = y := by
  unfold kyV at h
  obtain ⟨op, a, b, t⟩ := x
  obtain ⟨op', a', b', t'⟩ := y
  simp only [Value.agg.injEq, Array.mk.injEq, List.cons.injEq, Value.int.injEq, true_and, Value.string.injEq, and_true] at h
  obtain ⟨h1, h2, h3, h4⟩ := h
  have h5 : t = t' := by
    have := congrArg ByteArray.toList h4
    rwa [mk_toL, mk_toL] at this
  have h6 : op = op' := by omega
  rw [h6, h2, h3, h5]

/-- A map's block: the keys of a row of steps, each with its place. -/
def MapIn (w : World) (b : Nat) (L : List Ky) : Prop :=
  ∃ es clock, w.heap[b]? = some (.map es clock) ∧ es.toList.map (fun e => (e.key, e.val)) = L.zipIdx.map (fun x => (kyV x.1, .int .i64 ((x.2 : Nat) : Int))) ∧ ∀ x ∈ L, KyOK x
theorem MapIn.made (w : World) : MapIn (w.alloc (.map #[] 0)) w.heap.size [] := ⟨#[], 0, World.alloc_heap_new w _, rfl, by simp⟩
theorem MapIn.lt {w : World} {b : Nat} {L : List Ky} (h : MapIn w b L) : b < w.heap.size := by
  obtain ⟨es, clock, hb, _⟩ := h
  exact (Array.getElem?_eq_some_iff.1 hb).1
theorem MapIn.of_block {w w' : World} {b : Nat} {L : List Ky} (h : MapIn w b L) (e : w'.heap[b]? = w.heap[b]?) : MapIn w' b L := by
  obtain ⟨es, clock, hb, h2⟩ := h
  exact ⟨es, clock, e.trans hb, h2⟩
theorem MapIn.keys {es : Array MapEntry} {L : List Ky} (h : es.toList.map (fun e => (e.key, e.val)) = L.zipIdx.map (fun x => (kyV x.1, .int .i64 ((x.2 : Nat) : Int)))) (hs : ∀ x ∈ L, KyOK x) :
    ∀ e ∈ es.toList, ∃ l, keyOf Tryd.prog 94 e.key = some l := by
  intro e he
  have : (e.key, e.val) ∈ L.zipIdx.map (fun x => (kyV x.1, Value.int .i64 ((x.2 : Nat) : Int))) := by rw [← h]; exact List.mem_map.2 ⟨e, he, rfl⟩
  obtain ⟨x, hx, hxe⟩ := List.mem_map.1 this
  have e9 := congrArg Prod.fst hxe
  dsimp only at e9
  rw [← e9]
  exact key_reads (hs x.1 (List.fst_mem_of_mem_zipIdx hx))

/-- Where a key is. -/
def kyAt (L : List Ky) (k : Ky) : Option Nat := L.findIdx? (· == k)

/-- What is found. -/
theorem MapIn.look {w : World} {b : Nat} {L : List Ky} (h : MapIn w b L) (hd : L.Nodup) {k : Ky} (hk : KyOK k) :
    (Instr.lookup 66 (.map (some b)) (kyV k) true).run Tryd.prog w = .ok (match kyAt L k with | some i => .tuple #[.int .i64 ((i : Nat) : Int), .bool true] | none => .tuple #[.int .i64 0, .bool false]) w := by
  obtain ⟨es, clock, hb, hL, hs⟩ := h
  obtain ⟨l, hkey⟩ := key_reads hk
  have hz := zeroI w
  rcases keyedK.find w hkey es.toList (MapIn.keys hL hs) with ⟨h1, h2⟩ | ⟨j, e0, h1, h2, h3⟩
  · have hf : kyAt L k = none := by
      unfold kyAt
      rw [List.findIdx?_eq_none_iff]
      intro x hx
      obtain ⟨i, hi⟩ := List.mem_iff_getElem?.1 hx
      have hm : (x, i) ∈ L.zipIdx := by
        rw [List.mem_iff_getElem?]
        exact ⟨i, by simp [List.getElem?_zipIdx, hi]⟩
      have : (kyV x, Value.int .i64 ((i : Nat) : Int)) ∈ es.toList.map (fun e => (e.key, e.val)) := by rw [hL]; exact List.mem_map.2 ⟨_, hm, rfl⟩
      obtain ⟨e, he, hee⟩ := List.mem_map.1 this
      have e9 := congrArg Prod.fst hee
      dsimp only at e9
      have hne := h2 e he
      rw [e9] at hne
      simp only [beq_eq_false_iff_ne, ne_eq]
      exact fun hxk => hne (by rw [hxk])
    rw [hf]
    simp [Instr.lookup, run_underlying Tryd.underlying66, MapKept.run_getObj_map hb, keyedK.check w _ hkey, h1, hz, Result.andThen]
  · have hf : ∃ i, kyAt L k = some i ∧ e0.val = .int .i64 ((i : Nat) : Int) := by
      have h9 : (es.toList.map (fun e => (e.key, e.val)))[j]? = some (e0.key, e0.val) := by rw [List.getElem?_map, h2]; rfl
      rw [hL, List.getElem?_map, List.getElem?_zipIdx] at h9
      cases hx : L[j]? with
      | none => rw [hx] at h9; simp at h9
      | some x =>
        rw [hx] at h9
        simp at h9
        have hxk : x = k := kyV_inj (h9.1.trans h3)
        refine ⟨j, ?_, h9.2.symm⟩
        unfold kyAt
        rw [List.findIdx?_eq_some_iff_getElem]
        have hj := (List.getElem?_eq_some_iff.1 hx).1
        have hj2 := (List.getElem?_eq_some_iff.1 hx).2
        refine ⟨hj, by rw [hj2, hxk]; simp, fun i hi => ?_⟩
        simp only [beq_eq_false_iff_ne, ne_eq, Bool.not_eq_true]
        intro hc
        have hcj : L[i] = L[j] := by rw [hj2, hxk]; simpa using hc
        have hd' := hd
        unfold List.Nodup at hd'
        rw [List.pairwise_iff_getElem] at hd'
        exact hd' i j (by omega) hj hi hcj
    obtain ⟨i, hi, hv⟩ := hf
    rw [hi]
    simp [Instr.lookup, run_underlying Tryd.underlying66, MapKept.run_getObj_map hb, keyedK.check w _ hkey, h1, hv, Result.andThen]

/-- What is put. -/
theorem MapIn.put {w : World} {b : Nat} {L : List Ky} (h : MapIn w b L) {k : Ky} (hk : KyOK k) (hn : k ∉ L) :
    ∃ w', (Instr.mapUpdate 66 (.map (some b)) (kyV k) (.int .i64 (L.length : Int))).run Tryd.prog w = .ok () w' ∧ MapIn w' b (L ++ [k]) ∧ w.grownBy w' (some b) ∧ w'.heap.size = w.heap.size := by
  obtain ⟨es, clock, hb, hL, hs⟩ := h
  obtain ⟨l, hkey⟩ := key_reads hk
  rcases keyedK.find w hkey es.toList (MapIn.keys hL hs) with ⟨h1, h2⟩ | ⟨j, e0, h1, h2, h3⟩
  · refine ⟨ChangeMaps.setBlock w b (.map (es.push ⟨kyV k, .int .i64 (L.length : Int), clock⟩) (clock + 1)), ?_, ⟨es.push ⟨kyV k, .int .i64 (L.length : Int), clock⟩, clock + 1, ChangeMaps.heap_setBlock_same hb _, ?_, ?_⟩, ⟨rfl, rfl, rfl, by simp [ChangeMaps.setBlock], fun i _ hi => ChangeMaps.heap_setBlock_other hb _ (fun e => hi (by rw [e]))⟩, by simp [ChangeMaps.setBlock]⟩
    · simp [Instr.mapUpdate, run_underlying Tryd.underlying66, MapKept.run_getObj_map hb, keyedK.check w false hkey, h1, MapKept.run_setObj_map _ hb, Result.andThen, ChangeMaps.setBlock]
    · rw [Array.toList_push, List.map_append, hL, List.zipIdx_append, List.map_append]
      simp
    · intro x hx
      rcases List.mem_append.1 hx with h | h
      · exact hs x h
      · rw [List.mem_singleton.1 h]; exact hk
  · exfalso
    have hm : e0 ∈ es.toList := List.mem_of_getElem? h2
    have : (e0.key, e0.val) ∈ L.zipIdx.map (fun x => (kyV x.1, Value.int .i64 ((x.2 : Nat) : Int))) := by rw [← hL]; exact List.mem_map.2 ⟨e0, hm, rfl⟩
    obtain ⟨x, hx, hxe⟩ := List.mem_map.1 this
    have e9 := congrArg Prod.fst hxe
    dsimp only at e9
    have e1 : kyV x.1 = kyV k := e9.trans h3
    exact hn (by rw [← kyV_inj e1]; exact List.fst_mem_of_mem_zipIdx hx)
end Go.Proofs.YtofpcdjoljjnoaaDoor
