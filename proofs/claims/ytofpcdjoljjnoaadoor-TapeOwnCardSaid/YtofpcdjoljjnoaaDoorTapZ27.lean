/-
  The texts TapTSame, TapHeadM, TapHead, TapSmall, Lift, one behind the other.
-/
import Derived.Test.YtofpcdjoljjnoaaDoorTapZ20
import Derived.Test.YtofpcdjoljjnoaaDoorTapZ25
import Derived.Test.YtofpcdjoljjnoaaDoorTapZ26
import Derived.Test.YtofpcdjoljjnoaaDoorRows
import Derived.ProofKit
import Derived.OpenShut
import Derived.ShutString
import Derived.ChangeOld
import Derived.Below
import Derived.Carry
import Derived.Lib.SmallJoins
import Derived.Deep.Slices

namespace Go.Proofs.YtofpcdjoljjnoaaDoor
open Go.RowKit

/-- Are two steps equal in everything? -/
def sameNd (x y : Nd) : Bool := ((decide (x.op = y.op) && decide (x.a = y.a)) && decide (x.b = y.b)) && sameB x.c y.c

set_option maxRecDepth 100000 in
set_option maxHeartbeats 2000000 in
theorem samenode_any {K K' : Nat} {w : World} {x y : Nd} {vn vd un ud : Value} (h : NdOK K w x vn vd) (h' : NdOK K' w y un ud) (hK : K ≤ 137438953472) :
    Calls Tryd.prog 31 #[ndV x vn vd, ndV y un ud] w (Just (.bool (sameNd x y)) w) := by
  have hs := fun W (hW : Grow w W) => issame_any (h.2.2.2.grow hW) (h'.2.2.2.grow hW) hK
  obtain ⟨h1, ⟨h2, h3⟩, ⟨h4, h5⟩, ⟨⟨a, ca, rfl, _, _, _, _⟩, ⟨b, cb, rfl, _, _, _, _⟩, _⟩⟩ := h
  obtain ⟨k1, ⟨k2, k3⟩, ⟨k4, k5⟩, ⟨⟨a', ca', rfl, _, _, _, _⟩, ⟨b', cb', rfl, _, _, _, _⟩, _⟩⟩ := h'
  obtain ⟨op, xa, xb, s, L, D⟩ := x
  obtain ⟨op', xa', xb', s', M, E⟩ := y
  unfold ndV
  dsimp only at *
  obtain ⟨W1, hW1⟩ : ∃ W1, W1 = (w.alloc (.cells #[.int .u8 (op : Int), .int .i64 xa, .int .i64 xb, .bool s, .slice a L.length ca, .slice b D.length cb] 56)).alloc (.cells #[.int .u8 (op' : Int), .int .i64 xa', .int .i64 xb', .bool s', .slice a' M.length ca', .slice b' E.length cb'] 56) := ⟨_, rfl⟩
  have hbw : Grow w W1 := by rw [hW1]; exact ((Below.refl _ w).alloc (Nat.le_refl _) _).alloc (by simp) _
  have HBW := Lib.hid hbw
  obtain ⟨r, hr⟩ : ∃ r, r = sameNd ⟨op, xa, xb, s, L, D⟩ ⟨op', xa', xb', s', M, E⟩ := ⟨_, rfl⟩
  rw [← hr]
  unfold sameNd at hr
  dsimp only at hr
  obtain ⟨t, ht⟩ : ∃ t, t = sameB ⟨s, L, D⟩ ⟨s', M, E⟩ := ⟨_, rfl⟩
  rw [← ht] at hs hr
  have HS := Lib.hid hs
  have HR := Lib.hid hr
  subst hW1
  clear hs hr ht hbw
  have hcase : (op = op' ∧ xa = xa' ∧ xb = xb') ∨ (op = op' ∧ xa = xa' ∧ xb ≠ xb') ∨ (op = op' ∧ xa ≠ xa') ∨ op ≠ op' := by omega
  rcases hcase with ⟨rfl, rfl, rfl⟩ | ⟨rfl, rfl, hne⟩ | ⟨rfl, hne⟩ | hne
  · have HRR : Hid (r = t) := Lib.hid (by rw [HR.out]; simp)
    go_enter Tryd.func31, Tryd.ntmps31
    go_wp2_with (first | (go_at_call 50; refine (HS.out _ HBW.out).mono ?_; rintro e w4 ⟨rfl, hb4⟩; have HG4 := Lib.hid (HBW.out.trans hb4); clear hb4) | fail)
    go_ret
    exact ⟨by rw [HRR.out]; rfl, HG4.out⟩
  · have HRF : Hid (r = false) := Lib.hid (by rw [HR.out, decide_eq_false hne, Bool.and_false]; rfl)
    have hb1 : (xb == xb') = false := by simpa using hne
    go_enter Tryd.func31, Tryd.ntmps31
    go_wp2_with fail
    go_ret
    exact ⟨by rw [HRF.out]; rfl, HBW.out⟩
  · have HRF : Hid (r = false) := Lib.hid (by rw [HR.out, decide_eq_false hne, Bool.and_false]; rfl)
    have hb1 : (xa == xa') = false := by simpa using hne
    go_enter Tryd.func31, Tryd.ntmps31
    go_wp2_with fail
    go_ret
    exact ⟨by rw [HRF.out]; rfl, HBW.out⟩
  · have HRF : Hid (r = false) := Lib.hid (by rw [HR.out, decide_eq_false hne]; rfl)
    have hi : ¬ ((op : Int) = (op' : Int)) := by omega
    have hb1 : ((op : Int) == (op' : Int)) = false := by simpa using hi
    go_enter Tryd.func31, Tryd.ntmps31
    go_wp2_with fail
    go_ret
    exact ⟨by rw [HRF.out]; rfl, HBW.out⟩

/-- Are two rows of steps the same? -/
def sameNds : List Nd → List Nd → Bool
  | [], [] => true
  | x :: l, y :: m => sameNd x y && sameNds l m
  | _, _ => false
theorem sameNds_take : ∀ {L M : List Nd} {i : Nat} {x y : Nd}, L[i]? = some x → M[i]? = some y → sameNds (L.take (i + 1)) (M.take (i + 1)) = (sameNds (L.take i) (M.take i) && sameNd x y)
  | [], _, _, _, _, h, _ => by simp at h
  | _ :: _, [], _, _, _, _, h => by simp at h
  | a :: L, b :: M, 0, x, y, h, k => by
    simp at h k
    subst h k
    simp [sameNds]
  | a :: L, b :: M, i + 1, x, y, h, k => by
    have := sameNds_take (L := L) (M := M) (i := i) (x := x) (y := y) (by simpa using h) (by simpa using k)
    simp only [List.take_succ_cons, sameNds] at this ⊢
    rw [this, Bool.and_assoc]
theorem sameNds_false : ∀ {L M : List Nd} {i : Nat}, L.length = M.length → sameNds (L.take i) (M.take i) = false → sameNds L M = false
  | [], [], _, _, h => by simpa using h
  | [], _ :: _, _, hl, _ => by simp at hl
  | _ :: _, [], _, hl, _ => by simp at hl
  | a :: L, b :: M, 0, _, h => by simp [sameNds] at h
  | a :: L, b :: M, i + 1, hl, h => by
    simp only [List.take_succ_cons, sameNds] at h ⊢
    rcases Bool.and_eq_false_iff.1 h with h | h
    · rw [h]; rfl
    · rw [sameNds_false (by simpa using hl) h, Bool.and_false]
theorem sameNds_length : ∀ {L M : List Nd}, L.length ≠ M.length → sameNds L M = false
  | [], [], h => by simp at h
  | [], _ :: _, _ => rfl
  | _ :: _, [], _ => rfl
  | a :: L, b :: M, h => by
    simp only [sameNds]
    rw [sameNds_length (by simpa using h), Bool.and_false]

def EqfRel (L M : List Nd) (w : World) (i : Value) (wr : World) : Prop := ∃ k : Nat, k ≤ L.length ∧ i = .int .i64 (k : Int) ∧ sameNds (L.take k) (M.take k) = true ∧ Below w.heap.size w wr

set_option maxRecDepth 100000 in
set_option maxHeartbeats 4000000 in
theorem equalnds_any {K K' : Nat} {w : World} (A B : Option Addr) (ca cb : Nat) (L M : List Nd) (hl : L.length ≤ 1099511627776) (h : NdsAt K w A L) (h' : NdsAt K' w B M) (hK : K ≤ 137438953472) :
    Calls Tryd.prog 30 #[.slice A L.length ca, .slice B M.length cb, .func (.func 31) #[] #[]] w (Just (.bool (sameNds L M)) w) := by
  have H := Lib.hid h
  have H' := Lib.hid h'
  clear h h'
  by_cases hlen : L.length = M.length
  · have HLEN := Lib.hid hlen
    rw [← hlen]
    obtain ⟨N, hN⟩ : ∃ N, N = L.length := ⟨_, rfl⟩
    have HN := Lib.hid hN
    rw [← hN] at hl ⊢
    clear hlen hN
    obtain ⟨r, hr⟩ : ∃ r, r = sameNds L M := ⟨_, rfl⟩
    have HR := Lib.hid hr
    rw [← hr]
    clear hr
    go_enter Tryd.func30, Tryd.ntmps30
    go_wp2_with fail
    go_loopw [17] (fun i wr => EqfRel L M w i wr) (fun i _ => N - (intOf i).toNat)
    case atStart => exact ⟨0, by omega, rfl, rfl, Below.refl _ _⟩
    case round =>
      obtain ⟨k, hk, rfl, hv, hb⟩ := hrel
      have HB := Lib.hid hb
      have HV := Lib.hid hv
      have hkN : k ≤ N := by rw [HN.out]; exact hk
      clear hk hv hb
      by_cases hlt : k < N
      · obtain ⟨x, hx⟩ : ∃ x, L[k]? = some x := ⟨_, List.getElem?_eq_getElem (by have := HN.out; omega)⟩
        obtain ⟨y, hy⟩ : ∃ y, M[k]? = some y := ⟨_, List.getElem?_eq_getElem (by have := HN.out; have := HLEN.out; omega)⟩
        have HST := Lib.hid (sameNds_take hx hy)
        obtain ⟨b1, o1, vn, vd, rfl, hc, hok⟩ := H.out.grow HB.out k x hx
        obtain ⟨b2, o2, un, ud, rfl, hc', hok'⟩ := H'.out.grow HB.out k y hy
        have c0 := hc 0 _ rfl
        have c1 := hc 1 _ rfl
        have c2 := hc 2 _ rfl
        have c3 := hc 3 _ rfl
        have c4 := hc 4 _ rfl
        have c5 := hc 5 _ rfl
        have hb2 := World.block_lt_of_cell? wr _ (hc' 0 _ rfl)
        have e0 := fun o => (Below.cell (Grow.alloc wr o) (p := ⟨b2, o2 + k * 6 + 0, none⟩) hb2).trans (hc' 0 _ rfl)
        have e1 := fun o => (Below.cell (Grow.alloc wr o) (p := ⟨b2, o2 + k * 6 + 1, none⟩) hb2).trans (hc' 1 _ rfl)
        have e2 := fun o => (Below.cell (Grow.alloc wr o) (p := ⟨b2, o2 + k * 6 + 2, none⟩) hb2).trans (hc' 2 _ rfl)
        have e3 := fun o => (Below.cell (Grow.alloc wr o) (p := ⟨b2, o2 + k * 6 + 3, none⟩) hb2).trans (hc' 3 _ rfl)
        have e4 := fun o => (Below.cell (Grow.alloc wr o) (p := ⟨b2, o2 + k * 6 + 4, none⟩) hb2).trans (hc' 4 _ rfl)
        have e5 := fun o => (Below.cell (Grow.alloc wr o) (p := ⟨b2, o2 + k * 6 + 5, none⟩) hb2).trans (hc' 5 _ rfl)
        rw [Nat.add_zero] at c0
        simp only [Nat.add_zero] at e0
        have hltI : (k : Int) < (N : Int) := by omega
        obtain ⟨p, hp⟩ : ∃ p, p = sameNd x y := ⟨_, rfl⟩
        have hcall := fun W (hW : Grow wr W) => samenode_any (w := W) (x := x) (y := y) ⟨hok.1, hok.2.1, hok.2.2.1, hok.2.2.2.grow hW⟩ ⟨hok'.1, hok'.2.1, hok'.2.2.1, hok'.2.2.2.grow hW⟩ hK
        rw [← hp] at hcall
        unfold ndV at hcall
        have HC := Lib.hid hcall
        have HP := Lib.hid hp
        have HG := Lib.hid (fun o o' => (Grow.trans (Grow.alloc wr o) (Grow.alloc _ o') : Grow wr ((wr.alloc o).alloc o')))
        obtain ⟨⟨na, ca1, rfl, _, _, _, _⟩, ⟨nd, cd1, rfl, _, _, _, _⟩, _⟩ := hok.2.2.2
        obtain ⟨⟨na', ca2, rfl, _, _, _, _⟩, ⟨nd', cd2, rfl, _, _, _, _⟩, _⟩ := hok'.2.2.2
        clear hc hc' hok hok' hcall hx hy hp hb2
        cases p with
        | true =>
          have HT1 : Hid (sameNds (L.take (k + 1)) (M.take (k + 1)) = true) := Lib.hid (by rw [HST.out, HV.out, ← HP.out]; rfl)
          go_wp2_with (first | (go_at_call 31; refine (HC.out _ (HG.out _ _)).mono ?_; rintro e w3 ⟨rfl, hb3⟩; have HG3 := Lib.hid (HB.out.trans (((HG.out _ _).trans hb3).mono (Below.size HB.out))); clear hb3) | fail)
          go_roundw
          case rel => exact ⟨k + 1, by have := HN.out; omega, by go_num, HT1.out, HG3.out⟩
          case measure => simp [intOf]; omega
        | false =>
          have HF : Hid (r = false) := Lib.hid (by rw [HR.out]; exact sameNds_false (i := k + 1) HLEN.out (by rw [HST.out, ← HP.out, Bool.and_false]))
          go_wp2_with (first | (go_at_call 31; refine (HC.out _ (HG.out _ _)).mono ?_; rintro e w3 ⟨rfl, hb3⟩; have HG3 := Lib.hid (HB.out.trans (((HG.out _ _).trans hb3).mono (Below.size HB.out))); clear hb3) | fail)
          go_ret
          exact ⟨by rw [HF.out]; rfl, HG3.out⟩
      · obtain rfl : k = N := by omega
        have HE : Hid (r = true) := Lib.hid (by
          have h1 := HV.out
          have h2 := HLEN.out
          rw [List.take_of_length_le (by have := HN.out; omega), List.take_of_length_le (by have := HN.out; omega)] at h1
          rw [HR.out]; exact h1)
        go_wp2_with fail
        go_ret
        exact ⟨by rw [HE.out]; rfl, HB.out⟩
  · have hne : ¬ ((L.length : Int) = (M.length : Int)) := by omega
    have HNE := Lib.hid (sameNds_length hlen)
    go_enter Tryd.func30, Tryd.ntmps30
    go_wp2_with fail
    go_ret
    exact ⟨by rw [HNE.out]; rfl, Below.refl _ _⟩

theorem take_tl {T U : List (List UInt8 × Int)} {k : Nat} {x y : List UInt8 × Int} (h : T.take k = U.take k) (hx : T[k]? = some x) (hy : U[k]? = some y) : (T.take (k + 1) = U.take (k + 1)) ↔ x = y := by
  have hl := (List.getElem?_eq_some_iff.1 hx).1
  have hm := (List.getElem?_eq_some_iff.1 hy).1
  have e1 : T[k] = x := (List.getElem?_eq_some_iff.1 hx).2
  have e2 : U[k] = y := (List.getElem?_eq_some_iff.1 hy).2
  rw [List.take_succ_eq_append_getElem hl, List.take_succ_eq_append_getElem hm, h, e1, e2]
  exact ⟨fun e => by have := List.append_cancel_left e; injection this, fun e => by rw [e]⟩
theorem mk_inj {a b : List UInt8} (h : mk a = mk b) : a = b := by
  have := congrArg ByteArray.toList h
  rwa [mk_toL, mk_toL] at this

def TlRel (T U : List (List UInt8 × Int)) (w : World) (i : Value) (wr : World) : Prop := ∃ k : Nat, k ≤ T.length ∧ i = .int .i64 (k : Int) ∧ T.take k = U.take k ∧ Below w.heap.size w wr

set_option maxRecDepth 100000 in
set_option maxHeartbeats 4000000 in
theorem equaltls_any {w : World} (A B : Option Addr) (ca cb : Nat) (T U : List (List UInt8 × Int)) (hl : T.length ≤ 1099511627776) (h : TlsAt w A T) (h' : TlsAt w B U) :
    Calls Tryd.prog 32 #[.slice A T.length ca, .slice B U.length cb] w (Just (.bool (decide (T = U))) w) := by
  have H := Lib.hid h
  have H' := Lib.hid h'
  clear h h'
  by_cases hlen : T.length = U.length
  · have HLEN := Lib.hid hlen
    rw [← hlen]
    obtain ⟨N, hN⟩ : ∃ N, N = T.length := ⟨_, rfl⟩
    have HN := Lib.hid hN
    rw [← hN] at hl ⊢
    clear hlen hN
    go_enter Tryd.func32, Tryd.ntmps32
    go_wp2_with fail
    go_loopw [13] (fun i wr => TlRel T U w i wr) (fun i _ => N - (intOf i).toNat)
    case atStart => exact ⟨0, by omega, rfl, rfl, Below.refl _ _⟩
    case round =>
      obtain ⟨k, hk, rfl, hv, hb⟩ := hrel
      have HB := Lib.hid hb
      have HV := Lib.hid hv
      have hkN : k ≤ N := by rw [HN.out]; exact hk
      clear hk hv hb
      by_cases hlt : k < N
      · obtain ⟨x, hx⟩ : ∃ x, T[k]? = some x := ⟨_, List.getElem?_eq_getElem (by have := HN.out; omega)⟩
        obtain ⟨y, hy⟩ : ∃ y, U[k]? = some y := ⟨_, List.getElem?_eq_getElem (by have := HN.out; have := HLEN.out; omega)⟩
        have HST := Lib.hid (take_tl HV.out hx hy)
        obtain ⟨_, b1, o1, rfl, c0, c1⟩ := H.out.grow HB.out k x hx
        obtain ⟨_, b2, o2, rfl, e0, e1⟩ := H'.out.grow HB.out k y hy
        have hltI : (k : Int) < (N : Int) := by omega
        obtain ⟨xn, xi⟩ := x
        obtain ⟨yn, yi⟩ := y
        dsimp only at c0 c1 e0 e1
        go_wp2_with fail
        by_cases hxy : (xn, xi) = (yn, yi)
        · have HT1 : Hid (T.take (k + 1) = U.take (k + 1)) := Lib.hid (HST.out.2 hxy)
          injection hxy with h1 h2
          subst h1 h2
          clear hx hy
          go_quiet (fail)
          go_wp2_with fail
          go_roundw
          case rel => exact ⟨k + 1, by have := HN.out; omega, by go_num, HT1.out, HB.out.trans ⟨rfl, rfl, rfl, Nat.le_refl _, fun _ _ => rfl⟩⟩
          case measure => simp [intOf]; omega
        · have HF : Hid (T ≠ U) := Lib.hid (fun e => hxy (HST.out.1 (by rw [e])))
          have hbin : ∀ W, (binOp .neq 63 (.agg #[.string (mk xn), .int .i64 xi]) (.agg #[.string (mk yn), .int .i64 yi])).run Tryd.prog W = .ok (.bool true) W := by
            intro W
            simp [go_sem]
            intro h1 h2
            rw [mk_toL, mk_toL] at h1
            exact hxy (by rw [h1, h2])
          clear hx hy
          go_quiet (fail)
          go_wp2_with fail
          go_ret
          exact ⟨by rw [decide_eq_false HF.out]; rfl, HB.out.trans ⟨rfl, rfl, rfl, Nat.le_refl _, fun _ _ => rfl⟩⟩
      · obtain rfl : k = N := by omega
        have HE : Hid (T = U) := Lib.hid (by
          have h1 := HV.out
          have h2 := HLEN.out
          rw [List.take_of_length_le (by have := HN.out; omega), List.take_of_length_le (by have := HN.out; omega)] at h1
          exact h1)
        go_wp2_with fail
        go_ret
        exact ⟨by rw [decide_eq_true HE.out]; rfl, HB.out⟩
  · have hne : ¬ ((T.length : Int) = (U.length : Int)) := by omega
    have HNE : Hid (T ≠ U) := Lib.hid (fun e => hlen (by rw [e]))
    go_enter Tryd.func32, Tryd.ntmps32
    go_wp2_with fail
    go_ret
    exact ⟨by rw [decide_eq_false HNE.out]; rfl, Below.refl _ _⟩

/-- Are two tapes equal in everything? -/
def sameTp (t u : Tp) : Bool := ((decide (t.pars = u.pars) && decide (t.out = u.out)) && sameNds t.nodes u.nodes) && decide (t.tells = u.tells)

set_option maxRecDepth 100000 in
set_option maxHeartbeats 4000000 in
theorem tsame_any {K K' : Nat} {w : World} {t u : Tp} {vn vt un ut : Value} (h : TpAt K w t vn vt) (h' : TpAt K' w u un ut) (hK : K ≤ 137438953472) :
    Calls Tryd.prog 17 #[tpV t vn vt, tpV u un ut] w (Just (.bool (sameTp t u)) w) := by
  obtain ⟨⟨h1, h2⟩, ⟨h3, h4⟩, h5, h6, A, ca, B, cb, rfl, rfl, h7, h8⟩ := h
  obtain ⟨⟨k1, k2⟩, ⟨k3, k4⟩, k5, k6, A', ca', B', cb', rfl, rfl, k7, k8⟩ := h'
  obtain ⟨pars, out, L, T⟩ := t
  obtain ⟨pars', out', M, U⟩ := u
  unfold tpV
  dsimp only at *
  obtain ⟨W1, hW1⟩ : ∃ W1, W1 = (w.alloc (.cells #[.int .i64 pars, .int .i64 out, .slice A L.length ca, .slice B T.length cb] 46)).alloc (.cells #[.int .i64 pars', .int .i64 out', .slice A' M.length ca', .slice B' U.length cb'] 46) := ⟨_, rfl⟩
  have b0 : BlkOf W1 w.heap.size #[.int .i64 pars, .int .i64 out, .slice A L.length ca, .slice B T.length cb] 46 := by rw [hW1]; exact (BlkOf.new w _ _).alloc _
  have b1 : BlkOf W1 (w.heap.size + 1) #[.int .i64 pars', .int .i64 out', .slice A' M.length ca', .slice B' U.length cb'] 46 := by rw [hW1]; exact BlkOf.news (by simp) _ _
  have hbw : Grow w W1 := by rw [hW1]; exact ((Below.refl _ w).alloc (Nat.le_refl _) _).alloc (by simp) _
  have hn := fun W (hW : Grow w W) => equalnds_any (w := W) A A' ca ca' L M h5 (h7.grow hW) (k7.grow hW) hK
  have ht := fun W (hW : Grow w W) => equaltls_any (w := W) B B' cb cb' T U h6 (h8.grow hW) (k8.grow hW)
  obtain ⟨r, hr⟩ : ∃ r, r = sameTp ⟨pars, out, L, T⟩ ⟨pars', out', M, U⟩ := ⟨_, rfl⟩
  rw [← hr]
  unfold sameTp at hr
  dsimp only at hr
  obtain ⟨p, hp⟩ : ∃ p, p = sameNds L M := ⟨_, rfl⟩
  obtain ⟨q, hq⟩ : ∃ q, q = decide (T = U) := ⟨_, rfl⟩
  rw [← hp] at hn hr
  rw [← hq] at ht hr
  have HN := Lib.hid hn
  have HT := Lib.hid ht
  have HR := Lib.hid hr
  have HBL := Lib.hid (And.intro b0 b1)
  have HBW := Lib.hid hbw
  subst hW1
  clear hn ht hr hp hq h5 h6 h7 h8 k5 k6 k7 k8 b0 b1 hbw
  have hcase : (pars = pars' ∧ out = out') ∨ (pars = pars' ∧ out ≠ out') ∨ pars ≠ pars' := by omega
  rcases hcase with ⟨rfl, rfl⟩ | ⟨rfl, hne⟩ | hne
  · have HRR : Hid (r = (p && q)) := Lib.hid (by rw [HR.out]; simp)
    cases p with
    | false =>
      go_enter Tryd.func17, Tryd.ntmps17
      go_wp2_with (first | (go_at_call 30; refine (HN.out _ HBW.out).mono ?_; rintro e w4 ⟨rfl, hb4⟩; have HG4 := Lib.hid (HBW.out.trans hb4); clear hb4) | fail)
      go_ret
      exact ⟨by rw [HRR.out]; rfl, HG4.out⟩
    | true =>
      go_enter Tryd.func17, Tryd.ntmps17
      go_wp2_with (first | (go_at_call 30; refine (HN.out _ HBW.out).mono ?_) | fail)
      rintro e w4 ⟨rfl, hb4⟩
      have HG4 := Lib.hid (HBW.out.trans hb4)
      have q0 := HBL.out.1.below hb4 HBL.out.1.lt
      have q1 := HBL.out.2.below hb4 HBL.out.2.lt
      have c0 := q0.at 3 rfl
      have c1 := q1.at 3 rfl
      clear q0 q1 hb4
      go_wp2_with (first | (go_at_call 32; refine (HT.out _ HG4.out).mono ?_; rintro e w5 ⟨rfl, hb5⟩; have HG5 := Lib.hid (HG4.out.trans hb5); clear hb5) | fail)
      go_ret
      exact ⟨by rw [HRR.out]; rfl, HG5.out⟩
  · have HRF : Hid (r = false) := Lib.hid (by rw [HR.out, decide_eq_false hne, Bool.and_false]; rfl)
    have hb1 : (out == out') = false := by simpa using hne
    go_enter Tryd.func17, Tryd.ntmps17
    go_wp2_with fail
    go_ret
    exact ⟨by rw [HRF.out]; rfl, HBW.out⟩
  · have HRF : Hid (r = false) := Lib.hid (by rw [HR.out, decide_eq_false hne]; rfl)
    have hb1 : (pars == pars') = false := by simpa using hne
    go_enter Tryd.func17, Tryd.ntmps17
    go_wp2_with fail
    go_ret
    exact ⟨by rw [HRF.out]; rfl, HBW.out⟩
end Go.Proofs.YtofpcdjoljjnoaaDoor

namespace Go.Proofs.YtofpcdjoljjnoaaDoor
open Go.RowKit Go.Maps

/-- Two makers, each of blocks of its own, since w0. -/
structure Two (w0 w : World) (P Q : Nat → Prop) (m n : Value) (S R : MkS) : Prop where
  one : MkAt P w m S
  two : MkAt Q w n R
  apart : ∀ k, P k → ¬ Q k
  low : ∀ k, P k → w0.heap.size ≤ k
  low2 : ∀ k, Q k → w0.heap.size ≤ k
  grow : Grow w0 w
section
variable {w0 w w' : World} {P Q : Nat → Prop} {m n : Value} {S R : MkS}
theorem Two.more (h : Two w0 w P Q m n S R) (hg : Grow w w') : Two w0 w' P Q m n S R :=
  ⟨h.one.grow hg, h.two.grow hg, h.apart, h.low, h.low2, h.grow.trans hg⟩
theorem Two.swap (h : Two w0 w P Q m n S R) : Two w0 w Q P n m R S := ⟨h.two, h.one, fun k h1 h2 => h.apart k h2 h1, h.low2, h.low, h.grow⟩
theorem Two.told {r : Int × Int × MkS} {e : Ending} (h : Two w0 w P Q m n S R) (hp : MkPost P m w r e w') : e = .returned (.tuple #[.int .i64 r.1, .int .i64 r.2.1]) ∧ ∃ P', Two w0 w' P' Q m n r.2.2 R := by
  obtain ⟨he, hs, P', hP, hP', hm⟩ := hp
  refine ⟨he, P', hm, h.two.spare hs (fun k hq hp => h.apart k hp hq), fun k hk hq => ?_, fun k hk => ?_, h.low2, ?_⟩
  · rcases hP' k hk with h1 | h1
    · exact h.apart k h1 hq
    · have := h.two.lt k hq; omega
  · rcases hP' k hk with h1 | h1
    · exact h.low k h1
    · exact Nat.le_trans (Below.size h.grow) h1
  · exact Below.trans h.grow (hs.below h.low (Below.size h.grow))
end

def x1 : Fr := ⟨false, nrow 1, nrow 1⟩
def x2 : Fr := ⟨false, nrow 2, nrow 1⟩
def m0 : MkS := ⟨100, 0, []⟩
def m1 : MkS := ⟨100, 1, [bareNd 2 0 0]⟩
def m2 : MkS := ⟨100, 1, [bareNd 2 0 0, ⟨1, 0, 0, ⟨false, [2], [1]⟩⟩]⟩
def m3 : MkS := ⟨100, 1, [bareNd 2 0 0, ⟨1, 0, 0, ⟨false, [2], [1]⟩⟩, bareNd 5 0 1]⟩
def n0 : MkS := ⟨1, 0, []⟩
def n1 : MkS := ⟨1, 0, [⟨1, 0, 0, ⟨false, [1], [1]⟩⟩]⟩
theorem nrow1 : nrow 1 = [1] := by decide
theorem nrow2 : nrow 2 = [2] := by decide
theorem say1 : parS m0 = (0, 0, m1) := by kernel_rfl
theorem say2 : numS m1 x2 = (1, 0, m2) := by kernel_rfl
theorem say3 : twoS m2 5 0 1 = (2, 0, m3) := by kernel_rfl
theorem say4 : twoS m3 5 0 1 = (2, 0, m3) := by kernel_rfl
theorem say5 : oneS m3 8 9 = (0, 2, m3) := by kernel_rfl
theorem say6 : oneS m3 3 0 = (0, 2, m3) := by kernel_rfl
theorem say7 : numS n0 x1 = (0, 0, n1) := by kernel_rfl
theorem say8 : numS n1 x2 = (0, 171, n1) := by kernel_rfl
theorem say9 : numS n1 x1 = (0, 0, n1) := by kernel_rfl
theorem say10 : existB m3 2 [([120], 0)] = true := by decide
theorem say11 : validB ⟨1, 2, m3.l, [([120], 0)]⟩ = true := by decide
theorem say12 : validB ⟨0, 0, [], []⟩ = false := by decide
end Go.Proofs.YtofpcdjoljjnoaaDoor

namespace Go.Proofs.YtofpcdjoljjnoaaDoor
open Go.RowKit Go.Maps

theorem new_yes (k : Nat) (w : World) (h1 : 1 ≤ k) (h2 : k ≤ 20000) : Calls Tryd.prog 7 #[.int .i64 (k : Int)] w fun e w' => ∃ m, e = .returned (.tuple #[m, .int .i64 0]) ∧ Grow w w' ∧ MkAt (newIn w w') w' m ⟨k, 0, []⟩ := by
  refine (new_any (k : Int) w (by constructor <;> omega)).mono ?_
  rintro e w' (⟨_, _, m, rfl, hb, hm⟩ | ⟨hn, _⟩)
  · rw [show (k : Int).toNat = k by simp] at hm
    exact ⟨m, rfl, hb, hm⟩
  · exact absurd ⟨by omega, by omega⟩ hn
theorem new_no (w : World) : Calls Tryd.prog 7 #[.int .i64 0] w (Same (.tuple #[.pointer none, .int .i64 2]) w) := by
  refine (new_any 0 w i64_zero).mono ?_
  rintro e w' (⟨h, _⟩ | ⟨_, rfl, rfl⟩)
  · omega
  · exact ⟨rfl, rfl⟩

section
variable {w0 w : World} {P Q : Nat → Prop} {m n : Value} {S R S' : MkS} {a b : Int}
/-- Behind a call on the first; on the second. -/
def ToldOne (w0 : World) (Q : Nat → Prop) (m n : Value) (a b : Int) (S R : MkS) (e : Ending) (w' : World) : Prop := e = .returned (.tuple #[.int .i64 a, .int .i64 b]) ∧ ∃ P', Two w0 w' P' Q m n S R
def ToldTwo (w0 : World) (P : Nat → Prop) (m n : Value) (a b : Int) (S R : MkS) (e : Ending) (w' : World) : Prop := e = .returned (.tuple #[.int .i64 a, .int .i64 b]) ∧ ∃ Q', Two w0 w' P Q' m n S R
theorem Two.par (h : Two w0 w P Q m n S R) (hr : parS S = (a, b, S')) : Calls Tryd.prog 14 #[m] w (ToldOne w0 Q m n a b S' R) :=
  (par_some h.one).mono fun e w' hp => by have := h.told hp; rw [hr] at this; exact this
theorem Two.pair (h : Two w0 w P Q m n S R) (ht : Tab w0) {op : Nat} {i j : Int} (hop : op < 256) (hi : I64 i) (hj : I64 j) (hr : twoS S op i j = (a, b, S')) : Calls Tryd.prog 13 #[m, .int .u8 (op : Int), .int .i64 i, .int .i64 j] w (ToldOne w0 Q m n a b S' R) :=
  (two_some h.one hop hi hj (ht.grow h.grow)).mono fun e w' hp => by have := h.told hp; rw [hr] at this; exact this
theorem Two.single (h : Two w0 w P Q m n S R) (ht : Tab w0) {op : Nat} {i : Int} (hop : op < 256) (hi : I64 i) (hr : oneS S op i = (a, b, S')) : Calls Tryd.prog 12 #[m, .int .u8 (op : Int), .int .i64 i] w (ToldOne w0 Q m n a b S' R) :=
  (one_some h.one hop hi (ht.grow h.grow)).mono fun e w' hp => by have := h.told hp; rw [hr] at this; exact this
theorem Two.num (h : Two w0 w P Q m n S R) {x : Fr} {vn vd : Value} (hx : FrAt 2048 w x vn vd) (hr : numS S x = (a, b, S')) : Calls Tryd.prog 11 #[m, .agg #[.bool x.s, vn, vd]] w (ToldOne w0 Q m n a b S' R) :=
  (num_some h.one hx (by decide)).mono fun e w' hp => by have := h.told hp; rw [hr] at this; exact this
theorem Two.num2 (h : Two w0 w P Q m n S R) {x : Fr} {vn vd : Value} (hx : FrAt 2048 w x vn vd) (hr : numS R x = (a, b, S')) : Calls Tryd.prog 11 #[n, .agg #[.bool x.s, vn, vd]] w (ToldTwo w0 P m n a b S S') :=
  (num_some h.two hx (by decide)).mono fun e w' hp => by
    have := h.swap.told hp
    rw [hr] at this
    obtain ⟨h1, Q', h2⟩ := this
    exact ⟨h1, Q', h2.swap⟩
theorem of_fr (k : Nat) (hk : k ≤ 9223372036854775807) (hl : (nrow k).length ≤ 2048) (w : World) : Calls Tryd.prog 20 #[.int .i64 (k : Int)] w fun e w' => ∃ vn vd, e = .returned (.agg #[.bool false, vn, vd]) ∧ FrAt 2048 w' ⟨false, nrow k, nrow 1⟩ vn vd ∧ Grow w w' := by
  refine (fof_any k w hk).mono ?_
  rintro e w' ⟨v, rfl, ⟨x, c, y, c', rfl, h1, h2⟩, hb⟩
  exact ⟨_, _, rfl, ⟨h1.raw, h2.raw, hl, (by decide : (nrow 1).length ≤ 2048)⟩, hb⟩
end

set_option maxRecDepth 100000 in
set_option maxHeartbeats 8000000 in
theorem head_any (w : World) (ht : Tab w) : Calls Tryd.prog 8 #[] w (Just (.bool true) w) := by
  have HT := Lib.hid ht
  clear ht
  go_enter Tryd.func8, Tryd.ntmps8
  go_wp2_with (first | (go_at_call 7; refine (new_yes 100 _ (by decide) (by decide)).mono ?_) | fail)
  rintro e wa ⟨m, rfl, hga, hma⟩
  have HA := Lib.hid (And.intro hga hma)
  clear hga hma
  go_wp2_with (first | (go_at_call 7; refine (new_yes 1 _ (by decide) (by decide)).mono ?_) | fail)
  rintro e wb ⟨n, rfl, hgb, hmb⟩
  have H2 : Hid (Two w wb (newIn w wa) (newIn wa wb) m n m0 n0) := Lib.hid ⟨HA.out.2.grow hgb, hmb, fun k h1 h2 => by have := h1.2; have := h2.1; omega, fun k h => h.1, fun k h => Nat.le_trans (Below.size HA.out.1) h.1, HA.out.1.trans hgb⟩
  obtain ⟨pm, hpm⟩ := H2.out.one.ptr
  obtain ⟨pn, hpn⟩ := H2.out.two.ptr
  subst hpm hpn
  clear hgb hmb HA
  go_wp2_with (first | (go_at_call 7; refine (new_no _).mono ?_; rintro e w3 ⟨rfl, rfl⟩) | fail)
  go_wp2_with (first | (go_at_call 14; refine (H2.out.par say1).mono ?_) | fail)
  rintro e wc ⟨rfl, Pc, hc⟩
  have Hc := Lib.hid hc
  clear hc
  go_wp2_with (first | (go_at_call 20; refine (of_fr 2 (by decide) (by decide) _).mono ?_) | fail)
  rintro e wxd ⟨vnd, vdd, rfl, hxd, hgd⟩
  have HXd := Lib.hid hxd
  have HHd := Lib.hid (Hc.out.more hgd)
  clear hxd hgd
  go_wp2_with (first | (go_at_call 11; refine (HHd.out.num (x := x2) HXd.out say2).mono ?_) | fail)
  rintro e wd ⟨rfl, Pd, hd⟩
  have Hd := Lib.hid hd
  clear hd
  go_wp2_with (first | (go_at_call 13; refine (Hd.out.pair HT.out (op := 5) (by decide) i64_zero (by constructor <;> omega) say3).mono ?_) | fail)
  rintro e we1 ⟨rfl, Pe1, he1⟩
  have He1 := Lib.hid he1
  clear he1
  go_wp2_with (first | (go_at_call 13; refine (He1.out.pair HT.out (op := 5) (by decide) i64_zero (by constructor <;> omega) say4).mono ?_) | fail)
  rintro e wf1 ⟨rfl, Pf1, hf1⟩
  have Hf1 := Lib.hid hf1
  clear hf1
  go_wp2_with (first | (go_at_call 12; refine (Hf1.out.single HT.out (op := 8) (by decide) (by constructor <;> omega) say5).mono ?_) | fail)
  rintro e wg1 ⟨rfl, Pg1, hg1⟩
  have Hg1 := Lib.hid hg1
  clear hg1
  go_wp2_with (first | (go_at_call 12; refine (Hg1.out.single HT.out (op := 3) (by decide) i64_zero say6).mono ?_) | fail)
  rintro e wh1 ⟨rfl, Ph1, hh1⟩
  have Hh1 := Lib.hid hh1
  clear hh1
  go_wp2_with (first | (go_at_call 20; refine (of_fr 1 (by decide) (by decide) _).mono ?_) | fail)
  rintro e wxi1 ⟨vni1, vdi1, rfl, hxi1, hgi1⟩
  have HXi1 := Lib.hid hxi1
  have HHi1 := Lib.hid (Hh1.out.more hgi1)
  clear hxi1 hgi1
  go_wp2_with (first | (go_at_call 11; refine (HHi1.out.num2 (x := x1) HXi1.out say7).mono ?_) | fail)
  rintro e wi1 ⟨rfl, Pi1, hi1⟩
  have Hi1 := Lib.hid hi1
  clear hi1
  go_wp2_with (first | (go_at_call 20; refine (of_fr 2 (by decide) (by decide) _).mono ?_) | fail)
  rintro e wxj1 ⟨vnj1, vdj1, rfl, hxj1, hgj1⟩
  have HXj1 := Lib.hid hxj1
  have HHj1 := Lib.hid (Hi1.out.more hgj1)
  clear hxj1 hgj1
  go_wp2_with (first | (go_at_call 11; refine (HHj1.out.num2 (x := x2) HXj1.out say8).mono ?_) | fail)
  rintro e wj1 ⟨rfl, Pj1, hj1⟩
  have Hj1 := Lib.hid hj1
  clear hj1
  go_wp2_with (first | (go_at_call 20; refine (of_fr 1 (by decide) (by decide) _).mono ?_) | fail)
  rintro e wxk1 ⟨vnk1, vdk1, rfl, hxk1, hgk1⟩
  have HXk1 := Lib.hid hxk1
  have HHk1 := Lib.hid (Hj1.out.more hgk1)
  clear hxk1 hgk1
  go_wp2_with (first | (go_at_call 11; refine (HHk1.out.num2 (x := x1) HXk1.out say9).mono ?_) | fail)
  rintro e wk1 ⟨rfl, Pk1, hk1⟩
  have Hk1 := Lib.hid hk1
  clear hk1
  have HTP : Hid (Calls Tryd.prog 15 #[.pointer (some ⟨pm, 0, none⟩), .int .i64 2, .slice (some ⟨wk1.heap.size, 0, none⟩) 1 1] (wk1.alloc (.cells #[.string ⟨#[120]⟩, .int .i64 0] 63)) (TapePost m3 2 [([120], 0)] (wk1.alloc (.cells #[.string ⟨#[120]⟩, .int .i64 0] 63)))) := Lib.hid (by
    refine tape_some (T := [([120], 0)]) (Hk1.out.one.grow (Grow.alloc _ _)) (by constructor <;> omega) (fun i x hx => ?_) (by decide) (fun x hx => ?_)
    · have hi := (List.getElem?_eq_some_iff.1 hx).1
      obtain rfl : i = 0 := by simpa using hi
      simp at hx
      subst hx
      have hb := BlkOf.new wk1 #[.string ⟨#[120]⟩, .int .i64 0] 63
      exact ⟨i64_zero, _, 0, rfl, hb.at 0 rfl, hb.at 1 rfl⟩
    · rw [List.mem_singleton.1 hx]; decide)
  go_wp2_with (first | (go_at_call 15; refine HTP.out.mono ?_) | fail)
  rintro e wm (⟨_, vN, vT, rfl, hn, ht, hg⟩ | ⟨h, _⟩)
  · obtain ⟨AN, cN, rfl, hnA⟩ := hn.form
    obtain ⟨AT, cT, rfl, htA⟩ := ht.form
    have hgm : Grow wk1 wm := Grow.trans (Grow.alloc _ _) hg
    have hl3 : m3.l.length = 3 := rfl
    have hl1 : ([([120], 0)] : List (List UInt8 × Int)).length = 1 := rfl
    have hp1 : ((m3.pars : Nat) : Int) = 1 := rfl
    have htp : TpAt 2048 wm ⟨1, 2, m3.l, [([120], 0)]⟩ (.slice AN m3.l.length cN) (.slice AT ([([120], 0)] : List (List UInt8 × Int)).length cT) := ⟨by constructor <;> simp, by constructor <;> simp, by decide, by decide, _, _, _, _, rfl, rfl, hnA, htA⟩
    have hc1 := fun o => check_any (htp.grow (Grow.alloc wm o)) (by decide) (HT.out.grow (Grow.trans (Hk1.out.more hgm).grow (Grow.alloc wm o)))
    rw [say11] at hc1
    rw [hl3, hl1, hp1]
    unfold tpV at hc1
    dsimp only at hc1
    rw [hl3, hl1] at hc1
    have htp0 : ∀ W, TpAt 2048 W ⟨0, 0, [], []⟩ (.slice none 0 0) (.slice none 0 0) := fun W => ⟨i64_zero, i64_zero, by decide, by decide, none, 0, none, 0, rfl, rfl, fun i x hx => by simp at hx, fun i x hx => by simp at hx⟩
    have hc2 := fun W (hW : Grow wm W) => check_any (htp0 W) (by decide) (HT.out.grow (Grow.trans (Hk1.out.more hgm).grow hW))
    rw [say12] at hc2
    have HC1 := Lib.hid hc1
    have HC2 := Lib.hid hc2
    have HLN := Lib.hid (fun W (hW : Grow wm W) => len_some (Hk1.out.one.grow (Grow.trans hgm hW)))
    have HGM := Lib.hid (Hk1.out.more hgm).grow
    clear hn ht hg hgm hl3 hl1 hp1 htp hc1 htp0 hc2 hnA htA
    go_wp2_with (first | (go_at_call 16; refine (HC1.out _).mono ?_) | fail)
    rintro e w5 ⟨rfl, hg5⟩
    have HG5 := Lib.hid (Grow.trans (Grow.alloc wm _) hg5)
    clear hg5
    go_wp2_with (first | (go_at_call 16; refine (HC2.out _ HG5.out).mono ?_) | fail)
    rintro e w6 ⟨rfl, hg6⟩
    have HG6 := Lib.hid (Grow.trans HG5.out hg6)
    clear hg6
    go_wp2_with (first | (go_at_call 10; refine (HLN.out _ HG6.out).mono ?_; rintro e w3 ⟨rfl, rfl⟩) | fail)
    go_ret
    exact ⟨rfl, HGM.out.trans HG6.out⟩
  · rw [say10] at h; cases h
end Go.Proofs.YtofpcdjoljjnoaaDoor

namespace Go.Proofs.YtofpcdjoljjnoaaDoor
open Go.RowKit Go.Maps

set_option maxHeartbeats 1000000 in
theorem small_any (s : Bool) (a b : Option Addr) (n k ca cb : Nat) (w : World) (hn : n ≤ 9223372036854775807) (hk : k ≤ 9223372036854775807) :
    Calls Tryd.prog 9 #[.agg #[.bool s, .slice a n ca, .slice b k cb]] w (Just (.bool (decide (n ≤ 3) && decide (k ≤ 3))) w) := by
  have HG := Lib.hid (Grow.alloc w (.cells #[.bool s, .slice a n ca, .slice b k cb] 33))
  by_cases h1 : n ≤ 3
  · have d1 : decide ((n : Int) ≤ 3) = true := by simp; omega
    have e1 : ((n : Int) ≤ 3) := by omega
    have hd : (decide (n ≤ 3) && decide (k ≤ 3)) = decide ((k : Int) ≤ 3) := by
      rw [decide_eq_true h1, Bool.true_and]
      by_cases h2 : k ≤ 3
      · rw [decide_eq_true h2, decide_eq_true (by omega)]
      · rw [decide_eq_false h2, decide_eq_false (by omega)]
    rw [hd]
    clear hd
    go_enter Tryd.func9, Tryd.ntmps9
    go_wp2_with fail
    go_ret
    exact ⟨rfl, HG.out⟩
  · have d1 : decide ((n : Int) ≤ 3) = false := by simp; omega
    have e1 : ¬ ((n : Int) ≤ 3) := by omega
    rw [decide_eq_false h1, Bool.false_and]
    go_enter Tryd.func9, Tryd.ntmps9
    go_wp2_with fail
    go_ret
    exact ⟨rfl, HG.out⟩
end Go.Proofs.YtofpcdjoljjnoaaDoor

namespace Go.Proofs.YtofpcdjoljjnoaaDoor
open Go.ChangeShapes Go.WideShapes Go.ChangeAt Go.RowKit

theorem own : ownKnob Tryd.prog.godebug = none := by kernel_rfl
theorem laidOut : laidOutB Tryd.prog = true := by kernel_rfl

/-- A number that fits a uint64. -/
theorem nat_of_u64 {x : Int} (h : (Lit.int .u64 x).wf = true) : ∃ n : Nat, x = (n : Int) ∧ n < 2 ^ 64 := by
  have h2 : 0 ≤ x ∧ x < 2 ^ 64 := by
    simp [Lit.wf, IntKind.min, IntKind.max, IntKind.signed, IntKind.bits] at h
    omega
  obtain ⟨n, rfl⟩ := Int.eq_ofNat_of_zero_le h2.1
  exact ⟨n, rfl, by omega⟩
theorem nat_of_u8 {x : Int} (h : (Lit.int .u8 x).wf = true) : ∃ n : Nat, x = (n : Int) ∧ n < 256 := by
  have h2 : 0 ≤ x ∧ x < 256 := by
    simp [Lit.wf, IntKind.min, IntKind.max, IntKind.signed, IntKind.bits] at h
    omega
  obtain ⟨n, rfl⟩ := Int.eq_ofNat_of_zero_le h2.1
  exact ⟨n, rfl, by omega⟩
theorem range_of_i64 {x : Int} (h : (Lit.int .i64 x).wf = true) : -9223372036854775808 ≤ x ∧ x ≤ 9223372036854775807 := by
  simp [Lit.wf, IntKind.min, IntKind.max, IntKind.signed, IntKind.bits] at h
  omega

/-- What a walk is told of a slice of one-cell numbers: each place below its length holds one. -/
def Cells (k : IntKind) (w : World) (A : Option Addr) (len : Nat) (z : Nat → Int) : Prop :=
  ∀ i, i < len → ∃ b off, A = some ⟨b, off, none⟩ ∧ b < w.heap.size ∧ w.cell? ⟨b, off + i, none⟩ = some (.int k (z i))

theorem wf_zero (k : IntKind) : (Lit.int k 0).wf = true := by cases k <;> rfl

theorem open_cells {H : Type} {enc : TypeId × Value → H} {P : Program} {W : World} {k : IntKind} {T E : TypeId} {b0 : Nat} {v : Value} {d : DataW H} {p : List MemPlace} (hT : P.underlying T = some (.slice E)) (hE : P.underlying E = some (.int k)) (hC : P.cellsOf E = 1)
    (hv : Value.okWide P W .any b0 T v) (h : DataW.Trod enc P W 0 (fun _ => true) true T v d p) :
    ∃ A len cap z, v = .slice A len cap ∧ len ≤ 9223372036854775807 ∧ (∀ i, (Lit.int k (z i)).wf = true) ∧ Cells k W A len z := by
  obtain ⟨A, len, cap, rfl⟩ := okWide_slice hT hv
  obtain ⟨fuel, hf⟩ := h
  rcases open_ints hT hE hC hf with ⟨hcs, _⟩ | ⟨a, l, c, zs, hcs, _, hl, hm, hz, _, hcell, hwz⟩
  · simp [Value.cells] at hcs
    obtain ⟨rfl, rfl, rfl⟩ := hcs
    exact ⟨_, _, _, fun _ => 0, rfl, by omega, fun _ => wf_zero k, fun i hi => absurd hi (by omega)⟩
  · simp [Value.cells] at hcs
    obtain ⟨rfl, rfl, rfl⟩ := hcs
    unfold maxLen at hm
    refine ⟨_, _, _, fun i => zs.getD i 0, rfl, by omega, fun i => ?_, fun i hi => ?_⟩
    · show (Lit.int k (zs.getD i 0)).wf = true
      rcases Nat.lt_or_ge i zs.length with h | h
      · rw [List.getD_eq_getElem?_getD, List.getElem?_eq_getElem h]
        exact hwz _ (List.getElem_mem h)
      · rw [List.getD_eq_getElem?_getD, List.getElem?_eq_none h]
        exact wf_zero k
    · have hzl : i < zs.length := by simp at hz; omega
      obtain ⟨b, off, rfl, hc⟩ := ints_at hcell (by omega)
      have h1 := hc i hzl
      exact ⟨b, off, rfl, World.block_lt_of_cell? W _ h1, h1⟩

/-- What a walk is told of a slice whose elements lie in K cells each: the elements' cells, one behind the other, and each element's own reading. -/
theorem open_rows {H : Type} {enc : TypeId × Value → H} {P : Program} {W : World} {T E K : Nat} {b0 : Nat} {v : Value} {d : DataW H} {p : List MemPlace} (hT : P.underlying T = some (.slice E)) (hC : P.cellsOf E = K) (hK : 0 < K)
    (hv : Value.okWide P W .any b0 T v) (h : DataW.Trod enc P W 0 (fun _ => true) true T v d p) :
    ∃ A len cap, v = .slice A len cap ∧ len ≤ 9223372036854775807 ∧ ∀ i, i < len → ∃ (b off : Nat) (cs : List Value) (n : Nat) (x : DataW H × List MemPlace), A = some ⟨b, off, none⟩ ∧ b < W.heap.size ∧ cs.length = K ∧
      (∀ j, j < K → W.cell? ⟨b, off + i * K + j, none⟩ = cs[j]?) ∧ DataW.trod enc P W 0 (fun _ => true) true n E cs = some x := by
  obtain ⟨A, len, cap, rfl⟩ := okWide_slice hT hv
  obtain ⟨fuel, hf⟩ := h
  rcases Go.Deep.open_slice hT hf with ⟨hcs, _⟩ | ⟨a, l, c, m, n, D, Pl, hcs, _, hl, hm, hmm, _, hel⟩
  · simp [Value.cells] at hcs
    obtain ⟨rfl, rfl, rfl⟩ := hcs
    exact ⟨_, _, _, rfl, by omega, fun i hi => absurd hi (by omega)⟩
  · simp [Value.cells] at hcs
    obtain ⟨rfl, rfl, rfl⟩ := hcs
    unfold maxLen at hm
    simp only [if_true] at hmm
    rw [hC] at hel
    refine ⟨_, _, _, rfl, by omega, fun i hi => ?_⟩
    have hsp : a.spot = none := by
      obtain ⟨cs, hc, _⟩ := hel 0 (by omega)
      obtain ⟨_, hlen, hat⟩ := World.cells?_some hc
      have h0 := hat 0 hK
      rw [Go.Deep.add_add] at h0
      have e : cs[0]? = some (cs[0]'(by omega)) := List.getElem?_eq_getElem (by omega)
      rw [e] at h0
      simpa [Addr.add] using World.cell?_spot h0
    obtain ⟨b, off, sp⟩ := a
    simp only at hsp
    subst hsp
    obtain ⟨cs, hc, ht⟩ := hel i (by omega)
    obtain ⟨_, hlen, hat⟩ := World.cells?_some hc
    have hcell : ∀ j, j < K → W.cell? ⟨b, off + i * K + j, none⟩ = cs[j]? := fun j hj => by
      rw [← hat j hj, Go.Deep.add_add]
      congr 1
      unfold Addr.add
      split
      · rename_i h0
        have h1 : i * K = 0 := by omega
        have h2 : j = 0 := by omega
        rw [h1, h2]; rfl
      · simp [Nat.add_assoc]
    have hb : b < W.heap.size := by
      have h0 := hcell 0 hK
      rw [List.getElem?_eq_getElem (by omega)] at h0
      exact World.block_lt_of_cell? W _ h0
    exact ⟨b, off, cs, n, _, rfl, hb, hlen, hcell, ht⟩
end Go.Proofs.YtofpcdjoljjnoaaDoor
