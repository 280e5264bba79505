/-
  The texts TapHead, TapSmall, TapRSame, TapRNorm, TapRMay, TapRRight, TapRNumB, one behind the other.
-/
import Derived.Test.YtofpcdjoljjnoaaGreatDoorTapY19
import Derived.Test.YtofpcdjoljjnoaaGreatDoorTapY14
import Derived.Test.YtofpcdjoljjnoaaGreatDoorTapY06
import Derived.Test.YtofpcdjoljjnoaaGreatDoorTapY18
import Derived.Test.YtofpcdjoljjnoaaGreatDoorTapY15

namespace Go.Proofs.YtofpcdjoljjnoaaGreatDoor
open Go.RowKit Go.Maps

theorem new_yes (k : Nat) (w : World) (h1 : 1 ≤ k) (h2 : k ≤ 20000) : Calls Tryz.prog 13 #[.int .i64 (k : Int)] w fun e w' => ∃ m, e = .returned (.tuple #[m, .int .i64 0]) ∧ Grow w w' ∧ MkAt (newIn w w') w' m ⟨k, 0, []⟩ := by
  refine (new_any (k : Int) w (by constructor <;> omega)).mono ?_
  rintro e w' (⟨_, _, m, rfl, hb, hm⟩ | ⟨hn, _⟩)
  · rw [show (k : Int).toNat = k by simp] at hm
    exact ⟨m, rfl, hb, hm⟩
  · exact absurd ⟨by omega, by omega⟩ hn
theorem new_no (w : World) : Calls Tryz.prog 13 #[.int .i64 0] w (Same (.tuple #[.pointer none, .int .i64 2]) w) := by
  refine (new_any 0 w i64_zero).mono ?_
  rintro e w' (⟨h, _⟩ | ⟨_, rfl, rfl⟩)
  · omega
  · exact ⟨rfl, rfl⟩

section
variable {w0 w : World} {P Q : Nat → Prop} {m n : Value} {S R S' : MkS} {a b : Int}
/-- Behind a call on the first; on the second. -/
def ToldOne (w0 : World) (Q : Nat → Prop) (m n : Value) (a b : Int) (S R : MkS) (e : Ending) (w' : World) : Prop := e = .returned (.tuple #[.int .i64 a, .int .i64 b]) ∧ ∃ P', Two w0 w' P' Q m n S R
def ToldTwo (w0 : World) (P : Nat → Prop) (m n : Value) (a b : Int) (S R : MkS) (e : Ending) (w' : World) : Prop := e = .returned (.tuple #[.int .i64 a, .int .i64 b]) ∧ ∃ Q', Two w0 w' P Q' m n S R
theorem Two.par (h : Two w0 w P Q m n S R) (hr : parS S = (a, b, S')) : Calls Tryz.prog 18 #[m] w (ToldOne w0 Q m n a b S' R) :=
  (par_some h.one).mono fun e w' hp => by have := h.told hp; rw [hr] at this; exact this
theorem Two.pair (h : Two w0 w P Q m n S R) (ht : Tab w0) {op : Nat} {i j : Int} (hop : op < 256) (hi : I64 i) (hj : I64 j) (hr : twoS S op i j = (a, b, S')) : Calls Tryz.prog 22 #[m, .int .u8 (op : Int), .int .i64 i, .int .i64 j] w (ToldOne w0 Q m n a b S' R) :=
  (two_some h.one hop hi hj (ht.grow h.grow)).mono fun e w' hp => by have := h.told hp; rw [hr] at this; exact this
theorem Two.single (h : Two w0 w P Q m n S R) (ht : Tab w0) {op : Nat} {i : Int} (hop : op < 256) (hi : I64 i) (hr : oneS S op i = (a, b, S')) : Calls Tryz.prog 20 #[m, .int .u8 (op : Int), .int .i64 i] w (ToldOne w0 Q m n a b S' R) :=
  (one_some h.one hop hi (ht.grow h.grow)).mono fun e w' hp => by have := h.told hp; rw [hr] at this; exact this
theorem Two.num (h : Two w0 w P Q m n S R) {x : Fr} {vn vd : Value} (hx : FrAt 2048 w x vn vd) (hr : numS S x = (a, b, S')) : Calls Tryz.prog 16 #[m, .agg #[.bool x.s, vn, vd]] w (ToldOne w0 Q m n a b S' R) :=
  (num_some h.one hx (by decide)).mono fun e w' hp => by have := h.told hp; rw [hr] at this; exact this
theorem Two.num2 (h : Two w0 w P Q m n S R) {x : Fr} {vn vd : Value} (hx : FrAt 2048 w x vn vd) (hr : numS R x = (a, b, S')) : Calls Tryz.prog 16 #[n, .agg #[.bool x.s, vn, vd]] w (ToldTwo w0 P m n a b S S') :=
  (num_some h.two hx (by decide)).mono fun e w' hp => by
    have := h.swap.told hp
    rw [hr] at this
    obtain ⟨h1, Q', h2⟩ := this
    exact ⟨h1, Q', h2.swap⟩
theorem of_fr (k : Nat) (hk : k ≤ 9223372036854775807) (hl : (nrow k).length ≤ 2048) (w : World) : Calls Tryz.prog 27 #[.int .i64 (k : Int)] w fun e w' => ∃ vn vd, e = .returned (.agg #[.bool false, vn, vd]) ∧ FrAt 2048 w' ⟨false, nrow k, nrow 1⟩ vn vd ∧ Grow w w' := by
  refine (fof_any k w hk).mono ?_
  rintro e w' ⟨v, rfl, ⟨x, c, y, c', rfl, h1, h2⟩, hb⟩
  exact ⟨_, _, rfl, ⟨h1.raw, h2.raw, hl, (by decide : (nrow 1).length ≤ 2048)⟩, hb⟩
end

set_option maxRecDepth 100000 in
set_option maxHeartbeats 8000000 in
theorem head_any (w : World) (ht : Tab w) : Calls Tryz.prog 6 #[] w (Just (.bool true) w) := by
  have HT := Lib.hid ht
  clear ht
  go_enter Tryz.func6, Tryz.ntmps6
  go_wp2_with (first | (go_at_call 13; refine (new_yes 100 _ (by decide) (by decide)).mono ?_) | fail)
  rintro e wa ⟨m, rfl, hga, hma⟩
  have HA := Lib.hid (And.intro hga hma)
  clear hga hma
  go_wp2_with (first | (go_at_call 13; refine (new_yes 1 _ (by decide) (by decide)).mono ?_) | fail)
  rintro e wb ⟨n, rfl, hgb, hmb⟩
  have H2 : Hid (Two w wb (newIn w wa) (newIn wa wb) m n m0 n0) := Lib.hid ⟨HA.out.2.grow hgb, hmb, fun k h1 h2 => by have := h1.2; have := h2.1; omega, fun k h => h.1, fun k h => Nat.le_trans (Below.size HA.out.1) h.1, HA.out.1.trans hgb⟩
  obtain ⟨pm, hpm⟩ := H2.out.one.ptr
  obtain ⟨pn, hpn⟩ := H2.out.two.ptr
  subst hpm hpn
  clear hgb hmb HA
  go_wp2_with (first | (go_at_call 13; refine (new_no _).mono ?_; rintro e w3 ⟨rfl, rfl⟩) | fail)
  go_wp2_with (first | (go_at_call 18; refine (H2.out.par say1).mono ?_) | fail)
  rintro e wc ⟨rfl, Pc, hc⟩
  have Hc := Lib.hid hc
  clear hc
  go_wp2_with (first | (go_at_call 27; refine (of_fr 2 (by decide) (by decide) _).mono ?_) | fail)
  rintro e wxd ⟨vnd, vdd, rfl, hxd, hgd⟩
  have HXd := Lib.hid hxd
  have HHd := Lib.hid (Hc.out.more hgd)
  clear hxd hgd
  go_wp2_with (first | (go_at_call 16; refine (HHd.out.num (x := x2) HXd.out say2).mono ?_) | fail)
  rintro e wd ⟨rfl, Pd, hd⟩
  have Hd := Lib.hid hd
  clear hd
  go_wp2_with (first | (go_at_call 22; refine (Hd.out.pair HT.out (op := 5) (by decide) i64_zero (by constructor <;> omega) say3).mono ?_) | fail)
  rintro e we1 ⟨rfl, Pe1, he1⟩
  have He1 := Lib.hid he1
  clear he1
  go_wp2_with (first | (go_at_call 22; refine (He1.out.pair HT.out (op := 5) (by decide) i64_zero (by constructor <;> omega) say4).mono ?_) | fail)
  rintro e wf1 ⟨rfl, Pf1, hf1⟩
  have Hf1 := Lib.hid hf1
  clear hf1
  go_wp2_with (first | (go_at_call 20; refine (Hf1.out.single HT.out (op := 8) (by decide) (by constructor <;> omega) say5).mono ?_) | fail)
  rintro e wg1 ⟨rfl, Pg1, hg1⟩
  have Hg1 := Lib.hid hg1
  clear hg1
  go_wp2_with (first | (go_at_call 20; refine (Hg1.out.single HT.out (op := 3) (by decide) i64_zero say6).mono ?_) | fail)
  rintro e wh1 ⟨rfl, Ph1, hh1⟩
  have Hh1 := Lib.hid hh1
  clear hh1
  go_wp2_with (first | (go_at_call 27; refine (of_fr 1 (by decide) (by decide) _).mono ?_) | fail)
  rintro e wxi1 ⟨vni1, vdi1, rfl, hxi1, hgi1⟩
  have HXi1 := Lib.hid hxi1
  have HHi1 := Lib.hid (Hh1.out.more hgi1)
  clear hxi1 hgi1
  go_wp2_with (first | (go_at_call 16; refine (HHi1.out.num2 (x := x1) HXi1.out say7).mono ?_) | fail)
  rintro e wi1 ⟨rfl, Pi1, hi1⟩
  have Hi1 := Lib.hid hi1
  clear hi1
  go_wp2_with (first | (go_at_call 27; refine (of_fr 2 (by decide) (by decide) _).mono ?_) | fail)
  rintro e wxj1 ⟨vnj1, vdj1, rfl, hxj1, hgj1⟩
  have HXj1 := Lib.hid hxj1
  have HHj1 := Lib.hid (Hi1.out.more hgj1)
  clear hxj1 hgj1
  go_wp2_with (first | (go_at_call 16; refine (HHj1.out.num2 (x := x2) HXj1.out say8).mono ?_) | fail)
  rintro e wj1 ⟨rfl, Pj1, hj1⟩
  have Hj1 := Lib.hid hj1
  clear hj1
  go_wp2_with (first | (go_at_call 27; refine (of_fr 1 (by decide) (by decide) _).mono ?_) | fail)
  rintro e wxk1 ⟨vnk1, vdk1, rfl, hxk1, hgk1⟩
  have HXk1 := Lib.hid hxk1
  have HHk1 := Lib.hid (Hj1.out.more hgk1)
  clear hxk1 hgk1
  go_wp2_with (first | (go_at_call 16; refine (HHk1.out.num2 (x := x1) HXk1.out say9).mono ?_) | fail)
  rintro e wk1 ⟨rfl, Pk1, hk1⟩
  have Hk1 := Lib.hid hk1
  clear hk1
  have HTP : Hid (Calls Tryz.prog 24 #[.pointer (some ⟨pm, 0, none⟩), .int .i64 2, .slice (some ⟨wk1.heap.size, 0, none⟩) 1 1] (wk1.alloc (.cells #[.string ⟨#[120]⟩, .int .i64 0] 63)) (TapePost m3 2 [([120], 0)] (wk1.alloc (.cells #[.string ⟨#[120]⟩, .int .i64 0] 63)))) := Lib.hid (by
    refine tape_some (T := [([120], 0)]) (Hk1.out.one.grow (Grow.alloc _ _)) (by constructor <;> omega) (fun i x hx => ?_) (by decide) (fun x hx => ?_)
    · have hi := (List.getElem?_eq_some_iff.1 hx).1
      obtain rfl : i = 0 := by simpa using hi
      simp at hx
      subst hx
      have hb := BlkOf.new wk1 #[.string ⟨#[120]⟩, .int .i64 0] 63
      exact ⟨i64_zero, _, 0, rfl, hb.at 0 rfl, hb.at 1 rfl⟩
    · rw [List.mem_singleton.1 hx]; decide)
  go_wp2_with (first | (go_at_call 24; refine HTP.out.mono ?_) | fail)
  rintro e wm (⟨_, vN, vT, rfl, hn, ht, hg⟩ | ⟨h, _⟩)
  · obtain ⟨AN, cN, rfl, hnA⟩ := hn.form
    obtain ⟨AT, cT, rfl, htA⟩ := ht.form
    have hgm : Grow wk1 wm := Grow.trans (Grow.alloc _ _) hg
    have hl3 : m3.l.length = 3 := rfl
    have hl1 : ([([120], 0)] : List (List UInt8 × Int)).length = 1 := rfl
    have hp1 : ((m3.pars : Nat) : Int) = 1 := rfl
    have htp : TpAt 2048 wm ⟨1, 2, m3.l, [([120], 0)]⟩ (.slice AN m3.l.length cN) (.slice AT ([([120], 0)] : List (List UInt8 × Int)).length cT) := ⟨by constructor <;> simp, by constructor <;> simp, by decide, by decide, _, _, _, _, rfl, rfl, hnA, htA⟩
    have hc1 := fun o => check_any (htp.grow (Grow.alloc wm o)) (by decide) (HT.out.grow (Grow.trans (Hk1.out.more hgm).grow (Grow.alloc wm o)))
    rw [say11] at hc1
    rw [hl3, hl1, hp1]
    unfold tpV at hc1
    dsimp only at hc1
    rw [hl3, hl1] at hc1
    have htp0 : ∀ W, TpAt 2048 W ⟨0, 0, [], []⟩ (.slice none 0 0) (.slice none 0 0) := fun W => ⟨i64_zero, i64_zero, by decide, by decide, none, 0, none, 0, rfl, rfl, fun i x hx => by simp at hx, fun i x hx => by simp at hx⟩
    have hc2 := fun W (hW : Grow wm W) => check_any (htp0 W) (by decide) (HT.out.grow (Grow.trans (Hk1.out.more hgm).grow hW))
    rw [say12] at hc2
    have HC1 := Lib.hid hc1
    have HC2 := Lib.hid hc2
    have HLN := Lib.hid (fun W (hW : Grow wm W) => len_some (Hk1.out.one.grow (Grow.trans hgm hW)))
    have HGM := Lib.hid (Hk1.out.more hgm).grow
    clear hn ht hg hgm hl3 hl1 hp1 htp hc1 htp0 hc2 hnA htA
    go_wp2_with (first | (go_at_call 9; refine (HC1.out _).mono ?_) | fail)
    rintro e w5 ⟨rfl, hg5⟩
    have HG5 := Lib.hid (Grow.trans (Grow.alloc wm _) hg5)
    clear hg5
    go_wp2_with (first | (go_at_call 9; refine (HC2.out _ HG5.out).mono ?_) | fail)
    rintro e w6 ⟨rfl, hg6⟩
    have HG6 := Lib.hid (Grow.trans HG5.out hg6)
    clear hg6
    go_wp2_with (first | (go_at_call 26; refine (HLN.out _ HG6.out).mono ?_; rintro e w3 ⟨rfl, rfl⟩) | fail)
    go_ret
    exact ⟨rfl, HGM.out.trans HG6.out⟩
  · rw [say10] at h; cases h
end Go.Proofs.YtofpcdjoljjnoaaGreatDoor

namespace Go.Proofs.YtofpcdjoljjnoaaGreatDoor
open Go.RowKit Go.Maps

set_option maxHeartbeats 1000000 in
theorem small_any (s : Bool) (a b : Option Addr) (n k ca cb : Nat) (w : World) (hn : n ≤ 9223372036854775807) (hk : k ≤ 9223372036854775807) :
    Calls Tryz.prog 15 #[.agg #[.bool s, .slice a n ca, .slice b k cb]] w (Just (.bool (decide (n ≤ 3) && decide (k ≤ 3))) w) := by
  have HG := Lib.hid (Grow.alloc w (.cells #[.bool s, .slice a n ca, .slice b k cb] 46))
  by_cases h1 : n ≤ 3
  · have d1 : decide ((n : Int) ≤ 3) = true := by simp; omega
    have e1 : ((n : Int) ≤ 3) := by omega
    have hd : (decide (n ≤ 3) && decide (k ≤ 3)) = decide ((k : Int) ≤ 3) := by
      rw [decide_eq_true h1, Bool.true_and]
      by_cases h2 : k ≤ 3
      · rw [decide_eq_true h2, decide_eq_true (by omega)]
      · rw [decide_eq_false h2, decide_eq_false (by omega)]
    rw [hd]
    clear hd
    go_enter Tryz.func15, Tryz.ntmps15
    go_wp2_with fail
    go_ret
    exact ⟨rfl, HG.out⟩
  · have d1 : decide ((n : Int) ≤ 3) = false := by simp; omega
    have e1 : ¬ ((n : Int) ≤ 3) := by omega
    rw [decide_eq_false h1, Bool.false_and]
    go_enter Tryz.func15, Tryz.ntmps15
    go_wp2_with fail
    go_ret
    exact ⟨rfl, HG.out⟩
end Go.Proofs.YtofpcdjoljjnoaaGreatDoor

namespace Go.Proofs.YtofpcdjoljjnoaaGreatDoor
open Go.RowKit

def topB (L : List Nat) : Bool := decide (L.length = 0) || decide (L.getD (L.length - 1) 0 ≠ 0)
def sameNB (L M : List Nat) : Bool := decide (L = M) && topB L
def SameRel2 (L M : List Nat) (w : World) (i : Value) (wr : World) : Prop := ∃ k : Nat, k ≤ L.length ∧ i = .int .i64 (k : Int) ∧ L.take k = M.take k ∧ Below w.heap.size w wr

set_option maxHeartbeats 4000000 in
theorem nsame2_any (a b : Option Addr) (ca cb : Nat) (L M : List Nat) (w : World) (hl : L.length ≤ 1099511627776) (hL : NatAt w a L) (hM : NatAt w b M) :
    Calls Tryz.prog 74 #[.slice a L.length ca, .slice b M.length cb] w (Just (.bool (sameNB L M)) w) := by
  by_cases hlen : L.length = M.length
  · have HL := Lib.hid hL
    have HM := Lib.hid hM
    have HLEN := Lib.hid hlen
    rw [← hlen]
    clear hL hM hlen
    obtain ⟨N, hN⟩ : ∃ N, N = L.length := ⟨_, rfl⟩
    rw [← hN] at hl ⊢
    have HN := Lib.hid hN
    clear hN
    go_enter Tryz.func74, Tryz.ntmps74
    go_wp2_with fail
    go_loopw [5] (fun i wr => SameRel2 L M w i wr) (fun i _ => N - (intOf i).toNat)
    case atStart => exact ⟨0, by omega, rfl, rfl, Below.refl _ _⟩
    case round =>
      obtain ⟨k, hk, rfl, ht, hb⟩ := hrel
      have HB := Lib.hid hb
      have HT := Lib.hid ht
      have hkN : k ≤ N := by rw [HN.out]; exact hk
      clear hk ht hb
      by_cases hlt : k < N
      · obtain ⟨b1, o1, rfl, hc1⟩ := HL.out.below HB.out (Nat.le_refl _) k (by have := HN.out; omega)
        obtain ⟨b2, o2, rfl, hc2⟩ := HM.out.below HB.out (Nat.le_refl _) k (by have := HN.out; have := HLEN.out; omega)
        obtain ⟨p, hp⟩ : ∃ p, p = L.getD k 0 := ⟨_, rfl⟩
        obtain ⟨q, hq⟩ : ∃ q, q = M.getD k 0 := ⟨_, rfl⟩
        rw [← hp] at hc1
        rw [← hq] at hc2
        have HP := Lib.hid hp
        have HQ := Lib.hid hq
        have hltI : (k : Int) < (N : Int) := by omega
        clear hp hq
        have HST := Lib.hid (take_eq_step HT.out (by have := HN.out; omega) (by have := HN.out; have := HLEN.out; omega))
        go_wp2_with fail
        by_cases hpq : p = q
        · have hbe : (p : Int) = (q : Int) := by rw [hpq]
          have hne : ((p : Int) != (q : Int)) = false := by simp [hpq]
          have HST2 : Hid (L.take (k + 1) = M.take (k + 1)) := Lib.hid (HST.out.2 (by rw [← HP.out, ← HQ.out, hpq]))
          go_quiet (fail)
          go_wp2_with fail
          go_roundw
          case rel => exact ⟨k + 1, by have := HN.out; omega, by go_num, HST2.out, HB.out.trans ⟨rfl, rfl, rfl, Nat.le_refl _, fun _ _ => rfl⟩⟩
          case measure => simp [intOf]; omega
        · have hbe : ((p : Int) == (q : Int)) = false := by simp; omega
          have hpi : ¬ ((p : Int) = (q : Int)) := by omega
          have HNE : Hid (L ≠ M) := Lib.hid (getD_ne (by rw [← HP.out, ← HQ.out]; exact hpq))
          go_quiet (fail)
          go_wp2_with fail
          go_ret
          exact ⟨by unfold sameNB; rw [decide_eq_false HNE.out]; rfl, HB.out.trans ⟨rfl, rfl, rfl, Nat.le_refl _, fun _ _ => rfl⟩⟩
      · obtain rfl : k = N := by omega
        have HE : Hid (L = M) := Lib.hid (by
          have h1 := HT.out
          have h2 := HN.out
          have h3 := HLEN.out
          rw [List.take_of_length_le (by omega), List.take_of_length_le (by omega)] at h1
          exact h1)
        by_cases h0 : k = 0
        · subst h0
          have HV : Hid (sameNB L M = true) := Lib.hid (by unfold sameNB topB; rw [decide_eq_true HE.out, decide_eq_true HN.out.symm]; rfl)
          go_wp2_with fail
          go_ret
          exact ⟨by rw [HV.out]; rfl, HB.out⟩
        · obtain ⟨j, hj⟩ : ∃ j, j + 1 = k := ⟨k - 1, by omega⟩
          have hjI : (k : Int) - 1 = (j : Int) := by omega
          have hk0 : ¬ ((k : Int) = 0) := by omega
          have hk0b : ((k : Int) == 0) = false := by simp; omega
          have hjk : (j : Int) < (k : Int) := by omega
          obtain ⟨b1, o1, rfl, hc1⟩ := HL.out.below HB.out (Nat.le_refl _) j (by have := HN.out; omega)
          obtain ⟨p, hp⟩ : ∃ p, p = L.getD j 0 := ⟨_, rfl⟩
          rw [← hp] at hc1
          have HP : Hid (p = L.getD (L.length - 1) 0) := Lib.hid (by rw [hp, ← HN.out, ← hj]; rfl)
          have HJ := Lib.hid hj
          clear hp hj
          by_cases hp0 : p = 0
          · have hpi : (p : Int) = 0 := by omega
            have hpb : ((p : Int) != 0) = false := by simp [hp0]
            have HV : Hid (sameNB L M = false) := Lib.hid (by
              unfold sameNB topB
              rw [← HP.out, decide_eq_false (show ¬ L.length = 0 by have := HN.out; have := HJ.out; omega), decide_eq_false (show ¬ (p ≠ 0) by simp [hp0])]
              simp)
            clear hp0
            go_wp2_with fail
            go_ret
            exact ⟨by rw [HV.out]; rfl, HB.out⟩
          · have hpi : ¬ ((p : Int) = 0) := by omega
            have hpb : ((p : Int) != 0) = true := by simp; omega
            have HV : Hid (sameNB L M = true) := Lib.hid (by
              unfold sameNB topB
              rw [← HP.out, decide_eq_true HE.out, decide_eq_true hp0]
              simp)
            go_wp2_with fail
            go_ret
            exact ⟨by rw [HV.out]; rfl, HB.out⟩
  · have hne : ¬ ((L.length : Int) = (M.length : Int)) := by omega
    have HNE : Hid (L ≠ M) := Lib.hid (fun e => hlen (by rw [e]))
    clear hL hM
    go_enter Tryz.func74, Tryz.ntmps74
    go_wp2_with fail
    go_ret
    exact ⟨by unfold sameNB; rw [decide_eq_false HNE.out]; rfl, Below.refl _ _⟩

def sameZB (s : Bool) (L : List Nat) (s' : Bool) (M : List Nat) : Bool := ((s == s') && sameNB L M) && (!s || decide (0 < L.length))

set_option maxHeartbeats 4000000 in
theorem zsame_any (s s' : Bool) (a b : Option Addr) (ca cb : Nat) (L M : List Nat) (w : World) (hl : L.length ≤ 1099511627776) (hL : NatAt w a L) (hM : NatAt w b M) :
    Calls Tryz.prog 73 #[.agg #[.bool s, .slice a L.length ca], .agg #[.bool s', .slice b M.length cb]] w (Just (.bool (sameZB s L s' M)) w) := by
  obtain ⟨W1, hW1⟩ : ∃ W1, W1 = (w.alloc (.cells #[.bool s, .slice a L.length ca] 44)).alloc (.cells #[.bool s', .slice b M.length cb] 44) := ⟨_, rfl⟩
  have b0 : BlkOf W1 w.heap.size #[.bool s, .slice a L.length ca] 44 := by rw [hW1]; exact (BlkOf.new w _ _).alloc _
  have b1 : BlkOf W1 (w.heap.size + 1) #[.bool s', .slice b M.length cb] 44 := by rw [hW1]; exact BlkOf.news (by simp) _ _
  have hbw : Grow w W1 := by rw [hW1]; exact ((Below.refl _ w).alloc (Nat.le_refl _) _).alloc (by simp) _
  have HS := Lib.hid (nsame2_any a b ca cb L M W1 hl (hL.below hbw (Nat.le_refl _)) (hM.below hbw (Nat.le_refl _)))
  have HBW := Lib.hid hbw
  have HB0 := Lib.hid b0
  have c0 := b0.at 0 rfl
  have c1 := b0.at 1 rfl
  have d0 := b1.at 0 rfl
  have d1 := b1.at 1 rfl
  obtain ⟨r, hr⟩ : ∃ r, r = sameNB L M := ⟨_, rfl⟩
  rw [← hr] at HS
  unfold sameZB
  rw [← hr]
  obtain ⟨n, hn⟩ : ∃ n, n = L.length := ⟨_, rfl⟩
  rw [← hn] at hl hW1 HS HB0 c1 ⊢
  subst hW1
  clear b0 b1 hbw hL hM hr hn
  by_cases hss : s = s'
  · subst hss
    rw [show (s == s) = true by simp, Bool.true_and]
    cases r with
    | false =>
      cases s <;>
      (go_enter Tryz.func73, Tryz.ntmps73
       go_wp2_with (first | (go_at_call 74; refine HS.out.mono ?_) | fail)
       rintro e w3 ⟨rfl, hb3⟩
       have HG := Lib.hid (HBW.out.trans hb3)
       clear hb3
       go_wp2_with fail
       go_ret
       exact ⟨rfl, HG.out⟩)
    | true =>
      cases s with
      | false =>
        go_enter Tryz.func73, Tryz.ntmps73
        go_wp2_with (first | (go_at_call 74; refine HS.out.mono ?_) | fail)
        rintro e w3 ⟨rfl, hb3⟩
        have HG := Lib.hid (HBW.out.trans hb3)
        have hB3 := HB0.out.below hb3 HB0.out.lt
        have q0 := hB3.at 0 rfl
        clear hb3 hB3
        go_wp2_with fail
        go_ret
        exact ⟨rfl, HG.out⟩
      | true =>
        by_cases h0 : 0 < n
        · have h0i : (0 : Int) < (n : Int) := by omega
          rw [decide_eq_true h0]
          go_enter Tryz.func73, Tryz.ntmps73
          go_wp2_with (first | (go_at_call 74; refine HS.out.mono ?_) | fail)
          rintro e w3 ⟨rfl, hb3⟩
          have HG := Lib.hid (HBW.out.trans hb3)
          have hB3 := HB0.out.below hb3 HB0.out.lt
          have q0 := hB3.at 0 rfl
          have q1 := hB3.at 1 rfl
          clear hb3 hB3
          go_wp2_with fail
          go_ret
          exact ⟨rfl, HG.out⟩
        · have h0i : ¬ (0 : Int) < (n : Int) := by omega
          rw [decide_eq_false h0]
          go_enter Tryz.func73, Tryz.ntmps73
          go_wp2_with (first | (go_at_call 74; refine HS.out.mono ?_) | fail)
          rintro e w3 ⟨rfl, hb3⟩
          have HG := Lib.hid (HBW.out.trans hb3)
          have hB3 := HB0.out.below hb3 HB0.out.lt
          have q0 := hB3.at 0 rfl
          have q1 := hB3.at 1 rfl
          clear hb3 hB3
          go_wp2_with fail
          go_ret
          exact ⟨rfl, HG.out⟩
  · have hssb : (s == s') = false := by simp [hss]
    rw [hssb, Bool.false_and, Bool.false_and]
    cases s <;> cases s' <;>
    first
    | exact absurd rfl hss
    | (clear hss hssb
       go_enter Tryz.func73, Tryz.ntmps73
       go_wp2_with fail
       go_ret
       exact ⟨rfl, HBW.out⟩)
def sameFB (x y : Fr) : Bool := sameZB x.s x.m y.s y.m && sameNB x.d y.d

set_option maxRecDepth 100000 in
set_option maxHeartbeats 4000000 in
theorem fsame_any {w : World} (x y : Fr) (a b a2 b2 : Option Addr) (ca cb ca2 cb2 : Nat) (hl : x.m.length ≤ 1099511627776) (hl2 : x.d.length ≤ 1099511627776) (h1 : NatAt w a x.m) (h2 : NatAt w b x.d) (h3 : NatAt w a2 y.m) (h4 : NatAt w b2 y.d) :
    Calls Tryz.prog 52 #[.agg #[.bool x.s, .slice a x.m.length ca, .slice b x.d.length cb], .agg #[.bool y.s, .slice a2 y.m.length ca2, .slice b2 y.d.length cb2]] w (Just (.bool (sameFB x y)) w) := by
  obtain ⟨W1, hW1⟩ : ∃ W1, W1 = (w.alloc (.cells #[.bool x.s, .slice a x.m.length ca, .slice b x.d.length cb] 46)).alloc (.cells #[.bool y.s, .slice a2 y.m.length ca2, .slice b2 y.d.length cb2] 46) := ⟨_, rfl⟩
  have b0 : BlkOf W1 w.heap.size #[.bool x.s, .slice a x.m.length ca, .slice b x.d.length cb] 46 := by rw [hW1]; exact (BlkOf.new w _ _).alloc _
  have b1 : BlkOf W1 (w.heap.size + 1) #[.bool y.s, .slice a2 y.m.length ca2, .slice b2 y.d.length cb2] 46 := by rw [hW1]; exact BlkOf.news (by simp) _ _
  have hbw : Grow w W1 := by rw [hW1]; exact ((Below.refl _ w).alloc (Nat.le_refl _) _).alloc (by simp) _
  have HZ := Lib.hid (zsame_any x.s y.s a a2 ca ca2 x.m y.m W1 hl (h1.below hbw (Nat.le_refl _)) (h3.below hbw (Nat.le_refl _)))
  have HD := Lib.hid (fun W (hW : Grow w W) => nsame2_any b b2 cb cb2 x.d y.d W hl2 (h2.below hW (Nat.le_refl _)) (h4.below hW (Nat.le_refl _)))
  have HB0 := Lib.hid b0
  have HB1 := Lib.hid b1
  have HBW := Lib.hid hbw
  have c0 := b0.at 0 rfl
  have c1 := b0.at 1 rfl
  have d0 := b1.at 0 rfl
  have d1 := b1.at 1 rfl
  unfold sameFB
  obtain ⟨r, hr⟩ : ∃ r, r = sameZB x.s x.m y.s y.m := ⟨_, rfl⟩
  obtain ⟨q, hq⟩ : ∃ q, q = sameNB x.d y.d := ⟨_, rfl⟩
  rw [← hr] at HZ ⊢
  rw [← hq] at HD ⊢
  subst hW1
  clear b0 b1 hbw h1 h2 h3 h4 hr hq hl hl2
  cases r with
  | false =>
    go_enter Tryz.func52, Tryz.ntmps52
    go_wp2_with (first | (go_at_call 73; refine HZ.out.mono ?_) | fail)
    rintro e w3 ⟨rfl, hb3⟩
    have HG := Lib.hid (HBW.out.trans hb3)
    clear hb3
    go_wp2_with fail
    go_ret
    exact ⟨rfl, HG.out⟩
  | true =>
    go_enter Tryz.func52, Tryz.ntmps52
    go_wp2_with (first | (go_at_call 73; refine HZ.out.mono ?_) | fail)
    rintro e w3 ⟨rfl, hb3⟩
    have HG := Lib.hid (HBW.out.trans hb3)
    have hB3 := HB0.out.below hb3 HB0.out.lt
    have hC3 := HB1.out.below hb3 HB1.out.lt
    have q2 := hB3.at 2 rfl
    have r2 := hC3.at 2 rfl
    clear hb3 hB3 hC3 c0 c1 d0 d1
    go_wp2_with (first | (go_at_call 74; refine (HD.out _ HG.out).mono ?_) | fail)
    rintro e w4 ⟨rfl, hb4⟩
    have HG4 := Lib.hid (Grow.trans HG.out hb4)
    clear hb4
    go_wp2_with fail
    go_ret
    exact ⟨by rw [Bool.true_and]; rfl, HG4.out⟩

set_option maxHeartbeats 2000000 in
theorem rnone_any {w : World} (x : Fr) (a b : Option Addr) (ca cb : Nat) (hl : x.m.length ≤ 1099511627776) (hl2 : x.d.length ≤ 1099511627776) :
    Calls Tryz.prog 53 #[.agg #[.bool x.s, .slice a x.m.length ca, .slice b x.d.length cb]] w (Just (.bool (sameB x ⟨false, [], []⟩)) w) := by
  have HG := Lib.hid (Grow.alloc w (.cells #[.bool x.s, .slice a x.m.length ca, .slice b x.d.length cb] 46))
  have hv : sameB x ⟨false, [], []⟩ = ((decide (x.m.length = 0) && !x.s) && decide (x.d.length = 0)) := by
    obtain ⟨s, m, d⟩ := x
    unfold sameB
    cases s <;> cases m <;> cases d <;> simp
  rw [hv]
  obtain ⟨s, m, d⟩ := x
  dsimp only at *
  obtain ⟨n, hn⟩ : ∃ n, n = m.length := ⟨_, rfl⟩
  obtain ⟨k, hk⟩ : ∃ k, k = d.length := ⟨_, rfl⟩
  rw [← hn] at hl HG ⊢
  rw [← hk] at hl2 HG ⊢
  clear hv hn hk
  by_cases h1 : n = 0
  · have e1 : (n : Int) = 0 := by omega
    have e1b : ((n : Int) == 0) = true := by simp [h1]
    rw [decide_eq_true h1]
    clear h1
    cases s with
    | true =>
      go_enter Tryz.func53, Tryz.ntmps53
      go_wp2_with fail
      go_ret
      exact ⟨rfl, HG.out⟩
    | false =>
      by_cases h2 : k = 0
      · have e2b : ((k : Int) == 0) = true := by simp [h2]
        rw [decide_eq_true h2]
        clear h2
        go_enter Tryz.func53, Tryz.ntmps53
        go_wp2_with fail
        go_ret
        exact ⟨by simp, HG.out⟩
      · have e2b : ((k : Int) == 0) = false := by simp; omega
        rw [decide_eq_false h2]
        clear h2
        go_enter Tryz.func53, Tryz.ntmps53
        go_wp2_with fail
        go_ret
        exact ⟨by simp, HG.out⟩
  · have e1 : ¬ (n : Int) = 0 := by omega
    have e1b : ((n : Int) == 0) = false := by simp; omega
    rw [decide_eq_false h1]
    clear h1
    go_enter Tryz.func53, Tryz.ntmps53
    go_wp2_with fail
    go_ret
    exact ⟨by simp, HG.out⟩
end Go.Proofs.YtofpcdjoljjnoaaGreatDoor

namespace Go.Proofs.YtofpcdjoljjnoaaGreatDoor
open Go.RowKit

theorem nrow_pos {n : Nat} : 0 < (nrow n).length ↔ n ≠ 0 := by
  constructor
  · rintro h rfl; exact absurd h (by decide)
  · intro h
    rcases Nat.eq_zero_or_pos (nrow n).length with h0 | h0
    · exact absurd (nrow_nil.1 (List.eq_nil_of_length_eq_zero h0)) h
    · exact h0
section
variable {K : Nat} {w : World} {n d : Nat}

set_option maxHeartbeats 1000000 in
theorem whole_any (a : Option Addr) (l c : Nat) (w : World) :
    Calls Tryz.prog 67 #[.slice a l c] w (Just (.agg #[.bool false, .slice a l c]) w) := by
  go_enter Tryz.func67, Tryz.ntmps67
  go_wp2_with fail
  refine post_cell rfl (g := w.heap.size) rfl (BlkOf.news rfl _ _) Tryz.underlying44 rfl (by kernel_rfl) ?_
  exact ⟨rfl, (Below.refl _ _).alloc (Nat.le_refl _) _⟩

/-- A normal integer. -/
def ZRes (s : Bool) (n : Nat) (w : World) (e : Ending) (w' : World) : Prop := ∃ x c, e = .returned (.agg #[.bool (rdS s n), .slice x (nrow n).length c]) ∧ NRow w.heap.size w' (.slice x (nrow n).length c) (nrow n) ∧ Below w.heap.size w w'

set_option maxRecDepth 100000 in
set_option maxHeartbeats 4000000 in
theorem rznorm_any {v : Value} (s : Bool) (h : NNum K w v n) (hK : K ≤ 1048576) :
    Calls Tryz.prog 90 #[.agg #[.bool s, v]] w (ZRes s n w) := by
  have H := Lib.hid h
  obtain ⟨a, ca, A, rfl, _, _, _, _, _, _⟩ := h
  obtain ⟨W1, hW1⟩ : ∃ W1, W1 = (w.alloc (.cells #[.bool s, .slice a A.length ca] 44)).alloc (.cells #[.bool false, .slice none 0 0] 44) := ⟨_, rfl⟩
  have b0 : BlkOf W1 w.heap.size #[.bool s, .slice a A.length ca] 44 := by rw [hW1]; exact (BlkOf.new w _ _).alloc _
  have b1 : BlkOf W1 (w.heap.size + 1) #[.bool false, .slice none 0 0] 44 := by rw [hW1]; exact BlkOf.news (by simp) _ _
  have hbw : Grow w W1 := by rw [hW1]; exact ((Below.refl _ w).alloc (Nat.le_refl _) _).alloc (by simp) _
  have HN := Lib.hid (norm_v (K := K) hK (H.out.below hbw))
  have HB0 := Lib.hid b0
  have HB1 := Lib.hid b1
  have HBW := Lib.hid hbw
  have c1 := b0.at 1 rfl
  subst hW1
  clear b0 b1 hbw
  go_enter Tryz.func90, Tryz.ntmps90
  go_wp2_with (first | (go_at_call 86; refine HN.out.mono ?_) | fail)
  rintro e w1 ⟨v, rfl, hr, hb1⟩
  obtain ⟨x, c, rfl, _, _, _⟩ := hr.at_
  have hB0 := HB0.out.below hb1 HB0.out.lt
  have hB1 := HB1.out.below hb1 HB1.out.lt
  have q0 := hB0.at 0 rfl
  have r0 := hB1.at 0 rfl
  have r1 := hB1.at 1 rfl
  have f0 := hB1.free 0
  have f1 := hB1.free 1
  have Q := Lib.hid ((hB1.set 0 (.bool (rdS s n))).set 1 (.slice x (nrow n).length c))
  have hbw1 : Below w.heap.size w w1 := Grow.trans HBW.out hb1
  have HF := Lib.hid ((hbw1.setCell (p := ⟨w.heap.size + 1, 0, none⟩) (by show w.heap.size ≤ w.heap.size + 1; omega) (.bool (rdS s n))).setCell (p := ⟨w.heap.size + 1, 1, none⟩) (by show w.heap.size ≤ w.heap.size + 1; omega) (.slice x (nrow n).length c))
  have HX := Lib.hid (NRow.more (ownsRow_setCell_below (a := ⟨w.heap.size + 1, 1, none⟩) (ownsRow_setCell_below (a := ⟨w.heap.size + 1, 0, none⟩) hr (by have := HB1.out.lt; exact this) (.bool (rdS s n))) (by have := HB1.out.lt; exact this) (.slice x (nrow n).length c)) (Below.size HBW.out))
  clear hr hb1 hB0 hB1 hbw1 c1
  obtain ⟨l, hl⟩ : ∃ l, l = (nrow n).length := ⟨_, rfl⟩
  have hpos := nrow_pos (n := n)
  rw [← hl] at Q HF HX hpos ⊢
  cases s with
  | false =>
    have e : rdS false n = false := rfl
    rw [e] at Q HF HX
    have HE := Lib.hid e
    have HL := Lib.hid hl
    clear hpos e hl
    go_wp2_with fail
    refine post_cell rfl (g := w.heap.size + 1) rfl Q.out Tryz.underlying44 rfl (by kernel_rfl) ?_
    exact ⟨x, c, by rw [HE.out, ← HL.out]; rfl, by rw [← HL.out]; exact HX.out, HF.out⟩
  | true =>
    by_cases h0 : 0 < l
    · have h0i : (0 : Int) < (l : Int) := by omega
      have e : rdS true n = true := by unfold rdS; rw [decide_eq_true (hpos.1 h0)]; rfl
      rw [e] at Q HF HX
      have HE := Lib.hid e
      have HL := Lib.hid hl
      clear hpos e hl
      go_wp2_with fail
      refine post_cell rfl (g := w.heap.size + 1) rfl Q.out Tryz.underlying44 rfl (by kernel_rfl) ?_
      exact ⟨x, c, by rw [HE.out, ← HL.out]; rfl, by rw [← HL.out]; exact HX.out, HF.out⟩
    · have h0i : ¬ (0 : Int) < (l : Int) := by omega
      have e : rdS true n = false := by unfold rdS; rw [decide_eq_false (fun h => h0 (hpos.2 h))]; rfl
      rw [e] at Q HF HX
      have HE := Lib.hid e
      have HL := Lib.hid hl
      clear hpos e hl
      go_wp2_with fail
      refine post_cell rfl (g := w.heap.size + 1) rfl Q.out Tryz.underlying44 rfl (by kernel_rfl) ?_
      exact ⟨x, c, by rw [HE.out, ← HL.out]; rfl, by rw [← HL.out]; exact HX.out, HF.out⟩

set_option maxRecDepth 100000 in
set_option maxHeartbeats 8000000 in
theorem make_any {vn vd : Value} (s : Bool) (h : FrNum K w vn vd n d) (hK : K ≤ 524288) (h0 : d ≠ 0) :
    Calls Tryz.prog 66 #[.agg #[.bool s, vn], .agg #[.bool false, vd]] w (RedPost s n d w) := by
  have H := Lib.hid h
  have hdK := h.2.lt
  have hnK := h.1.lt
  obtain ⟨⟨a, ca, A, rfl, _, _, _, _, _, _⟩, ⟨b, cb, B, rfl, _, _, _, _, _, _⟩⟩ := h
  obtain ⟨g, hg⟩ : ∃ g, g = Nat.gcd n d := ⟨_, rfl⟩
  have hg0 : g ≠ 0 := by rw [hg]; exact fun e => h0 (Nat.eq_zero_of_gcd_eq_zero_right e)
  have hgd : g ≤ d := by rw [hg]; exact Nat.le_of_dvd (by omega) (Nat.gcd_dvd_right n d)
  obtain ⟨W0, hW0⟩ : ∃ W0, W0 = ((w.alloc (.cells #[.bool s, .slice a A.length ca] 44)).alloc (.cells #[.bool false, .slice b B.length cb] 44)).alloc (.cells #[.bool false, .slice none 0 0, .slice none 0 0] 46) := ⟨_, rfl⟩
  obtain ⟨b0, b1, b2, hsz, hbw⟩ := three_new rfl _ _ _ _ _ _ hW0
  have HG := Lib.hid (ngcd_v K _ _ n d W0 hK (H.out.grow hbw).1 (H.out.grow hbw).2)
  rw [← hg] at HG
  have HGK : Hid (∀ B v W, NRow B W v (nrow g) → NNum K W v g) := Lib.hid (fun B v W h => h.numN (Nat.lt_of_le_of_lt hgd hdK))
  have HNK : Hid (n / g < 2 ^ (64 * K) ∧ d / g < 2 ^ (64 * K)) := Lib.hid ⟨Nat.lt_of_le_of_lt (Nat.div_le_self _ _) hnK, Nat.lt_of_le_of_lt (Nat.div_le_self _ _) hdK⟩
  have HGG := Lib.hid hg
  have HB0 := Lib.hid b0
  have HB1 := Lib.hid b1
  have HB2 := Lib.hid b2
  have HBW := Lib.hid hbw
  have HG0 := Lib.hid hg0
  have c1 := b0.at 1 rfl
  have d1 := b1.at 1 rfl
  subst hW0
  clear b0 b1 b2 hbw hsz hg hgd hdK hnK hg0
  go_enter Tryz.func66, Tryz.ntmps66
  go_wp2_with (first | (go_at_call 88; refine HG.out.mono ?_) | fail)
  rintro e w1 ⟨vg, rfl, hr, hb1⟩
  have HVG := Lib.hid (HGK.out _ _ _ hr)
  obtain ⟨xg, cg, rfl, _, _, _⟩ := hr.at_
  have HB01 := Lib.hid (HB0.out.below hb1 HB0.out.lt)
  have HB11 := Lib.hid (HB1.out.below hb1 HB1.out.lt)
  have HB21 := Lib.hid (HB2.out.below hb1 HB2.out.lt)
  have HBW1 : Hid (Grow w w1) := Lib.hid (Grow.trans HBW.out hb1)
  clear c1 d1 hr hb1
  have c1 := HB01.out.at 1 rfl
  have HD1 := Lib.hid (ndiv_v K _ _ n g w1 hK (H.out.grow HBW1.out).1 HVG.out HG0.out)
  go_wp2_with (first | (go_at_call 89; refine HD1.out.mono ?_) | fail)
  rintro e w2 ⟨vq, vr, rfl, hq, hr, hb2⟩
  obtain ⟨xq, cq, rfl, _, _, _⟩ := hq.at_
  obtain ⟨xr, cr, rfl, _, _, _⟩ := hr.at_
  have HQ2 := Lib.hid hq
  have HB02 := Lib.hid (HB01.out.below hb2 HB01.out.lt)
  have HB12 := Lib.hid (HB11.out.below hb2 HB11.out.lt)
  have HB22 := Lib.hid (HB21.out.below hb2 HB21.out.lt)
  have HBW2 : Hid (Grow w w2) := Lib.hid (Grow.trans HBW1.out hb2)
  have HVG2 := Lib.hid (HVG.out.below hb2)
  clear c1 hq hr hb2
  have d1 := HB12.out.at 1 rfl
  have HD2 := Lib.hid (ndiv_v K _ _ d g w2 hK (H.out.grow HBW2.out).2 HVG2.out HG0.out)
  go_wp2_with (first | (go_at_call 89; refine HD2.out.mono ?_) | fail)
  rintro e w3 ⟨vq2, vr2, rfl, hq, hr, hb3⟩
  obtain ⟨xq2, cq2, rfl, _, _, _⟩ := hq.at_
  obtain ⟨xr2, cr2, rfl, _, _, _⟩ := hr.at_
  have HQ3 := Lib.hid hq
  have HQ23 := Lib.hid (HQ2.out.below hb3 (Nat.le_refl _))
  have HB03 := Lib.hid (HB02.out.below hb3 HB02.out.lt)
  have HB13 := Lib.hid (HB12.out.below hb3 HB12.out.lt)
  have HB23 := Lib.hid (HB22.out.below hb3 HB22.out.lt)
  have HBW3 : Hid (Grow w w3) := Lib.hid (Grow.trans HBW2.out hb3)
  clear d1 hq hr hb3
  have c0 := HB03.out.at 0 rfl
  have d0 := HB13.out.at 0 rfl
  have HN1 := Lib.hid (rznorm_any (K := K) s (HQ23.out.numN HNK.out.1) (by omega))
  go_wp2_with (first | (go_at_call 90; refine HN1.out.mono ?_) | fail)
  rintro e w4 ⟨xz, cz, rfl, hz, hb4⟩
  have HZ4 := Lib.hid hz
  have HQ34 := Lib.hid (HQ3.out.below hb4 (Nat.le_refl _))
  have HB24 := Lib.hid (HB23.out.below hb4 HB23.out.lt)
  have HBW4 : Hid (Grow w w4) := Lib.hid (Grow.trans HBW3.out hb4)
  clear c0 d0 hz hb4
  have HN2 := Lib.hid (norm_v (K := K) (by omega) (HQ34.out.numN HNK.out.2))
  go_wp2_with (first | (go_at_call 86; refine HN2.out.mono ?_) | fail)
  rintro e w5 ⟨vy, rfl, hy, hb5⟩
  obtain ⟨xy, cy, rfl, _, _, _⟩ := hy.at_
  have hB := HB24.out.below hb5 HB24.out.lt
  have r0 : w5.cell? ⟨w.heap.size + 1 + 1, 0, none⟩ = some (.bool false) := hB.at 0 rfl
  have r1 : w5.cell? ⟨w.heap.size + 1 + 1, 1, none⟩ = some (.slice none 0 0) := hB.at 1 rfl
  have r2 : w5.cell? ⟨w.heap.size + 1 + 1, 2, none⟩ = some (.slice none 0 0) := hB.at 2 rfl
  have f0 : w5.frozen? ⟨w.heap.size + 1 + 1, 0, none⟩ = false := hB.free 0
  have f1 : w5.frozen? ⟨w.heap.size + 1 + 1, 1, none⟩ = false := hB.free 1
  have f2 : w5.frozen? ⟨w.heap.size + 1 + 1, 2, none⟩ = false := hB.free 2
  have hrs : rdS s (n / g) = rdS s n := by
    unfold rdS
    congr 1
    have : n / g ≠ 0 ↔ n ≠ 0 := by
      constructor
      · rintro h rfl; exact h (Nat.zero_div _)
      · intro h h2
        have h3 : g ≤ n := by rw [HGG.out]; exact Nat.le_of_dvd (by omega) (Nat.gcd_dvd_left n d)
        have h4 := (Nat.div_eq_zero_iff (a := n) (b := g)).1 h2
        rcases h4 with h4 | h4
        · exact HG0.out h4
        · omega
    exact decide_eq_decide.2 this
  rw [hrs]
  have e1 : n / g = rdN n d := by unfold rdN; rw [HGG.out]
  have e2 : d / g = rdD n d := by unfold rdD; rw [HGG.out]
  rw [e1] at HZ4 ⊢
  rw [e2] at hy ⊢
  have q3 := ((hB.set 0 (.bool (rdS s n))).set 1 (.slice xz (nrow (rdN n d)).length cz)).set 2 (.slice xy (nrow (rdD n d)).length cy)
  have hbW : Grow w w5 := Grow.trans HBW4.out hb5
  have hbF : Below w.heap.size w (((w5.setCell ⟨w.heap.size + 2, 0, none⟩ (.bool (rdS s n))).setCell ⟨w.heap.size + 2, 1, none⟩ (.slice xz (nrow (rdN n d)).length cz)).setCell ⟨w.heap.size + 2, 2, none⟩ (.slice xy (nrow (rdD n d)).length cy)) :=
    ((Below.setCell (p := ⟨w.heap.size + 2, 0, none⟩) hbW (by show w.heap.size ≤ w.heap.size + 2; omega) _).setCell (p := ⟨w.heap.size + 2, 1, none⟩) (by show w.heap.size ≤ w.heap.size + 2; omega) _).setCell (p := ⟨w.heap.size + 2, 2, none⟩) (by show w.heap.size ≤ w.heap.size + 2; omega) _
  have hlt := HB24.out.lt
  have hlt3 := HB23.out.lt
  have hrow : ∀ {B : Nat} {v : Value} {l : List Nat}, NRow B w5 v l → w.heap.size + 2 < B → NRow B (((w5.setCell ⟨w.heap.size + 2, 0, none⟩ (.bool (rdS s n))).setCell ⟨w.heap.size + 2, 1, none⟩ (.slice xz (nrow (rdN n d)).length cz)).setCell ⟨w.heap.size + 2, 2, none⟩ (.slice xy (nrow (rdD n d)).length cy)) v l := fun hx hB =>
    ownsRow_setCell_below (a := ⟨w.heap.size + 2, 2, none⟩) (ownsRow_setCell_below (a := ⟨w.heap.size + 2, 1, none⟩) (ownsRow_setCell_below (a := ⟨w.heap.size + 2, 0, none⟩) hx hB _) hB _) hB _
  have hX := NRow.more (hrow (HZ4.out.below hb5 (Nat.le_refl _)) hlt3) (Below.size HBW3.out)
  have hY := NRow.more (hrow hy hlt) (Below.size HBW4.out)
  have Q3 := Lib.hid q3
  have HBF := Lib.hid hbF
  have HX := Lib.hid hX
  have HY := Lib.hid hY
  clear hB hrs e1 e2 q3 hbW hbF hlt hlt3 hrow hX hY hy hb5
  go_wp2_with fail
  refine post_cell rfl (g := w.heap.size + 2) rfl Q3.out Tryz.underlying46 rfl (by kernel_rfl) ?_
  exact ⟨_, rfl, ⟨_, _, _, _, rfl, HX.out, HY.out⟩, HBF.out⟩
end
end Go.Proofs.YtofpcdjoljjnoaaGreatDoor

namespace Go.Proofs.YtofpcdjoljjnoaaGreatDoor
open Go.RowKit

section
variable {K : Nat} {w : World} {n d : Nat}

set_option maxRecDepth 100000 in
set_option maxHeartbeats 4000000 in
theorem rfnorm_any {vn vd : Value} (s : Bool) (h : FrNum K w vn vd n d) (hK : K ≤ 524288) (h0 : d ≠ 0) :
    Calls Tryz.prog 43 #[.agg #[.bool s, vn, vd]] w (RedPost s n d w) := by
  have H := Lib.hid h
  obtain ⟨⟨a, ca, A, rfl, _, _, _, _, _, _⟩, ⟨b, cb, B, rfl, _, _, _, _, _, _⟩⟩ := h
  obtain ⟨W1, hW1⟩ : ∃ W1, W1 = (w.alloc (.cells #[.bool s, .slice a A.length ca, .slice b B.length cb] 46)).alloc (.cells #[.bool false, .slice none 0 0, .slice none 0 0] 46) := ⟨_, rfl⟩
  have b0 : BlkOf W1 w.heap.size #[.bool s, .slice a A.length ca, .slice b B.length cb] 46 := by rw [hW1]; exact (BlkOf.new w _ _).alloc _
  have b1 : BlkOf W1 (w.heap.size + 1) #[.bool false, .slice none 0 0, .slice none 0 0] 46 := by rw [hW1]; exact BlkOf.news (by simp) _ _
  have hbw : Grow w W1 := by rw [hW1]; exact ((Below.refl _ w).alloc (Nat.le_refl _) _).alloc (by simp) _
  have HR := Lib.hid (fun W (hW : Grow W1 W) => make_any (K := K) s (H.out.grow (Grow.trans hbw hW)) hK h0)
  have HB0 := Lib.hid b0
  have HB1 := Lib.hid b1
  have HBW := Lib.hid hbw
  have HW1 := Lib.hid hW1
  have KC : Hid (∀ W, Grow W1 W → W.cell? ⟨w.heap.size, 0, none⟩ = some (.bool s) ∧ W.cell? ⟨w.heap.size, 1, none⟩ = some (.slice a A.length ca) ∧ W.cell? ⟨w.heap.size, 2, none⟩ = some (.slice b B.length cb)) := Lib.hid fun W hW => by
    have q0 := HB0.out.below hW HB0.out.lt
    exact ⟨q0.at 0 rfl, q0.at 1 rfl, q0.at 2 rfl⟩
  clear b0 b1 hbw hW1
  go_enter Tryz.func43, Tryz.ntmps43
  go_wp2_with fail
  rename_i K0 hK0
  rw [← HW1.out]
  refine wp_region_listG [fun v _ => v = .pointer (some ⟨w.heap.size, 0, none⟩), fun v _ => v = .agg #[.bool s, .slice a A.length ca], fun v _ => v = .pointer (some ⟨w.heap.size, 2, none⟩), fun v _ => v = .slice b B.length cb, fun v _ => v = .agg #[.bool false, .slice b B.length cb], fun v W => FrRow W1.heap.size W v (rdS s n) (rdN n d) (rdD n d)]
    [(1, .pointer (some ⟨w.heap.size, 0, none⟩)), (2, .pointer (some ⟨w.heap.size + 1, 0, none⟩))] 6 (by kernel_rfl) ⟨stays_pure _, stays_pure _, stays_pure _, stays_pure _, stays_pure _, (fun v W W' hg ⟨x, c, y, e, h1, h2, h3⟩ => ⟨x, c, y, e, h1, h2.below hg (Nat.le_refl _), h3.below hg (Nat.le_refl _)⟩), trivial⟩ rfl (by kernel_rfl) rfl ?base (by kernel_rfl) ⟨?_, ?_, ?_, ?_, ?_, ?_, trivial⟩ ?last
  case base => simp
  case last =>
    intro vs W hW hv
    simp only [FactsL, Nat.zero_add, Nat.reduceAdd] at hv
    have v5 := hv.2.2.2.2.2.1
    clear hv
    refine ⟨rfl, ?_⟩
    simp only [List.take_succ_cons, List.take_zero, putF, Act.put, List.setIfInBounds_toArray, List.set_cons_zero, List.set_cons_succ, Nat.reduceAdd]
    obtain ⟨X, cx, Y, cy, ev, hx, hy⟩ := v5
    simp only [ev, frV]
    have q2 := HB1.out.below hW HB1.out.lt
    have c20 := q2.at 0 rfl
    have c21 := q2.at 1 rfl
    have c22 := q2.at 2 rfl
    have d20 := q2.free 0
    have d21 := q2.free 1
    have d22 := q2.free 2
    unfold Oper.wp
    simp [execOp, go_sem, c20, c21, c22, d20, d21, d22]
    refine hK0 _ _ ?_
    have hbW : Grow w W := Grow.trans HBW.out hW
    have Q3 := Lib.hid (((q2.set 0 (.bool (rdS s n))).set 1 (.slice X (nrow (rdN n d)).length cx)).set 2 (.slice Y (nrow (rdD n d)).length cy))
    have HBF := Lib.hid (((Below.setCell (p := ⟨w.heap.size + 1, 0, none⟩) hbW (by show w.heap.size ≤ w.heap.size + 1; omega) (.bool (rdS s n))).setCell (p := ⟨w.heap.size + 1, 1, none⟩) (by show w.heap.size ≤ w.heap.size + 1; omega) (.slice X (nrow (rdN n d)).length cx)).setCell (p := ⟨w.heap.size + 1, 2, none⟩) (by show w.heap.size ≤ w.heap.size + 1; omega) (.slice Y (nrow (rdD n d)).length cy))
    have hlt := HB1.out.lt
    have hrow : ∀ {v : Value} {l : List Nat}, NRow W1.heap.size W v l → NRow w.heap.size (((W.setCell ⟨w.heap.size + 1, 0, none⟩ (.bool (rdS s n))).setCell ⟨w.heap.size + 1, 1, none⟩ (.slice X (nrow (rdN n d)).length cx)).setCell ⟨w.heap.size + 1, 2, none⟩ (.slice Y (nrow (rdD n d)).length cy)) v l := fun hx =>
      NRow.more (ownsRow_setCell_below (a := ⟨w.heap.size + 1, 2, none⟩) (ownsRow_setCell_below (a := ⟨w.heap.size + 1, 1, none⟩) (ownsRow_setCell_below (a := ⟨w.heap.size + 1, 0, none⟩) hx hlt _) hlt _) hlt _) (Below.size HBW.out)
    have HX := Lib.hid (hrow hx)
    have HY := Lib.hid (hrow hy)
    clear hrow hx hy c20 c21 c22 d20 d21 d22 hbW q2 hlt
    go_wp2_with fail
    refine post_cell rfl (g := w.heap.size + 1) rfl Q3.out Tryz.underlying46 rfl (by kernel_rfl) ?_
    exact ⟨_, rfl, ⟨_, _, _, _, rfl, HX.out, HY.out⟩, HBF.out⟩
  all_goals
    intro a' W hW hb hf
    obtain ⟨e0, e1, e2⟩ := KC.out W hW
    simp only [List.forall_mem_cons, List.not_mem_nil, false_imp_iff, implies_true, and_true] at hb
    obtain ⟨m1, m2⟩ := hb
    simp [FactsOf, FactAt, Region.binds, factsL] at hf
  · refine .inl ⟨rfl, fun K hK => ?_⟩
    unfold Oper.wp
    simp [execOp, go_sem, *]
    exact hK _ _ (Grow.refl _) rfl
  · refine .inl ⟨rfl, fun K hK => ?_⟩
    unfold Oper.wp
    simp [execOp, go_sem, *]
    exact hK _ _ (Grow.refl _) rfl
  · refine .inl ⟨rfl, fun K hK => ?_⟩
    unfold Oper.wp
    simp [execOp, go_sem, *]
    exact hK _ _ (Grow.refl _) rfl
  · refine .inl ⟨rfl, fun K hK => ?_⟩
    unfold Oper.wp
    simp [execOp, go_sem, *]
    exact hK _ _ (Grow.refl _) rfl
  · refine .inl ⟨rfl, fun K hK => ?_⟩
    unfold Oper.wp
    simp [go_sem, *]
    refine (whole_any _ _ _ _).mono ?_
    rintro e W' ⟨rfl, hg⟩
    exact hK _ _ hg rfl
  · refine .inl ⟨rfl, fun K hK => ?_⟩
    unfold Oper.wp
    simp [go_sem, *]
    refine (HR.out W hW).mono ?_
    rintro e W' ⟨v, rfl, ⟨x, c, y, e, rfl, hx, hy⟩, hg⟩
    exact hK _ _ hg ⟨x, c, y, e, rfl, hx.more hW.size, hy.more hW.size⟩

set_option maxHeartbeats 1000000 in
theorem long_any {v : Value} (h : NNum K w v n) (hK : K ≤ 2048) : Calls Tryz.prog 64 #[v] w (Just (.bool false) w) := by
  have HN := Lib.hid (norm_v (K := K) (by omega) h)
  have hl : (nrow n).length ≤ 2048 := Nat.le_trans h.rowLen hK
  clear h
  go_enter Tryz.func64, Tryz.ntmps64
  go_wp2_with (first | (go_at_call 86; refine HN.out.mono ?_) | fail)
  rintro e w1 ⟨v, rfl, hr, hb⟩
  obtain ⟨x, c, rfl, _, _, _⟩ := hr.at_
  have HB := Lib.hid hb
  obtain ⟨l, hl'⟩ : ∃ l, l = (nrow n).length := ⟨_, rfl⟩
  rw [← hl'] at hl ⊢
  have hlI : ¬ (2048 : Int) < (l : Int) := by omega
  clear hr hb hl'
  go_wp2_with fail
  go_ret
  exact ⟨by show Ending.returned (.bool (decide ((2048 : Int) < (l : Int)))) = _; rw [decide_eq_false (show ¬ (2048 : Int) < (l : Int) by omega)], HB.out⟩
theorem okF_small (hn : n < 2 ^ (64 * 3)) (hd : d < 2 ^ (64 * 3)) : okF n d = decide (0 < blen d) := by
  have h1 := blen_le hn
  have h2 := blen_le hd
  unfold okF
  rw [decide_eq_true (show blen d ≤ 131072 by omega), decide_eq_true (show blen n ≤ 131072 by omega), Bool.and_true, Bool.and_true]

set_option maxRecDepth 100000 in
set_option maxHeartbeats 4000000 in
theorem may_any {vn vd : Value} (s : Bool) (h : FrNum 3 w vn vd n d) :
    Calls Tryz.prog 41 #[.agg #[.bool s, vn, vd]] w (Just (.bool (okF n d)) w) := by
  have H := Lib.hid h
  rw [okF_small h.1.lt h.2.lt]
  obtain ⟨⟨a, ca, A, rfl, _, _, _, _, _, _⟩, ⟨b, cb, B, rfl, _, _, _, _, _, _⟩⟩ := h
  obtain ⟨W1, hW1⟩ : ∃ W1, W1 = w.alloc (.cells #[.bool s, .slice a A.length ca, .slice b B.length cb] 46) := ⟨_, rfl⟩
  have b0 : BlkOf W1 w.heap.size #[.bool s, .slice a A.length ca, .slice b B.length cb] 46 := by rw [hW1]; exact BlkOf.new w _ _
  have hbw : Grow w W1 := by rw [hW1]; exact Grow.alloc _ _
  have HL1 := Lib.hid (fun W (hW : Grow w W) => long_any (K := 3) (H.out.grow hW).1 (by omega))
  have HL2 := Lib.hid (fun W (hW : Grow w W) => long_any (K := 3) (H.out.grow hW).2 (by omega))
  have HBI := Lib.hid (fun W (hW : Grow w W) => bits_v (K := 3) (by omega) (H.out.grow hW).2)
  have HB0 := Lib.hid b0
  have HBW := Lib.hid hbw
  have c0 := b0.at 1 rfl
  subst hW1
  clear b0 hbw
  go_enter Tryz.func41, Tryz.ntmps41
  go_wp2_with (first | (go_at_call 64; refine (HL1.out _ HBW.out).mono ?_) | fail)
  rintro e w1 ⟨rfl, hg1⟩
  have HG1 := Lib.hid (Grow.trans HBW.out hg1)
  have HB1 := Lib.hid (HB0.out.below hg1 HB0.out.lt)
  clear hg1 c0
  have c2 := HB1.out.at 2 rfl
  go_wp2_with (first | (go_at_call 64; refine (HL2.out _ HG1.out).mono ?_) | fail)
  rintro e w2 ⟨rfl, hg2⟩
  have HG2 := Lib.hid (Grow.trans HG1.out hg2)
  have HB2 := Lib.hid (HB1.out.below hg2 HB1.out.lt)
  clear hg2 c2
  have c2 := HB2.out.at 2 rfl
  go_wp2_with (first | (go_at_call 65; refine (HBI.out _ HG2.out).mono ?_) | fail)
  rintro e w3 ⟨y, hy, rfl, rfl⟩
  have hval : decide ((0 : Int) < y) = decide (0 < blen d) := by
    rw [hy]
    exact decide_eq_decide.2 (by omega)
  have HV := Lib.hid hval
  clear hval hy
  go_wp2_with fail
  go_ret
  exact ⟨by rw [← HV.out]; rfl, HG2.out⟩
end
end Go.Proofs.YtofpcdjoljjnoaaGreatDoor

namespace Go.Proofs.YtofpcdjoljjnoaaGreatDoor
open Go.RowKit

theorem isone_any (op : Nat) (w : World) : Calls Tryz.prog 45 #[.int .u8 (op : Int)] w (Same (.bool (decide (7 ≤ op) && decide (op ≤ 11))) w) := by
  by_cases h1 : 7 ≤ op
  · have e1 : (7 : Int) ≤ (op : Int) := by omega
    by_cases h2 : op ≤ 11
    · have e2 : (op : Int) ≤ 11 := by omega
      rw [decide_eq_true h1, decide_eq_true h2]
      go_enter Tryz.func45, Tryz.ntmps45
      go_wp2_with fail
      go_ret
      exact ⟨rfl, rfl⟩
    · have e2 : ¬ (op : Int) ≤ 11 := by omega
      rw [decide_eq_true h1, decide_eq_false h2]
      go_enter Tryz.func45, Tryz.ntmps45
      go_wp2_with fail
      go_ret
      exact ⟨rfl, rfl⟩
  · have e1 : ¬ (7 : Int) ≤ (op : Int) := by omega
    rw [decide_eq_false h1, Bool.false_and]
    go_enter Tryz.func45, Tryz.ntmps45
    go_wp2_with fail
    go_ret
    exact ⟨rfl, rfl⟩
theorem istwo_any (op : Nat) (w : World) : Calls Tryz.prog 31 #[.int .u8 (op : Int)] w (Same (.bool (decide (3 ≤ op) && decide (op ≤ 6))) w) := by
  by_cases h1 : 3 ≤ op
  · have e1 : (3 : Int) ≤ (op : Int) := by omega
    by_cases h2 : op ≤ 6
    · have e2 : (op : Int) ≤ 6 := by omega
      rw [decide_eq_true h1, decide_eq_true h2]
      go_enter Tryz.func31, Tryz.ntmps31
      go_wp2_with fail
      go_ret
      exact ⟨rfl, rfl⟩
    · have e2 : ¬ (op : Int) ≤ 6 := by omega
      rw [decide_eq_true h1, decide_eq_false h2]
      go_enter Tryz.func31, Tryz.ntmps31
      go_wp2_with fail
      go_ret
      exact ⟨rfl, rfl⟩
  · have e1 : ¬ (3 : Int) ≤ (op : Int) := by omega
    rw [decide_eq_false h1, Bool.false_and]
    go_enter Tryz.func31, Tryz.ntmps31
    go_wp2_with fail
    go_ret
    exact ⟨rfl, rfl⟩
/-- What a step's validity comes to, Op by Op. -/
theorem stepB_num {x : Nd} {n p : Int} (h : x.op = 1) : stepB x n p = (normB x.c && (decide (x.a = 0) && decide (x.b = 0))) := by
  unfold stepB isB writtenB
  rw [h]
  have f0 : fld 1 0 = 0 := by decide
  have f1 : fld 1 1 = 0 := by decide
  have f2 : fld 1 2 = 1 := by decide
  simp only [f0, f1, f2]
  cases normB x.c <;> cases decide (x.a = 0) <;> cases decide (x.b = 0) <;> simp_all
theorem stepB_zero {x : Nd} {n p : Int} (h : x.op ≠ 1) (hz : sameB x.c ⟨false, [], []⟩ = false) : stepB x n p = false := by
  unfold stepB writtenB
  rcases fld_kinds x.op with ⟨h0, h1, h2⟩ | ⟨h0, h1, h2⟩ | ⟨h0, h1, h2⟩ | ⟨h0, h1, h2⟩ | ⟨h0, h1, h2⟩
  · simp [h0, h1, h2]
  · exfalso
    apply h
    have : ∀ op, op < 12 → fld op 2 = 1 → op = 1 := by decide
    rcases Nat.lt_or_ge x.op 12 with h12 | h12
    · exact this _ h12 h2
    · rw [fld_none h12] at h2; cases h2
  all_goals (rw [h2]; simp [hz])
theorem stepB_par {x : Nd} {n p : Int} (h : x.op = 2) (hz : sameB x.c ⟨false, [], []⟩ = true) : stepB x n p = ((decide (0 ≤ x.a) && decide (x.a < p)) && decide (x.b = 0)) := by
  unfold stepB isB writtenB
  rw [h]
  have f0 : fld 2 0 = 2 := by decide
  have f1 : fld 2 1 = 0 := by decide
  have f2 : fld 2 2 = 0 := by decide
  simp only [f0, f1, f2, hz]
  simp
theorem stepB_two {x : Nd} {n p : Int} (h : 3 ≤ x.op ∧ x.op ≤ 6) (hz : sameB x.c ⟨false, [], []⟩ = true) : stepB x n p = (((decide (0 ≤ x.a) && decide (x.a < n)) && decide (0 ≤ x.b)) && decide (x.b < n)) := by
  have : ∀ op, op < 12 → 3 ≤ op ∧ op ≤ 6 → fld op 0 = 3 ∧ fld op 1 = 3 ∧ fld op 2 = 0 := by decide
  obtain ⟨f0, f1, f2⟩ := this x.op (by omega) h
  unfold stepB isB writtenB
  simp only [f0, f1, f2, hz]
  simp [Bool.and_assoc]
theorem stepB_one {x : Nd} {n p : Int} (h : 7 ≤ x.op ∧ x.op ≤ 11) (hz : sameB x.c ⟨false, [], []⟩ = true) : stepB x n p = ((decide (0 ≤ x.a) && decide (x.a < n)) && decide (x.b = 0)) := by
  have : ∀ op, op < 12 → 7 ≤ op ∧ op ≤ 11 → fld op 0 = 3 ∧ fld op 1 = 0 ∧ fld op 2 = 0 := by decide
  obtain ⟨f0, f1, f2⟩ := this x.op (by omega) h
  unfold stepB isB writtenB
  simp only [f0, f1, f2, hz]
  simp
theorem stepB_else {x : Nd} {n p : Int} (h : x.op = 0 ∨ 11 < x.op) : stepB x n p = false := by
  have : fld x.op 0 = 0 ∧ fld x.op 1 = 0 ∧ fld x.op 2 = 0 := by
    rcases h with h | h
    · rw [h]; decide
    · exact ⟨fld_none (by omega) 0, fld_none (by omega) 1, fld_none (by omega) 2⟩
  unfold stepB
  simp [this.1, this.2.1, this.2.2]
end Go.Proofs.YtofpcdjoljjnoaaGreatDoor

namespace Go.Proofs.YtofpcdjoljjnoaaGreatDoor
open Go.RowKit

theorem topB_nrow (n : Nat) : topB (nrow n) = true := by
  unfold topB
  rcases nrow_last n with h | h
  · rw [h]; rfl
  · rw [decide_eq_true h, Bool.or_true]
theorem sameNB_nrow (L : List Nat) (n : Nat) : sameNB L (nrow n) = decide (nrow n = L) := by
  unfold sameNB
  by_cases h : L = nrow n
  · subst h
    rw [topB_nrow]
    simp
  · rw [decide_eq_false h, decide_eq_false (fun e => h e.symm)]
    rfl
theorem rdN_pos {n d : Nat} (h : n ≠ 0) : rdN n d ≠ 0 := by
  unfold rdN
  intro h2
  have h4 := (Nat.div_eq_zero_iff (a := n) (b := Nat.gcd n d)).1 h2
  have h3 : Nat.gcd n d ≤ n := Nat.le_of_dvd (by omega) (Nat.gcd_dvd_left n d)
  rcases h4 with h4 | h4
  · exact h (Nat.eq_zero_of_gcd_eq_zero_left h4)
  · omega
theorem sameFB_norm (x : Fr) : sameFB x ⟨rdS x.s (lv x.m), nrow (rdN (lv x.m) (lv x.d)), nrow (rdD (lv x.m) (lv x.d))⟩ = sameB ⟨rdS x.s (lv x.m), nrow (rdN (lv x.m) (lv x.d)), nrow (rdD (lv x.m) (lv x.d))⟩ x := by
  unfold sameFB sameZB sameB
  dsimp only
  rw [sameNB_nrow, sameNB_nrow]
  by_cases hm : nrow (rdN (lv x.m) (lv x.d)) = x.m
  · have hp : (rdS x.s (lv x.m) == x.s) = true → (!x.s || decide (0 < x.m.length)) = true := by
      intro h
      cases hs : x.s with
      | false => rfl
      | true =>
        rw [hs] at h
        unfold rdS at h
        have h0 : lv x.m ≠ 0 := by simpa using h
        rw [← hm, decide_eq_true (nrow_pos.2 (rdN_pos h0))]
        rfl
    have hc : (x.s == rdS x.s (lv x.m)) = (rdS x.s (lv x.m) == x.s) := by cases x.s <;> cases rdS _ _ <;> rfl
    rw [hc]
    cases he : (rdS x.s (lv x.m) == x.s) with
    | false => simp
    | true => rw [hp he, Bool.and_true]
  · rw [decide_eq_false hm]
    simp
end Go.Proofs.YtofpcdjoljjnoaaGreatDoor
