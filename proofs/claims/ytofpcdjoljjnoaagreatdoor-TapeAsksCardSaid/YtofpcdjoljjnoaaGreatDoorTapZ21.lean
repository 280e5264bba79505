/-
  The texts TapHead, TapSmall, Lift, TapOpen, TapSmall2, TapLiveM, one behind the other.
-/
import Derived.Test.YtofpcdjoljjnoaaGreatDoorTapZ20
import Derived.Test.YtofpcdjoljjnoaaGreatDoorRows
import Derived.ProofKit
import Derived.OpenShut
import Derived.ShutString
import Derived.ChangeOld
import Derived.Below
import Derived.Carry
import Derived.Lib.SmallJoins
import Derived.Deep.Slices
import Derived.Test.YtofpcdjoljjnoaaGreatDoorTapZ16
import Derived.Deep.Strs
import Derived.Test.YtofpcdjoljjnoaaGreatDoorTapZ19

namespace Go.Proofs.YtofpcdjoljjnoaaGreatDoor
open Go.RowKit Go.Maps

theorem new_yes (k : Nat) (w : World) (h1 : 1 ≤ k) (h2 : k ≤ 20000) : Calls Tryz.prog 13 #[.int .i64 (k : Int)] w fun e w' => ∃ m, e = .returned (.tuple #[m, .int .i64 0]) ∧ Grow w w' ∧ MkAt (newIn w w') w' m ⟨k, 0, []⟩ := by
  refine (new_any (k : Int) w (by constructor <;> omega)).mono ?_
  rintro e w' (⟨_, _, m, rfl, hb, hm⟩ | ⟨hn, _⟩)
  · rw [show (k : Int).toNat = k by simp] at hm
    exact ⟨m, rfl, hb, hm⟩
  · exact absurd ⟨by omega, by omega⟩ hn
theorem new_no (w : World) : Calls Tryz.prog 13 #[.int .i64 0] w (Same (.tuple #[.pointer none, .int .i64 2]) w) := by
  refine (new_any 0 w i64_zero).mono ?_
  rintro e w' (⟨h, _⟩ | ⟨_, rfl, rfl⟩)
  · omega
  · exact ⟨rfl, rfl⟩

section
variable {w0 w : World} {P Q : Nat → Prop} {m n : Value} {S R S' : MkS} {a b : Int}
/-- Behind a call on the first; on the second. -/
def ToldOne (w0 : World) (Q : Nat → Prop) (m n : Value) (a b : Int) (S R : MkS) (e : Ending) (w' : World) : Prop := e = .returned (.tuple #[.int .i64 a, .int .i64 b]) ∧ ∃ P', Two w0 w' P' Q m n S R
def ToldTwo (w0 : World) (P : Nat → Prop) (m n : Value) (a b : Int) (S R : MkS) (e : Ending) (w' : World) : Prop := e = .returned (.tuple #[.int .i64 a, .int .i64 b]) ∧ ∃ Q', Two w0 w' P Q' m n S R
theorem Two.par (h : Two w0 w P Q m n S R) (hr : parS S = (a, b, S')) : Calls Tryz.prog 18 #[m] w (ToldOne w0 Q m n a b S' R) :=
  (par_some h.one).mono fun e w' hp => by have := h.told hp; rw [hr] at this; exact this
theorem Two.pair (h : Two w0 w P Q m n S R) (ht : Tab w0) {op : Nat} {i j : Int} (hop : op < 256) (hi : I64 i) (hj : I64 j) (hr : twoS S op i j = (a, b, S')) : Calls Tryz.prog 22 #[m, .int .u8 (op : Int), .int .i64 i, .int .i64 j] w (ToldOne w0 Q m n a b S' R) :=
  (two_some h.one hop hi hj (ht.grow h.grow)).mono fun e w' hp => by have := h.told hp; rw [hr] at this; exact this
theorem Two.single (h : Two w0 w P Q m n S R) (ht : Tab w0) {op : Nat} {i : Int} (hop : op < 256) (hi : I64 i) (hr : oneS S op i = (a, b, S')) : Calls Tryz.prog 20 #[m, .int .u8 (op : Int), .int .i64 i] w (ToldOne w0 Q m n a b S' R) :=
  (one_some h.one hop hi (ht.grow h.grow)).mono fun e w' hp => by have := h.told hp; rw [hr] at this; exact this
theorem Two.num (h : Two w0 w P Q m n S R) {x : Fr} {vn vd : Value} (hx : FrAt 2048 w x vn vd) (hr : numS S x = (a, b, S')) : Calls Tryz.prog 16 #[m, .agg #[.bool x.s, vn, vd]] w (ToldOne w0 Q m n a b S' R) :=
  (num_some h.one hx (by decide)).mono fun e w' hp => by have := h.told hp; rw [hr] at this; exact this
theorem Two.num2 (h : Two w0 w P Q m n S R) {x : Fr} {vn vd : Value} (hx : FrAt 2048 w x vn vd) (hr : numS R x = (a, b, S')) : Calls Tryz.prog 16 #[n, .agg #[.bool x.s, vn, vd]] w (ToldTwo w0 P m n a b S S') :=
  (num_some h.two hx (by decide)).mono fun e w' hp => by
    have := h.swap.told hp
    rw [hr] at this
    obtain ⟨h1, Q', h2⟩ := this
    exact ⟨h1, Q', h2.swap⟩
theorem of_fr (k : Nat) (hk : k ≤ 9223372036854775807) (hl : (nrow k).length ≤ 2048) (w : World) : Calls Tryz.prog 27 #[.int .i64 (k : Int)] w fun e w' => ∃ vn vd, e = .returned (.agg #[.bool false, vn, vd]) ∧ FrAt 2048 w' ⟨false, nrow k, nrow 1⟩ vn vd ∧ Grow w w' := by
  refine (fof_any k w hk).mono ?_
  rintro e w' ⟨v, rfl, ⟨x, c, y, c', rfl, h1, h2⟩, hb⟩
  exact ⟨_, _, rfl, ⟨h1.raw, h2.raw, hl, (by decide : (nrow 1).length ≤ 2048)⟩, hb⟩
end

set_option maxRecDepth 100000 in
set_option maxHeartbeats 8000000 in
theorem head_any (w : World) (ht : Tab w) : Calls Tryz.prog 6 #[] w (Just (.bool true) w) := by
  have HT := Lib.hid ht
  clear ht
  go_enter Tryz.func6, Tryz.ntmps6
  go_wp2_with (first | (go_at_call 13; refine (new_yes 100 _ (by decide) (by decide)).mono ?_) | fail)
  rintro e wa ⟨m, rfl, hga, hma⟩
  have HA := Lib.hid (And.intro hga hma)
  clear hga hma
  go_wp2_with (first | (go_at_call 13; refine (new_yes 1 _ (by decide) (by decide)).mono ?_) | fail)
  rintro e wb ⟨n, rfl, hgb, hmb⟩
  have H2 : Hid (Two w wb (newIn w wa) (newIn wa wb) m n m0 n0) := Lib.hid ⟨HA.out.2.grow hgb, hmb, fun k h1 h2 => by have := h1.2; have := h2.1; omega, fun k h => h.1, fun k h => Nat.le_trans (Below.size HA.out.1) h.1, HA.out.1.trans hgb⟩
  obtain ⟨pm, hpm⟩ := H2.out.one.ptr
  obtain ⟨pn, hpn⟩ := H2.out.two.ptr
  subst hpm hpn
  clear hgb hmb HA
  go_wp2_with (first | (go_at_call 13; refine (new_no _).mono ?_; rintro e w3 ⟨rfl, rfl⟩) | fail)
  go_wp2_with (first | (go_at_call 18; refine (H2.out.par say1).mono ?_) | fail)
  rintro e wc ⟨rfl, Pc, hc⟩
  have Hc := Lib.hid hc
  clear hc
  go_wp2_with (first | (go_at_call 27; refine (of_fr 2 (by decide) (by decide) _).mono ?_) | fail)
  rintro e wxd ⟨vnd, vdd, rfl, hxd, hgd⟩
  have HXd := Lib.hid hxd
  have HHd := Lib.hid (Hc.out.more hgd)
  clear hxd hgd
  go_wp2_with (first | (go_at_call 16; refine (HHd.out.num (x := x2) HXd.out say2).mono ?_) | fail)
  rintro e wd ⟨rfl, Pd, hd⟩
  have Hd := Lib.hid hd
  clear hd
  go_wp2_with (first | (go_at_call 22; refine (Hd.out.pair HT.out (op := 5) (by decide) i64_zero (by constructor <;> omega) say3).mono ?_) | fail)
  rintro e we1 ⟨rfl, Pe1, he1⟩
  have He1 := Lib.hid he1
  clear he1
  go_wp2_with (first | (go_at_call 22; refine (He1.out.pair HT.out (op := 5) (by decide) i64_zero (by constructor <;> omega) say4).mono ?_) | fail)
  rintro e wf1 ⟨rfl, Pf1, hf1⟩
  have Hf1 := Lib.hid hf1
  clear hf1
  go_wp2_with (first | (go_at_call 20; refine (Hf1.out.single HT.out (op := 8) (by decide) (by constructor <;> omega) say5).mono ?_) | fail)
  rintro e wg1 ⟨rfl, Pg1, hg1⟩
  have Hg1 := Lib.hid hg1
  clear hg1
  go_wp2_with (first | (go_at_call 20; refine (Hg1.out.single HT.out (op := 3) (by decide) i64_zero say6).mono ?_) | fail)
  rintro e wh1 ⟨rfl, Ph1, hh1⟩
  have Hh1 := Lib.hid hh1
  clear hh1
  go_wp2_with (first | (go_at_call 27; refine (of_fr 1 (by decide) (by decide) _).mono ?_) | fail)
  rintro e wxi1 ⟨vni1, vdi1, rfl, hxi1, hgi1⟩
  have HXi1 := Lib.hid hxi1
  have HHi1 := Lib.hid (Hh1.out.more hgi1)
  clear hxi1 hgi1
  go_wp2_with (first | (go_at_call 16; refine (HHi1.out.num2 (x := x1) HXi1.out say7).mono ?_) | fail)
  rintro e wi1 ⟨rfl, Pi1, hi1⟩
  have Hi1 := Lib.hid hi1
  clear hi1
  go_wp2_with (first | (go_at_call 27; refine (of_fr 2 (by decide) (by decide) _).mono ?_) | fail)
  rintro e wxj1 ⟨vnj1, vdj1, rfl, hxj1, hgj1⟩
  have HXj1 := Lib.hid hxj1
  have HHj1 := Lib.hid (Hi1.out.more hgj1)
  clear hxj1 hgj1
  go_wp2_with (first | (go_at_call 16; refine (HHj1.out.num2 (x := x2) HXj1.out say8).mono ?_) | fail)
  rintro e wj1 ⟨rfl, Pj1, hj1⟩
  have Hj1 := Lib.hid hj1
  clear hj1
  go_wp2_with (first | (go_at_call 27; refine (of_fr 1 (by decide) (by decide) _).mono ?_) | fail)
  rintro e wxk1 ⟨vnk1, vdk1, rfl, hxk1, hgk1⟩
  have HXk1 := Lib.hid hxk1
  have HHk1 := Lib.hid (Hj1.out.more hgk1)
  clear hxk1 hgk1
  go_wp2_with (first | (go_at_call 16; refine (HHk1.out.num2 (x := x1) HXk1.out say9).mono ?_) | fail)
  rintro e wk1 ⟨rfl, Pk1, hk1⟩
  have Hk1 := Lib.hid hk1
  clear hk1
  have HTP : Hid (Calls Tryz.prog 24 #[.pointer (some ⟨pm, 0, none⟩), .int .i64 2, .slice (some ⟨wk1.heap.size, 0, none⟩) 1 1] (wk1.alloc (.cells #[.string ⟨#[120]⟩, .int .i64 0] 63)) (TapePost m3 2 [([120], 0)] (wk1.alloc (.cells #[.string ⟨#[120]⟩, .int .i64 0] 63)))) := Lib.hid (by
    refine tape_some (T := [([120], 0)]) (Hk1.out.one.grow (Grow.alloc _ _)) (by constructor <;> omega) (fun i x hx => ?_) (by decide) (fun x hx => ?_)
    · have hi := (List.getElem?_eq_some_iff.1 hx).1
      obtain rfl : i = 0 := by simpa using hi
      simp at hx
      subst hx
      have hb := BlkOf.new wk1 #[.string ⟨#[120]⟩, .int .i64 0] 63
      exact ⟨i64_zero, _, 0, rfl, hb.at 0 rfl, hb.at 1 rfl⟩
    · rw [List.mem_singleton.1 hx]; decide)
  go_wp2_with (first | (go_at_call 24; refine HTP.out.mono ?_) | fail)
  rintro e wm (⟨_, vN, vT, rfl, hn, ht, hg⟩ | ⟨h, _⟩)
  · obtain ⟨AN, cN, rfl, hnA⟩ := hn.form
    obtain ⟨AT, cT, rfl, htA⟩ := ht.form
    have hgm : Grow wk1 wm := Grow.trans (Grow.alloc _ _) hg
    have hl3 : m3.l.length = 3 := rfl
    have hl1 : ([([120], 0)] : List (List UInt8 × Int)).length = 1 := rfl
    have hp1 : ((m3.pars : Nat) : Int) = 1 := rfl
    have htp : TpAt 2048 wm ⟨1, 2, m3.l, [([120], 0)]⟩ (.slice AN m3.l.length cN) (.slice AT ([([120], 0)] : List (List UInt8 × Int)).length cT) := ⟨by constructor <;> simp, by constructor <;> simp, by decide, by decide, _, _, _, _, rfl, rfl, hnA, htA⟩
    have hc1 := fun o => check_any (htp.grow (Grow.alloc wm o)) (by decide) (HT.out.grow (Grow.trans (Hk1.out.more hgm).grow (Grow.alloc wm o)))
    rw [say11] at hc1
    rw [hl3, hl1, hp1]
    unfold tpV at hc1
    dsimp only at hc1
    rw [hl3, hl1] at hc1
    have htp0 : ∀ W, TpAt 2048 W ⟨0, 0, [], []⟩ (.slice none 0 0) (.slice none 0 0) := fun W => ⟨i64_zero, i64_zero, by decide, by decide, none, 0, none, 0, rfl, rfl, fun i x hx => by simp at hx, fun i x hx => by simp at hx⟩
    have hc2 := fun W (hW : Grow wm W) => check_any (htp0 W) (by decide) (HT.out.grow (Grow.trans (Hk1.out.more hgm).grow hW))
    rw [say12] at hc2
    have HC1 := Lib.hid hc1
    have HC2 := Lib.hid hc2
    have HLN := Lib.hid (fun W (hW : Grow wm W) => len_some (Hk1.out.one.grow (Grow.trans hgm hW)))
    have HGM := Lib.hid (Hk1.out.more hgm).grow
    clear hn ht hg hgm hl3 hl1 hp1 htp hc1 htp0 hc2 hnA htA
    go_wp2_with (first | (go_at_call 9; refine (HC1.out _).mono ?_) | fail)
    rintro e w5 ⟨rfl, hg5⟩
    have HG5 := Lib.hid (Grow.trans (Grow.alloc wm _) hg5)
    clear hg5
    go_wp2_with (first | (go_at_call 9; refine (HC2.out _ HG5.out).mono ?_) | fail)
    rintro e w6 ⟨rfl, hg6⟩
    have HG6 := Lib.hid (Grow.trans HG5.out hg6)
    clear hg6
    go_wp2_with (first | (go_at_call 26; refine (HLN.out _ HG6.out).mono ?_; rintro e w3 ⟨rfl, rfl⟩) | fail)
    go_ret
    exact ⟨rfl, HGM.out.trans HG6.out⟩
  · rw [say10] at h; cases h
end Go.Proofs.YtofpcdjoljjnoaaGreatDoor

namespace Go.Proofs.YtofpcdjoljjnoaaGreatDoor
open Go.RowKit Go.Maps

set_option maxHeartbeats 1000000 in
theorem small_any (s : Bool) (a b : Option Addr) (n k ca cb : Nat) (w : World) (hn : n ≤ 9223372036854775807) (hk : k ≤ 9223372036854775807) :
    Calls Tryz.prog 15 #[.agg #[.bool s, .slice a n ca, .slice b k cb]] w (Just (.bool (decide (n ≤ 3) && decide (k ≤ 3))) w) := by
  have HG := Lib.hid (Grow.alloc w (.cells #[.bool s, .slice a n ca, .slice b k cb] 46))
  by_cases h1 : n ≤ 3
  · have d1 : decide ((n : Int) ≤ 3) = true := by simp; omega
    have e1 : ((n : Int) ≤ 3) := by omega
    have hd : (decide (n ≤ 3) && decide (k ≤ 3)) = decide ((k : Int) ≤ 3) := by
      rw [decide_eq_true h1, Bool.true_and]
      by_cases h2 : k ≤ 3
      · rw [decide_eq_true h2, decide_eq_true (by omega)]
      · rw [decide_eq_false h2, decide_eq_false (by omega)]
    rw [hd]
    clear hd
    go_enter Tryz.func15, Tryz.ntmps15
    go_wp2_with fail
    go_ret
    exact ⟨rfl, HG.out⟩
  · have d1 : decide ((n : Int) ≤ 3) = false := by simp; omega
    have e1 : ¬ ((n : Int) ≤ 3) := by omega
    rw [decide_eq_false h1, Bool.false_and]
    go_enter Tryz.func15, Tryz.ntmps15
    go_wp2_with fail
    go_ret
    exact ⟨rfl, HG.out⟩
end Go.Proofs.YtofpcdjoljjnoaaGreatDoor

namespace Go.Proofs.YtofpcdjoljjnoaaGreatDoor
open Go.ChangeShapes Go.WideShapes Go.ChangeAt Go.RowKit

theorem own : ownKnob Tryz.prog.godebug = none := by kernel_rfl
theorem laidOut : laidOutB Tryz.prog = true := by kernel_rfl

/-- A number that fits a uint64. -/
theorem nat_of_u64 {x : Int} (h : (Lit.int .u64 x).wf = true) : ∃ n : Nat, x = (n : Int) ∧ n < 2 ^ 64 := by
  have h2 : 0 ≤ x ∧ x < 2 ^ 64 := by
    simp [Lit.wf, IntKind.min, IntKind.max, IntKind.signed, IntKind.bits] at h
    omega
  obtain ⟨n, rfl⟩ := Int.eq_ofNat_of_zero_le h2.1
  exact ⟨n, rfl, by omega⟩
theorem nat_of_u8 {x : Int} (h : (Lit.int .u8 x).wf = true) : ∃ n : Nat, x = (n : Int) ∧ n < 256 := by
  have h2 : 0 ≤ x ∧ x < 256 := by
    simp [Lit.wf, IntKind.min, IntKind.max, IntKind.signed, IntKind.bits] at h
    omega
  obtain ⟨n, rfl⟩ := Int.eq_ofNat_of_zero_le h2.1
  exact ⟨n, rfl, by omega⟩
theorem range_of_i64 {x : Int} (h : (Lit.int .i64 x).wf = true) : -9223372036854775808 ≤ x ∧ x ≤ 9223372036854775807 := by
  simp [Lit.wf, IntKind.min, IntKind.max, IntKind.signed, IntKind.bits] at h
  omega

/-- What a walk is told of a slice of one-cell numbers: each place below its length holds one. -/
def Cells (k : IntKind) (w : World) (A : Option Addr) (len : Nat) (z : Nat → Int) : Prop :=
  ∀ i, i < len → ∃ b off, A = some ⟨b, off, none⟩ ∧ b < w.heap.size ∧ w.cell? ⟨b, off + i, none⟩ = some (.int k (z i))

theorem wf_zero (k : IntKind) : (Lit.int k 0).wf = true := by cases k <;> rfl

theorem open_cells {H : Type} {enc : TypeId × Value → H} {P : Program} {W : World} {k : IntKind} {T E : TypeId} {b0 : Nat} {v : Value} {d : DataW H} {p : List MemPlace} (hT : P.underlying T = some (.slice E)) (hE : P.underlying E = some (.int k)) (hC : P.cellsOf E = 1)
    (hv : Value.okWide P W .any b0 T v) (h : DataW.Trod enc P W 0 (fun _ => true) true T v d p) :
    ∃ A len cap z, v = .slice A len cap ∧ len ≤ 9223372036854775807 ∧ (∀ i, (Lit.int k (z i)).wf = true) ∧ Cells k W A len z := by
  obtain ⟨A, len, cap, rfl⟩ := okWide_slice hT hv
  obtain ⟨fuel, hf⟩ := h
  rcases open_ints hT hE hC hf with ⟨hcs, _⟩ | ⟨a, l, c, zs, hcs, _, hl, hm, hz, _, hcell, hwz⟩
  · simp [Value.cells] at hcs
    obtain ⟨rfl, rfl, rfl⟩ := hcs
    exact ⟨_, _, _, fun _ => 0, rfl, by omega, fun _ => wf_zero k, fun i hi => absurd hi (by omega)⟩
  · simp [Value.cells] at hcs
    obtain ⟨rfl, rfl, rfl⟩ := hcs
    unfold maxLen at hm
    refine ⟨_, _, _, fun i => zs.getD i 0, rfl, by omega, fun i => ?_, fun i hi => ?_⟩
    · show (Lit.int k (zs.getD i 0)).wf = true
      rcases Nat.lt_or_ge i zs.length with h | h
      · rw [List.getD_eq_getElem?_getD, List.getElem?_eq_getElem h]
        exact hwz _ (List.getElem_mem h)
      · rw [List.getD_eq_getElem?_getD, List.getElem?_eq_none h]
        exact wf_zero k
    · have hzl : i < zs.length := by simp at hz; omega
      obtain ⟨b, off, rfl, hc⟩ := ints_at hcell (by omega)
      have h1 := hc i hzl
      exact ⟨b, off, rfl, World.block_lt_of_cell? W _ h1, h1⟩

/-- What a walk is told of a slice whose elements lie in K cells each: the elements' cells, one behind the other, and each element's own reading. -/
theorem open_rows {H : Type} {enc : TypeId × Value → H} {P : Program} {W : World} {T E K : Nat} {b0 : Nat} {v : Value} {d : DataW H} {p : List MemPlace} (hT : P.underlying T = some (.slice E)) (hC : P.cellsOf E = K) (hK : 0 < K)
    (hv : Value.okWide P W .any b0 T v) (h : DataW.Trod enc P W 0 (fun _ => true) true T v d p) :
    ∃ A len cap, v = .slice A len cap ∧ len ≤ 9223372036854775807 ∧ ∀ i, i < len → ∃ (b off : Nat) (cs : List Value) (n : Nat) (x : DataW H × List MemPlace), A = some ⟨b, off, none⟩ ∧ b < W.heap.size ∧ cs.length = K ∧
      (∀ j, j < K → W.cell? ⟨b, off + i * K + j, none⟩ = cs[j]?) ∧ DataW.trod enc P W 0 (fun _ => true) true n E cs = some x := by
  obtain ⟨A, len, cap, rfl⟩ := okWide_slice hT hv
  obtain ⟨fuel, hf⟩ := h
  rcases Go.Deep.open_slice hT hf with ⟨hcs, _⟩ | ⟨a, l, c, m, n, D, Pl, hcs, _, hl, hm, hmm, _, hel⟩
  · simp [Value.cells] at hcs
    obtain ⟨rfl, rfl, rfl⟩ := hcs
    exact ⟨_, _, _, rfl, by omega, fun i hi => absurd hi (by omega)⟩
  · simp [Value.cells] at hcs
    obtain ⟨rfl, rfl, rfl⟩ := hcs
    unfold maxLen at hm
    simp only [if_true] at hmm
    rw [hC] at hel
    refine ⟨_, _, _, rfl, by omega, fun i hi => ?_⟩
    have hsp : a.spot = none := by
      obtain ⟨cs, hc, _⟩ := hel 0 (by omega)
      obtain ⟨_, hlen, hat⟩ := World.cells?_some hc
      have h0 := hat 0 hK
      rw [Go.Deep.add_add] at h0
      have e : cs[0]? = some (cs[0]'(by omega)) := List.getElem?_eq_getElem (by omega)
      rw [e] at h0
      simpa [Addr.add] using World.cell?_spot h0
    obtain ⟨b, off, sp⟩ := a
    simp only at hsp
    subst hsp
    obtain ⟨cs, hc, ht⟩ := hel i (by omega)
    obtain ⟨_, hlen, hat⟩ := World.cells?_some hc
    have hcell : ∀ j, j < K → W.cell? ⟨b, off + i * K + j, none⟩ = cs[j]? := fun j hj => by
      rw [← hat j hj, Go.Deep.add_add]
      congr 1
      unfold Addr.add
      split
      · rename_i h0
        have h1 : i * K = 0 := by omega
        have h2 : j = 0 := by omega
        rw [h1, h2]; rfl
      · simp [Nat.add_assoc]
    have hb : b < W.heap.size := by
      have h0 := hcell 0 hK
      rw [List.getElem?_eq_getElem (by omega)] at h0
      exact World.block_lt_of_cell? W _ h0
    exact ⟨b, off, cs, n, _, rfl, hb, hlen, hcell, ht⟩
end Go.Proofs.YtofpcdjoljjnoaaGreatDoor

namespace Go.Proofs.YtofpcdjoljjnoaaGreatDoor
open Go.ChangeShapes Go.WideShapes Go.ChangeAt Go.RowKit Go.Deep Go.Joins

theorem list2 {α : Type} {l : List α} (h : l.length = 2) : ∃ a b, l = [a, b] := by
  match l, h with
  | [a, b], _ => exact ⟨a, b, rfl⟩
theorem list3 {α : Type} {l : List α} (h : l.length = 3) : ∃ a b c, l = [a, b, c] := by
  match l, h with
  | [a, b, c], _ => exact ⟨a, b, c, rfl⟩
theorem list4 {α : Type} {l : List α} (h : l.length = 4) : ∃ a b c d, l = [a, b, c, d] := by
  match l, h with
  | [a, b, c, d], _ => exact ⟨a, b, c, d, rfl⟩
theorem list6 {α : Type} {l : List α} (h : l.length = 6) : ∃ a b c d e f, l = [a, b, c, d, e, f] := by
  match l, h with
  | [a, b, c, d, e, f], _ => exact ⟨a, b, c, d, e, f, rfl⟩
theorem list7 {α : Type} {l : List α} (h : l.length = 7) : ∃ a b c d e f g, l = [a, b, c, d, e, f, g] := by
  match l, h with
  | [a, b, c, d, e, f, g], _ => exact ⟨a, b, c, d, e, f, g, rfl⟩
theorem trod_five {H : Type} {enc : TypeId × Value → H} {P : Program} {w : World} {base : Nat} {spare : Nat → Bool} {held : Bool} {t : TypeId} {f0 f1 f2 f3 f4 : Field} {fuel : Nat} {cs : List Value} {x : DataW H × List MemPlace}
    (ht : P.underlying t = some (.struct #[f0, f1, f2, f3, f4])) (h : DataW.trod enc P w base spare held fuel t cs = some x) :
    ∃ y0 y1 y2 y3 y4 n, cs.length = P.cellsOf t ∧ DataW.trod enc P w base spare held n f0.type ((cs.drop f0.offset).take (P.cellsOf f0.type)) = some y0 ∧
      DataW.trod enc P w base spare held n f1.type ((cs.drop f1.offset).take (P.cellsOf f1.type)) = some y1 ∧ DataW.trod enc P w base spare held n f2.type ((cs.drop f2.offset).take (P.cellsOf f2.type)) = some y2 ∧
      DataW.trod enc P w base spare held n f3.type ((cs.drop f3.offset).take (P.cellsOf f3.type)) = some y3 ∧ DataW.trod enc P w base spare held n f4.type ((cs.drop f4.offset).take (P.cellsOf f4.type)) = some y4 := by
  obtain ⟨xs, n, _, _, hl, hlen, hf⟩ := DataW.trod_struct ht h
  match xs, hlen with
  | [y0, y1, y2, y3, y4], _ => exact ⟨y0, y1, y2, y3, y4, n, hl, by simpa using hf 0 f0 rfl, by simpa using hf 1 f1 rfl, by simpa using hf 2 f2 rfl, by simpa using hf 3 f3 rfl, by simpa using hf 4 f4 rfl⟩
theorem cU8 : Tryz.prog.cellsOf 5 = 1 := by kernel_rfl
theorem cInt : Tryz.prog.cellsOf 3 = 1 := by kernel_rfl
theorem cBool : Tryz.prog.cellsOf 4 = 1 := by kernel_rfl
theorem cNat : Tryz.prog.cellsOf 42 = 1 := by kernel_rfl
theorem cZint : Tryz.prog.cellsOf 44 = 2 := by kernel_rfl
theorem cFrac : Tryz.prog.cellsOf 46 = 3 := by kernel_rfl

/-- A row of limbs in a cell. -/
theorem open_raw {H : Type} {enc : TypeId × Value → H} {W : World} {n : Nat} {cs : List Value} {y : DataW H × List MemPlace}
    (h : DataW.trod enc Tryz.prog W 0 (fun _ => true) true n 42 cs = some y) : ∃ v L, cs = [v] ∧ Raw W v L ∧ L.length ≤ 9223372036854775807 := by
  rcases open_ints (k := .u64) Tryz.underlying42 Tryz.underlying100 (by kernel_rfl) h with ⟨hcs, _⟩ | ⟨a, len, cap, zs, hcs, _, hl, hm, hz, _, hcell, hwz⟩
  · exact ⟨_, [], hcs, Raw.nil W, by simp⟩
  · unfold maxLen at hm
    have hzl : len ≤ zs.length := by simp at hz; omega
    have hwf : ∀ i, 0 ≤ zs.getD i 0 ∧ zs.getD i 0 < 18446744073709551616 := fun i => by
      rcases Nat.lt_or_ge i zs.length with h | h
      · rw [List.getD_eq_getElem?_getD, List.getElem?_eq_getElem h]
        obtain ⟨n, e, hn⟩ := nat_of_u64 (hwz _ (List.getElem_mem h))
        show 0 ≤ zs[i] ∧ zs[i] < 18446744073709551616
        omega
      · rw [List.getD_eq_getElem?_getD, List.getElem?_eq_none h]
        show (0 : Int) ≤ 0 ∧ (0 : Int) < 18446744073709551616
        omega
    have hLl : ((zs.take len).map Int.toNat).length = len := by rw [List.length_map, List.length_take]; omega
    have hget : ∀ i, i < len → ((((zs.take len).map Int.toNat).getD i 0 : Nat) : Int) = zs.getD i 0 := fun i hi => by
      have h1 := (hwf i).1
      rw [List.getD_eq_getElem?_getD, List.getElem?_map, List.getElem?_take, if_pos hi, List.getElem?_eq_getElem (show i < zs.length by omega)]
      rw [List.getD_eq_getElem?_getD, List.getElem?_eq_getElem (show i < zs.length by omega)] at h1 ⊢
      show ((zs[i].toNat : Nat) : Int) = zs[i]
      have h2 : 0 ≤ zs[i] := h1
      omega
    refine ⟨_, (zs.take len).map Int.toNat, hcs, ⟨some a, cap, by rw [hLl], by omega, fun e => (by cases e), fun x hx => ?_, fun i hi => ?_⟩, by omega⟩
    · obtain ⟨i, hi, rfl⟩ := List.getElem_of_mem hx
      have h2 := hget i (by omega)
      rw [List.getD_eq_getElem?_getD, List.getElem?_eq_getElem hi] at h2
      have h3 : ((((zs.take len).map Int.toNat)[i] : Nat) : Int) = zs.getD i 0 := h2
      have h4 := (hwf i).2
      omega
    · obtain ⟨b, off, rfl, hc⟩ := ints_at hcell (by omega)
      refine ⟨b, off, rfl, ?_⟩
      rw [hget i (by omega)]
      exact hc i (by omega)

/-- A number in three cells. -/
theorem open_frac {H : Type} {enc : TypeId × Value → H} {W : World} {n : Nat} {cs : List Value} {y : DataW H × List MemPlace}
    (h : DataW.trod enc Tryz.prog W 0 (fun _ => true) true n 46 cs = some y) :
    ∃ (x : Fr) (vn vd : Value), cs = [.bool x.s, vn, vd] ∧ Raw W vn x.m ∧ Raw W vd x.d ∧ x.m.length ≤ 9223372036854775807 ∧ x.d.length ≤ 9223372036854775807 := by
  obtain ⟨y0, y1, m, _, hl, t0, t1⟩ := trod_struct2 Tryz.underlying46 h
  rw [cFrac] at hl
  obtain ⟨c0, c1, c2, rfl⟩ := list3 hl
  simp only [cZint, cNat, List.drop_zero, List.take_succ_cons, List.take_zero, List.drop_succ_cons] at t0 t1
  obtain ⟨z0, z1, m2, _, _, s0, s1⟩ := trod_struct2 Tryz.underlying44 t0
  simp only [cBool, cNat, List.drop_zero, List.take_succ_cons, List.take_zero, List.drop_succ_cons] at s0 s1
  obtain ⟨b, e0, _⟩ := DataW.trod_bool Tryz.underlying4 s0
  obtain ⟨v1, L, e1, r1, l1⟩ := open_raw s1
  obtain ⟨v2, D, e2, r2, l2⟩ := open_raw t1
  simp only [List.cons.injEq, and_true] at e0 e1 e2
  subst e0 e1 e2
  exact ⟨⟨b, L, D⟩, _, _, rfl, r1, r2, l1, l2⟩

/-- A slice in a cell: its elements' cells, one behind the other, and each one's own reading. -/
theorem rows_of_trod {H : Type} {enc : TypeId × Value → H} {P : Program} {W : World} {T E K fuel : Nat} {cs : List Value} {y : DataW H × List MemPlace} (hT : P.underlying T = some (.slice E)) (hC : P.cellsOf E = K) (hK : 0 < K)
    (hf : DataW.trod enc P W 0 (fun _ => true) true fuel T cs = some y) :
    ∃ A len cap, cs = [.slice A len cap] ∧ len ≤ 9223372036854775807 ∧ ∀ i, i < len → ∃ (b off : Nat) (cs : List Value) (n : Nat) (x : DataW H × List MemPlace), A = some ⟨b, off, none⟩ ∧ b < W.heap.size ∧ cs.length = K ∧
      (∀ j, j < K → W.cell? ⟨b, off + i * K + j, none⟩ = cs[j]?) ∧ DataW.trod enc P W 0 (fun _ => true) true n E cs = some x := by
  rcases Go.Deep.open_slice hT hf with ⟨hcs, _⟩ | ⟨a, l, c, m, n, D, Pl, hcs, _, hl, hm, hmm, _, hel⟩
  · exact ⟨_, _, _, hcs, by omega, fun i hi => absurd hi (by omega)⟩
  · unfold maxLen at hm
    simp only [if_true] at hmm
    rw [hC] at hel
    refine ⟨_, _, _, hcs, by omega, fun i hi => ?_⟩
    have hsp : a.spot = none := by
      obtain ⟨cs, hc, _⟩ := hel 0 (by omega)
      obtain ⟨_, hlen, hat⟩ := World.cells?_some hc
      have h0 := hat 0 hK
      rw [Go.Deep.add_add] at h0
      have e : cs[0]? = some (cs[0]'(by omega)) := List.getElem?_eq_getElem (by omega)
      rw [e] at h0
      simpa [Addr.add] using World.cell?_spot h0
    obtain ⟨b, off, sp⟩ := a
    simp only at hsp
    subst hsp
    obtain ⟨cs, hc, ht⟩ := hel i (by omega)
    obtain ⟨_, hlen, hat⟩ := World.cells?_some hc
    have hcell : ∀ j, j < K → W.cell? ⟨b, off + i * K + j, none⟩ = cs[j]? := fun j hj => by
      rw [← hat j hj, Go.Deep.add_add]
      congr 1
      unfold Addr.add
      split
      · rename_i h0
        have h1 : i * K = 0 := by omega
        have h2 : j = 0 := by omega
        rw [h1, h2]; rfl
      · simp [Nat.add_assoc]
    have hb : b < W.heap.size := by
      have h0 := hcell 0 hK
      rw [List.getElem?_eq_getElem (by omega)] at h0
      exact World.block_lt_of_cell? W _ h0
    exact ⟨b, off, cs, n, _, rfl, hb, hlen, hcell, ht⟩

/-- A call. -/
structure Cl where
  what : Nat
  op : Nat
  a : Int
  b : Int
  x : Fr
/-- Its cells. -/
def clCells (c : Cl) (vn vd : Value) : List Value := [.int .u8 (c.what : Int), .int .u8 (c.op : Int), .int .i64 c.a, .int .i64 c.b, .bool c.x.s, vn, vd]
/-- It may be read. -/
def ClOK (W : World) (c : Cl) (vn vd : Value) : Prop := c.what < 256 ∧ c.op < 256 ∧ I64 c.a ∧ I64 c.b ∧ Raw W vn c.x.m ∧ Raw W vd c.x.d ∧ c.x.m.length ≤ 9223372036854775807 ∧ c.x.d.length ≤ 9223372036854775807
theorem ClOK.grow {W W' : World} {c : Cl} {vn vd : Value} (h : ClOK W c vn vd) (hg : Grow W W') : ClOK W' c vn vd := ⟨h.1, h.2.1, h.2.2.1, h.2.2.2.1, h.2.2.2.2.1.grow hg, h.2.2.2.2.2.1.grow hg, h.2.2.2.2.2.2⟩
theorem cCall : Tryz.prog.cellsOf 48 = 7 := by kernel_rfl
theorem open_cl {H : Type} {enc : TypeId × Value → H} {W : World} {n : Nat} {l : List Value} {y : DataW H × List MemPlace}
    (hf : DataW.trod enc Tryz.prog W 0 (fun _ => true) true n 48 l = some y) : ∃ c vn vd, l = clCells c vn vd ∧ ClOK W c vn vd := by
  obtain ⟨y0, y1, y2, y3, y4, n, hsz, g0, g1, g2, g3, g4⟩ := trod_five Tryz.underlying48 hf
  rw [cCall] at hsz
  obtain ⟨c0, c1, c2, c3, c4, c5, c6, rfl⟩ := list7 hsz
  simp only [cU8, cInt, cFrac, List.drop_zero, List.take_succ_cons, List.take_zero, List.drop_succ_cons] at g0 g1 g2 g3 g4
  obtain ⟨q, e0, _, w0⟩ := DataW.trod_int Tryz.underlying5 g0
  obtain ⟨o, e1, _, w1⟩ := DataW.trod_int Tryz.underlying5 g1
  obtain ⟨a, e2, _, w2⟩ := DataW.trod_int Tryz.underlying3 g2
  obtain ⟨b, e3, _, w3⟩ := DataW.trod_int Tryz.underlying3 g3
  obtain ⟨x, vn, vd, e4, r1, r2, l1, l2⟩ := open_frac g4
  simp only [List.cons.injEq, and_true] at e0 e1 e2 e3 e4
  obtain ⟨rfl, rfl, rfl⟩ := e4
  subst e0 e1 e2 e3
  obtain ⟨q, rfl, hq⟩ := nat_of_u8 w0
  obtain ⟨o, rfl, ho⟩ := nat_of_u8 w1
  exact ⟨⟨q, o, a, b, x⟩, _, _, rfl, hq, ho, range_of_i64 w2, range_of_i64 w3, r1, r2, l1, l2⟩
set_option maxRecDepth 100000 in
/-- A call that a law is handed. -/
theorem open_call {H : Type} {enc : TypeId × Value → H} {W : World} {b0 : Nat} {v : Value} {d : DataW H} {p : List MemPlace}
    (hv : Value.okWide Tryz.prog W .any b0 48 v) (h : DataW.Trod enc Tryz.prog W 0 (fun _ => true) true 48 v d p) :
    ∃ c vn vd, v = .agg (clCells c vn vd).toArray ∧ ClOK W c vn vd := by
  obtain ⟨cs, rfl, hsz⟩ := okWide_struct Tryz.underlying48 hv
  obtain ⟨fuel, hf⟩ := h
  obtain ⟨l⟩ := cs
  obtain ⟨c, vn, vd, e, hc⟩ := open_cl (l := l) hf
  exact ⟨c, vn, vd, by rw [e], hc⟩
/-- A list of calls that a law is handed. -/
def ClsAt (W : World) (A : Option Addr) (l : List Cl) : Prop :=
  ∀ i c, l[i]? = some c → ∃ b off vn vd, A = some ⟨b, off, none⟩ ∧ (∀ j v, (clCells c vn vd)[j]? = some v → W.cell? ⟨b, off + i * 7 + j, none⟩ = some v) ∧ ClOK W c vn vd
theorem ClsAt.grow {W W' : World} {A : Option Addr} {l : List Cl} (h : ClsAt W A l) (hg : Grow W W') : ClsAt W' A l := fun i c hc => by
  obtain ⟨b, off, vn, vd, h1, h2, h3⟩ := h i c hc
  refine ⟨b, off, vn, vd, h1, fun j v hv => ?_, h3.grow hg⟩
  have hb := World.block_lt_of_cell? W _ (h2 0 _ rfl)
  exact (hg.cell (p := ⟨b, off + i * 7 + j, none⟩) hb).trans (h2 j v hv)
theorem list_of {α : Type} {n : Nat} {p : Nat → α → Prop} (h : ∀ i, i < n → ∃ x, p i x) : ∃ l : List α, l.length = n ∧ ∀ i x, l[i]? = some x → p i x := by
  induction n with
  | zero => exact ⟨[], rfl, fun i x hx => by simp at hx⟩
  | succ n ih =>
    obtain ⟨l, hl, hp⟩ := ih (fun i hi => h i (by omega))
    obtain ⟨x, hx⟩ := h n (by omega)
    refine ⟨l ++ [x], by simp [hl], fun i y hy => ?_⟩
    rcases Nat.lt_or_ge i n with hi | hi
    · rw [List.getElem?_append_left (by omega)] at hy
      exact hp i y hy
    · rw [List.getElem?_append_right (by omega), hl] at hy
      have h0 : i - n = 0 := by
        rcases Nat.eq_zero_or_pos (i - n) with h | h
        · exact h
        · rw [List.getElem?_eq_none (by simp; omega)] at hy; cases hy
      rw [h0] at hy
      simp at hy
      obtain rfl : i = n := by omega
      rw [← hy]; exact hx
set_option maxRecDepth 100000 in
theorem open_calls {H : Type} {enc : TypeId × Value → H} {W : World} {b0 : Nat} {v : Value} {d : DataW H} {p : List MemPlace}
    (hv : Value.okWide Tryz.prog W .any b0 34 v) (h : DataW.Trod enc Tryz.prog W 0 (fun _ => true) true 34 v d p) :
    ∃ A cap l, v = .slice A l.length cap ∧ l.length ≤ 9223372036854775807 ∧ ClsAt W A l := by
  obtain ⟨A, len, cap, rfl, hlen, hel⟩ := open_rows Tryz.underlying34 cCall (by decide) hv h
  obtain ⟨l, hl, hp⟩ := list_of (n := len) (p := fun i c => ∃ b off vn vd, A = some ⟨b, off, none⟩ ∧ (∀ j v, (clCells c vn vd)[j]? = some v → W.cell? ⟨b, off + i * 7 + j, none⟩ = some v) ∧ ClOK W c vn vd) (fun i hi => by
    obtain ⟨b, off, cs, n, x, hA, _, hlc, hc, ht⟩ := hel i hi
    obtain ⟨c, vn, vd, rfl, hok⟩ := open_cl ht
    exact ⟨c, b, off, vn, vd, hA, fun j v hv => by rw [hc j (by have := (List.getElem?_eq_some_iff.1 hv).1; rw [hlc] at this; exact this), hv], hok⟩)
  exact ⟨A, cap, l, by rw [hl], by omega, hp⟩

/-- A step in its cells. -/
theorem cNode : Tryz.prog.cellsOf 71 = 6 := by kernel_rfl
theorem cTell : Tryz.prog.cellsOf 63 = 2 := by kernel_rfl
theorem cString : Tryz.prog.cellsOf 9 = 1 := by kernel_rfl
theorem cTape : Tryz.prog.cellsOf 25 = 4 := by kernel_rfl
theorem cNodes : Tryz.prog.cellsOf 22 = 1 := by kernel_rfl
theorem cTells : Tryz.prog.cellsOf 23 = 1 := by kernel_rfl
def NdRaw (W : World) (x : Nd) (vn vd : Value) : Prop := x.op < 256 ∧ I64 x.a ∧ I64 x.b ∧ Raw W vn x.c.m ∧ Raw W vd x.c.d ∧ x.c.m.length ≤ 9223372036854775807 ∧ x.c.d.length ≤ 9223372036854775807
theorem NdRaw.grow {W W' : World} {x : Nd} {vn vd : Value} (h : NdRaw W x vn vd) (hg : Grow W W') : NdRaw W' x vn vd := ⟨h.1, h.2.1, h.2.2.1, h.2.2.2.1.grow hg, h.2.2.2.2.1.grow hg, h.2.2.2.2.2⟩
theorem open_nd {H : Type} {enc : TypeId × Value → H} {W : World} {n : Nat} {l : List Value} {y : DataW H × List MemPlace}
    (hf : DataW.trod enc Tryz.prog W 0 (fun _ => true) true n 71 l = some y) : ∃ x vn vd, l = ndCells x vn vd ∧ NdRaw W x vn vd := by
  obtain ⟨y0, y1, y2, y3, n, _, hl, g0, g1, g2, g3⟩ := trod_struct4 Tryz.underlying71 hf
  rw [cNode] at hl
  obtain ⟨c0, c1, c2, c3, c4, c5, rfl⟩ := list6 hl
  simp only [cU8, cInt, cFrac, List.drop_zero, List.take_succ_cons, List.take_zero, List.drop_succ_cons] at g0 g1 g2 g3
  obtain ⟨o, e0, _, w0⟩ := DataW.trod_int Tryz.underlying5 g0
  obtain ⟨a, e1, _, w1⟩ := DataW.trod_int Tryz.underlying3 g1
  obtain ⟨b, e2, _, w2⟩ := DataW.trod_int Tryz.underlying3 g2
  obtain ⟨x, vn, vd, e3, r1, r2, l1, l2⟩ := open_frac g3
  simp only [List.cons.injEq, and_true] at e0 e1 e2 e3
  obtain ⟨rfl, rfl, rfl⟩ := e3
  subst e0 e1 e2
  obtain ⟨o, rfl, ho⟩ := nat_of_u8 w0
  exact ⟨⟨o, a, b, x⟩, _, _, rfl, ho, range_of_i64 w1, range_of_i64 w2, r1, r2, l1, l2⟩
/-- Steps that a law is handed. -/
def NdsRaw (W : World) (A : Option Addr) (L : List Nd) : Prop :=
  ∀ i x, L[i]? = some x → ∃ b off vn vd, A = some ⟨b, off, none⟩ ∧ (∀ j v, (ndCells x vn vd)[j]? = some v → W.cell? ⟨b, off + i * 6 + j, none⟩ = some v) ∧ NdRaw W x vn vd
theorem NdsRaw.at {W : World} {A : Option Addr} {L : List Nd} {K : Nat} (h : NdsRaw W A L) (hK : ∀ (i : Nat) (x : Nd), L[i]? = some x → x.c.m.length ≤ K ∧ x.c.d.length ≤ K) : NdsAt K W A L := fun i x hx => by
  obtain ⟨b, off, vn, vd, h1, h2, h3, h4, h5, h6, h7, _⟩ := h i x hx
  exact ⟨b, off, vn, vd, h1, h2, h3, h4, h5, h6, h7, hK i x hx⟩
set_option maxRecDepth 100000 in
/-- A tape that a law is handed. -/
theorem open_tape {H : Type} {enc : TypeId × Value → H} {W : World} {b0 : Nat} {v : Value} {d : DataW H} {p : List MemPlace}
    (hv : Value.okWide Tryz.prog W .any b0 25 v) (h : DataW.Trod enc Tryz.prog W 0 (fun _ => true) true 25 v d p) :
    ∃ (pars out : Int) (A B : Option Addr) (ca cb : Nat) (L : List Nd) (T : List (List UInt8 × Int)), v = .agg #[.int .i64 pars, .int .i64 out, .slice A L.length ca, .slice B T.length cb] ∧ I64 pars ∧ I64 out ∧
      L.length ≤ 9223372036854775807 ∧ T.length ≤ 9223372036854775807 ∧ NdsRaw W A L ∧ TlsAt W B T ∧ (∀ t ∈ T, t.1.length ≤ 9223372036854775807) := by
  obtain ⟨cs, rfl, hsz⟩ := okWide_struct Tryz.underlying25 hv
  obtain ⟨fuel, hf⟩ := h
  obtain ⟨l⟩ := cs
  obtain ⟨y0, y1, y2, y3, n, _, hl, g0, g1, g2, g3⟩ := trod_struct4 Tryz.underlying25 hf
  rw [cTape] at hl
  obtain ⟨c0, c1, c2, c3, e⟩ := list4 hl
  subst e
  simp only [Value.cells, cInt, cNodes, cTells, List.drop_zero, List.take_succ_cons, List.take_zero, List.drop_succ_cons] at g0 g1 g2 g3
  obtain ⟨pars, e0, _, w0⟩ := DataW.trod_int Tryz.underlying3 g0
  obtain ⟨out, e1, _, w1⟩ := DataW.trod_int Tryz.underlying3 g1
  obtain ⟨A, la, ca, e2, hla, ha⟩ := rows_of_trod Tryz.underlying22 cNode (by decide) g2
  obtain ⟨B, lb, cb, e3, hlb, hb⟩ := rows_of_trod Tryz.underlying23 cTell (by decide) g3
  simp only [List.cons.injEq, and_true] at e0 e1 e2 e3
  subst e0 e1 e2 e3
  obtain ⟨L, hL, hp⟩ := list_of (n := la) (p := fun i x => ∃ b off vn vd, A = some ⟨b, off, none⟩ ∧ (∀ j v, (ndCells x vn vd)[j]? = some v → W.cell? ⟨b, off + i * 6 + j, none⟩ = some v) ∧ NdRaw W x vn vd) (fun i hi => by
    obtain ⟨b, off, cs, n, x, hA, _, hlc, hc, ht⟩ := ha i hi
    obtain ⟨c, vn, vd, rfl, hok⟩ := open_nd ht
    exact ⟨c, b, off, vn, vd, hA, fun j v hv => by rw [hc j (by have := (List.getElem?_eq_some_iff.1 hv).1; rw [hlc] at this; exact this), hv], hok⟩)
  obtain ⟨T, hT, hq⟩ := list_of (n := lb) (p := fun i (x : List UInt8 × Int) => (I64 x.2 ∧ ∃ b off, B = some ⟨b, off, none⟩ ∧ W.cell? ⟨b, off + i * 2, none⟩ = some (.string (mk x.1)) ∧ W.cell? ⟨b, off + i * 2 + 1, none⟩ = some (.int .i64 x.2)) ∧ x.1.length ≤ 9223372036854775807) (fun i hi => by
    obtain ⟨b, off, cs, n, x, hB, _, hlc, hc, ht⟩ := hb i hi
    obtain ⟨z0, z1, m, _, _, t0, t1⟩ := trod_struct2 Tryz.underlying63 ht
    obtain ⟨d0, d1, rfl⟩ := list2 hlc
    simp only [cString, cInt, List.drop_zero, List.take_succ_cons, List.take_zero, List.drop_succ_cons] at t0 t1
    obtain ⟨s, e0, _, hs⟩ := DataW.trod_string Tryz.underlying9 t0
    obtain ⟨q, e1, _, w1⟩ := DataW.trod_int Tryz.underlying3 t1
    simp only [List.cons.injEq, and_true] at e0 e1
    subst e0 e1
    have k0 := hc 0 (by decide)
    have k1 := hc 1 (by decide)
    refine ⟨(s.data.toList, q), ⟨range_of_i64 w1, b, off, hB, ?_, ?_⟩, ?_⟩
    · rw [mk_of]; simpa using k0
    · simpa using k1
    · unfold maxLen at hs
      show s.data.toList.length ≤ _
      rw [Array.length_toList]
      exact hs)
  refine ⟨pars, out, A, B, ca, cb, L, T, by rw [hL, hT], range_of_i64 w0, range_of_i64 w1, by omega, by omega, hp, fun i x hx => (hq i x hx).1, fun t ht => ?_⟩
  obtain ⟨i, hi⟩ := List.mem_iff_getElem?.1 ht
  exact (hq i t hi).2
end Go.Proofs.YtofpcdjoljjnoaaGreatDoor

namespace Go.Proofs.YtofpcdjoljjnoaaGreatDoor
open Go.RowKit Go.Maps

/-- What Small tells of a tape. -/
def SmallPost (L : List Nd) (T : List (List UInt8 × Int)) (w : World) (e : Ending) (w' : World) : Prop :=
  (e = .returned (.bool true) ∧ L.length ≤ 200 ∧ T.length ≤ 50 ∧ (∀ (i : Nat) (x : Nd), L[i]? = some x → x.c.m.length ≤ 3 ∧ x.c.d.length ≤ 3) ∧ Grow w w') ∨ (e = .returned (.bool false) ∧ Grow w w')
def SmallRel (L : List Nd) (z : Nat) (cs : Array Value) (w : World) (i : Value) (wr : World) : Prop :=
  ∃ k : Nat, k ≤ L.length ∧ i = .int .i64 (k : Int) ∧ BlkOf wr z cs 25 ∧ (∀ (j : Nat) (x : Nd), j < k → L[j]? = some x → x.c.m.length ≤ 3 ∧ x.c.d.length ≤ 3) ∧ Grow w wr
def SmallRel2 (n : Nat) (z : Nat) (cs : Array Value) (w : World) (i : Value) (wr : World) : Prop :=
  ∃ k : Nat, k ≤ n ∧ i = .int .i64 (k : Int) ∧ BlkOf wr z cs 25 ∧ Grow w wr

set_option maxRecDepth 100000 in
set_option maxHeartbeats 8000000 in
theorem small17_any {pars out : Int} {A B : Option Addr} {ca cb : Nat} {L : List Nd} {T : List (List UInt8 × Int)} {w : World} (hL : NdsRaw w A L) (hT : TlsAt w B T) (hl : L.length ≤ 9223372036854775807) (ht : T.length ≤ 9223372036854775807) (hs : ∀ t ∈ T, t.1.length ≤ 9223372036854775807) :
    Calls Tryz.prog 5 #[.agg #[.int .i64 pars, .int .i64 out, .slice A L.length ca, .slice B T.length cb]] w (SmallPost L T w) := by
  obtain ⟨N, hN⟩ : ∃ N, N = L.length := ⟨_, rfl⟩
  obtain ⟨M, hM⟩ : ∃ M, M = T.length := ⟨_, rfl⟩
  rw [← hN] at hl ⊢
  rw [← hM] at ht ⊢
  have HN := Lib.hid hN
  have HM := Lib.hid hM
  have HL := Lib.hid hL
  have HT := Lib.hid hT
  have HS := Lib.hid hs
  have b0 : BlkOf (w.alloc (.cells #[.int .i64 pars, .int .i64 out, .slice A N ca, .slice B M cb] 25)) w.heap.size #[.int .i64 pars, .int .i64 out, .slice A N ca, .slice B M cb] 25 := BlkOf.new w _ _
  have HB := Lib.hid b0
  have HG := Lib.hid (Grow.alloc w (.cells #[.int .i64 pars, .int .i64 out, .slice A N ca, .slice B M cb] 25))
  have c2 := b0.at 2 rfl
  have c3 := b0.at 3 rfl
  clear hN hM hL hT hs b0
  by_cases h1 : N ≤ 200
  · have h1i : ¬ (200 : Int) < (N : Int) := by omega
    have h1d : decide ((200 : Int) < (N : Int)) = false := by simp; omega
    by_cases h2 : M ≤ 50
    · have h2i : ¬ (50 : Int) < (M : Int) := by omega
      have h2d : decide ((50 : Int) < (M : Int)) = false := by simp; omega
      go_enter Tryz.func5, Tryz.ntmps5
      go_wp2_with fail
      clear c2 c3
      go_loopw [3] (fun i wr => SmallRel L w.heap.size #[.int .i64 pars, .int .i64 out, .slice A N ca, .slice B M cb] w i wr) (fun i _ => N - (intOf i).toNat)
      case atStart => exact ⟨0, by omega, rfl, HB.out, fun j x hj => by omega, HG.out⟩
      case round =>
        obtain ⟨k, hk, rfl, hb, hsm, hgr⟩ := hrel
        have hkN : k ≤ N := by rw [HN.out]; exact hk
        have HB1 := Lib.hid hb
        have HSM := Lib.hid hsm
        have HG1 := Lib.hid hgr
        have c2 := hb.at 2 rfl
        have c3 := hb.at 3 rfl
        by_cases hlt : k < N
        · have hltI : (k : Int) < (N : Int) := by omega
          obtain ⟨x, hx⟩ : ∃ x, L[k]? = some x := ⟨_, List.getElem?_eq_getElem (by have := HN.out; omega)⟩
          obtain ⟨b, off, vn, vd, rfl, hc, hok⟩ := HL.out k x hx
          have hcell : ∀ j v, (ndCells x vn vd)[j]? = some v → wr.cell? ⟨b, off + k * 6 + j, none⟩ = some v := fun j v hv => by
            have hbl := World.block_lt_of_cell? w _ (hc 0 _ rfl)
            exact (hgr.cell (p := ⟨b, off + k * 6 + j, none⟩) hbl).trans (hc j v hv)
          have d3 := hcell 3 _ rfl
          obtain ⟨_, _, _, ⟨an, cn, rfl, _⟩, ⟨ad, cd, rfl, _⟩, hlm, hld⟩ := hok
          have d4 := hcell 4 _ rfl
          have d5 := hcell 5 _ rfl
          have HSA := Lib.hid (small_any x.c.s an ad x.c.m.length x.c.d.length cn cd wr hlm hld)
          have HX := Lib.hid hx
          obtain ⟨r, hr⟩ : ∃ r, r = (decide (x.c.m.length ≤ 3) && decide (x.c.d.length ≤ 3)) := ⟨_, rfl⟩
          rw [← hr] at HSA
          have HR := Lib.hid hr
          clear hk hb hsm hgr hx hc hcell hlm hld hr
          cases r with
          | true =>
            go_wp2_with (first | (go_at_call 15; refine HSA.out.mono ?_; rintro e w3 ⟨rfl, hb3⟩; have HG3 := Lib.hid (HG1.out.trans hb3); have HB3 := Lib.hid (HB1.out.below hb3 HB1.out.lt); clear hb3) | fail)
            go_roundw
            case rel =>
              refine ⟨k + 1, by have := HN.out; omega, by go_num, HB3.out, fun j y hj hy => ?_, HG3.out⟩
              rcases Nat.lt_or_ge j k with h | h
              · exact HSM.out j y h hy
              · obtain rfl : j = k := by omega
                rw [HX.out] at hy
                cases hy
                have := HR.out
                simpa using this.symm
            case measure => simp [intOf]; omega
          | false =>
            go_wp2_with (first | (go_at_call 15; refine HSA.out.mono ?_; rintro e w3 ⟨rfl, hb3⟩; have HG3 := Lib.hid (HG1.out.trans hb3); clear hb3) | fail)
            go_ret
            exact .inr ⟨rfl, HG3.out⟩
        · obtain rfl : k = N := by omega
          have HALL : Hid (∀ (i : Nat) (x : Nd), L[i]? = some x → x.c.m.length ≤ 3 ∧ x.c.d.length ≤ 3) := Lib.hid (fun i x hx => HSM.out i x (by have := (List.getElem?_eq_some_iff.1 hx).1; have := HN.out; omega) hx)
          clear hk hb hsm hgr
          go_wp2_with fail
          clear c2 c3
          have W1eq : ∃ W1, W1 = wr := ⟨_, rfl⟩
          obtain ⟨W1, hW1⟩ := W1eq
          rw [← hW1] at HB1 HG1 ⊢
          clear hW1
          go_loopw [4] (fun i wr => SmallRel2 M w.heap.size #[.int .i64 pars, .int .i64 out, .slice A k ca, .slice B M cb] w i wr) (fun i _ => M - (intOf i).toNat)
          case atStart => exact ⟨0, by omega, rfl, HB1.out, HG1.out⟩
          case round =>
            obtain ⟨q, hq, rfl, hb, hgr⟩ := hrel
            have HB2 := Lib.hid hb
            have HG2 := Lib.hid hgr
            have c2 := hb.at 2 rfl
            have c3 := hb.at 3 rfl
            by_cases hlt : q < M
            · have hltI : (q : Int) < (M : Int) := by omega
              obtain ⟨x, hx⟩ : ∃ x, T[q]? = some x := ⟨_, List.getElem?_eq_getElem (by have := HM.out; omega)⟩
              obtain ⟨_, b, off, rfl, hc0, _⟩ := HT.out q x hx
              have d0 : wr.cell? ⟨b, off + q * 2, none⟩ = some (.string (mk x.1)) := (hgr.cell (p := ⟨b, off + q * 2, none⟩) (World.block_lt_of_cell? w _ hc0)).trans hc0
              have hsz : (mk x.1).size = x.1.length := mk_size _
              have hxl := HS.out x (List.mem_of_getElem? hx)
              obtain ⟨z, hz⟩ : ∃ z, z = x.1.length := ⟨_, rfl⟩
              rw [← hz] at hsz hxl
              clear hb hgr hx hc0 hz
              by_cases h200 : z ≤ 200
              · have e1 : ¬ (200 : Int) < (z : Int) := by omega
                go_wp2_with fail
                go_roundw
                case rel => exact ⟨q + 1, by omega, by go_num, HB2.out, HG2.out⟩
                case measure => simp [intOf]; omega
              · have e1 : (200 : Int) < (z : Int) := by omega
                go_wp2_with fail
                go_ret
                exact .inr ⟨rfl, HG2.out⟩
            · obtain rfl : q = M := by omega
              clear hb hgr
              go_wp2_with fail
              go_ret
              exact .inl ⟨rfl, by have := HN.out; omega, by have := HM.out; omega, HALL.out, HG2.out⟩
    · have h2i : (50 : Int) < (M : Int) := by omega
      have h2d : decide ((50 : Int) < (M : Int)) = true := by simp; omega
      go_enter Tryz.func5, Tryz.ntmps5
      go_wp2_with fail
      go_ret
      exact .inr ⟨rfl, HG.out⟩
  · have h1i : (200 : Int) < (N : Int) := by omega
    have h1d : decide ((200 : Int) < (N : Int)) = true := by simp; omega
    go_enter Tryz.func5, Tryz.ntmps5
    go_wp2_with fail
    go_ret
    exact .inr ⟨rfl, HG.out⟩
end Go.Proofs.YtofpcdjoljjnoaaGreatDoor

namespace Go.Proofs.YtofpcdjoljjnoaaGreatDoor

/-- Step j hangs on step i. -/
def Uses (L : List Nd) (j i : Nat) : Prop := ∃ x, L[j]? = some x ∧ ((fld x.op 0 = 3 ∧ x.a = (i : Int)) ∨ (fld x.op 1 = 3 ∧ x.b = (i : Int)))
theorem getD_set {l : List Bool} {i j : Nat} {b : Bool} (hi : i < l.length) : (l.set i b).getD j false = if i = j then b else l.getD j false := by
  rw [List.getD_eq_getElem?_getD, List.getD_eq_getElem?_getD, List.getElem?_set]
  split
  · rename_i h
    subst h
    simp
  · rfl
theorem markL_get {f : Nat} {a n : Int} {l : List Bool} {i : Nat} (h : f = 3 → 0 ≤ a ∧ a < n) (hn : n ≤ l.length) : ((markL f a l).getD i false = true) ↔ (l.getD i false = true ∨ (f = 3 ∧ a = (i : Int))) := by
  unfold markL
  by_cases hf : f = 3
  · obtain ⟨h1, h2⟩ := h hf
    rw [if_pos hf, getD_set (by omega)]
    split
    · rename_i h3
      simp only [true_iff]
      exact .inr ⟨hf, by omega⟩
    · rename_i h3
      constructor
      · exact .inl
      · rintro (h4 | ⟨_, h4⟩)
        · exact h4
        · exfalso; apply h3; omega
  · rw [if_neg hf]
    constructor
    · exact .inl
    · rintro (h4 | ⟨h4, _⟩)
      · exact h4
      · exact absurd h4 hf
section
variable {L : List Nd} {pars out : Int} (hv : stepsB pars 0 L = true)
include hv
theorem liveAt_get {j i : Nat} {l : List Bool} (hj : j < L.length) (hl : l.length = L.length) : ((liveAt L j l).getD i false = true) ↔ (l.getD i false = true ∨ (l.getD j false = true ∧ Uses L j i)) := by
  have hx : L[j]? = some L[j] := List.getElem?_eq_getElem hj
  have hs := stepsB_at hv hx
  rw [Nat.zero_add] at hs
  unfold liveAt
  rw [hx]
  dsimp only
  have hu : Uses L j i ↔ ((fld L[j].op 0 = 3 ∧ L[j].a = (i : Int)) ∨ (fld L[j].op 1 = 3 ∧ L[j].b = (i : Int))) := by
    constructor
    · rintro ⟨x, h1, h2⟩
      rw [hx] at h1
      cases h1
      exact h2
    · exact fun h => ⟨_, hx, h⟩
  by_cases hb : l.getD j false = true
  · rw [if_pos hb, markL_get (stepB_b hs) (by rw [markL_length]; omega), markL_get (stepB_a hs) (by omega), hu]
    constructor
    · rintro ((h | h) | h)
      · exact .inl h
      · exact .inr ⟨hb, .inl h⟩
      · exact .inr ⟨hb, .inr h⟩
    · rintro (h | ⟨_, h | h⟩)
      · exact .inl (.inl h)
      · exact .inl (.inr h)
      · exact .inr h
  · rw [if_neg hb]
    constructor
    · exact .inl
    · rintro (h | ⟨h, _⟩)
      · exact h
      · exact absurd h hb
theorem uses_lt {j i : Nat} (h : Uses L j i) : i < j := by
  obtain ⟨x, hx, h⟩ := h
  have hs := stepsB_at hv hx
  rw [Nat.zero_add] at hs
  rcases h with ⟨h1, h2⟩ | ⟨h1, h2⟩
  · have := stepB_a hs h1; omega
  · have := stepB_b hs h1; omega
theorem liveUp_get (ho : 0 ≤ out ∧ out < L.length) : ∀ k, k ≤ L.length → ∀ i, ((liveUp L out k).getD i false = true) ↔ ((i : Int) = out ∨ ∃ j, L.length - k ≤ j ∧ j < L.length ∧ (liveUp L out k).getD j false = true ∧ Uses L j i)
  | 0, _, i => by
    rw [liveUp, getD_set (by simp; omega)]
    constructor
    · split
      · exact fun _ => .inl (by omega)
      · intro h
        rw [List.getD_eq_getElem?_getD, List.getElem?_replicate] at h
        split at h <;> simp at h
    · rintro (h | ⟨j, h1, h2, _⟩)
      · rw [if_pos (by omega)]
      · omega
  | k + 1, hk, i => by
    have ih := liveUp_get ho k (by omega)
    have hst := fun i => liveAt_get (j := L.length - 1 - k) (i := i) hv (by omega) (liveUp_length L out k)
    have hsame : ∀ j, L.length - 1 - k ≤ j → ((liveUp L out (k + 1)).getD j false = true ↔ (liveUp L out k).getD j false = true) := fun j hj => by
      rw [liveUp, hst]
      constructor
      · rintro (h | ⟨_, h⟩)
        · exact h
        · have := uses_lt hv h; omega
      · exact .inl
    rw [liveUp, hst, ih i]
    constructor
    · rintro ((h | ⟨j, h1, h2, h3, h4⟩) | ⟨h1, h2⟩)
      · exact .inl h
      · exact .inr ⟨j, by omega, h2, (hsame j (by omega)).2 h3, h4⟩
      · exact .inr ⟨L.length - 1 - k, by omega, by omega, (hsame _ (Nat.le_refl _)).2 h1, h2⟩
    · rintro (h | ⟨j, h1, h2, h3, h4⟩)
      · exact .inl (.inl h)
      · have h3' := (hsame j (by omega)).1 h3
        rcases Nat.lt_or_ge (L.length - 1 - k) j with h | h
        · exact .inl (.inr ⟨j, by omega, h2, h3', h4⟩)
        · obtain rfl : j = L.length - 1 - k := by omega
          exact .inr ⟨h3', h4⟩
end

/-- What the law marks: behind k rounds. -/
def usedUp (L : List Nd) (F : List Bool) : Nat → List Bool
  | 0 => List.replicate L.length false
  | k + 1 => match L[k]? with
    | some x => if F.getD k false && decide (3 ≤ x.op) then (if x.op ≤ 6 then ((usedUp L F k).set x.a.toNat true).set x.b.toNat true else (usedUp L F k).set x.a.toNat true) else usedUp L F k
    | none => usedUp L F k
theorem usedUp_length (L : List Nd) (F : List Bool) : ∀ k, (usedUp L F k).length = L.length
  | 0 => by simp [usedUp]
  | k + 1 => by
    unfold usedUp
    split
    · split
      · split <;> simp [usedUp_length L F k]
      · exact usedUp_length L F k
    · exact usedUp_length L F k
theorem fld_of_op {op : Nat} (h : op < 12) : (fld op 0 = 3 ↔ 3 ≤ op) ∧ (fld op 1 = 3 ↔ 3 ≤ op ∧ op ≤ 6) := by
  have : ∀ op, op < 12 → ((fld op 0 = 3 ↔ 3 ≤ op) ∧ (fld op 1 = 3 ↔ 3 ≤ op ∧ op ≤ 6)) := by decide
  exact this op h
theorem stepB_op {x : Nd} {i pars : Int} (h : stepB x i pars = true) : x.op < 12 := by
  rcases Nat.lt_or_ge x.op 12 with h1 | h1
  · exact h1
  · unfold stepB at h
    rw [fld_none h1, fld_none h1, fld_none h1] at h
    simp at h
section
variable {L : List Nd} {pars : Int} (hv : stepsB pars 0 L = true)
include hv
theorem used_ab {k : Nat} {x : Nd} (hx : L[k]? = some x) (h3 : 3 ≤ x.op) : (0 ≤ x.a ∧ x.a < (k : Int)) ∧ (x.op ≤ 6 → 0 ≤ x.b ∧ x.b < (k : Int)) := by
  have hs := stepsB_at hv hx
  rw [Nat.zero_add] at hs
  have ho := fld_of_op (stepB_op hs)
  exact ⟨stepB_a hs (ho.1.2 h3), fun h6 => stepB_b hs (ho.2.2 ⟨h3, h6⟩)⟩
theorem usedUp_get (F : List Bool) : ∀ k, k ≤ L.length → ∀ i, ((usedUp L F k).getD i false = true) ↔ ∃ j, j < k ∧ F.getD j false = true ∧ Uses L j i
  | 0, _, i => by
    unfold usedUp
    rw [List.getD_eq_getElem?_getD, List.getElem?_replicate]
    constructor
    · intro h; split at h <;> simp at h
    · rintro ⟨j, h, _⟩; omega
  | k + 1, hk, i => by
    have ih := usedUp_get F k (by omega) i
    have hx : L[k]? = some L[k] := List.getElem?_eq_getElem (by omega)
    have hs := stepsB_at hv hx
    rw [Nat.zero_add] at hs
    have ho := fld_of_op (stepB_op hs)
    have hu : Uses L k i ↔ ((fld L[k].op 0 = 3 ∧ L[k].a = (i : Int)) ∨ (fld L[k].op 1 = 3 ∧ L[k].b = (i : Int))) := by
      constructor
      · rintro ⟨x, h1, h2⟩
        rw [hx] at h1
        cases h1
        exact h2
      · exact fun h => ⟨_, hx, h⟩
    have hl := usedUp_length L F k
    have key : ((usedUp L F (k + 1)).getD i false = true) ↔ ((usedUp L F k).getD i false = true ∨ (F.getD k false = true ∧ Uses L k i)) := by
      rw [hu, ho.1, ho.2]
      rw [usedUp, hx]
      dsimp only
      by_cases hf : F.getD k false = true
      · by_cases h3 : 3 ≤ L[k].op
        · obtain ⟨⟨a1, a2⟩, hb⟩ := used_ab hv hx h3
          rw [hf, decide_eq_true h3, Bool.and_true, if_pos rfl]
          by_cases h6 : L[k].op ≤ 6
          · obtain ⟨b1, b2⟩ := hb h6
            rw [if_pos h6, getD_set (by simp [hl]; omega), getD_set (by rw [hl]; omega)]
            constructor
            · split
              · exact fun _ => .inr ⟨rfl, .inr ⟨⟨h3, h6⟩, by omega⟩⟩
              · split
                · exact fun _ => .inr ⟨rfl, .inl ⟨h3, by omega⟩⟩
                · exact .inl
            · rintro (h | ⟨_, ⟨_, h⟩ | ⟨_, h⟩⟩)
              · split
                · rfl
                · split
                  · rfl
                  · exact h
              · split
                · rfl
                · rw [if_pos (by omega)]
              · rw [if_pos (by omega)]
          · rw [if_neg h6, getD_set (by rw [hl]; omega)]
            constructor
            · split
              · exact fun _ => .inr ⟨rfl, .inl ⟨h3, by omega⟩⟩
              · exact .inl
            · rintro (h | ⟨_, ⟨_, h⟩ | ⟨h, _⟩⟩)
              · split
                · rfl
                · exact h
              · rw [if_pos (by omega)]
              · exact absurd h.2 h6
        · rw [decide_eq_false h3, Bool.and_false]
          constructor
          · exact .inl
          · rintro (h | ⟨_, ⟨h, _⟩ | ⟨h, _⟩⟩)
            · exact h
            · exact absurd h h3
            · exact absurd h.1 h3
      · have hf' : F.getD k false = false := by simpa using hf
        rw [hf', Bool.false_and]
        constructor
        · exact .inl
        · rintro (h | ⟨h, _⟩)
          · exact h
          · cases h
    rw [key, ih]
    constructor
    · rintro (⟨j, h1, h2, h3⟩ | ⟨h1, h2⟩)
      · exact ⟨j, by omega, h2, h3⟩
      · exact ⟨k, by omega, h1, h2⟩
    · rintro ⟨j, h1, h2, h3⟩
      rcases Nat.lt_or_ge j k with h | h
      · exact .inl ⟨j, h, h2, h3⟩
      · obtain rfl : j = k := by omega
        exact .inr ⟨h2, h3⟩
/-- What the law compares. -/
theorem live_used {out : Int} (ho : 0 ≤ out ∧ out < L.length) (i : Nat) : (liveUp L out L.length).getD i false = ((usedUp L (liveUp L out L.length) L.length).getD i false || decide ((i : Int) = out)) := by
  have h1 := liveUp_get hv ho L.length (Nat.le_refl _) i
  have h2 := usedUp_get hv (liveUp L out L.length) L.length (Nat.le_refl _) i
  rw [Bool.eq_iff_iff, h1, Bool.or_eq_true, h2, decide_eq_true_eq]
  constructor
  · rintro (h | ⟨j, _, h3, h4, h5⟩)
    · exact .inr h
    · exact .inl ⟨j, h3, h4, h5⟩
  · rintro (⟨j, h3, h4, h5⟩ | h)
    · exact .inr ⟨j, by omega, h3, h4, h5⟩
    · exact .inl h
end
/-- A step more. -/
theorem live_more {L : List Nd} {pars out : Int} (hv : stepsB pars 0 L = true) (ho : 0 ≤ out ∧ out < L.length) {x : Nd} (hx : fld x.op 0 = 3 ∧ x.a = out ∧ fld x.op 1 ≠ 3) :
    ∀ k, k ≤ L.length → liveUp (L ++ [x]) (L.length : Int) (k + 1) = liveUp L out k ++ [true]
  | 0, _ => by
    rw [liveUp, liveUp, liveUp]
    unfold liveAt
    rw [List.length_append, List.length_singleton, show L.length + 1 - 1 - 0 = L.length by omega, List.getElem?_append_right (Nat.le_refl _), Nat.sub_self]
    dsimp only [List.getElem?_cons_zero]
    rw [Int.toNat_natCast, getD_set (by simp), if_pos rfl, if_pos rfl]
    unfold markL
    rw [if_neg hx.2.2, if_pos hx.1, hx.2.1, List.replicate_succ', List.set_append_right _ _ (by simp), List.length_replicate, Nat.sub_self, List.set_cons_zero, List.set_append_left _ _ (by simp; omega)]
  | k + 1, hk => by
    rw [liveUp, live_more hv ho hx k (by omega), liveUp]
    have hy : L[L.length - 1 - k]? = some L[L.length - 1 - k] := List.getElem?_eq_getElem (by omega)
    have hs := stepsB_at hv hy
    rw [Nat.zero_add] at hs
    have hl := liveUp_length L out k
    unfold liveAt
    rw [List.length_append, List.length_singleton, show L.length + 1 - 1 - (k + 1) = L.length - 1 - k by omega, List.getElem?_append_left (by omega), hy]
    dsimp only
    rw [List.getD_eq_getElem?_getD, List.getElem?_append_left (by omega), ← List.getD_eq_getElem?_getD]
    split
    · unfold markL
      have hA : fld L[L.length - 1 - k].op 0 = 3 → (liveUp L out k ++ [true]).set L[L.length - 1 - k].a.toNat true = (liveUp L out k).set L[L.length - 1 - k].a.toNat true ++ [true] := fun h => by
        have := stepB_a hs h
        exact List.set_append_left _ _ (by omega)
      have hB : ∀ l : List Bool, l.length = L.length → fld L[L.length - 1 - k].op 1 = 3 → (l ++ [true]).set L[L.length - 1 - k].b.toNat true = l.set L[L.length - 1 - k].b.toNat true ++ [true] := fun l hl h => by
        have := stepB_b hs h
        exact List.set_append_left _ _ (by omega)
      by_cases h0 : fld L[L.length - 1 - k].op 0 = 3 <;> by_cases h1 : fld L[L.length - 1 - k].op 1 = 3
      · rw [if_pos h0, if_pos h1, if_pos h0, if_pos h1, hA h0, hB _ (by simp [hl]) h1]
      · rw [if_pos h0, if_neg h1, if_pos h0, if_neg h1, hA h0]
      · rw [if_neg h0, if_pos h1, if_neg h0, if_pos h1, hB _ hl h1]
      · rw [if_neg h0, if_neg h1, if_neg h0, if_neg h1]
    · rfl
end Go.Proofs.YtofpcdjoljjnoaaGreatDoor
