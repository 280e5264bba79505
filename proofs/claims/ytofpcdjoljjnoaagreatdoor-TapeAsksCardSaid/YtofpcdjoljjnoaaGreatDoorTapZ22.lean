/-
  The texts TapLaid, TapRSame, TapRNorm, TapRMay, TapRRight, TapRNumB, one behind the other.
-/
import Derived.Test.YtofpcdjoljjnoaaGreatDoorTapZ21
import Derived.Test.YtofpcdjoljjnoaaGreatDoorTie
import Derived.Test.YtofpcdjoljjnoaaGreatDoorTapZ16
import Derived.LaidMore
import Derived.Stop.Joined
import Derived.Deep.Strs
import Derived.Test.YtofpcdjoljjnoaaGreatDoorTapZ15
import Derived.Test.YtofpcdjoljjnoaaGreatDoorTapZ07
import Derived.Test.YtofpcdjoljjnoaaGreatDoorTapZ18

namespace Go.Proofs.YtofpcdjoljjnoaaGreatDoor
open Go.ChangeShapes Go.WideShapes Go.ChangeAt Go.RowKit Go.Deep

theorem three_of {α : Type} {l : List α} (h : l.length = 3) : ∃ a b c, l = [a, b, c] := by
  match l, h with
  | [a, b, c], _ => exact ⟨a, b, c, rfl⟩
theorem cons_of {α : Type} {l : List α} {n : Nat} (h : l.length = n + 1) : ∃ a m, l = a :: m ∧ m.length = n := by
  match l, h with
  | a :: m, h => exact ⟨a, m, rfl, by simpa using h⟩
theorem nil_of {α : Type} {l : List α} (h : l.length = 0) : l = [] := List.eq_nil_of_length_eq_zero h
theorem all_of {α : Type} {l : List α} (h : l.length = 36) : ∃ c0 c1 c2 c3 c4 c5 c6 c7 c8 c9 c10 c11 c12 c13 c14 c15 c16 c17 c18 c19 c20 c21 c22 c23 c24 c25 c26 c27 c28 c29 c30 c31 c32 c33 c34 c35, l = [c0, c1, c2, c3, c4, c5, c6, c7, c8, c9, c10, c11, c12, c13, c14, c15, c16, c17, c18, c19, c20, c21, c22, c23, c24, c25, c26, c27, c28, c29, c30, c31, c32, c33, c34, c35] := by
  obtain ⟨a0, m0, rfl, h0⟩ := cons_of h
  obtain ⟨a1, m1, rfl, h1⟩ := cons_of h0
  obtain ⟨a2, m2, rfl, h2⟩ := cons_of h1
  obtain ⟨a3, m3, rfl, h3⟩ := cons_of h2
  obtain ⟨a4, m4, rfl, h4⟩ := cons_of h3
  obtain ⟨a5, m5, rfl, h5⟩ := cons_of h4
  obtain ⟨a6, m6, rfl, h6⟩ := cons_of h5
  obtain ⟨a7, m7, rfl, h7⟩ := cons_of h6
  obtain ⟨a8, m8, rfl, h8⟩ := cons_of h7
  obtain ⟨a9, m9, rfl, h9⟩ := cons_of h8
  obtain ⟨a10, m10, rfl, h10⟩ := cons_of h9
  obtain ⟨a11, m11, rfl, h11⟩ := cons_of h10
  obtain ⟨a12, m12, rfl, h12⟩ := cons_of h11
  obtain ⟨a13, m13, rfl, h13⟩ := cons_of h12
  obtain ⟨a14, m14, rfl, h14⟩ := cons_of h13
  obtain ⟨a15, m15, rfl, h15⟩ := cons_of h14
  obtain ⟨a16, m16, rfl, h16⟩ := cons_of h15
  obtain ⟨a17, m17, rfl, h17⟩ := cons_of h16
  obtain ⟨a18, m18, rfl, h18⟩ := cons_of h17
  obtain ⟨a19, m19, rfl, h19⟩ := cons_of h18
  obtain ⟨a20, m20, rfl, h20⟩ := cons_of h19
  obtain ⟨a21, m21, rfl, h21⟩ := cons_of h20
  obtain ⟨a22, m22, rfl, h22⟩ := cons_of h21
  obtain ⟨a23, m23, rfl, h23⟩ := cons_of h22
  obtain ⟨a24, m24, rfl, h24⟩ := cons_of h23
  obtain ⟨a25, m25, rfl, h25⟩ := cons_of h24
  obtain ⟨a26, m26, rfl, h26⟩ := cons_of h25
  obtain ⟨a27, m27, rfl, h27⟩ := cons_of h26
  obtain ⟨a28, m28, rfl, h28⟩ := cons_of h27
  obtain ⟨a29, m29, rfl, h29⟩ := cons_of h28
  obtain ⟨a30, m30, rfl, h30⟩ := cons_of h29
  obtain ⟨a31, m31, rfl, h31⟩ := cons_of h30
  obtain ⟨a32, m32, rfl, h32⟩ := cons_of h31
  obtain ⟨a33, m33, rfl, h33⟩ := cons_of h32
  obtain ⟨a34, m34, rfl, h34⟩ := cons_of h33
  obtain ⟨a35, m35, rfl, h35⟩ := cons_of h34
  obtain rfl := nil_of h35
  exact ⟨a0, a1, a2, a3, a4, a5, a6, a7, a8, a9, a10, a11, a12, a13, a14, a15, a16, a17, a18, a19, a20, a21, a22, a23, a24, a25, a26, a27, a28, a29, a30, a31, a32, a33, a34, a35, rfl⟩

theorem gFields : Tryz.prog.globalNamed "stepstone/tape.fieldsByOp" = some 0 := by kernel_rfl
theorem tFields : (Tryz.prog.globals[0]?).map (·.type) = some 102 := by kernel_rfl
theorem cFields : Tryz.prog.cellsOf 102 = 36 := by kernel_rfl
theorem cField3 : Tryz.prog.cellsOf 76 = 3 := by kernel_rfl
theorem cField1 : Tryz.prog.cellsOf 73 = 1 := by kernel_rfl
theorem int_of_trod {H : Type} {enc : TypeId × Value → H} {P : Program} {w : World} {base : Nat} {sp : Nat → Bool} {held : Bool} {fuel : Nat} {t : TypeId} {k : IntKind} {c : Value} {y : DataW H × List MemPlace}
    (ht : P.underlying t = some (.int k)) (h : DataW.trod enc P w base sp held fuel t [c] = some y) : ∃ n, c = .int k n ∧ y = (.lit (.int k n), []) := by
  cases fuel with
  | zero => simp [DataW.trod] at h
  | succ fuel =>
    cases c <;> simp [DataW.trod, ht] at h
    rename_i k' n
    obtain ⟨⟨rfl, _⟩, rfl⟩ := h
    exact ⟨n, rfl, rfl⟩
theorem fields_of_trod {H : Type} {enc : TypeId × Value → H} {w : World} {base : Nat} {sp : Nat → Bool} {held : Bool} {n : Nat} {cs : List Value} {y : DataW H × List MemPlace}
    (h : DataW.trod enc Tryz.prog w base sp held n 76 cs = some y) : ∃ a b c, cs = [.int .u8 a, .int .u8 b, .int .u8 c] ∧ y = (.agg [.lit (.int .u8 a), .lit (.int .u8 b), .lit (.int .u8 c)], []) := by
  obtain ⟨y0, y1, y2, m, rfl, hl, t0, t1, t2⟩ := trod_struct3 Tryz.underlying76 h
  rw [cField3] at hl
  obtain ⟨c0, c1, c2, rfl⟩ := three_of hl
  simp only [cField1, List.drop_zero, List.take_succ_cons, List.take_zero, List.drop_succ_cons] at t0 t1 t2
  obtain ⟨a, rfl, rfl⟩ := int_of_trod Tryz.underlying73 t0
  obtain ⟨b, rfl, rfl⟩ := int_of_trod Tryz.underlying73 t1
  obtain ⟨c, rfl, rfl⟩ := int_of_trod Tryz.underlying73 t2
  exact ⟨a, b, c, rfl, rfl⟩

set_option maxRecDepth 100000 in
set_option maxHeartbeats 4000000 in
theorem cells_of_laid {W : World} (h : laidMet Tryz.prog [("stepstone/tape.fieldsByOp", Rows.laid_stepstone_tape_fieldsByOp)] W) : W.var? Tryz.prog "stepstone/tape.fieldsByOp" = some (fldL.map fun n : Nat => Value.int .u8 (n : Int)).toArray := by
  obtain ⟨ps, ⟨g, t, cs, fuel, p, q, hg, ht, hvar, hd, _, _⟩, _⟩ := h
  obtain rfl := Option.some.inj (gFields.symm.trans hg)
  obtain rfl := Option.some.inj (tFields.symm.trans ht)
  rw [hvar]
  congr 1
  obtain ⟨l⟩ := cs
  cases fuel with
  | zero => simp [DataW.trod] at hd
  | succ fuel =>
    simp only [DataW.trod, Tryz.underlying102, cFields, cField3] at hd
    split at hd
    · rename_i hl
      obtain ⟨c0, c1, c2, c3, c4, c5, c6, c7, c8, c9, c10, c11, c12, c13, c14, c15, c16, c17, c18, c19, c20, c21, c22, c23, c24, c25, c26, c27, c28, c29, c30, c31, c32, c33, c34, c35, rfl⟩ := all_of hl
      have e : List.range 12 = [0, 1, 2, 3, 4, 5, 6, 7, 8, 9, 10, 11] := rfl
      rw [e] at hd
      simp only [Option.map_eq_some_iff, List.mapM_cons, List.mapM_nil, Option.bind_eq_bind, Option.bind_eq_some_iff, Option.pure_def, Option.some.injEq, List.drop_zero, Nat.zero_mul, Nat.one_mul, Nat.reduceMul, List.take_succ_cons, List.take_zero, List.drop_succ_cons] at hd
      obtain ⟨xs, ⟨y0, h0, _, ⟨y1, h1, _, ⟨y2, h2, _, ⟨y3, h3, _, ⟨y4, h4, _, ⟨y5, h5, _, ⟨y6, h6, _, ⟨y7, h7, _, ⟨y8, h8, _, ⟨y9, h9, _, ⟨y10, h10, _, ⟨y11, h11, _, rfl, rfl⟩, rfl⟩, rfl⟩, rfl⟩, rfl⟩, rfl⟩, rfl⟩, rfl⟩, rfl⟩, rfl⟩, rfl⟩, rfl⟩, hx⟩ := hd
      obtain ⟨a0, b0, d0, e0, rfl⟩ := fields_of_trod h0
      simp only [List.cons.injEq, and_true] at e0
      obtain ⟨rfl, rfl, rfl⟩ := e0
      obtain ⟨a1, b1, d1, e1, rfl⟩ := fields_of_trod h1
      simp only [List.cons.injEq, and_true] at e1
      obtain ⟨rfl, rfl, rfl⟩ := e1
      obtain ⟨a2, b2, d2, e2, rfl⟩ := fields_of_trod h2
      simp only [List.cons.injEq, and_true] at e2
      obtain ⟨rfl, rfl, rfl⟩ := e2
      obtain ⟨a3, b3, d3, e3, rfl⟩ := fields_of_trod h3
      simp only [List.cons.injEq, and_true] at e3
      obtain ⟨rfl, rfl, rfl⟩ := e3
      obtain ⟨a4, b4, d4, e4, rfl⟩ := fields_of_trod h4
      simp only [List.cons.injEq, and_true] at e4
      obtain ⟨rfl, rfl, rfl⟩ := e4
      obtain ⟨a5, b5, d5, e5, rfl⟩ := fields_of_trod h5
      simp only [List.cons.injEq, and_true] at e5
      obtain ⟨rfl, rfl, rfl⟩ := e5
      obtain ⟨a6, b6, d6, e6, rfl⟩ := fields_of_trod h6
      simp only [List.cons.injEq, and_true] at e6
      obtain ⟨rfl, rfl, rfl⟩ := e6
      obtain ⟨a7, b7, d7, e7, rfl⟩ := fields_of_trod h7
      simp only [List.cons.injEq, and_true] at e7
      obtain ⟨rfl, rfl, rfl⟩ := e7
      obtain ⟨a8, b8, d8, e8, rfl⟩ := fields_of_trod h8
      simp only [List.cons.injEq, and_true] at e8
      obtain ⟨rfl, rfl, rfl⟩ := e8
      obtain ⟨a9, b9, d9, e9, rfl⟩ := fields_of_trod h9
      simp only [List.cons.injEq, and_true] at e9
      obtain ⟨rfl, rfl, rfl⟩ := e9
      obtain ⟨a10, b10, d10, e10, rfl⟩ := fields_of_trod h10
      simp only [List.cons.injEq, and_true] at e10
      obtain ⟨rfl, rfl, rfl⟩ := e10
      obtain ⟨a11, b11, d11, e11, rfl⟩ := fields_of_trod h11
      simp only [List.cons.injEq, and_true] at e11
      obtain ⟨rfl, rfl, rfl⟩ := e11
      simp [Rows.laid_stepstone_tape_fieldsByOp] at hx
      obtain ⟨hx, _⟩ := hx
      simp [hx, fldL]
    · cases hd

/-- What the condition gives the walks. -/
theorem tab_of_laid {W : World} (h : laidMetH Tryz.prog [("stepstone/tape.fieldsByOp", Rows.laid_stepstone_tape_fieldsByOp)] W) : Tab W := by
  rw [MakeChecks.laidMetH_plain _ _ _ (by kernel_rfl)] at h
  have hv := cells_of_laid h
  intro i hi
  rw [World.var?_cell gFields hv i]
  have hl : fldL.length = 36 := rfl
  simp [List.getD_eq_getElem?_getD, List.getElem?_eq_getElem (show i < fldL.length by omega)]

/-- The program's own start meets the condition. -/
theorem door_met (os : Os) (args : Array Value) : laidMetH Tryz.prog [("stepstone/tape.fieldsByOp", Rows.laid_stepstone_tape_fieldsByOp)] ((World.doorLaid Tryz.prog 400 os).forCall (fun _ _ => 0) ⟨#[], args, []⟩).memory :=
  laidMetH_of_parts3 (fuel := 8) (laidMet_of_run' 8 (by kernel_rfl) (by kernel_rfl)) (by kernel_rfl) (by kernel_rfl)
end Go.Proofs.YtofpcdjoljjnoaaGreatDoor

namespace Go.Proofs.YtofpcdjoljjnoaaGreatDoor
open Go.RowKit

def topB (L : List Nat) : Bool := decide (L.length = 0) || decide (L.getD (L.length - 1) 0 ≠ 0)
def sameNB (L M : List Nat) : Bool := decide (L = M) && topB L
def SameRel2 (L M : List Nat) (w : World) (i : Value) (wr : World) : Prop := ∃ k : Nat, k ≤ L.length ∧ i = .int .i64 (k : Int) ∧ L.take k = M.take k ∧ Below w.heap.size w wr

set_option maxHeartbeats 4000000 in
theorem nsame2_any (a b : Option Addr) (ca cb : Nat) (L M : List Nat) (w : World) (hl : L.length ≤ 1099511627776) (hL : NatAt w a L) (hM : NatAt w b M) :
    Calls Tryz.prog 74 #[.slice a L.length ca, .slice b M.length cb] w (Just (.bool (sameNB L M)) w) := by
  by_cases hlen : L.length = M.length
  · have HL := Lib.hid hL
    have HM := Lib.hid hM
    have HLEN := Lib.hid hlen
    rw [← hlen]
    clear hL hM hlen
    obtain ⟨N, hN⟩ : ∃ N, N = L.length := ⟨_, rfl⟩
    rw [← hN] at hl ⊢
    have HN := Lib.hid hN
    clear hN
    go_enter Tryz.func74, Tryz.ntmps74
    go_wp2_with fail
    go_loopw [5] (fun i wr => SameRel2 L M w i wr) (fun i _ => N - (intOf i).toNat)
    case atStart => exact ⟨0, by omega, rfl, rfl, Below.refl _ _⟩
    case round =>
      obtain ⟨k, hk, rfl, ht, hb⟩ := hrel
      have HB := Lib.hid hb
      have HT := Lib.hid ht
      have hkN : k ≤ N := by rw [HN.out]; exact hk
      clear hk ht hb
      by_cases hlt : k < N
      · obtain ⟨b1, o1, rfl, hc1⟩ := HL.out.below HB.out (Nat.le_refl _) k (by have := HN.out; omega)
        obtain ⟨b2, o2, rfl, hc2⟩ := HM.out.below HB.out (Nat.le_refl _) k (by have := HN.out; have := HLEN.out; omega)
        obtain ⟨p, hp⟩ : ∃ p, p = L.getD k 0 := ⟨_, rfl⟩
        obtain ⟨q, hq⟩ : ∃ q, q = M.getD k 0 := ⟨_, rfl⟩
        rw [← hp] at hc1
        rw [← hq] at hc2
        have HP := Lib.hid hp
        have HQ := Lib.hid hq
        have hltI : (k : Int) < (N : Int) := by omega
        clear hp hq
        have HST := Lib.hid (take_eq_step HT.out (by have := HN.out; omega) (by have := HN.out; have := HLEN.out; omega))
        go_wp2_with fail
        by_cases hpq : p = q
        · have hbe : (p : Int) = (q : Int) := by rw [hpq]
          have hne : ((p : Int) != (q : Int)) = false := by simp [hpq]
          have HST2 : Hid (L.take (k + 1) = M.take (k + 1)) := Lib.hid (HST.out.2 (by rw [← HP.out, ← HQ.out, hpq]))
          go_quiet (fail)
          go_wp2_with fail
          go_roundw
          case rel => exact ⟨k + 1, by have := HN.out; omega, by go_num, HST2.out, HB.out.trans ⟨rfl, rfl, rfl, Nat.le_refl _, fun _ _ => rfl⟩⟩
          case measure => simp [intOf]; omega
        · have hbe : ((p : Int) == (q : Int)) = false := by simp; omega
          have hpi : ¬ ((p : Int) = (q : Int)) := by omega
          have HNE : Hid (L ≠ M) := Lib.hid (getD_ne (by rw [← HP.out, ← HQ.out]; exact hpq))
          go_quiet (fail)
          go_wp2_with fail
          go_ret
          exact ⟨by unfold sameNB; rw [decide_eq_false HNE.out]; rfl, HB.out.trans ⟨rfl, rfl, rfl, Nat.le_refl _, fun _ _ => rfl⟩⟩
      · obtain rfl : k = N := by omega
        have HE : Hid (L = M) := Lib.hid (by
          have h1 := HT.out
          have h2 := HN.out
          have h3 := HLEN.out
          rw [List.take_of_length_le (by omega), List.take_of_length_le (by omega)] at h1
          exact h1)
        by_cases h0 : k = 0
        · subst h0
          have HV : Hid (sameNB L M = true) := Lib.hid (by unfold sameNB topB; rw [decide_eq_true HE.out, decide_eq_true HN.out.symm]; rfl)
          go_wp2_with fail
          go_ret
          exact ⟨by rw [HV.out]; rfl, HB.out⟩
        · obtain ⟨j, hj⟩ : ∃ j, j + 1 = k := ⟨k - 1, by omega⟩
          have hjI : (k : Int) - 1 = (j : Int) := by omega
          have hk0 : ¬ ((k : Int) = 0) := by omega
          have hk0b : ((k : Int) == 0) = false := by simp; omega
          have hjk : (j : Int) < (k : Int) := by omega
          obtain ⟨b1, o1, rfl, hc1⟩ := HL.out.below HB.out (Nat.le_refl _) j (by have := HN.out; omega)
          obtain ⟨p, hp⟩ : ∃ p, p = L.getD j 0 := ⟨_, rfl⟩
          rw [← hp] at hc1
          have HP : Hid (p = L.getD (L.length - 1) 0) := Lib.hid (by rw [hp, ← HN.out, ← hj]; rfl)
          have HJ := Lib.hid hj
          clear hp hj
          by_cases hp0 : p = 0
          · have hpi : (p : Int) = 0 := by omega
            have hpb : ((p : Int) != 0) = false := by simp [hp0]
            have HV : Hid (sameNB L M = false) := Lib.hid (by
              unfold sameNB topB
              rw [← HP.out, decide_eq_false (show ¬ L.length = 0 by have := HN.out; have := HJ.out; omega), decide_eq_false (show ¬ (p ≠ 0) by simp [hp0])]
              simp)
            clear hp0
            go_wp2_with fail
            go_ret
            exact ⟨by rw [HV.out]; rfl, HB.out⟩
          · have hpi : ¬ ((p : Int) = 0) := by omega
            have hpb : ((p : Int) != 0) = true := by simp; omega
            have HV : Hid (sameNB L M = true) := Lib.hid (by
              unfold sameNB topB
              rw [← HP.out, decide_eq_true HE.out, decide_eq_true hp0]
              simp)
            go_wp2_with fail
            go_ret
            exact ⟨by rw [HV.out]; rfl, HB.out⟩
  · have hne : ¬ ((L.length : Int) = (M.length : Int)) := by omega
    have HNE : Hid (L ≠ M) := Lib.hid (fun e => hlen (by rw [e]))
    clear hL hM
    go_enter Tryz.func74, Tryz.ntmps74
    go_wp2_with fail
    go_ret
    exact ⟨by unfold sameNB; rw [decide_eq_false HNE.out]; rfl, Below.refl _ _⟩

def sameZB (s : Bool) (L : List Nat) (s' : Bool) (M : List Nat) : Bool := ((s == s') && sameNB L M) && (!s || decide (0 < L.length))

set_option maxHeartbeats 4000000 in
theorem zsame_any (s s' : Bool) (a b : Option Addr) (ca cb : Nat) (L M : List Nat) (w : World) (hl : L.length ≤ 1099511627776) (hL : NatAt w a L) (hM : NatAt w b M) :
    Calls Tryz.prog 73 #[.agg #[.bool s, .slice a L.length ca], .agg #[.bool s', .slice b M.length cb]] w (Just (.bool (sameZB s L s' M)) w) := by
  obtain ⟨W1, hW1⟩ : ∃ W1, W1 = (w.alloc (.cells #[.bool s, .slice a L.length ca] 44)).alloc (.cells #[.bool s', .slice b M.length cb] 44) := ⟨_, rfl⟩
  have b0 : BlkOf W1 w.heap.size #[.bool s, .slice a L.length ca] 44 := by rw [hW1]; exact (BlkOf.new w _ _).alloc _
  have b1 : BlkOf W1 (w.heap.size + 1) #[.bool s', .slice b M.length cb] 44 := by rw [hW1]; exact BlkOf.news (by simp) _ _
  have hbw : Grow w W1 := by rw [hW1]; exact ((Below.refl _ w).alloc (Nat.le_refl _) _).alloc (by simp) _
  have HS := Lib.hid (nsame2_any a b ca cb L M W1 hl (hL.below hbw (Nat.le_refl _)) (hM.below hbw (Nat.le_refl _)))
  have HBW := Lib.hid hbw
  have HB0 := Lib.hid b0
  have c0 := b0.at 0 rfl
  have c1 := b0.at 1 rfl
  have d0 := b1.at 0 rfl
  have d1 := b1.at 1 rfl
  obtain ⟨r, hr⟩ : ∃ r, r = sameNB L M := ⟨_, rfl⟩
  rw [← hr] at HS
  unfold sameZB
  rw [← hr]
  obtain ⟨n, hn⟩ : ∃ n, n = L.length := ⟨_, rfl⟩
  rw [← hn] at hl hW1 HS HB0 c1 ⊢
  subst hW1
  clear b0 b1 hbw hL hM hr hn
  by_cases hss : s = s'
  · subst hss
    rw [show (s == s) = true by simp, Bool.true_and]
    cases r with
    | false =>
      cases s <;>
      (go_enter Tryz.func73, Tryz.ntmps73
       go_wp2_with (first | (go_at_call 74; refine HS.out.mono ?_) | fail)
       rintro e w3 ⟨rfl, hb3⟩
       have HG := Lib.hid (HBW.out.trans hb3)
       clear hb3
       go_wp2_with fail
       go_ret
       exact ⟨rfl, HG.out⟩)
    | true =>
      cases s with
      | false =>
        go_enter Tryz.func73, Tryz.ntmps73
        go_wp2_with (first | (go_at_call 74; refine HS.out.mono ?_) | fail)
        rintro e w3 ⟨rfl, hb3⟩
        have HG := Lib.hid (HBW.out.trans hb3)
        have hB3 := HB0.out.below hb3 HB0.out.lt
        have q0 := hB3.at 0 rfl
        clear hb3 hB3
        go_wp2_with fail
        go_ret
        exact ⟨rfl, HG.out⟩
      | true =>
        by_cases h0 : 0 < n
        · have h0i : (0 : Int) < (n : Int) := by omega
          rw [decide_eq_true h0]
          go_enter Tryz.func73, Tryz.ntmps73
          go_wp2_with (first | (go_at_call 74; refine HS.out.mono ?_) | fail)
          rintro e w3 ⟨rfl, hb3⟩
          have HG := Lib.hid (HBW.out.trans hb3)
          have hB3 := HB0.out.below hb3 HB0.out.lt
          have q0 := hB3.at 0 rfl
          have q1 := hB3.at 1 rfl
          clear hb3 hB3
          go_wp2_with fail
          go_ret
          exact ⟨rfl, HG.out⟩
        · have h0i : ¬ (0 : Int) < (n : Int) := by omega
          rw [decide_eq_false h0]
          go_enter Tryz.func73, Tryz.ntmps73
          go_wp2_with (first | (go_at_call 74; refine HS.out.mono ?_) | fail)
          rintro e w3 ⟨rfl, hb3⟩
          have HG := Lib.hid (HBW.out.trans hb3)
          have hB3 := HB0.out.below hb3 HB0.out.lt
          have q0 := hB3.at 0 rfl
          have q1 := hB3.at 1 rfl
          clear hb3 hB3
          go_wp2_with fail
          go_ret
          exact ⟨rfl, HG.out⟩
  · have hssb : (s == s') = false := by simp [hss]
    rw [hssb, Bool.false_and, Bool.false_and]
    cases s <;> cases s' <;>
    first
    | exact absurd rfl hss
    | (clear hss hssb
       go_enter Tryz.func73, Tryz.ntmps73
       go_wp2_with fail
       go_ret
       exact ⟨rfl, HBW.out⟩)
def sameFB (x y : Fr) : Bool := sameZB x.s x.m y.s y.m && sameNB x.d y.d

set_option maxRecDepth 100000 in
set_option maxHeartbeats 4000000 in
theorem fsame_any {w : World} (x y : Fr) (a b a2 b2 : Option Addr) (ca cb ca2 cb2 : Nat) (hl : x.m.length ≤ 1099511627776) (hl2 : x.d.length ≤ 1099511627776) (h1 : NatAt w a x.m) (h2 : NatAt w b x.d) (h3 : NatAt w a2 y.m) (h4 : NatAt w b2 y.d) :
    Calls Tryz.prog 52 #[.agg #[.bool x.s, .slice a x.m.length ca, .slice b x.d.length cb], .agg #[.bool y.s, .slice a2 y.m.length ca2, .slice b2 y.d.length cb2]] w (Just (.bool (sameFB x y)) w) := by
  obtain ⟨W1, hW1⟩ : ∃ W1, W1 = (w.alloc (.cells #[.bool x.s, .slice a x.m.length ca, .slice b x.d.length cb] 46)).alloc (.cells #[.bool y.s, .slice a2 y.m.length ca2, .slice b2 y.d.length cb2] 46) := ⟨_, rfl⟩
  have b0 : BlkOf W1 w.heap.size #[.bool x.s, .slice a x.m.length ca, .slice b x.d.length cb] 46 := by rw [hW1]; exact (BlkOf.new w _ _).alloc _
  have b1 : BlkOf W1 (w.heap.size + 1) #[.bool y.s, .slice a2 y.m.length ca2, .slice b2 y.d.length cb2] 46 := by rw [hW1]; exact BlkOf.news (by simp) _ _
  have hbw : Grow w W1 := by rw [hW1]; exact ((Below.refl _ w).alloc (Nat.le_refl _) _).alloc (by simp) _
  have HZ := Lib.hid (zsame_any x.s y.s a a2 ca ca2 x.m y.m W1 hl (h1.below hbw (Nat.le_refl _)) (h3.below hbw (Nat.le_refl _)))
  have HD := Lib.hid (fun W (hW : Grow w W) => nsame2_any b b2 cb cb2 x.d y.d W hl2 (h2.below hW (Nat.le_refl _)) (h4.below hW (Nat.le_refl _)))
  have HB0 := Lib.hid b0
  have HB1 := Lib.hid b1
  have HBW := Lib.hid hbw
  have c0 := b0.at 0 rfl
  have c1 := b0.at 1 rfl
  have d0 := b1.at 0 rfl
  have d1 := b1.at 1 rfl
  unfold sameFB
  obtain ⟨r, hr⟩ : ∃ r, r = sameZB x.s x.m y.s y.m := ⟨_, rfl⟩
  obtain ⟨q, hq⟩ : ∃ q, q = sameNB x.d y.d := ⟨_, rfl⟩
  rw [← hr] at HZ ⊢
  rw [← hq] at HD ⊢
  subst hW1
  clear b0 b1 hbw h1 h2 h3 h4 hr hq hl hl2
  cases r with
  | false =>
    go_enter Tryz.func52, Tryz.ntmps52
    go_wp2_with (first | (go_at_call 73; refine HZ.out.mono ?_) | fail)
    rintro e w3 ⟨rfl, hb3⟩
    have HG := Lib.hid (HBW.out.trans hb3)
    clear hb3
    go_wp2_with fail
    go_ret
    exact ⟨rfl, HG.out⟩
  | true =>
    go_enter Tryz.func52, Tryz.ntmps52
    go_wp2_with (first | (go_at_call 73; refine HZ.out.mono ?_) | fail)
    rintro e w3 ⟨rfl, hb3⟩
    have HG := Lib.hid (HBW.out.trans hb3)
    have hB3 := HB0.out.below hb3 HB0.out.lt
    have hC3 := HB1.out.below hb3 HB1.out.lt
    have q2 := hB3.at 2 rfl
    have r2 := hC3.at 2 rfl
    clear hb3 hB3 hC3 c0 c1 d0 d1
    go_wp2_with (first | (go_at_call 74; refine (HD.out _ HG.out).mono ?_) | fail)
    rintro e w4 ⟨rfl, hb4⟩
    have HG4 := Lib.hid (Grow.trans HG.out hb4)
    clear hb4
    go_wp2_with fail
    go_ret
    exact ⟨by rw [Bool.true_and]; rfl, HG4.out⟩

set_option maxHeartbeats 2000000 in
theorem rnone_any {w : World} (x : Fr) (a b : Option Addr) (ca cb : Nat) (hl : x.m.length ≤ 1099511627776) (hl2 : x.d.length ≤ 1099511627776) :
    Calls Tryz.prog 53 #[.agg #[.bool x.s, .slice a x.m.length ca, .slice b x.d.length cb]] w (Just (.bool (sameB x ⟨false, [], []⟩)) w) := by
  have HG := Lib.hid (Grow.alloc w (.cells #[.bool x.s, .slice a x.m.length ca, .slice b x.d.length cb] 46))
  have hv : sameB x ⟨false, [], []⟩ = ((decide (x.m.length = 0) && !x.s) && decide (x.d.length = 0)) := by
    obtain ⟨s, m, d⟩ := x
    unfold sameB
    cases s <;> cases m <;> cases d <;> simp
  rw [hv]
  obtain ⟨s, m, d⟩ := x
  dsimp only at *
  obtain ⟨n, hn⟩ : ∃ n, n = m.length := ⟨_, rfl⟩
  obtain ⟨k, hk⟩ : ∃ k, k = d.length := ⟨_, rfl⟩
  rw [← hn] at hl HG ⊢
  rw [← hk] at hl2 HG ⊢
  clear hv hn hk
  by_cases h1 : n = 0
  · have e1 : (n : Int) = 0 := by omega
    have e1b : ((n : Int) == 0) = true := by simp [h1]
    rw [decide_eq_true h1]
    clear h1
    cases s with
    | true =>
      go_enter Tryz.func53, Tryz.ntmps53
      go_wp2_with fail
      go_ret
      exact ⟨rfl, HG.out⟩
    | false =>
      by_cases h2 : k = 0
      · have e2b : ((k : Int) == 0) = true := by simp [h2]
        rw [decide_eq_true h2]
        clear h2
        go_enter Tryz.func53, Tryz.ntmps53
        go_wp2_with fail
        go_ret
        exact ⟨by simp, HG.out⟩
      · have e2b : ((k : Int) == 0) = false := by simp; omega
        rw [decide_eq_false h2]
        clear h2
        go_enter Tryz.func53, Tryz.ntmps53
        go_wp2_with fail
        go_ret
        exact ⟨by simp, HG.out⟩
  · have e1 : ¬ (n : Int) = 0 := by omega
    have e1b : ((n : Int) == 0) = false := by simp; omega
    rw [decide_eq_false h1]
    clear h1
    go_enter Tryz.func53, Tryz.ntmps53
    go_wp2_with fail
    go_ret
    exact ⟨by simp, HG.out⟩
end Go.Proofs.YtofpcdjoljjnoaaGreatDoor

namespace Go.Proofs.YtofpcdjoljjnoaaGreatDoor
open Go.RowKit

theorem nrow_pos {n : Nat} : 0 < (nrow n).length ↔ n ≠ 0 := by
  constructor
  · rintro h rfl; exact absurd h (by decide)
  · intro h
    rcases Nat.eq_zero_or_pos (nrow n).length with h0 | h0
    · exact absurd (nrow_nil.1 (List.eq_nil_of_length_eq_zero h0)) h
    · exact h0
section
variable {K : Nat} {w : World} {n d : Nat}

set_option maxHeartbeats 1000000 in
theorem whole_any (a : Option Addr) (l c : Nat) (w : World) :
    Calls Tryz.prog 67 #[.slice a l c] w (Just (.agg #[.bool false, .slice a l c]) w) := by
  go_enter Tryz.func67, Tryz.ntmps67
  go_wp2_with fail
  refine post_cell rfl (g := w.heap.size) rfl (BlkOf.news rfl _ _) Tryz.underlying44 rfl (by kernel_rfl) ?_
  exact ⟨rfl, (Below.refl _ _).alloc (Nat.le_refl _) _⟩

/-- A normal integer. -/
def ZRes (s : Bool) (n : Nat) (w : World) (e : Ending) (w' : World) : Prop := ∃ x c, e = .returned (.agg #[.bool (rdS s n), .slice x (nrow n).length c]) ∧ NRow w.heap.size w' (.slice x (nrow n).length c) (nrow n) ∧ Below w.heap.size w w'

set_option maxRecDepth 100000 in
set_option maxHeartbeats 4000000 in
theorem rznorm_any {v : Value} (s : Bool) (h : NNum K w v n) (hK : K ≤ 1048576) :
    Calls Tryz.prog 90 #[.agg #[.bool s, v]] w (ZRes s n w) := by
  have H := Lib.hid h
  obtain ⟨a, ca, A, rfl, _, _, _, _, _, _⟩ := h
  obtain ⟨W1, hW1⟩ : ∃ W1, W1 = (w.alloc (.cells #[.bool s, .slice a A.length ca] 44)).alloc (.cells #[.bool false, .slice none 0 0] 44) := ⟨_, rfl⟩
  have b0 : BlkOf W1 w.heap.size #[.bool s, .slice a A.length ca] 44 := by rw [hW1]; exact (BlkOf.new w _ _).alloc _
  have b1 : BlkOf W1 (w.heap.size + 1) #[.bool false, .slice none 0 0] 44 := by rw [hW1]; exact BlkOf.news (by simp) _ _
  have hbw : Grow w W1 := by rw [hW1]; exact ((Below.refl _ w).alloc (Nat.le_refl _) _).alloc (by simp) _
  have HN := Lib.hid (norm_v (K := K) hK (H.out.below hbw))
  have HB0 := Lib.hid b0
  have HB1 := Lib.hid b1
  have HBW := Lib.hid hbw
  have c1 := b0.at 1 rfl
  subst hW1
  clear b0 b1 hbw
  go_enter Tryz.func90, Tryz.ntmps90
  go_wp2_with (first | (go_at_call 86; refine HN.out.mono ?_) | fail)
  rintro e w1 ⟨v, rfl, hr, hb1⟩
  obtain ⟨x, c, rfl, _, _, _⟩ := hr.at_
  have hB0 := HB0.out.below hb1 HB0.out.lt
  have hB1 := HB1.out.below hb1 HB1.out.lt
  have q0 := hB0.at 0 rfl
  have r0 := hB1.at 0 rfl
  have r1 := hB1.at 1 rfl
  have f0 := hB1.free 0
  have f1 := hB1.free 1
  have Q := Lib.hid ((hB1.set 0 (.bool (rdS s n))).set 1 (.slice x (nrow n).length c))
  have hbw1 : Below w.heap.size w w1 := Grow.trans HBW.out hb1
  have HF := Lib.hid ((hbw1.setCell (p := ⟨w.heap.size + 1, 0, none⟩) (by show w.heap.size ≤ w.heap.size + 1; omega) (.bool (rdS s n))).setCell (p := ⟨w.heap.size + 1, 1, none⟩) (by show w.heap.size ≤ w.heap.size + 1; omega) (.slice x (nrow n).length c))
  have HX := Lib.hid (NRow.more (ownsRow_setCell_below (a := ⟨w.heap.size + 1, 1, none⟩) (ownsRow_setCell_below (a := ⟨w.heap.size + 1, 0, none⟩) hr (by have := HB1.out.lt; exact this) (.bool (rdS s n))) (by have := HB1.out.lt; exact this) (.slice x (nrow n).length c)) (Below.size HBW.out))
  clear hr hb1 hB0 hB1 hbw1 c1
  obtain ⟨l, hl⟩ : ∃ l, l = (nrow n).length := ⟨_, rfl⟩
  have hpos := nrow_pos (n := n)
  rw [← hl] at Q HF HX hpos ⊢
  cases s with
  | false =>
    have e : rdS false n = false := rfl
    rw [e] at Q HF HX
    have HE := Lib.hid e
    have HL := Lib.hid hl
    clear hpos e hl
    go_wp2_with fail
    refine post_cell rfl (g := w.heap.size + 1) rfl Q.out Tryz.underlying44 rfl (by kernel_rfl) ?_
    exact ⟨x, c, by rw [HE.out, ← HL.out]; rfl, by rw [← HL.out]; exact HX.out, HF.out⟩
  | true =>
    by_cases h0 : 0 < l
    · have h0i : (0 : Int) < (l : Int) := by omega
      have e : rdS true n = true := by unfold rdS; rw [decide_eq_true (hpos.1 h0)]; rfl
      rw [e] at Q HF HX
      have HE := Lib.hid e
      have HL := Lib.hid hl
      clear hpos e hl
      go_wp2_with fail
      refine post_cell rfl (g := w.heap.size + 1) rfl Q.out Tryz.underlying44 rfl (by kernel_rfl) ?_
      exact ⟨x, c, by rw [HE.out, ← HL.out]; rfl, by rw [← HL.out]; exact HX.out, HF.out⟩
    · have h0i : ¬ (0 : Int) < (l : Int) := by omega
      have e : rdS true n = false := by unfold rdS; rw [decide_eq_false (fun h => h0 (hpos.2 h))]; rfl
      rw [e] at Q HF HX
      have HE := Lib.hid e
      have HL := Lib.hid hl
      clear hpos e hl
      go_wp2_with fail
      refine post_cell rfl (g := w.heap.size + 1) rfl Q.out Tryz.underlying44 rfl (by kernel_rfl) ?_
      exact ⟨x, c, by rw [HE.out, ← HL.out]; rfl, by rw [← HL.out]; exact HX.out, HF.out⟩

set_option maxRecDepth 100000 in
set_option maxHeartbeats 8000000 in
theorem make_any {vn vd : Value} (s : Bool) (h : FrNum K w vn vd n d) (hK : K ≤ 524288) (h0 : d ≠ 0) :
    Calls Tryz.prog 66 #[.agg #[.bool s, vn], .agg #[.bool false, vd]] w (RedPost s n d w) := by
  have H := Lib.hid h
  have hdK := h.2.lt
  have hnK := h.1.lt
  obtain ⟨⟨a, ca, A, rfl, _, _, _, _, _, _⟩, ⟨b, cb, B, rfl, _, _, _, _, _, _⟩⟩ := h
  obtain ⟨g, hg⟩ : ∃ g, g = Nat.gcd n d := ⟨_, rfl⟩
  have hg0 : g ≠ 0 := by rw [hg]; exact fun e => h0 (Nat.eq_zero_of_gcd_eq_zero_right e)
  have hgd : g ≤ d := by rw [hg]; exact Nat.le_of_dvd (by omega) (Nat.gcd_dvd_right n d)
  obtain ⟨W0, hW0⟩ : ∃ W0, W0 = ((w.alloc (.cells #[.bool s, .slice a A.length ca] 44)).alloc (.cells #[.bool false, .slice b B.length cb] 44)).alloc (.cells #[.bool false, .slice none 0 0, .slice none 0 0] 46) := ⟨_, rfl⟩
  obtain ⟨b0, b1, b2, hsz, hbw⟩ := three_new rfl _ _ _ _ _ _ hW0
  have HG := Lib.hid (ngcd_v K _ _ n d W0 hK (H.out.grow hbw).1 (H.out.grow hbw).2)
  rw [← hg] at HG
  have HGK : Hid (∀ B v W, NRow B W v (nrow g) → NNum K W v g) := Lib.hid (fun B v W h => h.numN (Nat.lt_of_le_of_lt hgd hdK))
  have HNK : Hid (n / g < 2 ^ (64 * K) ∧ d / g < 2 ^ (64 * K)) := Lib.hid ⟨Nat.lt_of_le_of_lt (Nat.div_le_self _ _) hnK, Nat.lt_of_le_of_lt (Nat.div_le_self _ _) hdK⟩
  have HGG := Lib.hid hg
  have HB0 := Lib.hid b0
  have HB1 := Lib.hid b1
  have HB2 := Lib.hid b2
  have HBW := Lib.hid hbw
  have HG0 := Lib.hid hg0
  have c1 := b0.at 1 rfl
  have d1 := b1.at 1 rfl
  subst hW0
  clear b0 b1 b2 hbw hsz hg hgd hdK hnK hg0
  go_enter Tryz.func66, Tryz.ntmps66
  go_wp2_with (first | (go_at_call 88; refine HG.out.mono ?_) | fail)
  rintro e w1 ⟨vg, rfl, hr, hb1⟩
  have HVG := Lib.hid (HGK.out _ _ _ hr)
  obtain ⟨xg, cg, rfl, _, _, _⟩ := hr.at_
  have HB01 := Lib.hid (HB0.out.below hb1 HB0.out.lt)
  have HB11 := Lib.hid (HB1.out.below hb1 HB1.out.lt)
  have HB21 := Lib.hid (HB2.out.below hb1 HB2.out.lt)
  have HBW1 : Hid (Grow w w1) := Lib.hid (Grow.trans HBW.out hb1)
  clear c1 d1 hr hb1
  have c1 := HB01.out.at 1 rfl
  have HD1 := Lib.hid (ndiv_v K _ _ n g w1 hK (H.out.grow HBW1.out).1 HVG.out HG0.out)
  go_wp2_with (first | (go_at_call 89; refine HD1.out.mono ?_) | fail)
  rintro e w2 ⟨vq, vr, rfl, hq, hr, hb2⟩
  obtain ⟨xq, cq, rfl, _, _, _⟩ := hq.at_
  obtain ⟨xr, cr, rfl, _, _, _⟩ := hr.at_
  have HQ2 := Lib.hid hq
  have HB02 := Lib.hid (HB01.out.below hb2 HB01.out.lt)
  have HB12 := Lib.hid (HB11.out.below hb2 HB11.out.lt)
  have HB22 := Lib.hid (HB21.out.below hb2 HB21.out.lt)
  have HBW2 : Hid (Grow w w2) := Lib.hid (Grow.trans HBW1.out hb2)
  have HVG2 := Lib.hid (HVG.out.below hb2)
  clear c1 hq hr hb2
  have d1 := HB12.out.at 1 rfl
  have HD2 := Lib.hid (ndiv_v K _ _ d g w2 hK (H.out.grow HBW2.out).2 HVG2.out HG0.out)
  go_wp2_with (first | (go_at_call 89; refine HD2.out.mono ?_) | fail)
  rintro e w3 ⟨vq2, vr2, rfl, hq, hr, hb3⟩
  obtain ⟨xq2, cq2, rfl, _, _, _⟩ := hq.at_
  obtain ⟨xr2, cr2, rfl, _, _, _⟩ := hr.at_
  have HQ3 := Lib.hid hq
  have HQ23 := Lib.hid (HQ2.out.below hb3 (Nat.le_refl _))
  have HB03 := Lib.hid (HB02.out.below hb3 HB02.out.lt)
  have HB13 := Lib.hid (HB12.out.below hb3 HB12.out.lt)
  have HB23 := Lib.hid (HB22.out.below hb3 HB22.out.lt)
  have HBW3 : Hid (Grow w w3) := Lib.hid (Grow.trans HBW2.out hb3)
  clear d1 hq hr hb3
  have c0 := HB03.out.at 0 rfl
  have d0 := HB13.out.at 0 rfl
  have HN1 := Lib.hid (rznorm_any (K := K) s (HQ23.out.numN HNK.out.1) (by omega))
  go_wp2_with (first | (go_at_call 90; refine HN1.out.mono ?_) | fail)
  rintro e w4 ⟨xz, cz, rfl, hz, hb4⟩
  have HZ4 := Lib.hid hz
  have HQ34 := Lib.hid (HQ3.out.below hb4 (Nat.le_refl _))
  have HB24 := Lib.hid (HB23.out.below hb4 HB23.out.lt)
  have HBW4 : Hid (Grow w w4) := Lib.hid (Grow.trans HBW3.out hb4)
  clear c0 d0 hz hb4
  have HN2 := Lib.hid (norm_v (K := K) (by omega) (HQ34.out.numN HNK.out.2))
  go_wp2_with (first | (go_at_call 86; refine HN2.out.mono ?_) | fail)
  rintro e w5 ⟨vy, rfl, hy, hb5⟩
  obtain ⟨xy, cy, rfl, _, _, _⟩ := hy.at_
  have hB := HB24.out.below hb5 HB24.out.lt
  have r0 : w5.cell? ⟨w.heap.size + 1 + 1, 0, none⟩ = some (.bool false) := hB.at 0 rfl
  have r1 : w5.cell? ⟨w.heap.size + 1 + 1, 1, none⟩ = some (.slice none 0 0) := hB.at 1 rfl
  have r2 : w5.cell? ⟨w.heap.size + 1 + 1, 2, none⟩ = some (.slice none 0 0) := hB.at 2 rfl
  have f0 : w5.frozen? ⟨w.heap.size + 1 + 1, 0, none⟩ = false := hB.free 0
  have f1 : w5.frozen? ⟨w.heap.size + 1 + 1, 1, none⟩ = false := hB.free 1
  have f2 : w5.frozen? ⟨w.heap.size + 1 + 1, 2, none⟩ = false := hB.free 2
  have hrs : rdS s (n / g) = rdS s n := by
    unfold rdS
    congr 1
    have : n / g ≠ 0 ↔ n ≠ 0 := by
      constructor
      · rintro h rfl; exact h (Nat.zero_div _)
      · intro h h2
        have h3 : g ≤ n := by rw [HGG.out]; exact Nat.le_of_dvd (by omega) (Nat.gcd_dvd_left n d)
        have h4 := (Nat.div_eq_zero_iff (a := n) (b := g)).1 h2
        rcases h4 with h4 | h4
        · exact HG0.out h4
        · omega
    exact decide_eq_decide.2 this
  rw [hrs]
  have e1 : n / g = rdN n d := by unfold rdN; rw [HGG.out]
  have e2 : d / g = rdD n d := by unfold rdD; rw [HGG.out]
  rw [e1] at HZ4 ⊢
  rw [e2] at hy ⊢
  have q3 := ((hB.set 0 (.bool (rdS s n))).set 1 (.slice xz (nrow (rdN n d)).length cz)).set 2 (.slice xy (nrow (rdD n d)).length cy)
  have hbW : Grow w w5 := Grow.trans HBW4.out hb5
  have hbF : Below w.heap.size w (((w5.setCell ⟨w.heap.size + 2, 0, none⟩ (.bool (rdS s n))).setCell ⟨w.heap.size + 2, 1, none⟩ (.slice xz (nrow (rdN n d)).length cz)).setCell ⟨w.heap.size + 2, 2, none⟩ (.slice xy (nrow (rdD n d)).length cy)) :=
    ((Below.setCell (p := ⟨w.heap.size + 2, 0, none⟩) hbW (by show w.heap.size ≤ w.heap.size + 2; omega) _).setCell (p := ⟨w.heap.size + 2, 1, none⟩) (by show w.heap.size ≤ w.heap.size + 2; omega) _).setCell (p := ⟨w.heap.size + 2, 2, none⟩) (by show w.heap.size ≤ w.heap.size + 2; omega) _
  have hlt := HB24.out.lt
  have hlt3 := HB23.out.lt
  have hrow : ∀ {B : Nat} {v : Value} {l : List Nat}, NRow B w5 v l → w.heap.size + 2 < B → NRow B (((w5.setCell ⟨w.heap.size + 2, 0, none⟩ (.bool (rdS s n))).setCell ⟨w.heap.size + 2, 1, none⟩ (.slice xz (nrow (rdN n d)).length cz)).setCell ⟨w.heap.size + 2, 2, none⟩ (.slice xy (nrow (rdD n d)).length cy)) v l := fun hx hB =>
    ownsRow_setCell_below (a := ⟨w.heap.size + 2, 2, none⟩) (ownsRow_setCell_below (a := ⟨w.heap.size + 2, 1, none⟩) (ownsRow_setCell_below (a := ⟨w.heap.size + 2, 0, none⟩) hx hB _) hB _) hB _
  have hX := NRow.more (hrow (HZ4.out.below hb5 (Nat.le_refl _)) hlt3) (Below.size HBW3.out)
  have hY := NRow.more (hrow hy hlt) (Below.size HBW4.out)
  have Q3 := Lib.hid q3
  have HBF := Lib.hid hbF
  have HX := Lib.hid hX
  have HY := Lib.hid hY
  clear hB hrs e1 e2 q3 hbW hbF hlt hlt3 hrow hX hY hy hb5
  go_wp2_with fail
  refine post_cell rfl (g := w.heap.size + 2) rfl Q3.out Tryz.underlying46 rfl (by kernel_rfl) ?_
  exact ⟨_, rfl, ⟨_, _, _, _, rfl, HX.out, HY.out⟩, HBF.out⟩
end
end Go.Proofs.YtofpcdjoljjnoaaGreatDoor

namespace Go.Proofs.YtofpcdjoljjnoaaGreatDoor
open Go.RowKit

section
variable {K : Nat} {w : World} {n d : Nat}

set_option maxRecDepth 100000 in
set_option maxHeartbeats 4000000 in
theorem rfnorm_any {vn vd : Value} (s : Bool) (h : FrNum K w vn vd n d) (hK : K ≤ 524288) (h0 : d ≠ 0) :
    Calls Tryz.prog 43 #[.agg #[.bool s, vn, vd]] w (RedPost s n d w) := by
  have H := Lib.hid h
  obtain ⟨⟨a, ca, A, rfl, _, _, _, _, _, _⟩, ⟨b, cb, B, rfl, _, _, _, _, _, _⟩⟩ := h
  obtain ⟨W1, hW1⟩ : ∃ W1, W1 = (w.alloc (.cells #[.bool s, .slice a A.length ca, .slice b B.length cb] 46)).alloc (.cells #[.bool false, .slice none 0 0, .slice none 0 0] 46) := ⟨_, rfl⟩
  have b0 : BlkOf W1 w.heap.size #[.bool s, .slice a A.length ca, .slice b B.length cb] 46 := by rw [hW1]; exact (BlkOf.new w _ _).alloc _
  have b1 : BlkOf W1 (w.heap.size + 1) #[.bool false, .slice none 0 0, .slice none 0 0] 46 := by rw [hW1]; exact BlkOf.news (by simp) _ _
  have hbw : Grow w W1 := by rw [hW1]; exact ((Below.refl _ w).alloc (Nat.le_refl _) _).alloc (by simp) _
  have HR := Lib.hid (fun W (hW : Grow W1 W) => make_any (K := K) s (H.out.grow (Grow.trans hbw hW)) hK h0)
  have HB0 := Lib.hid b0
  have HB1 := Lib.hid b1
  have HBW := Lib.hid hbw
  have HW1 := Lib.hid hW1
  have KC : Hid (∀ W, Grow W1 W → W.cell? ⟨w.heap.size, 0, none⟩ = some (.bool s) ∧ W.cell? ⟨w.heap.size, 1, none⟩ = some (.slice a A.length ca) ∧ W.cell? ⟨w.heap.size, 2, none⟩ = some (.slice b B.length cb)) := Lib.hid fun W hW => by
    have q0 := HB0.out.below hW HB0.out.lt
    exact ⟨q0.at 0 rfl, q0.at 1 rfl, q0.at 2 rfl⟩
  clear b0 b1 hbw hW1
  go_enter Tryz.func43, Tryz.ntmps43
  go_wp2_with fail
  rename_i K0 hK0
  rw [← HW1.out]
  refine wp_region_listG [fun v _ => v = .pointer (some ⟨w.heap.size, 0, none⟩), fun v _ => v = .agg #[.bool s, .slice a A.length ca], fun v _ => v = .pointer (some ⟨w.heap.size, 2, none⟩), fun v _ => v = .slice b B.length cb, fun v _ => v = .agg #[.bool false, .slice b B.length cb], fun v W => FrRow W1.heap.size W v (rdS s n) (rdN n d) (rdD n d)]
    [(1, .pointer (some ⟨w.heap.size, 0, none⟩)), (2, .pointer (some ⟨w.heap.size + 1, 0, none⟩))] 6 (by kernel_rfl) ⟨stays_pure _, stays_pure _, stays_pure _, stays_pure _, stays_pure _, (fun v W W' hg ⟨x, c, y, e, h1, h2, h3⟩ => ⟨x, c, y, e, h1, h2.below hg (Nat.le_refl _), h3.below hg (Nat.le_refl _)⟩), trivial⟩ rfl (by kernel_rfl) rfl ?base (by kernel_rfl) ⟨?_, ?_, ?_, ?_, ?_, ?_, trivial⟩ ?last
  case base => simp
  case last =>
    intro vs W hW hv
    simp only [FactsL, Nat.zero_add, Nat.reduceAdd] at hv
    have v5 := hv.2.2.2.2.2.1
    clear hv
    refine ⟨rfl, ?_⟩
    simp only [List.take_succ_cons, List.take_zero, putF, Act.put, List.setIfInBounds_toArray, List.set_cons_zero, List.set_cons_succ, Nat.reduceAdd]
    obtain ⟨X, cx, Y, cy, ev, hx, hy⟩ := v5
    simp only [ev, frV]
    have q2 := HB1.out.below hW HB1.out.lt
    have c20 := q2.at 0 rfl
    have c21 := q2.at 1 rfl
    have c22 := q2.at 2 rfl
    have d20 := q2.free 0
    have d21 := q2.free 1
    have d22 := q2.free 2
    unfold Oper.wp
    simp [execOp, go_sem, c20, c21, c22, d20, d21, d22]
    refine hK0 _ _ ?_
    have hbW : Grow w W := Grow.trans HBW.out hW
    have Q3 := Lib.hid (((q2.set 0 (.bool (rdS s n))).set 1 (.slice X (nrow (rdN n d)).length cx)).set 2 (.slice Y (nrow (rdD n d)).length cy))
    have HBF := Lib.hid (((Below.setCell (p := ⟨w.heap.size + 1, 0, none⟩) hbW (by show w.heap.size ≤ w.heap.size + 1; omega) (.bool (rdS s n))).setCell (p := ⟨w.heap.size + 1, 1, none⟩) (by show w.heap.size ≤ w.heap.size + 1; omega) (.slice X (nrow (rdN n d)).length cx)).setCell (p := ⟨w.heap.size + 1, 2, none⟩) (by show w.heap.size ≤ w.heap.size + 1; omega) (.slice Y (nrow (rdD n d)).length cy))
    have hlt := HB1.out.lt
    have hrow : ∀ {v : Value} {l : List Nat}, NRow W1.heap.size W v l → NRow w.heap.size (((W.setCell ⟨w.heap.size + 1, 0, none⟩ (.bool (rdS s n))).setCell ⟨w.heap.size + 1, 1, none⟩ (.slice X (nrow (rdN n d)).length cx)).setCell ⟨w.heap.size + 1, 2, none⟩ (.slice Y (nrow (rdD n d)).length cy)) v l := fun hx =>
      NRow.more (ownsRow_setCell_below (a := ⟨w.heap.size + 1, 2, none⟩) (ownsRow_setCell_below (a := ⟨w.heap.size + 1, 1, none⟩) (ownsRow_setCell_below (a := ⟨w.heap.size + 1, 0, none⟩) hx hlt _) hlt _) hlt _) (Below.size HBW.out)
    have HX := Lib.hid (hrow hx)
    have HY := Lib.hid (hrow hy)
    clear hrow hx hy c20 c21 c22 d20 d21 d22 hbW q2 hlt
    go_wp2_with fail
    refine post_cell rfl (g := w.heap.size + 1) rfl Q3.out Tryz.underlying46 rfl (by kernel_rfl) ?_
    exact ⟨_, rfl, ⟨_, _, _, _, rfl, HX.out, HY.out⟩, HBF.out⟩
  all_goals
    intro a' W hW hb hf
    obtain ⟨e0, e1, e2⟩ := KC.out W hW
    simp only [List.forall_mem_cons, List.not_mem_nil, false_imp_iff, implies_true, and_true] at hb
    obtain ⟨m1, m2⟩ := hb
    simp [FactsOf, FactAt, Region.binds, factsL] at hf
  · refine .inl ⟨rfl, fun K hK => ?_⟩
    unfold Oper.wp
    simp [execOp, go_sem, *]
    exact hK _ _ (Grow.refl _) rfl
  · refine .inl ⟨rfl, fun K hK => ?_⟩
    unfold Oper.wp
    simp [execOp, go_sem, *]
    exact hK _ _ (Grow.refl _) rfl
  · refine .inl ⟨rfl, fun K hK => ?_⟩
    unfold Oper.wp
    simp [execOp, go_sem, *]
    exact hK _ _ (Grow.refl _) rfl
  · refine .inl ⟨rfl, fun K hK => ?_⟩
    unfold Oper.wp
    simp [execOp, go_sem, *]
    exact hK _ _ (Grow.refl _) rfl
  · refine .inl ⟨rfl, fun K hK => ?_⟩
    unfold Oper.wp
    simp [go_sem, *]
    refine (whole_any _ _ _ _).mono ?_
    rintro e W' ⟨rfl, hg⟩
    exact hK _ _ hg rfl
  · refine .inl ⟨rfl, fun K hK => ?_⟩
    unfold Oper.wp
    simp [go_sem, *]
    refine (HR.out W hW).mono ?_
    rintro e W' ⟨v, rfl, ⟨x, c, y, e, rfl, hx, hy⟩, hg⟩
    exact hK _ _ hg ⟨x, c, y, e, rfl, hx.more hW.size, hy.more hW.size⟩

set_option maxHeartbeats 1000000 in
theorem long_any {v : Value} (h : NNum K w v n) (hK : K ≤ 2048) : Calls Tryz.prog 64 #[v] w (Just (.bool false) w) := by
  have HN := Lib.hid (norm_v (K := K) (by omega) h)
  have hl : (nrow n).length ≤ 2048 := Nat.le_trans h.rowLen hK
  clear h
  go_enter Tryz.func64, Tryz.ntmps64
  go_wp2_with (first | (go_at_call 86; refine HN.out.mono ?_) | fail)
  rintro e w1 ⟨v, rfl, hr, hb⟩
  obtain ⟨x, c, rfl, _, _, _⟩ := hr.at_
  have HB := Lib.hid hb
  obtain ⟨l, hl'⟩ : ∃ l, l = (nrow n).length := ⟨_, rfl⟩
  rw [← hl'] at hl ⊢
  have hlI : ¬ (2048 : Int) < (l : Int) := by omega
  clear hr hb hl'
  go_wp2_with fail
  go_ret
  exact ⟨by show Ending.returned (.bool (decide ((2048 : Int) < (l : Int)))) = _; rw [decide_eq_false (show ¬ (2048 : Int) < (l : Int) by omega)], HB.out⟩
theorem okF_small (hn : n < 2 ^ (64 * 3)) (hd : d < 2 ^ (64 * 3)) : okF n d = decide (0 < blen d) := by
  have h1 := blen_le hn
  have h2 := blen_le hd
  unfold okF
  rw [decide_eq_true (show blen d ≤ 131072 by omega), decide_eq_true (show blen n ≤ 131072 by omega), Bool.and_true, Bool.and_true]

set_option maxRecDepth 100000 in
set_option maxHeartbeats 4000000 in
theorem may_any {vn vd : Value} (s : Bool) (h : FrNum 3 w vn vd n d) :
    Calls Tryz.prog 41 #[.agg #[.bool s, vn, vd]] w (Just (.bool (okF n d)) w) := by
  have H := Lib.hid h
  rw [okF_small h.1.lt h.2.lt]
  obtain ⟨⟨a, ca, A, rfl, _, _, _, _, _, _⟩, ⟨b, cb, B, rfl, _, _, _, _, _, _⟩⟩ := h
  obtain ⟨W1, hW1⟩ : ∃ W1, W1 = w.alloc (.cells #[.bool s, .slice a A.length ca, .slice b B.length cb] 46) := ⟨_, rfl⟩
  have b0 : BlkOf W1 w.heap.size #[.bool s, .slice a A.length ca, .slice b B.length cb] 46 := by rw [hW1]; exact BlkOf.new w _ _
  have hbw : Grow w W1 := by rw [hW1]; exact Grow.alloc _ _
  have HL1 := Lib.hid (fun W (hW : Grow w W) => long_any (K := 3) (H.out.grow hW).1 (by omega))
  have HL2 := Lib.hid (fun W (hW : Grow w W) => long_any (K := 3) (H.out.grow hW).2 (by omega))
  have HBI := Lib.hid (fun W (hW : Grow w W) => bits_v (K := 3) (by omega) (H.out.grow hW).2)
  have HB0 := Lib.hid b0
  have HBW := Lib.hid hbw
  have c0 := b0.at 1 rfl
  subst hW1
  clear b0 hbw
  go_enter Tryz.func41, Tryz.ntmps41
  go_wp2_with (first | (go_at_call 64; refine (HL1.out _ HBW.out).mono ?_) | fail)
  rintro e w1 ⟨rfl, hg1⟩
  have HG1 := Lib.hid (Grow.trans HBW.out hg1)
  have HB1 := Lib.hid (HB0.out.below hg1 HB0.out.lt)
  clear hg1 c0
  have c2 := HB1.out.at 2 rfl
  go_wp2_with (first | (go_at_call 64; refine (HL2.out _ HG1.out).mono ?_) | fail)
  rintro e w2 ⟨rfl, hg2⟩
  have HG2 := Lib.hid (Grow.trans HG1.out hg2)
  have HB2 := Lib.hid (HB1.out.below hg2 HB1.out.lt)
  clear hg2 c2
  have c2 := HB2.out.at 2 rfl
  go_wp2_with (first | (go_at_call 65; refine (HBI.out _ HG2.out).mono ?_) | fail)
  rintro e w3 ⟨y, hy, rfl, rfl⟩
  have hval : decide ((0 : Int) < y) = decide (0 < blen d) := by
    rw [hy]
    exact decide_eq_decide.2 (by omega)
  have HV := Lib.hid hval
  clear hval hy
  go_wp2_with fail
  go_ret
  exact ⟨by rw [← HV.out]; rfl, HG2.out⟩
end
end Go.Proofs.YtofpcdjoljjnoaaGreatDoor

namespace Go.Proofs.YtofpcdjoljjnoaaGreatDoor
open Go.RowKit

theorem isone_any (op : Nat) (w : World) : Calls Tryz.prog 45 #[.int .u8 (op : Int)] w (Same (.bool (decide (7 ≤ op) && decide (op ≤ 11))) w) := by
  by_cases h1 : 7 ≤ op
  · have e1 : (7 : Int) ≤ (op : Int) := by omega
    by_cases h2 : op ≤ 11
    · have e2 : (op : Int) ≤ 11 := by omega
      rw [decide_eq_true h1, decide_eq_true h2]
      go_enter Tryz.func45, Tryz.ntmps45
      go_wp2_with fail
      go_ret
      exact ⟨rfl, rfl⟩
    · have e2 : ¬ (op : Int) ≤ 11 := by omega
      rw [decide_eq_true h1, decide_eq_false h2]
      go_enter Tryz.func45, Tryz.ntmps45
      go_wp2_with fail
      go_ret
      exact ⟨rfl, rfl⟩
  · have e1 : ¬ (7 : Int) ≤ (op : Int) := by omega
    rw [decide_eq_false h1, Bool.false_and]
    go_enter Tryz.func45, Tryz.ntmps45
    go_wp2_with fail
    go_ret
    exact ⟨rfl, rfl⟩
theorem istwo_any (op : Nat) (w : World) : Calls Tryz.prog 31 #[.int .u8 (op : Int)] w (Same (.bool (decide (3 ≤ op) && decide (op ≤ 6))) w) := by
  by_cases h1 : 3 ≤ op
  · have e1 : (3 : Int) ≤ (op : Int) := by omega
    by_cases h2 : op ≤ 6
    · have e2 : (op : Int) ≤ 6 := by omega
      rw [decide_eq_true h1, decide_eq_true h2]
      go_enter Tryz.func31, Tryz.ntmps31
      go_wp2_with fail
      go_ret
      exact ⟨rfl, rfl⟩
    · have e2 : ¬ (op : Int) ≤ 6 := by omega
      rw [decide_eq_true h1, decide_eq_false h2]
      go_enter Tryz.func31, Tryz.ntmps31
      go_wp2_with fail
      go_ret
      exact ⟨rfl, rfl⟩
  · have e1 : ¬ (3 : Int) ≤ (op : Int) := by omega
    rw [decide_eq_false h1, Bool.false_and]
    go_enter Tryz.func31, Tryz.ntmps31
    go_wp2_with fail
    go_ret
    exact ⟨rfl, rfl⟩
/-- What a step's validity comes to, Op by Op. -/
theorem stepB_num {x : Nd} {n p : Int} (h : x.op = 1) : stepB x n p = (normB x.c && (decide (x.a = 0) && decide (x.b = 0))) := by
  unfold stepB isB writtenB
  rw [h]
  have f0 : fld 1 0 = 0 := by decide
  have f1 : fld 1 1 = 0 := by decide
  have f2 : fld 1 2 = 1 := by decide
  simp only [f0, f1, f2]
  cases normB x.c <;> cases decide (x.a = 0) <;> cases decide (x.b = 0) <;> simp_all
theorem stepB_zero {x : Nd} {n p : Int} (h : x.op ≠ 1) (hz : sameB x.c ⟨false, [], []⟩ = false) : stepB x n p = false := by
  unfold stepB writtenB
  rcases fld_kinds x.op with ⟨h0, h1, h2⟩ | ⟨h0, h1, h2⟩ | ⟨h0, h1, h2⟩ | ⟨h0, h1, h2⟩ | ⟨h0, h1, h2⟩
  · simp [h0, h1, h2]
  · exfalso
    apply h
    have : ∀ op, op < 12 → fld op 2 = 1 → op = 1 := by decide
    rcases Nat.lt_or_ge x.op 12 with h12 | h12
    · exact this _ h12 h2
    · rw [fld_none h12] at h2; cases h2
  all_goals (rw [h2]; simp [hz])
theorem stepB_par {x : Nd} {n p : Int} (h : x.op = 2) (hz : sameB x.c ⟨false, [], []⟩ = true) : stepB x n p = ((decide (0 ≤ x.a) && decide (x.a < p)) && decide (x.b = 0)) := by
  unfold stepB isB writtenB
  rw [h]
  have f0 : fld 2 0 = 2 := by decide
  have f1 : fld 2 1 = 0 := by decide
  have f2 : fld 2 2 = 0 := by decide
  simp only [f0, f1, f2, hz]
  simp
theorem stepB_two {x : Nd} {n p : Int} (h : 3 ≤ x.op ∧ x.op ≤ 6) (hz : sameB x.c ⟨false, [], []⟩ = true) : stepB x n p = (((decide (0 ≤ x.a) && decide (x.a < n)) && decide (0 ≤ x.b)) && decide (x.b < n)) := by
  have : ∀ op, op < 12 → 3 ≤ op ∧ op ≤ 6 → fld op 0 = 3 ∧ fld op 1 = 3 ∧ fld op 2 = 0 := by decide
  obtain ⟨f0, f1, f2⟩ := this x.op (by omega) h
  unfold stepB isB writtenB
  simp only [f0, f1, f2, hz]
  simp [Bool.and_assoc]
theorem stepB_one {x : Nd} {n p : Int} (h : 7 ≤ x.op ∧ x.op ≤ 11) (hz : sameB x.c ⟨false, [], []⟩ = true) : stepB x n p = ((decide (0 ≤ x.a) && decide (x.a < n)) && decide (x.b = 0)) := by
  have : ∀ op, op < 12 → 7 ≤ op ∧ op ≤ 11 → fld op 0 = 3 ∧ fld op 1 = 0 ∧ fld op 2 = 0 := by decide
  obtain ⟨f0, f1, f2⟩ := this x.op (by omega) h
  unfold stepB isB writtenB
  simp only [f0, f1, f2, hz]
  simp
theorem stepB_else {x : Nd} {n p : Int} (h : x.op = 0 ∨ 11 < x.op) : stepB x n p = false := by
  have : fld x.op 0 = 0 ∧ fld x.op 1 = 0 ∧ fld x.op 2 = 0 := by
    rcases h with h | h
    · rw [h]; decide
    · exact ⟨fld_none (by omega) 0, fld_none (by omega) 1, fld_none (by omega) 2⟩
  unfold stepB
  simp [this.1, this.2.1, this.2.2]
end Go.Proofs.YtofpcdjoljjnoaaGreatDoor

namespace Go.Proofs.YtofpcdjoljjnoaaGreatDoor
open Go.RowKit

theorem topB_nrow (n : Nat) : topB (nrow n) = true := by
  unfold topB
  rcases nrow_last n with h | h
  · rw [h]; rfl
  · rw [decide_eq_true h, Bool.or_true]
theorem sameNB_nrow (L : List Nat) (n : Nat) : sameNB L (nrow n) = decide (nrow n = L) := by
  unfold sameNB
  by_cases h : L = nrow n
  · subst h
    rw [topB_nrow]
    simp
  · rw [decide_eq_false h, decide_eq_false (fun e => h e.symm)]
    rfl
theorem rdN_pos {n d : Nat} (h : n ≠ 0) : rdN n d ≠ 0 := by
  unfold rdN
  intro h2
  have h4 := (Nat.div_eq_zero_iff (a := n) (b := Nat.gcd n d)).1 h2
  have h3 : Nat.gcd n d ≤ n := Nat.le_of_dvd (by omega) (Nat.gcd_dvd_left n d)
  rcases h4 with h4 | h4
  · exact h (Nat.eq_zero_of_gcd_eq_zero_left h4)
  · omega
theorem sameFB_norm (x : Fr) : sameFB x ⟨rdS x.s (lv x.m), nrow (rdN (lv x.m) (lv x.d)), nrow (rdD (lv x.m) (lv x.d))⟩ = sameB ⟨rdS x.s (lv x.m), nrow (rdN (lv x.m) (lv x.d)), nrow (rdD (lv x.m) (lv x.d))⟩ x := by
  unfold sameFB sameZB sameB
  dsimp only
  rw [sameNB_nrow, sameNB_nrow]
  by_cases hm : nrow (rdN (lv x.m) (lv x.d)) = x.m
  · have hp : (rdS x.s (lv x.m) == x.s) = true → (!x.s || decide (0 < x.m.length)) = true := by
      intro h
      cases hs : x.s with
      | false => rfl
      | true =>
        rw [hs] at h
        unfold rdS at h
        have h0 : lv x.m ≠ 0 := by simpa using h
        rw [← hm, decide_eq_true (nrow_pos.2 (rdN_pos h0))]
        rfl
    have hc : (x.s == rdS x.s (lv x.m)) = (rdS x.s (lv x.m) == x.s) := by cases x.s <;> cases rdS _ _ <;> rfl
    rw [hc]
    cases he : (rdS x.s (lv x.m) == x.s) with
    | false => simp
    | true => rw [hp he, Bool.and_true]
  · rw [decide_eq_false hm]
    simp
end Go.Proofs.YtofpcdjoljjnoaaGreatDoor
