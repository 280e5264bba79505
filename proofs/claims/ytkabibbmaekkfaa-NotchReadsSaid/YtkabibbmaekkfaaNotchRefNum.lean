/-
  LAYER 1: the document's ReadNum: a number where there is one, else nothing.
-/
import Derived.Test.YtkabibbmaekkfaaNotchRefRd
import Derived.IntWalk
import Derived.Deep.RegionWith
namespace Go.Proofs.Ytkabibbmaekkfaa
open Go.RowKit

def SeekRel (l : List UInt8) (g : Nat) (b : Bool) (w : World) (n k : Value) (wr : World) : Prop :=
  ∃ i : Nat, i ≤ 9 ∧ k = .int .i64 (i : Int) ∧ n = .int .u64 ((upTo l (i - 1) : Nat) : Int) ∧ (okNum l = true → i ≤ (l.getD 0 0).toNat) ∧ QD wr g l b ∧ Below w.heap.size w wr

set_option maxHeartbeats 4000000 in
theorem refReadNum_any (g : Nat) (l : List UInt8) (b : Bool) (w : World) (h : QD w g l b) (hl : l.length ≤ 1099511627776) :
    Calls Try.prog 19 #[.pointer (some ⟨g, 0, none⟩)] w (RefNum w g b (rNum l 1)) := by
  have hglt := h.lt
  have HH := Lib.hid h
  clear h
  go_enter Try.func19, Try.ntmps19
  go_wp2_with fail
  go_loopw [3, 4] (fun n k wr => SeekRel l g b w n k wr) (fun _ k _ => 9 - (intOf k).toNat)
  case atStart => exact ⟨0, by omega, rfl, by rw [upTo_zero]; rfl, fun _ => Nat.zero_le _, HH.out, Below.refl _ _⟩
  case round =>
    obtain ⟨i, hi9, rfl, rfl, hno, hq, hbel⟩ := hrel
    have hbs := hbel.size
    have hc := hq.c0
    have hf := hq.free 0
    have HNO := Lib.hid hno
    clear hno
    have hi0 : (0 : Int) ≤ (i : Int) := by omega
    have hszN : (mk l).size ≤ 1099511627776 := by rw [mk_size]; exact hl
    by_cases hin : i ≤ 8 ∧ i < l.length
    · obtain ⟨hi8, hil⟩ := hin
      have hi8I : (i : Int) ≤ 8 := by omega
      have hilI : (i : Int) < (((mk l).size : Nat) : Int) := by rw [mk_size]; omega
      have hilN : i < (mk l).size := by omega
      have hpos : 0 < (mk l).size := by omega
      have hm64 : upTo l i < 2 ^ 64 := by
        have h1 := upTo_lt l i
        have h2 : 256 ^ i ≤ 256 ^ 8 := Nat.pow_le_pow_right (by omega) hi8
        omega
      have e0 : ∀ hp, (mk l)[0]'hp = l.getD 0 0 := by
        intro hp
        have : 0 < l.length := by omega
        show l.toArray[0] = _
        simp [List.getD_eq_getElem?_getD, List.getElem?_eq_getElem this]
      have hbyte := (l.getD 0 0).toNat_lt
      have hwy : IntKind.i64.wrap ((l.getD 0 0).toNat : Int) = ((l.getD 0 0).toNat : Int) := IntWalk.i64_in _ (by omega)
      have hhit := hit_iff (l := l) hi8
      obtain ⟨y, hy⟩ : ∃ y, y = l.getD 0 0 := ⟨_, rfl⟩
      rw [← hy] at e0 hbyte hhit hwy
      have HY := Lib.hid hy
      have HIT := Lib.hid hhit
      clear hy hhit
      by_cases hz : i = 0
      · have hz' : (i : Int) ≤ 0 := by omega
        have HUP : Hid (((upTo l (i - 1) : Nat) : Int) = ((upTo l i : Nat) : Int)) := Lib.hid (by rw [hz])
        clear hz
        go_wp2_with fail
        rw [HUP.out]
        clear HUP
        obtain ⟨m, hm⟩ : ∃ m, m = upTo l i := ⟨_, rfl⟩
        rw [← hm] at hm64 HIT
        rw [← hm]
        have HM : Hid (upTo l i = m) := Lib.hid hm.symm
        clear hm
        by_cases hbg : begB l (numB m) = true
        · have HB : Hid (∀ w, Calls Try.prog 31 #[.string (mk l), .string (mk (numB m))] w fun e w' => e = .returned (.bool true) ∧ w = w') := Lib.hid (fun w => by have := begins_any l (numB m) w hl; rw [hbg] at this; exact this)
          by_cases hyi : y.toNat = i
          · have hyb : ((y.toNat : Int) == (i : Int)) = true := beq_iff_eq.2 (by omega)
            have hok := (HIT.out.1 ⟨hbg, hyi⟩).1
            have HX : Hid (rNum l 1 = (m, l.drop (i + 1), 1)) := Lib.hid (by
              have h1 : numOf l = m := by
                obtain ⟨x, hx⟩ := (begB_iff _ _).1 hbg
                have := (ok_numB hm64 x).2.1
                rw [← hx] at this; exact this
              unfold rNum
              rw [if_pos rfl, if_pos hok, h1]
              unfold numRest
              rw [← HY.out, hyi, Nat.add_comm])
            clear hyi hok hbg
            have hi1 : i + 1 ≤ (mk l).size := by omega
            have hi1I : (i : Int) + 1 ≤ (((mk l).size : Nat) : Int) := by omega
            have E2 := Lib.hid (show (mk l).extract (i + 1) (mk l).size = mk (l.drop (i + 1)) by rw [mk_extract, mk_size]; simp)
            go_region_held3 (fun w' => w'.cell? ⟨g, 0, none⟩ = some (.string (mk l))) (first | go_keep | exact (hb1.cell (p := ⟨g, 0, none⟩) (Nat.lt_of_lt_of_le hglt hbs)).trans hc)
              (first
                | (go_at_call 12; refine (refNum_any m _ hm64).mono ?_; rintro e w1 ⟨rfl, hb1⟩)
                | (go_at_call 31; refine (HB.out _).mono ?_; rintro e w2 ⟨rfl, rfl⟩))
            have hb1' : Below wr.heap.size wr w1 := ⟨hb1.os, hb1.tape, hb1.output, hb1.size, hb1.block⟩
            have hq1 : QD w1 g l b := hq.below hb1' (Nat.lt_of_lt_of_le hglt hbs)
            have hc1 := hq1.c0
            have hf1 := hq1.free 0
            go_wp2_with fail
            go_ret
            rw [HX.out]
            exact ⟨rfl, by rw [E2.out]; exact hq1.set0 _, grown_trans (grown_below g (hbel.trans (hb1'.mono hbs))) (grown_set _ _ _ _)⟩
          · have hyb : ((y.toNat : Int) == (i : Int)) = false := beq_eq_false_iff_ne.2 (by omega)
            have hnext : okNum l = true → i + 1 ≤ y.toNat := fun h => by have := HNO.out h; rw [← HY.out] at this; omega
            have HNX := Lib.hid hnext
            clear hyi hbg hnext
            go_region_held3 (fun w' => w'.cell? ⟨g, 0, none⟩ = some (.string (mk l))) (first | go_keep | exact (hb1.cell (p := ⟨g, 0, none⟩) (Nat.lt_of_lt_of_le hglt hbs)).trans hc)
              (first
                | (go_at_call 12; refine (refNum_any m _ hm64).mono ?_; rintro e w1 ⟨rfl, hb1⟩)
                | (go_at_call 31; refine (HB.out _).mono ?_; rintro e w2 ⟨rfl, rfl⟩))
            have hb1' : Below wr.heap.size wr w1 := ⟨hb1.os, hb1.tape, hb1.output, hb1.size, hb1.block⟩
            have hq1 : QD w1 g l b := hq.below hb1' (Nat.lt_of_lt_of_le hglt hbs)
            go_wp2_with fail
            go_roundw
            case rel => exact ⟨i + 1, by omega, by go_num, by rw [Nat.add_sub_cancel, HM.out], by rw [← HY.out]; exact HNX.out, hq1, hbel.trans (hb1'.mono hbs)⟩
            case measure => simp [intOf]; omega
        · have hbf : begB l (numB m) = false := by simpa using hbg
          have HB : Hid (∀ w, Calls Try.prog 31 #[.string (mk l), .string (mk (numB m))] w fun e w' => e = .returned (.bool false) ∧ w = w') := Lib.hid (fun w => by have := begins_any l (numB m) w hl; rw [hbf] at this; exact this)
          have hnext : okNum l = true → i + 1 ≤ y.toNat := fun h => by
            have h1 := HNO.out h
            rw [← HY.out] at h1
            have h2 : y.toNat ≠ i := fun e => hbg (HIT.out.2 ⟨h, e⟩).1
            omega
          have HNX := Lib.hid hnext
          clear hbg hbf hnext
          first | (go_region_with (first | (go_at_call 12; refine (refNum_any m _ hm64).mono ?_; rintro e w1 ⟨rfl, hb1⟩; have hcw1 := (hb1.cell (p := ⟨g, 0, none⟩) (Nat.lt_of_lt_of_le hglt hbs)).trans hc) | (go_at_call 31; refine (HB.out _).mono ?_; rintro e w2 ⟨rfl, rfl⟩))) | fail
          all_goals
            have hb1' : Below wr.heap.size wr w1 := ⟨hb1.os, hb1.tape, hb1.output, hb1.size, hb1.block⟩
            have hq1 : QD w1 g l b := hq.below hb1' (Nat.lt_of_lt_of_le hglt hbs)
            go_wp2_with fail
            go_roundw
            case rel => exact ⟨i + 1, by omega, by go_num, by rw [Nat.add_sub_cancel, HM.out], by rw [← HY.out]; exact HNX.out, hq1, hbel.trans (hb1'.mono hbs)⟩
            case measure => simp [intOf]; omega
      · have hp : (0 : Int) < (i : Int) := by omega
        have hup : upTo l i = 256 * upTo l (i - 1) + (l[i]'hil).toNat := by
          obtain ⟨j, rfl⟩ : ∃ j, i = j + 1 := ⟨i - 1, by omega⟩
          exact upTo_succ l j hil
        have ei : ∀ hq, (mk l)[i]'hq = l[i]'hil := fun _ => rfl
        have hxb := (l[i]'hil).toNat_lt
        generalize l[i]'hil = x at *
        have hp56 : upTo l (i - 1) < 2 ^ 56 := by
          have h1 := upTo_lt l (i - 1)
          have h2 : 256 ^ (i - 1) ≤ 256 ^ 7 := Nat.pow_le_pow_right (by omega) (by omega)
          omega
        have HUP : Hid ((256 : Int) * ((upTo l (i - 1) : Nat) : Int) + (x.toNat : Int) = ((upTo l i : Nat) : Int)) := Lib.hid (by omega)
        clear hup hz
        go_wp2_with fail
        rw [HUP.out]
        clear HUP
        obtain ⟨m, hm⟩ : ∃ m, m = upTo l i := ⟨_, rfl⟩
        rw [← hm] at hm64 HIT
        rw [← hm]
        have HM : Hid (upTo l i = m) := Lib.hid hm.symm
        clear hm
        by_cases hbg : begB l (numB m) = true
        · have HB : Hid (∀ w, Calls Try.prog 31 #[.string (mk l), .string (mk (numB m))] w fun e w' => e = .returned (.bool true) ∧ w = w') := Lib.hid (fun w => by have := begins_any l (numB m) w hl; rw [hbg] at this; exact this)
          by_cases hyi : y.toNat = i
          · have hyb : ((y.toNat : Int) == (i : Int)) = true := beq_iff_eq.2 (by omega)
            have hok := (HIT.out.1 ⟨hbg, hyi⟩).1
            have HX : Hid (rNum l 1 = (m, l.drop (i + 1), 1)) := Lib.hid (by
              have h1 : numOf l = m := by
                obtain ⟨x, hx⟩ := (begB_iff _ _).1 hbg
                have := (ok_numB hm64 x).2.1
                rw [← hx] at this; exact this
              unfold rNum
              rw [if_pos rfl, if_pos hok, h1]
              unfold numRest
              rw [← HY.out, hyi, Nat.add_comm])
            clear hyi hok hbg
            have hi1 : i + 1 ≤ (mk l).size := by omega
            have hi1I : (i : Int) + 1 ≤ (((mk l).size : Nat) : Int) := by omega
            have E2 := Lib.hid (show (mk l).extract (i + 1) (mk l).size = mk (l.drop (i + 1)) by rw [mk_extract, mk_size]; simp)
            go_region_held3 (fun w' => w'.cell? ⟨g, 0, none⟩ = some (.string (mk l))) (first | go_keep | exact (hb1.cell (p := ⟨g, 0, none⟩) (Nat.lt_of_lt_of_le hglt hbs)).trans hc)
              (first
                | (go_at_call 12; refine (refNum_any m _ hm64).mono ?_; rintro e w1 ⟨rfl, hb1⟩)
                | (go_at_call 31; refine (HB.out _).mono ?_; rintro e w2 ⟨rfl, rfl⟩))
            have hb1' : Below wr.heap.size wr w1 := ⟨hb1.os, hb1.tape, hb1.output, hb1.size, hb1.block⟩
            have hq1 : QD w1 g l b := hq.below hb1' (Nat.lt_of_lt_of_le hglt hbs)
            have hc1 := hq1.c0
            have hf1 := hq1.free 0
            go_wp2_with fail
            go_ret
            rw [HX.out]
            exact ⟨rfl, by rw [E2.out]; exact hq1.set0 _, grown_trans (grown_below g (hbel.trans (hb1'.mono hbs))) (grown_set _ _ _ _)⟩
          · have hyb : ((y.toNat : Int) == (i : Int)) = false := beq_eq_false_iff_ne.2 (by omega)
            have hnext : okNum l = true → i + 1 ≤ y.toNat := fun h => by have := HNO.out h; rw [← HY.out] at this; omega
            have HNX := Lib.hid hnext
            clear hyi hbg hnext
            go_region_held3 (fun w' => w'.cell? ⟨g, 0, none⟩ = some (.string (mk l))) (first | go_keep | exact (hb1.cell (p := ⟨g, 0, none⟩) (Nat.lt_of_lt_of_le hglt hbs)).trans hc)
              (first
                | (go_at_call 12; refine (refNum_any m _ hm64).mono ?_; rintro e w1 ⟨rfl, hb1⟩)
                | (go_at_call 31; refine (HB.out _).mono ?_; rintro e w2 ⟨rfl, rfl⟩))
            have hb1' : Below wr.heap.size wr w1 := ⟨hb1.os, hb1.tape, hb1.output, hb1.size, hb1.block⟩
            have hq1 : QD w1 g l b := hq.below hb1' (Nat.lt_of_lt_of_le hglt hbs)
            go_wp2_with fail
            go_roundw
            case rel => exact ⟨i + 1, by omega, by go_num, by rw [Nat.add_sub_cancel, HM.out], by rw [← HY.out]; exact HNX.out, hq1, hbel.trans (hb1'.mono hbs)⟩
            case measure => simp [intOf]; omega
        · have hbf : begB l (numB m) = false := by simpa using hbg
          have HB : Hid (∀ w, Calls Try.prog 31 #[.string (mk l), .string (mk (numB m))] w fun e w' => e = .returned (.bool false) ∧ w = w') := Lib.hid (fun w => by have := begins_any l (numB m) w hl; rw [hbf] at this; exact this)
          have hnext : okNum l = true → i + 1 ≤ y.toNat := fun h => by
            have h1 := HNO.out h
            rw [← HY.out] at h1
            have h2 : y.toNat ≠ i := fun e => hbg (HIT.out.2 ⟨h, e⟩).1
            omega
          have HNX := Lib.hid hnext
          clear hbg hbf hnext
          first | (go_region_with (first | (go_at_call 12; refine (refNum_any m _ hm64).mono ?_; rintro e w1 ⟨rfl, hb1⟩; have hcw1 := (hb1.cell (p := ⟨g, 0, none⟩) (Nat.lt_of_lt_of_le hglt hbs)).trans hc) | (go_at_call 31; refine (HB.out _).mono ?_; rintro e w2 ⟨rfl, rfl⟩))) | fail
          all_goals
            have hb1' : Below wr.heap.size wr w1 := ⟨hb1.os, hb1.tape, hb1.output, hb1.size, hb1.block⟩
            have hq1 : QD w1 g l b := hq.below hb1' (Nat.lt_of_lt_of_le hglt hbs)
            go_wp2_with fail
            go_roundw
            case rel => exact ⟨i + 1, by omega, by go_num, by rw [Nat.add_sub_cancel, HM.out], by rw [← HY.out]; exact HNX.out, hq1, hbel.trans (hb1'.mono hbs)⟩
            case measure => simp [intOf]; omega
    · have hno : okNum l = false := by
        rcases Bool.eq_false_or_eq_true (okNum l) with h | h
        · exfalso
          have h1 := HNO.out h
          have h2 := okNum_length h
          have h3 : (l.getD 0 0).toNat ≤ 8 := by
            rcases l with _ | ⟨c, r⟩
            · simp [okNum] at h
            · simp only [okNum, Bool.and_eq_true, decide_eq_true_eq] at h
              simpa using h.1.1
          exact hin ⟨by omega, by omega⟩
        · exact h
      have HX : Hid (rNum l 1 = (0, [], 2)) := Lib.hid (by simp [rNum, hno])
      clear hno
      by_cases hi8 : i ≤ 8
      · have hi8I : (i : Int) ≤ 8 := by omega
        have hil : (((mk l).size : Nat) : Int) ≤ (i : Int) := by rw [mk_size]; omega
        clear hin
        go_wp2_with (go_at_call 32; refine (refSpoil_any g l b _ hq).mono ?_; rintro e w1 ⟨rfl, hq1, g1⟩)
        go_ret
        rw [HX.out]
        exact ⟨rfl, hq1, grown_trans (grown_below g hbel) g1⟩
      · have hi8I : (8 : Int) < (i : Int) := by omega
        clear hin
        go_wp2_with (go_at_call 32; refine (refSpoil_any g l b _ hq).mono ?_; rintro e w1 ⟨rfl, hq1, g1⟩)
        go_ret
        rw [HX.out]
        exact ⟨rfl, hq1, grown_trans (grown_below g hbel) g1⟩
end Go.Proofs.Ytkabibbmaekkfaa
