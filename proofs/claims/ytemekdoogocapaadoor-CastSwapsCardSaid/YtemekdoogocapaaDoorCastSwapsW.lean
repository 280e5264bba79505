/-
  LAYER 2: the walk of CastSwaps.
-/
import Derived.Test.YtemekdoogocapaaDoorCastNearW
import Derived.RegionTactic
import Derived.ChangeAlike
import Derived.BigRegion
import Derived.Deep.RegionHeld3
namespace Go.Proofs.YtemekdoogocapaaDoor
open Go.RowKit

set_option maxHeartbeats 1000000 in
theorem swaps_long (C : CastC) (s t : ByteArray) (v : Value) (w : World) (hT : Tab w) (h1 : 1000 < s.size) (h2 : 1000 < t.size) :
    Calls Tryd.prog 9 #[.string s, .string t, v] w fun e w' => e = .returned (.bool true) ∧ Below w.heap.size w w' := by
  have T := Lib.hid hT
  clear hT
  have h1' : (1000 : Int) < (s.size : Int) := by omega
  have h2' : (1000 : Int) < (t.size : Int) := by omega
  by_cases hm : t.size < s.size
  all_goals
    go_enter Tryd.func9, Tryd.ntmps9
    go_wp2_with (go_at_call 10; refine (castHead_any C _ (by first | exact T.out | exact T.out.below (by assumption))).mono ?_; rintro e w1 ⟨rfl, b1⟩)
    go_ret
    exact ⟨rfl, b1⟩

/-- '[]byte(s)', whatever the world. -/
theorem bytes_fun (l : List UInt8) : ∃ (cap : World → Nat) (nxt : World → World), ∀ w, (convert 9 33 (.string (mk l))).run Tryd.prog w = .ok (.slice (some ⟨w.heap.size, 0, none⟩) l.length (cap w)) (nxt w) ∧ Below w.heap.size w (nxt w) ∧ BRow (nxt w) w.heap.size l :=
  ⟨fun w => (bytes_row l w).choose, fun w => (bytes_row l w).choose_spec.choose, fun w => (bytes_row l w).choose_spec.choose_spec⟩

theorem BRow.below {w w' : World} {g B : Nat} {l : List UInt8} (h : BRow w g l) (hb : Below B w w') (hg : g < B) : BRow w' g l := by
  obtain ⟨cur, fr, h, r⟩ := h
  exact ⟨cur, fr, (hb.block g hg).trans h, r⟩
theorem BRow.far {w : World} {g g' j : Nat} {l : List UInt8} (h : BRow w g l) (hne : g ≠ g') (v : Value) : BRow (w.setCell ⟨g', j, none⟩ v) g l := by
  obtain ⟨cur, fr, h, r⟩ := h
  exact ⟨cur, fr, (Below.heap_setCell w _ v g hne).trans h, r⟩
theorem below_of_drew {w w1 : World} (h : Below w.drew.heap.size w.drew w1) : Below w.heap.size w w1 := ⟨h.os, h.tape, h.output, h.size, h.block⟩

/-- What the loop keeps: both rows, whose bytes' sums stand place by place. -/
def SwapRel (u v : List UInt8) (n ga gb B : Nat) (w : World) (i : Value) (wr : World) : Prop :=
  ∃ (k : Nat) (a b : List UInt8), k ≤ n ∧ i = .int .i64 (k : Int) ∧ a.length = n ∧ b.length = n ∧ (∀ j, j < n → (u.getD j 0).toNat + (v.getD j 0).toNat = (a.getD j 0).toNat + (b.getD j 0).toNat) ∧ BRow wr ga a ∧ BRow wr gb b ∧ Below B w wr

set_option maxRecDepth 100000 in
set_option maxHeartbeats 4000000 in
theorem swaps_any (C : CastC) (s t : List UInt8) (A : Option Addr) (len cap : Nat) (z : Nat → Bool) (w : World) (hT : Tab w) (hn : s.length ≤ 1000 ∨ t.length ≤ 1000) (hs : s.length ≤ 9223372036854775807) (ht : t.length ≤ 9223372036854775807) (hlen : len ≤ 9223372036854775807)
    (hc : ∀ i, i < len → ∃ b off, A = some ⟨b, off, none⟩ ∧ b < w.heap.size ∧ w.cell? ⟨b, off + i, none⟩ = some (.bool (z i))) :
    Calls Tryd.prog 9 #[.string (mk s), .string (mk t), .slice A len cap] w fun e w' => e = .returned (.bool true) ∧ Below w.heap.size w w' := by
  have T := Lib.hid hT
  clear hT
  have HC := Lib.hid hc
  clear hc
  have hs1 : (mk s).size ≤ 9223372036854775807 := by rw [mk_size]; exact hs
  have ht1 : (mk t).size ≤ 9223372036854775807 := by rw [mk_size]; exact ht
  obtain ⟨n, hnm⟩ : ∃ n, n = min s.length t.length := ⟨_, rfl⟩
  have hn1 : (n : Int) ≤ 1000 := by omega
  have hn0 : (0 : Int) ≤ (n : Int) := by omega
  have hns : n ≤ (mk s).size := by rw [mk_size]; omega
  have hnt : n ≤ (mk t).size := by rw [mk_size]; omega
  have E1 := Lib.hid (show (mk s).extract 0 n = mk (s.take n) by rw [mk_extract]; simp)
  have E2 := Lib.hid (show (mk t).extract 0 n = mk (t.take n) by rw [mk_extract]; simp)
  have hcase : ((mk t).size < (mk s).size ∧ (((mk t).size : Nat) : Int) = (n : Int)) ∨ (¬ (mk t).size < (mk s).size ∧ (((mk s).size : Nat) : Int) = (n : Int)) := by
    rw [mk_size, mk_size]; omega
  have hul : (s.take n).length = n := by rw [List.length_take]; omega
  have hvl : (t.take n).length = n := by rw [List.length_take]; omega
  clear hn hnm hs ht
  generalize s.take n = u at *
  generalize t.take n = v at *
  obtain ⟨capU, nxU, hU⟩ := bytes_fun u
  obtain ⟨capV, nxV, hV⟩ := bytes_fun v
  have U1 := Lib.hid (fun w => (hU w).2.1)
  have U2 := Lib.hid (fun w => (hU w).2.2)
  have V1 := Lib.hid (fun w => (hV w).2.1)
  have V2 := Lib.hid (fun w => (hV w).2.2)
  have hu0 : ∀ w, (convert 9 33 (.string (mk u))).run Tryd.prog w = .ok (.slice (some ⟨w.heap.size, 0, none⟩) n (capU w)) (nxU w) := fun w => by rw [← hul]; exact (hU w).1
  have hv0 : ∀ w, (convert 9 33 (.string (mk v))).run Tryd.prog w = .ok (.slice (some ⟨w.heap.size, 0, none⟩) n (capV w)) (nxV w) := fun w => by rw [← hvl]; exact (hV w).1
  clear hU hV
  have x1 : ∀ w, (convert 9 33 (.string ((mk s).extract 0 n))).run Tryd.prog w = .ok (.slice (some ⟨w.heap.size, 0, none⟩) n (capU w)) (nxU w) := fun w => by rw [E1.out]; exact hu0 w
  have x2 : ∀ w, (convert 9 33 (.string ((mk t).extract 0 n))).run Tryd.prog w = .ok (.slice (some ⟨w.heap.size, 0, none⟩) n (capV w)) (nxV w) := fun w => by rw [E2.out]; exact hv0 w
  clear hu0 hv0
  have R1 : Hid (∀ w, Tab w → Calls Tryd.prog 13 #[.string ((mk s).extract 0 n)] w (NumB w (crest u))) := Lib.hid (fun w hw => by rw [E1.out]; exact C.rest u w (by omega) hw)
  have R2 : Hid (∀ w, Tab w → Calls Tryd.prog 13 #[.string ((mk t).extract 0 n)] w (NumB w (crest v))) := Lib.hid (fun w hw => by rw [E2.out]; exact C.rest v w (by omega) hw)
  have HMIN : Hid (min (((mk s).size : Nat) : Int) (((mk t).size : Nat) : Int) = (n : Int)) := Lib.hid (by rcases hcase with ⟨h1, h2⟩ | ⟨h1, h2⟩ <;> omega)
  rcases hcase with ⟨hlt, hnn⟩ | ⟨hlt, hnn⟩
  · have HNN := Lib.hid hnn
    have hmI : (((mk t).size : Nat) : Int) ≤ 1000 := by omega
    clear hnn
    go_enter Tryd.func9, Tryd.ntmps9
    go_wp2_with fail
    rw [HMIN.out]
    rw [HNN.out]
    go_region
    · have r1 := U2.out w.drew
      have q1 := below_of_drew (U1.out w.drew)
      clear x1 x2
      generalize nxU w.drew = w1 at *
      have r2 := V2.out w1
      have q2 := V1.out w1
      generalize nxV w1 = w2 at *
      have ra : BRow w2 w.heap.size u := r1.below q2 r1.lt
      have hne : w.heap.size ≠ w1.heap.size := by have := r1.lt; exact Nat.ne_of_lt this
      have hB : Below w.heap.size w w2 := q1.trans (q2.mono q1.size)
      generalize capU w.drew = c1
      generalize capV w1 = c2
      obtain ⟨ga, hga⟩ : ∃ ga, ga = w.heap.size := ⟨_, rfl⟩
      obtain ⟨gb, hgb⟩ : ∃ gb, gb = w1.heap.size := ⟨_, rfl⟩
      have ga0 : w.heap.size ≤ ga := by omega
      have gb0 : w.heap.size ≤ gb := by have := q1.size; omega
      have RA : Hid (BRow w2 ga u) := Lib.hid (by rw [hga]; exact ra)
      have RB : Hid (BRow w2 gb v) := Lib.hid (by rw [hgb]; exact r2)
      have hab : ga ≠ gb := by rw [hga, hgb]; exact hne
      rw [← hga, ← hgb]
      clear hga hgb r1 q1 r2 q2 ra hne U1 U2 V1 V2
      go_wp2_with fail
      go_loopw [10] (fun i wr => SwapRel u v n ga gb w.heap.size w i wr) (fun i _ => n - (intOf i).toNat)
      case atStart => exact ⟨0, u, v, by omega, rfl, hul, hvl, fun _ _ => rfl, RA.out, RB.out, hB⟩
      case round =>
        obtain ⟨k, a, b, hk, rfl, hal, hbl, hsum, hra, hrb, hbel⟩ := hrel
        have hbs := hbel.size
        have hk0 : (0 : Int) ≤ (k : Int) := by omega
        have HSUM := Lib.hid hsum
        have HAL := Lib.hid hal
        have HBL := Lib.hid hbl
        clear hsum
        by_cases hkn : k < n
        · have hknI : (k : Int) < (n : Int) := by omega
          by_cases hkl : k < len
          · have hklI : (k : Int) < (len : Int) := by omega
            obtain ⟨bb, off, rfl, hbw, hc0⟩ := HC.out k hkl
            have hc1 : wr.cell? ⟨bb, off + k, none⟩ = some (.bool (z k)) := (hbel.cell (p := ⟨bb, off + k, none⟩) hbw).trans hc0
            clear hc0
            cases hz : z k with
            | true =>
              rw [hz] at hc1
              have hka : k < a.length := by omega
              have hkb : k < b.length := by omega
              have ca := hra.cell hka
              have cb := hrb.cell hkb
              have fa := hra.free hka
              have fb := hrb.free hkb
              obtain ⟨xa, hxa⟩ : ∃ xa, xa = a[k]'hka := ⟨_, rfl⟩
              obtain ⟨xb, hxb⟩ : ∃ xb, xb = b[k]'hkb := ⟨_, rfl⟩
              rw [← hxa] at ca
              rw [← hxb] at cb
              have SA := Lib.hid ((hra.set_ hka xb).far (g' := gb) (j := k) hab (.int .u8 (xa.toNat : Int)))
              have SB := Lib.hid ((hrb.far (g' := ga) (j := k) hab.symm (.int .u8 (xb.toNat : Int))).set_ hkb xa)
              have SS : Hid (∀ j, j < n → (u.getD j 0).toNat + (v.getD j 0).toNat = ((a.set k xb).getD j 0).toNat + ((b.set k xa).getD j 0).toNat) := Lib.hid (fun j hj => by
                rw [HSUM.out j hj]
                by_cases e : k = j
                · subst e
                  have g1 : a.getD k 0 = xa := by rw [hxa, List.getD_eq_getElem?_getD, List.getElem?_eq_getElem hka]; rfl
                  have g2 : b.getD k 0 = xb := by rw [hxb, List.getD_eq_getElem?_getD, List.getElem?_eq_getElem hkb]; rfl
                  have g3 : (a.set k xb).getD k 0 = xb := by simp [List.getD_eq_getElem?_getD, hka]
                  have g4 : (b.set k xa).getD k 0 = xa := by simp [List.getD_eq_getElem?_getD, hkb]
                  rw [g1, g2, g3, g4]; omega
                · simp [List.getD_eq_getElem?_getD, List.getElem?_set_ne e])
              have LA : Hid ((a.set k xb).length = n) := Lib.hid (by simpa using hal)
              have LB : Hid ((b.set k xa).length = n) := Lib.hid (by simpa using hbl)
              have BB : Hid (Below w.heap.size w ((wr.setCell ⟨ga, k, none⟩ (.int .u8 (xb.toNat : Int))).setCell ⟨gb, k, none⟩ (.int .u8 (xa.toNat : Int)))) := Lib.hid ((hbel.setCell (p := ⟨ga, k, none⟩) ga0 _).setCell (p := ⟨gb, k, none⟩) gb0 _)
              have hab2 : gb ≠ ga := hab.symm
              have ca2 : (wr.drew.setCell ⟨ga, k, none⟩ (.int .u8 (xb.toNat : Int))).cell? ⟨gb, k, none⟩ = some (.int .u8 (xb.toNat : Int)) := by rw [World.cell?_setCell_other]; exact cb; intro e; cases e; exact hab rfl
              clear hz hxa hxb hal hbl hra hrb hka hkb
              go_wp2_with fail
              go_region
              go_wp2_with fail
              go_roundw
              case rel => exact ⟨k + 1, _, _, by omega, by go_num, LA.out, LB.out, SS.out, SA.out, SB.out, BB.out.drew⟩
              case measure => simp [intOf]; omega
            | false =>
              rw [hz] at hc1
              clear hz
              go_wp2_with fail
              go_roundw
              case rel => exact ⟨k + 1, a, b, by omega, by go_num, HAL.out, HBL.out, HSUM.out, hra, hrb, hbel⟩
              case measure => simp [intOf]; omega
          · have hklI : (len : Int) ≤ (k : Int) := by omega
            clear hal hbl
            go_wp2_with fail
            go_region_held3 (fun W => Tab W) (first | exact (show Tab wr from T.out.below hbel) | exact (T.out.below hbel).below (below_of_drew b4) | exact Tab.below (by assumption) b5)
              (first
                | (go_at_call 13; (with_reducible refine (R1.out _ ?tab).mono ?_); (case tab => first | assumption | exact (show Tab wr from T.out.below hbel)); rintro e w4 ⟨y1, hy1, rfl, b4⟩; have HY1 := Lib.hid hy1; obtain ⟨p1, p2⟩ := inP_of hy1 (crest_lt _); clear hy1)
                | (go_at_call 13; (with_reducible refine (R2.out _ ?tab).mono ?_); (case tab => first | assumption | exact (show Tab wr from T.out.below hbel)); rintro e w5 ⟨y2, hy2, rfl, b5⟩; have HY2 := Lib.hid hy2; obtain ⟨p3, p4⟩ := inP_of hy2 (crest_lt _); clear hy2))
            have B4 : Below w.heap.size w w4 := hbel.trans ((below_of_drew b4).mono hbs)
            have B5 : Below w.heap.size w w5 := B4.trans (b5.mono B4.size)
            have RA4 : BRow w4 ga a := hra.below (below_of_drew b4) hra.lt
            have RB4 : BRow w4 gb b := hrb.below (below_of_drew b4) hrb.lt
            have TB5 : Tab w5 := T.out.below B5
            have RA5 : BRow w5 ga a := RA4.below b5 RA4.lt
            have RB5 : BRow w5 gb b := RB4.below b5 RB4.lt
            have hta : ∀ W, BRow W ga a → (convert 33 9 (.slice (some ⟨ga, 0, none⟩) n c1)).run Tryd.prog W = .ok (.string (mk a)) W := fun W hW => by have := hW.text (c := c1); rw [HAL.out] at this; exact this
            have htb : ∀ W, BRow W gb b → (convert 33 9 (.slice (some ⟨gb, 0, none⟩) n c2)).run Tryd.prog W = .ok (.string (mk b)) W := fun W hW => by have := hW.text (c := c2); rw [HBL.out] at this; exact this
            have R3 : Hid (∀ w, Tab w → Calls Tryd.prog 13 #[.string (mk a)] w (NumB w (crest a))) := Lib.hid (fun w hw => C.rest a w (by have := HAL.out; omega) hw)
            have R4 : Hid (∀ w, Tab w → Calls Tryd.prog 13 #[.string (mk b)] w (NumB w (crest b))) := Lib.hid (fun w hw => C.rest b w (by have := HBL.out; omega) hw)
            clear b4 b5 RA4 RB4 hra hrb hbel
            go_wp2_with fail
            go_region_held3 (fun W => Tab W ∧ BRow W ga a ∧ BRow W gb b) (first | exact ⟨TB5, RA5, RB5⟩ | exact ⟨TB5.below (below_of_drew b6), RA5.below (below_of_drew b6) RA5.lt, RB5.below (below_of_drew b6) RB5.lt⟩ | (go_split_ands; exact ⟨Tab.below (by assumption) b7, BRow.below (by assumption) b7 (BRow.lt (by assumption)), BRow.below (by assumption) b7 (BRow.lt (by assumption))⟩))
              (first
                | (go_at_call 13; (with_reducible refine (R3.out _ ?tab).mono ?_); (case tab => first | assumption | exact TB5 | (go_split_ands; assumption)); rintro e w6 ⟨y3, hy3, rfl, b6⟩; have HY3 := Lib.hid hy3; obtain ⟨p5, p6⟩ := inP_of hy3 (crest_lt _); clear hy3)
                | (go_at_call 13; (with_reducible refine (R4.out _ ?tab).mono ?_); (case tab => first | assumption | exact TB5 | (go_split_ands; assumption)); rintro e w7 ⟨y4, hy4, rfl, b7⟩; have HY4 := Lib.hid hy4; obtain ⟨p7, p8⟩ := inP_of hy4 (crest_lt _); clear hy4))
            have B6 : Below w.heap.size w w6 := B5.trans ((below_of_drew b6).mono B5.size)
            have B7 : Below w.heap.size w w7 := B6.trans (b7.mono B6.size)
            clear b6 b7 hta htb
            have fx : ((y1 + y2) % 2305843009213693951 == (y3 + y4) % 2305843009213693951) = true := by
              have e := crest_sum hul hvl HAL.out HBL.out HSUM.out
              have g1 := HY1.out
              have g2 := HY2.out
              have g3 := HY3.out
              have g4 := HY4.out
              unfold Res at g1 g2 g3 g4
              rw [PR_eq] at e
              rw [beq_iff_eq]; omega
            go_wp2_with (go_at_call 10; refine (castHead_any C _ (by first | exact T.out | exact T.out.below (by assumption))).mono ?_; rintro e w8 ⟨rfl, b8⟩)
            go_ret
            exact ⟨rfl, B7.trans (b8.mono B7.size)⟩
        · have hknI : (n : Int) ≤ (k : Int) := by omega
          clear hal hbl
          go_wp2_with fail
          go_region_held3 (fun W => Tab W) (first | exact (show Tab wr from T.out.below hbel) | exact (T.out.below hbel).below (below_of_drew b4) | exact Tab.below (by assumption) b5)
            (first
              | (go_at_call 13; (with_reducible refine (R1.out _ ?tab).mono ?_); (case tab => first | assumption | exact (show Tab wr from T.out.below hbel)); rintro e w4 ⟨y1, hy1, rfl, b4⟩; have HY1 := Lib.hid hy1; obtain ⟨p1, p2⟩ := inP_of hy1 (crest_lt _); clear hy1)
              | (go_at_call 13; (with_reducible refine (R2.out _ ?tab).mono ?_); (case tab => first | assumption | exact (show Tab wr from T.out.below hbel)); rintro e w5 ⟨y2, hy2, rfl, b5⟩; have HY2 := Lib.hid hy2; obtain ⟨p3, p4⟩ := inP_of hy2 (crest_lt _); clear hy2))
          have B4 : Below w.heap.size w w4 := hbel.trans ((below_of_drew b4).mono hbs)
          have B5 : Below w.heap.size w w5 := B4.trans (b5.mono B4.size)
          have RA4 : BRow w4 ga a := hra.below (below_of_drew b4) hra.lt
          have RB4 : BRow w4 gb b := hrb.below (below_of_drew b4) hrb.lt
          have TB5 : Tab w5 := T.out.below B5
          have RA5 : BRow w5 ga a := RA4.below b5 RA4.lt
          have RB5 : BRow w5 gb b := RB4.below b5 RB4.lt
          have hta : ∀ W, BRow W ga a → (convert 33 9 (.slice (some ⟨ga, 0, none⟩) n c1)).run Tryd.prog W = .ok (.string (mk a)) W := fun W hW => by have := hW.text (c := c1); rw [HAL.out] at this; exact this
          have htb : ∀ W, BRow W gb b → (convert 33 9 (.slice (some ⟨gb, 0, none⟩) n c2)).run Tryd.prog W = .ok (.string (mk b)) W := fun W hW => by have := hW.text (c := c2); rw [HBL.out] at this; exact this
          have R3 : Hid (∀ w, Tab w → Calls Tryd.prog 13 #[.string (mk a)] w (NumB w (crest a))) := Lib.hid (fun w hw => C.rest a w (by have := HAL.out; omega) hw)
          have R4 : Hid (∀ w, Tab w → Calls Tryd.prog 13 #[.string (mk b)] w (NumB w (crest b))) := Lib.hid (fun w hw => C.rest b w (by have := HBL.out; omega) hw)
          clear b4 b5 RA4 RB4 hra hrb hbel
          go_wp2_with fail
          go_region_held3 (fun W => Tab W ∧ BRow W ga a ∧ BRow W gb b) (first | exact ⟨TB5, RA5, RB5⟩ | exact ⟨TB5.below (below_of_drew b6), RA5.below (below_of_drew b6) RA5.lt, RB5.below (below_of_drew b6) RB5.lt⟩ | (go_split_ands; exact ⟨Tab.below (by assumption) b7, BRow.below (by assumption) b7 (BRow.lt (by assumption)), BRow.below (by assumption) b7 (BRow.lt (by assumption))⟩))
            (first
              | (go_at_call 13; (with_reducible refine (R3.out _ ?tab).mono ?_); (case tab => first | assumption | exact TB5 | (go_split_ands; assumption)); rintro e w6 ⟨y3, hy3, rfl, b6⟩; have HY3 := Lib.hid hy3; obtain ⟨p5, p6⟩ := inP_of hy3 (crest_lt _); clear hy3)
              | (go_at_call 13; (with_reducible refine (R4.out _ ?tab).mono ?_); (case tab => first | assumption | exact TB5 | (go_split_ands; assumption)); rintro e w7 ⟨y4, hy4, rfl, b7⟩; have HY4 := Lib.hid hy4; obtain ⟨p7, p8⟩ := inP_of hy4 (crest_lt _); clear hy4))
          have B6 : Below w.heap.size w w6 := B5.trans ((below_of_drew b6).mono B5.size)
          have B7 : Below w.heap.size w w7 := B6.trans (b7.mono B6.size)
          clear b6 b7 hta htb
          have fx : ((y1 + y2) % 2305843009213693951 == (y3 + y4) % 2305843009213693951) = true := by
            have e := crest_sum hul hvl HAL.out HBL.out HSUM.out
            have g1 := HY1.out
            have g2 := HY2.out
            have g3 := HY3.out
            have g4 := HY4.out
            unfold Res at g1 g2 g3 g4
            rw [PR_eq] at e
            rw [beq_iff_eq]; omega
          go_wp2_with (go_at_call 10; refine (castHead_any C _ (by first | exact T.out | exact T.out.below (by assumption))).mono ?_; rintro e w8 ⟨rfl, b8⟩)
          go_ret
          exact ⟨rfl, B7.trans (b8.mono B7.size)⟩
    · have r1 := V2.out w.drew
      have q1 := below_of_drew (V1.out w.drew)
      clear x1 x2
      generalize nxV w.drew = w1 at *
      have r2 := U2.out w1
      have q2 := U1.out w1
      generalize nxU w1 = w2 at *
      have rb : BRow w2 w.heap.size v := r1.below q2 r1.lt
      have hne : w.heap.size ≠ w1.heap.size := by have := r1.lt; exact Nat.ne_of_lt this
      have hB : Below w.heap.size w w2 := q1.trans (q2.mono q1.size)
      generalize capV w.drew = c2
      generalize capU w1 = c1
      obtain ⟨gb, hgb⟩ : ∃ gb, gb = w.heap.size := ⟨_, rfl⟩
      obtain ⟨ga, hga⟩ : ∃ ga, ga = w1.heap.size := ⟨_, rfl⟩
      have gb0 : w.heap.size ≤ gb := by omega
      have ga0 : w.heap.size ≤ ga := by have := q1.size; omega
      have RA : Hid (BRow w2 ga u) := Lib.hid (by rw [hga]; exact r2)
      have RB : Hid (BRow w2 gb v) := Lib.hid (by rw [hgb]; exact rb)
      have hab : ga ≠ gb := by rw [hga, hgb]; exact hne.symm
      rw [← hga, ← hgb]
      clear hga hgb r1 q1 r2 q2 rb hne U1 U2 V1 V2
      go_wp2_with fail
      go_loopw [10] (fun i wr => SwapRel u v n ga gb w.heap.size w i wr) (fun i _ => n - (intOf i).toNat)
      case atStart => exact ⟨0, u, v, by omega, rfl, hul, hvl, fun _ _ => rfl, RA.out, RB.out, hB⟩
      case round =>
        obtain ⟨k, a, b, hk, rfl, hal, hbl, hsum, hra, hrb, hbel⟩ := hrel
        have hbs := hbel.size
        have hk0 : (0 : Int) ≤ (k : Int) := by omega
        have HSUM := Lib.hid hsum
        have HAL := Lib.hid hal
        have HBL := Lib.hid hbl
        clear hsum
        by_cases hkn : k < n
        · have hknI : (k : Int) < (n : Int) := by omega
          by_cases hkl : k < len
          · have hklI : (k : Int) < (len : Int) := by omega
            obtain ⟨bb, off, rfl, hbw, hc0⟩ := HC.out k hkl
            have hc1 : wr.cell? ⟨bb, off + k, none⟩ = some (.bool (z k)) := (hbel.cell (p := ⟨bb, off + k, none⟩) hbw).trans hc0
            clear hc0
            cases hz : z k with
            | true =>
              rw [hz] at hc1
              have hka : k < a.length := by omega
              have hkb : k < b.length := by omega
              have ca := hra.cell hka
              have cb := hrb.cell hkb
              have fa := hra.free hka
              have fb := hrb.free hkb
              obtain ⟨xa, hxa⟩ : ∃ xa, xa = a[k]'hka := ⟨_, rfl⟩
              obtain ⟨xb, hxb⟩ : ∃ xb, xb = b[k]'hkb := ⟨_, rfl⟩
              rw [← hxa] at ca
              rw [← hxb] at cb
              have SA := Lib.hid ((hra.set_ hka xb).far (g' := gb) (j := k) hab (.int .u8 (xa.toNat : Int)))
              have SB := Lib.hid ((hrb.far (g' := ga) (j := k) hab.symm (.int .u8 (xb.toNat : Int))).set_ hkb xa)
              have SS : Hid (∀ j, j < n → (u.getD j 0).toNat + (v.getD j 0).toNat = ((a.set k xb).getD j 0).toNat + ((b.set k xa).getD j 0).toNat) := Lib.hid (fun j hj => by
                rw [HSUM.out j hj]
                by_cases e : k = j
                · subst e
                  have g1 : a.getD k 0 = xa := by rw [hxa, List.getD_eq_getElem?_getD, List.getElem?_eq_getElem hka]; rfl
                  have g2 : b.getD k 0 = xb := by rw [hxb, List.getD_eq_getElem?_getD, List.getElem?_eq_getElem hkb]; rfl
                  have g3 : (a.set k xb).getD k 0 = xb := by simp [List.getD_eq_getElem?_getD, hka]
                  have g4 : (b.set k xa).getD k 0 = xa := by simp [List.getD_eq_getElem?_getD, hkb]
                  rw [g1, g2, g3, g4]; omega
                · simp [List.getD_eq_getElem?_getD, List.getElem?_set_ne e])
              have LA : Hid ((a.set k xb).length = n) := Lib.hid (by simpa using hal)
              have LB : Hid ((b.set k xa).length = n) := Lib.hid (by simpa using hbl)
              have BB : Hid (Below w.heap.size w ((wr.setCell ⟨ga, k, none⟩ (.int .u8 (xb.toNat : Int))).setCell ⟨gb, k, none⟩ (.int .u8 (xa.toNat : Int)))) := Lib.hid ((hbel.setCell (p := ⟨ga, k, none⟩) ga0 _).setCell (p := ⟨gb, k, none⟩) gb0 _)
              have hab2 : gb ≠ ga := hab.symm
              have ca2 : (wr.drew.setCell ⟨ga, k, none⟩ (.int .u8 (xb.toNat : Int))).cell? ⟨gb, k, none⟩ = some (.int .u8 (xb.toNat : Int)) := by rw [World.cell?_setCell_other]; exact cb; intro e; cases e; exact hab rfl
              clear hz hxa hxb hal hbl hra hrb hka hkb
              go_wp2_with fail
              go_region
              go_wp2_with fail
              go_roundw
              case rel => exact ⟨k + 1, _, _, by omega, by go_num, LA.out, LB.out, SS.out, SA.out, SB.out, BB.out.drew⟩
              case measure => simp [intOf]; omega
            | false =>
              rw [hz] at hc1
              clear hz
              go_wp2_with fail
              go_roundw
              case rel => exact ⟨k + 1, a, b, by omega, by go_num, HAL.out, HBL.out, HSUM.out, hra, hrb, hbel⟩
              case measure => simp [intOf]; omega
          · have hklI : (len : Int) ≤ (k : Int) := by omega
            clear hal hbl
            go_wp2_with fail
            go_region_held3 (fun W => Tab W) (first | exact (show Tab wr from T.out.below hbel) | exact (T.out.below hbel).below (below_of_drew b4) | exact Tab.below (by assumption) b5)
              (first
                | (go_at_call 13; (with_reducible refine (R1.out _ ?tab).mono ?_); (case tab => first | assumption | exact (show Tab wr from T.out.below hbel)); rintro e w4 ⟨y1, hy1, rfl, b4⟩; have HY1 := Lib.hid hy1; obtain ⟨p1, p2⟩ := inP_of hy1 (crest_lt _); clear hy1)
                | (go_at_call 13; (with_reducible refine (R2.out _ ?tab).mono ?_); (case tab => first | assumption | exact (show Tab wr from T.out.below hbel)); rintro e w5 ⟨y2, hy2, rfl, b5⟩; have HY2 := Lib.hid hy2; obtain ⟨p3, p4⟩ := inP_of hy2 (crest_lt _); clear hy2))
            have B4 : Below w.heap.size w w4 := hbel.trans ((below_of_drew b4).mono hbs)
            have B5 : Below w.heap.size w w5 := B4.trans (b5.mono B4.size)
            have RA4 : BRow w4 ga a := hra.below (below_of_drew b4) hra.lt
            have RB4 : BRow w4 gb b := hrb.below (below_of_drew b4) hrb.lt
            have TB5 : Tab w5 := T.out.below B5
            have RA5 : BRow w5 ga a := RA4.below b5 RA4.lt
            have RB5 : BRow w5 gb b := RB4.below b5 RB4.lt
            have hta : ∀ W, BRow W ga a → (convert 33 9 (.slice (some ⟨ga, 0, none⟩) n c1)).run Tryd.prog W = .ok (.string (mk a)) W := fun W hW => by have := hW.text (c := c1); rw [HAL.out] at this; exact this
            have htb : ∀ W, BRow W gb b → (convert 33 9 (.slice (some ⟨gb, 0, none⟩) n c2)).run Tryd.prog W = .ok (.string (mk b)) W := fun W hW => by have := hW.text (c := c2); rw [HBL.out] at this; exact this
            have R3 : Hid (∀ w, Tab w → Calls Tryd.prog 13 #[.string (mk a)] w (NumB w (crest a))) := Lib.hid (fun w hw => C.rest a w (by have := HAL.out; omega) hw)
            have R4 : Hid (∀ w, Tab w → Calls Tryd.prog 13 #[.string (mk b)] w (NumB w (crest b))) := Lib.hid (fun w hw => C.rest b w (by have := HBL.out; omega) hw)
            clear b4 b5 RA4 RB4 hra hrb hbel
            go_wp2_with fail
            go_region_held3 (fun W => Tab W ∧ BRow W ga a ∧ BRow W gb b) (first | exact ⟨TB5, RA5, RB5⟩ | exact ⟨TB5.below (below_of_drew b6), RA5.below (below_of_drew b6) RA5.lt, RB5.below (below_of_drew b6) RB5.lt⟩ | (go_split_ands; exact ⟨Tab.below (by assumption) b7, BRow.below (by assumption) b7 (BRow.lt (by assumption)), BRow.below (by assumption) b7 (BRow.lt (by assumption))⟩))
              (first
                | (go_at_call 13; (with_reducible refine (R3.out _ ?tab).mono ?_); (case tab => first | assumption | exact TB5 | (go_split_ands; assumption)); rintro e w6 ⟨y3, hy3, rfl, b6⟩; have HY3 := Lib.hid hy3; obtain ⟨p5, p6⟩ := inP_of hy3 (crest_lt _); clear hy3)
                | (go_at_call 13; (with_reducible refine (R4.out _ ?tab).mono ?_); (case tab => first | assumption | exact TB5 | (go_split_ands; assumption)); rintro e w7 ⟨y4, hy4, rfl, b7⟩; have HY4 := Lib.hid hy4; obtain ⟨p7, p8⟩ := inP_of hy4 (crest_lt _); clear hy4))
            have B6 : Below w.heap.size w w6 := B5.trans ((below_of_drew b6).mono B5.size)
            have B7 : Below w.heap.size w w7 := B6.trans (b7.mono B6.size)
            clear b6 b7 hta htb
            have fx : ((y1 + y2) % 2305843009213693951 == (y3 + y4) % 2305843009213693951) = true := by
              have e := crest_sum hul hvl HAL.out HBL.out HSUM.out
              have g1 := HY1.out
              have g2 := HY2.out
              have g3 := HY3.out
              have g4 := HY4.out
              unfold Res at g1 g2 g3 g4
              rw [PR_eq] at e
              rw [beq_iff_eq]; omega
            go_wp2_with (go_at_call 10; refine (castHead_any C _ (by first | exact T.out | exact T.out.below (by assumption))).mono ?_; rintro e w8 ⟨rfl, b8⟩)
            go_ret
            exact ⟨rfl, B7.trans (b8.mono B7.size)⟩
        · have hknI : (n : Int) ≤ (k : Int) := by omega
          clear hal hbl
          go_wp2_with fail
          go_region_held3 (fun W => Tab W) (first | exact (show Tab wr from T.out.below hbel) | exact (T.out.below hbel).below (below_of_drew b4) | exact Tab.below (by assumption) b5)
            (first
              | (go_at_call 13; (with_reducible refine (R1.out _ ?tab).mono ?_); (case tab => first | assumption | exact (show Tab wr from T.out.below hbel)); rintro e w4 ⟨y1, hy1, rfl, b4⟩; have HY1 := Lib.hid hy1; obtain ⟨p1, p2⟩ := inP_of hy1 (crest_lt _); clear hy1)
              | (go_at_call 13; (with_reducible refine (R2.out _ ?tab).mono ?_); (case tab => first | assumption | exact (show Tab wr from T.out.below hbel)); rintro e w5 ⟨y2, hy2, rfl, b5⟩; have HY2 := Lib.hid hy2; obtain ⟨p3, p4⟩ := inP_of hy2 (crest_lt _); clear hy2))
          have B4 : Below w.heap.size w w4 := hbel.trans ((below_of_drew b4).mono hbs)
          have B5 : Below w.heap.size w w5 := B4.trans (b5.mono B4.size)
          have RA4 : BRow w4 ga a := hra.below (below_of_drew b4) hra.lt
          have RB4 : BRow w4 gb b := hrb.below (below_of_drew b4) hrb.lt
          have TB5 : Tab w5 := T.out.below B5
          have RA5 : BRow w5 ga a := RA4.below b5 RA4.lt
          have RB5 : BRow w5 gb b := RB4.below b5 RB4.lt
          have hta : ∀ W, BRow W ga a → (convert 33 9 (.slice (some ⟨ga, 0, none⟩) n c1)).run Tryd.prog W = .ok (.string (mk a)) W := fun W hW => by have := hW.text (c := c1); rw [HAL.out] at this; exact this
          have htb : ∀ W, BRow W gb b → (convert 33 9 (.slice (some ⟨gb, 0, none⟩) n c2)).run Tryd.prog W = .ok (.string (mk b)) W := fun W hW => by have := hW.text (c := c2); rw [HBL.out] at this; exact this
          have R3 : Hid (∀ w, Tab w → Calls Tryd.prog 13 #[.string (mk a)] w (NumB w (crest a))) := Lib.hid (fun w hw => C.rest a w (by have := HAL.out; omega) hw)
          have R4 : Hid (∀ w, Tab w → Calls Tryd.prog 13 #[.string (mk b)] w (NumB w (crest b))) := Lib.hid (fun w hw => C.rest b w (by have := HBL.out; omega) hw)
          clear b4 b5 RA4 RB4 hra hrb hbel
          go_wp2_with fail
          go_region_held3 (fun W => Tab W ∧ BRow W ga a ∧ BRow W gb b) (first | exact ⟨TB5, RA5, RB5⟩ | exact ⟨TB5.below (below_of_drew b6), RA5.below (below_of_drew b6) RA5.lt, RB5.below (below_of_drew b6) RB5.lt⟩ | (go_split_ands; exact ⟨Tab.below (by assumption) b7, BRow.below (by assumption) b7 (BRow.lt (by assumption)), BRow.below (by assumption) b7 (BRow.lt (by assumption))⟩))
            (first
              | (go_at_call 13; (with_reducible refine (R3.out _ ?tab).mono ?_); (case tab => first | assumption | exact TB5 | (go_split_ands; assumption)); rintro e w6 ⟨y3, hy3, rfl, b6⟩; have HY3 := Lib.hid hy3; obtain ⟨p5, p6⟩ := inP_of hy3 (crest_lt _); clear hy3)
              | (go_at_call 13; (with_reducible refine (R4.out _ ?tab).mono ?_); (case tab => first | assumption | exact TB5 | (go_split_ands; assumption)); rintro e w7 ⟨y4, hy4, rfl, b7⟩; have HY4 := Lib.hid hy4; obtain ⟨p7, p8⟩ := inP_of hy4 (crest_lt _); clear hy4))
          have B6 : Below w.heap.size w w6 := B5.trans ((below_of_drew b6).mono B5.size)
          have B7 : Below w.heap.size w w7 := B6.trans (b7.mono B6.size)
          clear b6 b7 hta htb
          have fx : ((y1 + y2) % 2305843009213693951 == (y3 + y4) % 2305843009213693951) = true := by
            have e := crest_sum hul hvl HAL.out HBL.out HSUM.out
            have g1 := HY1.out
            have g2 := HY2.out
            have g3 := HY3.out
            have g4 := HY4.out
            unfold Res at g1 g2 g3 g4
            rw [PR_eq] at e
            rw [beq_iff_eq]; omega
          go_wp2_with (go_at_call 10; refine (castHead_any C _ (by first | exact T.out | exact T.out.below (by assumption))).mono ?_; rintro e w8 ⟨rfl, b8⟩)
          go_ret
          exact ⟨rfl, B7.trans (b8.mono B7.size)⟩
  · have HNN := Lib.hid hnn
    have hmI : (((mk s).size : Nat) : Int) ≤ 1000 := by omega
    clear hnn
    go_enter Tryd.func9, Tryd.ntmps9
    go_wp2_with fail
    rw [HMIN.out]
    rw [HNN.out]
    go_region
    · have r1 := U2.out w.drew
      have q1 := below_of_drew (U1.out w.drew)
      clear x1 x2
      generalize nxU w.drew = w1 at *
      have r2 := V2.out w1
      have q2 := V1.out w1
      generalize nxV w1 = w2 at *
      have ra : BRow w2 w.heap.size u := r1.below q2 r1.lt
      have hne : w.heap.size ≠ w1.heap.size := by have := r1.lt; exact Nat.ne_of_lt this
      have hB : Below w.heap.size w w2 := q1.trans (q2.mono q1.size)
      generalize capU w.drew = c1
      generalize capV w1 = c2
      obtain ⟨ga, hga⟩ : ∃ ga, ga = w.heap.size := ⟨_, rfl⟩
      obtain ⟨gb, hgb⟩ : ∃ gb, gb = w1.heap.size := ⟨_, rfl⟩
      have ga0 : w.heap.size ≤ ga := by omega
      have gb0 : w.heap.size ≤ gb := by have := q1.size; omega
      have RA : Hid (BRow w2 ga u) := Lib.hid (by rw [hga]; exact ra)
      have RB : Hid (BRow w2 gb v) := Lib.hid (by rw [hgb]; exact r2)
      have hab : ga ≠ gb := by rw [hga, hgb]; exact hne
      rw [← hga, ← hgb]
      clear hga hgb r1 q1 r2 q2 ra hne U1 U2 V1 V2
      go_wp2_with fail
      go_loopw [10] (fun i wr => SwapRel u v n ga gb w.heap.size w i wr) (fun i _ => n - (intOf i).toNat)
      case atStart => exact ⟨0, u, v, by omega, rfl, hul, hvl, fun _ _ => rfl, RA.out, RB.out, hB⟩
      case round =>
        obtain ⟨k, a, b, hk, rfl, hal, hbl, hsum, hra, hrb, hbel⟩ := hrel
        have hbs := hbel.size
        have hk0 : (0 : Int) ≤ (k : Int) := by omega
        have HSUM := Lib.hid hsum
        have HAL := Lib.hid hal
        have HBL := Lib.hid hbl
        clear hsum
        by_cases hkn : k < n
        · have hknI : (k : Int) < (n : Int) := by omega
          by_cases hkl : k < len
          · have hklI : (k : Int) < (len : Int) := by omega
            obtain ⟨bb, off, rfl, hbw, hc0⟩ := HC.out k hkl
            have hc1 : wr.cell? ⟨bb, off + k, none⟩ = some (.bool (z k)) := (hbel.cell (p := ⟨bb, off + k, none⟩) hbw).trans hc0
            clear hc0
            cases hz : z k with
            | true =>
              rw [hz] at hc1
              have hka : k < a.length := by omega
              have hkb : k < b.length := by omega
              have ca := hra.cell hka
              have cb := hrb.cell hkb
              have fa := hra.free hka
              have fb := hrb.free hkb
              obtain ⟨xa, hxa⟩ : ∃ xa, xa = a[k]'hka := ⟨_, rfl⟩
              obtain ⟨xb, hxb⟩ : ∃ xb, xb = b[k]'hkb := ⟨_, rfl⟩
              rw [← hxa] at ca
              rw [← hxb] at cb
              have SA := Lib.hid ((hra.set_ hka xb).far (g' := gb) (j := k) hab (.int .u8 (xa.toNat : Int)))
              have SB := Lib.hid ((hrb.far (g' := ga) (j := k) hab.symm (.int .u8 (xb.toNat : Int))).set_ hkb xa)
              have SS : Hid (∀ j, j < n → (u.getD j 0).toNat + (v.getD j 0).toNat = ((a.set k xb).getD j 0).toNat + ((b.set k xa).getD j 0).toNat) := Lib.hid (fun j hj => by
                rw [HSUM.out j hj]
                by_cases e : k = j
                · subst e
                  have g1 : a.getD k 0 = xa := by rw [hxa, List.getD_eq_getElem?_getD, List.getElem?_eq_getElem hka]; rfl
                  have g2 : b.getD k 0 = xb := by rw [hxb, List.getD_eq_getElem?_getD, List.getElem?_eq_getElem hkb]; rfl
                  have g3 : (a.set k xb).getD k 0 = xb := by simp [List.getD_eq_getElem?_getD, hka]
                  have g4 : (b.set k xa).getD k 0 = xa := by simp [List.getD_eq_getElem?_getD, hkb]
                  rw [g1, g2, g3, g4]; omega
                · simp [List.getD_eq_getElem?_getD, List.getElem?_set_ne e])
              have LA : Hid ((a.set k xb).length = n) := Lib.hid (by simpa using hal)
              have LB : Hid ((b.set k xa).length = n) := Lib.hid (by simpa using hbl)
              have BB : Hid (Below w.heap.size w ((wr.setCell ⟨ga, k, none⟩ (.int .u8 (xb.toNat : Int))).setCell ⟨gb, k, none⟩ (.int .u8 (xa.toNat : Int)))) := Lib.hid ((hbel.setCell (p := ⟨ga, k, none⟩) ga0 _).setCell (p := ⟨gb, k, none⟩) gb0 _)
              have hab2 : gb ≠ ga := hab.symm
              have ca2 : (wr.drew.setCell ⟨ga, k, none⟩ (.int .u8 (xb.toNat : Int))).cell? ⟨gb, k, none⟩ = some (.int .u8 (xb.toNat : Int)) := by rw [World.cell?_setCell_other]; exact cb; intro e; cases e; exact hab rfl
              clear hz hxa hxb hal hbl hra hrb hka hkb
              go_wp2_with fail
              go_region
              go_wp2_with fail
              go_roundw
              case rel => exact ⟨k + 1, _, _, by omega, by go_num, LA.out, LB.out, SS.out, SA.out, SB.out, BB.out.drew⟩
              case measure => simp [intOf]; omega
            | false =>
              rw [hz] at hc1
              clear hz
              go_wp2_with fail
              go_roundw
              case rel => exact ⟨k + 1, a, b, by omega, by go_num, HAL.out, HBL.out, HSUM.out, hra, hrb, hbel⟩
              case measure => simp [intOf]; omega
          · have hklI : (len : Int) ≤ (k : Int) := by omega
            clear hal hbl
            go_wp2_with fail
            go_region_held3 (fun W => Tab W) (first | exact (show Tab wr from T.out.below hbel) | exact (T.out.below hbel).below (below_of_drew b4) | exact Tab.below (by assumption) b5)
              (first
                | (go_at_call 13; (with_reducible refine (R1.out _ ?tab).mono ?_); (case tab => first | assumption | exact (show Tab wr from T.out.below hbel)); rintro e w4 ⟨y1, hy1, rfl, b4⟩; have HY1 := Lib.hid hy1; obtain ⟨p1, p2⟩ := inP_of hy1 (crest_lt _); clear hy1)
                | (go_at_call 13; (with_reducible refine (R2.out _ ?tab).mono ?_); (case tab => first | assumption | exact (show Tab wr from T.out.below hbel)); rintro e w5 ⟨y2, hy2, rfl, b5⟩; have HY2 := Lib.hid hy2; obtain ⟨p3, p4⟩ := inP_of hy2 (crest_lt _); clear hy2))
            have B4 : Below w.heap.size w w4 := hbel.trans ((below_of_drew b4).mono hbs)
            have B5 : Below w.heap.size w w5 := B4.trans (b5.mono B4.size)
            have RA4 : BRow w4 ga a := hra.below (below_of_drew b4) hra.lt
            have RB4 : BRow w4 gb b := hrb.below (below_of_drew b4) hrb.lt
            have TB5 : Tab w5 := T.out.below B5
            have RA5 : BRow w5 ga a := RA4.below b5 RA4.lt
            have RB5 : BRow w5 gb b := RB4.below b5 RB4.lt
            have hta : ∀ W, BRow W ga a → (convert 33 9 (.slice (some ⟨ga, 0, none⟩) n c1)).run Tryd.prog W = .ok (.string (mk a)) W := fun W hW => by have := hW.text (c := c1); rw [HAL.out] at this; exact this
            have htb : ∀ W, BRow W gb b → (convert 33 9 (.slice (some ⟨gb, 0, none⟩) n c2)).run Tryd.prog W = .ok (.string (mk b)) W := fun W hW => by have := hW.text (c := c2); rw [HBL.out] at this; exact this
            have R3 : Hid (∀ w, Tab w → Calls Tryd.prog 13 #[.string (mk a)] w (NumB w (crest a))) := Lib.hid (fun w hw => C.rest a w (by have := HAL.out; omega) hw)
            have R4 : Hid (∀ w, Tab w → Calls Tryd.prog 13 #[.string (mk b)] w (NumB w (crest b))) := Lib.hid (fun w hw => C.rest b w (by have := HBL.out; omega) hw)
            clear b4 b5 RA4 RB4 hra hrb hbel
            go_wp2_with fail
            go_region_held3 (fun W => Tab W ∧ BRow W ga a ∧ BRow W gb b) (first | exact ⟨TB5, RA5, RB5⟩ | exact ⟨TB5.below (below_of_drew b6), RA5.below (below_of_drew b6) RA5.lt, RB5.below (below_of_drew b6) RB5.lt⟩ | (go_split_ands; exact ⟨Tab.below (by assumption) b7, BRow.below (by assumption) b7 (BRow.lt (by assumption)), BRow.below (by assumption) b7 (BRow.lt (by assumption))⟩))
              (first
                | (go_at_call 13; (with_reducible refine (R3.out _ ?tab).mono ?_); (case tab => first | assumption | exact TB5 | (go_split_ands; assumption)); rintro e w6 ⟨y3, hy3, rfl, b6⟩; have HY3 := Lib.hid hy3; obtain ⟨p5, p6⟩ := inP_of hy3 (crest_lt _); clear hy3)
                | (go_at_call 13; (with_reducible refine (R4.out _ ?tab).mono ?_); (case tab => first | assumption | exact TB5 | (go_split_ands; assumption)); rintro e w7 ⟨y4, hy4, rfl, b7⟩; have HY4 := Lib.hid hy4; obtain ⟨p7, p8⟩ := inP_of hy4 (crest_lt _); clear hy4))
            have B6 : Below w.heap.size w w6 := B5.trans ((below_of_drew b6).mono B5.size)
            have B7 : Below w.heap.size w w7 := B6.trans (b7.mono B6.size)
            clear b6 b7 hta htb
            have fx : ((y1 + y2) % 2305843009213693951 == (y3 + y4) % 2305843009213693951) = true := by
              have e := crest_sum hul hvl HAL.out HBL.out HSUM.out
              have g1 := HY1.out
              have g2 := HY2.out
              have g3 := HY3.out
              have g4 := HY4.out
              unfold Res at g1 g2 g3 g4
              rw [PR_eq] at e
              rw [beq_iff_eq]; omega
            go_wp2_with (go_at_call 10; refine (castHead_any C _ (by first | exact T.out | exact T.out.below (by assumption))).mono ?_; rintro e w8 ⟨rfl, b8⟩)
            go_ret
            exact ⟨rfl, B7.trans (b8.mono B7.size)⟩
        · have hknI : (n : Int) ≤ (k : Int) := by omega
          clear hal hbl
          go_wp2_with fail
          go_region_held3 (fun W => Tab W) (first | exact (show Tab wr from T.out.below hbel) | exact (T.out.below hbel).below (below_of_drew b4) | exact Tab.below (by assumption) b5)
            (first
              | (go_at_call 13; (with_reducible refine (R1.out _ ?tab).mono ?_); (case tab => first | assumption | exact (show Tab wr from T.out.below hbel)); rintro e w4 ⟨y1, hy1, rfl, b4⟩; have HY1 := Lib.hid hy1; obtain ⟨p1, p2⟩ := inP_of hy1 (crest_lt _); clear hy1)
              | (go_at_call 13; (with_reducible refine (R2.out _ ?tab).mono ?_); (case tab => first | assumption | exact (show Tab wr from T.out.below hbel)); rintro e w5 ⟨y2, hy2, rfl, b5⟩; have HY2 := Lib.hid hy2; obtain ⟨p3, p4⟩ := inP_of hy2 (crest_lt _); clear hy2))
          have B4 : Below w.heap.size w w4 := hbel.trans ((below_of_drew b4).mono hbs)
          have B5 : Below w.heap.size w w5 := B4.trans (b5.mono B4.size)
          have RA4 : BRow w4 ga a := hra.below (below_of_drew b4) hra.lt
          have RB4 : BRow w4 gb b := hrb.below (below_of_drew b4) hrb.lt
          have TB5 : Tab w5 := T.out.below B5
          have RA5 : BRow w5 ga a := RA4.below b5 RA4.lt
          have RB5 : BRow w5 gb b := RB4.below b5 RB4.lt
          have hta : ∀ W, BRow W ga a → (convert 33 9 (.slice (some ⟨ga, 0, none⟩) n c1)).run Tryd.prog W = .ok (.string (mk a)) W := fun W hW => by have := hW.text (c := c1); rw [HAL.out] at this; exact this
          have htb : ∀ W, BRow W gb b → (convert 33 9 (.slice (some ⟨gb, 0, none⟩) n c2)).run Tryd.prog W = .ok (.string (mk b)) W := fun W hW => by have := hW.text (c := c2); rw [HBL.out] at this; exact this
          have R3 : Hid (∀ w, Tab w → Calls Tryd.prog 13 #[.string (mk a)] w (NumB w (crest a))) := Lib.hid (fun w hw => C.rest a w (by have := HAL.out; omega) hw)
          have R4 : Hid (∀ w, Tab w → Calls Tryd.prog 13 #[.string (mk b)] w (NumB w (crest b))) := Lib.hid (fun w hw => C.rest b w (by have := HBL.out; omega) hw)
          clear b4 b5 RA4 RB4 hra hrb hbel
          go_wp2_with fail
          go_region_held3 (fun W => Tab W ∧ BRow W ga a ∧ BRow W gb b) (first | exact ⟨TB5, RA5, RB5⟩ | exact ⟨TB5.below (below_of_drew b6), RA5.below (below_of_drew b6) RA5.lt, RB5.below (below_of_drew b6) RB5.lt⟩ | (go_split_ands; exact ⟨Tab.below (by assumption) b7, BRow.below (by assumption) b7 (BRow.lt (by assumption)), BRow.below (by assumption) b7 (BRow.lt (by assumption))⟩))
            (first
              | (go_at_call 13; (with_reducible refine (R3.out _ ?tab).mono ?_); (case tab => first | assumption | exact TB5 | (go_split_ands; assumption)); rintro e w6 ⟨y3, hy3, rfl, b6⟩; have HY3 := Lib.hid hy3; obtain ⟨p5, p6⟩ := inP_of hy3 (crest_lt _); clear hy3)
              | (go_at_call 13; (with_reducible refine (R4.out _ ?tab).mono ?_); (case tab => first | assumption | exact TB5 | (go_split_ands; assumption)); rintro e w7 ⟨y4, hy4, rfl, b7⟩; have HY4 := Lib.hid hy4; obtain ⟨p7, p8⟩ := inP_of hy4 (crest_lt _); clear hy4))
          have B6 : Below w.heap.size w w6 := B5.trans ((below_of_drew b6).mono B5.size)
          have B7 : Below w.heap.size w w7 := B6.trans (b7.mono B6.size)
          clear b6 b7 hta htb
          have fx : ((y1 + y2) % 2305843009213693951 == (y3 + y4) % 2305843009213693951) = true := by
            have e := crest_sum hul hvl HAL.out HBL.out HSUM.out
            have g1 := HY1.out
            have g2 := HY2.out
            have g3 := HY3.out
            have g4 := HY4.out
            unfold Res at g1 g2 g3 g4
            rw [PR_eq] at e
            rw [beq_iff_eq]; omega
          go_wp2_with (go_at_call 10; refine (castHead_any C _ (by first | exact T.out | exact T.out.below (by assumption))).mono ?_; rintro e w8 ⟨rfl, b8⟩)
          go_ret
          exact ⟨rfl, B7.trans (b8.mono B7.size)⟩
    · have r1 := V2.out w.drew
      have q1 := below_of_drew (V1.out w.drew)
      clear x1 x2
      generalize nxV w.drew = w1 at *
      have r2 := U2.out w1
      have q2 := U1.out w1
      generalize nxU w1 = w2 at *
      have rb : BRow w2 w.heap.size v := r1.below q2 r1.lt
      have hne : w.heap.size ≠ w1.heap.size := by have := r1.lt; exact Nat.ne_of_lt this
      have hB : Below w.heap.size w w2 := q1.trans (q2.mono q1.size)
      generalize capV w.drew = c2
      generalize capU w1 = c1
      obtain ⟨gb, hgb⟩ : ∃ gb, gb = w.heap.size := ⟨_, rfl⟩
      obtain ⟨ga, hga⟩ : ∃ ga, ga = w1.heap.size := ⟨_, rfl⟩
      have gb0 : w.heap.size ≤ gb := by omega
      have ga0 : w.heap.size ≤ ga := by have := q1.size; omega
      have RA : Hid (BRow w2 ga u) := Lib.hid (by rw [hga]; exact r2)
      have RB : Hid (BRow w2 gb v) := Lib.hid (by rw [hgb]; exact rb)
      have hab : ga ≠ gb := by rw [hga, hgb]; exact hne.symm
      rw [← hga, ← hgb]
      clear hga hgb r1 q1 r2 q2 rb hne U1 U2 V1 V2
      go_wp2_with fail
      go_loopw [10] (fun i wr => SwapRel u v n ga gb w.heap.size w i wr) (fun i _ => n - (intOf i).toNat)
      case atStart => exact ⟨0, u, v, by omega, rfl, hul, hvl, fun _ _ => rfl, RA.out, RB.out, hB⟩
      case round =>
        obtain ⟨k, a, b, hk, rfl, hal, hbl, hsum, hra, hrb, hbel⟩ := hrel
        have hbs := hbel.size
        have hk0 : (0 : Int) ≤ (k : Int) := by omega
        have HSUM := Lib.hid hsum
        have HAL := Lib.hid hal
        have HBL := Lib.hid hbl
        clear hsum
        by_cases hkn : k < n
        · have hknI : (k : Int) < (n : Int) := by omega
          by_cases hkl : k < len
          · have hklI : (k : Int) < (len : Int) := by omega
            obtain ⟨bb, off, rfl, hbw, hc0⟩ := HC.out k hkl
            have hc1 : wr.cell? ⟨bb, off + k, none⟩ = some (.bool (z k)) := (hbel.cell (p := ⟨bb, off + k, none⟩) hbw).trans hc0
            clear hc0
            cases hz : z k with
            | true =>
              rw [hz] at hc1
              have hka : k < a.length := by omega
              have hkb : k < b.length := by omega
              have ca := hra.cell hka
              have cb := hrb.cell hkb
              have fa := hra.free hka
              have fb := hrb.free hkb
              obtain ⟨xa, hxa⟩ : ∃ xa, xa = a[k]'hka := ⟨_, rfl⟩
              obtain ⟨xb, hxb⟩ : ∃ xb, xb = b[k]'hkb := ⟨_, rfl⟩
              rw [← hxa] at ca
              rw [← hxb] at cb
              have SA := Lib.hid ((hra.set_ hka xb).far (g' := gb) (j := k) hab (.int .u8 (xa.toNat : Int)))
              have SB := Lib.hid ((hrb.far (g' := ga) (j := k) hab.symm (.int .u8 (xb.toNat : Int))).set_ hkb xa)
              have SS : Hid (∀ j, j < n → (u.getD j 0).toNat + (v.getD j 0).toNat = ((a.set k xb).getD j 0).toNat + ((b.set k xa).getD j 0).toNat) := Lib.hid (fun j hj => by
                rw [HSUM.out j hj]
                by_cases e : k = j
                · subst e
                  have g1 : a.getD k 0 = xa := by rw [hxa, List.getD_eq_getElem?_getD, List.getElem?_eq_getElem hka]; rfl
                  have g2 : b.getD k 0 = xb := by rw [hxb, List.getD_eq_getElem?_getD, List.getElem?_eq_getElem hkb]; rfl
                  have g3 : (a.set k xb).getD k 0 = xb := by simp [List.getD_eq_getElem?_getD, hka]
                  have g4 : (b.set k xa).getD k 0 = xa := by simp [List.getD_eq_getElem?_getD, hkb]
                  rw [g1, g2, g3, g4]; omega
                · simp [List.getD_eq_getElem?_getD, List.getElem?_set_ne e])
              have LA : Hid ((a.set k xb).length = n) := Lib.hid (by simpa using hal)
              have LB : Hid ((b.set k xa).length = n) := Lib.hid (by simpa using hbl)
              have BB : Hid (Below w.heap.size w ((wr.setCell ⟨ga, k, none⟩ (.int .u8 (xb.toNat : Int))).setCell ⟨gb, k, none⟩ (.int .u8 (xa.toNat : Int)))) := Lib.hid ((hbel.setCell (p := ⟨ga, k, none⟩) ga0 _).setCell (p := ⟨gb, k, none⟩) gb0 _)
              have hab2 : gb ≠ ga := hab.symm
              have ca2 : (wr.drew.setCell ⟨ga, k, none⟩ (.int .u8 (xb.toNat : Int))).cell? ⟨gb, k, none⟩ = some (.int .u8 (xb.toNat : Int)) := by rw [World.cell?_setCell_other]; exact cb; intro e; cases e; exact hab rfl
              clear hz hxa hxb hal hbl hra hrb hka hkb
              go_wp2_with fail
              go_region
              go_wp2_with fail
              go_roundw
              case rel => exact ⟨k + 1, _, _, by omega, by go_num, LA.out, LB.out, SS.out, SA.out, SB.out, BB.out.drew⟩
              case measure => simp [intOf]; omega
            | false =>
              rw [hz] at hc1
              clear hz
              go_wp2_with fail
              go_roundw
              case rel => exact ⟨k + 1, a, b, by omega, by go_num, HAL.out, HBL.out, HSUM.out, hra, hrb, hbel⟩
              case measure => simp [intOf]; omega
          · have hklI : (len : Int) ≤ (k : Int) := by omega
            clear hal hbl
            go_wp2_with fail
            go_region_held3 (fun W => Tab W) (first | exact (show Tab wr from T.out.below hbel) | exact (T.out.below hbel).below (below_of_drew b4) | exact Tab.below (by assumption) b5)
              (first
                | (go_at_call 13; (with_reducible refine (R1.out _ ?tab).mono ?_); (case tab => first | assumption | exact (show Tab wr from T.out.below hbel)); rintro e w4 ⟨y1, hy1, rfl, b4⟩; have HY1 := Lib.hid hy1; obtain ⟨p1, p2⟩ := inP_of hy1 (crest_lt _); clear hy1)
                | (go_at_call 13; (with_reducible refine (R2.out _ ?tab).mono ?_); (case tab => first | assumption | exact (show Tab wr from T.out.below hbel)); rintro e w5 ⟨y2, hy2, rfl, b5⟩; have HY2 := Lib.hid hy2; obtain ⟨p3, p4⟩ := inP_of hy2 (crest_lt _); clear hy2))
            have B4 : Below w.heap.size w w4 := hbel.trans ((below_of_drew b4).mono hbs)
            have B5 : Below w.heap.size w w5 := B4.trans (b5.mono B4.size)
            have RA4 : BRow w4 ga a := hra.below (below_of_drew b4) hra.lt
            have RB4 : BRow w4 gb b := hrb.below (below_of_drew b4) hrb.lt
            have TB5 : Tab w5 := T.out.below B5
            have RA5 : BRow w5 ga a := RA4.below b5 RA4.lt
            have RB5 : BRow w5 gb b := RB4.below b5 RB4.lt
            have hta : ∀ W, BRow W ga a → (convert 33 9 (.slice (some ⟨ga, 0, none⟩) n c1)).run Tryd.prog W = .ok (.string (mk a)) W := fun W hW => by have := hW.text (c := c1); rw [HAL.out] at this; exact this
            have htb : ∀ W, BRow W gb b → (convert 33 9 (.slice (some ⟨gb, 0, none⟩) n c2)).run Tryd.prog W = .ok (.string (mk b)) W := fun W hW => by have := hW.text (c := c2); rw [HBL.out] at this; exact this
            have R3 : Hid (∀ w, Tab w → Calls Tryd.prog 13 #[.string (mk a)] w (NumB w (crest a))) := Lib.hid (fun w hw => C.rest a w (by have := HAL.out; omega) hw)
            have R4 : Hid (∀ w, Tab w → Calls Tryd.prog 13 #[.string (mk b)] w (NumB w (crest b))) := Lib.hid (fun w hw => C.rest b w (by have := HBL.out; omega) hw)
            clear b4 b5 RA4 RB4 hra hrb hbel
            go_wp2_with fail
            go_region_held3 (fun W => Tab W ∧ BRow W ga a ∧ BRow W gb b) (first | exact ⟨TB5, RA5, RB5⟩ | exact ⟨TB5.below (below_of_drew b6), RA5.below (below_of_drew b6) RA5.lt, RB5.below (below_of_drew b6) RB5.lt⟩ | (go_split_ands; exact ⟨Tab.below (by assumption) b7, BRow.below (by assumption) b7 (BRow.lt (by assumption)), BRow.below (by assumption) b7 (BRow.lt (by assumption))⟩))
              (first
                | (go_at_call 13; (with_reducible refine (R3.out _ ?tab).mono ?_); (case tab => first | assumption | exact TB5 | (go_split_ands; assumption)); rintro e w6 ⟨y3, hy3, rfl, b6⟩; have HY3 := Lib.hid hy3; obtain ⟨p5, p6⟩ := inP_of hy3 (crest_lt _); clear hy3)
                | (go_at_call 13; (with_reducible refine (R4.out _ ?tab).mono ?_); (case tab => first | assumption | exact TB5 | (go_split_ands; assumption)); rintro e w7 ⟨y4, hy4, rfl, b7⟩; have HY4 := Lib.hid hy4; obtain ⟨p7, p8⟩ := inP_of hy4 (crest_lt _); clear hy4))
            have B6 : Below w.heap.size w w6 := B5.trans ((below_of_drew b6).mono B5.size)
            have B7 : Below w.heap.size w w7 := B6.trans (b7.mono B6.size)
            clear b6 b7 hta htb
            have fx : ((y1 + y2) % 2305843009213693951 == (y3 + y4) % 2305843009213693951) = true := by
              have e := crest_sum hul hvl HAL.out HBL.out HSUM.out
              have g1 := HY1.out
              have g2 := HY2.out
              have g3 := HY3.out
              have g4 := HY4.out
              unfold Res at g1 g2 g3 g4
              rw [PR_eq] at e
              rw [beq_iff_eq]; omega
            go_wp2_with (go_at_call 10; refine (castHead_any C _ (by first | exact T.out | exact T.out.below (by assumption))).mono ?_; rintro e w8 ⟨rfl, b8⟩)
            go_ret
            exact ⟨rfl, B7.trans (b8.mono B7.size)⟩
        · have hknI : (n : Int) ≤ (k : Int) := by omega
          clear hal hbl
          go_wp2_with fail
          go_region_held3 (fun W => Tab W) (first | exact (show Tab wr from T.out.below hbel) | exact (T.out.below hbel).below (below_of_drew b4) | exact Tab.below (by assumption) b5)
            (first
              | (go_at_call 13; (with_reducible refine (R1.out _ ?tab).mono ?_); (case tab => first | assumption | exact (show Tab wr from T.out.below hbel)); rintro e w4 ⟨y1, hy1, rfl, b4⟩; have HY1 := Lib.hid hy1; obtain ⟨p1, p2⟩ := inP_of hy1 (crest_lt _); clear hy1)
              | (go_at_call 13; (with_reducible refine (R2.out _ ?tab).mono ?_); (case tab => first | assumption | exact (show Tab wr from T.out.below hbel)); rintro e w5 ⟨y2, hy2, rfl, b5⟩; have HY2 := Lib.hid hy2; obtain ⟨p3, p4⟩ := inP_of hy2 (crest_lt _); clear hy2))
          have B4 : Below w.heap.size w w4 := hbel.trans ((below_of_drew b4).mono hbs)
          have B5 : Below w.heap.size w w5 := B4.trans (b5.mono B4.size)
          have RA4 : BRow w4 ga a := hra.below (below_of_drew b4) hra.lt
          have RB4 : BRow w4 gb b := hrb.below (below_of_drew b4) hrb.lt
          have TB5 : Tab w5 := T.out.below B5
          have RA5 : BRow w5 ga a := RA4.below b5 RA4.lt
          have RB5 : BRow w5 gb b := RB4.below b5 RB4.lt
          have hta : ∀ W, BRow W ga a → (convert 33 9 (.slice (some ⟨ga, 0, none⟩) n c1)).run Tryd.prog W = .ok (.string (mk a)) W := fun W hW => by have := hW.text (c := c1); rw [HAL.out] at this; exact this
          have htb : ∀ W, BRow W gb b → (convert 33 9 (.slice (some ⟨gb, 0, none⟩) n c2)).run Tryd.prog W = .ok (.string (mk b)) W := fun W hW => by have := hW.text (c := c2); rw [HBL.out] at this; exact this
          have R3 : Hid (∀ w, Tab w → Calls Tryd.prog 13 #[.string (mk a)] w (NumB w (crest a))) := Lib.hid (fun w hw => C.rest a w (by have := HAL.out; omega) hw)
          have R4 : Hid (∀ w, Tab w → Calls Tryd.prog 13 #[.string (mk b)] w (NumB w (crest b))) := Lib.hid (fun w hw => C.rest b w (by have := HBL.out; omega) hw)
          clear b4 b5 RA4 RB4 hra hrb hbel
          go_wp2_with fail
          go_region_held3 (fun W => Tab W ∧ BRow W ga a ∧ BRow W gb b) (first | exact ⟨TB5, RA5, RB5⟩ | exact ⟨TB5.below (below_of_drew b6), RA5.below (below_of_drew b6) RA5.lt, RB5.below (below_of_drew b6) RB5.lt⟩ | (go_split_ands; exact ⟨Tab.below (by assumption) b7, BRow.below (by assumption) b7 (BRow.lt (by assumption)), BRow.below (by assumption) b7 (BRow.lt (by assumption))⟩))
            (first
              | (go_at_call 13; (with_reducible refine (R3.out _ ?tab).mono ?_); (case tab => first | assumption | exact TB5 | (go_split_ands; assumption)); rintro e w6 ⟨y3, hy3, rfl, b6⟩; have HY3 := Lib.hid hy3; obtain ⟨p5, p6⟩ := inP_of hy3 (crest_lt _); clear hy3)
              | (go_at_call 13; (with_reducible refine (R4.out _ ?tab).mono ?_); (case tab => first | assumption | exact TB5 | (go_split_ands; assumption)); rintro e w7 ⟨y4, hy4, rfl, b7⟩; have HY4 := Lib.hid hy4; obtain ⟨p7, p8⟩ := inP_of hy4 (crest_lt _); clear hy4))
          have B6 : Below w.heap.size w w6 := B5.trans ((below_of_drew b6).mono B5.size)
          have B7 : Below w.heap.size w w7 := B6.trans (b7.mono B6.size)
          clear b6 b7 hta htb
          have fx : ((y1 + y2) % 2305843009213693951 == (y3 + y4) % 2305843009213693951) = true := by
            have e := crest_sum hul hvl HAL.out HBL.out HSUM.out
            have g1 := HY1.out
            have g2 := HY2.out
            have g3 := HY3.out
            have g4 := HY4.out
            unfold Res at g1 g2 g3 g4
            rw [PR_eq] at e
            rw [beq_iff_eq]; omega
          go_wp2_with (go_at_call 10; refine (castHead_any C _ (by first | exact T.out | exact T.out.below (by assumption))).mono ?_; rintro e w8 ⟨rfl, b8⟩)
          go_ret
          exact ⟨rfl, B7.trans (b8.mono B7.size)⟩
end Go.Proofs.YtemekdoogocapaaDoor
