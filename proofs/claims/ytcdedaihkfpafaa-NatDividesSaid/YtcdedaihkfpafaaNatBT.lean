/-
  LAYER 3: the texts NatQText, one behind the other.
-/
import Derived.Test.YtcdedaihkfpafaaNatB9
import Derived.Test.YtcdedaihkfpafaaNatB6

namespace Go.Proofs.Ytcdedaihkfpafaa
open Go.RowKit

theorem made_bytes {w0 : World} {B n g : Nat} (h : w0.ownsRow B 5 1 (.slice (some ⟨g, 0, none⟩) n n) n (madeCells (Value.int .u8 0).cells (n * 1)).toList) : BS w0 g (List.replicate n 0) := by
  rw [show (Value.int .u8 0).cells = #[.int .u8 0] from rfl, toList_madeCells_one, Nat.mul_one] at h
  rcases h.2 with ⟨he, _⟩ | ⟨g', cap, cur, he, _, hg, _, _, _, htk⟩
  · cases he
  · cases he
    refine ⟨cur, hg, fun i hi => ?_⟩
    rw [List.length_replicate] at hi
    rw [Nat.mul_one] at htk
    have e : (cur.toList.take n)[i]? = (List.replicate n (Value.int .u8 0))[i]? := by rw [htk]
    rw [List.getElem?_take, if_pos hi, List.getElem?_replicate, if_pos hi] at e
    rw [List.getD_eq_getElem?_getD, List.getElem?_replicate, if_pos hi]
    simpa using e
theorem NRow.of_block {B g n cap : Nat} {w w' : World} {L : List Nat} (h : NRow B w (.slice (some ⟨g, 0, none⟩) n cap) L) (e : w'.heap[g]? = w.heap[g]?) : NRow B w' (.slice (some ⟨g, 0, none⟩) n cap) L := by
  refine ⟨h.1, ?_⟩
  rcases h.2 with ⟨he, _⟩ | ⟨g', cap', cur, he, hg0, hg, rest⟩
  · cases he
  · cases he
    exact .inr ⟨g, _, cur, rfl, hg0, e.trans hg, rest⟩
/-- There is room for a group more. -/
theorem room_more {na N j : Nat} (h : na < 2 ^ (64 * N)) (hx : na / 10 ^ (19 * j) ≠ 0) : 63 * j < 64 * N := by
  have h1 : 10 ^ (19 * j) ≤ na := Nat.le_of_not_lt (fun hlt => hx (Nat.div_eq_of_lt hlt))
  have h2 : 2 ^ (63 * j) ≤ 10 ^ (19 * j) := by
    rw [Nat.pow_mul, Nat.pow_mul]
    exact Nat.pow_le_pow_left (by decide) _
  exact (Nat.pow_lt_pow_iff_right (a := 2) (by omega)).1 (by omega)

def TextAt (B na R g g2 cap2 : Nat) (w : World) (v i : Value) (W : World) : Prop :=
  ∃ j q x : Nat, q + 19 * j = R ∧ x = na / 10 ^ (19 * j) ∧ v = .slice (some ⟨g2, 0, none⟩) (nrow x).length cap2 ∧ i = .int .i64 (q : Int) ∧ NRow B W (.slice (some ⟨g2, 0, none⟩) (nrow x).length cap2) (nrow x) ∧ BS W g (List.replicate q 0 ++ pad (19 * j) na) ∧ Below B w W

set_option maxRecDepth 100000 in
set_option maxHeartbeats 4000000 in
theorem text_p {K : Nat} {w : World} {va : Value} {na : Nat} (ha : NNum K w va na) (hK : K ≤ 1099511627776) (hs : Short na) : Calls Try.prog 28 #[va] w (StrPost (decT na) w) := by
  have HT := Lib.hid (trim_v ha hK)
  obtain ⟨a, ca, A, rfl, _, _, _, _, _, _⟩ := ha
  have hd : decide (2048 < (nrow na).length) = false := by simpa using hs
  have hsl : (nrow na).length ≤ 2048 := hs
  clear hs
  obtain ⟨i0, hi, hz0, hz1, hz2⟩ := info_parts info_u8
  by_cases h0 : na = 0
  · have HE : Hid (decT na = [48]) := Lib.hid (by unfold decT; rw [if_pos h0])
    have hz : (nrow na).length = 0 := by rw [h0]; rfl
    go_enter Try.func28, Try.ntmps28
    go_wp2_with fail
    refine HT.out.mono ?_
    rintro e w' ⟨v, rfl, hv, rfl⟩
    obtain ⟨a', cap', rfl, _, _, _⟩ := hv
    rw [hz] at hd ⊢
    go_wp2_with (go_at_call 30; refine (long_one _ _ _ _ _).mono ?_; rw [hd]; rintro e w2 ⟨rfl, rfl⟩)
    go_ret
    exact ⟨by rw [HE.out]; rfl, (Below.refl _ _).alloc (Nat.le_refl _) _⟩
  · have HE : Hid (decT na = dec na) := Lib.hid (by unfold decT; rw [if_neg h0])
    obtain ⟨N, hN⟩ : ∃ N, N = (nrow na).length := ⟨_, rfl⟩
    have hN0 : 0 < N := by
      rw [hN]; rcases Nat.eq_zero_or_pos (nrow na).length with h | h
      · exact absurd (nrow_nil.1 (List.eq_nil_of_length_eq_zero h)) h0
      · exact h
    have hnz : ¬ (N : Int) = 0 := by omega
    have hNI : (N : Int) ≤ 2048 := by omega
    have hN1 : (0 : Int) ≤ (N : Int) := by omega
    obtain ⟨R, hR⟩ : ∃ R, R = 19 * (64 * N / 63 + 1) := ⟨_, rfl⟩
    have HRR : Hid ((19 : Int) * ((64 * (N : Int)) / 63 + 1) = (R : Int)) := Lib.hid (by omega)
    have hRI : (R : Int) ≤ 100000 := by omega
    have HLT : Hid (na < 2 ^ (64 * N)) := Lib.hid (by have := lv_lt (nrow_fits na); rwa [lv_nrow, ← hN] at this)
    have H0 := Lib.hid h0
    obtain ⟨B, hB⟩ : ∃ B, B = w.heap.size := ⟨_, rfl⟩
    have HBB := Lib.hid hB
    have HN := Lib.hid hN
    have HR := Lib.hid hR
    clear hB hR h0
    go_enter Try.func28, Try.ntmps28
    go_wp2_with fail
    refine HT.out.mono ?_
    rintro e w' ⟨v, rfl, hv, rfl⟩
    have HV := Lib.hid hv
    obtain ⟨a', cap', rfl, _, _, _⟩ := hv
    rw [← hN] at hd hsl ⊢
    clear hN
    go_wp2_with (first
      | (go_at_call 30; refine (long_one _ _ _ _ _).mono ?_; rw [hd]; rintro e w2 ⟨rfl, rfl⟩)
      | fail)
    have HB : Hid (Below w.heap.size w (w.alloc (.cells #[.slice a' N cap'] 23))) := Lib.hid ((Below.refl _ _).alloc (Nat.le_refl _) _)
    have hcl := (clone_v (HV.out.below HB.out) (by rw [← HN.out]; omega)).mono (fun e w2 h => h.more HB.out)
    rw [← HN.out] at hcl
    refine hcl.mono ?_
    rintro e w2 ⟨v, rfl, hr, hb2⟩
    obtain ⟨g2, cap2, rfl⟩ := hr.form (by rw [← HN.out]; exact hN0)
    rw [← HBB.out] at hr hb2
    have HR2 := Lib.hid hr
    have HB2 := Lib.hid hb2
    have HG2 : Hid (g2 < w2.heap.size) := Lib.hid hr.seg.2.2.2.2.2.block
    rw [← HN.out]
    clear hcl hr hb2
    obtain ⟨g, hg⟩ : ∃ g, g = w2.heap.size := ⟨_, rfl⟩
    have HG := Lib.hid hg
    clear hg
    go_wp2_with (
      (at_make
       refine wpList_make_full _ rfl _ _ 56 rfl B 5 i0 (.int .u8 0) 1 Try.underlying56 hi hz0 hz1 .i64 .i64 _ _ R rfl rfl HRR.out HRR.out (by rw [hz2]; omega) (by unfold maxLen; omega) (by have h1 := HB2.out.size; have h2 := HBB.out; omega) ?_
       rw [← HG.out]
       intro w0 hown0 hg0
       have HBS : Hid (BS w0 g (List.replicate R 0)) := Lib.hid (made_bytes hown0)
       have HR0 : Hid (NRow B w0 (.slice (some ⟨g2, 0, none⟩) (nrow na).length cap2) (nrow na)) := Lib.hid (HR2.out.of_block (hg0.block g2 HG2.out (by simp)))
       have HB0 : Hid (Below B w w0) := Lib.hid (HB2.out.grown hg0 (by have h1 := HB2.out.size; have h2 := HBB.out; omega) (fun k hk => by cases hk))
       clear hown0 hg0))
    go_loopw [3, 5] (fun v i W => TextAt B na R g g2 cap2 w v i W) (fun _ i _ => (intOf i).toNat)
    case atStart =>
      refine ⟨0, R, na, by omega, by rw [Nat.mul_zero, Nat.pow_zero, Nat.div_one], by rw [← HN.out], rfl, HR0.out, ?_, HB0.out⟩
      have h : pad (19 * 0) na = [] := rfl
      rw [h, List.append_nil]; exact HBS.out
    case round =>
      obtain ⟨j, q, x, hq, hx, rfl, rfl, hrow, hbs, hbel⟩ := hrel
      have HX := Lib.hid hx
      have HROW := Lib.hid hrow
      have HBSW := Lib.hid hbs
      have HBEL := Lib.hid hbel
      clear hx hrow hbs hbel
      by_cases hx0 : x = 0
      · subst hx0
        have hna : na < 10 ^ (19 * j) := (Nat.div_eq_zero_iff_lt (Nat.pow_pos (by omega))).1 HX.out.symm
        obtain ⟨z, hz⟩ : ∃ z, z = 19 * j - (dec na).length := ⟨_, rfl⟩
        have hpd := pad_dec (19 * j) na hna
        rw [← hz] at hpd
        obtain ⟨c, t, hct, hc⟩ := dec_head H0.out
        have hdl := dec_length hna
        obtain ⟨D, hD⟩ : ∃ D, D = List.replicate q (0 : UInt8) ++ (List.replicate z 48 ++ dec na) := ⟨_, rfl⟩
        have hDl : D.length = R := by rw [hD]; simp; omega
        have hbsD : BS wr g D := by rw [hD, ← hpd]; exact HBSW.out
        have hget : ∀ s, s < z → (D.getD (q + s) 0).toNat = 48 := fun s hs => by
          rw [hD, List.getD_eq_getElem?_getD, List.getElem?_append_right (by simp), List.length_replicate, Nat.add_sub_cancel_left, List.getElem?_append_left (by simpa using hs), List.getElem?_replicate, if_pos hs]
          rfl
        have hgetz : (D.getD (q + z) 0).toNat ≠ 48 := by
          rw [hD, List.getD_eq_getElem?_getD, List.getElem?_append_right (by simp), List.length_replicate, Nat.add_sub_cancel_left, List.getElem?_append_right (by simp), List.length_replicate, Nat.sub_self, hct]
          simpa using hc
        have hzR : q + z < R := by
          have h1 : 0 < (dec na).length := by rw [hct]; simp
          omega
        have hcv := hbsD.conv (q + z) (R - (q + z)) (by omega)
        have hdrop : D.drop (q + z) = dec na := by
          rw [hD, ← List.append_assoc, List.drop_left' (by simp)]
        rw [hdrop, hDl] at hcv
        have HCELL : Hid (∀ i, i < R → wr.cell? ⟨g, i, none⟩ = some (.int .u8 ((D.getD i 0).toNat : Int))) := Lib.hid (fun i hi => hbsD.cell (by omega))
        have HGET := Lib.hid hget
        have HGETZ := Lib.hid hgetz
        have HZR := Lib.hid hzR
        have HCV := Lib.hid hcv
        clear hna hpd hct hc hdl hbsD hget hgetz hzR hcv hdrop hDl hD hz
        have hlen0 : (nrow 0).length = 0 := rfl
        rw [hlen0]
        go_wp2_with fail
        go_loop [5] (fun i => ∃ s, s ≤ z ∧ i = .int .i64 ((q + s : Nat) : Int)) (fun i => R - (intOf i).toNat)
        case atStart => exact ⟨0, Nat.zero_le _, rfl⟩
        case round =>
          obtain ⟨s, hsz, rfl⟩ := hrel
          obtain ⟨p, hp⟩ : ∃ p, p = q + s := ⟨_, rfl⟩
          rw [← hp]
          have hpR : (p : Int) < (R : Int) := by have := HZR.out; omega
          have hp0 : (0 : Int) ≤ (p : Int) := by omega
          have hcell := HCELL.out p (by omega)
          by_cases hlt : s < z
          · have hv := HGET.out s hlt
            rw [← hp] at hv
            rw [hv] at hcell
            have HP : Hid (p + 1 = q + (s + 1) ∧ s + 1 ≤ z ∧ p < R) := Lib.hid ⟨by omega, hlt, by omega⟩
            clear hp hlt hsz hv
            go_wp2_with fail
            go_round
            case rel => exact ⟨s + 1, HP.out.2.1, by rw [← HP.out.1]; go_num⟩
            case measure => have := HP.out.2.2; simp [intOf]; omega
          · obtain rfl : s = z := by omega
            have hv := HGETZ.out
            rw [← hp] at hv
            generalize (D.getD p 0) = y at hcell hv
            have hne : ((y.toNat : Int) == 48) = false := by simp; omega
            have hne2 : ¬ (y.toNat : Int) = 48 := by omega
            have hcv := HCV.out
            rw [← hp] at hcv
            have hpRn : p ≤ R := by omega
            clear hp hlt hsz hv
            go_wp2_with fail
            go_ret
            exact ⟨by rw [HE.out]; rfl, by rw [← HBB.out]; exact HBEL.out⟩
      · have hlen : 0 < (nrow x).length := by
          rcases Nat.eq_zero_or_pos (nrow x).length with h | h
          · exact absurd (nrow_nil.1 (List.eq_nil_of_length_eq_zero h)) hx0
          · exact h
        obtain ⟨X, hX⟩ : ∃ X, X = (nrow x).length := ⟨_, rfl⟩
        have hXI : (0 : Int) < (X : Int) := by omega
        have hXle : X ≤ 1099511627776 := by
          rw [hX]
          have h1 : (nrow x).length ≤ N := nrow_length_le (Nat.lt_of_le_of_lt (by rw [HX.out]; exact Nat.div_le_self _ _) HLT.out)
          omega
        have hroom := room_more (j := j) HLT.out (by rw [← HX.out]; exact hx0)
        obtain ⟨q', rfl⟩ : ∃ q', q = q' + 19 := ⟨q - 19, by have := HR.out; omega⟩
        obtain ⟨Q, hQ⟩ : ∃ Q, Q = q' + 19 := ⟨_, rfl⟩
        have hsg := HROW.out.seg
        have hby := divideByLimb_any g2 0 cap2 10000000000000000000 (nrow x) wr (by omega) (nrow_fits _) (by omega) (by omega) hsg.2.2.2.2.2
        have HGB : Hid (B ≤ g2) := Lib.hid hsg.2.2.1
        rw [← hX] at hby ⊢
        have HBY := Lib.hid hby
        rw [← hQ] at HBSW hq ⊢
        have HBSW := Lib.hid HBSW.out
        have hQ1 : (Q : Int) - 19 = (q' : Int) := by omega
        have hQ2 : (q' : Int) ≤ (Q : Int) := by omega
        have hQ3 : (Q : Int) ≤ (R : Int) := by omega
        have hq0 : (0 : Int) ≤ (q' : Int) := by omega
        have HXL := Lib.hid hX
        have HQ := Lib.hid hQ
        have hgne : g ≠ g2 := by have h1 := HG.out; have h2 := HG2.out; omega
        have hgw : g < wr.heap.size := HBSW.out.block
        clear hsg hby hX hQ hx0 hlen
        go_wp2_with fail
        refine HBY.out.mono ?_
        rintro e w3 ⟨O, r, rfl, hO, fO, hqv, hrv, hs3, hw3⟩
        rw [lv_nrow] at hqv hrv
        have hrow3 := HROW.out.wrote (by simpa using hw3) hs3 hO
        have hO' : O.length = X := by rw [hO, HXL.out]
        have hcp := hrow3.seg
        have ht := trim_any (some ⟨g2, 0, none⟩) cap2 O w3 (by omega) hcp.2.2.2.1 fO hs3.natAt
        rw [hO', hqv] at ht
        have HTR := Lib.hid ht
        have HROW3 : Hid (NRow B w3 (.slice (some ⟨g2, 0, none⟩) (nrow (x / 10000000000000000000)).length cap2) (nrow (x / 10000000000000000000))) := Lib.hid (by
          have h : NRow B w3 (.slice (some ⟨g2, 0, none⟩) O.length cap2) O := by rw [hO]; exact hrow3
          have h := h.norm fO
          rwa [hqv] at h)
        have HBS3 : Hid (BS w3 g (List.replicate Q 0 ++ pad (19 * j) na)) := Lib.hid (HBSW.out.of_block (hw3.other hgw hgne))
        have HBEL3 : Hid (Below B w w3) := Lib.hid (HBEL.out.trans (hw3.below (by have h1 := HBEL.out.size; have h2 := HBB.out; omega) HGB.out))
        have hr64 : r < 18446744073709551616 := by rw [hrv]; exact Nat.lt_trans (Nat.mod_lt _ (by omega)) (by omega)
        have hfill := fill_any g q' 19 r (pad (19 * j) na) w3 hr64 (by rw [← HQ.out]; exact HBS3.out)
        have HF := Lib.hid hfill
        have HRV := Lib.hid hrv
        clear hO fO hqv hrv hs3 hw3 hrow3 hO' hcp ht hfill hr64
        go_wp2_with fail
        refine HTR.out.mono ?_
        rintro e w4 ⟨rfl, rfl⟩
        go_wp2_with fail
        rw [show Q - q' = 19 by have := HQ.out; omega]
        with_reducible refine HF.out.mono ?_
        rintro e w5 ⟨rfl, hbs5, hgr5⟩
        have HBS5 : Hid (BS w5 g (List.replicate q' 0 ++ pad (19 * (j + 1)) na)) := Lib.hid (by
          have h : pad (19 * (j + 1)) na = pad 19 r ++ pad (19 * j) na := by
            rw [show 19 * (j + 1) = 19 + 19 * j by omega, pad_add, ← HX.out, HRV.out]
            exact congrArg (· ++ _) (pad_mod 19 x).symm
          rw [h]; exact hbs5)
        have HROW5 : Hid (NRow B w5 (.slice (some ⟨g2, 0, none⟩) (nrow (x / 10000000000000000000)).length cap2) (nrow (x / 10000000000000000000))) := Lib.hid (HROW3.out.of_block (hgr5.block g2 (by have := HROW3.out.seg.2.2.2.2.2.block; omega) (fun e => hgne (by cases e; rfl))))
        have HBEL5 : Hid (Below B w w5) := Lib.hid (HBEL3.out.grown hgr5 (by have h1 := HBEL3.out.size; have h2 := HBB.out; omega) (fun k hk => by cases hk; have h1 := HG.out; have h2 := HB2.out.size; have h3 := HBB.out; omega))
        have HXN : Hid (x / 10000000000000000000 = na / 10 ^ (19 * (j + 1))) := Lib.hid (by
          rw [HX.out, Nat.div_div_eq_div_mul, show 19 * (j + 1) = 19 * j + 19 by omega, Nat.pow_add])
        clear hbs5 hgr5
        go_wp2_with fail
        go_round
        case rel => exact ⟨j + 1, q', _, by have := HQ.out; omega, HXN.out, rfl, rfl, HROW5.out, HBS5.out, HBEL5.out⟩
        case measure => have := HQ.out; simp [intOf]; omega
end Go.Proofs.Ytcdedaihkfpafaa
