/-
  LAYER 3: the texts NatQParse, NatQGroup, NatQFrom, NatQFill, one behind the other.
-/
import Derived.Test.YtcdedaihkfpafaaNatB3
import Derived.Test.YtcdedaihkfpafaaNatA4
import Derived.Test.YtcdedaihkfpafaaNatB5

namespace Go.Proofs.Ytcdedaihkfpafaa
open Go.RowKit

def isDb (b : UInt8) : Bool := decide (48 ≤ b.toNat) && decide (b.toNat ≤ 57)
theorem isDb_iff (b : UInt8) : isDb b = true ↔ isD b := by unfold isDb isD; simp
def cntD (l : List UInt8) : Nat := (l.filter isDb).length
theorem cntD_snoc (l : List UInt8) (b : UInt8) : cntD (l ++ [b]) = cntD l + (if isDb b then 1 else 0) := by
  unfold cntD
  rw [List.filter_append, List.length_append]
  cases h : isDb b <;> simp [h]
theorem cntD_le (l : List UInt8) : cntD l ≤ l.length := List.length_filter_le _ _
theorem cntD_all {l : List UInt8} : cntD l = l.length ↔ allD l := by
  unfold cntD
  rw [List.length_filter_eq_length_iff]
  exact ⟨fun h b hb => (isDb_iff b).1 (h b hb), fun h b hb => (isDb_iff b).2 (h b hb)⟩

set_option maxHeartbeats 2000000 in
theorem countDigits_any (l : List UInt8) (w : World) (hl : l.length ≤ 4294967296) :
    Calls Try.prog 53 #[.string (mk l)] w (Same (.int .i64 ((cntD l : Nat) : Int)) w) := by
  have hs : (((mk l).size : Nat) : Int) ≤ 4294967296 := by rw [mk_size]; omega
  have HLL := Lib.hid hl
  clear hl
  go_enter Try.func53, Try.ntmps53
  go_wp2_with fail
  go_loop [3, 7] (fun n i => ∃ k c : Nat, k ≤ l.length ∧ i = .int .i64 (k : Int) ∧ n = .int .i64 (c : Int) ∧ c = cntD (l.take k)) (fun _ i => l.length - (intOf i).toNat)
  case atStart => exact ⟨0, 0, Nat.zero_le _, rfl, rfl, rfl⟩
  case round =>
    obtain ⟨k, c, hk, rfl, rfl, hc⟩ := hrel
    have hk0 : (0 : Int) ≤ (k : Int) := by omega
    have hcb : c ≤ k := by have := cntD_le (l.take k); rw [List.length_take] at this; omega
    have hcI : (c : Int) ≤ 4294967296 := by have := HLL.out; omega
    have hc0 : (0 : Int) ≤ (c : Int) := by omega
    have HC := Lib.hid hc
    clear hc
    by_cases hlt : k < l.length
    · have hkI : (k : Int) < (((mk l).size : Nat) : Int) := by rw [mk_size]; omega
      have hkN : k < (mk l).size := by rw [mk_size]; omega
      have ek : ∀ hq, (mk l)[k]'hq = l[k]'hlt := fun _ => rfl
      have HTK : Hid (l.take (k + 1) = l.take k ++ [l[k]'hlt]) := Lib.hid (List.take_succ_eq_append_getElem hlt)
      have HLT := Lib.hid hlt
      generalize l[k]'hlt = b at *
      by_cases h1 : 48 ≤ b.toNat
      · have b1 : (48 : Int) ≤ (b.toNat : Int) := by omega
        by_cases h2 : b.toNat ≤ 57
        · have b2 : (b.toNat : Int) ≤ 57 := by omega
          have HN : Hid (c + 1 = cntD (l.take (k + 1))) := Lib.hid (by rw [HTK.out, cntD_snoc, ← HC.out, if_pos ((isDb_iff b).2 ⟨h1, h2⟩)])
          clear h1 h2 hlt
          go_wp2_with fail
          go_round
          case rel => exact ⟨k + 1, c + 1, HLT.out, by go_num, by go_num, HN.out⟩
          case measure => have := HLT.out; simp [intOf]; omega
        · have b2 : ¬ (b.toNat : Int) ≤ 57 := by omega
          have b3 : decide ((b.toNat : Int) ≤ 57) = false := by simp; omega
          have HN : Hid (c = cntD (l.take (k + 1))) := Lib.hid (by rw [HTK.out, cntD_snoc, ← HC.out, if_neg (fun h => h2 ((isDb_iff b).1 h).2)]; rfl)
          clear h1 h2 hlt
          go_wp2_with fail
          go_round
          case rel => exact ⟨k + 1, c, HLT.out, by go_num, rfl, HN.out⟩
          case measure => have := HLT.out; simp [intOf]; omega
      · have b1 : ¬ (48 : Int) ≤ (b.toNat : Int) := by omega
        have b3 : decide ((48 : Int) ≤ (b.toNat : Int)) = false := by simp; omega
        have HN : Hid (c = cntD (l.take (k + 1))) := Lib.hid (by rw [HTK.out, cntD_snoc, ← HC.out, if_neg (fun h => h1 ((isDb_iff b).1 h).1)]; rfl)
        clear h1 hlt
        go_wp2_with fail
        go_round
        case rel => exact ⟨k + 1, c, HLT.out, by go_num, rfl, HN.out⟩
        case measure => have := HLT.out; simp [intOf]; omega
    · have hkI : (((mk l).size : Nat) : Int) ≤ (k : Int) := by rw [mk_size]; omega
      have hkl : l.take k = l := List.take_of_length_le (by omega)
      rw [hkl] at HC
      have HC := Lib.hid HC
      clear hkl hlt
      go_wp2_with fail
      go_ret
      exact ⟨by rw [← HC.out]; rfl, rfl⟩
end Go.Proofs.Ytcdedaihkfpafaa

namespace Go.Proofs.Ytcdedaihkfpafaa
open Go.RowKit

theorem NRow.form {B : Nat} {w : World} {v : Value} {L : List Nat} (h : NRow B w v L) (hl : 0 < L.length) : ∃ g cap, v = .slice (some ⟨g, 0, none⟩) L.length cap := by
  rcases h.2 with ⟨_, h0⟩ | ⟨g, cap, _, hv, _⟩
  · omega
  · exact ⟨g, cap, hv⟩
theorem NRow.above {B n ca bl o : Nat} {w : World} {L : List Nat} (h : NRow B w (.slice (some ⟨bl, o, none⟩) n ca) L) : B ≤ bl := by
  rcases h.2 with ⟨h0, _⟩ | ⟨g, cap, _, hv, hg, _⟩
  · cases h0
  · cases hv; exact hg
/-- A row of the call's own, not nil. -/
def GRes (B n : Nat) (w : World) (e : Ending) (w' : World) : Prop :=
  ∃ g cap, e = .returned (.slice (some ⟨g, 0, none⟩) (nrow n).length cap) ∧ NRow B w' (.slice (some ⟨g, 0, none⟩) (nrow n).length cap) (nrow n) ∧ Below B w w'

theorem allD_take {l : List UInt8} (h : allD l) (k : Nat) : allD (l.take k) := fun b hb => h b (List.mem_of_mem_take hb)
theorem pow10_le {k : Nat} (hk : k ≤ 18) : 10 ^ k ≤ 1000000000000000000 := Nat.pow_le_pow_right (j := 18) (by omega) hk

set_option maxRecDepth 100000 in
set_option maxHeartbeats 4000000 in
theorem appendGroup_any (B g cap x : Nat) (l : List UInt8) (w : World) (hl : l.length ≤ 19) (had : allD l) (hx : (nrow x).length ≤ 1048576) (hB : B ≤ w.heap.size) (hr : NRow B w (.slice (some ⟨g, 0, none⟩) (nrow x).length cap) (nrow x)) :
    Calls Try.prog 69 #[.slice (some ⟨g, 0, none⟩) (nrow x).length cap, .string (mk l)] w (GRes B (x * 10000000000000000000 + val10 l) w) := by
  obtain ⟨i0, hi, hz0, hz1, hz2⟩ := info_parts info_u64
  have hs : (((mk l).size : Nat) : Int) ≤ 19 := by rw [mk_size]; omega
  obtain ⟨N, hN⟩ : ∃ N, N = (nrow x).length := ⟨_, rfl⟩
  have HN := Lib.hid hN
  have HL := Lib.hid hl
  have HAD := Lib.hid had
  have HR := Lib.hid hr
  have hNb : N ≤ 1048576 := by omega
  have hsg := hr.seg.2.2.2.2.2
  have hgB := hr.seg.2.2.1
  have hgl := hsg.block
  have hat := addTimes_any g 0 cap cap 9999999999999999999 (some ⟨g, 0, none⟩) (nrow x) (nrow x) w (by omega) (Nat.le_refl _) (nrow_fits _) (nrow_fits _) (by omega) hsg (.inr ⟨rfl, rfl⟩)
  rw [← hN] at hat ⊢
  have HAT : Hid (Calls Try.prog 64 #[.slice (some ⟨g, 0, none⟩) N cap, .slice (some ⟨g, 0, none⟩) N cap, .int .u64 9999999999999999999] w (TimesPost g 0 9999999999999999999 (nrow x) (nrow x) w)) := Lib.hid hat
  have HGB := Lib.hid hgB
  have HGL := Lib.hid hgl
  clear hN hl had hr hsg hat hx hgB hgl
  go_enter Try.func69, Try.ntmps69
  go_wp2_with fail
  go_loop [5, 9] (fun n i => ∃ k c : Nat, k ≤ l.length ∧ i = .int .i64 (k : Int) ∧ n = .int .u64 (c : Int) ∧ c = val10 (l.take k)) (fun _ i => l.length - (intOf i).toNat)
  case atStart => exact ⟨0, 0, Nat.zero_le _, rfl, rfl, rfl⟩
  case round =>
    obtain ⟨k, c, hk, rfl, rfl, hc⟩ := hrel
    have hk0 : (0 : Int) ≤ (k : Int) := by omega
    have hc0 : (0 : Int) ≤ (c : Int) := by omega
    have HC := Lib.hid hc
    clear hc
    by_cases hlt : k < l.length
    · have hkI : (k : Int) < (((mk l).size : Nat) : Int) := by rw [mk_size]; omega
      have hkN : k < (mk l).size := by rw [mk_size]; omega
      have ek : ∀ hq, (mk l)[k]'hq = l[k]'hlt := fun _ => rfl
      have HTK : Hid (l.take (k + 1) = l.take k ++ [l[k]'hlt]) := Lib.hid (List.take_succ_eq_append_getElem hlt)
      have hbd : isD (l[k]'hlt) := HAD.out _ (List.getElem_mem hlt)
      have hcb : c < 1000000000000000000 := by
        rw [HC.out]
        refine Nat.lt_of_lt_of_le (val10_lt (allD_take HAD.out k)) (pow10_le ?_)
        rw [List.length_take]; have := HL.out; omega
      have HLT := Lib.hid hlt
      generalize l[k]'hlt = b at *
      unfold isD at hbd
      obtain ⟨d, hd⟩ : ∃ d, d = b.toNat - 48 := ⟨_, rfl⟩
      have hbsub : (b.toNat : Int) - 48 = (d : Int) := by omega
      have b1 : (48 : Int) ≤ (b.toNat : Int) := by omega
      have b2 : (b.toNat : Int) ≤ 57 := by omega
      have d0 : (0 : Int) ≤ (d : Int) := by omega
      have d9 : (d : Int) ≤ 9 := by omega
      have hcI : (c : Int) < 1000000000000000000 := by omega
      have hw8 : IntKind.u8.wrap (d : Int) = (d : Int) := IntWalk.u8_in _ (by omega)
      have hw64 : IntKind.u64.wrap (d : Int) = (d : Int) := IntWalk.u64_in _ (by omega)
      have HV : Hid (10 * c + d = val10 (l.take (k + 1))) := Lib.hid (by rw [HTK.out, val10_snoc, ← HC.out, hd, Nat.mul_comm])
      clear hbd hcb hd hlt
      go_wp2_with fail
      go_round
      case rel => exact ⟨k + 1, 10 * c + d, HLT.out, by go_num, by first | rfl | go_num | simp, HV.out⟩
      case measure => have := HLT.out; simp [intOf]; omega
    · have hkI : (((mk l).size : Nat) : Int) ≤ (k : Int) := by rw [mk_size]; omega
      have hkl : l.take k = l := List.take_of_length_le (by omega)
      have HCV : Hid (c = val10 l) := Lib.hid (by have := HC.out; rwa [hkl] at this)
      have hcb : c < 10000000000000000000 := by
        rw [HCV.out]
        refine Nat.lt_of_lt_of_le (val10_lt HAD.out) (Nat.le_trans (Nat.pow_le_pow_right (j := 19) (by omega) HL.out) (by decide))
      clear hkl hlt
      go_wp2_with fail
      refine HAT.out.mono ?_
      rintro e w1 ⟨O, t, rfl, hO, fO, ht, heq, hs1, hw1⟩
      have hOl : O.length = N := by rw [hO, HN.out]
      have hrow1 := HR.out.wrote (by simpa using hw1) hs1 hO
      rw [← HN.out, ← hOl] at hrow1
      have HROW1 := Lib.hid hrow1
      have HX : Hid (lv (O ++ [t]) = x * 10000000000000000000) := Lib.hid (by
        rw [lv_snoc, hOl]
        rw [lv_nrow, ← HN.out] at heq
        omega)
      have HXB : Hid (x < 2 ^ (64 * N)) := Lib.hid (by have := lv_lt (nrow_fits x); rwa [lv_nrow, ← HN.out] at this)
      have HF1 := Lib.hid (fits_snoc fO ht)
      have HOL := Lib.hid hOl
      have hsz1 := hw1.size
      have HB1 : Hid (Below B w w1) := Lib.hid (hw1.below hB HGB.out)
      have HT := Lib.hid ht
      have hgl1 : g < w1.heap.size := by have := HGL.out; omega
      have hBw1 : B ≤ w1.heap.size := by omega
      clear hO fO ht heq hs1 hw1 hrow1 hOl
      go_wp2_with (
        (at_builtin
         refine wpList_append_own _ rfl (.tmp 21) (.tmp 25) 23 rfl B 42 i0 _ 1 8 Try.underlying23 hi hz0 hz1 hz2 rfl (by omega) _ N (U O) rfl ?c0 ⟨w1.heap.size, 0, none⟩ 1 1 [.int .u64 (t : Int)] rfl rfl ?c2 ?c3 ?c4 ?c5 ?c6 ?_
         case c0 => exact World.ownsRow.alloc (by have h := HROW1.out; unfold NRow at h; rw [HOL.out] at h; exact h) _
         case c2 => exact (cell_one_new _ _ _)
         case c3 => intro u hu; simp at hu; subst hu; rfl
         case c4 => unfold maxLen; omega
         case c5 => omega
         case c6 => simp; omega
         intro v2 w2 hown2 hg2 _
         have HO2 : Hid (NRow B w2 v2 (O ++ [t])) := Lib.hid (by unfold NRow; rw [List.length_append, HOL.out, U_append]; exact hown2)
         have HB2 : Hid (Below B w w2) := Lib.hid ((HB1.out.alloc hBw1 _).grown hg2 (by simp; omega) (fun k hk => by cases hk; exact HGB.out))
         have hz2' : w1.heap.size ≤ w2.heap.size := by have := hg2.size; simp at this; omega
         clear hown2 hg2))
      obtain ⟨L, hL⟩ : ∃ L, L = O ++ [t] := ⟨_, rfl⟩
      have hLl : L.length = N + 1 := by rw [hL, List.length_append, HOL.out]; rfl
      have hLf : Fits L := by rw [hL]; exact HF1.out
      have hLv : lv L = x * 10000000000000000000 := by rw [hL]; exact HX.out
      have hrow2 : NRow B w2 v2 L := by rw [hL]; exact HO2.out
      clear HO2 HF1 HX HOL HT HROW1 HB1 hgl1 hBw1 HR HAT hL
      obtain ⟨g', cap', hv2⟩ := hrow2.form (by omega)
      rw [hLl] at hv2
      subst hv2
      have hg' := hrow2.above
      have hsg := hrow2.seg.2.2.2.2.2
      have HROW2 := Lib.hid hrow2
      have HLV := Lib.hid hLv
      have HLF := Lib.hid hLf
      have HLL := Lib.hid hLl
      have HSG := Lib.hid hsg
      have HBW2 : Hid (B ≤ w2.heap.size) := Lib.hid (by omega)
      clear hrow2 hLv hLf hLl hsg
      go_wp2_with fail
      refine (of_any c w2 (by omega)).mono ?_
      rintro e w3 ⟨v3, rfl, hv3, b3⟩
      obtain ⟨a3, cap3, rfl, hc3, hm3, hat3⟩ := hv3.at_
      have hlow : ∀ bl o, a3 = some ⟨bl, o, none⟩ → w2.heap.size ≤ bl := fun bl o e => by subst e; exact hv3.above
      have hg2 : g' < w2.heap.size := HSG.out.block
      have hadd := add_any g' 0 cap' cap3 a3 L (nrow c) w3 (by have := HLL.out; omega) (by rw [HLL.out]; exact Nat.le_trans (nrow_length_le (k := 1) (by omega)) (by omega)) HLF.out (nrow_fits c) (HSG.out.below b3 hg2) hat3 (fun h0 bl o e => by
        have h1 := hlow bl o e
        obtain ⟨b1, o1, e1, hlt, _⟩ := hat3.lt h0
        rw [e] at e1
        cases e1
        omega)
      rw [HLL.out] at hadd
      have HADD := Lib.hid hadd
      have HB3 : Hid (Below B w w3) := Lib.hid (HB2.out.trans (b3.mono HBW2.out))
      have HROW3 := Lib.hid (HROW2.out.below b3 (Nat.le_refl _))
      clear hadd hlow hv3 hat3 b3
      go_wp2_with fail
      refine HADD.out.mono ?_
      rintro e w4 ⟨O', c', rfl, hO', fO', hc', heq, hs4, hw4⟩
      have hv : lv O' = x * 10000000000000000000 + c := by
        rw [HLL.out, HLV.out, lv_nrow] at heq
        refine dv_full' heq ?_
        have h1 := HXB.out
        rw [show 64 * (N + 1) = 64 * N + 64 by omega, Nat.pow_add]
        omega
      rw [HLL.out] at hO' hw4
      have hrow4 := HROW3.out.wrote (by simpa using hw4) hs4 (by rw [hO', HLL.out])
      have hcp := hrow4.seg
      have HT := Lib.hid (trim_any (some ⟨g', 0, none⟩) cap' O' w4 (by omega) hcp.2.2.2.1 fO' hs4.natAt)
      rw [hO', hv] at HT
      have HB4 : Hid (Below B w w4) := Lib.hid (HB3.out.trans (hw4.below (by have := HROW3.out.seg.2.2.2.2.2.block; have := HBW2.out; omega) hg'))
      have HNORM : Hid (NRow B w4 (.slice (some ⟨g', 0, none⟩) (nrow (x * 10000000000000000000 + c)).length cap') (nrow (x * 10000000000000000000 + c))) := Lib.hid (by
        have h : NRow B w4 (.slice (some ⟨g', 0, none⟩) O'.length cap') O' := by rw [hO']; exact hrow4
        have h := h.norm fO'
        rwa [hv] at h)
      clear hv hO' fO' hc' heq hs4 hw4 hrow4 hcp
      go_wp2_with fail
      refine HT.out.mono ?_
      rintro e w5 ⟨rfl, rfl⟩
      go_wp2_with fail
      go_ret
      rw [← HCV.out]
      exact ⟨_, _, rfl, HNORM.out, HB4.out⟩
end Go.Proofs.Ytcdedaihkfpafaa

namespace Go.Proofs.Ytcdedaihkfpafaa
open Go.RowKit

theorem val10_app (p q : List UInt8) : val10 (p ++ q) = val10 p * 10 ^ q.length + val10 q := by
  induction hn : q.length generalizing q with
  | zero =>
    obtain rfl : q = [] := List.eq_nil_of_length_eq_zero hn
    simp [val10]
  | succ k ih =>
    obtain ⟨r, c, rfl⟩ := snoc_of hn
    have hk : r.length = k := by simpa using hn
    rw [← List.append_assoc, val10_snoc, ih r hk, val10_snoc, Nat.pow_succ, Nat.add_mul, Nat.mul_assoc, Nat.add_assoc]
/-- One group more. -/
theorem val10_group (p q : List UInt8) (h : p = [] ∨ q.length = 19) : val10 p * 10000000000000000000 + val10 q = val10 (p ++ q) := by
  rw [val10_app]
  rcases h with rfl | h
  · simp [val10]
  · rw [h]

def FromAt (B : Nat) (l : List UInt8) (w : World) (s v : Value) (wr : World) : Prop :=
  ∃ (p m : List UInt8) (g cap : Nat), p ++ m = l ∧ s = .string (mk m) ∧ (p = [] ∨ m.length % 19 = 0) ∧ v = .slice (some ⟨g, 0, none⟩) (nrow (val10 p)).length cap ∧ NRow B wr (.slice (some ⟨g, 0, none⟩) (nrow (val10 p)).length cap) (nrow (val10 p)) ∧ Below B w wr
def strLen : Value → Nat
  | .string s => s.size
  | _ => 0

set_option maxRecDepth 100000 in
set_option maxHeartbeats 4000000 in
theorem fromDigits_any (l : List UInt8) (w : World) (hl : l.length ≤ 40000) (had : allD l) :
    Calls Try.prog 54 #[.string (mk l)] w (GRes w.heap.size (val10 l) w) := by
  obtain ⟨i0, hi, hz0, hz1, hz2⟩ := info_parts info_u64
  obtain ⟨c, hc⟩ : ∃ c : Nat, c = l.length / 19 + 1 := ⟨_, rfl⟩
  have hs : ((mk l).size : Int) ≤ 40000 := by rw [mk_size]; omega
  have hs0 : (0 : Int) ≤ ((mk l).size : Int) := by omega
  have HC : Hid (((mk l).size : Int) / 19 + 1 = (c : Int)) := Lib.hid (by rw [mk_size]; omega)
  have hcb : c ≤ 40000 := by omega
  obtain ⟨B, hB⟩ : ∃ B, B = w.heap.size := ⟨_, rfl⟩
  have HBB := Lib.hid hB
  have HL := Lib.hid hl
  have HAD := Lib.hid had
  clear hc hl had
  rw [← hB]
  clear hB
  go_enter Try.func54, Try.ntmps54
  go_wp2_with (
    (at_make
     refine wpList_make_own _ rfl _ _ 23 rfl B 42 i0 (.int .u64 0) 1 Try.underlying23 hi hz0 hz1 .i64 .i64 _ c rfl rfl HC.out (by rw [hz2]; omega) (by unfold maxLen; omega) (Nat.le_of_eq HBB.out) ?_
     intro w0 hown0 hg0
     have HO : Hid (NRow B w0 (.slice (some ⟨w.heap.size, 0, none⟩) 0 c) []) := Lib.hid hown0
     have HB0 : Hid (Below B w w0) := Lib.hid ((Below.refl _ w).grown hg0 (Nat.le_of_eq HBB.out) (fun k hk => by cases hk))
     clear hown0 hg0))
  go_loopw [0, 3] (fun s v wr => FromAt B l w s v wr) (fun s _ _ => strLen s)
  case atStart => exact ⟨[], l, _, c, rfl, rfl, .inl rfl, rfl, HO.out, HB0.out⟩
  case round =>
    obtain ⟨p, m, g, cap, hpm, rfl, hdiv, rfl, hrow, hbel⟩ := hrel
    have HPM := Lib.hid hpm
    have HDIV := Lib.hid hdiv
    have HROW := Lib.hid hrow
    have HBEL := Lib.hid hbel
    have hml : p.length + m.length ≤ 40000 := by have := HL.out; have := congrArg List.length HPM.out; rw [List.length_append] at this; omega
    clear hpm hdiv hrow hbel
    by_cases hm : m.length = 0
    · have hsz : ((mk m).size : Int) = 0 := by rw [mk_size]; omega
      obtain rfl : m = [] := List.eq_nil_of_length_eq_zero hm
      have HPL : Hid (p = l) := Lib.hid (by have := HPM.out; rwa [List.append_nil] at this)
      clear hm
      go_wp2_with fail
      go_ret
      rw [← HPL.out]
      exact ⟨_, _, rfl, HROW.out, HBEL.out⟩
    · obtain ⟨n, hn⟩ : ∃ n : Nat, n = (m.length - 1) % 19 + 1 := ⟨_, rfl⟩
      have hm1 : (1 : Int) ≤ ((mk m).size : Int) := by rw [mk_size]; omega
      have hm2 : ((mk m).size : Int) ≤ 40000 := by rw [mk_size]; omega
      have hnm : n ≤ m.length := by omega
      have hnI : (n : Int) ≤ ((mk m).size : Int) := by rw [mk_size]; omega
      have hnI2 : (n : Int) ≤ 19 := by omega
      have hnI1 : (1 : Int) ≤ (n : Int) := by omega
      have HN : (((mk m).size : Int) - 1) % 19 + 1 = (n : Int) := by rw [mk_size]; omega
      have E1 : Hid ((mk m).extract 0 n = mk (m.take n)) := Lib.hid (by rw [mk_extract, List.drop_zero])
      have E2 : Hid ((mk m).extract n (mk m).size = mk (m.drop n)) := Lib.hid (by rw [mk_extract, mk_size, List.take_length])
      have hpb : val10 p < 2 ^ (64 * 2500) := val10_big (fun b hb => HAD.out b (by rw [← HPM.out]; exact List.mem_append_left _ hb)) (by omega) 2500 (Nat.le_refl _)
      have HPB : Hid ((nrow (val10 p)).length ≤ 1048576) := Lib.hid (Nat.le_trans (nrow_length_le hpb) (by omega))
      have HQ : Hid (allD (m.take n)) := Lib.hid (fun b hb => HAD.out b (by rw [← HPM.out]; exact List.mem_append_right _ (List.mem_of_mem_take hb)))
      have HQL : Hid ((m.take n).length = n) := Lib.hid (by rw [List.length_take]; omega)
      have HG : Hid (val10 p * 10000000000000000000 + val10 (m.take n) = val10 (p ++ m.take n)) := Lib.hid (val10_group _ _ (by
        rcases HDIV.out with h | h
        · exact .inl h
        · right; rw [HQL.out]; omega))
      have HNEXT : Hid ((p ++ m.take n) ++ m.drop n = l ∧ (m.drop n).length % 19 = 0 ∧ (m.drop n).length < m.length) := Lib.hid ⟨by rw [List.append_assoc, List.take_append_drop]; exact HPM.out, by rw [List.length_drop]; omega, by rw [List.length_drop]; omega⟩
      have HBW := Lib.hid (Nat.le_trans (Nat.le_of_eq HBB.out) HBEL.out.size)
      clear hpb hn hm hml
      go_wp2_with fail
      rw [E1.out]
      refine (appendGroup_any B g cap (val10 p) (m.take n) wr (by rw [HQL.out]; omega) HQ.out HPB.out HBW.out HROW.out).mono ?_
      rintro e w2 ⟨g2, cap2, rfl, hrow2, hbel2⟩
      rw [HG.out] at hrow2 ⊢
      have HROW2 := Lib.hid hrow2
      have HBEL2 := Lib.hid (HBEL.out.trans hbel2)
      clear hrow2 hbel2
      go_wp2_with fail
      rw [E2.out]
      go_round
      case rel => exact ⟨p ++ m.take n, m.drop n, g2, cap2, HNEXT.out.1, rfl, .inr HNEXT.out.2.1, rfl, HROW2.out, HBEL2.out⟩
      case measure => show (mk (m.drop n)).size < (mk m).size; rw [mk_size, mk_size]; exact HNEXT.out.2.2

theorem val10_K {l : List UInt8} (h : allD l) (K : Nat) (hK : 4 * l.length ≤ 64 * K) : val10 l < 2 ^ (64 * K) := by
  have h1 := val10_lt h
  have h2 : 10 ^ l.length ≤ 16 ^ l.length := Nat.pow_le_pow_left (by omega) _
  have h3 : (16 : Nat) ^ l.length = 2 ^ (4 * l.length) := by rw [Nat.pow_mul]
  have h4 : 2 ^ (4 * l.length) ≤ 2 ^ (64 * K) := Nat.pow_le_pow_right (by omega) hK
  omega
theorem GRes.cells {B n : Nat} {w w' : World} {e : Ending} (h : GRes B n w e w') : ∃ v, e = .returned v ∧ NRow B w' v (nrow n) ∧ Below B w w' := by
  obtain ⟨g, cap, h1, h2, h3⟩ := h
  exact ⟨_, h1, h2, h3⟩

set_option maxRecDepth 100000 in
set_option maxHeartbeats 4000000 in
theorem parse_any (l : List UInt8) (w : World) (hl : l.length ≤ 400) :
    Calls Try.prog 27 #[.string (mk l)] w (ParsePost (parseV l).1 (parseV l).2 w) := by
  have hle := cntD_le l
  have hs : ((mk l).size : Int) ≤ 400 := by rw [mk_size]; omega
  have hs0 : (0 : Int) ≤ ((mk l).size : Int) := by omega
  have H1 := Lib.hid (countDigits_any l w (by omega))
  obtain ⟨c, hc⟩ : ∃ c, c = cntD l := ⟨_, rfl⟩
  rw [← hc] at H1 hle
  have H1 := Lib.hid H1.out
  have c0 : (0 : Int) ≤ (c : Int) := by omega
  have c1 : (c : Int) ≤ 400 := by omega
  by_cases hok : l ≠ [] ∧ allD l
  · have hcl : c = l.length := by rw [hc]; exact cntD_all.2 hok.2
    have hcp : (0 : Int) < (c : Int) := by have := List.length_pos_iff.2 hok.1; omega
    have hcs : ((mk l).size : Int) = (c : Int) := by rw [mk_size, hcl]
    have HE : Hid (parseV l = (val10 l, 0)) := Lib.hid (by unfold parseV; rw [if_neg (by omega), if_neg hok.1, if_pos hok.2])
    have H2 := Lib.hid (fromDigits_any l w (by omega) hok.2)
    have hv := val10_K hok.2 25 (by omega)
    have HV : Hid ((nrow (val10 l)).length ≤ 2048) := Lib.hid (Nat.le_trans (nrow_length_le hv) (by omega))
    clear hok hcl hle hl hc hv
    go_enter Try.func27, Try.ntmps27
    go_wp2_with fail
    refine H1.out.mono ?_
    rintro e w1 ⟨rfl, rfl⟩
    go_wp2_with fail
    refine H2.out.mono ?_
    rintro e w2 h2
    obtain ⟨v2, rfl, hv2, hb2⟩ := h2.cells
    have HR := Lib.hid (result_ok hv2 (nrow_fits _) (by have := HV.out; omega) (by rw [lv_nrow]; exact HV.out))
    rw [lv_nrow] at HR
    have HB2 := Lib.hid hb2
    clear hv2 hb2 h2
    go_wp2_with fail
    refine HR.out.mono ?_
    rintro e w3 ⟨v3, rfl, hv3, hb3⟩
    have HV3 := Lib.hid hv3
    have HB3 := Lib.hid (HB2.out.trans (hb3.mono HB2.out.size))
    clear hv3 hb3
    go_wp2_with fail
    go_ret2
    exact ⟨_, by rw [HE.out]; rfl, by rw [HE.out]; exact HV3.out, HB3.out⟩
  · have HE : Hid (parseV l = (0, 5)) := Lib.hid (by
      unfold parseV
      rw [if_neg (by omega)]
      by_cases h0 : l = []
      · rw [if_pos h0]
      · rw [if_neg h0, if_neg (fun h => hok ⟨h0, h⟩)])
    by_cases hc0 : c = 0
    · have hcI : (c : Int) = 0 := by omega
      clear hok hle hl hc hc0
      go_enter Try.func27, Try.ntmps27
      go_wp2_with fail
      refine H1.out.mono ?_
      rintro e w1 ⟨rfl, rfl⟩
      go_wp2_with fail
      go_ret2
      exact ⟨_, by rw [HE.out]; rfl, by rw [HE.out]; exact NRow.nil _ _, Below.refl _ _⟩
    · have hlt : c < l.length := by
        rcases Nat.lt_or_eq_of_le hle with h | h
        · exact h
        · exfalso
          have had : allD l := cntD_all.1 (by omega)
          refine hok ⟨fun h0 => ?_, had⟩
          subst h0
          simp at h
          omega
      have hcp : (0 : Int) < (c : Int) := by omega
      have hcI : (c : Int) < ((mk l).size : Int) := by rw [mk_size]; omega
      clear hok hle hl hc hc0 hlt
      go_enter Try.func27, Try.ntmps27
      go_wp2_with fail
      refine H1.out.mono ?_
      rintro e w1 ⟨rfl, rfl⟩
      go_wp2_with fail
      go_ret2
      exact ⟨_, by rw [HE.out]; rfl, by rw [HE.out]; exact NRow.nil _ _, Below.refl _ _⟩
end Go.Proofs.Ytcdedaihkfpafaa

namespace Go.Proofs.Ytcdedaihkfpafaa
open Go.RowKit

/-- Bytes in block g, that may be written. -/
def BS (w : World) (g : Nat) (l : List UInt8) : Prop :=
  ∃ cur : Array Value, w.heap[g]? = some (.cells cur 5 (0, 0)) ∧ ∀ i, i < l.length → cur[i]? = some (.int .u8 ((l.getD i 0).toNat : Int))
section
variable {w w' : World} {g : Nat} {l : List UInt8}
theorem BS.block (h : BS w g l) : g < w.heap.size := by
  obtain ⟨cur, hg, _⟩ := h
  exact (Array.getElem?_eq_some_iff.1 hg).1
theorem BS.cell (h : BS w g l) {i : Nat} (hi : i < l.length) : w.cell? ⟨g, i, none⟩ = some (.int .u8 ((l.getD i 0).toNat : Int)) := by
  obtain ⟨cur, hg, hc⟩ := h
  simp [World.cell?, hg, hc i hi]
theorem BS.frozen (h : BS w g l) (o : Nat) : w.frozen? ⟨g, o, none⟩ = false := by
  obtain ⟨cur, hg, hc⟩ := h
  simp [World.frozen?, hg]
theorem BS.of_block (h : BS w g l) (e : w'.heap[g]? = w.heap[g]?) : BS w' g l := by
  obtain ⟨cur, hg, hc⟩ := h
  exact ⟨cur, e.trans hg, hc⟩
theorem BS.set (h : BS w g l) {k : Nat} (hk : k < l.length) (x : UInt8) : BS (w.setCell ⟨g, k, none⟩ (.int .u8 (x.toNat : Int))) g (l.set k x) := by
  obtain ⟨cur, hg, hc⟩ := h
  refine ⟨_, heap_set hg _, fun i hi => ?_⟩
  rw [List.length_set] at hi
  rw [Array.getElem?_setIfInBounds]
  by_cases e : k = i
  · subst e
    have hlt : k < cur.size := (Array.getElem?_eq_some_iff.1 (hc k hk)).1
    rw [if_pos rfl, if_pos hlt]
    simp [hk]
  · rw [if_neg (by omega), hc i hi]
    simp [e]
theorem BS.conv (h : BS w g l) (k c : Nat) (hk : k ≤ l.length) : (convert 56 9 (.slice (some ⟨g, k, none⟩) (l.length - k) c)).run Try.prog w = .ok (.string (mk (l.drop k))) w := by
  have e0 : l.length - k = (l.drop k).length := by rw [List.length_drop]
  rw [e0]
  refine run_convert_bytes_back w 56 9 5 ⟨g, k, none⟩ c (l.drop k) Try.underlying56 Try.underlying5 Try.underlying9 ?_
  intro j hj
  rw [List.length_drop] at hj
  have e : (⟨g, k, none⟩ : Addr).add j = ⟨g, k + j, none⟩ := by unfold Addr.add; split <;> simp_all
  rw [e, h.cell (i := k + j) (by omega)]
  simp [List.getD_eq_getElem?_getD, List.getElem?_eq_getElem (show k + j < l.length by omega)]
end

/-- The last k decimal digits. -/
def pad : Nat → Nat → List UInt8
  | 0, _ => []
  | k + 1, n => pad k (n / 10) ++ [byt (48 + n % 10)]
theorem pad_length (k n : Nat) : (pad k n).length = k := by
  induction k generalizing n with
  | zero => rfl
  | succ k ih => simp [pad, ih]
theorem pad_cons (k n : Nat) : pad (k + 1) n = byt (48 + n / 10 ^ k % 10) :: pad k n := by
  induction k generalizing n with
  | zero => simp [pad]
  | succ k ih =>
    rw [pad, ih, List.cons_append, Nat.div_div_eq_div_mul, Nat.pow_succ, Nat.mul_comm (10 ^ k) 10]
    rfl
theorem pad_add (a b n : Nat) : pad (a + b) n = pad a (n / 10 ^ b) ++ pad b n := by
  induction b generalizing n with
  | zero => simp [pad]
  | succ b ih =>
    show pad (a + b) (n / 10) ++ [byt (48 + n % 10)] = _
    rw [ih, List.append_assoc, Nat.div_div_eq_div_mul, Nat.pow_succ, Nat.mul_comm (10 ^ b) 10]
    rfl
theorem pad_mod (k n : Nat) : pad k (n % 10 ^ k) = pad k n := by
  induction k generalizing n with
  | zero => rfl
  | succ k ih =>
    have h1 : n % 10 ^ (k + 1) / 10 = n / 10 % 10 ^ k := by rw [Nat.pow_succ, Nat.mul_comm, Nat.mod_mul_right_div_self]
    have h2 : n % 10 ^ (k + 1) % 10 = n % 10 := Nat.mod_mod_of_dvd _ (by rw [Nat.pow_succ]; exact Nat.dvd_mul_left _ _)
    show pad k (n % 10 ^ (k + 1) / 10) ++ [byt (48 + n % 10 ^ (k + 1) % 10)] = _
    rw [h1, h2, ih]; rfl
theorem pad_zero (k : Nat) : pad k 0 = List.replicate k 48 := by
  induction k with
  | zero => rfl
  | succ k ih => rw [pad, List.replicate_succ', Nat.zero_div, ih]; rfl
theorem pad_dec (k n : Nat) (h : n < 10 ^ k) : pad k n = List.replicate (k - (dec n).length) 48 ++ dec n := by
  induction k generalizing n with
  | zero =>
    obtain rfl : n = 0 := by simpa using h
    simp [pad, dec_zero]
  | succ k ih =>
    by_cases h0 : n = 0
    · subst h0; rw [pad_zero, dec_zero]; simp
    · rw [pad, dec_step h0, ih (n / 10) (by rw [Nat.pow_succ] at h; omega), List.length_append]
      rw [← List.append_assoc]
      simp
theorem dec_head {n : Nat} (h : n ≠ 0) : ∃ c t, dec n = c :: t ∧ c.toNat ≠ 48 := by
  induction n using Nat.strongRecOn with
  | _ n ih =>
    rw [dec_step h]
    by_cases h1 : n / 10 = 0
    · rw [h1, dec_zero]
      refine ⟨_, [], rfl, ?_⟩
      rw [byt_toNat]
      omega
    · obtain ⟨c, t, e, hc⟩ := ih (n / 10) (by omega) h1
      exact ⟨c, t ++ _, by rw [e]; rfl, hc⟩
theorem set_zeros (m : Nat) (P : List UInt8) (y : UInt8) : (List.replicate (m + 1) 0 ++ P).set m y = List.replicate m 0 ++ y :: P := by
  rw [List.replicate_succ', List.append_assoc, List.set_append_right _ _ (by simp)]
  simp

def FillAt (g q n : Nat) (P : List UInt8) (w : World) (x i : Value) (W : World) : Prop :=
  ∃ k : Nat, k ≤ 19 ∧ x = .int .u64 ((n / 10 ^ k : Nat) : Int) ∧ i = .int .i64 (k : Int) ∧ BS W g (List.replicate (q + (19 - k)) 0 ++ (pad k n ++ P)) ∧ w.grownBy W (some g)
def FillPost (g q n : Nat) (P : List UInt8) (w : World) (e : Ending) (w' : World) : Prop :=
  e = .returned (.tuple #[]) ∧ BS w' g (List.replicate q 0 ++ (pad 19 n ++ P)) ∧ w.grownBy w' (some g)

theorem grown_set {w W : World} {g : Nat} (h : w.grownBy W (some g)) (o : Nat) (v : Value) : w.grownBy (W.setCell ⟨g, o, none⟩ v) (some g) :=
  ⟨h.os, h.tape, h.output, by rw [size_set]; exact h.size, fun k hk hne => (Below.heap_setCell _ _ _ _ (fun e => hne (by rw [e]))).trans (h.block k hk hne)⟩

set_option maxRecDepth 100000 in
set_option maxHeartbeats 4000000 in
theorem fill_any (g q cap n : Nat) (P : List UInt8) (w : World) (hn : n < 18446744073709551616) (hs : BS w g (List.replicate (q + 19) 0 ++ P)) :
    Calls Try.prog 56 #[.slice (some ⟨g, q, none⟩) 19 cap, .int .u64 (n : Int)] w (FillPost g q n P w) := by
  have HS := Lib.hid hs
  have HN := Lib.hid hn
  clear hs hn
  go_enter Try.func56, Try.ntmps56
  go_wp2_with fail
  go_loopw [1, 7] (fun x i W => FillAt g q n P w x i W) (fun _ i _ => 19 - (intOf i).toNat)
  case atStart => exact ⟨0, by omega, by rw [Nat.pow_zero, Nat.div_one], rfl, HS.out, World.grownBy.refl _ _⟩
  case round =>
    obtain ⟨k, hk, rfl, rfl, hbs, hgr⟩ := hrel
    have HBS := Lib.hid hbs
    have HGR := Lib.hid hgr
    clear hbs hgr
    by_cases hlt : k < 19
    · obtain ⟨j, hj⟩ : ∃ j, j = 18 - k := ⟨_, rfl⟩
      have e1 : (18 : Int) - (k : Int) = (j : Int) := by omega
      have hkI : (k : Int) < 19 := by omega
      have hk0 : (0 : Int) ≤ (k : Int) := by omega
      have j0 : (0 : Int) ≤ (j : Int) := by omega
      have j1 : (j : Int) < 19 := by omega
      obtain ⟨y, hy⟩ : ∃ y, y = n / 10 ^ k := ⟨_, rfl⟩
      have hyb : y < 18446744073709551616 := by rw [hy]; exact Nat.lt_of_le_of_lt (Nat.div_le_self _ _) HN.out
      have HY : Hid (y / 10 = n / 10 ^ (k + 1)) := Lib.hid (by rw [hy, Nat.div_div_eq_div_mul, Nat.pow_succ])
      have hbs := HBS.out
      rw [show q + (19 - k) = (q + j) + 1 by omega] at hbs
      have hcell := hbs.cell (i := q + j) (by simp; omega)
      have hfr := hbs.frozen (q + j)
      obtain ⟨b, hb⟩ : ∃ b, b = byt (48 + y % 10) := ⟨_, rfl⟩
      have hbn : (b.toNat : Int) = 48 + (y : Int) % 10 := by rw [hb, byt_toNat]; omega
      have hset := hbs.set (k := q + j) (by simp; omega) b
      rw [set_zeros] at hset
      have HNX : Hid (BS (wr.setCell ⟨g, q + j, none⟩ (.int .u8 (b.toNat : Int))) g (List.replicate (q + (19 - (k + 1))) 0 ++ (pad (k + 1) n ++ P))) := Lib.hid (by
        rw [pad_cons, ← hy, ← hb, show q + (19 - (k + 1)) = q + j by omega]
        exact hset)
      have HG2 := Lib.hid (grown_set HGR.out (q + j) (.int .u8 (b.toNat : Int)))
      have HK : Hid (k + 1 ≤ 19) := Lib.hid (by omega)
      rw [← hy]
      have hyI : (y : Int) < 18446744073709551616 := by omega
      have hy0 : (0 : Int) ≤ (y : Int) := by omega
      obtain ⟨d, hd⟩ : ∃ d : Int, d = (y : Int) % 10 := ⟨_, rfl⟩
      have d0 : 0 ≤ d := by omega
      have d9 : d ≤ 9 := by omega
      rw [← hd] at hbn
      generalize (List.replicate (q + j + 1) (0 : UInt8) ++ (pad k n ++ P)).getD (q + j) 0 = z at hcell
      clear hset hbs hb hy hyb hj hlt
      go_wp2_with fail
      rw [hd] at hbn
      rw [hbn] at HNX HG2
      refine ⟨⟨k + 1, HK.out, ?_, by go_num, HNX.out, HG2.out⟩, ?_⟩
      · rw [← HY.out]; go_num
      · have := HK.out; simp [intOf]; omega
    · obtain rfl : k = 19 := by omega
      clear hlt hk
      go_wp2_with fail
      go_end0
      exact ⟨rfl, HBS.out, HGR.out⟩
end Go.Proofs.Ytcdedaihkfpafaa
