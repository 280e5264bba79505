/-
  The texts NatQFill, NatQText, TapZint, TapZText, NatRoundK, one behind the other.
-/
import Derived.Test.YtcbebikcfcidmaaDoorChaZ04
import Derived.Test.YtcbebikcfcidmaaDoorChaZ03
import Derived.Laws.Rows
import Derived.Test.YtcbebikcfcidmaaDoorChaZ01

namespace Go.Proofs.YtcbebikcfcidmaaDoor
open Go.RowKit

/-- Bytes in block g, that may be written. -/
def BS (w : World) (g : Nat) (l : List UInt8) : Prop :=
  ∃ cur : Array Value, w.heap[g]? = some (.cells cur 5 (0, 0)) ∧ ∀ i, i < l.length → cur[i]? = some (.int .u8 ((l.getD i 0).toNat : Int))
section
variable {w w' : World} {g : Nat} {l : List UInt8}
theorem BS.block (h : BS w g l) : g < w.heap.size := by
  obtain ⟨cur, hg, _⟩ := h
  exact (Array.getElem?_eq_some_iff.1 hg).1
theorem BS.cell (h : BS w g l) {i : Nat} (hi : i < l.length) : w.cell? ⟨g, i, none⟩ = some (.int .u8 ((l.getD i 0).toNat : Int)) := by
  obtain ⟨cur, hg, hc⟩ := h
  simp [World.cell?, hg, hc i hi]
theorem BS.frozen (h : BS w g l) (o : Nat) : w.frozen? ⟨g, o, none⟩ = false := by
  obtain ⟨cur, hg, hc⟩ := h
  simp [World.frozen?, hg]
theorem BS.of_block (h : BS w g l) (e : w'.heap[g]? = w.heap[g]?) : BS w' g l := by
  obtain ⟨cur, hg, hc⟩ := h
  exact ⟨cur, e.trans hg, hc⟩
theorem BS.set (h : BS w g l) {k : Nat} (hk : k < l.length) (x : UInt8) : BS (w.setCell ⟨g, k, none⟩ (.int .u8 (x.toNat : Int))) g (l.set k x) := by
  obtain ⟨cur, hg, hc⟩ := h
  refine ⟨_, heap_set hg _, fun i hi => ?_⟩
  rw [List.length_set] at hi
  rw [Array.getElem?_setIfInBounds]
  by_cases e : k = i
  · subst e
    have hlt : k < cur.size := (Array.getElem?_eq_some_iff.1 (hc k hk)).1
    rw [if_pos rfl, if_pos hlt]
    simp [hk]
  · rw [if_neg (by omega), hc i hi]
    simp [e]
theorem BS.conv (h : BS w g l) (k c : Nat) (hk : k ≤ l.length) : (convert 91 9 (.slice (some ⟨g, k, none⟩) (l.length - k) c)).run Tryd.prog w = .ok (.string (mk (l.drop k))) w := by
  have e0 : l.length - k = (l.drop k).length := by rw [List.length_drop]
  rw [e0]
  refine run_convert_bytes_back w 91 9 5 ⟨g, k, none⟩ c (l.drop k) Tryd.underlying91 Tryd.underlying5 Tryd.underlying9 ?_
  intro j hj
  rw [List.length_drop] at hj
  have e : (⟨g, k, none⟩ : Addr).add j = ⟨g, k + j, none⟩ := by unfold Addr.add; split <;> simp_all
  rw [e, h.cell (i := k + j) (by omega)]
  simp [List.getD_eq_getElem?_getD, List.getElem?_eq_getElem (show k + j < l.length by omega)]
end

/-- The last k decimal digits. -/
def pad : Nat → Nat → List UInt8
  | 0, _ => []
  | k + 1, n => pad k (n / 10) ++ [byt (48 + n % 10)]
theorem pad_cons (k n : Nat) : pad (k + 1) n = byt (48 + n / 10 ^ k % 10) :: pad k n := by
  induction k generalizing n with
  | zero => simp [pad]
  | succ k ih =>
    rw [pad, ih, List.cons_append, Nat.div_div_eq_div_mul, Nat.pow_succ, Nat.mul_comm (10 ^ k) 10]
    rfl
theorem pad_add (a b n : Nat) : pad (a + b) n = pad a (n / 10 ^ b) ++ pad b n := by
  induction b generalizing n with
  | zero => simp [pad]
  | succ b ih =>
    show pad (a + b) (n / 10) ++ [byt (48 + n % 10)] = _
    rw [ih, List.append_assoc, Nat.div_div_eq_div_mul, Nat.pow_succ, Nat.mul_comm (10 ^ b) 10]
    rfl
theorem pad_mod (k n : Nat) : pad k (n % 10 ^ k) = pad k n := by
  induction k generalizing n with
  | zero => rfl
  | succ k ih =>
    have h1 : n % 10 ^ (k + 1) / 10 = n / 10 % 10 ^ k := by rw [Nat.pow_succ, Nat.mul_comm, Nat.mod_mul_right_div_self]
    have h2 : n % 10 ^ (k + 1) % 10 = n % 10 := Nat.mod_mod_of_dvd _ (by rw [Nat.pow_succ]; exact Nat.dvd_mul_left _ _)
    show pad k (n % 10 ^ (k + 1) / 10) ++ [byt (48 + n % 10 ^ (k + 1) % 10)] = _
    rw [h1, h2, ih]; rfl
theorem pad_zero (k : Nat) : pad k 0 = List.replicate k 48 := by
  induction k with
  | zero => rfl
  | succ k ih => rw [pad, List.replicate_succ', Nat.zero_div, ih]; rfl
theorem pad_dec (k n : Nat) (h : n < 10 ^ k) : pad k n = List.replicate (k - (dec n).length) 48 ++ dec n := by
  induction k generalizing n with
  | zero =>
    obtain rfl : n = 0 := by simpa using h
    simp [pad, dec_zero]
  | succ k ih =>
    by_cases h0 : n = 0
    · subst h0; rw [pad_zero, dec_zero]; simp
    · rw [pad, dec_step h0, ih (n / 10) (by rw [Nat.pow_succ] at h; omega), List.length_append]
      rw [← List.append_assoc]
      simp
theorem dec_head {n : Nat} (h : n ≠ 0) : ∃ c t, dec n = c :: t ∧ c.toNat ≠ 48 := by
  induction n using Nat.strongRecOn with
  | _ n ih =>
    rw [dec_step h]
    by_cases h1 : n / 10 = 0
    · rw [h1, dec_zero]
      refine ⟨_, [], rfl, ?_⟩
      rw [byt_toNat]
      omega
    · obtain ⟨c, t, e, hc⟩ := ih (n / 10) (by omega) h1
      exact ⟨c, t ++ _, by rw [e]; rfl, hc⟩
theorem set_zeros (m : Nat) (P : List UInt8) (y : UInt8) : (List.replicate (m + 1) 0 ++ P).set m y = List.replicate m 0 ++ y :: P := by
  rw [List.replicate_succ', List.append_assoc, List.set_append_right _ _ (by simp)]
  simp

def FillAt (g q n : Nat) (P : List UInt8) (w : World) (x i : Value) (W : World) : Prop :=
  ∃ k : Nat, k ≤ 19 ∧ x = .int .u64 ((n / 10 ^ k : Nat) : Int) ∧ i = .int .i64 (k : Int) ∧ BS W g (List.replicate (q + (19 - k)) 0 ++ (pad k n ++ P)) ∧ w.grownBy W (some g)
def FillPost (g q n : Nat) (P : List UInt8) (w : World) (e : Ending) (w' : World) : Prop :=
  e = .returned (.tuple #[]) ∧ BS w' g (List.replicate q 0 ++ (pad 19 n ++ P)) ∧ w.grownBy w' (some g)

theorem grown_set {w W : World} {g : Nat} (h : w.grownBy W (some g)) (o : Nat) (v : Value) : w.grownBy (W.setCell ⟨g, o, none⟩ v) (some g) :=
  ⟨h.os, h.tape, h.output, by rw [size_set]; exact h.size, fun k hk hne => (Below.heap_setCell _ _ _ _ (fun e => hne (by rw [e]))).trans (h.block k hk hne)⟩

set_option maxRecDepth 100000 in
set_option maxHeartbeats 4000000 in
theorem fill_any (g q cap n : Nat) (P : List UInt8) (w : World) (hn : n < 18446744073709551616) (hs : BS w g (List.replicate (q + 19) 0 ++ P)) :
    Calls Tryd.prog 46 #[.slice (some ⟨g, q, none⟩) 19 cap, .int .u64 (n : Int)] w (FillPost g q n P w) := by
  have HS := Lib.hid hs
  have HN := Lib.hid hn
  clear hs hn
  go_enter Tryd.func46, Tryd.ntmps46
  go_wp2_with fail
  go_loopw [1, 7] (fun x i W => FillAt g q n P w x i W) (fun _ i _ => 19 - (intOf i).toNat)
  case atStart => exact ⟨0, by omega, by rw [Nat.pow_zero, Nat.div_one], rfl, HS.out, World.grownBy.refl _ _⟩
  case round =>
    obtain ⟨k, hk, rfl, rfl, hbs, hgr⟩ := hrel
    have HBS := Lib.hid hbs
    have HGR := Lib.hid hgr
    clear hbs hgr
    by_cases hlt : k < 19
    · obtain ⟨j, hj⟩ : ∃ j, j = 18 - k := ⟨_, rfl⟩
      have e1 : (18 : Int) - (k : Int) = (j : Int) := by omega
      have hkI : (k : Int) < 19 := by omega
      have hk0 : (0 : Int) ≤ (k : Int) := by omega
      have j0 : (0 : Int) ≤ (j : Int) := by omega
      have j1 : (j : Int) < 19 := by omega
      obtain ⟨y, hy⟩ : ∃ y, y = n / 10 ^ k := ⟨_, rfl⟩
      have hyb : y < 18446744073709551616 := by rw [hy]; exact Nat.lt_of_le_of_lt (Nat.div_le_self _ _) HN.out
      have HY : Hid (y / 10 = n / 10 ^ (k + 1)) := Lib.hid (by rw [hy, Nat.div_div_eq_div_mul, Nat.pow_succ])
      have hbs := HBS.out
      rw [show q + (19 - k) = (q + j) + 1 by omega] at hbs
      have hcell := hbs.cell (i := q + j) (by simp; omega)
      have hfr := hbs.frozen (q + j)
      obtain ⟨b, hb⟩ : ∃ b, b = byt (48 + y % 10) := ⟨_, rfl⟩
      have hbn : (b.toNat : Int) = 48 + (y : Int) % 10 := by rw [hb, byt_toNat]; omega
      have hset := hbs.set (k := q + j) (by simp; omega) b
      rw [set_zeros] at hset
      have HNX : Hid (BS (wr.setCell ⟨g, q + j, none⟩ (.int .u8 (b.toNat : Int))) g (List.replicate (q + (19 - (k + 1))) 0 ++ (pad (k + 1) n ++ P))) := Lib.hid (by
        rw [pad_cons, ← hy, ← hb, show q + (19 - (k + 1)) = q + j by omega]
        exact hset)
      have HG2 := Lib.hid (grown_set HGR.out (q + j) (.int .u8 (b.toNat : Int)))
      have HK : Hid (k + 1 ≤ 19) := Lib.hid (by omega)
      rw [← hy]
      have hyI : (y : Int) < 18446744073709551616 := by omega
      have hy0 : (0 : Int) ≤ (y : Int) := by omega
      obtain ⟨d, hd⟩ : ∃ d : Int, d = (y : Int) % 10 := ⟨_, rfl⟩
      have d0 : 0 ≤ d := by omega
      have d9 : d ≤ 9 := by omega
      rw [← hd] at hbn
      generalize (List.replicate (q + j + 1) (0 : UInt8) ++ (pad k n ++ P)).getD (q + j) 0 = z at hcell
      clear hset hbs hb hy hyb hj hlt
      go_wp2_with fail
      rw [hd] at hbn
      rw [hbn] at HNX HG2
      refine ⟨⟨k + 1, HK.out, ?_, by go_num, HNX.out, HG2.out⟩, ?_⟩
      · rw [← HY.out]; go_num
      · have := HK.out; simp [intOf]; omega
    · obtain rfl : k = 19 := by omega
      clear hlt hk
      go_wp2_with fail
      go_end0
      exact ⟨rfl, HBS.out, HGR.out⟩
end Go.Proofs.YtcbebikcfcidmaaDoor

namespace Go.Proofs.YtcbebikcfcidmaaDoor
open Go.RowKit

theorem made_bytes {w0 : World} {B n g : Nat} (h : w0.ownsRow B 5 1 (.slice (some ⟨g, 0, none⟩) n n) n (madeCells (Value.int .u8 0).cells (n * 1)).toList) : BS w0 g (List.replicate n 0) := by
  rw [show (Value.int .u8 0).cells = #[.int .u8 0] from rfl, toList_madeCells_one, Nat.mul_one] at h
  rcases h.2 with ⟨he, _⟩ | ⟨g', cap, cur, he, _, hg, _, _, _, htk⟩
  · cases he
  · cases he
    refine ⟨cur, hg, fun i hi => ?_⟩
    rw [List.length_replicate] at hi
    rw [Nat.mul_one] at htk
    have e : (cur.toList.take n)[i]? = (List.replicate n (Value.int .u8 0))[i]? := by rw [htk]
    rw [List.getElem?_take, if_pos hi, List.getElem?_replicate, if_pos hi] at e
    rw [List.getD_eq_getElem?_getD, List.getElem?_replicate, if_pos hi]
    simpa using e
theorem NRow.of_block {B g n cap : Nat} {w w' : World} {L : List Nat} (h : NRow B w (.slice (some ⟨g, 0, none⟩) n cap) L) (e : w'.heap[g]? = w.heap[g]?) : NRow B w' (.slice (some ⟨g, 0, none⟩) n cap) L := by
  refine ⟨h.1, ?_⟩
  rcases h.2 with ⟨he, _⟩ | ⟨g', cap', cur, he, hg0, hg, rest⟩
  · cases he
  · cases he
    exact .inr ⟨g, _, cur, rfl, hg0, e.trans hg, rest⟩
/-- There is room for a group more. -/
theorem room_more {na N j : Nat} (h : na < 2 ^ (64 * N)) (hx : na / 10 ^ (19 * j) ≠ 0) : 63 * j < 64 * N := by
  have h1 : 10 ^ (19 * j) ≤ na := Nat.le_of_not_lt (fun hlt => hx (Nat.div_eq_of_lt hlt))
  have h2 : 2 ^ (63 * j) ≤ 10 ^ (19 * j) := by
    rw [Nat.pow_mul, Nat.pow_mul]
    exact Nat.pow_le_pow_left (by decide) _
  exact (Nat.pow_lt_pow_iff_right (a := 2) (by omega)).1 (by omega)

def TextAt (B na R g g2 cap2 : Nat) (w : World) (v i : Value) (W : World) : Prop :=
  ∃ j q x : Nat, q + 19 * j = R ∧ x = na / 10 ^ (19 * j) ∧ v = .slice (some ⟨g2, 0, none⟩) (nrow x).length cap2 ∧ i = .int .i64 (q : Int) ∧ NRow B W (.slice (some ⟨g2, 0, none⟩) (nrow x).length cap2) (nrow x) ∧ BS W g (List.replicate q 0 ++ pad (19 * j) na) ∧ Below B w W

set_option maxRecDepth 100000 in
set_option maxHeartbeats 4000000 in
theorem text_p {K : Nat} {w : World} {va : Value} {na : Nat} (ha : NNum K w va na) (hK : K ≤ 1099511627776) (hs : Short na) : Calls Tryd.prog 28 #[va] w (StrPost (decT na) w) := by
  have HT := Lib.hid (trim_v ha hK)
  obtain ⟨a, ca, A, rfl, _, _, _, _, _, _⟩ := ha
  have hd : decide (2048 < (nrow na).length) = false := by simpa using hs
  have hsl : (nrow na).length ≤ 2048 := hs
  clear hs
  obtain ⟨i0, hi, hz0, hz1, hz2⟩ := info_parts info_u8
  by_cases h0 : na = 0
  · have HE : Hid (decT na = [48]) := Lib.hid (by unfold decT; rw [if_pos h0])
    have hz : (nrow na).length = 0 := by rw [h0]; rfl
    go_enter Tryd.func28, Tryd.ntmps28
    go_wp2_with fail
    refine HT.out.mono ?_
    rintro e w' ⟨v, rfl, hv, rfl⟩
    obtain ⟨a', cap', rfl, _, _, _⟩ := hv
    rw [hz] at hd ⊢
    go_wp2_with (go_at_call 43; refine (long_one _ _ _ _ _).mono ?_; rw [hd]; rintro e w2 ⟨rfl, rfl⟩)
    go_ret
    exact ⟨by rw [HE.out]; rfl, (Below.refl _ _).alloc (Nat.le_refl _) _⟩
  · have HE : Hid (decT na = dec na) := Lib.hid (by unfold decT; rw [if_neg h0])
    obtain ⟨N, hN⟩ : ∃ N, N = (nrow na).length := ⟨_, rfl⟩
    have hN0 : 0 < N := by
      rw [hN]; rcases Nat.eq_zero_or_pos (nrow na).length with h | h
      · exact absurd (nrow_nil.1 (List.eq_nil_of_length_eq_zero h)) h0
      · exact h
    have hnz : ¬ (N : Int) = 0 := by omega
    have hNI : (N : Int) ≤ 2048 := by omega
    have hN1 : (0 : Int) ≤ (N : Int) := by omega
    obtain ⟨R, hR⟩ : ∃ R, R = 19 * (64 * N / 63 + 1) := ⟨_, rfl⟩
    have HRR : Hid ((19 : Int) * ((64 * (N : Int)) / 63 + 1) = (R : Int)) := Lib.hid (by omega)
    have hRI : (R : Int) ≤ 100000 := by omega
    have HLT : Hid (na < 2 ^ (64 * N)) := Lib.hid (by have := lv_lt (nrow_fits na); rwa [lv_nrow, ← hN] at this)
    have H0 := Lib.hid h0
    obtain ⟨B, hB⟩ : ∃ B, B = w.heap.size := ⟨_, rfl⟩
    have HBB := Lib.hid hB
    have HN := Lib.hid hN
    have HR := Lib.hid hR
    clear hB hR h0
    go_enter Tryd.func28, Tryd.ntmps28
    go_wp2_with fail
    refine HT.out.mono ?_
    rintro e w' ⟨v, rfl, hv, rfl⟩
    have HV := Lib.hid hv
    obtain ⟨a', cap', rfl, _, _, _⟩ := hv
    rw [← hN] at hd hsl ⊢
    clear hN
    go_wp2_with (first
      | (go_at_call 43; refine (long_one _ _ _ _ _).mono ?_; rw [hd]; rintro e w2 ⟨rfl, rfl⟩)
      | fail)
    have HB : Hid (Below w.heap.size w (w.alloc (.cells #[.slice a' N cap'] 31))) := Lib.hid ((Below.refl _ _).alloc (Nat.le_refl _) _)
    have hcl := (clone_v (HV.out.below HB.out) (by rw [← HN.out]; omega)).mono (fun e w2 h => h.more HB.out)
    rw [← HN.out] at hcl
    refine hcl.mono ?_
    rintro e w2 ⟨v, rfl, hr, hb2⟩
    obtain ⟨g2, cap2, rfl⟩ := hr.form (by rw [← HN.out]; exact hN0)
    rw [← HBB.out] at hr hb2
    have HR2 := Lib.hid hr
    have HB2 := Lib.hid hb2
    have HG2 : Hid (g2 < w2.heap.size) := Lib.hid hr.seg.2.2.2.2.2.block
    rw [← HN.out]
    clear hcl hr hb2
    obtain ⟨g, hg⟩ : ∃ g, g = w2.heap.size := ⟨_, rfl⟩
    have HG := Lib.hid hg
    clear hg
    go_wp2_with (
      (at_make
       refine wpList_make_full _ rfl _ _ 91 rfl B 5 i0 (.int .u8 0) 1 Tryd.underlying91 hi hz0 hz1 .i64 .i64 _ _ R rfl rfl HRR.out HRR.out (by rw [hz2]; omega) (by unfold maxLen; omega) (by have h1 := HB2.out.size; have h2 := HBB.out; omega) ?_
       rw [← HG.out]
       intro w0 hown0 hg0
       have HBS : Hid (BS w0 g (List.replicate R 0)) := Lib.hid (made_bytes hown0)
       have HR0 : Hid (NRow B w0 (.slice (some ⟨g2, 0, none⟩) (nrow na).length cap2) (nrow na)) := Lib.hid (HR2.out.of_block (hg0.block g2 HG2.out (by simp)))
       have HB0 : Hid (Below B w w0) := Lib.hid (HB2.out.grown hg0 (by have h1 := HB2.out.size; have h2 := HBB.out; omega) (fun k hk => by cases hk))
       clear hown0 hg0))
    go_loopw [3, 5] (fun v i W => TextAt B na R g g2 cap2 w v i W) (fun _ i _ => (intOf i).toNat)
    case atStart =>
      refine ⟨0, R, na, by omega, by rw [Nat.mul_zero, Nat.pow_zero, Nat.div_one], by rw [← HN.out], rfl, HR0.out, ?_, HB0.out⟩
      have h : pad (19 * 0) na = [] := rfl
      rw [h, List.append_nil]; exact HBS.out
    case round =>
      obtain ⟨j, q, x, hq, hx, rfl, rfl, hrow, hbs, hbel⟩ := hrel
      have HX := Lib.hid hx
      have HROW := Lib.hid hrow
      have HBSW := Lib.hid hbs
      have HBEL := Lib.hid hbel
      clear hx hrow hbs hbel
      by_cases hx0 : x = 0
      · subst hx0
        have hna : na < 10 ^ (19 * j) := (Nat.div_eq_zero_iff_lt (Nat.pow_pos (by omega))).1 HX.out.symm
        obtain ⟨z, hz⟩ : ∃ z, z = 19 * j - (dec na).length := ⟨_, rfl⟩
        have hpd := pad_dec (19 * j) na hna
        rw [← hz] at hpd
        obtain ⟨c, t, hct, hc⟩ := dec_head H0.out
        have hdl := dec_length hna
        obtain ⟨D, hD⟩ : ∃ D, D = List.replicate q (0 : UInt8) ++ (List.replicate z 48 ++ dec na) := ⟨_, rfl⟩
        have hDl : D.length = R := by rw [hD]; simp; omega
        have hbsD : BS wr g D := by rw [hD, ← hpd]; exact HBSW.out
        have hget : ∀ s, s < z → (D.getD (q + s) 0).toNat = 48 := fun s hs => by
          rw [hD, List.getD_eq_getElem?_getD, List.getElem?_append_right (by simp), List.length_replicate, Nat.add_sub_cancel_left, List.getElem?_append_left (by simpa using hs), List.getElem?_replicate, if_pos hs]
          rfl
        have hgetz : (D.getD (q + z) 0).toNat ≠ 48 := by
          rw [hD, List.getD_eq_getElem?_getD, List.getElem?_append_right (by simp), List.length_replicate, Nat.add_sub_cancel_left, List.getElem?_append_right (by simp), List.length_replicate, Nat.sub_self, hct]
          simpa using hc
        have hzR : q + z < R := by
          have h1 : 0 < (dec na).length := by rw [hct]; simp
          omega
        have hcv := hbsD.conv (q + z) (R - (q + z)) (by omega)
        have hdrop : D.drop (q + z) = dec na := by
          rw [hD, ← List.append_assoc, List.drop_left' (by simp)]
        rw [hdrop, hDl] at hcv
        have HCELL : Hid (∀ i, i < R → wr.cell? ⟨g, i, none⟩ = some (.int .u8 ((D.getD i 0).toNat : Int))) := Lib.hid (fun i hi => hbsD.cell (by omega))
        have HGET := Lib.hid hget
        have HGETZ := Lib.hid hgetz
        have HZR := Lib.hid hzR
        have HCV := Lib.hid hcv
        clear hna hpd hct hc hdl hbsD hget hgetz hzR hcv hdrop hDl hD hz
        have hlen0 : (nrow 0).length = 0 := rfl
        rw [hlen0]
        go_wp2_with fail
        go_loop [5] (fun i => ∃ s, s ≤ z ∧ i = .int .i64 ((q + s : Nat) : Int)) (fun i => R - (intOf i).toNat)
        case atStart => exact ⟨0, Nat.zero_le _, rfl⟩
        case round =>
          obtain ⟨s, hsz, rfl⟩ := hrel
          obtain ⟨p, hp⟩ : ∃ p, p = q + s := ⟨_, rfl⟩
          rw [← hp]
          have hpR : (p : Int) < (R : Int) := by have := HZR.out; omega
          have hp0 : (0 : Int) ≤ (p : Int) := by omega
          have hcell := HCELL.out p (by omega)
          by_cases hlt : s < z
          · have hv := HGET.out s hlt
            rw [← hp] at hv
            rw [hv] at hcell
            have HP : Hid (p + 1 = q + (s + 1) ∧ s + 1 ≤ z ∧ p < R) := Lib.hid ⟨by omega, hlt, by omega⟩
            clear hp hlt hsz hv
            go_wp2_with fail
            go_round
            case rel => exact ⟨s + 1, HP.out.2.1, by rw [← HP.out.1]; go_num⟩
            case measure => have := HP.out.2.2; simp [intOf]; omega
          · obtain rfl : s = z := by omega
            have hv := HGETZ.out
            rw [← hp] at hv
            generalize (D.getD p 0) = y at hcell hv
            have hne : ((y.toNat : Int) == 48) = false := by simp; omega
            have hne2 : ¬ (y.toNat : Int) = 48 := by omega
            have hcv := HCV.out
            rw [← hp] at hcv
            have hpRn : p ≤ R := by omega
            clear hp hlt hsz hv
            go_wp2_with fail
            go_ret
            exact ⟨by rw [HE.out]; rfl, by rw [← HBB.out]; exact HBEL.out⟩
      · have hlen : 0 < (nrow x).length := by
          rcases Nat.eq_zero_or_pos (nrow x).length with h | h
          · exact absurd (nrow_nil.1 (List.eq_nil_of_length_eq_zero h)) hx0
          · exact h
        obtain ⟨X, hX⟩ : ∃ X, X = (nrow x).length := ⟨_, rfl⟩
        have hXI : (0 : Int) < (X : Int) := by omega
        have hXle : X ≤ 1099511627776 := by
          rw [hX]
          have h1 : (nrow x).length ≤ N := nrow_length_le (Nat.lt_of_le_of_lt (by rw [HX.out]; exact Nat.div_le_self _ _) HLT.out)
          omega
        have hroom := room_more (j := j) HLT.out (by rw [← HX.out]; exact hx0)
        obtain ⟨q', rfl⟩ : ∃ q', q = q' + 19 := ⟨q - 19, by have := HR.out; omega⟩
        obtain ⟨Q, hQ⟩ : ∃ Q, Q = q' + 19 := ⟨_, rfl⟩
        have hsg := HROW.out.seg
        have hby := divideByLimb_any g2 0 cap2 10000000000000000000 (nrow x) wr (by omega) (nrow_fits _) (by omega) (by omega) hsg.2.2.2.2.2
        have HGB : Hid (B ≤ g2) := Lib.hid hsg.2.2.1
        rw [← hX] at hby ⊢
        have HBY := Lib.hid hby
        rw [← hQ] at HBSW hq ⊢
        have HBSW := Lib.hid HBSW.out
        have hQ1 : (Q : Int) - 19 = (q' : Int) := by omega
        have hQ2 : (q' : Int) ≤ (Q : Int) := by omega
        have hQ3 : (Q : Int) ≤ (R : Int) := by omega
        have hq0 : (0 : Int) ≤ (q' : Int) := by omega
        have HXL := Lib.hid hX
        have HQ := Lib.hid hQ
        have hgne : g ≠ g2 := by have h1 := HG.out; have h2 := HG2.out; omega
        have hgw : g < wr.heap.size := HBSW.out.block
        clear hsg hby hX hQ hx0 hlen
        go_wp2_with fail
        refine HBY.out.mono ?_
        rintro e w3 ⟨O, r, rfl, hO, fO, hqv, hrv, hs3, hw3⟩
        rw [lv_nrow] at hqv hrv
        have hrow3 := HROW.out.wrote (by simpa using hw3) hs3 hO
        have hO' : O.length = X := by rw [hO, HXL.out]
        have hcp := hrow3.seg
        have ht := trim_any (some ⟨g2, 0, none⟩) cap2 O w3 (by omega) hcp.2.2.2.1 fO hs3.natAt
        rw [hO', hqv] at ht
        have HTR := Lib.hid ht
        have HROW3 : Hid (NRow B w3 (.slice (some ⟨g2, 0, none⟩) (nrow (x / 10000000000000000000)).length cap2) (nrow (x / 10000000000000000000))) := Lib.hid (by
          have h : NRow B w3 (.slice (some ⟨g2, 0, none⟩) O.length cap2) O := by rw [hO]; exact hrow3
          have h := h.norm fO
          rwa [hqv] at h)
        have HBS3 : Hid (BS w3 g (List.replicate Q 0 ++ pad (19 * j) na)) := Lib.hid (HBSW.out.of_block (hw3.other hgw hgne))
        have HBEL3 : Hid (Below B w w3) := Lib.hid (HBEL.out.trans (hw3.below (by have h1 := HBEL.out.size; have h2 := HBB.out; omega) HGB.out))
        have hr64 : r < 18446744073709551616 := by rw [hrv]; exact Nat.lt_trans (Nat.mod_lt _ (by omega)) (by omega)
        have hfill := fill_any g q' 19 r (pad (19 * j) na) w3 hr64 (by rw [← HQ.out]; exact HBS3.out)
        have HF := Lib.hid hfill
        have HRV := Lib.hid hrv
        clear hO fO hqv hrv hs3 hw3 hrow3 hO' hcp ht hfill hr64
        go_wp2_with fail
        refine HTR.out.mono ?_
        rintro e w4 ⟨rfl, rfl⟩
        go_wp2_with fail
        rw [show Q - q' = 19 by have := HQ.out; omega]
        with_reducible refine HF.out.mono ?_
        rintro e w5 ⟨rfl, hbs5, hgr5⟩
        have HBS5 : Hid (BS w5 g (List.replicate q' 0 ++ pad (19 * (j + 1)) na)) := Lib.hid (by
          have h : pad (19 * (j + 1)) na = pad 19 r ++ pad (19 * j) na := by
            rw [show 19 * (j + 1) = 19 + 19 * j by omega, pad_add, ← HX.out, HRV.out]
            exact congrArg (· ++ _) (pad_mod 19 x).symm
          rw [h]; exact hbs5)
        have HROW5 : Hid (NRow B w5 (.slice (some ⟨g2, 0, none⟩) (nrow (x / 10000000000000000000)).length cap2) (nrow (x / 10000000000000000000))) := Lib.hid (HROW3.out.of_block (hgr5.block g2 (by have := HROW3.out.seg.2.2.2.2.2.block; omega) (fun e => hgne (by cases e; rfl))))
        have HBEL5 : Hid (Below B w w5) := Lib.hid (HBEL3.out.grown hgr5 (by have h1 := HBEL3.out.size; have h2 := HBB.out; omega) (fun k hk => by cases hk; have h1 := HG.out; have h2 := HB2.out.size; have h3 := HBB.out; omega))
        have HXN : Hid (x / 10000000000000000000 = na / 10 ^ (19 * (j + 1))) := Lib.hid (by
          rw [HX.out, Nat.div_div_eq_div_mul, show 19 * (j + 1) = 19 * j + 19 by omega, Nat.pow_add])
        clear hbs5 hgr5
        go_wp2_with fail
        go_round
        case rel => exact ⟨j + 1, q', _, by have := HQ.out; omega, HXN.out, rfl, rfl, HROW5.out, HBS5.out, HBEL5.out⟩
        case measure => have := HQ.out; simp [intOf]; omega
end Go.Proofs.YtcbebikcfcidmaaDoor

namespace Go.Proofs.YtcbebikcfcidmaaDoor
open Go.RowKit

/-- The sign of an integer that is told by a flag and a magnitude. -/
def sgz (s : Bool) (n : Nat) : Int := if n = 0 then 0 else if s then -1 else 1
/-- A call that only makes memory of its own, and what it returns. -/
def Just (v : Value) (w : World) (e : Ending) (w' : World) : Prop := e = .returned v ∧ Below w.heap.size w w'

/-- A block of cells that may be written. -/
def BlkOf (W : World) (b : Nat) (cs : Array Value) (t : TypeId) : Prop := W.heap[b]? = some (.cells cs t (0, 0))
section
variable {W W' : World} {b : Nat} {cs : Array Value} {t : TypeId}
theorem BlkOf.lt (h : BlkOf W b cs t) : b < W.heap.size := (Array.getElem?_eq_some_iff.1 h).1
theorem BlkOf.cell (h : BlkOf W b cs t) (j : Nat) : W.cell? ⟨b, j, none⟩ = cs[j]? := cell_of_row W b j _ _ _ h
theorem BlkOf.at (h : BlkOf W b cs t) (j : Nat) {v : Value} (hv : cs[j]? = some v) : W.cell? ⟨b, j, none⟩ = some v := (h.cell j).trans hv
theorem BlkOf.free (h : BlkOf W b cs t) (j : Nat) : W.frozen? ⟨b, j, none⟩ = false := by unfold BlkOf at h; simp [World.frozen?, h]
theorem BlkOf.below {B : Nat} (h : BlkOf W b cs t) (s : Below B W W') (hb : b < B) : BlkOf W' b cs t := (s.block b hb).trans h
theorem BlkOf.alloc (h : BlkOf W b cs t) (o : Obj) : BlkOf (W.alloc o) b cs t := (Below.heap_alloc _ _ _ h.lt).trans h
theorem BlkOf.drew (h : BlkOf W b cs t) : BlkOf W.drew b cs t := h
theorem BlkOf.drewN (h : BlkOf W b cs t) (n : Nat) : BlkOf (W.drewN n) b cs t := h
theorem BlkOf.other (h : BlkOf W b cs t) {p : Addr} (hp : p.block ≠ b) (v : Value) : BlkOf (W.setCell p v) b cs t := (Below.heap_setCell _ _ _ _ (fun e => hp e.symm)).trans h
theorem BlkOf.set (h : BlkOf W b cs t) (j : Nat) (v : Value) : BlkOf (W.setCell ⟨b, j, none⟩ v) b (cs.setIfInBounds j v) t := by
  unfold BlkOf at h ⊢
  simp [World.setCell, Array.getElem?_modify, h]
theorem BlkOf.new (W : World) (cs : Array Value) (t : TypeId) : BlkOf (W.alloc (.cells cs t)) W.heap.size cs t := World.alloc_heap_new W _
theorem BlkOf.news (hz : W.heap.size = b) (cs : Array Value) (t : TypeId) : BlkOf (W.alloc (.cells cs t)) b cs t := by subst hz; exact BlkOf.new W cs t
end

/-- The end of a call whose one result is a struct in a cell. -/
theorem post_cell {P : Program} {fn : Func} {p : Tmp} {ty : TypeId} {Q : Ending → World → Prop} (h : fn.results = #[.cell p ty]) {tmps : Array Value} {w : World} {g : Nat} {t : TypeId} {cs : Array Value} {d : TypeDesc}
    (hp : tmps.getD p undef = .pointer (some ⟨g, 0, none⟩)) (hg : BlkOf w g cs t) (hu : P.underlying ty = some d) (hd : (match d with | .struct _ | .array _ _ => true | _ => false) = true) (hi : (P.info? ty).map (·.size) = some cs.size)
    (hq : Q (.returned (.agg cs)) w) : bodyPost P fn Q .ret { tmps := tmps, defers := [] } w :=
  bodyPost_ret (results_cell_row h tmps w g t cs (0, 0) d hp hg hu hd hi) rfl hq

section
variable {K : Nat} {w : World} {n : Nat}

set_option maxHeartbeats 1000000 in
theorem zopen_any (s : Bool) (a : Option Addr) (l c : Nat) (w : World) :
    Calls Tryd.prog 56 #[.agg #[.bool s, .slice a l c]] w (Just (.agg #[.bool s, .slice a l c, .int .i64 0]) w) := by
  go_enter Tryd.func56, Tryd.ntmps56
  go_wp2_with fail
  refine post_cell rfl (g := w.heap.size + 1) rfl (BlkOf.news (by simp) _ _) Tryd.underlying105 rfl (by kernel_rfl) ?_
  exact ⟨rfl, ((Below.refl _ _).alloc (Nat.le_refl _) _).alloc (by simp) _⟩

set_option maxHeartbeats 1000000 in
theorem mbits_any {v : Value} (ha : NNum K w v n) (hK : K ≤ 137438953472) (e : Int) :
    Calls Tryd.prog 81 #[.agg #[v, .int .i64 e]] w (Just (.int .i64 (blen n)) w) := by
  have h1 := ha.below ((Below.refl w.heap.size w).alloc (Nat.le_refl _) (.cells #[v, .int .i64 e] 103))
  have HB := Lib.hid (bits_p h1 hK)
  obtain ⟨a, ca, A, rfl, _, _, _, _, _, _⟩ := ha
  clear h1
  go_enter Tryd.func81, Tryd.ntmps81
  go_wp2_with fail
  refine HB.out.mono ?_
  rintro e w' ⟨rfl, rfl⟩
  go_wp2_with fail
  go_ret
  exact ⟨rfl, (Below.refl _ _).alloc (Nat.le_refl _) _⟩

set_option maxHeartbeats 1000000 in
theorem none_any {v : Value} (ha : NNum K w v n) (hK : K ≤ 137438953472) (e : Int) :
    Calls Tryd.prog 69 #[.agg #[v, .int .i64 e]] w (Just (.bool (decide (n = 0))) w) := by
  have h1 := ha.below ((Below.refl w.heap.size w).alloc (Nat.le_refl _) (.cells #[v, .int .i64 e] 103))
  have HB := Lib.hid (mbits_any h1 hK e)
  have hz : (((blen n : Nat) : Int) == 0) = decide (n = 0) := by
    by_cases h : n = 0
    · subst h; rfl
    · have := blen_pos h
      simp [h]; omega
  obtain ⟨a, ca, A, rfl, _, _, _, _, _, _⟩ := ha
  clear h1
  go_enter Tryd.func69, Tryd.ntmps69
  go_wp2_with fail
  refine HB.out.mono ?_
  rintro e w' ⟨rfl, hb⟩
  go_wp2_with fail
  go_ret
  exact ⟨rfl, (((Below.refl _ _).alloc (Nat.le_refl _) _).trans (hb.mono (by simp)))⟩

set_option maxHeartbeats 1000000 in
theorem isign_any {v : Value} (s : Bool) (ha : NNum K w v n) (hK : K ≤ 137438953472) (e : Int) :
    Calls Tryd.prog 57 #[.agg #[.bool s, v, .int .i64 e]] w (Just (.int .i64 (sgz s n)) w) := by
  have h1 := ha.below ((Below.refl w.heap.size w).alloc (Nat.le_refl _) (.cells #[.bool s, v, .int .i64 e] 105))
  have HB := Lib.hid (none_any h1 hK e)
  have hc : (∃ d, d = decide (n = 0) ∧ d = true ∧ sgz s n = 0) ∨ (∃ d, d = decide (n = 0) ∧ d = false ∧ (s = true ∧ sgz s n = -1 ∨ s = false ∧ sgz s n = 1)) := by
    by_cases h : n = 0
    · exact .inl ⟨_, rfl, by simp [h], by simp [sgz, h]⟩
    · exact .inr ⟨_, rfl, by simp [h], by cases s <;> simp [sgz, h]⟩
  obtain ⟨a, ca, A, rfl, _, _, _, _, _, _⟩ := ha
  clear h1
  rcases hc with ⟨d, hd, rfl, hs⟩ | ⟨d, hd, rfl, ⟨rfl, hs⟩ | ⟨rfl, hs⟩⟩
  all_goals
    rw [hs]
    rw [← hd] at HB
    have HB2 := Lib.hid HB.out
    clear HB hd hs
    go_enter Tryd.func57, Tryd.ntmps57
    go_wp2_with fail
    refine HB2.out.mono ?_
    rintro e w' ⟨rfl, hb⟩
    have hcell := Below.cell hb (p := ⟨w.heap.size, 0, none⟩) (by simp)
    rw [World.cell?_alloc_at _ _ _ _ rfl] at hcell
    have HBB := Lib.hid (((Below.refl w.heap.size w).alloc (Nat.le_refl _) _).trans (hb.mono (by simp)))
    clear hb
    try simp at hcell
    go_wp2_with fail
    go_ret
    exact ⟨rfl, HBB.out⟩

set_option maxHeartbeats 1000000 in
theorem zsign_any {v : Value} (s : Bool) (ha : NNum K w v n) (hK : K ≤ 137438953472) :
    Calls Tryd.prog 40 #[.agg #[.bool s, v]] w (Just (.int .i64 (sgz s n)) w) := by
  have HA := Lib.hid ha
  obtain ⟨a, ca, A, rfl, _, _, _, _, _, _⟩ := ha
  go_enter Tryd.func40, Tryd.ntmps40
  go_wp2_with fail
  refine (zopen_any s a A.length ca _).mono ?_
  rintro e w' ⟨rfl, hb⟩
  have hb1 : Below w.heap.size w w' := ((Below.refl _ _).alloc (Nat.le_refl _) _).trans (hb.mono (by simp))
  have HB := Lib.hid (isign_any s (HA.out.below hb1) hK 0)
  have HB1 := Lib.hid hb1
  clear hb hb1
  go_wp2_with fail
  refine HB.out.mono ?_
  rintro e w2 ⟨rfl, hb2⟩
  have HB2 := Lib.hid (HB1.out.trans (hb2.mono HB1.out.size))
  clear hb2
  go_wp2_with fail
  go_ret
  exact ⟨rfl, HB2.out⟩
end
end Go.Proofs.YtcbebikcfcidmaaDoor

namespace Go.Proofs.YtcbebikcfcidmaaDoor
open Go.RowKit

/-- An integer's text. -/
def zT (s : Bool) (n : Nat) : List UInt8 := if s = true ∧ n ≠ 0 then 45 :: decT n else decT n

section
variable {K : Nat} {w : World} {n : Nat}

theorem decT_ne (n : Nat) : decT n ≠ [] := by
  unfold decT
  split
  · simp
  · rename_i h; exact dec_ne h

theorem decT_len {M n : Nat} (hM : 1 ≤ M) (h : n < 2 ^ M) : (decT n).length ≤ M := by
  unfold decT
  split
  · simpa using hM
  · exact dec_length (Nat.lt_of_lt_of_le h (Nat.pow_le_pow_left (by omega) M))
theorem short_lt {n M : Nat} (h : Short n) (hM : M = 64 * 2048) : n < 2 ^ M := by
  have h1 := lv_lt (nrow_fits n)
  rw [lv_nrow] at h1
  refine Nat.lt_of_lt_of_le h1 (Nat.pow_le_pow_right (by omega) ?_)
  have : (nrow n).length ≤ 2048 := h
  omega
theorem decT_shortM {n M : Nat} (h : Short n) (hM : M = 64 * 2048) : (decT n).length ≤ M := decT_len (by omega) (short_lt h hM)
theorem decT_short {n : Nat} (h : Short n) : (decT n).length ≤ 131072 := decT_shortM h (by decide)

set_option maxHeartbeats 1000000 in
theorem ztext_any {v : Value} (s : Bool) (ha : NNum K w v n) (hK : K ≤ 137438953472) (hs : Short n) :
    Calls Tryd.prog 27 #[.agg #[.bool s, v]] w (StrPost (zT s n) w) := by
  have h1 := ha.below ((Below.refl w.heap.size w).alloc (Nat.le_refl _) (.cells #[.bool s, v] 33))
  have HT := Lib.hid (text_p h1 (by omega) hs)
  have HA := Lib.hid h1
  obtain ⟨a, ca, A, rfl, _, _, _, _, _, _⟩ := ha
  have hZ : (∃ z : Int, z = sgz s n ∧ z < 0 ∧ decide (z < 0) = true ∧ decide (0 ≤ z) = false ∧ zT s n = 45 :: decT n) ∨ (∃ z : Int, z = sgz s n ∧ 0 ≤ z ∧ decide (z < 0) = false ∧ decide (0 ≤ z) = true ∧ zT s n = decT n) := by
    unfold zT sgz
    by_cases h : n = 0 <;> cases s <;> simp [h]
  obtain ⟨T, hT⟩ : ∃ T, T = decT n := ⟨_, rfl⟩
  have hne : T ≠ [] := by rw [hT]; exact decT_ne n
  have he : (mk T).toList.isEmpty = false := by
    rw [mk_toL]; cases T with
    | nil => exact absurd rfl hne
    | cons => rfl
  have he2 : ((mk T).toList == []) = false := by
    rw [mk_toL]; cases T with
    | nil => exact absurd rfl hne
    | cons => rfl
  have hsz : (mk T).size ≤ 131072 := by rw [mk_size, hT]; exact decT_short hs
  rw [← hT] at HT hZ
  have HT2 := Lib.hid HT.out
  have happ : (⟨#[45]⟩ : ByteArray) ++ mk T = mk (45 :: T) := mk_append [45] T
  clear h1 HT hT hne
  rcases hZ with ⟨z, hz, hz0, hz1, hz2, hzT⟩ | ⟨z, hz, hz0, hz1, hz2, hzT⟩
  all_goals
    rw [hzT]
    have HZ := Lib.hid hz
    clear hz hzT
    go_enter Tryd.func27, Tryd.ntmps27
    go_wp2_with fail
    refine HT2.out.mono ?_
    rintro e w' ⟨rfl, hb⟩
    have hcell0 := Below.cell hb (p := ⟨w.heap.size, 0, none⟩) (by simp)
    have hcell1 := Below.cell hb (p := ⟨w.heap.size, 1, none⟩) (by simp)
    rw [World.cell?_alloc_at _ _ _ _ rfl] at hcell0 hcell1
    simp at hcell0 hcell1
    have HB := Lib.hid (((Below.refl w.heap.size w).alloc (Nat.le_refl _) _).trans (hb.mono (by simp)))
    have hs9 := zsign_any s (HA.out.below hb) hK
    rw [← HZ.out] at hs9
    have HS := Lib.hid hs9
    clear hb hs9
    go_wp2_with (first | (go_at_call 40; refine HS.out.mono ?_; rintro e w2 ⟨rfl, hb2⟩) | fail)
    go_ret
    rename_i w2 hb2
    exact ⟨rfl, HB.out.trans (hb2.mono HB.out.size)⟩
end
end Go.Proofs.YtcbebikcfcidmaaDoor

namespace Go.Proofs.YtcbebikcfcidmaaDoor
open Go.RowKit

section
variable {P : Program} {l m : Nat} {ops : Array Oper} {Q : Exit → Act → World → Prop} {md : Region.Mode} {S : World → Prop}

/-- As 'wpAnyH', but that S need not hold behind operation number t. -/
def wpAnyK (P : Program) (md : Region.Mode) (ops : Array Oper) (Q : Exit → Act → World → Prop) (S : World → Prop) (t : Nat) : Nat → Array Bool → Act → World → Prop
  | 0, listed, a, w => Region.ready md ops listed = [] ∧ Q .normal a w
  | fuel + 1, listed, a, w =>
    (Region.ready md ops listed = [] → Q .normal a w) ∧
    ∀ i ∈ Region.ready md ops listed, wpOp P ops Q i (fun a' w' => (i ≠ t → S w') ∧ wpAnyK P md ops Q S t fuel (listed.setIfInBounds i true) a' w') a w
theorem wpAny_of_K {t : Nat} : ∀ (fuel : Nat) (listed : Array Bool) (a : Act) (w : World), wpAnyK P md ops Q S t fuel listed a w → wpAny P md ops Q fuel listed a w
  | 0, _, _, _, h => h
  | fuel + 1, _, _, _, h => ⟨h.1, fun i hi => wpOp_mono (fun a' w' h' => wpAny_of_K fuel _ a' w' h'.2) (h.2 i hi)⟩
/-- What an operation waits for has come up before it. -/
def Closed (md : Region.Mode) (ops : Array Oper) (listed : Array Bool) : Prop := listed.size = ops.size ∧ ∀ j oj, ops[j]? = some oj → listed.getD j false = true → ∀ e ∈ oj.after, Region.binds md e = true → listed.getD e.on false = true
theorem Closed.set {listed : Array Bool} (h : Closed md ops listed) {i : Nat} (hi : i ∈ Region.ready md ops listed) : Closed md ops (listed.setIfInBounds i true) := by
  refine ⟨by simp [h.1], fun j oj hj hl e he hb => ?_⟩
  obtain ⟨_, oi, hoi, hall⟩ := mem_ready.1 hi
  by_cases hji : i = j
  · subst hji
    rw [hj] at hoi
    cases hoi
    exact getD_set_true (hall e he hb)
  · rw [getD_set_ne false hji] at hl
    exact getD_set_true (h.2 j oj hj hl e he hb)
/-- Each operation but t is waited for by one behind it. -/
def chainK (md : Region.Mode) (ops : Array Oper) (t : Nat) : Bool := (List.range t).all fun i => (List.range (t + 1)).any fun j => decide (i < j) && Region.waitsFor md ops j i
theorem chain_waits {t : Nat} (hc : chainK md ops t = true) (ht : t + 1 = ops.size) {listed : Array Bool} (h : Closed md ops listed) : ∀ (d i : Nat), t - i = d → i < t → listed.getD i true = false → t ∉ Region.ready md ops listed := by
  intro d
  induction d using Nat.strongRecOn with
  | _ d ih =>
    intro i hd hit hun hmem
    have h1 := List.all_eq_true.1 hc i (List.mem_range.2 hit)
    obtain ⟨j, hj, hj2⟩ := List.any_eq_true.1 h1
    simp only [Bool.and_eq_true, decide_eq_true_eq] at hj2
    have hjt : j < t + 1 := List.mem_range.1 hj
    obtain ⟨oj, hoj, e, he, hb, hon⟩ := Region.waitsFor_spec hj2.2
    by_cases hjt' : j = t
    · subst hjt'
      obtain ⟨_, ot, hot, hall⟩ := mem_ready.1 hmem
      rw [hoj] at hot
      cases hot
      have := hall e he hb
      rw [hon, getD_both hun] at this
      cases this
    · have hjun : listed.getD j true = false := by
        refine getD_in (by rw [h.1]; omega) ?_
        cases hq : listed.getD j false with
        | false => rfl
        | true =>
          have := h.2 j oj hoj hq e he hb
          rw [hon, getD_both hun] at this
          cases this
      exact ih (t - j) (by omega) j rfl (by omega) hjun hmem
theorem wpAnyK_first {t i : Nat} {oi : Oper} {v : Value} (hc : chainK md ops t = true) (ht : t + 1 = ops.size) (hit : i < t) (hi : ops[i]? = some oi) (hsel : ∀ (j : Nat) (o : Oper) cs b, ops[j]? = some o → o.op ≠ .select cs b)
    (hQ : ∀ c a w, Q (.panic c) (a.put oi.dst v) w → Q (.panic c) a w) :
    ∀ (fuel : Nat) (listed : Array Bool) (a : Act) (w : World), Closed md ops listed →
      (∀ j oj, ops[j]? = some oj → j ≠ i → listed.getD j true = false → (∀ e ∈ oj.after, Region.binds md e = true → e.on ≠ i) → oi.apart ops oj = true) →
      i ∈ Region.ready md ops listed → YieldsIf P ops S oi v a → S w →
      wpAnyK P md ops Q S t fuel (listed.setIfInBounds i true) (a.put oi.dst v) w → wpAnyK P md ops Q S t (fuel + 1) listed a w := by
  intro fuel
  induction fuel with
  | zero =>
    intro listed a w _ _ hr hy hS H
    refine ⟨fun h => (by rw [h] at hr; cases hr), fun j hj => ?_⟩
    by_cases hji : j = i
    · subst hji; exact hy.wpOp hi hS ⟨fun _ => hS, H⟩
    · have := ready_mono hj hji
      rw [H.1] at this
      cases this
  | succ fuel ih =>
    intro listed a w hcl hfree hr hy hS H
    refine ⟨fun h => (by rw [h] at hr; cases hr), fun j hj => ?_⟩
    by_cases hji : j = i
    · subst hji; exact hy.wpOp hi hS ⟨fun _ => hS, H⟩
    · have hjt : j ≠ t := fun e => by
        subst e
        exact chain_waits hc ht hcl _ i rfl hit (mem_ready.1 hr).1 hj
      have h1 := H.2 j (ready_mono hj hji)
      obtain ⟨hjun, oj, hoj, hall⟩ := mem_ready.1 hj
      have hnot : ∀ e ∈ oj.after, Region.binds md e = true → e.on ≠ i := fun e he hb heq => by
        have h1 := hall e he hb
        have h0 := (mem_ready.1 hr).1
        rw [heq, getD_both h0] at h1
        cases h1
      have h1' := wpOp_mono (fun a' w' (h3 : (j ≠ t → S w') ∧ wpAnyK P md ops Q S t fuel ((listed.setIfInBounds i true).setIfInBounds j true) a' w') => (⟨h3.1 hjt, h3.2⟩ : S w' ∧ _)) h1
      have h2 := wpOp_putIf hoj (hfree j oj hoj hji hjun hnot) (fun cs b => hsel i oi cs b hi) (fun cs b => hsel j oj cs b hoj) hQ hy h1'
      have hfree' : ∀ k ok, ops[k]? = some ok → k ≠ i → (listed.setIfInBounds j true).getD k true = false →
          (∀ e ∈ ok.after, Region.binds md e = true → e.on ≠ i) → oi.apart ops ok = true := fun k ok hk hki hun hno => by
        refine hfree k ok hk hki ?_ hno
        by_cases hjk : j = k
        · subst hjk; exact hjun
        · rw [getD_set_ne true hjk] at hun; exact hun
      refine wpOp_mono (fun a' w' h3 => ⟨fun _ => h3.2.1, ih (listed.setIfInBounds j true) a' w' (hcl.set hj) hfree' (ready_mono hr (Ne.symm hji)) h3.1 h3.2.1 ?_⟩) h2
      rw [Array.setIfInBounds_comm _ _ hji]
      exact h3.2.2

def walkK (P : Program) (ops : Array Oper) (Q : Exit → Act → World → Prop) (S : World → Prop) : List Oper → List Bool → Act → World → Prop
  | o :: r, true :: fl, a, w => S w ∧ ∃ v, (Region.wanted o (yielded ops a.tmps) = true ∧ ∀ w', S w' → (execOp a.eval o).run P w' = .ok (.value v) w') ∧ walkK P ops Q S r fl (a.put o.dst v) w
  | o :: r, false :: fl, a, w => Region.wanted o (yielded ops a.tmps) = true ∧ o.wp P a w (fun a' w' => (r ≠ [] → S w') ∧ walkK P ops Q S r fl a' w') Q
  | _, _, a, w => Q .normal a w
def okK (md : Region.Mode) (ops : Array Oper) (t : Nat) : List Bool → Nat → Array Bool → Bool
  | [], _, listed => (Region.ready md ops listed).isEmpty
  | true :: fl, k, listed => decide (k < t) && ((Region.ready md ops listed).contains k && (Region.free md ops listed k && okK md ops t fl (k + 1) (listed.setIfInBounds k true)))
  | false :: fl, k, listed => Region.ready md ops listed == [k] && okK md ops t fl (k + 1) (listed.setIfInBounds k true)
theorem wpAnyK_walk {t : Nat} (hc : chainK md ops t = true) (ht : t + 1 = ops.size) (hs : Region.noSelect ops = true) (hQ : ∀ c a d v w, Q (.panic c) (Act.put a d v) w → Q (.panic c) a w) :
    ∀ (L : List Oper) (fl : List Bool) (k : Nat) (listed : Array Bool) (a : Act) (w : World), k + L.length = t + 1 → Closed md ops listed → (∀ j, L[j]? = ops[k + j]?) → fl.length = L.length → okK md ops t fl k listed = true → walkK P ops Q S L fl a w → wpAnyK P md ops Q S t L.length listed a w
  | [], fl, k, listed, a, w, _, _, _, hf, hok, h => by
    obtain rfl : fl = [] := List.eq_nil_of_length_eq_zero hf
    exact ⟨List.isEmpty_iff.1 hok, h⟩
  | o :: L, [], _, _, _, _, _, _, _, hf, _, _ => by simp at hf
  | o :: L, true :: fl, k, listed, a, w, hkl, hcl, hl, hf, hok, h => by
    have h0 : ops[k]? = some o := by simpa using (hl 0).symm
    simp only [okK, Bool.and_eq_true, decide_eq_true_eq] at hok
    obtain ⟨hkt, hr, hfree, hok'⟩ := hok
    obtain ⟨hS, v, ⟨hw, hy⟩, hrest⟩ := h
    have hr' : k ∈ Region.ready md ops listed := by simpa using hr
    exact wpAnyK_first hc ht hkt h0 (Region.noSelect_spec hs) (fun c a w => hQ c a _ _ w) _ _ _ _ hcl (Region.free_spec h0 hfree) hr' (.inl ⟨hw, hy⟩) hS
      (wpAnyK_walk hc ht hs hQ L fl (k + 1) _ _ w (by simp at hkl; omega) (hcl.set hr') (fun j => by have := hl (j + 1); rw [List.getElem?_cons_succ] at this; rw [this]; congr 1; omega) (by simpa using hf) hok' hrest)
  | o :: L, false :: fl, k, listed, a, w, hkl, hcl, hl, hf, hok, h => by
    have h0 : ops[k]? = some o := by simpa using (hl 0).symm
    simp only [okK, Bool.and_eq_true] at hok
    obtain ⟨hr, hok'⟩ := hok
    have hr' : Region.ready md ops listed = [k] := by simpa using hr
    obtain ⟨hw, hop⟩ := h
    refine ⟨fun he => (by rw [hr'] at he; cases he), fun i hi => ?_⟩
    have hmem := hi
    rw [hr'] at hi
    have hik : i = k := by simpa using hi
    subst hik
    unfold wpOp
    simp only [h0]
    rw [if_pos hw]
    exact .inl (Oper.wp_mono (fun a' w' hh => ⟨fun hne => hh.1 (fun e => by subst e; simp at hkl; exact hne (by omega)), wpAnyK_walk hc ht hs hQ L fl (i + 1) _ _ w' (by simp at hkl; omega) (hcl.set hmem) (fun j => by have := hl (j + 1); rw [List.getElem?_cons_succ] at this; rw [this]; congr 1; omega) (by simpa using hf) hok' hh.2⟩) hop)
/-- In a round: a region, walked in the text's order; what its last operation writes may be what the others read. -/
theorem wpIn_region_walkK {id : Nat} {a : Act} {w : World} {L : List Oper} (S : World → Prop) (fl : List Bool) (t : Nat) (hm : P.follows .mixedOrders = true) (hs : Region.noSelect L.toArray = true) (hn : noDefer L.toArray = true)
    (ht : t + 1 = L.length) (hc : chainK .any L.toArray t = true) (hf : fl.length = L.length) (hok : okK .any L.toArray t fl 0 (Array.replicate L.toArray.size false) = true) (hq : ¬ LetsOut Q) (hQ : ∀ c a d v w, Q (.panic c) (Act.put a d v) w → Q (.panic c) a w)
    (h : walkK P L.toArray Q S L fl a w.drew) : (Code.region id L.toArray true).wpIn (Fence.wide.inRound l) m P Q a w := by
  refine wpIn_region_any hm (wpAnyIn_of hn hq _ _ _ _ (wpAny_of_K (S := S) (t := t) _ _ _ _ ?_))
  have hcl : Closed .any L.toArray (Array.replicate L.toArray.size false) := ⟨by simp, fun j oj _ hl => (by rw [getD_replicate_false] at hl; cases hl)⟩
  have := wpAnyK_walk (md := .any) hc (by simpa using ht) hs hQ L fl 0 (Array.replicate L.toArray.size false) a w.drew (by omega) hcl (fun j => by simp) hf hok h
  simpa using this
theorem walkK_yes {o : Oper} {r : List Oper} {fl : List Bool} {a : Act} {w : World} (hS : S w) {v : Value} (hw : Region.wanted o (yielded ops a.tmps) = true) (hy : ∀ w', S w' → (execOp a.eval o).run P w' = .ok (.value v) w')
    (h : walkK P ops Q S r fl (a.put o.dst v) w) : walkK P ops Q S (o :: r) (true :: fl) a w := ⟨hS, v, ⟨hw, hy⟩, h⟩
theorem walkK_no {o : Oper} {r : List Oper} {fl : List Bool} {a : Act} {w : World} (hw : Region.wanted o (yielded ops a.tmps) = true)
    (h : ∀ K : Act → World → Prop, (∀ a' w', (r ≠ [] → S w') → walkK P ops Q S r fl a' w' → K a' w') → o.wp P a w K Q) : walkK P ops Q S (o :: r) (false :: fl) a w :=
  ⟨hw, h _ fun _ _ hS' h' => ⟨hS', h'⟩⟩
end
end Go.Proofs.YtcbebikcfcidmaaDoor
