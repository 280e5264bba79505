/-
  LAYER 3: the texts NatHead, one behind the other.
-/
import Derived.Test.YtcdedaihkfpafaaNatBT
import Derived.Test.YtcdedaihkfpafaaNatB6
import Derived.Test.YtcdedaihkfpafaaNatB7
import Derived.Test.YtcdedaihkfpafaaNatB8

namespace Go.Proofs.Ytcdedaihkfpafaa
open Go.RowKit

/-- A limb that may be read. -/
def KC (w : World) (b off x : Nat) : Prop := b < w.heap.size ∧ w.cell? ⟨b, off, none⟩ = some (.int .u64 (x : Int))
theorem KC.below {w w' : World} {b off x : Nat} (h : KC w b off x) (hb : Below w.heap.size w w') : KC w' b off x :=
  ⟨Nat.lt_of_lt_of_le h.1 hb.size, (hb.cell (p := ⟨b, off, none⟩) h.1).trans h.2⟩
theorem KC.alloc {w : World} {b off x : Nat} (h : KC w b off x) (o : Obj) : KC (w.alloc o) b off x := h.below ((Below.refl _ _).alloc (Nat.le_refl _) o)
theorem NRow.one {B : Nat} {w : World} {v : Value} {x : Nat} (h : NRow B w v [x]) : ∃ b off cap, v = .slice (some ⟨b, off, none⟩) 1 cap ∧ KC w b off x := by
  obtain ⟨A, cap, rfl, _, _, hat⟩ := h.at_
  obtain ⟨b, off, rfl, hlt, hc⟩ := hat.lt (i := 0) (by simp)
  exact ⟨b, off, cap, rfl, hlt, hc⟩
theorem NRow.two {B : Nat} {w : World} {v : Value} {x y : Nat} (h : NRow B w v [x, y]) : ∃ b off cap, v = .slice (some ⟨b, off, none⟩) 2 cap ∧ KC w b off x ∧ KC w b (off + 1) y := by
  obtain ⟨A, cap, rfl, _, _, hat⟩ := h.at_
  obtain ⟨b, off, rfl, hlt, hc⟩ := hat.lt (i := 0) (by simp)
  obtain ⟨b', off', e, hlt', hc'⟩ := hat.lt (i := 1) (by simp)
  cases e
  exact ⟨b, off, cap, rfl, ⟨hlt, hc⟩, ⟨hlt', hc'⟩⟩
theorem nrow_one {x : Nat} (h0 : x ≠ 0) (hx : x < 18446744073709551616) : nrow x = [x] := by
  have h := nrow_of (L := [x]) (fun y hy => by simp at hy; subst hy; exact hx) (.inr (by simpa using h0))
  rw [lv_one] at h
  exact h.symm
theorem nrow_two {x y n : Nat} (h0 : y ≠ 0) (hx : x < 18446744073709551616) (hy : y < 18446744073709551616) (hn : n = x + y * 18446744073709551616) : nrow n = [x, y] := by
  have h := nrow_of (L := [x, y]) (fun z hz => by simp at hz; rcases hz with rfl | rfl <;> assumption) (.inr (by simpa using h0))
  rw [h, hn]
  congr 1
  simp [lv]; omega
theorem num_one (w : World) (T : TypeId) (d : Nat) (hd : d < 18446744073709551616) : NNum 1 (w.alloc (.cells #[.int .u64 (d : Int)] T)) (.slice (some ⟨w.heap.size, 0, none⟩) 1 1) d := num_lit T hd
theorem num_two (w : World) (T : TypeId) (x y : Nat) (hx : x < 18446744073709551616) (hy : y < 18446744073709551616) : NNum 2 (w.alloc (.cells #[.int .u64 (x : Int), .int .u64 (y : Int)] T)) (.slice (some ⟨w.heap.size, 0, none⟩) 2 2) (x + y * 18446744073709551616) := by
  have h : lv [x, y] = x + y * 18446744073709551616 := by simp [lv]; omega
  rw [← h]
  refine NNum.of_arg (L := [x, y]) (Nat.le_refl _) (fun e => by cases e) (fun z hz => by simp at hz; rcases hz with rfl | rfl <;> assumption) (fun i hi => ⟨w.heap.size, 0, rfl, ?_⟩) (Nat.le_refl _)
  have hi2 : i = 0 ∨ i = 1 := by simp at hi; omega
  rcases hi2 with rfl | rfl
  · rw [World.cell?_alloc_at _ _ _ _ rfl]; rfl
  · rw [World.cell?_alloc_at _ _ _ _ rfl]; rfl
theorem num_one_at {w : World} {g : Nat} (T : TypeId) (d : Nat) (hd : d < 18446744073709551616) (hg : g = w.heap.size) : NNum 1 (w.alloc (.cells #[.int .u64 (d : Int)] T)) (.slice (some ⟨g, 0, none⟩) 1 1) d := by subst hg; exact num_one w T d hd
theorem dec_pad {k n : Nat} {c : UInt8} {t : List UInt8} (h : n < 10 ^ k) (hp : pad k n = c :: t) (hc : c ≠ 48) : dec n = pad k n := by
  have h1 := pad_dec k n h
  rcases hz : k - (dec n).length with _ | z
  · rw [hz] at h1; rw [h1]; rfl
  · rw [hz, List.replicate_succ, hp] at h1
    injection h1 with h2
    exact absurd h2 hc
theorem text_lit : mk (decT 18446744073709551616) = ⟨#[49, 56, 52, 52, 54, 55, 52, 52, 48, 55, 51, 55, 48, 57, 53, 53, 49, 54, 49, 54]⟩ := by
  unfold decT
  rw [if_neg (by omega), dec_pad (k := 20) (n := 18446744073709551616) (c := 49) (t := [56, 52, 52, 54, 55, 52, 52, 48, 55, 51, 55, 48, 57, 53, 53, 49, 54, 49, 54]) (by omega) (by rfl) (by decide)]
  rfl
/-- The world with one thing more. -/
theorem new_below (w : World) (o : Obj) : Below w.heap.size w (w.alloc o) := (Below.refl _ _).alloc (Nat.le_refl _) o

set_option maxRecDepth 100000 in
set_option maxHeartbeats 4000000 in
theorem head_any (w : World) : Calls Try.prog 7 #[] w fun e w' => e = .returned (.bool true) ∧ Below w.heap.size w w' := by
  go_enter Try.func7, Try.ntmps7
  go_wp2_with fail
  obtain ⟨W, hW⟩ : ∃ W, W = w.alloc (.cells #[.int .u64 18446744073709551615] 42) := ⟨_, rfl⟩
  rw [← hW]
  have hall : NNum 1 W (.slice (some ⟨w.heap.size, 0, none⟩) 1 1) 18446744073709551615 := by rw [hW]; exact num_one w _ 18446744073709551615 (by omega)
  have hbw : Below w.heap.size w W := by rw [hW]; exact (Below.refl _ _).alloc (Nat.le_refl _) _
  have HALL := Lib.hid hall
  have HBW := Lib.hid hbw
  clear hW hall hbw
  refine (mul_p HALL.out HALL.out (by omega)).mono ?_
  rintro e w1 ⟨v1, rfl, hr1, hb1⟩
  rw [nrow_two (x := 1) (y := 18446744073709551614) (by omega) (by omega) (by omega) (by omega)] at hr1
  obtain ⟨bm, om, cm, rfl, k0, k1⟩ := hr1.two
  have HALL1 := Lib.hid (HALL.out.below hb1)
  have HB1 := Lib.hid (HBW.out.trans (hb1.mono HBW.out.size))
  have KM0 := Lib.hid k0
  have KM1 := Lib.hid k1
  clear hr1 hb1 k0 k1 HALL HBW
  go_wp2_with fail
  obtain ⟨W, hW⟩ : ∃ W, W = (w1.alloc (.cells #[.int .u64 0, .int .u64 1] 42)).alloc (.cells #[.int .u64 10] 42) := ⟨_, rfl⟩
  rw [← hW]
  have hx : NNum 2 W (.slice (some ⟨w1.heap.size, 0, none⟩) 2 2) 18446744073709551616 := by rw [hW]; exact (num_two w1 _ 0 1 (by omega) (by omega)).below (new_below _ _)
  have hy : NNum 1 W (.slice (some ⟨w1.heap.size + 1, 0, none⟩) 1 1) 10 := by rw [hW]; exact num_one_at _ 10 (by omega) (by simp)
  have hbw : Below w1.heap.size w1 W := by rw [hW]; exact (new_below _ _).alloc (new_below _ _).size _
  have HX := Lib.hid hx
  have HY := Lib.hid hy
  have HBW := Lib.hid hbw
  clear hW hx hy hbw
  refine (div_p HX.out HY.out (by omega) (by omega) (Nat.le_trans HX.out.rowLen (by omega)) (Nat.le_trans HY.out.rowLen (by omega)) (by omega) (divides_small (by rw [nrow_one (by omega) (by omega)]; rfl) (Nat.le_trans HX.out.rowLen (by omega)))).mono ?_
  rintro e w2 ⟨vq, vr, rfl, hrq, hrr, hb2⟩
  rw [show 18446744073709551616 / 10 = 1844674407370955161 from rfl, nrow_one (x := 1844674407370955161) (by omega) (by omega)] at hrq
  rw [show 18446744073709551616 % 10 = 6 from rfl, nrow_one (x := 6) (by omega) (by omega)] at hrr
  obtain ⟨bq, oq, cq, rfl, kq⟩ := hrq.one
  obtain ⟨br, or, cr, rfl, kr⟩ := hrr.one
  have hb := HBW.out.trans (hb2.mono HBW.out.size)
  have HALL2 := Lib.hid (HALL1.out.below hb)
  have HB2 := Lib.hid (HB1.out.trans (hb.mono HB1.out.size))
  have KM0 := Lib.hid (KM0.out.below hb)
  have KM1 := Lib.hid (KM1.out.below hb)
  have KQ := Lib.hid kq
  have KR := Lib.hid kr
  clear hrq hrr hb2 kq kr hb HX HY HBW HB1 HALL1
  go_wp2_with fail
  have hpar := parse_any [48, 48, 49, 56] w2 (by simp)
  rw [show parseV [48, 48, 49, 56] = (18, 0) from by
    unfold parseV
    rw [if_neg (by simp), if_neg (by simp), if_pos (by intro b hb; simp at hb; unfold isD; rcases hb with rfl | rfl | rfl <;> decide)]
    rfl] at hpar
  refine hpar.mono ?_
  clear hpar
  rintro e w3 ⟨v3, rfl, hr3, hb⟩
  rw [show (18, (0 : Int)).1 = 18 from rfl, nrow_one (x := 18) (by omega) (by omega)] at hr3
  obtain ⟨bp, op, cp, rfl, kp⟩ := hr3.one
  have HALL3 := Lib.hid (HALL2.out.below hb)
  have HB3 := Lib.hid (HB2.out.trans (hb.mono HB2.out.size))
  have KM0 := Lib.hid (KM0.out.below hb)
  have KM1 := Lib.hid (KM1.out.below hb)
  have KQ := Lib.hid (KQ.out.below hb)
  have KR := Lib.hid (KR.out.below hb)
  have KP := Lib.hid kp
  clear hr3 hb kp HB2 HALL2
  go_wp2_with fail
  obtain ⟨W, hW⟩ : ∃ W, W = (w3.alloc (.cells #[.int .u64 12] 42)).alloc (.cells #[.int .u64 18] 42) := ⟨_, rfl⟩
  rw [← hW]
  have hx : NNum 1 W (.slice (some ⟨w3.heap.size, 0, none⟩) 1 1) 12 := by rw [hW]; exact (num_one w3 _ 12 (by omega)).below (new_below _ _)
  have hy : NNum 1 W (.slice (some ⟨w3.heap.size + 1, 0, none⟩) 1 1) 18 := by rw [hW]; exact num_one_at _ 18 (by omega) (by simp)
  have hbw : Below w3.heap.size w3 W := by rw [hW]; exact (new_below _ _).alloc (new_below _ _).size _
  have HX := Lib.hid hx
  have HY := Lib.hid hy
  have HBW := Lib.hid hbw
  clear hW hx hy hbw
  refine (gcd_p HX.out HY.out (by omega) (by omega) (Nat.le_trans HX.out.rowLen (by omega)) (Nat.le_trans HY.out.rowLen (by omega)) (.inr (.inl HX.out.rowLen))).mono ?_
  rintro e w4 ⟨v4, rfl, hr4, hb4⟩
  rw [show Nat.gcd 12 18 = 6 from rfl, nrow_one (x := 6) (by omega) (by omega)] at hr4
  obtain ⟨bd, od, cd, rfl, kd⟩ := hr4.one
  have hb := HBW.out.trans (hb4.mono HBW.out.size)
  have HALL4 := Lib.hid (HALL3.out.below hb)
  have HB4 := Lib.hid (HB3.out.trans (hb.mono HB3.out.size))
  have KM0 := Lib.hid (KM0.out.below hb)
  have KM1 := Lib.hid (KM1.out.below hb)
  have KQ := Lib.hid (KQ.out.below hb)
  have KR := Lib.hid (KR.out.below hb)
  have KP := Lib.hid (KP.out.below hb)
  have KD := Lib.hid kd
  clear hr4 hb4 hb kd HX HY HBW HB3 HALL3
  go_wp2_with fail
  obtain ⟨W, hW⟩ : ∃ W, W = w4.alloc (.cells #[.int .u64 99] 42) := ⟨_, rfl⟩
  rw [← hW]
  have hx : NNum 1 W (.slice (some ⟨w4.heap.size, 0, none⟩) 1 1) 99 := by rw [hW]; exact num_one w4 _ 99 (by omega)
  have hbw : Below w4.heap.size w4 W := by rw [hW]; exact new_below _ _
  have HX := Lib.hid hx
  have HBW := Lib.hid hbw
  clear hW hx hbw
  refine (root_p HX.out (by omega) (Nat.le_trans HX.out.rowLen (by omega)) (roots_small HX.out.rowLen)).mono ?_
  rintro e w5 ⟨v5, r, rfl, hr5, hlo, hhi, hb5⟩
  obtain rfl : r = 9 := by
    have h1 : r < 10 := Nat.lt_of_not_le (fun h => by have := Nat.mul_le_mul h h; omega)
    have h2 : 9 ≤ r := Nat.le_of_not_lt (fun h => by
      have h3 : r + 1 ≤ 9 := h
      have := Nat.mul_le_mul h3 h3
      omega)
    omega
  rw [nrow_one (x := 9) (by omega) (by omega)] at hr5
  obtain ⟨bs, os, cs, rfl, ks⟩ := hr5.one
  have hb := HBW.out.trans (hb5.mono HBW.out.size)
  have HALL5 := Lib.hid (HALL4.out.below hb)
  have HB5 := Lib.hid (HB4.out.trans (hb.mono HB4.out.size))
  have KM0 := Lib.hid (KM0.out.below hb)
  have KM1 := Lib.hid (KM1.out.below hb)
  have KQ := Lib.hid (KQ.out.below hb)
  have KR := Lib.hid (KR.out.below hb)
  have KP := Lib.hid (KP.out.below hb)
  have KD := Lib.hid (KD.out.below hb)
  have KS := Lib.hid ks
  clear hr5 hb5 hb ks HX HBW HB4 HALL4 hlo hhi
  go_wp2_with fail
  have hnil : NNum 0 w5 (.slice none 0 0) 0 := ⟨none, 0, [], rfl, Nat.le_refl _, fun _ => rfl, (fun x hx => by simp at hx), (fun i hi => by simp at hi), rfl, Nat.le_refl _⟩
  refine (sub_none hnil HALL5.out (by omega) (by omega) (Nat.le_trans hnil.rowLen (by omega)) (Nat.le_trans HALL5.out.rowLen (by omega)) (by omega)).mono ?_
  rintro e w6 ⟨rfl, hb⟩
  have HB6 := Lib.hid (HB5.out.trans (hb.mono HB5.out.size))
  have hm0 : w6.cell? ⟨bm, om, none⟩ = some (.int .u64 1) := (KM0.out.below hb).2
  have hm1 : w6.cell? ⟨bm, om + 1, none⟩ = some (.int .u64 18446744073709551614) := (KM1.out.below hb).2
  have hq : w6.cell? ⟨bq, oq, none⟩ = some (.int .u64 1844674407370955161) := (KQ.out.below hb).2
  have hr : w6.cell? ⟨br, or, none⟩ = some (.int .u64 6) := (KR.out.below hb).2
  have KP := Lib.hid (KP.out.below hb)
  have KD := Lib.hid (KD.out.below hb)
  have KS := Lib.hid (KS.out.below hb)
  clear hb hnil HB5 HALL5
  go_wp2_with fail
  obtain ⟨W, hW⟩ : ∃ W, W = w6.alloc (.cells #[.int .u64 0, .int .u64 1] 42) := ⟨_, rfl⟩
  rw [← hW]
  have hx : NNum 2 W (.slice (some ⟨w6.heap.size, 0, none⟩) 2 2) 18446744073709551616 := by rw [hW]; exact num_two w6 _ 0 1 (by omega) (by omega)
  have hbw : Below w6.heap.size w6 W := by rw [hW]; exact new_below _ _
  have HX := Lib.hid hx
  have HBW := Lib.hid hbw
  clear hW hx hbw hm0 hm1 hq hr
  refine (text_p HX.out (by omega) (Nat.le_trans HX.out.rowLen (by omega))).mono ?_
  rintro e w7 ⟨rfl, hb7⟩
  rw [text_lit]
  have hb := HBW.out.trans (hb7.mono HBW.out.size)
  have HB7 := Lib.hid (HB6.out.trans (hb.mono HB6.out.size))
  have hp0 : w7.cell? ⟨bp, op, none⟩ = some (.int .u64 18) := (KP.out.below hb).2
  have hd0 : w7.cell? ⟨bd, od, none⟩ = some (.int .u64 6) := (KD.out.below hb).2
  have hs0 : w7.cell? ⟨bs, os, none⟩ = some (.int .u64 9) := (KS.out.below hb).2
  clear hb hb7 HX HBW HB6
  go_wp2_with fail
  go_ret
  exact ⟨rfl, HB7.out⟩
end Go.Proofs.Ytcdedaihkfpafaa
