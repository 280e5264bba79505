/-
  The texts NatSubTimes, NatTake, NatDivLong, NatDivLongW, NatQDown, one behind the other.
-/
import Derived.Test.YtcbebikcfcidmaaDoorChaZ02
import Derived.Test.YtcbebikcfcidmaaDoorChaZ07
import Derived.Test.YtcbebikcfcidmaaDoorChaZ03
import Derived.Test.YtcbebikcfcidmaaDoorChaZ04
import Derived.Test.YtcbebikcfcidmaaDoorChaZ05
import Derived.WalkMore
import Derived.Deep.LoopGhost
import Derived.Laws.OwnMore

namespace Go.Proofs.YtcbebikcfcidmaaDoor
open Go.RowKit Go.Shelf
attribute [local go_sem] Oper.semAt_some wide_fn

/-- Limbs of a number less a product, one more. -/
theorem limb_less {o p c c' x y n r a b : Nat} (h : o + n * b = a + p * c) (hr : r + y * n + c = x + 18446744073709551616 * c') :
    (o + p * r) + n * (b + p * y) = (a + p * x) + p * 18446744073709551616 * c' := by
  have h2 : p * (r + y * n + c) = p * (x + 18446744073709551616 * c') := by rw [hr]
  have h3 : n * (p * y) = p * (y * n) := by rw [Nat.mul_left_comm, Nat.mul_comm n y]
  rw [Nat.mul_add, Nat.mul_add, Nat.mul_add, ← Nat.mul_assoc p 18446744073709551616 c'] at h2
  rw [Nat.mul_add, h3]
  omega

def LessPost (g off n : Nat) (A B : List Nat) (w : World) (e : Ending) (w' : World) : Prop :=
  ∃ (O : List Nat) (c : Nat), e = .returned (.int .u64 (c : Int)) ∧ O.length = A.length ∧ Fits O ∧ c < 18446744073709551616 ∧ lv O + n * lv B = lv A + 2 ^ (64 * A.length) * c ∧ Seg w' g off O ∧ Wrote g off (off + A.length) w w'

def LessAt (z g off ca cb n : Nat) (b : Option Addr) (A B : List Nat) (w : World) (k : Nat) (W : World) : Prop :=
  ∃ (O : List Nat) (c : Nat), O.length = k ∧ k ≤ A.length ∧ Fits O ∧ c < 18446744073709551616 ∧ lv O + n * lv (B.take k) = lv (A.take k) + 2 ^ (64 * k) * c ∧ Seg W g off (O ++ A.drop k) ∧ Beside g off z b A B W ∧
    Box W z (.slice (some ⟨g, off, none⟩) A.length ca) ∧ Box W (z + 1) (.int .u64 (n : Int)) ∧ Box W (z + 2) (.int .i64 (k : Int)) ∧ Box W (z + 3) (.int .u64 (c : Int)) ∧ Box W (z + 4) (.slice (some ⟨g, off, none⟩) A.length ca) ∧ Box W (z + 5) (.slice b B.length cb) ∧
    z + 6 ≤ W.heap.size ∧ Wrote g off (off + A.length) w W

theorem LessAt.below {z g off ca cb n : Nat} {b : Option Addr} {A B : List Nat} {w : World} {k : Nat} {W W' : World} (hg : g < z) (hz : z = w.heap.size) (hb : Below (z + 6) W W') (h : LessAt z g off ca cb n b A B w k W) : LessAt z g off ca cb n b A B w k W' := by
  obtain ⟨O, c, h1, h2, h3, h4, h5, h6, h7, b0, b1, b2, b3, b4, b5, hs, hw⟩ := h
  exact ⟨O, c, h1, h2, h3, h4, h5, h6.below hb (by omega), h7.below hb (by omega), b0.below hb (by omega), b1.below hb (by omega), b2.below hb (by omega), b3.below hb (by omega), b4.below hb (by omega), b5.below hb (by omega), Nat.le_trans hs hb.size, hw.after (hb.mono (by omega)) (by omega)⟩

set_option maxRecDepth 100000 in
set_option maxHeartbeats 2000000 in
theorem subtractTimes_any (g off ca cb n : Nat) (b : Option Addr) (A B : List Nat) (w : World) (hA : A.length ≤ 1099511627776) (hBA : B.length ≤ A.length) (fA : Fits A) (fB : Fits B) (hn : n < 18446744073709551616)
    (hs : Seg w g off A) (hb : Beside g off w.heap.size b A B w) :
    Calls Tryd.prog 97 #[.slice (some ⟨g, off, none⟩) A.length ca, .slice b B.length cb, .int .u64 (n : Int)] w (LessPost g off n A B w) := by
  obtain ⟨z, hz⟩ : ∃ z, z = w.heap.size := ⟨_, rfl⟩
  have hgz : g < z := by have := hs.block; omega
  rw [← hz] at hb
  obtain ⟨X, hX⟩ : ∃ X : Nat → Nat, ∀ k, X k = A.getD k 0 := ⟨_, fun _ => rfl⟩
  obtain ⟨Y, hY⟩ : ∃ Y : Nat → Nat, ∀ k, Y k = B.getD k 0 := ⟨_, fun _ => rfl⟩
  have HX := Lib.hid hX
  have HY := Lib.hid hY
  have HZ := Lib.hid hz
  have HB := Lib.hid hb
  clear hX hY hz hb
  refine (callsIn_wide (n := 3)).1 ?_
  refine callsIn_of_wp_marks Tryd.func97 rfl trivial ?_ rfl
  simp only [Tryd.ntmps97, List.size_toArray, List.length_cons, List.length_nil, Nat.reduceAdd, Nat.reduceSub, Array.replicate_succ, Array.replicate_zero, List.push_toArray, List.append_toArray, List.nil_append, List.cons_append]
  gi_wp2_with (gi_at_call 79; refine (callsIn_wide.2 (pairs_any _ _ _ _ _ _ _)).mono ?_; rintro e w' ⟨rfl, rfl⟩)
  rw [← HZ.out]
  simp only [Nat.add_assoc, Nat.reduceAdd]
  generalize hW : ((((((w.alloc (.cells #[.slice (some ⟨g, off, none⟩) A.length ca] 31)).alloc (.cells #[.int .u64 (n : Int)] 58)).alloc (.cells #[.int .i64 0] 3)).alloc (.cells #[.int .u64 0] 58)).alloc (.cells #[.slice (some ⟨g, off, none⟩) A.length ca] 31)).alloc (.cells #[.slice b B.length cb] 31)) = W0
  obtain ⟨c0, c1, c2, c3, c4, c5, hsz, hbw⟩ := boxes6 HZ.out _ _ _ _ _ _ _ _ _ _ _ _ hW.symm
  clear hW
  have HW : LessAt z g off ca cb n b A B w 0 W0 :=
    ⟨[], 0, rfl, Nat.zero_le _, fun x hx => (by cases hx), by omega, by simp [lv], hs.below hbw hs.block, HB.out.below hbw (by have := HZ.out; omega), c0, c1, c2, c3, c4, c5, by omega, Wrote.of_below hbw _ _ _⟩
  clear c0 c1 c2 c3 c4 c5 hbw
  refine wpIn_range_at (m := 1) (gf := 89) (lb := #[.pointer (some ⟨z + 4, 0, none⟩), .pointer (some ⟨z + 5, 0, none⟩)]) rfl (enters_of Tryd.func89 (by kernel_rfl) rfl) (pairs_at (z + 4) (z + 5) _ b ca cb A B X Y HX.out HY.out hA (by omega)) (fun _ => rfl)
    (LessAt z g off ca cb n b A B w) (fun _ _ => False) (fun k W W' hb' h => h.below hgz HZ.out (by rw [← hsz]; exact hb')) (fun _ _ _ _ h => h) (fun k W h => by obtain ⟨O, c, h1, h2, h3, h4, h5, h6, h7, b0, b1, b2, b3, b4, b5, hss, hw⟩ := h; omega) (fun _ _ h => h.elim)
    (fun k W h => by obtain ⟨O, c, h1, h2, h3, h4, h5, h6, h7, b0, b1, b2, b3, b4, b5, hss, hw⟩ := h; exact ⟨b4.1, b5.1, h6.from h1 h2, h7.from h6 h1 h2⟩) HW
    (fun k => { tmps := #[.slice (some ⟨g, off, none⟩) A.length ca, .slice b B.length cb, .int .u64 (n : Int), .pointer (some ⟨z, 0, none⟩), undef, .pointer (some ⟨z + 1, 0, none⟩), .int .u64 0, .pointer (some ⟨z + 2, 0, none⟩), .pointer (some ⟨z + 3, 0, none⟩), .int .u64 ((X k : Nat) : Int), .int .u64 ((Y k : Nat) : Int), undef, undef, undef,
      .slice (some ⟨g, off, none⟩) A.length ca, .slice b B.length cb, .func (.func 89) #[] #[.pointer (some ⟨z + 4, 0, none⟩), .pointer (some ⟨z + 5, 0, none⟩)], .int .u64 ((X k : Nat) : Int), .int .u64 ((Y k : Nat) : Int),
      undef, undef, undef, undef, undef, undef, undef, undef, undef, undef, undef, undef, undef, undef, undef, undef, undef, undef, undef, undef, undef, undef, undef, undef, undef, undef, undef, undef, undef, undef], defers := [] })
    ?assign ?body ?done ?stop
  case assign =>
    intro l k W K hK
    gi_wp2
    exact hK
  case body =>
    rintro l k W hk ⟨O, c, h1, h2, h3, h4, h5, h6, h7, b0, b1, b2, b3, b4, b5, hss, hw⟩
    have hxA : X k = A.getD k 0 := HX.out k
    have hyB : Y k = B.getD k 0 := HY.out k
    generalize X k = x at hxA ⊢
    generalize Y k = y at hyB ⊢
    have hc0 := b0.1
    have hc1 := b1.1
    have hc2 := b2.1
    have hc3 := b3.1
    have hf2 := b2.2
    have hf3 := b3.2
    have hgc := h6.cell (i := k) (by rw [List.length_append, List.length_drop]; omega)
    have hgf := h6.frozen (off + k)
    have hkA : (k : Int) < (A.length : Int) := by omega
    have hk0 : (0 : Int) ≤ (k : Int) := by omega
    have hx1 := getD_fits fA k
    have hy1 := getD_fits fB k
    rw [← hxA] at hx1
    rw [← hyB] at hy1
    have hm := mul_small hy1 hn
    have HM0 := Tryd.bits_Mul64 y n hy1 hn W
    obtain ⟨hi, hhi⟩ : ∃ hi, hi = y * n / 18446744073709551616 := ⟨_, rfl⟩
    obtain ⟨lo, hlo⟩ : ∃ lo, lo = y * n % 18446744073709551616 := ⟨_, rfl⟩
    rw [← hhi, ← hlo] at HM0
    have HM := Lib.hid HM0
    have hadd1 := run_add64 lo c 0 (by omega)
    obtain ⟨l1, hl1⟩ : ∃ l1, l1 = (lo + c + 0) % 18446744073709551616 := ⟨_, rfl⟩
    obtain ⟨q1, hq1⟩ : ∃ q1, q1 = (lo + c + 0) / 18446744073709551616 := ⟨_, rfl⟩
    rw [← hl1, ← hq1] at hadd1
    have hadd2 := run_sub64 x l1 0 (by omega)
    obtain ⟨r, hr⟩ : ∃ r, r = (x + 18446744073709551616 - l1 - 0) % 18446744073709551616 := ⟨_, rfl⟩
    obtain ⟨q2, hq2⟩ : ∃ q2, q2 = if x < l1 + 0 then 1 else 0 := ⟨_, rfl⟩
    rw [← hr, ← hq2] at hadd2
    simp only [Int.natCast_zero] at hadd1 hadd2
    have hq3 : r + l1 = x + 18446744073709551616 * q2 ∧ q2 ≤ 1 ∧ (q2 = 1 → x < l1) := by
      split at hq2 <;> omega
    have hst := limb_less (c' := hi + q1 + q2) (x := x) (y := y) (r := r) h5 (by omega)
    rw [hxA, hyB, ← lv_take_succ' A, ← lv_take_succ' B] at hst
    have i1 : (hi : Int) + (q1 : Int) ≤ 18446744073709551615 := by omega
    have i2 : (hi : Int) + (q1 : Int) + (q2 : Int) ≤ 18446744073709551615 := by omega
    have i3 : (0 : Int) ≤ (hi : Int) + (q1 : Int) := by omega
    have i4 : (0 : Int) ≤ (hi : Int) + (q1 : Int) + (q2 : Int) := by omega
    have HC : Hid (hi + q1 + q2 < 18446744073709551616) := Lib.hid (by omega)
    have HR : Hid (r < 18446744073709551616) := Lib.hid (by omega)
    have H1 := Lib.hid h1
    have HXA := Lib.hid hxA
    have HYB := Lib.hid hyB
    have HST := Lib.hid hst
    have HSZ := Lib.hid hsz
    clear h1 hxA hyB h5 hsz hx1 hy1 hm hhi hlo hl1 hq1 hr hq2 hq3 hst HM0 h4
    gi_wp2_with (gi_at_call 90; refine (CallsIn.inRound l (callsIn_wide.2 HM.out)).mono ?_; rintro e W ⟨rfl, rfl⟩)
    refine wpIn_region_walk (fun w' => w'.cell? ⟨z, 0, none⟩ = some (.slice (some ⟨g, off, none⟩) A.length ca) ∧ w'.cell? ⟨z + 2, 0, none⟩ = some (.int .i64 (k : Int)))
      [true, true, true, true, false, true, true, true, true, false, true] (by kernel_rfl) (by kernel_rfl) (by kernel_rfl) rfl (by kernel_rfl) (by rintro ⟨_, _, h⟩; exact h) (fun _ _ _ _ _ h => h) ?_
    have hS : W.drew.cell? ⟨z, 0, none⟩ = some (.slice (some ⟨g, off, none⟩) A.length ca) ∧ W.drew.cell? ⟨z + 2, 0, none⟩ = some (.int .i64 (k : Int)) := ⟨hc0, hc2⟩
    repeat (refine walkS_yes hS rfl (fun w' hw' => by obtain ⟨q0, q1⟩ := hw'; go_simp; rfl) ?_; simp only [Act.put, List.setIfInBounds_toArray, List.set_cons_zero, List.set_cons_succ])
    refine walkS_no rfl (fun K hK => ?_)
    go_simp
    refine hK _ _ hS ?_
    clear hK K
    repeat (refine walkS_yes hS rfl (fun w' hw' => by obtain ⟨q0, q1⟩ := hw'; go_simp; rfl) ?_; simp only [Act.put, List.setIfInBounds_toArray, List.set_cons_zero, List.set_cons_succ])
    refine walkS_no rfl (fun K hK => ?_)
    go_simp
    have hS2 : (W.setCell ⟨g, off + k, none⟩ (.int .u64 (r : Int))).drew.cell? ⟨z, 0, none⟩ = some (.slice (some ⟨g, off, none⟩) A.length ca) ∧ (W.setCell ⟨g, off + k, none⟩ (.int .u64 (r : Int))).drew.cell? ⟨z + 2, 0, none⟩ = some (.int .i64 (k : Int)) :=
      ⟨(b0.other (by show g ≠ z; omega) _).drew.1, (b2.other (by show g ≠ z + 2; omega) _).drew.1⟩
    refine hK _ _ hS2 ?_
    clear hK K
    repeat (refine walkS_yes hS2 rfl (fun w' hw' => by obtain ⟨q0, q1⟩ := hw'; go_simp; rfl) ?_; simp only [Act.put, List.setIfInBounds_toArray, List.set_cons_zero, List.set_cons_succ])
    simp only [walkS]
    gi_wp2
    have s1 := h6.set (k := k) (by rw [List.length_append, List.length_drop, H1.out]; omega) r
    rw [set_mid H1.out hk] at s1
    have hzz := HZ.out
    refine ⟨keeps_drew (keeps_set (keeps_set (keeps_set (KeepsFrom.refl _ _) _ _) _ _) _ _), O ++ [r], hi + q1 + q2, by rw [List.length_append, H1.out]; rfl, hk, fits_snoc h3 HR.out, HC.out, ?_, ?_, ?_,
      (((b0.other (by show g ≠ z; omega) _).other (by show z + 3 ≠ z; omega) _).other (by show z + 2 ≠ z; omega) _).drew,
      (((b1.other (by show g ≠ z + 1; omega) _).other (by show z + 3 ≠ z + 1; omega) _).other (by show z + 2 ≠ z + 1; omega) _).drew,
      (((b2.other (by show g ≠ z + 2; omega) _).other (by show z + 3 ≠ z + 2; omega) _).set _).drew,
      (((b3.other (by show g ≠ z + 3; omega) _).set _).other (by show z + 2 ≠ z + 3; omega) _).drew,
      (((b4.other (by show g ≠ z + 4; omega) _).other (by show z + 3 ≠ z + 4; omega) _).other (by show z + 2 ≠ z + 4; omega) _).drew,
      (((b5.other (by show g ≠ z + 5; omega) _).other (by show z + 3 ≠ z + 5; omega) _).other (by show z + 2 ≠ z + 5; omega) _).drew, ?_, ?_⟩
    · rw [lv_snoc, H1.out, show 2 ^ (64 * (k + 1)) = 2 ^ (64 * k) * 18446744073709551616 by rw [Nat.mul_add, Nat.pow_add]]
      exact HST.out
    · exact ((s1.other (by show z + 3 ≠ g; omega) _).other (by show z + 2 ≠ g; omega) _).drew
    · exact (((h7.set _).other (by show z ≤ z + 3; omega) _).other (by show z ≤ z + 2; omega) _).drew
    · show z + 6 ≤ (World.setCell _ _ _).heap.size
      rw [size_set, size_set, size_set]; exact hss
    · exact (((hw.setIn (by omega) (by omega) _).setNew hs.block (by show w.heap.size ≤ z + 3; omega) _).setNew hs.block (by show w.heap.size ≤ z + 2; omega) _).drew
  case done =>
    rintro D W hD ⟨O, c, h1, h2, h3, h4, h5, h6, h7, b0, b1, b2, b3, b4, b5, hss, hw⟩ hK
    have hc3 := b3.1
    have H1 := Lib.hid h1
    have H5 := Lib.hid h5
    clear h1 h5
    gi_wp2
    refine ⟨by simp, .inl ⟨_, _, rfl, run_takeDeferred hK, ?_⟩⟩
    have b1 : Below W0.heap.size W (W.putObj D (.deferred none)) := below_putObj W D _ hD (by omega)
    have e1 := h6
    rw [List.drop_eq_nil_of_le (Nat.le_refl _), List.append_nil] at e1
    have e5 := H5.out
    rw [List.take_of_length_le (Nat.le_refl _), List.take_of_length_le hBA] at e5
    have hzz := HZ.out
    exact ⟨_, results_tmp rfl _ _ _, O, c, rfl, H1.out, h3, h4, e5, e1.below b1 (by omega), hw.after (b1.mono (by omega)) hs.block⟩
  case stop =>
    rintro D k W _ _ h _
    exact h.elim
end Go.Proofs.YtcbebikcfcidmaaDoor

namespace Go.Proofs.YtcbebikcfcidmaaDoor
open Go.RowKit

def TakePost (g off : Nat) (A B : List Nat) (w : World) (e : Ending) (w' : World) : Prop :=
  ∃ O : List Nat, e = .returned (.int .u64 ((lv A / lv B : Nat) : Int)) ∧ O.length = A.length ∧ Fits O ∧ lv O = lv A % lv B ∧ Seg w' g off O ∧ Wrote g off (off + A.length) w w'

theorem eq_of_wrap {x m p c d : Nat} (h : x + p * c = m + p * d) (hx : x < p) (hm : m < p) : x = m := by
  have := congrArg (· % p) h
  simpa [Nat.add_mul_mod_self_left, Nat.mod_eq_of_lt hx, Nat.mod_eq_of_lt hm] using this
/-- Without a borrow the guess was right; with one it was one too great, and the divisor is added again. -/
theorem take_right {o d b a p n : Nat} (h : o + d * b = a + p * 0) (hn : n = a / b) (h1 : n ≤ d) (hb : 0 < b) : d = n ∧ o = a % b := by
  have h2 : d * b ≤ a := by omega
  have h3 : d ≤ n := by rw [hn]; exact (Nat.le_div_iff_mul_le hb).2 h2
  have : d = n := by omega
  refine ⟨this, ?_⟩
  have h4 := Nat.div_add_mod' a b
  rw [← hn] at h4
  rw [this] at h
  omega
theorem take_over {o d b a p c n : Nat} (h : o + d * b = a + p * c) (hn : n = a / b) (h1 : n ≤ d) (h2 : d ≤ n + 1) (hc : 0 < c) (ho : o < p) : d = n + 1 ∧ o + b = a % b + p * c := by
  have h3 : p * 1 ≤ p * c := Nat.mul_le_mul_left p hc
  have h4 := Nat.div_add_mod' a b
  rw [← hn] at h4
  have h5 : d = n + 1 := by
    rcases Nat.lt_or_ge n d with h5 | h5
    · omega
    · exfalso
      have h6 : d = n := by omega
      rw [h6] at h
      omega
  refine ⟨h5, ?_⟩
  rw [h5, Nat.add_mul, Nat.one_mul] at h
  omega

set_option maxRecDepth 100000 in
set_option maxHeartbeats 2000000 in
theorem take_any (g off gb ob P ca cb : Nat) (A B : List Nat) (w : World) (hA : A.length = P + 3) (hB : B.length = P + 2) (hP : P ≤ 1048576) (fA : Fits A) (fB : Fits B) (hca : A.length ≤ ca) (hcb : B.length ≤ cb)
    (hs : Seg w g off A) (mb : NatAt w (some ⟨gb, ob, none⟩) B) (hne : gb ≠ g) (htop : 9223372036854775808 ≤ B.getD (P + 1) 0) (hlt : lv A < 18446744073709551616 * lv B) :
    Calls Tryd.prog 94 #[.slice (some ⟨g, off, none⟩) A.length ca, .slice (some ⟨gb, ob, none⟩) B.length cb] w (TakePost g off A B w) := by
  have HGU := Lib.hid (guess_any g off gb ob P ca cb A B w hA hB hP fA fB hca hcb hs.natAt mb htop hlt)
  have hD0 : 0 < lv B := by
    have := lv_top2 hB
    have h1 : 2 ^ (64 * P) * 1 ≤ 2 ^ (64 * P) * (B.getD P 0 + 18446744073709551616 * B.getD (P + 1) 0) := Nat.mul_le_mul_left _ (by omega)
    have := Nat.two_pow_pos (64 * P)
    omega
  have hbw : gb < w.heap.size := by
    obtain ⟨b', o', e', hlt', _⟩ := mb.lt (i := 0) (by omega)
    cases e'; exact hlt'
  have HD0 := Lib.hid hD0
  have HA := Lib.hid hA
  have HB := Lib.hid hB
  have HP := Lib.hid hP
  have FA := Lib.hid fA
  have FB := Lib.hid fB
  have HS := Lib.hid hs
  have MB := Lib.hid mb
  have HNE := Lib.hid hne
  have HBW := Lib.hid hbw
  clear hD0 hA hB hP fA fB hs mb hne hbw htop hlt hca hcb
  go_enter Tryd.func94, Tryd.ntmps94
  go_wp2_with fail
  refine HGU.out.mono ?_
  rintro e w1 ⟨d, rfl, h1, h2, h3, k, rfl⟩
  have HST := Lib.hid (subtractTimes_any g off ca cb d (some ⟨gb, ob, none⟩) A B (w.drewN k) (by have := HA.out; have := HP.out; omega) (by rw [HA.out, HB.out]; omega) FA.out FB.out h3 (HS.out.drewN k)
    (.inl ⟨fun _ bl o e => (by cases e; exact ⟨HNE.out, HBW.out⟩), MB.out⟩))
  have H12 := Lib.hid (And.intro h1 h2)
  clear h1 h2
  go_wp2_with fail
  refine HST.out.mono ?_
  rintro e w2 ⟨O, c, rfl, hO, fO, hc, heq, hs2, hw2⟩
  obtain ⟨n, hn⟩ : ∃ n, n = lv A / lv B := ⟨_, rfl⟩
  rw [← hn] at H12
  have h12 := H12.out
  have hOl : lv O < 2 ^ (64 * A.length) := by rw [← hO]; exact lv_lt fO
  have hml : lv A % lv B < 2 ^ (64 * A.length) := Nat.lt_of_le_of_lt (Nat.mod_le _ _) (lv_lt FA.out)
  have HW : Hid (Wrote g off (off + A.length) w w2) := Lib.hid (((Wrote.refl g off (off + A.length) w).drewN k).trans hw2)
  have HN := Lib.hid hn
  rcases Nat.eq_zero_or_pos c with h0 | h0
  · subst h0
    have hr := take_right heq hn h12.1 HD0.out
    have HE := Lib.hid hr.2
    have hdn := hr.1
    subst hdn
    have g0 : decide ((0 : Int) < ((0 : Nat) : Int)) = false := by simp
    have HO := Lib.hid hO
    have HF := Lib.hid fO
    have HS2 := Lib.hid hs2
    clear hO fO heq hs2 hw2 hn h12 hOl hml hr
    go_wp2_with fail
    go_ret
    exact ⟨O, by rw [← HN.out]; rfl, HO.out, HF.out, HE.out, HS2.out, HW.out⟩
  · have hr := take_over heq hn h12.1 h12.2 h0 hOl
    have hdn : (d : Int) - 1 = (n : Int) := by omega
    have hd1 : (1 : Int) ≤ (d : Int) := by omega
    have g0 : (0 : Int) < (c : Int) := by omega
    have hadd := add_any g off ca cb (some ⟨gb, ob, none⟩) O B w2 (by rw [hO, HA.out]; have := HP.out; omega) (by rw [hO, HA.out, HB.out]; omega) fO FB.out hs2
      (HW.out.natAt MB.out (fun _ b o e => by cases e; exact HNE.out)) (fun _ bl o e => by cases e; exact ⟨HNE.out, Nat.lt_of_lt_of_le HBW.out HW.out.size⟩)
    rw [hO] at hadd
    have HADD := Lib.hid hadd
    have HE := Lib.hid hr.2
    have HML := Lib.hid hml
    have HO := Lib.hid hO
    clear hadd hr hml hO fO heq hs2 hw2 hn h12 hOl h0
    go_wp2_with fail
    refine HADD.out.mono ?_
    rintro e w3 ⟨O2, c2, rfl, hO2, fO2, hc2, heq2, hs3, hw3⟩
    rw [HO.out] at hO2 heq2 hw3
    have HE2 : Hid (lv O2 = lv A % lv B) := Lib.hid (eq_of_wrap (heq2.trans HE.out) (by rw [← hO2]; exact lv_lt fO2) HML.out)
    have HO2 := Lib.hid hO2
    have HF := Lib.hid fO2
    have HS2 := Lib.hid hs3
    have HW2 := Lib.hid (HW.out.trans hw3)
    clear hO2 fO2 hc2 heq2 hs3 hw3
    go_wp2_with fail
    go_ret
    exact ⟨O2, by rw [← HN.out]; rfl, HO2.out, HF.out, HE2.out, HS2.out, HW2.out⟩
end Go.Proofs.YtcbebikcfcidmaaDoor

namespace Go.Proofs.YtcbebikcfcidmaaDoor
open Go.RowKit

theorem drop_row (r k : Nat) : (nrow r).drop k = nrow (lv ((nrow r).drop k)) := by
  refine nrow_of (fun x hx => nrow_fits r x (List.mem_of_mem_drop hx)) ?_
  rcases Nat.lt_or_ge k (nrow r).length with h | h
  · refine .inr ?_
    have h1 := (nrow_last r).resolve_left (fun e => by rw [e] at h; simp at h)
    rw [List.length_drop, List.getD_eq_getElem?_getD, List.getElem?_drop, show k + ((nrow r).length - k - 1) = (nrow r).length - 1 by omega, ← List.getD_eq_getElem?_getD]
    exact h1
  · exact .inl (List.drop_eq_nil_of_le h)
theorem lv_split (R : List Nat) {k : Nat} (hk : k ≤ R.length) : lv R = lv (R.take k) + 2 ^ (64 * k) * lv (R.drop k) := by
  have := lv_append (R.take k) (R.drop k)
  rw [List.take_append_drop, List.length_take, Nat.min_eq_left hk] at this
  exact this
theorem lv_take_lt {R : List Nat} (f : Fits R) {k : Nat} (hk : k ≤ R.length) : lv (R.take k) < 2 ^ (64 * k) := by
  have := lv_lt (fits_take f k)
  rwa [List.length_take, Nat.min_eq_left hk] at this

/-- What a round of the long division leaves: the digits so far, and what is left. -/
def DLAt (B0 g gb ob gq cr nq D N0 : Nat) (w : World) (r : Value) (W : World) : Prop :=
  ∃ R Q : List Nat, r = .slice (some ⟨g, 0, none⟩) R.length cr ∧ Fits R ∧ R.length + 1 ≤ nq + (nrow D).length ∧ NRow B0 W (.slice (some ⟨g, 0, none⟩) R.length cr) R ∧ Q.length = nq ∧ Fits Q ∧ NRow B0 W (.slice (some ⟨gq, 0, none⟩) nq nq) Q ∧
    lv Q * D + lv R = N0 ∧ (∀ j, Q.getD j 0 ≠ 0 → lv R < D * 2 ^ (64 * j)) ∧ NatAt W (some ⟨gb, ob, none⟩) (nrow D) ∧ Below B0 w W

/-- A digit at place k, the divisor subtracted as often. -/
theorem digit_math {R O Q : List Nat} {D N0 k x : Nat} (fR : Fits R) (hk : k ≤ R.length) (hQ : lv Q * D + lv R = N0) (hz : ∀ j, Q.getD j 0 ≠ 0 → lv R < D * 2 ^ (64 * j)) (hkq : k < Q.length)
    (hO : lv O + x * D = lv (R.drop k)) (hx : 0 < x) (hlt : lv O < D) :
    lv (Q.set k x) * D + lv (R.take k ++ O) = N0 ∧ (∀ j, (Q.set k x).getD j 0 ≠ 0 → lv (R.take k ++ O) < D * 2 ^ (64 * j)) ∧ lv (R.take k ++ O) < lv R := by
  have hs := lv_split R hk
  have hl := lv_take_lt fR hk
  have hlen : (R.take k).length = k := by rw [List.length_take, Nat.min_eq_left hk]
  have hn : lv (R.take k ++ O) = lv (R.take k) + 2 ^ (64 * k) * lv O := by rw [lv_append, hlen]
  have hxD : D ≤ x * D := Nat.le_mul_of_pos_left D hx
  have hq0 : Q.getD k 0 = 0 := by
    rcases Nat.eq_zero_or_pos (Q.getD k 0) with h | h
    · exact h
    · have h1 := hz k (by omega)
      have h2 : 2 ^ (64 * k) * D ≤ 2 ^ (64 * k) * lv (R.drop k) := Nat.mul_le_mul_left _ (by omega)
      rw [Nat.mul_comm D] at h1
      omega
  have hset := lv_set hkq x
  rw [hq0, Nat.mul_zero, Nat.add_zero] at hset
  have hE : 2 ^ (64 * k) * lv (R.drop k) = 2 ^ (64 * k) * lv O + 2 ^ (64 * k) * (x * D) := by rw [← hO, Nat.mul_add]
  have hless : lv (R.take k ++ O) < lv R := by
    have h1 : 2 ^ (64 * k) * 1 ≤ 2 ^ (64 * k) * (x * D) := Nat.mul_le_mul_left _ (by omega)
    have := Nat.two_pow_pos (64 * k)
    omega
  refine ⟨?_, fun j hj => ?_, hless⟩
  · rw [hset, Nat.add_mul, hn, Nat.mul_assoc]; omega
  · by_cases hjk : k = j
    · subst hjk
      have h1 : 2 ^ (64 * k) * (lv O + 1) ≤ 2 ^ (64 * k) * D := Nat.mul_le_mul_left _ hlt
      rw [Nat.mul_add, Nat.mul_one] at h1
      rw [hn, Nat.mul_comm D]; omega
    · refine Nat.lt_trans hless (hz j ?_)
      rwa [List.getD_eq_getElem?_getD, List.getElem?_set_ne hjk, ← List.getD_eq_getElem?_getD] at hj

/-- The memory behind it. -/
theorem digit_laid {B0 g gb ob gq cr nq D N0 k x : Nat} {w W W1 : World} {R Q O : List Nat} (fR : Fits R) (hl : R.length + 1 ≤ nq + (nrow D).length) (hR : NRow B0 W (.slice (some ⟨g, 0, none⟩) R.length cr) R) (hQl : Q.length = nq) (fQ : Fits Q)
    (hrq : NRow B0 W (.slice (some ⟨gq, 0, none⟩) nq nq) Q) (hQ : lv Q * D + lv R = N0) (hz : ∀ j, Q.getD j 0 ≠ 0 → lv R < D * 2 ^ (64 * j)) (hb : NatAt W (some ⟨gb, ob, none⟩) (nrow D)) (hbel : Below B0 w W)
    (hgq : gq ≠ g) (hgb : gb ≠ g) (hgbq : gb ≠ gq) (hk : k ≤ R.length) (hkq : k < nq)
    (hOl : O.length = (R.drop k).length) (fO : Fits O) (hO : lv O + x * D = lv (R.drop k)) (hx : 0 < x) (hx64 : x < 18446744073709551616) (hlt : lv O < D) (hs : Seg W1 g k O) (hw : Wrote g k (k + (R.drop k).length) W W1) :
    DLAt B0 g gb ob gq cr nq D N0 w (.slice (some ⟨g, 0, none⟩) R.length cr) (W1.setCell ⟨gq, k, none⟩ (.int .u64 (x : Int))) ∧ lv (R.take k ++ O) < lv R ∧
    NRow B0 (W1.setCell ⟨gq, k, none⟩ (.int .u64 (x : Int))) (.slice (some ⟨g, 0, none⟩) R.length cr) (R.take k ++ O) ∧ Fits (R.take k ++ O) := by
  obtain ⟨m1, m2, m3⟩ := digit_math fR hk hQ hz (by omega) hO hx hlt
  have hlen : (R.take k).length = k := by rw [List.length_take, Nat.min_eq_left hk]
  have hl2 : (R.take k ++ O).length = R.length := by rw [List.length_append, hlen, hOl, List.length_drop]; omega
  have fN : Fits (R.take k ++ O) := fits_append (fits_take fR k) fO
  have hsR := hR.seg
  have hsQ := hrq.seg
  have hseg : Seg W1 g 0 (R.take k ++ O) := by
    refine Seg.append ?_ (by rw [hlen, Nat.zero_add]; exact hs)
    exact hw.segOut (hsR.2.2.2.2.2.take k) (.inl (by rw [hlen]; omega))
  have hr1 : NRow B0 W1 (.slice (some ⟨g, 0, none⟩) R.length cr) (R.take k ++ O) := hR.wrote hw hseg hl2
  have hq1 : NRow B0 W1 (.slice (some ⟨gq, 0, none⟩) nq nq) Q := hrq.of_block (hw.other hsQ.2.2.2.2.2.block hgq)
  have hr2 : NRow B0 (W1.setCell ⟨gq, k, none⟩ (.int .u64 (x : Int))) (.slice (some ⟨g, 0, none⟩) R.length cr) (R.take k ++ O) := hr1.of_block (Below.heap_setCell _ _ _ _ (fun e => hgq (by simpa using e.symm)))
  have hsq1 := hq1.seg.2.2.2.2.2.set (k := k) (by omega) x
  rw [Nat.zero_add] at hsq1
  have hq2 : NRow B0 (W1.setCell ⟨gq, k, none⟩ (.int .u64 (x : Int))) (.slice (some ⟨gq, 0, none⟩) nq nq) (Q.set k x) :=
    hq1.wrote ((Wrote.refl gq 0 nq W1).setIn (Nat.zero_le _) hkq _) hsq1 (by simp)
  have hBW : B0 ≤ W.heap.size := by have := hsR.2.2.1; have := hsR.2.2.2.2.2.block; omega
  refine ⟨⟨R.take k ++ O, Q.set k x, by rw [hl2], fN, by rw [hl2]; exact hl, by rw [hl2]; exact hr2, by simp [hQl], ?_, hq2, m1, m2, ?_, ?_⟩, m3, hr2, fN⟩
  · intro y hy
    rcases List.mem_or_eq_of_mem_set hy with h | h
    · exact fQ y h
    · subst h; exact hx64
  · exact (hw.natAt hb (fun _ b o e => by cases e; exact hgb)).other (p := ⟨gq, k, none⟩) (fun _ b o e => by cases e; exact hgbq) _
  · exact (hbel.trans (hw.below hBW hsR.2.2.1)).setCell hsQ.2.2.1 _
/-- The end. -/
theorem digits_done {q D N0 x : Nat} (hQ : q * D + x = N0) (hlt : x < D) : N0 / D = q ∧ N0 % D = x := by
  rw [← hQ, Nat.add_comm, Nat.mul_comm]
  exact ⟨by rw [Nat.add_mul_div_left _ _ (by omega), Nat.div_eq_of_lt hlt, Nat.zero_add], by rw [Nat.add_mul_mod_self_left, Nat.mod_eq_of_lt hlt]⟩
theorem top_half {E dl d0 d1 M D : Nat} (h : D = dl + E * (d0 + M * d1)) (ht : M ≤ 2 * d1) : E * M * M ≤ 2 * D := by
  have h1 : E * M * M ≤ E * M * (2 * d1) := Nat.mul_le_mul_left _ ht
  rw [Nat.mul_left_comm (E * M) 2 d1, Nat.mul_assoc E M d1] at h1
  rw [h, Nat.mul_add E]
  omega
end Go.Proofs.YtcbebikcfcidmaaDoor

namespace Go.Proofs.YtcbebikcfcidmaaDoor
open Go.RowKit

def DLPost (B0 D N0 : Nat) (w : World) (e : Ending) (w' : World) : Prop := ∃ q r, e = .returned (.tuple #[q, r]) ∧ NRow B0 w' q (nrow (N0 / D)) ∧ NRow B0 w' r (nrow (N0 % D)) ∧ Below B0 w w'

set_option maxRecDepth 100000 in
set_option maxHeartbeats 4000000 in
theorem divLong_any (B0 g gb ob cr cb P D N0 : Nat) (w : World) (hB0 : B0 ≤ w.heap.size) (hlD : (nrow D).length = P + 2) (hP : P + 2 ≤ (nrow N0).length) (hN : (nrow N0).length ≤ 1048576) (htop : 9223372036854775808 ≤ (nrow D).getD (P + 1) 0) (hcb : (nrow D).length ≤ cb)
    (hr : NRow B0 w (.slice (some ⟨g, 0, none⟩) (nrow N0).length cr) (nrow N0)) (hb : NatAt w (some ⟨gb, ob, none⟩) (nrow D)) (hne : gb ≠ g) :
    Calls Tryd.prog 82 #[.slice (some ⟨g, 0, none⟩) (nrow N0).length cr, .slice (some ⟨gb, ob, none⟩) (nrow D).length cb] w (DLPost B0 D N0 w) := by
  obtain ⟨i0, hi, hz0, hz1, hz2⟩ := info_parts info_u64
  obtain ⟨L0, hL0⟩ : ∃ L0, L0 = (nrow N0).length := ⟨_, rfl⟩
  obtain ⟨Lb, hLb⟩ : ∃ Lb, Lb = (nrow D).length := ⟨_, rfl⟩
  obtain ⟨nq, hnq⟩ : ∃ nq, nq = L0 - Lb + 1 := ⟨_, rfl⟩
  have hgs := hr.seg.2.2.2.2.2.block
  have hgbs : gb < w.heap.size := by
    obtain ⟨b', o', e', hlt', _⟩ := hb.lt (i := 0) (by omega)
    cases e'; exact hlt'
  have hnI : (L0 : Int) - (Lb : Int) + 1 = (nq : Int) := by omega
  have hL0b : (L0 : Int) ≤ 1048576 := by omega
  have hLb2 : (2 : Int) ≤ (Lb : Int) := by omega
  have hLbL : (Lb : Int) ≤ (L0 : Int) := by omega
  have hnqb : nq ≤ 1048576 := by omega
  have HNQ : Hid (L0 + 1 = nq + Lb) := Lib.hid (by omega)
  have HGQ : Hid (w.heap.size ≠ g ∧ gb ≠ w.heap.size) := Lib.hid ⟨by omega, by omega⟩
  have HB0 := Lib.hid hB0
  have HR := Lib.hid hr
  have HBB := Lib.hid hb
  have HNE := Lib.hid hne
  have HTOP := Lib.hid htop
  have HLD : Hid (Lb = P + 2 ∧ Lb ≤ cb) := Lib.hid ⟨by omega, by omega⟩
  have HL0 := Lib.hid hL0
  have HLB := Lib.hid hLb
  rw [← hL0, ← hLb]
  clear hr hb hne htop hlD hP hN hcb hB0 hgs hgbs hL0 hLb hnq
  go_enter Tryd.func82, Tryd.ntmps82
  go_wp2_with fail
  go_step3
  go_wp2_with (
      (at_make
       refine wpList_make_full _ rfl _ _ 31 rfl B0 58 i0 (.int .u64 0) 1 Tryd.underlying31 hi hz0 hz1 .i64 .i64 _ _ nq rfl rfl rfl rfl (by rw [hz2]; omega) (by unfold maxLen; omega) HB0.out ?_
       intro w0 hown0 hg0
       have HO := Lib.hid (made_zeros hown0)
       have HG0 := Lib.hid hg0
       clear hown0 hg0))
  go_step3
  go_wp2_with fail
  obtain ⟨gq, hgq⟩ : ∃ gq, gq = w.heap.size := ⟨_, rfl⟩
  rw [← hgq] at HO HGQ ⊢
  have HO := Lib.hid HO.out
  have HGQ := Lib.hid HGQ.out
  clear hgq
  go_loopw [0, 6] (fun r _ W => DLAt B0 g gb ob gq cr nq D N0 w r W) (fun r _ W => toldBy (L0 + 1) W r)
  case atStart =>
    have hgs := HR.out.seg.2.2.2.2.2.block
    refine ⟨nrow N0, List.replicate nq 0, by rw [← HL0.out], nrow_fits _, by rw [← HL0.out, ← HLB.out]; exact Nat.le_of_eq HNQ.out, HR.out.of_block (HG0.out.block g hgs (by simp)), by simp, fits_zeros nq, HO.out, by rw [lv_zeros, lv_nrow]; omega, fun j hj => ?_, ?_, (Below.refl B0 w).grown HG0.out HB0.out (fun k hk => by cases hk)⟩
    · exact absurd (by simp [List.getD_eq_getElem?_getD, List.getElem?_replicate]; split <;> rfl) hj
    · exact HBB.out.below ((Below.refl w.heap.size w).grown HG0.out (Nat.le_refl _) (fun k hk => by cases hk)) (Nat.le_refl _)
  case round =>
    obtain ⟨R, Q, rfl, fR, hRl, hR, hQl, fQ, hQr, hQ, hz, hb, hbel⟩ := hrel
    have hRs := hR.seg
    have HTR := Lib.hid (trim_any (some ⟨g, 0, none⟩) cr R wr (by have := HNQ.out; have := HLB.out; omega) hRs.2.2.2.1 fR hRs.2.2.2.2.2.natAt)
    have hR2 := hR.norm fR
    have HTQ := Lib.hid (fun (W : World) (h : NRow B0 W (.slice (some ⟨gq, 0, none⟩) nq nq) Q) => trim_any (some ⟨gq, 0, none⟩) nq Q W (by omega) (by omega) fQ h.seg.2.2.2.2.2.natAt)
    rw [hQl] at HTQ
    have HTQ := Lib.hid HTQ.out
    have HME : Hid (toldBy (L0 + 1) wr (.slice (some ⟨g, 0, none⟩) R.length cr) = lv R) := Lib.hid (toldBy_eq (hR.num fR (by have := HNQ.out; have := HLB.out; omega)))
    have hle := nrow_le fR
    obtain ⟨x, hx⟩ : ∃ x, x = lv R := ⟨_, rfl⟩
    rw [← hx] at HTR hR2 HME hQ hle
    have HTR := Lib.hid HTR.out
    have HME := Lib.hid HME.out
    have hz2 : ∀ j, Q.getD j 0 ≠ 0 → x < D * 2 ^ (64 * j) := by rw [hx]; exact hz
    obtain ⟨l, hl⟩ : ∃ l, l = (nrow x).length := ⟨_, rfl⟩
    rw [← hl] at HTR hR2 hle
    have HTR := Lib.hid HTR.out
    have HR2 := Lib.hid hR2
    have HQR := Lib.hid hQr
    have HQ := Lib.hid hQ
    have HQL := Lib.hid hQl
    have FQ := Lib.hid fQ
    have HZ := Lib.hid hz2
    have HBW := Lib.hid hb
    have HBEL := Lib.hid hbel
    have HL := Lib.hid hl
    have hlb : (l : Int) ≤ 1048577 := by have := HNQ.out; have := HLB.out; omega
    have HLQ : Hid (l + 1 ≤ nq + Lb) := Lib.hid (by have := HLB.out; omega)
    have hlcr : (l : Int) ≤ (cr : Int) := by have := hRs.2.2.2.1; omega
    have hcr9 : (cr : Int) ≤ 9223372036854775807 := by have := hRs.2.2.2.2.1; unfold maxLen at this; omega
    have hDlo : 2 ^ (64 * Lb) ≤ 2 * D := by
      have h1 := lv_top2 (B := nrow D) (P := P) (by rw [← HLB.out]; exact HLD.out.1)
      rw [lv_nrow] at h1
      have h2 := top_half h1 (by have := HTOP.out; omega)
      rw [HLD.out.1, show 64 * (P + 2) = 64 * P + 64 + 64 by omega, Nat.pow_add, Nat.pow_add]
      exact h2
    have HDLO := Lib.hid hDlo
    clear hR2 hQr hQ hQl fQ hz hz2 hb hbel hR fR hRl hRs hx hle hDlo hl
    by_cases hsh : l < Lb
    · obtain ⟨a, ha⟩ : ∃ a : Int, a = (l : Int) - (Lb : Int) := ⟨_, rfl⟩
      have haI : (l : Int) - (Lb : Int) = a := by omega
      have ha0 : a < 0 := by omega
      have HXD : Hid (x < D) := Lib.hid (by
        have h1 := lv_lt (nrow_fits x)
        rw [lv_nrow, ← HL.out] at h1
        have h2 : 2 ^ (64 * (l + 1)) ≤ 2 ^ (64 * Lb) := Nat.pow_le_pow_right (by omega) (by omega)
        have h3 := HDLO.out
        rw [Nat.mul_add, Nat.pow_add] at h2
        omega)
      clear ha hsh
      go_wp2_with fail
      refine HTR.out.mono ?_
      rintro e w' ⟨rfl, rfl⟩
      go_wp2_with fail
      refine (HTQ.out _ HQR.out).mono ?_
      rintro e w' ⟨rfl, rfl⟩
      go_wp2_with fail
      try rw [Exit.noGoto_ret]
      go_ret2
      have hd := digits_done HQ.out HXD.out
      have hqn : NRow B0 wr (.slice (some ⟨gq, 0, none⟩) Q.length nq) Q := by rw [HQL.out]; exact HQR.out
      exact ⟨_, _, rfl, by rw [hd.1]; exact hqn.norm FQ.out, by rw [hd.2]; exact HR2.out, HBEL.out⟩
    · obtain ⟨k, hk⟩ : ∃ k, l = k + Lb := ⟨l - Lb, by omega⟩
      have hkI : (l : Int) - (Lb : Int) = (k : Int) := by omega
      have hk0 : (0 : Int) ≤ (k : Int) := by omega
      have hknn : ¬ (k : Int) < 0 := by omega
      have hkl : (k : Int) ≤ (l : Int) := by omega
      have hkl2 : (k : Int) < (l : Int) := by omega
      have hkc : (k : Int) < (cr : Int) := by omega
      have hlk : l - k = Lb := by omega
      have HK := Lib.hid hk
      have hdl : ((nrow x).drop k).length = Lb := by rw [List.length_drop, ← HL.out]; exact hlk
      obtain ⟨T, hT⟩ : ∃ T, T = lv ((nrow x).drop k) := ⟨_, rfl⟩
      have hTr : nrow T = (nrow x).drop k := by rw [hT]; exact (drop_row x k).symm
      have fT : Fits ((nrow x).drop k) := fun y hy => nrow_fits x y (List.mem_of_mem_drop hy)
      have hTp : T < 2 ^ (64 * Lb) := by rw [hT, ← hdl]; exact lv_lt fT
      have hsd := HR2.out.seg.2.2.2.2.2.drop k
      rw [Nat.zero_add] at hsd
      have hcmp := compare_any (some ⟨g, k, none⟩) (some ⟨gb, ob, none⟩) (cr - k) cb T D wr (by rw [hTr, hdl]; omega) (by rw [hTr]; exact hsd.natAt) HBW.out
      rw [hTr, hdl, ← HLB.out] at hcmp
      obtain ⟨c, hc⟩ : ∃ c, c = cmpV T D := ⟨_, rfl⟩
      have hcmp2 : Calls Tryd.prog 42 #[.slice (some ⟨g, k, none⟩) Lb (cr - k), .slice (some ⟨gb, ob, none⟩) Lb cb] wr (fun e w' => e = .returned (.int .i64 c) ∧ Below wr.heap.size wr w') := by
        rw [hc]; exact hcmp
      have HCMP := Lib.hid hcmp2
      have HDL := Lib.hid hdl
      have HT := Lib.hid hT
      have FT := Lib.hid fT
      have HTP := Lib.hid hTp
      have hspl := lv_split (nrow x) (k := k) (by rw [← HL.out]; omega)
      rw [lv_nrow, ← hT] at hspl
      have HSPL := Lib.hid hspl
      clear hk hdl hT hTr fT hTp hsd hcmp hcmp2 hsh hspl
      by_cases hTD : D ≤ T
      · have hc0 : (0 : Int) ≤ c := by
          rw [hc]; unfold cmpV; rw [if_neg (by omega)]; split <;> omega
        have HTD := Lib.hid hTD
        clear hc hTD
        go_wp2_with fail
        refine HTR.out.mono ?_
        rintro e w' ⟨rfl, rfl⟩
        go_wp2_with fail
        refine HCMP.out.mono ?_
        rintro e w1 ⟨rfl, hb1⟩
        have hR1 : NRow B0 w1 (.slice (some ⟨g, 0, none⟩) (nrow x).length cr) (nrow x) := by rw [← HL.out]; exact HR2.out.below hb1 (Nat.le_refl _)
        have hQ1 := HQR.out.below hb1 (Nat.le_refl _)
        have hB1 := HBW.out.below hb1 (Nat.le_refl _)
        have hBwr : B0 ≤ wr.heap.size := by have h := HR2.out.seg; have h2 := h.2.2.2.2.2.block; have h3 := h.2.2.1; omega
        have hE1 : Below B0 w w1 := HBEL.out.trans (hb1.mono hBwr)
        have hgb1 : gb < w1.heap.size := by
          obtain ⟨b', o', e', hlt', _⟩ := hB1.lt (i := 0) (by rw [← HLB.out]; omega)
          cases e'; exact hlt'
        have hsd1 := hR1.seg.2.2.2.2.2.drop k
        rw [Nat.zero_add] at hsd1
        have hsub := subtract_any g k (cr - k) cb (some ⟨gb, ob, none⟩) ((nrow x).drop k) (nrow D) w1 (by rw [HDL.out]; omega) (by rw [HDL.out, ← HLB.out]; exact Nat.le_refl _) FT.out (nrow_fits D) hsd1 hB1 (fun _ bl o e => by cases e; exact ⟨HNE.out, hgb1⟩)
        rw [HDL.out, ← HLB.out] at hsub
        have HSUB := Lib.hid hsub
        have HR1 := Lib.hid hR1
        have HQ1 := Lib.hid hQ1
        have HB1 := Lib.hid hB1
        have HE1 := Lib.hid hE1
        clear hR1 hQ1 hB1 hE1 hsd1 hsub hgb1 hb1 hBwr
        go_wp2_with fail
        refine HSUB.out.mono ?_
        rintro e w2 ⟨O, c1, v, rfl, hO, fO, hc1, heq, hs2, hw2⟩
        rw [lv_nrow, ← HT.out, HDL.out] at heq
        have hOp : lv O < 2 ^ (64 * Lb) := by rw [← HDL.out, ← hO]; exact lv_lt fO
        have hc10 : c1 = 0 := by
          rcases Nat.eq_zero_or_pos c1 with h | h
          · exact h
          · exfalso
            have h2 : 2 ^ (64 * Lb) * 1 ≤ 2 ^ (64 * Lb) * c1 := Nat.mul_le_mul_left _ h
            have h3 := HTD.out
            omega
        rw [hc10, Nat.mul_zero, Nat.add_zero] at heq
        have HMO : Hid (lv O + 1 * D = lv ((nrow x).drop k)) := Lib.hid (by rw [← HT.out]; omega)
        have HOD : Hid (lv O < D) := Lib.hid (by have h1 := HDLO.out; have h2 := HTP.out; omega)
        have HX : Hid (0 < 1 ∧ 1 < 18446744073709551616) := Lib.hid (by decide)
        have hkq : k < nq := by have h1 := HLQ.out; have h2 := HK.out; omega
        have hkqI : (k : Int) < (nq : Int) := by omega
        clear heq hOp hc10 hc1
        have hq2 : NRow B0 w2 (.slice (some ⟨gq, 0, none⟩) nq nq) Q := HQ1.out.of_block (hw2.other HQ1.out.seg.2.2.2.2.2.block HGQ.out.1)
        have hcell := hq2.seg.2.2.2.2.2.cell (i := k) (by rw [HQL.out]; omega)
        rw [Nat.zero_add] at hcell
        have hfr := hq2.seg.2.2.2.2.2.frozen k
        have hlaid := digit_laid (x := 1) (w := w) (W := w1) (W1 := w2) (R := nrow x) (Q := Q) (O := O) (N0 := N0) (gb := gb) (ob := ob) (nrow_fits x) (by rw [← HL.out, ← HLB.out]; exact HLQ.out) HR1.out HQL.out FQ.out HQ1.out (by rw [lv_nrow]; exact HQ.out) (by rw [lv_nrow]; exact HZ.out) HB1.out HE1.out HGQ.out.1 HNE.out HGQ.out.2 (by rw [← HL.out]; omega) (by omega)
          hO fO HMO.out HX.out.1 HX.out.2 HOD.out hs2 hw2
        rw [lv_nrow, ← HL.out, show ((1 : Nat) : Int) = 1 from rfl] at hlaid
        have HLAID := Lib.hid hlaid
        generalize Q.getD k 0 = qk at hcell
        clear hq2 hlaid hO fO hs2 hw2
        go_wp2_with fail
        go_roundw
        case rel => exact HLAID.out.1
        case measure =>
          show toldBy (L0 + 1) _ (.slice (some ⟨g, 0, none⟩) l cr) < toldBy (L0 + 1) wr (.slice (some ⟨g, 0, none⟩) R.length cr)
          rw [HME.out, toldBy_eq (HLAID.out.2.2.1.num HLAID.out.2.2.2 (K := L0 + 1) ?_)]
          · exact HLAID.out.2.1
          · have h := HLAID.out.2.2.1.seg.2.1
            have h2 := HNQ.out
            have h3 := HLQ.out
            omega
      · have hc0 : ¬ (0 : Int) ≤ c := by
          rw [hc]; unfold cmpV; rw [if_pos (by omega)]; omega
        have HTD := Lib.hid (Nat.lt_of_not_le hTD)
        clear hc hTD
        rcases Nat.eq_zero_or_pos k with hkz | hkp
        · have hz0 : ((k : Int) == 0) = true := by simp; exact hkz
          have HXD : Hid (x < D) := Lib.hid (by have h := HSPL.out; rw [hkz] at h; simp [lv] at h; rw [h]; exact HTD.out)
          clear hkz
          go_wp2_with fail
          refine HTR.out.mono ?_
          rintro e w' ⟨rfl, rfl⟩
          go_wp2_with fail
          refine HCMP.out.mono ?_
          rintro e w1 ⟨rfl, hb1⟩
          have HQ1 := Lib.hid (HQR.out.below hb1 (Nat.le_refl _))
          have HR1 := Lib.hid (HR2.out.below hb1 (Nat.le_refl _))
          have hBwr : B0 ≤ wr.heap.size := by have h := HR2.out.seg; have h2 := h.2.2.2.2.2.block; have h3 := h.2.2.1; omega
          have HE1 : Hid (Below B0 w w1) := Lib.hid (HBEL.out.trans (hb1.mono hBwr))
          clear hb1 hBwr
          go_wp2_with fail
          refine (HTQ.out _ HQ1.out).mono ?_
          rintro e w' ⟨rfl, rfl⟩
          go_wp2_with fail
          try rw [Exit.noGoto_ret]
          go_ret2
          have hd := digits_done HQ.out HXD.out
          have hqn : NRow B0 w1 (.slice (some ⟨gq, 0, none⟩) Q.length nq) Q := by rw [HQL.out]; exact HQ1.out
          exact ⟨_, _, rfl, by rw [hd.1]; exact hqn.norm FQ.out, by rw [hd.2]; exact HR1.out, HE1.out⟩
        · obtain ⟨k1, hk1⟩ : ∃ k1, k = k1 + 1 := ⟨k - 1, by omega⟩
          have hkz : ((k : Int) == 0) = false := by simp; omega
          have hk1I : (k : Int) - 1 = (k1 : Int) := by omega
          have hk10 : (0 : Int) ≤ (k1 : Int) := by omega
          have hk1l : (k1 : Int) ≤ (l : Int) := by omega
          have hk1l2 : (k1 : Int) < (l : Int) := by omega
          have hk1c : (k1 : Int) < (cr : Int) := by omega
          obtain ⟨Lt, hLt⟩ : ∃ Lt, Lt = Lb + 1 := ⟨_, rfl⟩
          have hlk1 : l - k1 = Lt := by have := HK.out; omega
          have HK1 := Lib.hid hk1
          have HLT := Lib.hid hLt
          have hdl1 : ((nrow x).drop k1).length = Lt := by rw [List.length_drop, ← HL.out]; exact hlk1
          have hdp := drop_pred (A := nrow x) (j := k1) (by rw [← HL.out]; omega)
          rw [← hk1, ← HT.out] at hdp
          have fT1 : Fits ((nrow x).drop k1) := fun y hy => nrow_fits x y (List.mem_of_mem_drop hy)
          have hg1 := getD_fits (nrow_fits x) k1
          have hlt1 : lv ((nrow x).drop k1) < 18446744073709551616 * D := by have := HTD.out; omega
          have hge1 : D ≤ lv ((nrow x).drop k1) := by
            have h1 := lv_lt (nrow_fits D)
            rw [lv_nrow, ← HLB.out] at h1
            rcases Nat.lt_or_ge (lv ((nrow x).drop k1)) (2 ^ (64 * Lb)) with h | h
            · exfalso
              have h2 := nrow_length_le h
              rw [← drop_row, hdl1] at h2
              omega
            · omega
          have HDL1 := Lib.hid hdl1
          have FT1 := Lib.hid fT1
          have HLT1 := Lib.hid hlt1
          have HGE1 := Lib.hid hge1
          clear hLt hk1 hdl1 hdp fT1 hg1 hlt1 hge1 hkp
          go_wp2_with fail
          refine HTR.out.mono ?_
          rintro e w' ⟨rfl, rfl⟩
          go_wp2_with fail
          refine HCMP.out.mono ?_
          rintro e w1 ⟨rfl, hb1⟩
          have hR1 : NRow B0 w1 (.slice (some ⟨g, 0, none⟩) (nrow x).length cr) (nrow x) := by rw [← HL.out]; exact HR2.out.below hb1 (Nat.le_refl _)
          have hQ1 := HQR.out.below hb1 (Nat.le_refl _)
          have hB1 := HBW.out.below hb1 (Nat.le_refl _)
          have hBwr : B0 ≤ wr.heap.size := by have h := HR2.out.seg; have h2 := h.2.2.2.2.2.block; have h3 := h.2.2.1; omega
          have hE1 : Below B0 w w1 := HBEL.out.trans (hb1.mono hBwr)
          have hgb1 : gb < w1.heap.size := by
            obtain ⟨b', o', e', hlt', _⟩ := hB1.lt (i := 0) (by rw [← HLB.out]; omega)
            cases e'; exact hlt'
          have hsd1 := hR1.seg.2.2.2.2.2.drop k1
          rw [Nat.zero_add] at hsd1
          have hD0 : 0 < D := by have := HTD.out; omega
          have htk := take_any g k1 gb ob P (cr - k1) cb ((nrow x).drop k1) (nrow D) w1 (by rw [HDL1.out]; have h1 := HLT.out; have h2 := HLD.out.1; omega) (by rw [← HLB.out]; exact HLD.out.1) (by have h2 := HLD.out.1; omega) FT1.out (nrow_fits D) (by rw [HDL1.out]; have h1 := HLT.out; have h2 := HK.out; have h3 := HK1.out; omega) (by rw [← HLB.out]; exact HLD.out.2) hsd1 hB1 HNE.out HTOP.out (by rw [lv_nrow]; exact HLT1.out)
          rw [HDL1.out, ← HLB.out] at htk
          obtain ⟨n, hn⟩ : ∃ n, n = lv ((nrow x).drop k1) / D := ⟨_, rfl⟩
          have HX : Hid (0 < n ∧ n < 18446744073709551616) := Lib.hid (by rw [hn]; exact ⟨Nat.div_pos HGE1.out hD0, by rw [Nat.div_lt_iff_lt_mul hD0]; exact HLT1.out⟩)
          have HN := Lib.hid hn
          have HTK := Lib.hid htk
          have HD0 := Lib.hid hD0
          have HR1 := Lib.hid hR1
          have HQ1 := Lib.hid hQ1
          have HB1 := Lib.hid hB1
          have HE1 := Lib.hid hE1
          clear hR1 hQ1 hB1 hE1 hsd1 htk hgb1 hb1 hBwr hn hD0
          go_wp2_with fail
          refine HTK.out.mono ?_
          rintro e w2 ⟨O, rfl, hO, fO, hOm, hs2, hw2⟩
          rw [lv_nrow] at hOm
          rw [lv_nrow, ← HN.out]
          have HMO : Hid (lv O + n * D = lv ((nrow x).drop k1)) := Lib.hid (by rw [hOm, HN.out]; exact Nat.mod_add_div' _ _)
          have HOD : Hid (lv O < D) := Lib.hid (by rw [hOm]; exact Nat.mod_lt _ HD0.out)
          have hkq : k1 < nq := by have h1 := HLQ.out; have h2 := HK.out; have h3 := HK1.out; omega
          have hkqI : (k1 : Int) < (nq : Int) := by omega
          clear hOm
          have hq2 : NRow B0 w2 (.slice (some ⟨gq, 0, none⟩) nq nq) Q := HQ1.out.of_block (hw2.other HQ1.out.seg.2.2.2.2.2.block HGQ.out.1)
          have hcell := hq2.seg.2.2.2.2.2.cell (i := k1) (by rw [HQL.out]; omega)
          rw [Nat.zero_add] at hcell
          have hfr := hq2.seg.2.2.2.2.2.frozen k1
          have hlaid := digit_laid (x := n) (w := w) (W := w1) (W1 := w2) (R := nrow x) (Q := Q) (O := O) (N0 := N0) (gb := gb) (ob := ob) (nrow_fits x) (by rw [← HL.out, ← HLB.out]; exact HLQ.out) HR1.out HQL.out FQ.out HQ1.out (by rw [lv_nrow]; exact HQ.out) (by rw [lv_nrow]; exact HZ.out) HB1.out HE1.out HGQ.out.1 HNE.out HGQ.out.2 (by rw [← HL.out]; omega) (by omega)
            hO fO HMO.out HX.out.1 HX.out.2 HOD.out hs2 hw2
          rw [lv_nrow, ← HL.out] at hlaid
          have HLAID := Lib.hid hlaid
          generalize Q.getD k1 0 = qk at hcell
          clear hq2 hlaid hO fO hs2 hw2
          go_wp2_with fail
          go_roundw
          case rel => exact HLAID.out.1
          case measure =>
            show toldBy (L0 + 1) _ (.slice (some ⟨g, 0, none⟩) l cr) < toldBy (L0 + 1) wr (.slice (some ⟨g, 0, none⟩) R.length cr)
            rw [HME.out, toldBy_eq (HLAID.out.2.2.1.num HLAID.out.2.2.2 (K := L0 + 1) ?_)]
            · exact HLAID.out.2.1
            · have h := HLAID.out.2.2.1.seg.2.1
              have h2 := HNQ.out
              have h3 := HLQ.out
              omega
end Go.Proofs.YtcbebikcfcidmaaDoor

namespace Go.Proofs.YtcbebikcfcidmaaDoor
open Go.RowKit Go.Shelf
attribute [local go_sem] Oper.semAt_some wide_fn

/-- A limb of a number that is shifted, out of two limbs of its own. -/
theorem shr_limb {T x y r : Nat} (hx : x = T % 18446744073709551616) (hy : y = T / 18446744073709551616 % 18446744073709551616) (hr : r ≤ 63) :
    x / 2 ^ r + y * 2 ^ (64 - r) % 18446744073709551616 = T / 2 ^ r % 18446744073709551616 := by
  obtain ⟨s, hs⟩ : ∃ s, s = 64 - r := ⟨_, rfl⟩
  rw [← hs]
  have hp : 2 ^ r * 2 ^ s = 18446744073709551616 := by rw [← Nat.pow_add, show r + s = 64 by omega]
  have hT := Nat.mod_add_div T 18446744073709551616
  rw [← hx] at hT
  obtain ⟨Z, hZ⟩ : ∃ Z, Z = T / 18446744073709551616 := ⟨_, rfl⟩
  rw [← hZ] at hT hy
  have h1 : T / 2 ^ r = x / 2 ^ r + Z * 2 ^ s := by
    rw [← hT, ← hp, Nat.mul_assoc, Nat.mul_comm (2 ^ s) Z, Nat.add_mul_div_left _ _ (Nat.two_pow_pos r)]
  have hxl : x < 18446744073709551616 := by rw [hx]; exact Nat.mod_lt _ (by decide)
  have hxd : x / 2 ^ r < 2 ^ s := by rw [Nat.div_lt_iff_lt_mul (Nat.two_pow_pos r), Nat.mul_comm, hp]; exact hxl
  have h2 : y * 2 ^ s % 18446744073709551616 = Z * 2 ^ s % 18446744073709551616 := by rw [hy, Nat.mod_mul_mod]
  obtain ⟨u, hu⟩ : ∃ u, u = Z % 2 ^ r := ⟨_, rfl⟩
  have h3 : Z * 2 ^ s % 18446744073709551616 = u * 2 ^ s := by rw [← hp, hu, Nat.mul_mod_mul_right]
  have hub : u + 1 ≤ 2 ^ r := by rw [hu]; exact Nat.mod_lt _ (Nat.two_pow_pos r)
  have h4 := Nat.mul_le_mul_right (2 ^ s) hub
  rw [hp, Nat.add_mul, Nat.one_mul] at h4
  rw [h2, h1, h3]
  clear h2 h1 hT hub hy hZ hu hx
  generalize x / 2 ^ r = e at *
  generalize Z * 2 ^ s = V at *
  generalize u * 2 ^ s = c at *
  generalize 2 ^ s = f at *
  omega
theorem low_or {l h s : Nat} (hl : l < 2 ^ s) (hd : h % 2 ^ s = 0) : l ||| h = l + h := by
  obtain ⟨k, hk⟩ : ∃ k, h = 2 ^ s * k := ⟨h / 2 ^ s, by have := Nat.mod_add_div h (2 ^ s); omega⟩
  rw [hk, Nat.or_comm, ← Nat.two_pow_add_eq_or_of_lt hl, Nat.add_comm]

theorem keeps_grown {B g : Nat} {W w w' : World} (h : KeepsFrom B W w) (hg : w.grownBy w' (some g)) (hgB : g < B) : KeepsFrom B W w' :=
  h.trans ⟨hg.size, fun k _ hB hk _ => (hg.block k (Array.getElem?_eq_some_iff.1 hk).1 (fun e => by cases e; omega)).trans hk⟩

theorem oper_append {P : Program} {t : TypeId} {o : Oper} {a : Act} {w w' : World} {K : Act → World → Prop} {Q : Exit → Act → World → Prop} {v : Value} (s x : Operand)
    (hop : o.op = Op.call { callee := Callee.builtin Builtin.append, args := #[s, x], argTypes := #[t, t] }) (vs vx : Value) (hs : a.eval s = vs) (hx : a.eval x = vx)
    (hrun : (Builtin.append_ #[t, t] o.type #[vs, vx]).run P w = .ok v w') (h : K (a.put o.dst v) w') : o.wp P a w K Q := by
  unfold Oper.wp
  simp [execOp, hop, resolve, invoke, builtin, hs, hx, hrun, Result.andThen]
  exact h

theorem lv_low {A : List Nat} (fA : Fits A) (k : Nat) : A.getD k 0 = lv (A.drop k) % 18446744073709551616 := by
  rcases Nat.lt_or_ge k A.length with h | h
  · rw [List.drop_eq_getElem_cons h, List.getD_eq_getElem?_getD, List.getElem?_eq_getElem h]
    have hx := fA A[k] (List.getElem_mem h)
    show A[k] = (A[k] + 18446744073709551616 * lv (A.drop (k + 1))) % 18446744073709551616
    omega
  · rw [List.drop_eq_nil_of_le h, List.getD_eq_getElem?_getD, List.getElem?_eq_none h]; rfl
theorem lv_div (L : List Nat) (q : Nat) (fL : Fits L) : lv L / 2 ^ (64 * q) = lv (L.drop q) := by
  induction q generalizing L with
  | zero => simp
  | succ q ih =>
    rcases L with _ | ⟨x, L⟩
    · simp [lv]
    · have hx := fL x (by simp)
      have h := ih L (fun y hy => fL y (by simp [hy]))
      rw [show 64 * (q + 1) = 64 + 64 * q by omega, Nat.pow_add, ← Nat.div_div_eq_div_mul]
      have e : lv (x :: L) / 2 ^ 64 = lv L := by
        show (x + 18446744073709551616 * lv L) / 2 ^ 64 = lv L
        omega
      rw [e, h]; rfl

theorem natAt_keep {w w' : World} {b o : Nat} {A : List Nat} (h : NatAt w (some ⟨b, o, none⟩) A) (e : w'.heap[b]? = w.heap[b]?) : NatAt w' (some ⟨b, o, none⟩) A := fun i hi => by
  obtain ⟨b', o', e1, hc⟩ := h i hi
  cases e1
  exact ⟨b, o, rfl, (World.cell?_of_block (a := ⟨b, o + i, none⟩) e).trans hc⟩

def DownAt (z y b o1 o2 ca cb r N : Nat) (A : List Nat) (w : World) (k : Nat) (W : World) : Prop :=
  ∃ O : List Nat, O.length = k ∧ k ≤ N ∧ Fits O ∧ lv O = lv A / 2 ^ r % 2 ^ (64 * k) ∧ NRow z W (.slice (some ⟨z + 1, 0, none⟩) k N) O ∧ NatAt W (some ⟨b, o1, none⟩) A ∧ NatAt W (some ⟨b, o2, none⟩) (A.drop 1) ∧
    Box W z (.int .i64 (r : Int)) ∧ Box W y (.slice (some ⟨z + 1, 0, none⟩) k N) ∧ Box W (y + 1) (.slice (some ⟨b, o1, none⟩) A.length ca) ∧ Box W (y + 2) (.slice (some ⟨b, o2, none⟩) (A.drop 1).length cb) ∧ y + 3 ≤ W.heap.size ∧ Below z w W
theorem DownAt.below {z y b o1 o2 ca cb r N : Nat} {A : List Nat} {w : World} {k : Nat} {W W' : World} (hb : b < z) (hy : z + 1 < y) (hw : Below (y + 3) W W') (h : DownAt z y b o1 o2 ca cb r N A w k W) : DownAt z y b o1 o2 ca cb r N A w k W' := by
  obtain ⟨O, h1, h2, h3, h4, h5, h6, h7, b0, b1, b2, b3, hs, hl⟩ := h
  exact ⟨O, h1, h2, h3, h4, h5.of_block (hw.block (z + 1) (by omega)), natAt_keep h6 (hw.block b (by omega)), natAt_keep h7 (hw.block b (by omega)), b0.below hw (by omega), b1.below hw (by omega), b2.below hw (by omega), b3.below hw (by omega), Nat.le_trans hs hw.size, hl.trans (hw.mono (by omega))⟩

end Go.Proofs.YtcbebikcfcidmaaDoor
