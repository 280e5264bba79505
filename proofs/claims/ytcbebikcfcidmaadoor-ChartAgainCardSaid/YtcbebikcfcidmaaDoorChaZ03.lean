/-
  The texts NatCompare2, NatSubtract, NatSubNil, NatQFace, NatDiv64M, one behind the other.
-/
import Derived.Test.YtcbebikcfcidmaaDoorChaZ02
import Derived.Laws.Rows
import Derived.Test.YtcbebikcfcidmaaDoorChaZ01

namespace Go.Proofs.YtcbebikcfcidmaaDoor
open Go.RowKit Go.Shelf
attribute [local go_sem] Oper.semAt_some wide_fn

theorem div_limb {L : List Nat} (h : Fits L) (j : Nat) : lv L / 2 ^ (64 * j) = (lv L / 2 ^ (64 * (j + 1))) * 18446744073709551616 + L.getD j 0 := by
  have h1 := lv_limb h j
  have h2 : lv L / 2 ^ (64 * (j + 1)) = lv L / 2 ^ (64 * j) / 18446744073709551616 := by rw [Nat.mul_add, Nat.mul_one, Nat.pow_add, Nat.div_div_eq_div_mul]
  rw [h2]
  omega
theorem lt_of_quot {a b d : Nat} (h : a / d < b / d) : a < b := by
  apply Classical.byContradiction
  intro hn
  have := Nat.div_le_div_right (c := d) (show b ≤ a by omega)
  omega
theorem lv_top {L : List Nat} (h : Fits L) : lv L / 2 ^ (64 * L.length) = 0 := Nat.div_eq_of_lt (lv_lt h)
/-- Of two normal rows the shorter one tells the lesser number. -/
theorem nrow_lt {a b : Nat} (h : (nrow a).length < (nrow b).length) : a < b := by
  apply Classical.byContradiction
  intro hn
  have h1 := lv_lt (nrow_fits a)
  rw [lv_nrow] at h1
  have h2 := nrow_length_le (v := b) (k := (nrow a).length) (by omega)
  omega

def CmpAnd (x y : Nat) (w : World) (e : Ending) (w' : World) : Prop := e = .returned (.int .i64 (cmpV x y)) ∧ Below w.heap.size w w'

def CompareAt (z : Nat) (a b : Option Addr) (ca cb : Nat) (A B : List Nat) (w : World) (k : Nat) (W : World) : Prop :=
  k ≤ A.length ∧ lv A / 2 ^ (64 * (A.length - k)) = lv B / 2 ^ (64 * (A.length - k)) ∧ (∃ v, Box W z v) ∧ Box W (z + 1) (.slice a A.length ca) ∧ Box W (z + 2) (.slice b B.length cb) ∧ NatAt W a A ∧ NatAt W b B ∧ z + 3 ≤ W.heap.size ∧ Below z w W
def CompareRet (z : Nat) (x y : Nat) (w : World) (_ : Nat) (W : World) : Prop := Box W z (.int .i64 (cmpV x y)) ∧ z + 3 ≤ W.heap.size ∧ Below z w W

theorem natAt_below {n : Nat} {w w' W : World} {a : Option Addr} {A : List Nat} (hw : NatAt w a A) (h : NatAt W a A) (hb : Below n W w') (hn : w.heap.size ≤ n) : NatAt w' a A := fun i hi => by
  obtain ⟨b, o, e, hc⟩ := h i hi
  obtain ⟨b1, o1, e1, hlt, _⟩ := hw.lt hi
  rw [e] at e1
  cases e1
  exact ⟨b, o, e, (hb.cell (p := ⟨b, o + i, none⟩) (by show b < n; omega)).trans hc⟩

set_option maxRecDepth 100000 in
set_option maxHeartbeats 4000000 in
theorem compare_any (a b : Option Addr) (ca cb x y : Nat) (w : World) (hA : (nrow x).length ≤ 1099511627776) (ma : NatAt w a (nrow x)) (mb : NatAt w b (nrow y)) :
    Calls Tryd.prog 42 #[.slice a (nrow x).length ca, .slice b (nrow y).length cb] w (CmpAnd x y w) := by
  obtain ⟨A, hAx⟩ : ∃ A, A = nrow x := ⟨_, rfl⟩
  obtain ⟨B, hBy⟩ : ∃ B, B = nrow y := ⟨_, rfl⟩
  have HAX : Hid (lv A = x) := Lib.hid (by rw [hAx]; exact lv_nrow x)
  have HBY : Hid (lv B = y) := Lib.hid (by rw [hBy]; exact lv_nrow y)
  have FA : Hid (Fits A) := Lib.hid (by rw [hAx]; exact nrow_fits x)
  have FB : Hid (Fits B) := Lib.hid (by rw [hBy]; exact nrow_fits y)
  have HLT : Hid (A.length < B.length → x < y) := Lib.hid (by rw [hAx, hBy]; exact nrow_lt)
  have HGT : Hid (B.length < A.length → y < x) := Lib.hid (by rw [hAx, hBy]; exact nrow_lt)
  rw [← hAx] at hA ma ⊢
  rw [← hBy] at mb ⊢
  clear hAx hBy
  have MA := Lib.hid ma
  have MB := Lib.hid mb
  obtain ⟨z, hz⟩ : ∃ z, z = w.heap.size := ⟨_, rfl⟩
  have HZ := Lib.hid hz
  clear hz
  by_cases hne : A.length = B.length
  · have HE := Lib.hid hne
    have hnb : (((A.length : Nat) : Int) != ((B.length : Nat) : Int)) = false := by rw [hne]; simp
    obtain ⟨X, hX⟩ : ∃ X : Nat → Nat, ∀ k, X k = A.getD (A.length - 1 - k) 0 := ⟨_, fun _ => rfl⟩
    obtain ⟨Y, hY⟩ : ∃ Y : Nat → Nat, ∀ k, Y k = B.getD (A.length - 1 - k) 0 := ⟨_, fun _ => rfl⟩
    have HX := Lib.hid hX
    have HY := Lib.hid hY
    clear hX hY ma mb hne
    refine (callsIn_wide (n := 3)).1 ?_
    refine callsIn_of_wp_marks Tryd.func42 rfl trivial ?_ rfl
    simp only [Tryd.ntmps42, List.size_toArray, List.length_cons, List.length_nil, Nat.reduceAdd, Nat.reduceSub, Array.replicate_succ, Array.replicate_zero, List.push_toArray, List.append_toArray, List.nil_append, List.cons_append]
    gi_wp2_with (gi_at_call 60; refine (callsIn_wide.2 (pairsDown_any _ _ _ _ _ _ _)).mono ?_; rintro e w' ⟨rfl, rfl⟩)
    rw [← HZ.out]
    simp only [Nat.add_assoc, Nat.reduceAdd]
    generalize hW : ((w.alloc (.cells #[.int .i64 0] 3)).alloc (.cells #[.slice a A.length ca] 31)).alloc (.cells #[.slice b B.length cb] 31) = W0
    obtain ⟨c0, s0, l0⟩ := box_next HZ.out (.int .i64 0) 3
    obtain ⟨c1, s1, l1⟩ := box_next s0 (.slice a A.length ca) 31
    obtain ⟨c2, s2, l2⟩ := box_next s1 (.slice b B.length cb) 31
    have c0' := (c0.alloc (.cells #[.slice a A.length ca] 31)).alloc (.cells #[.slice b B.length cb] 31)
    have c1' := c1.alloc (.cells #[.slice b B.length cb] 31)
    have hb0 : Below z w (((w.alloc (.cells #[.int .i64 0] 3)).alloc (.cells #[.slice a A.length ca] 31)).alloc (.cells #[.slice b B.length cb] 31)) :=
      ((l0.mono (by have := HZ.out; omega)).trans (l1.mono (by omega))).trans (l2.mono (by omega))
    rw [hW] at c0' c1' c2 s2 hb0
    have hsz : W0.heap.size = z + 3 := s2.symm
    have HW : CompareAt z a b ca cb A B w 0 W0 := ⟨Nat.zero_le _, by
      have h1 := lv_top FA.out
      have h2 := lv_top FB.out
      rw [← HE.out] at h2
      rw [Nat.sub_zero, h1, h2], ⟨_, c0'⟩, c1', c2, natAt_below MA.out MA.out hb0 (by have := HZ.out; omega), natAt_below MB.out MB.out hb0 (by have := HZ.out; omega), by omega, hb0⟩
    clear hW c0 s0 l0 c1 s1 l1 c2 s2 l2 c0' c1' hb0
    refine wpIn_range_at (m := 1) (gf := 71) (lb := #[.pointer (some ⟨z + 1, 0, none⟩), .pointer (some ⟨z + 2, 0, none⟩)]) rfl (enters_of Tryd.func71 (by kernel_rfl) rfl) (pairsDown_at (z + 1) (z + 2) a b ca cb A B X Y HX.out HY.out hA HE.out) (fun _ => rfl)
      (CompareAt z a b ca cb A B w) (CompareRet z x y w) (fun k W W' hb' h => by
        rw [hsz] at hb'
        obtain ⟨h1, h2, ⟨v, b0⟩, b1, b2, h3, h4, hs, hb⟩ := h
        have hzz := HZ.out
        exact ⟨h1, h2, ⟨v, b0.below hb' (by omega)⟩, b1.below hb' (by omega), b2.below hb' (by omega), natAt_below MA.out h3 hb' (by omega), natAt_below MB.out h4 hb' (by omega), Nat.le_trans hs hb'.size, hb.trans (hb'.mono (by omega))⟩)
      (fun k W W' hb' h => by
        rw [hsz] at hb'
        obtain ⟨b0, hs, hb⟩ := h
        exact ⟨b0.below hb' (by omega), Nat.le_trans hs hb'.size, hb.trans (hb'.mono (by omega))⟩)
      (fun k W h => by obtain ⟨h1, h2, ⟨v, b0⟩, b1, b2, h3, h4, hs, hb⟩ := h; omega) (fun k W h => by obtain ⟨b0, hs, hb⟩ := h; omega)
      (fun k W h => by obtain ⟨h1, h2, ⟨v, b0⟩, b1, b2, h3, h4, hs, hb⟩ := h; exact ⟨b1.1, b2.1, h3, h4⟩) HW
      (fun k => { tmps := #[.slice a A.length ca, .slice b B.length cb, undef, undef, .pointer (some ⟨z, 0, none⟩), .int .u64 ((X k : Nat) : Int), .int .u64 ((Y k : Nat) : Int), .slice a A.length ca, .int .i64 A.length, .slice b B.length cb, .int .i64 B.length, .bool false, undef, undef, undef, undef, undef, undef,
        .slice a A.length ca, .slice b B.length cb, .func (.func 71) #[] #[.pointer (some ⟨z + 1, 0, none⟩), .pointer (some ⟨z + 2, 0, none⟩)], .int .u64 ((X k : Nat) : Int), .int .u64 ((Y k : Nat) : Int), undef, undef, undef, undef, undef, undef, undef], defers := [] })
      ?assign ?body ?done ?stop
    case assign =>
      intro l k W K hK
      gi_wp2
      exact hK
    case body =>
      rintro l k W hk ⟨h1, h2, ⟨v0, b0⟩, b1, b2, h3, h4, hs, hb⟩
      have hxA : X k = A.getD (A.length - 1 - k) 0 := HX.out k
      have hyB : Y k = B.getD (A.length - 1 - k) 0 := HY.out k
      generalize X k = p at hxA ⊢
      generalize Y k = q at hyB ⊢
      have d1 := div_limb FA.out (A.length - 1 - k)
      have d2 := div_limb FB.out (A.length - 1 - k)
      rw [show A.length - 1 - k + 1 = A.length - k by omega] at d1 d2
      rw [← hxA] at d1
      rw [← hyB, ← h2] at d2
      have hc0 := b0.1
      have hf0 := b0.2
      have hzz := HZ.out
      rcases Nat.lt_trichotomy p q with hlt | heq | hgt
      · have HC : Hid (cmpV x y = -1) := Lib.hid (cmpV_lt (by rw [← HAX.out, ← HBY.out]; exact lt_of_quot (d := 2 ^ (64 * (A.length - 1 - k))) (by rw [d1, d2]; omega)))
        have hI : (p : Int) < (q : Int) := by omega
        have hn : ((p : Int) != (q : Int)) = true := by simp; omega
        clear hxA hyB d1 d2 h2 hlt hzz
        gi_wp2_with (gi_at_call 59; refine (CallsIn.inRound l (callsIn_wide.2 (sign_any true W))).mono ?_; rintro e W ⟨rfl, rfl⟩)
        exact ⟨keeps_set (KeepsFrom.refl _ _) _ _, by rw [HC.out]; exact b0.set _, by rw [size_set]; exact hs, hb.setCell (p := ⟨z, 0, none⟩) (Nat.le_refl _) _⟩
      · subst heq
        have HQ : Hid (lv A / 2 ^ (64 * (A.length - (k + 1))) = lv B / 2 ^ (64 * (A.length - (k + 1)))) := Lib.hid (by rw [show A.length - (k + 1) = A.length - 1 - k by omega, d1, d2])
        clear hxA hyB d1 d2 h2 hzz
        gi_wp2
        exact ⟨KeepsFrom.refl _ _, hk, HQ.out, ⟨v0, b0⟩, b1, b2, h3, h4, hs, hb⟩
      · have HC : Hid (cmpV x y = 1) := Lib.hid (cmpV_gt (by rw [← HAX.out, ← HBY.out]; exact lt_of_quot (d := 2 ^ (64 * (A.length - 1 - k))) (by rw [d1, d2]; omega)))
        have hI : ¬ (p : Int) < (q : Int) := by omega
        have hn : ((p : Int) != (q : Int)) = true := by simp; omega
        have hd : decide (p < q) = false := by simp; omega
        clear hxA hyB d1 d2 h2 hgt hzz hI
        gi_wp2_with (gi_at_call 59; refine (CallsIn.inRound l (callsIn_wide.2 (sign_any false W))).mono ?_; rintro e W ⟨rfl, rfl⟩)
        exact ⟨keeps_set (KeepsFrom.refl _ _) _ _, by rw [HC.out]; exact b0.set _, by rw [size_set]; exact hs, hb.setCell (p := ⟨z, 0, none⟩) (Nat.le_refl _) _⟩
    case done =>
      rintro D W hD ⟨h1, h2, ⟨v0, b0⟩, b1, b2, h3, h4, hs, hb⟩ hK
      have HC : Hid (cmpV x y = 0) := Lib.hid (cmpV_eq (by have h := h2; rw [Nat.sub_self, Nat.mul_zero, Nat.pow_zero, Nat.div_one, Nat.div_one, HAX.out, HBY.out] at h; exact h))
      have hc0 := b0.1
      have hf0 := b0.2
      clear h2
      gi_wp2
      have hK' : (W.setCell ⟨z, 0, none⟩ (.int .i64 0)).heap[D]? = some (.deferred (some [])) := (Below.heap_setCell _ _ _ _ (by show D ≠ z; omega)).trans hK
      have b3 : Below (z + 3) (W.setCell ⟨z, 0, none⟩ (.int .i64 0)) ((W.setCell ⟨z, 0, none⟩ (.int .i64 0)).putObj D (.deferred none)) := below_putObj _ D _ (by omega) (by rw [size_set]; exact hs)
      have hcr := ((b0.set (.int .i64 0)).below b3 (by omega)).1
      refine ⟨by simp, .inl ⟨_, _, rfl, run_takeDeferred hK', ?_⟩⟩
      have hzz := HZ.out
      refine ⟨.int .i64 0, by simp [results, Tryd.f42, go_sem, hcr], by rw [HC.out], ?_⟩
      rw [← hzz]
      exact (hb.setCell (p := ⟨z, 0, none⟩) (Nat.le_refl _) _).trans (b3.mono (by omega))
    case stop =>
      rintro D k W hD _ ⟨b0, hs, hb⟩ hK
      gi_wp2
      have b3 : Below (z + 3) W (W.putObj D (.deferred none)) := below_putObj _ D _ (by omega) hs
      have hcr := (b0.below b3 (by omega)).1
      refine ⟨by simp, .inl ⟨_, _, rfl, run_takeDeferred hK, ?_⟩⟩
      have hzz := HZ.out
      refine ⟨.int .i64 (cmpV x y), by simp [results, Tryd.f42, go_sem, hcr], rfl, ?_⟩
      rw [← hzz]
      exact hb.trans (b3.mono (by omega))
  · have hnb : (((A.length : Nat) : Int) != ((B.length : Nat) : Int)) = true := by simp; omega
    rcases Nat.lt_or_ge A.length B.length with hlt | hge
    · have HC : Hid (cmpV x y = -1) := Lib.hid (cmpV_lt (HLT.out hlt))
      clear ma mb hne
      go_enter Tryd.func42, Tryd.ntmps42
      go_wp2_with (go_at_call 59; refine (sign_any true _).mono ?_; rintro e W ⟨rfl, rfl⟩)
      have hcr := (Box.new w (.int .i64 (sgn true)) 3).1
      exact bodyPost_ret (v := .int .i64 (sgn true)) (by simp [results, Tryd.f42, go_sem, hcr]) rfl ⟨by rw [HC.out]; rfl, (Below.refl _ _).alloc (Nat.le_refl _) _⟩
    · have HC : Hid (cmpV x y = 1) := Lib.hid (cmpV_gt (HGT.out (by omega)))
      have hd : decide (A.length < B.length) = false := by simp; omega
      clear ma mb hne
      go_enter Tryd.func42, Tryd.ntmps42
      go_wp2_with (go_at_call 59; refine (sign_any false _).mono ?_; rintro e W ⟨rfl, rfl⟩)
      have hcr := (Box.new w (.int .i64 (sgn false)) 3).1
      exact bodyPost_ret (v := .int .i64 (sgn false)) (by simp [results, Tryd.f42, go_sem, hcr]) rfl ⟨by rw [HC.out]; rfl, (Below.refl _ _).alloc (Nat.le_refl _) _⟩
end Go.Proofs.YtcbebikcfcidmaaDoor

namespace Go.Proofs.YtcbebikcfcidmaaDoor
open Go.RowKit Go.Shelf
attribute [local go_sem] Oper.semAt_some wide_fn

/-- Limbs of a difference, one more. -/
theorem limb_sub {o p c c' x y r a b : Nat} (h : o + b = a + p * c) (hr : r = (x + 18446744073709551616 - y - c) % 18446744073709551616) (hc : c' = if x < y + c then 1 else 0) (hx : x < 18446744073709551616) (hy : y < 18446744073709551616) (h1 : c ≤ 1) :
    (o + p * r) + (b + p * y) = (a + p * x) + p * 18446744073709551616 * c' := by
  have e : r + y + c = x + 18446744073709551616 * c' := by
    split at hc <;> omega
  have h2 : p * (r + y + c) = p * (x + 18446744073709551616 * c') := by rw [e]
  rw [Nat.mul_add, Nat.mul_add, Nat.mul_add, ← Nat.mul_assoc] at h2
  omega

def SubPost (g off : Nat) (A B : List Nat) (w : World) (e : Ending) (w' : World) : Prop :=
  ∃ (O : List Nat) (c : Nat) (v : Value), e = .returned v ∧ O.length = A.length ∧ Fits O ∧ c ≤ 1 ∧ lv O + lv B = lv A + 2 ^ (64 * A.length) * c ∧ Seg w' g off O ∧ Wrote g off (off + A.length) w w'

def SubAt (z g off ca cb : Nat) (b : Option Addr) (A B : List Nat) (w : World) (k : Nat) (W : World) : Prop :=
  ∃ (O : List Nat) (c : Nat), O.length = k ∧ k ≤ A.length ∧ Fits O ∧ c ≤ 1 ∧ lv O + lv (B.take k) = lv (A.take k) + 2 ^ (64 * k) * c ∧ Seg W g off (O ++ A.drop k) ∧ NatAt W b B ∧
    Box W z (.slice (some ⟨g, off, none⟩) A.length ca) ∧ Box W (z + 1) (.int .i64 (k : Int)) ∧ Box W (z + 2) (.int .u64 (c : Int)) ∧ Box W (z + 3) (.slice (some ⟨g, off, none⟩) A.length ca) ∧ Box W (z + 4) (.slice b B.length cb) ∧
    z + 5 ≤ W.heap.size ∧ Wrote g off (off + A.length) w W

theorem SubAt.below {z g off ca cb : Nat} {b : Option Addr} {A B : List Nat} {w : World} {k : Nat} {W W' : World} (hg : g < z) (hz : z = w.heap.size) (hbl : 0 < B.length → ∀ bl o, b = some ⟨bl, o, none⟩ → bl < z) (hb : Below (z + 5) W W') (h : SubAt z g off ca cb b A B w k W) : SubAt z g off ca cb b A B w k W' := by
  obtain ⟨O, c, h1, h2, h3, h4, h5, h6, h7, b0, b1, b2, b3, b4, hs, hw⟩ := h
  refine ⟨O, c, h1, h2, h3, h4, h5, h6.below hb (by omega), fun i hi => ?_, b0.below hb (by omega), b1.below hb (by omega), b2.below hb (by omega), b3.below hb (by omega), b4.below hb (by omega), Nat.le_trans hs hb.size, hw.after (hb.mono (by omega)) (by omega)⟩
  obtain ⟨bl, o, e, hc⟩ := h7 i hi
  exact ⟨bl, o, e, (hb.cell (p := ⟨bl, o + i, none⟩) (by show bl < z + 5; have := hbl (by omega) bl o e; omega)).trans hc⟩

set_option maxRecDepth 100000 in
set_option maxHeartbeats 2000000 in
theorem subtract_any (g off ca cb : Nat) (b : Option Addr) (A B : List Nat) (w : World) (hA : A.length ≤ 1099511627776) (hBA : B.length ≤ A.length) (fA : Fits A) (fB : Fits B)
    (hs : Seg w g off A) (hb : NatAt w b B) (hne : 0 < B.length → ∀ bl o, b = some ⟨bl, o, none⟩ → bl ≠ g ∧ bl < w.heap.size) :
    Calls Tryd.prog 93 #[.slice (some ⟨g, off, none⟩) A.length ca, .slice b B.length cb] w (SubPost g off A B w) := by
  obtain ⟨z, hz⟩ : ∃ z, z = w.heap.size := ⟨_, rfl⟩
  have hgz : g < z := by have := hs.block; omega
  have hbl : 0 < B.length → ∀ bl o, b = some ⟨bl, o, none⟩ → bl < z := fun h0 bl o e => by have := (hne h0 bl o e).2; omega
  obtain ⟨X, hX⟩ : ∃ X : Nat → Nat, ∀ k, X k = A.getD k 0 := ⟨_, fun _ => rfl⟩
  obtain ⟨Y, hY⟩ : ∃ Y : Nat → Nat, ∀ k, Y k = B.getD k 0 := ⟨_, fun _ => rfl⟩
  have HX := Lib.hid hX
  have HY := Lib.hid hY
  have HZ := Lib.hid hz
  clear hX hY hz
  refine (callsIn_wide (n := 3)).1 ?_
  refine callsIn_of_wp_marks Tryd.func93 rfl trivial ?_ rfl
  simp only [Tryd.ntmps93, List.size_toArray, List.length_cons, List.length_nil, Nat.reduceAdd, Nat.reduceSub, Array.replicate_succ, Array.replicate_zero, List.push_toArray, List.append_toArray, List.nil_append, List.cons_append]
  gi_wp2_with (gi_at_call 79; refine (callsIn_wide.2 (pairs_any _ _ _ _ _ _ _)).mono ?_; rintro e w' ⟨rfl, rfl⟩)
  rw [← HZ.out]
  simp only [Nat.add_assoc, Nat.reduceAdd]
  generalize hW : (((((w.alloc (.cells #[.slice (some ⟨g, off, none⟩) A.length ca] 31)).alloc (.cells #[.int .i64 0] 3)).alloc (.cells #[.int .u64 0] 58)).alloc (.cells #[.slice (some ⟨g, off, none⟩) A.length ca] 31)).alloc (.cells #[.slice b B.length cb] 31)) = W0
  obtain ⟨c0, c1, c2, c3, c4, hsz, hbw⟩ := boxes5 HZ.out _ _ _ _ _ _ _ _ _ _ hW.symm
  clear hW
  have HW : SubAt z g off ca cb b A B w 0 W0 :=
    ⟨[], 0, rfl, Nat.zero_le _, fun x hx => (by cases hx), by omega, by simp [lv], hs.below hbw hs.block, hb.below hbw (Nat.le_refl _), c0, c1, c2, c3, c4, by omega, Wrote.of_below hbw _ _ _⟩
  clear c0 c1 c2 c3 c4 hbw
  refine wpIn_range_at (m := 1) (gf := 89) (lb := #[.pointer (some ⟨z + 3, 0, none⟩), .pointer (some ⟨z + 4, 0, none⟩)]) rfl (enters_of Tryd.func89 (by kernel_rfl) rfl) (pairs_at (z + 3) (z + 4) _ b ca cb A B X Y HX.out HY.out hA (by omega)) (fun _ => rfl)
    (SubAt z g off ca cb b A B w) (fun _ _ => False) (fun k W W' hb' h => h.below hgz HZ.out hbl (by rw [← hsz]; exact hb')) (fun _ _ _ _ h => h) (fun k W h => by obtain ⟨O, c, h1, h2, h3, h4, h5, h6, h7, b0, b1, b2, b3, b4, hss, hw⟩ := h; omega) (fun _ _ h => h.elim)
    (fun k W h => by obtain ⟨O, c, h1, h2, h3, h4, h5, h6, h7, b0, b1, b2, b3, b4, hss, hw⟩ := h; exact ⟨b3.1, b4.1, h6.from h1 h2, h7.from k⟩) HW
    (fun k => { tmps := #[.slice (some ⟨g, off, none⟩) A.length ca, .slice b B.length cb, .pointer (some ⟨z, 0, none⟩), undef, .pointer (some ⟨z + 1, 0, none⟩), .pointer (some ⟨z + 2, 0, none⟩), .int .u64 ((X k : Nat) : Int), .int .u64 ((Y k : Nat) : Int),
      .slice (some ⟨g, off, none⟩) A.length ca, .slice b B.length cb, .func (.func 89) #[] #[.pointer (some ⟨z + 3, 0, none⟩), .pointer (some ⟨z + 4, 0, none⟩)], .int .u64 ((X k : Nat) : Int), .int .u64 ((Y k : Nat) : Int), undef, undef, undef, undef, undef, undef, undef, undef, undef, undef, undef, undef], defers := [] })
    ?assign ?body ?done ?stop
  case assign =>
    intro l k W K hK
    gi_wp2
    exact hK
  case body =>
    rintro l k W hk ⟨O, c, h1, h2, h3, h4, h5, h6, h7, b0, b1, b2, b3, b4, hss, hw⟩
    have hxA : X k = A.getD k 0 := HX.out k
    have hyB : Y k = B.getD k 0 := HY.out k
    generalize X k = x at hxA ⊢
    generalize Y k = y at hyB ⊢
    have hc0 := b0.1
    have hc1 := b1.1
    have hc2 := b2.1
    have hf1 := b1.2
    have hf2 := b2.2
    have hgc := h6.cell (i := k) (by rw [List.length_append, List.length_drop]; omega)
    have hgf := h6.frozen (off + k)
    have hkA : (k : Int) < (A.length : Int) := by omega
    have hk0 : (0 : Int) ≤ (k : Int) := by omega
    have hadd := run_sub64 x y c h4
    have hx1 := getD_fits fA k
    have hy1 := getD_fits fB k
    obtain ⟨r, hr⟩ : ∃ r, r = (x + 18446744073709551616 - y - c) % 18446744073709551616 := ⟨_, rfl⟩
    obtain ⟨q, hq⟩ : ∃ q, q = if x < y + c then 1 else 0 := ⟨_, rfl⟩
    rw [← hxA] at hx1
    rw [← hyB] at hy1
    have hst := limb_sub h5 hr hq hx1 hy1 h4
    have hr1 : r < 18446744073709551616 := by rw [hr]; exact Nat.mod_lt _ (by decide)
    have hq1 : q ≤ 1 := by rw [hq]; split <;> omega
    rw [← hr, ← hq] at hadd
    rw [hxA, hyB, ← lv_take_succ' A, ← lv_take_succ' B] at hst
    have H1 := Lib.hid h1
    have HXA := Lib.hid hxA
    have HYB := Lib.hid hyB
    have H5 := Lib.hid h5
    have HSZ := Lib.hid hsz
    have HST := Lib.hid hst
    clear h1 hxA hyB h5 hsz hx1 hy1 hr hq hst
    have HR1 := Lib.hid hr1
    clear hr1
    gi_wp2
    refine wpIn_region_walk (fun w' => w'.cell? ⟨z, 0, none⟩ = some (.slice (some ⟨g, off, none⟩) A.length ca) ∧ w'.cell? ⟨z + 1, 0, none⟩ = some (.int .i64 (k : Int)))
      [true, true, true, true, false, false, true, true, true, true, false, false] (by kernel_rfl) (by kernel_rfl) (by kernel_rfl) rfl (by kernel_rfl) (by rintro ⟨_, _, h⟩; exact h) (fun _ _ _ _ _ h => h) ?_
    have hS : W.drew.cell? ⟨z, 0, none⟩ = some (.slice (some ⟨g, off, none⟩) A.length ca) ∧ W.drew.cell? ⟨z + 1, 0, none⟩ = some (.int .i64 (k : Int)) := ⟨hc0, hc1⟩
    repeat (refine walkS_yes hS rfl (fun w' hw' => by obtain ⟨q0, q1⟩ := hw'; go_simp; rfl) ?_; simp only [Act.put, List.setIfInBounds_toArray, List.set_cons_zero, List.set_cons_succ])
    refine walkS_no rfl (fun K hK => ?_)
    go_simp
    refine hK _ _ hS ?_
    clear hK K
    refine walkS_no rfl (fun K hK => ?_)
    go_simp
    refine hK _ _ hS ?_
    clear hK K
    repeat (refine walkS_yes hS rfl (fun w' hw' => by obtain ⟨q0, q1⟩ := hw'; go_simp; rfl) ?_; simp only [Act.put, List.setIfInBounds_toArray, List.set_cons_zero, List.set_cons_succ])
    refine walkS_no rfl (fun K hK => ?_)
    go_simp
    refine hK _ _ ?_ ?_
    · exact ⟨(b0.other (by show g ≠ z; omega) _).drew.1, (b1.other (by show g ≠ z + 1; omega) _).drew.1⟩
    clear hK K
    refine walkS_no rfl (fun K hK => ?_)
    go_simp
    refine hK _ _ ?_ ?_
    · exact ⟨((b0.other (by show g ≠ z; omega) _).other (by show z + 2 ≠ z; omega) _).drew.1, ((b1.other (by show g ≠ z + 1; omega) _).other (by show z + 2 ≠ z + 1; omega) _).drew.1⟩
    clear hK K
    simp only [walkS]
    gi_wp2
    have s1 := h6.set (k := k) (by rw [List.length_append, List.length_drop, H1.out]; omega) r
    rw [set_mid H1.out hk] at s1
    refine ⟨keeps_drew (keeps_set (keeps_set (keeps_set (KeepsFrom.refl _ _) _ _) _ _) _ _), O ++ [r], q, by rw [List.length_append, H1.out]; rfl, hk, fits_snoc h3 HR1.out, hq1, ?_, ?_, ?_,
      (((b0.other (by show g ≠ z; omega) _).other (by show z + 2 ≠ z; omega) _).other (by show z + 1 ≠ z; omega) _).drew,
      (((b1.other (by show g ≠ z + 1; omega) _).other (by show z + 2 ≠ z + 1; omega) _).set _).drew,
      (((b2.other (by show g ≠ z + 2; omega) _).set _).other (by show z + 1 ≠ z + 2; omega) _).drew,
      (((b3.other (by show g ≠ z + 3; omega) _).other (by show z + 2 ≠ z + 3; omega) _).other (by show z + 1 ≠ z + 3; omega) _).drew,
      (((b4.other (by show g ≠ z + 4; omega) _).other (by show z + 2 ≠ z + 4; omega) _).other (by show z + 1 ≠ z + 4; omega) _).drew, ?_, ?_⟩
    · rw [lv_snoc, H1.out, show 2 ^ (64 * (k + 1)) = 2 ^ (64 * k) * 18446744073709551616 by rw [Nat.mul_add, Nat.pow_add]]
      exact HST.out
    · exact ((s1.other (by show z + 2 ≠ g; omega) _).other (by show z + 1 ≠ g; omega) _).drew
    · exact (((h7.other (p := ⟨g, off + k, none⟩) (fun h0 bl o e => (hne h0 bl o e).1) _).other (p := ⟨z + 2, 0, none⟩) (fun h0 bl o e => by have := hbl h0 bl o e; show bl ≠ z + 2; omega) _).other (p := ⟨z + 1, 0, none⟩) (fun h0 bl o e => by have := hbl h0 bl o e; show bl ≠ z + 1; omega) _).drew
    · show z + 5 ≤ (World.setCell _ _ _).heap.size
      rw [size_set, size_set, size_set]; exact hss
    · have hzz := HZ.out
      exact (((hw.setIn (by omega) (by omega) _).setNew hs.block (by show w.heap.size ≤ z + 2; omega) _).setNew hs.block (by show w.heap.size ≤ z + 1; omega) _).drew
  case done =>
    rintro D W hD ⟨O, c, h1, h2, h3, h4, h5, h6, h7, b0, b1, b2, b3, b4, hss, hw⟩ hK
    gi_wp2
    have H1 := Lib.hid h1
    have H5 := Lib.hid h5
    clear h1 h5
    refine ⟨by simp, .inl ⟨_, _, rfl, run_takeDeferred hK, ?_⟩⟩
    have b1 : Below W0.heap.size W (W.putObj D (.deferred none)) := below_putObj W D _ hD (by omega)
    have e1 := h6
    rw [List.drop_eq_nil_of_le (Nat.le_refl _), List.append_nil] at e1
    have e5 := H5.out
    rw [List.take_of_length_le (Nat.le_refl _), List.take_of_length_le hBA] at e5
    have hzz := HZ.out
    exact ⟨_, results_none rfl _ _ _, O, c, _, rfl, H1.out, h3, h4, e5, e1.below b1 (by omega), hw.after (b1.mono (by omega)) hs.block⟩
  case stop =>
    rintro D k W _ _ h _
    exact h.elim
end Go.Proofs.YtcbebikcfcidmaaDoor

namespace Go.Proofs.YtcbebikcfcidmaaDoor
open Go.RowKit Go.Shelf
attribute [local go_sem] Oper.semAt_some wide_fn

end Go.Proofs.YtcbebikcfcidmaaDoor

namespace Go.Proofs.YtcbebikcfcidmaaDoor
open Go.RowKit

abbrev Short (n : Nat) : Prop := (nrow n).length ≤ 2048

theorem NTr.slice {w : World} {v : Value} {n : Nat} (h : NTr w v n) : ∃ a cap, v = .slice a (nrow n).length cap ∧ (nrow n).length ≤ cap ∧ (a = none → cap = 0) ∧ NatAt w a (nrow n) := h
theorem ResOk.out {B n : Nat} {w w1 w' : World} {e : Ending} (h : ResOk B n w1 e w') (hb : Below w.heap.size w w1) (hB : B = w.heap.size) : ERes w.heap.size n w e w' := by
  obtain ⟨v, he, hr, hb2⟩ := h
  exact ⟨v, he, by rw [← hB]; exact hr, hb.trans (hb2.mono hb.size)⟩
theorem OwnRes.more {w w1 w' : World} {e : Ending} {L : List Nat} (h : OwnRes L w1 e w') (hb : Below w.heap.size w w1) : OwnRes L w e w' := by
  obtain ⟨v, he, hr, hb2⟩ := h
  exact ⟨v, he, hr.more hb.size, hb.trans (hb2.mono hb.size)⟩

section
variable {K K' : Nat} {w : World} {va vb : Value} {na nb : Nat}

set_option maxHeartbeats 1000000 in
theorem cmp_p (ha : NNum K w va na) (hb : NNum K' w vb nb) (hK : K ≤ 1099511627776) (hK' : K' ≤ 1099511627776) : Calls Tryd.prog 26 #[va, vb] w (CmpAnd na nb w) := by
  have HT := Lib.hid (trim_v ha hK)
  have HT' := Lib.hid (trim_v hb hK')
  have HL : Hid ((nrow na).length ≤ 1099511627776) := Lib.hid (Nat.le_trans ha.rowLen hK)
  obtain ⟨a, ca, A, rfl, _, _, _, _, _, _⟩ := ha
  obtain ⟨b, cb, B, rfl, _, _, _, _, _, _⟩ := hb
  go_enter Tryd.func26, Tryd.ntmps26
  go_wp2_with fail
  refine HT.out.mono ?_
  rintro e w' ⟨v, rfl, hv, rfl⟩
  have HV := Lib.hid hv
  obtain ⟨a', ca', rfl, _, _, m2⟩ := hv
  have M2 := Lib.hid m2
  clear m2
  go_wp2_with fail
  refine HT'.out.mono ?_
  rintro e w' ⟨v, rfl, hv, rfl⟩
  obtain ⟨b', cb', rfl, _, _, m3⟩ := hv
  have HC := Lib.hid (compare_any a' b' ca' cb' na nb w HL.out M2.out m3)
  clear m3
  go_wp2_with fail
  refine HC.out.mono ?_
  rintro e w2 ⟨rfl, hb2⟩
  have HB := Lib.hid hb2
  clear hb2
  go_wp2_with fail
  go_ret
  exact ⟨rfl, HB.out⟩

end
end Go.Proofs.YtcbebikcfcidmaaDoor

namespace Go.Proofs.YtcbebikcfcidmaaDoor

/-- The digit that is looked for: of u and one digit more, by y = a b. -/
structure DigOf (u l y a b Q : Nat) : Prop where
  hy : y = a * 4294967296 + b
  hb : b < 4294967296
  ha : 2147483648 ≤ a ∧ a < 4294967296
  hl : l < 4294967296
  hu : u < y
  hQ : Q = (u * 4294967296 + l) / y
section
variable {u l y a b Q q r : Nat}
theorem DigOf.pos (h : DigOf u l y a b Q) : 0 < y := by have := h.hu; omega
theorem DigOf.lt (h : DigOf u l y a b Q) : Q < 4294967296 := by
  rw [h.hQ, Nat.div_lt_iff_lt_mul h.pos]
  have h1 := h.hu
  have h2 := h.hl
  omega
theorem DigOf.init (h : DigOf u l y a b Q) : Q ≤ u / a := by
  have ha : y / 4294967296 = a := by rw [h.hy]; have := h.hb; omega
  have h1 := div_guess (r := u * 4294967296 + l) (y := y) (K := 4294967296) (by rw [ha]; have := h.ha; omega)
  rw [ha, ← h.hQ, show (u * 4294967296 + l) / 4294967296 = u by have := h.hl; omega] at h1
  exact h1
theorem DigOf.down (h : DigOf u l y a b Q) (hq : q * a + r = u) (hg : 4294967296 * r + l < q * b) : Q < q := by
  rw [h.hQ, Nat.div_lt_iff_lt_mul h.pos, h.hy, Nat.mul_add, ← hq, Nat.add_mul, Nat.mul_assoc]
  omega
theorem DigOf.stop (h : DigOf u l y a b Q) (hQ : Q ≤ q) (hq : q * a + r = u) (hg : q * b ≤ 4294967296 * r + l) : q = Q := by
  refine Nat.le_antisymm ?_ hQ
  rw [h.hQ, Nat.le_div_iff_mul_le h.pos, h.hy, Nat.mul_add, ← hq, Nat.add_mul, Nat.mul_assoc]
  omega
theorem DigOf.stop2 (h : DigOf u l y a b Q) (hQ : Q ≤ q) (hq : q * a + r = u) (hr : 4294967296 ≤ r) : q = Q := by
  have h1 : q < 4294967296 := by
    apply Classical.byContradiction
    intro hn
    have h2 : 4294967296 * a ≤ q * a := Nat.mul_le_mul_right _ (by omega)
    have h3 := h.hu
    have h4 := h.hy
    have h5 := h.hb
    omega
  refine h.stop hQ hq ?_
  have h6 : q * b ≤ 4294967295 * 4294967295 := Nat.mul_le_mul (by omega) (by have := h.hb; omega)
  omega
theorem DigOf.rest (h : DigOf u l y a b Q) : u * 4294967296 + l = Q * y + (u * 4294967296 + l) % y := by
  rw [h.hQ]; exact (Nat.div_add_mod' _ _).symm
end
/-- Both digits together. -/
theorem two_digits {N Y y s u u1 u0 Q R Q2 R2 : Nat} (hY : Y = y * 2 ^ s) (hN : N * 2 ^ s = (u * 4294967296 + u1) * 4294967296 + u0) (h1 : u * 4294967296 + u1 = Q * Y + R) (h2 : R * 4294967296 + u0 = Q2 * Y + R2) (hR : R2 < Y) :
    Q * 4294967296 + Q2 = N / y ∧ R2 / 2 ^ s = N % y := by
  have hp : 0 < 2 ^ s := Nat.two_pow_pos s
  have e : N * 2 ^ s = (Q * 4294967296 + Q2) * Y + R2 := by
    rw [hN, h1, Nat.add_mul, Nat.add_mul, Nat.add_assoc, h2, Nat.mul_right_comm]
    omega
  have hd : N * 2 ^ s / Y = Q * 4294967296 + Q2 := by rw [e, Nat.mul_comm, Nat.mul_add_div (by omega), Nat.div_eq_of_lt hR, Nat.add_zero]
  have hm : N * 2 ^ s % Y = R2 := by rw [e, Nat.mul_comm, Nat.mul_add_mod, Nat.mod_eq_of_lt hR]
  rw [hY] at hd hm
  rw [Nat.mul_div_mul_right _ _ hp] at hd
  rw [Nat.mul_mod_mul_right] at hm
  exact ⟨hd.symm, by rw [← hm, Nat.mul_div_cancel _ hp]⟩
end Go.Proofs.YtcbebikcfcidmaaDoor
