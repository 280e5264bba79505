/-
  LAYER 3: the texts NatCompare, NatCompare2, one behind the other.
-/
import Derived.Test.YtcdedaihkfpafaaNatB3
import Derived.Test.YtcdedaihkfpafaaNatA1
import Derived.Laws.Rows

namespace Go.Proofs.Ytcdedaihkfpafaa
open Go.RowKit Go.Shelf
attribute [local go_sem] Oper.semAt_some wide_fn

def DownPost (a b : Value) (w : World) (e : Ending) (w' : World) : Prop :=
  e = .returned (.func (.func 79) #[] #[.pointer (some ⟨w.heap.size, 0, none⟩), .pointer (some ⟨w.heap.size + 1, 0, none⟩)]) ∧ w' = (w.alloc (.cells #[a] 23)).alloc (.cells #[b] 23)
theorem pairsDown_any (a b : Option Addr) (la lb ca cb : Nat) (w : World) :
    Calls Try.prog 67 #[.slice a la ca, .slice b lb cb] w (DownPost (.slice a la ca) (.slice b lb cb) w) := by
  go_enter Try.func67, Try.ntmps67
  go_wp2
  go_ret
  exact ⟨rfl, rfl⟩

/-- What the function reads, at any round. -/
def DownRd (p q : Nat) (a b : Option Addr) (ca cb : Nat) (A B : List Nat) (w : World) : Prop :=
  w.cell? ⟨p, 0, none⟩ = some (.slice a A.length ca) ∧ w.cell? ⟨q, 0, none⟩ = some (.slice b B.length cb) ∧ NatAt w a A ∧ NatAt w b B

def EndBool (J Jx : World → Prop) (e : Ending) (w : World) : Prop := ∃ v : Bool, e = .returned (.bool v) ∧ ((v = true ∧ J w) ∨ (v = false ∧ Jx w))
theorem endBool {J Jx : World → Prop} {e : Ending} {w : World} (h : (e = .returned (.bool true) ∧ J w) ∨ (e = .returned (.bool false) ∧ Jx w)) : EndBool J Jx e w := by
  rcases h with ⟨he, h⟩ | ⟨he, h⟩
  · exact ⟨true, he, .inl ⟨rfl, h⟩⟩
  · exact ⟨false, he, .inr ⟨rfl, h⟩⟩

set_option maxRecDepth 100000 in
set_option maxHeartbeats 4000000 in
theorem pairsDown_at (p q : Nat) (a b : Option Addr) (ca cb : Nat) (A B : List Nat) (X Y : Nat → Nat) (hX : ∀ k, X k = A.getD (A.length - 1 - k) 0) (hY0 : ∀ k, Y k = B.getD (A.length - 1 - k) 0) (hA : A.length ≤ 1099511627776) (hAB : A.length = B.length) :
    SeqAt Try.prog 79 #[.pointer (some ⟨p, 0, none⟩), .pointer (some ⟨q, 0, none⟩)] A.length
      (fun k => #[.int .u64 ((X k : Nat) : Int), .int .u64 ((Y k : Nat) : Int)]) (fun _ => DownRd p q a b ca cb A B) := by
  intro m l J Jx W hRd hJd hY h0
  refine callsIn_of_wp Try.func79 rfl trivial ?_ rfl
  simp only [Try.ntmps79, List.size_toArray, List.length_cons, List.length_nil, Nat.reduceAdd, Nat.reduceSub, Array.replicate_succ, Array.replicate_zero, List.push_toArray, List.append_toArray, List.nil_append, List.cons_append]
  obtain ⟨hp0, -, -, -⟩ := hRd 0 W h0
  have HRD := Lib.hid hRd
  have HY := Lib.hid hY
  have H0 := Lib.hid h0
  have HX := Lib.hid hX
  have HY0 := Lib.hid hY0
  have HAB := Lib.hid hAB
  have hmx : Try.prog.follows .mixedOrders = true := by kernel_rfl
  clear hRd hY h0 hX hY0 hAB
  gi_wp2
  gi_loopw [4] (fun i wr => ∃ k : Nat, k ≤ A.length ∧ i = .int .i64 ((A.length : Int) - 1 - (k : Int)) ∧ J k wr) (fun i _ => (intOf i + 1).toNat)
  case atStart => exact ⟨0, Nat.zero_le _, by go_num, H0.out⟩
  case round =>
    obtain ⟨k, hk, rfl, hJ⟩ := hrel
    by_cases hlt : k < A.length
    · obtain ⟨j, hj⟩ : ∃ j, j = A.length - 1 - k := ⟨_, rfl⟩
      have hjI : (A.length : Int) - 1 - (k : Int) = (j : Int) := by omega
      have hj0 : (0 : Int) ≤ (j : Int) := by omega
      have hjA : (j : Int) < (A.length : Int) := by omega
      have hjB : (j : Int) < (B.length : Int) := by have := HAB.out; omega
      obtain ⟨hp, hq, hfa, hfb⟩ := HRD.out k wr hJ
      obtain ⟨ba, oa, ea, hca⟩ := hfa j (by omega)
      obtain ⟨bb, ob, eb, hcb⟩ := hfb j (by have := HAB.out; omega)
      obtain ⟨fn, tmps, assign, body, hy, hR⟩ := HY.out k wr.drew hlt (hJd k wr hJ)
      have hR' := hR.mono (fun e w h => endBool h)
      obtain ⟨x, hx⟩ : ∃ x, x = A.getD j 0 := ⟨_, rfl⟩
      obtain ⟨y, hyy⟩ : ∃ y, y = B.getD j 0 := ⟨_, rfl⟩
      rw [← hx] at hca
      rw [← hyy] at hcb
      rw [HX.out k, HY0.out k, ← hj, ← hx, ← hyy] at hy
      have HR := Lib.hid hR'
      have HJ : Hid ((A.length : Int) - 1 - (k : Int) - 1 = (A.length : Int) - 1 - ((k + 1 : Nat) : Int)) := Lib.hid (by omega)
      have HJI := Lib.hid hjI
      rw [hjI]
      clear hfa hfb hp0 hx hyy hR hR' hjI hj
      subst ea
      subst eb
      gi_wp2
      gi_region_with_o (refine HR.out.mono ?_; rintro e W3 ⟨v, rfl, hv⟩)
      all_goals rcases hv with ⟨rfl, hJ3⟩ | ⟨rfl, hJx3⟩
      all_goals gi_wp2
      all_goals first
        | (go_roundw
           case rel => exact ⟨k + 1, by omega, by congr 1; have := HJI.out; omega, hJ3⟩
           case measure => have := HJI.out; simp [intOf])
        | (refine bodyPost_ret (results_none rfl _ _ _) rfl ?_
           exact ⟨⟨_, rfl⟩, .inr ⟨k + 1, by omega, hJx3⟩⟩)
    · have hI : (A.length : Int) - 1 - (k : Int) < 0 := by omega
      obtain rfl : k = A.length := by omega
      gi_wp2
      go_end0
      exact ⟨⟨_, rfl⟩, .inl hJ⟩
end Go.Proofs.Ytcdedaihkfpafaa

namespace Go.Proofs.Ytcdedaihkfpafaa
open Go.RowKit Go.Shelf
attribute [local go_sem] Oper.semAt_some wide_fn

theorem div_limb {L : List Nat} (h : Fits L) (j : Nat) : lv L / 2 ^ (64 * j) = (lv L / 2 ^ (64 * (j + 1))) * 18446744073709551616 + L.getD j 0 := by
  have h1 := lv_limb h j
  have h2 : lv L / 2 ^ (64 * (j + 1)) = lv L / 2 ^ (64 * j) / 18446744073709551616 := by rw [Nat.mul_add, Nat.mul_one, Nat.pow_add, Nat.div_div_eq_div_mul]
  rw [h2]
  omega
theorem lt_of_quot {a b d : Nat} (h : a / d < b / d) : a < b := by
  apply Classical.byContradiction
  intro hn
  have := Nat.div_le_div_right (c := d) (show b ≤ a by omega)
  omega
theorem lv_top {L : List Nat} (h : Fits L) : lv L / 2 ^ (64 * L.length) = 0 := Nat.div_eq_of_lt (lv_lt h)
/-- Of two normal rows the shorter one tells the lesser number. -/
theorem nrow_lt {a b : Nat} (h : (nrow a).length < (nrow b).length) : a < b := by
  apply Classical.byContradiction
  intro hn
  have h1 := lv_lt (nrow_fits a)
  rw [lv_nrow] at h1
  have h2 := nrow_length_le (v := b) (k := (nrow a).length) (by omega)
  omega

def CmpAnd (x y : Nat) (w : World) (e : Ending) (w' : World) : Prop := e = .returned (.int .i64 (cmpV x y)) ∧ Below w.heap.size w w'

def CompareAt (z : Nat) (a b : Option Addr) (ca cb : Nat) (A B : List Nat) (w : World) (k : Nat) (W : World) : Prop :=
  k ≤ A.length ∧ lv A / 2 ^ (64 * (A.length - k)) = lv B / 2 ^ (64 * (A.length - k)) ∧ (∃ v, Box W z v) ∧ Box W (z + 1) (.slice a A.length ca) ∧ Box W (z + 2) (.slice b B.length cb) ∧ NatAt W a A ∧ NatAt W b B ∧ z + 3 ≤ W.heap.size ∧ Below z w W
def CompareRet (z : Nat) (x y : Nat) (w : World) (_ : Nat) (W : World) : Prop := Box W z (.int .i64 (cmpV x y)) ∧ z + 3 ≤ W.heap.size ∧ Below z w W

theorem sgn_cmp {x y : Nat} (h : x ≠ y) : sgn (decide (x < y)) = cmpV x y := by
  unfold sgn
  by_cases hl : x < y
  · rw [cmpV_lt hl]; simp [hl]
  · rw [cmpV_gt (by omega)]; simp [hl]

theorem natAt_below {n : Nat} {w w' W : World} {a : Option Addr} {A : List Nat} (hw : NatAt w a A) (h : NatAt W a A) (hb : Below n W w') (hn : w.heap.size ≤ n) : NatAt w' a A := fun i hi => by
  obtain ⟨b, o, e, hc⟩ := h i hi
  obtain ⟨b1, o1, e1, hlt, _⟩ := hw.lt hi
  rw [e] at e1
  cases e1
  exact ⟨b, o, e, (hb.cell (p := ⟨b, o + i, none⟩) (by show b < n; omega)).trans hc⟩

set_option maxRecDepth 100000 in
set_option maxHeartbeats 4000000 in
theorem compare_any (a b : Option Addr) (ca cb x y : Nat) (w : World) (hA : (nrow x).length ≤ 1099511627776) (ma : NatAt w a (nrow x)) (mb : NatAt w b (nrow y)) :
    Calls Try.prog 49 #[.slice a (nrow x).length ca, .slice b (nrow y).length cb] w (CmpAnd x y w) := by
  obtain ⟨A, hAx⟩ : ∃ A, A = nrow x := ⟨_, rfl⟩
  obtain ⟨B, hBy⟩ : ∃ B, B = nrow y := ⟨_, rfl⟩
  have HAX : Hid (lv A = x) := Lib.hid (by rw [hAx]; exact lv_nrow x)
  have HBY : Hid (lv B = y) := Lib.hid (by rw [hBy]; exact lv_nrow y)
  have FA : Hid (Fits A) := Lib.hid (by rw [hAx]; exact nrow_fits x)
  have FB : Hid (Fits B) := Lib.hid (by rw [hBy]; exact nrow_fits y)
  have HLT : Hid (A.length < B.length → x < y) := Lib.hid (by rw [hAx, hBy]; exact nrow_lt)
  have HGT : Hid (B.length < A.length → y < x) := Lib.hid (by rw [hAx, hBy]; exact nrow_lt)
  rw [← hAx] at hA ma ⊢
  rw [← hBy] at mb ⊢
  clear hAx hBy
  have MA := Lib.hid ma
  have MB := Lib.hid mb
  obtain ⟨z, hz⟩ : ∃ z, z = w.heap.size := ⟨_, rfl⟩
  have HZ := Lib.hid hz
  clear hz
  by_cases hne : A.length = B.length
  · have HE := Lib.hid hne
    have hnb : (((A.length : Nat) : Int) != ((B.length : Nat) : Int)) = false := by rw [hne]; simp
    obtain ⟨X, hX⟩ : ∃ X : Nat → Nat, ∀ k, X k = A.getD (A.length - 1 - k) 0 := ⟨_, fun _ => rfl⟩
    obtain ⟨Y, hY⟩ : ∃ Y : Nat → Nat, ∀ k, Y k = B.getD (A.length - 1 - k) 0 := ⟨_, fun _ => rfl⟩
    have HX := Lib.hid hX
    have HY := Lib.hid hY
    clear hX hY ma mb hne
    refine (callsIn_wide (n := 3)).1 ?_
    refine callsIn_of_wp_marks Try.func49 rfl trivial ?_ rfl
    simp only [Try.ntmps49, List.size_toArray, List.length_cons, List.length_nil, Nat.reduceAdd, Nat.reduceSub, Array.replicate_succ, Array.replicate_zero, List.push_toArray, List.append_toArray, List.nil_append, List.cons_append]
    gi_wp2_with (gi_at_call 67; refine (callsIn_wide.2 (pairsDown_any _ _ _ _ _ _ _)).mono ?_; rintro e w' ⟨rfl, rfl⟩)
    rw [← HZ.out]
    simp only [Nat.add_assoc, Nat.reduceAdd]
    generalize hW : ((w.alloc (.cells #[.int .i64 0] 3)).alloc (.cells #[.slice a A.length ca] 23)).alloc (.cells #[.slice b B.length cb] 23) = W0
    obtain ⟨c0, s0, l0⟩ := box_next HZ.out (.int .i64 0) 3
    obtain ⟨c1, s1, l1⟩ := box_next s0 (.slice a A.length ca) 23
    obtain ⟨c2, s2, l2⟩ := box_next s1 (.slice b B.length cb) 23
    have c0' := (c0.alloc (.cells #[.slice a A.length ca] 23)).alloc (.cells #[.slice b B.length cb] 23)
    have c1' := c1.alloc (.cells #[.slice b B.length cb] 23)
    have hb0 : Below z w (((w.alloc (.cells #[.int .i64 0] 3)).alloc (.cells #[.slice a A.length ca] 23)).alloc (.cells #[.slice b B.length cb] 23)) :=
      ((l0.mono (by have := HZ.out; omega)).trans (l1.mono (by omega))).trans (l2.mono (by omega))
    rw [hW] at c0' c1' c2 s2 hb0
    have hsz : W0.heap.size = z + 3 := s2.symm
    have HW : CompareAt z a b ca cb A B w 0 W0 := ⟨Nat.zero_le _, by
      have h1 := lv_top FA.out
      have h2 := lv_top FB.out
      rw [← HE.out] at h2
      rw [Nat.sub_zero, h1, h2], ⟨_, c0'⟩, c1', c2, natAt_below MA.out MA.out hb0 (by have := HZ.out; omega), natAt_below MB.out MB.out hb0 (by have := HZ.out; omega), by omega, hb0⟩
    clear hW c0 s0 l0 c1 s1 l1 c2 s2 l2 c0' c1' hb0
    refine wpIn_range_at (m := 1) (gf := 79) (lb := #[.pointer (some ⟨z + 1, 0, none⟩), .pointer (some ⟨z + 2, 0, none⟩)]) rfl (enters_of Try.func79 (by kernel_rfl) rfl) (pairsDown_at (z + 1) (z + 2) a b ca cb A B X Y HX.out HY.out hA HE.out) (fun _ => rfl)
      (CompareAt z a b ca cb A B w) (CompareRet z x y w) (fun k W W' hb' h => by
        rw [hsz] at hb'
        obtain ⟨h1, h2, ⟨v, b0⟩, b1, b2, h3, h4, hs, hb⟩ := h
        have hzz := HZ.out
        exact ⟨h1, h2, ⟨v, b0.below hb' (by omega)⟩, b1.below hb' (by omega), b2.below hb' (by omega), natAt_below MA.out h3 hb' (by omega), natAt_below MB.out h4 hb' (by omega), Nat.le_trans hs hb'.size, hb.trans (hb'.mono (by omega))⟩)
      (fun k W W' hb' h => by
        rw [hsz] at hb'
        obtain ⟨b0, hs, hb⟩ := h
        exact ⟨b0.below hb' (by omega), Nat.le_trans hs hb'.size, hb.trans (hb'.mono (by omega))⟩)
      (fun k W h => by obtain ⟨h1, h2, ⟨v, b0⟩, b1, b2, h3, h4, hs, hb⟩ := h; omega) (fun k W h => by obtain ⟨b0, hs, hb⟩ := h; omega)
      (fun k W h => by obtain ⟨h1, h2, ⟨v, b0⟩, b1, b2, h3, h4, hs, hb⟩ := h; exact ⟨b1.1, b2.1, h3, h4⟩) HW
      (fun k => { tmps := #[.slice a A.length ca, .slice b B.length cb, undef, undef, .pointer (some ⟨z, 0, none⟩), .int .u64 ((X k : Nat) : Int), .int .u64 ((Y k : Nat) : Int), .slice a A.length ca, .int .i64 A.length, .slice b B.length cb, .int .i64 B.length, .bool false, undef, undef, undef, undef, undef, undef,
        .slice a A.length ca, .slice b B.length cb, .func (.func 79) #[] #[.pointer (some ⟨z + 1, 0, none⟩), .pointer (some ⟨z + 2, 0, none⟩)], .int .u64 ((X k : Nat) : Int), .int .u64 ((Y k : Nat) : Int), undef, undef, undef, undef, undef, undef, undef], defers := [] })
      ?assign ?body ?done ?stop
    case assign =>
      intro l k W K hK
      gi_wp2
      exact hK
    case body =>
      rintro l k W hk ⟨h1, h2, ⟨v0, b0⟩, b1, b2, h3, h4, hs, hb⟩
      have hxA : X k = A.getD (A.length - 1 - k) 0 := HX.out k
      have hyB : Y k = B.getD (A.length - 1 - k) 0 := HY.out k
      generalize X k = p at hxA ⊢
      generalize Y k = q at hyB ⊢
      have d1 := div_limb FA.out (A.length - 1 - k)
      have d2 := div_limb FB.out (A.length - 1 - k)
      rw [show A.length - 1 - k + 1 = A.length - k by omega] at d1 d2
      rw [← hxA] at d1
      rw [← hyB, ← h2] at d2
      have hc0 := b0.1
      have hf0 := b0.2
      have hzz := HZ.out
      rcases Nat.lt_trichotomy p q with hlt | heq | hgt
      · have HC : Hid (cmpV x y = -1) := Lib.hid (cmpV_lt (by rw [← HAX.out, ← HBY.out]; exact lt_of_quot (d := 2 ^ (64 * (A.length - 1 - k))) (by rw [d1, d2]; omega)))
        have hI : (p : Int) < (q : Int) := by omega
        have hn : ((p : Int) != (q : Int)) = true := by simp; omega
        clear hxA hyB d1 d2 h2 hlt hzz
        gi_wp2_with (gi_at_call 66; refine (CallsIn.inRound l (callsIn_wide.2 (sign_any true W))).mono ?_; rintro e W ⟨rfl, rfl⟩)
        exact ⟨keeps_set (KeepsFrom.refl _ _) _ _, by rw [HC.out]; exact b0.set _, by rw [size_set]; exact hs, hb.setCell (p := ⟨z, 0, none⟩) (Nat.le_refl _) _⟩
      · subst heq
        have HQ : Hid (lv A / 2 ^ (64 * (A.length - (k + 1))) = lv B / 2 ^ (64 * (A.length - (k + 1)))) := Lib.hid (by rw [show A.length - (k + 1) = A.length - 1 - k by omega, d1, d2])
        clear hxA hyB d1 d2 h2 hzz
        gi_wp2
        exact ⟨KeepsFrom.refl _ _, hk, HQ.out, ⟨v0, b0⟩, b1, b2, h3, h4, hs, hb⟩
      · have HC : Hid (cmpV x y = 1) := Lib.hid (cmpV_gt (by rw [← HAX.out, ← HBY.out]; exact lt_of_quot (d := 2 ^ (64 * (A.length - 1 - k))) (by rw [d1, d2]; omega)))
        have hI : ¬ (p : Int) < (q : Int) := by omega
        have hn : ((p : Int) != (q : Int)) = true := by simp; omega
        have hd : decide (p < q) = false := by simp; omega
        clear hxA hyB d1 d2 h2 hgt hzz hI
        gi_wp2_with (gi_at_call 66; refine (CallsIn.inRound l (callsIn_wide.2 (sign_any false W))).mono ?_; rintro e W ⟨rfl, rfl⟩)
        exact ⟨keeps_set (KeepsFrom.refl _ _) _ _, by rw [HC.out]; exact b0.set _, by rw [size_set]; exact hs, hb.setCell (p := ⟨z, 0, none⟩) (Nat.le_refl _) _⟩
    case done =>
      rintro D W hD ⟨h1, h2, ⟨v0, b0⟩, b1, b2, h3, h4, hs, hb⟩ hK
      have HC : Hid (cmpV x y = 0) := Lib.hid (cmpV_eq (by have h := h2; rw [Nat.sub_self, Nat.mul_zero, Nat.pow_zero, Nat.div_one, Nat.div_one, HAX.out, HBY.out] at h; exact h))
      have hc0 := b0.1
      have hf0 := b0.2
      clear h2
      gi_wp2
      have hK' : (W.setCell ⟨z, 0, none⟩ (.int .i64 0)).heap[D]? = some (.deferred (some [])) := (Below.heap_setCell _ _ _ _ (by show D ≠ z; omega)).trans hK
      have b3 : Below (z + 3) (W.setCell ⟨z, 0, none⟩ (.int .i64 0)) ((W.setCell ⟨z, 0, none⟩ (.int .i64 0)).putObj D (.deferred none)) := below_putObj _ D _ (by omega) (by rw [size_set]; exact hs)
      have hcr := ((b0.set (.int .i64 0)).below b3 (by omega)).1
      refine ⟨by simp, .inl ⟨_, _, rfl, run_takeDeferred hK', ?_⟩⟩
      have hzz := HZ.out
      refine ⟨.int .i64 0, by simp [results, Try.f49, go_sem, hcr], by rw [HC.out], ?_⟩
      rw [← hzz]
      exact (hb.setCell (p := ⟨z, 0, none⟩) (Nat.le_refl _) _).trans (b3.mono (by omega))
    case stop =>
      rintro D k W hD _ ⟨b0, hs, hb⟩ hK
      gi_wp2
      have b3 : Below (z + 3) W (W.putObj D (.deferred none)) := below_putObj _ D _ (by omega) hs
      have hcr := (b0.below b3 (by omega)).1
      refine ⟨by simp, .inl ⟨_, _, rfl, run_takeDeferred hK, ?_⟩⟩
      have hzz := HZ.out
      refine ⟨.int .i64 (cmpV x y), by simp [results, Try.f49, go_sem, hcr], rfl, ?_⟩
      rw [← hzz]
      exact hb.trans (b3.mono (by omega))
  · have hnb : (((A.length : Nat) : Int) != ((B.length : Nat) : Int)) = true := by simp; omega
    rcases Nat.lt_or_ge A.length B.length with hlt | hge
    · have HC : Hid (cmpV x y = -1) := Lib.hid (cmpV_lt (HLT.out hlt))
      clear ma mb hne
      go_enter Try.func49, Try.ntmps49
      go_wp2_with (go_at_call 66; refine (sign_any true _).mono ?_; rintro e W ⟨rfl, rfl⟩)
      have hcr := (Box.new w (.int .i64 (sgn true)) 3).1
      exact bodyPost_ret (v := .int .i64 (sgn true)) (by simp [results, Try.f49, go_sem, hcr]) rfl ⟨by rw [HC.out]; rfl, (Below.refl _ _).alloc (Nat.le_refl _) _⟩
    · have HC : Hid (cmpV x y = 1) := Lib.hid (cmpV_gt (HGT.out (by omega)))
      have hd : decide (A.length < B.length) = false := by simp; omega
      clear ma mb hne
      go_enter Try.func49, Try.ntmps49
      go_wp2_with (go_at_call 66; refine (sign_any false _).mono ?_; rintro e W ⟨rfl, rfl⟩)
      have hcr := (Box.new w (.int .i64 (sgn false)) 3).1
      exact bodyPost_ret (v := .int .i64 (sgn false)) (by simp [results, Try.f49, go_sem, hcr]) rfl ⟨by rw [HC.out]; rfl, (Below.refl _ _).alloc (Nat.le_refl _) _⟩
end Go.Proofs.Ytcdedaihkfpafaa
