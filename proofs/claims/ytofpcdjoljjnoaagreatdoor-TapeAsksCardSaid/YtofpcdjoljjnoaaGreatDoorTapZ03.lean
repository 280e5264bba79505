/-
  The texts NatAdd, NatTrim, NatAddTimes, NatMade, NatCmp, one behind the other.
-/
import Derived.Test.YtofpcdjoljjnoaaGreatDoorTapZ02
import Derived.Test.YtofpcdjoljjnoaaGreatDoorTapZ01
import Derived.IntWalk
import Derived.Deep.RegionHeld3

namespace Go.Proofs.YtofpcdjoljjnoaaGreatDoor
open Go.RowKit Go.Shelf
attribute [local go_sem] Oper.semAt_some wide_fn

theorem lv_snoc (O : List Nat) (x : Nat) : lv (O ++ [x]) = lv O + 2 ^ (64 * O.length) * x := by
  rw [lv_append]; simp [lv]
theorem lv_take_succ {A : List Nat} {k : Nat} (hk : k < A.length) : lv (A.take (k + 1)) = lv (A.take k) + 2 ^ (64 * k) * A.getD k 0 := by
  rw [List.take_succ_eq_append_getElem hk, lv_snoc, List.length_take, Nat.min_eq_left (by omega)]
  simp [hk]
theorem lv_take_succ' (A : List Nat) (k : Nat) : lv (A.take (k + 1)) = lv (A.take k) + 2 ^ (64 * k) * A.getD k 0 := by
  rcases Nat.lt_or_ge k A.length with h | h
  · exact lv_take_succ h
  · rw [List.take_of_length_le (by omega), List.take_of_length_le h, List.getD_eq_getElem?_getD, List.getElem?_eq_none h]; simp
theorem getD_fits {L : List Nat} (h : Fits L) (i : Nat) : L.getD i 0 < 18446744073709551616 := by
  rw [List.getD_eq_getElem?_getD]
  rcases Nat.lt_or_ge i L.length with hi | hi
  · rw [List.getElem?_eq_getElem hi]; exact h _ (List.getElem_mem hi)
  · rw [List.getElem?_eq_none hi]; simp
theorem fits_snoc {O : List Nat} {x : Nat} (h : Fits O) (hx : x < 18446744073709551616) : Fits (O ++ [x]) := by
  intro y hy
  rcases List.mem_append.1 hy with hy | hy
  · exact h y hy
  · simp at hy; subst hy; exact hx
theorem set_mid {O A : List Nat} {k x : Nat} (hO : O.length = k) (hk : k < A.length) : (O ++ A.drop k).set k x = (O ++ [x]) ++ A.drop (k + 1) := by
  rw [List.set_append_right _ _ (by omega), hO, Nat.sub_self, List.drop_eq_getElem_cons hk, List.set_cons_zero]
  simp

/-- Limbs of a sum, one more. -/
theorem limb_add {o p c c' x y r a b : Nat} (h : o + p * c = a + b) (hr : r = (x + y + c) % 18446744073709551616) (hc : c' = (x + y + c) / 18446744073709551616) :
    (o + p * r) + p * 18446744073709551616 * c' = (a + p * x) + (b + p * y) := by
  have h1 := Nat.mod_add_div (x + y + c) 18446744073709551616
  rw [← hr, ← hc] at h1
  have h2 : p * (r + 18446744073709551616 * c') = p * (x + y + c) := by rw [h1]
  rw [Nat.mul_add, Nat.mul_add, Nat.mul_add, ← Nat.mul_assoc] at h2
  omega

def AddPost (g off : Nat) (A B : List Nat) (w : World) (e : Ending) (w' : World) : Prop :=
  ∃ (O : List Nat) (c : Nat), e = .returned (.int .u64 (c : Int)) ∧ O.length = A.length ∧ Fits O ∧ c ≤ 1 ∧ lv O + 2 ^ (64 * A.length) * c = lv A + lv B ∧ Seg w' g off O ∧ Wrote g off (off + A.length) w w'

def AddAt (z g off ca cb : Nat) (b : Option Addr) (A B : List Nat) (w : World) (k : Nat) (W : World) : Prop :=
  ∃ (O : List Nat) (c : Nat), O.length = k ∧ k ≤ A.length ∧ Fits O ∧ c ≤ 1 ∧ lv O + 2 ^ (64 * k) * c = lv (A.take k) + lv (B.take k) ∧ Seg W g off (O ++ A.drop k) ∧ NatAt W b B ∧
    Box W z (.slice (some ⟨g, off, none⟩) A.length ca) ∧ Box W (z + 1) (.int .i64 (k : Int)) ∧ Box W (z + 2) (.int .u64 (c : Int)) ∧ Box W (z + 3) (.slice (some ⟨g, off, none⟩) A.length ca) ∧ Box W (z + 4) (.slice b B.length cb) ∧
    z + 5 ≤ W.heap.size ∧ Wrote g off (off + A.length) w W

theorem AddAt.below {z g off ca cb : Nat} {b : Option Addr} {A B : List Nat} {w : World} {k : Nat} {W W' : World} (hg : g < z) (hz : z = w.heap.size) (hbl : 0 < B.length → ∀ bl o, b = some ⟨bl, o, none⟩ → bl < z) (hb : Below (z + 5) W W') (h : AddAt z g off ca cb b A B w k W) : AddAt z g off ca cb b A B w k W' := by
  obtain ⟨O, c, h1, h2, h3, h4, h5, h6, h7, b0, b1, b2, b3, b4, hs, hw⟩ := h
  refine ⟨O, c, h1, h2, h3, h4, h5, h6.below hb (by omega), fun i hi => ?_, b0.below hb (by omega), b1.below hb (by omega), b2.below hb (by omega), b3.below hb (by omega), b4.below hb (by omega), Nat.le_trans hs hb.size, hw.after (hb.mono (by omega)) (by omega)⟩
  obtain ⟨bl, o, e, hc⟩ := h7 i hi
  exact ⟨bl, o, e, (hb.cell (p := ⟨bl, o + i, none⟩) (by show bl < z + 5; have := hbl (by omega) bl o e; omega)).trans hc⟩

set_option maxRecDepth 100000 in
set_option maxHeartbeats 2000000 in
theorem add_any (g off ca cb : Nat) (b : Option Addr) (A B : List Nat) (w : World) (hA : A.length ≤ 1099511627776) (hBA : B.length ≤ A.length) (fA : Fits A) (fB : Fits B)
    (hs : Seg w g off A) (hb : NatAt w b B) (hne : 0 < B.length → ∀ bl o, b = some ⟨bl, o, none⟩ → bl ≠ g ∧ bl < w.heap.size) :
    Calls Tryz.prog 137 #[.slice (some ⟨g, off, none⟩) A.length ca, .slice b B.length cb] w (AddPost g off A B w) := by
  obtain ⟨z, hz⟩ : ∃ z, z = w.heap.size := ⟨_, rfl⟩
  have hgz : g < z := by have := hs.block; omega
  have hbl : 0 < B.length → ∀ bl o, b = some ⟨bl, o, none⟩ → bl < z := fun h0 bl o e => by have := (hne h0 bl o e).2; omega
  obtain ⟨X, hX⟩ : ∃ X : Nat → Nat, ∀ k, X k = A.getD k 0 := ⟨_, fun _ => rfl⟩
  obtain ⟨Y, hY⟩ : ∃ Y : Nat → Nat, ∀ k, Y k = B.getD k 0 := ⟨_, fun _ => rfl⟩
  have HX := Lib.hid hX
  have HY := Lib.hid hY
  have HZ := Lib.hid hz
  clear hX hY hz
  refine (callsIn_wide (n := 3)).1 ?_
  refine callsIn_of_wp_marks Tryz.func137 rfl trivial ?_ rfl
  simp only [Tryz.ntmps137, List.size_toArray, List.length_cons, List.length_nil, Nat.reduceAdd, Nat.reduceSub, Array.replicate_succ, Array.replicate_zero, List.push_toArray, List.append_toArray, List.nil_append, List.cons_append]
  gi_wp2_with (gi_at_call 121; refine (callsIn_wide.2 (pairs_any _ _ _ _ _ _ _)).mono ?_; rintro e w' ⟨rfl, rfl⟩)
  rw [← HZ.out]
  simp only [Nat.add_assoc, Nat.reduceAdd]
  generalize hW : (((((w.alloc (.cells #[.slice (some ⟨g, off, none⟩) A.length ca] 42)).alloc (.cells #[.int .i64 0] 3)).alloc (.cells #[.int .u64 0] 100)).alloc (.cells #[.slice (some ⟨g, off, none⟩) A.length ca] 42)).alloc (.cells #[.slice b B.length cb] 42)) = W0
  obtain ⟨c0, c1, c2, c3, c4, hsz, hbw⟩ := boxes5 HZ.out _ _ _ _ _ _ _ _ _ _ hW.symm
  clear hW
  have HW : AddAt z g off ca cb b A B w 0 W0 :=
    ⟨[], 0, rfl, Nat.zero_le _, fun x hx => (by cases hx), by omega, by simp [lv], hs.below hbw hs.block, hb.below hbw (Nat.le_refl _), c0, c1, c2, c3, c4, by omega, Wrote.of_below hbw _ _ _⟩
  clear c0 c1 c2 c3 c4 hbw
  refine wpIn_range_at (m := 1) (gf := 129) (lb := #[.pointer (some ⟨z + 3, 0, none⟩), .pointer (some ⟨z + 4, 0, none⟩)]) rfl (enters_of Tryz.func129 (by kernel_rfl) rfl) (pairs_at (z + 3) (z + 4) _ b ca cb A B X Y HX.out HY.out hA (by omega)) (fun _ => rfl)
    (AddAt z g off ca cb b A B w) (fun _ _ => False) (fun k W W' hb' h => h.below hgz HZ.out hbl (by rw [← hsz]; exact hb')) (fun _ _ _ _ h => h) (fun k W h => by obtain ⟨O, c, h1, h2, h3, h4, h5, h6, h7, b0, b1, b2, b3, b4, hss, hw⟩ := h; omega) (fun _ _ h => h.elim)
    (fun k W h => by obtain ⟨O, c, h1, h2, h3, h4, h5, h6, h7, b0, b1, b2, b3, b4, hss, hw⟩ := h; exact ⟨b3.1, b4.1, h6.from h1 h2, h7.from k⟩) HW
    (fun k => { tmps := #[.slice (some ⟨g, off, none⟩) A.length ca, .slice b B.length cb, .pointer (some ⟨z, 0, none⟩), undef, .int .u64 0, .pointer (some ⟨z + 1, 0, none⟩), .pointer (some ⟨z + 2, 0, none⟩), .int .u64 ((X k : Nat) : Int), .int .u64 ((Y k : Nat) : Int),
      .slice (some ⟨g, off, none⟩) A.length ca, .slice b B.length cb, .func (.func 129) #[] #[.pointer (some ⟨z + 3, 0, none⟩), .pointer (some ⟨z + 4, 0, none⟩)], .int .u64 ((X k : Nat) : Int), .int .u64 ((Y k : Nat) : Int), undef, undef, undef, undef, undef, undef, undef, undef, undef, undef, undef, undef, undef], defers := [] })
    ?assign ?body ?done ?stop
  case assign =>
    intro l k W K hK
    gi_wp2
    exact hK
  case body =>
    rintro l k W hk ⟨O, c, h1, h2, h3, h4, h5, h6, h7, b0, b1, b2, b3, b4, hss, hw⟩
    have hxA : X k = A.getD k 0 := HX.out k
    have hyB : Y k = B.getD k 0 := HY.out k
    generalize X k = x at hxA ⊢
    generalize Y k = y at hyB ⊢
    have hc0 := b0.1
    have hc1 := b1.1
    have hc2 := b2.1
    have hf1 := b1.2
    have hf2 := b2.2
    have hgc := h6.cell (i := k) (by rw [List.length_append, List.length_drop]; omega)
    have hgf := h6.frozen (off + k)
    have hkA : (k : Int) < (A.length : Int) := by omega
    have hk0 : (0 : Int) ≤ (k : Int) := by omega
    have hadd := run_add64 x y c h4
    have hx1 := getD_fits fA k
    have hy1 := getD_fits fB k
    obtain ⟨r, hr⟩ : ∃ r, r = (x + y + c) % 18446744073709551616 := ⟨_, rfl⟩
    obtain ⟨q, hq⟩ : ∃ q, q = (x + y + c) / 18446744073709551616 := ⟨_, rfl⟩
    have hst := limb_add h5 hr hq
    have hr1 : r < 18446744073709551616 := by rw [hr]; exact Nat.mod_lt _ (by decide)
    have hq1 : q ≤ 1 := by omega
    rw [← hr, ← hq] at hadd
    rw [hxA, hyB, ← lv_take_succ' A, ← lv_take_succ' B] at hst
    have H1 := Lib.hid h1
    have HXA := Lib.hid hxA
    have HYB := Lib.hid hyB
    have H5 := Lib.hid h5
    have HSZ := Lib.hid hsz
    have HST := Lib.hid hst
    clear h1 hxA hyB h5 hsz hx1 hy1 hr hq hst
    have HR1 := Lib.hid hr1
    clear hr1
    gi_wp2
    refine wpIn_region_walk (fun w' => w'.cell? ⟨z, 0, none⟩ = some (.slice (some ⟨g, off, none⟩) A.length ca) ∧ w'.cell? ⟨z + 1, 0, none⟩ = some (.int .i64 (k : Int)))
      [true, true, true, true, false, false, true, true, true, true, false, false] (by kernel_rfl) (by kernel_rfl) (by kernel_rfl) rfl (by kernel_rfl) (by rintro ⟨_, _, h⟩; exact h) (fun _ _ _ _ _ h => h) ?_
    have hS : W.drew.cell? ⟨z, 0, none⟩ = some (.slice (some ⟨g, off, none⟩) A.length ca) ∧ W.drew.cell? ⟨z + 1, 0, none⟩ = some (.int .i64 (k : Int)) := ⟨hc0, hc1⟩
    repeat (refine walkS_yes hS rfl (fun w' hw' => by obtain ⟨q0, q1⟩ := hw'; go_simp; rfl) ?_; simp only [Act.put, List.setIfInBounds_toArray, List.set_cons_zero, List.set_cons_succ])
    refine walkS_no rfl (fun K hK => ?_)
    go_simp
    refine hK _ _ hS ?_
    clear hK K
    refine walkS_no rfl (fun K hK => ?_)
    go_simp
    refine hK _ _ hS ?_
    clear hK K
    repeat (refine walkS_yes hS rfl (fun w' hw' => by obtain ⟨q0, q1⟩ := hw'; go_simp; rfl) ?_; simp only [Act.put, List.setIfInBounds_toArray, List.set_cons_zero, List.set_cons_succ])
    refine walkS_no rfl (fun K hK => ?_)
    go_simp
    refine hK _ _ ?_ ?_
    · exact ⟨(b0.other (by show g ≠ z; omega) _).drew.1, (b1.other (by show g ≠ z + 1; omega) _).drew.1⟩
    clear hK K
    refine walkS_no rfl (fun K hK => ?_)
    go_simp
    refine hK _ _ ?_ ?_
    · exact ⟨((b0.other (by show g ≠ z; omega) _).other (by show z + 2 ≠ z; omega) _).drew.1, ((b1.other (by show g ≠ z + 1; omega) _).other (by show z + 2 ≠ z + 1; omega) _).drew.1⟩
    clear hK K
    simp only [walkS]
    gi_wp2
    have s1 := h6.set (k := k) (by rw [List.length_append, List.length_drop, H1.out]; omega) r
    rw [set_mid H1.out hk] at s1
    refine ⟨keeps_drew (keeps_set (keeps_set (keeps_set (KeepsFrom.refl _ _) _ _) _ _) _ _), O ++ [r], q, by rw [List.length_append, H1.out]; rfl, hk, fits_snoc h3 HR1.out, hq1, ?_, ?_, ?_,
      (((b0.other (by show g ≠ z; omega) _).other (by show z + 2 ≠ z; omega) _).other (by show z + 1 ≠ z; omega) _).drew,
      (((b1.other (by show g ≠ z + 1; omega) _).other (by show z + 2 ≠ z + 1; omega) _).set _).drew,
      (((b2.other (by show g ≠ z + 2; omega) _).set _).other (by show z + 1 ≠ z + 2; omega) _).drew,
      (((b3.other (by show g ≠ z + 3; omega) _).other (by show z + 2 ≠ z + 3; omega) _).other (by show z + 1 ≠ z + 3; omega) _).drew,
      (((b4.other (by show g ≠ z + 4; omega) _).other (by show z + 2 ≠ z + 4; omega) _).other (by show z + 1 ≠ z + 4; omega) _).drew, ?_, ?_⟩
    · rw [lv_snoc, H1.out, show 2 ^ (64 * (k + 1)) = 2 ^ (64 * k) * 18446744073709551616 by rw [Nat.mul_add, Nat.pow_add]]
      exact HST.out
    · exact ((s1.other (by show z + 2 ≠ g; omega) _).other (by show z + 1 ≠ g; omega) _).drew
    · exact (((h7.other (p := ⟨g, off + k, none⟩) (fun h0 bl o e => (hne h0 bl o e).1) _).other (p := ⟨z + 2, 0, none⟩) (fun h0 bl o e => by have := hbl h0 bl o e; show bl ≠ z + 2; omega) _).other (p := ⟨z + 1, 0, none⟩) (fun h0 bl o e => by have := hbl h0 bl o e; show bl ≠ z + 1; omega) _).drew
    · show z + 5 ≤ (World.setCell _ _ _).heap.size
      rw [size_set, size_set, size_set]; exact hss
    · have hzz := HZ.out
      exact (((hw.setIn (by omega) (by omega) _).setNew hs.block (by show w.heap.size ≤ z + 2; omega) _).setNew hs.block (by show w.heap.size ≤ z + 1; omega) _).drew
  case done =>
    rintro D W hD ⟨O, c, h1, h2, h3, h4, h5, h6, h7, b0, b1, b2, b3, b4, hss, hw⟩ hK
    have hc2 := b2.1
    gi_wp2
    have H1 := Lib.hid h1
    have H5 := Lib.hid h5
    clear h1 h5
    refine ⟨by simp, .inl ⟨_, _, rfl, run_takeDeferred hK, ?_⟩⟩
    have b1 : Below W0.heap.size W (W.putObj D (.deferred none)) := below_putObj W D _ hD (by omega)
    have e1 := h6
    rw [List.drop_eq_nil_of_le (Nat.le_refl _), List.append_nil] at e1
    have e5 := H5.out
    rw [List.take_of_length_le (Nat.le_refl _), List.take_of_length_le hBA] at e5
    have hzz := HZ.out
    exact ⟨_, results_tmp rfl _ _ _, O, c, rfl, H1.out, h3, h4, e5, e1.below b1 (by omega), hw.after (b1.mono (by omega)) hs.block⟩
  case stop =>
    rintro D k W _ _ h _
    exact h.elim
end Go.Proofs.YtofpcdjoljjnoaaGreatDoor

namespace Go.Proofs.YtofpcdjoljjnoaaGreatDoor
open Go.RowKit

/-- How long a slice is. -/
def lenOf : Value → Nat | .slice _ n _ => n | _ => 0

theorem norm_prefix (A : List Nat) : norm A = A.take (norm A).length := by
  induction A with
  | nil => rfl
  | cons a A ih =>
    unfold norm
    split
    · rfl
    · rw [List.length_cons, List.take_succ_cons, ← ih]
theorem nrow_take {A : List Nat} (h : Fits A) : nrow (lv A) = A.take (nrow (lv A)).length := by
  have := norm_prefix A
  rwa [norm_eq h] at this
theorem nrow_le {A : List Nat} (h : Fits A) : (nrow (lv A)).length ≤ A.length := by
  have := congrArg List.length (nrow_take h)
  rw [List.length_take] at this
  omega
theorem NatAt.take {w : World} {a : Option Addr} {A : List Nat} (h : NatAt w a A) (k : Nat) : NatAt w a (A.take k) := fun i hi => by
  rw [List.length_take] at hi
  obtain ⟨b, off, e, hc⟩ := h i (by omega)
  exact ⟨b, off, e, by rw [hc]; simp [show i < k by omega]⟩
theorem NatAt.norm {w : World} {a : Option Addr} {A : List Nat} (h : NatAt w a A) (hf : Fits A) : NatAt w a (nrow (lv A)) := by
  rw [nrow_take hf]; exact h.take _

/-- What a call answers that changes nothing. -/
def Same (v : Value) (w : World) (e : Ending) (w' : World) : Prop := e = .returned v ∧ w = w'

set_option maxHeartbeats 1000000 in
theorem trim_any (a : Option Addr) (cap : Nat) (A : List Nat) (w : World) (hl : A.length ≤ 1099511627776) (hcap : A.length ≤ cap) (hf : Fits A) (hc : NatAt w a A) :
    Calls Tryz.prog 72 #[.slice a A.length cap] w (Same (.slice a (nrow (lv A)).length cap) w) := by
  have HC := Lib.hid hc
  have HF := Lib.hid hf
  clear hc hf
  go_enter Tryz.func72, Tryz.ntmps72
  go_wp2_with fail
  go_loop [0] (fun v => ∃ k : Nat, k ≤ A.length ∧ v = .slice a k cap ∧ lv A = lv (A.take k)) (fun v => lenOf v)
  case atStart => exact ⟨A.length, Nat.le_refl _, rfl, by rw [List.take_length]⟩
  case round =>
    obtain ⟨k, hk, rfl, hv⟩ := hrel
    have HV := Lib.hid hv
    clear hv
    rcases k with _ | k
    · have HE : Hid (nrow (lv A) = []) := Lib.hid (by rw [HV.out]; rfl)
      go_wp2_with fail
      go_ret
      exact ⟨by rw [HE.out]; rfl, rfl⟩
    · obtain ⟨b, off, rfl, hcell⟩ := HC.out k (by omega)
      have hkI : (k : Int) < (A.length : Int) := by omega
      have hk0 : (0 : Int) ≤ (k : Int) := by omega
      have hk1 : (k : Int) + 1 ≤ 1099511627776 := by omega
      have hk2 : k + 1 ≤ cap := by omega
      obtain ⟨x, hx⟩ : ∃ x : Nat, x = A.getD k 0 := ⟨_, rfl⟩
      rw [← hx] at hcell
      by_cases h0 : x = 0
      · subst h0
        have HV2 : Hid (lv A = lv (A.take k)) := Lib.hid (HV.out.trans (lv_take_zero (by omega) hx.symm))
        clear hx
        go_wp2_with fail
        go_round
        case rel => exact ⟨k, by omega, rfl, HV2.out⟩
        case measure => simp [lenOf]
      · have hb : ((x : Int) == 0) = false := beq_eq_false_iff_ne.2 (by omega)
        have HE : Hid (nrow (lv A) = A.take (k + 1)) := Lib.hid (by
          rw [HV.out]
          exact (nrow_of (fits_take HF.out _) (.inr (by rw [take_last (by omega), ← hx]; exact h0))).symm)
        have htl : (A.take (k + 1)).length = k + 1 := by rw [List.length_take]; omega
        have HTL := Lib.hid htl
        clear hx h0 htl
        go_wp2_with fail
        go_ret
        exact ⟨by rw [HE.out, HTL.out]; rfl, rfl⟩

def sgn (b : Bool) : Int := if b then -1 else 1
theorem sign_any (b : Bool) (w : World) : Calls Tryz.prog 98 #[.bool b] w (Same (.int .i64 (sgn b)) w) := by
  cases b
  all_goals
    go_enter Tryz.func98, Tryz.ntmps98
    go_wp2
    go_ret
    exact ⟨rfl, rfl⟩

theorem limb_any (a : Option Addr) (cap : Nat) (A : List Nat) (j : Int) (i : Nat) (hj : j = (i : Int)) (x : Nat) (hx : x = A.getD i 0) (w : World) (hc : NatAt w a A) :
    Calls Tryz.prog 128 #[.slice a A.length cap, .int .i64 j] w (Same (.int .u64 (x : Int)) w) := by
  subst hj
  have HC := Lib.hid hc
  clear hc
  have h0 : (0 : Int) ≤ (i : Int) := by omega
  by_cases h : i < A.length
  · obtain ⟨b, off, rfl, hcell⟩ := HC.out i h
    rw [← hx] at hcell
    clear hx
    have hI : (i : Int) < (A.length : Int) := by omega
    go_enter Tryz.func128, Tryz.ntmps128
    go_wp2
    go_ret
    exact ⟨rfl, rfl⟩
  · have hI : ¬ (i : Int) < (A.length : Int) := by omega
    obtain rfl : x = 0 := by rw [hx, List.getD_eq_getElem?_getD, List.getElem?_eq_none (by omega)]; rfl
    clear hx
    go_enter Tryz.func128, Tryz.ntmps128
    go_wp2
    go_ret
    exact ⟨rfl, rfl⟩

/-- Is one of them too long? -/
def anyLong (ls : List Nat) : Bool := ls.any fun n => decide (2048 < n)
theorem anyLong_take {ls : List Nat} {k : Nat} (hk : k < ls.length) (h : anyLong (ls.take k) = false) (hn : ¬ 2048 < ls.getD k 0) : anyLong (ls.take (k + 1)) = false := by
  unfold anyLong at *
  rw [List.take_succ_eq_append_getElem hk, List.any_append, h]
  rw [List.getD_eq_getElem?_getD, List.getElem?_eq_getElem hk] at hn
  simpa using hn
theorem anyLong_at {ls : List Nat} {k : Nat} (hk : k < ls.length) (hn : 2048 < ls.getD k 0) : anyLong ls = true := by
  unfold anyLong
  rw [List.getD_eq_getElem?_getD, List.getElem?_eq_getElem hk] at hn
  exact List.any_eq_true.2 ⟨ls[k], List.getElem_mem hk, by simpa using hn⟩

set_option maxHeartbeats 1000000 in
theorem tooLong_any (g cap : Nat) (ls : List Nat) (w : World) (hl : ls.length ≤ 1099511627776) (hc : ∀ i, i < ls.length → ∃ a c, w.cell? ⟨g, i, none⟩ = some (.slice a (ls.getD i 0) c)) :
    Calls Tryz.prog 83 #[.slice (some ⟨g, 0, none⟩) ls.length cap] w (Same (.bool (anyLong ls)) w) := by
  have HC := Lib.hid hc
  clear hc
  go_enter Tryz.func83, Tryz.ntmps83
  go_wp2_with fail
  go_loop [7] (fun i => ∃ k : Nat, k ≤ ls.length ∧ i = .int .i64 (k : Int) ∧ anyLong (ls.take k) = false) (fun i => ls.length - (intOf i).toNat)
  case atStart => exact ⟨0, Nat.zero_le _, rfl, rfl⟩
  case round =>
    obtain ⟨k, hk, rfl, hv⟩ := hrel
    have HV := Lib.hid hv
    clear hv
    have hk0 : (0 : Int) ≤ (k : Int) := by omega
    by_cases hlt : k < ls.length
    · obtain ⟨a, c, hcell⟩ := HC.out k hlt
      have hI : (k : Int) < (ls.length : Int) := by omega
      obtain ⟨n, hn⟩ : ∃ n, n = ls.getD k 0 := ⟨_, rfl⟩
      rw [← hn] at hcell
      by_cases hbig : 2048 < n
      · have hb : (2048 : Int) < (n : Int) := by omega
        have HE : Hid (anyLong ls = true) := Lib.hid (anyLong_at hlt (by rw [← hn]; exact hbig))
        clear hn hbig
        go_wp2_with fail
        go_ret
        exact ⟨by rw [HE.out]; rfl, rfl⟩
      · have hb : (n : Int) ≤ 2048 := by omega
        have HE : Hid (anyLong (ls.take (k + 1)) = false) := Lib.hid (anyLong_take hlt HV.out (by rw [← hn]; exact hbig))
        clear hn hbig
        go_wp2_with fail
        go_round
        case rel => exact ⟨k + 1, by omega, by go_num, HE.out⟩
        case measure => simp [intOf]; omega
    · obtain rfl : k = ls.length := by omega
      have HE : Hid (anyLong ls = false) := Lib.hid (by have := HV.out; rwa [List.take_length] at this)
      go_wp2_with fail
      go_ret
      exact ⟨by rw [HE.out]; rfl, rfl⟩
end Go.Proofs.YtofpcdjoljjnoaaGreatDoor

namespace Go.Proofs.YtofpcdjoljjnoaaGreatDoor
open Go.RowKit Go.Shelf
attribute [local go_sem] Oper.semAt_some wide_fn

/-- The second number lies apart from the first, or is the first itself. -/
def Beside (g off z : Nat) (b : Option Addr) (A B : List Nat) (W : World) : Prop :=
  ((0 < B.length → ∀ bl o, b = some ⟨bl, o, none⟩ → bl ≠ g ∧ bl < z) ∧ NatAt W b B) ∨ (b = some ⟨g, off, none⟩ ∧ B = A)
theorem Beside.below {g off z n : Nat} {b : Option Addr} {A B : List Nat} {W W' : World} (h : Beside g off z b A B W) (hb : Below n W W') (hn : z ≤ n) : Beside g off z b A B W' := by
  rcases h with ⟨h1, h2⟩ | h
  · refine .inl ⟨h1, fun i hi => ?_⟩
    obtain ⟨bl, o, e, hc⟩ := h2 i hi
    exact ⟨bl, o, e, (hb.cell (p := ⟨bl, o + i, none⟩) (by show bl < n; have := (h1 (by omega) bl o e).2; omega)).trans hc⟩
  · exact .inr h
theorem Beside.set {g off z o : Nat} {b : Option Addr} {A B : List Nat} {W : World} (h : Beside g off z b A B W) (v : Value) : Beside g off z b A B (W.setCell ⟨g, o, none⟩ v) := by
  rcases h with ⟨h1, h2⟩ | h
  · exact .inl ⟨h1, h2.other (p := ⟨g, o, none⟩) (fun h0 bl o e => (h1 h0 bl o e).1) v⟩
  · exact .inr h
theorem Beside.other {g off z : Nat} {b : Option Addr} {A B : List Nat} {W : World} (h : Beside g off z b A B W) {p : Addr} (hp : z ≤ p.block) (v : Value) : Beside g off z b A B (W.setCell p v) := by
  rcases h with ⟨h1, h2⟩ | h
  · exact .inl ⟨h1, h2.other (fun h0 bl o e => by have := (h1 h0 bl o e).2; omega) v⟩
  · exact .inr h
theorem Beside.drew {g off z : Nat} {b : Option Addr} {A B : List Nat} {W : World} (h : Beside g off z b A B W) : Beside g off z b A B W.drew := h
theorem Beside.from {g off z k : Nat} {b : Option Addr} {O A B : List Nat} {W : World} (h : Beside g off z b A B W) (hs : Seg W g off (O ++ A.drop k)) (hO : O.length = k) (hk : k ≤ A.length) : NatFrom k W b B := by
  rcases h with ⟨_, h2⟩ | ⟨rfl, rfl⟩
  · exact h2.from k
  · exact hs.from hO hk

theorem mul_small {y n : Nat} (hy : y < 18446744073709551616) (hn : n < 18446744073709551616) : y * n ≤ 18446744073709551615 * 18446744073709551615 := Nat.mul_le_mul (by omega) (by omega)
/-- Limbs of a sum with a product, one more. -/
theorem limb_times {o p c c' x y n r a b : Nat} (h : o + p * c = a + n * b) (hr : r + 18446744073709551616 * c' = x + y * n + c) :
    (o + p * r) + p * 18446744073709551616 * c' = (a + p * x) + n * (b + p * y) := by
  have h2 : p * (r + 18446744073709551616 * c') = p * (x + y * n + c) := by rw [hr]
  have h3 : n * (p * y) = p * (y * n) := by rw [Nat.mul_left_comm, Nat.mul_comm n y]
  rw [Nat.mul_add, Nat.mul_add, Nat.mul_add, ← Nat.mul_assoc] at h2
  rw [Nat.mul_add, h3]
  omega

def TimesPost (g off n : Nat) (A B : List Nat) (w : World) (e : Ending) (w' : World) : Prop :=
  ∃ (O : List Nat) (c : Nat), e = .returned (.int .u64 (c : Int)) ∧ O.length = A.length ∧ Fits O ∧ c < 18446744073709551616 ∧ lv O + 2 ^ (64 * A.length) * c = lv A + n * lv B ∧ Seg w' g off O ∧ Wrote g off (off + A.length) w w'

def TimesAt (z g off ca cb n : Nat) (b : Option Addr) (A B : List Nat) (w : World) (k : Nat) (W : World) : Prop :=
  ∃ (O : List Nat) (c : Nat), O.length = k ∧ k ≤ A.length ∧ Fits O ∧ c < 18446744073709551616 ∧ lv O + 2 ^ (64 * k) * c = lv (A.take k) + n * lv (B.take k) ∧ Seg W g off (O ++ A.drop k) ∧ Beside g off z b A B W ∧
    Box W z (.slice (some ⟨g, off, none⟩) A.length ca) ∧ Box W (z + 1) (.int .u64 (n : Int)) ∧ Box W (z + 2) (.int .i64 (k : Int)) ∧ Box W (z + 3) (.int .u64 (c : Int)) ∧ Box W (z + 4) (.slice (some ⟨g, off, none⟩) A.length ca) ∧ Box W (z + 5) (.slice b B.length cb) ∧
    z + 6 ≤ W.heap.size ∧ Wrote g off (off + A.length) w W

theorem TimesAt.below {z g off ca cb n : Nat} {b : Option Addr} {A B : List Nat} {w : World} {k : Nat} {W W' : World} (hg : g < z) (hz : z = w.heap.size) (hb : Below (z + 6) W W') (h : TimesAt z g off ca cb n b A B w k W) : TimesAt z g off ca cb n b A B w k W' := by
  obtain ⟨O, c, h1, h2, h3, h4, h5, h6, h7, b0, b1, b2, b3, b4, b5, hs, hw⟩ := h
  exact ⟨O, c, h1, h2, h3, h4, h5, h6.below hb (by omega), h7.below hb (by omega), b0.below hb (by omega), b1.below hb (by omega), b2.below hb (by omega), b3.below hb (by omega), b4.below hb (by omega), b5.below hb (by omega), Nat.le_trans hs hb.size, hw.after (hb.mono (by omega)) (by omega)⟩

end Go.Proofs.YtofpcdjoljjnoaaGreatDoor

namespace Go.Proofs.YtofpcdjoljjnoaaGreatDoor
set_option maxRecDepth 100000
open Go.RowKit

/-- Two digits a limb. -/
def pairs : List Nat → List Nat
  | [] => []
  | [a] => [a]
  | a :: b :: l => (a + b * 4294967296) :: pairs l
theorem pairs_length : ∀ l : List Nat, (pairs l).length = (l.length + 1) / 2
  | [] => rfl
  | [a] => by simp [pairs]
  | a :: b :: l => by simp [pairs, pairs_length l]; omega
theorem lv_pairs : ∀ l : List Nat, lv (pairs l) = dv l
  | [] => rfl
  | [a] => by simp [pairs, lv, dv]
  | a :: b :: l => by simp only [pairs, lv, dv, lv_pairs l]; omega
theorem pairs_fits : ∀ l : List Nat, Small l → Fits (pairs l)
  | [], _ => fun x hx => by cases hx
  | [a], h => fun x hx => by
    have := h a (by simp)
    simp [pairs] at hx; omega
  | a :: b :: l, h => fun x hx => by
    have ha := h a (by simp)
    have hb := h b (by simp)
    have hr := pairs_fits l (fun y hy => h y (by simp [hy]))
    simp only [pairs, List.mem_cons] at hx
    rcases hx with rfl | hx
    · omega
    · exact hr x hx

/-- The limbs as far as k digits have been laid. -/
def laidD (l : List Nat) (k : Nat) : List Nat := pairs (l.take k) ++ List.replicate ((l.length + 1) / 2 - (k + 1) / 2) 0
theorem laidD_length (l : List Nat) (k : Nat) (hk : k ≤ l.length) : (laidD l k).length = (l.length + 1) / 2 := by
  unfold laidD
  rw [List.length_append, List.length_replicate, pairs_length, List.length_take, Nat.min_eq_left hk]; omega
theorem laidD_zero (l : List Nat) : laidD l 0 = List.replicate ((l.length + 1) / 2) 0 := by simp [laidD, pairs]
theorem laidD_all (l : List Nat) : laidD l l.length = pairs l := by simp [laidD]

theorem pairs_even : ∀ (l : List Nat) (a : Nat), l.length % 2 = 0 → pairs (l ++ [a]) = pairs l ++ [a]
  | [], a, _ => rfl
  | [b], a, h => by simp at h
  | b :: c :: l, a, h => by
    have := pairs_even l a (by simp at h; omega)
    simp [pairs, this]
theorem pairs_odd : ∀ (l : List Nat) (a b : Nat), l.length % 2 = 0 → pairs (l ++ [a, b]) = pairs l ++ [a + b * 4294967296]
  | [], a, b, _ => rfl
  | [c], a, b, h => by simp at h
  | c :: d :: l, a, b, h => by
    have := pairs_odd l a b (by simp at h; omega)
    simp [pairs, this]

theorem laid_even (l : List Nat) (k : Nat) (hk : k < l.length) (he : k % 2 = 0) : (laidD l k).set (k / 2) (l.getD k 0) = laidD l (k + 1) := by
  have hlen : (pairs (l.take k)).length = k / 2 := by rw [pairs_length, List.length_take]; omega
  have ht : l.take (k + 1) = l.take k ++ [l.getD k 0] := by
    rw [List.take_succ_eq_append_getElem hk, List.getD_eq_getElem?_getD, List.getElem?_eq_getElem hk]; rfl
  have e : (l.length + 1) / 2 - (k + 1) / 2 = ((l.length + 1) / 2 - (k + 1 + 1) / 2) + 1 := by omega
  unfold laidD
  rw [ht, pairs_even _ _ (by rw [List.length_take]; omega), e, List.replicate_succ, List.set_append_right _ _ (by omega), hlen, Nat.sub_self]
  simp
theorem laid_odd (l : List Nat) (k : Nat) (hk : k < l.length) (he : k % 2 = 1) : (laidD l k).getD (k / 2) 0 = l.getD (k - 1) 0 ∧ (laidD l k).set (k / 2) (l.getD (k - 1) 0 + l.getD k 0 * 4294967296) = laidD l (k + 1) := by
  obtain ⟨j, rfl⟩ : ∃ j, k = j + 1 := ⟨k - 1, by omega⟩
  have hj : j < l.length := by omega
  have ht1 : l.take (j + 1) = l.take j ++ [l.getD j 0] := by
    rw [List.take_succ_eq_append_getElem hj, List.getD_eq_getElem?_getD, List.getElem?_eq_getElem hj]; rfl
  have ht2 : l.take (j + 1 + 1) = l.take j ++ [l.getD j 0, l.getD (j + 1) 0] := by
    rw [List.take_succ_eq_append_getElem hk, ht1, List.append_assoc, List.getD_eq_getElem?_getD (l := l) (i := j + 1), List.getElem?_eq_getElem hk]; rfl
  have hev : (l.take j).length % 2 = 0 := by rw [List.length_take]; omega
  have hlen : (pairs (l.take j)).length = (j + 1) / 2 := by rw [pairs_length, List.length_take]; omega
  have e : (l.length + 1) / 2 - (j + 1 + 1) / 2 = (l.length + 1) / 2 - (j + 1 + 1 + 1) / 2 := by omega
  unfold laidD
  rw [ht1, ht2, pairs_even _ _ hev, pairs_odd _ _ _ hev, Nat.add_sub_cancel, e]
  constructor
  · rw [List.getD_eq_getElem?_getD, List.append_assoc, List.getElem?_append_right (by omega), hlen, Nat.sub_self]; rfl
  · rw [List.append_assoc, List.set_append_right _ _ (by omega), hlen, Nat.sub_self]; simp

def MadeRel (l : List Nat) (n g : Nat) (w : World) (i : Value) (wr : World) : Prop :=
  ∃ k : Nat, k ≤ l.length ∧ i = .int .i64 (k : Int) ∧ wr.ownsRow w.heap.size 100 1 (.slice (some ⟨g, 0, none⟩) n n) n (U (laidD l k)) ∧ Below w.heap.size w wr

theorem U_zeros (n : Nat) : U (List.replicate n 0) = List.replicate n (.int .u64 0) := by simp [U]
theorem small_get {l : List Nat} (h : Small l) (i : Nat) : l.getD i 0 < 4294967296 := by
  rcases Nat.lt_or_ge i l.length with hi | hi
  · rw [List.getD_eq_getElem?_getD, List.getElem?_eq_getElem hi]; exact h _ (List.getElem_mem hi)
  · rw [List.getD_eq_getElem?_getD, List.getElem?_eq_none hi]; decide

set_option maxHeartbeats 4000000 in
theorem nmade_any (A : Option Addr) (cap : Nat) (l : List Nat) (w : World) (hl : l.length ≤ 1099511627776) (hs : Small l) (hc : NatAt w A l) :
    Calls Tryz.prog 109 #[.slice A l.length cap] w (NRes w (dv l)) := by
  obtain ⟨i0, hi, hz0, hz1, hz2⟩ := info_parts info_u64
  have HC := Lib.hid hc
  have HSM := Lib.hid hs
  have hlI : (l.length : Int) ≤ 1099511627776 := by omega
  obtain ⟨n, hn⟩ : ∃ n, n = (l.length + 1) / 2 := ⟨_, rfl⟩
  have HK : Hid (((l.length : Int) + 1) / 2 = (n : Int)) := Lib.hid (by omega)
  have HNN := Lib.hid hn
  have hn1 : n ≤ 1099511627776 := by omega
  have hZ : Hid (∀ w0 : World, w0.ownsRow w.heap.size 100 1 (.slice (some ⟨w.heap.size, 0, none⟩) n n) n (madeCells (Value.int .u64 0).cells (n * 1)).toList → w0.ownsRow w.heap.size 100 1 (.slice (some ⟨w.heap.size, 0, none⟩) n n) n (U (laidD l 0))) := Lib.hid (fun w0 h => by
    rw [show (Value.int .u64 0).cells = #[.int .u64 0] from rfl, toList_madeCells_one, Nat.mul_one] at h
    rw [laidD_zero, U_zeros, ← hn]; exact h)
  clear hc hs hn
  go_enter Tryz.func109, Tryz.ntmps109
  go_wp2_with (
    (at_make
     refine wpList_make_full _ rfl _ _ 42 rfl w.heap.size 100 i0 (.int .u64 0) 1 Tryz.underlying42 hi hz0 hz1 .i64 .i64 _ _ n rfl rfl HK.out HK.out (by rw [hz2]; omega) (by unfold maxLen; omega) (Nat.le_refl _) ?_
     intro w0 hown0 hg0
     have HO := Lib.hid (hZ.out w0 hown0)
     have HB : Hid (Below w.heap.size w w0) := Lib.hid ((Below.refl _ w).grown hg0 (Nat.le_refl _) (fun k hk => by cases hk))
     clear hown0 hg0))
  obtain ⟨g, hg⟩ : ∃ g, g = w.heap.size := ⟨_, rfl⟩
  have HG : Hid (w.heap.size ≤ g) := Lib.hid (by omega)
  have HO2 : Hid (w0.ownsRow w.heap.size 100 1 (.slice (some ⟨g, 0, none⟩) n n) n (U (laidD l 0))) := Lib.hid (by rw [hg]; exact HO.out)
  rw [← hg]
  clear hg HO hZ
  go_loopw [4] (fun i wr => MadeRel l n g w i wr) (fun i _ => l.length - (intOf i).toNat)
  case atStart => exact ⟨0, by omega, rfl, HO2.out, HB.out⟩
  case round =>
    obtain ⟨k, hk, rfl, hown, hbel⟩ := hrel
    have HOW := Lib.hid hown
    have HBL := Lib.hid hbel
    have HLE := Lib.hid (laidD_length l k hk)
    clear hown hbel
    obtain ⟨j, hj⟩ : ∃ j : Int, j = (k : Int) := ⟨_, rfl⟩
    have HJ := Lib.hid hj
    rw [← hj]
    have hj0 : 0 ≤ j := by omega
    by_cases hlt : k < l.length
    · have hjI : j < (l.length : Int) := by omega
      have HLT := Lib.hid hlt
      have hto : j.toNat = k := by omega
      obtain ⟨b, off, rfl, hbw, h1⟩ := HC.out.lt hlt
      have h2 : wr.cell? ⟨b, off + j.toNat, none⟩ = some (.int .u64 ((l.getD k 0 : Nat) : Int)) := by rw [hto]; exact (HBL.out.cell (p := ⟨b, off + k, none⟩) hbw).trans h1
      have hqn : k / 2 < n := by have := HNN.out; omega
      have HQ : Hid ((j / 2).toNat = k / 2) := Lib.hid (by omega)
      have hq0 : 0 ≤ j / 2 := by omega
      have hqI : j / 2 < (n : Int) := by omega
      have h3 : wr.cell? ⟨g, (j / 2).toNat, none⟩ = some (.int .u64 (((laidD l k).getD (k / 2) 0 : Nat) : Int)) := by
        rw [HQ.out, World.ownsRow.cellAt HOW.out _ (by omega), U_get (by rw [HLE.out, ← HNN.out]; exact hqn)]
      have h4 : wr.frozen? ⟨g, (j / 2).toNat, none⟩ = false := World.ownsRow.frozenAt HOW.out _
      by_cases he : k % 2 = 0
      · have heB : (j % 2 == 0) = true := beq_iff_eq.2 (by omega)
        have HS : Hid (wr.setCell ⟨g, k / 2, none⟩ (.int .u64 ((l.getD k 0 : Nat) : Int)) |>.ownsRow w.heap.size 100 1 (.slice (some ⟨g, 0, none⟩) n n) n (U (laidD l (k + 1)))) := Lib.hid (by
          rw [← laid_even l k hlt he, ← U_set]
          exact (World.ownsRow.stored HOW.out (k / 2) _).1)
        generalize l.getD k 0 = x at *
        generalize (laidD l k).getD (k / 2) 0 = y at *
        clear h1 he hto hj hlt
        go_wp2_with fail
        rw [HQ.out]
        go_roundw
        case rel => exact ⟨k + 1, HLT.out, by rw [HJ.out]; go_num, HS.out, HBL.out.setCell (p := ⟨g, k / 2, none⟩) HG.out _⟩
        case measure => have := HJ.out; have := HLT.out; simp [intOf]; omega
      · have heB : (j % 2 == 0) = false := beq_eq_false_iff_ne.2 (by omega)
        obtain ⟨hy, hset⟩ := laid_odd l k hlt (by omega)
        have hx1 := small_get HSM.out k
        have hx2 := small_get HSM.out (k - 1)
        rw [hy] at h3
        have HS : Hid (wr.setCell ⟨g, k / 2, none⟩ (.int .u64 (((l.getD (k - 1) 0 + l.getD k 0 * 4294967296 : Nat) : Int))) |>.ownsRow w.heap.size 100 1 (.slice (some ⟨g, 0, none⟩) n n) n (U (laidD l (k + 1)))) := Lib.hid (by
          rw [← hset, ← U_set]
          exact (World.ownsRow.stored HOW.out (k / 2) _).1)
        obtain ⟨x, hx⟩ : ∃ x : Int, x = ((l.getD k 0 : Nat) : Int) := ⟨_, rfl⟩
        obtain ⟨y, hyy⟩ : ∃ y : Int, y = ((l.getD (k - 1) 0 : Nat) : Int) := ⟨_, rfl⟩
        have hS2 : ((l.getD (k - 1) 0 + l.getD k 0 * 4294967296 : Nat) : Int) = y + x * 4294967296 := by omega
        rw [hS2] at HS
        rw [← hx] at h2
        rw [← hyy] at h3
        have x0 : 0 ≤ x := by omega
        have x1 : x < 4294967296 := by omega
        have y0 : 0 ≤ y := by omega
        have y1 : y < 4294967296 := by omega
        clear h1 he hto hj hlt hy hset hx hyy hS2 hx1 hx2
        go_wp2_with fail
        go_region
        go_wp2_with fail
        rw [HQ.out]
        go_roundw
        case rel => exact ⟨k + 1, HLT.out, by rw [HJ.out]; go_num, HS.out, (HBL.out.setCell (p := ⟨g, k / 2, none⟩) HG.out _).drew⟩
        case measure => have := HJ.out; have := HLT.out; simp [intOf]; omega
    · have hjI : (l.length : Int) ≤ j := by omega
      obtain rfl : k = l.length := by omega
      have hown := HOW.out
      rw [laidD_all] at hown
      have hpl : (pairs l).length = n := by rw [pairs_length, HNN.out]
      have HNA : Hid (NatAt wr (some ⟨g, 0, none⟩) (pairs l)) := Lib.hid (fun i hi => ⟨g, 0, rfl, by rw [Nat.zero_add, World.ownsRow.cellAt hown i (by omega), U_get hi]⟩)
      have hN := nnorm_any (some ⟨g, 0, none⟩) n (pairs l) wr (by omega) (by omega) (fun h => by cases h) (pairs_fits l HSM.out) HNA.out
      rw [lv_pairs, hpl] at hN
      have HN := Lib.hid hN
      clear hN hown hpl hlt hj
      go_wp2_with fail
      refine HN.out.mono ?_
      rintro e w1 ⟨v1, rfl, hv1, b1⟩
      have HV := Lib.hid hv1
      have HB1 := Lib.hid b1
      clear hv1 b1
      go_wp2_with fail
      go_ret
      exact ⟨_, rfl, HV.out.more HBL.out.size, HBL.out.trans (HB1.out.mono HBL.out.size)⟩
end Go.Proofs.YtofpcdjoljjnoaaGreatDoor

namespace Go.Proofs.YtofpcdjoljjnoaaGreatDoor
set_option maxRecDepth 100000
open Go.RowKit

theorem above_top {A B : List Nat} (ha : Fits A) (hb : Fits B) (n : Nat) (h1 : A.length ≤ n) (h2 : B.length ≤ n) : lv A / 2 ^ (32 * (2 * n)) = lv B / 2 ^ (32 * (2 * n)) := by
  have e : 32 * (2 * n) = 64 * n := by omega
  rw [e, Nat.div_eq_of_lt (Nat.lt_of_lt_of_le (lv_lt ha) (Nat.pow_le_pow_right (by omega) (by omega))),
    Nat.div_eq_of_lt (Nat.lt_of_lt_of_le (lv_lt hb) (Nat.pow_le_pow_right (by omega) (by omega)))]

theorem div_dg {A : List Nat} (ha : Fits A) (i : Nat) : lv A / 2 ^ (32 * i) = 2 ^ 32 * (lv A / 2 ^ (32 * (i + 1))) + dg A i := by
  have e : 32 * (i + 1) = 32 * i + 32 := by omega
  rw [dg_eq ha, e, Nat.pow_add, ← Nat.div_div_eq_div_mul]
  omega

theorem lt_of_div {a b k : Nat} (h : a / k < b / k) : a < b := by
  rcases Nat.lt_or_ge a b with h1 | h1
  · exact h1
  · have := Nat.div_le_div_right (c := k) h1; omega

theorem above_step {A B : List Nat} (ha : Fits A) (hb : Fits B) (i : Nat) (h : lv A / 2 ^ (32 * (i + 1)) = lv B / 2 ^ (32 * (i + 1))) (hd : dg A i = dg B i) : lv A / 2 ^ (32 * i) = lv B / 2 ^ (32 * i) := by
  rw [div_dg ha, div_dg hb, h, hd]

theorem above_lt {A B : List Nat} (ha : Fits A) (hb : Fits B) (i : Nat) (h : lv A / 2 ^ (32 * (i + 1)) = lv B / 2 ^ (32 * (i + 1))) (hd : dg A i < dg B i) : lv A < lv B := by
  apply lt_of_div (k := 2 ^ (32 * i))
  rw [div_dg ha, div_dg hb, h]; omega

/-- What a comparison answers. -/
def cmpV (a b : Nat) : Int := if a < b then -1 else if b < a then 1 else 0
theorem ndigit_at {a : Option Addr} {ca : Nat} {A : List Nat} {w : World} {j x : Int} {k : Nat} (hj : j = (k : Int)) (hk : k ≤ 2199023255552) (fa : Fits A) (ma : NatAt w a A) (hx : x = ((dg A k : Nat) : Int)) :
    Calls Tryz.prog 105 #[.slice a A.length ca, .int .i64 j] w fun e w' => e = .returned (.int .u64 x) ∧ w' = w := by
  refine (ndigit_any a ca A j k _ hj hk fa ma).mono ?_
  rintro e w' ⟨z, hz, he, hw'⟩
  exact ⟨by rw [he, hz, hx], hw'.symm⟩
def CmpPost (w : World) (a b : Nat) (e : Ending) (w' : World) : Prop := e = .returned (.int .i64 (cmpV a b)) ∧ w = w'
theorem cmpV_lt {a b : Nat} (h : a < b) : cmpV a b = -1 := by unfold cmpV; rw [if_pos h]
theorem cmpV_gt {a b : Nat} (h : b < a) : cmpV a b = 1 := by unfold cmpV; rw [if_neg (by omega), if_pos h]
theorem cmpV_eq {a b : Nat} (h : a = b) : cmpV a b = 0 := by unfold cmpV; rw [if_neg (by omega), if_neg (by omega)]

def CmpRel (A B : List Nat) (i : Value) : Prop := ∃ k : Nat, k ≤ 2199023255552 ∧ i = .int .i64 ((k : Int) - 1) ∧ lv A / 2 ^ (32 * k) = lv B / 2 ^ (32 * k)

set_option maxHeartbeats 2000000 in
theorem ncmp_any (a b : Option Addr) (ca cb : Nat) (A B : List Nat) (w : World) (hA : A.length ≤ 1099511627776) (hB : B.length ≤ 1099511627776) (fa : Fits A) (fb : Fits B) (ma : NatAt w a A) (mb : NatAt w b B) :
    Calls Tryz.prog 107 #[.slice a A.length ca, .slice b B.length cb] w (CmpPost w (lv A) (lv B)) := by
  by_cases hl : A.length < B.length
  · have HT := Lib.hid (above_top fa fb B.length (by omega) (by omega))
    go_enter Tryz.func107, Tryz.ntmps107
    go_wp2_with fail
    go_loop [5] (fun i => CmpRel A B i) (fun i => (intOf i + 1).toNat)
    case atStart => exact ⟨2 * B.length, by omega, by go_num, HT.out⟩
    case round =>
      obtain ⟨k, hk, rfl, hab⟩ := hrel
      rcases k with _ | k
      · have HE : Hid (cmpV (lv A) (lv B) = 0) := Lib.hid (cmpV_eq (by simpa using hab))
        clear hab
        go_wp2_with fail
        go_ret
        exact ⟨by rw [HE.out]; rfl, rfl⟩
      · obtain ⟨j, hj⟩ : ∃ j : Int, j = (k : Int) := ⟨_, rfl⟩
        have HJ := Lib.hid hj
        have ej : ((k + 1 : Nat) : Int) - 1 = j := by omega
        rw [ej]
        have hj0 : 0 ≤ j := by omega
        have hjm : j ≤ 2199023255552 := by omega
        have HAB := Lib.hid hab
        have HK : Hid (k ≤ 2199023255552) := Lib.hid (by omega)
        obtain ⟨x, hx⟩ : ∃ x : Int, x = ((dg A k : Nat) : Int) := ⟨_, rfl⟩
        obtain ⟨y, hy⟩ : ∃ y : Int, y = ((dg B k : Nat) : Int) := ⟨_, rfl⟩
        have HX := Lib.hid hx
        have HY := Lib.hid hy
        have HDA := Lib.hid (ndigit_at (ca := ca) hj HK.out fa ma hx)
        have HDB := Lib.hid (ndigit_at (ca := cb) hj HK.out fb mb hy)
        clear hab hj hk hx hy ej
        rcases Int.lt_trichotomy x y with hlt | heq | hgt
        · have HE : Hid (cmpV (lv A) (lv B) = -1) := Lib.hid (cmpV_lt (above_lt fa fb k HAB.out (by have := HX.out; have := HY.out; omega)))
          go_wp2_with fail
          refine HDA.out.mono ?_
          rintro e w' ⟨rfl, rfl⟩
          go_wp2_with fail
          refine HDB.out.mono ?_
          rintro e w' ⟨rfl, rfl⟩
          go_wp2_with fail
          go_ret
          exact ⟨by rw [HE.out]; rfl, rfl⟩
        · have HE : Hid (lv A / 2 ^ (32 * k) = lv B / 2 ^ (32 * k)) := Lib.hid (above_step fa fb k HAB.out (by have := HX.out; have := HY.out; omega))
          have hn1 : ¬ x < y := by omega
          have hn2 : ¬ x > y := by omega
          clear heq
          go_wp2_with fail
          refine HDA.out.mono ?_
          rintro e w' ⟨rfl, rfl⟩
          go_wp2_with fail
          refine HDB.out.mono ?_
          rintro e w' ⟨rfl, rfl⟩
          go_wp2_with fail
          refine HDA.out.mono ?_
          rintro e w' ⟨rfl, rfl⟩
          go_wp2_with fail
          refine HDB.out.mono ?_
          rintro e w' ⟨rfl, rfl⟩
          go_wp2_with fail
          go_round
          case rel => exact ⟨k, HK.out, by rw [← HJ.out], HE.out⟩
          case measure => simp [intOf]; omega
        · have HE : Hid (cmpV (lv A) (lv B) = 1) := Lib.hid (cmpV_gt (above_lt fb fa k HAB.out.symm (by have := HX.out; have := HY.out; omega)))
          have hn1 : ¬ x < y := by omega
          go_wp2_with fail
          refine HDA.out.mono ?_
          rintro e w' ⟨rfl, rfl⟩
          go_wp2_with fail
          refine HDB.out.mono ?_
          rintro e w' ⟨rfl, rfl⟩
          go_wp2_with fail
          refine HDA.out.mono ?_
          rintro e w' ⟨rfl, rfl⟩
          go_wp2_with fail
          refine HDB.out.mono ?_
          rintro e w' ⟨rfl, rfl⟩
          go_wp2_with fail
          go_ret
          exact ⟨by rw [HE.out]; rfl, rfl⟩
  · have HT := Lib.hid (above_top fa fb A.length (by omega) (by omega))
    go_enter Tryz.func107, Tryz.ntmps107
    go_wp2_with fail
    go_loop [5] (fun i => CmpRel A B i) (fun i => (intOf i + 1).toNat)
    case atStart => exact ⟨2 * A.length, by omega, by go_num, HT.out⟩
    case round =>
      obtain ⟨k, hk, rfl, hab⟩ := hrel
      rcases k with _ | k
      · have HE : Hid (cmpV (lv A) (lv B) = 0) := Lib.hid (cmpV_eq (by simpa using hab))
        clear hab
        go_wp2_with fail
        go_ret
        exact ⟨by rw [HE.out]; rfl, rfl⟩
      · obtain ⟨j, hj⟩ : ∃ j : Int, j = (k : Int) := ⟨_, rfl⟩
        have HJ := Lib.hid hj
        have ej : ((k + 1 : Nat) : Int) - 1 = j := by omega
        rw [ej]
        have hj0 : 0 ≤ j := by omega
        have hjm : j ≤ 2199023255552 := by omega
        have HAB := Lib.hid hab
        have HK : Hid (k ≤ 2199023255552) := Lib.hid (by omega)
        obtain ⟨x, hx⟩ : ∃ x : Int, x = ((dg A k : Nat) : Int) := ⟨_, rfl⟩
        obtain ⟨y, hy⟩ : ∃ y : Int, y = ((dg B k : Nat) : Int) := ⟨_, rfl⟩
        have HX := Lib.hid hx
        have HY := Lib.hid hy
        have HDA := Lib.hid (ndigit_at (ca := ca) hj HK.out fa ma hx)
        have HDB := Lib.hid (ndigit_at (ca := cb) hj HK.out fb mb hy)
        clear hab hj hk hx hy ej
        rcases Int.lt_trichotomy x y with hlt | heq | hgt
        · have HE : Hid (cmpV (lv A) (lv B) = -1) := Lib.hid (cmpV_lt (above_lt fa fb k HAB.out (by have := HX.out; have := HY.out; omega)))
          go_wp2_with fail
          refine HDA.out.mono ?_
          rintro e w' ⟨rfl, rfl⟩
          go_wp2_with fail
          refine HDB.out.mono ?_
          rintro e w' ⟨rfl, rfl⟩
          go_wp2_with fail
          go_ret
          exact ⟨by rw [HE.out]; rfl, rfl⟩
        · have HE : Hid (lv A / 2 ^ (32 * k) = lv B / 2 ^ (32 * k)) := Lib.hid (above_step fa fb k HAB.out (by have := HX.out; have := HY.out; omega))
          have hn1 : ¬ x < y := by omega
          have hn2 : ¬ x > y := by omega
          clear heq
          go_wp2_with fail
          refine HDA.out.mono ?_
          rintro e w' ⟨rfl, rfl⟩
          go_wp2_with fail
          refine HDB.out.mono ?_
          rintro e w' ⟨rfl, rfl⟩
          go_wp2_with fail
          refine HDA.out.mono ?_
          rintro e w' ⟨rfl, rfl⟩
          go_wp2_with fail
          refine HDB.out.mono ?_
          rintro e w' ⟨rfl, rfl⟩
          go_wp2_with fail
          go_round
          case rel => exact ⟨k, HK.out, by rw [← HJ.out], HE.out⟩
          case measure => simp [intOf]; omega
        · have HE : Hid (cmpV (lv A) (lv B) = 1) := Lib.hid (cmpV_gt (above_lt fb fa k HAB.out.symm (by have := HX.out; have := HY.out; omega)))
          have hn1 : ¬ x < y := by omega
          go_wp2_with fail
          refine HDA.out.mono ?_
          rintro e w' ⟨rfl, rfl⟩
          go_wp2_with fail
          refine HDB.out.mono ?_
          rintro e w' ⟨rfl, rfl⟩
          go_wp2_with fail
          refine HDA.out.mono ?_
          rintro e w' ⟨rfl, rfl⟩
          go_wp2_with fail
          refine HDB.out.mono ?_
          rintro e w' ⟨rfl, rfl⟩
          go_wp2_with fail
          go_ret
          exact ⟨by rw [HE.out]; rfl, rfl⟩
end Go.Proofs.YtofpcdjoljjnoaaGreatDoor
