/-
  LAYER 3: the texts NatAdd, NatSubtract, NatAddTimes, NatSubTimes, one behind the other.
-/
import Derived.Test.YtcdedaihkfpafaaNatB1

namespace Go.Proofs.Ytcdedaihkfpafaa
open Go.RowKit Go.Shelf
attribute [local go_sem] Oper.semAt_some wide_fn

theorem lv_snoc (O : List Nat) (x : Nat) : lv (O ++ [x]) = lv O + 2 ^ (64 * O.length) * x := by
  rw [lv_append]; simp [lv]
theorem lv_take_succ {A : List Nat} {k : Nat} (hk : k < A.length) : lv (A.take (k + 1)) = lv (A.take k) + 2 ^ (64 * k) * A.getD k 0 := by
  rw [List.take_succ_eq_append_getElem hk, lv_snoc, List.length_take, Nat.min_eq_left (by omega)]
  simp [hk]
theorem lv_take_succ' (A : List Nat) (k : Nat) : lv (A.take (k + 1)) = lv (A.take k) + 2 ^ (64 * k) * A.getD k 0 := by
  rcases Nat.lt_or_ge k A.length with h | h
  · exact lv_take_succ h
  · rw [List.take_of_length_le (by omega), List.take_of_length_le h, List.getD_eq_getElem?_getD, List.getElem?_eq_none h]; simp
theorem getD_fits {L : List Nat} (h : Fits L) (i : Nat) : L.getD i 0 < 18446744073709551616 := by
  rw [List.getD_eq_getElem?_getD]
  rcases Nat.lt_or_ge i L.length with hi | hi
  · rw [List.getElem?_eq_getElem hi]; exact h _ (List.getElem_mem hi)
  · rw [List.getElem?_eq_none hi]; simp
theorem fits_snoc {O : List Nat} {x : Nat} (h : Fits O) (hx : x < 18446744073709551616) : Fits (O ++ [x]) := by
  intro y hy
  rcases List.mem_append.1 hy with hy | hy
  · exact h y hy
  · simp at hy; subst hy; exact hx
theorem set_mid {O A : List Nat} {k x : Nat} (hO : O.length = k) (hk : k < A.length) : (O ++ A.drop k).set k x = (O ++ [x]) ++ A.drop (k + 1) := by
  rw [List.set_append_right _ _ (by omega), hO, Nat.sub_self, List.drop_eq_getElem_cons hk, List.set_cons_zero]
  simp

/-- Limbs of a sum, one more. -/
theorem limb_add {o p c c' x y r a b : Nat} (h : o + p * c = a + b) (hr : r = (x + y + c) % 18446744073709551616) (hc : c' = (x + y + c) / 18446744073709551616) :
    (o + p * r) + p * 18446744073709551616 * c' = (a + p * x) + (b + p * y) := by
  have h1 := Nat.mod_add_div (x + y + c) 18446744073709551616
  rw [← hr, ← hc] at h1
  have h2 : p * (r + 18446744073709551616 * c') = p * (x + y + c) := by rw [h1]
  rw [Nat.mul_add, Nat.mul_add, Nat.mul_add, ← Nat.mul_assoc] at h2
  omega

def AddPost (g off : Nat) (A B : List Nat) (w : World) (e : Ending) (w' : World) : Prop :=
  ∃ (O : List Nat) (c : Nat), e = .returned (.int .u64 (c : Int)) ∧ O.length = A.length ∧ Fits O ∧ c ≤ 1 ∧ lv O + 2 ^ (64 * A.length) * c = lv A + lv B ∧ Seg w' g off O ∧ Wrote g off (off + A.length) w w'

def AddAt (z g off ca cb : Nat) (b : Option Addr) (A B : List Nat) (w : World) (k : Nat) (W : World) : Prop :=
  ∃ (O : List Nat) (c : Nat), O.length = k ∧ k ≤ A.length ∧ Fits O ∧ c ≤ 1 ∧ lv O + 2 ^ (64 * k) * c = lv (A.take k) + lv (B.take k) ∧ Seg W g off (O ++ A.drop k) ∧ NatAt W b B ∧
    Box W z (.slice (some ⟨g, off, none⟩) A.length ca) ∧ Box W (z + 1) (.int .i64 (k : Int)) ∧ Box W (z + 2) (.int .u64 (c : Int)) ∧ Box W (z + 3) (.slice (some ⟨g, off, none⟩) A.length ca) ∧ Box W (z + 4) (.slice b B.length cb) ∧
    z + 5 ≤ W.heap.size ∧ Wrote g off (off + A.length) w W

theorem AddAt.below {z g off ca cb : Nat} {b : Option Addr} {A B : List Nat} {w : World} {k : Nat} {W W' : World} (hg : g < z) (hz : z = w.heap.size) (hbl : 0 < B.length → ∀ bl o, b = some ⟨bl, o, none⟩ → bl < z) (hb : Below (z + 5) W W') (h : AddAt z g off ca cb b A B w k W) : AddAt z g off ca cb b A B w k W' := by
  obtain ⟨O, c, h1, h2, h3, h4, h5, h6, h7, b0, b1, b2, b3, b4, hs, hw⟩ := h
  refine ⟨O, c, h1, h2, h3, h4, h5, h6.below hb (by omega), fun i hi => ?_, b0.below hb (by omega), b1.below hb (by omega), b2.below hb (by omega), b3.below hb (by omega), b4.below hb (by omega), Nat.le_trans hs hb.size, hw.after (hb.mono (by omega)) (by omega)⟩
  obtain ⟨bl, o, e, hc⟩ := h7 i hi
  exact ⟨bl, o, e, (hb.cell (p := ⟨bl, o + i, none⟩) (by show bl < z + 5; have := hbl (by omega) bl o e; omega)).trans hc⟩

set_option maxRecDepth 100000 in
set_option maxHeartbeats 2000000 in
theorem add_any (g off ca cb : Nat) (b : Option Addr) (A B : List Nat) (w : World) (hA : A.length ≤ 1099511627776) (hBA : B.length ≤ A.length) (fA : Fits A) (fB : Fits B)
    (hs : Seg w g off A) (hb : NatAt w b B) (hne : 0 < B.length → ∀ bl o, b = some ⟨bl, o, none⟩ → bl ≠ g ∧ bl < w.heap.size) :
    Calls Try.prog 65 #[.slice (some ⟨g, off, none⟩) A.length ca, .slice b B.length cb] w (AddPost g off A B w) := by
  obtain ⟨z, hz⟩ : ∃ z, z = w.heap.size := ⟨_, rfl⟩
  have hgz : g < z := by have := hs.block; omega
  have hbl : 0 < B.length → ∀ bl o, b = some ⟨bl, o, none⟩ → bl < z := fun h0 bl o e => by have := (hne h0 bl o e).2; omega
  obtain ⟨X, hX⟩ : ∃ X : Nat → Nat, ∀ k, X k = A.getD k 0 := ⟨_, fun _ => rfl⟩
  obtain ⟨Y, hY⟩ : ∃ Y : Nat → Nat, ∀ k, Y k = B.getD k 0 := ⟨_, fun _ => rfl⟩
  have HX := Lib.hid hX
  have HY := Lib.hid hY
  have HZ := Lib.hid hz
  clear hX hY hz
  refine (callsIn_wide (n := 3)).1 ?_
  refine callsIn_of_wp_marks Try.func65 rfl trivial ?_ rfl
  simp only [Try.ntmps65, List.size_toArray, List.length_cons, List.length_nil, Nat.reduceAdd, Nat.reduceSub, Array.replicate_succ, Array.replicate_zero, List.push_toArray, List.append_toArray, List.nil_append, List.cons_append]
  gi_wp2_with (gi_at_call 63; refine (callsIn_wide.2 (pairs_any _ _ _ _ _ _ _)).mono ?_; rintro e w' ⟨rfl, rfl⟩)
  rw [← HZ.out]
  simp only [Nat.add_assoc, Nat.reduceAdd]
  generalize hW : (((((w.alloc (.cells #[.slice (some ⟨g, off, none⟩) A.length ca] 23)).alloc (.cells #[.int .i64 0] 3)).alloc (.cells #[.int .u64 0] 42)).alloc (.cells #[.slice (some ⟨g, off, none⟩) A.length ca] 23)).alloc (.cells #[.slice b B.length cb] 23)) = W0
  obtain ⟨c0, c1, c2, c3, c4, hsz, hbw⟩ := boxes5 HZ.out _ _ _ _ _ _ _ _ _ _ hW.symm
  clear hW
  have HW : AddAt z g off ca cb b A B w 0 W0 :=
    ⟨[], 0, rfl, Nat.zero_le _, fun x hx => (by cases hx), by omega, by simp [lv], hs.below hbw hs.block, hb.below hbw (Nat.le_refl _), c0, c1, c2, c3, c4, by omega, Wrote.of_below hbw _ _ _⟩
  clear c0 c1 c2 c3 c4 hbw
  refine wpIn_range_at (m := 1) (gf := 76) (lb := #[.pointer (some ⟨z + 3, 0, none⟩), .pointer (some ⟨z + 4, 0, none⟩)]) rfl (enters_of Try.func76 (by kernel_rfl) rfl) (pairs_at (z + 3) (z + 4) _ b ca cb A B X Y HX.out HY.out hA (by omega)) (fun _ => rfl)
    (AddAt z g off ca cb b A B w) (fun _ _ => False) (fun k W W' hb' h => h.below hgz HZ.out hbl (by rw [← hsz]; exact hb')) (fun _ _ _ _ h => h) (fun k W h => by obtain ⟨O, c, h1, h2, h3, h4, h5, h6, h7, b0, b1, b2, b3, b4, hss, hw⟩ := h; omega) (fun _ _ h => h.elim)
    (fun k W h => by obtain ⟨O, c, h1, h2, h3, h4, h5, h6, h7, b0, b1, b2, b3, b4, hss, hw⟩ := h; exact ⟨b3.1, b4.1, h6.from h1 h2, h7.from k⟩) HW
    (fun k => { tmps := #[.slice (some ⟨g, off, none⟩) A.length ca, .slice b B.length cb, .pointer (some ⟨z, 0, none⟩), undef, .int .u64 0, .pointer (some ⟨z + 1, 0, none⟩), .pointer (some ⟨z + 2, 0, none⟩), .int .u64 ((X k : Nat) : Int), .int .u64 ((Y k : Nat) : Int),
      .slice (some ⟨g, off, none⟩) A.length ca, .slice b B.length cb, .func (.func 76) #[] #[.pointer (some ⟨z + 3, 0, none⟩), .pointer (some ⟨z + 4, 0, none⟩)], .int .u64 ((X k : Nat) : Int), .int .u64 ((Y k : Nat) : Int), undef, undef, undef, undef, undef, undef, undef, undef, undef, undef, undef, undef, undef], defers := [] })
    ?assign ?body ?done ?stop
  case assign =>
    intro l k W K hK
    gi_wp2
    exact hK
  case body =>
    rintro l k W hk ⟨O, c, h1, h2, h3, h4, h5, h6, h7, b0, b1, b2, b3, b4, hss, hw⟩
    have hxA : X k = A.getD k 0 := HX.out k
    have hyB : Y k = B.getD k 0 := HY.out k
    generalize X k = x at hxA ⊢
    generalize Y k = y at hyB ⊢
    have hc0 := b0.1
    have hc1 := b1.1
    have hc2 := b2.1
    have hf1 := b1.2
    have hf2 := b2.2
    have hgc := h6.cell (i := k) (by rw [List.length_append, List.length_drop]; omega)
    have hgf := h6.frozen (off + k)
    have hkA : (k : Int) < (A.length : Int) := by omega
    have hk0 : (0 : Int) ≤ (k : Int) := by omega
    have hadd := run_add64 x y c h4
    have hx1 := getD_fits fA k
    have hy1 := getD_fits fB k
    obtain ⟨r, hr⟩ : ∃ r, r = (x + y + c) % 18446744073709551616 := ⟨_, rfl⟩
    obtain ⟨q, hq⟩ : ∃ q, q = (x + y + c) / 18446744073709551616 := ⟨_, rfl⟩
    have hst := limb_add h5 hr hq
    have hr1 : r < 18446744073709551616 := by rw [hr]; exact Nat.mod_lt _ (by decide)
    have hq1 : q ≤ 1 := by omega
    rw [← hr, ← hq] at hadd
    rw [hxA, hyB, ← lv_take_succ' A, ← lv_take_succ' B] at hst
    have H1 := Lib.hid h1
    have HXA := Lib.hid hxA
    have HYB := Lib.hid hyB
    have H5 := Lib.hid h5
    have HSZ := Lib.hid hsz
    have HST := Lib.hid hst
    clear h1 hxA hyB h5 hsz hx1 hy1 hr hq hst
    have HR1 := Lib.hid hr1
    clear hr1
    gi_wp2
    refine wpIn_region_walk (fun w' => w'.cell? ⟨z, 0, none⟩ = some (.slice (some ⟨g, off, none⟩) A.length ca) ∧ w'.cell? ⟨z + 1, 0, none⟩ = some (.int .i64 (k : Int)))
      [true, true, true, true, false, false, true, true, true, true, false, false] (by kernel_rfl) (by kernel_rfl) (by kernel_rfl) rfl (by kernel_rfl) (by rintro ⟨_, _, h⟩; exact h) (fun _ _ _ _ _ h => h) ?_
    have hS : W.drew.cell? ⟨z, 0, none⟩ = some (.slice (some ⟨g, off, none⟩) A.length ca) ∧ W.drew.cell? ⟨z + 1, 0, none⟩ = some (.int .i64 (k : Int)) := ⟨hc0, hc1⟩
    repeat (refine walkS_yes hS rfl (fun w' hw' => by obtain ⟨q0, q1⟩ := hw'; go_simp; rfl) ?_; simp only [Act.put, List.setIfInBounds_toArray, List.set_cons_zero, List.set_cons_succ])
    refine walkS_no rfl (fun K hK => ?_)
    go_simp
    refine hK _ _ hS ?_
    clear hK K
    refine walkS_no rfl (fun K hK => ?_)
    go_simp
    refine hK _ _ hS ?_
    clear hK K
    repeat (refine walkS_yes hS rfl (fun w' hw' => by obtain ⟨q0, q1⟩ := hw'; go_simp; rfl) ?_; simp only [Act.put, List.setIfInBounds_toArray, List.set_cons_zero, List.set_cons_succ])
    refine walkS_no rfl (fun K hK => ?_)
    go_simp
    refine hK _ _ ?_ ?_
    · exact ⟨(b0.other (by show g ≠ z; omega) _).drew.1, (b1.other (by show g ≠ z + 1; omega) _).drew.1⟩
    clear hK K
    refine walkS_no rfl (fun K hK => ?_)
    go_simp
    refine hK _ _ ?_ ?_
    · exact ⟨((b0.other (by show g ≠ z; omega) _).other (by show z + 2 ≠ z; omega) _).drew.1, ((b1.other (by show g ≠ z + 1; omega) _).other (by show z + 2 ≠ z + 1; omega) _).drew.1⟩
    clear hK K
    simp only [walkS]
    gi_wp2
    have s1 := h6.set (k := k) (by rw [List.length_append, List.length_drop, H1.out]; omega) r
    rw [set_mid H1.out hk] at s1
    refine ⟨keeps_drew (keeps_set (keeps_set (keeps_set (KeepsFrom.refl _ _) _ _) _ _) _ _), O ++ [r], q, by rw [List.length_append, H1.out]; rfl, hk, fits_snoc h3 HR1.out, hq1, ?_, ?_, ?_,
      (((b0.other (by show g ≠ z; omega) _).other (by show z + 2 ≠ z; omega) _).other (by show z + 1 ≠ z; omega) _).drew,
      (((b1.other (by show g ≠ z + 1; omega) _).other (by show z + 2 ≠ z + 1; omega) _).set _).drew,
      (((b2.other (by show g ≠ z + 2; omega) _).set _).other (by show z + 1 ≠ z + 2; omega) _).drew,
      (((b3.other (by show g ≠ z + 3; omega) _).other (by show z + 2 ≠ z + 3; omega) _).other (by show z + 1 ≠ z + 3; omega) _).drew,
      (((b4.other (by show g ≠ z + 4; omega) _).other (by show z + 2 ≠ z + 4; omega) _).other (by show z + 1 ≠ z + 4; omega) _).drew, ?_, ?_⟩
    · rw [lv_snoc, H1.out, show 2 ^ (64 * (k + 1)) = 2 ^ (64 * k) * 18446744073709551616 by rw [Nat.mul_add, Nat.pow_add]]
      exact HST.out
    · exact ((s1.other (by show z + 2 ≠ g; omega) _).other (by show z + 1 ≠ g; omega) _).drew
    · exact (((h7.other (p := ⟨g, off + k, none⟩) (fun h0 bl o e => (hne h0 bl o e).1) _).other (p := ⟨z + 2, 0, none⟩) (fun h0 bl o e => by have := hbl h0 bl o e; show bl ≠ z + 2; omega) _).other (p := ⟨z + 1, 0, none⟩) (fun h0 bl o e => by have := hbl h0 bl o e; show bl ≠ z + 1; omega) _).drew
    · show z + 5 ≤ (World.setCell _ _ _).heap.size
      rw [size_set, size_set, size_set]; exact hss
    · have hzz := HZ.out
      exact (((hw.setIn (by omega) (by omega) _).setNew hs.block (by show w.heap.size ≤ z + 2; omega) _).setNew hs.block (by show w.heap.size ≤ z + 1; omega) _).drew
  case done =>
    rintro D W hD ⟨O, c, h1, h2, h3, h4, h5, h6, h7, b0, b1, b2, b3, b4, hss, hw⟩ hK
    have hc2 := b2.1
    gi_wp2
    have H1 := Lib.hid h1
    have H5 := Lib.hid h5
    clear h1 h5
    refine ⟨by simp, .inl ⟨_, _, rfl, run_takeDeferred hK, ?_⟩⟩
    have b1 : Below W0.heap.size W (W.putObj D (.deferred none)) := below_putObj W D _ hD (by omega)
    have e1 := h6
    rw [List.drop_eq_nil_of_le (Nat.le_refl _), List.append_nil] at e1
    have e5 := H5.out
    rw [List.take_of_length_le (Nat.le_refl _), List.take_of_length_le hBA] at e5
    have hzz := HZ.out
    exact ⟨_, results_tmp rfl _ _ _, O, c, rfl, H1.out, h3, h4, e5, e1.below b1 (by omega), hw.after (b1.mono (by omega)) hs.block⟩
  case stop =>
    rintro D k W _ _ h _
    exact h.elim
end Go.Proofs.Ytcdedaihkfpafaa

namespace Go.Proofs.Ytcdedaihkfpafaa
open Go.RowKit Go.Shelf
attribute [local go_sem] Oper.semAt_some wide_fn

/-- Limbs of a difference, one more. -/
theorem limb_sub {o p c c' x y r a b : Nat} (h : o + b = a + p * c) (hr : r = (x + 18446744073709551616 - y - c) % 18446744073709551616) (hc : c' = if x < y + c then 1 else 0) (hx : x < 18446744073709551616) (hy : y < 18446744073709551616) (h1 : c ≤ 1) :
    (o + p * r) + (b + p * y) = (a + p * x) + p * 18446744073709551616 * c' := by
  have e : r + y + c = x + 18446744073709551616 * c' := by
    split at hc <;> omega
  have h2 : p * (r + y + c) = p * (x + 18446744073709551616 * c') := by rw [e]
  rw [Nat.mul_add, Nat.mul_add, Nat.mul_add, ← Nat.mul_assoc] at h2
  omega

def SubPost (g off : Nat) (A B : List Nat) (w : World) (e : Ending) (w' : World) : Prop :=
  ∃ (O : List Nat) (c : Nat) (v : Value), e = .returned v ∧ O.length = A.length ∧ Fits O ∧ c ≤ 1 ∧ lv O + lv B = lv A + 2 ^ (64 * A.length) * c ∧ Seg w' g off O ∧ Wrote g off (off + A.length) w w'

def SubAt (z g off ca cb : Nat) (b : Option Addr) (A B : List Nat) (w : World) (k : Nat) (W : World) : Prop :=
  ∃ (O : List Nat) (c : Nat), O.length = k ∧ k ≤ A.length ∧ Fits O ∧ c ≤ 1 ∧ lv O + lv (B.take k) = lv (A.take k) + 2 ^ (64 * k) * c ∧ Seg W g off (O ++ A.drop k) ∧ NatAt W b B ∧
    Box W z (.slice (some ⟨g, off, none⟩) A.length ca) ∧ Box W (z + 1) (.int .i64 (k : Int)) ∧ Box W (z + 2) (.int .u64 (c : Int)) ∧ Box W (z + 3) (.slice (some ⟨g, off, none⟩) A.length ca) ∧ Box W (z + 4) (.slice b B.length cb) ∧
    z + 5 ≤ W.heap.size ∧ Wrote g off (off + A.length) w W

theorem SubAt.below {z g off ca cb : Nat} {b : Option Addr} {A B : List Nat} {w : World} {k : Nat} {W W' : World} (hg : g < z) (hz : z = w.heap.size) (hbl : 0 < B.length → ∀ bl o, b = some ⟨bl, o, none⟩ → bl < z) (hb : Below (z + 5) W W') (h : SubAt z g off ca cb b A B w k W) : SubAt z g off ca cb b A B w k W' := by
  obtain ⟨O, c, h1, h2, h3, h4, h5, h6, h7, b0, b1, b2, b3, b4, hs, hw⟩ := h
  refine ⟨O, c, h1, h2, h3, h4, h5, h6.below hb (by omega), fun i hi => ?_, b0.below hb (by omega), b1.below hb (by omega), b2.below hb (by omega), b3.below hb (by omega), b4.below hb (by omega), Nat.le_trans hs hb.size, hw.after (hb.mono (by omega)) (by omega)⟩
  obtain ⟨bl, o, e, hc⟩ := h7 i hi
  exact ⟨bl, o, e, (hb.cell (p := ⟨bl, o + i, none⟩) (by show bl < z + 5; have := hbl (by omega) bl o e; omega)).trans hc⟩

set_option maxRecDepth 100000 in
set_option maxHeartbeats 2000000 in
theorem subtract_any (g off ca cb : Nat) (b : Option Addr) (A B : List Nat) (w : World) (hA : A.length ≤ 1099511627776) (hBA : B.length ≤ A.length) (fA : Fits A) (fB : Fits B)
    (hs : Seg w g off A) (hb : NatAt w b B) (hne : 0 < B.length → ∀ bl o, b = some ⟨bl, o, none⟩ → bl ≠ g ∧ bl < w.heap.size) :
    Calls Try.prog 52 #[.slice (some ⟨g, off, none⟩) A.length ca, .slice b B.length cb] w (SubPost g off A B w) := by
  obtain ⟨z, hz⟩ : ∃ z, z = w.heap.size := ⟨_, rfl⟩
  have hgz : g < z := by have := hs.block; omega
  have hbl : 0 < B.length → ∀ bl o, b = some ⟨bl, o, none⟩ → bl < z := fun h0 bl o e => by have := (hne h0 bl o e).2; omega
  obtain ⟨X, hX⟩ : ∃ X : Nat → Nat, ∀ k, X k = A.getD k 0 := ⟨_, fun _ => rfl⟩
  obtain ⟨Y, hY⟩ : ∃ Y : Nat → Nat, ∀ k, Y k = B.getD k 0 := ⟨_, fun _ => rfl⟩
  have HX := Lib.hid hX
  have HY := Lib.hid hY
  have HZ := Lib.hid hz
  clear hX hY hz
  refine (callsIn_wide (n := 3)).1 ?_
  refine callsIn_of_wp_marks Try.func52 rfl trivial ?_ rfl
  simp only [Try.ntmps52, List.size_toArray, List.length_cons, List.length_nil, Nat.reduceAdd, Nat.reduceSub, Array.replicate_succ, Array.replicate_zero, List.push_toArray, List.append_toArray, List.nil_append, List.cons_append]
  gi_wp2_with (gi_at_call 63; refine (callsIn_wide.2 (pairs_any _ _ _ _ _ _ _)).mono ?_; rintro e w' ⟨rfl, rfl⟩)
  rw [← HZ.out]
  simp only [Nat.add_assoc, Nat.reduceAdd]
  generalize hW : (((((w.alloc (.cells #[.slice (some ⟨g, off, none⟩) A.length ca] 23)).alloc (.cells #[.int .i64 0] 3)).alloc (.cells #[.int .u64 0] 42)).alloc (.cells #[.slice (some ⟨g, off, none⟩) A.length ca] 23)).alloc (.cells #[.slice b B.length cb] 23)) = W0
  obtain ⟨c0, c1, c2, c3, c4, hsz, hbw⟩ := boxes5 HZ.out _ _ _ _ _ _ _ _ _ _ hW.symm
  clear hW
  have HW : SubAt z g off ca cb b A B w 0 W0 :=
    ⟨[], 0, rfl, Nat.zero_le _, fun x hx => (by cases hx), by omega, by simp [lv], hs.below hbw hs.block, hb.below hbw (Nat.le_refl _), c0, c1, c2, c3, c4, by omega, Wrote.of_below hbw _ _ _⟩
  clear c0 c1 c2 c3 c4 hbw
  refine wpIn_range_at (m := 1) (gf := 76) (lb := #[.pointer (some ⟨z + 3, 0, none⟩), .pointer (some ⟨z + 4, 0, none⟩)]) rfl (enters_of Try.func76 (by kernel_rfl) rfl) (pairs_at (z + 3) (z + 4) _ b ca cb A B X Y HX.out HY.out hA (by omega)) (fun _ => rfl)
    (SubAt z g off ca cb b A B w) (fun _ _ => False) (fun k W W' hb' h => h.below hgz HZ.out hbl (by rw [← hsz]; exact hb')) (fun _ _ _ _ h => h) (fun k W h => by obtain ⟨O, c, h1, h2, h3, h4, h5, h6, h7, b0, b1, b2, b3, b4, hss, hw⟩ := h; omega) (fun _ _ h => h.elim)
    (fun k W h => by obtain ⟨O, c, h1, h2, h3, h4, h5, h6, h7, b0, b1, b2, b3, b4, hss, hw⟩ := h; exact ⟨b3.1, b4.1, h6.from h1 h2, h7.from k⟩) HW
    (fun k => { tmps := #[.slice (some ⟨g, off, none⟩) A.length ca, .slice b B.length cb, .pointer (some ⟨z, 0, none⟩), undef, .pointer (some ⟨z + 1, 0, none⟩), .pointer (some ⟨z + 2, 0, none⟩), .int .u64 ((X k : Nat) : Int), .int .u64 ((Y k : Nat) : Int),
      .slice (some ⟨g, off, none⟩) A.length ca, .slice b B.length cb, .func (.func 76) #[] #[.pointer (some ⟨z + 3, 0, none⟩), .pointer (some ⟨z + 4, 0, none⟩)], .int .u64 ((X k : Nat) : Int), .int .u64 ((Y k : Nat) : Int), undef, undef, undef, undef, undef, undef, undef, undef, undef, undef, undef, undef], defers := [] })
    ?assign ?body ?done ?stop
  case assign =>
    intro l k W K hK
    gi_wp2
    exact hK
  case body =>
    rintro l k W hk ⟨O, c, h1, h2, h3, h4, h5, h6, h7, b0, b1, b2, b3, b4, hss, hw⟩
    have hxA : X k = A.getD k 0 := HX.out k
    have hyB : Y k = B.getD k 0 := HY.out k
    generalize X k = x at hxA ⊢
    generalize Y k = y at hyB ⊢
    have hc0 := b0.1
    have hc1 := b1.1
    have hc2 := b2.1
    have hf1 := b1.2
    have hf2 := b2.2
    have hgc := h6.cell (i := k) (by rw [List.length_append, List.length_drop]; omega)
    have hgf := h6.frozen (off + k)
    have hkA : (k : Int) < (A.length : Int) := by omega
    have hk0 : (0 : Int) ≤ (k : Int) := by omega
    have hadd := run_sub64 x y c h4
    have hx1 := getD_fits fA k
    have hy1 := getD_fits fB k
    obtain ⟨r, hr⟩ : ∃ r, r = (x + 18446744073709551616 - y - c) % 18446744073709551616 := ⟨_, rfl⟩
    obtain ⟨q, hq⟩ : ∃ q, q = if x < y + c then 1 else 0 := ⟨_, rfl⟩
    rw [← hxA] at hx1
    rw [← hyB] at hy1
    have hst := limb_sub h5 hr hq hx1 hy1 h4
    have hr1 : r < 18446744073709551616 := by rw [hr]; exact Nat.mod_lt _ (by decide)
    have hq1 : q ≤ 1 := by rw [hq]; split <;> omega
    rw [← hr, ← hq] at hadd
    rw [hxA, hyB, ← lv_take_succ' A, ← lv_take_succ' B] at hst
    have H1 := Lib.hid h1
    have HXA := Lib.hid hxA
    have HYB := Lib.hid hyB
    have H5 := Lib.hid h5
    have HSZ := Lib.hid hsz
    have HST := Lib.hid hst
    clear h1 hxA hyB h5 hsz hx1 hy1 hr hq hst
    have HR1 := Lib.hid hr1
    clear hr1
    gi_wp2
    refine wpIn_region_walk (fun w' => w'.cell? ⟨z, 0, none⟩ = some (.slice (some ⟨g, off, none⟩) A.length ca) ∧ w'.cell? ⟨z + 1, 0, none⟩ = some (.int .i64 (k : Int)))
      [true, true, true, true, false, false, true, true, true, true, false, false] (by kernel_rfl) (by kernel_rfl) (by kernel_rfl) rfl (by kernel_rfl) (by rintro ⟨_, _, h⟩; exact h) (fun _ _ _ _ _ h => h) ?_
    have hS : W.drew.cell? ⟨z, 0, none⟩ = some (.slice (some ⟨g, off, none⟩) A.length ca) ∧ W.drew.cell? ⟨z + 1, 0, none⟩ = some (.int .i64 (k : Int)) := ⟨hc0, hc1⟩
    repeat (refine walkS_yes hS rfl (fun w' hw' => by obtain ⟨q0, q1⟩ := hw'; go_simp; rfl) ?_; simp only [Act.put, List.setIfInBounds_toArray, List.set_cons_zero, List.set_cons_succ])
    refine walkS_no rfl (fun K hK => ?_)
    go_simp
    refine hK _ _ hS ?_
    clear hK K
    refine walkS_no rfl (fun K hK => ?_)
    go_simp
    refine hK _ _ hS ?_
    clear hK K
    repeat (refine walkS_yes hS rfl (fun w' hw' => by obtain ⟨q0, q1⟩ := hw'; go_simp; rfl) ?_; simp only [Act.put, List.setIfInBounds_toArray, List.set_cons_zero, List.set_cons_succ])
    refine walkS_no rfl (fun K hK => ?_)
    go_simp
    refine hK _ _ ?_ ?_
    · exact ⟨(b0.other (by show g ≠ z; omega) _).drew.1, (b1.other (by show g ≠ z + 1; omega) _).drew.1⟩
    clear hK K
    refine walkS_no rfl (fun K hK => ?_)
    go_simp
    refine hK _ _ ?_ ?_
    · exact ⟨((b0.other (by show g ≠ z; omega) _).other (by show z + 2 ≠ z; omega) _).drew.1, ((b1.other (by show g ≠ z + 1; omega) _).other (by show z + 2 ≠ z + 1; omega) _).drew.1⟩
    clear hK K
    simp only [walkS]
    gi_wp2
    have s1 := h6.set (k := k) (by rw [List.length_append, List.length_drop, H1.out]; omega) r
    rw [set_mid H1.out hk] at s1
    refine ⟨keeps_drew (keeps_set (keeps_set (keeps_set (KeepsFrom.refl _ _) _ _) _ _) _ _), O ++ [r], q, by rw [List.length_append, H1.out]; rfl, hk, fits_snoc h3 HR1.out, hq1, ?_, ?_, ?_,
      (((b0.other (by show g ≠ z; omega) _).other (by show z + 2 ≠ z; omega) _).other (by show z + 1 ≠ z; omega) _).drew,
      (((b1.other (by show g ≠ z + 1; omega) _).other (by show z + 2 ≠ z + 1; omega) _).set _).drew,
      (((b2.other (by show g ≠ z + 2; omega) _).set _).other (by show z + 1 ≠ z + 2; omega) _).drew,
      (((b3.other (by show g ≠ z + 3; omega) _).other (by show z + 2 ≠ z + 3; omega) _).other (by show z + 1 ≠ z + 3; omega) _).drew,
      (((b4.other (by show g ≠ z + 4; omega) _).other (by show z + 2 ≠ z + 4; omega) _).other (by show z + 1 ≠ z + 4; omega) _).drew, ?_, ?_⟩
    · rw [lv_snoc, H1.out, show 2 ^ (64 * (k + 1)) = 2 ^ (64 * k) * 18446744073709551616 by rw [Nat.mul_add, Nat.pow_add]]
      exact HST.out
    · exact ((s1.other (by show z + 2 ≠ g; omega) _).other (by show z + 1 ≠ g; omega) _).drew
    · exact (((h7.other (p := ⟨g, off + k, none⟩) (fun h0 bl o e => (hne h0 bl o e).1) _).other (p := ⟨z + 2, 0, none⟩) (fun h0 bl o e => by have := hbl h0 bl o e; show bl ≠ z + 2; omega) _).other (p := ⟨z + 1, 0, none⟩) (fun h0 bl o e => by have := hbl h0 bl o e; show bl ≠ z + 1; omega) _).drew
    · show z + 5 ≤ (World.setCell _ _ _).heap.size
      rw [size_set, size_set, size_set]; exact hss
    · have hzz := HZ.out
      exact (((hw.setIn (by omega) (by omega) _).setNew hs.block (by show w.heap.size ≤ z + 2; omega) _).setNew hs.block (by show w.heap.size ≤ z + 1; omega) _).drew
  case done =>
    rintro D W hD ⟨O, c, h1, h2, h3, h4, h5, h6, h7, b0, b1, b2, b3, b4, hss, hw⟩ hK
    gi_wp2
    have H1 := Lib.hid h1
    have H5 := Lib.hid h5
    clear h1 h5
    refine ⟨by simp, .inl ⟨_, _, rfl, run_takeDeferred hK, ?_⟩⟩
    have b1 : Below W0.heap.size W (W.putObj D (.deferred none)) := below_putObj W D _ hD (by omega)
    have e1 := h6
    rw [List.drop_eq_nil_of_le (Nat.le_refl _), List.append_nil] at e1
    have e5 := H5.out
    rw [List.take_of_length_le (Nat.le_refl _), List.take_of_length_le hBA] at e5
    have hzz := HZ.out
    exact ⟨_, results_none rfl _ _ _, O, c, _, rfl, H1.out, h3, h4, e5, e1.below b1 (by omega), hw.after (b1.mono (by omega)) hs.block⟩
  case stop =>
    rintro D k W _ _ h _
    exact h.elim
end Go.Proofs.Ytcdedaihkfpafaa

namespace Go.Proofs.Ytcdedaihkfpafaa
open Go.RowKit Go.Shelf
attribute [local go_sem] Oper.semAt_some wide_fn

/-- The second number lies apart from the first, or is the first itself. -/
def Beside (g off z : Nat) (b : Option Addr) (A B : List Nat) (W : World) : Prop :=
  ((0 < B.length → ∀ bl o, b = some ⟨bl, o, none⟩ → bl ≠ g ∧ bl < z) ∧ NatAt W b B) ∨ (b = some ⟨g, off, none⟩ ∧ B = A)
theorem Beside.below {g off z n : Nat} {b : Option Addr} {A B : List Nat} {W W' : World} (h : Beside g off z b A B W) (hb : Below n W W') (hn : z ≤ n) : Beside g off z b A B W' := by
  rcases h with ⟨h1, h2⟩ | h
  · refine .inl ⟨h1, fun i hi => ?_⟩
    obtain ⟨bl, o, e, hc⟩ := h2 i hi
    exact ⟨bl, o, e, (hb.cell (p := ⟨bl, o + i, none⟩) (by show bl < n; have := (h1 (by omega) bl o e).2; omega)).trans hc⟩
  · exact .inr h
theorem Beside.set {g off z o : Nat} {b : Option Addr} {A B : List Nat} {W : World} (h : Beside g off z b A B W) (v : Value) : Beside g off z b A B (W.setCell ⟨g, o, none⟩ v) := by
  rcases h with ⟨h1, h2⟩ | h
  · exact .inl ⟨h1, h2.other (p := ⟨g, o, none⟩) (fun h0 bl o e => (h1 h0 bl o e).1) v⟩
  · exact .inr h
theorem Beside.other {g off z : Nat} {b : Option Addr} {A B : List Nat} {W : World} (h : Beside g off z b A B W) {p : Addr} (hp : z ≤ p.block) (v : Value) : Beside g off z b A B (W.setCell p v) := by
  rcases h with ⟨h1, h2⟩ | h
  · exact .inl ⟨h1, h2.other (fun h0 bl o e => by have := (h1 h0 bl o e).2; omega) v⟩
  · exact .inr h
theorem Beside.drew {g off z : Nat} {b : Option Addr} {A B : List Nat} {W : World} (h : Beside g off z b A B W) : Beside g off z b A B W.drew := h
theorem Beside.from {g off z k : Nat} {b : Option Addr} {O A B : List Nat} {W : World} (h : Beside g off z b A B W) (hs : Seg W g off (O ++ A.drop k)) (hO : O.length = k) (hk : k ≤ A.length) : NatFrom k W b B := by
  rcases h with ⟨_, h2⟩ | ⟨rfl, rfl⟩
  · exact h2.from k
  · exact hs.from hO hk

theorem mul_small {y n : Nat} (hy : y < 18446744073709551616) (hn : n < 18446744073709551616) : y * n ≤ 18446744073709551615 * 18446744073709551615 := Nat.mul_le_mul (by omega) (by omega)
/-- Limbs of a sum with a product, one more. -/
theorem limb_times {o p c c' x y n r a b : Nat} (h : o + p * c = a + n * b) (hr : r + 18446744073709551616 * c' = x + y * n + c) :
    (o + p * r) + p * 18446744073709551616 * c' = (a + p * x) + n * (b + p * y) := by
  have h2 : p * (r + 18446744073709551616 * c') = p * (x + y * n + c) := by rw [hr]
  have h3 : n * (p * y) = p * (y * n) := by rw [Nat.mul_left_comm, Nat.mul_comm n y]
  rw [Nat.mul_add, Nat.mul_add, Nat.mul_add, ← Nat.mul_assoc] at h2
  rw [Nat.mul_add, h3]
  omega

def TimesPost (g off n : Nat) (A B : List Nat) (w : World) (e : Ending) (w' : World) : Prop :=
  ∃ (O : List Nat) (c : Nat), e = .returned (.int .u64 (c : Int)) ∧ O.length = A.length ∧ Fits O ∧ c < 18446744073709551616 ∧ lv O + 2 ^ (64 * A.length) * c = lv A + n * lv B ∧ Seg w' g off O ∧ Wrote g off (off + A.length) w w'

def TimesAt (z g off ca cb n : Nat) (b : Option Addr) (A B : List Nat) (w : World) (k : Nat) (W : World) : Prop :=
  ∃ (O : List Nat) (c : Nat), O.length = k ∧ k ≤ A.length ∧ Fits O ∧ c < 18446744073709551616 ∧ lv O + 2 ^ (64 * k) * c = lv (A.take k) + n * lv (B.take k) ∧ Seg W g off (O ++ A.drop k) ∧ Beside g off z b A B W ∧
    Box W z (.slice (some ⟨g, off, none⟩) A.length ca) ∧ Box W (z + 1) (.int .u64 (n : Int)) ∧ Box W (z + 2) (.int .i64 (k : Int)) ∧ Box W (z + 3) (.int .u64 (c : Int)) ∧ Box W (z + 4) (.slice (some ⟨g, off, none⟩) A.length ca) ∧ Box W (z + 5) (.slice b B.length cb) ∧
    z + 6 ≤ W.heap.size ∧ Wrote g off (off + A.length) w W

theorem TimesAt.below {z g off ca cb n : Nat} {b : Option Addr} {A B : List Nat} {w : World} {k : Nat} {W W' : World} (hg : g < z) (hz : z = w.heap.size) (hb : Below (z + 6) W W') (h : TimesAt z g off ca cb n b A B w k W) : TimesAt z g off ca cb n b A B w k W' := by
  obtain ⟨O, c, h1, h2, h3, h4, h5, h6, h7, b0, b1, b2, b3, b4, b5, hs, hw⟩ := h
  exact ⟨O, c, h1, h2, h3, h4, h5, h6.below hb (by omega), h7.below hb (by omega), b0.below hb (by omega), b1.below hb (by omega), b2.below hb (by omega), b3.below hb (by omega), b4.below hb (by omega), b5.below hb (by omega), Nat.le_trans hs hb.size, hw.after (hb.mono (by omega)) (by omega)⟩

set_option maxRecDepth 100000 in
set_option maxHeartbeats 2000000 in
theorem addTimes_any (g off ca cb n : Nat) (b : Option Addr) (A B : List Nat) (w : World) (hA : A.length ≤ 1099511627776) (hBA : B.length ≤ A.length) (fA : Fits A) (fB : Fits B) (hn : n < 18446744073709551616)
    (hs : Seg w g off A) (hb : Beside g off w.heap.size b A B w) :
    Calls Try.prog 64 #[.slice (some ⟨g, off, none⟩) A.length ca, .slice b B.length cb, .int .u64 (n : Int)] w (TimesPost g off n A B w) := by
  obtain ⟨z, hz⟩ : ∃ z, z = w.heap.size := ⟨_, rfl⟩
  have hgz : g < z := by have := hs.block; omega
  rw [← hz] at hb
  obtain ⟨X, hX⟩ : ∃ X : Nat → Nat, ∀ k, X k = A.getD k 0 := ⟨_, fun _ => rfl⟩
  obtain ⟨Y, hY⟩ : ∃ Y : Nat → Nat, ∀ k, Y k = B.getD k 0 := ⟨_, fun _ => rfl⟩
  have HX := Lib.hid hX
  have HY := Lib.hid hY
  have HZ := Lib.hid hz
  have HB := Lib.hid hb
  clear hX hY hz hb
  refine (callsIn_wide (n := 3)).1 ?_
  refine callsIn_of_wp_marks Try.func64 rfl trivial ?_ rfl
  simp only [Try.ntmps64, List.size_toArray, List.length_cons, List.length_nil, Nat.reduceAdd, Nat.reduceSub, Array.replicate_succ, Array.replicate_zero, List.push_toArray, List.append_toArray, List.nil_append, List.cons_append]
  gi_wp2_with (gi_at_call 63; refine (callsIn_wide.2 (pairs_any _ _ _ _ _ _ _)).mono ?_; rintro e w' ⟨rfl, rfl⟩)
  rw [← HZ.out]
  simp only [Nat.add_assoc, Nat.reduceAdd]
  generalize hW : ((((((w.alloc (.cells #[.slice (some ⟨g, off, none⟩) A.length ca] 23)).alloc (.cells #[.int .u64 (n : Int)] 42)).alloc (.cells #[.int .i64 0] 3)).alloc (.cells #[.int .u64 0] 42)).alloc (.cells #[.slice (some ⟨g, off, none⟩) A.length ca] 23)).alloc (.cells #[.slice b B.length cb] 23)) = W0
  obtain ⟨c0, c1, c2, c3, c4, c5, hsz, hbw⟩ := boxes6 HZ.out _ _ _ _ _ _ _ _ _ _ _ _ hW.symm
  clear hW
  have HW : TimesAt z g off ca cb n b A B w 0 W0 :=
    ⟨[], 0, rfl, Nat.zero_le _, fun x hx => (by cases hx), by omega, by simp [lv], hs.below hbw hs.block, HB.out.below hbw (by have := HZ.out; omega), c0, c1, c2, c3, c4, c5, by omega, Wrote.of_below hbw _ _ _⟩
  clear c0 c1 c2 c3 c4 c5 hbw
  refine wpIn_range_at (m := 1) (gf := 76) (lb := #[.pointer (some ⟨z + 4, 0, none⟩), .pointer (some ⟨z + 5, 0, none⟩)]) rfl (enters_of Try.func76 (by kernel_rfl) rfl) (pairs_at (z + 4) (z + 5) _ b ca cb A B X Y HX.out HY.out hA (by omega)) (fun _ => rfl)
    (TimesAt z g off ca cb n b A B w) (fun _ _ => False) (fun k W W' hb' h => h.below hgz HZ.out (by rw [← hsz]; exact hb')) (fun _ _ _ _ h => h) (fun k W h => by obtain ⟨O, c, h1, h2, h3, h4, h5, h6, h7, b0, b1, b2, b3, b4, b5, hss, hw⟩ := h; omega) (fun _ _ h => h.elim)
    (fun k W h => by obtain ⟨O, c, h1, h2, h3, h4, h5, h6, h7, b0, b1, b2, b3, b4, b5, hss, hw⟩ := h; exact ⟨b4.1, b5.1, h6.from h1 h2, h7.from h6 h1 h2⟩) HW
    (fun k => { tmps := #[.slice (some ⟨g, off, none⟩) A.length ca, .slice b B.length cb, .int .u64 (n : Int), .pointer (some ⟨z, 0, none⟩), undef, .pointer (some ⟨z + 1, 0, none⟩), .int .u64 0, .pointer (some ⟨z + 2, 0, none⟩), .pointer (some ⟨z + 3, 0, none⟩), .int .u64 ((X k : Nat) : Int), .int .u64 ((Y k : Nat) : Int), undef, undef, undef,
      .slice (some ⟨g, off, none⟩) A.length ca, .slice b B.length cb, .func (.func 76) #[] #[.pointer (some ⟨z + 4, 0, none⟩), .pointer (some ⟨z + 5, 0, none⟩)], .int .u64 ((X k : Nat) : Int), .int .u64 ((Y k : Nat) : Int),
      undef, undef, undef, undef, undef, undef, undef, undef, undef, undef, undef, undef, undef, undef, undef, undef, undef, undef, undef, undef, undef, undef, undef, undef, undef, undef, undef, undef, undef, undef], defers := [] })
    ?assign ?body ?done ?stop
  case assign =>
    intro l k W K hK
    gi_wp2
    exact hK
  case body =>
    rintro l k W hk ⟨O, c, h1, h2, h3, h4, h5, h6, h7, b0, b1, b2, b3, b4, b5, hss, hw⟩
    have hxA : X k = A.getD k 0 := HX.out k
    have hyB : Y k = B.getD k 0 := HY.out k
    generalize X k = x at hxA ⊢
    generalize Y k = y at hyB ⊢
    have hc0 := b0.1
    have hc1 := b1.1
    have hc2 := b2.1
    have hc3 := b3.1
    have hf2 := b2.2
    have hf3 := b3.2
    have hgc := h6.cell (i := k) (by rw [List.length_append, List.length_drop]; omega)
    have hgf := h6.frozen (off + k)
    have hkA : (k : Int) < (A.length : Int) := by omega
    have hk0 : (0 : Int) ≤ (k : Int) := by omega
    have hx1 := getD_fits fA k
    have hy1 := getD_fits fB k
    rw [← hxA] at hx1
    rw [← hyB] at hy1
    have hm := mul_small hy1 hn
    have HM0 := Try.bits_Mul64 y n hy1 hn W
    obtain ⟨hi, hhi⟩ : ∃ hi, hi = y * n / 18446744073709551616 := ⟨_, rfl⟩
    obtain ⟨lo, hlo⟩ : ∃ lo, lo = y * n % 18446744073709551616 := ⟨_, rfl⟩
    rw [← hhi, ← hlo] at HM0
    have HM := Lib.hid HM0
    have hadd1 := run_add64 lo c 0 (by omega)
    obtain ⟨l1, hl1⟩ : ∃ l1, l1 = (lo + c + 0) % 18446744073709551616 := ⟨_, rfl⟩
    obtain ⟨q1, hq1⟩ : ∃ q1, q1 = (lo + c + 0) / 18446744073709551616 := ⟨_, rfl⟩
    rw [← hl1, ← hq1] at hadd1
    have hadd2 := run_add64 x l1 0 (by omega)
    obtain ⟨r, hr⟩ : ∃ r, r = (x + l1 + 0) % 18446744073709551616 := ⟨_, rfl⟩
    obtain ⟨q2, hq2⟩ : ∃ q2, q2 = (x + l1 + 0) / 18446744073709551616 := ⟨_, rfl⟩
    rw [← hr, ← hq2] at hadd2
    simp only [Int.natCast_zero] at hadd1 hadd2
    have hst := limb_times (c' := hi + q1 + q2) (x := x) (y := y) (r := r) h5 (by omega)
    rw [hxA, hyB, ← lv_take_succ' A, ← lv_take_succ' B] at hst
    have i1 : (hi : Int) + (q1 : Int) ≤ 18446744073709551615 := by omega
    have i2 : (hi : Int) + (q1 : Int) + (q2 : Int) ≤ 18446744073709551615 := by omega
    have i3 : (0 : Int) ≤ (hi : Int) + (q1 : Int) := by omega
    have i4 : (0 : Int) ≤ (hi : Int) + (q1 : Int) + (q2 : Int) := by omega
    have HC : Hid (hi + q1 + q2 < 18446744073709551616) := Lib.hid (by omega)
    have HR : Hid (r < 18446744073709551616) := Lib.hid (by omega)
    have H1 := Lib.hid h1
    have HXA := Lib.hid hxA
    have HYB := Lib.hid hyB
    have HST := Lib.hid hst
    have HSZ := Lib.hid hsz
    clear h1 hxA hyB h5 hsz hx1 hy1 hm hhi hlo hl1 hq1 hr hq2 hst HM0 h4
    gi_wp2_with (gi_at_call 77; refine (CallsIn.inRound l (callsIn_wide.2 HM.out)).mono ?_; rintro e W ⟨rfl, rfl⟩)
    refine wpIn_region_walk (fun w' => w'.cell? ⟨z, 0, none⟩ = some (.slice (some ⟨g, off, none⟩) A.length ca) ∧ w'.cell? ⟨z + 2, 0, none⟩ = some (.int .i64 (k : Int)))
      [true, true, true, true, false, true, true, true, true, false, true] (by kernel_rfl) (by kernel_rfl) (by kernel_rfl) rfl (by kernel_rfl) (by rintro ⟨_, _, h⟩; exact h) (fun _ _ _ _ _ h => h) ?_
    have hS : W.drew.cell? ⟨z, 0, none⟩ = some (.slice (some ⟨g, off, none⟩) A.length ca) ∧ W.drew.cell? ⟨z + 2, 0, none⟩ = some (.int .i64 (k : Int)) := ⟨hc0, hc2⟩
    repeat (refine walkS_yes hS rfl (fun w' hw' => by obtain ⟨q0, q1⟩ := hw'; go_simp; rfl) ?_; simp only [Act.put, List.setIfInBounds_toArray, List.set_cons_zero, List.set_cons_succ])
    refine walkS_no rfl (fun K hK => ?_)
    go_simp
    refine hK _ _ hS ?_
    clear hK K
    repeat (refine walkS_yes hS rfl (fun w' hw' => by obtain ⟨q0, q1⟩ := hw'; go_simp; rfl) ?_; simp only [Act.put, List.setIfInBounds_toArray, List.set_cons_zero, List.set_cons_succ])
    refine walkS_no rfl (fun K hK => ?_)
    go_simp
    have hS2 : (W.setCell ⟨g, off + k, none⟩ (.int .u64 (r : Int))).drew.cell? ⟨z, 0, none⟩ = some (.slice (some ⟨g, off, none⟩) A.length ca) ∧ (W.setCell ⟨g, off + k, none⟩ (.int .u64 (r : Int))).drew.cell? ⟨z + 2, 0, none⟩ = some (.int .i64 (k : Int)) :=
      ⟨(b0.other (by show g ≠ z; omega) _).drew.1, (b2.other (by show g ≠ z + 2; omega) _).drew.1⟩
    refine hK _ _ hS2 ?_
    clear hK K
    repeat (refine walkS_yes hS2 rfl (fun w' hw' => by obtain ⟨q0, q1⟩ := hw'; go_simp; rfl) ?_; simp only [Act.put, List.setIfInBounds_toArray, List.set_cons_zero, List.set_cons_succ])
    simp only [walkS]
    gi_wp2
    have s1 := h6.set (k := k) (by rw [List.length_append, List.length_drop, H1.out]; omega) r
    rw [set_mid H1.out hk] at s1
    have hzz := HZ.out
    refine ⟨keeps_drew (keeps_set (keeps_set (keeps_set (KeepsFrom.refl _ _) _ _) _ _) _ _), O ++ [r], hi + q1 + q2, by rw [List.length_append, H1.out]; rfl, hk, fits_snoc h3 HR.out, HC.out, ?_, ?_, ?_,
      (((b0.other (by show g ≠ z; omega) _).other (by show z + 3 ≠ z; omega) _).other (by show z + 2 ≠ z; omega) _).drew,
      (((b1.other (by show g ≠ z + 1; omega) _).other (by show z + 3 ≠ z + 1; omega) _).other (by show z + 2 ≠ z + 1; omega) _).drew,
      (((b2.other (by show g ≠ z + 2; omega) _).other (by show z + 3 ≠ z + 2; omega) _).set _).drew,
      (((b3.other (by show g ≠ z + 3; omega) _).set _).other (by show z + 2 ≠ z + 3; omega) _).drew,
      (((b4.other (by show g ≠ z + 4; omega) _).other (by show z + 3 ≠ z + 4; omega) _).other (by show z + 2 ≠ z + 4; omega) _).drew,
      (((b5.other (by show g ≠ z + 5; omega) _).other (by show z + 3 ≠ z + 5; omega) _).other (by show z + 2 ≠ z + 5; omega) _).drew, ?_, ?_⟩
    · rw [lv_snoc, H1.out, show 2 ^ (64 * (k + 1)) = 2 ^ (64 * k) * 18446744073709551616 by rw [Nat.mul_add, Nat.pow_add]]
      exact HST.out
    · exact ((s1.other (by show z + 3 ≠ g; omega) _).other (by show z + 2 ≠ g; omega) _).drew
    · exact (((h7.set _).other (by show z ≤ z + 3; omega) _).other (by show z ≤ z + 2; omega) _).drew
    · show z + 6 ≤ (World.setCell _ _ _).heap.size
      rw [size_set, size_set, size_set]; exact hss
    · exact (((hw.setIn (by omega) (by omega) _).setNew hs.block (by show w.heap.size ≤ z + 3; omega) _).setNew hs.block (by show w.heap.size ≤ z + 2; omega) _).drew
  case done =>
    rintro D W hD ⟨O, c, h1, h2, h3, h4, h5, h6, h7, b0, b1, b2, b3, b4, b5, hss, hw⟩ hK
    have hc3 := b3.1
    have H1 := Lib.hid h1
    have H5 := Lib.hid h5
    clear h1 h5
    gi_wp2
    refine ⟨by simp, .inl ⟨_, _, rfl, run_takeDeferred hK, ?_⟩⟩
    have b1 : Below W0.heap.size W (W.putObj D (.deferred none)) := below_putObj W D _ hD (by omega)
    have e1 := h6
    rw [List.drop_eq_nil_of_le (Nat.le_refl _), List.append_nil] at e1
    have e5 := H5.out
    rw [List.take_of_length_le (Nat.le_refl _), List.take_of_length_le hBA] at e5
    have hzz := HZ.out
    exact ⟨_, results_tmp rfl _ _ _, O, c, rfl, H1.out, h3, h4, e5, e1.below b1 (by omega), hw.after (b1.mono (by omega)) hs.block⟩
  case stop =>
    rintro D k W _ _ h _
    exact h.elim
end Go.Proofs.Ytcdedaihkfpafaa

namespace Go.Proofs.Ytcdedaihkfpafaa
open Go.RowKit Go.Shelf
attribute [local go_sem] Oper.semAt_some wide_fn

/-- Limbs of a number less a product, one more. -/
theorem limb_less {o p c c' x y n r a b : Nat} (h : o + n * b = a + p * c) (hr : r + y * n + c = x + 18446744073709551616 * c') :
    (o + p * r) + n * (b + p * y) = (a + p * x) + p * 18446744073709551616 * c' := by
  have h2 : p * (r + y * n + c) = p * (x + 18446744073709551616 * c') := by rw [hr]
  have h3 : n * (p * y) = p * (y * n) := by rw [Nat.mul_left_comm, Nat.mul_comm n y]
  rw [Nat.mul_add, Nat.mul_add, Nat.mul_add, ← Nat.mul_assoc p 18446744073709551616 c'] at h2
  rw [Nat.mul_add, h3]
  omega

def LessPost (g off n : Nat) (A B : List Nat) (w : World) (e : Ending) (w' : World) : Prop :=
  ∃ (O : List Nat) (c : Nat), e = .returned (.int .u64 (c : Int)) ∧ O.length = A.length ∧ Fits O ∧ c < 18446744073709551616 ∧ lv O + n * lv B = lv A + 2 ^ (64 * A.length) * c ∧ Seg w' g off O ∧ Wrote g off (off + A.length) w w'

def LessAt (z g off ca cb n : Nat) (b : Option Addr) (A B : List Nat) (w : World) (k : Nat) (W : World) : Prop :=
  ∃ (O : List Nat) (c : Nat), O.length = k ∧ k ≤ A.length ∧ Fits O ∧ c < 18446744073709551616 ∧ lv O + n * lv (B.take k) = lv (A.take k) + 2 ^ (64 * k) * c ∧ Seg W g off (O ++ A.drop k) ∧ Beside g off z b A B W ∧
    Box W z (.slice (some ⟨g, off, none⟩) A.length ca) ∧ Box W (z + 1) (.int .u64 (n : Int)) ∧ Box W (z + 2) (.int .i64 (k : Int)) ∧ Box W (z + 3) (.int .u64 (c : Int)) ∧ Box W (z + 4) (.slice (some ⟨g, off, none⟩) A.length ca) ∧ Box W (z + 5) (.slice b B.length cb) ∧
    z + 6 ≤ W.heap.size ∧ Wrote g off (off + A.length) w W

theorem LessAt.below {z g off ca cb n : Nat} {b : Option Addr} {A B : List Nat} {w : World} {k : Nat} {W W' : World} (hg : g < z) (hz : z = w.heap.size) (hb : Below (z + 6) W W') (h : LessAt z g off ca cb n b A B w k W) : LessAt z g off ca cb n b A B w k W' := by
  obtain ⟨O, c, h1, h2, h3, h4, h5, h6, h7, b0, b1, b2, b3, b4, b5, hs, hw⟩ := h
  exact ⟨O, c, h1, h2, h3, h4, h5, h6.below hb (by omega), h7.below hb (by omega), b0.below hb (by omega), b1.below hb (by omega), b2.below hb (by omega), b3.below hb (by omega), b4.below hb (by omega), b5.below hb (by omega), Nat.le_trans hs hb.size, hw.after (hb.mono (by omega)) (by omega)⟩

set_option maxRecDepth 100000 in
set_option maxHeartbeats 2000000 in
theorem subtractTimes_any (g off ca cb n : Nat) (b : Option Addr) (A B : List Nat) (w : World) (hA : A.length ≤ 1099511627776) (hBA : B.length ≤ A.length) (fA : Fits A) (fB : Fits B) (hn : n < 18446744073709551616)
    (hs : Seg w g off A) (hb : Beside g off w.heap.size b A B w) :
    Calls Try.prog 81 #[.slice (some ⟨g, off, none⟩) A.length ca, .slice b B.length cb, .int .u64 (n : Int)] w (LessPost g off n A B w) := by
  obtain ⟨z, hz⟩ : ∃ z, z = w.heap.size := ⟨_, rfl⟩
  have hgz : g < z := by have := hs.block; omega
  rw [← hz] at hb
  obtain ⟨X, hX⟩ : ∃ X : Nat → Nat, ∀ k, X k = A.getD k 0 := ⟨_, fun _ => rfl⟩
  obtain ⟨Y, hY⟩ : ∃ Y : Nat → Nat, ∀ k, Y k = B.getD k 0 := ⟨_, fun _ => rfl⟩
  have HX := Lib.hid hX
  have HY := Lib.hid hY
  have HZ := Lib.hid hz
  have HB := Lib.hid hb
  clear hX hY hz hb
  refine (callsIn_wide (n := 3)).1 ?_
  refine callsIn_of_wp_marks Try.func81 rfl trivial ?_ rfl
  simp only [Try.ntmps81, List.size_toArray, List.length_cons, List.length_nil, Nat.reduceAdd, Nat.reduceSub, Array.replicate_succ, Array.replicate_zero, List.push_toArray, List.append_toArray, List.nil_append, List.cons_append]
  gi_wp2_with (gi_at_call 63; refine (callsIn_wide.2 (pairs_any _ _ _ _ _ _ _)).mono ?_; rintro e w' ⟨rfl, rfl⟩)
  rw [← HZ.out]
  simp only [Nat.add_assoc, Nat.reduceAdd]
  generalize hW : ((((((w.alloc (.cells #[.slice (some ⟨g, off, none⟩) A.length ca] 23)).alloc (.cells #[.int .u64 (n : Int)] 42)).alloc (.cells #[.int .i64 0] 3)).alloc (.cells #[.int .u64 0] 42)).alloc (.cells #[.slice (some ⟨g, off, none⟩) A.length ca] 23)).alloc (.cells #[.slice b B.length cb] 23)) = W0
  obtain ⟨c0, c1, c2, c3, c4, c5, hsz, hbw⟩ := boxes6 HZ.out _ _ _ _ _ _ _ _ _ _ _ _ hW.symm
  clear hW
  have HW : LessAt z g off ca cb n b A B w 0 W0 :=
    ⟨[], 0, rfl, Nat.zero_le _, fun x hx => (by cases hx), by omega, by simp [lv], hs.below hbw hs.block, HB.out.below hbw (by have := HZ.out; omega), c0, c1, c2, c3, c4, c5, by omega, Wrote.of_below hbw _ _ _⟩
  clear c0 c1 c2 c3 c4 c5 hbw
  refine wpIn_range_at (m := 1) (gf := 76) (lb := #[.pointer (some ⟨z + 4, 0, none⟩), .pointer (some ⟨z + 5, 0, none⟩)]) rfl (enters_of Try.func76 (by kernel_rfl) rfl) (pairs_at (z + 4) (z + 5) _ b ca cb A B X Y HX.out HY.out hA (by omega)) (fun _ => rfl)
    (LessAt z g off ca cb n b A B w) (fun _ _ => False) (fun k W W' hb' h => h.below hgz HZ.out (by rw [← hsz]; exact hb')) (fun _ _ _ _ h => h) (fun k W h => by obtain ⟨O, c, h1, h2, h3, h4, h5, h6, h7, b0, b1, b2, b3, b4, b5, hss, hw⟩ := h; omega) (fun _ _ h => h.elim)
    (fun k W h => by obtain ⟨O, c, h1, h2, h3, h4, h5, h6, h7, b0, b1, b2, b3, b4, b5, hss, hw⟩ := h; exact ⟨b4.1, b5.1, h6.from h1 h2, h7.from h6 h1 h2⟩) HW
    (fun k => { tmps := #[.slice (some ⟨g, off, none⟩) A.length ca, .slice b B.length cb, .int .u64 (n : Int), .pointer (some ⟨z, 0, none⟩), undef, .pointer (some ⟨z + 1, 0, none⟩), .int .u64 0, .pointer (some ⟨z + 2, 0, none⟩), .pointer (some ⟨z + 3, 0, none⟩), .int .u64 ((X k : Nat) : Int), .int .u64 ((Y k : Nat) : Int), undef, undef, undef,
      .slice (some ⟨g, off, none⟩) A.length ca, .slice b B.length cb, .func (.func 76) #[] #[.pointer (some ⟨z + 4, 0, none⟩), .pointer (some ⟨z + 5, 0, none⟩)], .int .u64 ((X k : Nat) : Int), .int .u64 ((Y k : Nat) : Int),
      undef, undef, undef, undef, undef, undef, undef, undef, undef, undef, undef, undef, undef, undef, undef, undef, undef, undef, undef, undef, undef, undef, undef, undef, undef, undef, undef, undef, undef, undef], defers := [] })
    ?assign ?body ?done ?stop
  case assign =>
    intro l k W K hK
    gi_wp2
    exact hK
  case body =>
    rintro l k W hk ⟨O, c, h1, h2, h3, h4, h5, h6, h7, b0, b1, b2, b3, b4, b5, hss, hw⟩
    have hxA : X k = A.getD k 0 := HX.out k
    have hyB : Y k = B.getD k 0 := HY.out k
    generalize X k = x at hxA ⊢
    generalize Y k = y at hyB ⊢
    have hc0 := b0.1
    have hc1 := b1.1
    have hc2 := b2.1
    have hc3 := b3.1
    have hf2 := b2.2
    have hf3 := b3.2
    have hgc := h6.cell (i := k) (by rw [List.length_append, List.length_drop]; omega)
    have hgf := h6.frozen (off + k)
    have hkA : (k : Int) < (A.length : Int) := by omega
    have hk0 : (0 : Int) ≤ (k : Int) := by omega
    have hx1 := getD_fits fA k
    have hy1 := getD_fits fB k
    rw [← hxA] at hx1
    rw [← hyB] at hy1
    have hm := mul_small hy1 hn
    have HM0 := Try.bits_Mul64 y n hy1 hn W
    obtain ⟨hi, hhi⟩ : ∃ hi, hi = y * n / 18446744073709551616 := ⟨_, rfl⟩
    obtain ⟨lo, hlo⟩ : ∃ lo, lo = y * n % 18446744073709551616 := ⟨_, rfl⟩
    rw [← hhi, ← hlo] at HM0
    have HM := Lib.hid HM0
    have hadd1 := run_add64 lo c 0 (by omega)
    obtain ⟨l1, hl1⟩ : ∃ l1, l1 = (lo + c + 0) % 18446744073709551616 := ⟨_, rfl⟩
    obtain ⟨q1, hq1⟩ : ∃ q1, q1 = (lo + c + 0) / 18446744073709551616 := ⟨_, rfl⟩
    rw [← hl1, ← hq1] at hadd1
    have hadd2 := run_sub64 x l1 0 (by omega)
    obtain ⟨r, hr⟩ : ∃ r, r = (x + 18446744073709551616 - l1 - 0) % 18446744073709551616 := ⟨_, rfl⟩
    obtain ⟨q2, hq2⟩ : ∃ q2, q2 = if x < l1 + 0 then 1 else 0 := ⟨_, rfl⟩
    rw [← hr, ← hq2] at hadd2
    simp only [Int.natCast_zero] at hadd1 hadd2
    have hq3 : r + l1 = x + 18446744073709551616 * q2 ∧ q2 ≤ 1 ∧ (q2 = 1 → x < l1) := by
      split at hq2 <;> omega
    have hst := limb_less (c' := hi + q1 + q2) (x := x) (y := y) (r := r) h5 (by omega)
    rw [hxA, hyB, ← lv_take_succ' A, ← lv_take_succ' B] at hst
    have i1 : (hi : Int) + (q1 : Int) ≤ 18446744073709551615 := by omega
    have i2 : (hi : Int) + (q1 : Int) + (q2 : Int) ≤ 18446744073709551615 := by omega
    have i3 : (0 : Int) ≤ (hi : Int) + (q1 : Int) := by omega
    have i4 : (0 : Int) ≤ (hi : Int) + (q1 : Int) + (q2 : Int) := by omega
    have HC : Hid (hi + q1 + q2 < 18446744073709551616) := Lib.hid (by omega)
    have HR : Hid (r < 18446744073709551616) := Lib.hid (by omega)
    have H1 := Lib.hid h1
    have HXA := Lib.hid hxA
    have HYB := Lib.hid hyB
    have HST := Lib.hid hst
    have HSZ := Lib.hid hsz
    clear h1 hxA hyB h5 hsz hx1 hy1 hm hhi hlo hl1 hq1 hr hq2 hq3 hst HM0 h4
    gi_wp2_with (gi_at_call 77; refine (CallsIn.inRound l (callsIn_wide.2 HM.out)).mono ?_; rintro e W ⟨rfl, rfl⟩)
    refine wpIn_region_walk (fun w' => w'.cell? ⟨z, 0, none⟩ = some (.slice (some ⟨g, off, none⟩) A.length ca) ∧ w'.cell? ⟨z + 2, 0, none⟩ = some (.int .i64 (k : Int)))
      [true, true, true, true, false, true, true, true, true, false, true] (by kernel_rfl) (by kernel_rfl) (by kernel_rfl) rfl (by kernel_rfl) (by rintro ⟨_, _, h⟩; exact h) (fun _ _ _ _ _ h => h) ?_
    have hS : W.drew.cell? ⟨z, 0, none⟩ = some (.slice (some ⟨g, off, none⟩) A.length ca) ∧ W.drew.cell? ⟨z + 2, 0, none⟩ = some (.int .i64 (k : Int)) := ⟨hc0, hc2⟩
    repeat (refine walkS_yes hS rfl (fun w' hw' => by obtain ⟨q0, q1⟩ := hw'; go_simp; rfl) ?_; simp only [Act.put, List.setIfInBounds_toArray, List.set_cons_zero, List.set_cons_succ])
    refine walkS_no rfl (fun K hK => ?_)
    go_simp
    refine hK _ _ hS ?_
    clear hK K
    repeat (refine walkS_yes hS rfl (fun w' hw' => by obtain ⟨q0, q1⟩ := hw'; go_simp; rfl) ?_; simp only [Act.put, List.setIfInBounds_toArray, List.set_cons_zero, List.set_cons_succ])
    refine walkS_no rfl (fun K hK => ?_)
    go_simp
    have hS2 : (W.setCell ⟨g, off + k, none⟩ (.int .u64 (r : Int))).drew.cell? ⟨z, 0, none⟩ = some (.slice (some ⟨g, off, none⟩) A.length ca) ∧ (W.setCell ⟨g, off + k, none⟩ (.int .u64 (r : Int))).drew.cell? ⟨z + 2, 0, none⟩ = some (.int .i64 (k : Int)) :=
      ⟨(b0.other (by show g ≠ z; omega) _).drew.1, (b2.other (by show g ≠ z + 2; omega) _).drew.1⟩
    refine hK _ _ hS2 ?_
    clear hK K
    repeat (refine walkS_yes hS2 rfl (fun w' hw' => by obtain ⟨q0, q1⟩ := hw'; go_simp; rfl) ?_; simp only [Act.put, List.setIfInBounds_toArray, List.set_cons_zero, List.set_cons_succ])
    simp only [walkS]
    gi_wp2
    have s1 := h6.set (k := k) (by rw [List.length_append, List.length_drop, H1.out]; omega) r
    rw [set_mid H1.out hk] at s1
    have hzz := HZ.out
    refine ⟨keeps_drew (keeps_set (keeps_set (keeps_set (KeepsFrom.refl _ _) _ _) _ _) _ _), O ++ [r], hi + q1 + q2, by rw [List.length_append, H1.out]; rfl, hk, fits_snoc h3 HR.out, HC.out, ?_, ?_, ?_,
      (((b0.other (by show g ≠ z; omega) _).other (by show z + 3 ≠ z; omega) _).other (by show z + 2 ≠ z; omega) _).drew,
      (((b1.other (by show g ≠ z + 1; omega) _).other (by show z + 3 ≠ z + 1; omega) _).other (by show z + 2 ≠ z + 1; omega) _).drew,
      (((b2.other (by show g ≠ z + 2; omega) _).other (by show z + 3 ≠ z + 2; omega) _).set _).drew,
      (((b3.other (by show g ≠ z + 3; omega) _).set _).other (by show z + 2 ≠ z + 3; omega) _).drew,
      (((b4.other (by show g ≠ z + 4; omega) _).other (by show z + 3 ≠ z + 4; omega) _).other (by show z + 2 ≠ z + 4; omega) _).drew,
      (((b5.other (by show g ≠ z + 5; omega) _).other (by show z + 3 ≠ z + 5; omega) _).other (by show z + 2 ≠ z + 5; omega) _).drew, ?_, ?_⟩
    · rw [lv_snoc, H1.out, show 2 ^ (64 * (k + 1)) = 2 ^ (64 * k) * 18446744073709551616 by rw [Nat.mul_add, Nat.pow_add]]
      exact HST.out
    · exact ((s1.other (by show z + 3 ≠ g; omega) _).other (by show z + 2 ≠ g; omega) _).drew
    · exact (((h7.set _).other (by show z ≤ z + 3; omega) _).other (by show z ≤ z + 2; omega) _).drew
    · show z + 6 ≤ (World.setCell _ _ _).heap.size
      rw [size_set, size_set, size_set]; exact hss
    · exact (((hw.setIn (by omega) (by omega) _).setNew hs.block (by show w.heap.size ≤ z + 3; omega) _).setNew hs.block (by show w.heap.size ≤ z + 2; omega) _).drew
  case done =>
    rintro D W hD ⟨O, c, h1, h2, h3, h4, h5, h6, h7, b0, b1, b2, b3, b4, b5, hss, hw⟩ hK
    have hc3 := b3.1
    have H1 := Lib.hid h1
    have H5 := Lib.hid h5
    clear h1 h5
    gi_wp2
    refine ⟨by simp, .inl ⟨_, _, rfl, run_takeDeferred hK, ?_⟩⟩
    have b1 : Below W0.heap.size W (W.putObj D (.deferred none)) := below_putObj W D _ hD (by omega)
    have e1 := h6
    rw [List.drop_eq_nil_of_le (Nat.le_refl _), List.append_nil] at e1
    have e5 := H5.out
    rw [List.take_of_length_le (Nat.le_refl _), List.take_of_length_le hBA] at e5
    have hzz := HZ.out
    exact ⟨_, results_tmp rfl _ _ _, O, c, rfl, H1.out, h3, h4, e5, e1.below b1 (by omega), hw.after (b1.mono (by omega)) hs.block⟩
  case stop =>
    rintro D k W _ _ h _
    exact h.elim
end Go.Proofs.Ytcdedaihkfpafaa
