/-
  The texts NatPairs, NatAdd, NatTrim, NatAddTimes, NatMade, NatCmp, NatSum, NatShift, NatShr, NatMul, NatBits, NatBits2, NatNum, NatSmall, NatQSum, NatQMul, NatCompare, one behind the other.
-/
import Derived.Test.YtcbebikcfcidmaaDoorChaZ01
import Derived.Shelf.Spec.BitsCarry
import Derived.Lib.Hide
import Derived.IntWalk
import Derived.Deep.RegionHeld3
import Derived.Deep.QuietTactic
import Derived.BigQuiet
import Derived.Laws.BitsAllLaws
import Derived.Laws.CopyOwn

namespace Go.Proofs.YtcbebikcfcidmaaDoor
open Go.RowKit Go.Shelf
attribute [local go_sem] Oper.semAt_some

theorem run_add64 (x y c : Nat) (hc : c ≤ 1) (w : World) :
    (callFunc 91 #[.int .u64 (x : Int), .int .u64 (y : Int), .int .u64 (c : Int)]).run Tryd.prog w =
      .ok (.value (.tuple #[.int .u64 (((x + y + c) % 18446744073709551616 : Nat) : Int), .int .u64 (((x + y + c) / 18446744073709551616 : Nat) : Int)])) w := by
  rw [run_callFunc_extern Tryd.func91 (by kernel_rfl) (by kernel_rfl) (by kernel_rfl) (e := add64Entry) (by kernel_rfl), Go.run_add64 x y c (by omega) (by omega) (by omega) (by omega)]
  simp only [Result.andThen]
  congr 5 <;> omega
theorem run_sub64 (x y b : Nat) (hb : b ≤ 1) (w : World) :
    (callFunc 92 #[.int .u64 (x : Int), .int .u64 (y : Int), .int .u64 (b : Int)]).run Tryd.prog w =
      .ok (.value (.tuple #[.int .u64 (((x + 18446744073709551616 - y - b) % 18446744073709551616 : Nat) : Int), .int .u64 ((if x < y + b then 1 else 0 : Nat) : Int)])) w := by
  rw [run_callFunc_extern Tryd.func92 (by kernel_rfl) (by kernel_rfl) (by kernel_rfl) (e := sub64Entry) (by kernel_rfl), Go.Proofs.run_sub64 x y b hb]
  rfl

/-- What 'pairs' makes of two slices: two boxes, and a function that holds them. -/
def PairsPost (a b : Value) (w : World) (e : Ending) (w' : World) : Prop :=
  e = .returned (.func (.func 89) #[] #[.pointer (some ⟨w.heap.size, 0, none⟩), .pointer (some ⟨w.heap.size + 1, 0, none⟩)]) ∧ w' = (w.alloc (.cells #[a] 31)).alloc (.cells #[b] 31)

theorem pairs_any (a b : Option Addr) (la lb ca cb : Nat) (w : World) :
    Calls Tryd.prog 79 #[.slice a la ca, .slice b lb cb] w (PairsPost (.slice a la ca) (.slice b lb cb) w) := by
  go_enter Tryd.func79, Tryd.ntmps79
  go_wp2
  go_ret
  exact ⟨rfl, rfl⟩

/-- What the function reads ahead of round k. -/
def PairsRd (p q : Nat) (a b : Option Addr) (ca cb : Nat) (A B : List Nat) (k : Nat) (w : World) : Prop :=
  w.cell? ⟨p, 0, none⟩ = some (.slice a A.length ca) ∧ w.cell? ⟨q, 0, none⟩ = some (.slice b B.length cb) ∧ NatFrom k w a A ∧ NatFrom k w b B

set_option maxRecDepth 100000 in
set_option maxHeartbeats 2000000 in
theorem pairs_at (p q : Nat) (a b : Option Addr) (ca cb : Nat) (A B : List Nat) (X Y : Nat → Nat) (hX : ∀ k, X k = A.getD k 0) (hY0 : ∀ k, Y k = B.getD k 0) (hA : A.length ≤ 1099511627776) (_ : B.length ≤ 1099511627776) :
    SeqAt Tryd.prog 89 #[.pointer (some ⟨p, 0, none⟩), .pointer (some ⟨q, 0, none⟩)] A.length
      (fun k => #[.int .u64 ((X k : Nat) : Int), .int .u64 ((Y k : Nat) : Int)]) (PairsRd p q a b ca cb A B) := by
  intro m l J Jx W hRd _ hY h0
  refine callsIn_of_wp Tryd.func89 rfl trivial ?_ rfl
  simp only [Tryd.ntmps89, List.size_toArray, List.length_cons, List.length_nil, Nat.reduceAdd, Nat.reduceSub, Array.replicate_succ, Array.replicate_zero, List.push_toArray, List.append_toArray, List.nil_append, List.cons_append]
  obtain ⟨hp0, hq0, -, -⟩ := hRd 0 W h0
  have HRD := Lib.hid hRd
  have HY := Lib.hid hY
  have H0 := Lib.hid h0
  have HX := Lib.hid hX
  have HY0 := Lib.hid hY0
  clear hRd hY h0 hq0 hX hY0
  gi_wp2
  gi_loopw [9] (fun i wr => ∃ k : Nat, k ≤ A.length ∧ i = .int .i64 (k : Int) ∧ J k wr) (fun i _ => A.length - (intOf i).toNat)
  case atStart => exact ⟨0, Nat.zero_le _, rfl, H0.out⟩
  case round =>
    obtain ⟨k, hk, rfl, hJ⟩ := hrel
    have hk0 : (0 : Int) ≤ (k : Int) := by omega
    by_cases hlt : k < A.length
    · obtain ⟨_, hq, hfa, hfb⟩ := HRD.out k wr hJ
      obtain ⟨ba, oa, ea, hca⟩ := hfa k (Nat.le_refl _) hlt
      obtain ⟨fn, tmps, assign, body, hy, hR⟩ := HY.out k wr hlt hJ
      obtain ⟨x, hx⟩ : ∃ x, x = A.getD k 0 := ⟨_, rfl⟩
      obtain ⟨y, hyy⟩ : ∃ y, y = B.getD k 0 := ⟨_, rfl⟩
      rw [← hx] at hca
      rw [HX.out k, HY0.out k, ← hx, ← hyy] at hy
      have HR := Lib.hid hR
      clear hfa hp0 hx hR
      subst ea
      by_cases hbl : k < B.length
      · obtain ⟨bb, ob, eb, hcb⟩ := hfb k (Nat.le_refl _) hbl
        rw [← hyy] at hcb
        clear hfb hyy
        subst eb
        gi_wp2
        refine HR.out.mono ?_
        rintro e W3 (⟨rfl, hJ3⟩ | ⟨rfl, hJx3⟩)
        · gi_wp2
          go_roundw
          case rel => exact ⟨k + 1, by omega, by go_num, hJ3⟩
          case measure => simp [intOf]; omega
        · gi_wp2
          refine bodyPost_ret (results_none rfl _ _ _) rfl ?_
          exact ⟨⟨_, rfl⟩, .inr ⟨k + 1, by omega, hJx3⟩⟩
      · have h00 : B.getD k 0 = 0 := by rw [List.getD_eq_getElem?_getD, List.getElem?_eq_none (by omega)]; rfl
        rw [h00] at hyy
        subst hyy
        simp only [Int.natCast_zero] at hy
        clear hfb h00
        gi_wp2
        refine HR.out.mono ?_
        rintro e W3 (⟨rfl, hJ3⟩ | ⟨rfl, hJx3⟩)
        · gi_wp2
          go_roundw
          case rel => exact ⟨k + 1, by omega, by go_num, hJ3⟩
          case measure => simp [intOf]; omega
        · gi_wp2
          refine bodyPost_ret (results_none rfl _ _ _) rfl ?_
          exact ⟨⟨_, rfl⟩, .inr ⟨k + 1, by omega, hJx3⟩⟩
    · obtain rfl : k = A.length := by omega
      gi_wp2
      go_end0
      exact ⟨⟨_, rfl⟩, .inl hJ⟩
end Go.Proofs.YtcbebikcfcidmaaDoor

namespace Go.Proofs.YtcbebikcfcidmaaDoor
open Go.RowKit Go.Shelf
attribute [local go_sem] Oper.semAt_some wide_fn

theorem lv_snoc (O : List Nat) (x : Nat) : lv (O ++ [x]) = lv O + 2 ^ (64 * O.length) * x := by
  rw [lv_append]; simp [lv]
theorem lv_take_succ {A : List Nat} {k : Nat} (hk : k < A.length) : lv (A.take (k + 1)) = lv (A.take k) + 2 ^ (64 * k) * A.getD k 0 := by
  rw [List.take_succ_eq_append_getElem hk, lv_snoc, List.length_take, Nat.min_eq_left (by omega)]
  simp [hk]
theorem lv_take_succ' (A : List Nat) (k : Nat) : lv (A.take (k + 1)) = lv (A.take k) + 2 ^ (64 * k) * A.getD k 0 := by
  rcases Nat.lt_or_ge k A.length with h | h
  · exact lv_take_succ h
  · rw [List.take_of_length_le (by omega), List.take_of_length_le h, List.getD_eq_getElem?_getD, List.getElem?_eq_none h]; simp
theorem getD_fits {L : List Nat} (h : Fits L) (i : Nat) : L.getD i 0 < 18446744073709551616 := by
  rw [List.getD_eq_getElem?_getD]
  rcases Nat.lt_or_ge i L.length with hi | hi
  · rw [List.getElem?_eq_getElem hi]; exact h _ (List.getElem_mem hi)
  · rw [List.getElem?_eq_none hi]; simp
theorem fits_snoc {O : List Nat} {x : Nat} (h : Fits O) (hx : x < 18446744073709551616) : Fits (O ++ [x]) := by
  intro y hy
  rcases List.mem_append.1 hy with hy | hy
  · exact h y hy
  · simp at hy; subst hy; exact hx
theorem set_mid {O A : List Nat} {k x : Nat} (hO : O.length = k) (hk : k < A.length) : (O ++ A.drop k).set k x = (O ++ [x]) ++ A.drop (k + 1) := by
  rw [List.set_append_right _ _ (by omega), hO, Nat.sub_self, List.drop_eq_getElem_cons hk, List.set_cons_zero]
  simp

/-- Limbs of a sum, one more. -/
theorem limb_add {o p c c' x y r a b : Nat} (h : o + p * c = a + b) (hr : r = (x + y + c) % 18446744073709551616) (hc : c' = (x + y + c) / 18446744073709551616) :
    (o + p * r) + p * 18446744073709551616 * c' = (a + p * x) + (b + p * y) := by
  have h1 := Nat.mod_add_div (x + y + c) 18446744073709551616
  rw [← hr, ← hc] at h1
  have h2 : p * (r + 18446744073709551616 * c') = p * (x + y + c) := by rw [h1]
  rw [Nat.mul_add, Nat.mul_add, Nat.mul_add, ← Nat.mul_assoc] at h2
  omega

def AddPost (g off : Nat) (A B : List Nat) (w : World) (e : Ending) (w' : World) : Prop :=
  ∃ (O : List Nat) (c : Nat), e = .returned (.int .u64 (c : Int)) ∧ O.length = A.length ∧ Fits O ∧ c ≤ 1 ∧ lv O + 2 ^ (64 * A.length) * c = lv A + lv B ∧ Seg w' g off O ∧ Wrote g off (off + A.length) w w'

def AddAt (z g off ca cb : Nat) (b : Option Addr) (A B : List Nat) (w : World) (k : Nat) (W : World) : Prop :=
  ∃ (O : List Nat) (c : Nat), O.length = k ∧ k ≤ A.length ∧ Fits O ∧ c ≤ 1 ∧ lv O + 2 ^ (64 * k) * c = lv (A.take k) + lv (B.take k) ∧ Seg W g off (O ++ A.drop k) ∧ NatAt W b B ∧
    Box W z (.slice (some ⟨g, off, none⟩) A.length ca) ∧ Box W (z + 1) (.int .i64 (k : Int)) ∧ Box W (z + 2) (.int .u64 (c : Int)) ∧ Box W (z + 3) (.slice (some ⟨g, off, none⟩) A.length ca) ∧ Box W (z + 4) (.slice b B.length cb) ∧
    z + 5 ≤ W.heap.size ∧ Wrote g off (off + A.length) w W

theorem AddAt.below {z g off ca cb : Nat} {b : Option Addr} {A B : List Nat} {w : World} {k : Nat} {W W' : World} (hg : g < z) (hz : z = w.heap.size) (hbl : 0 < B.length → ∀ bl o, b = some ⟨bl, o, none⟩ → bl < z) (hb : Below (z + 5) W W') (h : AddAt z g off ca cb b A B w k W) : AddAt z g off ca cb b A B w k W' := by
  obtain ⟨O, c, h1, h2, h3, h4, h5, h6, h7, b0, b1, b2, b3, b4, hs, hw⟩ := h
  refine ⟨O, c, h1, h2, h3, h4, h5, h6.below hb (by omega), fun i hi => ?_, b0.below hb (by omega), b1.below hb (by omega), b2.below hb (by omega), b3.below hb (by omega), b4.below hb (by omega), Nat.le_trans hs hb.size, hw.after (hb.mono (by omega)) (by omega)⟩
  obtain ⟨bl, o, e, hc⟩ := h7 i hi
  exact ⟨bl, o, e, (hb.cell (p := ⟨bl, o + i, none⟩) (by show bl < z + 5; have := hbl (by omega) bl o e; omega)).trans hc⟩

set_option maxRecDepth 100000 in
set_option maxHeartbeats 2000000 in
theorem add_any (g off ca cb : Nat) (b : Option Addr) (A B : List Nat) (w : World) (hA : A.length ≤ 1099511627776) (hBA : B.length ≤ A.length) (fA : Fits A) (fB : Fits B)
    (hs : Seg w g off A) (hb : NatAt w b B) (hne : 0 < B.length → ∀ bl o, b = some ⟨bl, o, none⟩ → bl ≠ g ∧ bl < w.heap.size) :
    Calls Tryd.prog 98 #[.slice (some ⟨g, off, none⟩) A.length ca, .slice b B.length cb] w (AddPost g off A B w) := by
  obtain ⟨z, hz⟩ : ∃ z, z = w.heap.size := ⟨_, rfl⟩
  have hgz : g < z := by have := hs.block; omega
  have hbl : 0 < B.length → ∀ bl o, b = some ⟨bl, o, none⟩ → bl < z := fun h0 bl o e => by have := (hne h0 bl o e).2; omega
  obtain ⟨X, hX⟩ : ∃ X : Nat → Nat, ∀ k, X k = A.getD k 0 := ⟨_, fun _ => rfl⟩
  obtain ⟨Y, hY⟩ : ∃ Y : Nat → Nat, ∀ k, Y k = B.getD k 0 := ⟨_, fun _ => rfl⟩
  have HX := Lib.hid hX
  have HY := Lib.hid hY
  have HZ := Lib.hid hz
  clear hX hY hz
  refine (callsIn_wide (n := 3)).1 ?_
  refine callsIn_of_wp_marks Tryd.func98 rfl trivial ?_ rfl
  simp only [Tryd.ntmps98, List.size_toArray, List.length_cons, List.length_nil, Nat.reduceAdd, Nat.reduceSub, Array.replicate_succ, Array.replicate_zero, List.push_toArray, List.append_toArray, List.nil_append, List.cons_append]
  gi_wp2_with (gi_at_call 79; refine (callsIn_wide.2 (pairs_any _ _ _ _ _ _ _)).mono ?_; rintro e w' ⟨rfl, rfl⟩)
  rw [← HZ.out]
  simp only [Nat.add_assoc, Nat.reduceAdd]
  generalize hW : (((((w.alloc (.cells #[.slice (some ⟨g, off, none⟩) A.length ca] 31)).alloc (.cells #[.int .i64 0] 3)).alloc (.cells #[.int .u64 0] 58)).alloc (.cells #[.slice (some ⟨g, off, none⟩) A.length ca] 31)).alloc (.cells #[.slice b B.length cb] 31)) = W0
  obtain ⟨c0, c1, c2, c3, c4, hsz, hbw⟩ := boxes5 HZ.out _ _ _ _ _ _ _ _ _ _ hW.symm
  clear hW
  have HW : AddAt z g off ca cb b A B w 0 W0 :=
    ⟨[], 0, rfl, Nat.zero_le _, fun x hx => (by cases hx), by omega, by simp [lv], hs.below hbw hs.block, hb.below hbw (Nat.le_refl _), c0, c1, c2, c3, c4, by omega, Wrote.of_below hbw _ _ _⟩
  clear c0 c1 c2 c3 c4 hbw
  refine wpIn_range_at (m := 1) (gf := 89) (lb := #[.pointer (some ⟨z + 3, 0, none⟩), .pointer (some ⟨z + 4, 0, none⟩)]) rfl (enters_of Tryd.func89 (by kernel_rfl) rfl) (pairs_at (z + 3) (z + 4) _ b ca cb A B X Y HX.out HY.out hA (by omega)) (fun _ => rfl)
    (AddAt z g off ca cb b A B w) (fun _ _ => False) (fun k W W' hb' h => h.below hgz HZ.out hbl (by rw [← hsz]; exact hb')) (fun _ _ _ _ h => h) (fun k W h => by obtain ⟨O, c, h1, h2, h3, h4, h5, h6, h7, b0, b1, b2, b3, b4, hss, hw⟩ := h; omega) (fun _ _ h => h.elim)
    (fun k W h => by obtain ⟨O, c, h1, h2, h3, h4, h5, h6, h7, b0, b1, b2, b3, b4, hss, hw⟩ := h; exact ⟨b3.1, b4.1, h6.from h1 h2, h7.from k⟩) HW
    (fun k => { tmps := #[.slice (some ⟨g, off, none⟩) A.length ca, .slice b B.length cb, .pointer (some ⟨z, 0, none⟩), undef, .int .u64 0, .pointer (some ⟨z + 1, 0, none⟩), .pointer (some ⟨z + 2, 0, none⟩), .int .u64 ((X k : Nat) : Int), .int .u64 ((Y k : Nat) : Int),
      .slice (some ⟨g, off, none⟩) A.length ca, .slice b B.length cb, .func (.func 89) #[] #[.pointer (some ⟨z + 3, 0, none⟩), .pointer (some ⟨z + 4, 0, none⟩)], .int .u64 ((X k : Nat) : Int), .int .u64 ((Y k : Nat) : Int), undef, undef, undef, undef, undef, undef, undef, undef, undef, undef, undef, undef, undef], defers := [] })
    ?assign ?body ?done ?stop
  case assign =>
    intro l k W K hK
    gi_wp2
    exact hK
  case body =>
    rintro l k W hk ⟨O, c, h1, h2, h3, h4, h5, h6, h7, b0, b1, b2, b3, b4, hss, hw⟩
    have hxA : X k = A.getD k 0 := HX.out k
    have hyB : Y k = B.getD k 0 := HY.out k
    generalize X k = x at hxA ⊢
    generalize Y k = y at hyB ⊢
    have hc0 := b0.1
    have hc1 := b1.1
    have hc2 := b2.1
    have hf1 := b1.2
    have hf2 := b2.2
    have hgc := h6.cell (i := k) (by rw [List.length_append, List.length_drop]; omega)
    have hgf := h6.frozen (off + k)
    have hkA : (k : Int) < (A.length : Int) := by omega
    have hk0 : (0 : Int) ≤ (k : Int) := by omega
    have hadd := run_add64 x y c h4
    have hx1 := getD_fits fA k
    have hy1 := getD_fits fB k
    obtain ⟨r, hr⟩ : ∃ r, r = (x + y + c) % 18446744073709551616 := ⟨_, rfl⟩
    obtain ⟨q, hq⟩ : ∃ q, q = (x + y + c) / 18446744073709551616 := ⟨_, rfl⟩
    have hst := limb_add h5 hr hq
    have hr1 : r < 18446744073709551616 := by rw [hr]; exact Nat.mod_lt _ (by decide)
    have hq1 : q ≤ 1 := by omega
    rw [← hr, ← hq] at hadd
    rw [hxA, hyB, ← lv_take_succ' A, ← lv_take_succ' B] at hst
    have H1 := Lib.hid h1
    have HXA := Lib.hid hxA
    have HYB := Lib.hid hyB
    have H5 := Lib.hid h5
    have HSZ := Lib.hid hsz
    have HST := Lib.hid hst
    clear h1 hxA hyB h5 hsz hx1 hy1 hr hq hst
    have HR1 := Lib.hid hr1
    clear hr1
    gi_wp2
    refine wpIn_region_walk (fun w' => w'.cell? ⟨z, 0, none⟩ = some (.slice (some ⟨g, off, none⟩) A.length ca) ∧ w'.cell? ⟨z + 1, 0, none⟩ = some (.int .i64 (k : Int)))
      [true, true, true, true, false, false, true, true, true, true, false, false] (by kernel_rfl) (by kernel_rfl) (by kernel_rfl) rfl (by kernel_rfl) (by rintro ⟨_, _, h⟩; exact h) (fun _ _ _ _ _ h => h) ?_
    have hS : W.drew.cell? ⟨z, 0, none⟩ = some (.slice (some ⟨g, off, none⟩) A.length ca) ∧ W.drew.cell? ⟨z + 1, 0, none⟩ = some (.int .i64 (k : Int)) := ⟨hc0, hc1⟩
    repeat (refine walkS_yes hS rfl (fun w' hw' => by obtain ⟨q0, q1⟩ := hw'; go_simp; rfl) ?_; simp only [Act.put, List.setIfInBounds_toArray, List.set_cons_zero, List.set_cons_succ])
    refine walkS_no rfl (fun K hK => ?_)
    go_simp
    refine hK _ _ hS ?_
    clear hK K
    refine walkS_no rfl (fun K hK => ?_)
    go_simp
    refine hK _ _ hS ?_
    clear hK K
    repeat (refine walkS_yes hS rfl (fun w' hw' => by obtain ⟨q0, q1⟩ := hw'; go_simp; rfl) ?_; simp only [Act.put, List.setIfInBounds_toArray, List.set_cons_zero, List.set_cons_succ])
    refine walkS_no rfl (fun K hK => ?_)
    go_simp
    refine hK _ _ ?_ ?_
    · exact ⟨(b0.other (by show g ≠ z; omega) _).drew.1, (b1.other (by show g ≠ z + 1; omega) _).drew.1⟩
    clear hK K
    refine walkS_no rfl (fun K hK => ?_)
    go_simp
    refine hK _ _ ?_ ?_
    · exact ⟨((b0.other (by show g ≠ z; omega) _).other (by show z + 2 ≠ z; omega) _).drew.1, ((b1.other (by show g ≠ z + 1; omega) _).other (by show z + 2 ≠ z + 1; omega) _).drew.1⟩
    clear hK K
    simp only [walkS]
    gi_wp2
    have s1 := h6.set (k := k) (by rw [List.length_append, List.length_drop, H1.out]; omega) r
    rw [set_mid H1.out hk] at s1
    refine ⟨keeps_drew (keeps_set (keeps_set (keeps_set (KeepsFrom.refl _ _) _ _) _ _) _ _), O ++ [r], q, by rw [List.length_append, H1.out]; rfl, hk, fits_snoc h3 HR1.out, hq1, ?_, ?_, ?_,
      (((b0.other (by show g ≠ z; omega) _).other (by show z + 2 ≠ z; omega) _).other (by show z + 1 ≠ z; omega) _).drew,
      (((b1.other (by show g ≠ z + 1; omega) _).other (by show z + 2 ≠ z + 1; omega) _).set _).drew,
      (((b2.other (by show g ≠ z + 2; omega) _).set _).other (by show z + 1 ≠ z + 2; omega) _).drew,
      (((b3.other (by show g ≠ z + 3; omega) _).other (by show z + 2 ≠ z + 3; omega) _).other (by show z + 1 ≠ z + 3; omega) _).drew,
      (((b4.other (by show g ≠ z + 4; omega) _).other (by show z + 2 ≠ z + 4; omega) _).other (by show z + 1 ≠ z + 4; omega) _).drew, ?_, ?_⟩
    · rw [lv_snoc, H1.out, show 2 ^ (64 * (k + 1)) = 2 ^ (64 * k) * 18446744073709551616 by rw [Nat.mul_add, Nat.pow_add]]
      exact HST.out
    · exact ((s1.other (by show z + 2 ≠ g; omega) _).other (by show z + 1 ≠ g; omega) _).drew
    · exact (((h7.other (p := ⟨g, off + k, none⟩) (fun h0 bl o e => (hne h0 bl o e).1) _).other (p := ⟨z + 2, 0, none⟩) (fun h0 bl o e => by have := hbl h0 bl o e; show bl ≠ z + 2; omega) _).other (p := ⟨z + 1, 0, none⟩) (fun h0 bl o e => by have := hbl h0 bl o e; show bl ≠ z + 1; omega) _).drew
    · show z + 5 ≤ (World.setCell _ _ _).heap.size
      rw [size_set, size_set, size_set]; exact hss
    · have hzz := HZ.out
      exact (((hw.setIn (by omega) (by omega) _).setNew hs.block (by show w.heap.size ≤ z + 2; omega) _).setNew hs.block (by show w.heap.size ≤ z + 1; omega) _).drew
  case done =>
    rintro D W hD ⟨O, c, h1, h2, h3, h4, h5, h6, h7, b0, b1, b2, b3, b4, hss, hw⟩ hK
    have hc2 := b2.1
    gi_wp2
    have H1 := Lib.hid h1
    have H5 := Lib.hid h5
    clear h1 h5
    refine ⟨by simp, .inl ⟨_, _, rfl, run_takeDeferred hK, ?_⟩⟩
    have b1 : Below W0.heap.size W (W.putObj D (.deferred none)) := below_putObj W D _ hD (by omega)
    have e1 := h6
    rw [List.drop_eq_nil_of_le (Nat.le_refl _), List.append_nil] at e1
    have e5 := H5.out
    rw [List.take_of_length_le (Nat.le_refl _), List.take_of_length_le hBA] at e5
    have hzz := HZ.out
    exact ⟨_, results_tmp rfl _ _ _, O, c, rfl, H1.out, h3, h4, e5, e1.below b1 (by omega), hw.after (b1.mono (by omega)) hs.block⟩
  case stop =>
    rintro D k W _ _ h _
    exact h.elim
end Go.Proofs.YtcbebikcfcidmaaDoor

namespace Go.Proofs.YtcbebikcfcidmaaDoor
open Go.RowKit

/-- How long a slice is. -/
def lenOf : Value → Nat | .slice _ n _ => n | _ => 0

theorem norm_prefix (A : List Nat) : norm A = A.take (norm A).length := by
  induction A with
  | nil => rfl
  | cons a A ih =>
    unfold norm
    split
    · rfl
    · rw [List.length_cons, List.take_succ_cons, ← ih]
theorem nrow_take {A : List Nat} (h : Fits A) : nrow (lv A) = A.take (nrow (lv A)).length := by
  have := norm_prefix A
  rwa [norm_eq h] at this
theorem nrow_le {A : List Nat} (h : Fits A) : (nrow (lv A)).length ≤ A.length := by
  have := congrArg List.length (nrow_take h)
  rw [List.length_take] at this
  omega
theorem NatAt.take {w : World} {a : Option Addr} {A : List Nat} (h : NatAt w a A) (k : Nat) : NatAt w a (A.take k) := fun i hi => by
  rw [List.length_take] at hi
  obtain ⟨b, off, e, hc⟩ := h i (by omega)
  exact ⟨b, off, e, by rw [hc]; simp [show i < k by omega]⟩
theorem NatAt.norm {w : World} {a : Option Addr} {A : List Nat} (h : NatAt w a A) (hf : Fits A) : NatAt w a (nrow (lv A)) := by
  rw [nrow_take hf]; exact h.take _

/-- What a call answers that changes nothing. -/
def Same (v : Value) (w : World) (e : Ending) (w' : World) : Prop := e = .returned v ∧ w = w'

set_option maxHeartbeats 1000000 in
theorem trim_any (a : Option Addr) (cap : Nat) (A : List Nat) (w : World) (hl : A.length ≤ 1099511627776) (hcap : A.length ≤ cap) (hf : Fits A) (hc : NatAt w a A) :
    Calls Tryd.prog 29 #[.slice a A.length cap] w (Same (.slice a (nrow (lv A)).length cap) w) := by
  have HC := Lib.hid hc
  have HF := Lib.hid hf
  clear hc hf
  go_enter Tryd.func29, Tryd.ntmps29
  go_wp2_with fail
  go_loop [0] (fun v => ∃ k : Nat, k ≤ A.length ∧ v = .slice a k cap ∧ lv A = lv (A.take k)) (fun v => lenOf v)
  case atStart => exact ⟨A.length, Nat.le_refl _, rfl, by rw [List.take_length]⟩
  case round =>
    obtain ⟨k, hk, rfl, hv⟩ := hrel
    have HV := Lib.hid hv
    clear hv
    rcases k with _ | k
    · have HE : Hid (nrow (lv A) = []) := Lib.hid (by rw [HV.out]; rfl)
      go_wp2_with fail
      go_ret
      exact ⟨by rw [HE.out]; rfl, rfl⟩
    · obtain ⟨b, off, rfl, hcell⟩ := HC.out k (by omega)
      have hkI : (k : Int) < (A.length : Int) := by omega
      have hk0 : (0 : Int) ≤ (k : Int) := by omega
      have hk1 : (k : Int) + 1 ≤ 1099511627776 := by omega
      have hk2 : k + 1 ≤ cap := by omega
      obtain ⟨x, hx⟩ : ∃ x : Nat, x = A.getD k 0 := ⟨_, rfl⟩
      rw [← hx] at hcell
      by_cases h0 : x = 0
      · subst h0
        have HV2 : Hid (lv A = lv (A.take k)) := Lib.hid (HV.out.trans (lv_take_zero (by omega) hx.symm))
        clear hx
        go_wp2_with fail
        go_round
        case rel => exact ⟨k, by omega, rfl, HV2.out⟩
        case measure => simp [lenOf]
      · have hb : ((x : Int) == 0) = false := beq_eq_false_iff_ne.2 (by omega)
        have HE : Hid (nrow (lv A) = A.take (k + 1)) := Lib.hid (by
          rw [HV.out]
          exact (nrow_of (fits_take HF.out _) (.inr (by rw [take_last (by omega), ← hx]; exact h0))).symm)
        have htl : (A.take (k + 1)).length = k + 1 := by rw [List.length_take]; omega
        have HTL := Lib.hid htl
        clear hx h0 htl
        go_wp2_with fail
        go_ret
        exact ⟨by rw [HE.out, HTL.out]; rfl, rfl⟩

def sgn (b : Bool) : Int := if b then -1 else 1
theorem sign_any (b : Bool) (w : World) : Calls Tryd.prog 59 #[.bool b] w (Same (.int .i64 (sgn b)) w) := by
  cases b
  all_goals
    go_enter Tryd.func59, Tryd.ntmps59
    go_wp2
    go_ret
    exact ⟨rfl, rfl⟩

theorem limb_any (a : Option Addr) (cap : Nat) (A : List Nat) (j : Int) (i : Nat) (hj : j = (i : Int)) (x : Nat) (hx : x = A.getD i 0) (w : World) (hc : NatAt w a A) :
    Calls Tryd.prog 88 #[.slice a A.length cap, .int .i64 j] w (Same (.int .u64 (x : Int)) w) := by
  subst hj
  have HC := Lib.hid hc
  clear hc
  have h0 : (0 : Int) ≤ (i : Int) := by omega
  by_cases h : i < A.length
  · obtain ⟨b, off, rfl, hcell⟩ := HC.out i h
    rw [← hx] at hcell
    clear hx
    have hI : (i : Int) < (A.length : Int) := by omega
    go_enter Tryd.func88, Tryd.ntmps88
    go_wp2
    go_ret
    exact ⟨rfl, rfl⟩
  · have hI : ¬ (i : Int) < (A.length : Int) := by omega
    obtain rfl : x = 0 := by rw [hx, List.getD_eq_getElem?_getD, List.getElem?_eq_none (by omega)]; rfl
    clear hx
    go_enter Tryd.func88, Tryd.ntmps88
    go_wp2
    go_ret
    exact ⟨rfl, rfl⟩

/-- Is one of them too long? -/
def anyLong (ls : List Nat) : Bool := ls.any fun n => decide (2048 < n)
theorem anyLong_take {ls : List Nat} {k : Nat} (hk : k < ls.length) (h : anyLong (ls.take k) = false) (hn : ¬ 2048 < ls.getD k 0) : anyLong (ls.take (k + 1)) = false := by
  unfold anyLong at *
  rw [List.take_succ_eq_append_getElem hk, List.any_append, h]
  rw [List.getD_eq_getElem?_getD, List.getElem?_eq_getElem hk] at hn
  simpa using hn
theorem anyLong_at {ls : List Nat} {k : Nat} (hk : k < ls.length) (hn : 2048 < ls.getD k 0) : anyLong ls = true := by
  unfold anyLong
  rw [List.getD_eq_getElem?_getD, List.getElem?_eq_getElem hk] at hn
  exact List.any_eq_true.2 ⟨ls[k], List.getElem_mem hk, by simpa using hn⟩

set_option maxHeartbeats 1000000 in
theorem tooLong_any (g cap : Nat) (ls : List Nat) (w : World) (hl : ls.length ≤ 1099511627776) (hc : ∀ i, i < ls.length → ∃ a c, w.cell? ⟨g, i, none⟩ = some (.slice a (ls.getD i 0) c)) :
    Calls Tryd.prog 43 #[.slice (some ⟨g, 0, none⟩) ls.length cap] w (Same (.bool (anyLong ls)) w) := by
  have HC := Lib.hid hc
  clear hc
  go_enter Tryd.func43, Tryd.ntmps43
  go_wp2_with fail
  go_loop [7] (fun i => ∃ k : Nat, k ≤ ls.length ∧ i = .int .i64 (k : Int) ∧ anyLong (ls.take k) = false) (fun i => ls.length - (intOf i).toNat)
  case atStart => exact ⟨0, Nat.zero_le _, rfl, rfl⟩
  case round =>
    obtain ⟨k, hk, rfl, hv⟩ := hrel
    have HV := Lib.hid hv
    clear hv
    have hk0 : (0 : Int) ≤ (k : Int) := by omega
    by_cases hlt : k < ls.length
    · obtain ⟨a, c, hcell⟩ := HC.out k hlt
      have hI : (k : Int) < (ls.length : Int) := by omega
      obtain ⟨n, hn⟩ : ∃ n, n = ls.getD k 0 := ⟨_, rfl⟩
      rw [← hn] at hcell
      by_cases hbig : 2048 < n
      · have hb : (2048 : Int) < (n : Int) := by omega
        have HE : Hid (anyLong ls = true) := Lib.hid (anyLong_at hlt (by rw [← hn]; exact hbig))
        clear hn hbig
        go_wp2_with fail
        go_ret
        exact ⟨by rw [HE.out]; rfl, rfl⟩
      · have hb : (n : Int) ≤ 2048 := by omega
        have HE : Hid (anyLong (ls.take (k + 1)) = false) := Lib.hid (anyLong_take hlt HV.out (by rw [← hn]; exact hbig))
        clear hn hbig
        go_wp2_with fail
        go_round
        case rel => exact ⟨k + 1, by omega, by go_num, HE.out⟩
        case measure => simp [intOf]; omega
    · obtain rfl : k = ls.length := by omega
      have HE : Hid (anyLong ls = false) := Lib.hid (by have := HV.out; rwa [List.take_length] at this)
      go_wp2_with fail
      go_ret
      exact ⟨by rw [HE.out]; rfl, rfl⟩
end Go.Proofs.YtcbebikcfcidmaaDoor

namespace Go.Proofs.YtcbebikcfcidmaaDoor
open Go.RowKit Go.Shelf
attribute [local go_sem] Oper.semAt_some wide_fn

/-- The second number lies apart from the first, or is the first itself. -/
def Beside (g off z : Nat) (b : Option Addr) (A B : List Nat) (W : World) : Prop :=
  ((0 < B.length → ∀ bl o, b = some ⟨bl, o, none⟩ → bl ≠ g ∧ bl < z) ∧ NatAt W b B) ∨ (b = some ⟨g, off, none⟩ ∧ B = A)
theorem Beside.below {g off z n : Nat} {b : Option Addr} {A B : List Nat} {W W' : World} (h : Beside g off z b A B W) (hb : Below n W W') (hn : z ≤ n) : Beside g off z b A B W' := by
  rcases h with ⟨h1, h2⟩ | h
  · refine .inl ⟨h1, fun i hi => ?_⟩
    obtain ⟨bl, o, e, hc⟩ := h2 i hi
    exact ⟨bl, o, e, (hb.cell (p := ⟨bl, o + i, none⟩) (by show bl < n; have := (h1 (by omega) bl o e).2; omega)).trans hc⟩
  · exact .inr h
theorem Beside.set {g off z o : Nat} {b : Option Addr} {A B : List Nat} {W : World} (h : Beside g off z b A B W) (v : Value) : Beside g off z b A B (W.setCell ⟨g, o, none⟩ v) := by
  rcases h with ⟨h1, h2⟩ | h
  · exact .inl ⟨h1, h2.other (p := ⟨g, o, none⟩) (fun h0 bl o e => (h1 h0 bl o e).1) v⟩
  · exact .inr h
theorem Beside.other {g off z : Nat} {b : Option Addr} {A B : List Nat} {W : World} (h : Beside g off z b A B W) {p : Addr} (hp : z ≤ p.block) (v : Value) : Beside g off z b A B (W.setCell p v) := by
  rcases h with ⟨h1, h2⟩ | h
  · exact .inl ⟨h1, h2.other (fun h0 bl o e => by have := (h1 h0 bl o e).2; omega) v⟩
  · exact .inr h
theorem Beside.drew {g off z : Nat} {b : Option Addr} {A B : List Nat} {W : World} (h : Beside g off z b A B W) : Beside g off z b A B W.drew := h
theorem Beside.from {g off z k : Nat} {b : Option Addr} {O A B : List Nat} {W : World} (h : Beside g off z b A B W) (hs : Seg W g off (O ++ A.drop k)) (hO : O.length = k) (hk : k ≤ A.length) : NatFrom k W b B := by
  rcases h with ⟨_, h2⟩ | ⟨rfl, rfl⟩
  · exact h2.from k
  · exact hs.from hO hk

theorem mul_small {y n : Nat} (hy : y < 18446744073709551616) (hn : n < 18446744073709551616) : y * n ≤ 18446744073709551615 * 18446744073709551615 := Nat.mul_le_mul (by omega) (by omega)
def TimesAt (z g off ca cb n : Nat) (b : Option Addr) (A B : List Nat) (w : World) (k : Nat) (W : World) : Prop :=
  ∃ (O : List Nat) (c : Nat), O.length = k ∧ k ≤ A.length ∧ Fits O ∧ c < 18446744073709551616 ∧ lv O + 2 ^ (64 * k) * c = lv (A.take k) + n * lv (B.take k) ∧ Seg W g off (O ++ A.drop k) ∧ Beside g off z b A B W ∧
    Box W z (.slice (some ⟨g, off, none⟩) A.length ca) ∧ Box W (z + 1) (.int .u64 (n : Int)) ∧ Box W (z + 2) (.int .i64 (k : Int)) ∧ Box W (z + 3) (.int .u64 (c : Int)) ∧ Box W (z + 4) (.slice (some ⟨g, off, none⟩) A.length ca) ∧ Box W (z + 5) (.slice b B.length cb) ∧
    z + 6 ≤ W.heap.size ∧ Wrote g off (off + A.length) w W

theorem TimesAt.below {z g off ca cb n : Nat} {b : Option Addr} {A B : List Nat} {w : World} {k : Nat} {W W' : World} (hg : g < z) (hz : z = w.heap.size) (hb : Below (z + 6) W W') (h : TimesAt z g off ca cb n b A B w k W) : TimesAt z g off ca cb n b A B w k W' := by
  obtain ⟨O, c, h1, h2, h3, h4, h5, h6, h7, b0, b1, b2, b3, b4, b5, hs, hw⟩ := h
  exact ⟨O, c, h1, h2, h3, h4, h5, h6.below hb (by omega), h7.below hb (by omega), b0.below hb (by omega), b1.below hb (by omega), b2.below hb (by omega), b3.below hb (by omega), b4.below hb (by omega), b5.below hb (by omega), Nat.le_trans hs hb.size, hw.after (hb.mono (by omega)) (by omega)⟩

end Go.Proofs.YtcbebikcfcidmaaDoor

namespace Go.Proofs.YtcbebikcfcidmaaDoor
set_option maxRecDepth 100000
open Go.RowKit

/-- Two digits a limb. -/
def pairs : List Nat → List Nat
  | [] => []
  | [a] => [a]
  | a :: b :: l => (a + b * 4294967296) :: pairs l
theorem U_zeros (n : Nat) : U (List.replicate n 0) = List.replicate n (.int .u64 0) := by simp [U]
end Go.Proofs.YtcbebikcfcidmaaDoor

namespace Go.Proofs.YtcbebikcfcidmaaDoor
set_option maxRecDepth 100000
open Go.RowKit

/-- What a comparison answers. -/
def cmpV (a b : Nat) : Int := if a < b then -1 else if b < a then 1 else 0
theorem cmpV_lt {a b : Nat} (h : a < b) : cmpV a b = -1 := by unfold cmpV; rw [if_pos h]
theorem cmpV_gt {a b : Nat} (h : b < a) : cmpV a b = 1 := by unfold cmpV; rw [if_neg (by omega), if_pos h]
theorem cmpV_eq {a b : Nat} (h : a = b) : cmpV a b = 0 := by unfold cmpV; rw [if_neg (by omega), if_neg (by omega)]

end Go.Proofs.YtcbebikcfcidmaaDoor

namespace Go.Proofs.YtcbebikcfcidmaaDoor
set_option maxRecDepth 100000
open Go.RowKit

end Go.Proofs.YtcbebikcfcidmaaDoor

namespace Go.Proofs.YtcbebikcfcidmaaDoor
set_option maxRecDepth 100000
open Go.RowKit

end Go.Proofs.YtcbebikcfcidmaaDoor

namespace Go.Proofs.YtcbebikcfcidmaaDoor
set_option maxRecDepth 100000
open Go.RowKit

end Go.Proofs.YtcbebikcfcidmaaDoor

namespace Go.Proofs.YtcbebikcfcidmaaDoor
set_option maxRecDepth 100000
open Go.RowKit

end Go.Proofs.YtcbebikcfcidmaaDoor

namespace Go.Proofs.YtcbebikcfcidmaaDoor
set_option maxRecDepth 100000
open Go.RowKit

/-- How many bits. -/
def blen (v : Nat) : Nat := if v = 0 then 0 else v.log2 + 1
theorem lt_blen (v : Nat) : v < 2 ^ blen v := by
  unfold blen
  split
  · rename_i h; subst h; decide
  · exact Nat.lt_log2_self
theorem blen_of {v k : Nat} (h1 : v < 2 ^ (k + 1)) (h2 : v / 2 ^ k % 2 = 1) : blen v = k + 1 := by
  have h3 : 2 ^ k ≤ v := by
    apply Classical.byContradiction
    intro h
    rw [Nat.div_eq_of_lt (by omega)] at h2
    simp at h2
  have h0 : v ≠ 0 := by have := Nat.two_pow_pos k; omega
  unfold blen
  rw [if_neg h0]
  congr 1
  exact (Nat.log2_eq_iff h0).2 ⟨h3, h1⟩
theorem blen_le {v k : Nat} (h : v < 2 ^ k) : blen v ≤ k := by
  unfold blen
  split
  · omega
  · rename_i h0
    have := (Nat.log2_lt h0).2 h
    omega
theorem blen_ge {v : Nat} (h : v ≠ 0) : 2 ^ (blen v - 1) ≤ v := by
  unfold blen
  rw [if_neg h, Nat.add_sub_cancel]
  exact Nat.log2_self_le h

end Go.Proofs.YtcbebikcfcidmaaDoor

namespace Go.Proofs.YtcbebikcfcidmaaDoor
set_option maxRecDepth 100000
open Go.RowKit

end Go.Proofs.YtcbebikcfcidmaaDoor

namespace Go.Proofs.YtcbebikcfcidmaaDoor
set_option maxRecDepth 100000
open Go.RowKit

/-- A slice that tells a number, in at most K limbs, normal or not. -/
def NNum (K : Nat) (w : World) (v : Value) (n : Nat) : Prop :=
  ∃ a cap L, v = .slice a L.length cap ∧ L.length ≤ cap ∧ (a = none → cap = 0) ∧ Fits L ∧ NatAt w a L ∧ lv L = n ∧ L.length ≤ K

theorem NNum.below {K n : Nat} {w w' : World} {v : Value} (h : NNum K w v n) (hb : Below w.heap.size w w') : NNum K w' v n := by
  obtain ⟨a, cap, L, h1, h2, h3, h4, h5, h6, h7⟩ := h
  exact ⟨a, cap, L, h1, h2, h3, h4, h5.below hb (Nat.le_refl _), h6, h7⟩
theorem NNum.drewN {K n m : Nat} {w : World} {v : Value} (h : NNum K w v n) : NNum K (w.drewN m) v n := h
theorem NNum.mono {K K' n : Nat} {w : World} {v : Value} (h : NNum K w v n) (hK : K ≤ K') : NNum K' w v n := by
  obtain ⟨a, cap, L, h1, h2, h3, h4, h5, h6, h7⟩ := h
  exact ⟨a, cap, L, h1, h2, h3, h4, h5, h6, by omega⟩
theorem NNum.lt {K n : Nat} {w : World} {v : Value} (h : NNum K w v n) : n < 2 ^ (64 * K) := by
  obtain ⟨a, cap, L, _, _, _, h4, _, h6, h7⟩ := h
  rw [← h6]
  exact Nat.lt_of_lt_of_le (lv_lt h4) (Nat.pow_le_pow_right (by omega) (by omega))
theorem NRow.num {B K : Nat} {w : World} {v : Value} {L : List Nat} (h : NRow B w v L) (hf : Fits L) (hK : L.length ≤ K) : NNum K w v (lv L) := by
  obtain ⟨A, cap, rfl, hc, _, hat⟩ := h.at_
  refine ⟨A, cap, L, rfl, hc, fun hA => ?_, hf, hat, rfl, hK⟩
  subst hA
  rcases h.2 with ⟨he, _⟩ | ⟨g, cap', cur, he, _⟩
  · injection he
  · injection he with h1; cases h1
theorem NRow.numN {B K n : Nat} {w : World} {v : Value} (h : NRow B w v (nrow n)) (hK : n < 2 ^ (64 * K)) : NNum K w v n := by
  have := h.num (nrow_fits n) (nrow_length_le hK)
  rwa [lv_nrow] at this
/-- What is told of a number, by a call that makes memory. -/
def NOut (B K : Nat) (n : Nat) (w : World) (e : Ending) (w' : World) : Prop := ∃ v, e = .returned v ∧ NRow B w' v (nrow n) ∧ NNum K w' v n ∧ Below B w w'
theorem NRes.out {K n : Nat} {w w' : World} {e : Ending} (h : NRes w n e w') (hK : n < 2 ^ (64 * K)) : NOut w.heap.size K n w e w' := by
  obtain ⟨v, he, hr, hb⟩ := h
  exact ⟨v, he, hr, hr.numN hK, hb⟩

section
variable {K : Nat} {w : World} {va vb : Value} {na nb : Nat}
end

/-! ### Plain mathematics of the division -/
theorem blen_pos {n : Nat} (h : n ≠ 0) : 0 < blen n := by unfold blen; rw [if_neg h]; omega
theorem blen_shl {n s : Nat} (h : n ≠ 0) : blen (n * 2 ^ s) = blen n + s := by
  have h0 : n * 2 ^ s ≠ 0 := Nat.mul_ne_zero h (Nat.pos_iff_ne_zero.1 (Nat.two_pow_pos s))
  have hp := blen_pos h
  have h1 := lt_blen n
  have h2 := blen_ge h
  have h3 : n * 2 ^ s < 2 ^ (blen n + s) := by rw [Nat.pow_add]; exact Nat.mul_lt_mul_of_pos_right h1 (Nat.two_pow_pos s)
  have h4 : 2 ^ (blen n + s - 1) ≤ n * 2 ^ s := by
    rw [show blen n + s - 1 = (blen n - 1) + s by omega, Nat.pow_add]; exact Nat.mul_le_mul_right _ h2
  have h5 := blen_le h3
  have h6 := lt_blen (n * 2 ^ s)
  apply Classical.byContradiction
  intro hne
  have h7 : 2 ^ blen (n * 2 ^ s) ≤ 2 ^ (blen n + s - 1) := Nat.pow_le_pow_right (by omega) (by omega)
  omega

end Go.Proofs.YtcbebikcfcidmaaDoor

namespace Go.Proofs.YtcbebikcfcidmaaDoor
open Go.RowKit

/-- A slice that tells a number, normal. -/
def NTr (w : World) (v : Value) (n : Nat) : Prop :=
  ∃ a cap, v = .slice a (nrow n).length cap ∧ (nrow n).length ≤ cap ∧ (a = none → cap = 0) ∧ NatAt w a (nrow n)
theorem NTr.below {n : Nat} {w w' : World} {v : Value} (h : NTr w v n) (hb : Below w.heap.size w w') : NTr w' v n := by
  obtain ⟨a, cap, h1, h2, h3, h4⟩ := h
  exact ⟨a, cap, h1, h2, h3, h4.below hb (Nat.le_refl _)⟩
theorem NTr.num {n K : Nat} {w : World} {v : Value} (h : NTr w v n) (hK : (nrow n).length ≤ K) : NNum K w v n := by
  obtain ⟨a, cap, rfl, h2, h3, h4⟩ := h
  exact ⟨a, cap, nrow n, rfl, h2, h3, nrow_fits n, h4, lv_nrow n, hK⟩
theorem NNum.rowLen {K n : Nat} {w : World} {v : Value} (h : NNum K w v n) : (nrow n).length ≤ K := by
  obtain ⟨a, cap, L, _, _, _, h4, _, rfl, h7⟩ := h
  exact Nat.le_trans (nrow_le h4) h7
theorem NRow.none_cap {B : Nat} {w : World} {a : Option Addr} {n cap : Nat} {L : List Nat} (h : NRow B w (.slice a n cap) L) : a = none → cap = 0 := by
  rintro rfl
  rcases h.2 with ⟨he, _⟩ | ⟨g, cap', cur, he, _⟩
  · cases he; rfl
  · cases he
theorem NRow.norm {B : Nat} {w : World} {a : Option Addr} {cap : Nat} {L : List Nat} (h : NRow B w (.slice a L.length cap) L) (hf : Fits L) : NRow B w (.slice a (nrow (lv L)).length cap) (nrow (lv L)) := by
  have ht := nrow_take hf
  rcases h.2 with ⟨he, h0⟩ | ⟨g, cap', cur, he, _⟩
  · obtain rfl : L = [] := List.eq_nil_of_length_eq_zero h0
    cases he
    exact NRow.nil _ _
  · injection he with h1
    subst h1
    have e : L = nrow (lv L) ++ L.drop (nrow (lv L)).length := by
      conv => lhs; rw [← List.take_append_drop (nrow (lv L)).length L]
      rw [← ht]
    generalize lv L = n at *
    rw [e] at h
    exact h.take
theorem NRow.tr {B n : Nat} {w : World} {v : Value} (h : NRow B w v (nrow n)) : NTr w v n := by
  obtain ⟨a, cap, rfl, hc, _, hat⟩ := h.at_
  exact ⟨a, cap, rfl, hc, h.none_cap, hat⟩

/-- What trim answers of a number; and of a row of the call's own. -/
def TrimPost (n : Nat) (w : World) (e : Ending) (w' : World) : Prop := ∃ v, e = .returned v ∧ NTr w v n ∧ w = w'
theorem trim_v {K n : Nat} {w : World} {v : Value} (h : NNum K w v n) (hK : K ≤ 1099511627776) : Calls Tryd.prog 29 #[v] w (TrimPost n w) := by
  obtain ⟨a, cap, L, rfl, h2, h3, h4, h5, rfl, h7⟩ := h
  refine (trim_any a cap L w (by omega) h2 h4 h5).mono ?_
  rintro e w' ⟨rfl, rfl⟩
  exact ⟨_, rfl, ⟨a, cap, rfl, by have := nrow_le h4; omega, h3, h5.norm h4⟩, rfl⟩
def TrimOwn (B n : Nat) (w : World) (e : Ending) (w' : World) : Prop := ∃ v, e = .returned v ∧ NRow B w v (nrow n) ∧ w = w'
theorem trim_own {B : Nat} {w : World} {v : Value} {L : List Nat} (h : NRow B w v L) (hf : Fits L) (hl : L.length ≤ 1099511627776) : Calls Tryd.prog 29 #[v] w (TrimOwn B (lv L) w) := by
  obtain ⟨a, cap, rfl, hc, _, hat⟩ := h.at_
  refine (trim_any a cap L w hl hc hf hat).mono ?_
  rintro e w' ⟨rfl, rfl⟩
  exact ⟨_, rfl, h.norm hf, rfl⟩

/-- A row of the call's own, told. -/
def OwnRes (L : List Nat) (w : World) (e : Ending) (w' : World) : Prop := ∃ v, e = .returned v ∧ NRow w.heap.size w' v L ∧ Below w.heap.size w w'

theorem news_all {w : World} {ad : Addr} {L : List Nat} (h : NatAt w (some ad) L) (j : Nat) (u : Value) (hu : (U L)[j]? = some u) : w.cell? (ad.add j) = some u := by
  have := news_of h L.length (Nat.le_refl _) j u
  rw [List.take_length] at this
  exact this hu

set_option maxHeartbeats 1000000 in
theorem clone_any (a : Option Addr) (cap : Nat) (L : List Nat) (w : World) (hl : L.length ≤ 1099511627776) (hcap : L.length ≤ cap) (hcn : a = none → cap = 0) (hc : NatAt w a L) :
    Calls Tryd.prog 44 #[.slice a L.length cap] w (OwnRes L w) := by
  obtain ⟨i0, hi, hz0, hz1, hz2⟩ := info_parts info_u64
  have HC := Lib.hid hc
  have HN := Lib.hid hcn
  clear hc hcn
  have hnil := fun (w : World) (a : Option Addr) (n c : Nat) => Go.Lib.run_eql_slice_nil (P := Tryd.prog) w 31 58 a n c 0 0 Tryd.underlying31
  rcases a with _ | ad
  · obtain rfl := HN.out rfl
    obtain rfl : L = [] := List.eq_nil_of_length_eq_zero (by omega)
    go_enter Tryd.func44, Tryd.ntmps44
    go_wp2
    go_ret
    exact ⟨_, rfl, NRow.nil _ _, Below.refl _ _⟩
  · have HNEW := Lib.hid (news_all HC.out)
    have HLE : Hid ((U L).length = L.length * 1) := Lib.hid (by rw [U_length, Nat.mul_one])
    go_enter Tryd.func44, Tryd.ntmps44
    go_wp2_with (
      (at_builtin
       refine wpList_append_own _ rfl (.tmp 5) (.tmp 6) 31 rfl w.heap.size 58 i0 _ 1 8 Tryd.underlying31 hi hz0 hz1 hz2 rfl (by omega) _ 0 [] rfl ?c0 ad L.length cap (U L) rfl ?c1 ?c2 ?c3 ?c4 ?c5 ?c6 ?_
       case c0 => exact World.ownsRow_made _ _ _ (by simp) (by unfold maxLen; omega) rfl
       case c1 => exact HLE.out
       case c2 => exact news_all (HC.out.alloc _)
       case c3 => exact U_one _
       case c4 => unfold maxLen; omega
       case c5 => omega
       case c6 => simp
       intro v1 w1 hown1 hg1 _
       have HO : Hid (NRow w.heap.size w1 v1 L) := Lib.hid (by unfold NRow; simpa using hown1)
       have HB : Hid (Below w.heap.size w w1) := Lib.hid (((Below.refl _ _).alloc (Nat.le_refl _) _).grown hg1 (by simp) (fun k hk => by cases hk; exact Nat.le_refl _))
       clear hown1 hg1))
    go_ret
    exact ⟨_, rfl, HO.out, HB.out⟩
theorem clone_v {n : Nat} {w : World} {v : Value} (h : NTr w v n) (hl : (nrow n).length ≤ 1099511627776) : Calls Tryd.prog 44 #[v] w (OwnRes (nrow n) w) := by
  obtain ⟨a, cap, rfl, h2, h3, h4⟩ := h
  exact clone_any a cap _ w hl h2 h3 h4

/-- A row of one limb. -/
theorem row_one (w : World) (x : Nat) : NRow w.heap.size (w.alloc (.cells #[.int .u64 (x : Int)] 58)) (.slice (some ⟨w.heap.size, 0, none⟩) 1 1) [x] :=
  ⟨by simp [U], .inr ⟨w.heap.size, 1, #[.int .u64 (x : Int)], rfl, Nat.le_refl _, heap_alloc_new w _, Nat.le_refl _, by unfold maxLen; omega, rfl, by simp [U]⟩⟩
theorem lv_one (x : Nat) : lv [x] = x := by simp [lv]
set_option maxHeartbeats 1000000 in
theorem of_any (x : Nat) (w : World) (hx : x < 18446744073709551616) : Calls Tryd.prog 17 #[.int .u64 (x : Int)] w (OwnRes (nrow x) w) := by
  have HT := Lib.hid (trim_own (row_one w x) (fun y hy => by simp at hy; subst hy; exact hx) (by simp))
  have HB : Hid (Below w.heap.size w (w.alloc (.cells #[.int .u64 (x : Int)] 58))) := Lib.hid ((Below.refl _ _).alloc (Nat.le_refl _) _)
  clear hx
  go_enter Tryd.func17, Tryd.ntmps17
  go_wp2_with (go_at_call 29; refine HT.out.mono ?_; rintro e w' ⟨v, rfl, hv, rfl⟩; have HV := Lib.hid hv; clear hv)
  go_ret
  exact ⟨_, rfl, by have := HV.out; rwa [lv_one] at this, HB.out⟩

/-- What is told beside an error's number. -/
def ERes (B n : Nat) (w : World) (e : Ending) (w' : World) : Prop := ∃ v, e = .returned (.tuple #[v, .int .i64 0]) ∧ NRow B w' v (nrow n) ∧ Below B w w'
theorem long_one (a : Option Addr) (n cap : Nat) (w : World) (T : TypeId) :
    Calls Tryd.prog 43 #[.slice (some ⟨w.heap.size, 0, none⟩) 1 1] (w.alloc (.cells #[.slice a n cap] T)) (Same (.bool (decide (2048 < n))) (w.alloc (.cells #[.slice a n cap] T))) := by
  have := tooLong_any w.heap.size 1 [n] (w.alloc (.cells #[.slice a n cap] T)) (by simp) (fun i hi => ⟨a, cap, by
    have h0 : i = 0 := by simpa using hi
    subst h0
    exact (Box.new w _ T).1⟩)
  simpa [anyLong] using this
theorem long_two (a b : Option Addr) (n m cap cbp : Nat) (w : World) (T : TypeId) :
    Calls Tryd.prog 43 #[.slice (some ⟨w.heap.size, 0, none⟩) 2 2] (w.alloc (.cells #[.slice a n cap, .slice b m cbp] T)) (Same (.bool (decide (2048 < n) || decide (2048 < m))) (w.alloc (.cells #[.slice a n cap, .slice b m cbp] T))) := by
  have e : (w.alloc (.cells #[.slice a n cap, .slice b m cbp] T)).heap[w.heap.size]? = some (.cells #[.slice a n cap, .slice b m cbp] T (0, 0)) := heap_alloc_new w _
  have := tooLong_any w.heap.size 2 [n, m] (w.alloc (.cells #[.slice a n cap, .slice b m cbp] T)) (by simp) (fun i hi => by
    rcases i with _ | _ | i
    · exact ⟨a, cap, by unfold World.cell?; rw [e]; rfl⟩
    · exact ⟨b, cbp, by unfold World.cell?; rw [e]; rfl⟩
    · simp at hi; omega)
  simpa [anyLong] using this
end Go.Proofs.YtcbebikcfcidmaaDoor

namespace Go.Proofs.YtcbebikcfcidmaaDoor
open Go.RowKit

def ResOk (B n : Nat) (w : World) (e : Ending) (w' : World) : Prop := ∃ v, e = .returned (.tuple #[v, .int .i64 0]) ∧ NRow B w' v (nrow n) ∧ Below w.heap.size w w'
/-- What 'make' lays: limbs of 0. -/
theorem made_zeros {w0 : World} {B n : Nat} {v : Value} (h : w0.ownsRow B 58 1 v n (madeCells (Value.int .u64 0).cells (n * 1)).toList) : NRow B w0 v (List.replicate n 0) := by
  rw [show (Value.int .u64 0).cells = #[.int .u64 0] from rfl, toList_madeCells_one, Nat.mul_one] at h
  unfold NRow
  rw [List.length_replicate, U_zeros]; exact h
theorem fits_zeros (n : Nat) : Fits (List.replicate n 0) := fun x hx => by
  obtain rfl := (List.mem_replicate.1 hx).2
  omega
theorem fits_append {A B : List Nat} (h : Fits A) (k : Fits B) : Fits (A ++ B) := fun x hx => (List.mem_append.1 hx).elim (h x) (k x)

end Go.Proofs.YtcbebikcfcidmaaDoor

namespace Go.Proofs.YtcbebikcfcidmaaDoor
open Go.RowKit

theorem NRow.set {B g cap n : Nat} {w : World} {L : List Nat} (h : NRow B w (.slice (some ⟨g, 0, none⟩) n cap) L) {i : Nat} (hi : i < L.length) (x : Nat) : NRow B (w.setCell ⟨g, i, none⟩ (.int .u64 (x : Int))) (.slice (some ⟨g, 0, none⟩) n cap) (L.set i x) := by
  have hs := h.seg.2.2.2.2.2.set hi x
  rw [Nat.zero_add] at hs
  exact h.wrote ((Wrote.refl g 0 L.length w).setIn (Nat.zero_le _) hi _) hs (List.length_set ..)
end Go.Proofs.YtcbebikcfcidmaaDoor

namespace Go.Proofs.YtcbebikcfcidmaaDoor
open Go.RowKit Go.Shelf
attribute [local go_sem] Oper.semAt_some wide_fn

def DownPost (a b : Value) (w : World) (e : Ending) (w' : World) : Prop :=
  e = .returned (.func (.func 71) #[] #[.pointer (some ⟨w.heap.size, 0, none⟩), .pointer (some ⟨w.heap.size + 1, 0, none⟩)]) ∧ w' = (w.alloc (.cells #[a] 31)).alloc (.cells #[b] 31)
theorem pairsDown_any (a b : Option Addr) (la lb ca cb : Nat) (w : World) :
    Calls Tryd.prog 60 #[.slice a la ca, .slice b lb cb] w (DownPost (.slice a la ca) (.slice b lb cb) w) := by
  go_enter Tryd.func60, Tryd.ntmps60
  go_wp2
  go_ret
  exact ⟨rfl, rfl⟩

/-- What the function reads, at any round. -/
def DownRd (p q : Nat) (a b : Option Addr) (ca cb : Nat) (A B : List Nat) (w : World) : Prop :=
  w.cell? ⟨p, 0, none⟩ = some (.slice a A.length ca) ∧ w.cell? ⟨q, 0, none⟩ = some (.slice b B.length cb) ∧ NatAt w a A ∧ NatAt w b B

def EndBool (J Jx : World → Prop) (e : Ending) (w : World) : Prop := ∃ v : Bool, e = .returned (.bool v) ∧ ((v = true ∧ J w) ∨ (v = false ∧ Jx w))
theorem endBool {J Jx : World → Prop} {e : Ending} {w : World} (h : (e = .returned (.bool true) ∧ J w) ∨ (e = .returned (.bool false) ∧ Jx w)) : EndBool J Jx e w := by
  rcases h with ⟨he, h⟩ | ⟨he, h⟩
  · exact ⟨true, he, .inl ⟨rfl, h⟩⟩
  · exact ⟨false, he, .inr ⟨rfl, h⟩⟩

set_option maxRecDepth 100000 in
set_option maxHeartbeats 4000000 in
theorem pairsDown_at (p q : Nat) (a b : Option Addr) (ca cb : Nat) (A B : List Nat) (X Y : Nat → Nat) (hX : ∀ k, X k = A.getD (A.length - 1 - k) 0) (hY0 : ∀ k, Y k = B.getD (A.length - 1 - k) 0) (hA : A.length ≤ 1099511627776) (hAB : A.length = B.length) :
    SeqAt Tryd.prog 71 #[.pointer (some ⟨p, 0, none⟩), .pointer (some ⟨q, 0, none⟩)] A.length
      (fun k => #[.int .u64 ((X k : Nat) : Int), .int .u64 ((Y k : Nat) : Int)]) (fun _ => DownRd p q a b ca cb A B) := by
  intro m l J Jx W hRd hJd hY h0
  refine callsIn_of_wp Tryd.func71 rfl trivial ?_ rfl
  simp only [Tryd.ntmps71, List.size_toArray, List.length_cons, List.length_nil, Nat.reduceAdd, Nat.reduceSub, Array.replicate_succ, Array.replicate_zero, List.push_toArray, List.append_toArray, List.nil_append, List.cons_append]
  obtain ⟨hp0, -, -, -⟩ := hRd 0 W h0
  have HRD := Lib.hid hRd
  have HY := Lib.hid hY
  have H0 := Lib.hid h0
  have HX := Lib.hid hX
  have HY0 := Lib.hid hY0
  have HAB := Lib.hid hAB
  have hmx : Tryd.prog.follows .mixedOrders = true := by kernel_rfl
  clear hRd hY h0 hX hY0 hAB
  gi_wp2
  gi_loopw [4] (fun i wr => ∃ k : Nat, k ≤ A.length ∧ i = .int .i64 ((A.length : Int) - 1 - (k : Int)) ∧ J k wr) (fun i _ => (intOf i + 1).toNat)
  case atStart => exact ⟨0, Nat.zero_le _, by go_num, H0.out⟩
  case round =>
    obtain ⟨k, hk, rfl, hJ⟩ := hrel
    by_cases hlt : k < A.length
    · obtain ⟨j, hj⟩ : ∃ j, j = A.length - 1 - k := ⟨_, rfl⟩
      have hjI : (A.length : Int) - 1 - (k : Int) = (j : Int) := by omega
      have hj0 : (0 : Int) ≤ (j : Int) := by omega
      have hjA : (j : Int) < (A.length : Int) := by omega
      have hjB : (j : Int) < (B.length : Int) := by have := HAB.out; omega
      obtain ⟨hp, hq, hfa, hfb⟩ := HRD.out k wr hJ
      obtain ⟨ba, oa, ea, hca⟩ := hfa j (by omega)
      obtain ⟨bb, ob, eb, hcb⟩ := hfb j (by have := HAB.out; omega)
      obtain ⟨fn, tmps, assign, body, hy, hR⟩ := HY.out k wr.drew hlt (hJd k wr hJ)
      have hR' := hR.mono (fun e w h => endBool h)
      obtain ⟨x, hx⟩ : ∃ x, x = A.getD j 0 := ⟨_, rfl⟩
      obtain ⟨y, hyy⟩ : ∃ y, y = B.getD j 0 := ⟨_, rfl⟩
      rw [← hx] at hca
      rw [← hyy] at hcb
      rw [HX.out k, HY0.out k, ← hj, ← hx, ← hyy] at hy
      have HR := Lib.hid hR'
      have HJ : Hid ((A.length : Int) - 1 - (k : Int) - 1 = (A.length : Int) - 1 - ((k + 1 : Nat) : Int)) := Lib.hid (by omega)
      have HJI := Lib.hid hjI
      rw [hjI]
      clear hfa hfb hp0 hx hyy hR hR' hjI hj
      subst ea
      subst eb
      gi_wp2
      gi_region_with_o (refine HR.out.mono ?_; rintro e W3 ⟨v, rfl, hv⟩)
      all_goals rcases hv with ⟨rfl, hJ3⟩ | ⟨rfl, hJx3⟩
      all_goals gi_wp2
      all_goals first
        | (go_roundw
           case rel => exact ⟨k + 1, by omega, by congr 1; have := HJI.out; omega, hJ3⟩
           case measure => have := HJI.out; simp [intOf])
        | (refine bodyPost_ret (results_none rfl _ _ _) rfl ?_
           exact ⟨⟨_, rfl⟩, .inr ⟨k + 1, by omega, hJx3⟩⟩)
    · have hI : (A.length : Int) - 1 - (k : Int) < 0 := by omega
      obtain rfl : k = A.length := by omega
      gi_wp2
      go_end0
      exact ⟨⟨_, rfl⟩, .inl hJ⟩
end Go.Proofs.YtcbebikcfcidmaaDoor
