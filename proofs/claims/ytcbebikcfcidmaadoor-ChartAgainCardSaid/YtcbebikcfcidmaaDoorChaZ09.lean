/-
  The texts NatQDownW, NatQShift, NatQShr, NatDivide2, one behind the other.
-/
import Derived.Test.YtcbebikcfcidmaaDoorChaZ08
import Derived.Test.YtcbebikcfcidmaaDoorChaZ05
import Derived.Test.YtcbebikcfcidmaaDoorChaZ04
import Derived.Test.YtcbebikcfcidmaaDoorChaZ07

namespace Go.Proofs.YtcbebikcfcidmaaDoor
open Go.RowKit Go.Shelf
attribute [local go_sem] Oper.semAt_some wide_fn

set_option maxRecDepth 100000 in
set_option maxHeartbeats 2000000 in
theorem shiftDown_any (a : Option Addr) (ca : Nat) (L : List Nat) (s : Nat) (w : World) (hL : L.length ≤ 1048576) (hcap : L.length ≤ ca) (hs : s ≤ 268435456) (fL : Fits L) (mL : NatAt w a L) :
    Calls Tryd.prog 84 #[.slice a L.length ca, .int .i64 (s : Int)] w (OwnRes (nrow (lv L / 2 ^ s)) w) := by
  obtain ⟨i0, hi, hz0, hz1, hz2⟩ := info_parts info_u64
  obtain ⟨q, hq⟩ : ∃ q, q = s / 64 := ⟨_, rfl⟩
  obtain ⟨r, hr⟩ : ∃ r, r = s % 64 := ⟨_, rfl⟩
  have hqI : (s : Int) / 64 = (q : Int) := by omega
  have hrI : (s : Int) % 64 = (r : Int) := by omega
  have hr63 : r ≤ 63 := by omega
  have hrI63 : (r : Int) ≤ 63 := by omega
  have hsI : (s : Int) ≤ 268435456 := by omega
  have hs0 : (0 : Int) ≤ (s : Int) := by omega
  have HS : Hid (s = 64 * q + r) := Lib.hid (by omega)
  have hLI : (L.length : Int) ≤ 1048576 := by omega
  clear hq hr
  by_cases hge : L.length ≤ q
  · have hgI : (L.length : Int) ≤ (q : Int) := by omega
    have HV : Hid (lv L / 2 ^ s = 0) := Lib.hid (by
      refine Nat.div_eq_of_lt (Nat.lt_of_lt_of_le (lv_lt fL) (Nat.pow_le_pow_right (by omega) (by have := HS.out; omega))))
    clear hge
    go_enter Tryd.func84, Tryd.ntmps84
    go_wp2_with fail
    go_ret
    exact ⟨_, rfl, by rw [HV.out]; exact NRow.nil _ _, (Below.refl _ _).alloc (Nat.le_refl _) _⟩
  · have hlt : q < L.length := by omega
    have hltI : (q : Int) < (L.length : Int) := by omega
    obtain ⟨b, off, rfl, _⟩ := mL 0 (by omega)
    obtain ⟨A, hA⟩ : ∃ A, A = L.drop q := ⟨_, rfl⟩
    have hAl : A.length = L.length - q := by rw [hA, List.length_drop]
    obtain ⟨N, hN⟩ : ∃ N, N = A.length := ⟨_, rfl⟩
    have hN1 : 1 ≤ N := by omega
    have hN2 : N ≤ 1048576 := by omega
    have hqL : (q : Int) ≤ (L.length : Int) := by omega
    have h1L : (1 : Int) ≤ ((L.length - q : Nat) : Int) := by omega
    have h1C : ((L.length - q : Nat) : Int) ≤ ((ca - q : Nat) : Int) := by omega
    have hNn : L.length - q = N := by omega
    have hq0 : (0 : Int) ≤ (q : Int) := by omega
    have hqc : (q : Int) ≤ (ca : Int) := by omega
    have hLc : (L.length : Int) ≤ (ca : Int) := by omega
    obtain ⟨z, hz⟩ : ∃ z, z = w.heap.size := ⟨_, rfl⟩
    have HZ := Lib.hid hz
    have HAL : Hid (A.length = N) := Lib.hid hN.symm
    have HA := Lib.hid hA
    have HNN := Lib.hid hNn
    clear hz hAl hN hA hNn
    by_cases hc1 : ca - q = 1
    · have hN1' : N ≤ 1 := by have := HNN.out; omega
      refine (callsIn_wide (n := 3)).1 ?_
      refine callsIn_of_wp_marks Tryd.func84 rfl trivial ?_ rfl
      simp only [Tryd.ntmps84, List.size_toArray, List.length_cons, List.length_nil, Nat.reduceAdd, Nat.reduceSub, Array.replicate_succ, Array.replicate_zero, List.push_toArray, List.append_toArray, List.nil_append, List.cons_append]
      gi_wp2_with (first
        | (gi_at_make
           refine wpListIn_make_own _ rfl _ _ 31 rfl z 58 i0 (.int .u64 0) 1 Tryd.underlying31 hi hz0 hz1 .i64 .i64 _ (L.length - q) rfl rfl rfl (by rw [hz2]; omega) (by unfold maxLen; omega) (by have := HZ.out; simp; omega) ?_
           intro w0 hown0 hg0
           have HO := Lib.hid hown0
           have HG0 := Lib.hid hg0
           clear hown0 hg0)
        | (gi_at_call 79; refine (callsIn_wide.2 (pairs_any _ _ _ _ _ _ _)).mono ?_; rintro e w' ⟨rfl, rfl⟩))
      rw [← HZ.out, HNN.out]
      obtain ⟨y, hy⟩ : ∃ y, y = w0.heap.size := ⟨_, rfl⟩
      rw [← hy, show y + 1 + 1 = y + 2 from rfl]
      have hrow0 : NRow z w0 (.slice (some ⟨z + 1, 0, none⟩) 0 N) [] := by
        have h := HO.out
        rw [HNN.out, World.size_alloc, ← HZ.out] at h
        exact h
      have hzy : z + 1 < y := by have := hrow0.seg.2.2.2.2.2.block; omega
      obtain ⟨p0, p1, p2⟩ := box_next HZ.out (.int .i64 (r : Int)) 3
      have hg0 := HG0.out
      have q0 : Box w0 z (.int .i64 (r : Int)) := p0.of_block (hg0.block z p0.lt (by simp))
      have hbz : b < z := by
        obtain ⟨b', o', e', hlt', _⟩ := mL.lt (i := 0) (by omega)
        cases e'
        rw [HZ.out]; exact hlt'
      have hw0 : Below z w w0 := (show Below z w _ from by rw [HZ.out]; exact p2).grown hg0 (by have h := HZ.out; simp; omega) (fun k hk => by cases hk)
      have mA : NatAt w (some ⟨b, off + q, none⟩) A := fun i hi => by
        obtain ⟨b', o', e', hc⟩ := mL (q + i) (by have := HAL.out; have := HNN.out; omega)
        cases e'
        refine ⟨b, off + q, rfl, ?_⟩
        rw [Nat.add_assoc, hc, HA.out]
        simp
      have mB : NatAt w (some ⟨b, off + q, none⟩) (A.drop 1) := fun i hi => by
        exfalso
        rw [List.length_drop, HAL.out] at hi
        omega
      generalize hW : (((w0.alloc (.cells #[.slice (some ⟨z + 1, 0, none⟩) 0 N] 31)).alloc (.cells #[.slice (some ⟨b, off + q, none⟩) N 1] 31)).alloc (.cells #[.slice (some ⟨b, off + q, none⟩) (N - 1) 0] 31)) = W0
      obtain ⟨c1, s1, l1⟩ := box_next hy (.slice (some ⟨z + 1, 0, none⟩) 0 N) 31
      obtain ⟨c2, s2, l2⟩ := box_next s1 (.slice (some ⟨b, off + q, none⟩) N 1) 31
      obtain ⟨c3, s3, l3⟩ := box_next s2 (.slice (some ⟨b, off + q, none⟩) (N - 1) 0) 31
      rw [hW] at c3 s3 l3
      have hlW : Below y w0 W0 := by
        have h := (l1.trans (l2.mono l1.size)).trans (l3.mono (l1.trans (l2.mono l1.size)).size)
        rw [← hy] at h; exact h
      have hrowW : NRow z W0 (.slice (some ⟨z + 1, 0, none⟩) 0 N) [] := hrow0.of_block (hlW.block (z + 1) hzy)
      have hsz : W0.heap.size = y + 3 := s3.symm
      have c1' := (c1.alloc (.cells #[.slice (some ⟨b, off + q, none⟩) N 1] 31)).alloc (.cells #[.slice (some ⟨b, off + q, none⟩) (N - 1) 0] 31)
      have c2' := c2.alloc (.cells #[.slice (some ⟨b, off + q, none⟩) (N - 1) 0] 31)
      rw [hW] at c1' c2'
      have hAd : (A.drop 1).length = N - 1 := by rw [List.length_drop, HAL.out]
      have hwW : Below z w W0 := hw0.trans (hlW.mono (by omega))
      have hD0 : DownAt z y b (off + q) (off + q) 1 0 r N A w 0 W0 :=
        ⟨[], rfl, Nat.zero_le _, fun x hx => (by simp at hx), by simp [lv, Nat.mod_one], hrowW, natAt_keep mA (hwW.block b hbz), natAt_keep mB (hwW.block b hbz), q0.below hlW (by omega), c1', by rw [HAL.out]; exact c2', by rw [hAd]; exact c3, by omega, hwW⟩
      obtain ⟨X, hX⟩ : ∃ X : Nat → Nat, ∀ k, X k = A.getD k 0 := ⟨_, fun _ => rfl⟩
      obtain ⟨Y, hY⟩ : ∃ Y : Nat → Nat, ∀ k, Y k = (A.drop 1).getD k 0 := ⟨_, fun _ => rfl⟩
      have HX := Lib.hid hX
      have HY := Lib.hid hY
      have FA : Hid (Fits A) := Lib.hid (by rw [HA.out]; exact fun x hx => fL x (List.mem_of_mem_drop hx))
      have hfin : lv L / 2 ^ s = lv A / 2 ^ r := by
        rw [HS.out, Nat.pow_add, ← Nat.div_div_eq_div_mul, HA.out, lv_div L q fL]
      have HFIN := Lib.hid hfin
      clear hX hY c1 c2 c3 l1 l2 l3 s1 s2 s3 hW p0 p1 p2 q0 hg0 hw0 mA mB hrow0 hrowW hlW c1' c2' hfin mL HG0 HO fL h1L h1C
      have HYY := Lib.hid hy
      have HSZ := Lib.hid hsz
      have HAD := Lib.hid hAd
      have HNI : Hid ((N : Int) ≤ 1048576 ∧ N ≤ 1048576) := Lib.hid ⟨by omega, hN2⟩
      clear hy hsz hAd hN1 hN2
      try clear hN1'
      refine wpIn_range_at (m := 1) (gf := 89) (lb := #[.pointer (some ⟨y + 1, 0, none⟩), .pointer (some ⟨y + 2, 0, none⟩)]) rfl (enters_of Tryd.func89 (by kernel_rfl) rfl) (pairs_at (y + 1) (y + 2) (some ⟨b, off + q, none⟩) (some ⟨b, off + q, none⟩) 1 0 A (A.drop 1) X Y HX.out HY.out (by rw [HAL.out]; have := HNI.out.2; omega) (by rw [HAD.out]; have := HNI.out.2; omega)) (fun _ => rfl)
        (DownAt z y b (off + q) (off + q) 1 0 r N A w) (fun _ _ => False) (fun k W W' hb' h => h.below hbz hzy (by rw [← HSZ.out]; exact hb')) (fun _ _ _ _ h => h) (fun k W h => by obtain ⟨O, h1, h2, h3, h4, h5, h6, h7, b0, b1, b2, b3, hss, hl⟩ := h; have := HSZ.out; omega) (fun _ _ h => h.elim)
        (fun k W h => by obtain ⟨O, h1, h2, h3, h4, h5, h6, h7, b0, b1, b2, b3, hss, hl⟩ := h; exact ⟨b2.1, b3.1, h6.from k, h7.from k⟩) hD0
        (fun k => { tmps := #[.slice (some ⟨b, off + q, none⟩) N 1, .int .i64 (s : Int), undef, undef, .slice none 0 0, .int .i64 (q : Int), .pointer (some ⟨z, 0, none⟩), .pointer (some ⟨y, 0, none⟩), .int .u64 ((X k : Nat) : Int), .int .u64 ((Y k : Nat) : Int), .int .i64 (s : Int), .int .i64 (q : Int), .int .i64 (s : Int), .int .i64 (r : Int), .int .i64 (q : Int),
          .slice (some ⟨b, off, none⟩) L.length ca, .int .i64 (L.length : Int), .bool false, .slice (some ⟨b, off, none⟩) L.length ca, .int .i64 (q : Int), .slice (some ⟨b, off + q, none⟩) N 1, .slice (some ⟨b, off + q, none⟩) N 1, .int .i64 (N : Int), .slice (some ⟨z + 1, 0, none⟩) 0 N, .slice (some ⟨b, off + q, none⟩) N 1, .slice (some ⟨b, off + q, none⟩) N 1, .slice (some ⟨b, off + q, none⟩) (N - 1) 0,
          .func (.func 89) #[] #[.pointer (some ⟨y + 1, 0, none⟩), .pointer (some ⟨y + 2, 0, none⟩)], .int .u64 ((X k : Nat) : Int), .int .u64 ((Y k : Nat) : Int), undef, undef, undef, undef, undef, undef, undef, undef, undef, undef, undef, undef, undef], defers := [] })
        ?assign ?body ?done ?stop
      case assign =>
        intro l k W K hK
        gi_wp2
        exact hK
      case body =>
        rintro l k W hk ⟨O, h1, h2, h3, h4, h5, h6, h7, b0, b1, b2, b3, hss, hl⟩
        have hxA : X k = A.getD k 0 := HX.out k
        have hyB : Y k = A.getD (k + 1) 0 := by rw [HY.out k]; simp [List.getD_eq_getElem?_getD]
        generalize X k = x at hxA ⊢
        generalize Y k = u at hyB ⊢
        have hkN : k < N := by rw [← HAL.out]; exact hk
        have hx1 : x < 18446744073709551616 := by rw [hxA]; exact getD_fits FA.out k
        have hu1 : u < 18446744073709551616 := by rw [hyB]; exact getD_fits FA.out (k + 1)
        obtain ⟨t, ht⟩ : ∃ t, t = 64 - r := ⟨_, rfl⟩
        obtain ⟨xr, hxr⟩ : ∃ xr, xr = x / 2 ^ r := ⟨_, rfl⟩
        obtain ⟨ut, hut⟩ : ∃ ut, ut = u * 2 ^ t % 18446744073709551616 := ⟨_, rfl⟩
        obtain ⟨v, hv⟩ : ∃ v, v = xr + ut := ⟨_, rfl⟩
        have hp : 2 ^ r * 2 ^ t = 18446744073709551616 := by rw [← Nat.pow_add, show r + t = 64 by omega]
        have hxrb : xr < 2 ^ t := by rw [hxr, Nat.div_lt_iff_lt_mul (Nat.two_pow_pos r), Nat.mul_comm, hp]; exact hx1
        have hxr64 : xr < 18446744073709551616 := by rw [hxr]; exact Nat.lt_of_le_of_lt (Nat.div_le_self _ _) hx1
        have hut64 : ut < 18446744073709551616 := by rw [hut]; exact Nat.mod_lt _ (by decide)
        have hutd : ut % 2 ^ t = 0 := by rw [hut, Nat.mod_mod_of_dvd _ ⟨2 ^ r, by rw [Nat.mul_comm, hp]⟩, Nat.mul_mod_left]
        have htI : (64 : Int) - (r : Int) = (t : Int) := by omega
        have ht0 : (0 : Int) ≤ (t : Int) := by omega
        have hr0 : (0 : Int) ≤ (r : Int) := by omega
        have hwt : IntKind.i64.wrap (t : Int) = (t : Int) := IntWalk.i64_in _ (by omega)
        have hw1 : (x : Int) / 2 ^ r = (xr : Int) := by rw [hxr]; simp
        have hw2 : IntKind.u64.wrap ((u : Int) * 2 ^ t) = (ut : Int) := by rw [show (u : Int) * 2 ^ t = ((u * 2 ^ t : Nat) : Int) by simp, wrap_nat, ← hut]
        have hw3 : bits .or .u64 (xr : Int) (ut : Int) = (v : Int) := by rw [u64_or_nat _ _ hxr64 hut64, low_or hxrb hutd, hv]
        have hT := lv_div A k FA.out
        have hlimb : v = lv A / 2 ^ (64 * k) / 2 ^ r % 18446744073709551616 := by
          rw [hv, hxr, hut, ht]
          refine shr_limb ?_ ?_ hr63
          · rw [hT, hxA]
            exact lv_low FA.out k
          · rw [show (18446744073709551616 : Nat) = 2 ^ 64 from rfl, Nat.div_div_eq_div_mul, ← Nat.pow_add, show 64 * k + 64 = 64 * (k + 1) by omega, lv_div A (k + 1) FA.out, hyB]
            exact lv_low FA.out (k + 1)
        have hv64 : v < 18446744073709551616 := by rw [hlimb]; exact Nat.mod_lt _ (by decide)
        have HST : Hid (lv (O ++ [v]) = lv A / 2 ^ r % 2 ^ (64 * (k + 1))) := Lib.hid (by
          rw [lv_snoc, h1, h4, hlimb, show 64 * (k + 1) = 64 * k + 64 by omega, Nat.pow_add, Nat.mod_mul, Nat.div_div_eq_div_mul (lv A) (2 ^ (64 * k)), Nat.mul_comm (2 ^ (64 * k)) (2 ^ r), ← Nat.div_div_eq_div_mul])
        have hc0 := b0.1
        have hc1 := b1.1
        have hf1 := b1.2
        have hkI : (k : Int) < (N : Int) := by omega
        have HV64 := Lib.hid hv64
        have HRT := Lib.hid (show r + t = 64 by omega)
        clear hxA hyB hx1 hu1 hxr hut hv hp hxrb hxr64 hut64 hutd hT hlimb hv64 ht h4
        gi_wp2
        refine wpIn_region_walkK (fun w' => w'.cell? ⟨z, 0, none⟩ = some (.int .i64 (r : Int)) ∧ w'.cell? ⟨y, 0, none⟩ = some (.slice (some ⟨z + 1, 0, none⟩) k N))
          [true, true, true, true, true, true, true, true, true, false, false, false] 11 (by kernel_rfl) (by kernel_rfl) (by kernel_rfl) rfl (by kernel_rfl) rfl (by kernel_rfl) (by rintro ⟨_, _, h⟩; exact h) (fun _ _ _ _ _ h => h) ?_
        have hS : W.drew.cell? ⟨z, 0, none⟩ = some (.int .i64 (r : Int)) ∧ W.drew.cell? ⟨y, 0, none⟩ = some (.slice (some ⟨z + 1, 0, none⟩) k N) := ⟨hc0, hc1⟩
        repeat (refine walkK_yes hS rfl (fun w' hw' => by obtain ⟨q0, q1⟩ := hw'; go_simp; rfl) ?_; simp only [Act.put, List.setIfInBounds_toArray, List.set_cons_zero, List.set_cons_succ])
        refine walkK_no rfl (fun K hK => ?_)
        go_simp
        obtain ⟨W1, hW1⟩ : ∃ W1, W1 = (W.alloc (.cells #[.int .u64 (v : Int)] 58)).drew := ⟨_, rfl⟩
        have B0 : Box W1 z (.int .i64 (r : Int)) := by rw [hW1]; exact (b0.alloc _).drew
        have B1 : Box W1 y (.slice (some ⟨z + 1, 0, none⟩) k N) := by rw [hW1]; exact (b1.alloc _).drew
        have B2 : Box W1 (y + 1) (.slice (some ⟨b, off + q, none⟩) A.length 1) := by rw [hW1]; exact (b2.alloc _).drew
        have B3 : Box W1 (y + 2) (.slice (some ⟨b, off + q, none⟩) (A.drop 1).length 0) := by rw [hW1]; exact (b3.alloc _).drew
        have hrow1 : NRow z W1 (.slice (some ⟨z + 1, 0, none⟩) k N) O := by
          rw [hW1]; exact h5.of_block (Below.heap_alloc W _ _ (by show z + 1 < W.heap.size; omega))
        have hbel1 : Below (y + 3) W W1 := by rw [hW1]; exact ((Below.refl (y + 3) W).alloc hss _).drew
        have hke1 : KeepsFrom W0.heap.size W W1 := keeps_below (KeepsFrom.refl _ W) (by rw [hW1]; exact ((Below.refl W.heap.size W).alloc (Nat.le_refl _) _).drew)
        obtain ⟨w2, hrun, hown2, hgr2⟩ := run_append_fits (P := Tryd.prog) (w := W1) z 31 31 58 i0 1 Tryd.underlying31 hi hz1 (z + 1) k N (U O) (by have h := hrow1; unfold NRow at h; rw [h1] at h; exact h) ⟨W.heap.size, 0, none⟩ 1 1 [.int .u64 (v : Int)] rfl (by rw [hW1]; exact cell_one_new W _ _) (by intro u hu; simp at hu; subst hu; rfl) hkN
        rw [← hW1]
        refine hK _ W1 (fun _ => ⟨B0.1, B1.1⟩) ?_
        clear hW1
        clear hK K
        have C0 : Box w2 z (.int .i64 (r : Int)) := B0.of_block (hgr2.block z B0.lt (fun e => by injection e with e; omega))
        have C1 : Box w2 y (.slice (some ⟨z + 1, 0, none⟩) k N) := B1.of_block (hgr2.block y B1.lt (fun e => by injection e with e; omega))
        have C2 : Box w2 (y + 1) (.slice (some ⟨b, off + q, none⟩) A.length 1) := B2.of_block (hgr2.block (y + 1) B2.lt (fun e => by injection e with e; omega))
        have C3 : Box w2 (y + 2) (.slice (some ⟨b, off + q, none⟩) (A.drop 1).length 0) := B3.of_block (hgr2.block (y + 2) B3.lt (fun e => by injection e with e; omega))
        refine walkK_no rfl (fun K hK => ?_)
        refine oper_append (.tmp 30) (.tmp 39) rfl _ _ rfl rfl hrun ?_
        simp only [Act.put, List.setIfInBounds_toArray, List.set_cons_zero, List.set_cons_succ]
        refine hK _ w2 (fun _ => ⟨C0.1, C1.1⟩) ?_
        clear hK K
        have hc2 := C1.1
        have hf2 := C1.2
        refine walkK_no rfl (fun K hK => ?_)
        go_simp
        refine hK _ _ (fun h => absurd rfl h) ?_
        clear hK K
        simp only [walkK]
        gi_wp2
        have hyz : y ≠ z := by omega
        have gb : ∀ j, j < W1.heap.size → j ≠ z + 1 → j ≠ y → (w2.setCell ⟨y, 0, none⟩ (.slice (some ⟨z + 1, 0, none⟩) (k + 1) N)).heap[j]? = W1.heap[j]? := fun j hj h1 h2 =>
          (Below.heap_setCell _ _ _ _ (fun e => h2 (by simpa using e))).trans (hgr2.block j hj (fun e => h1 (by cases e; rfl)))
        have hbW1 : b < W1.heap.size := by have := B0.lt; omega
        have hbe : (w2.setCell ⟨y, 0, none⟩ (.slice (some ⟨z + 1, 0, none⟩) (k + 1) N)).heap[b]? = W.heap[b]? := (gb b hbW1 (by omega) (by omega)).trans (hbel1.block b (by omega))
        have hr3 : NRow z w2 (.slice (some ⟨z + 1, 0, none⟩) (k + 1) N) (O ++ [v]) := by
          unfold NRow
          rw [List.length_append, h1, U_append]
          exact hown2
        have hbz2 : Below z W w2 := (hbel1.mono (by omega)).grown hgr2 (by have := B0.lt; omega) (fun g hg => by injection hg with hg; omega)
        refine ⟨keeps_set (keeps_grown hke1 hgr2 (by have := HSZ.out; omega)) _ _, O ++ [v], by rw [List.length_append, h1]; rfl, hkN, fits_snoc h3 HV64.out, HST.out, hr3.of_block (Below.heap_setCell _ _ _ _ (by simp; omega)),
          natAt_keep h6 hbe, natAt_keep h7 hbe, C0.other (p := ⟨y, 0, none⟩) (by show y ≠ z; omega) _, C1.set _, C2.other (p := ⟨y, 0, none⟩) (by show y ≠ y + 1; omega) _, C3.other (p := ⟨y, 0, none⟩) (by show y ≠ y + 2; omega) _, ?_, ?_⟩
        · rw [size_set]; have := hbel1.size; have := hgr2.size; omega
        · exact hl.trans (hbz2.setCell (by show z ≤ y; omega) _)
      case done =>
        rintro D W hD ⟨O, h1, h2, h3, h4, h5, h6, h7, b0, b1, b2, b3, hss, hl⟩ hK
        have hc1 := b1.1
        have hf1 := b1.2
        have H1 := Lib.hid h1
        have H5 := Lib.hid h5
        clear h1 h5
        have hro : NRow z W (.slice (some ⟨z + 1, 0, none⟩) O.length N) O := by rw [H1.out]; exact H5.out
        have hOl : O.length ≤ 1048576 := by rw [H1.out, HAL.out]; exact HNI.out.2
        have htr := trim_any (some ⟨z + 1, 0, none⟩) N O W (by omega) (by rw [H1.out, HAL.out]; exact Nat.le_refl N) h3 hro.seg.2.2.2.2.2.natAt
        rw [H1.out] at htr
        have hv : lv O = lv L / 2 ^ s := by
          rw [h4, HFIN.out, HAL.out]
          exact Nat.mod_eq_of_lt (Nat.lt_of_le_of_lt (Nat.div_le_self _ _) (by rw [← HAL.out]; exact lv_lt FA.out))
        have hno := hro.norm h3
        rw [hv] at hno htr
        have HTR := Lib.hid htr
        have HNO := Lib.hid hno
        clear hro htr hno hv h4
        gi_wp2_with (gi_at_call 29; refine (callsIn_wide.2 HTR.out).mono ?_; rintro e w' ⟨rfl, rfl⟩)
        refine ⟨by simp, .inl ⟨_, _, rfl, run_takeDeferred hK, ?_⟩⟩
        have b1 : Below W0.heap.size W (W.putObj D (.deferred none)) := below_putObj W D _ hD (by have := HSZ.out; omega)
        have hno := HNO.out
        refine ⟨_, results_tmp rfl _ _ _, _, rfl, ?_, (show Below w.heap.size w W by rw [← HZ.out]; exact hl).trans (b1.mono ?_)⟩
        · rw [← HZ.out]
          exact hno.of_block (b1.block (z + 1) (by have := HSZ.out; omega))
        · have := HSZ.out; have := HZ.out; omega
      case stop =>
        rintro D k W _ _ h _
        exact h.elim
    · skip
      refine (callsIn_wide (n := 3)).1 ?_
      refine callsIn_of_wp_marks Tryd.func84 rfl trivial ?_ rfl
      simp only [Tryd.ntmps84, List.size_toArray, List.length_cons, List.length_nil, Nat.reduceAdd, Nat.reduceSub, Array.replicate_succ, Array.replicate_zero, List.push_toArray, List.append_toArray, List.nil_append, List.cons_append]
      gi_wp2_with (first
        | (gi_at_make
           refine wpListIn_make_own _ rfl _ _ 31 rfl z 58 i0 (.int .u64 0) 1 Tryd.underlying31 hi hz0 hz1 .i64 .i64 _ (L.length - q) rfl rfl rfl (by rw [hz2]; omega) (by unfold maxLen; omega) (by have := HZ.out; simp; omega) ?_
           intro w0 hown0 hg0
           have HO := Lib.hid hown0
           have HG0 := Lib.hid hg0
           clear hown0 hg0)
        | (gi_at_call 79; refine (callsIn_wide.2 (pairs_any _ _ _ _ _ _ _)).mono ?_; rintro e w' ⟨rfl, rfl⟩))
      rw [← HZ.out, HNN.out]
      obtain ⟨y, hy⟩ : ∃ y, y = w0.heap.size := ⟨_, rfl⟩
      rw [← hy, show y + 1 + 1 = y + 2 from rfl]
      have hrow0 : NRow z w0 (.slice (some ⟨z + 1, 0, none⟩) 0 N) [] := by
        have h := HO.out
        rw [HNN.out, World.size_alloc, ← HZ.out] at h
        exact h
      have hzy : z + 1 < y := by have := hrow0.seg.2.2.2.2.2.block; omega
      obtain ⟨p0, p1, p2⟩ := box_next HZ.out (.int .i64 (r : Int)) 3
      have hg0 := HG0.out
      have q0 : Box w0 z (.int .i64 (r : Int)) := p0.of_block (hg0.block z p0.lt (by simp))
      have hbz : b < z := by
        obtain ⟨b', o', e', hlt', _⟩ := mL.lt (i := 0) (by omega)
        cases e'
        rw [HZ.out]; exact hlt'
      have hw0 : Below z w w0 := (show Below z w _ from by rw [HZ.out]; exact p2).grown hg0 (by have h := HZ.out; simp; omega) (fun k hk => by cases hk)
      have mA : NatAt w (some ⟨b, off + q, none⟩) A := fun i hi => by
        obtain ⟨b', o', e', hc⟩ := mL (q + i) (by have := HAL.out; have := HNN.out; omega)
        cases e'
        refine ⟨b, off + q, rfl, ?_⟩
        rw [Nat.add_assoc, hc, HA.out]
        simp
      have mB : NatAt w (some ⟨b, off + q + 1, none⟩) (A.drop 1) := fun i hi => by
        obtain ⟨b', o', e', hc⟩ := mA (i + 1) (by rw [List.length_drop] at hi; omega)
        cases e'
        refine ⟨b, off + q + 1, rfl, ?_⟩
        rw [show off + q + 1 + i = off + q + (i + 1) by omega, hc]
        simp
      generalize hW : (((w0.alloc (.cells #[.slice (some ⟨z + 1, 0, none⟩) 0 N] 31)).alloc (.cells #[.slice (some ⟨b, off + q, none⟩) N (ca - q)] 31)).alloc (.cells #[.slice (some ⟨b, off + q + 1, none⟩) (N - 1) (ca - q - 1)] 31)) = W0
      obtain ⟨c1, s1, l1⟩ := box_next hy (.slice (some ⟨z + 1, 0, none⟩) 0 N) 31
      obtain ⟨c2, s2, l2⟩ := box_next s1 (.slice (some ⟨b, off + q, none⟩) N (ca - q)) 31
      obtain ⟨c3, s3, l3⟩ := box_next s2 (.slice (some ⟨b, off + q + 1, none⟩) (N - 1) (ca - q - 1)) 31
      rw [hW] at c3 s3 l3
      have hlW : Below y w0 W0 := by
        have h := (l1.trans (l2.mono l1.size)).trans (l3.mono (l1.trans (l2.mono l1.size)).size)
        rw [← hy] at h; exact h
      have hrowW : NRow z W0 (.slice (some ⟨z + 1, 0, none⟩) 0 N) [] := hrow0.of_block (hlW.block (z + 1) hzy)
      have hsz : W0.heap.size = y + 3 := s3.symm
      have c1' := (c1.alloc (.cells #[.slice (some ⟨b, off + q, none⟩) N (ca - q)] 31)).alloc (.cells #[.slice (some ⟨b, off + q + 1, none⟩) (N - 1) (ca - q - 1)] 31)
      have c2' := c2.alloc (.cells #[.slice (some ⟨b, off + q + 1, none⟩) (N - 1) (ca - q - 1)] 31)
      rw [hW] at c1' c2'
      have hAd : (A.drop 1).length = N - 1 := by rw [List.length_drop, HAL.out]
      have hwW : Below z w W0 := hw0.trans (hlW.mono (by omega))
      have hD0 : DownAt z y b (off + q) (off + q + 1) (ca - q) (ca - q - 1) r N A w 0 W0 :=
        ⟨[], rfl, Nat.zero_le _, fun x hx => (by simp at hx), by simp [lv, Nat.mod_one], hrowW, natAt_keep mA (hwW.block b hbz), natAt_keep mB (hwW.block b hbz), q0.below hlW (by omega), c1', by rw [HAL.out]; exact c2', by rw [hAd]; exact c3, by omega, hwW⟩
      obtain ⟨X, hX⟩ : ∃ X : Nat → Nat, ∀ k, X k = A.getD k 0 := ⟨_, fun _ => rfl⟩
      obtain ⟨Y, hY⟩ : ∃ Y : Nat → Nat, ∀ k, Y k = (A.drop 1).getD k 0 := ⟨_, fun _ => rfl⟩
      have HX := Lib.hid hX
      have HY := Lib.hid hY
      have FA : Hid (Fits A) := Lib.hid (by rw [HA.out]; exact fun x hx => fL x (List.mem_of_mem_drop hx))
      have hfin : lv L / 2 ^ s = lv A / 2 ^ r := by
        rw [HS.out, Nat.pow_add, ← Nat.div_div_eq_div_mul, HA.out, lv_div L q fL]
      have HFIN := Lib.hid hfin
      clear hX hY c1 c2 c3 l1 l2 l3 s1 s2 s3 hW p0 p1 p2 q0 hg0 hw0 mA mB hrow0 hrowW hlW c1' c2' hfin mL HG0 HO fL h1L h1C
      have HYY := Lib.hid hy
      have HSZ := Lib.hid hsz
      have HAD := Lib.hid hAd
      have HNI : Hid ((N : Int) ≤ 1048576 ∧ N ≤ 1048576) := Lib.hid ⟨by omega, hN2⟩
      clear hy hsz hAd hN1 hN2
      try clear hN1'
      refine wpIn_range_at (m := 1) (gf := 89) (lb := #[.pointer (some ⟨y + 1, 0, none⟩), .pointer (some ⟨y + 2, 0, none⟩)]) rfl (enters_of Tryd.func89 (by kernel_rfl) rfl) (pairs_at (y + 1) (y + 2) (some ⟨b, off + q, none⟩) (some ⟨b, off + q + 1, none⟩) (ca - q) (ca - q - 1) A (A.drop 1) X Y HX.out HY.out (by rw [HAL.out]; have := HNI.out.2; omega) (by rw [HAD.out]; have := HNI.out.2; omega)) (fun _ => rfl)
        (DownAt z y b (off + q) (off + q + 1) (ca - q) (ca - q - 1) r N A w) (fun _ _ => False) (fun k W W' hb' h => h.below hbz hzy (by rw [← HSZ.out]; exact hb')) (fun _ _ _ _ h => h) (fun k W h => by obtain ⟨O, h1, h2, h3, h4, h5, h6, h7, b0, b1, b2, b3, hss, hl⟩ := h; have := HSZ.out; omega) (fun _ _ h => h.elim)
        (fun k W h => by obtain ⟨O, h1, h2, h3, h4, h5, h6, h7, b0, b1, b2, b3, hss, hl⟩ := h; exact ⟨b2.1, b3.1, h6.from k, h7.from k⟩) hD0
        (fun k => { tmps := #[.slice (some ⟨b, off + q, none⟩) N (ca - q), .int .i64 (s : Int), undef, undef, .slice none 0 0, .int .i64 (q : Int), .pointer (some ⟨z, 0, none⟩), .pointer (some ⟨y, 0, none⟩), .int .u64 ((X k : Nat) : Int), .int .u64 ((Y k : Nat) : Int), .int .i64 (s : Int), .int .i64 (q : Int), .int .i64 (s : Int), .int .i64 (r : Int), .int .i64 (q : Int),
          .slice (some ⟨b, off, none⟩) L.length ca, .int .i64 (L.length : Int), .bool false, .slice (some ⟨b, off, none⟩) L.length ca, .int .i64 (q : Int), .slice (some ⟨b, off + q, none⟩) N (ca - q), .slice (some ⟨b, off + q, none⟩) N (ca - q), .int .i64 (N : Int), .slice (some ⟨z + 1, 0, none⟩) 0 N, .slice (some ⟨b, off + q, none⟩) N (ca - q), .slice (some ⟨b, off + q, none⟩) N (ca - q), .slice (some ⟨b, off + q + 1, none⟩) (N - 1) (ca - q - 1),
          .func (.func 89) #[] #[.pointer (some ⟨y + 1, 0, none⟩), .pointer (some ⟨y + 2, 0, none⟩)], .int .u64 ((X k : Nat) : Int), .int .u64 ((Y k : Nat) : Int), undef, undef, undef, undef, undef, undef, undef, undef, undef, undef, undef, undef, undef], defers := [] })
        ?assign ?body ?done ?stop
      case assign =>
        intro l k W K hK
        gi_wp2
        exact hK
      case body =>
        rintro l k W hk ⟨O, h1, h2, h3, h4, h5, h6, h7, b0, b1, b2, b3, hss, hl⟩
        have hxA : X k = A.getD k 0 := HX.out k
        have hyB : Y k = A.getD (k + 1) 0 := by rw [HY.out k]; simp [List.getD_eq_getElem?_getD]
        generalize X k = x at hxA ⊢
        generalize Y k = u at hyB ⊢
        have hkN : k < N := by rw [← HAL.out]; exact hk
        have hx1 : x < 18446744073709551616 := by rw [hxA]; exact getD_fits FA.out k
        have hu1 : u < 18446744073709551616 := by rw [hyB]; exact getD_fits FA.out (k + 1)
        obtain ⟨t, ht⟩ : ∃ t, t = 64 - r := ⟨_, rfl⟩
        obtain ⟨xr, hxr⟩ : ∃ xr, xr = x / 2 ^ r := ⟨_, rfl⟩
        obtain ⟨ut, hut⟩ : ∃ ut, ut = u * 2 ^ t % 18446744073709551616 := ⟨_, rfl⟩
        obtain ⟨v, hv⟩ : ∃ v, v = xr + ut := ⟨_, rfl⟩
        have hp : 2 ^ r * 2 ^ t = 18446744073709551616 := by rw [← Nat.pow_add, show r + t = 64 by omega]
        have hxrb : xr < 2 ^ t := by rw [hxr, Nat.div_lt_iff_lt_mul (Nat.two_pow_pos r), Nat.mul_comm, hp]; exact hx1
        have hxr64 : xr < 18446744073709551616 := by rw [hxr]; exact Nat.lt_of_le_of_lt (Nat.div_le_self _ _) hx1
        have hut64 : ut < 18446744073709551616 := by rw [hut]; exact Nat.mod_lt _ (by decide)
        have hutd : ut % 2 ^ t = 0 := by rw [hut, Nat.mod_mod_of_dvd _ ⟨2 ^ r, by rw [Nat.mul_comm, hp]⟩, Nat.mul_mod_left]
        have htI : (64 : Int) - (r : Int) = (t : Int) := by omega
        have ht0 : (0 : Int) ≤ (t : Int) := by omega
        have hr0 : (0 : Int) ≤ (r : Int) := by omega
        have hwt : IntKind.i64.wrap (t : Int) = (t : Int) := IntWalk.i64_in _ (by omega)
        have hw1 : (x : Int) / 2 ^ r = (xr : Int) := by rw [hxr]; simp
        have hw2 : IntKind.u64.wrap ((u : Int) * 2 ^ t) = (ut : Int) := by rw [show (u : Int) * 2 ^ t = ((u * 2 ^ t : Nat) : Int) by simp, wrap_nat, ← hut]
        have hw3 : bits .or .u64 (xr : Int) (ut : Int) = (v : Int) := by rw [u64_or_nat _ _ hxr64 hut64, low_or hxrb hutd, hv]
        have hT := lv_div A k FA.out
        have hlimb : v = lv A / 2 ^ (64 * k) / 2 ^ r % 18446744073709551616 := by
          rw [hv, hxr, hut, ht]
          refine shr_limb ?_ ?_ hr63
          · rw [hT, hxA]
            exact lv_low FA.out k
          · rw [show (18446744073709551616 : Nat) = 2 ^ 64 from rfl, Nat.div_div_eq_div_mul, ← Nat.pow_add, show 64 * k + 64 = 64 * (k + 1) by omega, lv_div A (k + 1) FA.out, hyB]
            exact lv_low FA.out (k + 1)
        have hv64 : v < 18446744073709551616 := by rw [hlimb]; exact Nat.mod_lt _ (by decide)
        have HST : Hid (lv (O ++ [v]) = lv A / 2 ^ r % 2 ^ (64 * (k + 1))) := Lib.hid (by
          rw [lv_snoc, h1, h4, hlimb, show 64 * (k + 1) = 64 * k + 64 by omega, Nat.pow_add, Nat.mod_mul, Nat.div_div_eq_div_mul (lv A) (2 ^ (64 * k)), Nat.mul_comm (2 ^ (64 * k)) (2 ^ r), ← Nat.div_div_eq_div_mul])
        have hc0 := b0.1
        have hc1 := b1.1
        have hf1 := b1.2
        have hkI : (k : Int) < (N : Int) := by omega
        have HV64 := Lib.hid hv64
        have HRT := Lib.hid (show r + t = 64 by omega)
        clear hxA hyB hx1 hu1 hxr hut hv hp hxrb hxr64 hut64 hutd hT hlimb hv64 ht h4
        gi_wp2
        refine wpIn_region_walkK (fun w' => w'.cell? ⟨z, 0, none⟩ = some (.int .i64 (r : Int)) ∧ w'.cell? ⟨y, 0, none⟩ = some (.slice (some ⟨z + 1, 0, none⟩) k N))
          [true, true, true, true, true, true, true, true, true, false, false, false] 11 (by kernel_rfl) (by kernel_rfl) (by kernel_rfl) rfl (by kernel_rfl) rfl (by kernel_rfl) (by rintro ⟨_, _, h⟩; exact h) (fun _ _ _ _ _ h => h) ?_
        have hS : W.drew.cell? ⟨z, 0, none⟩ = some (.int .i64 (r : Int)) ∧ W.drew.cell? ⟨y, 0, none⟩ = some (.slice (some ⟨z + 1, 0, none⟩) k N) := ⟨hc0, hc1⟩
        repeat (refine walkK_yes hS rfl (fun w' hw' => by obtain ⟨q0, q1⟩ := hw'; go_simp; rfl) ?_; simp only [Act.put, List.setIfInBounds_toArray, List.set_cons_zero, List.set_cons_succ])
        refine walkK_no rfl (fun K hK => ?_)
        go_simp
        obtain ⟨W1, hW1⟩ : ∃ W1, W1 = (W.alloc (.cells #[.int .u64 (v : Int)] 58)).drew := ⟨_, rfl⟩
        have B0 : Box W1 z (.int .i64 (r : Int)) := by rw [hW1]; exact (b0.alloc _).drew
        have B1 : Box W1 y (.slice (some ⟨z + 1, 0, none⟩) k N) := by rw [hW1]; exact (b1.alloc _).drew
        have B2 : Box W1 (y + 1) (.slice (some ⟨b, off + q, none⟩) A.length (ca - q)) := by rw [hW1]; exact (b2.alloc _).drew
        have B3 : Box W1 (y + 2) (.slice (some ⟨b, off + q + 1, none⟩) (A.drop 1).length (ca - q - 1)) := by rw [hW1]; exact (b3.alloc _).drew
        have hrow1 : NRow z W1 (.slice (some ⟨z + 1, 0, none⟩) k N) O := by
          rw [hW1]; exact h5.of_block (Below.heap_alloc W _ _ (by show z + 1 < W.heap.size; omega))
        have hbel1 : Below (y + 3) W W1 := by rw [hW1]; exact ((Below.refl (y + 3) W).alloc hss _).drew
        have hke1 : KeepsFrom W0.heap.size W W1 := keeps_below (KeepsFrom.refl _ W) (by rw [hW1]; exact ((Below.refl W.heap.size W).alloc (Nat.le_refl _) _).drew)
        obtain ⟨w2, hrun, hown2, hgr2⟩ := run_append_fits (P := Tryd.prog) (w := W1) z 31 31 58 i0 1 Tryd.underlying31 hi hz1 (z + 1) k N (U O) (by have h := hrow1; unfold NRow at h; rw [h1] at h; exact h) ⟨W.heap.size, 0, none⟩ 1 1 [.int .u64 (v : Int)] rfl (by rw [hW1]; exact cell_one_new W _ _) (by intro u hu; simp at hu; subst hu; rfl) hkN
        rw [← hW1]
        refine hK _ W1 (fun _ => ⟨B0.1, B1.1⟩) ?_
        clear hW1
        clear hK K
        have C0 : Box w2 z (.int .i64 (r : Int)) := B0.of_block (hgr2.block z B0.lt (fun e => by injection e with e; omega))
        have C1 : Box w2 y (.slice (some ⟨z + 1, 0, none⟩) k N) := B1.of_block (hgr2.block y B1.lt (fun e => by injection e with e; omega))
        have C2 : Box w2 (y + 1) (.slice (some ⟨b, off + q, none⟩) A.length (ca - q)) := B2.of_block (hgr2.block (y + 1) B2.lt (fun e => by injection e with e; omega))
        have C3 : Box w2 (y + 2) (.slice (some ⟨b, off + q + 1, none⟩) (A.drop 1).length (ca - q - 1)) := B3.of_block (hgr2.block (y + 2) B3.lt (fun e => by injection e with e; omega))
        refine walkK_no rfl (fun K hK => ?_)
        refine oper_append (.tmp 30) (.tmp 39) rfl _ _ rfl rfl hrun ?_
        simp only [Act.put, List.setIfInBounds_toArray, List.set_cons_zero, List.set_cons_succ]
        refine hK _ w2 (fun _ => ⟨C0.1, C1.1⟩) ?_
        clear hK K
        have hc2 := C1.1
        have hf2 := C1.2
        refine walkK_no rfl (fun K hK => ?_)
        go_simp
        refine hK _ _ (fun h => absurd rfl h) ?_
        clear hK K
        simp only [walkK]
        gi_wp2
        have hyz : y ≠ z := by omega
        have gb : ∀ j, j < W1.heap.size → j ≠ z + 1 → j ≠ y → (w2.setCell ⟨y, 0, none⟩ (.slice (some ⟨z + 1, 0, none⟩) (k + 1) N)).heap[j]? = W1.heap[j]? := fun j hj h1 h2 =>
          (Below.heap_setCell _ _ _ _ (fun e => h2 (by simpa using e))).trans (hgr2.block j hj (fun e => h1 (by cases e; rfl)))
        have hbW1 : b < W1.heap.size := by have := B0.lt; omega
        have hbe : (w2.setCell ⟨y, 0, none⟩ (.slice (some ⟨z + 1, 0, none⟩) (k + 1) N)).heap[b]? = W.heap[b]? := (gb b hbW1 (by omega) (by omega)).trans (hbel1.block b (by omega))
        have hr3 : NRow z w2 (.slice (some ⟨z + 1, 0, none⟩) (k + 1) N) (O ++ [v]) := by
          unfold NRow
          rw [List.length_append, h1, U_append]
          exact hown2
        have hbz2 : Below z W w2 := (hbel1.mono (by omega)).grown hgr2 (by have := B0.lt; omega) (fun g hg => by injection hg with hg; omega)
        refine ⟨keeps_set (keeps_grown hke1 hgr2 (by have := HSZ.out; omega)) _ _, O ++ [v], by rw [List.length_append, h1]; rfl, hkN, fits_snoc h3 HV64.out, HST.out, hr3.of_block (Below.heap_setCell _ _ _ _ (by simp; omega)),
          natAt_keep h6 hbe, natAt_keep h7 hbe, C0.other (p := ⟨y, 0, none⟩) (by show y ≠ z; omega) _, C1.set _, C2.other (p := ⟨y, 0, none⟩) (by show y ≠ y + 1; omega) _, C3.other (p := ⟨y, 0, none⟩) (by show y ≠ y + 2; omega) _, ?_, ?_⟩
        · rw [size_set]; have := hbel1.size; have := hgr2.size; omega
        · exact hl.trans (hbz2.setCell (by show z ≤ y; omega) _)
      case done =>
        rintro D W hD ⟨O, h1, h2, h3, h4, h5, h6, h7, b0, b1, b2, b3, hss, hl⟩ hK
        have hc1 := b1.1
        have hf1 := b1.2
        have H1 := Lib.hid h1
        have H5 := Lib.hid h5
        clear h1 h5
        have hro : NRow z W (.slice (some ⟨z + 1, 0, none⟩) O.length N) O := by rw [H1.out]; exact H5.out
        have hOl : O.length ≤ 1048576 := by rw [H1.out, HAL.out]; exact HNI.out.2
        have htr := trim_any (some ⟨z + 1, 0, none⟩) N O W (by omega) (by rw [H1.out, HAL.out]; exact Nat.le_refl N) h3 hro.seg.2.2.2.2.2.natAt
        rw [H1.out] at htr
        have hv : lv O = lv L / 2 ^ s := by
          rw [h4, HFIN.out, HAL.out]
          exact Nat.mod_eq_of_lt (Nat.lt_of_le_of_lt (Nat.div_le_self _ _) (by rw [← HAL.out]; exact lv_lt FA.out))
        have hno := hro.norm h3
        rw [hv] at hno htr
        have HTR := Lib.hid htr
        have HNO := Lib.hid hno
        clear hro htr hno hv h4
        gi_wp2_with (gi_at_call 29; refine (callsIn_wide.2 HTR.out).mono ?_; rintro e w' ⟨rfl, rfl⟩)
        refine ⟨by simp, .inl ⟨_, _, rfl, run_takeDeferred hK, ?_⟩⟩
        have b1 : Below W0.heap.size W (W.putObj D (.deferred none)) := below_putObj W D _ hD (by have := HSZ.out; omega)
        have hno := HNO.out
        refine ⟨_, results_tmp rfl _ _ _, _, rfl, ?_, (show Below w.heap.size w W by rw [← HZ.out]; exact hl).trans (b1.mono ?_)⟩
        · rw [← HZ.out]
          exact hno.of_block (b1.block (z + 1) (by have := HSZ.out; omega))
        · have := HSZ.out; have := HZ.out; omega
      case stop =>
        rintro D k W _ _ h _
        exact h.elim
end Go.Proofs.YtcbebikcfcidmaaDoor

namespace Go.Proofs.YtcbebikcfcidmaaDoor
open Go.RowKit

theorem set_at {Z R : List Nat} {n p : Nat} (hZ : Z.length = n) {y : Nat} : (Z ++ p :: R).set n y = Z ++ y :: R := by
  rw [List.set_append_right _ _ (by omega), hZ, Nat.sub_self]; rfl
/-- Where a row's limbs have been shifted, up to place k. -/
def UpAt (B g q r N : Nat) (L : List Nat) (w : World) (i : Value) (W : World) : Prop :=
  ∃ (k p : Nat) (Q : List Nat), k ≤ L.length ∧ i = .int .i64 (k : Int) ∧ Q.length = k ∧ Fits Q ∧ p < 2 ^ r ∧ lv Q + 2 ^ (64 * k) * p = lv (L.take k) * 2 ^ r ∧
    NRow B W (.slice (some ⟨g, 0, none⟩) N N) ((List.replicate q 0 ++ Q) ++ p :: List.replicate (L.length - k) 0) ∧ Below B w W

set_option maxRecDepth 100000 in
set_option maxHeartbeats 4000000 in
theorem shiftUp_any (a : Option Addr) (ca : Nat) (L : List Nat) (s : Nat) (w : World) (hL : L.length ≤ 1048576) (hs : s ≤ 1048576) (fL : Fits L) (mL : NatAt w a L) :
    Calls Tryd.prog 83 #[.slice a L.length ca, .int .i64 (s : Int)] w (OwnRes (nrow (lv L * 2 ^ s)) w) := by
  obtain ⟨i0, hi, hz0, hz1, hz2⟩ := info_parts info_u64
  obtain ⟨q, hq⟩ : ∃ q, q = s / 64 := ⟨_, rfl⟩
  obtain ⟨r, hr⟩ : ∃ r, r = s % 64 := ⟨_, rfl⟩
  have hqI : (s : Int) / 64 = (q : Int) := by omega
  have hrI : (s : Int) % 64 = (r : Int) := by omega
  have hr63 : r ≤ 63 := by omega
  have hrI63 : (r : Int) ≤ 63 := by omega
  have hsI : (s : Int) ≤ 1048576 := by omega
  have hs0 : (0 : Int) ≤ (s : Int) := by omega
  obtain ⟨N, hN⟩ : ∃ N, N = q + L.length + 1 := ⟨_, rfl⟩
  have HN : Hid ((q : Int) + (L.length : Int) + 1 = (N : Int)) := Lib.hid (by omega)
  have hN1 : N ≤ 4194304 := by omega
  have hNI : (N : Int) ≤ 4194304 := by omega
  have hqI2 : (q : Int) ≤ 1048576 := by omega
  have hLI : (L.length : Int) ≤ 1048576 := by omega
  have HS : Hid (s = 64 * q + r) := Lib.hid (by omega)
  have HNN := Lib.hid hN
  have FL := Lib.hid fL
  have ML := Lib.hid mL
  obtain ⟨B, hB⟩ : ∃ B, B = w.heap.size := ⟨_, rfl⟩
  have HBB := Lib.hid hB
  clear hq hr hN fL mL
  rw [show OwnRes (nrow (lv L * 2 ^ s)) w = fun e w' => ∃ v, e = .returned v ∧ NRow B w' v (nrow (lv L * 2 ^ s)) ∧ Below B w w' from by rw [hB]; rfl]
  clear hB
  go_enter Tryd.func83, Tryd.ntmps83
  go_wp2_with (
    (at_make
     refine wpList_make_full _ rfl _ _ 31 rfl B 58 i0 (.int .u64 0) 1 Tryd.underlying31 hi hz0 hz1 .i64 .i64 _ _ N rfl rfl HN.out HN.out (by rw [hz2]; omega) (by unfold maxLen; omega) (Nat.le_of_eq HBB.out) ?_
     intro w0 hown0 hg0
     have HO := Lib.hid (made_zeros hown0)
     have HB : Hid (Below B w w0) := Lib.hid ((Below.refl _ w).grown hg0 (Nat.le_of_eq HBB.out) (fun k hk => by cases hk))
     clear hown0 hg0))
  obtain ⟨g, hg⟩ : ∃ g, g = w.heap.size := ⟨_, rfl⟩
  rw [← hg] at HO ⊢
  have HO := Lib.hid HO.out
  have HG := Lib.hid hg
  clear hg
  go_loopw [22] (fun i W => UpAt B g q r N L w i W) (fun i _ => L.length - (intOf i).toNat)
  case atStart =>
    refine ⟨0, 0, [], Nat.zero_le _, rfl, rfl, fun x hx => (by simp at hx), Nat.two_pow_pos _, by simp [lv], ?_, HB.out⟩
    have e : (List.replicate q 0 ++ []) ++ 0 :: List.replicate (L.length - 0) 0 = List.replicate N 0 := by
      rw [List.append_nil, Nat.sub_zero, ← List.replicate_succ, List.replicate_append_replicate, HNN.out]; rfl
    rw [e]; exact HO.out
  case round =>
    obtain ⟨k, p, Q, hk, rfl, hQ, fQ, hp, hv, hrow, hbel⟩ := hrel
    have HQ := Lib.hid hQ
    have FQ := Lib.hid fQ
    have HP := Lib.hid hp
    have HV := Lib.hid hv
    have HROW := Lib.hid hrow
    have HBEL := Lib.hid hbel
    clear hQ fQ hp hv hrow hbel
    have hk0 : (0 : Int) ≤ (k : Int) := by omega
    by_cases hlt : k < L.length
    · have hkI : (k : Int) < (L.length : Int) := by omega
      have ml : NatAt wr a L := ML.out.below HBEL.out (Nat.le_of_eq HBB.out.symm)
      obtain ⟨b, off, rfl, hc1⟩ := ml k hlt
      obtain ⟨x, hx⟩ : ∃ x, x = L.getD k 0 := ⟨_, rfl⟩
      rw [← hx] at hc1
      have hxb : x < 18446744073709551616 := by rw [hx]; exact getD_fits FL.out k
      have hq0 : (List.replicate q 0 ++ Q).length = q + k := by rw [List.length_append, List.length_replicate, HQ.out]
      have hlk : L.length - k = (L.length - (k + 1)) + 1 := by omega
      have hrow := HROW.out
      rw [hlk, List.replicate_succ] at hrow
      have hlen : ((List.replicate q 0 ++ Q) ++ p :: 0 :: List.replicate (L.length - (k + 1)) 0).length = N := by
        rw [List.length_append, hq0, HNN.out]; simp; omega
      have hsg := hrow.seg.2.2.2.2.2
      have hgp : ((List.replicate q 0 ++ Q) ++ p :: 0 :: List.replicate (L.length - (k + 1)) 0).getD (q + k) 0 = p := by
        rw [List.getD_eq_getElem?_getD, List.getElem?_append_right (by rw [hq0]; exact Nat.le_refl _), hq0, Nat.sub_self]
        rfl
      have hc2 := hsg.cell (i := q + k) (by rw [hlen, HNN.out]; omega)
      rw [hgp, Nat.zero_add] at hc2
      have hfr := hsg.frozen
      obtain ⟨m, hm⟩ : ∃ m, m = q + k := ⟨_, rfl⟩
      obtain ⟨t, ht⟩ : ∃ t, t = 64 - r := ⟨_, rfl⟩
      have htI : (64 : Int) - (r : Int) = (t : Int) := by omega
      have hpow : 2 ^ t * 2 ^ r = 18446744073709551616 := by rw [← Nat.pow_add, show t + r = 64 by omega]
      obtain ⟨hh, hhh⟩ : ∃ hh, hh = x / 2 ^ t := ⟨_, rfl⟩
      obtain ⟨z, hzd⟩ : ∃ z, z = x % 2 ^ t * 2 ^ r := ⟨_, rfl⟩
      have hmod : x % 2 ^ t < 2 ^ t := Nat.mod_lt _ (Nat.two_pow_pos _)
      have hzb : z < 18446744073709551616 := by
        rw [hzd, ← hpow]; exact Nat.mul_lt_mul_of_pos_right hmod (Nat.two_pow_pos _)
      have hsplit : x * 2 ^ r = z + hh * 18446744073709551616 := by
        have h := Nat.mod_add_div x (2 ^ t)
        rw [← hhh] at h
        have h2 : (x % 2 ^ t + 2 ^ t * hh) * 2 ^ r = x * 2 ^ r := by rw [h]
        rw [Nat.add_mul, ← hzd] at h2
        have h3 : 2 ^ t * hh * 2 ^ r = hh * 18446744073709551616 := by rw [← hpow, Nat.mul_comm (2 ^ t) hh, Nat.mul_assoc]
        omega
      have hhb : hh < 2 ^ r := by
        rw [hhh, Nat.div_lt_iff_lt_mul (Nat.two_pow_pos _), Nat.mul_comm, hpow]; exact hxb
      have hw1 : IntKind.u64.wrap ((x : Int) * 2 ^ r) = (z : Int) := by
        rw [show (x : Int) * 2 ^ r = ((x * 2 ^ r : Nat) : Int) by simp, wrap_nat, hsplit]; omega
      obtain ⟨y, hy⟩ : ∃ y, y = z + p := ⟨_, rfl⟩
      have hw2 : bits .or .u64 (p : Int) (z : Int) = (y : Int) := by
        have hp64 : p < 18446744073709551616 := Nat.lt_of_lt_of_le HP.out (Nat.le_trans (Nat.pow_le_pow_right (j := 63) (by omega) hr63) (by decide))
        rw [u64_or_nat _ _ hp64 hzb, hy, hzd, Nat.or_comm, Nat.mul_comm (x % 2 ^ t), ← Nat.two_pow_add_eq_or_of_lt HP.out]
      have hyb : y < 18446744073709551616 := by
        have h1 : x % 2 ^ t + 1 ≤ 2 ^ t := hmod
        have h2 := Nat.mul_le_mul_right (2 ^ r) h1
        rw [hpow, Nat.add_mul, Nat.one_mul, ← hzd] at h2
        have := HP.out
        omega
      have hw3 : (x : Int) / 2 ^ t = (hh : Int) := by rw [hhh]; simp
      have hmI : (q : Int) + (k : Int) = (m : Int) := by omega
      have hmN : (m : Int) + 1 < (N : Int) := by have := HNN.out; omega
      have hm0 : (0 : Int) ≤ (m : Int) := by omega
      have hmN2 : (m : Int) < (N : Int) := by omega
      have hrow1 := hrow.set (i := q + k) (by rw [hlen, HNN.out]; omega) y
      rw [set_at hq0] at hrow1
      have hrow2 : NRow B (wr.setCell ⟨g, q + k, none⟩ (.int .u64 (y : Int))).drew (.slice (some ⟨g, 0, none⟩) N N) (((List.replicate q 0 ++ Q) ++ [y]) ++ 0 :: List.replicate (L.length - (k + 1)) 0) := by
        rw [List.append_assoc (List.replicate q 0 ++ Q)]; exact hrow1
      have hf2 : (wr.setCell ⟨g, q + k, none⟩ (.int .u64 (y : Int))).drew.frozen? ⟨g, q + k + 1, none⟩ = false := hrow2.seg.2.2.2.2.2.frozen _
      have hc3 := hrow2.seg.2.2.2.2.2.cell (i := q + k + 1) (by rw [List.length_append, List.length_append, hq0]; simp)
      rw [Nat.zero_add] at hc3
      have hrow3 := hrow2.set (i := q + k + 1) (by rw [List.length_append, List.length_append, hq0]; simp) hh
      rw [set_at (by rw [List.length_append, hq0]; rfl), List.append_assoc (List.replicate q 0)] at hrow3
      have HROW3 := Lib.hid hrow3
      have hBg : B ≤ g := by rw [HG.out]; exact Nat.le_of_eq HBB.out
      have HBEL3 := Lib.hid (Below.setCell (p := ⟨g, q + k + 1, none⟩) (show Below B w (wr.setCell ⟨g, q + k, none⟩ (.int .u64 (y : Int))).drew from below_drewN (HBEL.out.setCell (p := ⟨g, q + k, none⟩) hBg (.int .u64 (y : Int))) 1) hBg (.int .u64 (hh : Int)))
      have HVN : Hid (lv (Q ++ [y]) + 2 ^ (64 * (k + 1)) * hh = lv (L.take (k + 1)) * 2 ^ r) := Lib.hid (by
        rw [lv_snoc, HQ.out, lv_take_succ', ← hx, Nat.add_mul, ← HV.out, hy, show 64 * (k + 1) = 64 * k + 64 by omega, Nat.pow_add, Nat.mul_assoc (2 ^ (64 * k)) x, hsplit, Nat.mul_add, Nat.mul_add]
        have e : 2 ^ (64 * k) * 2 ^ 64 * hh = 2 ^ (64 * k) * (hh * 18446744073709551616) := by rw [Nat.mul_assoc, Nat.mul_comm (2 ^ 64) hh]
        omega)
      have HFN := Lib.hid (fits_snoc FQ.out hyb)
      have HHB := Lib.hid hhb
      have HQN : Hid ((Q ++ [y]).length = k + 1) := Lib.hid (by rw [List.length_append, HQ.out]; rfl)
      rw [← hm] at hc2 hf2 hc3 HROW3 HBEL3
      have hf1 := hfr m
      have HLT := Lib.hid hlt
      generalize ((((List.replicate q 0 ++ Q) ++ [y]) ++ 0 :: List.replicate (L.length - (k + 1)) 0).getD (q + k + 1) 0) = z0 at hc3
      have hy0 : (0 : Int) ≤ (y : Int) := by omega
      have hx0 : (0 : Int) ≤ (x : Int) := by omega
      have hxI : (x : Int) < 18446744073709551616 := by omega
      have ht0 : (0 : Int) ≤ (t : Int) := by omega
      have ht1 : (t : Int) ≤ 64 := by omega
      clear hx hq0 hlk hrow hlen hsg hgp hfr hm ht hpow hhh hzd hmod hzb hsplit hhb hy hyb hrow1 hrow2 hrow3 hlt
      go_wp2_with fail
      go_region
      all_goals (go_wp2_with fail)
      all_goals (refine ⟨⟨k + 1, hh, Q ++ [y], HLT.out, by go_num, HQN.out, HFN.out, HHB.out, HVN.out, HROW3.out, HBEL3.out⟩, ?_⟩)
      all_goals (have := HLT.out; simp [intOf]; omega)
    · obtain rfl : k = L.length := by omega
      have hlv : lv (((List.replicate q 0 ++ Q) ++ p :: List.replicate (L.length - L.length) 0)) = lv L * 2 ^ s := by
        have h := HV.out
        rw [List.take_length] at h
        rw [Nat.sub_self, List.replicate_zero, lv_snoc, lv_append, lv_zeros, List.length_append, List.length_replicate, HQ.out, HS.out, Nat.pow_add, Nat.mul_add, Nat.pow_add, Nat.zero_add, Nat.mul_comm (2 ^ (64 * q)) (2 ^ r), ← Nat.mul_assoc, ← h, Nat.add_mul]
        rw [Nat.mul_comm (lv Q), Nat.mul_right_comm, Nat.mul_comm (2 ^ (64 * L.length)), Nat.mul_assoc (2 ^ (64 * q)) p, Nat.mul_comm (2 ^ (64 * q)) (p * _)]
      have hfit : Fits (((List.replicate q 0 ++ Q) ++ p :: List.replicate (L.length - L.length) 0)) := by
        rw [Nat.sub_self, List.replicate_zero]
        refine fits_snoc (fits_append (fits_zeros _) FQ.out) ?_
        exact Nat.lt_of_lt_of_le HP.out (Nat.le_trans (Nat.pow_le_pow_right (j := 63) (by omega) hr63) (by decide))
      have hlen : (((List.replicate q 0 ++ Q) ++ p :: List.replicate (L.length - L.length) 0)).length ≤ 1099511627776 := by
        rw [Nat.sub_self, List.length_append, List.length_append, List.length_replicate, HQ.out]; simp; omega
      have HT := Lib.hid (trim_own HROW.out hfit hlen)
      rw [hlv] at HT
      have hkk : (L.length : Int) ≤ (L.length : Int) := Int.le_refl _
      clear hlv hfit hlen hlt
      go_wp2_with fail
      refine HT.out.mono ?_
      rintro e w1 ⟨v, rfl, hv, rfl⟩
      have HV1 := Lib.hid hv
      clear hv
      go_wp2_with fail
      go_ret
      exact ⟨_, rfl, HV1.out, HBEL.out⟩

section
variable {K : Nat} {w : World} {va : Value} {na : Nat}

end
end Go.Proofs.YtcbebikcfcidmaaDoor

namespace Go.Proofs.YtcbebikcfcidmaaDoor
open Go.RowKit
section
variable {K : Nat} {w : World} {va : Value} {na : Nat}
end
end Go.Proofs.YtcbebikcfcidmaaDoor

namespace Go.Proofs.YtcbebikcfcidmaaDoor
open Go.RowKit

theorem blen_lower {t : Nat} (h : blen t = 64) : 9223372036854775808 ≤ t := by
  unfold blen at h
  split at h
  · omega
  · rename_i h0
    have h1 := Nat.log2_self_le h0
    have h2 : Nat.log2 t = 63 := by omega
    rw [h2] at h1
    exact h1
/-- The divisor's top bit, set by a shift. -/
theorem top_shift {d n P : Nat} (h0 : d ≠ 0) (hl : (nrow d).length = P + 2) (hn : n + blen ((nrow d).getD (P + 1) 0) = 64) : (nrow (d * 2 ^ n)).length = P + 2 ∧ 9223372036854775808 ≤ (nrow (d * 2 ^ n)).getD (P + 1) 0 := by
  obtain ⟨t, t1, t2, t3, t4⟩ := blen_nrow h0
  rw [hl, show P + 2 - 1 = P + 1 from rfl] at t1 t4
  rw [t1] at hn
  have h1 : d * 2 ^ n ≠ 0 := Nat.mul_ne_zero h0 (by have := Nat.two_pow_pos n; omega)
  obtain ⟨u, u1, u2, u3, u4⟩ := blen_nrow h1
  rw [blen_shl h0, t4] at u4
  have hu := blen_le (show u < 2 ^ 64 from u2)
  have hup := blen_pos u3
  have hp : 0 < (nrow (d * 2 ^ n)).length := by
    rcases Nat.eq_zero_or_pos (nrow (d * 2 ^ n)).length with h | h
    · exact absurd (nrow_nil.1 (List.eq_nil_of_length_eq_zero h)) h1
    · exact h
  have hlen : (nrow (d * 2 ^ n)).length = P + 2 := by omega
  refine ⟨hlen, ?_⟩
  rw [hlen, show P + 2 - 1 = P + 1 from rfl] at u1 u4
  rw [u1]
  exact blen_lower (by omega)
theorem nrow_mono {a b : Nat} (h : a ≤ b) : (nrow a).length ≤ (nrow b).length := by
  rcases Nat.lt_or_ge (nrow b).length (nrow a).length with h1 | h1
  · have := nrow_lt h1; omega
  · exact h1
theorem NRow.head0 {B n c : Nat} {w : World} {a : Option Addr} {R : List Nat} (h : NRow B w (.slice a n c) R) (hl : 0 < R.length) : ∃ g, a = some ⟨g, 0, none⟩ ∧ B ≤ g := by
  rcases h.2 with ⟨_, h0⟩ | ⟨g, cap, _, hv, hg, _⟩
  · omega
  · cases hv; exact ⟨g, rfl, hg⟩

set_option maxRecDepth 100000 in
set_option maxHeartbeats 4000000 in
theorem divide_two (a b : Option Addr) (ca cb na nb P : Nat) (w : World) (hl : (nrow nb).length = P + 2) (hle : (nrow nb).length ≤ (nrow na).length) (hs : (nrow na).length ≤ 524288) (ma : NatAt w a (nrow na)) (mb : NatAt w b (nrow nb)) :
    Calls Tryd.prog 70 #[.slice a (nrow na).length ca, .slice b (nrow nb).length cb] w (DivideRes na nb w) := by
  have h0 : nb ≠ 0 := fun e => by rw [e, nrow_zero] at hl; simp at hl
  obtain ⟨t, ht1, ht2, ht3, ht4⟩ := blen_nrow h0
  rw [hl, show P + 2 - 1 = P + 1 from rfl] at ht1 ht4
  obtain ⟨bb, ob, rfl, _⟩ := mb 0 (by omega)
  have hcell : w.cell? ⟨bb, ob + (P + 1), none⟩ = some (.int .u64 (t : Int)) := by
    obtain ⟨b', o', e', hc⟩ := mb (P + 1) (by omega)
    cases e'; rw [ht1] at hc; exact hc
  have hbt := blen_le (show t < 2 ^ 64 from ht2)
  have hbp := blen_pos ht3
  obtain ⟨n, hn⟩ : ∃ n, n + blen t = 64 := ⟨64 - blen t, by omega⟩
  obtain ⟨htl, htt⟩ := top_shift (n := n) h0 hl (by rw [ht1]; exact hn)
  have hlz := Tryd.bits_LeadingZeros64 t w (by omega) (by omega)
  rw [Int.toNat_natCast, bitLen_blen ht2, show (64 : Int) - (blen t : Int) = (n : Int) by omega] at hlz
  have HLZ := Lib.hid hlz
  obtain ⟨La, hLa⟩ : ∃ La, La = (nrow na).length := ⟨_, rfl⟩
  obtain ⟨Lb, hLb⟩ : ∃ Lb, Lb = (nrow nb).length := ⟨_, rfl⟩
  have hnlt : ¬ (La : Int) < (Lb : Int) := by omega
  have hn1 : ((Lb : Int) == 1) = false := by simp; omega
  have hLbI : (Lb : Int) - 1 = ((P + 1 : Nat) : Int) := by omega
  obtain ⟨P1, hP1⟩ : ∃ P1, P1 = P + 1 := ⟨_, rfl⟩
  rw [← hP1] at hLbI hcell
  have hP1b : (P1 : Int) < (Lb : Int) := by omega
  have hP10 : (0 : Int) ≤ (P1 : Int) := by omega
  have hLb9 : (Lb : Int) ≤ 524288 := by omega
  have hLb2 : (2 : Int) ≤ (Lb : Int) := by omega
  have hn63 : n ≤ 63 := by omega
  have hnI : (n : Int) ≤ 63 := by omega
  have hn0 : (0 : Int) ≤ (n : Int) := by omega
  have hup1 := shiftUp_any a ca (nrow na) n w (by omega) (by omega) (nrow_fits na) ma
  rw [lv_nrow, ← hLa] at hup1
  have HU1 := Lib.hid hup1
  have HLa := Lib.hid hLa
  have HLb := Lib.hid hLb
  have HL := Lib.hid hl
  have HLE := Lib.hid hle
  have HS := Lib.hid hs
  have H0 := Lib.hid h0
  have MB := Lib.hid mb
  have HTL := Lib.hid htl
  have HTT := Lib.hid htt
  have HN63 := Lib.hid hn63
  rw [← hLa, ← hLb]
  clear hlz hup1 hLa hLb hl hle hs h0 mb ma htl htt hn hbt hbp ht1 ht2 ht3 ht4 hn63 hP1
  go_enter Tryd.func70, Tryd.ntmps70
  go_wp2_with fail
  refine HLZ.out.mono ?_
  rintro e w' ⟨rfl, hw'⟩
  rw [hw']
  clear hw' w'
  go_wp2_with fail
  refine HU1.out.mono ?_
  rintro e w1 ⟨v1, rfl, hr1, hb1⟩
  have hup2 := shiftUp_any (some ⟨bb, ob, none⟩) cb (nrow nb) n w1 (by have := HLE.out; have := HS.out; omega) (by have := HN63.out; omega) (nrow_fits nb) (MB.out.below hb1 (Nat.le_refl _))
  rw [lv_nrow, ← HLb.out] at hup2
  have HU2 := Lib.hid hup2
  have HR1 := Lib.hid hr1
  have HB1 := Lib.hid hb1
  clear hup2 hr1 hb1
  go_wp2_with fail
  refine HU2.out.mono ?_
  rintro e w2 ⟨v2, rfl, hr2, hb2⟩
  have HB2 := Lib.hid (HB1.out.trans (hb2.mono HB1.out.size))
  have hr1' := HR1.out.below hb2 (Nat.le_refl _)
  have hla1 : (nrow nb).length ≤ (nrow (na * 2 ^ n)).length := Nat.le_trans HLE.out (nrow_mono (Nat.le_mul_of_pos_right na (Nat.two_pow_pos n)))
  have hla2 : (nrow (na * 2 ^ n)).length ≤ 1048576 := by
    have h1 := lv_lt (nrow_fits na)
    rw [lv_nrow] at h1
    have h2 : na * 2 ^ n < 2 ^ (64 * ((nrow na).length + 1)) := by
      rw [show 64 * ((nrow na).length + 1) = 64 * (nrow na).length + 64 by omega, Nat.pow_add]
      exact Nat.mul_lt_mul'' h1 (Nat.pow_lt_pow_right (by omega) (by have := HN63.out; omega))
    have h3 := nrow_length_le h2
    have := HS.out
    omega
  obtain ⟨A1, c1, rfl, hc1, _, _⟩ := hr1'.at_
  obtain ⟨g1, rfl, hg1⟩ := hr1'.head0 (by have := HL.out; omega)
  obtain ⟨A2, c2, rfl, hc2, _, hat2⟩ := hr2.at_
  obtain ⟨g2, rfl, hg2⟩ := hr2.head0 (by rw [HTL.out]; omega)
  have hg12 : g2 ≠ g1 := by
    have h1 := HR1.out.seg.2.2.2.2.2.block
    omega
  have hdl := divLong_any w.heap.size g1 g2 0 c1 c2 P (nb * 2 ^ n) (na * 2 ^ n) w2 HB2.out.size HTL.out (by rw [← HL.out]; exact hla1) hla2 HTT.out hc2 hr1' hat2 hg12
  have HDL := Lib.hid hdl
  have HLA1 := Lib.hid hla1
  clear hdl hr1' hat2 hr2 hg12 hg1 hg2 hc1 hc2 hla1 hla2 hb2
  go_wp2_with fail
  refine HDL.out.mono ?_
  rintro e w3 ⟨q, r, rfl, hq, hr, hb3⟩
  have hp2 : 0 < 2 ^ n := Nat.two_pow_pos n
  rw [Nat.mul_div_mul_right _ _ hp2] at hq
  rw [Nat.mul_mod_mul_right] at hr
  have HQ := Lib.hid hq
  have HB3 := Lib.hid (HB2.out.trans hb3)
  obtain ⟨A3, c3, rfl, hc3, _, hat3⟩ := hr.at_
  have hrl : (nrow (na % nb * 2 ^ n)).length ≤ P + 2 := by
    rw [← HTL.out]
    exact nrow_mono (Nat.mul_le_mul_right _ (Nat.le_of_lt (Nat.mod_lt _ (Nat.pos_of_ne_zero H0.out))))
  have hdn := shiftDown_any A3 c3 (nrow (na % nb * 2 ^ n)) n w3 (by have h1 := HL.out; have h2 := HLb.out; omega) hc3 (by have := HN63.out; omega) (nrow_fits _) hat3
  rw [lv_nrow, Nat.mul_div_cancel _ hp2] at hdn
  have HDN := Lib.hid hdn
  clear hq hr hb3 hc3 hat3 hrl hdn hp2
  go_wp2_with fail
  refine HDN.out.mono ?_
  rintro e w4 ⟨v4, rfl, hr4, hb4⟩
  have HR4 := Lib.hid (hr4.more (B' := w.heap.size) HB3.out.size)
  have HQ4 := Lib.hid (HQ.out.below hb4 (Nat.le_refl _))
  have HB4 := Lib.hid (HB3.out.trans (hb4.mono HB3.out.size))
  clear hr4 hb4
  go_wp2_with fail
  go_ret2
  exact ⟨_, _, rfl, HQ4.out, HR4.out, HB4.out⟩
/-- divide, of any numbers. -/
theorem divides_all {na nb : Nat} (h0 : nb ≠ 0) (hs : (nrow na).length ≤ 524288) : Divides na nb := by
  intro a b ca cb w h1 h2 h3 h4 ma mb
  rcases Nat.lt_or_ge (nrow na).length (nrow nb).length with h | h
  · exact divide_less a b ca cb na nb w h (by omega) h1 h2 ma
  · by_cases hl : (nrow nb).length = 1
    · exact divides_small hl (by omega) a b ca cb w h1 h2 h3 h4 ma mb
    · have hp : 0 < (nrow nb).length := by
        rcases Nat.eq_zero_or_pos (nrow nb).length with h | h
        · exact absurd (nrow_nil.1 (List.eq_nil_of_length_eq_zero h)) h0
        · exact h
      exact divide_two a b ca cb na nb ((nrow nb).length - 2) w (by omega) h hs ma mb
end Go.Proofs.YtcbebikcfcidmaaDoor
