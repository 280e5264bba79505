/-
  The texts NatQDownW, one behind the other.
-/
import Derived.Test.YtofpcdjoljjnoaaDoorTapZ13
import Derived.Test.YtofpcdjoljjnoaaDoorTapZ08

namespace Go.Proofs.YtofpcdjoljjnoaaDoor
open Go.RowKit Go.Shelf
attribute [local go_sem] Oper.semAt_some wide_fn

set_option maxRecDepth 100000 in
set_option maxHeartbeats 2000000 in
theorem shiftDown_any (a : Option Addr) (ca : Nat) (L : List Nat) (s : Nat) (w : World) (hL : L.length ≤ 1048576) (hcap : L.length ≤ ca) (hs : s ≤ 268435456) (fL : Fits L) (mL : NatAt w a L) :
    Calls Tryd.prog 89 #[.slice a L.length ca, .int .i64 (s : Int)] w (OwnRes (nrow (lv L / 2 ^ s)) w) := by
  obtain ⟨i0, hi, hz0, hz1, hz2⟩ := info_parts info_u64
  obtain ⟨q, hq⟩ : ∃ q, q = s / 64 := ⟨_, rfl⟩
  obtain ⟨r, hr⟩ : ∃ r, r = s % 64 := ⟨_, rfl⟩
  have hqI : (s : Int) / 64 = (q : Int) := by omega
  have hrI : (s : Int) % 64 = (r : Int) := by omega
  have hr63 : r ≤ 63 := by omega
  have hrI63 : (r : Int) ≤ 63 := by omega
  have hsI : (s : Int) ≤ 268435456 := by omega
  have hs0 : (0 : Int) ≤ (s : Int) := by omega
  have HS : Hid (s = 64 * q + r) := Lib.hid (by omega)
  have hLI : (L.length : Int) ≤ 1048576 := by omega
  clear hq hr
  by_cases hge : L.length ≤ q
  · have hgI : (L.length : Int) ≤ (q : Int) := by omega
    have HV : Hid (lv L / 2 ^ s = 0) := Lib.hid (by
      refine Nat.div_eq_of_lt (Nat.lt_of_lt_of_le (lv_lt fL) (Nat.pow_le_pow_right (by omega) (by have := HS.out; omega))))
    clear hge
    go_enter Tryd.func89, Tryd.ntmps89
    go_wp2_with fail
    go_ret
    exact ⟨_, rfl, by rw [HV.out]; exact NRow.nil _ _, (Below.refl _ _).alloc (Nat.le_refl _) _⟩
  · have hlt : q < L.length := by omega
    have hltI : (q : Int) < (L.length : Int) := by omega
    obtain ⟨b, off, rfl, _⟩ := mL 0 (by omega)
    obtain ⟨A, hA⟩ : ∃ A, A = L.drop q := ⟨_, rfl⟩
    have hAl : A.length = L.length - q := by rw [hA, List.length_drop]
    obtain ⟨N, hN⟩ : ∃ N, N = A.length := ⟨_, rfl⟩
    have hN1 : 1 ≤ N := by omega
    have hN2 : N ≤ 1048576 := by omega
    have hqL : (q : Int) ≤ (L.length : Int) := by omega
    have h1L : (1 : Int) ≤ ((L.length - q : Nat) : Int) := by omega
    have h1C : ((L.length - q : Nat) : Int) ≤ ((ca - q : Nat) : Int) := by omega
    have hNn : L.length - q = N := by omega
    have hq0 : (0 : Int) ≤ (q : Int) := by omega
    have hqc : (q : Int) ≤ (ca : Int) := by omega
    have hLc : (L.length : Int) ≤ (ca : Int) := by omega
    obtain ⟨z, hz⟩ : ∃ z, z = w.heap.size := ⟨_, rfl⟩
    have HZ := Lib.hid hz
    have HAL : Hid (A.length = N) := Lib.hid hN.symm
    have HA := Lib.hid hA
    have HNN := Lib.hid hNn
    clear hz hAl hN hA hNn
    by_cases hc1 : ca - q = 1
    · have hN1' : N ≤ 1 := by have := HNN.out; omega
      refine (callsIn_wide (n := 3)).1 ?_
      refine callsIn_of_wp_marks Tryd.func89 rfl trivial ?_ rfl
      simp only [Tryd.ntmps89, List.size_toArray, List.length_cons, List.length_nil, Nat.reduceAdd, Nat.reduceSub, Array.replicate_succ, Array.replicate_zero, List.push_toArray, List.append_toArray, List.nil_append, List.cons_append]
      gi_wp2_with (first
        | (gi_at_make
           refine wpListIn_make_own _ rfl _ _ 29 rfl z 64 i0 (.int .u64 0) 1 Tryd.underlying29 hi hz0 hz1 .i64 .i64 _ (L.length - q) rfl rfl rfl (by rw [hz2]; omega) (by unfold maxLen; omega) (by have := HZ.out; simp; omega) ?_
           intro w0 hown0 hg0
           have HO := Lib.hid hown0
           have HG0 := Lib.hid hg0
           clear hown0 hg0)
        | (gi_at_call 84; refine (callsIn_wide.2 (pairs_any _ _ _ _ _ _ _)).mono ?_; rintro e w' ⟨rfl, rfl⟩))
      rw [← HZ.out, HNN.out]
      obtain ⟨y, hy⟩ : ∃ y, y = w0.heap.size := ⟨_, rfl⟩
      rw [← hy, show y + 1 + 1 = y + 2 from rfl]
      have hrow0 : NRow z w0 (.slice (some ⟨z + 1, 0, none⟩) 0 N) [] := by
        have h := HO.out
        rw [HNN.out, World.size_alloc, ← HZ.out] at h
        exact h
      have hzy : z + 1 < y := by have := hrow0.seg.2.2.2.2.2.block; omega
      obtain ⟨p0, p1, p2⟩ := box_next HZ.out (.int .i64 (r : Int)) 3
      have hg0 := HG0.out
      have q0 : Box w0 z (.int .i64 (r : Int)) := p0.of_block (hg0.block z p0.lt (by simp))
      have hbz : b < z := by
        obtain ⟨b', o', e', hlt', _⟩ := mL.lt (i := 0) (by omega)
        cases e'
        rw [HZ.out]; exact hlt'
      have hw0 : Below z w w0 := (show Below z w _ from by rw [HZ.out]; exact p2).grown hg0 (by have h := HZ.out; simp; omega) (fun k hk => by cases hk)
      have mA : NatAt w (some ⟨b, off + q, none⟩) A := fun i hi => by
        obtain ⟨b', o', e', hc⟩ := mL (q + i) (by have := HAL.out; have := HNN.out; omega)
        cases e'
        refine ⟨b, off + q, rfl, ?_⟩
        rw [Nat.add_assoc, hc, HA.out]
        simp
      have mB : NatAt w (some ⟨b, off + q, none⟩) (A.drop 1) := fun i hi => by
        exfalso
        rw [List.length_drop, HAL.out] at hi
        omega
      generalize hW : (((w0.alloc (.cells #[.slice (some ⟨z + 1, 0, none⟩) 0 N] 29)).alloc (.cells #[.slice (some ⟨b, off + q, none⟩) N 1] 29)).alloc (.cells #[.slice (some ⟨b, off + q, none⟩) (N - 1) 0] 29)) = W0
      obtain ⟨c1, s1, l1⟩ := box_next hy (.slice (some ⟨z + 1, 0, none⟩) 0 N) 29
      obtain ⟨c2, s2, l2⟩ := box_next s1 (.slice (some ⟨b, off + q, none⟩) N 1) 29
      obtain ⟨c3, s3, l3⟩ := box_next s2 (.slice (some ⟨b, off + q, none⟩) (N - 1) 0) 29
      rw [hW] at c3 s3 l3
      have hlW : Below y w0 W0 := by
        have h := (l1.trans (l2.mono l1.size)).trans (l3.mono (l1.trans (l2.mono l1.size)).size)
        rw [← hy] at h; exact h
      have hrowW : NRow z W0 (.slice (some ⟨z + 1, 0, none⟩) 0 N) [] := hrow0.of_block (hlW.block (z + 1) hzy)
      have hsz : W0.heap.size = y + 3 := s3.symm
      have c1' := (c1.alloc (.cells #[.slice (some ⟨b, off + q, none⟩) N 1] 29)).alloc (.cells #[.slice (some ⟨b, off + q, none⟩) (N - 1) 0] 29)
      have c2' := c2.alloc (.cells #[.slice (some ⟨b, off + q, none⟩) (N - 1) 0] 29)
      rw [hW] at c1' c2'
      have hAd : (A.drop 1).length = N - 1 := by rw [List.length_drop, HAL.out]
      have hwW : Below z w W0 := hw0.trans (hlW.mono (by omega))
      have hD0 : DownAt z y b (off + q) (off + q) 1 0 r N A w 0 W0 :=
        ⟨[], rfl, Nat.zero_le _, fun x hx => (by simp at hx), by simp [lv, Nat.mod_one], hrowW, natAt_keep mA (hwW.block b hbz), natAt_keep mB (hwW.block b hbz), q0.below hlW (by omega), c1', by rw [HAL.out]; exact c2', by rw [hAd]; exact c3, by omega, hwW⟩
      obtain ⟨X, hX⟩ : ∃ X : Nat → Nat, ∀ k, X k = A.getD k 0 := ⟨_, fun _ => rfl⟩
      obtain ⟨Y, hY⟩ : ∃ Y : Nat → Nat, ∀ k, Y k = (A.drop 1).getD k 0 := ⟨_, fun _ => rfl⟩
      have HX := Lib.hid hX
      have HY := Lib.hid hY
      have FA : Hid (Fits A) := Lib.hid (by rw [HA.out]; exact fun x hx => fL x (List.mem_of_mem_drop hx))
      have hfin : lv L / 2 ^ s = lv A / 2 ^ r := by
        rw [HS.out, Nat.pow_add, ← Nat.div_div_eq_div_mul, HA.out, lv_div L q fL]
      have HFIN := Lib.hid hfin
      clear hX hY c1 c2 c3 l1 l2 l3 s1 s2 s3 hW p0 p1 p2 q0 hg0 hw0 mA mB hrow0 hrowW hlW c1' c2' hfin mL HG0 HO fL h1L h1C
      have HYY := Lib.hid hy
      have HSZ := Lib.hid hsz
      have HAD := Lib.hid hAd
      have HNI : Hid ((N : Int) ≤ 1048576 ∧ N ≤ 1048576) := Lib.hid ⟨by omega, hN2⟩
      clear hy hsz hAd hN1 hN2
      try clear hN1'
      refine wpIn_range_at (m := 1) (gf := 92) (lb := #[.pointer (some ⟨y + 1, 0, none⟩), .pointer (some ⟨y + 2, 0, none⟩)]) rfl (enters_of Tryd.func92 (by kernel_rfl) rfl) (pairs_at (y + 1) (y + 2) (some ⟨b, off + q, none⟩) (some ⟨b, off + q, none⟩) 1 0 A (A.drop 1) X Y HX.out HY.out (by rw [HAL.out]; have := HNI.out.2; omega) (by rw [HAD.out]; have := HNI.out.2; omega)) (fun _ => rfl)
        (DownAt z y b (off + q) (off + q) 1 0 r N A w) (fun _ _ => False) (fun k W W' hb' h => h.below hbz hzy (by rw [← HSZ.out]; exact hb')) (fun _ _ _ _ h => h) (fun k W h => by obtain ⟨O, h1, h2, h3, h4, h5, h6, h7, b0, b1, b2, b3, hss, hl⟩ := h; have := HSZ.out; omega) (fun _ _ h => h.elim)
        (fun k W h => by obtain ⟨O, h1, h2, h3, h4, h5, h6, h7, b0, b1, b2, b3, hss, hl⟩ := h; exact ⟨b2.1, b3.1, h6.from k, h7.from k⟩) hD0
        (fun k => { tmps := #[.slice (some ⟨b, off + q, none⟩) N 1, .int .i64 (s : Int), undef, undef, .slice none 0 0, .int .i64 (q : Int), .pointer (some ⟨z, 0, none⟩), .pointer (some ⟨y, 0, none⟩), .int .u64 ((X k : Nat) : Int), .int .u64 ((Y k : Nat) : Int), .int .i64 (s : Int), .int .i64 (q : Int), .int .i64 (s : Int), .int .i64 (r : Int), .int .i64 (q : Int),
          .slice (some ⟨b, off, none⟩) L.length ca, .int .i64 (L.length : Int), .bool false, .slice (some ⟨b, off, none⟩) L.length ca, .int .i64 (q : Int), .slice (some ⟨b, off + q, none⟩) N 1, .slice (some ⟨b, off + q, none⟩) N 1, .int .i64 (N : Int), .slice (some ⟨z + 1, 0, none⟩) 0 N, .slice (some ⟨b, off + q, none⟩) N 1, .slice (some ⟨b, off + q, none⟩) N 1, .slice (some ⟨b, off + q, none⟩) (N - 1) 0,
          .func (.func 92) #[] #[.pointer (some ⟨y + 1, 0, none⟩), .pointer (some ⟨y + 2, 0, none⟩)], .int .u64 ((X k : Nat) : Int), .int .u64 ((Y k : Nat) : Int), undef, undef, undef, undef, undef, undef, undef, undef, undef, undef, undef, undef, undef], defers := [] })
        ?assign ?body ?done ?stop
      case assign =>
        intro l k W K hK
        gi_wp2
        exact hK
      case body =>
        rintro l k W hk ⟨O, h1, h2, h3, h4, h5, h6, h7, b0, b1, b2, b3, hss, hl⟩
        have hxA : X k = A.getD k 0 := HX.out k
        have hyB : Y k = A.getD (k + 1) 0 := by rw [HY.out k]; simp [List.getD_eq_getElem?_getD]
        generalize X k = x at hxA ⊢
        generalize Y k = u at hyB ⊢
        have hkN : k < N := by rw [← HAL.out]; exact hk
        have hx1 : x < 18446744073709551616 := by rw [hxA]; exact getD_fits FA.out k
        have hu1 : u < 18446744073709551616 := by rw [hyB]; exact getD_fits FA.out (k + 1)
        obtain ⟨t, ht⟩ : ∃ t, t = 64 - r := ⟨_, rfl⟩
        obtain ⟨xr, hxr⟩ : ∃ xr, xr = x / 2 ^ r := ⟨_, rfl⟩
        obtain ⟨ut, hut⟩ : ∃ ut, ut = u * 2 ^ t % 18446744073709551616 := ⟨_, rfl⟩
        obtain ⟨v, hv⟩ : ∃ v, v = xr + ut := ⟨_, rfl⟩
        have hp : 2 ^ r * 2 ^ t = 18446744073709551616 := by rw [← Nat.pow_add, show r + t = 64 by omega]
        have hxrb : xr < 2 ^ t := by rw [hxr, Nat.div_lt_iff_lt_mul (Nat.two_pow_pos r), Nat.mul_comm, hp]; exact hx1
        have hxr64 : xr < 18446744073709551616 := by rw [hxr]; exact Nat.lt_of_le_of_lt (Nat.div_le_self _ _) hx1
        have hut64 : ut < 18446744073709551616 := by rw [hut]; exact Nat.mod_lt _ (by decide)
        have hutd : ut % 2 ^ t = 0 := by rw [hut, Nat.mod_mod_of_dvd _ ⟨2 ^ r, by rw [Nat.mul_comm, hp]⟩, Nat.mul_mod_left]
        have htI : (64 : Int) - (r : Int) = (t : Int) := by omega
        have ht0 : (0 : Int) ≤ (t : Int) := by omega
        have hr0 : (0 : Int) ≤ (r : Int) := by omega
        have hwt : IntKind.i64.wrap (t : Int) = (t : Int) := IntWalk.i64_in _ (by omega)
        have hw1 : (x : Int) / 2 ^ r = (xr : Int) := by rw [hxr]; simp
        have hw2 : IntKind.u64.wrap ((u : Int) * 2 ^ t) = (ut : Int) := by rw [show (u : Int) * 2 ^ t = ((u * 2 ^ t : Nat) : Int) by simp, wrap_nat, ← hut]
        have hw3 : bits .or .u64 (xr : Int) (ut : Int) = (v : Int) := by rw [u64_or_nat _ _ hxr64 hut64, low_or hxrb hutd, hv]
        have hT := lv_div A k FA.out
        have hlimb : v = lv A / 2 ^ (64 * k) / 2 ^ r % 18446744073709551616 := by
          rw [hv, hxr, hut, ht]
          refine shr_limb ?_ ?_ hr63
          · rw [hT, hxA]
            exact lv_low FA.out k
          · rw [show (18446744073709551616 : Nat) = 2 ^ 64 from rfl, Nat.div_div_eq_div_mul, ← Nat.pow_add, show 64 * k + 64 = 64 * (k + 1) by omega, lv_div A (k + 1) FA.out, hyB]
            exact lv_low FA.out (k + 1)
        have hv64 : v < 18446744073709551616 := by rw [hlimb]; exact Nat.mod_lt _ (by decide)
        have HST : Hid (lv (O ++ [v]) = lv A / 2 ^ r % 2 ^ (64 * (k + 1))) := Lib.hid (by
          rw [lv_snoc, h1, h4, hlimb, show 64 * (k + 1) = 64 * k + 64 by omega, Nat.pow_add, Nat.mod_mul, Nat.div_div_eq_div_mul (lv A) (2 ^ (64 * k)), Nat.mul_comm (2 ^ (64 * k)) (2 ^ r), ← Nat.div_div_eq_div_mul])
        have hc0 := b0.1
        have hc1 := b1.1
        have hf1 := b1.2
        have hkI : (k : Int) < (N : Int) := by omega
        have HV64 := Lib.hid hv64
        have HRT := Lib.hid (show r + t = 64 by omega)
        clear hxA hyB hx1 hu1 hxr hut hv hp hxrb hxr64 hut64 hutd hT hlimb hv64 ht h4
        gi_wp2
        refine wpIn_region_walkK (fun w' => w'.cell? ⟨z, 0, none⟩ = some (.int .i64 (r : Int)) ∧ w'.cell? ⟨y, 0, none⟩ = some (.slice (some ⟨z + 1, 0, none⟩) k N))
          [true, true, true, true, true, true, true, true, true, false, false, false] 11 (by kernel_rfl) (by kernel_rfl) (by kernel_rfl) rfl (by kernel_rfl) rfl (by kernel_rfl) (by rintro ⟨_, _, h⟩; exact h) (fun _ _ _ _ _ h => h) ?_
        have hS : W.drew.cell? ⟨z, 0, none⟩ = some (.int .i64 (r : Int)) ∧ W.drew.cell? ⟨y, 0, none⟩ = some (.slice (some ⟨z + 1, 0, none⟩) k N) := ⟨hc0, hc1⟩
        repeat (refine walkK_yes hS rfl (fun w' hw' => by obtain ⟨q0, q1⟩ := hw'; go_simp; rfl) ?_; simp only [Act.put, List.setIfInBounds_toArray, List.set_cons_zero, List.set_cons_succ])
        refine walkK_no rfl (fun K hK => ?_)
        go_simp
        obtain ⟨W1, hW1⟩ : ∃ W1, W1 = (W.alloc (.cells #[.int .u64 (v : Int)] 64)).drew := ⟨_, rfl⟩
        have B0 : Box W1 z (.int .i64 (r : Int)) := by rw [hW1]; exact (b0.alloc _).drew
        have B1 : Box W1 y (.slice (some ⟨z + 1, 0, none⟩) k N) := by rw [hW1]; exact (b1.alloc _).drew
        have B2 : Box W1 (y + 1) (.slice (some ⟨b, off + q, none⟩) A.length 1) := by rw [hW1]; exact (b2.alloc _).drew
        have B3 : Box W1 (y + 2) (.slice (some ⟨b, off + q, none⟩) (A.drop 1).length 0) := by rw [hW1]; exact (b3.alloc _).drew
        have hrow1 : NRow z W1 (.slice (some ⟨z + 1, 0, none⟩) k N) O := by
          rw [hW1]; exact h5.of_block (Below.heap_alloc W _ _ (by show z + 1 < W.heap.size; omega))
        have hbel1 : Below (y + 3) W W1 := by rw [hW1]; exact ((Below.refl (y + 3) W).alloc hss _).drew
        have hke1 : KeepsFrom W0.heap.size W W1 := keeps_below (KeepsFrom.refl _ W) (by rw [hW1]; exact ((Below.refl W.heap.size W).alloc (Nat.le_refl _) _).drew)
        obtain ⟨w2, hrun, hown2, hgr2⟩ := run_append_fits (P := Tryd.prog) (w := W1) z 29 29 64 i0 1 Tryd.underlying29 hi hz1 (z + 1) k N (U O) (by have h := hrow1; unfold NRow at h; rw [h1] at h; exact h) ⟨W.heap.size, 0, none⟩ 1 1 [.int .u64 (v : Int)] rfl (by rw [hW1]; exact cell_one_new W _ _) (by intro u hu; simp at hu; subst hu; rfl) hkN
        rw [← hW1]
        refine hK _ W1 (fun _ => ⟨B0.1, B1.1⟩) ?_
        clear hW1
        clear hK K
        have C0 : Box w2 z (.int .i64 (r : Int)) := B0.of_block (hgr2.block z B0.lt (fun e => by injection e with e; omega))
        have C1 : Box w2 y (.slice (some ⟨z + 1, 0, none⟩) k N) := B1.of_block (hgr2.block y B1.lt (fun e => by injection e with e; omega))
        have C2 : Box w2 (y + 1) (.slice (some ⟨b, off + q, none⟩) A.length 1) := B2.of_block (hgr2.block (y + 1) B2.lt (fun e => by injection e with e; omega))
        have C3 : Box w2 (y + 2) (.slice (some ⟨b, off + q, none⟩) (A.drop 1).length 0) := B3.of_block (hgr2.block (y + 2) B3.lt (fun e => by injection e with e; omega))
        refine walkK_no rfl (fun K hK => ?_)
        refine oper_append (.tmp 30) (.tmp 39) rfl _ _ rfl rfl hrun ?_
        simp only [Act.put, List.setIfInBounds_toArray, List.set_cons_zero, List.set_cons_succ]
        refine hK _ w2 (fun _ => ⟨C0.1, C1.1⟩) ?_
        clear hK K
        have hc2 := C1.1
        have hf2 := C1.2
        refine walkK_no rfl (fun K hK => ?_)
        go_simp
        refine hK _ _ (fun h => absurd rfl h) ?_
        clear hK K
        simp only [walkK]
        gi_wp2
        have hyz : y ≠ z := by omega
        have gb : ∀ j, j < W1.heap.size → j ≠ z + 1 → j ≠ y → (w2.setCell ⟨y, 0, none⟩ (.slice (some ⟨z + 1, 0, none⟩) (k + 1) N)).heap[j]? = W1.heap[j]? := fun j hj h1 h2 =>
          (Below.heap_setCell _ _ _ _ (fun e => h2 (by simpa using e))).trans (hgr2.block j hj (fun e => h1 (by cases e; rfl)))
        have hbW1 : b < W1.heap.size := by have := B0.lt; omega
        have hbe : (w2.setCell ⟨y, 0, none⟩ (.slice (some ⟨z + 1, 0, none⟩) (k + 1) N)).heap[b]? = W.heap[b]? := (gb b hbW1 (by omega) (by omega)).trans (hbel1.block b (by omega))
        have hr3 : NRow z w2 (.slice (some ⟨z + 1, 0, none⟩) (k + 1) N) (O ++ [v]) := by
          unfold NRow
          rw [List.length_append, h1, U_append]
          exact hown2
        have hbz2 : Below z W w2 := (hbel1.mono (by omega)).grown hgr2 (by have := B0.lt; omega) (fun g hg => by injection hg with hg; omega)
        refine ⟨keeps_set (keeps_grown hke1 hgr2 (by have := HSZ.out; omega)) _ _, O ++ [v], by rw [List.length_append, h1]; rfl, hkN, fits_snoc h3 HV64.out, HST.out, hr3.of_block (Below.heap_setCell _ _ _ _ (by simp; omega)),
          natAt_keep h6 hbe, natAt_keep h7 hbe, C0.other (p := ⟨y, 0, none⟩) (by show y ≠ z; omega) _, C1.set _, C2.other (p := ⟨y, 0, none⟩) (by show y ≠ y + 1; omega) _, C3.other (p := ⟨y, 0, none⟩) (by show y ≠ y + 2; omega) _, ?_, ?_⟩
        · rw [size_set]; have := hbel1.size; have := hgr2.size; omega
        · exact hl.trans (hbz2.setCell (by show z ≤ y; omega) _)
      case done =>
        rintro D W hD ⟨O, h1, h2, h3, h4, h5, h6, h7, b0, b1, b2, b3, hss, hl⟩ hK
        have hc1 := b1.1
        have hf1 := b1.2
        have H1 := Lib.hid h1
        have H5 := Lib.hid h5
        clear h1 h5
        have hro : NRow z W (.slice (some ⟨z + 1, 0, none⟩) O.length N) O := by rw [H1.out]; exact H5.out
        have hOl : O.length ≤ 1048576 := by rw [H1.out, HAL.out]; exact HNI.out.2
        have htr := trim_any (some ⟨z + 1, 0, none⟩) N O W (by omega) (by rw [H1.out, HAL.out]; exact Nat.le_refl N) h3 hro.seg.2.2.2.2.2.natAt
        rw [H1.out] at htr
        have hv : lv O = lv L / 2 ^ s := by
          rw [h4, HFIN.out, HAL.out]
          exact Nat.mod_eq_of_lt (Nat.lt_of_le_of_lt (Nat.div_le_self _ _) (by rw [← HAL.out]; exact lv_lt FA.out))
        have hno := hro.norm h3
        rw [hv] at hno htr
        have HTR := Lib.hid htr
        have HNO := Lib.hid hno
        clear hro htr hno hv h4
        gi_wp2_with (gi_at_call 51; refine (callsIn_wide.2 HTR.out).mono ?_; rintro e w' ⟨rfl, rfl⟩)
        refine ⟨by simp, .inl ⟨_, _, rfl, run_takeDeferred hK, ?_⟩⟩
        have b1 : Below W0.heap.size W (W.putObj D (.deferred none)) := below_putObj W D _ hD (by have := HSZ.out; omega)
        have hno := HNO.out
        refine ⟨_, results_tmp rfl _ _ _, _, rfl, ?_, (show Below w.heap.size w W by rw [← HZ.out]; exact hl).trans (b1.mono ?_)⟩
        · rw [← HZ.out]
          exact hno.of_block (b1.block (z + 1) (by have := HSZ.out; omega))
        · have := HSZ.out; have := HZ.out; omega
      case stop =>
        rintro D k W _ _ h _
        exact h.elim
    · skip
      refine (callsIn_wide (n := 3)).1 ?_
      refine callsIn_of_wp_marks Tryd.func89 rfl trivial ?_ rfl
      simp only [Tryd.ntmps89, List.size_toArray, List.length_cons, List.length_nil, Nat.reduceAdd, Nat.reduceSub, Array.replicate_succ, Array.replicate_zero, List.push_toArray, List.append_toArray, List.nil_append, List.cons_append]
      gi_wp2_with (first
        | (gi_at_make
           refine wpListIn_make_own _ rfl _ _ 29 rfl z 64 i0 (.int .u64 0) 1 Tryd.underlying29 hi hz0 hz1 .i64 .i64 _ (L.length - q) rfl rfl rfl (by rw [hz2]; omega) (by unfold maxLen; omega) (by have := HZ.out; simp; omega) ?_
           intro w0 hown0 hg0
           have HO := Lib.hid hown0
           have HG0 := Lib.hid hg0
           clear hown0 hg0)
        | (gi_at_call 84; refine (callsIn_wide.2 (pairs_any _ _ _ _ _ _ _)).mono ?_; rintro e w' ⟨rfl, rfl⟩))
      rw [← HZ.out, HNN.out]
      obtain ⟨y, hy⟩ : ∃ y, y = w0.heap.size := ⟨_, rfl⟩
      rw [← hy, show y + 1 + 1 = y + 2 from rfl]
      have hrow0 : NRow z w0 (.slice (some ⟨z + 1, 0, none⟩) 0 N) [] := by
        have h := HO.out
        rw [HNN.out, World.size_alloc, ← HZ.out] at h
        exact h
      have hzy : z + 1 < y := by have := hrow0.seg.2.2.2.2.2.block; omega
      obtain ⟨p0, p1, p2⟩ := box_next HZ.out (.int .i64 (r : Int)) 3
      have hg0 := HG0.out
      have q0 : Box w0 z (.int .i64 (r : Int)) := p0.of_block (hg0.block z p0.lt (by simp))
      have hbz : b < z := by
        obtain ⟨b', o', e', hlt', _⟩ := mL.lt (i := 0) (by omega)
        cases e'
        rw [HZ.out]; exact hlt'
      have hw0 : Below z w w0 := (show Below z w _ from by rw [HZ.out]; exact p2).grown hg0 (by have h := HZ.out; simp; omega) (fun k hk => by cases hk)
      have mA : NatAt w (some ⟨b, off + q, none⟩) A := fun i hi => by
        obtain ⟨b', o', e', hc⟩ := mL (q + i) (by have := HAL.out; have := HNN.out; omega)
        cases e'
        refine ⟨b, off + q, rfl, ?_⟩
        rw [Nat.add_assoc, hc, HA.out]
        simp
      have mB : NatAt w (some ⟨b, off + q + 1, none⟩) (A.drop 1) := fun i hi => by
        obtain ⟨b', o', e', hc⟩ := mA (i + 1) (by rw [List.length_drop] at hi; omega)
        cases e'
        refine ⟨b, off + q + 1, rfl, ?_⟩
        rw [show off + q + 1 + i = off + q + (i + 1) by omega, hc]
        simp
      generalize hW : (((w0.alloc (.cells #[.slice (some ⟨z + 1, 0, none⟩) 0 N] 29)).alloc (.cells #[.slice (some ⟨b, off + q, none⟩) N (ca - q)] 29)).alloc (.cells #[.slice (some ⟨b, off + q + 1, none⟩) (N - 1) (ca - q - 1)] 29)) = W0
      obtain ⟨c1, s1, l1⟩ := box_next hy (.slice (some ⟨z + 1, 0, none⟩) 0 N) 29
      obtain ⟨c2, s2, l2⟩ := box_next s1 (.slice (some ⟨b, off + q, none⟩) N (ca - q)) 29
      obtain ⟨c3, s3, l3⟩ := box_next s2 (.slice (some ⟨b, off + q + 1, none⟩) (N - 1) (ca - q - 1)) 29
      rw [hW] at c3 s3 l3
      have hlW : Below y w0 W0 := by
        have h := (l1.trans (l2.mono l1.size)).trans (l3.mono (l1.trans (l2.mono l1.size)).size)
        rw [← hy] at h; exact h
      have hrowW : NRow z W0 (.slice (some ⟨z + 1, 0, none⟩) 0 N) [] := hrow0.of_block (hlW.block (z + 1) hzy)
      have hsz : W0.heap.size = y + 3 := s3.symm
      have c1' := (c1.alloc (.cells #[.slice (some ⟨b, off + q, none⟩) N (ca - q)] 29)).alloc (.cells #[.slice (some ⟨b, off + q + 1, none⟩) (N - 1) (ca - q - 1)] 29)
      have c2' := c2.alloc (.cells #[.slice (some ⟨b, off + q + 1, none⟩) (N - 1) (ca - q - 1)] 29)
      rw [hW] at c1' c2'
      have hAd : (A.drop 1).length = N - 1 := by rw [List.length_drop, HAL.out]
      have hwW : Below z w W0 := hw0.trans (hlW.mono (by omega))
      have hD0 : DownAt z y b (off + q) (off + q + 1) (ca - q) (ca - q - 1) r N A w 0 W0 :=
        ⟨[], rfl, Nat.zero_le _, fun x hx => (by simp at hx), by simp [lv, Nat.mod_one], hrowW, natAt_keep mA (hwW.block b hbz), natAt_keep mB (hwW.block b hbz), q0.below hlW (by omega), c1', by rw [HAL.out]; exact c2', by rw [hAd]; exact c3, by omega, hwW⟩
      obtain ⟨X, hX⟩ : ∃ X : Nat → Nat, ∀ k, X k = A.getD k 0 := ⟨_, fun _ => rfl⟩
      obtain ⟨Y, hY⟩ : ∃ Y : Nat → Nat, ∀ k, Y k = (A.drop 1).getD k 0 := ⟨_, fun _ => rfl⟩
      have HX := Lib.hid hX
      have HY := Lib.hid hY
      have FA : Hid (Fits A) := Lib.hid (by rw [HA.out]; exact fun x hx => fL x (List.mem_of_mem_drop hx))
      have hfin : lv L / 2 ^ s = lv A / 2 ^ r := by
        rw [HS.out, Nat.pow_add, ← Nat.div_div_eq_div_mul, HA.out, lv_div L q fL]
      have HFIN := Lib.hid hfin
      clear hX hY c1 c2 c3 l1 l2 l3 s1 s2 s3 hW p0 p1 p2 q0 hg0 hw0 mA mB hrow0 hrowW hlW c1' c2' hfin mL HG0 HO fL h1L h1C
      have HYY := Lib.hid hy
      have HSZ := Lib.hid hsz
      have HAD := Lib.hid hAd
      have HNI : Hid ((N : Int) ≤ 1048576 ∧ N ≤ 1048576) := Lib.hid ⟨by omega, hN2⟩
      clear hy hsz hAd hN1 hN2
      try clear hN1'
      refine wpIn_range_at (m := 1) (gf := 92) (lb := #[.pointer (some ⟨y + 1, 0, none⟩), .pointer (some ⟨y + 2, 0, none⟩)]) rfl (enters_of Tryd.func92 (by kernel_rfl) rfl) (pairs_at (y + 1) (y + 2) (some ⟨b, off + q, none⟩) (some ⟨b, off + q + 1, none⟩) (ca - q) (ca - q - 1) A (A.drop 1) X Y HX.out HY.out (by rw [HAL.out]; have := HNI.out.2; omega) (by rw [HAD.out]; have := HNI.out.2; omega)) (fun _ => rfl)
        (DownAt z y b (off + q) (off + q + 1) (ca - q) (ca - q - 1) r N A w) (fun _ _ => False) (fun k W W' hb' h => h.below hbz hzy (by rw [← HSZ.out]; exact hb')) (fun _ _ _ _ h => h) (fun k W h => by obtain ⟨O, h1, h2, h3, h4, h5, h6, h7, b0, b1, b2, b3, hss, hl⟩ := h; have := HSZ.out; omega) (fun _ _ h => h.elim)
        (fun k W h => by obtain ⟨O, h1, h2, h3, h4, h5, h6, h7, b0, b1, b2, b3, hss, hl⟩ := h; exact ⟨b2.1, b3.1, h6.from k, h7.from k⟩) hD0
        (fun k => { tmps := #[.slice (some ⟨b, off + q, none⟩) N (ca - q), .int .i64 (s : Int), undef, undef, .slice none 0 0, .int .i64 (q : Int), .pointer (some ⟨z, 0, none⟩), .pointer (some ⟨y, 0, none⟩), .int .u64 ((X k : Nat) : Int), .int .u64 ((Y k : Nat) : Int), .int .i64 (s : Int), .int .i64 (q : Int), .int .i64 (s : Int), .int .i64 (r : Int), .int .i64 (q : Int),
          .slice (some ⟨b, off, none⟩) L.length ca, .int .i64 (L.length : Int), .bool false, .slice (some ⟨b, off, none⟩) L.length ca, .int .i64 (q : Int), .slice (some ⟨b, off + q, none⟩) N (ca - q), .slice (some ⟨b, off + q, none⟩) N (ca - q), .int .i64 (N : Int), .slice (some ⟨z + 1, 0, none⟩) 0 N, .slice (some ⟨b, off + q, none⟩) N (ca - q), .slice (some ⟨b, off + q, none⟩) N (ca - q), .slice (some ⟨b, off + q + 1, none⟩) (N - 1) (ca - q - 1),
          .func (.func 92) #[] #[.pointer (some ⟨y + 1, 0, none⟩), .pointer (some ⟨y + 2, 0, none⟩)], .int .u64 ((X k : Nat) : Int), .int .u64 ((Y k : Nat) : Int), undef, undef, undef, undef, undef, undef, undef, undef, undef, undef, undef, undef, undef], defers := [] })
        ?assign ?body ?done ?stop
      case assign =>
        intro l k W K hK
        gi_wp2
        exact hK
      case body =>
        rintro l k W hk ⟨O, h1, h2, h3, h4, h5, h6, h7, b0, b1, b2, b3, hss, hl⟩
        have hxA : X k = A.getD k 0 := HX.out k
        have hyB : Y k = A.getD (k + 1) 0 := by rw [HY.out k]; simp [List.getD_eq_getElem?_getD]
        generalize X k = x at hxA ⊢
        generalize Y k = u at hyB ⊢
        have hkN : k < N := by rw [← HAL.out]; exact hk
        have hx1 : x < 18446744073709551616 := by rw [hxA]; exact getD_fits FA.out k
        have hu1 : u < 18446744073709551616 := by rw [hyB]; exact getD_fits FA.out (k + 1)
        obtain ⟨t, ht⟩ : ∃ t, t = 64 - r := ⟨_, rfl⟩
        obtain ⟨xr, hxr⟩ : ∃ xr, xr = x / 2 ^ r := ⟨_, rfl⟩
        obtain ⟨ut, hut⟩ : ∃ ut, ut = u * 2 ^ t % 18446744073709551616 := ⟨_, rfl⟩
        obtain ⟨v, hv⟩ : ∃ v, v = xr + ut := ⟨_, rfl⟩
        have hp : 2 ^ r * 2 ^ t = 18446744073709551616 := by rw [← Nat.pow_add, show r + t = 64 by omega]
        have hxrb : xr < 2 ^ t := by rw [hxr, Nat.div_lt_iff_lt_mul (Nat.two_pow_pos r), Nat.mul_comm, hp]; exact hx1
        have hxr64 : xr < 18446744073709551616 := by rw [hxr]; exact Nat.lt_of_le_of_lt (Nat.div_le_self _ _) hx1
        have hut64 : ut < 18446744073709551616 := by rw [hut]; exact Nat.mod_lt _ (by decide)
        have hutd : ut % 2 ^ t = 0 := by rw [hut, Nat.mod_mod_of_dvd _ ⟨2 ^ r, by rw [Nat.mul_comm, hp]⟩, Nat.mul_mod_left]
        have htI : (64 : Int) - (r : Int) = (t : Int) := by omega
        have ht0 : (0 : Int) ≤ (t : Int) := by omega
        have hr0 : (0 : Int) ≤ (r : Int) := by omega
        have hwt : IntKind.i64.wrap (t : Int) = (t : Int) := IntWalk.i64_in _ (by omega)
        have hw1 : (x : Int) / 2 ^ r = (xr : Int) := by rw [hxr]; simp
        have hw2 : IntKind.u64.wrap ((u : Int) * 2 ^ t) = (ut : Int) := by rw [show (u : Int) * 2 ^ t = ((u * 2 ^ t : Nat) : Int) by simp, wrap_nat, ← hut]
        have hw3 : bits .or .u64 (xr : Int) (ut : Int) = (v : Int) := by rw [u64_or_nat _ _ hxr64 hut64, low_or hxrb hutd, hv]
        have hT := lv_div A k FA.out
        have hlimb : v = lv A / 2 ^ (64 * k) / 2 ^ r % 18446744073709551616 := by
          rw [hv, hxr, hut, ht]
          refine shr_limb ?_ ?_ hr63
          · rw [hT, hxA]
            exact lv_low FA.out k
          · rw [show (18446744073709551616 : Nat) = 2 ^ 64 from rfl, Nat.div_div_eq_div_mul, ← Nat.pow_add, show 64 * k + 64 = 64 * (k + 1) by omega, lv_div A (k + 1) FA.out, hyB]
            exact lv_low FA.out (k + 1)
        have hv64 : v < 18446744073709551616 := by rw [hlimb]; exact Nat.mod_lt _ (by decide)
        have HST : Hid (lv (O ++ [v]) = lv A / 2 ^ r % 2 ^ (64 * (k + 1))) := Lib.hid (by
          rw [lv_snoc, h1, h4, hlimb, show 64 * (k + 1) = 64 * k + 64 by omega, Nat.pow_add, Nat.mod_mul, Nat.div_div_eq_div_mul (lv A) (2 ^ (64 * k)), Nat.mul_comm (2 ^ (64 * k)) (2 ^ r), ← Nat.div_div_eq_div_mul])
        have hc0 := b0.1
        have hc1 := b1.1
        have hf1 := b1.2
        have hkI : (k : Int) < (N : Int) := by omega
        have HV64 := Lib.hid hv64
        have HRT := Lib.hid (show r + t = 64 by omega)
        clear hxA hyB hx1 hu1 hxr hut hv hp hxrb hxr64 hut64 hutd hT hlimb hv64 ht h4
        gi_wp2
        refine wpIn_region_walkK (fun w' => w'.cell? ⟨z, 0, none⟩ = some (.int .i64 (r : Int)) ∧ w'.cell? ⟨y, 0, none⟩ = some (.slice (some ⟨z + 1, 0, none⟩) k N))
          [true, true, true, true, true, true, true, true, true, false, false, false] 11 (by kernel_rfl) (by kernel_rfl) (by kernel_rfl) rfl (by kernel_rfl) rfl (by kernel_rfl) (by rintro ⟨_, _, h⟩; exact h) (fun _ _ _ _ _ h => h) ?_
        have hS : W.drew.cell? ⟨z, 0, none⟩ = some (.int .i64 (r : Int)) ∧ W.drew.cell? ⟨y, 0, none⟩ = some (.slice (some ⟨z + 1, 0, none⟩) k N) := ⟨hc0, hc1⟩
        repeat (refine walkK_yes hS rfl (fun w' hw' => by obtain ⟨q0, q1⟩ := hw'; go_simp; rfl) ?_; simp only [Act.put, List.setIfInBounds_toArray, List.set_cons_zero, List.set_cons_succ])
        refine walkK_no rfl (fun K hK => ?_)
        go_simp
        obtain ⟨W1, hW1⟩ : ∃ W1, W1 = (W.alloc (.cells #[.int .u64 (v : Int)] 64)).drew := ⟨_, rfl⟩
        have B0 : Box W1 z (.int .i64 (r : Int)) := by rw [hW1]; exact (b0.alloc _).drew
        have B1 : Box W1 y (.slice (some ⟨z + 1, 0, none⟩) k N) := by rw [hW1]; exact (b1.alloc _).drew
        have B2 : Box W1 (y + 1) (.slice (some ⟨b, off + q, none⟩) A.length (ca - q)) := by rw [hW1]; exact (b2.alloc _).drew
        have B3 : Box W1 (y + 2) (.slice (some ⟨b, off + q + 1, none⟩) (A.drop 1).length (ca - q - 1)) := by rw [hW1]; exact (b3.alloc _).drew
        have hrow1 : NRow z W1 (.slice (some ⟨z + 1, 0, none⟩) k N) O := by
          rw [hW1]; exact h5.of_block (Below.heap_alloc W _ _ (by show z + 1 < W.heap.size; omega))
        have hbel1 : Below (y + 3) W W1 := by rw [hW1]; exact ((Below.refl (y + 3) W).alloc hss _).drew
        have hke1 : KeepsFrom W0.heap.size W W1 := keeps_below (KeepsFrom.refl _ W) (by rw [hW1]; exact ((Below.refl W.heap.size W).alloc (Nat.le_refl _) _).drew)
        obtain ⟨w2, hrun, hown2, hgr2⟩ := run_append_fits (P := Tryd.prog) (w := W1) z 29 29 64 i0 1 Tryd.underlying29 hi hz1 (z + 1) k N (U O) (by have h := hrow1; unfold NRow at h; rw [h1] at h; exact h) ⟨W.heap.size, 0, none⟩ 1 1 [.int .u64 (v : Int)] rfl (by rw [hW1]; exact cell_one_new W _ _) (by intro u hu; simp at hu; subst hu; rfl) hkN
        rw [← hW1]
        refine hK _ W1 (fun _ => ⟨B0.1, B1.1⟩) ?_
        clear hW1
        clear hK K
        have C0 : Box w2 z (.int .i64 (r : Int)) := B0.of_block (hgr2.block z B0.lt (fun e => by injection e with e; omega))
        have C1 : Box w2 y (.slice (some ⟨z + 1, 0, none⟩) k N) := B1.of_block (hgr2.block y B1.lt (fun e => by injection e with e; omega))
        have C2 : Box w2 (y + 1) (.slice (some ⟨b, off + q, none⟩) A.length (ca - q)) := B2.of_block (hgr2.block (y + 1) B2.lt (fun e => by injection e with e; omega))
        have C3 : Box w2 (y + 2) (.slice (some ⟨b, off + q + 1, none⟩) (A.drop 1).length (ca - q - 1)) := B3.of_block (hgr2.block (y + 2) B3.lt (fun e => by injection e with e; omega))
        refine walkK_no rfl (fun K hK => ?_)
        refine oper_append (.tmp 30) (.tmp 39) rfl _ _ rfl rfl hrun ?_
        simp only [Act.put, List.setIfInBounds_toArray, List.set_cons_zero, List.set_cons_succ]
        refine hK _ w2 (fun _ => ⟨C0.1, C1.1⟩) ?_
        clear hK K
        have hc2 := C1.1
        have hf2 := C1.2
        refine walkK_no rfl (fun K hK => ?_)
        go_simp
        refine hK _ _ (fun h => absurd rfl h) ?_
        clear hK K
        simp only [walkK]
        gi_wp2
        have hyz : y ≠ z := by omega
        have gb : ∀ j, j < W1.heap.size → j ≠ z + 1 → j ≠ y → (w2.setCell ⟨y, 0, none⟩ (.slice (some ⟨z + 1, 0, none⟩) (k + 1) N)).heap[j]? = W1.heap[j]? := fun j hj h1 h2 =>
          (Below.heap_setCell _ _ _ _ (fun e => h2 (by simpa using e))).trans (hgr2.block j hj (fun e => h1 (by cases e; rfl)))
        have hbW1 : b < W1.heap.size := by have := B0.lt; omega
        have hbe : (w2.setCell ⟨y, 0, none⟩ (.slice (some ⟨z + 1, 0, none⟩) (k + 1) N)).heap[b]? = W.heap[b]? := (gb b hbW1 (by omega) (by omega)).trans (hbel1.block b (by omega))
        have hr3 : NRow z w2 (.slice (some ⟨z + 1, 0, none⟩) (k + 1) N) (O ++ [v]) := by
          unfold NRow
          rw [List.length_append, h1, U_append]
          exact hown2
        have hbz2 : Below z W w2 := (hbel1.mono (by omega)).grown hgr2 (by have := B0.lt; omega) (fun g hg => by injection hg with hg; omega)
        refine ⟨keeps_set (keeps_grown hke1 hgr2 (by have := HSZ.out; omega)) _ _, O ++ [v], by rw [List.length_append, h1]; rfl, hkN, fits_snoc h3 HV64.out, HST.out, hr3.of_block (Below.heap_setCell _ _ _ _ (by simp; omega)),
          natAt_keep h6 hbe, natAt_keep h7 hbe, C0.other (p := ⟨y, 0, none⟩) (by show y ≠ z; omega) _, C1.set _, C2.other (p := ⟨y, 0, none⟩) (by show y ≠ y + 1; omega) _, C3.other (p := ⟨y, 0, none⟩) (by show y ≠ y + 2; omega) _, ?_, ?_⟩
        · rw [size_set]; have := hbel1.size; have := hgr2.size; omega
        · exact hl.trans (hbz2.setCell (by show z ≤ y; omega) _)
      case done =>
        rintro D W hD ⟨O, h1, h2, h3, h4, h5, h6, h7, b0, b1, b2, b3, hss, hl⟩ hK
        have hc1 := b1.1
        have hf1 := b1.2
        have H1 := Lib.hid h1
        have H5 := Lib.hid h5
        clear h1 h5
        have hro : NRow z W (.slice (some ⟨z + 1, 0, none⟩) O.length N) O := by rw [H1.out]; exact H5.out
        have hOl : O.length ≤ 1048576 := by rw [H1.out, HAL.out]; exact HNI.out.2
        have htr := trim_any (some ⟨z + 1, 0, none⟩) N O W (by omega) (by rw [H1.out, HAL.out]; exact Nat.le_refl N) h3 hro.seg.2.2.2.2.2.natAt
        rw [H1.out] at htr
        have hv : lv O = lv L / 2 ^ s := by
          rw [h4, HFIN.out, HAL.out]
          exact Nat.mod_eq_of_lt (Nat.lt_of_le_of_lt (Nat.div_le_self _ _) (by rw [← HAL.out]; exact lv_lt FA.out))
        have hno := hro.norm h3
        rw [hv] at hno htr
        have HTR := Lib.hid htr
        have HNO := Lib.hid hno
        clear hro htr hno hv h4
        gi_wp2_with (gi_at_call 51; refine (callsIn_wide.2 HTR.out).mono ?_; rintro e w' ⟨rfl, rfl⟩)
        refine ⟨by simp, .inl ⟨_, _, rfl, run_takeDeferred hK, ?_⟩⟩
        have b1 : Below W0.heap.size W (W.putObj D (.deferred none)) := below_putObj W D _ hD (by have := HSZ.out; omega)
        have hno := HNO.out
        refine ⟨_, results_tmp rfl _ _ _, _, rfl, ?_, (show Below w.heap.size w W by rw [← HZ.out]; exact hl).trans (b1.mono ?_)⟩
        · rw [← HZ.out]
          exact hno.of_block (b1.block (z + 1) (by have := HSZ.out; omega))
        · have := HSZ.out; have := HZ.out; omega
      case stop =>
        rintro D k W _ _ h _
        exact h.elim
end Go.Proofs.YtofpcdjoljjnoaaDoor
