/-
  The texts NatNext, one behind the other.
-/
import Derived.Test.YtcbebikcfcidmaaDoorChaZ10

namespace Go.Proofs.YtcbebikcfcidmaaDoor
open Go.RowKit
attribute [local go_sem] Oper.semAt_some wide_fn

set_option maxHeartbeats 600000 in
theorem swapped_any (odd : Bool) (LA LB NA NB : Nat) (w : World) :
    Calls Tryd.prog 78 #[.agg #[.bool odd, .int .u64 (LA : Int), .int .u64 (LB : Int), .int .u64 (NA : Int), .int .u64 (NB : Int)]] w (fun e w' => e = .returned (.agg #[.bool (!odd), .int .u64 (LB : Int), .int .u64 (LA : Int), .int .u64 (NB : Int), .int .u64 (NA : Int)]) ∧ Below w.heap.size w w') := by
  go_enter Tryd.func78, Tryd.ntmps78
  go_wp2_with fail
  try simp only [Exit.inBlock, Exit.then]
  refine bodyPost_ret (results_cell_row rfl _ _ (w.heap.size + 1) 132 _ (0, 0) _ rfl (by rw [show w.heap.size + 1 = (w.alloc (.cells #[.bool odd, .int .u64 (LA : Int), .int .u64 (LB : Int), .int .u64 (NA : Int), .int .u64 (NB : Int)] 132)).heap.size by simp]; exact heap_alloc_new _ _) Tryd.underlying132 rfl (by kernel_rfl)) rfl ?_
  exact ⟨rfl, ((Below.refl _ _).alloc (Nat.le_refl _) _).alloc (by simp) _⟩

set_option maxRecDepth 100000 in
set_option maxHeartbeats 1000000 in
theorem next_div (B ga gb ca cb x y : Nat) (w : World) (hsx : Short x) (hyx : y ≤ x) (hly : 1 < (nrow y).length) (hra : NRow B w (.slice (some ⟨ga, 0, none⟩) (nrow x).length ca) (nrow x)) (hrb : NRow B w (.slice (some ⟨gb, 0, none⟩) (nrow y).length cb) (nrow y)) (hne : ga ≠ gb) (hB : B ≤ w.heap.size) :
    Calls Tryd.prog 67 #[.slice (some ⟨ga, 0, none⟩) (nrow x).length ca, .slice (some ⟨gb, 0, none⟩) (nrow y).length cb] w (NextPost B x y w) := by
  obtain ⟨z, hz⟩ : ∃ z, z = w.heap.size := ⟨_, rfl⟩
  obtain ⟨i, hi⟩ : ∃ i, (nrow x).length = i + 2 := ⟨(nrow x).length - 2, by have := nrow_mono hyx; omega⟩
  have hi9 : i ≤ 1048576 := by unfold Short at hsx; omega
  obtain ⟨La, hLa⟩ : ∃ La, La = (nrow x).length := ⟨_, rfl⟩
  obtain ⟨Lb, hLb⟩ : ∃ Lb, Lb = (nrow y).length := ⟨_, rfl⟩
  obtain ⟨b0, s1, l1⟩ := box_next hz (.slice (some ⟨ga, 0, none⟩) La ca) 31
  obtain ⟨b1, s2, l2⟩ := box_next s1 (.slice (some ⟨gb, 0, none⟩) Lb cb) 31
  have b0' := b0.alloc (.cells #[.slice (some ⟨gb, 0, none⟩) Lb cb] 31)
  have hb2 : Below w.heap.size w ((w.alloc (.cells #[.slice (some ⟨ga, 0, none⟩) La ca] 31)).alloc (.cells #[.slice (some ⟨gb, 0, none⟩) Lb cb] 31)) := l1.trans (l2.mono l1.size)
  have HTL := Lib.hid (topLimbs_any (some ⟨ga, 0, none⟩) (some ⟨gb, 0, none⟩) ca cb x y i _ hyx hi hi9 (hra.seg.2.2.2.2.2.natAt.below hb2 (Nat.le_refl _)) (hrb.seg.2.2.2.2.2.natAt.below hb2 (Nat.le_refl _)))
  rw [← hLa, ← hLb] at HTL
  have HTL := Lib.hid HTL.out
  have HB0 := Lib.hid b0'
  have HB1 := Lib.hid b1
  have HBE := Lib.hid hb2
  have HZ := Lib.hid (And.intro hz s2)
  have HRA := Lib.hid hra
  have HRB := Lib.hid hrb
  have HL := Lib.hid (And.intro hLa (And.intro hLb hi))
  have HH := Lib.hid (And.intro hsx (And.intro hyx (And.intro hly (And.intro hne hB))))
  rw [← hLa, ← hLb]
  clear hz s1 s2 l1 l2 b0 b0' b1 hb2 hra hrb hLa hLb hi hsx hyx hly hne hB hi9
  refine (callsIn_wide (n := 3)).1 ?_
  refine callsIn_of_wp_marks Tryd.func67 rfl trivial ?_ rfl
  simp only [Tryd.ntmps67, List.size_toArray, List.length_cons, List.length_nil, Nat.reduceAdd, Nat.reduceSub, Array.replicate_succ, Array.replicate_zero, List.push_toArray, List.append_toArray, List.nil_append, List.cons_append]
  gi_wp2_with fail
  rw [← HZ.out.1]
  refine (callsIn_wide.2 HTL.out).mono ?_
  rintro e w3 ⟨s, rfl, hx1, hx64, hb3⟩
  have HR0 := Lib.hid (HBE.out.trans (hb3.mono HBE.out.size))
  have hb0 := HB0.out.below hb3 HB0.out.lt
  have hb1 := HB1.out.below hb3 HB1.out.lt
  have hs3 := hb3.size
  have hTS := topSteps_any x y (x / 2 ^ s) (y / 2 ^ s) (2 ^ s) (x % 2 ^ s) (y % 2 ^ s) w3 (by rw [Nat.mul_comm]; exact (Nat.div_add_mod _ _).symm) (by rw [Nat.mul_comm]; exact (Nat.div_add_mod _ _).symm) (Nat.mod_lt _ (Nat.two_pow_pos s)) (Nat.mod_lt _ (Nat.two_pow_pos s)) (Nat.div_le_div_right HH.out.2.1) hx64 hx1
  obtain ⟨xh, hxh⟩ : ∃ xh, xh = x / 2 ^ s := ⟨_, rfl⟩
  obtain ⟨yh, hyh⟩ : ∃ yh, yh = y / 2 ^ s := ⟨_, rfl⟩
  rw [← hxh, ← hyh] at hTS ⊢
  have HTS := Lib.hid hTS
  have HB0 := Lib.hid hb0
  have HB1 := Lib.hid hb1
  have HS3 := Lib.hid hs3
  clear hTS hxh hyh hx1 hx64 hb0 hb1 hb3 hs3
  gi_wp2_with fail
  refine (callsIn_wide.2 HTS.out).mono ?_
  rintro e w4 ⟨odd, LA, LB, NA, NB, rfl, htold, hb4⟩
  obtain ⟨p, hp⟩ : ∃ p, p = w4.heap.size := ⟨_, rfl⟩
  obtain ⟨w5, hw5⟩ : ∃ w5, w5 = w4.alloc (.cells #[.bool odd, .int .u64 (LA : Int), .int .u64 (LB : Int), .int .u64 (NA : Int), .int .u64 (NB : Int)] 132) := ⟨_, rfl⟩
  have hsx5 : Sx w5 p odd LA LB NA NB := by unfold Sx; rw [hw5, hp]; exact heap_alloc_new _ _
  have hb5 : Below w.heap.size w w5 := by rw [hw5]; exact (HR0.out.trans (hb4.mono HR0.out.size)).alloc (Nat.le_trans HR0.out.size hb4.size) _
  have hb45 : Below w3.heap.size w3 w5 := by rw [hw5]; exact hb4.alloc hb4.size _
  have c0 : Box w5 z (.slice (some ⟨ga, 0, none⟩) La ca) := HB0.out.below hb45 HB0.out.lt
  have c1 : Box w5 (z + 1) (.slice (some ⟨gb, 0, none⟩) Lb cb) := HB1.out.below hb45 HB1.out.lt
  have hra5 : NRow B w5 (.slice (some ⟨ga, 0, none⟩) La ca) (nrow x) := by have := HRA.out.below hb5 (Nat.le_refl _); rwa [← HL.out.1] at this
  have hrb5 : NRow B w5 (.slice (some ⟨gb, 0, none⟩) Lb cb) (nrow y) := by have := HRB.out.below hb5 (Nat.le_refl _); rwa [← HL.out.2.1] at this
  have hpz : z + 2 ≤ p ∧ p < w5.heap.size := by
    have h1 := HZ.out.2; have h2 := HS3.out; have h3 := hb4.size
    refine ⟨by omega, hsx5.lt⟩
  have HSX := Lib.hid hsx5
  have HC0 := Lib.hid c0
  have HC1 := Lib.hid c1
  have HBE5 := Lib.hid hb5
  have HRA5 := Lib.hid hra5
  have HRB5 := Lib.hid hrb5
  have HPZ := Lib.hid hpz
  have HTO := Lib.hid htold
  obtain ⟨k0, k1, k2, k3, k4⟩ := hsx5.cell
  have f0 := hsx5.free 0
  have f1 := hsx5.free 1
  have f2 := hsx5.free 2
  have f3 := hsx5.free 3
  have f4 := hsx5.free 4
  have v0 : Box w4 z (.slice (some ⟨ga, 0, none⟩) La ca) := HB0.out.below hb4 HB0.out.lt
  have v1 : Box w4 (z + 1) (.slice (some ⟨gb, 0, none⟩) Lb cb) := HB1.out.below hb4 HB1.out.lt
  have d0 := v0.1
  have e0 := v0.2
  have d1 := v1.1
  have e1 := v1.2
  have d2 := c0.1
  have d3 := c1.1
  have e2 := c0.2
  have e3 := c1.2
  rw [hw5] at d2 d3 e2 e3 k0 k1 k2 k3 k4 f0 f1 f2 f3 f4
  rw [hp] at k0 k1 k2 k3 k4 f0 f1 f2 f3 f4
  clear hb4 hb5 hb45 c0 c1 hra5 hrb5 hpz htold hsx5 HB0 HB1 HBE v0 v1
  by_cases hLB : LB = 0
  · have hLB0 : ((LB : Int) == 0) = true := by simp; exact hLB
    have hdv := divides_all (na := x) (nb := y) (fun e => by have := HH.out.2.2.1; rw [e, nrow_zero] at this; simp at this) (by have := HH.out.1; unfold Short at this; omega) (some ⟨ga, 0, none⟩) (some ⟨gb, 0, none⟩) ca cb w5 HRA5.out.seg.2.2.2.1 (fun h => by cases h) HRB5.out.seg.2.2.2.1 (fun h => by cases h) HRA5.out.seg.2.2.2.2.2.natAt HRB5.out.seg.2.2.2.2.2.natAt
    rw [← HL.out.1, ← HL.out.2.1] at hdv
    have HDV := Lib.hid hdv
    clear hdv hLB
    gi_wp2_with fail
    rw [← hp, ← hw5]
    refine (callsIn_wide.2 HDV.out).mono ?_
    rintro e w6 ⟨q, r, rfl, _, hr, hb6⟩
    have m1 := HC1.out.below hb6 HC1.out.lt
    have n1 := m1.1
    have HR6 := Lib.hid hr
    have HB6 := Lib.hid (HBE5.out.trans (hb6.mono HBE5.out.size))
    have HRB6 := Lib.hid (HRB5.out.below hb6 (Nat.le_refl _))
    have HG := Lib.hid (HRB5.out.seg.2.2.2.2.2.block)
    clear hr hb6 m1
    gi_wp2_with fail
    refine ⟨_, results_tmp2 rfl _ _ _, ?_⟩
    have hyp : 0 < y := Nat.pos_of_ne_zero (fun e => by have := HH.out.2.2.1; rw [e, nrow_zero] at this; simp at this)
    have hBs : B ≤ w5.heap.size := Nat.le_trans HH.out.2.2.2.2 HBE5.out.size
    refine ⟨_, _, y, x % y, rfl, ?_, Nat.le_of_lt (Nat.mod_lt _ hyp), HH.out.2.1, Nat.mod_lt _ hyp, HRB6.out, HR6.out.more hBs, ?_, HB6.out.mono HH.out.2.2.2.2⟩
    · rw [Nat.gcd_comm y, Nat.gcd_comm x y, ← Nat.gcd_rec]
    · intro e
      have e' : (Value.slice (some ⟨gb, 0, none⟩) Lb cb).ownBlock = r.ownBlock := e
      have h := own_lt HR6.out (g := gb) (by rw [← e']; rfl)
      have := HG.out
      omega
  · have hLB0 : ((LB : Int) == 0) = false := by simp; exact hLB
    obtain ⟨t1, t2, t3, t4, X, htr, hlast⟩ := HTO.out
    obtain ⟨Lt, hLt, hXL, hLtB, hgcd⟩ := hlast.resolve_left hLB
    have hLL : Lb ≤ La := by rw [HL.out.1, HL.out.2.1]; exact nrow_mono HH.out.2.1
    have hlc : (Lb : Int) ≤ (ca : Int) := by have := HRA5.out.seg.2.2.2.1; rw [← HL.out.1] at this; omega
    have hl9 : (Lb : Int) ≤ 1048578 := by have := HH.out.1; unfold Short at this; have := HL.out.1; omega
    have HM := Lib.hid (And.intro t1 (And.intro t2 (And.intro t3 (And.intro t4 (And.intro htr (And.intro hLt (And.intro hXL (And.intro hLtB (And.intro hgcd hLL)))))))))
    clear t1 t2 t3 t4 htr hlast hLt hXL hLtB hgcd hLL hLB
    have hsx6 := HSX.out.other (q := ⟨z, 0, none⟩) (by show z ≠ p; have := HPZ.out; omega) (.slice (some ⟨ga, 0, none⟩) Lb ca)
    obtain ⟨q0, q1, q2, q3, q4⟩ := hsx6.cell
    rw [hw5, hp] at q0 q1 q2 q3 q4
    have HSX6 := Lib.hid hsx6
    clear hsx6
    cases odd
    · gi_wp2_with fail
      rw [← hp, ← hw5]
      obtain ⟨w6, hw6⟩ : ∃ w6, w6 = w5.setCell ⟨z, 0, none⟩ (.slice (some ⟨ga, 0, none⟩) Lb ca) := ⟨_, rfl⟩
      have hs6 : Sx w6 p false LA LB NA NB := by rw [hw6]; exact HSX6.out
      have hb6 : Below w.heap.size w w6 := by rw [hw6]; exact HBE5.out.setCell (by show w.heap.size ≤ z; exact Nat.le_of_eq HZ.out.1.symm) _
      have c06 : Box w6 z (.slice (some ⟨ga, 0, none⟩) Lb ca) := by rw [hw6]; exact HC0.out.set _
      have c16 : Box w6 (z + 1) (.slice (some ⟨gb, 0, none⟩) Lb cb) := by rw [hw6]; exact HC1.out.other (p := ⟨z, 0, none⟩) (by show z ≠ z + 1; omega) _
      rw [← hw6]
      have HPQ := Lib.hid (And.intro hp (And.intro hw5 hw6))
      clear hp hw5 hw6 d0 d1 d2 d3 e0 e1 e2 e3 k0 k1 k2 k3 k4 f0 f1 f2 f3 f4 q0 q1 q2 q3 q4
      obtain ⟨j0, j1, j2, j3, j4⟩ := hs6.cell
      refine wpIn_region_wideT (fun w' => w'.cell? ⟨p, 1, none⟩ = some (.int .u64 (LA : Int)) ∧ w'.cell? ⟨p, 2, none⟩ = some (.int .u64 (LB : Int)) ∧ w'.cell? ⟨p, 3, none⟩ = some (.int .u64 (NA : Int)) ∧ w'.cell? ⟨p, 4, none⟩ = some (.int .u64 (NB : Int)))
        [.yes 0, .yes 1, .yes 2, .yes 3, .yes 4, .yes 5, .yes 6, .yes 7, .yes 8, .yes 9, .two 10 11, .no 12, .no 13] 13 (by kernel_rfl) (by kernel_rfl) rfl (by kernel_rfl) (by kernel_rfl) ?_
      have hS : w6.drew.cell? ⟨p, 1, none⟩ = some (.int .u64 (LA : Int)) ∧ w6.drew.cell? ⟨p, 2, none⟩ = some (.int .u64 (LB : Int)) ∧ w6.drew.cell? ⟨p, 3, none⟩ = some (.int .u64 (NA : Int)) ∧ w6.drew.cell? ⟨p, 4, none⟩ = some (.int .u64 (NB : Int)) := ⟨j1, j2, j3, j4⟩
      repeat (refine walkT_yes rfl hS rfl (fun w' hw' => by obtain ⟨r0, r1, r2, r3⟩ := hw'; go_simp; rfl) ?_; simp only [Act.put, List.setIfInBounds_toArray, List.set_cons_zero, List.set_cons_succ])
      refine walkT_two rfl rfl (by decide) rfl rfl (fun K hK => ?_) (fun K hK => ?_)
      · skip
        go_simp
        obtain ⟨g9, hg9⟩ : ∃ g9, g9 = w6.heap.size := ⟨_, rfl⟩
        obtain ⟨w7, hw7⟩ : ∃ w7, w7 = (w6.alloc (.cells #[.int .u64 0, .int .u64 0, .int .u64 0, .int .u64 0, .int .u64 0] 137)).drew := ⟨_, rfl⟩
        have hs7 : Sx w7 p false LA LB NA NB := by rw [hw7]; exact Sx.drew (hs6.of_block (Below.heap_alloc _ _ _ hs6.lt))
        have hm7 : Mx w7 g9 0 0 0 0 0 := by rw [hw7, hg9]; exact heap_alloc_new _ _
        have hb7 : Below w6.heap.size w6 w7 := by rw [hw7]; exact ((Below.refl _ _).alloc (Nat.le_refl _) _).drew
        rw [← hg9, ← hw7]
        have HF := Lib.hid hg9
        refine hK _ w7 (fun _ => ⟨hs7.cell.2.1, hs7.cell.2.2.1, hs7.cell.2.2.2.1, hs7.cell.2.2.2.2⟩) rfl (fun K' hK' => ?_)
        clear hK K hw7 hg9
        go_simp
        obtain ⟨g10, hg10⟩ : ∃ g10, g10 = w7.heap.size := ⟨_, rfl⟩
        obtain ⟨w8, hw8⟩ : ∃ w8, w8 = w7.alloc (.cells #[.int .u64 0, .int .u64 0, .int .u64 0, .int .u64 0, .int .u64 0] 137) := ⟨_, rfl⟩
        have hs8 : Sx w8 p false LA LB NA NB := by rw [hw8]; exact hs7.of_block (Below.heap_alloc _ _ _ hs7.lt)
        have hm_g9 : Mx w8 g9 0 0 0 0 0 := by rw [hw8]; exact hm7.of_block (Below.heap_alloc _ _ _ hm7.lt)
        have hm_g10 : Mx w8 g10 0 0 0 0 0 := by rw [hw8, hg10]; exact heap_alloc_new _ _
        have hb8 : Below w6.heap.size w6 w8 := by rw [hw8]; exact hb7.alloc hb7.size _
        have HG : Hid (w6.heap.size ≤ g9 ∧ w6.heap.size ≤ g10 ∧ g9 ≠ g10 ∧ p < w6.heap.size) := Lib.hid (by
          have h1 := HF.out; have h2 := hm7.lt; have h3 := hb7.size; have h4 := hs6.lt
          refine ⟨by omega, by omega, by omega, h4⟩)
        rw [← hg10, ← hw8]
        refine hK' _ w8 (fun _ => ⟨hs8.cell.2.1, hs8.cell.2.2.1, hs8.cell.2.2.2.1, hs8.cell.2.2.2.2⟩) ?_
        clear hK' K' hw8 hg10 HF hb7 hm7 hs7
        obtain ⟨⟨a0, b0⟩, ⟨a1, b1⟩, ⟨a2, b2⟩, ⟨a3, b3⟩, ⟨a4, b4⟩, hfin⟩ := hm_g9.fill (m := LA) (l := LB)
        refine walkT_no rfl rfl (fun K hK => ?_)
        go_simp
        obtain ⟨w9, hw9⟩ : ∃ w9, w9 = (((((w8.setCell ⟨g9, 0, none⟩ (.int .u64 (LA : Int))).setCell ⟨g9, 1, none⟩ (.int .u64 (LB : Int))).setCell ⟨g9, 2, none⟩ (.int .u64 0)).setCell ⟨g9, 3, none⟩ (.int .u64 0)).setCell ⟨g9, 4, none⟩ (.int .u64 0)) := ⟨_, rfl⟩
        rw [← hw9] at hfin ⊢
        have n1 : g9 ≠ g10 := HG.out.2.2.1
        have n2 : g9 ≠ p := by have := HG.out; omega
        have n3 : g10 ≠ p := by have := HG.out; omega
        have hs9 : Sx w9 p false LA LB NA NB := by rw [hw9]; exact (((((hs8.other (q := ⟨g9, 0, none⟩) n2 _).other (q := ⟨g9, 1, none⟩) n2 _).other (q := ⟨g9, 2, none⟩) n2 _).other (q := ⟨g9, 3, none⟩) n2 _).other (q := ⟨g9, 4, none⟩) n2 _)
        have hn_g10 : Mx w9 g10 0 0 0 0 0 := by rw [hw9]; exact (((((hm_g10.other (q := ⟨g9, 0, none⟩) n1 _).other (q := ⟨g9, 1, none⟩) n1 _).other (q := ⟨g9, 2, none⟩) n1 _).other (q := ⟨g9, 3, none⟩) n1 _).other (q := ⟨g9, 4, none⟩) n1 _)
        have hb9 : Below w6.heap.size w6 w9 := by rw [hw9]; exact (((((hb8.setCell (p := ⟨g9, 0, none⟩) HG.out.1 _).setCell (p := ⟨g9, 1, none⟩) HG.out.1 _).setCell (p := ⟨g9, 2, none⟩) HG.out.1 _).setCell (p := ⟨g9, 3, none⟩) HG.out.1 _).setCell (p := ⟨g9, 4, none⟩) HG.out.1 _)
        refine hK _ w9 (fun _ => ⟨hs9.cell.2.1, hs9.cell.2.2.1, hs9.cell.2.2.2.1, hs9.cell.2.2.2.2⟩) ?_
        clear hK K hw9 hm_g9 hm_g10 hs8 hb8 a0 b0 a1 b1 a2 b2 a3 b3 a4 b4
        have hm_g10 := hn_g10
        have hf9 := hfin
        clear hn_g10 hfin
        obtain ⟨⟨a0, b0⟩, ⟨a1, b1⟩, ⟨a2, b2⟩, ⟨a3, b3⟩, ⟨a4, b4⟩, hfin⟩ := hm_g10.fill (m := NB) (l := NA)
        refine walkT_no rfl rfl (fun K hK => ?_)
        go_simp
        obtain ⟨w10, hw10⟩ : ∃ w10, w10 = (((((w9.setCell ⟨g10, 0, none⟩ (.int .u64 (NB : Int))).setCell ⟨g10, 1, none⟩ (.int .u64 (NA : Int))).setCell ⟨g10, 2, none⟩ (.int .u64 0)).setCell ⟨g10, 3, none⟩ (.int .u64 0)).setCell ⟨g10, 4, none⟩ (.int .u64 0)) := ⟨_, rfl⟩
        rw [← hw10] at hfin ⊢
        have hx9 : Mx w10 g9 LA LB 0 0 0 := by rw [hw10]; exact (((((hf9.other (q := ⟨g10, 0, none⟩) (Ne.symm n1) _).other (q := ⟨g10, 1, none⟩) (Ne.symm n1) _).other (q := ⟨g10, 2, none⟩) (Ne.symm n1) _).other (q := ⟨g10, 3, none⟩) (Ne.symm n1) _).other (q := ⟨g10, 4, none⟩) (Ne.symm n1) _)
        have hb10 : Below w6.heap.size w6 w10 := by rw [hw10]; exact (((((hb9.setCell (p := ⟨g10, 0, none⟩) HG.out.2.1 _).setCell (p := ⟨g10, 1, none⟩) HG.out.2.1 _).setCell (p := ⟨g10, 2, none⟩) HG.out.2.1 _).setCell (p := ⟨g10, 3, none⟩) HG.out.2.1 _).setCell (p := ⟨g10, 4, none⟩) HG.out.2.1 _)
        refine hK _ w10 (fun h => absurd h (by decide)) ?_
        have HM9 := Lib.hid hx9
        have HM10 := Lib.hid hfin
        have HB10 := Lib.hid (hb6.trans (hb10.mono hb6.size))
        have HC0a := Lib.hid (c06.below hb10 c06.lt)
        have HC1a := Lib.hid (c16.below hb10 c16.lt)
        have d0 := HC0a.out.1
        have d1 := HC1a.out.1
        clear hK K hw10 hm_g10 hs9 hb9 hf9 hx9 hfin hb10 a0 b0 a1 b1 a2 b2 a3 b3 a4 b4 n1 n2 n3 j0 j1 j2 j3 j4 hS
        simp only [walkT]
        refine ⟨rfl, ?_⟩
        have c0b := HC0a.out.alloc (.cells #[.int .i64 0] 3)
        have c1b := HC1a.out.alloc (.cells #[.int .i64 0] 3)
        have d2 := c0b.1
        have d3 := c1b.1
        gi_wp2_with (gi_at_call 79; refine (callsIn_wide.2 (pairs_any _ _ _ _ _ _ _)).mono ?_; rintro e w' ⟨rfl, rfl⟩)
        obtain ⟨q, hq⟩ : ∃ q, q = w10.heap.size := ⟨_, rfl⟩
        obtain ⟨P1, hP1⟩ : ∃ P1, P1 = (nrow x).take Lb := ⟨_, rfl⟩
        obtain ⟨P2, hP2⟩ : ∃ P2, P2 = nrow y := ⟨_, rfl⟩
        rw [← hq]
        simp only [Nat.add_assoc, Nat.reduceAdd]
        obtain ⟨t0, s0, l0⟩ := box_next hq (.int .i64 0) 3
        obtain ⟨t1, s1, l1⟩ := box_next s0 (.slice (some ⟨ga, 0, none⟩) Lb ca) 31
        obtain ⟨t2, s2, l2⟩ := box_next s1 (.slice (some ⟨gb, 0, none⟩) Lb cb) 31
        have t0' := (t0.alloc (.cells #[.slice (some ⟨ga, 0, none⟩) Lb ca] 31)).alloc (.cells #[.slice (some ⟨gb, 0, none⟩) Lb cb] 31)
        have t1' := t1.alloc (.cells #[.slice (some ⟨gb, 0, none⟩) Lb cb] 31)
        obtain ⟨W0, hW0⟩ : ∃ W0, W0 = (((w10.alloc (.cells #[.int .i64 0] 3)).alloc (.cells #[.slice (some ⟨ga, 0, none⟩) Lb ca] 31)).alloc (.cells #[.slice (some ⟨gb, 0, none⟩) Lb cb] 31)) := ⟨_, rfl⟩
        rw [← hW0] at t0' t1' t2 s2 l2 ⊢
        have hsz : W0.heap.size = q + 3 := s2.symm
        have hbW : Below q w10 W0 := by
          have h := (l0.trans (l1.mono l0.size)).trans (l2.mono (l0.trans (l1.mono l0.size)).size)
          rw [hq]; exact h
        have hbq : Below w.heap.size w W0 := HB10.out.trans (hbW.mono (by rw [hq]; exact HB10.out.size))
        have hlx : P1.length = Lb ∧ Fits P1 ∧ P2.length = Lb ∧ Fits P2 := by
          rw [hP1, hP2]
          have h1 := HM.out.2.2.2.2.2.2.2.2.2
          have h2 := HL.out.1
          have h3 := HL.out.2.1
          refine ⟨?_, ?_, ?_, ?_⟩ <;> first | exact nrow_fits _ | exact fits_take (nrow_fits _) _ | (rw [List.length_take, ← h2]; omega) | exact h3.symm
        have hrow : ∀ W, Below w.heap.size w W → NRow B W (.slice (some ⟨ga, 0, none⟩) Lb ca) ((nrow x).take Lb) ∧ NRow B W (.slice (some ⟨gb, 0, none⟩) Lb cb) (nrow y) := fun W hW => by
          have h1 := HM.out.2.2.2.2.2.2.2.2.2
          have h2 := HL.out.1
          have h3 := HL.out.2.1
          refine ⟨?_, by rw [h3]; exact HRB.out.below hW (Nat.le_refl _)⟩
          have h4 := HRA.out.below hW (Nat.le_refl _)
          rw [← h2] at h4
          have h5 := NRow.take (L := (nrow x).take Lb) (M := (nrow x).drop Lb) (by rw [List.take_append_drop]; exact h4)
          rw [List.length_take, ← h2, Nat.min_eq_left h1] at h5
          exact h5
        have hga : ga < w.heap.size ∧ gb < w.heap.size ∧ B ≤ ga ∧ B ≤ gb := ⟨HRA.out.seg.2.2.2.2.2.block, HRB.out.seg.2.2.2.2.2.block, HRA.out.seg.2.2.1, HRB.out.seg.2.2.1⟩
        have hqb : w6.heap.size ≤ q ∧ w.heap.size ≤ z ∧ z + 1 < q ∧ g9 < q ∧ g10 < q := by
          have h1 := HM9.out.lt; have h2 := HM10.out.lt; have h3 := HC1a.out.lt; have h4 := HZ.out.1; have h5 := HG.out
          refine ⟨by omega, by omega, by omega, by omega, by omega⟩
        have hbB : Below B w W0 := hbq.mono HH.out.2.2.2.2
        obtain ⟨rA, rB⟩ := hrow W0 hbq
        have hNx0 : NxAt B z q g9 g10 ga gb ca cb Lb LA LB NB NA P1 P2 w 0 W0 :=
          ⟨[], [], 0, 0, 0, 0, 0, 0, ⟨rfl, rfl, Nat.zero_le _, fun _ h => (by cases h), fun _ h => (by cases h)⟩, ⟨by decide, by decide, by decide, by decide, by decide, by decide⟩, by simp [lv], by simp [lv],
            by rw [hP1]; exact rA, by rw [hP2]; exact rB, HM9.out.of_block (hbW.block g9 hqb.2.2.2.1), HM10.out.of_block (hbW.block g10 hqb.2.2.2.2), HC0a.out.below hbW (by omega), HC1a.out.below hbW (by omega), t0', t1', t2, Nat.le_of_eq hsz.symm, hbB⟩
        obtain ⟨X', hX'⟩ : ∃ X' : Nat → Nat, ∀ k, X' k = P1.getD k 0 := ⟨_, fun _ => rfl⟩
        obtain ⟨Y', hY'⟩ : ∃ Y' : Nat → Nat, ∀ k, Y' k = P2.getD k 0 := ⟨_, fun _ => rfl⟩
        have HX := Lib.hid hX'
        have HY := Lib.hid hY'
        have HLX := Lib.hid hlx
        have HSZ := Lib.hid hsz
        have HGA := Lib.hid hga
        have HQB := Lib.hid hqb
        have HPP := Lib.hid (And.intro hP1 hP2)
        have HLB9 : Hid (Lb ≤ 1048578) := Lib.hid (by omega)
        have HQ := Lib.hid hq
        clear hX' hY' hlx hsz hga hqb hP1 hP2 t0 t1 t2 t0' t1' s0 s1 s2 l0 l1 l2 hW0 hbW hbq hbB rA rB hrow d0 d1 d2 d3 c0b c1b c06 c16 hs6 hb6 hq
        refine wpIn_range_at (m := 1) (gf := 89) (lb := #[.pointer (some ⟨q + 1, 0, none⟩), .pointer (some ⟨q + 2, 0, none⟩)]) rfl (enters_of Tryd.func89 (by kernel_rfl) rfl) (pairs_at (q + 1) (q + 2) (some ⟨ga, 0, none⟩) (some ⟨gb, 0, none⟩) ca cb P1 P2 X' Y' HX.out HY.out (by rw [HLX.out.1]; have := HLB9.out; omega) (by rw [HLX.out.2.2.1]; have := HLB9.out; omega)) (fun _ => rfl)
          (NxAt B z q g9 g10 ga gb ca cb Lb LA LB NB NA P1 P2 w) (fun _ _ => False) (fun k W W' hb' h => h.below (by have := HQB.out; omega) (by have := HQB.out; omega) (by have := HQB.out; omega) (by have := HQB.out; have := HGA.out; omega) (by have := HQB.out; have := HGA.out; omega) (by have := HQB.out; have := HGA.out; omega) (by rw [← HSZ.out]; exact hb')) (fun _ _ _ _ h => h)
          (fun k W h => by obtain ⟨O1, O2, e1, o1, b1, e2, o2, b2, i1, i2, i3, i4, r1, r2, x1, x2, t1, t2, t3, t4, t5, hs, hl⟩ := h; rw [HSZ.out]; exact hs) (fun _ _ h => h.elim)
          (fun k W h => by
            obtain ⟨O1, O2, e1, o1, b1, e2, o2, b2, i1, i2, i3, i4, r1, r2, x1, x2, t1, t2, t3, t4, t5, hs, hl⟩ := h
            have f1 := r1.seg
            have f2 := r2.seg
            exact ⟨by rw [HLX.out.1]; exact t4.1, by rw [HLX.out.2.2.1]; exact t5.1, f1.2.2.2.2.2.from i1.1 (by rw [HLX.out.1]; exact i1.2.2.1), f2.2.2.2.2.2.from i1.2.1 (by rw [HLX.out.2.2.1]; exact i1.2.2.1)⟩) hNx0
          (fun k => { tmps := #[.slice (some ⟨ga, 0, none⟩) La ca, .slice (some ⟨gb, 0, none⟩) Lb cb, .pointer (some ⟨z, 0, none⟩), .pointer (some ⟨z + 1, 0, none⟩), .slice none 0 0, .slice none 0 0, .pointer (some ⟨p, 0, none⟩), undef, undef, .pointer (some ⟨g9, 0, none⟩), .pointer (some ⟨g10, 0, none⟩), .pointer (some ⟨q, 0, none⟩), .int .u64 ((X' k : Nat) : Int), .int .u64 ((Y' k : Nat) : Int),
            .slice (some ⟨ga, 0, none⟩) La ca, .slice (some ⟨gb, 0, none⟩) Lb cb, .tuple #[.int .u64 (xh : Int), .int .u64 (yh : Int)], .int .u64 (xh : Int), .int .u64 (yh : Int), .agg #[.bool false, .int .u64 (LA : Int), .int .u64 (LB : Int), .int .u64 (NA : Int), .int .u64 (NB : Int)], .pointer (some ⟨p, 2, none⟩), .int .u64 (LB : Int), .bool false, undef, undef, undef, undef, undef, undef, undef, undef, .slice (some ⟨ga, 0, none⟩) La ca, .slice (some ⟨gb, 0, none⟩) Lb cb, .int .i64 (Lb : Int), .slice (some ⟨ga, 0, none⟩) Lb ca, .pointer (some ⟨p, 0, none⟩), .bool false, undef, undef, undef, undef, .pointer (some ⟨p, 1, none⟩), .int .u64 (LA : Int), .pointer (some ⟨p, 2, none⟩), .int .u64 (LB : Int), .agg #[.int .u64 (LA : Int), .int .u64 (LB : Int), .int .u64 0, .int .u64 0, .int .u64 0], .pointer (some ⟨p, 4, none⟩), .int .u64 (NB : Int), .pointer (some ⟨p, 3, none⟩), .int .u64 (NA : Int), .agg #[.int .u64 (NB : Int), .int .u64 (NA : Int), .int .u64 0, .int .u64 0, .int .u64 0],
            .slice (some ⟨ga, 0, none⟩) Lb ca, .slice (some ⟨gb, 0, none⟩) Lb cb, .func (.func 89) #[] #[.pointer (some ⟨q + 1, 0, none⟩), .pointer (some ⟨q + 2, 0, none⟩)], .int .u64 ((X' k : Nat) : Int), .int .u64 ((Y' k : Nat) : Int),
            undef, undef, undef, undef, undef, undef, undef, undef, undef, undef, undef, undef, undef, undef, undef, undef, undef, undef], defers := [] })
          ?assign ?body ?done ?stop
        case assign =>
          intro l k W K hK
          gi_wp2
          exact hK
        case body =>
          rintro l k W hk ⟨O1, O2, e1, o1, b1, e2, o2, b2, ⟨i1, i2, i3, i4, i5⟩, ⟨u1, u2, u3, u4, u5, u6⟩, v1, v2, r1, r2, x1, x2, t1, t2, t3, t4, t5, hs, hl⟩
          have hxA : X' k = P1.getD k 0 := HX.out k
          have hyB : Y' k = P2.getD k 0 := HY.out k
          generalize X' k = xx at hxA ⊢
          generalize Y' k = yy at hyB ⊢
          have hkL : k < Lb := by rw [← HLX.out.1]; exact hk
          have hkI : (k : Int) < (Lb : Int) := by omega
          have hk0 : (0 : Int) ≤ (k : Int) := by omega
          have hk9 : (k : Int) ≤ 1048578 := by have := HLB9.out; omega
          have hxx : xx < 18446744073709551616 := by rw [hxA]; exact getD_fits HLX.out.2.1 k
          have hyy : yy < 18446744073709551616 := by rw [hyB]; exact getD_fits HLX.out.2.2.2 k
          have v1' := v1
          have v2' := v2
          have HI := Lib.hid (And.intro i1 (And.intro i2 (And.intro i3 (And.intro i4 i5))))
          have HV := Lib.hid (And.intro v1 v2)
          have HXY := Lib.hid (And.intro hxA hyB)
          have hbx := hs
          clear hxA hyB v1 v2 v1' v2' i1 i2 i3 i4 i5 hk
          gi_wp2
          refine wpIn_region_calmT (fun w' => w'.cell? ⟨z, 0, none⟩ = some (.slice (some ⟨ga, 0, none⟩) Lb ca) ∧ w'.cell? ⟨z + 1, 0, none⟩ = some (.slice (some ⟨gb, 0, none⟩) Lb cb) ∧ w'.cell? ⟨q, 0, none⟩ = some (.int .i64 (k : Int)))
            [.yes 0, .yes 1, .yes 2, .yes 3, .yes 4, .yes 5, .yes 7, .yes 8, .no 6, .no 9, .yes 10, .no 11, .yes 12, .no 13] 13 (by kernel_rfl) (by kernel_rfl) (by kernel_rfl) rfl (by kernel_rfl) (by kernel_rfl) ?_
          have hS : W.drew.cell? ⟨z, 0, none⟩ = some (.slice (some ⟨ga, 0, none⟩) Lb ca) ∧ W.drew.cell? ⟨z + 1, 0, none⟩ = some (.slice (some ⟨gb, 0, none⟩) Lb cb) ∧ W.drew.cell? ⟨q, 0, none⟩ = some (.int .i64 (k : Int)) := ⟨t1.1, t2.1, t3.1⟩
          repeat (refine walkT_yes rfl hS rfl (fun w' hw' => by obtain ⟨q0, q1, q2⟩ := hw'; go_simp; rfl) ?_; simp only [Act.put, List.setIfInBounds_toArray, List.set_cons_zero, List.set_cons_succ])
          refine walkT_no rfl rfl (fun K hK => ?_)
          go_simp
          have hM4 := HM.out
          refine (mix_any g9 xx yy LA LB e1 o1 b1 W.drew hxx hyy (by omega) (by omega) u1 u2 u3 x1).mono ?_
          rintro e W1 ⟨ra, e1', o1', b1', rfl, ha1, ha2, ha3, ha4, haM, hxa, hga1⟩
          have hN := HG.out
          have hNQ := HQB.out
          have hPZ := HPZ.out
          have hGA := HGA.out
          have hne12 : gb ≠ ga := Ne.symm HH.out.2.2.2.1
          have T1 : Box W1 z (.slice (some ⟨ga, 0, none⟩) Lb ca) := t1.drew.of_block (hga1.block z t1.lt (fun e => by cases e; omega))
          have T2 : Box W1 (z + 1) (.slice (some ⟨gb, 0, none⟩) Lb cb) := t2.drew.of_block (hga1.block (z + 1) t2.lt (fun e => by cases e; omega))
          have T3 : Box W1 q (.int .i64 (k : Int)) := t3.drew.of_block (hga1.block q t3.lt (fun e => by cases e; omega))
          have X1 : Mx W1 g10 NB NA e2 o2 b2 := x2.of_block (hga1.block g10 x2.lt (fun e => by cases e; omega))
          have A1 := r1.of_block (hga1.block ga r1.seg.2.2.2.2.2.block (fun e => by cases e; omega))
          have A2 := r2.of_block (hga1.block gb r2.seg.2.2.2.2.2.block (fun e => by cases e; omega))
          refine hK _ W1 (fun _ => ⟨T1.1, T2.1, T3.1⟩) ?_
          clear hK K
          refine walkT_no rfl rfl (fun K hK => ?_)
          go_simp
          refine (mix_any g10 yy xx NB NA e2 o2 b2 W1 hyy hxx (by omega) (by omega) u4 u5 u6 X1).mono ?_
          rintro e W2 ⟨rb, e2', o2', b2', rfl, hb1, hb2, hb3, hb4, hbM, hxb, hgb1⟩
          have U1 : Box W2 z (.slice (some ⟨ga, 0, none⟩) Lb ca) := T1.of_block (hgb1.block z T1.lt (fun e => by cases e; omega))
          have U2 : Box W2 (z + 1) (.slice (some ⟨gb, 0, none⟩) Lb cb) := T2.of_block (hgb1.block (z + 1) T2.lt (fun e => by cases e; omega))
          have U3 : Box W2 q (.int .i64 (k : Int)) := T3.of_block (hgb1.block q T3.lt (fun e => by cases e; omega))
          have Y1 : Mx W2 g9 LA LB e1' o1' b1' := hxa.of_block (hgb1.block g9 hxa.lt (fun e => by cases e; omega))
          have B1 := A1.of_block (hgb1.block ga A1.seg.2.2.2.2.2.block (fun e => by cases e; omega))
          have B2 := A2.of_block (hgb1.block gb A2.seg.2.2.2.2.2.block (fun e => by cases e; omega))
          refine hK _ W2 (fun _ => ⟨U1.1, U2.1, U3.1⟩) ?_
          clear hK K
          have hl1 : k < (O1 ++ P1.drop k).length := by rw [List.length_append, List.length_drop, HI.out.1, HLX.out.1]; omega
          have hl2 : k < (O2 ++ P2.drop k).length := by rw [List.length_append, List.length_drop, HI.out.2.1, HLX.out.2.2.1]; omega
          have cc1 := B1.seg.2.2.2.2.2.cell hl1
          have cf1 := B1.seg.2.2.2.2.2.frozen k
          rw [Nat.zero_add] at cc1
          have hS2 : W2.cell? ⟨z, 0, none⟩ = some (.slice (some ⟨ga, 0, none⟩) Lb ca) ∧ W2.cell? ⟨z + 1, 0, none⟩ = some (.slice (some ⟨gb, 0, none⟩) Lb cb) ∧ W2.cell? ⟨q, 0, none⟩ = some (.int .i64 (k : Int)) := ⟨U1.1, U2.1, U3.1⟩
          refine walkT_yes rfl hS2 rfl (fun w' hw' => by obtain ⟨q0, q1, q2⟩ := hw'; go_simp; rfl) ?_
          simp only [Act.put, List.setIfInBounds_toArray, List.set_cons_zero, List.set_cons_succ]
          refine walkT_no rfl rfl (fun K hK => ?_)
          go_simp
          obtain ⟨W3, hW3⟩ : ∃ W3, W3 = W2.setCell ⟨ga, k, none⟩ (.int .u64 (ra : Int)) := ⟨_, rfl⟩
          have V1 : Box W3 z (.slice (some ⟨ga, 0, none⟩) Lb ca) := by rw [hW3]; exact U1.other (p := ⟨ga, k, none⟩) (by show ga ≠ z; omega) _
          have V2 : Box W3 (z + 1) (.slice (some ⟨gb, 0, none⟩) Lb cb) := by rw [hW3]; exact U2.other (p := ⟨ga, k, none⟩) (by show ga ≠ z + 1; omega) _
          have V3 : Box W3 q (.int .i64 (k : Int)) := by rw [hW3]; exact U3.other (p := ⟨ga, k, none⟩) (by show ga ≠ q; omega) _
          have C1 := B1.setAt (x := ra) hl1
          rw [← hW3] at C1
          have C2 : NRow B W3 (.slice (some ⟨gb, 0, none⟩) Lb cb) (O2 ++ P2.drop k) := by rw [hW3]; exact B2.of_block (Below.heap_setCell _ ⟨ga, k, none⟩ _ _ (fun e => hne12 (by simpa using e)))
          have cc2 := C2.seg.2.2.2.2.2.cell hl2
          have cf2 := C2.seg.2.2.2.2.2.frozen k
          rw [Nat.zero_add] at cc2
          have hS3 : W3.cell? ⟨z, 0, none⟩ = some (.slice (some ⟨ga, 0, none⟩) Lb ca) ∧ W3.cell? ⟨z + 1, 0, none⟩ = some (.slice (some ⟨gb, 0, none⟩) Lb cb) ∧ W3.cell? ⟨q, 0, none⟩ = some (.int .i64 (k : Int)) := ⟨V1.1, V2.1, V3.1⟩
          rw [← hW3]
          refine hK _ W3 (fun _ => hS3) ?_
          have HW3 := Lib.hid hW3
          clear hK K hW3
          refine walkT_yes rfl hS3 rfl (fun w' hw' => by obtain ⟨q0, q1, q2⟩ := hw'; go_simp; rfl) ?_
          simp only [Act.put, List.setIfInBounds_toArray, List.set_cons_zero, List.set_cons_succ]
          refine walkT_no rfl rfl (fun K hK => ?_)
          go_simp
          obtain ⟨W4, hW4⟩ : ∃ W4, W4 = W3.setCell ⟨gb, k, none⟩ (.int .u64 (rb : Int)) := ⟨_, rfl⟩
          have Z1 : Box W4 z (.slice (some ⟨ga, 0, none⟩) Lb ca) := by rw [hW4]; exact V1.other (p := ⟨gb, k, none⟩) (by show gb ≠ z; omega) _
          have Z2 : Box W4 (z + 1) (.slice (some ⟨gb, 0, none⟩) Lb cb) := by rw [hW4]; exact V2.other (p := ⟨gb, k, none⟩) (by show gb ≠ z + 1; omega) _
          have Z3 : Box W4 q (.int .i64 (k : Int)) := by rw [hW4]; exact V3.other (p := ⟨gb, k, none⟩) (by show gb ≠ q; omega) _
          have D2 := C2.setAt (x := rb) hl2
          rw [← hW4] at D2 ⊢
          have D1 : NRow B W4 (.slice (some ⟨ga, 0, none⟩) Lb ca) ((O1 ++ P1.drop k).set k ra) := by rw [hW4]; exact C1.of_block (Below.heap_setCell _ ⟨gb, k, none⟩ _ _ (fun e => hne12 (by simpa using e.symm)))
          have E1 : Mx W4 g9 LA LB e1' o1' b1' := by rw [hW4, HW3.out]; exact (Y1.other (q := ⟨ga, k, none⟩) (by show ga ≠ g9; omega) _).other (q := ⟨gb, k, none⟩) (by show gb ≠ g9; omega) _
          have E2 : Mx W4 g10 NB NA e2' o2' b2' := by rw [hW4, HW3.out]; exact (hxb.other (q := ⟨ga, k, none⟩) (by show ga ≠ g10; omega) _).other (q := ⟨gb, k, none⟩) (by show gb ≠ g10; omega) _
          have hke : KeepsFrom W0.heap.size W W4 := by
            have h1 : KeepsFrom W0.heap.size W W2 := keeps_grown (keeps_grown (keeps_drew (KeepsFrom.refl _ W)) hga1 (by rw [HSZ.out]; omega)) hgb1 (by rw [HSZ.out]; omega)
            rw [hW4, HW3.out]
            exact keeps_set (keeps_set h1 _ _) _ _
          have S4 : Box W4 (q + 1) (.slice (some ⟨ga, 0, none⟩) Lb ca) := by
            rw [hW4, HW3.out]
            exact ((((t4.drew.of_block (hga1.block (q + 1) t4.lt (fun e => by cases e; omega))).of_block (hgb1.block (q + 1) (Nat.lt_of_lt_of_le t4.lt hga1.size) (fun e => by cases e; omega))).other (p := ⟨ga, k, none⟩) (by show ga ≠ q + 1; omega) _).other (p := ⟨gb, k, none⟩) (by show gb ≠ q + 1; omega) _)
          have S5 : Box W4 (q + 2) (.slice (some ⟨gb, 0, none⟩) Lb cb) := by
            rw [hW4, HW3.out]
            exact ((((t5.drew.of_block (hga1.block (q + 2) t5.lt (fun e => by cases e; omega))).of_block (hgb1.block (q + 2) (Nat.lt_of_lt_of_le t5.lt hga1.size) (fun e => by cases e; omega))).other (p := ⟨ga, k, none⟩) (by show ga ≠ q + 2; omega) _).other (p := ⟨gb, k, none⟩) (by show gb ≠ q + 2; omega) _)
          have hsz4 : q + 3 ≤ W4.heap.size := by
            rw [hW4, HW3.out, size_set, size_set]
            exact Nat.le_trans hs (Nat.le_trans hga1.size hgb1.size)
          have hl4 : Below B w W4 := by
            have h1 := (hl.drew).grown hga1 (Nat.le_trans (Nat.le_trans (show B ≤ w.heap.size from HH.out.2.2.2.2) hl.size) (Nat.le_refl _)) (fun g hg => by cases hg; omega)
            have h2 := h1.grown hgb1 (Nat.le_trans HH.out.2.2.2.2 h1.size) (fun g hg => by cases hg; omega)
            rw [hW4, HW3.out]
            exact (h2.setCell (p := ⟨ga, k, none⟩) (by show B ≤ ga; omega) _).setCell (p := ⟨gb, k, none⟩) (by show B ≤ gb; omega) _
          have HKE := Lib.hid hke
          have HD := Lib.hid (And.intro D1 D2)
          have HE := Lib.hid (And.intro E1 E2)
          have HZZ := Lib.hid (And.intro Z1 (And.intro Z2 (And.intro Z3 (And.intro S4 (And.intro S5 (And.intro hsz4 hl4))))))
          have HR1 := Lib.hid (And.intro ha1 (And.intro ha2 (And.intro ha3 (And.intro ha4 haM))))
          have HR2 := Lib.hid (And.intro hb1 (And.intro hb2 (And.intro hb3 (And.intro hb4 hbM))))
          have zc := Z3.1
          have zf := Z3.2
          refine hK _ W4 (fun h => absurd h (by decide)) ?_
          clear hK K hW4 cc1 cf1 cc2 cf2 hS hS2 hS3 A1 A2 B1 B2 C1 C2 D1 D2 E1 E2 Y1 X1 U1 U2 U3 V1 V2 V3 T1 T2 T3 hxa hxb hga1 hgb1 haM hbM hke S4 S5 hsz4 hl4 Z1 Z2 Z3
          simp only [walkT]
          refine ⟨rfl, ?_⟩
          gi_wp2
          have hI := HI.out
          have hR1 := HR1.out
          have hR2 := HR2.out
          have hZ := HZZ.out
          have hNQ := HQB.out
          have hGA := HGA.out
          have hN := HG.out
          have hP : 2 ^ (64 * (k + 1)) = 2 ^ (64 * k) * 18446744073709551616 := by rw [show 64 * (k + 1) = 64 * k + 64 by omega, Nat.pow_add]
          have q1 := mix_step HV.out.1 hR1.2.2.2.2
          have q2 := mix_step HV.out.2 hR2.2.2.2.2
          have w1 := lv_take_succ' P1 k
          have w2 := lv_take_succ' P2 k
          rw [← HXY.out.1] at w1
          rw [← HXY.out.2] at w2
          have hkP1 : k < P1.length := by rw [HLX.out.1]; exact hkL
          have hkP2 : k < P2.length := by rw [HLX.out.2.2.1]; exact hkL
          have w3 := set_mid (x := ra) hI.1 hkP1
          have w4 := set_mid (x := rb) hI.2.1 hkP2
          have hD1 := HD.out.1
          have hD2 := HD.out.2
          rw [w3] at hD1
          rw [w4] at hD2
          refine ⟨keeps_set HKE.out _ _, O1 ++ [ra], O2 ++ [rb], e1', o1', b1', e2', o2', b2', ⟨by rw [List.length_append, hI.1]; rfl, by rw [List.length_append, hI.2.1]; rfl, hkL, fits_snoc hI.2.2.2.1 hR1.1, fits_snoc hI.2.2.2.2 hR2.1⟩, ⟨hR1.2.1, hR1.2.2.1, hR1.2.2.2.1, hR2.2.1, hR2.2.2.1, hR2.2.2.2.1⟩, ?_, ?_,
            hD1.of_block (Below.heap_setCell _ ⟨q, 0, none⟩ _ _ (by show ga ≠ q; omega)), hD2.of_block (Below.heap_setCell _ ⟨q, 0, none⟩ _ _ (by show gb ≠ q; omega)), HE.out.1.other (q := ⟨q, 0, none⟩) (by show q ≠ g9; omega) _, HE.out.2.other (q := ⟨q, 0, none⟩) (by show q ≠ g10; omega) _,
            hZ.1.other (p := ⟨q, 0, none⟩) (by show q ≠ z; omega) _, hZ.2.1.other (p := ⟨q, 0, none⟩) (by show q ≠ z + 1; omega) _, hZ.2.2.1.set _, hZ.2.2.2.1.other (p := ⟨q, 0, none⟩) (by show q ≠ q + 1; omega) _, hZ.2.2.2.2.1.other (p := ⟨q, 0, none⟩) (by show q ≠ q + 2; omega) _,
            by rw [size_set]; exact hZ.2.2.2.2.2.1, hZ.2.2.2.2.2.2.setCell (p := ⟨q, 0, none⟩) (by show B ≤ q; omega) _⟩
          · rw [lv_snoc, hI.1, w1, w2, hP]; exact q1
          · rw [lv_snoc, hI.2.1, w1, w2, hP]; exact q2
        case done =>
          rintro D W hD ⟨O1, O2, e1, o1, b1, e2, o2, b2, ⟨i1, i2, i3, i4, i5⟩, ⟨u1, u2, u3, u4, u5, u6⟩, v1, v2, r1, r2, x1, x2, t1, t2, t3, t4, t5, hs, hl⟩ hK
          have e0 := HLX.out.1
          rw [e0] at i1 i2 i3 v1 v2 r1 r2 t3
          have hd1 : P1.drop Lb = [] := List.drop_eq_nil_of_le (Nat.le_of_eq HLX.out.1)
          have hd2 : P2.drop Lb = [] := List.drop_eq_nil_of_le (Nat.le_of_eq HLX.out.2.2.1)
          rw [hd1, List.append_nil] at r1
          rw [hd2, List.append_nil] at r2
          rw [List.take_of_length_le (Nat.le_of_eq HLX.out.1), List.take_of_length_le (Nat.le_of_eq HLX.out.2.2.1)] at v1 v2
          have hM := HM.out
          have hyl : y < 2 ^ (64 * Lb) := by have := lv_lt (nrow_fits y); rw [lv_nrow, ← HL.out.2.1] at this; exact this
          have hsp := lv_split (nrow x) (k := Lb) (by rw [← HL.out.1]; exact hM.2.2.2.2.2.2.2.2.2)
          rw [lv_nrow] at hsp
          obtain ⟨h, hh⟩ : ∃ h, h = lv ((nrow x).drop Lb) := ⟨_, rfl⟩
          obtain ⟨XT, hXT⟩ : ∃ XT, XT = lv ((nrow x).take Lb) := ⟨_, rfl⟩
          rw [← hh, ← hXT] at hsp
          have hP1v : lv P1 = XT := by rw [HPP.out.1]; exact hXT.symm
          have hP2v : lv P2 = y := by rw [HPP.out.2]; exact lv_nrow y
          rw [hP1v, hP2v] at v1 v2
          have hO1 : lv O1 < 2 ^ (64 * Lb) := by rw [← i1]; exact lv_lt i4
          have hO2 : lv O2 < 2 ^ (64 * Lb) := by rw [← i2]; exact lv_lt i5
          have z1 : lv O1 = Lt := mix_done (u := LA * h) (v := 0) v1 (by
            have h9 := hM.2.2.2.2.2.1
            rw [hsp] at h9
            simp only [dl] at h9
            have : ((LA * XT + 2 ^ (64 * Lb) * (LA * h) : Nat) : Int) = ((Lt + LB * y + 2 ^ (64 * Lb) * (0) : Nat) : Int) := by push_cast at h9 ⊢; grind
            exact_mod_cast this) hO1 (Nat.lt_of_le_of_lt hM.2.2.2.2.2.2.2.1 hyl)
          have z2 : lv O2 = X := mix_done (u := 0) (v := NA * h) v2 (by
            have h9 := hM.2.2.2.2.1
            rw [hsp] at h9
            simp only [dl] at h9
            have : ((NB * y + 2 ^ (64 * Lb) * (0) : Nat) : Int) = ((X + NA * XT + 2 ^ (64 * Lb) * (NA * h) : Nat) : Int) := by push_cast at h9 ⊢; grind
            exact_mod_cast this) hO2 (Nat.lt_of_lt_of_le hM.2.2.2.2.2.2.1 (Nat.le_of_lt (Nat.lt_of_le_of_lt hM.2.2.2.2.2.2.2.1 hyl)))
          have f1 := r1.seg
          have f2 := r2.seg
          have A1 : NRow B W (.slice (some ⟨ga, 0, none⟩) O1.length ca) O1 := by rw [i1]; exact r1
          have A2 : NRow B W (.slice (some ⟨gb, 0, none⟩) O2.length cb) O2 := by rw [i2]; exact r2
          have N1 := A1.norm i4
          have N2 := A2.norm i5
          rw [z1] at N1
          rw [z2] at N2
          have tr1 := trim_any (some ⟨ga, 0, none⟩) ca O1 W.drew (by rw [i1]; have := HLB9.out; omega) (by rw [i1]; have := f1.2.2.2.1; omega) i4 f1.2.2.2.2.2.natAt
          have tr2 := trim_any (some ⟨gb, 0, none⟩) cb O2 W.drew (by rw [i2]; have := HLB9.out; omega) (by rw [i2]; have := f2.2.2.2.1; omega) i5 f2.2.2.2.2.2.natAt
          rw [i1, z1] at tr1
          rw [i2, z2] at tr2
          have TR1 := Lib.hid tr1
          have TR2 := Lib.hid tr2
          have HN12 := Lib.hid (And.intro N1 N2)
          have HLW := Lib.hid (And.intro hl hs)
          have hS : W.drew.cell? ⟨z, 0, none⟩ = some (.slice (some ⟨ga, 0, none⟩) Lb ca) ∧ W.drew.cell? ⟨z + 1, 0, none⟩ = some (.slice (some ⟨gb, 0, none⟩) Lb cb) := ⟨t1.1, t2.1⟩
          clear e0 i1 i2 i3 i4 i5 u1 u2 u3 u4 u5 u6 v1 v2 r1 r2 x1 x2 t1 t2 t3 t4 t5 hs hl hd1 hd2 hM hyl hsp hh hXT hP1v hP2v hO1 hO2 z1 z2 f1 f2 A1 A2 N1 N2 tr1 tr2
          gi_wp2_with fail
          refine wpIn_region_wideT (fun w' => w'.cell? ⟨z, 0, none⟩ = some (.slice (some ⟨ga, 0, none⟩) Lb ca) ∧ w'.cell? ⟨z + 1, 0, none⟩ = some (.slice (some ⟨gb, 0, none⟩) Lb cb))
            [.yes 0, .yes 2, .no 1, .no 3, .yes 4, .yes 5] 6 (by kernel_rfl) (by kernel_rfl) rfl (by kernel_rfl) (by kernel_rfl) ?_
          repeat (refine walkT_yes rfl hS rfl (fun w' hw' => by obtain ⟨q0, q1⟩ := hw'; go_simp; rfl) ?_; simp only [Act.put, List.setIfInBounds_toArray, List.set_cons_zero, List.set_cons_succ])
          refine walkT_no rfl rfl (fun K hK2 => ?_)
          go_simp
          refine TR1.out.mono ?_
          rintro e w' ⟨rfl, rfl⟩
          refine hK2 _ _ (fun _ => hS) ?_
          clear hK2 K
          refine walkT_no rfl rfl (fun K hK2 => ?_)
          go_simp
          refine TR2.out.mono ?_
          rintro e w' ⟨rfl, rfl⟩
          refine hK2 _ _ (fun _ => hS) ?_
          clear hK2 K
          repeat (refine walkT_yes rfl hS rfl (fun w' hw' => by obtain ⟨q0, q1⟩ := hw'; go_simp; rfl) ?_; simp only [Act.put, List.setIfInBounds_toArray, List.set_cons_zero, List.set_cons_succ])
          simp only [walkT]
          refine ⟨rfl, ?_⟩
          gi_wp2_with fail
          have hsW : W0.heap.size ≤ W.drew.heap.size := by rw [HSZ.out]; exact HLW.out.2
          have b1 : Below W0.heap.size W.drew (W.drew.putObj D (.deferred none)) := below_putObj W.drew D _ hD hsW
          have hM := HM.out
          have hNQ := HQB.out
          have hGA := HGA.out
          refine ⟨by simp, .inl ⟨_, _, rfl, run_takeDeferred (show W.drew.heap[D]? = _ from hK), ?_⟩⟩
          refine ⟨_, results_tmp2 rfl _ _ _, ?_⟩
          refine ⟨_, _, Lt, X, rfl, hM.2.2.2.2.2.2.2.2.1, Nat.le_of_lt hM.2.2.2.2.2.2.1, Nat.le_trans hM.2.2.2.2.2.2.2.1 HH.out.2.1, Nat.lt_of_lt_of_le hM.2.2.2.2.2.2.1 hM.2.2.2.2.2.2.2.1, ?_, ?_, ?_, ?_⟩
          · exact HN12.out.1.of_block (b1.block ga (by rw [HSZ.out]; omega))
          · exact HN12.out.2.of_block (b1.block gb (by rw [HSZ.out]; omega))
          · intro e
            have e' : (Value.slice (some ⟨ga, 0, none⟩) (nrow Lt).length ca).ownBlock = (Value.slice (some ⟨gb, 0, none⟩) (nrow X).length cb).ownBlock := e
            have hne12 : gb ≠ ga := Ne.symm HH.out.2.2.2.1
            exact hne12 (by simpa [Value.ownBlock] using e'.symm)
          · exact (HLW.out.1.drew).trans (b1.mono (by rw [HSZ.out]; omega))
        case stop =>
          rintro D k W _ _ h _
          exact h.elim
      · skip
        go_simp
        obtain ⟨g10, hg10⟩ : ∃ g10, g10 = w6.heap.size := ⟨_, rfl⟩
        obtain ⟨w7, hw7⟩ : ∃ w7, w7 = (w6.alloc (.cells #[.int .u64 0, .int .u64 0, .int .u64 0, .int .u64 0, .int .u64 0] 137)).drew := ⟨_, rfl⟩
        have hs7 : Sx w7 p false LA LB NA NB := by rw [hw7]; exact Sx.drew (hs6.of_block (Below.heap_alloc _ _ _ hs6.lt))
        have hm7 : Mx w7 g10 0 0 0 0 0 := by rw [hw7, hg10]; exact heap_alloc_new _ _
        have hb7 : Below w6.heap.size w6 w7 := by rw [hw7]; exact ((Below.refl _ _).alloc (Nat.le_refl _) _).drew
        rw [← hg10, ← hw7]
        have HF := Lib.hid hg10
        refine hK _ w7 (fun _ => ⟨hs7.cell.2.1, hs7.cell.2.2.1, hs7.cell.2.2.2.1, hs7.cell.2.2.2.2⟩) rfl (fun K' hK' => ?_)
        clear hK K hw7 hg10
        go_simp
        obtain ⟨g9, hg9⟩ : ∃ g9, g9 = w7.heap.size := ⟨_, rfl⟩
        obtain ⟨w8, hw8⟩ : ∃ w8, w8 = w7.alloc (.cells #[.int .u64 0, .int .u64 0, .int .u64 0, .int .u64 0, .int .u64 0] 137) := ⟨_, rfl⟩
        have hs8 : Sx w8 p false LA LB NA NB := by rw [hw8]; exact hs7.of_block (Below.heap_alloc _ _ _ hs7.lt)
        have hm_g10 : Mx w8 g10 0 0 0 0 0 := by rw [hw8]; exact hm7.of_block (Below.heap_alloc _ _ _ hm7.lt)
        have hm_g9 : Mx w8 g9 0 0 0 0 0 := by rw [hw8, hg9]; exact heap_alloc_new _ _
        have hb8 : Below w6.heap.size w6 w8 := by rw [hw8]; exact hb7.alloc hb7.size _
        have HG : Hid (w6.heap.size ≤ g9 ∧ w6.heap.size ≤ g10 ∧ g9 ≠ g10 ∧ p < w6.heap.size) := Lib.hid (by
          have h1 := HF.out; have h2 := hm7.lt; have h3 := hb7.size; have h4 := hs6.lt
          refine ⟨by omega, by omega, by omega, h4⟩)
        rw [← hg9, ← hw8]
        refine hK' _ w8 (fun _ => ⟨hs8.cell.2.1, hs8.cell.2.2.1, hs8.cell.2.2.2.1, hs8.cell.2.2.2.2⟩) ?_
        clear hK' K' hw8 hg9 HF hb7 hm7 hs7
        obtain ⟨⟨a0, b0⟩, ⟨a1, b1⟩, ⟨a2, b2⟩, ⟨a3, b3⟩, ⟨a4, b4⟩, hfin⟩ := hm_g9.fill (m := LA) (l := LB)
        refine walkT_no rfl rfl (fun K hK => ?_)
        go_simp
        obtain ⟨w9, hw9⟩ : ∃ w9, w9 = (((((w8.setCell ⟨g9, 0, none⟩ (.int .u64 (LA : Int))).setCell ⟨g9, 1, none⟩ (.int .u64 (LB : Int))).setCell ⟨g9, 2, none⟩ (.int .u64 0)).setCell ⟨g9, 3, none⟩ (.int .u64 0)).setCell ⟨g9, 4, none⟩ (.int .u64 0)) := ⟨_, rfl⟩
        rw [← hw9] at hfin ⊢
        have n1 : g9 ≠ g10 := HG.out.2.2.1
        have n2 : g9 ≠ p := by have := HG.out; omega
        have n3 : g10 ≠ p := by have := HG.out; omega
        have hs9 : Sx w9 p false LA LB NA NB := by rw [hw9]; exact (((((hs8.other (q := ⟨g9, 0, none⟩) n2 _).other (q := ⟨g9, 1, none⟩) n2 _).other (q := ⟨g9, 2, none⟩) n2 _).other (q := ⟨g9, 3, none⟩) n2 _).other (q := ⟨g9, 4, none⟩) n2 _)
        have hn_g10 : Mx w9 g10 0 0 0 0 0 := by rw [hw9]; exact (((((hm_g10.other (q := ⟨g9, 0, none⟩) n1 _).other (q := ⟨g9, 1, none⟩) n1 _).other (q := ⟨g9, 2, none⟩) n1 _).other (q := ⟨g9, 3, none⟩) n1 _).other (q := ⟨g9, 4, none⟩) n1 _)
        have hb9 : Below w6.heap.size w6 w9 := by rw [hw9]; exact (((((hb8.setCell (p := ⟨g9, 0, none⟩) HG.out.1 _).setCell (p := ⟨g9, 1, none⟩) HG.out.1 _).setCell (p := ⟨g9, 2, none⟩) HG.out.1 _).setCell (p := ⟨g9, 3, none⟩) HG.out.1 _).setCell (p := ⟨g9, 4, none⟩) HG.out.1 _)
        refine hK _ w9 (fun _ => ⟨hs9.cell.2.1, hs9.cell.2.2.1, hs9.cell.2.2.2.1, hs9.cell.2.2.2.2⟩) ?_
        clear hK K hw9 hm_g9 hm_g10 hs8 hb8 a0 b0 a1 b1 a2 b2 a3 b3 a4 b4
        have hm_g10 := hn_g10
        have hf9 := hfin
        clear hn_g10 hfin
        obtain ⟨⟨a0, b0⟩, ⟨a1, b1⟩, ⟨a2, b2⟩, ⟨a3, b3⟩, ⟨a4, b4⟩, hfin⟩ := hm_g10.fill (m := NB) (l := NA)
        refine walkT_no rfl rfl (fun K hK => ?_)
        go_simp
        obtain ⟨w10, hw10⟩ : ∃ w10, w10 = (((((w9.setCell ⟨g10, 0, none⟩ (.int .u64 (NB : Int))).setCell ⟨g10, 1, none⟩ (.int .u64 (NA : Int))).setCell ⟨g10, 2, none⟩ (.int .u64 0)).setCell ⟨g10, 3, none⟩ (.int .u64 0)).setCell ⟨g10, 4, none⟩ (.int .u64 0)) := ⟨_, rfl⟩
        rw [← hw10] at hfin ⊢
        have hx9 : Mx w10 g9 LA LB 0 0 0 := by rw [hw10]; exact (((((hf9.other (q := ⟨g10, 0, none⟩) (Ne.symm n1) _).other (q := ⟨g10, 1, none⟩) (Ne.symm n1) _).other (q := ⟨g10, 2, none⟩) (Ne.symm n1) _).other (q := ⟨g10, 3, none⟩) (Ne.symm n1) _).other (q := ⟨g10, 4, none⟩) (Ne.symm n1) _)
        have hb10 : Below w6.heap.size w6 w10 := by rw [hw10]; exact (((((hb9.setCell (p := ⟨g10, 0, none⟩) HG.out.2.1 _).setCell (p := ⟨g10, 1, none⟩) HG.out.2.1 _).setCell (p := ⟨g10, 2, none⟩) HG.out.2.1 _).setCell (p := ⟨g10, 3, none⟩) HG.out.2.1 _).setCell (p := ⟨g10, 4, none⟩) HG.out.2.1 _)
        refine hK _ w10 (fun h => absurd h (by decide)) ?_
        have HM9 := Lib.hid hx9
        have HM10 := Lib.hid hfin
        have HB10 := Lib.hid (hb6.trans (hb10.mono hb6.size))
        have HC0a := Lib.hid (c06.below hb10 c06.lt)
        have HC1a := Lib.hid (c16.below hb10 c16.lt)
        have d0 := HC0a.out.1
        have d1 := HC1a.out.1
        clear hK K hw10 hm_g10 hs9 hb9 hf9 hx9 hfin hb10 a0 b0 a1 b1 a2 b2 a3 b3 a4 b4 n1 n2 n3 j0 j1 j2 j3 j4 hS
        simp only [walkT]
        refine ⟨rfl, ?_⟩
        have c0b := HC0a.out.alloc (.cells #[.int .i64 0] 3)
        have c1b := HC1a.out.alloc (.cells #[.int .i64 0] 3)
        have d2 := c0b.1
        have d3 := c1b.1
        gi_wp2_with (gi_at_call 79; refine (callsIn_wide.2 (pairs_any _ _ _ _ _ _ _)).mono ?_; rintro e w' ⟨rfl, rfl⟩)
        obtain ⟨q, hq⟩ : ∃ q, q = w10.heap.size := ⟨_, rfl⟩
        obtain ⟨P1, hP1⟩ : ∃ P1, P1 = (nrow x).take Lb := ⟨_, rfl⟩
        obtain ⟨P2, hP2⟩ : ∃ P2, P2 = nrow y := ⟨_, rfl⟩
        rw [← hq]
        simp only [Nat.add_assoc, Nat.reduceAdd]
        obtain ⟨t0, s0, l0⟩ := box_next hq (.int .i64 0) 3
        obtain ⟨t1, s1, l1⟩ := box_next s0 (.slice (some ⟨ga, 0, none⟩) Lb ca) 31
        obtain ⟨t2, s2, l2⟩ := box_next s1 (.slice (some ⟨gb, 0, none⟩) Lb cb) 31
        have t0' := (t0.alloc (.cells #[.slice (some ⟨ga, 0, none⟩) Lb ca] 31)).alloc (.cells #[.slice (some ⟨gb, 0, none⟩) Lb cb] 31)
        have t1' := t1.alloc (.cells #[.slice (some ⟨gb, 0, none⟩) Lb cb] 31)
        obtain ⟨W0, hW0⟩ : ∃ W0, W0 = (((w10.alloc (.cells #[.int .i64 0] 3)).alloc (.cells #[.slice (some ⟨ga, 0, none⟩) Lb ca] 31)).alloc (.cells #[.slice (some ⟨gb, 0, none⟩) Lb cb] 31)) := ⟨_, rfl⟩
        rw [← hW0] at t0' t1' t2 s2 l2 ⊢
        have hsz : W0.heap.size = q + 3 := s2.symm
        have hbW : Below q w10 W0 := by
          have h := (l0.trans (l1.mono l0.size)).trans (l2.mono (l0.trans (l1.mono l0.size)).size)
          rw [hq]; exact h
        have hbq : Below w.heap.size w W0 := HB10.out.trans (hbW.mono (by rw [hq]; exact HB10.out.size))
        have hlx : P1.length = Lb ∧ Fits P1 ∧ P2.length = Lb ∧ Fits P2 := by
          rw [hP1, hP2]
          have h1 := HM.out.2.2.2.2.2.2.2.2.2
          have h2 := HL.out.1
          have h3 := HL.out.2.1
          refine ⟨?_, ?_, ?_, ?_⟩ <;> first | exact nrow_fits _ | exact fits_take (nrow_fits _) _ | (rw [List.length_take, ← h2]; omega) | exact h3.symm
        have hrow : ∀ W, Below w.heap.size w W → NRow B W (.slice (some ⟨ga, 0, none⟩) Lb ca) ((nrow x).take Lb) ∧ NRow B W (.slice (some ⟨gb, 0, none⟩) Lb cb) (nrow y) := fun W hW => by
          have h1 := HM.out.2.2.2.2.2.2.2.2.2
          have h2 := HL.out.1
          have h3 := HL.out.2.1
          refine ⟨?_, by rw [h3]; exact HRB.out.below hW (Nat.le_refl _)⟩
          have h4 := HRA.out.below hW (Nat.le_refl _)
          rw [← h2] at h4
          have h5 := NRow.take (L := (nrow x).take Lb) (M := (nrow x).drop Lb) (by rw [List.take_append_drop]; exact h4)
          rw [List.length_take, ← h2, Nat.min_eq_left h1] at h5
          exact h5
        have hga : ga < w.heap.size ∧ gb < w.heap.size ∧ B ≤ ga ∧ B ≤ gb := ⟨HRA.out.seg.2.2.2.2.2.block, HRB.out.seg.2.2.2.2.2.block, HRA.out.seg.2.2.1, HRB.out.seg.2.2.1⟩
        have hqb : w6.heap.size ≤ q ∧ w.heap.size ≤ z ∧ z + 1 < q ∧ g9 < q ∧ g10 < q := by
          have h1 := HM9.out.lt; have h2 := HM10.out.lt; have h3 := HC1a.out.lt; have h4 := HZ.out.1; have h5 := HG.out
          refine ⟨by omega, by omega, by omega, by omega, by omega⟩
        have hbB : Below B w W0 := hbq.mono HH.out.2.2.2.2
        obtain ⟨rA, rB⟩ := hrow W0 hbq
        have hNx0 : NxAt B z q g9 g10 ga gb ca cb Lb LA LB NB NA P1 P2 w 0 W0 :=
          ⟨[], [], 0, 0, 0, 0, 0, 0, ⟨rfl, rfl, Nat.zero_le _, fun _ h => (by cases h), fun _ h => (by cases h)⟩, ⟨by decide, by decide, by decide, by decide, by decide, by decide⟩, by simp [lv], by simp [lv],
            by rw [hP1]; exact rA, by rw [hP2]; exact rB, HM9.out.of_block (hbW.block g9 hqb.2.2.2.1), HM10.out.of_block (hbW.block g10 hqb.2.2.2.2), HC0a.out.below hbW (by omega), HC1a.out.below hbW (by omega), t0', t1', t2, Nat.le_of_eq hsz.symm, hbB⟩
        obtain ⟨X', hX'⟩ : ∃ X' : Nat → Nat, ∀ k, X' k = P1.getD k 0 := ⟨_, fun _ => rfl⟩
        obtain ⟨Y', hY'⟩ : ∃ Y' : Nat → Nat, ∀ k, Y' k = P2.getD k 0 := ⟨_, fun _ => rfl⟩
        have HX := Lib.hid hX'
        have HY := Lib.hid hY'
        have HLX := Lib.hid hlx
        have HSZ := Lib.hid hsz
        have HGA := Lib.hid hga
        have HQB := Lib.hid hqb
        have HPP := Lib.hid (And.intro hP1 hP2)
        have HLB9 : Hid (Lb ≤ 1048578) := Lib.hid (by omega)
        have HQ := Lib.hid hq
        clear hX' hY' hlx hsz hga hqb hP1 hP2 t0 t1 t2 t0' t1' s0 s1 s2 l0 l1 l2 hW0 hbW hbq hbB rA rB hrow d0 d1 d2 d3 c0b c1b c06 c16 hs6 hb6 hq
        refine wpIn_range_at (m := 1) (gf := 89) (lb := #[.pointer (some ⟨q + 1, 0, none⟩), .pointer (some ⟨q + 2, 0, none⟩)]) rfl (enters_of Tryd.func89 (by kernel_rfl) rfl) (pairs_at (q + 1) (q + 2) (some ⟨ga, 0, none⟩) (some ⟨gb, 0, none⟩) ca cb P1 P2 X' Y' HX.out HY.out (by rw [HLX.out.1]; have := HLB9.out; omega) (by rw [HLX.out.2.2.1]; have := HLB9.out; omega)) (fun _ => rfl)
          (NxAt B z q g9 g10 ga gb ca cb Lb LA LB NB NA P1 P2 w) (fun _ _ => False) (fun k W W' hb' h => h.below (by have := HQB.out; omega) (by have := HQB.out; omega) (by have := HQB.out; omega) (by have := HQB.out; have := HGA.out; omega) (by have := HQB.out; have := HGA.out; omega) (by have := HQB.out; have := HGA.out; omega) (by rw [← HSZ.out]; exact hb')) (fun _ _ _ _ h => h)
          (fun k W h => by obtain ⟨O1, O2, e1, o1, b1, e2, o2, b2, i1, i2, i3, i4, r1, r2, x1, x2, t1, t2, t3, t4, t5, hs, hl⟩ := h; rw [HSZ.out]; exact hs) (fun _ _ h => h.elim)
          (fun k W h => by
            obtain ⟨O1, O2, e1, o1, b1, e2, o2, b2, i1, i2, i3, i4, r1, r2, x1, x2, t1, t2, t3, t4, t5, hs, hl⟩ := h
            have f1 := r1.seg
            have f2 := r2.seg
            exact ⟨by rw [HLX.out.1]; exact t4.1, by rw [HLX.out.2.2.1]; exact t5.1, f1.2.2.2.2.2.from i1.1 (by rw [HLX.out.1]; exact i1.2.2.1), f2.2.2.2.2.2.from i1.2.1 (by rw [HLX.out.2.2.1]; exact i1.2.2.1)⟩) hNx0
          (fun k => { tmps := #[.slice (some ⟨ga, 0, none⟩) La ca, .slice (some ⟨gb, 0, none⟩) Lb cb, .pointer (some ⟨z, 0, none⟩), .pointer (some ⟨z + 1, 0, none⟩), .slice none 0 0, .slice none 0 0, .pointer (some ⟨p, 0, none⟩), undef, undef, .pointer (some ⟨g9, 0, none⟩), .pointer (some ⟨g10, 0, none⟩), .pointer (some ⟨q, 0, none⟩), .int .u64 ((X' k : Nat) : Int), .int .u64 ((Y' k : Nat) : Int),
            .slice (some ⟨ga, 0, none⟩) La ca, .slice (some ⟨gb, 0, none⟩) Lb cb, .tuple #[.int .u64 (xh : Int), .int .u64 (yh : Int)], .int .u64 (xh : Int), .int .u64 (yh : Int), .agg #[.bool false, .int .u64 (LA : Int), .int .u64 (LB : Int), .int .u64 (NA : Int), .int .u64 (NB : Int)], .pointer (some ⟨p, 2, none⟩), .int .u64 (LB : Int), .bool false, undef, undef, undef, undef, undef, undef, undef, undef, .slice (some ⟨ga, 0, none⟩) La ca, .slice (some ⟨gb, 0, none⟩) Lb cb, .int .i64 (Lb : Int), .slice (some ⟨ga, 0, none⟩) Lb ca, .pointer (some ⟨p, 0, none⟩), .bool false, undef, undef, undef, undef, .pointer (some ⟨p, 1, none⟩), .int .u64 (LA : Int), .pointer (some ⟨p, 2, none⟩), .int .u64 (LB : Int), .agg #[.int .u64 (LA : Int), .int .u64 (LB : Int), .int .u64 0, .int .u64 0, .int .u64 0], .pointer (some ⟨p, 4, none⟩), .int .u64 (NB : Int), .pointer (some ⟨p, 3, none⟩), .int .u64 (NA : Int), .agg #[.int .u64 (NB : Int), .int .u64 (NA : Int), .int .u64 0, .int .u64 0, .int .u64 0],
            .slice (some ⟨ga, 0, none⟩) Lb ca, .slice (some ⟨gb, 0, none⟩) Lb cb, .func (.func 89) #[] #[.pointer (some ⟨q + 1, 0, none⟩), .pointer (some ⟨q + 2, 0, none⟩)], .int .u64 ((X' k : Nat) : Int), .int .u64 ((Y' k : Nat) : Int),
            undef, undef, undef, undef, undef, undef, undef, undef, undef, undef, undef, undef, undef, undef, undef, undef, undef, undef], defers := [] })
          ?assign ?body ?done ?stop
        case assign =>
          intro l k W K hK
          gi_wp2
          exact hK
        case body =>
          rintro l k W hk ⟨O1, O2, e1, o1, b1, e2, o2, b2, ⟨i1, i2, i3, i4, i5⟩, ⟨u1, u2, u3, u4, u5, u6⟩, v1, v2, r1, r2, x1, x2, t1, t2, t3, t4, t5, hs, hl⟩
          have hxA : X' k = P1.getD k 0 := HX.out k
          have hyB : Y' k = P2.getD k 0 := HY.out k
          generalize X' k = xx at hxA ⊢
          generalize Y' k = yy at hyB ⊢
          have hkL : k < Lb := by rw [← HLX.out.1]; exact hk
          have hkI : (k : Int) < (Lb : Int) := by omega
          have hk0 : (0 : Int) ≤ (k : Int) := by omega
          have hk9 : (k : Int) ≤ 1048578 := by have := HLB9.out; omega
          have hxx : xx < 18446744073709551616 := by rw [hxA]; exact getD_fits HLX.out.2.1 k
          have hyy : yy < 18446744073709551616 := by rw [hyB]; exact getD_fits HLX.out.2.2.2 k
          have v1' := v1
          have v2' := v2
          have HI := Lib.hid (And.intro i1 (And.intro i2 (And.intro i3 (And.intro i4 i5))))
          have HV := Lib.hid (And.intro v1 v2)
          have HXY := Lib.hid (And.intro hxA hyB)
          have hbx := hs
          clear hxA hyB v1 v2 v1' v2' i1 i2 i3 i4 i5 hk
          gi_wp2
          refine wpIn_region_calmT (fun w' => w'.cell? ⟨z, 0, none⟩ = some (.slice (some ⟨ga, 0, none⟩) Lb ca) ∧ w'.cell? ⟨z + 1, 0, none⟩ = some (.slice (some ⟨gb, 0, none⟩) Lb cb) ∧ w'.cell? ⟨q, 0, none⟩ = some (.int .i64 (k : Int)))
            [.yes 0, .yes 1, .yes 2, .yes 3, .yes 4, .yes 5, .yes 7, .yes 8, .no 6, .no 9, .yes 10, .no 11, .yes 12, .no 13] 13 (by kernel_rfl) (by kernel_rfl) (by kernel_rfl) rfl (by kernel_rfl) (by kernel_rfl) ?_
          have hS : W.drew.cell? ⟨z, 0, none⟩ = some (.slice (some ⟨ga, 0, none⟩) Lb ca) ∧ W.drew.cell? ⟨z + 1, 0, none⟩ = some (.slice (some ⟨gb, 0, none⟩) Lb cb) ∧ W.drew.cell? ⟨q, 0, none⟩ = some (.int .i64 (k : Int)) := ⟨t1.1, t2.1, t3.1⟩
          repeat (refine walkT_yes rfl hS rfl (fun w' hw' => by obtain ⟨q0, q1, q2⟩ := hw'; go_simp; rfl) ?_; simp only [Act.put, List.setIfInBounds_toArray, List.set_cons_zero, List.set_cons_succ])
          refine walkT_no rfl rfl (fun K hK => ?_)
          go_simp
          have hM4 := HM.out
          refine (mix_any g9 xx yy LA LB e1 o1 b1 W.drew hxx hyy (by omega) (by omega) u1 u2 u3 x1).mono ?_
          rintro e W1 ⟨ra, e1', o1', b1', rfl, ha1, ha2, ha3, ha4, haM, hxa, hga1⟩
          have hN := HG.out
          have hNQ := HQB.out
          have hPZ := HPZ.out
          have hGA := HGA.out
          have hne12 : gb ≠ ga := Ne.symm HH.out.2.2.2.1
          have T1 : Box W1 z (.slice (some ⟨ga, 0, none⟩) Lb ca) := t1.drew.of_block (hga1.block z t1.lt (fun e => by cases e; omega))
          have T2 : Box W1 (z + 1) (.slice (some ⟨gb, 0, none⟩) Lb cb) := t2.drew.of_block (hga1.block (z + 1) t2.lt (fun e => by cases e; omega))
          have T3 : Box W1 q (.int .i64 (k : Int)) := t3.drew.of_block (hga1.block q t3.lt (fun e => by cases e; omega))
          have X1 : Mx W1 g10 NB NA e2 o2 b2 := x2.of_block (hga1.block g10 x2.lt (fun e => by cases e; omega))
          have A1 := r1.of_block (hga1.block ga r1.seg.2.2.2.2.2.block (fun e => by cases e; omega))
          have A2 := r2.of_block (hga1.block gb r2.seg.2.2.2.2.2.block (fun e => by cases e; omega))
          refine hK _ W1 (fun _ => ⟨T1.1, T2.1, T3.1⟩) ?_
          clear hK K
          refine walkT_no rfl rfl (fun K hK => ?_)
          go_simp
          refine (mix_any g10 yy xx NB NA e2 o2 b2 W1 hyy hxx (by omega) (by omega) u4 u5 u6 X1).mono ?_
          rintro e W2 ⟨rb, e2', o2', b2', rfl, hb1, hb2, hb3, hb4, hbM, hxb, hgb1⟩
          have U1 : Box W2 z (.slice (some ⟨ga, 0, none⟩) Lb ca) := T1.of_block (hgb1.block z T1.lt (fun e => by cases e; omega))
          have U2 : Box W2 (z + 1) (.slice (some ⟨gb, 0, none⟩) Lb cb) := T2.of_block (hgb1.block (z + 1) T2.lt (fun e => by cases e; omega))
          have U3 : Box W2 q (.int .i64 (k : Int)) := T3.of_block (hgb1.block q T3.lt (fun e => by cases e; omega))
          have Y1 : Mx W2 g9 LA LB e1' o1' b1' := hxa.of_block (hgb1.block g9 hxa.lt (fun e => by cases e; omega))
          have B1 := A1.of_block (hgb1.block ga A1.seg.2.2.2.2.2.block (fun e => by cases e; omega))
          have B2 := A2.of_block (hgb1.block gb A2.seg.2.2.2.2.2.block (fun e => by cases e; omega))
          refine hK _ W2 (fun _ => ⟨U1.1, U2.1, U3.1⟩) ?_
          clear hK K
          have hl1 : k < (O1 ++ P1.drop k).length := by rw [List.length_append, List.length_drop, HI.out.1, HLX.out.1]; omega
          have hl2 : k < (O2 ++ P2.drop k).length := by rw [List.length_append, List.length_drop, HI.out.2.1, HLX.out.2.2.1]; omega
          have cc1 := B1.seg.2.2.2.2.2.cell hl1
          have cf1 := B1.seg.2.2.2.2.2.frozen k
          rw [Nat.zero_add] at cc1
          have hS2 : W2.cell? ⟨z, 0, none⟩ = some (.slice (some ⟨ga, 0, none⟩) Lb ca) ∧ W2.cell? ⟨z + 1, 0, none⟩ = some (.slice (some ⟨gb, 0, none⟩) Lb cb) ∧ W2.cell? ⟨q, 0, none⟩ = some (.int .i64 (k : Int)) := ⟨U1.1, U2.1, U3.1⟩
          refine walkT_yes rfl hS2 rfl (fun w' hw' => by obtain ⟨q0, q1, q2⟩ := hw'; go_simp; rfl) ?_
          simp only [Act.put, List.setIfInBounds_toArray, List.set_cons_zero, List.set_cons_succ]
          refine walkT_no rfl rfl (fun K hK => ?_)
          go_simp
          obtain ⟨W3, hW3⟩ : ∃ W3, W3 = W2.setCell ⟨ga, k, none⟩ (.int .u64 (ra : Int)) := ⟨_, rfl⟩
          have V1 : Box W3 z (.slice (some ⟨ga, 0, none⟩) Lb ca) := by rw [hW3]; exact U1.other (p := ⟨ga, k, none⟩) (by show ga ≠ z; omega) _
          have V2 : Box W3 (z + 1) (.slice (some ⟨gb, 0, none⟩) Lb cb) := by rw [hW3]; exact U2.other (p := ⟨ga, k, none⟩) (by show ga ≠ z + 1; omega) _
          have V3 : Box W3 q (.int .i64 (k : Int)) := by rw [hW3]; exact U3.other (p := ⟨ga, k, none⟩) (by show ga ≠ q; omega) _
          have C1 := B1.setAt (x := ra) hl1
          rw [← hW3] at C1
          have C2 : NRow B W3 (.slice (some ⟨gb, 0, none⟩) Lb cb) (O2 ++ P2.drop k) := by rw [hW3]; exact B2.of_block (Below.heap_setCell _ ⟨ga, k, none⟩ _ _ (fun e => hne12 (by simpa using e)))
          have cc2 := C2.seg.2.2.2.2.2.cell hl2
          have cf2 := C2.seg.2.2.2.2.2.frozen k
          rw [Nat.zero_add] at cc2
          have hS3 : W3.cell? ⟨z, 0, none⟩ = some (.slice (some ⟨ga, 0, none⟩) Lb ca) ∧ W3.cell? ⟨z + 1, 0, none⟩ = some (.slice (some ⟨gb, 0, none⟩) Lb cb) ∧ W3.cell? ⟨q, 0, none⟩ = some (.int .i64 (k : Int)) := ⟨V1.1, V2.1, V3.1⟩
          rw [← hW3]
          refine hK _ W3 (fun _ => hS3) ?_
          have HW3 := Lib.hid hW3
          clear hK K hW3
          refine walkT_yes rfl hS3 rfl (fun w' hw' => by obtain ⟨q0, q1, q2⟩ := hw'; go_simp; rfl) ?_
          simp only [Act.put, List.setIfInBounds_toArray, List.set_cons_zero, List.set_cons_succ]
          refine walkT_no rfl rfl (fun K hK => ?_)
          go_simp
          obtain ⟨W4, hW4⟩ : ∃ W4, W4 = W3.setCell ⟨gb, k, none⟩ (.int .u64 (rb : Int)) := ⟨_, rfl⟩
          have Z1 : Box W4 z (.slice (some ⟨ga, 0, none⟩) Lb ca) := by rw [hW4]; exact V1.other (p := ⟨gb, k, none⟩) (by show gb ≠ z; omega) _
          have Z2 : Box W4 (z + 1) (.slice (some ⟨gb, 0, none⟩) Lb cb) := by rw [hW4]; exact V2.other (p := ⟨gb, k, none⟩) (by show gb ≠ z + 1; omega) _
          have Z3 : Box W4 q (.int .i64 (k : Int)) := by rw [hW4]; exact V3.other (p := ⟨gb, k, none⟩) (by show gb ≠ q; omega) _
          have D2 := C2.setAt (x := rb) hl2
          rw [← hW4] at D2 ⊢
          have D1 : NRow B W4 (.slice (some ⟨ga, 0, none⟩) Lb ca) ((O1 ++ P1.drop k).set k ra) := by rw [hW4]; exact C1.of_block (Below.heap_setCell _ ⟨gb, k, none⟩ _ _ (fun e => hne12 (by simpa using e.symm)))
          have E1 : Mx W4 g9 LA LB e1' o1' b1' := by rw [hW4, HW3.out]; exact (Y1.other (q := ⟨ga, k, none⟩) (by show ga ≠ g9; omega) _).other (q := ⟨gb, k, none⟩) (by show gb ≠ g9; omega) _
          have E2 : Mx W4 g10 NB NA e2' o2' b2' := by rw [hW4, HW3.out]; exact (hxb.other (q := ⟨ga, k, none⟩) (by show ga ≠ g10; omega) _).other (q := ⟨gb, k, none⟩) (by show gb ≠ g10; omega) _
          have hke : KeepsFrom W0.heap.size W W4 := by
            have h1 : KeepsFrom W0.heap.size W W2 := keeps_grown (keeps_grown (keeps_drew (KeepsFrom.refl _ W)) hga1 (by rw [HSZ.out]; omega)) hgb1 (by rw [HSZ.out]; omega)
            rw [hW4, HW3.out]
            exact keeps_set (keeps_set h1 _ _) _ _
          have S4 : Box W4 (q + 1) (.slice (some ⟨ga, 0, none⟩) Lb ca) := by
            rw [hW4, HW3.out]
            exact ((((t4.drew.of_block (hga1.block (q + 1) t4.lt (fun e => by cases e; omega))).of_block (hgb1.block (q + 1) (Nat.lt_of_lt_of_le t4.lt hga1.size) (fun e => by cases e; omega))).other (p := ⟨ga, k, none⟩) (by show ga ≠ q + 1; omega) _).other (p := ⟨gb, k, none⟩) (by show gb ≠ q + 1; omega) _)
          have S5 : Box W4 (q + 2) (.slice (some ⟨gb, 0, none⟩) Lb cb) := by
            rw [hW4, HW3.out]
            exact ((((t5.drew.of_block (hga1.block (q + 2) t5.lt (fun e => by cases e; omega))).of_block (hgb1.block (q + 2) (Nat.lt_of_lt_of_le t5.lt hga1.size) (fun e => by cases e; omega))).other (p := ⟨ga, k, none⟩) (by show ga ≠ q + 2; omega) _).other (p := ⟨gb, k, none⟩) (by show gb ≠ q + 2; omega) _)
          have hsz4 : q + 3 ≤ W4.heap.size := by
            rw [hW4, HW3.out, size_set, size_set]
            exact Nat.le_trans hs (Nat.le_trans hga1.size hgb1.size)
          have hl4 : Below B w W4 := by
            have h1 := (hl.drew).grown hga1 (Nat.le_trans (Nat.le_trans (show B ≤ w.heap.size from HH.out.2.2.2.2) hl.size) (Nat.le_refl _)) (fun g hg => by cases hg; omega)
            have h2 := h1.grown hgb1 (Nat.le_trans HH.out.2.2.2.2 h1.size) (fun g hg => by cases hg; omega)
            rw [hW4, HW3.out]
            exact (h2.setCell (p := ⟨ga, k, none⟩) (by show B ≤ ga; omega) _).setCell (p := ⟨gb, k, none⟩) (by show B ≤ gb; omega) _
          have HKE := Lib.hid hke
          have HD := Lib.hid (And.intro D1 D2)
          have HE := Lib.hid (And.intro E1 E2)
          have HZZ := Lib.hid (And.intro Z1 (And.intro Z2 (And.intro Z3 (And.intro S4 (And.intro S5 (And.intro hsz4 hl4))))))
          have HR1 := Lib.hid (And.intro ha1 (And.intro ha2 (And.intro ha3 (And.intro ha4 haM))))
          have HR2 := Lib.hid (And.intro hb1 (And.intro hb2 (And.intro hb3 (And.intro hb4 hbM))))
          have zc := Z3.1
          have zf := Z3.2
          refine hK _ W4 (fun h => absurd h (by decide)) ?_
          clear hK K hW4 cc1 cf1 cc2 cf2 hS hS2 hS3 A1 A2 B1 B2 C1 C2 D1 D2 E1 E2 Y1 X1 U1 U2 U3 V1 V2 V3 T1 T2 T3 hxa hxb hga1 hgb1 haM hbM hke S4 S5 hsz4 hl4 Z1 Z2 Z3
          simp only [walkT]
          refine ⟨rfl, ?_⟩
          gi_wp2
          have hI := HI.out
          have hR1 := HR1.out
          have hR2 := HR2.out
          have hZ := HZZ.out
          have hNQ := HQB.out
          have hGA := HGA.out
          have hN := HG.out
          have hP : 2 ^ (64 * (k + 1)) = 2 ^ (64 * k) * 18446744073709551616 := by rw [show 64 * (k + 1) = 64 * k + 64 by omega, Nat.pow_add]
          have q1 := mix_step HV.out.1 hR1.2.2.2.2
          have q2 := mix_step HV.out.2 hR2.2.2.2.2
          have w1 := lv_take_succ' P1 k
          have w2 := lv_take_succ' P2 k
          rw [← HXY.out.1] at w1
          rw [← HXY.out.2] at w2
          have hkP1 : k < P1.length := by rw [HLX.out.1]; exact hkL
          have hkP2 : k < P2.length := by rw [HLX.out.2.2.1]; exact hkL
          have w3 := set_mid (x := ra) hI.1 hkP1
          have w4 := set_mid (x := rb) hI.2.1 hkP2
          have hD1 := HD.out.1
          have hD2 := HD.out.2
          rw [w3] at hD1
          rw [w4] at hD2
          refine ⟨keeps_set HKE.out _ _, O1 ++ [ra], O2 ++ [rb], e1', o1', b1', e2', o2', b2', ⟨by rw [List.length_append, hI.1]; rfl, by rw [List.length_append, hI.2.1]; rfl, hkL, fits_snoc hI.2.2.2.1 hR1.1, fits_snoc hI.2.2.2.2 hR2.1⟩, ⟨hR1.2.1, hR1.2.2.1, hR1.2.2.2.1, hR2.2.1, hR2.2.2.1, hR2.2.2.2.1⟩, ?_, ?_,
            hD1.of_block (Below.heap_setCell _ ⟨q, 0, none⟩ _ _ (by show ga ≠ q; omega)), hD2.of_block (Below.heap_setCell _ ⟨q, 0, none⟩ _ _ (by show gb ≠ q; omega)), HE.out.1.other (q := ⟨q, 0, none⟩) (by show q ≠ g9; omega) _, HE.out.2.other (q := ⟨q, 0, none⟩) (by show q ≠ g10; omega) _,
            hZ.1.other (p := ⟨q, 0, none⟩) (by show q ≠ z; omega) _, hZ.2.1.other (p := ⟨q, 0, none⟩) (by show q ≠ z + 1; omega) _, hZ.2.2.1.set _, hZ.2.2.2.1.other (p := ⟨q, 0, none⟩) (by show q ≠ q + 1; omega) _, hZ.2.2.2.2.1.other (p := ⟨q, 0, none⟩) (by show q ≠ q + 2; omega) _,
            by rw [size_set]; exact hZ.2.2.2.2.2.1, hZ.2.2.2.2.2.2.setCell (p := ⟨q, 0, none⟩) (by show B ≤ q; omega) _⟩
          · rw [lv_snoc, hI.1, w1, w2, hP]; exact q1
          · rw [lv_snoc, hI.2.1, w1, w2, hP]; exact q2
        case done =>
          rintro D W hD ⟨O1, O2, e1, o1, b1, e2, o2, b2, ⟨i1, i2, i3, i4, i5⟩, ⟨u1, u2, u3, u4, u5, u6⟩, v1, v2, r1, r2, x1, x2, t1, t2, t3, t4, t5, hs, hl⟩ hK
          have e0 := HLX.out.1
          rw [e0] at i1 i2 i3 v1 v2 r1 r2 t3
          have hd1 : P1.drop Lb = [] := List.drop_eq_nil_of_le (Nat.le_of_eq HLX.out.1)
          have hd2 : P2.drop Lb = [] := List.drop_eq_nil_of_le (Nat.le_of_eq HLX.out.2.2.1)
          rw [hd1, List.append_nil] at r1
          rw [hd2, List.append_nil] at r2
          rw [List.take_of_length_le (Nat.le_of_eq HLX.out.1), List.take_of_length_le (Nat.le_of_eq HLX.out.2.2.1)] at v1 v2
          have hM := HM.out
          have hyl : y < 2 ^ (64 * Lb) := by have := lv_lt (nrow_fits y); rw [lv_nrow, ← HL.out.2.1] at this; exact this
          have hsp := lv_split (nrow x) (k := Lb) (by rw [← HL.out.1]; exact hM.2.2.2.2.2.2.2.2.2)
          rw [lv_nrow] at hsp
          obtain ⟨h, hh⟩ : ∃ h, h = lv ((nrow x).drop Lb) := ⟨_, rfl⟩
          obtain ⟨XT, hXT⟩ : ∃ XT, XT = lv ((nrow x).take Lb) := ⟨_, rfl⟩
          rw [← hh, ← hXT] at hsp
          have hP1v : lv P1 = XT := by rw [HPP.out.1]; exact hXT.symm
          have hP2v : lv P2 = y := by rw [HPP.out.2]; exact lv_nrow y
          rw [hP1v, hP2v] at v1 v2
          have hO1 : lv O1 < 2 ^ (64 * Lb) := by rw [← i1]; exact lv_lt i4
          have hO2 : lv O2 < 2 ^ (64 * Lb) := by rw [← i2]; exact lv_lt i5
          have z1 : lv O1 = Lt := mix_done (u := LA * h) (v := 0) v1 (by
            have h9 := hM.2.2.2.2.2.1
            rw [hsp] at h9
            simp only [dl] at h9
            have : ((LA * XT + 2 ^ (64 * Lb) * (LA * h) : Nat) : Int) = ((Lt + LB * y + 2 ^ (64 * Lb) * (0) : Nat) : Int) := by push_cast at h9 ⊢; grind
            exact_mod_cast this) hO1 (Nat.lt_of_le_of_lt hM.2.2.2.2.2.2.2.1 hyl)
          have z2 : lv O2 = X := mix_done (u := 0) (v := NA * h) v2 (by
            have h9 := hM.2.2.2.2.1
            rw [hsp] at h9
            simp only [dl] at h9
            have : ((NB * y + 2 ^ (64 * Lb) * (0) : Nat) : Int) = ((X + NA * XT + 2 ^ (64 * Lb) * (NA * h) : Nat) : Int) := by push_cast at h9 ⊢; grind
            exact_mod_cast this) hO2 (Nat.lt_of_lt_of_le hM.2.2.2.2.2.2.1 (Nat.le_of_lt (Nat.lt_of_le_of_lt hM.2.2.2.2.2.2.2.1 hyl)))
          have f1 := r1.seg
          have f2 := r2.seg
          have A1 : NRow B W (.slice (some ⟨ga, 0, none⟩) O1.length ca) O1 := by rw [i1]; exact r1
          have A2 : NRow B W (.slice (some ⟨gb, 0, none⟩) O2.length cb) O2 := by rw [i2]; exact r2
          have N1 := A1.norm i4
          have N2 := A2.norm i5
          rw [z1] at N1
          rw [z2] at N2
          have tr1 := trim_any (some ⟨ga, 0, none⟩) ca O1 W.drew (by rw [i1]; have := HLB9.out; omega) (by rw [i1]; have := f1.2.2.2.1; omega) i4 f1.2.2.2.2.2.natAt
          have tr2 := trim_any (some ⟨gb, 0, none⟩) cb O2 W.drew (by rw [i2]; have := HLB9.out; omega) (by rw [i2]; have := f2.2.2.2.1; omega) i5 f2.2.2.2.2.2.natAt
          rw [i1, z1] at tr1
          rw [i2, z2] at tr2
          have TR1 := Lib.hid tr1
          have TR2 := Lib.hid tr2
          have HN12 := Lib.hid (And.intro N1 N2)
          have HLW := Lib.hid (And.intro hl hs)
          have hS : W.drew.cell? ⟨z, 0, none⟩ = some (.slice (some ⟨ga, 0, none⟩) Lb ca) ∧ W.drew.cell? ⟨z + 1, 0, none⟩ = some (.slice (some ⟨gb, 0, none⟩) Lb cb) := ⟨t1.1, t2.1⟩
          clear e0 i1 i2 i3 i4 i5 u1 u2 u3 u4 u5 u6 v1 v2 r1 r2 x1 x2 t1 t2 t3 t4 t5 hs hl hd1 hd2 hM hyl hsp hh hXT hP1v hP2v hO1 hO2 z1 z2 f1 f2 A1 A2 N1 N2 tr1 tr2
          gi_wp2_with fail
          refine wpIn_region_wideT (fun w' => w'.cell? ⟨z, 0, none⟩ = some (.slice (some ⟨ga, 0, none⟩) Lb ca) ∧ w'.cell? ⟨z + 1, 0, none⟩ = some (.slice (some ⟨gb, 0, none⟩) Lb cb))
            [.yes 0, .yes 2, .no 1, .no 3, .yes 4, .yes 5] 6 (by kernel_rfl) (by kernel_rfl) rfl (by kernel_rfl) (by kernel_rfl) ?_
          repeat (refine walkT_yes rfl hS rfl (fun w' hw' => by obtain ⟨q0, q1⟩ := hw'; go_simp; rfl) ?_; simp only [Act.put, List.setIfInBounds_toArray, List.set_cons_zero, List.set_cons_succ])
          refine walkT_no rfl rfl (fun K hK2 => ?_)
          go_simp
          refine TR1.out.mono ?_
          rintro e w' ⟨rfl, rfl⟩
          refine hK2 _ _ (fun _ => hS) ?_
          clear hK2 K
          refine walkT_no rfl rfl (fun K hK2 => ?_)
          go_simp
          refine TR2.out.mono ?_
          rintro e w' ⟨rfl, rfl⟩
          refine hK2 _ _ (fun _ => hS) ?_
          clear hK2 K
          repeat (refine walkT_yes rfl hS rfl (fun w' hw' => by obtain ⟨q0, q1⟩ := hw'; go_simp; rfl) ?_; simp only [Act.put, List.setIfInBounds_toArray, List.set_cons_zero, List.set_cons_succ])
          simp only [walkT]
          refine ⟨rfl, ?_⟩
          gi_wp2_with fail
          have hsW : W0.heap.size ≤ W.drew.heap.size := by rw [HSZ.out]; exact HLW.out.2
          have b1 : Below W0.heap.size W.drew (W.drew.putObj D (.deferred none)) := below_putObj W.drew D _ hD hsW
          have hM := HM.out
          have hNQ := HQB.out
          have hGA := HGA.out
          refine ⟨by simp, .inl ⟨_, _, rfl, run_takeDeferred (show W.drew.heap[D]? = _ from hK), ?_⟩⟩
          refine ⟨_, results_tmp2 rfl _ _ _, ?_⟩
          refine ⟨_, _, Lt, X, rfl, hM.2.2.2.2.2.2.2.2.1, Nat.le_of_lt hM.2.2.2.2.2.2.1, Nat.le_trans hM.2.2.2.2.2.2.2.1 HH.out.2.1, Nat.lt_of_lt_of_le hM.2.2.2.2.2.2.1 hM.2.2.2.2.2.2.2.1, ?_, ?_, ?_, ?_⟩
          · exact HN12.out.1.of_block (b1.block ga (by rw [HSZ.out]; omega))
          · exact HN12.out.2.of_block (b1.block gb (by rw [HSZ.out]; omega))
          · intro e
            have e' : (Value.slice (some ⟨ga, 0, none⟩) (nrow Lt).length ca).ownBlock = (Value.slice (some ⟨gb, 0, none⟩) (nrow X).length cb).ownBlock := e
            have hne12 : gb ≠ ga := Ne.symm HH.out.2.2.2.1
            exact hne12 (by simpa [Value.ownBlock] using e'.symm)
          · exact (HLW.out.1.drew).trans (b1.mono (by rw [HSZ.out]; omega))
        case stop =>
          rintro D k W _ _ h _
          exact h.elim
    · gi_wp2_with fail
      rw [← hp, ← hw5]
      obtain ⟨v6, hv6⟩ : ∃ v6, v6 = w5.setCell ⟨z, 0, none⟩ (.slice (some ⟨ga, 0, none⟩) Lb ca) := ⟨_, rfl⟩
      have hsv : Sx v6 p true LA LB NA NB := by rw [hv6]; exact HSX6.out
      have hbv : Below w.heap.size w v6 := by rw [hv6]; exact HBE5.out.setCell (by show w.heap.size ≤ z; exact Nat.le_of_eq HZ.out.1.symm) _
      have c0v : Box v6 z (.slice (some ⟨ga, 0, none⟩) Lb ca) := by rw [hv6]; exact HC0.out.set _
      have c1v : Box v6 (z + 1) (.slice (some ⟨gb, 0, none⟩) Lb cb) := by rw [hv6]; exact HC1.out.other (p := ⟨z, 0, none⟩) (by show z ≠ z + 1; omega) _
      rw [← hv6]
      have HPQ := Lib.hid (And.intro hp (And.intro hw5 hv6))
      clear hp hw5 hv6 d0 d1 d2 d3 e0 e1 e2 e3 k0 k1 k2 k3 k4 f0 f1 f2 f3 f4 q0 q1 q2 q3 q4
      have hS0 : v6.drew.cell? ⟨z, 0, none⟩ = some (.slice (some ⟨ga, 0, none⟩) Lb ca) ∧ v6.drew.cell? ⟨z + 1, 0, none⟩ = some (.slice (some ⟨gb, 0, none⟩) Lb cb) ∧ v6.drew.cell? ⟨p, 0, none⟩ = some (.bool true) ∧ v6.drew.cell? ⟨p, 1, none⟩ = some (.int .u64 (LA : Int)) ∧ v6.drew.cell? ⟨p, 2, none⟩ = some (.int .u64 (LB : Int)) ∧ v6.drew.cell? ⟨p, 3, none⟩ = some (.int .u64 (NA : Int)) ∧ v6.drew.cell? ⟨p, 4, none⟩ = some (.int .u64 (NB : Int)) := ⟨c0v.1, c1v.1, hsv.cell⟩
      refine wpIn_region_wideT (fun w' => w'.cell? ⟨z, 0, none⟩ = some (.slice (some ⟨ga, 0, none⟩) Lb ca) ∧ w'.cell? ⟨z + 1, 0, none⟩ = some (.slice (some ⟨gb, 0, none⟩) Lb cb) ∧ w'.cell? ⟨p, 0, none⟩ = some (.bool true) ∧ w'.cell? ⟨p, 1, none⟩ = some (.int .u64 (LA : Int)) ∧ w'.cell? ⟨p, 2, none⟩ = some (.int .u64 (LB : Int)) ∧ w'.cell? ⟨p, 3, none⟩ = some (.int .u64 (NA : Int)) ∧ w'.cell? ⟨p, 4, none⟩ = some (.int .u64 (NB : Int)))
        [.yes 0, .yes 1, .yes 2, .no 3, .no 4, .no 5, .no 6] 4 (by kernel_rfl) (by kernel_rfl) rfl (by kernel_rfl) (by kernel_rfl) ?_
      repeat (refine walkT_yes rfl hS0 rfl (fun w' hw' => by obtain ⟨r0, r1, r2, r3, r4, r5, r6⟩ := hw'; go_simp; rfl) ?_; simp only [Act.put, List.setIfInBounds_toArray, List.set_cons_zero, List.set_cons_succ])
      refine walkT_no rfl rfl (fun K hK => ?_)
      go_simp
      refine (swapped_any true LA LB NA NB v6.drew).mono ?_
      rintro e v7 ⟨rfl, hb7⟩
      have hb7' : Below v6.heap.size v6 v7 := ((Below.refl v6.heap.size v6).drew).trans hb7
      have c07 := c0v.below hb7' c0v.lt
      have c17 := c1v.below hb7' c1v.lt
      have hs7 : Sx v7 p true LA LB NA NB := hsv.of_block (hb7'.block p hsv.lt)
      have hbv7 : Below w.heap.size w v7 := hbv.trans (hb7'.mono hbv.size)
      refine hK _ v7 (fun _ => ⟨c07.1, c17.1, hs7.cell⟩) ?_
      clear hK K hS0 hb7 hb7' c0v c1v hsv hbv
      have d0 := c07.1
      have d1 := c07.2
      refine walkT_no rfl rfl (fun K hK => ?_)
      go_simp
      obtain ⟨v8, hv8⟩ : ∃ v8, v8 = v7.setCell ⟨z, 0, none⟩ (.slice (some ⟨gb, 0, none⟩) Lb cb) := ⟨_, rfl⟩
      have c08 : Box v8 z (.slice (some ⟨gb, 0, none⟩) Lb cb) := by rw [hv8]; exact c07.set _
      have c18 : Box v8 (z + 1) (.slice (some ⟨gb, 0, none⟩) Lb cb) := by rw [hv8]; exact c17.other (p := ⟨z, 0, none⟩) (by show z ≠ z + 1; omega) _
      have hpz := HPZ.out
      have hzz : w.heap.size ≤ z := Nat.le_of_eq HZ.out.1.symm
      have hs8 : Sx v8 p true LA LB NA NB := by rw [hv8]; exact hs7.other (q := ⟨z, 0, none⟩) (by show z ≠ p; omega) _
      have hbv8 : Below w.heap.size w v8 := by rw [hv8]; exact hbv7.setCell (p := ⟨z, 0, none⟩) hzz _
      rw [← hv8]
      refine hK _ v8 (fun h => absurd h (by decide)) ?_
      clear hK K hv8 d0 d1 c07 c17 hs7 hbv7
      have d0 := c18.1
      have d1 := c18.2
      refine walkT_no rfl rfl (fun K hK => ?_)
      go_simp
      obtain ⟨v9, hv9⟩ : ∃ v9, v9 = v8.setCell ⟨z + 1, 0, none⟩ (.slice (some ⟨ga, 0, none⟩) Lb ca) := ⟨_, rfl⟩
      have c09 : Box v9 z (.slice (some ⟨gb, 0, none⟩) Lb cb) := by rw [hv9]; exact c08.other (p := ⟨z + 1, 0, none⟩) (by show z + 1 ≠ z; omega) _
      have c19 : Box v9 (z + 1) (.slice (some ⟨ga, 0, none⟩) Lb ca) := by rw [hv9]; exact c18.set _
      have hs9 : Sx v9 p true LA LB NA NB := by rw [hv9]; exact hs8.other (q := ⟨z + 1, 0, none⟩) (by show z + 1 ≠ p; omega) _
      have hbv9 : Below w.heap.size w v9 := by rw [hv9]; exact hbv8.setCell (p := ⟨z + 1, 0, none⟩) (by show w.heap.size ≤ z + 1; omega) _
      rw [← hv9]
      refine hK _ v9 (fun h => absurd h (by decide)) ?_
      clear hK K hv9 d0 d1 c08 c18 hs8 hbv8
      obtain ⟨⟨a0, b0⟩, ⟨a1, b1⟩, ⟨a2, b2⟩, ⟨a3, b3⟩, ⟨a4, b4⟩, hfin⟩ := hs9.fill (odd := false) (LA := LB) (LB := LA) (NA := NB) (NB := NA)
      refine walkT_no rfl rfl (fun K hK => ?_)
      go_simp
      obtain ⟨w6, hw6⟩ : ∃ w6, w6 = (((((v9.setCell ⟨p, 0, none⟩ (.bool false)).setCell ⟨p, 1, none⟩ (.int .u64 (LB : Int))).setCell ⟨p, 2, none⟩ (.int .u64 (LA : Int))).setCell ⟨p, 3, none⟩ (.int .u64 (NB : Int))).setCell ⟨p, 4, none⟩ (.int .u64 (NA : Int))) := ⟨_, rfl⟩
      rw [← hw6] at hfin ⊢
      have hs6 := hfin
      have hpz0 : p ≠ z := by omega
      have hpz1 : p ≠ z + 1 := by omega
      have hpw : w.heap.size ≤ p := by omega
      have c06 : Box w6 z (.slice (some ⟨gb, 0, none⟩) Lb cb) := by rw [hw6]; exact (((((c09.other (p := ⟨p, 0, none⟩) hpz0 _).other (p := ⟨p, 1, none⟩) hpz0 _).other (p := ⟨p, 2, none⟩) hpz0 _).other (p := ⟨p, 3, none⟩) hpz0 _).other (p := ⟨p, 4, none⟩) hpz0 _)
      have c16 : Box w6 (z + 1) (.slice (some ⟨ga, 0, none⟩) Lb ca) := by rw [hw6]; exact (((((c19.other (p := ⟨p, 0, none⟩) hpz1 _).other (p := ⟨p, 1, none⟩) hpz1 _).other (p := ⟨p, 2, none⟩) hpz1 _).other (p := ⟨p, 3, none⟩) hpz1 _).other (p := ⟨p, 4, none⟩) hpz1 _)
      have hb6 : Below w.heap.size w w6 := by rw [hw6]; exact (((((hbv9.setCell (p := ⟨p, 0, none⟩) hpw _).setCell (p := ⟨p, 1, none⟩) hpw _).setCell (p := ⟨p, 2, none⟩) hpw _).setCell (p := ⟨p, 3, none⟩) hpw _).setCell (p := ⟨p, 4, none⟩) hpw _)
      refine hK _ w6 (fun h => absurd h (by decide)) ?_
      clear hK K hw6 hfin a0 b0 a1 b1 a2 b2 a3 b3 a4 b4 c09 c19 hs9 hbv9 hpz0 hpz1 hpw hpz hzz
      simp only [walkT]
      refine ⟨rfl, ?_⟩
      gi_wp2_with fail
      obtain ⟨j0, j1, j2, j3, j4⟩ := hs6.cell
      refine wpIn_region_wideT (fun w' => w'.cell? ⟨p, 1, none⟩ = some (.int .u64 (LB : Int)) ∧ w'.cell? ⟨p, 2, none⟩ = some (.int .u64 (LA : Int)) ∧ w'.cell? ⟨p, 3, none⟩ = some (.int .u64 (NB : Int)) ∧ w'.cell? ⟨p, 4, none⟩ = some (.int .u64 (NA : Int)))
        [.yes 0, .yes 1, .yes 2, .yes 3, .yes 4, .yes 5, .yes 6, .yes 7, .yes 8, .yes 9, .two 10 11, .no 12, .no 13] 13 (by kernel_rfl) (by kernel_rfl) rfl (by kernel_rfl) (by kernel_rfl) ?_
      have hS : w6.drew.cell? ⟨p, 1, none⟩ = some (.int .u64 (LB : Int)) ∧ w6.drew.cell? ⟨p, 2, none⟩ = some (.int .u64 (LA : Int)) ∧ w6.drew.cell? ⟨p, 3, none⟩ = some (.int .u64 (NB : Int)) ∧ w6.drew.cell? ⟨p, 4, none⟩ = some (.int .u64 (NA : Int)) := ⟨j1, j2, j3, j4⟩
      repeat (refine walkT_yes rfl hS rfl (fun w' hw' => by obtain ⟨r0, r1, r2, r3⟩ := hw'; go_simp; rfl) ?_; simp only [Act.put, List.setIfInBounds_toArray, List.set_cons_zero, List.set_cons_succ])
      refine walkT_two rfl rfl (by decide) rfl rfl (fun K hK => ?_) (fun K hK => ?_)
      · skip
        go_simp
        obtain ⟨g9, hg9⟩ : ∃ g9, g9 = w6.heap.size := ⟨_, rfl⟩
        obtain ⟨w7, hw7⟩ : ∃ w7, w7 = (w6.alloc (.cells #[.int .u64 0, .int .u64 0, .int .u64 0, .int .u64 0, .int .u64 0] 137)).drew := ⟨_, rfl⟩
        have hs7 : Sx w7 p false LB LA NB NA := by rw [hw7]; exact Sx.drew (hs6.of_block (Below.heap_alloc _ _ _ hs6.lt))
        have hm7 : Mx w7 g9 0 0 0 0 0 := by rw [hw7, hg9]; exact heap_alloc_new _ _
        have hb7 : Below w6.heap.size w6 w7 := by rw [hw7]; exact ((Below.refl _ _).alloc (Nat.le_refl _) _).drew
        rw [← hg9, ← hw7]
        have HF := Lib.hid hg9
        refine hK _ w7 (fun _ => ⟨hs7.cell.2.1, hs7.cell.2.2.1, hs7.cell.2.2.2.1, hs7.cell.2.2.2.2⟩) rfl (fun K' hK' => ?_)
        clear hK K hw7 hg9
        go_simp
        obtain ⟨g10, hg10⟩ : ∃ g10, g10 = w7.heap.size := ⟨_, rfl⟩
        obtain ⟨w8, hw8⟩ : ∃ w8, w8 = w7.alloc (.cells #[.int .u64 0, .int .u64 0, .int .u64 0, .int .u64 0, .int .u64 0] 137) := ⟨_, rfl⟩
        have hs8 : Sx w8 p false LB LA NB NA := by rw [hw8]; exact hs7.of_block (Below.heap_alloc _ _ _ hs7.lt)
        have hm_g9 : Mx w8 g9 0 0 0 0 0 := by rw [hw8]; exact hm7.of_block (Below.heap_alloc _ _ _ hm7.lt)
        have hm_g10 : Mx w8 g10 0 0 0 0 0 := by rw [hw8, hg10]; exact heap_alloc_new _ _
        have hb8 : Below w6.heap.size w6 w8 := by rw [hw8]; exact hb7.alloc hb7.size _
        have HG : Hid (w6.heap.size ≤ g9 ∧ w6.heap.size ≤ g10 ∧ g9 ≠ g10 ∧ p < w6.heap.size) := Lib.hid (by
          have h1 := HF.out; have h2 := hm7.lt; have h3 := hb7.size; have h4 := hs6.lt
          refine ⟨by omega, by omega, by omega, h4⟩)
        rw [← hg10, ← hw8]
        refine hK' _ w8 (fun _ => ⟨hs8.cell.2.1, hs8.cell.2.2.1, hs8.cell.2.2.2.1, hs8.cell.2.2.2.2⟩) ?_
        clear hK' K' hw8 hg10 HF hb7 hm7 hs7
        obtain ⟨⟨a0, b0⟩, ⟨a1, b1⟩, ⟨a2, b2⟩, ⟨a3, b3⟩, ⟨a4, b4⟩, hfin⟩ := hm_g9.fill (m := LB) (l := LA)
        refine walkT_no rfl rfl (fun K hK => ?_)
        go_simp
        obtain ⟨w9, hw9⟩ : ∃ w9, w9 = (((((w8.setCell ⟨g9, 0, none⟩ (.int .u64 (LB : Int))).setCell ⟨g9, 1, none⟩ (.int .u64 (LA : Int))).setCell ⟨g9, 2, none⟩ (.int .u64 0)).setCell ⟨g9, 3, none⟩ (.int .u64 0)).setCell ⟨g9, 4, none⟩ (.int .u64 0)) := ⟨_, rfl⟩
        rw [← hw9] at hfin ⊢
        have n1 : g9 ≠ g10 := HG.out.2.2.1
        have n2 : g9 ≠ p := by have := HG.out; omega
        have n3 : g10 ≠ p := by have := HG.out; omega
        have hs9 : Sx w9 p false LB LA NB NA := by rw [hw9]; exact (((((hs8.other (q := ⟨g9, 0, none⟩) n2 _).other (q := ⟨g9, 1, none⟩) n2 _).other (q := ⟨g9, 2, none⟩) n2 _).other (q := ⟨g9, 3, none⟩) n2 _).other (q := ⟨g9, 4, none⟩) n2 _)
        have hn_g10 : Mx w9 g10 0 0 0 0 0 := by rw [hw9]; exact (((((hm_g10.other (q := ⟨g9, 0, none⟩) n1 _).other (q := ⟨g9, 1, none⟩) n1 _).other (q := ⟨g9, 2, none⟩) n1 _).other (q := ⟨g9, 3, none⟩) n1 _).other (q := ⟨g9, 4, none⟩) n1 _)
        have hb9 : Below w6.heap.size w6 w9 := by rw [hw9]; exact (((((hb8.setCell (p := ⟨g9, 0, none⟩) HG.out.1 _).setCell (p := ⟨g9, 1, none⟩) HG.out.1 _).setCell (p := ⟨g9, 2, none⟩) HG.out.1 _).setCell (p := ⟨g9, 3, none⟩) HG.out.1 _).setCell (p := ⟨g9, 4, none⟩) HG.out.1 _)
        refine hK _ w9 (fun _ => ⟨hs9.cell.2.1, hs9.cell.2.2.1, hs9.cell.2.2.2.1, hs9.cell.2.2.2.2⟩) ?_
        clear hK K hw9 hm_g9 hm_g10 hs8 hb8 a0 b0 a1 b1 a2 b2 a3 b3 a4 b4
        have hm_g10 := hn_g10
        have hf9 := hfin
        clear hn_g10 hfin
        obtain ⟨⟨a0, b0⟩, ⟨a1, b1⟩, ⟨a2, b2⟩, ⟨a3, b3⟩, ⟨a4, b4⟩, hfin⟩ := hm_g10.fill (m := NA) (l := NB)
        refine walkT_no rfl rfl (fun K hK => ?_)
        go_simp
        obtain ⟨w10, hw10⟩ : ∃ w10, w10 = (((((w9.setCell ⟨g10, 0, none⟩ (.int .u64 (NA : Int))).setCell ⟨g10, 1, none⟩ (.int .u64 (NB : Int))).setCell ⟨g10, 2, none⟩ (.int .u64 0)).setCell ⟨g10, 3, none⟩ (.int .u64 0)).setCell ⟨g10, 4, none⟩ (.int .u64 0)) := ⟨_, rfl⟩
        rw [← hw10] at hfin ⊢
        have hx9 : Mx w10 g9 LB LA 0 0 0 := by rw [hw10]; exact (((((hf9.other (q := ⟨g10, 0, none⟩) (Ne.symm n1) _).other (q := ⟨g10, 1, none⟩) (Ne.symm n1) _).other (q := ⟨g10, 2, none⟩) (Ne.symm n1) _).other (q := ⟨g10, 3, none⟩) (Ne.symm n1) _).other (q := ⟨g10, 4, none⟩) (Ne.symm n1) _)
        have hb10 : Below w6.heap.size w6 w10 := by rw [hw10]; exact (((((hb9.setCell (p := ⟨g10, 0, none⟩) HG.out.2.1 _).setCell (p := ⟨g10, 1, none⟩) HG.out.2.1 _).setCell (p := ⟨g10, 2, none⟩) HG.out.2.1 _).setCell (p := ⟨g10, 3, none⟩) HG.out.2.1 _).setCell (p := ⟨g10, 4, none⟩) HG.out.2.1 _)
        refine hK _ w10 (fun h => absurd h (by decide)) ?_
        have HM9 := Lib.hid hx9
        have HM10 := Lib.hid hfin
        have HB10 := Lib.hid (hb6.trans (hb10.mono hb6.size))
        have HC0a := Lib.hid (c06.below hb10 c06.lt)
        have HC1a := Lib.hid (c16.below hb10 c16.lt)
        have d0 := HC0a.out.1
        have d1 := HC1a.out.1
        clear hK K hw10 hm_g10 hs9 hb9 hf9 hx9 hfin hb10 a0 b0 a1 b1 a2 b2 a3 b3 a4 b4 n1 n2 n3 j0 j1 j2 j3 j4 hS
        simp only [walkT]
        refine ⟨rfl, ?_⟩
        have c0b := HC0a.out.alloc (.cells #[.int .i64 0] 3)
        have c1b := HC1a.out.alloc (.cells #[.int .i64 0] 3)
        have d2 := c0b.1
        have d3 := c1b.1
        gi_wp2_with (gi_at_call 79; refine (callsIn_wide.2 (pairs_any _ _ _ _ _ _ _)).mono ?_; rintro e w' ⟨rfl, rfl⟩)
        obtain ⟨q, hq⟩ : ∃ q, q = w10.heap.size := ⟨_, rfl⟩
        obtain ⟨P1, hP1⟩ : ∃ P1, P1 = nrow y := ⟨_, rfl⟩
        obtain ⟨P2, hP2⟩ : ∃ P2, P2 = (nrow x).take Lb := ⟨_, rfl⟩
        rw [← hq]
        simp only [Nat.add_assoc, Nat.reduceAdd]
        obtain ⟨t0, s0, l0⟩ := box_next hq (.int .i64 0) 3
        obtain ⟨t1, s1, l1⟩ := box_next s0 (.slice (some ⟨gb, 0, none⟩) Lb cb) 31
        obtain ⟨t2, s2, l2⟩ := box_next s1 (.slice (some ⟨ga, 0, none⟩) Lb ca) 31
        have t0' := (t0.alloc (.cells #[.slice (some ⟨gb, 0, none⟩) Lb cb] 31)).alloc (.cells #[.slice (some ⟨ga, 0, none⟩) Lb ca] 31)
        have t1' := t1.alloc (.cells #[.slice (some ⟨ga, 0, none⟩) Lb ca] 31)
        obtain ⟨W0, hW0⟩ : ∃ W0, W0 = (((w10.alloc (.cells #[.int .i64 0] 3)).alloc (.cells #[.slice (some ⟨gb, 0, none⟩) Lb cb] 31)).alloc (.cells #[.slice (some ⟨ga, 0, none⟩) Lb ca] 31)) := ⟨_, rfl⟩
        rw [← hW0] at t0' t1' t2 s2 l2 ⊢
        have hsz : W0.heap.size = q + 3 := s2.symm
        have hbW : Below q w10 W0 := by
          have h := (l0.trans (l1.mono l0.size)).trans (l2.mono (l0.trans (l1.mono l0.size)).size)
          rw [hq]; exact h
        have hbq : Below w.heap.size w W0 := HB10.out.trans (hbW.mono (by rw [hq]; exact HB10.out.size))
        have hlx : P1.length = Lb ∧ Fits P1 ∧ P2.length = Lb ∧ Fits P2 := by
          rw [hP1, hP2]
          have h1 := HM.out.2.2.2.2.2.2.2.2.2
          have h2 := HL.out.1
          have h3 := HL.out.2.1
          refine ⟨?_, ?_, ?_, ?_⟩ <;> first | exact nrow_fits _ | exact fits_take (nrow_fits _) _ | (rw [List.length_take, ← h2]; omega) | exact h3.symm
        have hrow : ∀ W, Below w.heap.size w W → NRow B W (.slice (some ⟨ga, 0, none⟩) Lb ca) ((nrow x).take Lb) ∧ NRow B W (.slice (some ⟨gb, 0, none⟩) Lb cb) (nrow y) := fun W hW => by
          have h1 := HM.out.2.2.2.2.2.2.2.2.2
          have h2 := HL.out.1
          have h3 := HL.out.2.1
          refine ⟨?_, by rw [h3]; exact HRB.out.below hW (Nat.le_refl _)⟩
          have h4 := HRA.out.below hW (Nat.le_refl _)
          rw [← h2] at h4
          have h5 := NRow.take (L := (nrow x).take Lb) (M := (nrow x).drop Lb) (by rw [List.take_append_drop]; exact h4)
          rw [List.length_take, ← h2, Nat.min_eq_left h1] at h5
          exact h5
        have hga : ga < w.heap.size ∧ gb < w.heap.size ∧ B ≤ ga ∧ B ≤ gb := ⟨HRA.out.seg.2.2.2.2.2.block, HRB.out.seg.2.2.2.2.2.block, HRA.out.seg.2.2.1, HRB.out.seg.2.2.1⟩
        have hqb : w6.heap.size ≤ q ∧ w.heap.size ≤ z ∧ z + 1 < q ∧ g9 < q ∧ g10 < q := by
          have h1 := HM9.out.lt; have h2 := HM10.out.lt; have h3 := HC1a.out.lt; have h4 := HZ.out.1; have h5 := HG.out
          refine ⟨by omega, by omega, by omega, by omega, by omega⟩
        have hbB : Below B w W0 := hbq.mono HH.out.2.2.2.2
        obtain ⟨rA, rB⟩ := hrow W0 hbq
        have hNx0 : NxAt B z q g9 g10 gb ga cb ca Lb LB LA NA NB P1 P2 w 0 W0 :=
          ⟨[], [], 0, 0, 0, 0, 0, 0, ⟨rfl, rfl, Nat.zero_le _, fun _ h => (by cases h), fun _ h => (by cases h)⟩, ⟨by decide, by decide, by decide, by decide, by decide, by decide⟩, by simp [lv], by simp [lv],
            by rw [hP1]; exact rB, by rw [hP2]; exact rA, HM9.out.of_block (hbW.block g9 hqb.2.2.2.1), HM10.out.of_block (hbW.block g10 hqb.2.2.2.2), HC0a.out.below hbW (by omega), HC1a.out.below hbW (by omega), t0', t1', t2, Nat.le_of_eq hsz.symm, hbB⟩
        obtain ⟨X', hX'⟩ : ∃ X' : Nat → Nat, ∀ k, X' k = P1.getD k 0 := ⟨_, fun _ => rfl⟩
        obtain ⟨Y', hY'⟩ : ∃ Y' : Nat → Nat, ∀ k, Y' k = P2.getD k 0 := ⟨_, fun _ => rfl⟩
        have HX := Lib.hid hX'
        have HY := Lib.hid hY'
        have HLX := Lib.hid hlx
        have HSZ := Lib.hid hsz
        have HGA := Lib.hid hga
        have HQB := Lib.hid hqb
        have HPP := Lib.hid (And.intro hP1 hP2)
        have HLB9 : Hid (Lb ≤ 1048578) := Lib.hid (by omega)
        have HQ := Lib.hid hq
        clear hX' hY' hlx hsz hga hqb hP1 hP2 t0 t1 t2 t0' t1' s0 s1 s2 l0 l1 l2 hW0 hbW hbq hbB rA rB hrow d0 d1 d2 d3 c0b c1b c06 c16 hs6 hb6 hq
        refine wpIn_range_at (m := 1) (gf := 89) (lb := #[.pointer (some ⟨q + 1, 0, none⟩), .pointer (some ⟨q + 2, 0, none⟩)]) rfl (enters_of Tryd.func89 (by kernel_rfl) rfl) (pairs_at (q + 1) (q + 2) (some ⟨gb, 0, none⟩) (some ⟨ga, 0, none⟩) cb ca P1 P2 X' Y' HX.out HY.out (by rw [HLX.out.1]; have := HLB9.out; omega) (by rw [HLX.out.2.2.1]; have := HLB9.out; omega)) (fun _ => rfl)
          (NxAt B z q g9 g10 gb ga cb ca Lb LB LA NA NB P1 P2 w) (fun _ _ => False) (fun k W W' hb' h => h.below (by have := HQB.out; omega) (by have := HQB.out; omega) (by have := HQB.out; omega) (by have := HQB.out; have := HGA.out; omega) (by have := HQB.out; have := HGA.out; omega) (by have := HQB.out; have := HGA.out; omega) (by rw [← HSZ.out]; exact hb')) (fun _ _ _ _ h => h)
          (fun k W h => by obtain ⟨O1, O2, e1, o1, b1, e2, o2, b2, i1, i2, i3, i4, r1, r2, x1, x2, t1, t2, t3, t4, t5, hs, hl⟩ := h; rw [HSZ.out]; exact hs) (fun _ _ h => h.elim)
          (fun k W h => by
            obtain ⟨O1, O2, e1, o1, b1, e2, o2, b2, i1, i2, i3, i4, r1, r2, x1, x2, t1, t2, t3, t4, t5, hs, hl⟩ := h
            have f1 := r1.seg
            have f2 := r2.seg
            exact ⟨by rw [HLX.out.1]; exact t4.1, by rw [HLX.out.2.2.1]; exact t5.1, f1.2.2.2.2.2.from i1.1 (by rw [HLX.out.1]; exact i1.2.2.1), f2.2.2.2.2.2.from i1.2.1 (by rw [HLX.out.2.2.1]; exact i1.2.2.1)⟩) hNx0
          (fun k => { tmps := #[.slice (some ⟨ga, 0, none⟩) La ca, .slice (some ⟨gb, 0, none⟩) Lb cb, .pointer (some ⟨z, 0, none⟩), .pointer (some ⟨z + 1, 0, none⟩), .slice none 0 0, .slice none 0 0, .pointer (some ⟨p, 0, none⟩), undef, undef, .pointer (some ⟨g9, 0, none⟩), .pointer (some ⟨g10, 0, none⟩), .pointer (some ⟨q, 0, none⟩), .int .u64 ((X' k : Nat) : Int), .int .u64 ((Y' k : Nat) : Int),
            .slice (some ⟨ga, 0, none⟩) La ca, .slice (some ⟨gb, 0, none⟩) Lb cb, .tuple #[.int .u64 (xh : Int), .int .u64 (yh : Int)], .int .u64 (xh : Int), .int .u64 (yh : Int), .agg #[.bool true, .int .u64 (LA : Int), .int .u64 (LB : Int), .int .u64 (NA : Int), .int .u64 (NB : Int)], .pointer (some ⟨p, 2, none⟩), .int .u64 (LB : Int), .bool false, undef, undef, undef, undef, undef, undef, undef, undef, .slice (some ⟨ga, 0, none⟩) La ca, .slice (some ⟨gb, 0, none⟩) Lb cb, .int .i64 (Lb : Int), .slice (some ⟨ga, 0, none⟩) Lb ca, .pointer (some ⟨p, 0, none⟩), .bool true, .slice (some ⟨gb, 0, none⟩) Lb cb, .slice (some ⟨ga, 0, none⟩) Lb ca, .agg #[.bool true, .int .u64 (LA : Int), .int .u64 (LB : Int), .int .u64 (NA : Int), .int .u64 (NB : Int)], .agg #[.bool false, .int .u64 (LB : Int), .int .u64 (LA : Int), .int .u64 (NB : Int), .int .u64 (NA : Int)], .pointer (some ⟨p, 1, none⟩), .int .u64 (LB : Int), .pointer (some ⟨p, 2, none⟩), .int .u64 (LA : Int), .agg #[.int .u64 (LB : Int), .int .u64 (LA : Int), .int .u64 0, .int .u64 0, .int .u64 0], .pointer (some ⟨p, 4, none⟩), .int .u64 (NA : Int), .pointer (some ⟨p, 3, none⟩), .int .u64 (NB : Int), .agg #[.int .u64 (NA : Int), .int .u64 (NB : Int), .int .u64 0, .int .u64 0, .int .u64 0],
            .slice (some ⟨gb, 0, none⟩) Lb cb, .slice (some ⟨ga, 0, none⟩) Lb ca, .func (.func 89) #[] #[.pointer (some ⟨q + 1, 0, none⟩), .pointer (some ⟨q + 2, 0, none⟩)], .int .u64 ((X' k : Nat) : Int), .int .u64 ((Y' k : Nat) : Int),
            undef, undef, undef, undef, undef, undef, undef, undef, undef, undef, undef, undef, undef, undef, undef, undef, undef, undef], defers := [] })
          ?assign ?body ?done ?stop
        case assign =>
          intro l k W K hK
          gi_wp2
          exact hK
        case body =>
          rintro l k W hk ⟨O1, O2, e1, o1, b1, e2, o2, b2, ⟨i1, i2, i3, i4, i5⟩, ⟨u1, u2, u3, u4, u5, u6⟩, v1, v2, r1, r2, x1, x2, t1, t2, t3, t4, t5, hs, hl⟩
          have hxA : X' k = P1.getD k 0 := HX.out k
          have hyB : Y' k = P2.getD k 0 := HY.out k
          generalize X' k = xx at hxA ⊢
          generalize Y' k = yy at hyB ⊢
          have hkL : k < Lb := by rw [← HLX.out.1]; exact hk
          have hkI : (k : Int) < (Lb : Int) := by omega
          have hk0 : (0 : Int) ≤ (k : Int) := by omega
          have hk9 : (k : Int) ≤ 1048578 := by have := HLB9.out; omega
          have hxx : xx < 18446744073709551616 := by rw [hxA]; exact getD_fits HLX.out.2.1 k
          have hyy : yy < 18446744073709551616 := by rw [hyB]; exact getD_fits HLX.out.2.2.2 k
          have v1' := v1
          have v2' := v2
          have HI := Lib.hid (And.intro i1 (And.intro i2 (And.intro i3 (And.intro i4 i5))))
          have HV := Lib.hid (And.intro v1 v2)
          have HXY := Lib.hid (And.intro hxA hyB)
          have hbx := hs
          clear hxA hyB v1 v2 v1' v2' i1 i2 i3 i4 i5 hk
          gi_wp2
          refine wpIn_region_calmT (fun w' => w'.cell? ⟨z, 0, none⟩ = some (.slice (some ⟨gb, 0, none⟩) Lb cb) ∧ w'.cell? ⟨z + 1, 0, none⟩ = some (.slice (some ⟨ga, 0, none⟩) Lb ca) ∧ w'.cell? ⟨q, 0, none⟩ = some (.int .i64 (k : Int)))
            [.yes 0, .yes 1, .yes 2, .yes 3, .yes 4, .yes 5, .yes 7, .yes 8, .no 6, .no 9, .yes 10, .no 11, .yes 12, .no 13] 13 (by kernel_rfl) (by kernel_rfl) (by kernel_rfl) rfl (by kernel_rfl) (by kernel_rfl) ?_
          have hS : W.drew.cell? ⟨z, 0, none⟩ = some (.slice (some ⟨gb, 0, none⟩) Lb cb) ∧ W.drew.cell? ⟨z + 1, 0, none⟩ = some (.slice (some ⟨ga, 0, none⟩) Lb ca) ∧ W.drew.cell? ⟨q, 0, none⟩ = some (.int .i64 (k : Int)) := ⟨t1.1, t2.1, t3.1⟩
          repeat (refine walkT_yes rfl hS rfl (fun w' hw' => by obtain ⟨q0, q1, q2⟩ := hw'; go_simp; rfl) ?_; simp only [Act.put, List.setIfInBounds_toArray, List.set_cons_zero, List.set_cons_succ])
          refine walkT_no rfl rfl (fun K hK => ?_)
          go_simp
          have hM4 := HM.out
          refine (mix_any g9 xx yy LB LA e1 o1 b1 W.drew hxx hyy (by omega) (by omega) u1 u2 u3 x1).mono ?_
          rintro e W1 ⟨ra, e1', o1', b1', rfl, ha1, ha2, ha3, ha4, haM, hxa, hga1⟩
          have hN := HG.out
          have hNQ := HQB.out
          have hPZ := HPZ.out
          have hGA := HGA.out
          have hne12 : ga ≠ gb := HH.out.2.2.2.1
          have T1 : Box W1 z (.slice (some ⟨gb, 0, none⟩) Lb cb) := t1.drew.of_block (hga1.block z t1.lt (fun e => by cases e; omega))
          have T2 : Box W1 (z + 1) (.slice (some ⟨ga, 0, none⟩) Lb ca) := t2.drew.of_block (hga1.block (z + 1) t2.lt (fun e => by cases e; omega))
          have T3 : Box W1 q (.int .i64 (k : Int)) := t3.drew.of_block (hga1.block q t3.lt (fun e => by cases e; omega))
          have X1 : Mx W1 g10 NA NB e2 o2 b2 := x2.of_block (hga1.block g10 x2.lt (fun e => by cases e; omega))
          have A1 := r1.of_block (hga1.block gb r1.seg.2.2.2.2.2.block (fun e => by cases e; omega))
          have A2 := r2.of_block (hga1.block ga r2.seg.2.2.2.2.2.block (fun e => by cases e; omega))
          refine hK _ W1 (fun _ => ⟨T1.1, T2.1, T3.1⟩) ?_
          clear hK K
          refine walkT_no rfl rfl (fun K hK => ?_)
          go_simp
          refine (mix_any g10 yy xx NA NB e2 o2 b2 W1 hyy hxx (by omega) (by omega) u4 u5 u6 X1).mono ?_
          rintro e W2 ⟨rb, e2', o2', b2', rfl, hb1, hb2, hb3, hb4, hbM, hxb, hgb1⟩
          have U1 : Box W2 z (.slice (some ⟨gb, 0, none⟩) Lb cb) := T1.of_block (hgb1.block z T1.lt (fun e => by cases e; omega))
          have U2 : Box W2 (z + 1) (.slice (some ⟨ga, 0, none⟩) Lb ca) := T2.of_block (hgb1.block (z + 1) T2.lt (fun e => by cases e; omega))
          have U3 : Box W2 q (.int .i64 (k : Int)) := T3.of_block (hgb1.block q T3.lt (fun e => by cases e; omega))
          have Y1 : Mx W2 g9 LB LA e1' o1' b1' := hxa.of_block (hgb1.block g9 hxa.lt (fun e => by cases e; omega))
          have B1 := A1.of_block (hgb1.block gb A1.seg.2.2.2.2.2.block (fun e => by cases e; omega))
          have B2 := A2.of_block (hgb1.block ga A2.seg.2.2.2.2.2.block (fun e => by cases e; omega))
          refine hK _ W2 (fun _ => ⟨U1.1, U2.1, U3.1⟩) ?_
          clear hK K
          have hl1 : k < (O1 ++ P1.drop k).length := by rw [List.length_append, List.length_drop, HI.out.1, HLX.out.1]; omega
          have hl2 : k < (O2 ++ P2.drop k).length := by rw [List.length_append, List.length_drop, HI.out.2.1, HLX.out.2.2.1]; omega
          have cc1 := B1.seg.2.2.2.2.2.cell hl1
          have cf1 := B1.seg.2.2.2.2.2.frozen k
          rw [Nat.zero_add] at cc1
          have hS2 : W2.cell? ⟨z, 0, none⟩ = some (.slice (some ⟨gb, 0, none⟩) Lb cb) ∧ W2.cell? ⟨z + 1, 0, none⟩ = some (.slice (some ⟨ga, 0, none⟩) Lb ca) ∧ W2.cell? ⟨q, 0, none⟩ = some (.int .i64 (k : Int)) := ⟨U1.1, U2.1, U3.1⟩
          refine walkT_yes rfl hS2 rfl (fun w' hw' => by obtain ⟨q0, q1, q2⟩ := hw'; go_simp; rfl) ?_
          simp only [Act.put, List.setIfInBounds_toArray, List.set_cons_zero, List.set_cons_succ]
          refine walkT_no rfl rfl (fun K hK => ?_)
          go_simp
          obtain ⟨W3, hW3⟩ : ∃ W3, W3 = W2.setCell ⟨gb, k, none⟩ (.int .u64 (ra : Int)) := ⟨_, rfl⟩
          have V1 : Box W3 z (.slice (some ⟨gb, 0, none⟩) Lb cb) := by rw [hW3]; exact U1.other (p := ⟨gb, k, none⟩) (by show gb ≠ z; omega) _
          have V2 : Box W3 (z + 1) (.slice (some ⟨ga, 0, none⟩) Lb ca) := by rw [hW3]; exact U2.other (p := ⟨gb, k, none⟩) (by show gb ≠ z + 1; omega) _
          have V3 : Box W3 q (.int .i64 (k : Int)) := by rw [hW3]; exact U3.other (p := ⟨gb, k, none⟩) (by show gb ≠ q; omega) _
          have C1 := B1.setAt (x := ra) hl1
          rw [← hW3] at C1
          have C2 : NRow B W3 (.slice (some ⟨ga, 0, none⟩) Lb ca) (O2 ++ P2.drop k) := by rw [hW3]; exact B2.of_block (Below.heap_setCell _ ⟨gb, k, none⟩ _ _ (fun e => hne12 (by simpa using e)))
          have cc2 := C2.seg.2.2.2.2.2.cell hl2
          have cf2 := C2.seg.2.2.2.2.2.frozen k
          rw [Nat.zero_add] at cc2
          have hS3 : W3.cell? ⟨z, 0, none⟩ = some (.slice (some ⟨gb, 0, none⟩) Lb cb) ∧ W3.cell? ⟨z + 1, 0, none⟩ = some (.slice (some ⟨ga, 0, none⟩) Lb ca) ∧ W3.cell? ⟨q, 0, none⟩ = some (.int .i64 (k : Int)) := ⟨V1.1, V2.1, V3.1⟩
          rw [← hW3]
          refine hK _ W3 (fun _ => hS3) ?_
          have HW3 := Lib.hid hW3
          clear hK K hW3
          refine walkT_yes rfl hS3 rfl (fun w' hw' => by obtain ⟨q0, q1, q2⟩ := hw'; go_simp; rfl) ?_
          simp only [Act.put, List.setIfInBounds_toArray, List.set_cons_zero, List.set_cons_succ]
          refine walkT_no rfl rfl (fun K hK => ?_)
          go_simp
          obtain ⟨W4, hW4⟩ : ∃ W4, W4 = W3.setCell ⟨ga, k, none⟩ (.int .u64 (rb : Int)) := ⟨_, rfl⟩
          have Z1 : Box W4 z (.slice (some ⟨gb, 0, none⟩) Lb cb) := by rw [hW4]; exact V1.other (p := ⟨ga, k, none⟩) (by show ga ≠ z; omega) _
          have Z2 : Box W4 (z + 1) (.slice (some ⟨ga, 0, none⟩) Lb ca) := by rw [hW4]; exact V2.other (p := ⟨ga, k, none⟩) (by show ga ≠ z + 1; omega) _
          have Z3 : Box W4 q (.int .i64 (k : Int)) := by rw [hW4]; exact V3.other (p := ⟨ga, k, none⟩) (by show ga ≠ q; omega) _
          have D2 := C2.setAt (x := rb) hl2
          rw [← hW4] at D2 ⊢
          have D1 : NRow B W4 (.slice (some ⟨gb, 0, none⟩) Lb cb) ((O1 ++ P1.drop k).set k ra) := by rw [hW4]; exact C1.of_block (Below.heap_setCell _ ⟨ga, k, none⟩ _ _ (fun e => hne12 (by simpa using e.symm)))
          have E1 : Mx W4 g9 LB LA e1' o1' b1' := by rw [hW4, HW3.out]; exact (Y1.other (q := ⟨gb, k, none⟩) (by show gb ≠ g9; omega) _).other (q := ⟨ga, k, none⟩) (by show ga ≠ g9; omega) _
          have E2 : Mx W4 g10 NA NB e2' o2' b2' := by rw [hW4, HW3.out]; exact (hxb.other (q := ⟨gb, k, none⟩) (by show gb ≠ g10; omega) _).other (q := ⟨ga, k, none⟩) (by show ga ≠ g10; omega) _
          have hke : KeepsFrom W0.heap.size W W4 := by
            have h1 : KeepsFrom W0.heap.size W W2 := keeps_grown (keeps_grown (keeps_drew (KeepsFrom.refl _ W)) hga1 (by rw [HSZ.out]; omega)) hgb1 (by rw [HSZ.out]; omega)
            rw [hW4, HW3.out]
            exact keeps_set (keeps_set h1 _ _) _ _
          have S4 : Box W4 (q + 1) (.slice (some ⟨gb, 0, none⟩) Lb cb) := by
            rw [hW4, HW3.out]
            exact ((((t4.drew.of_block (hga1.block (q + 1) t4.lt (fun e => by cases e; omega))).of_block (hgb1.block (q + 1) (Nat.lt_of_lt_of_le t4.lt hga1.size) (fun e => by cases e; omega))).other (p := ⟨gb, k, none⟩) (by show gb ≠ q + 1; omega) _).other (p := ⟨ga, k, none⟩) (by show ga ≠ q + 1; omega) _)
          have S5 : Box W4 (q + 2) (.slice (some ⟨ga, 0, none⟩) Lb ca) := by
            rw [hW4, HW3.out]
            exact ((((t5.drew.of_block (hga1.block (q + 2) t5.lt (fun e => by cases e; omega))).of_block (hgb1.block (q + 2) (Nat.lt_of_lt_of_le t5.lt hga1.size) (fun e => by cases e; omega))).other (p := ⟨gb, k, none⟩) (by show gb ≠ q + 2; omega) _).other (p := ⟨ga, k, none⟩) (by show ga ≠ q + 2; omega) _)
          have hsz4 : q + 3 ≤ W4.heap.size := by
            rw [hW4, HW3.out, size_set, size_set]
            exact Nat.le_trans hs (Nat.le_trans hga1.size hgb1.size)
          have hl4 : Below B w W4 := by
            have h1 := (hl.drew).grown hga1 (Nat.le_trans (Nat.le_trans (show B ≤ w.heap.size from HH.out.2.2.2.2) hl.size) (Nat.le_refl _)) (fun g hg => by cases hg; omega)
            have h2 := h1.grown hgb1 (Nat.le_trans HH.out.2.2.2.2 h1.size) (fun g hg => by cases hg; omega)
            rw [hW4, HW3.out]
            exact (h2.setCell (p := ⟨gb, k, none⟩) (by show B ≤ gb; omega) _).setCell (p := ⟨ga, k, none⟩) (by show B ≤ ga; omega) _
          have HKE := Lib.hid hke
          have HD := Lib.hid (And.intro D1 D2)
          have HE := Lib.hid (And.intro E1 E2)
          have HZZ := Lib.hid (And.intro Z1 (And.intro Z2 (And.intro Z3 (And.intro S4 (And.intro S5 (And.intro hsz4 hl4))))))
          have HR1 := Lib.hid (And.intro ha1 (And.intro ha2 (And.intro ha3 (And.intro ha4 haM))))
          have HR2 := Lib.hid (And.intro hb1 (And.intro hb2 (And.intro hb3 (And.intro hb4 hbM))))
          have zc := Z3.1
          have zf := Z3.2
          refine hK _ W4 (fun h => absurd h (by decide)) ?_
          clear hK K hW4 cc1 cf1 cc2 cf2 hS hS2 hS3 A1 A2 B1 B2 C1 C2 D1 D2 E1 E2 Y1 X1 U1 U2 U3 V1 V2 V3 T1 T2 T3 hxa hxb hga1 hgb1 haM hbM hke S4 S5 hsz4 hl4 Z1 Z2 Z3
          simp only [walkT]
          refine ⟨rfl, ?_⟩
          gi_wp2
          have hI := HI.out
          have hR1 := HR1.out
          have hR2 := HR2.out
          have hZ := HZZ.out
          have hNQ := HQB.out
          have hGA := HGA.out
          have hN := HG.out
          have hP : 2 ^ (64 * (k + 1)) = 2 ^ (64 * k) * 18446744073709551616 := by rw [show 64 * (k + 1) = 64 * k + 64 by omega, Nat.pow_add]
          have q1 := mix_step HV.out.1 hR1.2.2.2.2
          have q2 := mix_step HV.out.2 hR2.2.2.2.2
          have w1 := lv_take_succ' P1 k
          have w2 := lv_take_succ' P2 k
          rw [← HXY.out.1] at w1
          rw [← HXY.out.2] at w2
          have hkP1 : k < P1.length := by rw [HLX.out.1]; exact hkL
          have hkP2 : k < P2.length := by rw [HLX.out.2.2.1]; exact hkL
          have w3 := set_mid (x := ra) hI.1 hkP1
          have w4 := set_mid (x := rb) hI.2.1 hkP2
          have hD1 := HD.out.1
          have hD2 := HD.out.2
          rw [w3] at hD1
          rw [w4] at hD2
          refine ⟨keeps_set HKE.out _ _, O1 ++ [ra], O2 ++ [rb], e1', o1', b1', e2', o2', b2', ⟨by rw [List.length_append, hI.1]; rfl, by rw [List.length_append, hI.2.1]; rfl, hkL, fits_snoc hI.2.2.2.1 hR1.1, fits_snoc hI.2.2.2.2 hR2.1⟩, ⟨hR1.2.1, hR1.2.2.1, hR1.2.2.2.1, hR2.2.1, hR2.2.2.1, hR2.2.2.2.1⟩, ?_, ?_,
            hD1.of_block (Below.heap_setCell _ ⟨q, 0, none⟩ _ _ (by show gb ≠ q; omega)), hD2.of_block (Below.heap_setCell _ ⟨q, 0, none⟩ _ _ (by show ga ≠ q; omega)), HE.out.1.other (q := ⟨q, 0, none⟩) (by show q ≠ g9; omega) _, HE.out.2.other (q := ⟨q, 0, none⟩) (by show q ≠ g10; omega) _,
            hZ.1.other (p := ⟨q, 0, none⟩) (by show q ≠ z; omega) _, hZ.2.1.other (p := ⟨q, 0, none⟩) (by show q ≠ z + 1; omega) _, hZ.2.2.1.set _, hZ.2.2.2.1.other (p := ⟨q, 0, none⟩) (by show q ≠ q + 1; omega) _, hZ.2.2.2.2.1.other (p := ⟨q, 0, none⟩) (by show q ≠ q + 2; omega) _,
            by rw [size_set]; exact hZ.2.2.2.2.2.1, hZ.2.2.2.2.2.2.setCell (p := ⟨q, 0, none⟩) (by show B ≤ q; omega) _⟩
          · rw [lv_snoc, hI.1, w1, w2, hP]; exact q1
          · rw [lv_snoc, hI.2.1, w1, w2, hP]; exact q2
        case done =>
          rintro D W hD ⟨O1, O2, e1, o1, b1, e2, o2, b2, ⟨i1, i2, i3, i4, i5⟩, ⟨u1, u2, u3, u4, u5, u6⟩, v1, v2, r1, r2, x1, x2, t1, t2, t3, t4, t5, hs, hl⟩ hK
          have e0 := HLX.out.1
          rw [e0] at i1 i2 i3 v1 v2 r1 r2 t3
          have hd1 : P1.drop Lb = [] := List.drop_eq_nil_of_le (Nat.le_of_eq HLX.out.1)
          have hd2 : P2.drop Lb = [] := List.drop_eq_nil_of_le (Nat.le_of_eq HLX.out.2.2.1)
          rw [hd1, List.append_nil] at r1
          rw [hd2, List.append_nil] at r2
          rw [List.take_of_length_le (Nat.le_of_eq HLX.out.1), List.take_of_length_le (Nat.le_of_eq HLX.out.2.2.1)] at v1 v2
          have hM := HM.out
          have hyl : y < 2 ^ (64 * Lb) := by have := lv_lt (nrow_fits y); rw [lv_nrow, ← HL.out.2.1] at this; exact this
          have hsp := lv_split (nrow x) (k := Lb) (by rw [← HL.out.1]; exact hM.2.2.2.2.2.2.2.2.2)
          rw [lv_nrow] at hsp
          obtain ⟨h, hh⟩ : ∃ h, h = lv ((nrow x).drop Lb) := ⟨_, rfl⟩
          obtain ⟨XT, hXT⟩ : ∃ XT, XT = lv ((nrow x).take Lb) := ⟨_, rfl⟩
          rw [← hh, ← hXT] at hsp
          have hP1v : lv P1 = y := by rw [HPP.out.1]; exact lv_nrow y
          have hP2v : lv P2 = XT := by rw [HPP.out.2]; exact hXT.symm
          rw [hP1v, hP2v] at v1 v2
          have hO1 : lv O1 < 2 ^ (64 * Lb) := by rw [← i1]; exact lv_lt i4
          have hO2 : lv O2 < 2 ^ (64 * Lb) := by rw [← i2]; exact lv_lt i5
          have z1 : lv O1 = Lt := mix_done (u := 0) (v := LA * h) v1 (by
            have h9 := hM.2.2.2.2.2.1
            rw [hsp] at h9
            simp only [dl] at h9
            have : ((LB * y + 2 ^ (64 * Lb) * (0) : Nat) : Int) = ((Lt + LA * XT + 2 ^ (64 * Lb) * (LA * h) : Nat) : Int) := by push_cast at h9 ⊢; grind
            exact_mod_cast this) hO1 (Nat.lt_of_le_of_lt hM.2.2.2.2.2.2.2.1 hyl)
          have z2 : lv O2 = X := mix_done (u := NA * h) (v := 0) v2 (by
            have h9 := hM.2.2.2.2.1
            rw [hsp] at h9
            simp only [dl] at h9
            have : ((NA * XT + 2 ^ (64 * Lb) * (NA * h) : Nat) : Int) = ((X + NB * y + 2 ^ (64 * Lb) * (0) : Nat) : Int) := by push_cast at h9 ⊢; grind
            exact_mod_cast this) hO2 (Nat.lt_of_lt_of_le hM.2.2.2.2.2.2.1 (Nat.le_of_lt (Nat.lt_of_le_of_lt hM.2.2.2.2.2.2.2.1 hyl)))
          have f1 := r1.seg
          have f2 := r2.seg
          have A1 : NRow B W (.slice (some ⟨gb, 0, none⟩) O1.length cb) O1 := by rw [i1]; exact r1
          have A2 : NRow B W (.slice (some ⟨ga, 0, none⟩) O2.length ca) O2 := by rw [i2]; exact r2
          have N1 := A1.norm i4
          have N2 := A2.norm i5
          rw [z1] at N1
          rw [z2] at N2
          have tr1 := trim_any (some ⟨gb, 0, none⟩) cb O1 W.drew (by rw [i1]; have := HLB9.out; omega) (by rw [i1]; have := f1.2.2.2.1; omega) i4 f1.2.2.2.2.2.natAt
          have tr2 := trim_any (some ⟨ga, 0, none⟩) ca O2 W.drew (by rw [i2]; have := HLB9.out; omega) (by rw [i2]; have := f2.2.2.2.1; omega) i5 f2.2.2.2.2.2.natAt
          rw [i1, z1] at tr1
          rw [i2, z2] at tr2
          have TR1 := Lib.hid tr1
          have TR2 := Lib.hid tr2
          have HN12 := Lib.hid (And.intro N1 N2)
          have HLW := Lib.hid (And.intro hl hs)
          have hS : W.drew.cell? ⟨z, 0, none⟩ = some (.slice (some ⟨gb, 0, none⟩) Lb cb) ∧ W.drew.cell? ⟨z + 1, 0, none⟩ = some (.slice (some ⟨ga, 0, none⟩) Lb ca) := ⟨t1.1, t2.1⟩
          clear e0 i1 i2 i3 i4 i5 u1 u2 u3 u4 u5 u6 v1 v2 r1 r2 x1 x2 t1 t2 t3 t4 t5 hs hl hd1 hd2 hM hyl hsp hh hXT hP1v hP2v hO1 hO2 z1 z2 f1 f2 A1 A2 N1 N2 tr1 tr2
          gi_wp2_with fail
          refine wpIn_region_wideT (fun w' => w'.cell? ⟨z, 0, none⟩ = some (.slice (some ⟨gb, 0, none⟩) Lb cb) ∧ w'.cell? ⟨z + 1, 0, none⟩ = some (.slice (some ⟨ga, 0, none⟩) Lb ca))
            [.yes 0, .yes 2, .no 1, .no 3, .yes 4, .yes 5] 6 (by kernel_rfl) (by kernel_rfl) rfl (by kernel_rfl) (by kernel_rfl) ?_
          repeat (refine walkT_yes rfl hS rfl (fun w' hw' => by obtain ⟨q0, q1⟩ := hw'; go_simp; rfl) ?_; simp only [Act.put, List.setIfInBounds_toArray, List.set_cons_zero, List.set_cons_succ])
          refine walkT_no rfl rfl (fun K hK2 => ?_)
          go_simp
          refine TR1.out.mono ?_
          rintro e w' ⟨rfl, rfl⟩
          refine hK2 _ _ (fun _ => hS) ?_
          clear hK2 K
          refine walkT_no rfl rfl (fun K hK2 => ?_)
          go_simp
          refine TR2.out.mono ?_
          rintro e w' ⟨rfl, rfl⟩
          refine hK2 _ _ (fun _ => hS) ?_
          clear hK2 K
          repeat (refine walkT_yes rfl hS rfl (fun w' hw' => by obtain ⟨q0, q1⟩ := hw'; go_simp; rfl) ?_; simp only [Act.put, List.setIfInBounds_toArray, List.set_cons_zero, List.set_cons_succ])
          simp only [walkT]
          refine ⟨rfl, ?_⟩
          gi_wp2_with fail
          have hsW : W0.heap.size ≤ W.drew.heap.size := by rw [HSZ.out]; exact HLW.out.2
          have b1 : Below W0.heap.size W.drew (W.drew.putObj D (.deferred none)) := below_putObj W.drew D _ hD hsW
          have hM := HM.out
          have hNQ := HQB.out
          have hGA := HGA.out
          refine ⟨by simp, .inl ⟨_, _, rfl, run_takeDeferred (show W.drew.heap[D]? = _ from hK), ?_⟩⟩
          refine ⟨_, results_tmp2 rfl _ _ _, ?_⟩
          refine ⟨_, _, Lt, X, rfl, hM.2.2.2.2.2.2.2.2.1, Nat.le_of_lt hM.2.2.2.2.2.2.1, Nat.le_trans hM.2.2.2.2.2.2.2.1 HH.out.2.1, Nat.lt_of_lt_of_le hM.2.2.2.2.2.2.1 hM.2.2.2.2.2.2.2.1, ?_, ?_, ?_, ?_⟩
          · exact HN12.out.1.of_block (b1.block gb (by rw [HSZ.out]; omega))
          · exact HN12.out.2.of_block (b1.block ga (by rw [HSZ.out]; omega))
          · intro e
            have e' : (Value.slice (some ⟨gb, 0, none⟩) (nrow Lt).length cb).ownBlock = (Value.slice (some ⟨ga, 0, none⟩) (nrow X).length ca).ownBlock := e
            have hne12 : ga ≠ gb := HH.out.2.2.2.1
            exact hne12 (by simpa [Value.ownBlock] using e'.symm)
          · exact (HLW.out.1.drew).trans (b1.mono (by rw [HSZ.out]; omega))
        case stop =>
          rintro D k W _ _ h _
          exact h.elim
      · skip
        go_simp
        obtain ⟨g10, hg10⟩ : ∃ g10, g10 = w6.heap.size := ⟨_, rfl⟩
        obtain ⟨w7, hw7⟩ : ∃ w7, w7 = (w6.alloc (.cells #[.int .u64 0, .int .u64 0, .int .u64 0, .int .u64 0, .int .u64 0] 137)).drew := ⟨_, rfl⟩
        have hs7 : Sx w7 p false LB LA NB NA := by rw [hw7]; exact Sx.drew (hs6.of_block (Below.heap_alloc _ _ _ hs6.lt))
        have hm7 : Mx w7 g10 0 0 0 0 0 := by rw [hw7, hg10]; exact heap_alloc_new _ _
        have hb7 : Below w6.heap.size w6 w7 := by rw [hw7]; exact ((Below.refl _ _).alloc (Nat.le_refl _) _).drew
        rw [← hg10, ← hw7]
        have HF := Lib.hid hg10
        refine hK _ w7 (fun _ => ⟨hs7.cell.2.1, hs7.cell.2.2.1, hs7.cell.2.2.2.1, hs7.cell.2.2.2.2⟩) rfl (fun K' hK' => ?_)
        clear hK K hw7 hg10
        go_simp
        obtain ⟨g9, hg9⟩ : ∃ g9, g9 = w7.heap.size := ⟨_, rfl⟩
        obtain ⟨w8, hw8⟩ : ∃ w8, w8 = w7.alloc (.cells #[.int .u64 0, .int .u64 0, .int .u64 0, .int .u64 0, .int .u64 0] 137) := ⟨_, rfl⟩
        have hs8 : Sx w8 p false LB LA NB NA := by rw [hw8]; exact hs7.of_block (Below.heap_alloc _ _ _ hs7.lt)
        have hm_g10 : Mx w8 g10 0 0 0 0 0 := by rw [hw8]; exact hm7.of_block (Below.heap_alloc _ _ _ hm7.lt)
        have hm_g9 : Mx w8 g9 0 0 0 0 0 := by rw [hw8, hg9]; exact heap_alloc_new _ _
        have hb8 : Below w6.heap.size w6 w8 := by rw [hw8]; exact hb7.alloc hb7.size _
        have HG : Hid (w6.heap.size ≤ g9 ∧ w6.heap.size ≤ g10 ∧ g9 ≠ g10 ∧ p < w6.heap.size) := Lib.hid (by
          have h1 := HF.out; have h2 := hm7.lt; have h3 := hb7.size; have h4 := hs6.lt
          refine ⟨by omega, by omega, by omega, h4⟩)
        rw [← hg9, ← hw8]
        refine hK' _ w8 (fun _ => ⟨hs8.cell.2.1, hs8.cell.2.2.1, hs8.cell.2.2.2.1, hs8.cell.2.2.2.2⟩) ?_
        clear hK' K' hw8 hg9 HF hb7 hm7 hs7
        obtain ⟨⟨a0, b0⟩, ⟨a1, b1⟩, ⟨a2, b2⟩, ⟨a3, b3⟩, ⟨a4, b4⟩, hfin⟩ := hm_g9.fill (m := LB) (l := LA)
        refine walkT_no rfl rfl (fun K hK => ?_)
        go_simp
        obtain ⟨w9, hw9⟩ : ∃ w9, w9 = (((((w8.setCell ⟨g9, 0, none⟩ (.int .u64 (LB : Int))).setCell ⟨g9, 1, none⟩ (.int .u64 (LA : Int))).setCell ⟨g9, 2, none⟩ (.int .u64 0)).setCell ⟨g9, 3, none⟩ (.int .u64 0)).setCell ⟨g9, 4, none⟩ (.int .u64 0)) := ⟨_, rfl⟩
        rw [← hw9] at hfin ⊢
        have n1 : g9 ≠ g10 := HG.out.2.2.1
        have n2 : g9 ≠ p := by have := HG.out; omega
        have n3 : g10 ≠ p := by have := HG.out; omega
        have hs9 : Sx w9 p false LB LA NB NA := by rw [hw9]; exact (((((hs8.other (q := ⟨g9, 0, none⟩) n2 _).other (q := ⟨g9, 1, none⟩) n2 _).other (q := ⟨g9, 2, none⟩) n2 _).other (q := ⟨g9, 3, none⟩) n2 _).other (q := ⟨g9, 4, none⟩) n2 _)
        have hn_g10 : Mx w9 g10 0 0 0 0 0 := by rw [hw9]; exact (((((hm_g10.other (q := ⟨g9, 0, none⟩) n1 _).other (q := ⟨g9, 1, none⟩) n1 _).other (q := ⟨g9, 2, none⟩) n1 _).other (q := ⟨g9, 3, none⟩) n1 _).other (q := ⟨g9, 4, none⟩) n1 _)
        have hb9 : Below w6.heap.size w6 w9 := by rw [hw9]; exact (((((hb8.setCell (p := ⟨g9, 0, none⟩) HG.out.1 _).setCell (p := ⟨g9, 1, none⟩) HG.out.1 _).setCell (p := ⟨g9, 2, none⟩) HG.out.1 _).setCell (p := ⟨g9, 3, none⟩) HG.out.1 _).setCell (p := ⟨g9, 4, none⟩) HG.out.1 _)
        refine hK _ w9 (fun _ => ⟨hs9.cell.2.1, hs9.cell.2.2.1, hs9.cell.2.2.2.1, hs9.cell.2.2.2.2⟩) ?_
        clear hK K hw9 hm_g9 hm_g10 hs8 hb8 a0 b0 a1 b1 a2 b2 a3 b3 a4 b4
        have hm_g10 := hn_g10
        have hf9 := hfin
        clear hn_g10 hfin
        obtain ⟨⟨a0, b0⟩, ⟨a1, b1⟩, ⟨a2, b2⟩, ⟨a3, b3⟩, ⟨a4, b4⟩, hfin⟩ := hm_g10.fill (m := NA) (l := NB)
        refine walkT_no rfl rfl (fun K hK => ?_)
        go_simp
        obtain ⟨w10, hw10⟩ : ∃ w10, w10 = (((((w9.setCell ⟨g10, 0, none⟩ (.int .u64 (NA : Int))).setCell ⟨g10, 1, none⟩ (.int .u64 (NB : Int))).setCell ⟨g10, 2, none⟩ (.int .u64 0)).setCell ⟨g10, 3, none⟩ (.int .u64 0)).setCell ⟨g10, 4, none⟩ (.int .u64 0)) := ⟨_, rfl⟩
        rw [← hw10] at hfin ⊢
        have hx9 : Mx w10 g9 LB LA 0 0 0 := by rw [hw10]; exact (((((hf9.other (q := ⟨g10, 0, none⟩) (Ne.symm n1) _).other (q := ⟨g10, 1, none⟩) (Ne.symm n1) _).other (q := ⟨g10, 2, none⟩) (Ne.symm n1) _).other (q := ⟨g10, 3, none⟩) (Ne.symm n1) _).other (q := ⟨g10, 4, none⟩) (Ne.symm n1) _)
        have hb10 : Below w6.heap.size w6 w10 := by rw [hw10]; exact (((((hb9.setCell (p := ⟨g10, 0, none⟩) HG.out.2.1 _).setCell (p := ⟨g10, 1, none⟩) HG.out.2.1 _).setCell (p := ⟨g10, 2, none⟩) HG.out.2.1 _).setCell (p := ⟨g10, 3, none⟩) HG.out.2.1 _).setCell (p := ⟨g10, 4, none⟩) HG.out.2.1 _)
        refine hK _ w10 (fun h => absurd h (by decide)) ?_
        have HM9 := Lib.hid hx9
        have HM10 := Lib.hid hfin
        have HB10 := Lib.hid (hb6.trans (hb10.mono hb6.size))
        have HC0a := Lib.hid (c06.below hb10 c06.lt)
        have HC1a := Lib.hid (c16.below hb10 c16.lt)
        have d0 := HC0a.out.1
        have d1 := HC1a.out.1
        clear hK K hw10 hm_g10 hs9 hb9 hf9 hx9 hfin hb10 a0 b0 a1 b1 a2 b2 a3 b3 a4 b4 n1 n2 n3 j0 j1 j2 j3 j4 hS
        simp only [walkT]
        refine ⟨rfl, ?_⟩
        have c0b := HC0a.out.alloc (.cells #[.int .i64 0] 3)
        have c1b := HC1a.out.alloc (.cells #[.int .i64 0] 3)
        have d2 := c0b.1
        have d3 := c1b.1
        gi_wp2_with (gi_at_call 79; refine (callsIn_wide.2 (pairs_any _ _ _ _ _ _ _)).mono ?_; rintro e w' ⟨rfl, rfl⟩)
        obtain ⟨q, hq⟩ : ∃ q, q = w10.heap.size := ⟨_, rfl⟩
        obtain ⟨P1, hP1⟩ : ∃ P1, P1 = nrow y := ⟨_, rfl⟩
        obtain ⟨P2, hP2⟩ : ∃ P2, P2 = (nrow x).take Lb := ⟨_, rfl⟩
        rw [← hq]
        simp only [Nat.add_assoc, Nat.reduceAdd]
        obtain ⟨t0, s0, l0⟩ := box_next hq (.int .i64 0) 3
        obtain ⟨t1, s1, l1⟩ := box_next s0 (.slice (some ⟨gb, 0, none⟩) Lb cb) 31
        obtain ⟨t2, s2, l2⟩ := box_next s1 (.slice (some ⟨ga, 0, none⟩) Lb ca) 31
        have t0' := (t0.alloc (.cells #[.slice (some ⟨gb, 0, none⟩) Lb cb] 31)).alloc (.cells #[.slice (some ⟨ga, 0, none⟩) Lb ca] 31)
        have t1' := t1.alloc (.cells #[.slice (some ⟨ga, 0, none⟩) Lb ca] 31)
        obtain ⟨W0, hW0⟩ : ∃ W0, W0 = (((w10.alloc (.cells #[.int .i64 0] 3)).alloc (.cells #[.slice (some ⟨gb, 0, none⟩) Lb cb] 31)).alloc (.cells #[.slice (some ⟨ga, 0, none⟩) Lb ca] 31)) := ⟨_, rfl⟩
        rw [← hW0] at t0' t1' t2 s2 l2 ⊢
        have hsz : W0.heap.size = q + 3 := s2.symm
        have hbW : Below q w10 W0 := by
          have h := (l0.trans (l1.mono l0.size)).trans (l2.mono (l0.trans (l1.mono l0.size)).size)
          rw [hq]; exact h
        have hbq : Below w.heap.size w W0 := HB10.out.trans (hbW.mono (by rw [hq]; exact HB10.out.size))
        have hlx : P1.length = Lb ∧ Fits P1 ∧ P2.length = Lb ∧ Fits P2 := by
          rw [hP1, hP2]
          have h1 := HM.out.2.2.2.2.2.2.2.2.2
          have h2 := HL.out.1
          have h3 := HL.out.2.1
          refine ⟨?_, ?_, ?_, ?_⟩ <;> first | exact nrow_fits _ | exact fits_take (nrow_fits _) _ | (rw [List.length_take, ← h2]; omega) | exact h3.symm
        have hrow : ∀ W, Below w.heap.size w W → NRow B W (.slice (some ⟨ga, 0, none⟩) Lb ca) ((nrow x).take Lb) ∧ NRow B W (.slice (some ⟨gb, 0, none⟩) Lb cb) (nrow y) := fun W hW => by
          have h1 := HM.out.2.2.2.2.2.2.2.2.2
          have h2 := HL.out.1
          have h3 := HL.out.2.1
          refine ⟨?_, by rw [h3]; exact HRB.out.below hW (Nat.le_refl _)⟩
          have h4 := HRA.out.below hW (Nat.le_refl _)
          rw [← h2] at h4
          have h5 := NRow.take (L := (nrow x).take Lb) (M := (nrow x).drop Lb) (by rw [List.take_append_drop]; exact h4)
          rw [List.length_take, ← h2, Nat.min_eq_left h1] at h5
          exact h5
        have hga : ga < w.heap.size ∧ gb < w.heap.size ∧ B ≤ ga ∧ B ≤ gb := ⟨HRA.out.seg.2.2.2.2.2.block, HRB.out.seg.2.2.2.2.2.block, HRA.out.seg.2.2.1, HRB.out.seg.2.2.1⟩
        have hqb : w6.heap.size ≤ q ∧ w.heap.size ≤ z ∧ z + 1 < q ∧ g9 < q ∧ g10 < q := by
          have h1 := HM9.out.lt; have h2 := HM10.out.lt; have h3 := HC1a.out.lt; have h4 := HZ.out.1; have h5 := HG.out
          refine ⟨by omega, by omega, by omega, by omega, by omega⟩
        have hbB : Below B w W0 := hbq.mono HH.out.2.2.2.2
        obtain ⟨rA, rB⟩ := hrow W0 hbq
        have hNx0 : NxAt B z q g9 g10 gb ga cb ca Lb LB LA NA NB P1 P2 w 0 W0 :=
          ⟨[], [], 0, 0, 0, 0, 0, 0, ⟨rfl, rfl, Nat.zero_le _, fun _ h => (by cases h), fun _ h => (by cases h)⟩, ⟨by decide, by decide, by decide, by decide, by decide, by decide⟩, by simp [lv], by simp [lv],
            by rw [hP1]; exact rB, by rw [hP2]; exact rA, HM9.out.of_block (hbW.block g9 hqb.2.2.2.1), HM10.out.of_block (hbW.block g10 hqb.2.2.2.2), HC0a.out.below hbW (by omega), HC1a.out.below hbW (by omega), t0', t1', t2, Nat.le_of_eq hsz.symm, hbB⟩
        obtain ⟨X', hX'⟩ : ∃ X' : Nat → Nat, ∀ k, X' k = P1.getD k 0 := ⟨_, fun _ => rfl⟩
        obtain ⟨Y', hY'⟩ : ∃ Y' : Nat → Nat, ∀ k, Y' k = P2.getD k 0 := ⟨_, fun _ => rfl⟩
        have HX := Lib.hid hX'
        have HY := Lib.hid hY'
        have HLX := Lib.hid hlx
        have HSZ := Lib.hid hsz
        have HGA := Lib.hid hga
        have HQB := Lib.hid hqb
        have HPP := Lib.hid (And.intro hP1 hP2)
        have HLB9 : Hid (Lb ≤ 1048578) := Lib.hid (by omega)
        have HQ := Lib.hid hq
        clear hX' hY' hlx hsz hga hqb hP1 hP2 t0 t1 t2 t0' t1' s0 s1 s2 l0 l1 l2 hW0 hbW hbq hbB rA rB hrow d0 d1 d2 d3 c0b c1b c06 c16 hs6 hb6 hq
        refine wpIn_range_at (m := 1) (gf := 89) (lb := #[.pointer (some ⟨q + 1, 0, none⟩), .pointer (some ⟨q + 2, 0, none⟩)]) rfl (enters_of Tryd.func89 (by kernel_rfl) rfl) (pairs_at (q + 1) (q + 2) (some ⟨gb, 0, none⟩) (some ⟨ga, 0, none⟩) cb ca P1 P2 X' Y' HX.out HY.out (by rw [HLX.out.1]; have := HLB9.out; omega) (by rw [HLX.out.2.2.1]; have := HLB9.out; omega)) (fun _ => rfl)
          (NxAt B z q g9 g10 gb ga cb ca Lb LB LA NA NB P1 P2 w) (fun _ _ => False) (fun k W W' hb' h => h.below (by have := HQB.out; omega) (by have := HQB.out; omega) (by have := HQB.out; omega) (by have := HQB.out; have := HGA.out; omega) (by have := HQB.out; have := HGA.out; omega) (by have := HQB.out; have := HGA.out; omega) (by rw [← HSZ.out]; exact hb')) (fun _ _ _ _ h => h)
          (fun k W h => by obtain ⟨O1, O2, e1, o1, b1, e2, o2, b2, i1, i2, i3, i4, r1, r2, x1, x2, t1, t2, t3, t4, t5, hs, hl⟩ := h; rw [HSZ.out]; exact hs) (fun _ _ h => h.elim)
          (fun k W h => by
            obtain ⟨O1, O2, e1, o1, b1, e2, o2, b2, i1, i2, i3, i4, r1, r2, x1, x2, t1, t2, t3, t4, t5, hs, hl⟩ := h
            have f1 := r1.seg
            have f2 := r2.seg
            exact ⟨by rw [HLX.out.1]; exact t4.1, by rw [HLX.out.2.2.1]; exact t5.1, f1.2.2.2.2.2.from i1.1 (by rw [HLX.out.1]; exact i1.2.2.1), f2.2.2.2.2.2.from i1.2.1 (by rw [HLX.out.2.2.1]; exact i1.2.2.1)⟩) hNx0
          (fun k => { tmps := #[.slice (some ⟨ga, 0, none⟩) La ca, .slice (some ⟨gb, 0, none⟩) Lb cb, .pointer (some ⟨z, 0, none⟩), .pointer (some ⟨z + 1, 0, none⟩), .slice none 0 0, .slice none 0 0, .pointer (some ⟨p, 0, none⟩), undef, undef, .pointer (some ⟨g9, 0, none⟩), .pointer (some ⟨g10, 0, none⟩), .pointer (some ⟨q, 0, none⟩), .int .u64 ((X' k : Nat) : Int), .int .u64 ((Y' k : Nat) : Int),
            .slice (some ⟨ga, 0, none⟩) La ca, .slice (some ⟨gb, 0, none⟩) Lb cb, .tuple #[.int .u64 (xh : Int), .int .u64 (yh : Int)], .int .u64 (xh : Int), .int .u64 (yh : Int), .agg #[.bool true, .int .u64 (LA : Int), .int .u64 (LB : Int), .int .u64 (NA : Int), .int .u64 (NB : Int)], .pointer (some ⟨p, 2, none⟩), .int .u64 (LB : Int), .bool false, undef, undef, undef, undef, undef, undef, undef, undef, .slice (some ⟨ga, 0, none⟩) La ca, .slice (some ⟨gb, 0, none⟩) Lb cb, .int .i64 (Lb : Int), .slice (some ⟨ga, 0, none⟩) Lb ca, .pointer (some ⟨p, 0, none⟩), .bool true, .slice (some ⟨gb, 0, none⟩) Lb cb, .slice (some ⟨ga, 0, none⟩) Lb ca, .agg #[.bool true, .int .u64 (LA : Int), .int .u64 (LB : Int), .int .u64 (NA : Int), .int .u64 (NB : Int)], .agg #[.bool false, .int .u64 (LB : Int), .int .u64 (LA : Int), .int .u64 (NB : Int), .int .u64 (NA : Int)], .pointer (some ⟨p, 1, none⟩), .int .u64 (LB : Int), .pointer (some ⟨p, 2, none⟩), .int .u64 (LA : Int), .agg #[.int .u64 (LB : Int), .int .u64 (LA : Int), .int .u64 0, .int .u64 0, .int .u64 0], .pointer (some ⟨p, 4, none⟩), .int .u64 (NA : Int), .pointer (some ⟨p, 3, none⟩), .int .u64 (NB : Int), .agg #[.int .u64 (NA : Int), .int .u64 (NB : Int), .int .u64 0, .int .u64 0, .int .u64 0],
            .slice (some ⟨gb, 0, none⟩) Lb cb, .slice (some ⟨ga, 0, none⟩) Lb ca, .func (.func 89) #[] #[.pointer (some ⟨q + 1, 0, none⟩), .pointer (some ⟨q + 2, 0, none⟩)], .int .u64 ((X' k : Nat) : Int), .int .u64 ((Y' k : Nat) : Int),
            undef, undef, undef, undef, undef, undef, undef, undef, undef, undef, undef, undef, undef, undef, undef, undef, undef, undef], defers := [] })
          ?assign ?body ?done ?stop
        case assign =>
          intro l k W K hK
          gi_wp2
          exact hK
        case body =>
          rintro l k W hk ⟨O1, O2, e1, o1, b1, e2, o2, b2, ⟨i1, i2, i3, i4, i5⟩, ⟨u1, u2, u3, u4, u5, u6⟩, v1, v2, r1, r2, x1, x2, t1, t2, t3, t4, t5, hs, hl⟩
          have hxA : X' k = P1.getD k 0 := HX.out k
          have hyB : Y' k = P2.getD k 0 := HY.out k
          generalize X' k = xx at hxA ⊢
          generalize Y' k = yy at hyB ⊢
          have hkL : k < Lb := by rw [← HLX.out.1]; exact hk
          have hkI : (k : Int) < (Lb : Int) := by omega
          have hk0 : (0 : Int) ≤ (k : Int) := by omega
          have hk9 : (k : Int) ≤ 1048578 := by have := HLB9.out; omega
          have hxx : xx < 18446744073709551616 := by rw [hxA]; exact getD_fits HLX.out.2.1 k
          have hyy : yy < 18446744073709551616 := by rw [hyB]; exact getD_fits HLX.out.2.2.2 k
          have v1' := v1
          have v2' := v2
          have HI := Lib.hid (And.intro i1 (And.intro i2 (And.intro i3 (And.intro i4 i5))))
          have HV := Lib.hid (And.intro v1 v2)
          have HXY := Lib.hid (And.intro hxA hyB)
          have hbx := hs
          clear hxA hyB v1 v2 v1' v2' i1 i2 i3 i4 i5 hk
          gi_wp2
          refine wpIn_region_calmT (fun w' => w'.cell? ⟨z, 0, none⟩ = some (.slice (some ⟨gb, 0, none⟩) Lb cb) ∧ w'.cell? ⟨z + 1, 0, none⟩ = some (.slice (some ⟨ga, 0, none⟩) Lb ca) ∧ w'.cell? ⟨q, 0, none⟩ = some (.int .i64 (k : Int)))
            [.yes 0, .yes 1, .yes 2, .yes 3, .yes 4, .yes 5, .yes 7, .yes 8, .no 6, .no 9, .yes 10, .no 11, .yes 12, .no 13] 13 (by kernel_rfl) (by kernel_rfl) (by kernel_rfl) rfl (by kernel_rfl) (by kernel_rfl) ?_
          have hS : W.drew.cell? ⟨z, 0, none⟩ = some (.slice (some ⟨gb, 0, none⟩) Lb cb) ∧ W.drew.cell? ⟨z + 1, 0, none⟩ = some (.slice (some ⟨ga, 0, none⟩) Lb ca) ∧ W.drew.cell? ⟨q, 0, none⟩ = some (.int .i64 (k : Int)) := ⟨t1.1, t2.1, t3.1⟩
          repeat (refine walkT_yes rfl hS rfl (fun w' hw' => by obtain ⟨q0, q1, q2⟩ := hw'; go_simp; rfl) ?_; simp only [Act.put, List.setIfInBounds_toArray, List.set_cons_zero, List.set_cons_succ])
          refine walkT_no rfl rfl (fun K hK => ?_)
          go_simp
          have hM4 := HM.out
          refine (mix_any g9 xx yy LB LA e1 o1 b1 W.drew hxx hyy (by omega) (by omega) u1 u2 u3 x1).mono ?_
          rintro e W1 ⟨ra, e1', o1', b1', rfl, ha1, ha2, ha3, ha4, haM, hxa, hga1⟩
          have hN := HG.out
          have hNQ := HQB.out
          have hPZ := HPZ.out
          have hGA := HGA.out
          have hne12 : ga ≠ gb := HH.out.2.2.2.1
          have T1 : Box W1 z (.slice (some ⟨gb, 0, none⟩) Lb cb) := t1.drew.of_block (hga1.block z t1.lt (fun e => by cases e; omega))
          have T2 : Box W1 (z + 1) (.slice (some ⟨ga, 0, none⟩) Lb ca) := t2.drew.of_block (hga1.block (z + 1) t2.lt (fun e => by cases e; omega))
          have T3 : Box W1 q (.int .i64 (k : Int)) := t3.drew.of_block (hga1.block q t3.lt (fun e => by cases e; omega))
          have X1 : Mx W1 g10 NA NB e2 o2 b2 := x2.of_block (hga1.block g10 x2.lt (fun e => by cases e; omega))
          have A1 := r1.of_block (hga1.block gb r1.seg.2.2.2.2.2.block (fun e => by cases e; omega))
          have A2 := r2.of_block (hga1.block ga r2.seg.2.2.2.2.2.block (fun e => by cases e; omega))
          refine hK _ W1 (fun _ => ⟨T1.1, T2.1, T3.1⟩) ?_
          clear hK K
          refine walkT_no rfl rfl (fun K hK => ?_)
          go_simp
          refine (mix_any g10 yy xx NA NB e2 o2 b2 W1 hyy hxx (by omega) (by omega) u4 u5 u6 X1).mono ?_
          rintro e W2 ⟨rb, e2', o2', b2', rfl, hb1, hb2, hb3, hb4, hbM, hxb, hgb1⟩
          have U1 : Box W2 z (.slice (some ⟨gb, 0, none⟩) Lb cb) := T1.of_block (hgb1.block z T1.lt (fun e => by cases e; omega))
          have U2 : Box W2 (z + 1) (.slice (some ⟨ga, 0, none⟩) Lb ca) := T2.of_block (hgb1.block (z + 1) T2.lt (fun e => by cases e; omega))
          have U3 : Box W2 q (.int .i64 (k : Int)) := T3.of_block (hgb1.block q T3.lt (fun e => by cases e; omega))
          have Y1 : Mx W2 g9 LB LA e1' o1' b1' := hxa.of_block (hgb1.block g9 hxa.lt (fun e => by cases e; omega))
          have B1 := A1.of_block (hgb1.block gb A1.seg.2.2.2.2.2.block (fun e => by cases e; omega))
          have B2 := A2.of_block (hgb1.block ga A2.seg.2.2.2.2.2.block (fun e => by cases e; omega))
          refine hK _ W2 (fun _ => ⟨U1.1, U2.1, U3.1⟩) ?_
          clear hK K
          have hl1 : k < (O1 ++ P1.drop k).length := by rw [List.length_append, List.length_drop, HI.out.1, HLX.out.1]; omega
          have hl2 : k < (O2 ++ P2.drop k).length := by rw [List.length_append, List.length_drop, HI.out.2.1, HLX.out.2.2.1]; omega
          have cc1 := B1.seg.2.2.2.2.2.cell hl1
          have cf1 := B1.seg.2.2.2.2.2.frozen k
          rw [Nat.zero_add] at cc1
          have hS2 : W2.cell? ⟨z, 0, none⟩ = some (.slice (some ⟨gb, 0, none⟩) Lb cb) ∧ W2.cell? ⟨z + 1, 0, none⟩ = some (.slice (some ⟨ga, 0, none⟩) Lb ca) ∧ W2.cell? ⟨q, 0, none⟩ = some (.int .i64 (k : Int)) := ⟨U1.1, U2.1, U3.1⟩
          refine walkT_yes rfl hS2 rfl (fun w' hw' => by obtain ⟨q0, q1, q2⟩ := hw'; go_simp; rfl) ?_
          simp only [Act.put, List.setIfInBounds_toArray, List.set_cons_zero, List.set_cons_succ]
          refine walkT_no rfl rfl (fun K hK => ?_)
          go_simp
          obtain ⟨W3, hW3⟩ : ∃ W3, W3 = W2.setCell ⟨gb, k, none⟩ (.int .u64 (ra : Int)) := ⟨_, rfl⟩
          have V1 : Box W3 z (.slice (some ⟨gb, 0, none⟩) Lb cb) := by rw [hW3]; exact U1.other (p := ⟨gb, k, none⟩) (by show gb ≠ z; omega) _
          have V2 : Box W3 (z + 1) (.slice (some ⟨ga, 0, none⟩) Lb ca) := by rw [hW3]; exact U2.other (p := ⟨gb, k, none⟩) (by show gb ≠ z + 1; omega) _
          have V3 : Box W3 q (.int .i64 (k : Int)) := by rw [hW3]; exact U3.other (p := ⟨gb, k, none⟩) (by show gb ≠ q; omega) _
          have C1 := B1.setAt (x := ra) hl1
          rw [← hW3] at C1
          have C2 : NRow B W3 (.slice (some ⟨ga, 0, none⟩) Lb ca) (O2 ++ P2.drop k) := by rw [hW3]; exact B2.of_block (Below.heap_setCell _ ⟨gb, k, none⟩ _ _ (fun e => hne12 (by simpa using e)))
          have cc2 := C2.seg.2.2.2.2.2.cell hl2
          have cf2 := C2.seg.2.2.2.2.2.frozen k
          rw [Nat.zero_add] at cc2
          have hS3 : W3.cell? ⟨z, 0, none⟩ = some (.slice (some ⟨gb, 0, none⟩) Lb cb) ∧ W3.cell? ⟨z + 1, 0, none⟩ = some (.slice (some ⟨ga, 0, none⟩) Lb ca) ∧ W3.cell? ⟨q, 0, none⟩ = some (.int .i64 (k : Int)) := ⟨V1.1, V2.1, V3.1⟩
          rw [← hW3]
          refine hK _ W3 (fun _ => hS3) ?_
          have HW3 := Lib.hid hW3
          clear hK K hW3
          refine walkT_yes rfl hS3 rfl (fun w' hw' => by obtain ⟨q0, q1, q2⟩ := hw'; go_simp; rfl) ?_
          simp only [Act.put, List.setIfInBounds_toArray, List.set_cons_zero, List.set_cons_succ]
          refine walkT_no rfl rfl (fun K hK => ?_)
          go_simp
          obtain ⟨W4, hW4⟩ : ∃ W4, W4 = W3.setCell ⟨ga, k, none⟩ (.int .u64 (rb : Int)) := ⟨_, rfl⟩
          have Z1 : Box W4 z (.slice (some ⟨gb, 0, none⟩) Lb cb) := by rw [hW4]; exact V1.other (p := ⟨ga, k, none⟩) (by show ga ≠ z; omega) _
          have Z2 : Box W4 (z + 1) (.slice (some ⟨ga, 0, none⟩) Lb ca) := by rw [hW4]; exact V2.other (p := ⟨ga, k, none⟩) (by show ga ≠ z + 1; omega) _
          have Z3 : Box W4 q (.int .i64 (k : Int)) := by rw [hW4]; exact V3.other (p := ⟨ga, k, none⟩) (by show ga ≠ q; omega) _
          have D2 := C2.setAt (x := rb) hl2
          rw [← hW4] at D2 ⊢
          have D1 : NRow B W4 (.slice (some ⟨gb, 0, none⟩) Lb cb) ((O1 ++ P1.drop k).set k ra) := by rw [hW4]; exact C1.of_block (Below.heap_setCell _ ⟨ga, k, none⟩ _ _ (fun e => hne12 (by simpa using e.symm)))
          have E1 : Mx W4 g9 LB LA e1' o1' b1' := by rw [hW4, HW3.out]; exact (Y1.other (q := ⟨gb, k, none⟩) (by show gb ≠ g9; omega) _).other (q := ⟨ga, k, none⟩) (by show ga ≠ g9; omega) _
          have E2 : Mx W4 g10 NA NB e2' o2' b2' := by rw [hW4, HW3.out]; exact (hxb.other (q := ⟨gb, k, none⟩) (by show gb ≠ g10; omega) _).other (q := ⟨ga, k, none⟩) (by show ga ≠ g10; omega) _
          have hke : KeepsFrom W0.heap.size W W4 := by
            have h1 : KeepsFrom W0.heap.size W W2 := keeps_grown (keeps_grown (keeps_drew (KeepsFrom.refl _ W)) hga1 (by rw [HSZ.out]; omega)) hgb1 (by rw [HSZ.out]; omega)
            rw [hW4, HW3.out]
            exact keeps_set (keeps_set h1 _ _) _ _
          have S4 : Box W4 (q + 1) (.slice (some ⟨gb, 0, none⟩) Lb cb) := by
            rw [hW4, HW3.out]
            exact ((((t4.drew.of_block (hga1.block (q + 1) t4.lt (fun e => by cases e; omega))).of_block (hgb1.block (q + 1) (Nat.lt_of_lt_of_le t4.lt hga1.size) (fun e => by cases e; omega))).other (p := ⟨gb, k, none⟩) (by show gb ≠ q + 1; omega) _).other (p := ⟨ga, k, none⟩) (by show ga ≠ q + 1; omega) _)
          have S5 : Box W4 (q + 2) (.slice (some ⟨ga, 0, none⟩) Lb ca) := by
            rw [hW4, HW3.out]
            exact ((((t5.drew.of_block (hga1.block (q + 2) t5.lt (fun e => by cases e; omega))).of_block (hgb1.block (q + 2) (Nat.lt_of_lt_of_le t5.lt hga1.size) (fun e => by cases e; omega))).other (p := ⟨gb, k, none⟩) (by show gb ≠ q + 2; omega) _).other (p := ⟨ga, k, none⟩) (by show ga ≠ q + 2; omega) _)
          have hsz4 : q + 3 ≤ W4.heap.size := by
            rw [hW4, HW3.out, size_set, size_set]
            exact Nat.le_trans hs (Nat.le_trans hga1.size hgb1.size)
          have hl4 : Below B w W4 := by
            have h1 := (hl.drew).grown hga1 (Nat.le_trans (Nat.le_trans (show B ≤ w.heap.size from HH.out.2.2.2.2) hl.size) (Nat.le_refl _)) (fun g hg => by cases hg; omega)
            have h2 := h1.grown hgb1 (Nat.le_trans HH.out.2.2.2.2 h1.size) (fun g hg => by cases hg; omega)
            rw [hW4, HW3.out]
            exact (h2.setCell (p := ⟨gb, k, none⟩) (by show B ≤ gb; omega) _).setCell (p := ⟨ga, k, none⟩) (by show B ≤ ga; omega) _
          have HKE := Lib.hid hke
          have HD := Lib.hid (And.intro D1 D2)
          have HE := Lib.hid (And.intro E1 E2)
          have HZZ := Lib.hid (And.intro Z1 (And.intro Z2 (And.intro Z3 (And.intro S4 (And.intro S5 (And.intro hsz4 hl4))))))
          have HR1 := Lib.hid (And.intro ha1 (And.intro ha2 (And.intro ha3 (And.intro ha4 haM))))
          have HR2 := Lib.hid (And.intro hb1 (And.intro hb2 (And.intro hb3 (And.intro hb4 hbM))))
          have zc := Z3.1
          have zf := Z3.2
          refine hK _ W4 (fun h => absurd h (by decide)) ?_
          clear hK K hW4 cc1 cf1 cc2 cf2 hS hS2 hS3 A1 A2 B1 B2 C1 C2 D1 D2 E1 E2 Y1 X1 U1 U2 U3 V1 V2 V3 T1 T2 T3 hxa hxb hga1 hgb1 haM hbM hke S4 S5 hsz4 hl4 Z1 Z2 Z3
          simp only [walkT]
          refine ⟨rfl, ?_⟩
          gi_wp2
          have hI := HI.out
          have hR1 := HR1.out
          have hR2 := HR2.out
          have hZ := HZZ.out
          have hNQ := HQB.out
          have hGA := HGA.out
          have hN := HG.out
          have hP : 2 ^ (64 * (k + 1)) = 2 ^ (64 * k) * 18446744073709551616 := by rw [show 64 * (k + 1) = 64 * k + 64 by omega, Nat.pow_add]
          have q1 := mix_step HV.out.1 hR1.2.2.2.2
          have q2 := mix_step HV.out.2 hR2.2.2.2.2
          have w1 := lv_take_succ' P1 k
          have w2 := lv_take_succ' P2 k
          rw [← HXY.out.1] at w1
          rw [← HXY.out.2] at w2
          have hkP1 : k < P1.length := by rw [HLX.out.1]; exact hkL
          have hkP2 : k < P2.length := by rw [HLX.out.2.2.1]; exact hkL
          have w3 := set_mid (x := ra) hI.1 hkP1
          have w4 := set_mid (x := rb) hI.2.1 hkP2
          have hD1 := HD.out.1
          have hD2 := HD.out.2
          rw [w3] at hD1
          rw [w4] at hD2
          refine ⟨keeps_set HKE.out _ _, O1 ++ [ra], O2 ++ [rb], e1', o1', b1', e2', o2', b2', ⟨by rw [List.length_append, hI.1]; rfl, by rw [List.length_append, hI.2.1]; rfl, hkL, fits_snoc hI.2.2.2.1 hR1.1, fits_snoc hI.2.2.2.2 hR2.1⟩, ⟨hR1.2.1, hR1.2.2.1, hR1.2.2.2.1, hR2.2.1, hR2.2.2.1, hR2.2.2.2.1⟩, ?_, ?_,
            hD1.of_block (Below.heap_setCell _ ⟨q, 0, none⟩ _ _ (by show gb ≠ q; omega)), hD2.of_block (Below.heap_setCell _ ⟨q, 0, none⟩ _ _ (by show ga ≠ q; omega)), HE.out.1.other (q := ⟨q, 0, none⟩) (by show q ≠ g9; omega) _, HE.out.2.other (q := ⟨q, 0, none⟩) (by show q ≠ g10; omega) _,
            hZ.1.other (p := ⟨q, 0, none⟩) (by show q ≠ z; omega) _, hZ.2.1.other (p := ⟨q, 0, none⟩) (by show q ≠ z + 1; omega) _, hZ.2.2.1.set _, hZ.2.2.2.1.other (p := ⟨q, 0, none⟩) (by show q ≠ q + 1; omega) _, hZ.2.2.2.2.1.other (p := ⟨q, 0, none⟩) (by show q ≠ q + 2; omega) _,
            by rw [size_set]; exact hZ.2.2.2.2.2.1, hZ.2.2.2.2.2.2.setCell (p := ⟨q, 0, none⟩) (by show B ≤ q; omega) _⟩
          · rw [lv_snoc, hI.1, w1, w2, hP]; exact q1
          · rw [lv_snoc, hI.2.1, w1, w2, hP]; exact q2
        case done =>
          rintro D W hD ⟨O1, O2, e1, o1, b1, e2, o2, b2, ⟨i1, i2, i3, i4, i5⟩, ⟨u1, u2, u3, u4, u5, u6⟩, v1, v2, r1, r2, x1, x2, t1, t2, t3, t4, t5, hs, hl⟩ hK
          have e0 := HLX.out.1
          rw [e0] at i1 i2 i3 v1 v2 r1 r2 t3
          have hd1 : P1.drop Lb = [] := List.drop_eq_nil_of_le (Nat.le_of_eq HLX.out.1)
          have hd2 : P2.drop Lb = [] := List.drop_eq_nil_of_le (Nat.le_of_eq HLX.out.2.2.1)
          rw [hd1, List.append_nil] at r1
          rw [hd2, List.append_nil] at r2
          rw [List.take_of_length_le (Nat.le_of_eq HLX.out.1), List.take_of_length_le (Nat.le_of_eq HLX.out.2.2.1)] at v1 v2
          have hM := HM.out
          have hyl : y < 2 ^ (64 * Lb) := by have := lv_lt (nrow_fits y); rw [lv_nrow, ← HL.out.2.1] at this; exact this
          have hsp := lv_split (nrow x) (k := Lb) (by rw [← HL.out.1]; exact hM.2.2.2.2.2.2.2.2.2)
          rw [lv_nrow] at hsp
          obtain ⟨h, hh⟩ : ∃ h, h = lv ((nrow x).drop Lb) := ⟨_, rfl⟩
          obtain ⟨XT, hXT⟩ : ∃ XT, XT = lv ((nrow x).take Lb) := ⟨_, rfl⟩
          rw [← hh, ← hXT] at hsp
          have hP1v : lv P1 = y := by rw [HPP.out.1]; exact lv_nrow y
          have hP2v : lv P2 = XT := by rw [HPP.out.2]; exact hXT.symm
          rw [hP1v, hP2v] at v1 v2
          have hO1 : lv O1 < 2 ^ (64 * Lb) := by rw [← i1]; exact lv_lt i4
          have hO2 : lv O2 < 2 ^ (64 * Lb) := by rw [← i2]; exact lv_lt i5
          have z1 : lv O1 = Lt := mix_done (u := 0) (v := LA * h) v1 (by
            have h9 := hM.2.2.2.2.2.1
            rw [hsp] at h9
            simp only [dl] at h9
            have : ((LB * y + 2 ^ (64 * Lb) * (0) : Nat) : Int) = ((Lt + LA * XT + 2 ^ (64 * Lb) * (LA * h) : Nat) : Int) := by push_cast at h9 ⊢; grind
            exact_mod_cast this) hO1 (Nat.lt_of_le_of_lt hM.2.2.2.2.2.2.2.1 hyl)
          have z2 : lv O2 = X := mix_done (u := NA * h) (v := 0) v2 (by
            have h9 := hM.2.2.2.2.1
            rw [hsp] at h9
            simp only [dl] at h9
            have : ((NA * XT + 2 ^ (64 * Lb) * (NA * h) : Nat) : Int) = ((X + NB * y + 2 ^ (64 * Lb) * (0) : Nat) : Int) := by push_cast at h9 ⊢; grind
            exact_mod_cast this) hO2 (Nat.lt_of_lt_of_le hM.2.2.2.2.2.2.1 (Nat.le_of_lt (Nat.lt_of_le_of_lt hM.2.2.2.2.2.2.2.1 hyl)))
          have f1 := r1.seg
          have f2 := r2.seg
          have A1 : NRow B W (.slice (some ⟨gb, 0, none⟩) O1.length cb) O1 := by rw [i1]; exact r1
          have A2 : NRow B W (.slice (some ⟨ga, 0, none⟩) O2.length ca) O2 := by rw [i2]; exact r2
          have N1 := A1.norm i4
          have N2 := A2.norm i5
          rw [z1] at N1
          rw [z2] at N2
          have tr1 := trim_any (some ⟨gb, 0, none⟩) cb O1 W.drew (by rw [i1]; have := HLB9.out; omega) (by rw [i1]; have := f1.2.2.2.1; omega) i4 f1.2.2.2.2.2.natAt
          have tr2 := trim_any (some ⟨ga, 0, none⟩) ca O2 W.drew (by rw [i2]; have := HLB9.out; omega) (by rw [i2]; have := f2.2.2.2.1; omega) i5 f2.2.2.2.2.2.natAt
          rw [i1, z1] at tr1
          rw [i2, z2] at tr2
          have TR1 := Lib.hid tr1
          have TR2 := Lib.hid tr2
          have HN12 := Lib.hid (And.intro N1 N2)
          have HLW := Lib.hid (And.intro hl hs)
          have hS : W.drew.cell? ⟨z, 0, none⟩ = some (.slice (some ⟨gb, 0, none⟩) Lb cb) ∧ W.drew.cell? ⟨z + 1, 0, none⟩ = some (.slice (some ⟨ga, 0, none⟩) Lb ca) := ⟨t1.1, t2.1⟩
          clear e0 i1 i2 i3 i4 i5 u1 u2 u3 u4 u5 u6 v1 v2 r1 r2 x1 x2 t1 t2 t3 t4 t5 hs hl hd1 hd2 hM hyl hsp hh hXT hP1v hP2v hO1 hO2 z1 z2 f1 f2 A1 A2 N1 N2 tr1 tr2
          gi_wp2_with fail
          refine wpIn_region_wideT (fun w' => w'.cell? ⟨z, 0, none⟩ = some (.slice (some ⟨gb, 0, none⟩) Lb cb) ∧ w'.cell? ⟨z + 1, 0, none⟩ = some (.slice (some ⟨ga, 0, none⟩) Lb ca))
            [.yes 0, .yes 2, .no 1, .no 3, .yes 4, .yes 5] 6 (by kernel_rfl) (by kernel_rfl) rfl (by kernel_rfl) (by kernel_rfl) ?_
          repeat (refine walkT_yes rfl hS rfl (fun w' hw' => by obtain ⟨q0, q1⟩ := hw'; go_simp; rfl) ?_; simp only [Act.put, List.setIfInBounds_toArray, List.set_cons_zero, List.set_cons_succ])
          refine walkT_no rfl rfl (fun K hK2 => ?_)
          go_simp
          refine TR1.out.mono ?_
          rintro e w' ⟨rfl, rfl⟩
          refine hK2 _ _ (fun _ => hS) ?_
          clear hK2 K
          refine walkT_no rfl rfl (fun K hK2 => ?_)
          go_simp
          refine TR2.out.mono ?_
          rintro e w' ⟨rfl, rfl⟩
          refine hK2 _ _ (fun _ => hS) ?_
          clear hK2 K
          repeat (refine walkT_yes rfl hS rfl (fun w' hw' => by obtain ⟨q0, q1⟩ := hw'; go_simp; rfl) ?_; simp only [Act.put, List.setIfInBounds_toArray, List.set_cons_zero, List.set_cons_succ])
          simp only [walkT]
          refine ⟨rfl, ?_⟩
          gi_wp2_with fail
          have hsW : W0.heap.size ≤ W.drew.heap.size := by rw [HSZ.out]; exact HLW.out.2
          have b1 : Below W0.heap.size W.drew (W.drew.putObj D (.deferred none)) := below_putObj W.drew D _ hD hsW
          have hM := HM.out
          have hNQ := HQB.out
          have hGA := HGA.out
          refine ⟨by simp, .inl ⟨_, _, rfl, run_takeDeferred (show W.drew.heap[D]? = _ from hK), ?_⟩⟩
          refine ⟨_, results_tmp2 rfl _ _ _, ?_⟩
          refine ⟨_, _, Lt, X, rfl, hM.2.2.2.2.2.2.2.2.1, Nat.le_of_lt hM.2.2.2.2.2.2.1, Nat.le_trans hM.2.2.2.2.2.2.2.1 HH.out.2.1, Nat.lt_of_lt_of_le hM.2.2.2.2.2.2.1 hM.2.2.2.2.2.2.2.1, ?_, ?_, ?_, ?_⟩
          · exact HN12.out.1.of_block (b1.block gb (by rw [HSZ.out]; omega))
          · exact HN12.out.2.of_block (b1.block ga (by rw [HSZ.out]; omega))
          · intro e
            have e' : (Value.slice (some ⟨gb, 0, none⟩) (nrow Lt).length cb).ownBlock = (Value.slice (some ⟨ga, 0, none⟩) (nrow X).length ca).ownBlock := e
            have hne12 : ga ≠ gb := HH.out.2.2.2.1
            exact hne12 (by simpa [Value.ownBlock] using e'.symm)
          · exact (HLW.out.1.drew).trans (b1.mono (by rw [HSZ.out]; omega))
        case stop =>
          rintro D k W _ _ h _
          exact h.elim
end Go.Proofs.YtcbebikcfcidmaaDoor
