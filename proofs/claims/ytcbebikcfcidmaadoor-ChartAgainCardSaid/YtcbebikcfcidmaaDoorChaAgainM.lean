/-
  LAYER 20: the law that a chart again makes no step more, and that a maker of as many steps as it needs is enough, and one less is not.
-/
import Derived.Test.YtcbebikcfcidmaaDoorChaZ20
namespace Go.Proofs.YtcbebikcfcidmaaDoor
open Go.RowKit Go.Maps

/-- Behind New. -/
def NewOurs (k : Nat) (w : World) (e : Ending) (w' : World) : Prop := ∃ pm P, e = .returned (.tuple #[.pointer (some ⟨pm, 0, none⟩), .int .i64 0]) ∧ Ours w w' P (.pointer (some ⟨pm, 0, none⟩)) ⟨k, 0, []⟩
theorem new_kept (k : Nat) (w : World) (h1 : 1 ≤ k) (h2 : k ≤ 20000) : Calls Tryd.prog 4 #[.int .i64 (k : Int)] w (NewOurs k w) := new_ours k w h1 h2
theorem Ours.beside {w0 w w' : World} {P Q : Nat → Prop} {m n : Value} {R S' : MkS} (h : Ours w0 w P m R) (hth : Then w0 w Q n S' w') (hd : ∀ k, P k → ¬ Q k) : Ours w0 w' P m R := by
  obtain ⟨P', ho⟩ := hth.ours
  exact ⟨h.one.spare hth.1 hd, h.low, ho.grow⟩
set_option maxRecDepth 100000 in
set_option maxHeartbeats 16000000 in
theorem again_any {low high : Int} {k : Nat} (w : World) (h1 : -128 ≤ low ∧ low ≤ 127) (h2 : -128 ≤ high ∧ high ≤ 127) (hk : k < 256) (ht : Tab w) :
    Calls Tryd.prog 3 #[.int .i8 low, .int .i8 high, .int .u8 (k : Int)] w (Just (.bool true) w) := by
  have hmf : ∀ (fn : Fn) (first cap : Array Value) (w : World), (Instr.makeFunc fn first cap).run Tryd.prog w = .ok (.func fn first cap) w := fun _ _ _ _ => rfl
  have hg3 : Grow w (((w.alloc (.cells #[.int .i8 low] 22)).alloc (.cells #[.int .i8 high] 22)).alloc (.cells #[.int .u8 (k : Int)] 5)) := ((Grow.alloc w _).trans (Grow.alloc _ _)).trans (Grow.alloc _ _)
  have b1 : BlkOf (((w.alloc (.cells #[.int .i8 low] 22)).alloc (.cells #[.int .i8 high] 22)).alloc (.cells #[.int .u8 (k : Int)] 5)) w.heap.size #[.int .i8 low] 22 := ((BlkOf.new w _ _).alloc _).alloc _
  have b2 : BlkOf (((w.alloc (.cells #[.int .i8 low] 22)).alloc (.cells #[.int .i8 high] 22)).alloc (.cells #[.int .u8 (k : Int)] 5)) (w.heap.size + 1) #[.int .i8 high] 22 := (BlkOf.news (by simp) _ _).alloc _
  have b3 : BlkOf (((w.alloc (.cells #[.int .i8 low] 22)).alloc (.cells #[.int .i8 high] 22)).alloc (.cells #[.int .u8 (k : Int)] 5)) (w.heap.size + 1 + 1) #[.int .u8 (k : Int)] 5 := BlkOf.news (by simp) _ _
  have HG3 := Lib.hid hg3
  have HBX := Lib.hid (And.intro b1 (And.intro b2 b3))
  have HTB := Lib.hid (ht.grow hg3)
  have HLO := Lib.hid h1
  have HHI := Lib.hid h2
  have HK := Lib.hid hk
  clear hg3 b1 b2 b3 ht
  have hp2 : k % 2 = 0 ∨ k % 2 = 1 := by omega
  have hp4 : k / 2 % 2 = 0 ∨ k / 2 % 2 = 1 := by omega
  go_enter Tryd.func3, Tryd.ntmps3
  rcases hp2 with p2 | p2
  · rcases hp4 with p4 | p4
    · have ea : decide (k % 2 = 1) = false := by rw [p2]; rfl
      have eb : decide (k / 2 % 2 = 1) = false := by rw [p4]; rfl
      obtain ⟨x, j, T, i1, i2, U, f1, f2, f3, f4, f5, f6, f7, f8⟩ := made_facts (low := low) (high := high) (a := false) (b := false) (by omega) (by omega)
      obtain ⟨N, hN⟩ : ∃ N, N = T.l.length := ⟨_, rfl⟩
      rw [← hN] at f1 f2 f7 f8
      have f6' : putC T 0 (-1) (-1) = (x, j, 0, T) := f6
      have F3 := Lib.hid f3
      have F4 := Lib.hid f4
      have F5 := Lib.hid f5
      have F6 := Lib.hid f6'
      have F7 := Lib.hid f7
      have F8 := Lib.hid f8
      have HN := Lib.hid hN
      have hl2 : ¬ ((N : Int) < 2) := by omega
      have hNb : (N : Int) ≤ 17 := by omega
      have HNL := Lib.hid (And.intro f1 f2)
      clear f3 f4 f5 f6 f6' f7 f8 hN f1 f2
      go_wp2_with (first | (go_at_call 4; refine (new_kept 100 _ (by decide) (by decide)).mono ?_) | fail)
      intro e wa hp
      obtain ⟨pm, Pa, rfl, hoa⟩ := hp
      have Ha := Lib.hid (hoa.base (Grow.refl _))
      clear hoa
      have HMD := Lib.hid (made_any (low := low) (high := high) (k := k) (bl := w.heap.size) (bh := w.heap.size + 1) (bk := w.heap.size + 1 + 1) Ha.out HTB.out HLO.out HHI.out HK.out ea.symm eb.symm HBX.out.1 HBX.out.2.1 HBX.out.2.2)
      rw [F3.out] at HMD
      go_wp2_with (first | (go_at_call 5; refine HMD.out.mono ?_) | fail)
      intro e wb hp
      obtain ⟨rfl, hth, _, _⟩ := hp
      obtain ⟨Pb, hob⟩ := hth.ours
      have Hb : Hid (Ours (((w.alloc (.cells #[.int .i8 low] 22)).alloc (.cells #[.int .i8 high] 22)).alloc (.cells #[.int .u8 (k : Int)] 5)) wb Pb (.pointer (some ⟨pm, 0, none⟩)) T) := Lib.hid hob
      have hlen := len_some hob.one
      have hlen : Calls Tryd.prog 10 #[.pointer (some ⟨pm, 0, none⟩)] wb (Same (.int .i64 (N : Int)) wb) := by rw [HN.out]; exact hlen
      have HLEN := Lib.hid hlen
      have q1 := BlkOf.at (HBX.out.1.below hob.grow HBX.out.1.lt) 0 rfl
      clear hth hob hlen
      go_wp2_with (first | (go_at_call 10; refine HLEN.out.mono ?_; rintro e w3 ⟨rfl, rfl⟩) | fail)
      go_wp2_with (first | (go_at_call 8; refine (of_int low _ (by omega)).mono ?_) | fail)
      rintro e wc ⟨vn, vd, rfl, hx, hg⟩
      have Hc := Lib.hid (Hb.out.more hg)
      have HX := Lib.hid hx
      have HNU := Lib.hid (Hc.out.num (x := frI low) HX.out)
      rw [F4.out] at HNU
      clear hx hg q1
      go_wp2_with (first | (go_at_call 7; refine HNU.out.mono ?_) | fail)
      rintro e wd ⟨rfl, hth⟩
      obtain ⟨Pd, hod⟩ := hth.ours
      have Hd : Hid (Ours (((w.alloc (.cells #[.int .i8 low] 22)).alloc (.cells #[.int .i8 high] 22)).alloc (.cells #[.int .u8 (k : Int)] 5)) wd Pd (.pointer (some ⟨pm, 0, none⟩)) T) := Lib.hid hod
      have q2 := BlkOf.at (HBX.out.2.1.below hod.grow HBX.out.2.1.lt) 0 rfl
      clear hth hod
      go_wp2_with (first | (go_at_call 8; refine (of_int high _ (by omega)).mono ?_) | fail)
      rintro e we ⟨vn2, vd2, rfl, hx, hg⟩
      have He := Lib.hid (Hd.out.more hg)
      have HX2 := Lib.hid hx
      have HNU2 := Lib.hid (He.out.num (x := frI high) HX2.out)
      rw [F5.out] at HNU2
      clear hx hg q2
      go_wp2_with (first | (go_at_call 7; refine HNU2.out.mono ?_) | fail)
      rintro e wf ⟨rfl, hth⟩
      obtain ⟨Pf, hof⟩ := hth.ours
      have Hf : Hid (Ours (((w.alloc (.cells #[.int .i8 low] 22)).alloc (.cells #[.int .i8 high] 22)).alloc (.cells #[.int .u8 (k : Int)] 5)) wf Pf (.pointer (some ⟨pm, 0, none⟩)) T) := Lib.hid hof
      have q3 := BlkOf.at (HBX.out.2.2.below hof.grow HBX.out.2.2.lt) 0 rfl
      have hpk := put_some (u := 0) (l := (-1)) (h := (-1)) Hf.out HTB.out i64_zero (i64_small (by decide)) (i64_small (by decide))
      rw [F6.out] at hpk
      have HP := Lib.hid hpk
      clear hth hof hpk
      go_wp2_with (first | (go_at_call 9; refine HP.out.mono ?_) | fail)
      intro e wg hp
      obtain ⟨rfl, hth, _, _⟩ := hp
      obtain ⟨Pg, hog⟩ := hth.ours
      have Hg : Hid (Ours (((w.alloc (.cells #[.int .i8 low] 22)).alloc (.cells #[.int .i8 high] 22)).alloc (.cells #[.int .u8 (k : Int)] 5)) wg Pg (.pointer (some ⟨pm, 0, none⟩)) T) := Lib.hid hog
      have hlen : Calls Tryd.prog 10 #[.pointer (some ⟨pm, 0, none⟩)] wg (Same (.int .i64 (N : Int)) wg) := by rw [HN.out]; exact len_some hog.one
      have HLEN2 := Lib.hid hlen
      clear hth hog hlen q3
      go_wp2_with (first | (go_at_call 10; refine HLEN2.out.mono ?_; rintro e w3 ⟨rfl, rfl⟩) | fail)
      go_wp2_with (first | (go_at_call 4; refine (new_kept N _ (by have := HNL.out.1; omega) (by have := HNL.out.2; omega)).mono ?_) | fail)
      intro e wj hp
      obtain ⟨pj, Pj, rfl, hoj⟩ := hp
      have Hj := Lib.hid (hoj.base Hg.out.grow)
      clear hoj
      have hnw : Calls Tryd.prog 4 #[.int .i64 ((N : Int) - 1)] wj (NewOurs (N - 1) wj) := by
        have h1 := HNL.out.1
        have h2 := HNL.out.2
        rw [show (N : Int) - 1 = ((N - 1 : Nat) : Int) by omega]
        exact new_kept (N - 1) wj (by omega) (by omega)
      have HNW := Lib.hid hnw
      clear hnw
      go_wp2_with (first | (go_at_call 4; refine HNW.out.mono ?_) | fail)
      intro e wl hp
      obtain ⟨pl, Pl, rfl, hol⟩ := hp
      have Hl := Lib.hid (hol.base Hj.out.grow)
      have Hj2 := Lib.hid (Hj.out.more hol.grow)
      have HAP : Hid (∀ k, Pl k → ¬ Pj k) := Lib.hid fun k h1 h2 => by
        have q1 := Hj.out.one.lt k h2
        have q2 := hol.low k h1
        omega
      have HMJ := Lib.hid (made_any (low := low) (high := high) (k := k) (bl := w.heap.size) (bh := w.heap.size + 1) (bk := w.heap.size + 1 + 1) Hj2.out HTB.out HLO.out HHI.out HK.out ea.symm eb.symm HBX.out.1 HBX.out.2.1 HBX.out.2.2)
      rw [F7.out] at HMJ
      clear hol
      go_wp2_with (first | (go_at_call 5; refine HMJ.out.mono ?_) | fail)
      intro e wm hp
      obtain ⟨rfl, hth, _, _⟩ := hp
      have Hl2 := Lib.hid (Hl.out.beside hth HAP.out)
      have HML := Lib.hid (made_any (low := low) (high := high) (k := k) (bl := w.heap.size) (bh := w.heap.size + 1) (bk := w.heap.size + 1 + 1) Hl2.out HTB.out HLO.out HHI.out HK.out ea.symm eb.symm HBX.out.1 HBX.out.2.1 HBX.out.2.2)
      obtain ⟨r, hr⟩ : ∃ r, r = madeS ⟨N - 1, 0, []⟩ low high false false := ⟨_, rfl⟩
      have hr1 : r.2.2.1 = 171 := by rw [hr]; exact F8.out
      rw [← hr] at HML
      obtain ⟨xl, jl, el, Tl⟩ := r
      dsimp only at hr1
      subst hr1
      clear hth hr
      go_wp2_with (first | (go_at_call 5; refine HML.out.mono ?_) | fail)
      intro e wn hp
      obtain ⟨rfl, hth, _, _⟩ := hp
      obtain ⟨Pn, hon⟩ := hth.ours
      have HGN := Lib.hid hon.grow
      have HHD := Lib.hid (head_any wn (HTB.out.grow hon.grow))
      clear hth hon
      go_wp2_with (first | (go_at_call 11; refine HHD.out.mono ?_; rintro e w9 ⟨rfl, h9⟩; have H9 := Lib.hid h9; clear h9) | fail)
      go_ret
      exact ⟨rfl, HG3.out.trans (HGN.out.trans H9.out)⟩
    · have ea : decide (k % 2 = 1) = false := by rw [p2]; rfl
      have eb : decide (k / 2 % 2 = 1) = true := by rw [p4]; rfl
      obtain ⟨x, j, T, i1, i2, U, f1, f2, f3, f4, f5, f6, f7, f8⟩ := made_facts (low := low) (high := high) (a := false) (b := true) (by omega) (by omega)
      obtain ⟨N, hN⟩ : ∃ N, N = T.l.length := ⟨_, rfl⟩
      rw [← hN] at f1 f2 f7 f8
      have f6' : putC T 0 (-1) i2 = (x, j, 0, T) := f6
      have F3 := Lib.hid f3
      have F4 := Lib.hid f4
      have F5 := Lib.hid f5
      have F6 := Lib.hid f6'
      have F7 := Lib.hid f7
      have F8 := Lib.hid f8
      have HN := Lib.hid hN
      have hl2 : ¬ ((N : Int) < 2) := by omega
      have hNb : (N : Int) ≤ 17 := by omega
      have HNL := Lib.hid (And.intro f1 f2)
      clear f3 f4 f5 f6 f6' f7 f8 hN f1 f2
      go_wp2_with (first | (go_at_call 4; refine (new_kept 100 _ (by decide) (by decide)).mono ?_) | fail)
      intro e wa hp
      obtain ⟨pm, Pa, rfl, hoa⟩ := hp
      have Ha := Lib.hid (hoa.base (Grow.refl _))
      clear hoa
      have HMD := Lib.hid (made_any (low := low) (high := high) (k := k) (bl := w.heap.size) (bh := w.heap.size + 1) (bk := w.heap.size + 1 + 1) Ha.out HTB.out HLO.out HHI.out HK.out ea.symm eb.symm HBX.out.1 HBX.out.2.1 HBX.out.2.2)
      rw [F3.out] at HMD
      go_wp2_with (first | (go_at_call 5; refine HMD.out.mono ?_) | fail)
      intro e wb hp
      obtain ⟨rfl, hth, _, _⟩ := hp
      obtain ⟨Pb, hob⟩ := hth.ours
      have Hb : Hid (Ours (((w.alloc (.cells #[.int .i8 low] 22)).alloc (.cells #[.int .i8 high] 22)).alloc (.cells #[.int .u8 (k : Int)] 5)) wb Pb (.pointer (some ⟨pm, 0, none⟩)) T) := Lib.hid hob
      have hlen := len_some hob.one
      have hlen : Calls Tryd.prog 10 #[.pointer (some ⟨pm, 0, none⟩)] wb (Same (.int .i64 (N : Int)) wb) := by rw [HN.out]; exact hlen
      have HLEN := Lib.hid hlen
      have q1 := BlkOf.at (HBX.out.1.below hob.grow HBX.out.1.lt) 0 rfl
      clear hth hob hlen
      go_wp2_with (first | (go_at_call 10; refine HLEN.out.mono ?_; rintro e w3 ⟨rfl, rfl⟩) | fail)
      go_wp2_with (first | (go_at_call 8; refine (of_int low _ (by omega)).mono ?_) | fail)
      rintro e wc ⟨vn, vd, rfl, hx, hg⟩
      have Hc := Lib.hid (Hb.out.more hg)
      have HX := Lib.hid hx
      have HNU := Lib.hid (Hc.out.num (x := frI low) HX.out)
      rw [F4.out] at HNU
      clear hx hg q1
      go_wp2_with (first | (go_at_call 7; refine HNU.out.mono ?_) | fail)
      rintro e wd ⟨rfl, hth⟩
      obtain ⟨Pd, hod⟩ := hth.ours
      have Hd : Hid (Ours (((w.alloc (.cells #[.int .i8 low] 22)).alloc (.cells #[.int .i8 high] 22)).alloc (.cells #[.int .u8 (k : Int)] 5)) wd Pd (.pointer (some ⟨pm, 0, none⟩)) T) := Lib.hid hod
      have q2 := BlkOf.at (HBX.out.2.1.below hod.grow HBX.out.2.1.lt) 0 rfl
      clear hth hod
      go_wp2_with (first | (go_at_call 8; refine (of_int high _ (by omega)).mono ?_) | fail)
      rintro e we ⟨vn2, vd2, rfl, hx, hg⟩
      have He := Lib.hid (Hd.out.more hg)
      have HX2 := Lib.hid hx
      have HNU2 := Lib.hid (He.out.num (x := frI high) HX2.out)
      rw [F5.out] at HNU2
      clear hx hg q2
      go_wp2_with (first | (go_at_call 7; refine HNU2.out.mono ?_) | fail)
      rintro e wf ⟨rfl, hth⟩
      obtain ⟨Pf, hof⟩ := hth.ours
      have Hf : Hid (Ours (((w.alloc (.cells #[.int .i8 low] 22)).alloc (.cells #[.int .i8 high] 22)).alloc (.cells #[.int .u8 (k : Int)] 5)) wf Pf (.pointer (some ⟨pm, 0, none⟩)) T) := Lib.hid hof
      have q3 := BlkOf.at (HBX.out.2.2.below hof.grow HBX.out.2.2.lt) 0 rfl
      have hpk := put_some (u := 0) (l := (-1)) (h := i2) Hf.out HTB.out i64_zero (i64_small (by decide)) (by have := (numS_i64 He.out.good (frI high)); rw [F5.out] at this; exact this)
      rw [F6.out] at hpk
      have HP := Lib.hid hpk
      clear hth hof hpk
      go_wp2_with (first | (go_at_call 9; refine HP.out.mono ?_) | fail)
      intro e wg hp
      obtain ⟨rfl, hth, _, _⟩ := hp
      obtain ⟨Pg, hog⟩ := hth.ours
      have Hg : Hid (Ours (((w.alloc (.cells #[.int .i8 low] 22)).alloc (.cells #[.int .i8 high] 22)).alloc (.cells #[.int .u8 (k : Int)] 5)) wg Pg (.pointer (some ⟨pm, 0, none⟩)) T) := Lib.hid hog
      have hlen : Calls Tryd.prog 10 #[.pointer (some ⟨pm, 0, none⟩)] wg (Same (.int .i64 (N : Int)) wg) := by rw [HN.out]; exact len_some hog.one
      have HLEN2 := Lib.hid hlen
      clear hth hog hlen q3
      go_wp2_with (first | (go_at_call 10; refine HLEN2.out.mono ?_; rintro e w3 ⟨rfl, rfl⟩) | fail)
      go_wp2_with (first | (go_at_call 4; refine (new_kept N _ (by have := HNL.out.1; omega) (by have := HNL.out.2; omega)).mono ?_) | fail)
      intro e wj hp
      obtain ⟨pj, Pj, rfl, hoj⟩ := hp
      have Hj := Lib.hid (hoj.base Hg.out.grow)
      clear hoj
      have hnw : Calls Tryd.prog 4 #[.int .i64 ((N : Int) - 1)] wj (NewOurs (N - 1) wj) := by
        have h1 := HNL.out.1
        have h2 := HNL.out.2
        rw [show (N : Int) - 1 = ((N - 1 : Nat) : Int) by omega]
        exact new_kept (N - 1) wj (by omega) (by omega)
      have HNW := Lib.hid hnw
      clear hnw
      go_wp2_with (first | (go_at_call 4; refine HNW.out.mono ?_) | fail)
      intro e wl hp
      obtain ⟨pl, Pl, rfl, hol⟩ := hp
      have Hl := Lib.hid (hol.base Hj.out.grow)
      have Hj2 := Lib.hid (Hj.out.more hol.grow)
      have HAP : Hid (∀ k, Pl k → ¬ Pj k) := Lib.hid fun k h1 h2 => by
        have q1 := Hj.out.one.lt k h2
        have q2 := hol.low k h1
        omega
      have HMJ := Lib.hid (made_any (low := low) (high := high) (k := k) (bl := w.heap.size) (bh := w.heap.size + 1) (bk := w.heap.size + 1 + 1) Hj2.out HTB.out HLO.out HHI.out HK.out ea.symm eb.symm HBX.out.1 HBX.out.2.1 HBX.out.2.2)
      rw [F7.out] at HMJ
      clear hol
      go_wp2_with (first | (go_at_call 5; refine HMJ.out.mono ?_) | fail)
      intro e wm hp
      obtain ⟨rfl, hth, _, _⟩ := hp
      have Hl2 := Lib.hid (Hl.out.beside hth HAP.out)
      have HML := Lib.hid (made_any (low := low) (high := high) (k := k) (bl := w.heap.size) (bh := w.heap.size + 1) (bk := w.heap.size + 1 + 1) Hl2.out HTB.out HLO.out HHI.out HK.out ea.symm eb.symm HBX.out.1 HBX.out.2.1 HBX.out.2.2)
      obtain ⟨r, hr⟩ : ∃ r, r = madeS ⟨N - 1, 0, []⟩ low high false true := ⟨_, rfl⟩
      have hr1 : r.2.2.1 = 171 := by rw [hr]; exact F8.out
      rw [← hr] at HML
      obtain ⟨xl, jl, el, Tl⟩ := r
      dsimp only at hr1
      subst hr1
      clear hth hr
      go_wp2_with (first | (go_at_call 5; refine HML.out.mono ?_) | fail)
      intro e wn hp
      obtain ⟨rfl, hth, _, _⟩ := hp
      obtain ⟨Pn, hon⟩ := hth.ours
      have HGN := Lib.hid hon.grow
      have HHD := Lib.hid (head_any wn (HTB.out.grow hon.grow))
      clear hth hon
      go_wp2_with (first | (go_at_call 11; refine HHD.out.mono ?_; rintro e w9 ⟨rfl, h9⟩; have H9 := Lib.hid h9; clear h9) | fail)
      go_ret
      exact ⟨rfl, HG3.out.trans (HGN.out.trans H9.out)⟩
  · rcases hp4 with p4 | p4
    · have ea : decide (k % 2 = 1) = true := by rw [p2]; rfl
      have eb : decide (k / 2 % 2 = 1) = false := by rw [p4]; rfl
      obtain ⟨x, j, T, i1, i2, U, f1, f2, f3, f4, f5, f6, f7, f8⟩ := made_facts (low := low) (high := high) (a := true) (b := false) (by omega) (by omega)
      obtain ⟨N, hN⟩ : ∃ N, N = T.l.length := ⟨_, rfl⟩
      rw [← hN] at f1 f2 f7 f8
      have f6' : putC T 0 i1 (-1) = (x, j, 0, T) := f6
      have F3 := Lib.hid f3
      have F4 := Lib.hid f4
      have F5 := Lib.hid f5
      have F6 := Lib.hid f6'
      have F7 := Lib.hid f7
      have F8 := Lib.hid f8
      have HN := Lib.hid hN
      have hl2 : ¬ ((N : Int) < 2) := by omega
      have hNb : (N : Int) ≤ 17 := by omega
      have HNL := Lib.hid (And.intro f1 f2)
      clear f3 f4 f5 f6 f6' f7 f8 hN f1 f2
      go_wp2_with (first | (go_at_call 4; refine (new_kept 100 _ (by decide) (by decide)).mono ?_) | fail)
      intro e wa hp
      obtain ⟨pm, Pa, rfl, hoa⟩ := hp
      have Ha := Lib.hid (hoa.base (Grow.refl _))
      clear hoa
      have HMD := Lib.hid (made_any (low := low) (high := high) (k := k) (bl := w.heap.size) (bh := w.heap.size + 1) (bk := w.heap.size + 1 + 1) Ha.out HTB.out HLO.out HHI.out HK.out ea.symm eb.symm HBX.out.1 HBX.out.2.1 HBX.out.2.2)
      rw [F3.out] at HMD
      go_wp2_with (first | (go_at_call 5; refine HMD.out.mono ?_) | fail)
      intro e wb hp
      obtain ⟨rfl, hth, _, _⟩ := hp
      obtain ⟨Pb, hob⟩ := hth.ours
      have Hb : Hid (Ours (((w.alloc (.cells #[.int .i8 low] 22)).alloc (.cells #[.int .i8 high] 22)).alloc (.cells #[.int .u8 (k : Int)] 5)) wb Pb (.pointer (some ⟨pm, 0, none⟩)) T) := Lib.hid hob
      have hlen := len_some hob.one
      have hlen : Calls Tryd.prog 10 #[.pointer (some ⟨pm, 0, none⟩)] wb (Same (.int .i64 (N : Int)) wb) := by rw [HN.out]; exact hlen
      have HLEN := Lib.hid hlen
      have q1 := BlkOf.at (HBX.out.1.below hob.grow HBX.out.1.lt) 0 rfl
      clear hth hob hlen
      go_wp2_with (first | (go_at_call 10; refine HLEN.out.mono ?_; rintro e w3 ⟨rfl, rfl⟩) | fail)
      go_wp2_with (first | (go_at_call 8; refine (of_int low _ (by omega)).mono ?_) | fail)
      rintro e wc ⟨vn, vd, rfl, hx, hg⟩
      have Hc := Lib.hid (Hb.out.more hg)
      have HX := Lib.hid hx
      have HNU := Lib.hid (Hc.out.num (x := frI low) HX.out)
      rw [F4.out] at HNU
      clear hx hg q1
      go_wp2_with (first | (go_at_call 7; refine HNU.out.mono ?_) | fail)
      rintro e wd ⟨rfl, hth⟩
      obtain ⟨Pd, hod⟩ := hth.ours
      have Hd : Hid (Ours (((w.alloc (.cells #[.int .i8 low] 22)).alloc (.cells #[.int .i8 high] 22)).alloc (.cells #[.int .u8 (k : Int)] 5)) wd Pd (.pointer (some ⟨pm, 0, none⟩)) T) := Lib.hid hod
      have q2 := BlkOf.at (HBX.out.2.1.below hod.grow HBX.out.2.1.lt) 0 rfl
      clear hth hod
      go_wp2_with (first | (go_at_call 8; refine (of_int high _ (by omega)).mono ?_) | fail)
      rintro e we ⟨vn2, vd2, rfl, hx, hg⟩
      have He := Lib.hid (Hd.out.more hg)
      have HX2 := Lib.hid hx
      have HNU2 := Lib.hid (He.out.num (x := frI high) HX2.out)
      rw [F5.out] at HNU2
      clear hx hg q2
      go_wp2_with (first | (go_at_call 7; refine HNU2.out.mono ?_) | fail)
      rintro e wf ⟨rfl, hth⟩
      obtain ⟨Pf, hof⟩ := hth.ours
      have Hf : Hid (Ours (((w.alloc (.cells #[.int .i8 low] 22)).alloc (.cells #[.int .i8 high] 22)).alloc (.cells #[.int .u8 (k : Int)] 5)) wf Pf (.pointer (some ⟨pm, 0, none⟩)) T) := Lib.hid hof
      have q3 := BlkOf.at (HBX.out.2.2.below hof.grow HBX.out.2.2.lt) 0 rfl
      have hpk := put_some (u := 0) (l := i1) (h := (-1)) Hf.out HTB.out i64_zero (by have := (numS_i64 Hc.out.good (frI low)); rw [F4.out] at this; exact this) (i64_small (by decide))
      rw [F6.out] at hpk
      have HP := Lib.hid hpk
      clear hth hof hpk
      go_wp2_with (first | (go_at_call 9; refine HP.out.mono ?_) | fail)
      intro e wg hp
      obtain ⟨rfl, hth, _, _⟩ := hp
      obtain ⟨Pg, hog⟩ := hth.ours
      have Hg : Hid (Ours (((w.alloc (.cells #[.int .i8 low] 22)).alloc (.cells #[.int .i8 high] 22)).alloc (.cells #[.int .u8 (k : Int)] 5)) wg Pg (.pointer (some ⟨pm, 0, none⟩)) T) := Lib.hid hog
      have hlen : Calls Tryd.prog 10 #[.pointer (some ⟨pm, 0, none⟩)] wg (Same (.int .i64 (N : Int)) wg) := by rw [HN.out]; exact len_some hog.one
      have HLEN2 := Lib.hid hlen
      clear hth hog hlen q3
      go_wp2_with (first | (go_at_call 10; refine HLEN2.out.mono ?_; rintro e w3 ⟨rfl, rfl⟩) | fail)
      go_wp2_with (first | (go_at_call 4; refine (new_kept N _ (by have := HNL.out.1; omega) (by have := HNL.out.2; omega)).mono ?_) | fail)
      intro e wj hp
      obtain ⟨pj, Pj, rfl, hoj⟩ := hp
      have Hj := Lib.hid (hoj.base Hg.out.grow)
      clear hoj
      have hnw : Calls Tryd.prog 4 #[.int .i64 ((N : Int) - 1)] wj (NewOurs (N - 1) wj) := by
        have h1 := HNL.out.1
        have h2 := HNL.out.2
        rw [show (N : Int) - 1 = ((N - 1 : Nat) : Int) by omega]
        exact new_kept (N - 1) wj (by omega) (by omega)
      have HNW := Lib.hid hnw
      clear hnw
      go_wp2_with (first | (go_at_call 4; refine HNW.out.mono ?_) | fail)
      intro e wl hp
      obtain ⟨pl, Pl, rfl, hol⟩ := hp
      have Hl := Lib.hid (hol.base Hj.out.grow)
      have Hj2 := Lib.hid (Hj.out.more hol.grow)
      have HAP : Hid (∀ k, Pl k → ¬ Pj k) := Lib.hid fun k h1 h2 => by
        have q1 := Hj.out.one.lt k h2
        have q2 := hol.low k h1
        omega
      have HMJ := Lib.hid (made_any (low := low) (high := high) (k := k) (bl := w.heap.size) (bh := w.heap.size + 1) (bk := w.heap.size + 1 + 1) Hj2.out HTB.out HLO.out HHI.out HK.out ea.symm eb.symm HBX.out.1 HBX.out.2.1 HBX.out.2.2)
      rw [F7.out] at HMJ
      clear hol
      go_wp2_with (first | (go_at_call 5; refine HMJ.out.mono ?_) | fail)
      intro e wm hp
      obtain ⟨rfl, hth, _, _⟩ := hp
      have Hl2 := Lib.hid (Hl.out.beside hth HAP.out)
      have HML := Lib.hid (made_any (low := low) (high := high) (k := k) (bl := w.heap.size) (bh := w.heap.size + 1) (bk := w.heap.size + 1 + 1) Hl2.out HTB.out HLO.out HHI.out HK.out ea.symm eb.symm HBX.out.1 HBX.out.2.1 HBX.out.2.2)
      obtain ⟨r, hr⟩ : ∃ r, r = madeS ⟨N - 1, 0, []⟩ low high true false := ⟨_, rfl⟩
      have hr1 : r.2.2.1 = 171 := by rw [hr]; exact F8.out
      rw [← hr] at HML
      obtain ⟨xl, jl, el, Tl⟩ := r
      dsimp only at hr1
      subst hr1
      clear hth hr
      go_wp2_with (first | (go_at_call 5; refine HML.out.mono ?_) | fail)
      intro e wn hp
      obtain ⟨rfl, hth, _, _⟩ := hp
      obtain ⟨Pn, hon⟩ := hth.ours
      have HGN := Lib.hid hon.grow
      have HHD := Lib.hid (head_any wn (HTB.out.grow hon.grow))
      clear hth hon
      go_wp2_with (first | (go_at_call 11; refine HHD.out.mono ?_; rintro e w9 ⟨rfl, h9⟩; have H9 := Lib.hid h9; clear h9) | fail)
      go_ret
      exact ⟨rfl, HG3.out.trans (HGN.out.trans H9.out)⟩
    · have ea : decide (k % 2 = 1) = true := by rw [p2]; rfl
      have eb : decide (k / 2 % 2 = 1) = true := by rw [p4]; rfl
      obtain ⟨x, j, T, i1, i2, U, f1, f2, f3, f4, f5, f6, f7, f8⟩ := made_facts (low := low) (high := high) (a := true) (b := true) (by omega) (by omega)
      obtain ⟨N, hN⟩ : ∃ N, N = T.l.length := ⟨_, rfl⟩
      rw [← hN] at f1 f2 f7 f8
      have f6' : putC T 0 i1 i2 = (x, j, 0, T) := f6
      have F3 := Lib.hid f3
      have F4 := Lib.hid f4
      have F5 := Lib.hid f5
      have F6 := Lib.hid f6'
      have F7 := Lib.hid f7
      have F8 := Lib.hid f8
      have HN := Lib.hid hN
      have hl2 : ¬ ((N : Int) < 2) := by omega
      have hNb : (N : Int) ≤ 17 := by omega
      have HNL := Lib.hid (And.intro f1 f2)
      clear f3 f4 f5 f6 f6' f7 f8 hN f1 f2
      go_wp2_with (first | (go_at_call 4; refine (new_kept 100 _ (by decide) (by decide)).mono ?_) | fail)
      intro e wa hp
      obtain ⟨pm, Pa, rfl, hoa⟩ := hp
      have Ha := Lib.hid (hoa.base (Grow.refl _))
      clear hoa
      have HMD := Lib.hid (made_any (low := low) (high := high) (k := k) (bl := w.heap.size) (bh := w.heap.size + 1) (bk := w.heap.size + 1 + 1) Ha.out HTB.out HLO.out HHI.out HK.out ea.symm eb.symm HBX.out.1 HBX.out.2.1 HBX.out.2.2)
      rw [F3.out] at HMD
      go_wp2_with (first | (go_at_call 5; refine HMD.out.mono ?_) | fail)
      intro e wb hp
      obtain ⟨rfl, hth, _, _⟩ := hp
      obtain ⟨Pb, hob⟩ := hth.ours
      have Hb : Hid (Ours (((w.alloc (.cells #[.int .i8 low] 22)).alloc (.cells #[.int .i8 high] 22)).alloc (.cells #[.int .u8 (k : Int)] 5)) wb Pb (.pointer (some ⟨pm, 0, none⟩)) T) := Lib.hid hob
      have hlen := len_some hob.one
      have hlen : Calls Tryd.prog 10 #[.pointer (some ⟨pm, 0, none⟩)] wb (Same (.int .i64 (N : Int)) wb) := by rw [HN.out]; exact hlen
      have HLEN := Lib.hid hlen
      have q1 := BlkOf.at (HBX.out.1.below hob.grow HBX.out.1.lt) 0 rfl
      clear hth hob hlen
      go_wp2_with (first | (go_at_call 10; refine HLEN.out.mono ?_; rintro e w3 ⟨rfl, rfl⟩) | fail)
      go_wp2_with (first | (go_at_call 8; refine (of_int low _ (by omega)).mono ?_) | fail)
      rintro e wc ⟨vn, vd, rfl, hx, hg⟩
      have Hc := Lib.hid (Hb.out.more hg)
      have HX := Lib.hid hx
      have HNU := Lib.hid (Hc.out.num (x := frI low) HX.out)
      rw [F4.out] at HNU
      clear hx hg q1
      go_wp2_with (first | (go_at_call 7; refine HNU.out.mono ?_) | fail)
      rintro e wd ⟨rfl, hth⟩
      obtain ⟨Pd, hod⟩ := hth.ours
      have Hd : Hid (Ours (((w.alloc (.cells #[.int .i8 low] 22)).alloc (.cells #[.int .i8 high] 22)).alloc (.cells #[.int .u8 (k : Int)] 5)) wd Pd (.pointer (some ⟨pm, 0, none⟩)) T) := Lib.hid hod
      have q2 := BlkOf.at (HBX.out.2.1.below hod.grow HBX.out.2.1.lt) 0 rfl
      clear hth hod
      go_wp2_with (first | (go_at_call 8; refine (of_int high _ (by omega)).mono ?_) | fail)
      rintro e we ⟨vn2, vd2, rfl, hx, hg⟩
      have He := Lib.hid (Hd.out.more hg)
      have HX2 := Lib.hid hx
      have HNU2 := Lib.hid (He.out.num (x := frI high) HX2.out)
      rw [F5.out] at HNU2
      clear hx hg q2
      go_wp2_with (first | (go_at_call 7; refine HNU2.out.mono ?_) | fail)
      rintro e wf ⟨rfl, hth⟩
      obtain ⟨Pf, hof⟩ := hth.ours
      have Hf : Hid (Ours (((w.alloc (.cells #[.int .i8 low] 22)).alloc (.cells #[.int .i8 high] 22)).alloc (.cells #[.int .u8 (k : Int)] 5)) wf Pf (.pointer (some ⟨pm, 0, none⟩)) T) := Lib.hid hof
      have q3 := BlkOf.at (HBX.out.2.2.below hof.grow HBX.out.2.2.lt) 0 rfl
      have hpk := put_some (u := 0) (l := i1) (h := i2) Hf.out HTB.out i64_zero (by have := (numS_i64 Hc.out.good (frI low)); rw [F4.out] at this; exact this) (by have := (numS_i64 He.out.good (frI high)); rw [F5.out] at this; exact this)
      rw [F6.out] at hpk
      have HP := Lib.hid hpk
      clear hth hof hpk
      go_wp2_with (first | (go_at_call 9; refine HP.out.mono ?_) | fail)
      intro e wg hp
      obtain ⟨rfl, hth, _, _⟩ := hp
      obtain ⟨Pg, hog⟩ := hth.ours
      have Hg : Hid (Ours (((w.alloc (.cells #[.int .i8 low] 22)).alloc (.cells #[.int .i8 high] 22)).alloc (.cells #[.int .u8 (k : Int)] 5)) wg Pg (.pointer (some ⟨pm, 0, none⟩)) T) := Lib.hid hog
      have hlen : Calls Tryd.prog 10 #[.pointer (some ⟨pm, 0, none⟩)] wg (Same (.int .i64 (N : Int)) wg) := by rw [HN.out]; exact len_some hog.one
      have HLEN2 := Lib.hid hlen
      clear hth hog hlen q3
      go_wp2_with (first | (go_at_call 10; refine HLEN2.out.mono ?_; rintro e w3 ⟨rfl, rfl⟩) | fail)
      go_wp2_with (first | (go_at_call 4; refine (new_kept N _ (by have := HNL.out.1; omega) (by have := HNL.out.2; omega)).mono ?_) | fail)
      intro e wj hp
      obtain ⟨pj, Pj, rfl, hoj⟩ := hp
      have Hj := Lib.hid (hoj.base Hg.out.grow)
      clear hoj
      have hnw : Calls Tryd.prog 4 #[.int .i64 ((N : Int) - 1)] wj (NewOurs (N - 1) wj) := by
        have h1 := HNL.out.1
        have h2 := HNL.out.2
        rw [show (N : Int) - 1 = ((N - 1 : Nat) : Int) by omega]
        exact new_kept (N - 1) wj (by omega) (by omega)
      have HNW := Lib.hid hnw
      clear hnw
      go_wp2_with (first | (go_at_call 4; refine HNW.out.mono ?_) | fail)
      intro e wl hp
      obtain ⟨pl, Pl, rfl, hol⟩ := hp
      have Hl := Lib.hid (hol.base Hj.out.grow)
      have Hj2 := Lib.hid (Hj.out.more hol.grow)
      have HAP : Hid (∀ k, Pl k → ¬ Pj k) := Lib.hid fun k h1 h2 => by
        have q1 := Hj.out.one.lt k h2
        have q2 := hol.low k h1
        omega
      have HMJ := Lib.hid (made_any (low := low) (high := high) (k := k) (bl := w.heap.size) (bh := w.heap.size + 1) (bk := w.heap.size + 1 + 1) Hj2.out HTB.out HLO.out HHI.out HK.out ea.symm eb.symm HBX.out.1 HBX.out.2.1 HBX.out.2.2)
      rw [F7.out] at HMJ
      clear hol
      go_wp2_with (first | (go_at_call 5; refine HMJ.out.mono ?_) | fail)
      intro e wm hp
      obtain ⟨rfl, hth, _, _⟩ := hp
      have Hl2 := Lib.hid (Hl.out.beside hth HAP.out)
      have HML := Lib.hid (made_any (low := low) (high := high) (k := k) (bl := w.heap.size) (bh := w.heap.size + 1) (bk := w.heap.size + 1 + 1) Hl2.out HTB.out HLO.out HHI.out HK.out ea.symm eb.symm HBX.out.1 HBX.out.2.1 HBX.out.2.2)
      obtain ⟨r, hr⟩ : ∃ r, r = madeS ⟨N - 1, 0, []⟩ low high true true := ⟨_, rfl⟩
      have hr1 : r.2.2.1 = 171 := by rw [hr]; exact F8.out
      rw [← hr] at HML
      obtain ⟨xl, jl, el, Tl⟩ := r
      dsimp only at hr1
      subst hr1
      clear hth hr
      go_wp2_with (first | (go_at_call 5; refine HML.out.mono ?_) | fail)
      intro e wn hp
      obtain ⟨rfl, hth, _, _⟩ := hp
      obtain ⟨Pn, hon⟩ := hth.ours
      have HGN := Lib.hid hon.grow
      have HHD := Lib.hid (head_any wn (HTB.out.grow hon.grow))
      clear hth hon
      go_wp2_with (first | (go_at_call 11; refine HHD.out.mono ?_; rintro e w9 ⟨rfl, h9⟩; have H9 := Lib.hid h9; clear h9) | fail)
      go_ret
      exact ⟨rfl, HG3.out.trans (HGN.out.trans H9.out)⟩
end Go.Proofs.YtcbebikcfcidmaaDoor
