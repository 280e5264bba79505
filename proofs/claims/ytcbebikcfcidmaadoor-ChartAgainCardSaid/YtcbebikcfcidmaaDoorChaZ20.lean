/-
  The texts ChaHead, ChaLaw, one behind the other.
-/
import Derived.Test.YtcbebikcfcidmaaDoorChaZ19

namespace Go.Proofs.YtcbebikcfcidmaaDoor
open Go.RowKit Go.Maps

theorem new_ours (k : Nat) (w : World) (h1 : 1 ≤ k) (h2 : k ≤ 20000) : Calls Tryd.prog 4 #[.int .i64 (k : Int)] w fun e w' => ∃ pm P, e = .returned (.tuple #[.pointer (some ⟨pm, 0, none⟩), .int .i64 0]) ∧ Ours w w' P (.pointer (some ⟨pm, 0, none⟩)) ⟨k, 0, []⟩ := by
  refine (new_any (k : Int) w (by constructor <;> omega)).mono ?_
  rintro e w' (⟨_, _, m, rfl, hb, hm⟩ | ⟨hn, _⟩)
  · rw [show (k : Int).toNat = k by simp] at hm
    obtain ⟨pm, rfl⟩ := hm.ptr
    exact ⟨pm, _, rfl, hm, fun k hk => hk.1, hb⟩
  · exact absurd ⟨by omega, by omega⟩ hn
section
variable {w0 w : World} {P : Nat → Prop} {m : Value} {S : MkS}
theorem Ours.base {a : World} (h : Ours a w P m S) (hg : Grow w0 a) : Ours w0 w P m S := ⟨h.one, fun k hk => Nat.le_trans (Below.size hg) (h.low k hk), hg.trans h.grow⟩
theorem Ours.par (h : Ours w0 w P m S) : Calls Tryd.prog 6 #[m] w (fun e w' => e = .returned (.tuple #[.int .i64 (parS S).1, .int .i64 (parS S).2.1]) ∧ Then w0 w P m (parS S).2.2 w') :=
  (par_some h.one).mono fun _ _ hp => h.tells hp
theorem Ours.num (h : Ours w0 w P m S) {x : Fr} {vn vd : Value} (hx : FrAt 2048 w x vn vd) : Calls Tryd.prog 7 #[m, .agg #[.bool x.s, vn, vd]] w (fun e w' => e = .returned (.tuple #[.int .i64 (numS S x).1, .int .i64 (numS S x).2.1]) ∧ Then w0 w P m (numS S x).2.2 w') :=
  (num_some h.one hx (by decide)).mono fun _ _ hp => h.tells hp
theorem of_int (v : Int) (w : World) (hv : v.natAbs ≤ 1000) : Calls Tryd.prog 8 #[.int .i64 v] w fun e w' => ∃ vn vd, e = .returned (.agg #[.bool (decide (v < 0)), vn, vd]) ∧ FrAt 2048 w' (frI v) vn vd ∧ Grow w w' := by
  by_cases h : v < 0
  · obtain ⟨n, rfl⟩ : ∃ n : Nat, v = -(n : Int) := ⟨v.natAbs, by omega⟩
    have hn : (-(n : Int)).natAbs = n := by omega
    rw [hn] at hv
    refine (fof_neg n w (by omega) (by omega)).mono ?_
    rintro e w' ⟨v, rfl, ⟨x, c, y, c', rfl, h1, h2⟩, hb⟩
    refine ⟨_, _, by rw [decide_eq_true h]; rfl, ?_, hb⟩
    unfold frI
    rw [hn]
    exact ⟨h1.raw, h2.raw, short_small hv, (by decide : (nrow 1).length ≤ 2048)⟩
  · obtain ⟨n, rfl⟩ : ∃ n : Nat, v = (n : Int) := ⟨v.natAbs, by omega⟩
    have hn : ((n : Int)).natAbs = n := by omega
    rw [hn] at hv
    refine (fof_any n w (by omega)).mono ?_
    rintro e w' ⟨v, rfl, ⟨x, c, y, c', rfl, h1, h2⟩, hb⟩
    refine ⟨_, _, by rw [decide_eq_false h]; rfl, ?_, hb⟩
    unfold frI
    rw [hn]
    exact ⟨h1.raw, h2.raw, short_small hv, (by decide : (nrow 1).length ≤ 2048)⟩

set_option maxRecDepth 100000 in
set_option maxHeartbeats 4000000 in
/-- Of no maker. -/
theorem put_nil {u l h : Int} (w : World) :
    Calls Tryd.prog 9 #[.pointer none, .int .i64 u, .int .i64 l, .int .i64 h] w (fun e w' => e = .returned (.tuple #[.int .i64 0, .int .i64 0, .int .i64 1]) ∧ Grow w w') := by
  have hmf : ∀ (fn : Fn) (first cap : Array Value) (w : World), (Instr.makeFunc fn first cap).run Tryd.prog w = .ok (.func fn first cap) w := fun _ _ _ _ => rfl
  obtain ⟨W1, hW1⟩ : ∃ W1, W1 = ((((w.alloc (.cells #[.int .i64 0] 3)).alloc (.cells #[.int .i64 0] 3)).alloc (.cells #[.int .i64 0] 24)).alloc (.cells #[.pointer none] 60)) := ⟨_, rfl⟩
  have hg1 : Grow w W1 := by rw [hW1]; exact (((Grow.alloc w _).trans (Grow.alloc _ _)).trans (Grow.alloc _ _)).trans (Grow.alloc _ _)
  have hsz : W1.heap.size = w.heap.size + 4 := by rw [hW1]; simp
  have b8 : BlkOf W1 w.heap.size #[.int .i64 0] 3 := by rw [hW1]; exact (((BlkOf.new w _ _).alloc _).alloc _).alloc _
  have b9 : BlkOf W1 (w.heap.size + 1) #[.int .i64 0] 3 := by rw [hW1]; exact ((BlkOf.news (by simp) _ _).alloc _).alloc _
  have b10 : BlkOf W1 (w.heap.size + 1 + 1) #[.int .i64 0] 24 := by rw [hW1]; exact (BlkOf.news (by simp) _ _).alloc _
  have b11 : BlkOf W1 (w.heap.size + 1 + 1 + 1) #[.pointer none] 60 := by rw [hW1]; exact BlkOf.news (by simp) _ _
  have HCK := Lib.hid (check_nil (u := u) (l := l) (h := h) W1)
  have HG1 := Lib.hid hg1
  have HSZ := Lib.hid hsz
  have B8 := Lib.hid b8
  have B9 := Lib.hid b9
  have B10 := Lib.hid b10
  have B11 := Lib.hid b11
  have HW1 := Lib.hid hW1
  subst hW1
  clear hg1 hsz b8 b9 b10 b11
  go_enter_defers Tryd.func9, Tryd.ntmps9
  go_wp2_with (first | (go_at_call 19; refine HCK.out.mono ?_) | fail)
  intro e w2 he hg
  subst he
  have C8 := Lib.hid (B8.out.below hg B8.out.lt)
  have C9 := Lib.hid (B9.out.below hg B9.out.lt)
  have C10 := Lib.hid (B10.out.below hg B10.out.lt)
  have HG2 := Lib.hid (HG1.out.trans hg)
  clear hg
  refine leaves_cons (f := 18) (args := #[.pointer (some ⟨w.heap.size, 0, none⟩), .pointer (some ⟨w.heap.size + 1, 0, none⟩), .pointer (some ⟨w.heap.size + 1 + 1, 0, none⟩)]) (by simp) (by simp [go_sem]) ?_
  refine (put1_panicking ⟨w.heap.size, 0, none⟩ ⟨w.heap.size + 1, 0, none⟩ ⟨w.heap.size + 1 + 1, 0, none⟩ 0 0 0 1 [] w2 (C8.out.at 0 rfl) (C9.out.at 0 rfl) (C10.out.at 0 rfl) (C8.out.free 0) (C9.out.free 0) (C10.out.free 0) (by simp) (by simp) (by simp)).mono ?_
  rintro e' u' w'' ⟨rfl, rfl, rfl⟩
  have hpk : Grow w (((w2.drew.setCell ⟨w.heap.size, 0, none⟩ (.int .i64 0)).setCell ⟨w.heap.size + 1, 0, none⟩ (.int .i64 0)).setCell ⟨w.heap.size + 1 + 1, 0, none⟩ (.int .i64 1)) := ((Below.setCell (Grow.trans HG2.out (Grow.drew w2)) (p := ⟨w.heap.size, 0, none⟩) (Nat.le_refl _) _).setCell (p := ⟨w.heap.size + 1, 0, none⟩) (by show w.heap.size ≤ w.heap.size + 1; omega) _).setCell (p := ⟨w.heap.size + 1 + 1, 0, none⟩) (by show w.heap.size ≤ w.heap.size + 1 + 1; omega) _
  have k8 : BlkOf (((w2.drew.setCell ⟨w.heap.size, 0, none⟩ (.int .i64 0)).setCell ⟨w.heap.size + 1, 0, none⟩ (.int .i64 0)).setCell ⟨w.heap.size + 1 + 1, 0, none⟩ (.int .i64 1)) w.heap.size #[.int .i64 0] 3 := (((show BlkOf w2.drew _ _ _ from C8.out).set 0 (.int .i64 0)).other (p := ⟨w.heap.size + 1, 0, none⟩) (by show w.heap.size + 1 ≠ _; omega) (.int .i64 0)).other (p := ⟨w.heap.size + 1 + 1, 0, none⟩) (by show w.heap.size + 1 + 1 ≠ _; omega) (.int .i64 1)
  have k9 : BlkOf (((w2.drew.setCell ⟨w.heap.size, 0, none⟩ (.int .i64 0)).setCell ⟨w.heap.size + 1, 0, none⟩ (.int .i64 0)).setCell ⟨w.heap.size + 1 + 1, 0, none⟩ (.int .i64 1)) (w.heap.size + 1) #[.int .i64 0] 3 := (((show BlkOf w2.drew _ _ _ from C9.out).other (p := ⟨w.heap.size, 0, none⟩) (by show w.heap.size ≠ _; omega) (.int .i64 0)).set 0 (.int .i64 0)).other (p := ⟨w.heap.size + 1 + 1, 0, none⟩) (by show w.heap.size + 1 + 1 ≠ _; omega) (.int .i64 1)
  have k10 : BlkOf (((w2.drew.setCell ⟨w.heap.size, 0, none⟩ (.int .i64 0)).setCell ⟨w.heap.size + 1, 0, none⟩ (.int .i64 0)).setCell ⟨w.heap.size + 1 + 1, 0, none⟩ (.int .i64 1)) (w.heap.size + 1 + 1) #[.int .i64 1] 24 := (((show BlkOf w2.drew _ _ _ from C10.out).other (p := ⟨w.heap.size, 0, none⟩) (by show w.heap.size ≠ _; omega) (.int .i64 0)).other (p := ⟨w.heap.size + 1, 0, none⟩) (by show w.heap.size + 1 ≠ _; omega) (.int .i64 0)).set 0 (.int .i64 1)
  have d8 := k8.at 0 rfl
  have d9 := k9.at 0 rfl
  have d10 := k10.at 0 rfl
  generalize hWF : (((w2.drew.setCell ⟨w.heap.size, 0, none⟩ (.int .i64 0)).setCell ⟨w.heap.size + 1, 0, none⟩ (.int .i64 0)).setCell ⟨w.heap.size + 1 + 1, 0, none⟩ (.int .i64 1)) = WF at *
  simp [Leaves, settle, results, Tryd.results9, go_sem, d8, d9, d10]
  exact hpk
end

def h0 : MkS := ⟨100, 0, []⟩
def h1 : MkS := ⟨100, 1, [bareNd 2 0 0]⟩
def h2 : MkS := ⟨100, 1, [bareNd 2 0 0, ⟨1, 0, 0, ⟨false, [], [1]⟩⟩]⟩
def h3 : MkS := ⟨100, 1, [bareNd 2 0 0, ⟨1, 0, 0, ⟨false, [], [1]⟩⟩, bareNd 8 0 0, bareNd 3 1 2]⟩
theorem hsay2 : putC h1 0 (-1) (-1) = (0, 1, 0, h2) := by kernel_rfl
theorem hsay3 : numS h2 (frI 0) = (1, 0, h2) := by kernel_rfl
theorem hsay4 : putC h2 0 1 (-1) = (3, 0, 0, h3) := by kernel_rfl
theorem hsay5 : putC h3 9 (-1) (-1) = (0, 0, 2, h3) := by kernel_rfl
theorem hsay6 : putC h3 0 (-2) (-1) = (0, 0, 2, h3) := by kernel_rfl
theorem i64_small {v : Int} (h : -100000 ≤ v ∧ v ≤ 100000) : I64 v := ⟨by omega, by omega⟩

set_option maxRecDepth 100000 in
set_option maxHeartbeats 8000000 in
theorem head_any (w : World) (ht : Tab w) : Calls Tryd.prog 11 #[] w (Just (.bool true) w) := by
  have HT := Lib.hid ht
  clear ht
  go_enter Tryd.func11, Tryd.ntmps11
  go_wp2_with (first | (go_at_call 4; refine (new_ours 100 _ (by decide) (by decide)).mono ?_) | fail)
  rintro e wa ⟨pm, Pa, rfl, hoa⟩
  have Ha := Lib.hid hoa
  clear hoa
  go_wp2_with (first | (go_at_call 6; refine Ha.out.par.mono ?_) | fail)
  rintro e wb ⟨rfl, hth⟩
  obtain ⟨Pb, hob⟩ := hth.ours
  have hob : Ours w wb Pb (.pointer (some ⟨pm, 0, none⟩)) h1 := hob
  have Hb := Lib.hid hob
  clear hth hob
  go_wp2_with (first | (go_at_call 9; refine (put_some (u := 0) (l := -1) (h := -1) Hb.out HT.out i64_zero (i64_small (by decide)) (i64_small (by decide))).mono ?_) | fail)
  intro e wc hp
  rw [hsay2] at hp
  obtain ⟨rfl, hth, _, _⟩ := hp
  obtain ⟨Pc, hoc⟩ := hth.ours
  have hoc : Ours w wc Pc (.pointer (some ⟨pm, 0, none⟩)) h2 := hoc
  have Hc := Lib.hid hoc
  clear hth hoc
  go_wp2_with (first | (go_at_call 8; refine (of_int 0 _ (by decide)).mono ?_) | fail)
  rintro e wd ⟨vn, vd, rfl, hx, hg⟩
  have Hd := Lib.hid (Hc.out.more hg)
  have HX := Lib.hid hx
  have HN := Lib.hid (Hd.out.num (x := frI 0) HX.out)
  rw [hsay3] at HN
  clear hx hg
  go_wp2_with (first | (go_at_call 7; refine HN.out.mono ?_) | fail)
  rintro e we ⟨rfl, hth⟩
  obtain ⟨Pe, hoe⟩ := hth.ours
  have hoe : Ours w we Pe (.pointer (some ⟨pm, 0, none⟩)) h2 := hoe
  have He := Lib.hid hoe
  clear hth hoe
  go_wp2_with (first | (go_at_call 9; refine (put_some (u := 0) (l := 1) (h := -1) He.out HT.out i64_zero (i64_small (by decide)) (i64_small (by decide))).mono ?_) | fail)
  intro e wf hp
  rw [hsay4] at hp
  obtain ⟨rfl, hth, _, _⟩ := hp
  obtain ⟨Pf, hof⟩ := hth.ours
  have hof : Ours w wf Pf (.pointer (some ⟨pm, 0, none⟩)) h3 := hof
  have Hf := Lib.hid hof
  clear hth hof
  go_wp2_with (first | (go_at_call 9; refine (put_some (u := 9) (l := -1) (h := -1) Hf.out HT.out (i64_small (by decide)) (i64_small (by decide)) (i64_small (by decide))).mono ?_) | fail)
  intro e wg hp
  rw [hsay5] at hp
  obtain ⟨rfl, hth, _, _⟩ := hp
  obtain ⟨Pg, hog⟩ := hth.ours
  have hog : Ours w wg Pg (.pointer (some ⟨pm, 0, none⟩)) h3 := hog
  have Hg := Lib.hid hog
  clear hth hog
  go_wp2_with (first | (go_at_call 9; refine (put_some (u := 0) (l := -2) (h := -1) Hg.out HT.out i64_zero (i64_small (by decide)) (i64_small (by decide))).mono ?_) | fail)
  intro e wh hp
  rw [hsay6] at hp
  obtain ⟨rfl, hth, _, _⟩ := hp
  obtain ⟨Ph, hoh⟩ := hth.ours
  have Hh := Lib.hid hoh.grow
  clear hth hoh
  go_wp2_with (first | (go_at_call 9; refine (put_nil _).mono ?_; rintro e w9 ⟨rfl, h9⟩; have H9 := Lib.hid h9; clear h9) | fail)
  go_ret
  exact ⟨rfl, Hh.out.trans H9.out⟩
end Go.Proofs.YtcbebikcfcidmaaDoor

namespace Go.Proofs.YtcbebikcfcidmaaDoor
open Go.RowKit Go.Maps

section
variable {w0 w : World} {P : Nat → Prop} {m : Value} {S : MkS}
set_option maxRecDepth 100000 in
set_option maxHeartbeats 4000000 in
theorem made_any {low high : Int} {k bl bh bk : Nat} {a b : Bool} (ho : Ours w0 w P m S) (ht : Tab w0) (h1 : -128 ≤ low ∧ low ≤ 127) (h2 : -128 ≤ high ∧ high ≤ 127) (hk : k < 256) (ha : a = decide (k % 2 = 1)) (hb : b = decide (k / 2 % 2 = 1))
    (c1 : BlkOf w0 bl #[.int .i8 low] 22) (c2 : BlkOf w0 bh #[.int .i8 high] 22) (c3 : BlkOf w0 bk #[.int .u8 (k : Int)] 5) :
    Calls Tryd.prog 5 #[m, .pointer (some ⟨bl, 0, none⟩), .pointer (some ⟨bh, 0, none⟩), .pointer (some ⟨bk, 0, none⟩)] w (PutPost w0 w P m (madeS S low high a b)) := by
  obtain ⟨pm, rfl⟩ := ho.ptr
  obtain ⟨r, hr⟩ : ∃ r, r = madeS S low high a b := ⟨_, rfl⟩
  rw [← hr]
  have HO := Lib.hid ho
  have HT := Lib.hid ht
  have HR := Lib.hid hr
  have HC := Lib.hid (And.intro c1 (And.intro c2 c3))
  have HAB := Lib.hid (And.intro ha hb)
  clear ho ht hr ha hb
  go_enter Tryd.func5, Tryd.ntmps5
  go_wp2_with (first | (go_at_call 6; refine HO.out.par.mono ?_) | fail)
  rintro e wa ⟨rfl, hth⟩
  obtain ⟨Pa, hoa, hna⟩ := hth.next
  have Ha := Lib.hid hoa
  have HNa := Lib.hid hna
  have q1 := BlkOf.at (HC.out.1.below hoa.grow HC.out.1.lt) 0 rfl
  clear hth hoa hna c1 c2 c3
  go_wp2_with (first | (go_at_call 8; refine (of_int low _ (by omega)).mono ?_) | fail)
  rintro e wb ⟨vn, vd, rfl, hx, hg⟩
  have Hb := Lib.hid (Ha.out.more hg)
  have HGb := Lib.hid hg
  have HX := Lib.hid hx
  obtain ⟨r1, hr1⟩ : ∃ r1, r1 = numS (parS S).2.2 (frI low) := ⟨_, rfl⟩
  have HN := Lib.hid (Hb.out.num (x := frI low) HX.out)
  have HI1 : Hid (I64 r1.1) := Lib.hid (by rw [hr1]; exact numS_i64 Hb.out.good _)
  rw [← hr1] at HN
  have HR1 := Lib.hid hr1
  clear hx hg hr1
  go_wp2_with (first | (go_at_call 7; refine HN.out.mono ?_) | fail)
  rintro e wc ⟨rfl, hth⟩
  obtain ⟨Pc, hoc, hnc⟩ := (hth.ahead HGb.out).next
  have Hc := Lib.hid hoc
  have HNc := Lib.hid hnc
  have q2 := BlkOf.at (HC.out.2.1.below hoc.grow HC.out.2.1.lt) 0 rfl
  clear hth hoc hnc q1
  go_wp2_with (first | (go_at_call 8; refine (of_int high _ (by omega)).mono ?_) | fail)
  rintro e wd ⟨vn2, vd2, rfl, hx, hg⟩
  have Hd := Lib.hid (Hc.out.more hg)
  have HGd := Lib.hid hg
  have HX2 := Lib.hid hx
  obtain ⟨r2, hr2⟩ : ∃ r2, r2 = numS r1.2.2 (frI high) := ⟨_, rfl⟩
  have HN2 := Lib.hid (Hd.out.num (x := frI high) HX2.out)
  have HI2 : Hid (I64 r2.1) := Lib.hid (by rw [hr2]; exact numS_i64 Hd.out.good _)
  rw [← hr2] at HN2
  have HR2 := Lib.hid hr2
  clear hx hg hr2
  go_wp2_with (first | (go_at_call 7; refine HN2.out.mono ?_) | fail)
  rintro e we ⟨rfl, hth⟩
  obtain ⟨Pe, hoe, hne⟩ := (hth.ahead HGd.out).next
  have He := Lib.hid hoe
  have HFIN : Hid (∀ S2 w2, Then w0 we Pe (.pointer (some ⟨pm, 0, none⟩)) S2 w2 → Then w0 w P (.pointer (some ⟨pm, 0, none⟩)) S2 w2) := Lib.hid fun S2 w2 h => HNa.out _ _ (HNc.out _ _ (hne _ _ h))
  have q3 := BlkOf.at (HC.out.2.2.below hoe.grow HC.out.2.2.lt) 0 rfl
  clear hth hoe hne q2
  have HM : Hid (r = if r1.2.1 = 0 ∧ r2.2.1 = 0 then putC r2.2.2 0 (if a then r1.1 else -1) (if b then r2.1 else -1) else (0, 0, 171, r2.2.2)) := Lib.hid (by rw [HR.out, HR2.out, HR1.out]; rfl)
  obtain ⟨i1, e1, S1⟩ := r1
  obtain ⟨i2, e2, S2⟩ := r2
  dsimp only at HM
  by_cases n1 : e1 = 0
  · by_cases n2 : e2 = 0
    · subst n1 n2
      have HM2 : Hid (r = putC S2 0 (if a then i1 else -1) (if b then i2 else -1)) := Lib.hid (by rw [HM.out]; exact if_pos ⟨rfl, rfl⟩)
      have hp2 : k % 2 = 0 ∨ k % 2 = 1 := by omega
      have hp4 : k / 2 % 2 = 0 ∨ k / 2 % 2 = 1 := by omega
      rcases hp2 with p2 | p2
      · rcases hp4 with p4 | p4
        · have ha : a = false := by rw [HAB.out.1, p2]; rfl
          have hb : b = false := by rw [HAB.out.2, p4]; rfl
          have hpk := put_some (u := 0) (l := (-1)) (h := (-1)) He.out HT.out i64_zero (i64_small (by decide)) (i64_small (by decide))
          have hrr : putC S2 0 (-1) (-1) = r := by rw [HM2.out, ha, hb]; rfl
          rw [hrr] at hpk
          have HP := Lib.hid hpk
          clear hpk hrr ha hb
          go_wp2_with (first | (go_at_call 9; refine HP.out.mono ?_) | fail)
          intro e wf hp
          obtain ⟨rfl, hth, j1, j2⟩ := hp
          have HFI := Lib.hid (And.intro (HFIN.out _ _ hth) (And.intro j1 j2))
          clear hth j1 j2
          go_wp2_with fail
          go_ret3
          exact ⟨rfl, HFI.out⟩
        · have ha : a = false := by rw [HAB.out.1, p2]; rfl
          have hb : b = true := by rw [HAB.out.2, p4]; rfl
          have hpk := put_some (u := 0) (l := (-1)) (h := i2) He.out HT.out i64_zero (i64_small (by decide)) HI2.out
          have hrr : putC S2 0 (-1) i2 = r := by rw [HM2.out, ha, hb]; rfl
          rw [hrr] at hpk
          have HP := Lib.hid hpk
          clear hpk hrr ha hb
          go_wp2_with (first | (go_at_call 9; refine HP.out.mono ?_) | fail)
          intro e wf hp
          obtain ⟨rfl, hth, j1, j2⟩ := hp
          have HFI := Lib.hid (And.intro (HFIN.out _ _ hth) (And.intro j1 j2))
          clear hth j1 j2
          go_wp2_with fail
          go_ret3
          exact ⟨rfl, HFI.out⟩
      · rcases hp4 with p4 | p4
        · have ha : a = true := by rw [HAB.out.1, p2]; rfl
          have hb : b = false := by rw [HAB.out.2, p4]; rfl
          have hpk := put_some (u := 0) (l := i1) (h := (-1)) He.out HT.out i64_zero HI1.out (i64_small (by decide))
          have hrr : putC S2 0 i1 (-1) = r := by rw [HM2.out, ha, hb]; rfl
          rw [hrr] at hpk
          have HP := Lib.hid hpk
          clear hpk hrr ha hb
          go_wp2_with (first | (go_at_call 9; refine HP.out.mono ?_) | fail)
          intro e wf hp
          obtain ⟨rfl, hth, j1, j2⟩ := hp
          have HFI := Lib.hid (And.intro (HFIN.out _ _ hth) (And.intro j1 j2))
          clear hth j1 j2
          go_wp2_with fail
          go_ret3
          exact ⟨rfl, HFI.out⟩
        · have ha : a = true := by rw [HAB.out.1, p2]; rfl
          have hb : b = true := by rw [HAB.out.2, p4]; rfl
          have hpk := put_some (u := 0) (l := i1) (h := i2) He.out HT.out i64_zero HI1.out HI2.out
          have hrr : putC S2 0 i1 i2 = r := by rw [HM2.out, ha, hb]; rfl
          rw [hrr] at hpk
          have HP := Lib.hid hpk
          clear hpk hrr ha hb
          go_wp2_with (first | (go_at_call 9; refine HP.out.mono ?_) | fail)
          intro e wf hp
          obtain ⟨rfl, hth, j1, j2⟩ := hp
          have HFI := Lib.hid (And.intro (HFIN.out _ _ hth) (And.intro j1 j2))
          clear hth j1 j2
          go_wp2_with fail
          go_ret3
          exact ⟨rfl, HFI.out⟩
    · subst n1
      have HM2 : Hid (r = (0, 0, 171, S2)) := Lib.hid (by rw [HM.out]; exact if_neg (fun h => n2 h.2))
      go_wp2_with fail
      go_ret3
      rw [HM2.out]
      exact ⟨rfl, HFIN.out _ _ (Then.of_grow He.out (Grow.refl _)), i64_zero, i64_zero⟩
  · have HM2 : Hid (r = (0, 0, 171, S2)) := Lib.hid (by rw [HM.out]; exact if_neg (fun h => n1 h.1))
    go_wp2_with fail
    go_ret3
    rw [HM2.out]
    exact ⟨rfl, HFIN.out _ _ (Then.of_grow He.out (Grow.refl _)), i64_zero, i64_zero⟩
end
end Go.Proofs.YtcbebikcfcidmaaDoor
