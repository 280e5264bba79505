/-
  The texts TapRNum, TapRTell, TapRHalf, one behind the other.
-/
import Derived.Test.YtofpcdjoljjnoaaGreatDoorTapY23
import Derived.Test.YtofpcdjoljjnoaaGreatDoorTapY20
import Derived.Test.YtofpcdjoljjnoaaGreatDoorTapY17
import Derived.Test.YtofpcdjoljjnoaaGreatDoorTapY21
import Derived.Test.YtofpcdjoljjnoaaGreatDoorTapY19
import Derived.Test.YtofpcdjoljjnoaaGreatDoorTapY18
import Derived.Test.YtofpcdjoljjnoaaGreatDoorTapY22

namespace Go.Proofs.YtofpcdjoljjnoaaGreatDoor
open Go.RowKit Go.Maps

theorem RMkAt.mono {P P' : Nat → Prop} {w : World} {m : Value} {S : MkS} (h : RMkAt P w m S) (hp : ∀ k, P k → P' k) (hl : ∀ k, P' k → k < w.heap.size) : RMkAt P' w m S := by
  obtain ⟨pm, vN, e, h1, h2, h3, h4, _, h6⟩ := h
  exact ⟨pm, vN, e, hp _ h1, h2, h3.mono hp, h4, hl, h6⟩
/-- A call behind others that made memory alone. -/
theorem RMkPost.from {P P1 : Nat → Prop} {m : Value} {w w2 w' : World} {r : Int × Int × MkS} {e : Ending} (h : RMkPost P1 m w2 r e w') (hg : Grow w w2) (hp : ∀ k, P k → P1 k) (hn : ∀ k, P1 k → P k ∨ w.heap.size ≤ k) : RMkPost P m w r e w' := by
  obtain ⟨he, hs, P', h1, h2, h3⟩ := h
  exact ⟨he, (RSpare.of_grow (P := P) hg).trans hs hn, P', fun k hk => h1 k (hp k hk), fun k hk => by
    rcases h2 k hk with h | h
    · exact hn k h
    · exact .inr (Nat.le_trans (Below.size hg) h), h3⟩

set_option maxRecDepth 100000 in
set_option maxHeartbeats 4000000 in
theorem rnum_any {P : Nat → Prop} {w : World} {m : Value} {S : MkS} {x : Fr} {vn vd : Value} (h : RMkAt P w m S) (hG : Good S) (hx : FrAt 3 w x vn vd) :
    Calls Tryz.prog 17 #[m, .agg #[.bool x.s, vn, vd]] w (RMkPost P m w (numS S x)) := by
  have HH := Lib.hid h
  obtain ⟨W1, hW1⟩ : ∃ W1, W1 = w.alloc (.cells #[.bool x.s, vn, vd] 46) := ⟨_, rfl⟩
  have b0 : BlkOf W1 w.heap.size #[.bool x.s, vn, vd] 46 := by rw [hW1]; exact BlkOf.new w _ _
  have hbw : Grow w W1 := by rw [hW1]; exact Grow.alloc w _
  have HMAY := Lib.hid (may_any x.s (hx.grow hbw).num)
  have hnl := hx.num.1.lt
  have hdl := hx.num.2.lt
  have HXX := Lib.hid hx
  obtain ⟨⟨a, ca, rfl, _, _, _, _⟩, ⟨b, cb, rfl, _, _, _, _⟩, _⟩ := hx
  have HB := Lib.hid b0
  have HBW := Lib.hid hbw
  have c0 := b0.at 0 rfl
  have c1 := b0.at 1 rfl
  have c2 := b0.at 2 rfl
  obtain ⟨ok, hok⟩ : ∃ ok, ok = okF (lv x.m) (lv x.d) := ⟨_, rfl⟩
  rw [← hok] at HMAY
  subst hW1
  clear b0 hbw h
  cases ok with
  | false =>
    have HE : Hid (numS S x = (0, 2, S)) := Lib.hid (by unfold numS; rw [← hok]; rfl)
    rw [HE.out]
    clear hok hnl hdl hG
    go_enter Tryz.func17, Tryz.ntmps17
    go_wp2_with (first | (go_at_call 41; refine HMAY.out.mono ?_) | fail)
    rintro e w1 ⟨rfl, hg1⟩
    have HG1 := Lib.hid (Grow.trans HBW.out hg1)
    clear hg1 c0 c1 c2
    go_wp2_with fail
    go_ret2
    exact rsame_post HH.out HG1.out
  | true =>
    have HE : Hid (numS S x = putS S (numNd x)) := Lib.hid (by unfold numS; rw [← hok]; rfl)
    have HSP : Hid (rputS S (numNd x) = putS S (numNd x)) := Lib.hid (rputS_eq hG (numNd_step hok.symm 0 (S.pars : Int)))
    have hd0 : lv x.d ≠ 0 := (okF_iff.1 hok.symm).2.2
    have HNR := Lib.hid (fun W (hW : Grow w W) => rfnorm_any x.s (HXX.out.grow hW).num (by omega) hd0)
    have HLEN : Hid ((nrow (rdN (lv x.m) (lv x.d))).length ≤ 3 ∧ (nrow (rdD (lv x.m) (lv x.d))).length ≤ 3) := Lib.hid ⟨nrow_length_le (Nat.lt_of_le_of_lt (Nat.div_le_self _ _) hnl), nrow_length_le (Nat.lt_of_le_of_lt (Nat.div_le_self _ _) hdl)⟩
    rw [HE.out, ← HSP.out]
    clear hok hnl hdl hG hd0
    go_enter Tryz.func17, Tryz.ntmps17
    go_wp2_with (first | (go_at_call 41; refine HMAY.out.mono ?_) | fail)
    rintro e w1 ⟨rfl, hg1⟩
    have HG1 := Lib.hid (Grow.trans HBW.out hg1)
    have HB1 := Lib.hid (HB.out.below hg1 HB.out.lt)
    clear hg1 c0 c1 c2
    have c0 := HB1.out.at 0 rfl
    have c1 := HB1.out.at 1 rfl
    have c2 := HB1.out.at 2 rfl
    go_wp2_with (first | (go_at_call 43; refine (HNR.out _ HG1.out).mono ?_) | fail)
    rintro e w2 ⟨v, rfl, ⟨y, c, y2, cc2, rfl, hy, hy2⟩, hb2⟩
    have hg2 : Grow w w2 := Grow.trans HG1.out hb2
    have hlt := HH.out.lt
    have hsz := Below.size HG1.out
    have hraw : ∀ {v : Value} {n : Nat}, NRow w1.heap.size w2 v (nrow n) → RawIn (fun k => P k ∨ (w.heap.size ≤ k ∧ k < w2.heap.size)) w2 v (nrow n) := fun hy => by
      refine ⟨NRow.more hy (Nat.zero_le _), nrow_fits _, fun g hg => ?_⟩
      obtain ⟨h1, h2, _⟩ := ownsRow_own hy hg
      exact .inr ⟨by omega, h2⟩
    have hm2 := (HH.out.grow hg2).mono (P' := fun k => P k ∨ (w.heap.size ≤ k ∧ k < w2.heap.size)) (fun k hk => .inl hk) (fun k hk => by
      rcases hk with h | h
      · have := hlt k h; have := Below.size hg2; omega
      · exact h.2)
    have hnd : NdIn (fun k => P k ∨ (w.heap.size ≤ k ∧ k < w2.heap.size)) w2 (numNd x) (.slice y (nrow (rdN (lv x.m) (lv x.d))).length c) (.slice y2 (nrow (rdD (lv x.m) (lv x.d))).length cc2) :=
      ⟨(by decide : (1 : Nat) < 256), i64_zero, i64_zero, hraw hy, hraw hy2, Nat.le_trans HLEN.out.1 (by omega), Nat.le_trans HLEN.out.2 (by omega)⟩
    have hp := (rput_any hm2 hnd HLEN.out).mono (fun e W' (h : RMkPost _ _ _ _ _ _) => h.from hg2 (fun k hk => .inl hk) (fun k hk => hk.elim .inl (fun h => .inr h.1)))
    unfold ndV at hp
    have hp2 : Calls Tryz.prog 42 #[m, .agg #[.int .u8 1, .int .i64 0, .int .i64 0, .bool (rdS x.s (lv x.m)), .slice y (nrow (rdN (lv x.m) (lv x.d))).length c, .slice y2 (nrow (rdD (lv x.m) (lv x.d))).length cc2]] w2 (RMkPost P m w (rputS S (numNd x))) := hp
    have HP := Lib.hid hp2
    obtain ⟨r, hr⟩ : ∃ r, r = rputS S (numNd x) := ⟨_, rfl⟩
    rw [← hr] at HP
    obtain ⟨r1, r2, r3⟩ := r
    have HR := Lib.hid hr
    unfold frV
    clear hp hp2 hnd hm2 hraw hsz hlt hg2 hb2 hy hy2 hr c0 c1 c2
    go_wp2_with (first | (go_at_call 42; refine HP.out.mono ?_) | fail)
    rintro e w3 ⟨rfl, hrest⟩
    have HREST := Lib.hid hrest
    clear hrest
    go_wp2_with fail
    go_ret2
    rw [← HR.out]
    exact ⟨rfl, HREST.out⟩
end Go.Proofs.YtofpcdjoljjnoaaGreatDoor

namespace Go.Proofs.YtofpcdjoljjnoaaGreatDoor
open Go.RowKit Go.Maps

theorem exist_valid {S : MkS} (hG : Good S) (out : Int) (T : List (List UInt8 × Int)) : validB ⟨(S.pars : Int), out, S.l, T⟩ = existB S out T := by
  obtain ⟨_, g2, g3, g4, g5, _⟩ := hG
  unfold validB existB
  dsimp only
  rw [g5, decide_eq_true (show (0 : Int) ≤ (S.pars : Int) by omega), decide_eq_true (show (S.pars : Int) ≤ 200 by omega), decide_eq_true (show S.l.length ≤ 20000 by omega)]
  simp
/-- What the document's Tape tells. -/
def RTapePost (S : MkS) (out : Int) (A : Option Addr) (cap : Nat) (T : List (List UInt8 × Int)) (w : World) (e : Ending) (w' : World) : Prop :=
  (existB S out T = true ∧ ∃ vN, e = .returned (.tuple #[tpV ⟨(S.pars : Int), out, S.l, T⟩ vN (.slice A T.length cap), .int .i64 0]) ∧ TpAt 3 w' ⟨(S.pars : Int), out, S.l, T⟩ vN (.slice A T.length cap) ∧ Grow w w') ∨
  (existB S out T = false ∧ e = .returned (.tuple #[.agg #[.int .i64 0, .int .i64 0, .slice none 0 0, .slice none 0 0], .int .i64 2]) ∧ Grow w w')

set_option maxRecDepth 100000 in
set_option maxHeartbeats 8000000 in
theorem rtape_any {P : Nat → Prop} {w : World} {m : Value} {S : MkS} {out : Int} {A : Option Addr} {cap : Nat} {T : List (List UInt8 × Int)} (h : RMkAt P w m S) (hG : Good S) (ho : I64 out) (hT : TlsAt w A T) (hTn : T.length ≤ 1099511627776) :
    Calls Tryz.prog 25 #[m, .int .i64 out, .slice A T.length cap] w (RTapePost S out A cap T w) := by
  obtain ⟨W1, hW1⟩ : ∃ W1, W1 = w.alloc (.cells #[.int .i64 0, .int .i64 0, .slice none 0 0, .slice none 0 0] 25) := ⟨_, rfl⟩
  have b0 : BlkOf W1 w.heap.size #[.int .i64 0, .int .i64 0, .slice none 0 0, .slice none 0 0] 25 := by rw [hW1]; exact BlkOf.new w _ _
  have hbw : Grow w W1 := by rw [hW1]; exact Grow.alloc w _
  obtain ⟨pm, vN, rfl, hPm, hblk, hnds, hlow, hlt, hb1, hb2⟩ := h
  obtain ⟨AN, cN, rfl, hat⟩ := hnds.form
  have hat3 : NdsAt 3 w AN S.l := fun i y hy => by
    obtain ⟨b, off, un, ud, h1, h2, h3⟩ := hat i y hy
    exact ⟨b, off, un, ud, h1, h2, h3.1, h3.2.1, h3.2.2.1, h3.2.2.2.1, h3.2.2.2.2.1, hlow y (List.mem_of_getElem? hy)⟩
  have htp : TpAt 3 w ⟨(S.pars : Int), out, S.l, T⟩ (.slice AN S.l.length cN) (.slice A T.length cap) := ⟨by have := hG.2.2.1; constructor <;> simp only [] <;> omega, ho, by show S.l.length ≤ _; omega, hTn, _, _, _, _, rfl, rfl, hat3, hT⟩
  obtain ⟨ok, hok⟩ : ∃ ok, ok = existB S out T := ⟨_, rfl⟩
  obtain ⟨R, hR⟩ : ∃ R : Int, R = if ok = true then 0 else 170 := ⟨_, rfl⟩
  have hchk := fun W (hW : Grow w W) => rcheck_any (htp.grow hW)
  rw [exist_valid hG, ← hok, ← hR] at hchk
  unfold tpV at hchk
  dsimp only at hchk
  have HTP := Lib.hid htp
  have HOK := Lib.hid hok
  have HRR := Lib.hid hR
  obtain ⟨N, hN⟩ : ∃ N, N = S.l.length := ⟨_, rfl⟩
  obtain ⟨M, hM⟩ : ∃ M, M = T.length := ⟨_, rfl⟩
  have HN := Lib.hid hN
  have HM := Lib.hid hM
  rw [← hN] at hblk
  rw [← hN, ← hM] at hchk
  rw [← hM]
  have HCHK := Lib.hid hchk
  have HB := Lib.hid b0
  have HBW := Lib.hid hbw
  have HBLK := Lib.hid hblk
  have HW1 := Lib.hid hW1
  have KC : Hid (∀ W, Grow W1 W → W.cell? ⟨pm, 1, none⟩ = some (.int .i64 (S.pars : Int)) ∧ W.cell? ⟨pm, 2, none⟩ = some (.slice AN N cN)) := Lib.hid fun W hW => by
    have q := HBLK.out.below (Grow.trans hbw hW) HBLK.out.lt
    exact ⟨q.at 1 rfl, q.at 2 rfl⟩
  clear b0 hbw hblk hnds hlow hlt hb1 hb2 hat hat3 htp hok hR hchk hN hM hG hPm hT hW1
  go_enter Tryz.func25, Tryz.ntmps25
  go_wp2_with fail
  rw [← HW1.out]
  refine wp_region_listG [fun v _ => v = .pointer (some ⟨pm, 0, none⟩), fun v _ => v = .pointer (some ⟨pm, 0, none⟩), fun v _ => v = .pointer (some ⟨pm, 1, none⟩), fun v _ => v = .int .i64 (S.pars : Int), fun v _ => v = .int .i64 out, fun v _ => v = .pointer (some ⟨pm, 0, none⟩), fun v _ => v = .pointer (some ⟨pm, 0, none⟩), fun v _ => v = .pointer (some ⟨pm, 2, none⟩), fun v _ => v = .slice AN N cN, fun v _ => v = .slice A M cap, fun v _ => v = .agg #[.int .i64 (S.pars : Int), .int .i64 out, .slice AN N cN, .slice A M cap], fun v W => ∃ h, v = .pointer (some ⟨h, 0, none⟩) ∧ BlkOf W h #[.int .i64 0, .int .i64 0, .slice none 0 0, .slice none 0 0] 25 ∧ W1.heap.size ≤ h]
    [(0, .pointer (some ⟨pm, 0, none⟩)), (1, .int .i64 out), (2, .slice A M cap)] 12 (by kernel_rfl) ⟨stays_pure _, stays_pure _, stays_pure _, stays_pure _, stays_pure _, stays_pure _, stays_pure _, stays_pure _, stays_pure _, stays_pure _, stays_pure _, fun v w w' hr h => h.imp fun h1 q => ⟨q.1, q.2.1.below hr q.2.1.lt, q.2.2⟩, trivial⟩ rfl (by kernel_rfl) rfl ?base (by kernel_rfl) ⟨?_, ?_, ?_, ?_, ?_, ?_, ?_, ?_, ?_, ?_, ?_, ?_, trivial⟩ ?last
  case base => simp
  case last =>
    intro vs W hW hv
    simp only [FactsL, Nat.zero_add, Nat.reduceAdd] at hv
    have v10 := hv.2.2.2.2.2.2.2.2.2.2.1
    have v11 := hv.2.2.2.2.2.2.2.2.2.2.2.1
    clear hv
    refine ⟨rfl, ?_⟩
    simp only [List.take_succ_cons, List.take_zero, putF, Act.put, List.setIfInBounds_toArray, List.set_cons_zero, List.set_cons_succ, Nat.reduceAdd, v10]
    obtain ⟨h, eh, hbh, hh⟩ := v11
    simp only [eh]
    unfold Oper.wp
    have z0 := hbh.free 0
    have z1 := hbh.free 1
    have z2 := hbh.free 2
    have z3 := hbh.free 3
    have q0 := hbh.at 0 rfl
    have q1 := hbh.at 1 rfl
    have q2 := hbh.at 2 rfl
    have q3 := hbh.at 3 rfl
    simp [execOp, go_sem, z0, z1, z2, z3, q0, q1, q2, q3]
    have hgW : Grow w W := Grow.trans HBW.out hW
    have hne : w.heap.size < h := by have := HB.out.lt; omega
    have hb4 := (((hbh.set 0 (.int .i64 (S.pars : Int))).set 1 (.int .i64 out)).set 2 (.slice AN N cN)).set 3 (.slice A M cap)
    have hz4 := (((((HB.out.below hW HB.out.lt).other (p := ⟨h, 0, none⟩) (by show h ≠ w.heap.size; omega) (.int .i64 (S.pars : Int))).other (p := ⟨h, 1, none⟩) (by show h ≠ w.heap.size; omega) (.int .i64 out)).other (p := ⟨h, 2, none⟩) (by show h ≠ w.heap.size; omega) (.slice AN N cN))).other (p := ⟨h, 3, none⟩) (by show h ≠ w.heap.size; omega) (.slice A M cap)
    have hg4 := Below.setCell (p := ⟨h, 3, none⟩) (Below.setCell (p := ⟨h, 2, none⟩) (Below.setCell (p := ⟨h, 1, none⟩) (Below.setCell (p := ⟨h, 0, none⟩) hgW (by show w.heap.size ≤ h; omega) (.int .i64 (S.pars : Int))) (by show w.heap.size ≤ h; omega) (.int .i64 out)) (by show w.heap.size ≤ h; omega) (.slice AN N cN)) (by show w.heap.size ≤ h; omega) (.slice A M cap)
    obtain ⟨W4, hW4⟩ : ∃ W4, W4 = ((((W.setCell ⟨h, 0, none⟩ (.int .i64 (S.pars : Int))).setCell ⟨h, 1, none⟩ (.int .i64 out)).setCell ⟨h, 2, none⟩ (.slice AN N cN)).setCell ⟨h, 3, none⟩ (.slice A M cap)) := ⟨_, rfl⟩
    rw [← hW4] at hb4 hz4 hg4 ⊢
    have hb4' : BlkOf W4 h #[.int .i64 (S.pars : Int), .int .i64 out, .slice AN N cN, .slice A M cap] 25 := hb4
    have HB4 := Lib.hid hb4'
    have HZ4 := Lib.hid hz4
    have HG4 := Lib.hid (show Grow w W4 from hg4)
    clear hb4 hz4 hg4 hW4 hgW z0 z1 z2 z3 q0 q1 q2 q3 hbh hW v10 eh
    have q0 := hb4'.at 0 rfl
    have q1 := hb4'.at 1 rfl
    have q2 := hb4'.at 2 rfl
    have q3 := hb4'.at 3 rfl
    clear hb4'
    go_wp2_with (first | (go_at_call 10; refine (HCHK.out _ HG4.out).mono ?_) | fail)
    rintro e w5 ⟨rfl, hg5⟩
    have HG5 := Lib.hid (Grow.trans HG4.out hg5)
    have HB5 := Lib.hid (HB4.out.below hg5 HB4.out.lt)
    have HZ5 := Lib.hid (HZ4.out.below hg5 HZ4.out.lt)
    clear q0 q1 q2 q3 hg5
    have z0 := HZ5.out.free
    have y0 := HZ5.out.at 0 rfl
    have y1 := HZ5.out.at 1 rfl
    have y2 := HZ5.out.at 2 rfl
    have y3 := HZ5.out.at 3 rfl
    have hRR := HRR.out
    cases ok with
    | false =>
      obtain rfl : R = 170 := by simpa using hRR
      clear hRR
      go_wp2_with fail
      refine post_cell_tmp rfl (g := w.heap.size) rfl ((((HZ5.out.set 0 (.int .i64 0)).set 1 (.int .i64 0)).set 2 (.slice none 0 0)).set 3 (.slice none 0 0)) Tryz.underlying25 rfl (by kernel_rfl) ?_
      refine .inr ⟨HOK.out.symm, rfl, ?_⟩
      exact Below.setCell (p := ⟨w.heap.size, 3, none⟩) (Below.setCell (p := ⟨w.heap.size, 2, none⟩) (Below.setCell (p := ⟨w.heap.size, 1, none⟩) (Below.setCell (p := ⟨w.heap.size, 0, none⟩) HG5.out (Nat.le_refl _) _) (Nat.le_refl _) _) (Nat.le_refl _) _) (Nat.le_refl _) _
    | true =>
      obtain rfl : R = 0 := by simpa using hRR
      clear hRR
      have q0 := HB5.out.at 0 rfl
      have q1 := HB5.out.at 1 rfl
      have q2 := HB5.out.at 2 rfl
      have q3 := HB5.out.at 3 rfl
      go_wp2_with fail
      refine post_cell_tmp rfl (g := w.heap.size) rfl ((((HZ5.out.set 0 (.int .i64 (S.pars : Int))).set 1 (.int .i64 out)).set 2 (.slice AN N cN)).set 3 (.slice A M cap)) Tryz.underlying25 rfl (by kernel_rfl) ?_
      have hg6 := Below.setCell (p := ⟨w.heap.size, 3, none⟩) (Below.setCell (p := ⟨w.heap.size, 2, none⟩) (Below.setCell (p := ⟨w.heap.size, 1, none⟩) (Below.setCell (p := ⟨w.heap.size, 0, none⟩) HG5.out (Nat.le_refl _) (.int .i64 (S.pars : Int))) (Nat.le_refl _) (.int .i64 out)) (Nat.le_refl _) (.slice AN N cN)) (Nat.le_refl _) (.slice A M cap)
      refine .inl ⟨HOK.out.symm, .slice AN N cN, ?_, ?_, hg6⟩
      · rw [HM.out]; rfl
      · have h1 := HTP.out.grow hg6
        rw [← HN.out] at h1
        exact h1
  all_goals
    intro a' W hW hb hf
    obtain ⟨t1, t2⟩ := KC.out W hW
    simp only [List.forall_mem_cons, List.not_mem_nil, false_imp_iff, implies_true, and_true] at hb
    obtain ⟨m0, m1, m2⟩ := hb
    simp [FactsOf, FactAt, Region.binds, factsL] at hf
  · refine .inl ⟨rfl, fun K hK => ?_⟩
    unfold Oper.wp
    simp [execOp, go_sem, *]
    exact hK _ _ (Grow.refl _) rfl
  · refine .inl ⟨rfl, fun K hK => ?_⟩
    unfold Oper.wp
    simp [execOp, go_sem, *]
    exact hK _ _ (Grow.refl _) rfl
  · refine .inl ⟨rfl, fun K hK => ?_⟩
    unfold Oper.wp
    simp [execOp, go_sem, *]
    exact hK _ _ (Grow.refl _) rfl
  · refine .inl ⟨rfl, fun K hK => ?_⟩
    unfold Oper.wp
    simp [execOp, go_sem, *]
    exact hK _ _ (Grow.refl _) rfl
  · refine .inl ⟨rfl, fun K hK => ?_⟩
    unfold Oper.wp
    simp [execOp, go_sem, *]
    exact hK _ _ (Grow.refl _) rfl
  · refine .inl ⟨rfl, fun K hK => ?_⟩
    unfold Oper.wp
    simp [execOp, go_sem, *]
    exact hK _ _ (Grow.refl _) rfl
  · refine .inl ⟨rfl, fun K hK => ?_⟩
    unfold Oper.wp
    simp [execOp, go_sem, *]
    exact hK _ _ (Grow.refl _) rfl
  · refine .inl ⟨rfl, fun K hK => ?_⟩
    unfold Oper.wp
    simp [execOp, go_sem, *]
    exact hK _ _ (Grow.refl _) rfl
  · refine .inl ⟨rfl, fun K hK => ?_⟩
    unfold Oper.wp
    simp [execOp, go_sem, *]
    exact hK _ _ (Grow.refl _) rfl
  · refine .inl ⟨rfl, fun K hK => ?_⟩
    unfold Oper.wp
    simp [execOp, go_sem, *]
    exact hK _ _ (Grow.refl _) rfl
  · refine .inl ⟨rfl, fun K hK => ?_⟩
    unfold Oper.wp
    simp [execOp, go_sem, *]
    exact hK _ _ (Grow.refl _) rfl
  · refine .inl ⟨rfl, fun K hK => ?_⟩
    unfold Oper.wp
    simp [execOp, go_sem]
    exact hK _ _ (Grow.alloc _ _) ⟨_, rfl, BlkOf.new W _ _, Below.size hW⟩
end Go.Proofs.YtofpcdjoljjnoaaGreatDoor

namespace Go.Proofs.YtofpcdjoljjnoaaGreatDoor
open Go.RowKit Go.Maps

/-- Two makers of blocks that are new since w0: the program's, which has S2, and the document's, which has S. -/
structure Half (w0 w : World) (P Q : Nat → Prop) (m q : Value) (S S2 : MkS) : Prop where
  one : MkAt P w m S2
  two : RMkAt Q w q S
  low : ∀ k, P k → w0.heap.size ≤ k
  low2 : ∀ k, Q k → w0.heap.size ≤ k
  apart : ∀ k, P k → ¬ Q k
  grow : Grow w0 w
section
variable {w0 w w' : World} {P Q : Nat → Prop} {m q : Value} {S S2 : MkS}
theorem Half.more (h : Half w0 w P Q m q S S2) (hg : Grow w w') : Half w0 w' P Q m q S S2 := ⟨h.one.grow hg, h.two.grow hg, h.low, h.low2, h.apart, h.grow.trans hg⟩
/-- Blocks of calls are as they were. -/
def CallKept (w w' : World) : Prop := ∀ b cs, BlkOf w b cs 48 → BlkOf w' b cs 48
def Told1 (w0 w : World) (Q : Nat → Prop) (m q : Value) (S : MkS) (r : Int × Int × MkS) (e : Ending) (w' : World) : Prop :=
  e = .returned (.tuple #[.int .i64 r.1, .int .i64 r.2.1]) ∧ CallKept w w' ∧ ∃ P', Half w0 w' P' Q m q S r.2.2
def Told2 (w0 w : World) (P : Nat → Prop) (m q : Value) (r : Int × Int × MkS) (e : Ending) (w' : World) : Prop :=
  e = .returned (.tuple #[.int .i64 r.1, .int .i64 r.2.1]) ∧ CallKept w w' ∧ ∃ Q', Half w0 w' P Q' m q r.2.2 r.2.2
theorem Half.first {r : Int × Int × MkS} {e : Ending} (h : Half w0 w P Q m q S S) (hp : MkPost P m w r e w') : Told1 w0 w Q m q S r e w' := by
  obtain ⟨he, hs, P', hP, hP', hm⟩ := hp
  refine ⟨he, fun b cs hb => hs.kinds b cs _ hb (by decide) (by decide), P', hm, h.two.spare hs (fun k hq hp => h.apart k hp hq), fun k hk => ?_, h.low2, fun k hk hq => ?_, ?_⟩
  · rcases hP' k hk with h1 | h1
    · exact h.low k h1
    · exact Nat.le_trans (Below.size h.grow) h1
  · rcases hP' k hk with h1 | h1
    · exact h.apart k h1 hq
    · have := h.two.lt k hq; omega
  · exact Below.trans h.grow (hs.below h.low (Below.size h.grow))
theorem Half.second {r : Int × Int × MkS} {e : Ending} (h : Half w0 w P Q m q S r.2.2) (hp : RMkPost Q q w r e w') : Told2 w0 w P m q r e w' := by
  obtain ⟨he, hs, Q', hP, hP', hm⟩ := hp
  refine ⟨he, fun b cs hb => hs.kinds b cs _ hb (by decide) (by decide), Q', h.one.rspare hs (fun k hk hq => h.apart k hk hq), hm, h.low, fun k hk => ?_, fun k hk hq => ?_, ?_⟩
  · rcases hP' k hk with h1 | h1
    · exact h.low2 k h1
    · exact Nat.le_trans (Below.size h.grow) h1
  · rcases hP' k hq with h1 | h1
    · exact h.apart k hk h1
    · have := h.one.lt k hk; omega
  · exact Below.trans h.grow ⟨hs.os, hs.tape, hs.output, hs.size, fun k hk => hs.other k (Nat.lt_of_lt_of_le hk (Below.size h.grow)) (fun hq => by have := h.low2 k hq; omega)⟩
theorem Half.good (h : Half w0 w P Q m q S S2) : Good S2 := by
  obtain ⟨_, _, _, _, _, _, hg⟩ := h.one
  exact hg
theorem Half.num1 (h : Half w0 w P Q m q S S) {x : Fr} {vn vd : Value} (hx : FrAt 3 w x vn vd) : Calls Tryz.prog 16 #[m, .agg #[.bool x.s, vn, vd]] w (Told1 w0 w Q m q S (numS S x)) :=
  (num_some h.one hx (by decide)).mono fun _ _ hp => h.first hp
theorem Half.num2 (hG : Good S) {x : Fr} (h : Half w0 w P Q m q S (numS S x).2.2) {vn vd : Value} (hx : FrAt 3 w x vn vd) : Calls Tryz.prog 17 #[q, .agg #[.bool x.s, vn, vd]] w (Told2 w0 w P m q (numS S x)) :=
  (rnum_any h.two hG hx).mono fun _ _ hp => h.second hp
theorem Half.par1 (h : Half w0 w P Q m q S S) : Calls Tryz.prog 18 #[m] w (Told1 w0 w Q m q S (parS S)) :=
  (par_some h.one).mono fun _ _ hp => h.first hp
theorem Half.par2 (hG : Good S) (h : Half w0 w P Q m q S (parS S).2.2) : Calls Tryz.prog 19 #[q] w (Told2 w0 w P m q (parS S)) :=
  (rpar_any h.two hG).mono fun _ _ hp => h.second hp
theorem Half.single1 (h : Half w0 w P Q m q S S) (ht : Tab w0) {op : Nat} {i : Int} (hop : op < 256) (hi : I64 i) : Calls Tryz.prog 20 #[m, .int .u8 (op : Int), .int .i64 i] w (Told1 w0 w Q m q S (oneS S op i)) :=
  (one_some h.one hop hi (ht.grow h.grow)).mono fun _ _ hp => h.first hp
theorem Half.single2 (hG : Good S) {op : Nat} {i : Int} (h : Half w0 w P Q m q S (oneS S op i).2.2) (hop : op < 256) (hi : I64 i) : Calls Tryz.prog 21 #[q, .int .u8 (op : Int), .int .i64 i] w (Told2 w0 w P m q (oneS S op i)) :=
  (rone_any h.two hG hop hi).mono fun _ _ hp => h.second hp
theorem Half.pair1 (h : Half w0 w P Q m q S S) (ht : Tab w0) {op : Nat} {i j : Int} (hop : op < 256) (hi : I64 i) (hj : I64 j) : Calls Tryz.prog 22 #[m, .int .u8 (op : Int), .int .i64 i, .int .i64 j] w (Told1 w0 w Q m q S (twoS S op i j)) :=
  (two_some h.one hop hi hj (ht.grow h.grow)).mono fun _ _ hp => h.first hp
theorem Half.pair2 (hG : Good S) {op : Nat} {i j : Int} (h : Half w0 w P Q m q S (twoS S op i j).2.2) (hop : op < 256) (hi : I64 i) (hj : I64 j) : Calls Tryz.prog 23 #[q, .int .u8 (op : Int), .int .i64 i, .int .i64 j] w (Told2 w0 w P m q (twoS S op i j)) :=
  (rtwo_any h.two hG hop hi hj).mono fun _ _ hp => h.second hp
/-- The length of the document's row. -/
theorem RMkAt.row (h : RMkAt Q w q S) : ∃ pq A c, q = .pointer (some ⟨pq, 0, none⟩) ∧ w.cell? ⟨pq, 2, none⟩ = some (.slice A S.l.length c) ∧ pq < w.heap.size := by
  obtain ⟨pq, vN, rfl, _, hb, hn, _⟩ := h
  obtain ⟨A, c, rfl, _⟩ := hn.form
  exact ⟨pq, A, c, rfl, hb.at 2 rfl, hb.lt⟩
end
theorem rnew_mine {n : Int} (w : World) (h1 : 1 ≤ n) (h2 : n ≤ 20000) : Calls Tryz.prog 14 #[.int .i64 n] w fun e w' => ∃ pq Q, e = .returned (.tuple #[.pointer (some ⟨pq, 0, none⟩), .int .i64 0]) ∧ Grow w w' ∧ RMkAt Q w' (.pointer (some ⟨pq, 0, none⟩)) ⟨n.toNat, 0, []⟩ ∧ ∀ k, Q k → w.heap.size ≤ k := by
  refine (rnew_any n w).mono ?_
  rintro e w' (⟨_, _, m, rfl, hb, hm⟩ | ⟨h, _⟩)
  · obtain ⟨pq, _, _, rfl, _, _⟩ := hm.row
    exact ⟨pq, _, rfl, hb, hm, fun k hk => hk.1⟩
  · exact absurd ⟨h1, h2⟩ h
theorem rnew_nomine {n : Int} (w : World) (h : ¬ (1 ≤ n ∧ n ≤ 20000)) : Calls Tryz.prog 14 #[.int .i64 n] w (Same (.tuple #[.pointer none, .int .i64 2]) w) := by
  refine (rnew_any n w).mono ?_
  rintro e w' (⟨h1, h2, _⟩ | ⟨_, rfl, rfl⟩)
  · exact absurd ⟨h1, h2⟩ h
  · exact ⟨rfl, rfl⟩
end Go.Proofs.YtofpcdjoljjnoaaGreatDoor
