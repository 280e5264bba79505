/-
  The texts TapRRightN, TapRRightB, TapRCheck, TapRNode, one behind the other.
-/
import Derived.Test.YtofpcdjoljjnoaaGreatDoorTapY20
import Derived.Test.YtofpcdjoljjnoaaGreatDoorTapY15
import Derived.Test.YtofpcdjoljjnoaaGreatDoorTapY19

namespace Go.Proofs.YtofpcdjoljjnoaaGreatDoor
open Go.RowKit

set_option maxRecDepth 100000 in
set_option maxHeartbeats 16000000 in
theorem right_num {w : World} {x : Nd} {vn vd : Value} {at' pars : Int} (h : NdOK 3 w x vn vd) (hop : x.op = 1) :
    Calls Tryz.prog 32 #[ndV x vn vd, .int .i64 at', .int .i64 pars] w (Just (.bool (stepB x at' pars)) w) := by
  have H := Lib.hid h
  obtain ⟨_, _, _, ⟨⟨a, ca, rfl, _, _, hfm, hm⟩, ⟨b, cb, rfl, _, _, hfd, hd⟩, hl1, hl2⟩⟩ := h
  unfold ndV
  rw [hop]
  obtain ⟨W1, hW1⟩ : ∃ W1, W1 = w.alloc (.cells #[.int .u8 1, .int .i64 x.a, .int .i64 x.b, .bool x.c.s, .slice a x.c.m.length ca, .slice b x.c.d.length cb] 71) := ⟨_, rfl⟩
  have b0 : BlkOf W1 w.heap.size #[.int .u8 1, .int .i64 x.a, .int .i64 x.b, .bool x.c.s, .slice a x.c.m.length ca, .slice b x.c.d.length cb] 71 := by rw [hW1]; exact BlkOf.new w _ _
  have hbw : Grow w W1 := by rw [hW1]; exact Grow.alloc _ _
  obtain ⟨mb, hmb⟩ : ∃ mb, mb = okF (lv x.c.m) (lv x.c.d) := ⟨_, rfl⟩
  obtain ⟨sb, hsb⟩ : ∃ sb, sb = sameB ⟨rdS x.c.s (lv x.c.m), nrow (rdN (lv x.c.m) (lv x.c.d)), nrow (rdD (lv x.c.m) (lv x.c.d))⟩ x.c := ⟨_, rfl⟩
  obtain ⟨α, hα⟩ : ∃ α, α = (x.a == 0) := ⟨_, rfl⟩
  obtain ⟨β, hβ⟩ : ∃ β, β = (x.b == 0) := ⟨_, rfl⟩
  obtain ⟨q2, hq2⟩ : ∃ q2, q2 = (mb && sb) := ⟨_, rfl⟩
  obtain ⟨q3, hq3⟩ : ∃ q3, q3 = (q2 && α) := ⟨_, rfl⟩
  obtain ⟨q4, hq4⟩ : ∃ q4, q4 = (q3 && β) := ⟨_, rfl⟩
  have HVAL : Hid (stepB x at' pars = q4) := Lib.hid (by
    rw [stepB_num hop, hq4, hq3, hq2, hmb, hsb, hα, hβ]
    unfold normB
    simp only [Bool.and_assoc]
    rfl)
  have HQ2 := Lib.hid hq2
  have HQ3 := Lib.hid hq3
  have HQ4 := Lib.hid hq4
  have HMAY : Hid (∀ W, Grow W1 W → Calls Tryz.prog 41 #[.agg #[.bool x.c.s, .slice a x.c.m.length ca, .slice b x.c.d.length cb]] W (Just (.bool mb) W)) := Lib.hid (fun W hW => by
    rw [hmb]; exact may_any x.c.s (H.out.2.2.2.grow (Grow.trans hbw hW)).num)
  have HNM : Hid (∀ W, Grow W1 W → mb = true → Calls Tryz.prog 43 #[.agg #[.bool x.c.s, .slice a x.c.m.length ca, .slice b x.c.d.length cb]] W (fun e W' => ∃ v, e = .returned v ∧ FrRow W1.heap.size W' v (rdS x.c.s (lv x.c.m)) (rdN (lv x.c.m) (lv x.c.d)) (rdD (lv x.c.m) (lv x.c.d)) ∧ Grow W W')) := Lib.hid (fun W hW hm => by
    refine (rfnorm_any x.c.s (H.out.2.2.2.grow (Grow.trans hbw hW)).num (by omega) (okF_iff.1 (by rw [← hmb]; exact hm)).2.2).mono ?_
    rintro e W' ⟨v, rfl, ⟨x, c, y, e, rfl, hx, hy⟩, hg⟩
    exact ⟨_, rfl, ⟨x, c, y, e, rfl, hx.more (Below.size hW), hy.more (Below.size hW)⟩, hg⟩)
  have HSM : Hid (∀ W, Grow W1 W → ∀ X cx Y cy, NRow W1.heap.size W (.slice X (nrow (rdN (lv x.c.m) (lv x.c.d))).length cx) (nrow (rdN (lv x.c.m) (lv x.c.d))) → NRow W1.heap.size W (.slice Y (nrow (rdD (lv x.c.m) (lv x.c.d))).length cy) (nrow (rdD (lv x.c.m) (lv x.c.d))) →
      Calls Tryz.prog 52 #[.agg #[.bool x.c.s, .slice a x.c.m.length ca, .slice b x.c.d.length cb], .agg #[.bool (rdS x.c.s (lv x.c.m)), .slice X (nrow (rdN (lv x.c.m) (lv x.c.d))).length cx, .slice Y (nrow (rdD (lv x.c.m) (lv x.c.d))).length cy]] W (Just (.bool sb) W)) := Lib.hid (fun W hW X cx Y cy hx hy => by
    obtain ⟨_, _, e1, _, _, h1⟩ := hx.at_
    obtain ⟨_, _, e2, _, _, h2⟩ := hy.at_
    cases e1
    cases e2
    have h := fsame_any (w := W) x.c ⟨rdS x.c.s (lv x.c.m), nrow (rdN (lv x.c.m) (lv x.c.d)), nrow (rdD (lv x.c.m) (lv x.c.d))⟩ a b X Y ca cb cx cy (by omega) (by omega) (hm.below (Grow.trans hbw hW) (Nat.le_refl _)) (hd.below (Grow.trans hbw hW) (Nat.le_refl _)) h1 h2
    rw [sameFB_norm, ← hsb] at h
    exact h)
  have KC : Hid (∀ W, Grow W1 W → W.cell? ⟨w.heap.size, 0, none⟩ = some (.int .u8 1) ∧ W.cell? ⟨w.heap.size, 1, none⟩ = some (.int .i64 x.a) ∧ W.cell? ⟨w.heap.size, 2, none⟩ = some (.int .i64 x.b) ∧ W.cell? ⟨w.heap.size, 3, none⟩ = some (.bool x.c.s) ∧ W.cell? ⟨w.heap.size, 4, none⟩ = some (.slice a x.c.m.length ca) ∧ W.cell? ⟨w.heap.size, 5, none⟩ = some (.slice b x.c.d.length cb)) := Lib.hid fun W hW => by
    have q := b0.below hW b0.lt
    exact ⟨q.at 0 rfl, q.at 1 rfl, q.at 2 rfl, q.at 3 rfl, q.at 4 rfl, q.at 5 rfl⟩
  have HBW := Lib.hid hbw
  have HW1 := Lib.hid hW1
  have hα' := hα.symm
  have hβ' := hβ.symm
  clear b0 hbw hW1 hmb hsb hq2 hq3 hq4 hα hβ hfm hm hfd hd
  go_enter Tryz.func32, Tryz.ntmps32
  go_wp2_with fail
  rename_i K0 hK0
  rw [← HW1.out]
  refine wp_region_listG [fun v _ => v = .pointer (some ⟨w.heap.size, 3, none⟩), fun v _ => v = .agg #[.bool x.c.s, .slice a x.c.m.length ca, .slice b x.c.d.length cb], fun v _ => v = .bool mb, fun v _ => v = .bool mb, fun v _ => mb = true → v = .pointer (some ⟨w.heap.size, 3, none⟩), fun v _ => mb = true → v = .agg #[.bool x.c.s, .slice a x.c.m.length ca, .slice b x.c.d.length cb], fun v _ => mb = true → v = .pointer (some ⟨w.heap.size, 3, none⟩), fun v _ => mb = true → v = .agg #[.bool x.c.s, .slice a x.c.m.length ca, .slice b x.c.d.length cb], fun v W => mb = true → FrRow W1.heap.size W v (rdS x.c.s (lv x.c.m)) (rdN (lv x.c.m) (lv x.c.d)) (rdD (lv x.c.m) (lv x.c.d)), fun v _ => mb = true → v = .bool sb, fun v _ => v = .bool q2, fun v _ => v = .bool q2, fun v _ => q2 = true → v = .pointer (some ⟨w.heap.size, 1, none⟩), fun v _ => q2 = true → v = .int .i64 x.a, fun v _ => q2 = true → v = .bool α, fun v _ => v = .bool q3, fun v _ => v = .bool q3, fun v _ => q3 = true → v = .pointer (some ⟨w.heap.size, 2, none⟩), fun v _ => q3 = true → v = .int .i64 x.b, fun v _ => q3 = true → v = .bool β, fun v _ => v = .bool q4]
    [(3, .pointer (some ⟨w.heap.size, 0, none⟩))] 21 (by kernel_rfl) ⟨stays_pure _, stays_pure _, stays_pure _, stays_pure _, stays_pure _, stays_pure _, stays_pure _, stays_pure _, (fun v W W' hg h hm => by obtain ⟨x, c, y, e, h1, h2, h3⟩ := h hm; exact ⟨x, c, y, e, h1, h2.below hg (Nat.le_refl _), h3.below hg (Nat.le_refl _)⟩), stays_pure _, stays_pure _, stays_pure _, stays_pure _, stays_pure _, stays_pure _, stays_pure _, stays_pure _, stays_pure _, stays_pure _, stays_pure _, stays_pure _, trivial⟩ rfl (by kernel_rfl) rfl ?base (by kernel_rfl) ⟨?_, ?_, ?_, ?_, ?_, ?_, ?_, ?_, ?_, ?_, ?_, ?_, ?_, ?_, ?_, ?_, ?_, ?_, ?_, ?_, ?_, trivial⟩ ?last
  case base => simp
  case last =>
    intro vs W hW hv
    simp only [FactsL, Nat.zero_add, Nat.reduceAdd] at hv
    have v20 := hv.2.2.2.2.2.2.2.2.2.2.2.2.2.2.2.2.2.2.2.2.1
    clear hv
    refine ⟨rfl, ?_⟩
    simp only [List.take_succ_cons, List.take_zero, putF, Act.put, List.setIfInBounds_toArray, List.set_cons_zero, List.set_cons_succ, Nat.reduceAdd, v20]
    unfold Oper.wp
    simp [execOp, go_sem]
    refine hK0 _ _ ?_
    have HGW := Lib.hid (Grow.trans HBW.out hW)
    clear v20
    go_wp2_with fail
    go_ret
    exact ⟨by rw [HVAL.out]; rfl, HGW.out⟩
  all_goals
    intro a' W hW hb hf
    obtain ⟨e0, e1, e2, e3, e4, e5⟩ := KC.out W hW
    simp only [List.forall_mem_cons, List.not_mem_nil, false_imp_iff, implies_true, and_true] at hb
    have m3 := hb
    simp [FactsOf, FactAt, Region.binds, factsL] at hf
  · refine .inl ⟨rfl, fun K hK => ?_⟩
    unfold Oper.wp
    simp [execOp, go_sem, *]
    exact hK _ _ (Grow.refl _) rfl
  · refine .inl ⟨rfl, fun K hK => ?_⟩
    unfold Oper.wp
    simp [execOp, go_sem, *]
    exact hK _ _ (Grow.refl _) rfl
  · refine .inl ⟨rfl, fun K hK => ?_⟩
    unfold Oper.wp
    simp [go_sem, *]
    refine (HMAY.out W hW).mono ?_
    rintro e W' ⟨rfl, hg⟩
    exact hK _ _ hg rfl
  · refine .inl ⟨rfl, fun K hK => ?_⟩
    unfold Oper.wp
    simp [execOp, go_sem, *]
    exact hK _ _ (Grow.refl _) rfl
  · cases HG : mb with
    | true =>
      refine .inl ⟨wanted_yes (j := 3) (b := true) rfl (yielded_of (d := 13) rfl (by simp [hf, HG])), fun K hK => ?_⟩
      unfold Oper.wp
      simp [execOp, go_sem, *]
      exact hK _ _ (Grow.refl _) (fun _ => rfl)
    | false => exact .inr ⟨wanted_no (j := 3) (b := true) rfl (yielded_of (d := 13) rfl (by simp [hf, HG])), fun h => by first | cases h | (rw [HG] at h; cases h)⟩
  · cases HG : mb with
    | true =>
      refine .inl ⟨wanted_yes (j := 3) (b := true) rfl (yielded_of (d := 13) rfl (by simp [hf, HG])), fun K hK => ?_⟩
      unfold Oper.wp
      simp [execOp, go_sem, *]
      exact hK _ _ (Grow.refl _) (fun _ => rfl)
    | false => exact .inr ⟨wanted_no (j := 3) (b := true) rfl (yielded_of (d := 13) rfl (by simp [hf, HG])), fun h => by first | cases h | (rw [HG] at h; cases h)⟩
  · cases HG : mb with
    | true =>
      refine .inl ⟨wanted_yes (j := 3) (b := true) rfl (yielded_of (d := 13) rfl (by simp [hf, HG])), fun K hK => ?_⟩
      unfold Oper.wp
      simp [execOp, go_sem, *]
      exact hK _ _ (Grow.refl _) (fun _ => rfl)
    | false => exact .inr ⟨wanted_no (j := 3) (b := true) rfl (yielded_of (d := 13) rfl (by simp [hf, HG])), fun h => by first | cases h | (rw [HG] at h; cases h)⟩
  · cases HG : mb with
    | true =>
      refine .inl ⟨wanted_yes (j := 3) (b := true) rfl (yielded_of (d := 13) rfl (by simp [hf, HG])), fun K hK => ?_⟩
      unfold Oper.wp
      simp [execOp, go_sem, *]
      exact hK _ _ (Grow.refl _) (fun _ => rfl)
    | false => exact .inr ⟨wanted_no (j := 3) (b := true) rfl (yielded_of (d := 13) rfl (by simp [hf, HG])), fun h => by first | cases h | (rw [HG] at h; cases h)⟩
  · cases HG : mb with
    | true =>
      refine .inl ⟨wanted_yes (j := 3) (b := true) rfl (yielded_of (d := 13) rfl (by simp [hf, HG])), fun K hK => ?_⟩
      unfold Oper.wp
      simp [go_sem, *]
      refine (HNM.out W hW HG).mono ?_
      rintro e W' ⟨v, rfl, hv, hg⟩
      exact hK _ _ hg (fun _ => hv)
    | false => exact .inr ⟨wanted_no (j := 3) (b := true) rfl (yielded_of (d := 13) rfl (by simp [hf, HG])), fun h => by first | cases h | (rw [HG] at h; cases h)⟩
  · cases HG : mb with
    | true =>
      refine .inl ⟨wanted_yes (j := 3) (b := true) rfl (yielded_of (d := 13) rfl (by simp [hf, HG])), fun K hK => ?_⟩
      obtain ⟨X, cx, Y, cy, ev, hx, hy⟩ := (hf.2.1 HG)
      unfold Oper.wp
      simp [go_sem, (hf.1 HG), ev, frV]
      refine (HSM.out W hW _ _ _ _ hx hy).mono ?_
      rintro e W' ⟨rfl, hg⟩
      exact hK _ _ hg (fun _ => rfl)
    | false => exact .inr ⟨wanted_no (j := 3) (b := true) rfl (yielded_of (d := 13) rfl (by simp [hf, HG])), fun h => by first | cases h | (rw [HG] at h; cases h)⟩
  · refine .inl ⟨rfl, fun K hK => ?_⟩
    cases HG : mb with
    | true =>
      have f := hf.2 HG
      have f0 := hf.1
      unfold Oper.wp
      simp [execOp, go_sem, f0, f, HG]
      exact hK _ _ (Grow.refl _) (by rw [HQ2.out, HG, Bool.true_and])
    | false =>
      have f0 := hf.1
      unfold Oper.wp
      simp [execOp, go_sem, f0, HG]
      exact hK _ _ (Grow.refl _) (by rw [HQ2.out, HG, Bool.false_and])
  · refine .inl ⟨rfl, fun K hK => ?_⟩
    unfold Oper.wp
    simp [execOp, go_sem, *]
    exact hK _ _ (Grow.refl _) rfl
  · cases HG : q2 with
    | true =>
      refine .inl ⟨wanted_yes (j := 11) (b := true) rfl (yielded_of (d := 21) rfl (by simp [hf, HG])), fun K hK => ?_⟩
      unfold Oper.wp
      simp [execOp, go_sem, *]
      exact hK _ _ (Grow.refl _) (fun _ => rfl)
    | false => exact .inr ⟨wanted_no (j := 11) (b := true) rfl (yielded_of (d := 21) rfl (by simp [hf, HG])), fun h => by first | cases h | (rw [HG] at h; cases h)⟩
  · cases HG : q2 with
    | true =>
      refine .inl ⟨wanted_yes (j := 11) (b := true) rfl (yielded_of (d := 21) rfl (by simp [hf, HG])), fun K hK => ?_⟩
      unfold Oper.wp
      simp [execOp, go_sem, *]
      exact hK _ _ (Grow.refl _) (fun _ => rfl)
    | false => exact .inr ⟨wanted_no (j := 11) (b := true) rfl (yielded_of (d := 21) rfl (by simp [hf, HG])), fun h => by first | cases h | (rw [HG] at h; cases h)⟩
  · cases HG : q2 with
    | true =>
      refine .inl ⟨wanted_yes (j := 11) (b := true) rfl (yielded_of (d := 21) rfl (by simp [hf, HG])), fun K hK => ?_⟩
      unfold Oper.wp
      simp [execOp, go_sem, *]
      exact hK _ _ (Grow.refl _) (fun _ => rfl)
    | false => exact .inr ⟨wanted_no (j := 11) (b := true) rfl (yielded_of (d := 21) rfl (by simp [hf, HG])), fun h => by first | cases h | (rw [HG] at h; cases h)⟩
  · refine .inl ⟨rfl, fun K hK => ?_⟩
    cases HG : q2 with
    | true =>
      have f := hf.2 HG
      have f0 := hf.1
      unfold Oper.wp
      simp [execOp, go_sem, f0, f, HG]
      exact hK _ _ (Grow.refl _) (by rw [HQ3.out, HG, Bool.true_and])
    | false =>
      have f0 := hf.1
      unfold Oper.wp
      simp [execOp, go_sem, f0, HG]
      exact hK _ _ (Grow.refl _) (by rw [HQ3.out, HG, Bool.false_and])
  · refine .inl ⟨rfl, fun K hK => ?_⟩
    unfold Oper.wp
    simp [execOp, go_sem, *]
    exact hK _ _ (Grow.refl _) rfl
  · cases HG : q3 with
    | true =>
      refine .inl ⟨wanted_yes (j := 16) (b := true) rfl (yielded_of (d := 26) rfl (by simp [hf, HG])), fun K hK => ?_⟩
      unfold Oper.wp
      simp [execOp, go_sem, *]
      exact hK _ _ (Grow.refl _) (fun _ => rfl)
    | false => exact .inr ⟨wanted_no (j := 16) (b := true) rfl (yielded_of (d := 26) rfl (by simp [hf, HG])), fun h => by first | cases h | (rw [HG] at h; cases h)⟩
  · cases HG : q3 with
    | true =>
      refine .inl ⟨wanted_yes (j := 16) (b := true) rfl (yielded_of (d := 26) rfl (by simp [hf, HG])), fun K hK => ?_⟩
      unfold Oper.wp
      simp [execOp, go_sem, *]
      exact hK _ _ (Grow.refl _) (fun _ => rfl)
    | false => exact .inr ⟨wanted_no (j := 16) (b := true) rfl (yielded_of (d := 26) rfl (by simp [hf, HG])), fun h => by first | cases h | (rw [HG] at h; cases h)⟩
  · cases HG : q3 with
    | true =>
      refine .inl ⟨wanted_yes (j := 16) (b := true) rfl (yielded_of (d := 26) rfl (by simp [hf, HG])), fun K hK => ?_⟩
      unfold Oper.wp
      simp [execOp, go_sem, *]
      exact hK _ _ (Grow.refl _) (fun _ => rfl)
    | false => exact .inr ⟨wanted_no (j := 16) (b := true) rfl (yielded_of (d := 26) rfl (by simp [hf, HG])), fun h => by first | cases h | (rw [HG] at h; cases h)⟩
  · refine .inl ⟨rfl, fun K hK => ?_⟩
    cases HG : q3 with
    | true =>
      have f := hf.2 HG
      have f0 := hf.1
      unfold Oper.wp
      simp [execOp, go_sem, f0, f, HG]
      exact hK _ _ (Grow.refl _) (by rw [HQ4.out, HG, Bool.true_and])
    | false =>
      have f0 := hf.1
      unfold Oper.wp
      simp [execOp, go_sem, f0, HG]
      exact hK _ _ (Grow.refl _) (by rw [HQ4.out, HG, Bool.false_and])
end Go.Proofs.YtofpcdjoljjnoaaGreatDoor

namespace Go.Proofs.YtofpcdjoljjnoaaGreatDoor
open Go.RowKit

set_option maxRecDepth 100000 in
set_option maxHeartbeats 16000000 in
theorem right_any {w : World} {x : Nd} {vn vd : Value} {at' pars : Int} (h : NdOK 3 w x vn vd) :
    Calls Tryz.prog 32 #[ndV x vn vd, .int .i64 at', .int .i64 pars] w (Just (.bool (stepB x at' pars)) w) := by
  by_cases hop1 : x.op = 1
  · exact right_num h hop1
  obtain ⟨_, _, _, ⟨⟨a, ca, rfl, _, _, _, _⟩, ⟨b, cb, rfl, _, _, _, _⟩, hl1, hl2⟩⟩ := h
  unfold ndV
  obtain ⟨op, hop⟩ : ∃ op, op = x.op := ⟨_, rfl⟩
  rw [← hop] at hop1 ⊢
  have hop1b : ((op : Int) == 1) = false := by simp; omega
  obtain ⟨W1, hW1⟩ : ∃ W1, W1 = w.alloc (.cells #[.int .u8 (op : Int), .int .i64 x.a, .int .i64 x.b, .bool x.c.s, .slice a x.c.m.length ca, .slice b x.c.d.length cb] 71) := ⟨_, rfl⟩
  have b0 : BlkOf W1 w.heap.size #[.int .u8 (op : Int), .int .i64 x.a, .int .i64 x.b, .bool x.c.s, .slice a x.c.m.length ca, .slice b x.c.d.length cb] 71 := by rw [hW1]; exact BlkOf.new w _ _
  have hbw : Grow w W1 := by rw [hW1]; exact Grow.alloc _ _
  have HNO := Lib.hid (rnone_any (w := W1) x.c a b ca cb (by omega) (by omega))
  obtain ⟨z, hz⟩ : ∃ z, z = sameB x.c ⟨false, [], []⟩ := ⟨_, rfl⟩
  rw [← hz] at HNO
  have HB0 := Lib.hid b0
  have HBW := Lib.hid hbw
  have HOP := Lib.hid hop
  have c0 := b0.at 0 rfl
  have c3 := b0.at 3 rfl
  have c4 := b0.at 4 rfl
  have c5 := b0.at 5 rfl
  subst hW1
  clear b0 hbw
  cases z with
  | false =>
    have HV : Hid (stepB x at' pars = false) := Lib.hid (stepB_zero (by rw [← HOP.out]; exact hop1) hz.symm)
    clear hz hop
    go_enter Tryz.func32, Tryz.ntmps32
    go_wp2_with (first | (go_at_call 53; refine HNO.out.mono ?_) | fail)
    rintro e w3 ⟨rfl, hg3⟩
    have HG3 := Lib.hid (Grow.trans HBW.out hg3)
    clear hg3
    go_wp2_with fail
    go_ret
    exact ⟨by rw [HV.out]; rfl, HG3.out⟩
  | true =>
    have HZ := Lib.hid hz.symm
    clear hz hop
    go_enter Tryz.func32, Tryz.ntmps32
    go_wp2_with (first | (go_at_call 53; refine HNO.out.mono ?_) | fail)
    rintro e w3 ⟨rfl, hg3⟩
    have HG3 := Lib.hid (Grow.trans HBW.out hg3)
    have hB3 := HB0.out.below hg3 HB0.out.lt
    clear hg3 c0 c3 c4 c5
    have c0 := hB3.at 0 rfl
    have c1 := hB3.at 1 rfl
    have c2 := hB3.at 2 rfl
    have HTWO := Lib.hid (istwo_any op w3)
    have HONE := Lib.hid (isone_any op w3)
    clear hB3
    by_cases hp : op = 2
    · have hop2 : x.op = 2 := by rw [← HOP.out]; exact hp
      have hop2b : ((op : Int) == 2) = true := by simp [hp]
      by_cases k0 : 0 ≤ x.a
      · skip
        by_cases k1 : x.a < pars
        · skip
          by_cases k2 : x.b = 0
          · have eb2 : (x.b == 0) = true := by simp [k2]
            have HV : Hid (stepB x at' pars = true) := Lib.hid (by rw [stepB_par hop2 HZ.out]; simp [*])
            go_wp2_with (first | (go_at_call 31; refine HTWO.out.mono ?_; rintro e W3 ⟨rfl, rfl⟩) | (go_at_call 45; refine HONE.out.mono ?_; rintro e W3 ⟨rfl, rfl⟩) | fail)
            go_ret
            exact ⟨by rw [HV.out]; first | rfl | exact congrArg (fun b => Ending.returned (Value.bool b)) (decide_eq_false (by omega)), HG3.out⟩
          · have eb2 : (x.b == 0) = false := by simp [k2]
            have HV : Hid (stepB x at' pars = false) := Lib.hid (by rw [stepB_par hop2 HZ.out]; simp [*])
            go_wp2_with (first | (go_at_call 31; refine HTWO.out.mono ?_; rintro e W3 ⟨rfl, rfl⟩) | (go_at_call 45; refine HONE.out.mono ?_; rintro e W3 ⟨rfl, rfl⟩) | fail)
            go_ret
            exact ⟨by rw [HV.out]; first | rfl | exact congrArg (fun b => Ending.returned (Value.bool b)) (decide_eq_false (by omega)), HG3.out⟩
        · skip
          have HV : Hid (stepB x at' pars = false) := Lib.hid (by rw [stepB_par hop2 HZ.out]; simp [*])
          go_wp2_with (first | (go_at_call 31; refine HTWO.out.mono ?_; rintro e W3 ⟨rfl, rfl⟩) | (go_at_call 45; refine HONE.out.mono ?_; rintro e W3 ⟨rfl, rfl⟩) | fail)
          go_ret
          exact ⟨by rw [HV.out]; first | rfl | exact congrArg (fun b => Ending.returned (Value.bool b)) (decide_eq_false (by omega)), HG3.out⟩
      · skip
        have HV : Hid (stepB x at' pars = false) := Lib.hid (by rw [stepB_par hop2 HZ.out]; simp [*])
        go_wp2_with (first | (go_at_call 31; refine HTWO.out.mono ?_; rintro e W3 ⟨rfl, rfl⟩) | (go_at_call 45; refine HONE.out.mono ?_; rintro e W3 ⟨rfl, rfl⟩) | fail)
        go_ret
        exact ⟨by rw [HV.out]; first | rfl | exact congrArg (fun b => Ending.returned (Value.bool b)) (decide_eq_false (by omega)), HG3.out⟩
    · have hop2b : ((op : Int) == 2) = false := by simp; omega
      by_cases h36 : 3 ≤ x.op ∧ x.op ≤ 6
      · rw [decide_eq_true (by rw [HOP.out]; exact h36.1), decide_eq_true (by rw [HOP.out]; exact h36.2)] at HTWO
        by_cases k0 : 0 ≤ x.a
        · skip
          by_cases k1 : x.a < at'
          · skip
            by_cases k2 : 0 ≤ x.b
            · skip
              by_cases k3 : x.b < at'
              · skip
                have HV : Hid (stepB x at' pars = true) := Lib.hid (by rw [stepB_two h36 HZ.out]; simp [*])
                go_wp2_with (first | (go_at_call 31; refine HTWO.out.mono ?_; rintro e W3 ⟨rfl, rfl⟩) | (go_at_call 45; refine HONE.out.mono ?_; rintro e W3 ⟨rfl, rfl⟩) | fail)
                go_ret
                exact ⟨by rw [HV.out]; first | rfl | exact congrArg (fun b => Ending.returned (Value.bool b)) (decide_eq_false (by omega)), HG3.out⟩
              · skip
                have HV : Hid (stepB x at' pars = false) := Lib.hid (by rw [stepB_two h36 HZ.out]; simp [*])
                go_wp2_with (first | (go_at_call 31; refine HTWO.out.mono ?_; rintro e W3 ⟨rfl, rfl⟩) | (go_at_call 45; refine HONE.out.mono ?_; rintro e W3 ⟨rfl, rfl⟩) | fail)
                go_ret
                exact ⟨by rw [HV.out]; first | rfl | exact congrArg (fun b => Ending.returned (Value.bool b)) (decide_eq_false (by omega)), HG3.out⟩
            · skip
              have HV : Hid (stepB x at' pars = false) := Lib.hid (by rw [stepB_two h36 HZ.out]; simp [*])
              go_wp2_with (first | (go_at_call 31; refine HTWO.out.mono ?_; rintro e W3 ⟨rfl, rfl⟩) | (go_at_call 45; refine HONE.out.mono ?_; rintro e W3 ⟨rfl, rfl⟩) | fail)
              go_ret
              exact ⟨by rw [HV.out]; first | rfl | exact congrArg (fun b => Ending.returned (Value.bool b)) (decide_eq_false (by omega)), HG3.out⟩
          · skip
            have HV : Hid (stepB x at' pars = false) := Lib.hid (by rw [stepB_two h36 HZ.out]; simp [*])
            go_wp2_with (first | (go_at_call 31; refine HTWO.out.mono ?_; rintro e W3 ⟨rfl, rfl⟩) | (go_at_call 45; refine HONE.out.mono ?_; rintro e W3 ⟨rfl, rfl⟩) | fail)
            go_ret
            exact ⟨by rw [HV.out]; first | rfl | exact congrArg (fun b => Ending.returned (Value.bool b)) (decide_eq_false (by omega)), HG3.out⟩
        · skip
          have HV : Hid (stepB x at' pars = false) := Lib.hid (by rw [stepB_two h36 HZ.out]; simp [*])
          go_wp2_with (first | (go_at_call 31; refine HTWO.out.mono ?_; rintro e W3 ⟨rfl, rfl⟩) | (go_at_call 45; refine HONE.out.mono ?_; rintro e W3 ⟨rfl, rfl⟩) | fail)
          go_ret
          exact ⟨by rw [HV.out]; first | rfl | exact congrArg (fun b => Ending.returned (Value.bool b)) (decide_eq_false (by omega)), HG3.out⟩
      · have hno : (decide (3 ≤ op) && decide (op ≤ 6)) = false := by
          rw [← HOP.out] at h36
          by_cases h3 : 3 ≤ op
          · rw [decide_eq_false (show ¬ op ≤ 6 by omega), Bool.and_false]
          · rw [decide_eq_false h3, Bool.false_and]
        rw [hno] at HTWO
        by_cases h711 : 7 ≤ x.op ∧ x.op ≤ 11
        · rw [decide_eq_true (by rw [HOP.out]; exact h711.1), decide_eq_true (by rw [HOP.out]; exact h711.2)] at HONE
          clear hno
          by_cases k0 : 0 ≤ x.a
          · skip
            by_cases k1 : x.a < at'
            · skip
              by_cases k2 : x.b = 0
              · have eb2 : (x.b == 0) = true := by simp [k2]
                have HV : Hid (stepB x at' pars = true) := Lib.hid (by rw [stepB_one h711 HZ.out]; simp [*])
                go_wp2_with (first | (go_at_call 31; refine HTWO.out.mono ?_; rintro e W3 ⟨rfl, rfl⟩) | (go_at_call 45; refine HONE.out.mono ?_; rintro e W3 ⟨rfl, rfl⟩) | fail)
                go_ret
                exact ⟨by rw [HV.out]; first | rfl | exact congrArg (fun b => Ending.returned (Value.bool b)) (decide_eq_false (by omega)), HG3.out⟩
              · have eb2 : (x.b == 0) = false := by simp [k2]
                have HV : Hid (stepB x at' pars = false) := Lib.hid (by rw [stepB_one h711 HZ.out]; simp [*])
                go_wp2_with (first | (go_at_call 31; refine HTWO.out.mono ?_; rintro e W3 ⟨rfl, rfl⟩) | (go_at_call 45; refine HONE.out.mono ?_; rintro e W3 ⟨rfl, rfl⟩) | fail)
                go_ret
                exact ⟨by rw [HV.out]; first | rfl | exact congrArg (fun b => Ending.returned (Value.bool b)) (decide_eq_false (by omega)), HG3.out⟩
            · skip
              have HV : Hid (stepB x at' pars = false) := Lib.hid (by rw [stepB_one h711 HZ.out]; simp [*])
              go_wp2_with (first | (go_at_call 31; refine HTWO.out.mono ?_; rintro e W3 ⟨rfl, rfl⟩) | (go_at_call 45; refine HONE.out.mono ?_; rintro e W3 ⟨rfl, rfl⟩) | fail)
              go_ret
              exact ⟨by rw [HV.out]; first | rfl | exact congrArg (fun b => Ending.returned (Value.bool b)) (decide_eq_false (by omega)), HG3.out⟩
          · skip
            have HV : Hid (stepB x at' pars = false) := Lib.hid (by rw [stepB_one h711 HZ.out]; simp [*])
            go_wp2_with (first | (go_at_call 31; refine HTWO.out.mono ?_; rintro e W3 ⟨rfl, rfl⟩) | (go_at_call 45; refine HONE.out.mono ?_; rintro e W3 ⟨rfl, rfl⟩) | fail)
            go_ret
            exact ⟨by rw [HV.out]; first | rfl | exact congrArg (fun b => Ending.returned (Value.bool b)) (decide_eq_false (by omega)), HG3.out⟩
        · have hno2 : (decide (7 ≤ op) && decide (op ≤ 11)) = false := by
            rw [← HOP.out] at h711
            by_cases h3 : 7 ≤ op
            · rw [decide_eq_false (show ¬ op ≤ 11 by omega), Bool.and_false]
            · rw [decide_eq_false h3, Bool.false_and]
          rw [hno2] at HONE
          have HV : Hid (stepB x at' pars = false) := Lib.hid (stepB_else (by have := HOP.out; omega))
          clear hno hno2
          go_wp2_with (first | (go_at_call 31; refine HTWO.out.mono ?_; rintro e W3 ⟨rfl, rfl⟩) | (go_at_call 45; refine HONE.out.mono ?_; rintro e W3 ⟨rfl, rfl⟩) | fail)
          go_ret
          exact ⟨by rw [HV.out]; rfl, HG3.out⟩
end Go.Proofs.YtofpcdjoljjnoaaGreatDoor

namespace Go.Proofs.YtofpcdjoljjnoaaGreatDoor
open Go.RowKit

def RChkRel (pars : Int) (L : List Nd) (z : Nat) (cs : Array Value) (w : World) (i : Value) (wr : World) : Prop :=
  ∃ k : Nat, k ≤ L.length ∧ i = .int .i64 (k : Int) ∧ stepsB pars 0 (L.take k) = true ∧ BlkOf wr z cs 25 ∧ Grow w wr
def RChkRel2 (n : Int) (T : List (List UInt8 × Int)) (z : Nat) (cs : Array Value) (w : World) (i : Value) (wr : World) : Prop :=
  ∃ k : Nat, k ≤ T.length ∧ i = .int .i64 (k : Int) ∧ tellsB n (T.take k) = true ∧ BlkOf wr z cs 25 ∧ Grow w wr

set_option maxRecDepth 100000 in
set_option maxHeartbeats 16000000 in
theorem rcheck_any {w : World} {t : Tp} {vn vt : Value} (h : TpAt 3 w t vn vt) :
    Calls Tryz.prog 10 #[tpV t vn vt] w (Just (.int .i64 (if validB t then 0 else 170)) w) := by
  obtain ⟨hp, ho, hnl, htl, A, ca, B, cb, rfl, rfl, hn, htt⟩ := h
  obtain ⟨pars, out, L, T⟩ := t
  unfold tpV
  dsimp only at *
  obtain ⟨N, hN⟩ : ∃ N, N = L.length := ⟨_, rfl⟩
  obtain ⟨M, hM⟩ : ∃ M, M = T.length := ⟨_, rfl⟩
  rw [← hN] at hnl ⊢
  rw [← hM] at htl ⊢
  have HN := Lib.hid hN
  have HM := Lib.hid hM
  have HL := Lib.hid hn
  have HT := Lib.hid htt
  have b0 : BlkOf (w.alloc (.cells #[.int .i64 pars, .int .i64 out, .slice A N ca, .slice B M cb] 25)) w.heap.size #[.int .i64 pars, .int .i64 out, .slice A N ca, .slice B M cb] 25 := BlkOf.new w _ _
  have HB := Lib.hid b0
  have HG := Lib.hid (Grow.alloc w (.cells #[.int .i64 pars, .int .i64 out, .slice A N ca, .slice B M cb] 25))
  obtain ⟨hp1, hp2⟩ := hp
  obtain ⟨ho1, ho2⟩ := ho
  obtain ⟨R, hR⟩ : ∃ R : Int, R = if validB ⟨pars, out, L, T⟩ then 0 else 170 := ⟨_, rfl⟩
  rw [← hR]
  have HRR := Lib.hid hR
  clear hN hM hn htt b0 hR
  by_cases k0 : 0 ≤ pars
  case neg =>
    have e0 : pars < 0 := by omega
    have HF : Hid (validB ⟨pars, out, L, T⟩ = false) := Lib.hid (by unfold validB; dsimp only; have := HN.out; simp only [Bool.and_eq_false_iff, decide_eq_false_iff_not]; omega)
    have HRV : Hid (R = 170) := Lib.hid (by rw [HRR.out, HF.out]; rfl)
    go_enter Tryz.func10, Tryz.ntmps10
    go_wp2_with fail
    go_ret
    exact ⟨by rw [HRV.out]; rfl, HG.out⟩
  have e0 : ¬ pars < 0 := by omega
  by_cases k1 : pars ≤ 200
  case neg =>
    have e1 : (200 : Int) < pars := by omega
    have HF : Hid (validB ⟨pars, out, L, T⟩ = false) := Lib.hid (by unfold validB; dsimp only; have := HN.out; simp only [Bool.and_eq_false_iff, decide_eq_false_iff_not]; omega)
    have HRV : Hid (R = 170) := Lib.hid (by rw [HRR.out, HF.out]; rfl)
    go_enter Tryz.func10, Tryz.ntmps10
    go_wp2_with fail
    go_ret
    exact ⟨by rw [HRV.out]; rfl, HG.out⟩
  have e1 : ¬ (200 : Int) < pars := by omega
  by_cases k2 : 1 ≤ N
  case neg =>
    have e2 : (N : Int) < 1 := by omega
    have HF : Hid (validB ⟨pars, out, L, T⟩ = false) := Lib.hid (by unfold validB; dsimp only; have := HN.out; simp only [Bool.and_eq_false_iff, decide_eq_false_iff_not]; omega)
    have HRV : Hid (R = 170) := Lib.hid (by rw [HRR.out, HF.out]; rfl)
    go_enter Tryz.func10, Tryz.ntmps10
    go_wp2_with fail
    go_ret
    exact ⟨by rw [HRV.out]; rfl, HG.out⟩
  have e2 : ¬ (N : Int) < 1 := by omega
  by_cases k3 : N ≤ 20000
  case neg =>
    have e3 : (20000 : Int) < (N : Int) := by omega
    have HF : Hid (validB ⟨pars, out, L, T⟩ = false) := Lib.hid (by unfold validB; dsimp only; have := HN.out; simp only [Bool.and_eq_false_iff, decide_eq_false_iff_not]; omega)
    have HRV : Hid (R = 170) := Lib.hid (by rw [HRR.out, HF.out]; rfl)
    go_enter Tryz.func10, Tryz.ntmps10
    go_wp2_with fail
    go_ret
    exact ⟨by rw [HRV.out]; rfl, HG.out⟩
  have e3 : ¬ (20000 : Int) < (N : Int) := by omega
  by_cases k4 : 0 ≤ out
  case neg =>
    have e4 : out < 0 := by omega
    have HF : Hid (validB ⟨pars, out, L, T⟩ = false) := Lib.hid (by unfold validB; dsimp only; have := HN.out; simp only [Bool.and_eq_false_iff, decide_eq_false_iff_not]; omega)
    have HRV : Hid (R = 170) := Lib.hid (by rw [HRR.out, HF.out]; rfl)
    go_enter Tryz.func10, Tryz.ntmps10
    go_wp2_with fail
    go_ret
    exact ⟨by rw [HRV.out]; rfl, HG.out⟩
  have e4 : ¬ out < 0 := by omega
  by_cases k5 : out < (N : Int)
  case neg =>
    have e5 : (N : Int) ≤ out := by omega
    have f5 : decide ((N : Int) ≤ out) = true := by simp; omega
    have HF : Hid (validB ⟨pars, out, L, T⟩ = false) := Lib.hid (by unfold validB; dsimp only; have := HN.out; simp only [Bool.and_eq_false_iff, decide_eq_false_iff_not]; omega)
    have HRV : Hid (R = 170) := Lib.hid (by rw [HRR.out, HF.out]; rfl)
    go_enter Tryz.func10, Tryz.ntmps10
    go_wp2_with fail
    go_ret
    exact ⟨by rw [HRV.out]; rfl, HG.out⟩
  have e5 : ¬ (N : Int) ≤ out := by omega
  have f5 : decide ((N : Int) ≤ out) = false := by simp; omega
  go_enter Tryz.func10, Tryz.ntmps10
  go_wp2_with fail
  go_loopw [4] (fun i wr => RChkRel pars L w.heap.size #[.int .i64 pars, .int .i64 out, .slice A N ca, .slice B M cb] w i wr) (fun i _ => N - (intOf i).toNat)
  case atStart => exact ⟨0, by omega, rfl, rfl, HB.out, HG.out⟩
  case round =>
    obtain ⟨k, hk, rfl, hv, hb, hg⟩ := hrel
    have hkN : k ≤ N := by rw [HN.out]; exact hk
    have HV := Lib.hid hv
    have HB1 := Lib.hid hb
    have HG1 := Lib.hid hg
    clear hk hv hb hg
    by_cases hlt : k < N
    · have hltI : (k : Int) < (N : Int) := by omega
      obtain ⟨x, hx⟩ : ∃ x, L[k]? = some x := ⟨_, List.getElem?_eq_getElem (by have := HN.out; omega)⟩
      obtain ⟨b, off, un, ud, rfl, hc, hok⟩ := HL.out.grow HG1.out k x hx
      have HOK := Lib.hid hok
      have hright := fun W (hW : Grow wr W) => right_any (at' := (k : Int)) (pars := pars) (show NdOK 3 W x un ud from ⟨HOK.out.1, HOK.out.2.1, HOK.out.2.2.1, HOK.out.2.2.2.grow hW⟩)
      obtain ⟨r, hr⟩ : ∃ r, r = stepB x (k : Int) pars := ⟨_, rfl⟩
      rw [← hr] at hright
      have HST := Lib.hid (stepsB_take (pars := pars) (k := 0) hx)
      have HR := Lib.hid hr
      obtain ⟨⟨an, cn, rfl, _⟩, ⟨ad, cd, rfl, _⟩, _⟩ := hok.2.2.2
      unfold ndV at hright
      have HRT := Lib.hid hright
      have HC := Lib.hid hc
      have KC : Hid (∀ W, Grow wr W → W.cell? ⟨w.heap.size, 0, none⟩ = some (.int .i64 pars) ∧ W.cell? ⟨w.heap.size, 2, none⟩ = some (.slice (some ⟨b, off, none⟩) N ca) ∧ W.cell? ⟨b, off + k * 6, none⟩ = some (.int .u8 (x.op : Int)) ∧ W.cell? ⟨b, off + k * 6 + 1, none⟩ = some (.int .i64 x.a) ∧ W.cell? ⟨b, off + k * 6 + 2, none⟩ = some (.int .i64 x.b) ∧ W.cell? ⟨b, off + k * 6 + 3, none⟩ = some (.bool x.c.s) ∧ W.cell? ⟨b, off + k * 6 + 4, none⟩ = some (.slice an x.c.m.length cn) ∧ W.cell? ⟨b, off + k * 6 + 5, none⟩ = some (.slice ad x.c.d.length cd)) := Lib.hid fun W hW => by
        have q := HB1.out.below hW HB1.out.lt
        have hbl := World.block_lt_of_cell? wr _ (HC.out 0 _ rfl)
        have hh : ∀ j v, (ndCells x (.slice an x.c.m.length cn) (.slice ad x.c.d.length cd))[j]? = some v → W.cell? ⟨b, off + k * 6 + j, none⟩ = some v := fun j v hv => (Below.cell hW (p := ⟨b, off + k * 6 + j, none⟩) hbl).trans (HC.out j v hv)
        exact ⟨q.at 0 rfl, q.at 2 rfl, hh 0 _ rfl, hh 1 _ rfl, hh 2 _ rfl, hh 3 _ rfl, hh 4 _ rfl, hh 5 _ rfl⟩
      clear hx hc hok hright hr
      go_wp2_with fail
      rename_i K0 hK0
      cases r with
      | true =>
        have HNX : Hid (stepsB pars 0 (L.take (k + 1)) = true) := Lib.hid (by rw [HST.out, HV.out, Nat.zero_add, ← HR.out]; rfl)
        refine wp_region_listG [fun v _ => v = .pointer (some ⟨w.heap.size, 2, none⟩), fun v _ => v = .slice (some ⟨b, off, none⟩) N ca, fun v _ => v = .int .i64 (k : Int), fun v _ => v = .pointer (some ⟨b, off + k * 6, none⟩), fun v _ => v = .agg #[.int .u8 (x.op : Int), .int .i64 x.a, .int .i64 x.b, .bool x.c.s, .slice an x.c.m.length cn, .slice ad x.c.d.length cd], fun v _ => v = .int .i64 (k : Int), fun v _ => v = .pointer (some ⟨w.heap.size, 0, none⟩), fun v _ => v = .int .i64 pars, fun v _ => v = .bool true]
          [(1, .pointer (some ⟨w.heap.size, 0, none⟩)), (4, .int .i64 (k : Int))] 9 (by kernel_rfl) ⟨stays_pure _, stays_pure _, stays_pure _, stays_pure _, stays_pure _, stays_pure _, stays_pure _, stays_pure _, stays_pure _, trivial⟩ rfl (by kernel_rfl) rfl ?base (by kernel_rfl) ⟨?_, ?_, ?_, ?_, ?_, ?_, ?_, ?_, ?_, trivial⟩ ?last
        case base => simp
        case last =>
          intro vs W hW hv
          simp only [FactsL, Nat.zero_add, Nat.reduceAdd] at hv
          have v8 := hv.2.2.2.2.2.2.2.2.1
          clear hv
          refine ⟨rfl, ?_⟩
          simp only [List.take_succ_cons, List.take_zero, putF, Act.put, List.setIfInBounds_toArray, List.set_cons_zero, List.set_cons_succ, Nat.reduceAdd, v8]
          unfold Oper.wp
          simp [execOp, go_sem]
          refine hK0 _ _ ?_
          have HGW := Lib.hid (Grow.trans HG1.out hW)
          have HBW2 := Lib.hid (HB1.out.below hW HB1.out.lt)
          clear v8
          go_wp2_with fail
          exact ⟨⟨k + 1, by have := HN.out; omega, by go_num, HNX.out, HBW2.out, HGW.out⟩, by simp [intOf]; omega⟩
        all_goals
          intro a' W hW hb hf
          obtain ⟨t0, t2, e0, e1, e2, e3, e4, e5⟩ := KC.out W hW
          simp only [List.forall_mem_cons, List.not_mem_nil, false_imp_iff, implies_true, and_true] at hb
          obtain ⟨m1, m4⟩ := hb
          simp [FactsOf, FactAt, Region.binds, factsL] at hf
        · refine .inl ⟨rfl, fun K hK => ?_⟩
          unfold Oper.wp
          simp [execOp, go_sem, *]
          exact hK _ _ (Grow.refl _) rfl
        · refine .inl ⟨rfl, fun K hK => ?_⟩
          unfold Oper.wp
          simp [execOp, go_sem, *]
          exact hK _ _ (Grow.refl _) rfl
        · refine .inl ⟨rfl, fun K hK => ?_⟩
          unfold Oper.wp
          simp [execOp, go_sem, *]
          exact hK _ _ (Grow.refl _) rfl
        · refine .inl ⟨rfl, fun K hK => ?_⟩
          unfold Oper.wp
          simp [execOp, go_sem, *]
          exact hK _ _ (Grow.refl _) rfl
        · refine .inl ⟨rfl, fun K hK => ?_⟩
          unfold Oper.wp
          simp [execOp, go_sem, *]
          exact hK _ _ (Grow.refl _) rfl
        · refine .inl ⟨rfl, fun K hK => ?_⟩
          unfold Oper.wp
          simp [execOp, go_sem, *]
          exact hK _ _ (Grow.refl _) rfl
        · refine .inl ⟨rfl, fun K hK => ?_⟩
          unfold Oper.wp
          simp [execOp, go_sem, *]
          exact hK _ _ (Grow.refl _) rfl
        · refine .inl ⟨rfl, fun K hK => ?_⟩
          unfold Oper.wp
          simp [execOp, go_sem, *]
          exact hK _ _ (Grow.refl _) rfl
        · refine .inl ⟨rfl, fun K hK => ?_⟩
          unfold Oper.wp
          simp [go_sem, *]
          refine (HRT.out W hW).mono ?_
          rintro e W' ⟨rfl, hg⟩
          exact hK _ _ hg rfl
      | false =>
        have HF : Hid (validB ⟨pars, out, L, T⟩ = false) := Lib.hid (by
          have h1 : stepsB pars 0 L = false := stepsB_false (i := k + 1) (by rw [HST.out, Nat.zero_add, ← HR.out, Bool.and_false])
          unfold validB
          dsimp only
          rw [h1]
          simp)
        refine wp_region_listG [fun v _ => v = .pointer (some ⟨w.heap.size, 2, none⟩), fun v _ => v = .slice (some ⟨b, off, none⟩) N ca, fun v _ => v = .int .i64 (k : Int), fun v _ => v = .pointer (some ⟨b, off + k * 6, none⟩), fun v _ => v = .agg #[.int .u8 (x.op : Int), .int .i64 x.a, .int .i64 x.b, .bool x.c.s, .slice an x.c.m.length cn, .slice ad x.c.d.length cd], fun v _ => v = .int .i64 (k : Int), fun v _ => v = .pointer (some ⟨w.heap.size, 0, none⟩), fun v _ => v = .int .i64 pars, fun v _ => v = .bool false]
          [(1, .pointer (some ⟨w.heap.size, 0, none⟩)), (4, .int .i64 (k : Int))] 9 (by kernel_rfl) ⟨stays_pure _, stays_pure _, stays_pure _, stays_pure _, stays_pure _, stays_pure _, stays_pure _, stays_pure _, stays_pure _, trivial⟩ rfl (by kernel_rfl) rfl ?base (by kernel_rfl) ⟨?_, ?_, ?_, ?_, ?_, ?_, ?_, ?_, ?_, trivial⟩ ?last
        case base => simp
        case last =>
          intro vs W hW hv
          simp only [FactsL, Nat.zero_add, Nat.reduceAdd] at hv
          have v8 := hv.2.2.2.2.2.2.2.2.1
          clear hv
          refine ⟨rfl, ?_⟩
          simp only [List.take_succ_cons, List.take_zero, putF, Act.put, List.setIfInBounds_toArray, List.set_cons_zero, List.set_cons_succ, Nat.reduceAdd, v8]
          unfold Oper.wp
          simp [execOp, go_sem]
          refine hK0 _ _ ?_
          have HGW := Lib.hid (Grow.trans HG1.out hW)
          clear v8
          go_wp2_with fail
          go_ret
          exact ⟨by rw [HRR.out, HF.out]; rfl, HGW.out⟩
        all_goals
          intro a' W hW hb hf
          obtain ⟨t0, t2, e0, e1, e2, e3, e4, e5⟩ := KC.out W hW
          simp only [List.forall_mem_cons, List.not_mem_nil, false_imp_iff, implies_true, and_true] at hb
          obtain ⟨m1, m4⟩ := hb
          simp [FactsOf, FactAt, Region.binds, factsL] at hf
        · refine .inl ⟨rfl, fun K hK => ?_⟩
          unfold Oper.wp
          simp [execOp, go_sem, *]
          exact hK _ _ (Grow.refl _) rfl
        · refine .inl ⟨rfl, fun K hK => ?_⟩
          unfold Oper.wp
          simp [execOp, go_sem, *]
          exact hK _ _ (Grow.refl _) rfl
        · refine .inl ⟨rfl, fun K hK => ?_⟩
          unfold Oper.wp
          simp [execOp, go_sem, *]
          exact hK _ _ (Grow.refl _) rfl
        · refine .inl ⟨rfl, fun K hK => ?_⟩
          unfold Oper.wp
          simp [execOp, go_sem, *]
          exact hK _ _ (Grow.refl _) rfl
        · refine .inl ⟨rfl, fun K hK => ?_⟩
          unfold Oper.wp
          simp [execOp, go_sem, *]
          exact hK _ _ (Grow.refl _) rfl
        · refine .inl ⟨rfl, fun K hK => ?_⟩
          unfold Oper.wp
          simp [execOp, go_sem, *]
          exact hK _ _ (Grow.refl _) rfl
        · refine .inl ⟨rfl, fun K hK => ?_⟩
          unfold Oper.wp
          simp [execOp, go_sem, *]
          exact hK _ _ (Grow.refl _) rfl
        · refine .inl ⟨rfl, fun K hK => ?_⟩
          unfold Oper.wp
          simp [execOp, go_sem, *]
          exact hK _ _ (Grow.refl _) rfl
        · refine .inl ⟨rfl, fun K hK => ?_⟩
          unfold Oper.wp
          simp [go_sem, *]
          refine (HRT.out W hW).mono ?_
          rintro e W' ⟨rfl, hg⟩
          exact hK _ _ hg rfl
    · obtain rfl : k = N := by omega
      have HS : Hid (stepsB pars 0 L = true) := Lib.hid (by
        have h1 := HV.out
        rw [List.take_of_length_le (by have := HN.out; omega)] at h1
        exact h1)
      go_wp2_with fail
      obtain ⟨wz, hwz⟩ : ∃ wz, wz = wr := ⟨_, rfl⟩
      rw [← hwz] at HB1 HG1 ⊢
      clear hwz
      go_loopw [5] (fun i wr => RChkRel2 (k : Int) T w.heap.size #[.int .i64 pars, .int .i64 out, .slice A k ca, .slice B M cb] w i wr) (fun i _ => M - (intOf i).toNat)
      case atStart => exact ⟨0, by omega, rfl, rfl, HB1.out, HG1.out⟩
      case round =>
        obtain ⟨q, hq, rfl, hv, hb, hg⟩ := hrel
        have hqM : q ≤ M := by rw [HM.out]; exact hq
        have HV2 := Lib.hid hv
        have HB2 := Lib.hid hb
        have HG2 := Lib.hid hg
        have t3 := hb.at 3 rfl
        clear hq hv hb hg
        by_cases hlt2 : q < M
        · have hltI : (q : Int) < (M : Int) := by omega
          obtain ⟨x, hx⟩ : ∃ x, T[q]? = some x := ⟨_, List.getElem?_eq_getElem (by have := HM.out; omega)⟩
          obtain ⟨_, b, off, rfl, _, d1⟩ := HT.out.grow HG2.out q x hx
          have HST := Lib.hid (tellsB_take (steps := (k : Int)) hx)
          obtain ⟨v, hv⟩ : ∃ v, v = x.2 := ⟨_, rfl⟩
          rw [← hv] at d1 HST
          clear hx hv
          by_cases h0 : 0 ≤ v
          · have e0' : ¬ v < 0 := by omega
            by_cases h1 : v < (k : Int)
            · have f1 : decide ((k : Int) ≤ v) = false := by simp; omega
              have HNX : Hid (tellsB (k : Int) (T.take (q + 1)) = true) := Lib.hid (by rw [HST.out, HV2.out, decide_eq_true h0, decide_eq_true h1]; rfl)
              go_wp2_with fail
              go_roundw
              case rel => exact ⟨q + 1, by have := HM.out; omega, by go_num, HNX.out, HB2.out, HG2.out⟩
              case measure => simp [intOf]; omega
            · have f1 : decide ((k : Int) ≤ v) = true := by simp; omega
              have HF : Hid (R = 170) := Lib.hid (by
                have h2 : tellsB (k : Int) T = false := tellsB_false (i := q + 1) (by rw [HST.out, decide_eq_false h1, Bool.and_false, Bool.and_false])
                rw [HRR.out]; unfold validB; dsimp only; rw [← HN.out, h2]; simp)
              go_wp2_with fail
              go_ret
              exact ⟨by rw [HF.out]; rfl, HG2.out⟩
          · have e0' : v < 0 := by omega
            have HF : Hid (R = 170) := Lib.hid (by
              have h2 : tellsB (k : Int) T = false := tellsB_false (i := q + 1) (by rw [HST.out, decide_eq_false h0, Bool.false_and, Bool.and_false])
              rw [HRR.out]; unfold validB; dsimp only; rw [← HN.out, h2]; simp)
            go_wp2_with fail
            go_ret
            exact ⟨by rw [HF.out]; rfl, HG2.out⟩
        · obtain rfl : q = M := by omega
          have HF : Hid (R = 0) := Lib.hid (by
            have h1 := HV2.out
            rw [List.take_of_length_le (by have := HM.out; omega)] at h1
            rw [HRR.out]
            unfold validB
            dsimp only
            rw [← HN.out, h1, HS.out, decide_eq_true k0, decide_eq_true k1, decide_eq_true k3, decide_eq_true k4, decide_eq_true k5]
            rfl)
          go_wp2_with fail
          go_ret
          exact ⟨by rw [HF.out]; rfl, HG2.out⟩
end Go.Proofs.YtofpcdjoljjnoaaGreatDoor

namespace Go.Proofs.YtofpcdjoljjnoaaGreatDoor
open Go.RowKit

set_option maxHeartbeats 4000000 in
theorem rlimbs_any (a b : Option Addr) (ca cb : Nat) (L M : List Nat) (w : World) (hl : L.length ≤ 1099511627776) (hL : NatAt w a L) (hM : NatAt w b M) :
    Calls Tryz.prog 55 #[.slice a L.length ca, .slice b M.length cb] w (Just (.bool (decide (L = M))) w) := by
  by_cases hlen : L.length = M.length
  · have HL := Lib.hid hL
    have HM := Lib.hid hM
    have HLEN := Lib.hid hlen
    rw [← hlen]
    clear hL hM hlen
    obtain ⟨N, hN⟩ : ∃ N, N = L.length := ⟨_, rfl⟩
    rw [← hN] at hl ⊢
    have HN := Lib.hid hN
    clear hN
    go_enter Tryz.func55, Tryz.ntmps55
    go_wp2_with fail
    go_loopw [5] (fun i wr => SameRel2 L M w i wr) (fun i _ => N - (intOf i).toNat)
    case atStart => exact ⟨0, by omega, rfl, rfl, Below.refl _ _⟩
    case round =>
      obtain ⟨k, hk, rfl, ht, hb⟩ := hrel
      have HB := Lib.hid hb
      have HT := Lib.hid ht
      have hkN : k ≤ N := by rw [HN.out]; exact hk
      clear hk ht hb
      by_cases hlt : k < N
      · obtain ⟨b1, o1, rfl, hc1⟩ := HL.out.below HB.out (Nat.le_refl _) k (by have := HN.out; omega)
        obtain ⟨b2, o2, rfl, hc2⟩ := HM.out.below HB.out (Nat.le_refl _) k (by have := HN.out; have := HLEN.out; omega)
        obtain ⟨p, hp⟩ : ∃ p, p = L.getD k 0 := ⟨_, rfl⟩
        obtain ⟨q, hq⟩ : ∃ q, q = M.getD k 0 := ⟨_, rfl⟩
        rw [← hp] at hc1
        rw [← hq] at hc2
        have HP := Lib.hid hp
        have HQ := Lib.hid hq
        have hltI : (k : Int) < (N : Int) := by omega
        clear hp hq
        have HST := Lib.hid (take_eq_step HT.out (by have := HN.out; omega) (by have := HN.out; have := HLEN.out; omega))
        go_wp2_with fail
        by_cases hpq : p = q
        · have hbe : (p : Int) = (q : Int) := by rw [hpq]
          have hne : ((p : Int) != (q : Int)) = false := by simp [hpq]
          have HST2 : Hid (L.take (k + 1) = M.take (k + 1)) := Lib.hid (HST.out.2 (by rw [← HP.out, ← HQ.out, hpq]))
          go_quiet (fail)
          go_wp2_with fail
          go_roundw
          case rel => exact ⟨k + 1, by have := HN.out; omega, by go_num, HST2.out, HB.out.trans ⟨rfl, rfl, rfl, Nat.le_refl _, fun _ _ => rfl⟩⟩
          case measure => simp [intOf]; omega
        · have hbe : ((p : Int) == (q : Int)) = false := by simp; omega
          have hpi : ¬ ((p : Int) = (q : Int)) := by omega
          have HNE : Hid (L ≠ M) := Lib.hid (getD_ne (by rw [← HP.out, ← HQ.out]; exact hpq))
          go_quiet (fail)
          go_wp2_with fail
          go_ret
          exact ⟨by rw [decide_eq_false HNE.out]; rfl, HB.out.trans ⟨rfl, rfl, rfl, Nat.le_refl _, fun _ _ => rfl⟩⟩
      · obtain rfl : k = N := by omega
        have HE : Hid (L = M) := Lib.hid (by
          have h1 := HT.out
          have h2 := HN.out
          have h3 := HLEN.out
          rw [List.take_of_length_le (by omega), List.take_of_length_le (by omega)] at h1
          exact h1)
        go_wp2_with fail
        go_ret
        exact ⟨by rw [decide_eq_true HE.out]; rfl, HB.out⟩
  · have hne : ¬ ((L.length : Int) = (M.length : Int)) := by omega
    have HNE : Hid (L ≠ M) := Lib.hid (fun e => hlen (by rw [e]))
    clear hL hM
    go_enter Tryz.func55, Tryz.ntmps55
    go_wp2_with fail
    go_ret
    exact ⟨by rw [decide_eq_false HNE.out]; rfl, Below.refl _ _⟩


set_option maxRecDepth 100000 in
set_option maxHeartbeats 8000000 in
theorem rsamenode_any {w : World} {x y : Nd} {vn vd un ud : Value} (h : NdOK 3 w x vn vd) (h' : NdOK 3 w y un ud) :
    Calls Tryz.prog 36 #[ndV x vn vd, ndV y un ud] w (Just (.bool (sameNd x y)) w) := by
  obtain ⟨_, _, _, ⟨⟨a, ca, rfl, _, _, _, hm⟩, ⟨b, cb, rfl, _, _, _, hd⟩, hl1, hl2⟩⟩ := h
  obtain ⟨_, _, _, ⟨⟨a2, ca2, rfl, _, _, _, hm2⟩, ⟨b2, cb2, rfl, _, _, _, hd2⟩, _⟩⟩ := h'
  unfold ndV
  obtain ⟨W1, hW1⟩ : ∃ W1, W1 = (w.alloc (.cells #[.int .u8 (x.op : Int), .int .i64 x.a, .int .i64 x.b, .bool x.c.s, .slice a x.c.m.length ca, .slice b x.c.d.length cb] 71)).alloc (.cells #[.int .u8 (y.op : Int), .int .i64 y.a, .int .i64 y.b, .bool y.c.s, .slice a2 y.c.m.length ca2, .slice b2 y.c.d.length cb2] 71) := ⟨_, rfl⟩
  have b0 : BlkOf W1 w.heap.size #[.int .u8 (x.op : Int), .int .i64 x.a, .int .i64 x.b, .bool x.c.s, .slice a x.c.m.length ca, .slice b x.c.d.length cb] 71 := by rw [hW1]; exact (BlkOf.new w _ _).alloc _
  have b1 : BlkOf W1 (w.heap.size + 1) #[.int .u8 (y.op : Int), .int .i64 y.a, .int .i64 y.b, .bool y.c.s, .slice a2 y.c.m.length ca2, .slice b2 y.c.d.length cb2] 71 := by rw [hW1]; exact BlkOf.news (by simp) _ _
  have hbw : Grow w W1 := by rw [hW1]; exact ((Below.refl _ w).alloc (Nat.le_refl _) _).alloc (by simp) _
  have HM := Lib.hid (fun W (hW : Grow w W) => rlimbs_any a a2 ca ca2 x.c.m y.c.m W (by omega) (hm.below hW (Nat.le_refl _)) (hm2.below hW (Nat.le_refl _)))
  have HD := Lib.hid (fun W (hW : Grow w W) => rlimbs_any b b2 cb cb2 x.c.d y.c.d W (by omega) (hd.below hW (Nat.le_refl _)) (hd2.below hW (Nat.le_refl _)))
  obtain ⟨rm, hrm⟩ : ∃ r, r = decide (x.c.m = y.c.m) := ⟨_, rfl⟩
  obtain ⟨rd, hrd⟩ : ∃ r, r = decide (x.c.d = y.c.d) := ⟨_, rfl⟩
  rw [← hrm] at HM
  rw [← hrd] at HD
  have HVV : Hid (sameNd x y = (((decide (x.op = y.op) && decide (x.a = y.a)) && decide (x.b = y.b)) && (((x.c.s == y.c.s) && rm) && rd))) := Lib.hid (by rw [hrm, hrd]; rfl)
  have HB0 := Lib.hid b0
  have HB1 := Lib.hid b1
  have HG := Lib.hid hbw
  have c0 := b0.at 0 rfl
  have c1 := b0.at 1 rfl
  have c2 := b0.at 2 rfl
  have c3 := b0.at 3 rfl
  have c4 := b0.at 4 rfl
  have d0 := b1.at 0 rfl
  have d1 := b1.at 1 rfl
  have d2 := b1.at 2 rfl
  have d3 := b1.at 3 rfl
  have d4 := b1.at 4 rfl
  subst hW1
  clear b0 b1 hbw hm hm2 hd hd2 hrm hrd
  by_cases k0 : x.op = y.op
  case neg =>
    have HV : Hid (sameNd x y = false) := Lib.hid (by rw [HVV.out, decide_eq_false k0]; rfl)
    have e0 : ((x.op : Int) == (y.op : Int)) = false := by simp; omega
    go_enter Tryz.func36, Tryz.ntmps36
    go_wp2_with fail
    go_ret
    exact ⟨by rw [HV.out]; rfl, HG.out⟩
  have e0 : ((x.op : Int) == (y.op : Int)) = true := by simp [k0]
  by_cases k1 : x.a = y.a
  case neg =>
    have HV : Hid (sameNd x y = false) := Lib.hid (by rw [HVV.out, decide_eq_false k1, Bool.and_false]; rfl)
    have e1 : (x.a == y.a) = false := by simp [k1]
    clear k0
    go_enter Tryz.func36, Tryz.ntmps36
    go_wp2_with fail
    go_ret
    exact ⟨by rw [HV.out]; rfl, HG.out⟩
  have e1 : (x.a == y.a) = true := by simp [k1]
  by_cases k2 : x.b = y.b
  case neg =>
    have HV : Hid (sameNd x y = false) := Lib.hid (by rw [HVV.out, decide_eq_false k2, Bool.and_false]; rfl)
    have e2 : (x.b == y.b) = false := by simp [k2]
    clear k0 k1
    go_enter Tryz.func36, Tryz.ntmps36
    go_wp2_with fail
    go_ret
    exact ⟨by rw [HV.out]; rfl, HG.out⟩
  have e2 : (x.b == y.b) = true := by simp [k2]
  by_cases k3 : x.c.s = y.c.s
  case neg =>
    have e3 : (x.c.s == y.c.s) = false := by simp [k3]
    have HV : Hid (sameNd x y = false) := Lib.hid (by rw [HVV.out, e3, Bool.false_and, Bool.false_and, Bool.and_false])
    clear k0 k1 k2 k3
    go_enter Tryz.func36, Tryz.ntmps36
    go_wp2_with fail
    go_ret
    exact ⟨by rw [HV.out]; rfl, HG.out⟩
  have e3 : (x.c.s == y.c.s) = true := by simp [k3]
  have HV : Hid (sameNd x y = (rm && rd)) := Lib.hid (by rw [HVV.out, decide_eq_true k0, decide_eq_true k1, decide_eq_true k2, e3]; simp)
  clear k0 k1 k2 k3
  cases rm with
  | false =>
    go_enter Tryz.func36, Tryz.ntmps36
    go_wp2_with (first | (go_at_call 55; refine (HM.out _ HG.out).mono ?_) | fail)
    rintro e w3 ⟨rfl, hb3⟩
    have HG3 := Lib.hid (Grow.trans HG.out hb3)
    clear hb3
    go_wp2_with fail
    go_ret
    exact ⟨by rw [HV.out]; rfl, HG3.out⟩
  | true =>
    go_enter Tryz.func36, Tryz.ntmps36
    go_wp2_with (first | (go_at_call 55; refine (HM.out _ HG.out).mono ?_) | fail)
    rintro e w3 ⟨rfl, hb3⟩
    have HG3 := Lib.hid (Grow.trans HG.out hb3)
    have hB3 := HB0.out.below hb3 HB0.out.lt
    have hC3 := HB1.out.below hb3 HB1.out.lt
    have q5 := hB3.at 5 rfl
    have r5 := hC3.at 5 rfl
    clear hb3 hB3 hC3 c0 c1 c2 c3 c4 d0 d1 d2 d3 d4
    go_wp2_with (first | (go_at_call 55; refine (HD.out _ HG3.out).mono ?_) | fail)
    rintro e w4 ⟨rfl, hb4⟩
    have HG4 := Lib.hid (Grow.trans HG3.out hb4)
    clear hb4
    go_wp2_with fail
    go_ret
    exact ⟨by rw [HV.out, Bool.true_and]; rfl, HG4.out⟩
end Go.Proofs.YtofpcdjoljjnoaaGreatDoor
