/-
  The texts TapRTape, one behind the other.
-/
import Derived.Test.YtofpcdjoljjnoaaGreatDoorTapZ23

namespace Go.Proofs.YtofpcdjoljjnoaaGreatDoor
open Go.RowKit

def RSameRel (L M : List Nd) (z : Nat) (cs ds : Array Value) (w : World) (i : Value) (wr : World) : Prop :=
  ∃ k : Nat, k ≤ L.length ∧ i = .int .i64 (k : Int) ∧ sameNds (L.take k) (M.take k) = true ∧ BlkOf wr z cs 25 ∧ BlkOf wr (z + 1) ds 25 ∧ Grow w wr
def RSameRel2 (T U : List (List UInt8 × Int)) (z : Nat) (cs ds : Array Value) (w : World) (i : Value) (wr : World) : Prop :=
  ∃ k : Nat, k ≤ T.length ∧ i = .int .i64 (k : Int) ∧ T.take k = U.take k ∧ BlkOf wr z cs 25 ∧ BlkOf wr (z + 1) ds 25 ∧ Grow w wr

set_option maxRecDepth 100000 in
set_option maxHeartbeats 16000000 in
theorem rsame_any {w : World} {t u : Tp} {vn vt un ut : Value} (h : TpAt 3 w t vn vt) (h' : TpAt 3 w u un ut) :
    Calls Tryz.prog 12 #[tpV t vn vt, tpV u un ut] w (Just (.bool (sameTp t u)) w) := by
  obtain ⟨_, _, hnl, htl, A, ca, B, cb, rfl, rfl, hn, htt⟩ := h
  obtain ⟨_, _, hnl', htl', A', ca', B', cb', rfl, rfl, hn', htt'⟩ := h'
  obtain ⟨pars, out, L, T⟩ := t
  obtain ⟨pars', out', L', T'⟩ := u
  unfold tpV
  dsimp only at *
  have HG := Lib.hid (((Below.refl _ w).alloc (Nat.le_refl _) (.cells #[.int .i64 pars, .int .i64 out, .slice A L.length ca, .slice B T.length cb] 25)).alloc (by simp) (.cells #[.int .i64 pars', .int .i64 out', .slice A' L'.length ca', .slice B' T'.length cb'] 25))
  have HL := Lib.hid hn
  have HL' := Lib.hid hn'
  have HT := Lib.hid htt
  have HT' := Lib.hid htt'
  clear hn hn' htt htt'
  by_cases k0 : pars = pars'
  case neg =>
    have HV : Hid (sameTp ⟨pars, out, L, T⟩ ⟨pars', out', L', T'⟩ = false) := Lib.hid (by unfold sameTp; dsimp only; rw [decide_eq_false k0]; simp)
    have e : (pars != pars') = true := by simp; omega
    rw [HV.out]
    go_enter Tryz.func12, Tryz.ntmps12
    go_wp2_with fail
    go_ret
    exact ⟨rfl, HG.out⟩
  by_cases k1 : out = out'
  case neg =>
    have HV : Hid (sameTp ⟨pars, out, L, T⟩ ⟨pars', out', L', T'⟩ = false) := Lib.hid (by unfold sameTp; dsimp only; rw [decide_eq_false k1]; simp)
    have e : (out != out') = true := by simp; omega
    have q0 : (pars != pars') = false := by simp [k0]
    clear k0
    rw [HV.out]
    go_enter Tryz.func12, Tryz.ntmps12
    go_wp2_with fail
    go_ret
    exact ⟨rfl, HG.out⟩
  by_cases k2 : L.length = L'.length
  case neg =>
    have HV : Hid (sameTp ⟨pars, out, L, T⟩ ⟨pars', out', L', T'⟩ = false) := Lib.hid (by unfold sameTp; dsimp only; rw [sameNds_length k2]; simp)
    have e : ((L.length : Int) != (L'.length : Int)) = true := by simp; omega
    have q0 : (pars != pars') = false := by simp [k0]
    have q1 : (out != out') = false := by simp [k1]
    clear k0 k1
    rw [HV.out]
    go_enter Tryz.func12, Tryz.ntmps12
    go_wp2_with fail
    go_ret
    exact ⟨rfl, HG.out⟩
  by_cases k3 : T.length = T'.length
  case neg =>
    have HV : Hid (sameTp ⟨pars, out, L, T⟩ ⟨pars', out', L', T'⟩ = false) := Lib.hid (by unfold sameTp; dsimp only; rw [decide_eq_false (show ¬ T = T' from fun e => k3 (congrArg List.length e))]; simp)
    have e : ((T.length : Int) != (T'.length : Int)) = true := by simp; omega
    have q0 : (pars != pars') = false := by simp [k0]
    have q1 : (out != out') = false := by simp [k1]
    have q2 : ((L.length : Int) != (L'.length : Int)) = false := by simp; omega
    clear k0 k1 k2
    rw [HV.out]
    go_enter Tryz.func12, Tryz.ntmps12
    go_wp2_with fail
    go_ret
    exact ⟨rfl, HG.out⟩
  subst k0 k1
  obtain ⟨R, hR⟩ : ∃ R, R = sameTp ⟨pars, out, L, T⟩ ⟨pars, out, L', T'⟩ := ⟨_, rfl⟩
  rw [← hR]
  have HRR := Lib.hid hR
  rw [← k2, ← k3] at HG ⊢
  obtain ⟨N, hN⟩ : ∃ N, N = L.length := ⟨_, rfl⟩
  obtain ⟨M, hM⟩ : ∃ M, M = T.length := ⟨_, rfl⟩
  rw [← hN] at hnl HG ⊢
  rw [← hM] at htl HG ⊢
  have HN := Lib.hid hN
  have HM := Lib.hid hM
  have HN' := Lib.hid (hN.trans k2)
  have HM' := Lib.hid (hM.trans k3)
  have HS1 : Hid (BlkOf ((w.alloc (.cells #[.int .i64 pars, .int .i64 out, .slice A N ca, .slice B M cb] 25)).alloc (.cells #[.int .i64 pars, .int .i64 out, .slice A' N ca', .slice B' M cb'] 25)) w.heap.size #[.int .i64 pars, .int .i64 out, .slice A N ca, .slice B M cb] 25) := Lib.hid ((BlkOf.new w _ _).alloc _)
  have HS2 : Hid (BlkOf ((w.alloc (.cells #[.int .i64 pars, .int .i64 out, .slice A N ca, .slice B M cb] 25)).alloc (.cells #[.int .i64 pars, .int .i64 out, .slice A' N ca', .slice B' M cb'] 25)) (w.heap.size + 1) #[.int .i64 pars, .int .i64 out, .slice A' N ca', .slice B' M cb'] 25) := Lib.hid (BlkOf.news (by simp) _ _)
  clear hR hN hM k2 k3 hnl' htl'
  go_enter Tryz.func12, Tryz.ntmps12
  go_wp2_with fail
  go_loopw [5] (fun i wr => RSameRel L L' w.heap.size #[.int .i64 pars, .int .i64 out, .slice A N ca, .slice B M cb] #[.int .i64 pars, .int .i64 out, .slice A' N ca', .slice B' M cb'] w i wr) (fun i _ => N - (intOf i).toNat)
  case atStart => exact ⟨0, by omega, rfl, rfl, HS1.out, HS2.out, HG.out⟩
  case round =>
    obtain ⟨k, hk, rfl, hv, hb1, hb2, hg⟩ := hrel
    have hkN : k ≤ N := by rw [HN.out]; exact hk
    have HV := Lib.hid hv
    have HB1 := Lib.hid hb1
    have HB2 := Lib.hid hb2
    have HG1 := Lib.hid hg
    have t2 := hb1.at 2 rfl
    clear hk hv hb1 hb2 hg
    by_cases hlt : k < N
    · have hltI : (k : Int) < (N : Int) := by omega
      obtain ⟨x, hx⟩ : ∃ x, L[k]? = some x := ⟨_, List.getElem?_eq_getElem (by have := HN.out; omega)⟩
      obtain ⟨y, hy⟩ : ∃ y, L'[k]? = some y := ⟨_, List.getElem?_eq_getElem (by have := HN'.out; omega)⟩
      obtain ⟨b1, o1, vx, wx, rfl, hcx, hokx⟩ := HL.out.grow HG1.out k x hx
      obtain ⟨b2, o2, vy, wy, rfl, hcy, hoky⟩ := HL'.out.grow HG1.out k y hy
      have HOKX := Lib.hid hokx
      have HOKY := Lib.hid hoky
      have hsn := fun W (hW : Grow wr W) => rsamenode_any (show NdOK 3 W x vx wx from ⟨HOKX.out.1, HOKX.out.2.1, HOKX.out.2.2.1, HOKX.out.2.2.2.grow hW⟩) (show NdOK 3 W y vy wy from ⟨HOKY.out.1, HOKY.out.2.1, HOKY.out.2.2.1, HOKY.out.2.2.2.grow hW⟩)
      obtain ⟨r, hr⟩ : ∃ r, r = sameNd x y := ⟨_, rfl⟩
      rw [← hr] at hsn
      have HST := Lib.hid (sameNds_take hx hy)
      have HR := Lib.hid hr
      obtain ⟨⟨an, cn, rfl, _⟩, ⟨ad, cd, rfl, _⟩, _⟩ := hokx.2.2.2
      obtain ⟨⟨an', cn', rfl, _⟩, ⟨ad', cd', rfl, _⟩, _⟩ := hoky.2.2.2
      unfold ndV at hsn
      have HRT := Lib.hid hsn
      have HCX := Lib.hid hcx
      have HCY := Lib.hid hcy
      have KC : Hid (∀ W, Grow wr W → W.cell? ⟨w.heap.size, 2, none⟩ = some (.slice (some ⟨b1, o1, none⟩) N ca) ∧ W.cell? ⟨w.heap.size + 1, 2, none⟩ = some (.slice (some ⟨b2, o2, none⟩) N ca') ∧ W.cell? ⟨b1, o1 + k * 6, none⟩ = some (.int .u8 (x.op : Int)) ∧ W.cell? ⟨b1, o1 + k * 6 + 1, none⟩ = some (.int .i64 x.a) ∧ W.cell? ⟨b1, o1 + k * 6 + 2, none⟩ = some (.int .i64 x.b) ∧ W.cell? ⟨b1, o1 + k * 6 + 3, none⟩ = some (.bool x.c.s) ∧ W.cell? ⟨b1, o1 + k * 6 + 4, none⟩ = some (.slice an x.c.m.length cn) ∧ W.cell? ⟨b1, o1 + k * 6 + 5, none⟩ = some (.slice ad x.c.d.length cd) ∧ W.cell? ⟨b2, o2 + k * 6, none⟩ = some (.int .u8 (y.op : Int)) ∧ W.cell? ⟨b2, o2 + k * 6 + 1, none⟩ = some (.int .i64 y.a) ∧ W.cell? ⟨b2, o2 + k * 6 + 2, none⟩ = some (.int .i64 y.b) ∧ W.cell? ⟨b2, o2 + k * 6 + 3, none⟩ = some (.bool y.c.s) ∧ W.cell? ⟨b2, o2 + k * 6 + 4, none⟩ = some (.slice an' y.c.m.length cn') ∧ W.cell? ⟨b2, o2 + k * 6 + 5, none⟩ = some (.slice ad' y.c.d.length cd')) := Lib.hid fun W hW => by
        have q1 := HB1.out.below hW HB1.out.lt
        have q2 := HB2.out.below hW HB2.out.lt
        have l1 := World.block_lt_of_cell? wr _ (HCX.out 0 _ rfl)
        have l2 := World.block_lt_of_cell? wr _ (HCY.out 0 _ rfl)
        have h1 : ∀ j v, (ndCells x (.slice an x.c.m.length cn) (.slice ad x.c.d.length cd))[j]? = some v → W.cell? ⟨b1, o1 + k * 6 + j, none⟩ = some v := fun j v hv => (Below.cell hW (p := ⟨b1, o1 + k * 6 + j, none⟩) l1).trans (HCX.out j v hv)
        have h2 : ∀ j v, (ndCells y (.slice an' y.c.m.length cn') (.slice ad' y.c.d.length cd'))[j]? = some v → W.cell? ⟨b2, o2 + k * 6 + j, none⟩ = some v := fun j v hv => (Below.cell hW (p := ⟨b2, o2 + k * 6 + j, none⟩) l2).trans (HCY.out j v hv)
        exact ⟨q1.at 2 rfl, q2.at 2 rfl, h1 0 _ rfl, h1 1 _ rfl, h1 2 _ rfl, h1 3 _ rfl, h1 4 _ rfl, h1 5 _ rfl, h2 0 _ rfl, h2 1 _ rfl, h2 2 _ rfl, h2 3 _ rfl, h2 4 _ rfl, h2 5 _ rfl⟩
      clear hx hy hcx hcy hokx hoky hsn hr
      go_wp2_with fail
      clear t2
      rename_i K0 hK0
      cases r with
      | true =>
        have HNX : Hid (sameNds (L.take (k + 1)) (L'.take (k + 1)) = true) := Lib.hid (by rw [HST.out, HV.out, ← HR.out]; rfl)
        refine wp_region_listG [fun v _ => v = .pointer (some ⟨w.heap.size, 2, none⟩), fun v _ => v = .slice (some ⟨b1, o1, none⟩) N ca, fun v _ => v = .int .i64 (k : Int), fun v _ => v = .pointer (some ⟨b1, o1 + k * 6, none⟩), fun v _ => v = .agg #[.int .u8 (x.op : Int), .int .i64 x.a, .int .i64 x.b, .bool x.c.s, .slice an x.c.m.length cn, .slice ad x.c.d.length cd], fun v _ => v = .pointer (some ⟨w.heap.size + 1, 2, none⟩), fun v _ => v = .slice (some ⟨b2, o2, none⟩) N ca', fun v _ => v = .int .i64 (k : Int), fun v _ => v = .pointer (some ⟨b2, o2 + k * 6, none⟩), fun v _ => v = .agg #[.int .u8 (y.op : Int), .int .i64 y.a, .int .i64 y.b, .bool y.c.s, .slice an' y.c.m.length cn', .slice ad' y.c.d.length cd'], fun v _ => v = .bool true]
          [(2, .pointer (some ⟨w.heap.size, 0, none⟩)), (3, .pointer (some ⟨w.heap.size + 1, 0, none⟩)), (5, .int .i64 (k : Int))] 11 (by kernel_rfl) ⟨stays_pure _, stays_pure _, stays_pure _, stays_pure _, stays_pure _, stays_pure _, stays_pure _, stays_pure _, stays_pure _, stays_pure _, stays_pure _, trivial⟩ rfl (by kernel_rfl) rfl ?base (by kernel_rfl) ⟨?_, ?_, ?_, ?_, ?_, ?_, ?_, ?_, ?_, ?_, ?_, trivial⟩ ?last
        case base => simp
        case last =>
          intro vs W hW hv
          simp only [FactsL, Nat.zero_add, Nat.reduceAdd] at hv
          have v10 := hv.2.2.2.2.2.2.2.2.2.2.1
          clear hv
          refine ⟨rfl, ?_⟩
          simp only [List.take_succ_cons, List.take_zero, putF, Act.put, List.setIfInBounds_toArray, List.set_cons_zero, List.set_cons_succ, Nat.reduceAdd, v10]
          unfold Oper.wp
          simp [execOp, go_sem]
          refine hK0 _ _ ?_
          have HGW := Lib.hid (Grow.trans HG1.out hW)
          have HBW1 := Lib.hid (HB1.out.below hW HB1.out.lt)
          have HBW2 := Lib.hid (HB2.out.below hW HB2.out.lt)
          clear v10
          go_wp2_with fail
          exact ⟨⟨k + 1, by have := HN.out; omega, by go_num, HNX.out, HBW1.out, HBW2.out, HGW.out⟩, by simp [intOf]; omega⟩
        all_goals
          intro a' W hW hb hf
          obtain ⟨t2, u2, e0, e1, e2, e3, e4, e5, g0, g1, g2, g3, g4, g5⟩ := KC.out W hW
          simp only [List.forall_mem_cons, List.not_mem_nil, false_imp_iff, implies_true, and_true] at hb
          obtain ⟨m2, m3, m5⟩ := hb
          simp [FactsOf, FactAt, Region.binds, factsL] at hf
        · refine .inl ⟨rfl, fun K hK => ?_⟩
          unfold Oper.wp
          simp [execOp, go_sem, *]
          exact hK _ _ (Grow.refl _) rfl
        · refine .inl ⟨rfl, fun K hK => ?_⟩
          unfold Oper.wp
          simp [execOp, go_sem, *]
          exact hK _ _ (Grow.refl _) rfl
        · refine .inl ⟨rfl, fun K hK => ?_⟩
          unfold Oper.wp
          simp [execOp, go_sem, *]
          exact hK _ _ (Grow.refl _) rfl
        · refine .inl ⟨rfl, fun K hK => ?_⟩
          unfold Oper.wp
          simp [execOp, go_sem, *]
          exact hK _ _ (Grow.refl _) rfl
        · refine .inl ⟨rfl, fun K hK => ?_⟩
          unfold Oper.wp
          simp [execOp, go_sem, *]
          exact hK _ _ (Grow.refl _) rfl
        · refine .inl ⟨rfl, fun K hK => ?_⟩
          unfold Oper.wp
          simp [execOp, go_sem, *]
          exact hK _ _ (Grow.refl _) rfl
        · refine .inl ⟨rfl, fun K hK => ?_⟩
          unfold Oper.wp
          simp [execOp, go_sem, *]
          exact hK _ _ (Grow.refl _) rfl
        · refine .inl ⟨rfl, fun K hK => ?_⟩
          unfold Oper.wp
          simp [execOp, go_sem, *]
          exact hK _ _ (Grow.refl _) rfl
        · refine .inl ⟨rfl, fun K hK => ?_⟩
          unfold Oper.wp
          simp [execOp, go_sem, *]
          exact hK _ _ (Grow.refl _) rfl
        · refine .inl ⟨rfl, fun K hK => ?_⟩
          unfold Oper.wp
          simp [execOp, go_sem, *]
          exact hK _ _ (Grow.refl _) rfl
        · refine .inl ⟨rfl, fun K hK => ?_⟩
          unfold Oper.wp
          simp [go_sem, *]
          refine (HRT.out W hW).mono ?_
          rintro e W' ⟨rfl, hg⟩
          exact hK _ _ hg rfl
      | false =>
        have HF : Hid (R = false) := Lib.hid (by
          have h1 : sameNds L L' = false := sameNds_false (i := k + 1) (by have := HN.out; have := HN'.out; omega) (by rw [HST.out, ← HR.out, Bool.and_false])
          rw [HRR.out]
          unfold sameTp
          dsimp only
          rw [h1]
          simp)
        refine wp_region_listG [fun v _ => v = .pointer (some ⟨w.heap.size, 2, none⟩), fun v _ => v = .slice (some ⟨b1, o1, none⟩) N ca, fun v _ => v = .int .i64 (k : Int), fun v _ => v = .pointer (some ⟨b1, o1 + k * 6, none⟩), fun v _ => v = .agg #[.int .u8 (x.op : Int), .int .i64 x.a, .int .i64 x.b, .bool x.c.s, .slice an x.c.m.length cn, .slice ad x.c.d.length cd], fun v _ => v = .pointer (some ⟨w.heap.size + 1, 2, none⟩), fun v _ => v = .slice (some ⟨b2, o2, none⟩) N ca', fun v _ => v = .int .i64 (k : Int), fun v _ => v = .pointer (some ⟨b2, o2 + k * 6, none⟩), fun v _ => v = .agg #[.int .u8 (y.op : Int), .int .i64 y.a, .int .i64 y.b, .bool y.c.s, .slice an' y.c.m.length cn', .slice ad' y.c.d.length cd'], fun v _ => v = .bool false]
          [(2, .pointer (some ⟨w.heap.size, 0, none⟩)), (3, .pointer (some ⟨w.heap.size + 1, 0, none⟩)), (5, .int .i64 (k : Int))] 11 (by kernel_rfl) ⟨stays_pure _, stays_pure _, stays_pure _, stays_pure _, stays_pure _, stays_pure _, stays_pure _, stays_pure _, stays_pure _, stays_pure _, stays_pure _, trivial⟩ rfl (by kernel_rfl) rfl ?base (by kernel_rfl) ⟨?_, ?_, ?_, ?_, ?_, ?_, ?_, ?_, ?_, ?_, ?_, trivial⟩ ?last
        case base => simp
        case last =>
          intro vs W hW hv
          simp only [FactsL, Nat.zero_add, Nat.reduceAdd] at hv
          have v10 := hv.2.2.2.2.2.2.2.2.2.2.1
          clear hv
          refine ⟨rfl, ?_⟩
          simp only [List.take_succ_cons, List.take_zero, putF, Act.put, List.setIfInBounds_toArray, List.set_cons_zero, List.set_cons_succ, Nat.reduceAdd, v10]
          unfold Oper.wp
          simp [execOp, go_sem]
          refine hK0 _ _ ?_
          have HGW := Lib.hid (Grow.trans HG1.out hW)
          clear v10
          go_wp2_with fail
          go_ret
          exact ⟨by rw [HF.out]; rfl, HGW.out⟩
        all_goals
          intro a' W hW hb hf
          obtain ⟨t2, u2, e0, e1, e2, e3, e4, e5, g0, g1, g2, g3, g4, g5⟩ := KC.out W hW
          simp only [List.forall_mem_cons, List.not_mem_nil, false_imp_iff, implies_true, and_true] at hb
          obtain ⟨m2, m3, m5⟩ := hb
          simp [FactsOf, FactAt, Region.binds, factsL] at hf
        · refine .inl ⟨rfl, fun K hK => ?_⟩
          unfold Oper.wp
          simp [execOp, go_sem, *]
          exact hK _ _ (Grow.refl _) rfl
        · refine .inl ⟨rfl, fun K hK => ?_⟩
          unfold Oper.wp
          simp [execOp, go_sem, *]
          exact hK _ _ (Grow.refl _) rfl
        · refine .inl ⟨rfl, fun K hK => ?_⟩
          unfold Oper.wp
          simp [execOp, go_sem, *]
          exact hK _ _ (Grow.refl _) rfl
        · refine .inl ⟨rfl, fun K hK => ?_⟩
          unfold Oper.wp
          simp [execOp, go_sem, *]
          exact hK _ _ (Grow.refl _) rfl
        · refine .inl ⟨rfl, fun K hK => ?_⟩
          unfold Oper.wp
          simp [execOp, go_sem, *]
          exact hK _ _ (Grow.refl _) rfl
        · refine .inl ⟨rfl, fun K hK => ?_⟩
          unfold Oper.wp
          simp [execOp, go_sem, *]
          exact hK _ _ (Grow.refl _) rfl
        · refine .inl ⟨rfl, fun K hK => ?_⟩
          unfold Oper.wp
          simp [execOp, go_sem, *]
          exact hK _ _ (Grow.refl _) rfl
        · refine .inl ⟨rfl, fun K hK => ?_⟩
          unfold Oper.wp
          simp [execOp, go_sem, *]
          exact hK _ _ (Grow.refl _) rfl
        · refine .inl ⟨rfl, fun K hK => ?_⟩
          unfold Oper.wp
          simp [execOp, go_sem, *]
          exact hK _ _ (Grow.refl _) rfl
        · refine .inl ⟨rfl, fun K hK => ?_⟩
          unfold Oper.wp
          simp [execOp, go_sem, *]
          exact hK _ _ (Grow.refl _) rfl
        · refine .inl ⟨rfl, fun K hK => ?_⟩
          unfold Oper.wp
          simp [go_sem, *]
          refine (HRT.out W hW).mono ?_
          rintro e W' ⟨rfl, hg⟩
          exact hK _ _ hg rfl
    · obtain rfl : k = N := by omega
      have HS : Hid (sameNds L L' = true) := Lib.hid (by
        have h1 := HV.out
        rw [List.take_of_length_le (by have := HN.out; omega), List.take_of_length_le (by have := HN'.out; omega)] at h1
        exact h1)
      go_wp2_with fail
      clear t2
      obtain ⟨wz, hwz⟩ : ∃ wz, wz = wr := ⟨_, rfl⟩
      rw [← hwz] at HB1 HB2 HG1 ⊢
      clear hwz
      go_loopw [6] (fun i wr => RSameRel2 T T' w.heap.size #[.int .i64 pars, .int .i64 out, .slice A k ca, .slice B M cb] #[.int .i64 pars, .int .i64 out, .slice A' k ca', .slice B' M cb'] w i wr) (fun i _ => M - (intOf i).toNat)
      case atStart => exact ⟨0, by omega, rfl, rfl, HB1.out, HB2.out, HG1.out⟩
      case round =>
        obtain ⟨q, hq, rfl, hv, hb1, hb2, hg⟩ := hrel
        have hqM : q ≤ M := by rw [HM.out]; exact hq
        have HV2 := Lib.hid hv
        have HB3 := Lib.hid hb1
        have HB4 := Lib.hid hb2
        have HG2 := Lib.hid hg
        have t3 := hb1.at 3 rfl
        have u3 := hb2.at 3 rfl
        clear hq hv hb1 hb2 hg
        by_cases hlt2 : q < M
        · have hltI : (q : Int) < (M : Int) := by omega
          obtain ⟨x, hx⟩ : ∃ x, T[q]? = some x := ⟨_, List.getElem?_eq_getElem (by have := HM.out; omega)⟩
          obtain ⟨y, hy⟩ : ∃ y, T'[q]? = some y := ⟨_, List.getElem?_eq_getElem (by have := HM'.out; omega)⟩
          have HST := Lib.hid (take_tl HV2.out hx hy)
          obtain ⟨_, b1, o1, rfl, c0, c1⟩ := HT.out.grow HG2.out q x hx
          obtain ⟨_, b2, o2, rfl, e0, e1⟩ := HT'.out.grow HG2.out q y hy
          obtain ⟨xn, xi⟩ := x
          obtain ⟨yn, yi⟩ := y
          dsimp only at c0 c1 e0 e1
          by_cases hxy : (xn, xi) = (yn, yi)
          · have HT1 : Hid (T.take (q + 1) = T'.take (q + 1)) := Lib.hid (HST.out.2 hxy)
            injection hxy with h1 h2
            subst h1 h2
            clear hx hy
            go_wp2_with fail
            go_quiet (fail)
            go_wp2_with fail
            go_roundw
            case rel => exact ⟨q + 1, by have := HM.out; omega, by go_num, HT1.out, HB3.out, HB4.out, Grow.trans HG2.out (Grow.drewN wr nq)⟩
            case measure => simp [intOf]; omega
          · have HF : Hid (R = false) := Lib.hid (by
              rw [HRR.out]
              unfold sameTp
              dsimp only
              rw [decide_eq_false (show ¬ T = T' from fun e => hxy (HST.out.1 (by rw [e]))), Bool.and_false])
            have hbin : ∀ W, (binOp .neq 63 (.agg #[.string (mk xn), .int .i64 xi]) (.agg #[.string (mk yn), .int .i64 yi])).run Tryz.prog W = .ok (.bool true) W := by
              intro W
              simp [go_sem]
              intro h1 h2
              rw [mk_toL, mk_toL] at h1
              exact hxy (by rw [h1, h2])
            clear hx hy
            go_wp2_with fail
            go_quiet (fail)
            go_wp2_with fail
            go_ret
            exact ⟨by rw [HF.out]; rfl, Grow.trans HG2.out (Grow.drewN wr nq)⟩
        · obtain rfl : q = M := by omega
          have HF : Hid (R = true) := Lib.hid (by
            have h1 := HV2.out
            rw [List.take_of_length_le (by have := HM.out; omega), List.take_of_length_le (by have := HM'.out; omega)] at h1
            rw [HRR.out]
            unfold sameTp
            dsimp only
            rw [HS.out, decide_eq_true h1]
            simp)
          go_wp2_with fail
          go_ret
          exact ⟨by rw [HF.out]; rfl, HG2.out⟩
end Go.Proofs.YtofpcdjoljjnoaaGreatDoor
