/-
  The texts TapRTape, TapMayM, TapLiveM, TapRMkM, TapMine, TapFactR, TapAppR, one behind the other.
-/
import Derived.Test.YtofpcdjoljjnoaaGreatDoorTapY21
import Derived.Test.YtofpcdjoljjnoaaGreatDoorTapY20
import Derived.Test.YtofpcdjoljjnoaaGreatDoorTapY18
import Derived.Test.YtofpcdjoljjnoaaGreatDoorTapY15
import Derived.Test.YtofpcdjoljjnoaaGreatDoorTapY19

namespace Go.Proofs.YtofpcdjoljjnoaaGreatDoor
open Go.RowKit

def RSameRel (L M : List Nd) (z : Nat) (cs ds : Array Value) (w : World) (i : Value) (wr : World) : Prop :=
  ∃ k : Nat, k ≤ L.length ∧ i = .int .i64 (k : Int) ∧ sameNds (L.take k) (M.take k) = true ∧ BlkOf wr z cs 25 ∧ BlkOf wr (z + 1) ds 25 ∧ Grow w wr
def RSameRel2 (T U : List (List UInt8 × Int)) (z : Nat) (cs ds : Array Value) (w : World) (i : Value) (wr : World) : Prop :=
  ∃ k : Nat, k ≤ T.length ∧ i = .int .i64 (k : Int) ∧ T.take k = U.take k ∧ BlkOf wr z cs 25 ∧ BlkOf wr (z + 1) ds 25 ∧ Grow w wr

set_option maxRecDepth 100000 in
set_option maxHeartbeats 16000000 in
theorem rsame_any {w : World} {t u : Tp} {vn vt un ut : Value} (h : TpAt 3 w t vn vt) (h' : TpAt 3 w u un ut) :
    Calls Tryz.prog 12 #[tpV t vn vt, tpV u un ut] w (Just (.bool (sameTp t u)) w) := by
  obtain ⟨_, _, hnl, htl, A, ca, B, cb, rfl, rfl, hn, htt⟩ := h
  obtain ⟨_, _, hnl', htl', A', ca', B', cb', rfl, rfl, hn', htt'⟩ := h'
  obtain ⟨pars, out, L, T⟩ := t
  obtain ⟨pars', out', L', T'⟩ := u
  unfold tpV
  dsimp only at *
  have HG := Lib.hid (((Below.refl _ w).alloc (Nat.le_refl _) (.cells #[.int .i64 pars, .int .i64 out, .slice A L.length ca, .slice B T.length cb] 25)).alloc (by simp) (.cells #[.int .i64 pars', .int .i64 out', .slice A' L'.length ca', .slice B' T'.length cb'] 25))
  have HL := Lib.hid hn
  have HL' := Lib.hid hn'
  have HT := Lib.hid htt
  have HT' := Lib.hid htt'
  clear hn hn' htt htt'
  by_cases k0 : pars = pars'
  case neg =>
    have HV : Hid (sameTp ⟨pars, out, L, T⟩ ⟨pars', out', L', T'⟩ = false) := Lib.hid (by unfold sameTp; dsimp only; rw [decide_eq_false k0]; simp)
    have e : (pars != pars') = true := by simp; omega
    rw [HV.out]
    go_enter Tryz.func12, Tryz.ntmps12
    go_wp2_with fail
    go_ret
    exact ⟨rfl, HG.out⟩
  by_cases k1 : out = out'
  case neg =>
    have HV : Hid (sameTp ⟨pars, out, L, T⟩ ⟨pars', out', L', T'⟩ = false) := Lib.hid (by unfold sameTp; dsimp only; rw [decide_eq_false k1]; simp)
    have e : (out != out') = true := by simp; omega
    have q0 : (pars != pars') = false := by simp [k0]
    clear k0
    rw [HV.out]
    go_enter Tryz.func12, Tryz.ntmps12
    go_wp2_with fail
    go_ret
    exact ⟨rfl, HG.out⟩
  by_cases k2 : L.length = L'.length
  case neg =>
    have HV : Hid (sameTp ⟨pars, out, L, T⟩ ⟨pars', out', L', T'⟩ = false) := Lib.hid (by unfold sameTp; dsimp only; rw [sameNds_length k2]; simp)
    have e : ((L.length : Int) != (L'.length : Int)) = true := by simp; omega
    have q0 : (pars != pars') = false := by simp [k0]
    have q1 : (out != out') = false := by simp [k1]
    clear k0 k1
    rw [HV.out]
    go_enter Tryz.func12, Tryz.ntmps12
    go_wp2_with fail
    go_ret
    exact ⟨rfl, HG.out⟩
  by_cases k3 : T.length = T'.length
  case neg =>
    have HV : Hid (sameTp ⟨pars, out, L, T⟩ ⟨pars', out', L', T'⟩ = false) := Lib.hid (by unfold sameTp; dsimp only; rw [decide_eq_false (show ¬ T = T' from fun e => k3 (congrArg List.length e))]; simp)
    have e : ((T.length : Int) != (T'.length : Int)) = true := by simp; omega
    have q0 : (pars != pars') = false := by simp [k0]
    have q1 : (out != out') = false := by simp [k1]
    have q2 : ((L.length : Int) != (L'.length : Int)) = false := by simp; omega
    clear k0 k1 k2
    rw [HV.out]
    go_enter Tryz.func12, Tryz.ntmps12
    go_wp2_with fail
    go_ret
    exact ⟨rfl, HG.out⟩
  subst k0 k1
  obtain ⟨R, hR⟩ : ∃ R, R = sameTp ⟨pars, out, L, T⟩ ⟨pars, out, L', T'⟩ := ⟨_, rfl⟩
  rw [← hR]
  have HRR := Lib.hid hR
  rw [← k2, ← k3] at HG ⊢
  obtain ⟨N, hN⟩ : ∃ N, N = L.length := ⟨_, rfl⟩
  obtain ⟨M, hM⟩ : ∃ M, M = T.length := ⟨_, rfl⟩
  rw [← hN] at hnl HG ⊢
  rw [← hM] at htl HG ⊢
  have HN := Lib.hid hN
  have HM := Lib.hid hM
  have HN' := Lib.hid (hN.trans k2)
  have HM' := Lib.hid (hM.trans k3)
  have HS1 : Hid (BlkOf ((w.alloc (.cells #[.int .i64 pars, .int .i64 out, .slice A N ca, .slice B M cb] 25)).alloc (.cells #[.int .i64 pars, .int .i64 out, .slice A' N ca', .slice B' M cb'] 25)) w.heap.size #[.int .i64 pars, .int .i64 out, .slice A N ca, .slice B M cb] 25) := Lib.hid ((BlkOf.new w _ _).alloc _)
  have HS2 : Hid (BlkOf ((w.alloc (.cells #[.int .i64 pars, .int .i64 out, .slice A N ca, .slice B M cb] 25)).alloc (.cells #[.int .i64 pars, .int .i64 out, .slice A' N ca', .slice B' M cb'] 25)) (w.heap.size + 1) #[.int .i64 pars, .int .i64 out, .slice A' N ca', .slice B' M cb'] 25) := Lib.hid (BlkOf.news (by simp) _ _)
  clear hR hN hM k2 k3 hnl' htl'
  go_enter Tryz.func12, Tryz.ntmps12
  go_wp2_with fail
  go_loopw [5] (fun i wr => RSameRel L L' w.heap.size #[.int .i64 pars, .int .i64 out, .slice A N ca, .slice B M cb] #[.int .i64 pars, .int .i64 out, .slice A' N ca', .slice B' M cb'] w i wr) (fun i _ => N - (intOf i).toNat)
  case atStart => exact ⟨0, by omega, rfl, rfl, HS1.out, HS2.out, HG.out⟩
  case round =>
    obtain ⟨k, hk, rfl, hv, hb1, hb2, hg⟩ := hrel
    have hkN : k ≤ N := by rw [HN.out]; exact hk
    have HV := Lib.hid hv
    have HB1 := Lib.hid hb1
    have HB2 := Lib.hid hb2
    have HG1 := Lib.hid hg
    have t2 := hb1.at 2 rfl
    clear hk hv hb1 hb2 hg
    by_cases hlt : k < N
    · have hltI : (k : Int) < (N : Int) := by omega
      obtain ⟨x, hx⟩ : ∃ x, L[k]? = some x := ⟨_, List.getElem?_eq_getElem (by have := HN.out; omega)⟩
      obtain ⟨y, hy⟩ : ∃ y, L'[k]? = some y := ⟨_, List.getElem?_eq_getElem (by have := HN'.out; omega)⟩
      obtain ⟨b1, o1, vx, wx, rfl, hcx, hokx⟩ := HL.out.grow HG1.out k x hx
      obtain ⟨b2, o2, vy, wy, rfl, hcy, hoky⟩ := HL'.out.grow HG1.out k y hy
      have HOKX := Lib.hid hokx
      have HOKY := Lib.hid hoky
      have hsn := fun W (hW : Grow wr W) => rsamenode_any (show NdOK 3 W x vx wx from ⟨HOKX.out.1, HOKX.out.2.1, HOKX.out.2.2.1, HOKX.out.2.2.2.grow hW⟩) (show NdOK 3 W y vy wy from ⟨HOKY.out.1, HOKY.out.2.1, HOKY.out.2.2.1, HOKY.out.2.2.2.grow hW⟩)
      obtain ⟨r, hr⟩ : ∃ r, r = sameNd x y := ⟨_, rfl⟩
      rw [← hr] at hsn
      have HST := Lib.hid (sameNds_take hx hy)
      have HR := Lib.hid hr
      obtain ⟨⟨an, cn, rfl, _⟩, ⟨ad, cd, rfl, _⟩, _⟩ := hokx.2.2.2
      obtain ⟨⟨an', cn', rfl, _⟩, ⟨ad', cd', rfl, _⟩, _⟩ := hoky.2.2.2
      unfold ndV at hsn
      have HRT := Lib.hid hsn
      have HCX := Lib.hid hcx
      have HCY := Lib.hid hcy
      have KC : Hid (∀ W, Grow wr W → W.cell? ⟨w.heap.size, 2, none⟩ = some (.slice (some ⟨b1, o1, none⟩) N ca) ∧ W.cell? ⟨w.heap.size + 1, 2, none⟩ = some (.slice (some ⟨b2, o2, none⟩) N ca') ∧ W.cell? ⟨b1, o1 + k * 6, none⟩ = some (.int .u8 (x.op : Int)) ∧ W.cell? ⟨b1, o1 + k * 6 + 1, none⟩ = some (.int .i64 x.a) ∧ W.cell? ⟨b1, o1 + k * 6 + 2, none⟩ = some (.int .i64 x.b) ∧ W.cell? ⟨b1, o1 + k * 6 + 3, none⟩ = some (.bool x.c.s) ∧ W.cell? ⟨b1, o1 + k * 6 + 4, none⟩ = some (.slice an x.c.m.length cn) ∧ W.cell? ⟨b1, o1 + k * 6 + 5, none⟩ = some (.slice ad x.c.d.length cd) ∧ W.cell? ⟨b2, o2 + k * 6, none⟩ = some (.int .u8 (y.op : Int)) ∧ W.cell? ⟨b2, o2 + k * 6 + 1, none⟩ = some (.int .i64 y.a) ∧ W.cell? ⟨b2, o2 + k * 6 + 2, none⟩ = some (.int .i64 y.b) ∧ W.cell? ⟨b2, o2 + k * 6 + 3, none⟩ = some (.bool y.c.s) ∧ W.cell? ⟨b2, o2 + k * 6 + 4, none⟩ = some (.slice an' y.c.m.length cn') ∧ W.cell? ⟨b2, o2 + k * 6 + 5, none⟩ = some (.slice ad' y.c.d.length cd')) := Lib.hid fun W hW => by
        have q1 := HB1.out.below hW HB1.out.lt
        have q2 := HB2.out.below hW HB2.out.lt
        have l1 := World.block_lt_of_cell? wr _ (HCX.out 0 _ rfl)
        have l2 := World.block_lt_of_cell? wr _ (HCY.out 0 _ rfl)
        have h1 : ∀ j v, (ndCells x (.slice an x.c.m.length cn) (.slice ad x.c.d.length cd))[j]? = some v → W.cell? ⟨b1, o1 + k * 6 + j, none⟩ = some v := fun j v hv => (Below.cell hW (p := ⟨b1, o1 + k * 6 + j, none⟩) l1).trans (HCX.out j v hv)
        have h2 : ∀ j v, (ndCells y (.slice an' y.c.m.length cn') (.slice ad' y.c.d.length cd'))[j]? = some v → W.cell? ⟨b2, o2 + k * 6 + j, none⟩ = some v := fun j v hv => (Below.cell hW (p := ⟨b2, o2 + k * 6 + j, none⟩) l2).trans (HCY.out j v hv)
        exact ⟨q1.at 2 rfl, q2.at 2 rfl, h1 0 _ rfl, h1 1 _ rfl, h1 2 _ rfl, h1 3 _ rfl, h1 4 _ rfl, h1 5 _ rfl, h2 0 _ rfl, h2 1 _ rfl, h2 2 _ rfl, h2 3 _ rfl, h2 4 _ rfl, h2 5 _ rfl⟩
      clear hx hy hcx hcy hokx hoky hsn hr
      go_wp2_with fail
      clear t2
      rename_i K0 hK0
      cases r with
      | true =>
        have HNX : Hid (sameNds (L.take (k + 1)) (L'.take (k + 1)) = true) := Lib.hid (by rw [HST.out, HV.out, ← HR.out]; rfl)
        refine wp_region_listG [fun v _ => v = .pointer (some ⟨w.heap.size, 2, none⟩), fun v _ => v = .slice (some ⟨b1, o1, none⟩) N ca, fun v _ => v = .int .i64 (k : Int), fun v _ => v = .pointer (some ⟨b1, o1 + k * 6, none⟩), fun v _ => v = .agg #[.int .u8 (x.op : Int), .int .i64 x.a, .int .i64 x.b, .bool x.c.s, .slice an x.c.m.length cn, .slice ad x.c.d.length cd], fun v _ => v = .pointer (some ⟨w.heap.size + 1, 2, none⟩), fun v _ => v = .slice (some ⟨b2, o2, none⟩) N ca', fun v _ => v = .int .i64 (k : Int), fun v _ => v = .pointer (some ⟨b2, o2 + k * 6, none⟩), fun v _ => v = .agg #[.int .u8 (y.op : Int), .int .i64 y.a, .int .i64 y.b, .bool y.c.s, .slice an' y.c.m.length cn', .slice ad' y.c.d.length cd'], fun v _ => v = .bool true]
          [(2, .pointer (some ⟨w.heap.size, 0, none⟩)), (3, .pointer (some ⟨w.heap.size + 1, 0, none⟩)), (5, .int .i64 (k : Int))] 11 (by kernel_rfl) ⟨stays_pure _, stays_pure _, stays_pure _, stays_pure _, stays_pure _, stays_pure _, stays_pure _, stays_pure _, stays_pure _, stays_pure _, stays_pure _, trivial⟩ rfl (by kernel_rfl) rfl ?base (by kernel_rfl) ⟨?_, ?_, ?_, ?_, ?_, ?_, ?_, ?_, ?_, ?_, ?_, trivial⟩ ?last
        case base => simp
        case last =>
          intro vs W hW hv
          simp only [FactsL, Nat.zero_add, Nat.reduceAdd] at hv
          have v10 := hv.2.2.2.2.2.2.2.2.2.2.1
          clear hv
          refine ⟨rfl, ?_⟩
          simp only [List.take_succ_cons, List.take_zero, putF, Act.put, List.setIfInBounds_toArray, List.set_cons_zero, List.set_cons_succ, Nat.reduceAdd, v10]
          unfold Oper.wp
          simp [execOp, go_sem]
          refine hK0 _ _ ?_
          have HGW := Lib.hid (Grow.trans HG1.out hW)
          have HBW1 := Lib.hid (HB1.out.below hW HB1.out.lt)
          have HBW2 := Lib.hid (HB2.out.below hW HB2.out.lt)
          clear v10
          go_wp2_with fail
          exact ⟨⟨k + 1, by have := HN.out; omega, by go_num, HNX.out, HBW1.out, HBW2.out, HGW.out⟩, by simp [intOf]; omega⟩
        all_goals
          intro a' W hW hb hf
          obtain ⟨t2, u2, e0, e1, e2, e3, e4, e5, g0, g1, g2, g3, g4, g5⟩ := KC.out W hW
          simp only [List.forall_mem_cons, List.not_mem_nil, false_imp_iff, implies_true, and_true] at hb
          obtain ⟨m2, m3, m5⟩ := hb
          simp [FactsOf, FactAt, Region.binds, factsL] at hf
        · refine .inl ⟨rfl, fun K hK => ?_⟩
          unfold Oper.wp
          simp [execOp, go_sem, *]
          exact hK _ _ (Grow.refl _) rfl
        · refine .inl ⟨rfl, fun K hK => ?_⟩
          unfold Oper.wp
          simp [execOp, go_sem, *]
          exact hK _ _ (Grow.refl _) rfl
        · refine .inl ⟨rfl, fun K hK => ?_⟩
          unfold Oper.wp
          simp [execOp, go_sem, *]
          exact hK _ _ (Grow.refl _) rfl
        · refine .inl ⟨rfl, fun K hK => ?_⟩
          unfold Oper.wp
          simp [execOp, go_sem, *]
          exact hK _ _ (Grow.refl _) rfl
        · refine .inl ⟨rfl, fun K hK => ?_⟩
          unfold Oper.wp
          simp [execOp, go_sem, *]
          exact hK _ _ (Grow.refl _) rfl
        · refine .inl ⟨rfl, fun K hK => ?_⟩
          unfold Oper.wp
          simp [execOp, go_sem, *]
          exact hK _ _ (Grow.refl _) rfl
        · refine .inl ⟨rfl, fun K hK => ?_⟩
          unfold Oper.wp
          simp [execOp, go_sem, *]
          exact hK _ _ (Grow.refl _) rfl
        · refine .inl ⟨rfl, fun K hK => ?_⟩
          unfold Oper.wp
          simp [execOp, go_sem, *]
          exact hK _ _ (Grow.refl _) rfl
        · refine .inl ⟨rfl, fun K hK => ?_⟩
          unfold Oper.wp
          simp [execOp, go_sem, *]
          exact hK _ _ (Grow.refl _) rfl
        · refine .inl ⟨rfl, fun K hK => ?_⟩
          unfold Oper.wp
          simp [execOp, go_sem, *]
          exact hK _ _ (Grow.refl _) rfl
        · refine .inl ⟨rfl, fun K hK => ?_⟩
          unfold Oper.wp
          simp [go_sem, *]
          refine (HRT.out W hW).mono ?_
          rintro e W' ⟨rfl, hg⟩
          exact hK _ _ hg rfl
      | false =>
        have HF : Hid (R = false) := Lib.hid (by
          have h1 : sameNds L L' = false := sameNds_false (i := k + 1) (by have := HN.out; have := HN'.out; omega) (by rw [HST.out, ← HR.out, Bool.and_false])
          rw [HRR.out]
          unfold sameTp
          dsimp only
          rw [h1]
          simp)
        refine wp_region_listG [fun v _ => v = .pointer (some ⟨w.heap.size, 2, none⟩), fun v _ => v = .slice (some ⟨b1, o1, none⟩) N ca, fun v _ => v = .int .i64 (k : Int), fun v _ => v = .pointer (some ⟨b1, o1 + k * 6, none⟩), fun v _ => v = .agg #[.int .u8 (x.op : Int), .int .i64 x.a, .int .i64 x.b, .bool x.c.s, .slice an x.c.m.length cn, .slice ad x.c.d.length cd], fun v _ => v = .pointer (some ⟨w.heap.size + 1, 2, none⟩), fun v _ => v = .slice (some ⟨b2, o2, none⟩) N ca', fun v _ => v = .int .i64 (k : Int), fun v _ => v = .pointer (some ⟨b2, o2 + k * 6, none⟩), fun v _ => v = .agg #[.int .u8 (y.op : Int), .int .i64 y.a, .int .i64 y.b, .bool y.c.s, .slice an' y.c.m.length cn', .slice ad' y.c.d.length cd'], fun v _ => v = .bool false]
          [(2, .pointer (some ⟨w.heap.size, 0, none⟩)), (3, .pointer (some ⟨w.heap.size + 1, 0, none⟩)), (5, .int .i64 (k : Int))] 11 (by kernel_rfl) ⟨stays_pure _, stays_pure _, stays_pure _, stays_pure _, stays_pure _, stays_pure _, stays_pure _, stays_pure _, stays_pure _, stays_pure _, stays_pure _, trivial⟩ rfl (by kernel_rfl) rfl ?base (by kernel_rfl) ⟨?_, ?_, ?_, ?_, ?_, ?_, ?_, ?_, ?_, ?_, ?_, trivial⟩ ?last
        case base => simp
        case last =>
          intro vs W hW hv
          simp only [FactsL, Nat.zero_add, Nat.reduceAdd] at hv
          have v10 := hv.2.2.2.2.2.2.2.2.2.2.1
          clear hv
          refine ⟨rfl, ?_⟩
          simp only [List.take_succ_cons, List.take_zero, putF, Act.put, List.setIfInBounds_toArray, List.set_cons_zero, List.set_cons_succ, Nat.reduceAdd, v10]
          unfold Oper.wp
          simp [execOp, go_sem]
          refine hK0 _ _ ?_
          have HGW := Lib.hid (Grow.trans HG1.out hW)
          clear v10
          go_wp2_with fail
          go_ret
          exact ⟨by rw [HF.out]; rfl, HGW.out⟩
        all_goals
          intro a' W hW hb hf
          obtain ⟨t2, u2, e0, e1, e2, e3, e4, e5, g0, g1, g2, g3, g4, g5⟩ := KC.out W hW
          simp only [List.forall_mem_cons, List.not_mem_nil, false_imp_iff, implies_true, and_true] at hb
          obtain ⟨m2, m3, m5⟩ := hb
          simp [FactsOf, FactAt, Region.binds, factsL] at hf
        · refine .inl ⟨rfl, fun K hK => ?_⟩
          unfold Oper.wp
          simp [execOp, go_sem, *]
          exact hK _ _ (Grow.refl _) rfl
        · refine .inl ⟨rfl, fun K hK => ?_⟩
          unfold Oper.wp
          simp [execOp, go_sem, *]
          exact hK _ _ (Grow.refl _) rfl
        · refine .inl ⟨rfl, fun K hK => ?_⟩
          unfold Oper.wp
          simp [execOp, go_sem, *]
          exact hK _ _ (Grow.refl _) rfl
        · refine .inl ⟨rfl, fun K hK => ?_⟩
          unfold Oper.wp
          simp [execOp, go_sem, *]
          exact hK _ _ (Grow.refl _) rfl
        · refine .inl ⟨rfl, fun K hK => ?_⟩
          unfold Oper.wp
          simp [execOp, go_sem, *]
          exact hK _ _ (Grow.refl _) rfl
        · refine .inl ⟨rfl, fun K hK => ?_⟩
          unfold Oper.wp
          simp [execOp, go_sem, *]
          exact hK _ _ (Grow.refl _) rfl
        · refine .inl ⟨rfl, fun K hK => ?_⟩
          unfold Oper.wp
          simp [execOp, go_sem, *]
          exact hK _ _ (Grow.refl _) rfl
        · refine .inl ⟨rfl, fun K hK => ?_⟩
          unfold Oper.wp
          simp [execOp, go_sem, *]
          exact hK _ _ (Grow.refl _) rfl
        · refine .inl ⟨rfl, fun K hK => ?_⟩
          unfold Oper.wp
          simp [execOp, go_sem, *]
          exact hK _ _ (Grow.refl _) rfl
        · refine .inl ⟨rfl, fun K hK => ?_⟩
          unfold Oper.wp
          simp [execOp, go_sem, *]
          exact hK _ _ (Grow.refl _) rfl
        · refine .inl ⟨rfl, fun K hK => ?_⟩
          unfold Oper.wp
          simp [go_sem, *]
          refine (HRT.out W hW).mono ?_
          rintro e W' ⟨rfl, hg⟩
          exact hK _ _ hg rfl
    · obtain rfl : k = N := by omega
      have HS : Hid (sameNds L L' = true) := Lib.hid (by
        have h1 := HV.out
        rw [List.take_of_length_le (by have := HN.out; omega), List.take_of_length_le (by have := HN'.out; omega)] at h1
        exact h1)
      go_wp2_with fail
      clear t2
      obtain ⟨wz, hwz⟩ : ∃ wz, wz = wr := ⟨_, rfl⟩
      rw [← hwz] at HB1 HB2 HG1 ⊢
      clear hwz
      go_loopw [6] (fun i wr => RSameRel2 T T' w.heap.size #[.int .i64 pars, .int .i64 out, .slice A k ca, .slice B M cb] #[.int .i64 pars, .int .i64 out, .slice A' k ca', .slice B' M cb'] w i wr) (fun i _ => M - (intOf i).toNat)
      case atStart => exact ⟨0, by omega, rfl, rfl, HB1.out, HB2.out, HG1.out⟩
      case round =>
        obtain ⟨q, hq, rfl, hv, hb1, hb2, hg⟩ := hrel
        have hqM : q ≤ M := by rw [HM.out]; exact hq
        have HV2 := Lib.hid hv
        have HB3 := Lib.hid hb1
        have HB4 := Lib.hid hb2
        have HG2 := Lib.hid hg
        have t3 := hb1.at 3 rfl
        have u3 := hb2.at 3 rfl
        clear hq hv hb1 hb2 hg
        by_cases hlt2 : q < M
        · have hltI : (q : Int) < (M : Int) := by omega
          obtain ⟨x, hx⟩ : ∃ x, T[q]? = some x := ⟨_, List.getElem?_eq_getElem (by have := HM.out; omega)⟩
          obtain ⟨y, hy⟩ : ∃ y, T'[q]? = some y := ⟨_, List.getElem?_eq_getElem (by have := HM'.out; omega)⟩
          have HST := Lib.hid (take_tl HV2.out hx hy)
          obtain ⟨_, b1, o1, rfl, c0, c1⟩ := HT.out.grow HG2.out q x hx
          obtain ⟨_, b2, o2, rfl, e0, e1⟩ := HT'.out.grow HG2.out q y hy
          obtain ⟨xn, xi⟩ := x
          obtain ⟨yn, yi⟩ := y
          dsimp only at c0 c1 e0 e1
          by_cases hxy : (xn, xi) = (yn, yi)
          · have HT1 : Hid (T.take (q + 1) = T'.take (q + 1)) := Lib.hid (HST.out.2 hxy)
            injection hxy with h1 h2
            subst h1 h2
            clear hx hy
            go_wp2_with fail
            go_quiet (fail)
            go_wp2_with fail
            go_roundw
            case rel => exact ⟨q + 1, by have := HM.out; omega, by go_num, HT1.out, HB3.out, HB4.out, Grow.trans HG2.out (Grow.drewN wr nq)⟩
            case measure => simp [intOf]; omega
          · have HF : Hid (R = false) := Lib.hid (by
              rw [HRR.out]
              unfold sameTp
              dsimp only
              rw [decide_eq_false (show ¬ T = T' from fun e => hxy (HST.out.1 (by rw [e]))), Bool.and_false])
            have hbin : ∀ W, (binOp .neq 63 (.agg #[.string (mk xn), .int .i64 xi]) (.agg #[.string (mk yn), .int .i64 yi])).run Tryz.prog W = .ok (.bool true) W := by
              intro W
              simp [go_sem]
              intro h1 h2
              rw [mk_toL, mk_toL] at h1
              exact hxy (by rw [h1, h2])
            clear hx hy
            go_wp2_with fail
            go_quiet (fail)
            go_wp2_with fail
            go_ret
            exact ⟨by rw [HF.out]; rfl, Grow.trans HG2.out (Grow.drewN wr nq)⟩
        · obtain rfl : q = M := by omega
          have HF : Hid (R = true) := Lib.hid (by
            have h1 := HV2.out
            rw [List.take_of_length_le (by have := HM.out; omega), List.take_of_length_le (by have := HM'.out; omega)] at h1
            rw [HRR.out]
            unfold sameTp
            dsimp only
            rw [HS.out, decide_eq_true h1]
            simp)
          go_wp2_with fail
          go_ret
          exact ⟨by rw [HF.out]; rfl, HG2.out⟩
end Go.Proofs.YtofpcdjoljjnoaaGreatDoor

namespace Go.Proofs.YtofpcdjoljjnoaaGreatDoor

/-- Steps that are the same have the same key. -/
theorem key_of_same {x y : Nd} (h : sameNd x y = true) : keyN x = keyN y := by
  unfold sameNd sameB at h
  simp only [Bool.and_eq_true, decide_eq_true_eq] at h
  obtain ⟨⟨⟨h1, h2⟩, h3⟩, ⟨h4, h5⟩, h6⟩ := h
  rw [beq_iff_eq] at h4
  unfold keyN
  rw [h1, h2, h3, h4, h5, h6]
theorem same_self (x : Nd) : sameNd x x = true := by
  unfold sameNd sameB
  simp
theorem sameNds_self : ∀ L : List Nd, sameNds L L = true
  | [] => rfl
  | x :: L => by unfold sameNds; rw [same_self, sameNds_self L]; rfl
theorem sameTp_self (t : Tp) : sameTp t t = true := by
  unfold sameTp
  rw [sameNds_self]
  simp
end Go.Proofs.YtofpcdjoljjnoaaGreatDoor

namespace Go.Proofs.YtofpcdjoljjnoaaGreatDoor

section
variable {L : List Nd} {pars out : Int} (hv : stepsB pars 0 L = true)
include hv
end

theorem stepB_op {x : Nd} {i pars : Int} (h : stepB x i pars = true) : x.op < 12 := by
  rcases Nat.lt_or_ge x.op 12 with h1 | h1
  · exact h1
  · unfold stepB at h
    rw [fld_none h1, fld_none h1, fld_none h1] at h
    simp at h
section
variable {L : List Nd} {pars : Int} (hv : stepsB pars 0 L = true)
include hv
end
end Go.Proofs.YtofpcdjoljjnoaaGreatDoor

namespace Go.Proofs.YtofpcdjoljjnoaaGreatDoor

/-- What digits tell. -/
def dval (l : List UInt8) : Nat := l.foldl (fun a c => a * 10 + (c.toNat - 48)) 0
theorem dval_snoc (l : List UInt8) (c : UInt8) : dval (l ++ [c]) = dval l * 10 + (c.toNat - 48) := by
  unfold dval
  rw [List.foldl_append]
  rfl
theorem byt_digit {k : Nat} (h : k < 10) : (byt (48 + k)).toNat = 48 + k := by
  have : ∀ k, k < 10 → (byt (48 + k)).toNat = 48 + k := by decide
  exact this k h
theorem dval_dec (v : Nat) : dval (dec v) = v := by
  induction v using Nat.strongRecOn with
  | _ v ih =>
    by_cases h : v = 0
    · subst h; rw [dec_zero]; rfl
    · rw [dec_step h, dval_snoc, ih (v / 10) (by omega), byt_digit (by omega)]
      omega
theorem dval_decT (v : Nat) : dval (decT v) = v := by
  unfold decT
  split
  · rename_i h; subst h; rfl
  · exact dval_dec v
theorem dec_digits (v : Nat) : ∀ c ∈ dec v, 48 ≤ c.toNat ∧ c.toNat < 58 := by
  induction v using Nat.strongRecOn with
  | _ v ih =>
    by_cases h : v = 0
    · subst h; rw [dec_zero]; intro c hc; cases hc
    · rw [dec_step h]
      intro c hc
      rcases List.mem_append.1 hc with h1 | h1
      · exact ih (v / 10) (by omega) c h1
      · rw [List.mem_singleton.1 h1, byt_digit (by omega)]
        omega
theorem decT_digits (v : Nat) : ∀ c ∈ decT v, 48 ≤ c.toNat ∧ c.toNat < 58 := by
  unfold decT
  split
  · intro c hc
    rw [List.mem_singleton.1 hc]
    decide
  · exact dec_digits v
theorem zT_no47 (s : Bool) (n : Nat) : ∀ c ∈ zT s n, (c != 47) = true := by
  have h := decT_digits n
  have h2 : ∀ c ∈ decT n, (c != 47) = true := fun c hc => by
    have := h c hc
    simp only [bne_iff_ne, ne_eq]
    intro e
    rw [e] at this
    exact absurd this.1 (by decide)
  unfold zT
  split
  · intro c hc
    rcases List.mem_cons.1 hc with e | e
    · rw [e]; decide
    · exact h2 c e
  · exact h2
/-- The sign and the number, back from the text. -/
theorem zT_inj {s s' : Bool} {n n' : Nat} (hs : s = true → n ≠ 0) (hs' : s' = true → n' ≠ 0) (h : zT s n = zT s' n') : s = s' ∧ n = n' := by
  have no : ∀ k l, decT k ≠ 45 :: l := fun k l e => by
    have := decT_digits k 45 (by rw [e]; exact List.mem_cons_self)
    exact absurd this.1 (by decide)
  have z1 : ∀ k, zT false k = decT k := fun k => by unfold zT; rw [if_neg (by simp)]
  have z2 : ∀ k, k ≠ 0 → zT true k = 45 :: decT k := fun k hk => by unfold zT; rw [if_pos ⟨rfl, hk⟩]
  have inj : ∀ {k k' : Nat}, decT k = decT k' → k = k' := fun {k k'} e => by rw [← dval_decT k, e, dval_decT]
  cases s <;> cases s'
  · rw [z1, z1] at h; exact ⟨rfl, inj h⟩
  · rw [z1, z2 _ (hs' rfl)] at h; exact absurd h (no _ _)
  · rw [z1, z2 _ (hs rfl)] at h; exact absurd h.symm (no _ _)
  · rw [z2 _ (hs rfl), z2 _ (hs' rfl)] at h; exact ⟨rfl, inj (List.cons.inj h).2⟩
theorem fT_inj {s s' : Bool} {n n' d d' : Nat} (hs : s = true → n ≠ 0) (hs' : s' = true → n' ≠ 0) (h : fT s n d = fT s' n' d') : s = s' ∧ n = n' ∧ d = d' := by
  have cut : ∀ (s : Bool) (n d : Nat), (fT s n d).takeWhile (· != 47) = zT s n ∧ (fT s n d).dropWhile (· != 47) = if d = 1 then [] else 47 :: decT d := fun s n d => by
    unfold fT
    have hz := zT_no47 s n
    split
    · exact ⟨by have := List.takeWhile_append_of_pos (l₂ := []) hz; simpa using this, by have := List.dropWhile_append_of_pos (l₂ := []) hz; simpa using this⟩
    · rw [List.takeWhile_append_of_pos hz, List.dropWhile_append_of_pos hz]
      exact ⟨by simp, by simp⟩
  have c1 := cut s n d
  have c2 := cut s' n' d'
  rw [h] at c1
  obtain ⟨e1, e2⟩ := zT_inj hs hs' (c1.1.symm.trans c2.1)
  refine ⟨e1, e2, ?_⟩
  have e3 := c1.2.symm.trans c2.2
  split at e3
  · split at e3
    · omega
    · cases e3
  · split at e3
    · cases e3
    · rw [← dval_decT d, (List.cons.inj e3).2, dval_decT]
theorem same_eq {x y : Fr} (h : sameB x y = true) : x = y := by
  unfold sameB at h
  simp only [Bool.and_eq_true, decide_eq_true_eq] at h
  obtain ⟨⟨h1, h2⟩, h3⟩ := h
  rw [beq_iff_eq] at h1
  cases x; cases y
  simp only at h1 h2 h3
  rw [h1, h2, h3]
/-- Normal numbers with the same text are the same. -/
theorem norm_inj {x y : Fr} (hx : normB x = true) (hy : normB y = true) (h : fT x.s (lv x.m) (lv x.d) = fT y.s (lv y.m) (lv y.d)) : x = y := by
  have rows : ∀ {z : Fr}, normB z = true → (z.s = true → lv z.m ≠ 0) ∧ z.m = nrow (lv z.m) ∧ z.d = nrow (lv z.d) := fun {z} hz => by
    unfold normB at hz
    rw [Bool.and_eq_true] at hz
    have e := same_eq hz.2
    have e1 := congrArg Fr.s e
    have e2 := congrArg Fr.m e
    have e3 := congrArg Fr.d e
    dsimp only at e1 e2 e3
    refine ⟨fun hs => ?_, ?_, ?_⟩
    · rw [← e1] at hs
      unfold rdS at hs
      simp only [Bool.and_eq_true, decide_eq_true_eq] at hs
      exact hs.2
    · rw [← e2, lv_nrow]
    · rw [← e3, lv_nrow]
  obtain ⟨s1, m1, d1⟩ := rows hx
  obtain ⟨s2, m2, d2⟩ := rows hy
  obtain ⟨h1, h2, h3⟩ := fT_inj s1 s2 h
  rw [h2, ← m2] at m1
  rw [h3, ← d2] at d1
  cases x; cases y
  simp only at h1 m1 d1
  rw [h1, m1, d1]
theorem fld_two {op : Nat} (h : op < 12) : fld op 2 = 1 ↔ op = 1 := by
  have : ∀ op, op < 12 → (fld op 2 = 1 ↔ op = 1) := by decide
  exact this op h
/-- Steps that may be and have the same key are the same. -/
theorem same_of_key {x y : Nd} {i j p q : Int} (hx : stepB x i p = true) (hy : stepB y j q = true) (h : keyN x = keyN y) : sameNd x y = true := by
  have ox := stepB_op hx
  have oy := stepB_op hy
  unfold stepB at hx hy
  simp only [Bool.and_eq_true] at hx hy
  have wx := hx.2.2.2
  have wy := hy.2.2.2
  unfold keyN at h
  obtain ⟨op, a, b, c⟩ := x
  obtain ⟨op', a', b', c'⟩ := y
  dsimp only at *
  injection h with h1 h2 h3 h4
  subst h1 h2 h3
  have hc : c = c' := by
    unfold writtenB at wx wy
    by_cases h1 : op = 1
    · rw [if_pos ((fld_two ox).2 h1)] at wx wy
      rw [if_pos h1, if_pos h1] at h4
      exact norm_inj wx wy h4
    · rw [if_neg (fun e => h1 ((fld_two ox).1 e))] at wx wy
      rw [same_eq wx, same_eq wy]
  subst hc
  exact same_self _
/-- A step's place, looked for step by step. -/
def sameAt (L : List Nd) (x : Nd) : Option Nat := L.findIdx? (fun y => sameNd y x)
theorem sameAt_ky {L : List Nd} {x : Nd} {p : Int} {k : Nat} {i q : Int} (hL : stepsB p k L = true) (hx : stepB x i q = true) : sameAt L x = kyAt (L.map keyN) (keyN x) := by
  unfold sameAt kyAt
  induction L generalizing k with
  | nil => rfl
  | cons y L ih =>
    simp only [stepsB, Bool.and_eq_true] at hL
    rw [List.map_cons, List.findIdx?_cons, List.findIdx?_cons, ih hL.2]
    have e : sameNd y x = (keyN y == keyN x) := by
      cases h : sameNd y x with
      | true => rw [key_of_same h]; exact (beq_self_eq_true _).symm
      | false =>
        cases h2 : keyN y == keyN x with
        | false => rfl
        | true => rw [same_of_key hL.1 hx (beq_iff_eq.1 h2)] at h; cases h
    rw [e]
/-- What the document's maker does with a step. -/
def rputS (S : MkS) (x : Nd) : Int × Int × MkS :=
  match sameAt S.l x with
  | some i => ((i : Int), 0, S)
  | none => if S.l.length = S.budget then (0, 171, S) else ((S.l.length : Int), 0, { S with l := S.l ++ [x] })
theorem rputS_eq {S : MkS} {x : Nd} (h : Good S) {i q : Int} (hx : stepB x i q = true) : rputS S x = putS S x := by
  unfold rputS putS
  rw [sameAt_ky h.2.2.2.2.1 hx]
  cases kyAt (S.l.map keyN) (keyN x) <;> rfl
end Go.Proofs.YtofpcdjoljjnoaaGreatDoor

namespace Go.Proofs.YtofpcdjoljjnoaaGreatDoor
open Go.RowKit Go.Maps

/-- A maker of blocks that are new since w0. -/
structure Mine (w0 w : World) (P : Nat → Prop) (m : Value) (S : MkS) : Prop where
  one : MkAt P w m S
  low : ∀ k, P k → w0.heap.size ≤ k
  grow : Grow w0 w
section
variable {w0 w w' : World} {P : Nat → Prop} {m : Value} {S : MkS}
theorem Mine.more (h : Mine w0 w P m S) (hg : Grow w w') : Mine w0 w' P m S := ⟨h.one.grow hg, h.low, h.grow.trans hg⟩
/-- Blocks of kinds that no call on a maker writes. -/
def KeptKinds (w w' : World) : Prop := ∀ b cs t, BlkOf w b cs t → t ≠ 86 → t ≠ 71 → BlkOf w' b cs t
/-- Behind a call on it. -/
def Told (w0 w : World) (m : Value) (r : Int × Int × MkS) (e : Ending) (w' : World) : Prop :=
  e = .returned (.tuple #[.int .i64 r.1, .int .i64 r.2.1]) ∧ KeptKinds w w' ∧ w.heap.size ≤ w'.heap.size ∧ ∃ P', Mine w0 w' P' m r.2.2
theorem Mine.told {r : Int × Int × MkS} {e : Ending} (h : Mine w0 w P m S) (hp : MkPost P m w r e w') : Told w0 w m r e w' := by
  obtain ⟨he, hs, P', hP, hP', hm⟩ := hp
  refine ⟨he, hs.kinds, hs.size, P', hm, fun k hk => ?_, ?_⟩
  · rcases hP' k hk with h1 | h1
    · exact h.low k h1
    · exact Nat.le_trans (Below.size h.grow) h1
  · exact Below.trans h.grow (hs.below h.low (Below.size h.grow))
theorem Mine.par (h : Mine w0 w P m S) : Calls Tryz.prog 18 #[m] w (Told w0 w m (parS S)) :=
  (par_some h.one).mono fun _ _ hp => h.told hp
theorem Mine.pair (h : Mine w0 w P m S) (ht : Tab w0) {op : Nat} {i j : Int} (hop : op < 256) (hi : I64 i) (hj : I64 j) : Calls Tryz.prog 22 #[m, .int .u8 (op : Int), .int .i64 i, .int .i64 j] w (Told w0 w m (twoS S op i j)) :=
  (two_some h.one hop hi hj (ht.grow h.grow)).mono fun _ _ hp => h.told hp
theorem Mine.single (h : Mine w0 w P m S) (ht : Tab w0) {op : Nat} {i : Int} (hop : op < 256) (hi : I64 i) : Calls Tryz.prog 20 #[m, .int .u8 (op : Int), .int .i64 i] w (Told w0 w m (oneS S op i)) :=
  (one_some h.one hop hi (ht.grow h.grow)).mono fun _ _ hp => h.told hp
theorem Mine.num (h : Mine w0 w P m S) {x : Fr} {vn vd : Value} (hx : FrAt 3 w x vn vd) : Calls Tryz.prog 16 #[m, .agg #[.bool x.s, vn, vd]] w (Told w0 w m (numS S x)) :=
  (num_some h.one hx (by decide)).mono fun _ _ hp => h.told hp
end
theorem new_mine {n : Int} (w : World) (hn : I64 n) (h1 : 1 ≤ n) (h2 : n ≤ 20000) : Calls Tryz.prog 13 #[.int .i64 n] w fun e w' => ∃ pm P, e = .returned (.tuple #[.pointer (some ⟨pm, 0, none⟩), .int .i64 0]) ∧ Mine w w' P (.pointer (some ⟨pm, 0, none⟩)) ⟨n.toNat, 0, []⟩ := by
  refine (new_any n w hn).mono ?_
  rintro e w' (⟨_, _, m, rfl, hb, hm⟩ | ⟨h, _⟩)
  · obtain ⟨pm, rfl⟩ := hm.ptr
    exact ⟨pm, _, rfl, hm, fun k hk => hk.1, hb⟩
  · exact absurd ⟨h1, h2⟩ h
theorem new_nomine {n : Int} (w : World) (hn : I64 n) (h : ¬ (1 ≤ n ∧ n ≤ 20000)) : Calls Tryz.prog 13 #[.int .i64 n] w (Same (.tuple #[.pointer none, .int .i64 2]) w) := by
  refine (new_any n w hn).mono ?_
  rintro e w' (⟨h1, h2, _⟩ | ⟨_, rfl, rfl⟩)
  · exact absurd ⟨h1, h2⟩ h
  · exact ⟨rfl, rfl⟩
end Go.Proofs.YtofpcdjoljjnoaaGreatDoor

namespace Go.Proofs.YtofpcdjoljjnoaaGreatDoor
open Go.RowKit

/-- What each operation may do to memory. -/
structure Rel where
  to : World → World → Prop
  refl : ∀ w, to w w
  trans : ∀ {a b c}, to a b → to b c → to a c
  drew : ∀ w, to w w.drew
structure MidR (R : Rel) (L : List Oper) (F : Nat → Value → World → Prop) (t : Nat) (a0 : Act) (w0 : World) (listed : Array Bool) (a : Act) (w : World) : Prop where
  grow : R.to w0 w
  size : a.tmps.size = a0.tmps.size
  defers : a.defers = a0.defers
  other : ∀ s, s ∉ dstsOf (L.take t) → a.tmps[s]? = a0.tmps[s]?
  fact : ∀ j, j < t → listed.getD j false = true → FactAt L F j a w
def StaysR (R : Rel) (f : Value → World → Prop) : Prop := ∀ v w w', R.to w w' → f v w → f v w'
def AllStayR (R : Rel) : List (Value → World → Prop) → Prop
  | [] => True
  | f :: l => StaysR R f ∧ AllStayR R l
theorem AllStayR.at {R : Rel} {l : List (Value → World → Prop)} : ∀ {f}, AllStayR R l → f ∈ l → StaysR R f := by
  induction l with
  | nil => intro f _ h; cases h
  | cons g l ih =>
    intro f h hm
    rcases List.mem_cons.1 hm with rfl | hm
    · exact h.1
    · exact ih h.2 hm
theorem factsL_monoR {R : Rel} {l : List (Value → World → Prop)} (h : AllStayR R l) (i : Nat) (v : Value) (w w' : World) (hg : R.to w w') (hf : factsL l i v w) : factsL l i v w' := by
  unfold factsL at hf ⊢
  cases hx : l[i]? with
  | none => trivial
  | some f =>
    rw [hx] at hf
    exact (h.at (List.mem_of_getElem? hx)) v w w' hg hf
theorem stays_pureR (R : Rel) (p : Value → Prop) : StaysR R (fun v _ => p v) := fun _ _ _ _ h => h

section
variable {P : Program} {L : List Oper} {Q : Exit → Act → World → Prop}

/-- What is asked of operation number i, which is o. -/
def StepR (R : Rel) (P : Program) (Q : Exit → Act → World → Prop) (L : List Oper) (F : Nat → Value → World → Prop) (base : List (Nat × Value)) (w0 : World) (i : Nat) (o : Oper) : Prop :=
  ∀ a w, R.to w0 w → (∀ p ∈ base, a.tmps[p.1]?.getD undef = p.2) → FactsOf L F o.after a w →
    (Region.wanted o (yielded L.toArray a.tmps) = true ∧ ∀ K : Act → World → Prop, (∀ v w', R.to w w' → F i v w' → K (a.put o.dst v) w') → o.wp P a w K Q) ∨ (Region.wanted o (yielded L.toArray a.tmps) = false ∧ F i undef w)
/-- The same of each of a row of operations, from number k on. -/
def StepsR (R : Rel) (P : Program) (Q : Exit → Act → World → Prop) (L : List Oper) (F : Nat → Value → World → Prop) (base : List (Nat × Value)) (w0 : World) : Nat → List Oper → Prop
  | _, [] => True
  | k, o :: r => StepR R P Q L F base w0 k o ∧ StepsR R P Q L F base w0 (k + 1) r
theorem StepsR.at {R : Rel} {F : Nat → Value → World → Prop} {base : List (Nat × Value)} {w0 : World} : ∀ {r : List Oper} {k : Nat}, StepsR R P Q L F base w0 k r → ∀ j o, r[j]? = some o → StepR R P Q L F base w0 (k + j) o
  | [], _, _, _, _, h => by simp at h
  | o :: r, k, hs, j, o', h => by
    cases j with
    | zero => simp at h; subst h; exact hs.1
    | succ j =>
      simp at h
      have := StepsR.at hs.2 j o' h
      rwa [show k + 1 + j = k + (j + 1) by omega] at this

theorem wpAny_factsR {R : Rel} {F : Nat → Value → World → Prop} {base : List (Nat × Value)} {t : Nat} {a0 : Act} {w0 : World} {last : Oper}
    (hF : ∀ i v w w', R.to w w' → F i v w → F i v w')
    (hok : factOK L t a0.tmps.size = true) (hl : L[t]? = some last)
    (hb : ∀ p ∈ base, a0.tmps[p.1]?.getD undef = p.2) (hfree : ∀ p ∈ base, p.1 ∉ dstsOf (L.take t))
    (hsteps : StepsR R P Q L F base w0 0 (L.take t))
    (hlast : ∀ vs w, R.to w0 w → (∀ j, j < t → F j (vs j) w) → Region.wanted last (yielded L.toArray (putF vs (L.take t) 0 a0).tmps) = true ∧ last.wp P (putF vs (L.take t) 0 a0) w (fun a' w' => Q .normal a' w') Q) :
    ∀ (fuel : Nat) (listed : Array Bool) (a : Act) (w : World), listed.size = L.length → (listed.toList.filter (· == false)).length ≤ fuel → Closed .any L.toArray listed →
      ((∀ i, i < L.length → listed.getD i false = true) ∧ Q .normal a w ∨ listed.getD t true = false ∧ MidR R L F t a0 w0 listed a w) →
      wpAny P .any L.toArray Q fuel listed a w := by
  unfold factOK at hok
  simp only [Bool.and_eq_true, decide_eq_true_eq] at hok
  obtain ⟨⟨⟨⟨⟨hlen, hord⟩, hnod⟩, hlow⟩, hsome⟩, hchain⟩ := hok
  have hsz0 : L.toArray.size = t + 1 := by simpa using hlen
  have hmemT : ∀ (listed : Array Bool), Closed .any L.toArray listed → t ∈ Region.ready .any L.toArray listed → ∀ i, i < t → listed.getD i true = true := by
    intro listed hcl hm i hi
    cases hq : listed.getD i true with
    | true => rfl
    | false => exact absurd hm (chain_waits hchain (by rw [hsz0]) hcl (t - i) i rfl hi hq)
  intro fuel
  induction fuel with
  | zero =>
    intro listed a w hsz hf hcl h
    have hall : ∀ i, i < L.length → listed.getD i false = true := by
      intro i hi
      have h0 : listed.toList.filter (· == false) = [] := List.eq_nil_of_length_eq_zero (by omega)
      rw [List.filter_eq_nil_iff] at h0
      have h1 := h0 (listed[i]'(by omega)) (by simp)
      rw [Array.getD_eq_getD_getElem?, Array.getElem?_eq_getElem (by omega)]
      simpa using h1
    rcases h with ⟨_, hq⟩ | ⟨hq, _⟩
    · refine ⟨List.eq_nil_iff_forall_not_mem.2 fun i hi => ?_, hq⟩
      obtain ⟨hl1, o, ho, _⟩ := mem_ready.1 hi
      have hlt : i < L.length := by have := (Array.getElem?_eq_some_iff.1 ho).1; simpa using this
      have := hall i hlt
      rw [Array.getD_eq_getD_getElem?, Array.getElem?_eq_getElem (by omega)] at this hl1
      simp at this hl1
      rw [this] at hl1; cases hl1
    · have := hall t (by omega)
      rw [Array.getD_eq_getD_getElem?, Array.getElem?_eq_getElem (by omega)] at this hq
      simp at this hq
      rw [this] at hq; cases hq
  | succ fuel ih =>
    intro listed a w hsz hf hcl h
    -- nothing is ready only when all is listed
    have hready : Region.ready .any L.toArray listed = [] → ∀ i, i < L.length → listed.getD i false = true := by
      intro hr i
      induction i using Nat.strongRecOn with
      | _ i ihi =>
        intro hi
        cases hq : listed.getD i false with
        | true => rfl
        | false =>
          have hmem : i ∈ Region.ready .any L.toArray listed := by
            refine mem_ready.2 ⟨?_, L[i], by simp [hi], fun e he hbd => ?_⟩
            · rw [Array.getD_eq_getD_getElem?, Array.getElem?_eq_getElem (by omega)] at hq ⊢
              exact hq
            · have h1 := List.all_eq_true.1 hord i (List.mem_range.2 (by omega))
              rw [List.getElem?_eq_getElem hi] at h1
              have h2 := Array.all_eq_true'.1 h1 e he
              simp only [hbd, Bool.not_true, Bool.false_or, decide_eq_true_eq] at h2
              exact ihi e.on h2 (by omega)
          rw [hr] at hmem
          cases hmem
    refine ⟨fun hr => ?_, fun i hi => ?_⟩
    · rcases h with ⟨_, hq⟩ | ⟨hq, _⟩
      · exact hq
      · have := hready hr t (by omega)
        rw [Array.getD_eq_getD_getElem?, Array.getElem?_eq_getElem (by omega)] at this hq
        simp at this hq
        rw [this] at hq; cases hq
    · have hi0 := hi
      obtain ⟨hl1, o, ho, hdeps⟩ := mem_ready.1 hi
      have hlt : i < L.length := by have := (Array.getElem?_eq_some_iff.1 ho).1; simpa using this
      have hoL : L[i]? = some o := by simpa using ho
      rcases h with ⟨hall, _⟩ | ⟨htf, hmid⟩
      · have := hall i hlt
        rw [Array.getD_eq_getD_getElem?, Array.getElem?_eq_getElem (by omega)] at this hl1
        simp at this hl1
        rw [this] at hl1; cases hl1
      · have hfuel : ((listed.setIfInBounds i true).toList.filter (· == false)).length ≤ fuel := by
          have hi2 : i < listed.size := by omega
          have e1 : (listed.setIfInBounds i true).toList = listed.toList.set i true := by simp
          have hli : listed.toList[i]? = some false := by
            rw [Array.getD_eq_getD_getElem?, Array.getElem?_eq_getElem hi2] at hl1
            simp at hl1
            simp [hi2, hl1]
          rw [e1]
          have key : ∀ (l : List Bool) (i : Nat), l[i]? = some false → ((l.set i true).filter (· == false)).length + 1 = (l.filter (· == false)).length := by
            intro l
            induction l with
            | nil => intro i h; simp at h
            | cons b l ihl =>
              intro i h
              cases i with
              | zero => simp at h; subst h; simp
              | succ i =>
                have := ihl i (by simpa using h)
                rw [List.set_cons_succ]
                cases b <;> simp at this ⊢ <;> omega
          have := key _ _ hli
          omega
        by_cases hit : i = t
        · -- the last one
          subst hit
          have hallT := hmemT listed hcl hi0
          obtain rfl : last = o := by rw [hl] at hoL; injection hoL
          -- the values
          have hvs : ∃ vs : Nat → Value, a = putF vs (L.take i) 0 a0 ∧ ∀ j, j < i → F j (vs j) w := by
            refine ⟨fun j => match (L[j]?).bind (·.dst) with | some d => a.tmps[d]?.getD undef | none => undef, ?_, fun j hj => ?_⟩
            · have hs := putF_size (fun j => match (L[j]?).bind (·.dst) with | some d => a.tmps[d]?.getD undef | none => undef) (L.take i) 0 a0
              have ht : a.tmps = (putF (fun j => match (L[j]?).bind (·.dst) with | some d => a.tmps[d]?.getD undef | none => undef) (L.take i) 0 a0).tmps := by
                apply Array.ext_getElem?
                intro s
                by_cases hmem : s ∈ dstsOf (L.take i)
                · have hmem' := hmem
                  unfold dstsOf at hmem'
                  rw [List.mem_filterMap] at hmem'
                  obtain ⟨o', ho', hd'⟩ := hmem'
                  obtain ⟨j, hj, hj'⟩ := List.mem_iff_getElem.1 ho'
                  have hjL : (L.take i)[j]? = some o' := by rw [List.getElem?_eq_getElem hj, hj']
                  have hji : j < i := by simp at hj; omega
                  have hjL2 : L[j]? = some o' := by rw [List.getElem?_take, if_pos hji] at hjL; exact hjL
                  have hsl : s < a0.tmps.size := by have := List.all_eq_true.1 hlow s hmem; simpa using this
                  rw [putF_at _ s (L.take i) 0 a0 j o' hnod hjL hd' hsl, Nat.zero_add, hjL2]
                  simp only [Option.bind_some, hd']
                  rw [Array.getElem?_eq_getElem (by rw [hmid.size]; exact hsl)]
                  rfl
                · rw [putF_ne _ s _ _ _ hmem]
                  exact hmid.other s hmem
              have hd : a.defers = (putF (fun j => match (L[j]?).bind (·.dst) with | some d => a.tmps[d]?.getD undef | none => undef) (L.take i) 0 a0).defers := hmid.defers.trans hs.2.symm
              exact act_ext ht hd
            · have h1 := hmid.fact j hj (by
                have := hallT j hj
                rw [Array.getD_eq_getD_getElem?, Array.getElem?_eq_getElem (by omega)] at this ⊢
                exact this)
              unfold FactAt at h1
              show F j (match (L[j]?).bind (·.dst) with | some d => a.tmps[d]?.getD undef | none => undef) w
              cases hx : (L[j]?).bind (·.dst) with
              | none => rw [hx] at h1; exact h1
              | some d => rw [hx] at h1; exact h1
          obtain ⟨vs, rfl, hvs⟩ := hvs
          obtain ⟨hw, hop⟩ := hlast vs w hmid.grow hvs
          unfold wpOp
          simp only [ho]
          rw [if_pos hw]
          refine .inl (Oper.wp_mono (fun a' w' hq => ih _ a' w' (by simpa using hsz) hfuel (hcl.set hi0) (.inl ⟨fun k hk => ?_, hq⟩)) hop)
          by_cases hki : i = k
          · subst hki
            rw [Array.getD_eq_getD_getElem?, Array.getElem?_setIfInBounds, if_pos rfl, if_pos (by omega)]; rfl
          · rw [Array.getD_eq_getD_getElem?, Array.getElem?_setIfInBounds, if_neg hki]
            have := hallT k (by omega)
            rw [Array.getD_eq_getD_getElem?, Array.getElem?_eq_getElem (by omega)] at this
            rw [Array.getElem?_eq_getElem (by omega)]
            exact this
        · have hit' : i < t := by omega
          have hstep := hsteps.at i o (by rw [List.getElem?_take, if_pos hit']; exact hoL)
          rw [Nat.zero_add] at hstep
          have hbase : ∀ p ∈ base, a.tmps[p.1]?.getD undef = p.2 := by
            intro p hp
            rw [← hb p hp, hmid.other p.1 (hfree p hp)]
          have hfacts : FactsOf L F o.after a w := by
            intro e he hbd
            have he' : e ∈ o.after := by simpa using he
            have h1 := List.all_eq_true.1 hord i (List.mem_range.2 (by omega))
            rw [hoL] at h1
            have h2 := Array.all_eq_true'.1 h1 e he'
            simp only [hbd, Bool.not_true, Bool.false_or, decide_eq_true_eq] at h2
            exact hmid.fact e.on (by omega) (hdeps e he' hbd)
          have hgo : ∀ v w', R.to w w' → F i v w' → wpAny P .any L.toArray Q fuel (listed.setIfInBounds i true) (a.put o.dst v) w' := by
            intro v w' hg hFv
            refine ih _ _ w' (by simpa using hsz) hfuel (hcl.set hi0) (.inr ⟨?_, ?_⟩)
            · rw [Array.getD_eq_getD_getElem?, Array.getElem?_setIfInBounds, if_neg hit, ← Array.getD_eq_getD_getElem?]
              exact htf
            · have hdmem : ∀ d, o.dst = some d → d ∈ dstsOf (L.take t) := fun d hd => by
                unfold dstsOf
                rw [List.mem_filterMap]
                exact ⟨o, List.mem_iff_getElem?.2 ⟨i, by rw [List.getElem?_take, if_pos hit']; exact hoL⟩, hd⟩
              refine ⟨R.trans hmid.grow hg, (put_size _ _ _).trans hmid.size, (put_defers _ _ _).trans hmid.defers, fun s hs => (put_get_ne v (fun e => hs (hdmem s e))).trans (hmid.other s hs), fun j hj hlj => ?_⟩
              by_cases hji : i = j
              · subst hji
                unfold FactAt
                rw [hoL]
                simp only [Option.bind_some]
                cases hd : o.dst with
                | none =>
                  have h1 := List.all_eq_true.1 hsome o (List.mem_iff_getElem?.2 ⟨i, by rw [List.getElem?_take, if_pos hit']; exact hoL⟩)
                  rw [hd] at h1
                  cases h1
                | some d =>
                  simp only
                  have : (a.put (some d) v).tmps[d]?.getD undef = v := by
                    rw [put_get v (by
                      rw [hmid.size]
                      have := List.all_eq_true.1 hlow d (hdmem d hd)
                      simpa using this)]
                    rfl
                  rw [this]
                  exact hFv
              · rw [Array.getD_eq_getD_getElem?, Array.getElem?_setIfInBounds, if_neg hji, ← Array.getD_eq_getD_getElem?] at hlj
                have h1 := hmid.fact j hj hlj
                unfold FactAt at h1 ⊢
                cases hjb : (L[j]?).bind (·.dst) with
                | none => rw [hjb] at h1; exact hF j _ w w' hg h1
                | some d =>
                  rw [hjb] at h1
                  have hne : o.dst ≠ some d := fun e => by
                    -- two operations with one slot
                    obtain ⟨oj, hoj, hdj⟩ := Option.bind_eq_some_iff.1 hjb
                    have := nodup_slot hnod (i := i) (j := j) (by rw [List.getElem?_take, if_pos hit']; exact hoL) (by rw [List.getElem?_take, if_pos hj]; exact hoj) e hdj
                    exact hji this
                  have : (a.put o.dst v).tmps[d]?.getD undef = a.tmps[d]?.getD undef := by
                    rw [put_get_ne v hne]
                  simp only [this]
                  exact hF j _ w w' hg h1
          unfold wpOp
          simp only [ho]
          rcases hstep a w hmid.grow hbase hfacts with ⟨hw, hop⟩ | ⟨hw, hF0⟩
          · rw [if_pos hw]
            exact .inl (hop _ hgo)
          · rw [if_neg (by rw [hw]; simp)]
            exact hgo undef w (R.refl _) hF0

/-- A region that draws its order, by facts. -/
theorem wp_region_factsR {R : Rel} {id : Nat} {a0 : Act} {w0 : World} (F : Nat → Value → World → Prop) (base : List (Nat × Value)) (t : Nat) {last : Oper} (hm : P.follows .mixedOrders = true)
    (hF : ∀ i v w w', R.to w w' → F i v w → F i v w')
    (hok : factOK L t a0.tmps.size = true) (hl : L[t]? = some last)
    (hb : ∀ p ∈ base, a0.tmps[p.1]?.getD undef = p.2) (hfree : base.all (fun p => !(dstsOf (L.take t)).contains p.1) = true)
    (hsteps : StepsR R P Q L F base w0 0 (L.take t))
    (hlast : ∀ vs w, R.to w0 w → (∀ j, j < t → F j (vs j) w) → Region.wanted last (yielded L.toArray (putF vs (L.take t) 0 a0).tmps) = true ∧ last.wp P (putF vs (L.take t) 0 a0) w (fun a' w' => Q .normal a' w') Q) :
    (Code.region id L.toArray true).wp P Q a0 w0 := by
  refine wp_region_any hm (wpAny_factsR hF hok hl hb (fun p hp => ?_) hsteps hlast _ _ _ _ (by simp) (Nat.le_trans (List.length_filter_le _ _) (by simp)) ⟨by simp, fun j oj _ hl => (by rw [getD_replicate_false] at hl; cases hl)⟩ (.inr ⟨?_, ?_⟩))
  · have := List.all_eq_true.1 hfree p hp
    simpa using this
  · have hlt : t < L.length := (List.getElem?_eq_some_iff.1 hl).1
    rw [Array.getD_eq_getD_getElem?]
    simp [hlt]
  · exact ⟨R.drew _, rfl, rfl, fun _ _ => rfl, fun j _ hlj => (by rw [getD_replicate_false] at hlj; cases hlj)⟩
/-- The steps, each with its own fact. -/
def StepLR (R : Rel) (P : Program) (Q : Exit → Act → World → Prop) (L : List Oper) (l : List (Value → World → Prop)) (base : List (Nat × Value)) (w0 : World) (f : Value → World → Prop) (o : Oper) : Prop :=
  ∀ a w, R.to w0 w → (∀ p ∈ base, a.tmps[p.1]?.getD undef = p.2) → FactsOf L (factsL l) o.after a w →
    (Region.wanted o (yielded L.toArray a.tmps) = true ∧ ∀ K : Act → World → Prop, (∀ v w', R.to w w' → f v w' → K (a.put o.dst v) w') → o.wp P a w K Q) ∨ (Region.wanted o (yielded L.toArray a.tmps) = false ∧ f undef w)
def StepsLR (R : Rel) (P : Program) (Q : Exit → Act → World → Prop) (L : List Oper) (l : List (Value → World → Prop)) (base : List (Nat × Value)) (w0 : World) : List (Value → World → Prop) → List Oper → Prop
  | [], [] => True
  | f :: fs, o :: os => StepLR R P Q L l base w0 f o ∧ StepsLR R P Q L l base w0 fs os
  | _, _ => False
theorem StepsLR.steps {R : Rel} {l : List (Value → World → Prop)} {base : List (Nat × Value)} {w0 : World} : ∀ {fs : List (Value → World → Prop)} {os : List Oper} {k : Nat}, (∀ j, fs[j]? = l[k + j]?) → StepsLR R P Q L l base w0 fs os → StepsR R P Q L (factsL l) base w0 k os
  | [], [], _, _, _ => trivial
  | [], _ :: _, _, _, h => h.elim
  | _ :: _, [], _, _, h => h.elim
  | f :: fs, o :: os, k, hk, h => by
    refine ⟨fun a w hg hb hf => ?_, StepsLR.steps (k := k + 1) (fun j => by have := hk (j + 1); rw [List.getElem?_cons_succ] at this; rw [this]; congr 1; omega) h.2⟩
    have h0 := hk 0
    simp at h0
    rcases h.1 a w hg hb hf with ⟨h1, h2⟩ | ⟨h1, h2⟩
    · refine .inl ⟨h1, fun K hK => h2 K fun v w' hg hfv => hK v w' hg ?_⟩
      unfold factsL
      rw [← h0]
      exact hfv
    · refine .inr ⟨h1, ?_⟩
      unfold factsL
      rw [← h0]
      exact h2
theorem wp_region_listR (R : Rel) {id : Nat} {a0 : Act} {w0 : World} (l : List (Value → World → Prop)) (base : List (Nat × Value)) (t : Nat) {last : Oper} (hm : P.follows .mixedOrders = true)
    (hF : AllStayR R l) (hlen : l.length = t)
    (hok : factOK L t a0.tmps.size = true) (hl : L[t]? = some last)
    (hb : ∀ p ∈ base, a0.tmps[p.1]?.getD undef = p.2) (hfree : base.all (fun p => !(dstsOf (L.take t)).contains p.1) = true)
    (hsteps : StepsLR R P Q L l base w0 l (L.take t))
    (hlast : ∀ vs w, R.to w0 w → FactsL vs w 0 l → Region.wanted last (yielded L.toArray (putF vs (L.take t) 0 a0).tmps) = true ∧ last.wp P (putF vs (L.take t) 0 a0) w (fun a' w' => Q .normal a' w') Q) :
    (Code.region id L.toArray true).wp P Q a0 w0 :=
  wp_region_factsR (factsL l) base t hm (factsL_monoR hF) hok hl hb hfree (StepsLR.steps (fun j => by rw [Nat.zero_add]) hsteps) fun vs w hg h => hlast vs w hg (FactsL.of fun j f hj => by
    have hjt : j < t := by rw [← hlen]; exact (List.getElem?_eq_some_iff.1 hj).1
    have := h j hjt
    unfold factsL at this
    rw [hj] at this
    rwa [Nat.zero_add])
end
end Go.Proofs.YtofpcdjoljjnoaaGreatDoor

namespace Go.Proofs.YtofpcdjoljjnoaaGreatDoor
open Go.RowKit Go.Maps

section
variable {P : Program} {w : World}
end

section
variable {B n6 : Nat} {X : List Value} {w w' : World}
end

end Go.Proofs.YtofpcdjoljjnoaaGreatDoor
