/-
  LAYER 17: the laws: what is asked of a tape.
-/
import Derived.Test.YtofpcdjoljjnoaaGreatDoorTapRLiveM
import Derived.Test.YtofpcdjoljjnoaaGreatDoorTapZ21
import Derived.Test.YtofpcdjoljjnoaaGreatDoorTapZ18
import Derived.Test.YtofpcdjoljjnoaaGreatDoorTapZ20
namespace Go.Proofs.YtofpcdjoljjnoaaGreatDoor
open Go.RowKit

theorem NdsRaw.grow2 {W W' : World} {A : Option Addr} {L : List Nd} (h : NdsRaw W A L) (hg : Grow W W') : NdsRaw W' A L := fun i x hx => by
  obtain ⟨b, off, vn, vd, h1, h2, h3⟩ := h i x hx
  have hb := World.block_lt_of_cell? W _ (h2 0 _ rfl)
  exact ⟨b, off, vn, vd, h1, fun j v hv => (hg.cell (p := ⟨b, off + i * 6 + j, none⟩) hb).trans (h2 j v hv), h3.grow hg⟩
/-- A row of bools, nothing said of one that is empty. -/
def RowB (W : World) (p : Option Addr) (n : Nat) (F : List Bool) : Prop := 0 < n → ∃ g, p = some ⟨g, 0, none⟩ ∧ BlkOf W g (bools F) 4
theorem RowB.grow {W W' : World} {p : Option Addr} {n : Nat} {F : List Bool} (h : RowB W p n F) (hg : Grow W W') : RowB W' p n F := fun hn => by
  obtain ⟨g, e, hb⟩ := h hn
  exact ⟨g, e, hb.below hg hb.lt⟩
def LiveB (n : Nat) (F : List Bool) (W : World) (e : Ending) (W' : World) : Prop := ∃ p, e = .returned (.slice p n n) ∧ RowB W' p n F ∧ Grow W W'
theorem liveB_of {t : Tp} {w w' : World} {e : Ending} (h : LivePost t w e w') : LiveB (if validB t = true then t.nodes.length else 0) (liveUp t.nodes t.out t.nodes.length) w e w' := by
  rcases h with ⟨hv, g, n, rfl, hn, _, hb, hg⟩ | ⟨hv, rfl, hg⟩
  · rw [if_pos hv, ← hn]
    exact ⟨_, rfl, fun _ => ⟨g, rfl, by rw [hn]; exact hb⟩, hg⟩
  · rw [if_neg (by rw [hv]; decide)]
    exact ⟨none, rfl, fun h => absurd h (by omega), hg⟩
def AskRel (n : Nat) (p q : Option Addr) (F : List Bool) (z : Nat) (cs ds : Array Value) (w : World) (i : Value) (wr : World) : Prop :=
  ∃ k : Nat, k ≤ n ∧ i = .int .i64 (k : Int) ∧ RowB wr p n F ∧ RowB wr q n F ∧ BlkOf wr z cs 25 ∧ BlkOf wr (z + 1) ds 25 ∧ Grow w wr

set_option maxRecDepth 100000 in
set_option maxHeartbeats 64000000 in
theorem tasks_any {pars out : Int} {A B : Option Addr} {ca cb : Nat} {L : List Nd} {T : List (List UInt8 × Int)} {pars' out' : Int} {A' B' : Option Addr} {ca' cb' : Nat} {L' : List Nd} {T' : List (List UInt8 × Int)} {w : World}
    (hp : I64 pars) (ho : I64 out) (hl : L.length ≤ 9223372036854775807) (ht : T.length ≤ 9223372036854775807) (hL : NdsRaw w A L) (hTT : TlsAt w B T) (hs : ∀ t ∈ T, t.1.length ≤ 9223372036854775807)
    (hp' : I64 pars') (ho' : I64 out') (hl' : L'.length ≤ 9223372036854775807) (ht' : T'.length ≤ 9223372036854775807) (hL' : NdsRaw w A' L') (hTT' : TlsAt w B' T') (hs' : ∀ t ∈ T', t.1.length ≤ 9223372036854775807) (hT : Tab w) :
    Calls Tryz.prog 3 #[.agg #[.int .i64 pars, .int .i64 out, .slice A L.length ca, .slice B T.length cb], .agg #[.int .i64 pars', .int .i64 out', .slice A' L'.length ca', .slice B' T'.length cb']] w (Just (.bool true) w) := by
  obtain ⟨z, hz⟩ : ∃ z, z = w.heap.size := ⟨_, rfl⟩
  obtain ⟨wb, hwb⟩ : ∃ wb, wb = (w.alloc (.cells #[.int .i64 pars, .int .i64 out, .slice A L.length ca, .slice B T.length cb] 25)).alloc (.cells #[.int .i64 pars', .int .i64 out', .slice A' L'.length ca', .slice B' T'.length cb'] 25) := ⟨_, rfl⟩
  have hg1 : Grow w wb := by rw [hwb]; exact Grow.trans (Grow.alloc _ _) (Grow.alloc _ _)
  have b0 : BlkOf wb z #[.int .i64 pars, .int .i64 out, .slice A L.length ca, .slice B T.length cb] 25 := by rw [hwb, hz]; exact (BlkOf.new w _ _).alloc _
  have b1 : BlkOf wb (z + 1) #[.int .i64 pars', .int .i64 out', .slice A' L'.length ca', .slice B' T'.length cb'] 25 := by rw [hwb, hz]; exact BlkOf.news (by rw [World.size_alloc]) _ _
  have HSM := Lib.hid (fun W (hW : Grow w W) => small17_any (pars := pars) (out := out) (ca := ca) (cb := cb) (NdsRaw.grow2 hL hW) (hTT.grow hW) hl ht hs)
  have HSM' := Lib.hid (fun W (hW : Grow w W) => small17_any (pars := pars') (out := out') (ca := ca') (cb := cb') (NdsRaw.grow2 hL' hW) (hTT'.grow hW) hl' ht' hs')
  have HH := Lib.hid (fun W (hW : Grow w W) => head_any W (hT.grow hW))
  have HL := Lib.hid hL
  have HTT := Lib.hid hTT
  have HL' := Lib.hid hL'
  have HTT' := Lib.hid hTT'
  have HT := Lib.hid hT
  have HIO := Lib.hid (And.intro hp ho)
  have HIO' := Lib.hid (And.intro hp' ho')
  have HB := Lib.hid b0
  have HB' := Lib.hid b1
  have HG1 := Lib.hid hg1
  have HZ := Lib.hid hz
  have HWB := Lib.hid hwb
  clear hp ho hL hTT hs hp' ho' hL' hTT' hs' hT hg1 hz hwb
  have c0 := b0.at 0 rfl
  have c1 := b0.at 1 rfl
  have c2 := b0.at 2 rfl
  have c3 := b0.at 3 rfl
  have e0 := b1.at 0 rfl
  have e1 := b1.at 1 rfl
  have e2 := b1.at 2 rfl
  have e3 := b1.at 3 rfl
  clear b0 b1
  go_enter Tryz.func3, Tryz.ntmps3
  rw [HWB.out, HZ.out] at c0 c1 c2 c3 e0 e1 e2 e3
  go_wp2_with (first | (go_at_call 5; rw [← HWB.out]; refine (HSM.out _ HG1.out).mono ?_) | fail)
  rintro e w2 (⟨rfl, h200, h50, hK, hg2⟩ | ⟨rfl, hg2⟩)
  case inr =>
    have HG2 := Lib.hid (Grow.trans HG1.out hg2)
    clear hg2 c0 c1 c2 c3 e0 e1 e2 e3
    go_wp2_with (first | (go_at_call 6; refine (HH.out _ HG2.out).mono ?_) | fail)
    rintro e w9 ⟨rfl, hg9⟩
    have HG9 := Lib.hid (Grow.trans HG2.out hg9)
    clear hg9
    go_wp2_with fail
    go_ret
    exact ⟨rfl, HG9.out⟩
  have HG2 := Lib.hid (Grow.trans HG1.out hg2)
  have HB2 := Lib.hid (HB.out.below hg2 HB.out.lt)
  have HC2 := Lib.hid (HB'.out.below hg2 HB'.out.lt)
  have HKT := Lib.hid (And.intro h200 (And.intro h50 hK))
  clear hg2 h50 hK c0 c1 c2 c3 e0 e1 e2 e3
  rw [HZ.out] at HB2 HC2
  have c0 := HB2.out.at 0 rfl
  have c1 := HB2.out.at 1 rfl
  have c2 := HB2.out.at 2 rfl
  have c3 := HB2.out.at 3 rfl
  have e0 := HC2.out.at 0 rfl
  have e1 := HC2.out.at 1 rfl
  have e2 := HC2.out.at 2 rfl
  have e3 := HC2.out.at 3 rfl
  go_wp2_with (first | (go_at_call 5; refine (HSM'.out _ HG2.out).mono ?_) | fail)
  rintro e w3 (⟨rfl, h200', h50', hK', hg3⟩ | ⟨rfl, hg3⟩)
  case inr =>
    have HG3 := Lib.hid (Grow.trans HG2.out hg3)
    clear hg3 c0 c1 c2 c3 e0 e1 e2 e3
    go_wp2_with (first | (go_at_call 6; refine (HH.out _ HG3.out).mono ?_) | fail)
    rintro e w9 ⟨rfl, hg9⟩
    have HG9 := Lib.hid (Grow.trans HG3.out hg9)
    clear hg9
    go_wp2_with fail
    go_ret
    exact ⟨rfl, HG9.out⟩
  have HG3 := Lib.hid (Grow.trans HG2.out hg3)
  have HB3 := Lib.hid (HB2.out.below hg3 HB2.out.lt)
  have HC3 := Lib.hid (HC2.out.below hg3 HC2.out.lt)
  have htp : TpAt 3 w ⟨pars, out, L, T⟩ (.slice A L.length ca) (.slice B T.length cb) := ⟨HIO.out.1, HIO.out.2, by show L.length ≤ _; have := HKT.out.1; omega, by show T.length ≤ _; have := HKT.out.2.1; omega, _, _, _, _, rfl, rfl, HL.out.at HKT.out.2.2, HTT.out⟩
  have htp' : TpAt 3 w ⟨pars', out', L', T'⟩ (.slice A' L'.length ca') (.slice B' T'.length cb') := ⟨HIO'.out.1, HIO'.out.2, by show L'.length ≤ _; omega, by show T'.length ≤ _; omega, _, _, _, _, rfl, rfl, HL'.out.at hK', HTT'.out⟩
  clear hg3 h50' hK' c0 c1 c2 c3 e0 e1 e2 e3 HB2 HC2 HB HB' HSM HSM' HWB
  have hchk := fun W (hW : Grow w W) => check_any (htp.grow hW) (by decide) (HT.out.grow hW)
  have hrchk := fun W (hW : Grow w W) => rcheck_any (htp.grow hW)
  have hsame := fun W (hW : Grow w W) => tsame_any (htp.grow hW) (htp'.grow hW) (by decide)
  have hrsame := fun W (hW : Grow w W) => rsame_any (htp.grow hW) (htp'.grow hW)
  have hlive := fun W (hW : Grow w W) => (live_any (htp.grow hW) (by decide) (HT.out.grow hW)).mono (fun e W' => liveB_of)
  have hrlive := fun W (hW : Grow w W) => (rlive_any (htp.grow hW)).mono (fun e W' => liveB_of)
  unfold tpV at hchk hrchk hsame hrsame hlive hrlive
  dsimp only at hchk hrchk hsame hrsame hlive hrlive
  obtain ⟨F, hF⟩ : ∃ F, F = liveUp L out L.length := ⟨_, rfl⟩
  have hFl : F.length = L.length := by rw [hF, liveUp_length]
  obtain ⟨n, hn⟩ : ∃ n, n = (if validB ⟨pars, out, L, T⟩ = true then L.length else 0) := ⟨_, rfl⟩
  have hnF : n ≤ F.length := by rw [hn, hFl]; split <;> omega
  obtain ⟨R, hR⟩ : ∃ R : Int, R = (if validB ⟨pars, out, L, T⟩ = true then 0 else 170) := ⟨_, rfl⟩
  obtain ⟨S, hS⟩ : ∃ S, S = sameTp ⟨pars, out, L, T⟩ ⟨pars', out', L', T'⟩ := ⟨_, rfl⟩
  rw [← hF, ← hn] at hlive hrlive
  rw [← hR] at hchk hrchk
  rw [← hS] at hsame hrsame
  have HNF := Lib.hid hnF
  obtain ⟨N, hN⟩ : ∃ N, N = L.length := ⟨_, rfl⟩
  obtain ⟨M, hM⟩ : ∃ M, M = T.length := ⟨_, rfl⟩
  obtain ⟨N', hN'⟩ : ∃ N', N' = L'.length := ⟨_, rfl⟩
  obtain ⟨M', hM'⟩ : ∃ M', M' = T'.length := ⟨_, rfl⟩
  have hnN : (n : Int) ≤ 9223372036854775807 := by have := HKT.out.1; omega
  rw [← hN, ← hM] at hchk hrchk hsame hrsame hlive hrlive HB3 ⊢
  rw [← hN', ← hM'] at hsame hrsame HC3 ⊢
  have HCHK := Lib.hid hchk
  have HRCHK := Lib.hid hrchk
  have HSAME := Lib.hid hsame
  have HRSAME := Lib.hid hrsame
  have HLIVE := Lib.hid hlive
  have HRLIVE := Lib.hid hrlive
  clear hchk hrchk hsame hrsame hlive hrlive htp htp' hF hFl hn hnF hR hS hN hM hN' hM' h200 h200' hl ht hl' ht'
  have c0 := HB3.out.at 0 rfl
  have c1 := HB3.out.at 1 rfl
  have c2 := HB3.out.at 2 rfl
  have c3 := HB3.out.at 3 rfl
  have e0 := HC3.out.at 0 rfl
  have e1 := HC3.out.at 1 rfl
  have e2 := HC3.out.at 2 rfl
  have e3 := HC3.out.at 3 rfl
  go_wp2_with fail
  
  have KC : Hid (∀ W, Grow w3 W → W.cell? ⟨w.heap.size, 0, none⟩ = some (.int .i64 pars) ∧ W.cell? ⟨w.heap.size, 1, none⟩ = some (.int .i64 out) ∧ W.cell? ⟨w.heap.size, 2, none⟩ = some (.slice A N ca) ∧ W.cell? ⟨w.heap.size, 3, none⟩ = some (.slice B M cb)) := Lib.hid fun W hW => by
    have q := HB3.out.below hW HB3.out.lt
    exact ⟨q.at 0 rfl, q.at 1 rfl, q.at 2 rfl, q.at 3 rfl⟩
  clear c0 c1 c2 c3 e0 e1 e2 e3
  refine wp_region_listG [fun v _ => v = .agg #[.int .i64 pars, .int .i64 out, .slice A N ca, .slice B M cb], fun v W => ∃ p, v = .slice p n n ∧ RowB W p n F, fun v _ => v = .agg #[.int .i64 pars, .int .i64 out, .slice A N ca, .slice B M cb], fun v W => ∃ p, v = .slice p n n ∧ RowB W p n F, fun v W => ∃ p, v = .slice p n n ∧ RowB W p n F]
    [(2, .pointer (some ⟨w.heap.size, 0, none⟩))] 5 (by kernel_rfl) ⟨stays_pure _, fun v w w' hr h => h.imp fun p h => ⟨h.1, h.2.grow hr⟩, stays_pure _, fun v w w' hr h => h.imp fun p h => ⟨h.1, h.2.grow hr⟩, fun v w w' hr h => h.imp fun p h => ⟨h.1, h.2.grow hr⟩, trivial⟩ rfl (by kernel_rfl) rfl ?base (by kernel_rfl) ⟨?_, ?_, ?_, ?_, ?_, trivial⟩ ?last
  case base => simp
  case last =>
    intro vs W hW hv
    simp only [FactsL, Nat.zero_add, Nat.reduceAdd] at hv
    have v3 := hv.2.2.2.1
    have v4 := hv.2.2.2.2.1
    clear hv
    refine ⟨rfl, ?_⟩
    simp only [List.take_succ_cons, List.take_zero, putF, Act.put, List.setIfInBounds_toArray, List.set_cons_zero, List.set_cons_succ, Nat.reduceAdd]
    obtain ⟨q, eq, hq⟩ := v3
    obtain ⟨p, ep, hp⟩ := v4
    simp only [eq, ep]
    unfold Oper.wp
    simp [execOp, go_sem]
    have HGW := Lib.hid (Grow.trans HG3.out hW)
    have HBW := Lib.hid (HB3.out.below hW HB3.out.lt)
    have HCW := Lib.hid (HC3.out.below hW HC3.out.lt)
    have HP := Lib.hid hp
    have HQ := Lib.hid hq
    clear hp hq hW
    go_wp2_with fail
    go_loopw [7] (fun i wr => AskRel n p q F w.heap.size #[.int .i64 pars, .int .i64 out, .slice A N ca, .slice B M cb] #[.int .i64 pars', .int .i64 out', .slice A' N' ca', .slice B' M' cb'] w i wr) (fun i _ => n - (intOf i).toNat)
    case atStart => exact ⟨0, by omega, rfl, HP.out, HQ.out, HBW.out, HCW.out, HGW.out⟩
    case round =>
      obtain ⟨k, hk, rfl, hp, hq, hb, hc, hgr⟩ := hrel
      have HP := Lib.hid hp
      have HQ := Lib.hid hq
      have HB4 := Lib.hid hb
      have HC4 := Lib.hid hc
      have HG4 := Lib.hid hgr
      by_cases hlt : k < n
      · have hltI : (k : Int) < (n : Int) := by omega
        obtain ⟨g, rfl, hbk⟩ := hp (by omega)
        obtain ⟨g', rfl, hbk'⟩ := hq (by omega)
        have f0 := hbk.at k (bools_get F (by have := HNF.out; omega))
        have f1 := hbk'.at k (bools_get F (by have := HNF.out; omega))
        obtain ⟨fk, hfk⟩ : ∃ fk, fk = F.getD k false := ⟨_, rfl⟩
        rw [← hfk] at f0 f1
        clear hp hq hb hc hgr hbk hbk' hfk hk
        cases fk
        all_goals
          go_wp2_with fail
          go_quiet (fail)
          go_wp2_with fail
          go_roundw
          case rel => exact ⟨k + 1, by omega, by go_num, HP.out.grow (Grow.drewN wr nq), HQ.out.grow (Grow.drewN wr nq), HB4.out, HC4.out, Grow.trans HG4.out (Grow.drewN wr nq)⟩
          case measure => simp [intOf]; omega
      · obtain rfl : k = n := by omega
        clear hp hq hb hc hgr hk
        go_wp2_with fail
        obtain ⟨wq, hwq⟩ : ∃ wq, wq = wr := ⟨_, rfl⟩
        rw [← hwq] at HB4 HC4 HG4 ⊢
        clear hwq
        have KC : Hid (∀ W, Grow wq W → (W.cell? ⟨w.heap.size, 0, none⟩ = some (.int .i64 pars) ∧ W.cell? ⟨w.heap.size, 1, none⟩ = some (.int .i64 out) ∧ W.cell? ⟨w.heap.size, 2, none⟩ = some (.slice A N ca) ∧ W.cell? ⟨w.heap.size, 3, none⟩ = some (.slice B M cb)) ∧ W.cell? ⟨w.heap.size + 1, 0, none⟩ = some (.int .i64 pars') ∧ W.cell? ⟨w.heap.size + 1, 1, none⟩ = some (.int .i64 out') ∧ W.cell? ⟨w.heap.size + 1, 2, none⟩ = some (.slice A' N' ca') ∧ W.cell? ⟨w.heap.size + 1, 3, none⟩ = some (.slice B' M' cb')) := Lib.hid fun W hW => by
          have q := HB4.out.below hW HB4.out.lt
          have q' := HC4.out.below hW HC4.out.lt
          exact ⟨⟨q.at 0 rfl, q.at 1 rfl, q.at 2 rfl, q.at 3 rfl⟩, q'.at 0 rfl, q'.at 1 rfl, q'.at 2 rfl, q'.at 3 rfl⟩
        refine wp_region_listG [fun v _ => v = .agg #[.int .i64 pars, .int .i64 out, .slice A N ca, .slice B M cb], fun v _ => v = .int .i64 R, fun v _ => v = .agg #[.int .i64 pars, .int .i64 out, .slice A N ca, .slice B M cb], fun v _ => v = .int .i64 R, fun v _ => v = .bool true, fun v _ => v = .bool true, fun v _ => v = .agg #[.int .i64 pars, .int .i64 out, .slice A N ca, .slice B M cb], fun v _ => v = .agg #[.int .i64 pars', .int .i64 out', .slice A' N' ca', .slice B' M' cb'], fun v _ => v = .bool S, fun v _ => v = .agg #[.int .i64 pars, .int .i64 out, .slice A N ca, .slice B M cb], fun v _ => v = .agg #[.int .i64 pars', .int .i64 out', .slice A' N' ca', .slice B' M' cb'], fun v _ => v = .bool S, fun v _ => v = .bool true, fun v _ => v = .bool true, fun v _ => v = .bool true, fun v _ => v = .bool true, fun v _ => v = .bool true]
          [(2, .pointer (some ⟨w.heap.size, 0, none⟩)), (3, .pointer (some ⟨w.heap.size + 1, 0, none⟩))] 17 (by kernel_rfl) ⟨stays_pure _, stays_pure _, stays_pure _, stays_pure _, stays_pure _, stays_pure _, stays_pure _, stays_pure _, stays_pure _, stays_pure _, stays_pure _, stays_pure _, stays_pure _, stays_pure _, stays_pure _, stays_pure _, stays_pure _, trivial⟩ rfl (by kernel_rfl) rfl ?base (by kernel_rfl) ⟨?_, ?_, ?_, ?_, ?_, ?_, ?_, ?_, ?_, ?_, ?_, ?_, ?_, ?_, ?_, ?_, ?_, trivial⟩ ?last
        case base => simp
        case last =>
          intro vs W hW hv
          simp only [FactsL, Nat.zero_add, Nat.reduceAdd] at hv
          have v16 := hv.2.2.2.2.2.2.2.2.2.2.2.2.2.2.2.2.1
          clear hv
          refine ⟨rfl, ?_⟩
          simp only [List.take_succ_cons, List.take_zero, putF, Act.put, List.setIfInBounds_toArray, List.set_cons_zero, List.set_cons_succ, Nat.reduceAdd, v16]
          unfold Oper.wp
          simp [execOp, go_sem]
          have HGE := Lib.hid (Grow.trans HG4.out hW)
          clear hW
          go_wp2_with fail
          go_ret
          exact ⟨rfl, HGE.out⟩
        all_goals
          intro a' W hW hb hf
          obtain ⟨⟨c0, c1, c2, c3⟩, e0, e1, e2, e3⟩ := KC.out W hW
          simp only [List.forall_mem_cons, List.not_mem_nil, false_imp_iff, implies_true, and_true] at hb
          obtain ⟨m2, m3⟩ := hb
          simp [FactsOf, FactAt, Region.binds, factsL] at hf
        · refine .inl ⟨rfl, fun K hK => ?_⟩
          unfold Oper.wp
          simp [execOp, go_sem, *]
          exact hK _ _ (Grow.refl _) rfl
        · refine .inl ⟨rfl, fun K hK => ?_⟩
          unfold Oper.wp
          simp [go_sem, *]
          refine (HCHK.out _ (Grow.trans HG4.out hW)).mono ?_
          rintro e W' ⟨rfl, hg⟩
          exact hK _ _ hg rfl
        · refine .inl ⟨rfl, fun K hK => ?_⟩
          unfold Oper.wp
          simp [execOp, go_sem, *]
          exact hK _ _ (Grow.refl _) rfl
        · refine .inl ⟨rfl, fun K hK => ?_⟩
          unfold Oper.wp
          simp [go_sem, *]
          refine (HRCHK.out _ (Grow.trans HG4.out hW)).mono ?_
          rintro e W' ⟨rfl, hg⟩
          exact hK _ _ hg rfl
        · refine .inl ⟨rfl, fun K hK => ?_⟩
          unfold Oper.wp
          simp [execOp, go_sem, *]
          exact hK _ _ (Grow.refl _) rfl
        · refine .inl ⟨rfl, fun K hK => ?_⟩
          unfold Oper.wp
          simp [execOp, go_sem, *]
          exact hK _ _ (Grow.refl _) rfl
        · refine .inl ⟨wanted_yes (j := 5) (b := true) rfl (yielded_of (d := 46) rfl (by simp [hf])), fun K hK => ?_⟩
          unfold Oper.wp
          simp [execOp, go_sem, *]
          exact hK _ _ (Grow.refl _) rfl
        · refine .inl ⟨wanted_yes (j := 5) (b := true) rfl (yielded_of (d := 46) rfl (by simp [hf])), fun K hK => ?_⟩
          unfold Oper.wp
          simp [execOp, go_sem, *]
          exact hK _ _ (Grow.refl _) rfl
        · refine .inl ⟨wanted_yes (j := 5) (b := true) rfl (yielded_of (d := 46) rfl (by simp [hf])), fun K hK => ?_⟩
          unfold Oper.wp
          simp [go_sem, *]
          refine (HSAME.out _ (Grow.trans HG4.out hW)).mono ?_
          rintro e W' ⟨rfl, hg⟩
          exact hK _ _ hg rfl
        · refine .inl ⟨wanted_yes (j := 5) (b := true) rfl (yielded_of (d := 46) rfl (by simp [hf])), fun K hK => ?_⟩
          unfold Oper.wp
          simp [execOp, go_sem, *]
          exact hK _ _ (Grow.refl _) rfl
        · refine .inl ⟨wanted_yes (j := 5) (b := true) rfl (yielded_of (d := 46) rfl (by simp [hf])), fun K hK => ?_⟩
          unfold Oper.wp
          simp [execOp, go_sem, *]
          exact hK _ _ (Grow.refl _) rfl
        · refine .inl ⟨wanted_yes (j := 5) (b := true) rfl (yielded_of (d := 46) rfl (by simp [hf])), fun K hK => ?_⟩
          unfold Oper.wp
          simp [go_sem, *]
          refine (HRSAME.out _ (Grow.trans HG4.out hW)).mono ?_
          rintro e W' ⟨rfl, hg⟩
          exact hK _ _ hg rfl
        · refine .inl ⟨wanted_yes (j := 5) (b := true) rfl (yielded_of (d := 46) rfl (by simp [hf])), fun K hK => ?_⟩
          unfold Oper.wp
          simp [execOp, go_sem, *]
          exact hK _ _ (Grow.refl _) rfl
        · refine .inl ⟨rfl, fun K hK => ?_⟩
          unfold Oper.wp
          simp [execOp, go_sem, *]
          exact hK _ _ (Grow.refl _) rfl
        · refine .inl ⟨rfl, fun K hK => ?_⟩
          unfold Oper.wp
          simp [execOp, go_sem, *]
          exact hK _ _ (Grow.refl _) rfl
        · refine .inl ⟨wanted_yes (j := 14) (b := true) rfl (yielded_of (d := 55) rfl (by simp [hf])), fun K hK => ?_⟩
          unfold Oper.wp
          simp [go_sem, *]
          refine (HH.out _ (Grow.trans HG4.out hW)).mono ?_
          rintro e W' ⟨rfl, hg⟩
          exact hK _ _ hg rfl
        · refine .inl ⟨rfl, fun K hK => ?_⟩
          unfold Oper.wp
          simp [execOp, go_sem, *]
          exact hK _ _ (Grow.refl _) rfl
  all_goals
    intro a' W hW hb hf
    obtain ⟨c0, c1, c2, c3⟩ := KC.out W hW
    simp only [List.forall_mem_cons, List.not_mem_nil, false_imp_iff, implies_true, and_true] at hb
    have m2 := hb
    simp [FactsOf, FactAt, Region.binds, factsL] at hf
  · refine .inl ⟨rfl, fun K hK => ?_⟩
    unfold Oper.wp
    simp [execOp, go_sem, *]
    exact hK _ _ (Grow.refl _) rfl
  · refine .inl ⟨rfl, fun K hK => ?_⟩
    unfold Oper.wp
    simp [go_sem, *]
    refine (HLIVE.out _ (Grow.trans HG3.out hW)).mono ?_
    rintro e W' ⟨p, rfl, hr, hg⟩
    exact hK _ _ hg ⟨p, rfl, hr⟩
  · refine .inl ⟨rfl, fun K hK => ?_⟩
    unfold Oper.wp
    simp [execOp, go_sem, *]
    exact hK _ _ (Grow.refl _) rfl
  · refine .inl ⟨rfl, fun K hK => ?_⟩
    unfold Oper.wp
    simp [go_sem, *]
    refine (HRLIVE.out _ (Grow.trans HG3.out hW)).mono ?_
    rintro e W' ⟨p, rfl, hr, hg⟩
    exact hK _ _ hg ⟨p, rfl, hr⟩
  · refine .inl ⟨rfl, fun K hK => ?_⟩
    obtain ⟨⟨p, ep, hr⟩, _⟩ := hf
    unfold Oper.wp
    simp [execOp, go_sem, ep]
    exact hK _ _ (Grow.refl _) ⟨p, rfl, hr⟩
end Go.Proofs.YtofpcdjoljjnoaaGreatDoor
