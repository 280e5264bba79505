/-
  LAYER 17: the laws: a tape that is told is the caller's own.
-/
import Derived.Test.YtofpcdjoljjnoaaDoorTapSpoilM
import Derived.Test.YtofpcdjoljjnoaaDoorTapZ22
namespace Go.Proofs.YtofpcdjoljjnoaaDoor
open Go.RowKit Go.Maps

theorem numS_len (S : MkS) (x : Fr) : S.l.length ≤ (numS S x).2.2.l.length := by
  unfold numS
  split
  · exact (putS_len _ _).1
  · exact Nat.le_refl _
theorem ofS_len (S : MkS) (f0 f1 f2 : Nat) (x : Nd) : S.l.length ≤ (ofS S f0 f1 f2 x).2.2.l.length := by
  unfold ofS
  split
  · exact (putS_len _ _).1
  · exact Nat.le_refl _
theorem twoS_len (S : MkS) (op : Nat) (a b : Int) : S.l.length ≤ (twoS S op a b).2.2.l.length := ofS_len _ _ _ _ _
def OwnRel (l : List Cl) (m : Value) (w0 : World) (i : Value) (wr : World) : Prop :=
  ∃ k : Nat, k ≤ l.length ∧ k ≤ 40 ∧ i = .int .i64 (k : Int) ∧ ∃ P S, Mine w0 wr P m S ∧ 1 ≤ S.l.length

theorem ne_nil_of {α : Type} {l : List α} (h : 1 ≤ l.length) : l ≠ [] := by
  rintro rfl
  exact absurd h (by simp)
theorem NdsAt.take {K : Nat} {w : World} {A : Option Addr} {L : List Nd} (h : NdsAt K w A L) (n : Nat) : NdsAt K w A (L.take n) := fun i x hx => by
  rw [List.getElem?_take] at hx
  split at hx
  · exact h i x hx
  · cases hx
theorem oneS_pre (S : MkS) (op : Nat) (a : Int) : (oneS S op a).2.2.pars = S.pars ∧ (oneS S op a).2.2.l.take S.l.length = S.l ∧ S.l.length ≤ (oneS S op a).2.2.l.length := by
  unfold oneS ofS
  split
  · unfold putS
    split
    · exact ⟨rfl, List.take_length, Nat.le_refl _⟩
    · split
      · exact ⟨rfl, List.take_length, Nat.le_refl _⟩
      · exact ⟨rfl, List.take_left, by simp⟩
  · exact ⟨rfl, List.take_length, Nat.le_refl _⟩
def SpoilRel (n : Nat) (w0 : World) (lo hi ga : Nat) (cur : Array Value) (i : Value) (wr : World) : Prop := ∃ k : Nat, k ≤ n ∧ i = .int .i64 (k : Int) ∧ Spoilt w0 wr lo hi ga cur
theorem TlsIn.form2 {Q : Nat → Prop} {w : World} {v : Value} {T : List (List UInt8 × Int)} (h : TlsIn Q w v T) (hl : T ≠ []) : ∃ g cap, v = .slice (some ⟨g, 0, none⟩) T.length cap ∧ Q g ∧ TlsAt w (some ⟨g, 0, none⟩) T := by
  obtain ⟨A, ca, e0, hat⟩ := h.form
  obtain ⟨h2, h3, _⟩ := h
  rcases h2.2 with ⟨e, he⟩ | ⟨g, cap, cur, e, _⟩
  · exact absurd (List.eq_nil_of_length_eq_zero he) hl
  · rw [e0] at e
    injection e with e1 e2 e3
    subst e1 e3
    exact ⟨g, ca, e0, h3 g (by rw [e0]; rfl), hat⟩
/-- One tell, of step 0. -/
theorem tape_x {P : Nat → Prop} {w : World} {m : Value} {S : MkS} {b : Nat} (h : MkAt P w m S) (hb : BlkOf w b #[.string ⟨#[120]⟩, .int .i64 0] 63) :
    Calls Tryd.prog 15 #[m, .int .i64 0, .slice (some ⟨b, 0, none⟩) 1 1] w (TapePost S 0 [([120], 0)] w) := by
  refine tape_some (T := [([120], 0)]) h i64_zero (fun i x hx => ?_) (by decide) (fun x hx => ?_)
  · have hi := (List.getElem?_eq_some_iff.1 hx).1
    obtain rfl : i = 0 := by simpa using hi
    simp at hx
    subst hx
    exact ⟨i64_zero, _, 0, rfl, hb.at 0 rfl, hb.at 1 rfl⟩
  · rw [List.mem_singleton.1 hx]; decide
theorem exist_x {S : MkS} (h : 1 ≤ S.l.length) : existB S 0 [([120], 0)] = true := by
  unfold existB tellsB
  have h1 : (0 : Int) < (S.l.length : Int) := by omega
  simp
  omega

set_option maxRecDepth 100000 in
set_option maxHeartbeats 64000000 in
theorem town_any {A : Option Addr} {ca : Nat} {l : List Cl} {w : World} (hl : l.length ≤ 9223372036854775807) (hc : ClsAt w A l) (ht : Tab w) :
    Calls Tryd.prog 6 #[.slice A l.length ca] w (Just (.bool true) w) := by
  have HNEW := Lib.hid (new_mine (n := 100) w (by constructor <;> omega) (by omega) (by omega))
  have HT := Lib.hid ht
  have HC := Lib.hid hc
  have HH := Lib.hid (fun W (hW : Grow w W) => head_any W (ht.grow hW))
  obtain ⟨N, hN⟩ : ∃ N, N = l.length := ⟨_, rfl⟩
  rw [← hN] at hl ⊢
  have HNN := Lib.hid hN
  clear hc ht hN
  go_enter Tryd.func6, Tryd.ntmps6
  go_wp2_with (first | (go_at_call 7; refine HNEW.out.mono ?_) | fail)
  rintro e wa ⟨pm, P, rfl, hm⟩
  have HM := Lib.hid hm
  have HPAR := Lib.hid hm.par
  clear hm
  go_wp2_with (first | (go_at_call 14; refine HPAR.out.mono ?_) | fail)
  rintro e wb ⟨rfl, hk1, hs1, P1, hm1⟩
  have HM1 := Lib.hid hm1
  clear hm1 hk1 hs1
  go_wp2_with fail
  go_loopw [5] (fun i wr => OwnRel l (.pointer (some ⟨pm, 0, none⟩)) w i wr) (fun i _ => 40 - (intOf i).toNat)
  case atStart => exact ⟨0, by omega, by omega, rfl, _, _, HM1.out, by decide⟩
  case round =>
    obtain ⟨k, hk, hk40, rfl, P, S, hm, hlen⟩ := hrel
    have HM := Lib.hid hm
    have HLEN := Lib.hid hlen
    have hkN : k ≤ N := by rw [HNN.out]; exact hk
    clear hk hm hlen HM1
    by_cases hgo : k < N ∧ k < 40
    · obtain ⟨hltN, hlt40⟩ := hgo
      have hltI : (k : Int) < (N : Int) := by omega
      have hltJ : (k : Int) < 40 := by omega
      obtain ⟨c, hcx⟩ : ∃ c, l[k]? = some c := ⟨_, List.getElem?_eq_getElem (by have := HNN.out; omega)⟩
      obtain ⟨b, off, vn, vd, rfl, hcell0, hok⟩ := HC.out k c hcx
      have hcell : ∀ W, Grow w W → ∀ j v, (clCells c vn vd)[j]? = some v → W.cell? ⟨b, off + k * 7 + j, none⟩ = some v := fun W hW j v hv => by
        have hbl := World.block_lt_of_cell? w _ (hcell0 0 _ rfl)
        exact (hW.cell (p := ⟨b, off + k * 7 + j, none⟩) hbl).trans (hcell0 j v hv)
      have HFOK := Lib.hid hok
      have HOK := Lib.hid (And.intro hok.2.1 (And.intro hok.2.2.1 hok.2.2.2.1))
      obtain ⟨hw256, ho256, _, _, ⟨an, cn, rfl, _⟩, ⟨ad, cd, rfl, _⟩, hln, hld⟩ := hok
      have HCELL := Lib.hid hcell
      have c4 := hcell wr HM.out.grow 4 _ rfl
      have c5 := hcell wr HM.out.grow 5 _ rfl
      have c6 := hcell wr HM.out.grow 6 _ rfl
      have HS := Lib.hid (small_any c.x.s an ad c.x.m.length c.x.d.length cn cd wr hln hld)
      obtain ⟨r, hr⟩ : ∃ r, r = (decide (c.x.m.length ≤ 3) && decide (c.x.d.length ≤ 3)) := ⟨_, rfl⟩
      rw [← hr] at HS
      have HRR := Lib.hid hr
      clear hcx hcell0 hcell hr
      cases r with
      | false =>
        go_wp2_with (first | (go_at_call 9; refine HS.out.mono ?_) | fail)
        rintro e w2 ⟨rfl, hg2⟩
        have HG2 := Lib.hid (Grow.trans HM.out.grow hg2)
        clear hg2 c4 c5 c6
        go_wp2_with (first | (go_at_call 8; refine (HH.out _ HG2.out).mono ?_) | fail)
        rintro e w3 ⟨rfl, hg3⟩
        have HG3 := Lib.hid (Grow.trans HG2.out hg3)
        clear hg3
        go_wp2_with fail
        go_ret
        exact ⟨rfl, HG3.out⟩
      | true =>
        go_wp2_with (first | (go_at_call 9; refine HS.out.mono ?_) | fail)
        rintro e w2 ⟨rfl, hg2⟩
        have HM2 := Lib.hid (HM.out.more hg2)
        clear c4 c5 c6
        have c4 := HCELL.out w2 HM2.out.grow 4 _ rfl
        have c5 := HCELL.out w2 HM2.out.grow 5 _ rfl
        have c6 := HCELL.out w2 HM2.out.grow 6 _ rfl
        have hnum := HM2.out.num (x := c.x) (vn := .slice an c.x.m.length cn) (vd := .slice ad c.x.d.length cd) (by
          have h := HFOK.out.grow HM2.out.grow
          have h3 := HRR.out
          simp at h3
          exact ⟨h.2.2.2.2.1, h.2.2.2.2.2.1, h3.1, h3.2⟩)
        have HNUM := Lib.hid hnum
        clear hg2 hnum
        go_wp2_with (first | (go_at_call 11; refine HNUM.out.mono ?_) | fail)
        rintro e w3 ⟨rfl, hk3, hs3, P3, hm3⟩
        have HM3 := Lib.hid hm3
        clear c4 c5 c6 hm3 hk3 hs3
        have KC : Hid (∀ W, Grow w3 W → W.cell? ⟨b, off + k * 7 + 1, none⟩ = some (.int .u8 (c.op : Int)) ∧ W.cell? ⟨b, off + k * 7 + 2, none⟩ = some (.int .i64 c.a) ∧ W.cell? ⟨b, off + k * 7 + 3, none⟩ = some (.int .i64 c.b)) := Lib.hid fun W hW =>
          ⟨HCELL.out W (Grow.trans HM3.out.grow hW) 1 _ rfl, HCELL.out W (Grow.trans HM3.out.grow hW) 2 _ rfl, HCELL.out W (Grow.trans HM3.out.grow hW) 3 _ rfl⟩
        go_wp2_with fail
        rename_i K0 hK0
        refine wp_region_listG [fun v _ => v = .pointer (some ⟨pm, 0, none⟩), fun v _ => v = .slice (some ⟨b, off, none⟩) N ca, fun v _ => v = .int .i64 (k : Int), fun v _ => v = .pointer (some ⟨b, off + k * 7, none⟩), fun v _ => v = .pointer (some ⟨b, off + k * 7 + 1, none⟩), fun v _ => v = .int .u8 (c.op : Int), fun v _ => v = .slice (some ⟨b, off, none⟩) N ca, fun v _ => v = .int .i64 (k : Int), fun v _ => v = .pointer (some ⟨b, off + k * 7, none⟩), fun v _ => v = .pointer (some ⟨b, off + k * 7 + 2, none⟩), fun v _ => v = .int .i64 c.a, fun v _ => v = .slice (some ⟨b, off, none⟩) N ca, fun v _ => v = .int .i64 (k : Int), fun v _ => v = .pointer (some ⟨b, off + k * 7, none⟩), fun v _ => v = .pointer (some ⟨b, off + k * 7 + 3, none⟩), fun v _ => v = .int .i64 c.b]
          [(0, .slice (some ⟨b, off, none⟩) N ca), (3, .pointer (some ⟨pm, 0, none⟩)), (5, .int .i64 (k : Int))] 16 (by kernel_rfl) ⟨stays_pure _, stays_pure _, stays_pure _, stays_pure _, stays_pure _, stays_pure _, stays_pure _, stays_pure _, stays_pure _, stays_pure _, stays_pure _, stays_pure _, stays_pure _, stays_pure _, stays_pure _, stays_pure _, trivial⟩ rfl (by kernel_rfl) rfl ?base (by kernel_rfl) ⟨?_, ?_, ?_, ?_, ?_, ?_, ?_, ?_, ?_, ?_, ?_, ?_, ?_, ?_, ?_, ?_, trivial⟩ ?last
        case base => simp
        case last =>
          intro vs W hW hv
          simp only [FactsL, Nat.zero_add, Nat.reduceAdd] at hv
          have v0 := hv.1
          have v5 := hv.2.2.2.2.2.1
          have v10 := hv.2.2.2.2.2.2.2.2.2.2.1
          have v15 := hv.2.2.2.2.2.2.2.2.2.2.2.2.2.2.2.1
          clear hv
          refine ⟨rfl, ?_⟩
          simp only [List.take_succ_cons, List.take_zero, putF, Act.put, List.setIfInBounds_toArray, List.set_cons_zero, List.set_cons_succ, Nat.reduceAdd, v0, v5, v10, v15]
          unfold Oper.wp
          simp [go_sem]
          refine ((HM3.out.more hW).pair HT.out HOK.out.1 HOK.out.2.1 HOK.out.2.2).mono ?_
          rintro e W' ⟨rfl, _, _, P4, hm4⟩
          refine hK0 _ _ ?_
          have HM4 := Lib.hid hm4
          clear hm4 v0 v5 v10 v15
          go_wp2_with fail
          go_roundw
          case rel => exact ⟨k + 1, by have := HNN.out; omega, by omega, by go_num, P4, _, HM4.out, Nat.le_trans HLEN.out (Nat.le_trans (numS_len S c.x) (twoS_len _ _ _ _))⟩
          case measure => simp [intOf]; omega
        all_goals
          intro a' W hW hb hf
          obtain ⟨e1, e2, e3⟩ := KC.out W hW
          simp only [List.forall_mem_cons, List.not_mem_nil, false_imp_iff, implies_true, and_true] at hb
          obtain ⟨m0, m3, m5⟩ := hb
          simp [FactsOf, FactAt, Region.binds, factsL] at hf
        · refine .inl ⟨rfl, fun K hK => ?_⟩
          unfold Oper.wp
          simp [execOp, go_sem, *]
          exact hK _ _ (Grow.refl _) rfl
        · refine .inl ⟨rfl, fun K hK => ?_⟩
          unfold Oper.wp
          simp [execOp, go_sem, *]
          exact hK _ _ (Grow.refl _) rfl
        · refine .inl ⟨rfl, fun K hK => ?_⟩
          unfold Oper.wp
          simp [execOp, go_sem, *]
          exact hK _ _ (Grow.refl _) rfl
        · refine .inl ⟨rfl, fun K hK => ?_⟩
          unfold Oper.wp
          simp [execOp, go_sem, *]
          exact hK _ _ (Grow.refl _) rfl
        · refine .inl ⟨rfl, fun K hK => ?_⟩
          unfold Oper.wp
          simp [execOp, go_sem, *]
          exact hK _ _ (Grow.refl _) rfl
        · refine .inl ⟨rfl, fun K hK => ?_⟩
          unfold Oper.wp
          simp [execOp, go_sem, *]
          exact hK _ _ (Grow.refl _) rfl
        · refine .inl ⟨rfl, fun K hK => ?_⟩
          unfold Oper.wp
          simp [execOp, go_sem, *]
          exact hK _ _ (Grow.refl _) rfl
        · refine .inl ⟨rfl, fun K hK => ?_⟩
          unfold Oper.wp
          simp [execOp, go_sem, *]
          exact hK _ _ (Grow.refl _) rfl
        · refine .inl ⟨rfl, fun K hK => ?_⟩
          unfold Oper.wp
          simp [execOp, go_sem, *]
          exact hK _ _ (Grow.refl _) rfl
        · refine .inl ⟨rfl, fun K hK => ?_⟩
          unfold Oper.wp
          simp [execOp, go_sem, *]
          exact hK _ _ (Grow.refl _) rfl
        · refine .inl ⟨rfl, fun K hK => ?_⟩
          unfold Oper.wp
          simp [execOp, go_sem, *]
          exact hK _ _ (Grow.refl _) rfl
        · refine .inl ⟨rfl, fun K hK => ?_⟩
          unfold Oper.wp
          simp [execOp, go_sem, *]
          exact hK _ _ (Grow.refl _) rfl
        · refine .inl ⟨rfl, fun K hK => ?_⟩
          unfold Oper.wp
          simp [execOp, go_sem, *]
          exact hK _ _ (Grow.refl _) rfl
        · refine .inl ⟨rfl, fun K hK => ?_⟩
          unfold Oper.wp
          simp [execOp, go_sem, *]
          exact hK _ _ (Grow.refl _) rfl
        · refine .inl ⟨rfl, fun K hK => ?_⟩
          unfold Oper.wp
          simp [execOp, go_sem, *]
          exact hK _ _ (Grow.refl _) rfl
        · refine .inl ⟨rfl, fun K hK => ?_⟩
          unfold Oper.wp
          simp [execOp, go_sem, *]
          exact hK _ _ (Grow.refl _) rfl
    · by_cases hlt : k < N
      · obtain rfl : k = 40 := by omega
        have hltI : ((40 : Nat) : Int) < (N : Int) := by omega
        obtain ⟨n, hn⟩ : ∃ n, n = S.l.length := ⟨_, rfl⟩
        have hn1 : 1 ≤ n := by rw [hn]; exact HLEN.out
        have HN := Lib.hid hn
        have hn2 : n ≤ 20000 := by have := HM.out.one.good; obtain ⟨_, h2, _, h4, _⟩ := this; omega
        obtain ⟨tb, htb⟩ : ∃ tb, tb = wr.heap.size := ⟨_, rfl⟩
        obtain ⟨W1, hW1⟩ : ∃ W1, W1 = wr.alloc (.cells #[.string ⟨#[120]⟩, .int .i64 0] 63) := ⟨_, rfl⟩
        have hg1 : Grow wr W1 := by rw [hW1]; exact Grow.alloc _ _
        have hbt1 : BlkOf W1 tb #[.string ⟨#[120]⟩, .int .i64 0] 63 := by rw [hW1, htb]; exact BlkOf.new wr _ _
        have HM1 := Lib.hid (HM.out.more hg1)
        have HBT := Lib.hid hbt1
        have htp1 := tape_x HM1.out.one hbt1
        have HTP1 := Lib.hid htp1
        have HPLT : Hid (∀ k, P k → k < tb) := Lib.hid (by rw [htb]; exact HM.out.one.lt)
        have HTB : Hid (w.heap.size ≤ tb ∧ tb < W1.heap.size) := Lib.hid ⟨by rw [htb]; exact Below.size HM.out.grow, hbt1.lt⟩
        have HW1 := Lib.hid hW1
        have HTBE := Lib.hid htb
        clear hn hg1 hbt1 htp1 hW1 htb
        go_wp2_with (first | (go_at_call 15; rw [← HW1.out, ← HTBE.out]; refine HTP1.out.mono ?_) | fail)
        rintro e wA (⟨_, vN, vT, rfl, hnA, htA, hgA⟩ | ⟨h, _⟩)
        · obtain ⟨ga, capA, curA, rfl, hgaP, hbA, hszA, hcapA, hrowsA⟩ := hnA.rows (fun e => by rw [e] at HLEN; exact absurd HLEN.out (by simp))
          obtain ⟨AT, ct, rfl, _⟩ := htA.form
          have hl1 : ([([120], (0 : Int))] : List (List UInt8 × Int)).length = 1 := rfl
          rw [← HN.out, hl1]
          obtain ⟨ta, hta⟩ : ∃ ta, ta = wA.heap.size := ⟨_, rfl⟩
          obtain ⟨W2, hW2⟩ : ∃ W2, W2 = wA.alloc (.cells #[.int .i64 (S.pars : Int), .int .i64 0, .slice (some ⟨ga, 0, none⟩) n capA, .slice AT 1 ct] 46) := ⟨_, rfl⟩
          have hg2 : Grow wA W2 := by rw [hW2]; exact Grow.alloc _ _
          have hbta : BlkOf W2 ta #[.int .i64 (S.pars : Int), .int .i64 0, .slice (some ⟨ga, 0, none⟩) n capA, .slice AT 1 ct] 46 := by rw [hW2, hta]; exact BlkOf.new wA _ _
          have HM2 := Lib.hid (HM1.out.more (hgA.trans hg2))
          have hbt2 : BlkOf W2 tb #[.string ⟨#[120]⟩, .int .i64 0] 63 := (HBT.out.below hgA HBT.out.lt).below hg2 (by have := (HBT.out.below hgA HBT.out.lt).lt; exact this)
          have htp2 := tape_x HM2.out.one hbt2
          have HTP2 := Lib.hid htp2
          have HNA := Lib.hid hnA
          have HGA := Lib.hid hgA
          have HG2 := Lib.hid hg2
          have HBTA := Lib.hid hbta
          have HBT2 := Lib.hid hbt2
          have HW2 := Lib.hid hW2
          have HTAE := Lib.hid hta
          have HGAP := Lib.hid hgaP
          clear hnA htA hgA hbA hszA hcapA hrowsA hg2 hbta hbt2 htp2 hW2 hta hgaP
          go_wp2_with (first | (go_at_call 15; rw [← HW2.out]; refine HTP2.out.mono ?_) | fail)
          rintro e wB (⟨_, vN2, vT2, rfl, hnB, htB, hgB⟩ | ⟨h, _⟩)
          · obtain ⟨gb, capB, rfl, hcapB, _, hgbP, hatB⟩ := hnB.form2 (fun e => by rw [e] at HLEN; exact absurd HLEN.out (by simp))
            obtain ⟨gt, ctb, rfl, hgtP, hatT⟩ := htB.form2 (by simp)
            rw [← HN.out, hl1]
            obtain ⟨tc, htc⟩ : ∃ tc, tc = wB.heap.size := ⟨_, rfl⟩
            have hbtB := HBT2.out.below hgB HBT2.out.lt
            have t0 := fun o => (hbtB.alloc o).at 0 rfl
            have z0 := fun o => (hbtB.alloc o).free 0
            obtain ⟨W3, hW3⟩ : ∃ W3, W3 = wB.alloc (.cells #[.int .i64 (S.pars : Int), .int .i64 0, .slice (some ⟨gb, 0, none⟩) n capB, .slice (some ⟨gt, 0, none⟩) 1 ctb] 46) := ⟨_, rfl⟩
            obtain ⟨W4, hW4⟩ : ∃ W4, W4 = W3.setCell ⟨tb, 0, none⟩ (.string ⟨#[121]⟩) := ⟨_, rfl⟩
            have hg3 : Grow wB W3 := by rw [hW3]; exact Grow.alloc _ _
            have hsz3 : W3.heap.size = tc + 1 := by rw [hW3, htc]; simp
            have hsz4 : W4.heap.size = tc + 1 := by rw [hW4, ← hsz3]; simp [World.setCell]
            have hk4 : ∀ k, k ≠ tb → W4.heap[k]? = W3.heap[k]? := fun k hk => by rw [hW4]; exact Below.heap_setCell _ _ _ _ hk
            have hkB : Kept (fun k => k < wB.heap.size ∧ k ≠ tb) wB W4 := fun k hk => (hk4 k hk.2).trans (hg3.block k hk.1)
            have hszs : tb < W1.heap.size ∧ W1.heap.size ≤ ta ∧ ta + 1 = W2.heap.size ∧ W2.heap.size ≤ tc := by
              refine ⟨HTB.out.2, ?_, ?_, ?_⟩
              · rw [HTAE.out]; exact Below.size HGA.out
              · rw [HW2.out, HTAE.out]; simp
              · rw [htc]; exact Below.size hgB
            have HSZS := Lib.hid hszs
            have hkA : Kept (fun k => k < wA.heap.size ∧ k ≠ tb) wA W4 := fun k hk => by
              have h1 := HG2.out.block k hk.1
              have h2 := hgB.block k (by have := Below.size HG2.out; omega)
              have h3 := hkB k ⟨by have := Below.size HG2.out; have := Below.size hgB; omega, hk.2⟩
              exact h3.trans (h2.trans h1)
            have hnA4 := HNA.out.kept (fun k hk => hkA k ⟨hk.2, by have := hk.1; omega⟩)
            obtain ⟨g', cap', cur, e', hP', hblkA, _, _, hrows⟩ := hnA4.rows (fun e => by rw [e] at HLEN; exact absurd HLEN.out (by simp))
            cases e'
            have hbta4 : BlkOf W4 ta #[.int .i64 (S.pars : Int), .int .i64 0, .slice (some ⟨ga, 0, none⟩) n capA, .slice AT 1 ct] 46 := (hkB ta ⟨by have := htc; omega, by omega⟩).trans (HBTA.out.below hgB HBTA.out.lt)
            have hbtb4 : BlkOf W4 tc #[.int .i64 (S.pars : Int), .int .i64 0, .slice (some ⟨gb, 0, none⟩) n capB, .slice (some ⟨gt, 0, none⟩) 1 ctb] 46 := (hk4 tc (by omega)).trans (by rw [hW3, htc]; exact BlkOf.new wB _ _)
            have hnB4 := hnB.kept (w' := W4) (fun k hk => hkB k ⟨hk.2, by have := hk.1; omega⟩)
            have htB4 : W4.ownsRow 0 63 2 (.slice (some ⟨gt, 0, none⟩) ([([120], (0 : Int))] : List (List UInt8 × Int)).length ctb) ([([120], (0 : Int))] : List (List UInt8 × Int)).length (tlCells [([120], 0)]) := ownsRow_kept htB.1 htB.2.1 (fun k hk => hkB k ⟨hk.2, by have := hk.1; omega⟩)
            have hm4 : MkAt P W4 (.pointer (some ⟨pm, 0, none⟩)) S := (HM2.out.more hgB).one.kept (fun k hk => hkB k ⟨(HM2.out.more hgB).one.lt k hk, by have := HPLT.out k hk; omega⟩) (by rw [hsz4, htc]; omega)
            have hg4 : Grow w W4 := by rw [hW4]; exact Below.setCell (p := ⟨tb, 0, none⟩) ((HM2.out.more hgB).grow.trans hg3) (by show w.heap.size ≤ tb; exact HTB.out.1) _
            have HROWS := Lib.hid hrows
            have HTA4 := Lib.hid hbta4
            have HTC4 := Lib.hid hbtb4
            have HNB4 := Lib.hid hnB4
            have HTB4 := Lib.hid htB4
            have HM4 := Lib.hid hm4
            have HG4 := Lib.hid hg4
            have HSZ4 := Lib.hid hsz4
            have HCUR := Lib.hid hblkA
            have HPA := Lib.hid hP'
            have HPB := Lib.hid (And.intro hgbP hgtP)
            have HTCE := Lib.hid htc
            have HW3 := Lib.hid hW3
            have HW4 := Lib.hid hW4
            clear hnB htB hgB hcapB hgbP hatB hgtP hatT hbtB hW3 hW4 hg3 hsz3 hsz4 hk4 hkB hszs hkA hnA4 hblkA hrows hbta4 hbtb4 hnB4 htB4 hm4 hg4 hP' htc
            go_wp2_with fail
            clear t0 z0
            rw [← HW3.out, ← HW4.out, ← HTAE.out, ← HTCE.out]
            go_loopw [11] (fun i wr => SpoilRel n W4 W1.heap.size ta ga cur i wr) (fun i _ => n - (intOf i).toNat)
            case atStart => exact ⟨0, by omega, rfl, Spoilt.start HCUR.out⟩
            case round =>
              obtain ⟨i, hi, rfl, hs⟩ := hrel
              have HS := Lib.hid hs
              have hta := hs.blk HTA4.out (fun h => Nat.lt_irrefl _ h.2)
              have u2 := hta.at 2 rfl
              by_cases hlt2 : i < n
              · have hltI2 : (i : Int) < (n : Int) := by omega
                obtain ⟨op, av, bv, sv, vn, vd, M, r0, r1, r2, r3, r4, r5, hraw, hM⟩ := HROWS.out i (by have := HN.out; omega)
                have hvn : ∃ AM lm cm, vn = .slice AM lm cm ∧ lm ≤ 2048 ∧ ∀ q, q < lm → ∃ gl cs, AM = some ⟨gl, 0, none⟩ ∧ BlkOf W4 gl cs 64 ∧ q < cs.size ∧ W1.heap.size ≤ gl ∧ gl < ta := by
                  rcases hraw.block with ⟨e, h0⟩ | ⟨gl, capl, cs, e, hPl, hbl, hszl, hle⟩
                  · exact ⟨none, 0, 0, e, by omega, fun q hq => by omega⟩
                  · exact ⟨_, _, _, e, hM, fun q hq => ⟨gl, cs, rfl, hbl, by omega, hPl.1, by rw [HTAE.out]; exact hPl.2⟩⟩
                obtain ⟨AM, lm, cm, rfl, hlm, hst⟩ := hvn
                have HST := Lib.hid hst
                have HR4 := Lib.hid r4
                have HR1 := Lib.hid r1
                clear r0 r1 r2 r3 r4 r5 hraw hM hst hs hta
                go_wp2_with fail
                clear u2
                obtain ⟨wz, hwz⟩ : ∃ wz, wz = wr := ⟨_, rfl⟩
                rw [← hwz] at HS ⊢
                clear hwz
                go_loopw [12] (fun q wr => SpoilRel lm W4 W1.heap.size ta ga cur q wr) (fun q _ => lm - (intOf q).toNat)
                case atStart => exact ⟨0, by omega, rfl, HS.out⟩
                case round =>
                  obtain ⟨q, hq, rfl, hs⟩ := hrel
                  have HS2 := Lib.hid hs
                  have hta := hs.blk HTA4.out (fun h => Nat.lt_irrefl _ h.2)
                  have u2 := hta.at 2 rfl
                  obtain ⟨cur', hcb, hcs, hcc⟩ := hs.node
                  have n4 := hcb.at (i * 6 + 4) ((hcc (i * 6 + 4) (by omega)).trans HR4.out)
                  by_cases hlt3 : q < lm
                  · have hltQ : (q : Int) < (lm : Int) := by omega
                    obtain ⟨gl, cs, rfl, hbl, hql, hg1, hg2⟩ := HST.out q hlt3
                    obtain ⟨cs', hbl', hcs'⟩ := hs.limbs gl cs hbl
                    have s1 : wr.cell? ⟨gl, q, none⟩ = some (cs'[q]'(by omega)) := hbl'.at q (Array.getElem?_eq_getElem (by omega))
                    have z1 := hbl'.free q
                    generalize (cs'[q]'(by omega)) = vq at s1
                    have HNEXT := Lib.hid (hs.limb (j := q) hbl hg1 hg2 (.int .u64 0))
                    clear hs hta hcb hcs hcc hbl hbl' hcs'
                    go_wp2_with fail
                    exact ⟨⟨q + 1, by omega, by go_num, HNEXT.out⟩, by simp [intOf]; omega⟩
                  · have hltQ : ¬ (q : Int) < (lm : Int) := by omega
                    have hsz1 : i * 6 + 1 < cur'.size := by rw [hcs]; exact (Array.getElem?_eq_some_iff.1 HR1.out).1
                    have s1 : wr.cell? ⟨ga, i * 6 + 1, none⟩ = some (cur'[i * 6 + 1]'hsz1) := hcb.at (i * 6 + 1) (Array.getElem?_eq_getElem hsz1)
                    have z1 := hcb.free (i * 6 + 1)
                    generalize (cur'[i * 6 + 1]'hsz1) = vq at s1
                    have HNEXT := Lib.hid (hs.step (i := i) HPA.out.1 (by rw [HTAE.out]; exact HPA.out.2) (.int .i64 99))
                    clear hs hta hcb hcs hcc hsz1
                    go_wp2_with fail
                    exact ⟨⟨i + 1, by omega, by go_num, HNEXT.out⟩, by simp [intOf]; omega⟩
              · have hltI2 : ¬ (i : Int) < (n : Int) := by omega
                have hmS : MkAt P wr (.pointer (some ⟨pm, 0, none⟩)) S := HM4.out.kept (hs.kept (fun k hk h => by have := HPLT.out k hk; have := HSZS.out; omega)) (Nat.le_of_eq hs.size.symm)
                have hgS : Grow w wr := Below.trans HG4.out (hs.below.mono (by have := HTB.out; omega))
                have hnS := HNB4.out.kept (w' := wr) (hs.kept (fun k hk h => by have := hk.1; have := HSZS.out; omega))
                have htS := ownsRow_kept HTB4.out (P := newIn W2 wB) (fun g hg => by cases hg; exact HPB.out.2) (hs.kept (fun k hk h => by have := hk.1; have := HSZS.out; omega))
                have hbS := hs.blk HTC4.out (fun h => by have := HSZS.out; omega)
                have hszS : wr.heap.size = tc + 1 := by rw [hs.size]; exact HSZ4.out
                have hone := one_some hmS (op := 7) (a := 0) (by decide) i64_zero (HT.out.grow hgS)
                obtain ⟨S', hS'⟩ : ∃ S', S' = (oneS S 7 0).2.2 := ⟨_, rfl⟩
                have hpre := oneS_pre S 7 0
                rw [← hS'] at hpre
                have HPRE := Lib.hid hpre
                have HONE := Lib.hid hone
                have HMS := Lib.hid hmS
                have HGS := Lib.hid hgS
                have HNS := Lib.hid hnS
                have HTS := Lib.hid htS
                have HBS := Lib.hid hbS
                have HSZ := Lib.hid hszS
                have HSE := Lib.hid hS'
                clear hs hmS hgS hnS htS hbS hszS hone hpre hS'
                go_wp2_with (first | (go_at_call 12; refine HONE.out.mono ?_) | fail)
                rintro e w5 ⟨rfl, hsp, P5, hP5, hP5', hm5⟩
                rw [← HSE.out] at hm5
                have hk5 : Kept (newIn W2 wB) wr w5 := fun k hk => hsp.other k (by have h1 := hk.2; have h2 := HTCE.out; have h3 := HSZ.out; omega) (fun h => by have h1 := HPLT.out k h; have h2 := HSZS.out; have h3 := hk.1; omega)
                have hn5 := HNS.out.kept hk5
                have ht5 := ownsRow_kept HTS.out (P := newIn W2 wB) (fun g hg => by cases hg; exact HPB.out.2) hk5
                have hb5 : BlkOf w5 tc #[.int .i64 (S.pars : Int), .int .i64 0, .slice (some ⟨gb, 0, none⟩) n capB, .slice (some ⟨gt, 0, none⟩) 1 ctb] 46 := (hsp.other tc (by rw [HSZ.out]; omega) (fun h => by have h1 := HPLT.out tc h; have h2 := HSZS.out; omega)).trans HBS.out
                have hg5 : Grow w w5 := Below.trans HGS.out (hsp.below (fun k hk => HMS.out.lt k hk |> fun _ => (HM1.out.low k hk)) (Below.size HGS.out))
                have hszs5 : tc + 1 ≤ w5.heap.size := by rw [← HSZ.out]; exact hsp.size
                obtain ⟨tb2, htb2⟩ : ∃ tb2, tb2 = w5.heap.size := ⟨_, rfl⟩
                obtain ⟨W6, hW6⟩ : ∃ W6, W6 = w5.alloc (.cells #[.string ⟨#[120]⟩, .int .i64 0] 63) := ⟨_, rfl⟩
                have hg6 : Grow w5 W6 := by rw [hW6]; exact Grow.alloc _ _
                have hbt6 : BlkOf W6 tb2 #[.string ⟨#[120]⟩, .int .i64 0] 63 := by rw [hW6, htb2]; exact BlkOf.new w5 _ _
                have htp6 := tape_x (hm5.grow hg6) hbt6
                have HTP6 := Lib.hid htp6
                have HW6 := Lib.hid hW6
                have HTB2 := Lib.hid htb2
                have HG6 := Lib.hid hg6
                have HN5 := Lib.hid hn5
                have HT5 := Lib.hid ht5
                have HB5 := Lib.hid hb5
                have HG5 := Lib.hid hg5
                have HSZ5 := Lib.hid hszs5
                clear hsp hP5 hP5' hm5 hk5 hn5 ht5 hb5 hg5 hszs5 htb2 hW6 hg6 hbt6 htp6
                go_wp2_with (first | (go_at_call 15; rw [← HW6.out, ← HTB2.out]; refine HTP6.out.mono ?_) | fail)
                rintro e wC (⟨_, vN3, vT3, rfl, hnC, htC, hgC⟩ | ⟨h, _⟩)
                · obtain ⟨gc, capC, rfl, hcapC, _, hgcP, hatC⟩ := hnC.form2 (ne_nil_of (Nat.le_trans HLEN.out HPRE.out.2.2))
                  obtain ⟨gt3, ct3, rfl, hgt3P, hatT3⟩ := htC.form2 (by simp)
                  rw [hl1]
                  have hgC6 : Grow w5 wC := HG6.out.trans hgC
                  have hbC := HB5.out.below hgC6 HB5.out.lt
                  have b0 := fun o => (hbC.alloc o).at 0 rfl
                  have b1 := fun o => (hbC.alloc o).at 1 rfl
                  have b2 := fun o => (hbC.alloc o).at 2 rfl
                  have b3 := fun o => (hbC.alloc o).at 3 rfl
                  have htellC : TlsIn (newIn W2 wB) w5 (.slice (some ⟨gt, 0, none⟩) ([([120], (0 : Int))] : List (List UInt8 × Int)).length ctb) [([120], 0)] := ⟨HT5.out, fun g hg => by cases hg; exact HPB.out.2, fun x hx => by rw [List.mem_singleton.1 hx]; exact i64_zero⟩
                  obtain ⟨gt', ct', e', _, hatT5⟩ := htellC.form2 (by simp)
                  cases e'
                  have hcell5 := (hatT5 0 ([120], 0) rfl).2
                  obtain ⟨bb, oo, e', hst5, _⟩ := hcell5
                  cases e'
                  have g0 : ∀ o, (wC.alloc o).cell? ⟨gt, 0, none⟩ = some (.string ⟨#[120]⟩) := fun o => by
                    have h1 := ((hgC6.trans (Grow.alloc wC o)).cell (p := ⟨gt, 0, none⟩) (World.block_lt_of_cell? w5 _ hst5)).trans (by simpa using hst5)
                    exact h1
                  have hcl : ¬ ((S'.l.length : Int) < (n : Int)) := by have h1 := HPRE.out.2.2; have h2 := HN.out; omega
                  have hcld : decide ((S'.l.length : Int) < (n : Int)) = false := by simp; have h1 := HPRE.out.2.2; have h2 := HN.out; omega
                  have hcn : n ≤ capC := by have h1 := HPRE.out.2.2; have h2 := HN.out; omega
                  obtain ⟨gb', capB', e', _, _, _, hatB5⟩ := HN5.out.form2 (ne_nil_of HLEN.out)
                  cases e'
                  have hatC2 : NdsAt 2048 wC (some ⟨gc, 0, none⟩) S.l := by rw [← HPRE.out.2.1]; exact hatC.take _
                  have hpC := HM2.out.one.good.2.2.1
                  have hsm := fun o => tsame_any (K := 2048) (K' := 2048) (w := wC.alloc o) (t := ⟨(S.pars : Int), 0, S.l, [([120], 0)]⟩) (u := ⟨(S'.pars : Int), 0, S.l, [([120], 0)]⟩) (vn := .slice (some ⟨gb, 0, none⟩) S.l.length capB) (vt := .slice (some ⟨gt, 0, none⟩) 1 ctb) (un := .slice (some ⟨gc, 0, none⟩) S.l.length capC) (ut := .slice (some ⟨gt3, 0, none⟩) 1 ct3)
                    ⟨by constructor <;> simp only [] <;> omega, i64_zero, by show S.l.length ≤ _; have := HN.out; omega, by simp, _, _, _, _, rfl, rfl, hatB5.grow (hgC6.trans (Grow.alloc wC o)), hatT5.grow (hgC6.trans (Grow.alloc wC o))⟩
                    ⟨by rw [HPRE.out.1]; constructor <;> simp only [] <;> omega, i64_zero, by show S.l.length ≤ _; have := HN.out; omega, by simp, _, _, _, _, rfl, rfl, hatC2.grow (Grow.alloc wC o), hatT3.grow (Grow.alloc wC o)⟩ (by decide)
                  have hsame : sameTp ⟨(S.pars : Int), 0, S.l, [([120], 0)]⟩ ⟨(S'.pars : Int), 0, S.l, [([120], 0)]⟩ = true := by rw [HPRE.out.1]; exact sameTp_self _
                  rw [hsame] at hsm
                  unfold tpV at hsm
                  dsimp only at hsm
                  rw [← HN.out] at hsm
                  have HSM := Lib.hid hsm
                  have HGC := Lib.hid (Grow.trans HG5.out hgC6)
                  have HPR := Lib.hid HPRE.out.1
                  clear hnC htC hgC hgcP hatC hgt3P hatT3 hgC6 hbC htellC hatT5 hst5 hatB5 hatC2 hpC hsm hsame
                  go_wp2_with (first | (go_at_call 17; (with_reducible refine (HSM.out _).mono ?_)) | fail)
                  rintro e w8 ⟨rfl, hg8⟩
                  have HG8 := Lib.hid (Grow.trans HGC.out (Grow.trans (Grow.alloc _ _) hg8))
                  clear hg8
                  go_wp2_with (first | (go_at_call 8; refine (HH.out _ HG8.out).mono ?_) | fail)
                  rintro e w9 ⟨rfl, hg9⟩
                  have HG9 := Lib.hid (Grow.trans HG8.out hg9)
                  clear hg9
                  go_wp2_with fail
                  go_ret
                  exact ⟨rfl, HG9.out⟩
                · rw [exist_x (Nat.le_trans HLEN.out HPRE.out.2.2)] at h; cases h
          · rw [exist_x HLEN.out] at h; cases h
        · rw [exist_x HLEN.out] at h; cases h
      · have hltI : ¬ (k : Int) < (N : Int) := by omega
        obtain ⟨n, hn⟩ : ∃ n, n = S.l.length := ⟨_, rfl⟩
        have hn1 : 1 ≤ n := by rw [hn]; exact HLEN.out
        have HN := Lib.hid hn
        have hn2 : n ≤ 20000 := by have := HM.out.one.good; obtain ⟨_, h2, _, h4, _⟩ := this; omega
        obtain ⟨tb, htb⟩ : ∃ tb, tb = wr.heap.size := ⟨_, rfl⟩
        obtain ⟨W1, hW1⟩ : ∃ W1, W1 = wr.alloc (.cells #[.string ⟨#[120]⟩, .int .i64 0] 63) := ⟨_, rfl⟩
        have hg1 : Grow wr W1 := by rw [hW1]; exact Grow.alloc _ _
        have hbt1 : BlkOf W1 tb #[.string ⟨#[120]⟩, .int .i64 0] 63 := by rw [hW1, htb]; exact BlkOf.new wr _ _
        have HM1 := Lib.hid (HM.out.more hg1)
        have HBT := Lib.hid hbt1
        have htp1 := tape_x HM1.out.one hbt1
        have HTP1 := Lib.hid htp1
        have HPLT : Hid (∀ k, P k → k < tb) := Lib.hid (by rw [htb]; exact HM.out.one.lt)
        have HTB : Hid (w.heap.size ≤ tb ∧ tb < W1.heap.size) := Lib.hid ⟨by rw [htb]; exact Below.size HM.out.grow, hbt1.lt⟩
        have HW1 := Lib.hid hW1
        have HTBE := Lib.hid htb
        clear hn hg1 hbt1 htp1 hW1 htb
        go_wp2_with (first | (go_at_call 15; rw [← HW1.out, ← HTBE.out]; refine HTP1.out.mono ?_) | fail)
        rintro e wA (⟨_, vN, vT, rfl, hnA, htA, hgA⟩ | ⟨h, _⟩)
        · obtain ⟨ga, capA, curA, rfl, hgaP, hbA, hszA, hcapA, hrowsA⟩ := hnA.rows (fun e => by rw [e] at HLEN; exact absurd HLEN.out (by simp))
          obtain ⟨AT, ct, rfl, _⟩ := htA.form
          have hl1 : ([([120], (0 : Int))] : List (List UInt8 × Int)).length = 1 := rfl
          rw [← HN.out, hl1]
          obtain ⟨ta, hta⟩ : ∃ ta, ta = wA.heap.size := ⟨_, rfl⟩
          obtain ⟨W2, hW2⟩ : ∃ W2, W2 = wA.alloc (.cells #[.int .i64 (S.pars : Int), .int .i64 0, .slice (some ⟨ga, 0, none⟩) n capA, .slice AT 1 ct] 46) := ⟨_, rfl⟩
          have hg2 : Grow wA W2 := by rw [hW2]; exact Grow.alloc _ _
          have hbta : BlkOf W2 ta #[.int .i64 (S.pars : Int), .int .i64 0, .slice (some ⟨ga, 0, none⟩) n capA, .slice AT 1 ct] 46 := by rw [hW2, hta]; exact BlkOf.new wA _ _
          have HM2 := Lib.hid (HM1.out.more (hgA.trans hg2))
          have hbt2 : BlkOf W2 tb #[.string ⟨#[120]⟩, .int .i64 0] 63 := (HBT.out.below hgA HBT.out.lt).below hg2 (by have := (HBT.out.below hgA HBT.out.lt).lt; exact this)
          have htp2 := tape_x HM2.out.one hbt2
          have HTP2 := Lib.hid htp2
          have HNA := Lib.hid hnA
          have HGA := Lib.hid hgA
          have HG2 := Lib.hid hg2
          have HBTA := Lib.hid hbta
          have HBT2 := Lib.hid hbt2
          have HW2 := Lib.hid hW2
          have HTAE := Lib.hid hta
          have HGAP := Lib.hid hgaP
          clear hnA htA hgA hbA hszA hcapA hrowsA hg2 hbta hbt2 htp2 hW2 hta hgaP
          go_wp2_with (first | (go_at_call 15; rw [← HW2.out]; refine HTP2.out.mono ?_) | fail)
          rintro e wB (⟨_, vN2, vT2, rfl, hnB, htB, hgB⟩ | ⟨h, _⟩)
          · obtain ⟨gb, capB, rfl, hcapB, _, hgbP, hatB⟩ := hnB.form2 (fun e => by rw [e] at HLEN; exact absurd HLEN.out (by simp))
            obtain ⟨gt, ctb, rfl, hgtP, hatT⟩ := htB.form2 (by simp)
            rw [← HN.out, hl1]
            obtain ⟨tc, htc⟩ : ∃ tc, tc = wB.heap.size := ⟨_, rfl⟩
            have hbtB := HBT2.out.below hgB HBT2.out.lt
            have t0 := fun o => (hbtB.alloc o).at 0 rfl
            have z0 := fun o => (hbtB.alloc o).free 0
            obtain ⟨W3, hW3⟩ : ∃ W3, W3 = wB.alloc (.cells #[.int .i64 (S.pars : Int), .int .i64 0, .slice (some ⟨gb, 0, none⟩) n capB, .slice (some ⟨gt, 0, none⟩) 1 ctb] 46) := ⟨_, rfl⟩
            obtain ⟨W4, hW4⟩ : ∃ W4, W4 = W3.setCell ⟨tb, 0, none⟩ (.string ⟨#[121]⟩) := ⟨_, rfl⟩
            have hg3 : Grow wB W3 := by rw [hW3]; exact Grow.alloc _ _
            have hsz3 : W3.heap.size = tc + 1 := by rw [hW3, htc]; simp
            have hsz4 : W4.heap.size = tc + 1 := by rw [hW4, ← hsz3]; simp [World.setCell]
            have hk4 : ∀ k, k ≠ tb → W4.heap[k]? = W3.heap[k]? := fun k hk => by rw [hW4]; exact Below.heap_setCell _ _ _ _ hk
            have hkB : Kept (fun k => k < wB.heap.size ∧ k ≠ tb) wB W4 := fun k hk => (hk4 k hk.2).trans (hg3.block k hk.1)
            have hszs : tb < W1.heap.size ∧ W1.heap.size ≤ ta ∧ ta + 1 = W2.heap.size ∧ W2.heap.size ≤ tc := by
              refine ⟨HTB.out.2, ?_, ?_, ?_⟩
              · rw [HTAE.out]; exact Below.size HGA.out
              · rw [HW2.out, HTAE.out]; simp
              · rw [htc]; exact Below.size hgB
            have HSZS := Lib.hid hszs
            have hkA : Kept (fun k => k < wA.heap.size ∧ k ≠ tb) wA W4 := fun k hk => by
              have h1 := HG2.out.block k hk.1
              have h2 := hgB.block k (by have := Below.size HG2.out; omega)
              have h3 := hkB k ⟨by have := Below.size HG2.out; have := Below.size hgB; omega, hk.2⟩
              exact h3.trans (h2.trans h1)
            have hnA4 := HNA.out.kept (fun k hk => hkA k ⟨hk.2, by have := hk.1; omega⟩)
            obtain ⟨g', cap', cur, e', hP', hblkA, _, _, hrows⟩ := hnA4.rows (fun e => by rw [e] at HLEN; exact absurd HLEN.out (by simp))
            cases e'
            have hbta4 : BlkOf W4 ta #[.int .i64 (S.pars : Int), .int .i64 0, .slice (some ⟨ga, 0, none⟩) n capA, .slice AT 1 ct] 46 := (hkB ta ⟨by have := htc; omega, by omega⟩).trans (HBTA.out.below hgB HBTA.out.lt)
            have hbtb4 : BlkOf W4 tc #[.int .i64 (S.pars : Int), .int .i64 0, .slice (some ⟨gb, 0, none⟩) n capB, .slice (some ⟨gt, 0, none⟩) 1 ctb] 46 := (hk4 tc (by omega)).trans (by rw [hW3, htc]; exact BlkOf.new wB _ _)
            have hnB4 := hnB.kept (w' := W4) (fun k hk => hkB k ⟨hk.2, by have := hk.1; omega⟩)
            have htB4 : W4.ownsRow 0 63 2 (.slice (some ⟨gt, 0, none⟩) ([([120], (0 : Int))] : List (List UInt8 × Int)).length ctb) ([([120], (0 : Int))] : List (List UInt8 × Int)).length (tlCells [([120], 0)]) := ownsRow_kept htB.1 htB.2.1 (fun k hk => hkB k ⟨hk.2, by have := hk.1; omega⟩)
            have hm4 : MkAt P W4 (.pointer (some ⟨pm, 0, none⟩)) S := (HM2.out.more hgB).one.kept (fun k hk => hkB k ⟨(HM2.out.more hgB).one.lt k hk, by have := HPLT.out k hk; omega⟩) (by rw [hsz4, htc]; omega)
            have hg4 : Grow w W4 := by rw [hW4]; exact Below.setCell (p := ⟨tb, 0, none⟩) ((HM2.out.more hgB).grow.trans hg3) (by show w.heap.size ≤ tb; exact HTB.out.1) _
            have HROWS := Lib.hid hrows
            have HTA4 := Lib.hid hbta4
            have HTC4 := Lib.hid hbtb4
            have HNB4 := Lib.hid hnB4
            have HTB4 := Lib.hid htB4
            have HM4 := Lib.hid hm4
            have HG4 := Lib.hid hg4
            have HSZ4 := Lib.hid hsz4
            have HCUR := Lib.hid hblkA
            have HPA := Lib.hid hP'
            have HPB := Lib.hid (And.intro hgbP hgtP)
            have HTCE := Lib.hid htc
            have HW3 := Lib.hid hW3
            have HW4 := Lib.hid hW4
            clear hnB htB hgB hcapB hgbP hatB hgtP hatT hbtB hW3 hW4 hg3 hsz3 hsz4 hk4 hkB hszs hkA hnA4 hblkA hrows hbta4 hbtb4 hnB4 htB4 hm4 hg4 hP' htc
            go_wp2_with fail
            clear t0 z0
            rw [← HW3.out, ← HW4.out, ← HTAE.out, ← HTCE.out]
            go_loopw [11] (fun i wr => SpoilRel n W4 W1.heap.size ta ga cur i wr) (fun i _ => n - (intOf i).toNat)
            case atStart => exact ⟨0, by omega, rfl, Spoilt.start HCUR.out⟩
            case round =>
              obtain ⟨i, hi, rfl, hs⟩ := hrel
              have HS := Lib.hid hs
              have hta := hs.blk HTA4.out (fun h => Nat.lt_irrefl _ h.2)
              have u2 := hta.at 2 rfl
              by_cases hlt2 : i < n
              · have hltI2 : (i : Int) < (n : Int) := by omega
                obtain ⟨op, av, bv, sv, vn, vd, M, r0, r1, r2, r3, r4, r5, hraw, hM⟩ := HROWS.out i (by have := HN.out; omega)
                have hvn : ∃ AM lm cm, vn = .slice AM lm cm ∧ lm ≤ 2048 ∧ ∀ q, q < lm → ∃ gl cs, AM = some ⟨gl, 0, none⟩ ∧ BlkOf W4 gl cs 64 ∧ q < cs.size ∧ W1.heap.size ≤ gl ∧ gl < ta := by
                  rcases hraw.block with ⟨e, h0⟩ | ⟨gl, capl, cs, e, hPl, hbl, hszl, hle⟩
                  · exact ⟨none, 0, 0, e, by omega, fun q hq => by omega⟩
                  · exact ⟨_, _, _, e, hM, fun q hq => ⟨gl, cs, rfl, hbl, by omega, hPl.1, by rw [HTAE.out]; exact hPl.2⟩⟩
                obtain ⟨AM, lm, cm, rfl, hlm, hst⟩ := hvn
                have HST := Lib.hid hst
                have HR4 := Lib.hid r4
                have HR1 := Lib.hid r1
                clear r0 r1 r2 r3 r4 r5 hraw hM hst hs hta
                go_wp2_with fail
                clear u2
                obtain ⟨wz, hwz⟩ : ∃ wz, wz = wr := ⟨_, rfl⟩
                rw [← hwz] at HS ⊢
                clear hwz
                go_loopw [12] (fun q wr => SpoilRel lm W4 W1.heap.size ta ga cur q wr) (fun q _ => lm - (intOf q).toNat)
                case atStart => exact ⟨0, by omega, rfl, HS.out⟩
                case round =>
                  obtain ⟨q, hq, rfl, hs⟩ := hrel
                  have HS2 := Lib.hid hs
                  have hta := hs.blk HTA4.out (fun h => Nat.lt_irrefl _ h.2)
                  have u2 := hta.at 2 rfl
                  obtain ⟨cur', hcb, hcs, hcc⟩ := hs.node
                  have n4 := hcb.at (i * 6 + 4) ((hcc (i * 6 + 4) (by omega)).trans HR4.out)
                  by_cases hlt3 : q < lm
                  · have hltQ : (q : Int) < (lm : Int) := by omega
                    obtain ⟨gl, cs, rfl, hbl, hql, hg1, hg2⟩ := HST.out q hlt3
                    obtain ⟨cs', hbl', hcs'⟩ := hs.limbs gl cs hbl
                    have s1 : wr.cell? ⟨gl, q, none⟩ = some (cs'[q]'(by omega)) := hbl'.at q (Array.getElem?_eq_getElem (by omega))
                    have z1 := hbl'.free q
                    generalize (cs'[q]'(by omega)) = vq at s1
                    have HNEXT := Lib.hid (hs.limb (j := q) hbl hg1 hg2 (.int .u64 0))
                    clear hs hta hcb hcs hcc hbl hbl' hcs'
                    go_wp2_with fail
                    exact ⟨⟨q + 1, by omega, by go_num, HNEXT.out⟩, by simp [intOf]; omega⟩
                  · have hltQ : ¬ (q : Int) < (lm : Int) := by omega
                    have hsz1 : i * 6 + 1 < cur'.size := by rw [hcs]; exact (Array.getElem?_eq_some_iff.1 HR1.out).1
                    have s1 : wr.cell? ⟨ga, i * 6 + 1, none⟩ = some (cur'[i * 6 + 1]'hsz1) := hcb.at (i * 6 + 1) (Array.getElem?_eq_getElem hsz1)
                    have z1 := hcb.free (i * 6 + 1)
                    generalize (cur'[i * 6 + 1]'hsz1) = vq at s1
                    have HNEXT := Lib.hid (hs.step (i := i) HPA.out.1 (by rw [HTAE.out]; exact HPA.out.2) (.int .i64 99))
                    clear hs hta hcb hcs hcc hsz1
                    go_wp2_with fail
                    exact ⟨⟨i + 1, by omega, by go_num, HNEXT.out⟩, by simp [intOf]; omega⟩
              · have hltI2 : ¬ (i : Int) < (n : Int) := by omega
                have hmS : MkAt P wr (.pointer (some ⟨pm, 0, none⟩)) S := HM4.out.kept (hs.kept (fun k hk h => by have := HPLT.out k hk; have := HSZS.out; omega)) (Nat.le_of_eq hs.size.symm)
                have hgS : Grow w wr := Below.trans HG4.out (hs.below.mono (by have := HTB.out; omega))
                have hnS := HNB4.out.kept (w' := wr) (hs.kept (fun k hk h => by have := hk.1; have := HSZS.out; omega))
                have htS := ownsRow_kept HTB4.out (P := newIn W2 wB) (fun g hg => by cases hg; exact HPB.out.2) (hs.kept (fun k hk h => by have := hk.1; have := HSZS.out; omega))
                have hbS := hs.blk HTC4.out (fun h => by have := HSZS.out; omega)
                have hszS : wr.heap.size = tc + 1 := by rw [hs.size]; exact HSZ4.out
                have hone := one_some hmS (op := 7) (a := 0) (by decide) i64_zero (HT.out.grow hgS)
                obtain ⟨S', hS'⟩ : ∃ S', S' = (oneS S 7 0).2.2 := ⟨_, rfl⟩
                have hpre := oneS_pre S 7 0
                rw [← hS'] at hpre
                have HPRE := Lib.hid hpre
                have HONE := Lib.hid hone
                have HMS := Lib.hid hmS
                have HGS := Lib.hid hgS
                have HNS := Lib.hid hnS
                have HTS := Lib.hid htS
                have HBS := Lib.hid hbS
                have HSZ := Lib.hid hszS
                have HSE := Lib.hid hS'
                clear hs hmS hgS hnS htS hbS hszS hone hpre hS'
                go_wp2_with (first | (go_at_call 12; refine HONE.out.mono ?_) | fail)
                rintro e w5 ⟨rfl, hsp, P5, hP5, hP5', hm5⟩
                rw [← HSE.out] at hm5
                have hk5 : Kept (newIn W2 wB) wr w5 := fun k hk => hsp.other k (by have h1 := hk.2; have h2 := HTCE.out; have h3 := HSZ.out; omega) (fun h => by have h1 := HPLT.out k h; have h2 := HSZS.out; have h3 := hk.1; omega)
                have hn5 := HNS.out.kept hk5
                have ht5 := ownsRow_kept HTS.out (P := newIn W2 wB) (fun g hg => by cases hg; exact HPB.out.2) hk5
                have hb5 : BlkOf w5 tc #[.int .i64 (S.pars : Int), .int .i64 0, .slice (some ⟨gb, 0, none⟩) n capB, .slice (some ⟨gt, 0, none⟩) 1 ctb] 46 := (hsp.other tc (by rw [HSZ.out]; omega) (fun h => by have h1 := HPLT.out tc h; have h2 := HSZS.out; omega)).trans HBS.out
                have hg5 : Grow w w5 := Below.trans HGS.out (hsp.below (fun k hk => HMS.out.lt k hk |> fun _ => (HM1.out.low k hk)) (Below.size HGS.out))
                have hszs5 : tc + 1 ≤ w5.heap.size := by rw [← HSZ.out]; exact hsp.size
                obtain ⟨tb2, htb2⟩ : ∃ tb2, tb2 = w5.heap.size := ⟨_, rfl⟩
                obtain ⟨W6, hW6⟩ : ∃ W6, W6 = w5.alloc (.cells #[.string ⟨#[120]⟩, .int .i64 0] 63) := ⟨_, rfl⟩
                have hg6 : Grow w5 W6 := by rw [hW6]; exact Grow.alloc _ _
                have hbt6 : BlkOf W6 tb2 #[.string ⟨#[120]⟩, .int .i64 0] 63 := by rw [hW6, htb2]; exact BlkOf.new w5 _ _
                have htp6 := tape_x (hm5.grow hg6) hbt6
                have HTP6 := Lib.hid htp6
                have HW6 := Lib.hid hW6
                have HTB2 := Lib.hid htb2
                have HG6 := Lib.hid hg6
                have HN5 := Lib.hid hn5
                have HT5 := Lib.hid ht5
                have HB5 := Lib.hid hb5
                have HG5 := Lib.hid hg5
                have HSZ5 := Lib.hid hszs5
                clear hsp hP5 hP5' hm5 hk5 hn5 ht5 hb5 hg5 hszs5 htb2 hW6 hg6 hbt6 htp6
                go_wp2_with (first | (go_at_call 15; rw [← HW6.out, ← HTB2.out]; refine HTP6.out.mono ?_) | fail)
                rintro e wC (⟨_, vN3, vT3, rfl, hnC, htC, hgC⟩ | ⟨h, _⟩)
                · obtain ⟨gc, capC, rfl, hcapC, _, hgcP, hatC⟩ := hnC.form2 (ne_nil_of (Nat.le_trans HLEN.out HPRE.out.2.2))
                  obtain ⟨gt3, ct3, rfl, hgt3P, hatT3⟩ := htC.form2 (by simp)
                  rw [hl1]
                  have hgC6 : Grow w5 wC := HG6.out.trans hgC
                  have hbC := HB5.out.below hgC6 HB5.out.lt
                  have b0 := fun o => (hbC.alloc o).at 0 rfl
                  have b1 := fun o => (hbC.alloc o).at 1 rfl
                  have b2 := fun o => (hbC.alloc o).at 2 rfl
                  have b3 := fun o => (hbC.alloc o).at 3 rfl
                  have htellC : TlsIn (newIn W2 wB) w5 (.slice (some ⟨gt, 0, none⟩) ([([120], (0 : Int))] : List (List UInt8 × Int)).length ctb) [([120], 0)] := ⟨HT5.out, fun g hg => by cases hg; exact HPB.out.2, fun x hx => by rw [List.mem_singleton.1 hx]; exact i64_zero⟩
                  obtain ⟨gt', ct', e', _, hatT5⟩ := htellC.form2 (by simp)
                  cases e'
                  have hcell5 := (hatT5 0 ([120], 0) rfl).2
                  obtain ⟨bb, oo, e', hst5, _⟩ := hcell5
                  cases e'
                  have g0 : ∀ o, (wC.alloc o).cell? ⟨gt, 0, none⟩ = some (.string ⟨#[120]⟩) := fun o => by
                    have h1 := ((hgC6.trans (Grow.alloc wC o)).cell (p := ⟨gt, 0, none⟩) (World.block_lt_of_cell? w5 _ hst5)).trans (by simpa using hst5)
                    exact h1
                  have hcl : ¬ ((S'.l.length : Int) < (n : Int)) := by have h1 := HPRE.out.2.2; have h2 := HN.out; omega
                  have hcld : decide ((S'.l.length : Int) < (n : Int)) = false := by simp; have h1 := HPRE.out.2.2; have h2 := HN.out; omega
                  have hcn : n ≤ capC := by have h1 := HPRE.out.2.2; have h2 := HN.out; omega
                  obtain ⟨gb', capB', e', _, _, _, hatB5⟩ := HN5.out.form2 (ne_nil_of HLEN.out)
                  cases e'
                  have hatC2 : NdsAt 2048 wC (some ⟨gc, 0, none⟩) S.l := by rw [← HPRE.out.2.1]; exact hatC.take _
                  have hpC := HM2.out.one.good.2.2.1
                  have hsm := fun o => tsame_any (K := 2048) (K' := 2048) (w := wC.alloc o) (t := ⟨(S.pars : Int), 0, S.l, [([120], 0)]⟩) (u := ⟨(S'.pars : Int), 0, S.l, [([120], 0)]⟩) (vn := .slice (some ⟨gb, 0, none⟩) S.l.length capB) (vt := .slice (some ⟨gt, 0, none⟩) 1 ctb) (un := .slice (some ⟨gc, 0, none⟩) S.l.length capC) (ut := .slice (some ⟨gt3, 0, none⟩) 1 ct3)
                    ⟨by constructor <;> simp only [] <;> omega, i64_zero, by show S.l.length ≤ _; have := HN.out; omega, by simp, _, _, _, _, rfl, rfl, hatB5.grow (hgC6.trans (Grow.alloc wC o)), hatT5.grow (hgC6.trans (Grow.alloc wC o))⟩
                    ⟨by rw [HPRE.out.1]; constructor <;> simp only [] <;> omega, i64_zero, by show S.l.length ≤ _; have := HN.out; omega, by simp, _, _, _, _, rfl, rfl, hatC2.grow (Grow.alloc wC o), hatT3.grow (Grow.alloc wC o)⟩ (by decide)
                  have hsame : sameTp ⟨(S.pars : Int), 0, S.l, [([120], 0)]⟩ ⟨(S'.pars : Int), 0, S.l, [([120], 0)]⟩ = true := by rw [HPRE.out.1]; exact sameTp_self _
                  rw [hsame] at hsm
                  unfold tpV at hsm
                  dsimp only at hsm
                  rw [← HN.out] at hsm
                  have HSM := Lib.hid hsm
                  have HGC := Lib.hid (Grow.trans HG5.out hgC6)
                  have HPR := Lib.hid HPRE.out.1
                  clear hnC htC hgC hgcP hatC hgt3P hatT3 hgC6 hbC htellC hatT5 hst5 hatB5 hatC2 hpC hsm hsame
                  go_wp2_with (first | (go_at_call 17; (with_reducible refine (HSM.out _).mono ?_)) | fail)
                  rintro e w8 ⟨rfl, hg8⟩
                  have HG8 := Lib.hid (Grow.trans HGC.out (Grow.trans (Grow.alloc _ _) hg8))
                  clear hg8
                  go_wp2_with (first | (go_at_call 8; refine (HH.out _ HG8.out).mono ?_) | fail)
                  rintro e w9 ⟨rfl, hg9⟩
                  have HG9 := Lib.hid (Grow.trans HG8.out hg9)
                  clear hg9
                  go_wp2_with fail
                  go_ret
                  exact ⟨rfl, HG9.out⟩
                · rw [exist_x (Nat.le_trans HLEN.out HPRE.out.2.2)] at h; cases h
          · rw [exist_x HLEN.out] at h; cases h
        · rw [exist_x HLEN.out] at h; cases h
end Go.Proofs.YtofpcdjoljjnoaaDoor
