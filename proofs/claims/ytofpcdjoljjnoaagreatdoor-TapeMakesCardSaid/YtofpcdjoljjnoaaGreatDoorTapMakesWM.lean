/-
  LAYER 17: the laws: a maker makes what the document says.
-/
import Derived.Test.YtofpcdjoljjnoaaGreatDoorTapY24
import Derived.Test.YtofpcdjoljjnoaaGreatDoorTapY22
import Derived.Test.YtofpcdjoljjnoaaGreatDoorTapY15
import Derived.Test.YtofpcdjoljjnoaaGreatDoorTapY20
import Derived.Test.YtofpcdjoljjnoaaGreatDoorTapY18
namespace Go.Proofs.YtofpcdjoljjnoaaGreatDoor
open Go.RowKit Go.Maps

theorem tell_at (w : World) {b : Int} {h : Nat} (hz : w.heap.size = h) (hb : I64 b) : TlsAt (w.alloc (.cells #[.string ⟨#[120]⟩, .int .i64 b] 63)) (some ⟨h, 0, none⟩) [([120], b)] := fun i x hx => by
  have h := BlkOf.news hz #[.string ⟨#[120]⟩, .int .i64 b] 63
  cases i with
  | zero => cases hx; exact ⟨hb, _, 0, rfl, h.at 0 rfl, h.at 1 rfl⟩
  | succ i => simp at hx
def MakeRel (l : List Cl) (m q : Value) (w0 : World) (i : Value) (wr : World) : Prop :=
  ∃ k : Nat, k ≤ l.length ∧ k ≤ 80 ∧ i = .int .i64 (k : Int) ∧ ∃ P Q S, Half w0 wr P Q m q S S
set_option maxRecDepth 100000 in
theorem tmakes_none {n : Int} {A : Option Addr} {len ca : Nat} {w : World} (hn : I64 n) (hlen : (len : Int) ≤ 9223372036854775807) (h : ¬ (1 ≤ n ∧ n ≤ 20000)) (ht : Tab w) :
    Calls Tryz.prog 4 #[.int .i64 n, .slice A len ca] w (Just (.bool true) w) := by
  have HN := Lib.hid (new_nomine w hn h)
  have HN2 := Lib.hid (rnew_nomine w h)
  have HH := Lib.hid (head_any w ht)
  clear hn h ht
  by_cases hl : (0 : Int) < (len : Int)
  all_goals
    go_enter Tryz.func4, Tryz.ntmps4
    go_wp2_with (first | (go_at_call 13; refine HN.out.mono ?_; rintro e w3 ⟨rfl, rfl⟩) | (go_at_call 14; refine HN2.out.mono ?_; rintro e w3 ⟨rfl, rfl⟩) | fail)
    go_loopw [9] (fun i wr => i = .int .i64 0 ∧ wr = w) (fun i _ => 0)
    case atStart => exact ⟨rfl, rfl⟩
    case round =>
      obtain ⟨rfl, rfl⟩ := hrel
      go_wp2_with (first | (go_at_call 6; refine HH.out.mono ?_) | fail)
      rintro e w3 ⟨rfl, hg3⟩
      have HG3 := Lib.hid hg3
      clear hg3
      go_wp2_with fail
      go_ret
      exact ⟨rfl, HG3.out⟩

set_option maxRecDepth 100000 in
set_option maxHeartbeats 64000000 in
set_option linter.unusedVariables false in
theorem tmakes_some {n : Int} {A : Option Addr} {ca : Nat} {l : List Cl} {w : World} (hn : I64 n) (h1 : 1 ≤ n) (h2 : n ≤ 20000) (hl : l.length ≤ 9223372036854775807) (hc : ClsAt w A l) (ht : Tab w) :
    Calls Tryz.prog 4 #[.int .i64 n, .slice A l.length ca] w (Just (.bool true) w) := by
  have HNEW := Lib.hid (new_mine w hn h1 h2)
  have HNEW2 := Lib.hid (fun W => rnew_mine (n := n) W h1 h2)
  have HT := Lib.hid ht
  have HC := Lib.hid hc
  have HH := Lib.hid (fun W (hW : Grow w W) => head_any W (ht.grow hW))
  obtain ⟨N, hN⟩ : ∃ N, N = l.length := ⟨_, rfl⟩
  rw [← hN] at hl ⊢
  have HNN := Lib.hid hN
  clear hc ht hN h1 h2
  go_enter Tryz.func4, Tryz.ntmps4
  go_wp2_with (first | (go_at_call 13; refine HNEW.out.mono ?_) | fail)
  rintro e wa ⟨pm, P, rfl, hm⟩
  have HM := Lib.hid hm
  clear hm
  go_wp2_with (first | (go_at_call 14; refine (HNEW2.out _).mono ?_) | fail)
  rintro e wb ⟨pq, Q, rfl, hgb, hq, hlow⟩
  have HHF : Hid (Half w wb P Q (.pointer (some ⟨pm, 0, none⟩)) (.pointer (some ⟨pq, 0, none⟩)) ⟨n.toNat, 0, []⟩ ⟨n.toNat, 0, []⟩) := Lib.hid ⟨HM.out.one.grow hgb, hq, HM.out.low, fun k hk => Nat.le_trans (Below.size HM.out.grow) (hlow k hk), fun k hk hk2 => by have h3 := HM.out.one.lt k hk; have h4 := hlow k hk2; omega, HM.out.grow.trans hgb⟩
  clear hgb hq hlow HM
  go_wp2_with fail
  go_loopw [9] (fun i wr => MakeRel l (.pointer (some ⟨pm, 0, none⟩)) (.pointer (some ⟨pq, 0, none⟩)) w i wr) (fun i _ => 80 - (intOf i).toNat)
  case atStart => exact ⟨0, by omega, by omega, rfl, _, _, _, HHF.out⟩
  case round =>
    obtain ⟨k, hk, hk80, rfl, P, Q, S, hm⟩ := hrel
    have HM := Lib.hid hm
    have hkN : k ≤ N := by rw [HNN.out]; exact hk
    clear hk hm
    by_cases hgo : k < N ∧ k < 80
    case neg =>
      have HG := Lib.hid HM.out.grow
      by_cases hltI : (k : Int) < (N : Int)
      · have hltJ : ¬ (k : Int) < 80 := by omega
        go_wp2_with (first | (go_at_call 6; refine (HH.out _ HG.out).mono ?_) | fail)
        rintro e w3 ⟨rfl, hg3⟩
        have HG3 := Lib.hid (Grow.trans HG.out hg3)
        clear hg3
        go_wp2_with fail
        go_ret
        exact ⟨rfl, HG3.out⟩
      · go_wp2_with (first | (go_at_call 6; refine (HH.out _ HG.out).mono ?_) | fail)
        rintro e w3 ⟨rfl, hg3⟩
        have HG3 := Lib.hid (Grow.trans HG.out hg3)
        clear hg3
        go_wp2_with fail
        go_ret
        exact ⟨rfl, HG3.out⟩
    obtain ⟨hltN, hlt80⟩ := hgo
    have hltI : (k : Int) < (N : Int) := by omega
    have hltJ : (k : Int) < 80 := by omega
    obtain ⟨c, hcx⟩ : ∃ c, l[k]? = some c := ⟨_, List.getElem?_eq_getElem (by have := HNN.out; omega)⟩
    obtain ⟨b, off, vn, vd, rfl, hcell0, hok⟩ := HC.out k c hcx
    have hcell : ∀ j v, (clCells c vn vd)[j]? = some v → wr.cell? ⟨b, off + k * 7 + j, none⟩ = some v := fun j v hv => by
      have hbl := World.block_lt_of_cell? w _ (hcell0 0 _ rfl)
      exact (HM.out.grow.cell (p := ⟨b, off + k * 7 + j, none⟩) hbl).trans (hcell0 j v hv)
    clear hcell0
    have HOK := Lib.hid hok
    obtain ⟨q, hq⟩ : ∃ q, q = c.what % 8 := ⟨_, rfl⟩
    have HQ := Lib.hid hq
    have hq8 : q < 8 := by omega
    have c0 := hcell 0 _ rfl
    have c1 := hcell 1 _ rfl
    have c2 := hcell 2 _ rfl
    have c3 := hcell 3 _ rfl
    have c4 := hcell 4 _ rfl
    have c5 := hcell 5 _ rfl
    have c6 := hcell 6 _ rfl
    rw [Nat.add_zero] at c0
    obtain ⟨hw256, ho256, ⟨ha1, ha2⟩, ⟨hb1, hb2⟩, ⟨an, cn, rfl, hncap, hnn, hnf, hnat⟩, ⟨ad, cd, rfl, hdcap, hdn, hdf, hdat⟩, hln, hld⟩ := hok
    have hrem : (c.what : Int).tmod 8 = (q : Int) := by rw [hq]; rfl
    have hrem2 : (c.what : Int) % 8 = (q : Int) := by rw [hq]; omega
    obtain ⟨W1, hW1⟩ : ∃ W1, W1 = wr.alloc (.cells #[.int .u8 (c.what : Int), .int .u8 (c.op : Int), .int .i64 c.a, .int .i64 c.b, .bool c.x.s, .slice an c.x.m.length cn, .slice ad c.x.d.length cd] 48) := ⟨_, rfl⟩
    have b1 : BlkOf W1 wr.heap.size #[.int .u8 (c.what : Int), .int .u8 (c.op : Int), .int .i64 c.a, .int .i64 c.b, .bool c.x.s, .slice an c.x.m.length cn, .slice ad c.x.d.length cd] 48 := by rw [hW1]; exact BlkOf.new wr _ _
    have g1 : Grow wr W1 := by rw [hW1]; exact Grow.alloc _ _
    have HS := Lib.hid (small_any c.x.s an ad c.x.m.length c.x.d.length cn cd W1 hln hld)
    obtain ⟨r, hr⟩ : ∃ r, r = (decide (c.x.m.length ≤ 3) && decide (c.x.d.length ≤ 3)) := ⟨_, rfl⟩
    rw [← hr] at HS
    have HRR := Lib.hid hr
    have HB1 := Lib.hid b1
    have HG1 := Lib.hid g1
    have d4 := b1.at 4 rfl
    have d5 := b1.at 5 rfl
    have d6 := b1.at 6 rfl
    subst hW1
    clear hcx hcell hq hr b1 g1 hncap hnn hnf hnat hdcap hdn hdf hdat
    cases r with
    | false =>
      go_wp2_with (first | (go_at_call 15; refine HS.out.mono ?_) | fail)
      rintro e w2 ⟨rfl, hg2⟩
      have HG2 := Lib.hid (Grow.trans HM.out.grow (Grow.trans HG1.out hg2))
      clear hg2 c0 c1 c2 c3 c4 c5 c6 d4 d5 d6
      go_wp2_with (first | (go_at_call 6; refine (HH.out _ HG2.out).mono ?_) | fail)
      rintro e w3 ⟨rfl, hg3⟩
      have HG3 := Lib.hid (Grow.trans HG2.out hg3)
      clear hg3
      go_wp2_with fail
      go_ret
      exact ⟨rfl, HG3.out⟩
    | true =>
      go_wp2_with (first | (go_at_call 15; refine HS.out.mono ?_) | fail)
      rintro e w2 ⟨rfl, hg2⟩
      have HB2 := Lib.hid (HB1.out.below hg2 HB1.out.lt)
      have HM2 := Lib.hid (HM.out.more (Grow.trans HG1.out hg2))
      have HF : Hid (∀ W, Grow w W → FrAt 3 W c.x (.slice an c.x.m.length cn) (.slice ad c.x.d.length cd)) := Lib.hid (fun W hW => by
        have h := HOK.out.grow hW
        have h3 := HRR.out
        simp at h3
        exact ⟨h.2.2.2.2.1, h.2.2.2.2.2.1, h3.1, h3.2⟩)
      clear hg2 c0 c1 c2 c3 c4 c5 c6 d4 d5 d6 HRR HOK
      generalize c.x.m.length = lm at *
      generalize c.x.d.length = ld at *
      have d0 := HB2.out.at 0 rfl
      have d1 := HB2.out.at 1 rfl
      have d2 := HB2.out.at 2 rfl
      have d3 := HB2.out.at 3 rfl
      have d4 := HB2.out.at 4 rfl
      have d5 := HB2.out.at 5 rfl
      have d6 := HB2.out.at 6 rfl
      have hGS : Good S := HM2.out.good
      have HGS := Lib.hid hGS
      clear hGS
      have hq9 : q = 0 ∨ q = 1 ∨ q = 2 ∨ q = 3 ∨ q = 4 ∨ q = 5 ∨ q = 6 ∨ q = 7 := by omega
      rcases hq9 with rfl | rfl | rfl | rfl | rfl | rfl | rfl | rfl
      · obtain ⟨r, hr⟩ : ∃ r, r = numS S c.x := ⟨_, rfl⟩
        have HRE := Lib.hid hr
        have HC1 := Lib.hid (HM2.out.num1 (HF.out _ HM2.out.grow))
        have HC2 : Hid (∀ W P Q, Half w W P Q (.pointer (some ⟨pm, 0, none⟩)) (.pointer (some ⟨pq, 0, none⟩)) S r.2.2 → Calls Tryz.prog 17 #[(.pointer (some ⟨pq, 0, none⟩)), .agg #[.bool c.x.s, .slice an lm cn, .slice ad ld cd]] W (Told2 w W P (.pointer (some ⟨pm, 0, none⟩)) (.pointer (some ⟨pq, 0, none⟩)) r)) := Lib.hid (fun W P Q h => by
          rw [hr] at h ⊢
          have HA := Lib.hid h
          exact Half.num2 HGS.out HA.out (HF.out _ HA.out.grow))
        rw [← hr] at HC1
        clear hr
        obtain ⟨r1, r2, S'⟩ := r
        go_wp2_with (first | (go_at_call 16; refine HC1.out.mono ?_) | fail)
        rintro e w3 ⟨rfl, hkk, P3, hh⟩
        have HB3 := Lib.hid (hkk _ _ HB2.out)
        have HM3 := Lib.hid hh
        clear hkk hh d0 d1 d2 d3 d4 d5 d6
        have d0 := HB3.out.at 0 rfl
        have d1 := HB3.out.at 1 rfl
        have d2 := HB3.out.at 2 rfl
        have d3 := HB3.out.at 3 rfl
        have d4 := HB3.out.at 4 rfl
        have d5 := HB3.out.at 5 rfl
        have d6 := HB3.out.at 6 rfl
        dsimp only at *
        go_wp2_with (first | (go_at_call 17; refine (HC2.out _ _ _ HM3.out).mono ?_) | fail)
        rintro e w4 ⟨rfl, hkk, Q4, hh⟩
        have HM4 := Lib.hid hh
        clear hkk hh d0 d1 d2 d3 d4 d5 d6
        dsimp only at *
        go_wp2_with fail
        rename_i K0 hK0
        have HLEN := Lib.hid (fun W (hW : Grow w4 W) => len_some (HM4.out.one.grow hW))
        obtain ⟨A2, c2, hq2⟩ : ∃ A2 c2, ∀ W, Grow w4 W → W.cell? ⟨pq, 2, none⟩ = some (.slice A2 S'.l.length c2) := by
          obtain ⟨pq', A2, c2, e1, e2, e3⟩ := HM4.out.two.row
          cases e1
          exact ⟨A2, c2, fun W hW => (hW.cell (p := ⟨pq, 2, none⟩) e3).trans e2⟩
        obtain ⟨zl, hzl⟩ : ∃ zl : Nat, zl = S'.l.length := ⟨_, rfl⟩
        rw [← hzl] at HLEN hq2
        have KC := Lib.hid hq2
        clear hq2 hzl
        refine wp_region_listG [fun v _ => v = .int .i64 r1, fun v _ => v = .int .i64 r1, fun v _ => v = .bool false, fun v _ => v = .bool false, fun v _ => v = .int .i64 r2, fun v _ => v = .int .i64 r2, fun v _ => v = .bool false, fun v _ => v = .bool false, fun v _ => v = .bool false, fun v _ => v = .pointer (some ⟨pm, 0, none⟩), fun v _ => v = .int .i64 (zl : Int), fun v _ => v = .pointer (some ⟨pq, 0, none⟩), fun v _ => v = .pointer (some ⟨pq, 0, none⟩), fun v _ => v = .pointer (some ⟨pq, 2, none⟩), fun v _ => v = .slice A2 zl c2, fun v _ => v = .int .i64 (zl : Int), fun v _ => v = .bool false]
          [(5, .pointer (some ⟨pm, 0, none⟩)), (7, .pointer (some ⟨pq, 0, none⟩)), (11, .int .i64 r1), (12, .int .i64 r1), (13, .int .i64 r2), (14, .int .i64 r2)] 17 (by kernel_rfl) ⟨stays_pure _, stays_pure _, stays_pure _, stays_pure _, stays_pure _, stays_pure _, stays_pure _, stays_pure _, stays_pure _, stays_pure _, stays_pure _, stays_pure _, stays_pure _, stays_pure _, stays_pure _, stays_pure _, stays_pure _, trivial⟩ rfl (by kernel_rfl) rfl ?base (by kernel_rfl) ⟨?_, ?_, ?_, ?_, ?_, ?_, ?_, ?_, ?_, ?_, ?_, ?_, ?_, ?_, ?_, ?_, ?_, trivial⟩ ?last
        case base => simp
        case last =>
          intro vs W hW hv
          simp only [FactsL, Nat.zero_add, Nat.reduceAdd] at hv
          have v8 := hv.2.2.2.2.2.2.2.2.1
          have v16 := hv.2.2.2.2.2.2.2.2.2.2.2.2.2.2.2.2.1
          clear hv
          refine ⟨rfl, ?_⟩
          simp only [List.take_succ_cons, List.take_zero, putF, Act.put, List.setIfInBounds_toArray, List.set_cons_zero, List.set_cons_succ, Nat.reduceAdd, v8, v16]
          unfold Oper.wp
          simp [execOp, go_sem]
          refine hK0 _ _ ?_
          have HME := Lib.hid (HM4.out.more hW)
          clear hW
          go_wp2_with fail
          exact ⟨⟨k + 1, by have := HNN.out; omega, by omega, by go_num, _, _, _, HME.out⟩, by simp [intOf]; omega⟩
        all_goals
          intro a' W hW hb hf
          have t2 := KC.out W hW
          simp only [List.forall_mem_cons, List.not_mem_nil, false_imp_iff, implies_true, and_true] at hb
          obtain ⟨m5, m7, m11, m12, m13, m14⟩ := hb
          simp [FactsOf, FactAt, Region.binds, factsL] at hf
        · refine .inl ⟨rfl, fun K hK => ?_⟩
          unfold Oper.wp
          simp [execOp, go_sem, *]
          exact hK _ _ (Grow.refl _) rfl
        · refine .inl ⟨rfl, fun K hK => ?_⟩
          unfold Oper.wp
          simp [execOp, go_sem, *]
          exact hK _ _ (Grow.refl _) rfl
        · refine .inl ⟨rfl, fun K hK => ?_⟩
          unfold Oper.wp
          simp [execOp, go_sem, *]
          exact hK _ _ (Grow.refl _) rfl
        · refine .inl ⟨rfl, fun K hK => ?_⟩
          unfold Oper.wp
          simp [execOp, go_sem, *]
          exact hK _ _ (Grow.refl _) rfl
        · refine .inl ⟨wanted_yes (j := 3) (b := false) rfl (yielded_of (d := 176) rfl (by simp [hf])), fun K hK => ?_⟩
          unfold Oper.wp
          simp [execOp, go_sem, *]
          exact hK _ _ (Grow.refl _) rfl
        · refine .inl ⟨wanted_yes (j := 3) (b := false) rfl (yielded_of (d := 176) rfl (by simp [hf])), fun K hK => ?_⟩
          unfold Oper.wp
          simp [execOp, go_sem, *]
          exact hK _ _ (Grow.refl _) rfl
        · refine .inl ⟨wanted_yes (j := 3) (b := false) rfl (yielded_of (d := 176) rfl (by simp [hf])), fun K hK => ?_⟩
          unfold Oper.wp
          simp [execOp, go_sem, *]
          exact hK _ _ (Grow.refl _) rfl
        · refine .inl ⟨rfl, fun K hK => ?_⟩
          unfold Oper.wp
          simp [execOp, go_sem, *]
          exact hK _ _ (Grow.refl _) rfl
        · refine .inl ⟨rfl, fun K hK => ?_⟩
          unfold Oper.wp
          simp [execOp, go_sem, *]
          exact hK _ _ (Grow.refl _) rfl
        · refine .inl ⟨wanted_yes (j := 8) (b := false) rfl (yielded_of (d := 181) rfl (by simp [hf])), fun K hK => ?_⟩
          unfold Oper.wp
          simp [execOp, go_sem, *]
          exact hK _ _ (Grow.refl _) rfl
        · refine .inl ⟨wanted_yes (j := 8) (b := false) rfl (yielded_of (d := 181) rfl (by simp [hf])), fun K hK => ?_⟩
          unfold Oper.wp
          simp [go_sem, *]
          refine (HLEN.out _ hW).mono ?_
          rintro e W' ⟨rfl, rfl⟩
          exact hK _ _ (Grow.refl _) rfl
        · refine .inl ⟨wanted_yes (j := 8) (b := false) rfl (yielded_of (d := 181) rfl (by simp [hf])), fun K hK => ?_⟩
          unfold Oper.wp
          simp [execOp, go_sem, *]
          exact hK _ _ (Grow.refl _) rfl
        · refine .inl ⟨wanted_yes (j := 8) (b := false) rfl (yielded_of (d := 181) rfl (by simp [hf])), fun K hK => ?_⟩
          unfold Oper.wp
          simp [execOp, go_sem, *]
          exact hK _ _ (Grow.refl _) rfl
        · refine .inl ⟨wanted_yes (j := 8) (b := false) rfl (yielded_of (d := 181) rfl (by simp [hf])), fun K hK => ?_⟩
          unfold Oper.wp
          simp [execOp, go_sem, *]
          exact hK _ _ (Grow.refl _) rfl
        · refine .inl ⟨wanted_yes (j := 8) (b := false) rfl (yielded_of (d := 181) rfl (by simp [hf])), fun K hK => ?_⟩
          unfold Oper.wp
          simp [execOp, go_sem, *]
          exact hK _ _ (Grow.refl _) rfl
        · refine .inl ⟨wanted_yes (j := 8) (b := false) rfl (yielded_of (d := 181) rfl (by simp [hf])), fun K hK => ?_⟩
          unfold Oper.wp
          simp [go_sem, *]
          exact hK _ _ (Grow.refl _) rfl
        · refine .inl ⟨wanted_yes (j := 8) (b := false) rfl (yielded_of (d := 181) rfl (by simp [hf])), fun K hK => ?_⟩
          unfold Oper.wp
          simp [execOp, go_sem, *]
          exact hK _ _ (Grow.refl _) rfl
      · obtain ⟨r, hr⟩ : ∃ r, r = numS S c.x := ⟨_, rfl⟩
        have HRE := Lib.hid hr
        have HC1 := Lib.hid (HM2.out.num1 (HF.out _ HM2.out.grow))
        have HC2 : Hid (∀ W P Q, Half w W P Q (.pointer (some ⟨pm, 0, none⟩)) (.pointer (some ⟨pq, 0, none⟩)) S r.2.2 → Calls Tryz.prog 17 #[(.pointer (some ⟨pq, 0, none⟩)), .agg #[.bool c.x.s, .slice an lm cn, .slice ad ld cd]] W (Told2 w W P (.pointer (some ⟨pm, 0, none⟩)) (.pointer (some ⟨pq, 0, none⟩)) r)) := Lib.hid (fun W P Q h => by
          rw [hr] at h ⊢
          have HA := Lib.hid h
          exact Half.num2 HGS.out HA.out (HF.out _ HA.out.grow))
        rw [← hr] at HC1
        clear hr
        obtain ⟨r1, r2, S'⟩ := r
        go_wp2_with (first | (go_at_call 16; refine HC1.out.mono ?_) | fail)
        rintro e w3 ⟨rfl, hkk, P3, hh⟩
        have HB3 := Lib.hid (hkk _ _ HB2.out)
        have HM3 := Lib.hid hh
        clear hkk hh d0 d1 d2 d3 d4 d5 d6
        have d0 := HB3.out.at 0 rfl
        have d1 := HB3.out.at 1 rfl
        have d2 := HB3.out.at 2 rfl
        have d3 := HB3.out.at 3 rfl
        have d4 := HB3.out.at 4 rfl
        have d5 := HB3.out.at 5 rfl
        have d6 := HB3.out.at 6 rfl
        dsimp only at *
        go_wp2_with (first | (go_at_call 17; refine (HC2.out _ _ _ HM3.out).mono ?_) | fail)
        rintro e w4 ⟨rfl, hkk, Q4, hh⟩
        have HM4 := Lib.hid hh
        clear hkk hh d0 d1 d2 d3 d4 d5 d6
        dsimp only at *
        go_wp2_with fail
        rename_i K0 hK0
        have HLEN := Lib.hid (fun W (hW : Grow w4 W) => len_some (HM4.out.one.grow hW))
        obtain ⟨A2, c2, hq2⟩ : ∃ A2 c2, ∀ W, Grow w4 W → W.cell? ⟨pq, 2, none⟩ = some (.slice A2 S'.l.length c2) := by
          obtain ⟨pq', A2, c2, e1, e2, e3⟩ := HM4.out.two.row
          cases e1
          exact ⟨A2, c2, fun W hW => (hW.cell (p := ⟨pq, 2, none⟩) e3).trans e2⟩
        obtain ⟨zl, hzl⟩ : ∃ zl : Nat, zl = S'.l.length := ⟨_, rfl⟩
        rw [← hzl] at HLEN hq2
        have KC := Lib.hid hq2
        clear hq2 hzl
        refine wp_region_listG [fun v _ => v = .int .i64 r1, fun v _ => v = .int .i64 r1, fun v _ => v = .bool false, fun v _ => v = .bool false, fun v _ => v = .int .i64 r2, fun v _ => v = .int .i64 r2, fun v _ => v = .bool false, fun v _ => v = .bool false, fun v _ => v = .bool false, fun v _ => v = .pointer (some ⟨pm, 0, none⟩), fun v _ => v = .int .i64 (zl : Int), fun v _ => v = .pointer (some ⟨pq, 0, none⟩), fun v _ => v = .pointer (some ⟨pq, 0, none⟩), fun v _ => v = .pointer (some ⟨pq, 2, none⟩), fun v _ => v = .slice A2 zl c2, fun v _ => v = .int .i64 (zl : Int), fun v _ => v = .bool false]
          [(5, .pointer (some ⟨pm, 0, none⟩)), (7, .pointer (some ⟨pq, 0, none⟩)), (11, .int .i64 r1), (12, .int .i64 r1), (13, .int .i64 r2), (14, .int .i64 r2)] 17 (by kernel_rfl) ⟨stays_pure _, stays_pure _, stays_pure _, stays_pure _, stays_pure _, stays_pure _, stays_pure _, stays_pure _, stays_pure _, stays_pure _, stays_pure _, stays_pure _, stays_pure _, stays_pure _, stays_pure _, stays_pure _, stays_pure _, trivial⟩ rfl (by kernel_rfl) rfl ?base (by kernel_rfl) ⟨?_, ?_, ?_, ?_, ?_, ?_, ?_, ?_, ?_, ?_, ?_, ?_, ?_, ?_, ?_, ?_, ?_, trivial⟩ ?last
        case base => simp
        case last =>
          intro vs W hW hv
          simp only [FactsL, Nat.zero_add, Nat.reduceAdd] at hv
          have v8 := hv.2.2.2.2.2.2.2.2.1
          have v16 := hv.2.2.2.2.2.2.2.2.2.2.2.2.2.2.2.2.1
          clear hv
          refine ⟨rfl, ?_⟩
          simp only [List.take_succ_cons, List.take_zero, putF, Act.put, List.setIfInBounds_toArray, List.set_cons_zero, List.set_cons_succ, Nat.reduceAdd, v8, v16]
          unfold Oper.wp
          simp [execOp, go_sem]
          refine hK0 _ _ ?_
          have HME := Lib.hid (HM4.out.more hW)
          clear hW
          go_wp2_with fail
          exact ⟨⟨k + 1, by have := HNN.out; omega, by omega, by go_num, _, _, _, HME.out⟩, by simp [intOf]; omega⟩
        all_goals
          intro a' W hW hb hf
          have t2 := KC.out W hW
          simp only [List.forall_mem_cons, List.not_mem_nil, false_imp_iff, implies_true, and_true] at hb
          obtain ⟨m5, m7, m11, m12, m13, m14⟩ := hb
          simp [FactsOf, FactAt, Region.binds, factsL] at hf
        · refine .inl ⟨rfl, fun K hK => ?_⟩
          unfold Oper.wp
          simp [execOp, go_sem, *]
          exact hK _ _ (Grow.refl _) rfl
        · refine .inl ⟨rfl, fun K hK => ?_⟩
          unfold Oper.wp
          simp [execOp, go_sem, *]
          exact hK _ _ (Grow.refl _) rfl
        · refine .inl ⟨rfl, fun K hK => ?_⟩
          unfold Oper.wp
          simp [execOp, go_sem, *]
          exact hK _ _ (Grow.refl _) rfl
        · refine .inl ⟨rfl, fun K hK => ?_⟩
          unfold Oper.wp
          simp [execOp, go_sem, *]
          exact hK _ _ (Grow.refl _) rfl
        · refine .inl ⟨wanted_yes (j := 3) (b := false) rfl (yielded_of (d := 176) rfl (by simp [hf])), fun K hK => ?_⟩
          unfold Oper.wp
          simp [execOp, go_sem, *]
          exact hK _ _ (Grow.refl _) rfl
        · refine .inl ⟨wanted_yes (j := 3) (b := false) rfl (yielded_of (d := 176) rfl (by simp [hf])), fun K hK => ?_⟩
          unfold Oper.wp
          simp [execOp, go_sem, *]
          exact hK _ _ (Grow.refl _) rfl
        · refine .inl ⟨wanted_yes (j := 3) (b := false) rfl (yielded_of (d := 176) rfl (by simp [hf])), fun K hK => ?_⟩
          unfold Oper.wp
          simp [execOp, go_sem, *]
          exact hK _ _ (Grow.refl _) rfl
        · refine .inl ⟨rfl, fun K hK => ?_⟩
          unfold Oper.wp
          simp [execOp, go_sem, *]
          exact hK _ _ (Grow.refl _) rfl
        · refine .inl ⟨rfl, fun K hK => ?_⟩
          unfold Oper.wp
          simp [execOp, go_sem, *]
          exact hK _ _ (Grow.refl _) rfl
        · refine .inl ⟨wanted_yes (j := 8) (b := false) rfl (yielded_of (d := 181) rfl (by simp [hf])), fun K hK => ?_⟩
          unfold Oper.wp
          simp [execOp, go_sem, *]
          exact hK _ _ (Grow.refl _) rfl
        · refine .inl ⟨wanted_yes (j := 8) (b := false) rfl (yielded_of (d := 181) rfl (by simp [hf])), fun K hK => ?_⟩
          unfold Oper.wp
          simp [go_sem, *]
          refine (HLEN.out _ hW).mono ?_
          rintro e W' ⟨rfl, rfl⟩
          exact hK _ _ (Grow.refl _) rfl
        · refine .inl ⟨wanted_yes (j := 8) (b := false) rfl (yielded_of (d := 181) rfl (by simp [hf])), fun K hK => ?_⟩
          unfold Oper.wp
          simp [execOp, go_sem, *]
          exact hK _ _ (Grow.refl _) rfl
        · refine .inl ⟨wanted_yes (j := 8) (b := false) rfl (yielded_of (d := 181) rfl (by simp [hf])), fun K hK => ?_⟩
          unfold Oper.wp
          simp [execOp, go_sem, *]
          exact hK _ _ (Grow.refl _) rfl
        · refine .inl ⟨wanted_yes (j := 8) (b := false) rfl (yielded_of (d := 181) rfl (by simp [hf])), fun K hK => ?_⟩
          unfold Oper.wp
          simp [execOp, go_sem, *]
          exact hK _ _ (Grow.refl _) rfl
        · refine .inl ⟨wanted_yes (j := 8) (b := false) rfl (yielded_of (d := 181) rfl (by simp [hf])), fun K hK => ?_⟩
          unfold Oper.wp
          simp [execOp, go_sem, *]
          exact hK _ _ (Grow.refl _) rfl
        · refine .inl ⟨wanted_yes (j := 8) (b := false) rfl (yielded_of (d := 181) rfl (by simp [hf])), fun K hK => ?_⟩
          unfold Oper.wp
          simp [go_sem, *]
          exact hK _ _ (Grow.refl _) rfl
        · refine .inl ⟨wanted_yes (j := 8) (b := false) rfl (yielded_of (d := 181) rfl (by simp [hf])), fun K hK => ?_⟩
          unfold Oper.wp
          simp [execOp, go_sem, *]
          exact hK _ _ (Grow.refl _) rfl
      · obtain ⟨r, hr⟩ : ∃ r, r = parS S := ⟨_, rfl⟩
        have HRE := Lib.hid hr
        have HC1 := Lib.hid (HM2.out.par1)
        have HC2 : Hid (∀ W P Q, Half w W P Q (.pointer (some ⟨pm, 0, none⟩)) (.pointer (some ⟨pq, 0, none⟩)) S r.2.2 → Calls Tryz.prog 19 #[(.pointer (some ⟨pq, 0, none⟩))] W (Told2 w W P (.pointer (some ⟨pm, 0, none⟩)) (.pointer (some ⟨pq, 0, none⟩)) r)) := Lib.hid (fun W P Q h => by
          rw [hr] at h ⊢
          have HA := Lib.hid h
          exact Half.par2 HGS.out HA.out)
        rw [← hr] at HC1
        clear hr
        obtain ⟨r1, r2, S'⟩ := r
        go_wp2_with (first | (go_at_call 18; refine HC1.out.mono ?_) | fail)
        rintro e w3 ⟨rfl, hkk, P3, hh⟩
        have HB3 := Lib.hid (hkk _ _ HB2.out)
        have HM3 := Lib.hid hh
        clear hkk hh d0 d1 d2 d3 d4 d5 d6
        have d0 := HB3.out.at 0 rfl
        have d1 := HB3.out.at 1 rfl
        have d2 := HB3.out.at 2 rfl
        have d3 := HB3.out.at 3 rfl
        have d4 := HB3.out.at 4 rfl
        have d5 := HB3.out.at 5 rfl
        have d6 := HB3.out.at 6 rfl
        dsimp only at *
        go_wp2_with (first | (go_at_call 19; refine (HC2.out _ _ _ HM3.out).mono ?_) | fail)
        rintro e w4 ⟨rfl, hkk, Q4, hh⟩
        have HM4 := Lib.hid hh
        clear hkk hh d0 d1 d2 d3 d4 d5 d6
        dsimp only at *
        go_wp2_with fail
        rename_i K0 hK0
        have HLEN := Lib.hid (fun W (hW : Grow w4 W) => len_some (HM4.out.one.grow hW))
        obtain ⟨A2, c2, hq2⟩ : ∃ A2 c2, ∀ W, Grow w4 W → W.cell? ⟨pq, 2, none⟩ = some (.slice A2 S'.l.length c2) := by
          obtain ⟨pq', A2, c2, e1, e2, e3⟩ := HM4.out.two.row
          cases e1
          exact ⟨A2, c2, fun W hW => (hW.cell (p := ⟨pq, 2, none⟩) e3).trans e2⟩
        obtain ⟨zl, hzl⟩ : ∃ zl : Nat, zl = S'.l.length := ⟨_, rfl⟩
        rw [← hzl] at HLEN hq2
        have KC := Lib.hid hq2
        clear hq2 hzl
        refine wp_region_listG [fun v _ => v = .int .i64 r1, fun v _ => v = .int .i64 r1, fun v _ => v = .bool false, fun v _ => v = .bool false, fun v _ => v = .int .i64 r2, fun v _ => v = .int .i64 r2, fun v _ => v = .bool false, fun v _ => v = .bool false, fun v _ => v = .bool false, fun v _ => v = .pointer (some ⟨pm, 0, none⟩), fun v _ => v = .int .i64 (zl : Int), fun v _ => v = .pointer (some ⟨pq, 0, none⟩), fun v _ => v = .pointer (some ⟨pq, 0, none⟩), fun v _ => v = .pointer (some ⟨pq, 2, none⟩), fun v _ => v = .slice A2 zl c2, fun v _ => v = .int .i64 (zl : Int), fun v _ => v = .bool false]
          [(5, .pointer (some ⟨pm, 0, none⟩)), (7, .pointer (some ⟨pq, 0, none⟩)), (11, .int .i64 r1), (12, .int .i64 r1), (13, .int .i64 r2), (14, .int .i64 r2)] 17 (by kernel_rfl) ⟨stays_pure _, stays_pure _, stays_pure _, stays_pure _, stays_pure _, stays_pure _, stays_pure _, stays_pure _, stays_pure _, stays_pure _, stays_pure _, stays_pure _, stays_pure _, stays_pure _, stays_pure _, stays_pure _, stays_pure _, trivial⟩ rfl (by kernel_rfl) rfl ?base (by kernel_rfl) ⟨?_, ?_, ?_, ?_, ?_, ?_, ?_, ?_, ?_, ?_, ?_, ?_, ?_, ?_, ?_, ?_, ?_, trivial⟩ ?last
        case base => simp
        case last =>
          intro vs W hW hv
          simp only [FactsL, Nat.zero_add, Nat.reduceAdd] at hv
          have v8 := hv.2.2.2.2.2.2.2.2.1
          have v16 := hv.2.2.2.2.2.2.2.2.2.2.2.2.2.2.2.2.1
          clear hv
          refine ⟨rfl, ?_⟩
          simp only [List.take_succ_cons, List.take_zero, putF, Act.put, List.setIfInBounds_toArray, List.set_cons_zero, List.set_cons_succ, Nat.reduceAdd, v8, v16]
          unfold Oper.wp
          simp [execOp, go_sem]
          refine hK0 _ _ ?_
          have HME := Lib.hid (HM4.out.more hW)
          clear hW
          go_wp2_with fail
          exact ⟨⟨k + 1, by have := HNN.out; omega, by omega, by go_num, _, _, _, HME.out⟩, by simp [intOf]; omega⟩
        all_goals
          intro a' W hW hb hf
          have t2 := KC.out W hW
          simp only [List.forall_mem_cons, List.not_mem_nil, false_imp_iff, implies_true, and_true] at hb
          obtain ⟨m5, m7, m11, m12, m13, m14⟩ := hb
          simp [FactsOf, FactAt, Region.binds, factsL] at hf
        · refine .inl ⟨rfl, fun K hK => ?_⟩
          unfold Oper.wp
          simp [execOp, go_sem, *]
          exact hK _ _ (Grow.refl _) rfl
        · refine .inl ⟨rfl, fun K hK => ?_⟩
          unfold Oper.wp
          simp [execOp, go_sem, *]
          exact hK _ _ (Grow.refl _) rfl
        · refine .inl ⟨rfl, fun K hK => ?_⟩
          unfold Oper.wp
          simp [execOp, go_sem, *]
          exact hK _ _ (Grow.refl _) rfl
        · refine .inl ⟨rfl, fun K hK => ?_⟩
          unfold Oper.wp
          simp [execOp, go_sem, *]
          exact hK _ _ (Grow.refl _) rfl
        · refine .inl ⟨wanted_yes (j := 3) (b := false) rfl (yielded_of (d := 176) rfl (by simp [hf])), fun K hK => ?_⟩
          unfold Oper.wp
          simp [execOp, go_sem, *]
          exact hK _ _ (Grow.refl _) rfl
        · refine .inl ⟨wanted_yes (j := 3) (b := false) rfl (yielded_of (d := 176) rfl (by simp [hf])), fun K hK => ?_⟩
          unfold Oper.wp
          simp [execOp, go_sem, *]
          exact hK _ _ (Grow.refl _) rfl
        · refine .inl ⟨wanted_yes (j := 3) (b := false) rfl (yielded_of (d := 176) rfl (by simp [hf])), fun K hK => ?_⟩
          unfold Oper.wp
          simp [execOp, go_sem, *]
          exact hK _ _ (Grow.refl _) rfl
        · refine .inl ⟨rfl, fun K hK => ?_⟩
          unfold Oper.wp
          simp [execOp, go_sem, *]
          exact hK _ _ (Grow.refl _) rfl
        · refine .inl ⟨rfl, fun K hK => ?_⟩
          unfold Oper.wp
          simp [execOp, go_sem, *]
          exact hK _ _ (Grow.refl _) rfl
        · refine .inl ⟨wanted_yes (j := 8) (b := false) rfl (yielded_of (d := 181) rfl (by simp [hf])), fun K hK => ?_⟩
          unfold Oper.wp
          simp [execOp, go_sem, *]
          exact hK _ _ (Grow.refl _) rfl
        · refine .inl ⟨wanted_yes (j := 8) (b := false) rfl (yielded_of (d := 181) rfl (by simp [hf])), fun K hK => ?_⟩
          unfold Oper.wp
          simp [go_sem, *]
          refine (HLEN.out _ hW).mono ?_
          rintro e W' ⟨rfl, rfl⟩
          exact hK _ _ (Grow.refl _) rfl
        · refine .inl ⟨wanted_yes (j := 8) (b := false) rfl (yielded_of (d := 181) rfl (by simp [hf])), fun K hK => ?_⟩
          unfold Oper.wp
          simp [execOp, go_sem, *]
          exact hK _ _ (Grow.refl _) rfl
        · refine .inl ⟨wanted_yes (j := 8) (b := false) rfl (yielded_of (d := 181) rfl (by simp [hf])), fun K hK => ?_⟩
          unfold Oper.wp
          simp [execOp, go_sem, *]
          exact hK _ _ (Grow.refl _) rfl
        · refine .inl ⟨wanted_yes (j := 8) (b := false) rfl (yielded_of (d := 181) rfl (by simp [hf])), fun K hK => ?_⟩
          unfold Oper.wp
          simp [execOp, go_sem, *]
          exact hK _ _ (Grow.refl _) rfl
        · refine .inl ⟨wanted_yes (j := 8) (b := false) rfl (yielded_of (d := 181) rfl (by simp [hf])), fun K hK => ?_⟩
          unfold Oper.wp
          simp [execOp, go_sem, *]
          exact hK _ _ (Grow.refl _) rfl
        · refine .inl ⟨wanted_yes (j := 8) (b := false) rfl (yielded_of (d := 181) rfl (by simp [hf])), fun K hK => ?_⟩
          unfold Oper.wp
          simp [go_sem, *]
          exact hK _ _ (Grow.refl _) rfl
        · refine .inl ⟨wanted_yes (j := 8) (b := false) rfl (yielded_of (d := 181) rfl (by simp [hf])), fun K hK => ?_⟩
          unfold Oper.wp
          simp [execOp, go_sem, *]
          exact hK _ _ (Grow.refl _) rfl
      · obtain ⟨r, hr⟩ : ∃ r, r = oneS S c.op c.a := ⟨_, rfl⟩
        have HRE := Lib.hid hr
        have HC1 := Lib.hid (HM2.out.single1 HT.out ho256 ⟨ha1, ha2⟩)
        have HC2 : Hid (∀ W P Q, Half w W P Q (.pointer (some ⟨pm, 0, none⟩)) (.pointer (some ⟨pq, 0, none⟩)) S r.2.2 → Calls Tryz.prog 21 #[(.pointer (some ⟨pq, 0, none⟩)), .int .u8 (c.op : Int), .int .i64 c.a] W (Told2 w W P (.pointer (some ⟨pm, 0, none⟩)) (.pointer (some ⟨pq, 0, none⟩)) r)) := Lib.hid (fun W P Q h => by
          rw [hr] at h ⊢
          have HA := Lib.hid h
          exact Half.single2 HGS.out HA.out ho256 ⟨ha1, ha2⟩)
        rw [← hr] at HC1
        clear hr
        obtain ⟨r1, r2, S'⟩ := r
        go_wp2_with (first | (go_at_call 20; refine HC1.out.mono ?_) | fail)
        rintro e w3 ⟨rfl, hkk, P3, hh⟩
        have HB3 := Lib.hid (hkk _ _ HB2.out)
        have HM3 := Lib.hid hh
        clear hkk hh d0 d1 d2 d3 d4 d5 d6
        have d0 := HB3.out.at 0 rfl
        have d1 := HB3.out.at 1 rfl
        have d2 := HB3.out.at 2 rfl
        have d3 := HB3.out.at 3 rfl
        have d4 := HB3.out.at 4 rfl
        have d5 := HB3.out.at 5 rfl
        have d6 := HB3.out.at 6 rfl
        dsimp only at *
        go_wp2_with (first | (go_at_call 21; refine (HC2.out _ _ _ HM3.out).mono ?_) | fail)
        rintro e w4 ⟨rfl, hkk, Q4, hh⟩
        have HM4 := Lib.hid hh
        clear hkk hh d0 d1 d2 d3 d4 d5 d6
        dsimp only at *
        go_wp2_with fail
        rename_i K0 hK0
        have HLEN := Lib.hid (fun W (hW : Grow w4 W) => len_some (HM4.out.one.grow hW))
        obtain ⟨A2, c2, hq2⟩ : ∃ A2 c2, ∀ W, Grow w4 W → W.cell? ⟨pq, 2, none⟩ = some (.slice A2 S'.l.length c2) := by
          obtain ⟨pq', A2, c2, e1, e2, e3⟩ := HM4.out.two.row
          cases e1
          exact ⟨A2, c2, fun W hW => (hW.cell (p := ⟨pq, 2, none⟩) e3).trans e2⟩
        obtain ⟨zl, hzl⟩ : ∃ zl : Nat, zl = S'.l.length := ⟨_, rfl⟩
        rw [← hzl] at HLEN hq2
        have KC := Lib.hid hq2
        clear hq2 hzl
        refine wp_region_listG [fun v _ => v = .int .i64 r1, fun v _ => v = .int .i64 r1, fun v _ => v = .bool false, fun v _ => v = .bool false, fun v _ => v = .int .i64 r2, fun v _ => v = .int .i64 r2, fun v _ => v = .bool false, fun v _ => v = .bool false, fun v _ => v = .bool false, fun v _ => v = .pointer (some ⟨pm, 0, none⟩), fun v _ => v = .int .i64 (zl : Int), fun v _ => v = .pointer (some ⟨pq, 0, none⟩), fun v _ => v = .pointer (some ⟨pq, 0, none⟩), fun v _ => v = .pointer (some ⟨pq, 2, none⟩), fun v _ => v = .slice A2 zl c2, fun v _ => v = .int .i64 (zl : Int), fun v _ => v = .bool false]
          [(5, .pointer (some ⟨pm, 0, none⟩)), (7, .pointer (some ⟨pq, 0, none⟩)), (11, .int .i64 r1), (12, .int .i64 r1), (13, .int .i64 r2), (14, .int .i64 r2)] 17 (by kernel_rfl) ⟨stays_pure _, stays_pure _, stays_pure _, stays_pure _, stays_pure _, stays_pure _, stays_pure _, stays_pure _, stays_pure _, stays_pure _, stays_pure _, stays_pure _, stays_pure _, stays_pure _, stays_pure _, stays_pure _, stays_pure _, trivial⟩ rfl (by kernel_rfl) rfl ?base (by kernel_rfl) ⟨?_, ?_, ?_, ?_, ?_, ?_, ?_, ?_, ?_, ?_, ?_, ?_, ?_, ?_, ?_, ?_, ?_, trivial⟩ ?last
        case base => simp
        case last =>
          intro vs W hW hv
          simp only [FactsL, Nat.zero_add, Nat.reduceAdd] at hv
          have v8 := hv.2.2.2.2.2.2.2.2.1
          have v16 := hv.2.2.2.2.2.2.2.2.2.2.2.2.2.2.2.2.1
          clear hv
          refine ⟨rfl, ?_⟩
          simp only [List.take_succ_cons, List.take_zero, putF, Act.put, List.setIfInBounds_toArray, List.set_cons_zero, List.set_cons_succ, Nat.reduceAdd, v8, v16]
          unfold Oper.wp
          simp [execOp, go_sem]
          refine hK0 _ _ ?_
          have HME := Lib.hid (HM4.out.more hW)
          clear hW
          go_wp2_with fail
          exact ⟨⟨k + 1, by have := HNN.out; omega, by omega, by go_num, _, _, _, HME.out⟩, by simp [intOf]; omega⟩
        all_goals
          intro a' W hW hb hf
          have t2 := KC.out W hW
          simp only [List.forall_mem_cons, List.not_mem_nil, false_imp_iff, implies_true, and_true] at hb
          obtain ⟨m5, m7, m11, m12, m13, m14⟩ := hb
          simp [FactsOf, FactAt, Region.binds, factsL] at hf
        · refine .inl ⟨rfl, fun K hK => ?_⟩
          unfold Oper.wp
          simp [execOp, go_sem, *]
          exact hK _ _ (Grow.refl _) rfl
        · refine .inl ⟨rfl, fun K hK => ?_⟩
          unfold Oper.wp
          simp [execOp, go_sem, *]
          exact hK _ _ (Grow.refl _) rfl
        · refine .inl ⟨rfl, fun K hK => ?_⟩
          unfold Oper.wp
          simp [execOp, go_sem, *]
          exact hK _ _ (Grow.refl _) rfl
        · refine .inl ⟨rfl, fun K hK => ?_⟩
          unfold Oper.wp
          simp [execOp, go_sem, *]
          exact hK _ _ (Grow.refl _) rfl
        · refine .inl ⟨wanted_yes (j := 3) (b := false) rfl (yielded_of (d := 176) rfl (by simp [hf])), fun K hK => ?_⟩
          unfold Oper.wp
          simp [execOp, go_sem, *]
          exact hK _ _ (Grow.refl _) rfl
        · refine .inl ⟨wanted_yes (j := 3) (b := false) rfl (yielded_of (d := 176) rfl (by simp [hf])), fun K hK => ?_⟩
          unfold Oper.wp
          simp [execOp, go_sem, *]
          exact hK _ _ (Grow.refl _) rfl
        · refine .inl ⟨wanted_yes (j := 3) (b := false) rfl (yielded_of (d := 176) rfl (by simp [hf])), fun K hK => ?_⟩
          unfold Oper.wp
          simp [execOp, go_sem, *]
          exact hK _ _ (Grow.refl _) rfl
        · refine .inl ⟨rfl, fun K hK => ?_⟩
          unfold Oper.wp
          simp [execOp, go_sem, *]
          exact hK _ _ (Grow.refl _) rfl
        · refine .inl ⟨rfl, fun K hK => ?_⟩
          unfold Oper.wp
          simp [execOp, go_sem, *]
          exact hK _ _ (Grow.refl _) rfl
        · refine .inl ⟨wanted_yes (j := 8) (b := false) rfl (yielded_of (d := 181) rfl (by simp [hf])), fun K hK => ?_⟩
          unfold Oper.wp
          simp [execOp, go_sem, *]
          exact hK _ _ (Grow.refl _) rfl
        · refine .inl ⟨wanted_yes (j := 8) (b := false) rfl (yielded_of (d := 181) rfl (by simp [hf])), fun K hK => ?_⟩
          unfold Oper.wp
          simp [go_sem, *]
          refine (HLEN.out _ hW).mono ?_
          rintro e W' ⟨rfl, rfl⟩
          exact hK _ _ (Grow.refl _) rfl
        · refine .inl ⟨wanted_yes (j := 8) (b := false) rfl (yielded_of (d := 181) rfl (by simp [hf])), fun K hK => ?_⟩
          unfold Oper.wp
          simp [execOp, go_sem, *]
          exact hK _ _ (Grow.refl _) rfl
        · refine .inl ⟨wanted_yes (j := 8) (b := false) rfl (yielded_of (d := 181) rfl (by simp [hf])), fun K hK => ?_⟩
          unfold Oper.wp
          simp [execOp, go_sem, *]
          exact hK _ _ (Grow.refl _) rfl
        · refine .inl ⟨wanted_yes (j := 8) (b := false) rfl (yielded_of (d := 181) rfl (by simp [hf])), fun K hK => ?_⟩
          unfold Oper.wp
          simp [execOp, go_sem, *]
          exact hK _ _ (Grow.refl _) rfl
        · refine .inl ⟨wanted_yes (j := 8) (b := false) rfl (yielded_of (d := 181) rfl (by simp [hf])), fun K hK => ?_⟩
          unfold Oper.wp
          simp [execOp, go_sem, *]
          exact hK _ _ (Grow.refl _) rfl
        · refine .inl ⟨wanted_yes (j := 8) (b := false) rfl (yielded_of (d := 181) rfl (by simp [hf])), fun K hK => ?_⟩
          unfold Oper.wp
          simp [go_sem, *]
          exact hK _ _ (Grow.refl _) rfl
        · refine .inl ⟨wanted_yes (j := 8) (b := false) rfl (yielded_of (d := 181) rfl (by simp [hf])), fun K hK => ?_⟩
          unfold Oper.wp
          simp [execOp, go_sem, *]
          exact hK _ _ (Grow.refl _) rfl
      · obtain ⟨r, hr⟩ : ∃ r, r = oneS S c.op c.a := ⟨_, rfl⟩
        have HRE := Lib.hid hr
        have HC1 := Lib.hid (HM2.out.single1 HT.out ho256 ⟨ha1, ha2⟩)
        have HC2 : Hid (∀ W P Q, Half w W P Q (.pointer (some ⟨pm, 0, none⟩)) (.pointer (some ⟨pq, 0, none⟩)) S r.2.2 → Calls Tryz.prog 21 #[(.pointer (some ⟨pq, 0, none⟩)), .int .u8 (c.op : Int), .int .i64 c.a] W (Told2 w W P (.pointer (some ⟨pm, 0, none⟩)) (.pointer (some ⟨pq, 0, none⟩)) r)) := Lib.hid (fun W P Q h => by
          rw [hr] at h ⊢
          have HA := Lib.hid h
          exact Half.single2 HGS.out HA.out ho256 ⟨ha1, ha2⟩)
        rw [← hr] at HC1
        clear hr
        obtain ⟨r1, r2, S'⟩ := r
        go_wp2_with (first | (go_at_call 20; refine HC1.out.mono ?_) | fail)
        rintro e w3 ⟨rfl, hkk, P3, hh⟩
        have HB3 := Lib.hid (hkk _ _ HB2.out)
        have HM3 := Lib.hid hh
        clear hkk hh d0 d1 d2 d3 d4 d5 d6
        have d0 := HB3.out.at 0 rfl
        have d1 := HB3.out.at 1 rfl
        have d2 := HB3.out.at 2 rfl
        have d3 := HB3.out.at 3 rfl
        have d4 := HB3.out.at 4 rfl
        have d5 := HB3.out.at 5 rfl
        have d6 := HB3.out.at 6 rfl
        dsimp only at *
        go_wp2_with (first | (go_at_call 21; refine (HC2.out _ _ _ HM3.out).mono ?_) | fail)
        rintro e w4 ⟨rfl, hkk, Q4, hh⟩
        have HM4 := Lib.hid hh
        clear hkk hh d0 d1 d2 d3 d4 d5 d6
        dsimp only at *
        go_wp2_with fail
        rename_i K0 hK0
        have HLEN := Lib.hid (fun W (hW : Grow w4 W) => len_some (HM4.out.one.grow hW))
        obtain ⟨A2, c2, hq2⟩ : ∃ A2 c2, ∀ W, Grow w4 W → W.cell? ⟨pq, 2, none⟩ = some (.slice A2 S'.l.length c2) := by
          obtain ⟨pq', A2, c2, e1, e2, e3⟩ := HM4.out.two.row
          cases e1
          exact ⟨A2, c2, fun W hW => (hW.cell (p := ⟨pq, 2, none⟩) e3).trans e2⟩
        obtain ⟨zl, hzl⟩ : ∃ zl : Nat, zl = S'.l.length := ⟨_, rfl⟩
        rw [← hzl] at HLEN hq2
        have KC := Lib.hid hq2
        clear hq2 hzl
        refine wp_region_listG [fun v _ => v = .int .i64 r1, fun v _ => v = .int .i64 r1, fun v _ => v = .bool false, fun v _ => v = .bool false, fun v _ => v = .int .i64 r2, fun v _ => v = .int .i64 r2, fun v _ => v = .bool false, fun v _ => v = .bool false, fun v _ => v = .bool false, fun v _ => v = .pointer (some ⟨pm, 0, none⟩), fun v _ => v = .int .i64 (zl : Int), fun v _ => v = .pointer (some ⟨pq, 0, none⟩), fun v _ => v = .pointer (some ⟨pq, 0, none⟩), fun v _ => v = .pointer (some ⟨pq, 2, none⟩), fun v _ => v = .slice A2 zl c2, fun v _ => v = .int .i64 (zl : Int), fun v _ => v = .bool false]
          [(5, .pointer (some ⟨pm, 0, none⟩)), (7, .pointer (some ⟨pq, 0, none⟩)), (11, .int .i64 r1), (12, .int .i64 r1), (13, .int .i64 r2), (14, .int .i64 r2)] 17 (by kernel_rfl) ⟨stays_pure _, stays_pure _, stays_pure _, stays_pure _, stays_pure _, stays_pure _, stays_pure _, stays_pure _, stays_pure _, stays_pure _, stays_pure _, stays_pure _, stays_pure _, stays_pure _, stays_pure _, stays_pure _, stays_pure _, trivial⟩ rfl (by kernel_rfl) rfl ?base (by kernel_rfl) ⟨?_, ?_, ?_, ?_, ?_, ?_, ?_, ?_, ?_, ?_, ?_, ?_, ?_, ?_, ?_, ?_, ?_, trivial⟩ ?last
        case base => simp
        case last =>
          intro vs W hW hv
          simp only [FactsL, Nat.zero_add, Nat.reduceAdd] at hv
          have v8 := hv.2.2.2.2.2.2.2.2.1
          have v16 := hv.2.2.2.2.2.2.2.2.2.2.2.2.2.2.2.2.1
          clear hv
          refine ⟨rfl, ?_⟩
          simp only [List.take_succ_cons, List.take_zero, putF, Act.put, List.setIfInBounds_toArray, List.set_cons_zero, List.set_cons_succ, Nat.reduceAdd, v8, v16]
          unfold Oper.wp
          simp [execOp, go_sem]
          refine hK0 _ _ ?_
          have HME := Lib.hid (HM4.out.more hW)
          clear hW
          go_wp2_with fail
          exact ⟨⟨k + 1, by have := HNN.out; omega, by omega, by go_num, _, _, _, HME.out⟩, by simp [intOf]; omega⟩
        all_goals
          intro a' W hW hb hf
          have t2 := KC.out W hW
          simp only [List.forall_mem_cons, List.not_mem_nil, false_imp_iff, implies_true, and_true] at hb
          obtain ⟨m5, m7, m11, m12, m13, m14⟩ := hb
          simp [FactsOf, FactAt, Region.binds, factsL] at hf
        · refine .inl ⟨rfl, fun K hK => ?_⟩
          unfold Oper.wp
          simp [execOp, go_sem, *]
          exact hK _ _ (Grow.refl _) rfl
        · refine .inl ⟨rfl, fun K hK => ?_⟩
          unfold Oper.wp
          simp [execOp, go_sem, *]
          exact hK _ _ (Grow.refl _) rfl
        · refine .inl ⟨rfl, fun K hK => ?_⟩
          unfold Oper.wp
          simp [execOp, go_sem, *]
          exact hK _ _ (Grow.refl _) rfl
        · refine .inl ⟨rfl, fun K hK => ?_⟩
          unfold Oper.wp
          simp [execOp, go_sem, *]
          exact hK _ _ (Grow.refl _) rfl
        · refine .inl ⟨wanted_yes (j := 3) (b := false) rfl (yielded_of (d := 176) rfl (by simp [hf])), fun K hK => ?_⟩
          unfold Oper.wp
          simp [execOp, go_sem, *]
          exact hK _ _ (Grow.refl _) rfl
        · refine .inl ⟨wanted_yes (j := 3) (b := false) rfl (yielded_of (d := 176) rfl (by simp [hf])), fun K hK => ?_⟩
          unfold Oper.wp
          simp [execOp, go_sem, *]
          exact hK _ _ (Grow.refl _) rfl
        · refine .inl ⟨wanted_yes (j := 3) (b := false) rfl (yielded_of (d := 176) rfl (by simp [hf])), fun K hK => ?_⟩
          unfold Oper.wp
          simp [execOp, go_sem, *]
          exact hK _ _ (Grow.refl _) rfl
        · refine .inl ⟨rfl, fun K hK => ?_⟩
          unfold Oper.wp
          simp [execOp, go_sem, *]
          exact hK _ _ (Grow.refl _) rfl
        · refine .inl ⟨rfl, fun K hK => ?_⟩
          unfold Oper.wp
          simp [execOp, go_sem, *]
          exact hK _ _ (Grow.refl _) rfl
        · refine .inl ⟨wanted_yes (j := 8) (b := false) rfl (yielded_of (d := 181) rfl (by simp [hf])), fun K hK => ?_⟩
          unfold Oper.wp
          simp [execOp, go_sem, *]
          exact hK _ _ (Grow.refl _) rfl
        · refine .inl ⟨wanted_yes (j := 8) (b := false) rfl (yielded_of (d := 181) rfl (by simp [hf])), fun K hK => ?_⟩
          unfold Oper.wp
          simp [go_sem, *]
          refine (HLEN.out _ hW).mono ?_
          rintro e W' ⟨rfl, rfl⟩
          exact hK _ _ (Grow.refl _) rfl
        · refine .inl ⟨wanted_yes (j := 8) (b := false) rfl (yielded_of (d := 181) rfl (by simp [hf])), fun K hK => ?_⟩
          unfold Oper.wp
          simp [execOp, go_sem, *]
          exact hK _ _ (Grow.refl _) rfl
        · refine .inl ⟨wanted_yes (j := 8) (b := false) rfl (yielded_of (d := 181) rfl (by simp [hf])), fun K hK => ?_⟩
          unfold Oper.wp
          simp [execOp, go_sem, *]
          exact hK _ _ (Grow.refl _) rfl
        · refine .inl ⟨wanted_yes (j := 8) (b := false) rfl (yielded_of (d := 181) rfl (by simp [hf])), fun K hK => ?_⟩
          unfold Oper.wp
          simp [execOp, go_sem, *]
          exact hK _ _ (Grow.refl _) rfl
        · refine .inl ⟨wanted_yes (j := 8) (b := false) rfl (yielded_of (d := 181) rfl (by simp [hf])), fun K hK => ?_⟩
          unfold Oper.wp
          simp [execOp, go_sem, *]
          exact hK _ _ (Grow.refl _) rfl
        · refine .inl ⟨wanted_yes (j := 8) (b := false) rfl (yielded_of (d := 181) rfl (by simp [hf])), fun K hK => ?_⟩
          unfold Oper.wp
          simp [go_sem, *]
          exact hK _ _ (Grow.refl _) rfl
        · refine .inl ⟨wanted_yes (j := 8) (b := false) rfl (yielded_of (d := 181) rfl (by simp [hf])), fun K hK => ?_⟩
          unfold Oper.wp
          simp [execOp, go_sem, *]
          exact hK _ _ (Grow.refl _) rfl
      · obtain ⟨r, hr⟩ : ∃ r, r = twoS S c.op c.a c.b := ⟨_, rfl⟩
        have HRE := Lib.hid hr
        have HC1 := Lib.hid (HM2.out.pair1 HT.out ho256 ⟨ha1, ha2⟩ ⟨hb1, hb2⟩)
        have HC2 : Hid (∀ W P Q, Half w W P Q (.pointer (some ⟨pm, 0, none⟩)) (.pointer (some ⟨pq, 0, none⟩)) S r.2.2 → Calls Tryz.prog 23 #[(.pointer (some ⟨pq, 0, none⟩)), .int .u8 (c.op : Int), .int .i64 c.a, .int .i64 c.b] W (Told2 w W P (.pointer (some ⟨pm, 0, none⟩)) (.pointer (some ⟨pq, 0, none⟩)) r)) := Lib.hid (fun W P Q h => by
          rw [hr] at h ⊢
          have HA := Lib.hid h
          exact Half.pair2 HGS.out HA.out ho256 ⟨ha1, ha2⟩ ⟨hb1, hb2⟩)
        rw [← hr] at HC1
        clear hr
        obtain ⟨r1, r2, S'⟩ := r
        go_wp2_with (first | (go_at_call 22; refine HC1.out.mono ?_) | fail)
        rintro e w3 ⟨rfl, hkk, P3, hh⟩
        have HB3 := Lib.hid (hkk _ _ HB2.out)
        have HM3 := Lib.hid hh
        clear hkk hh d0 d1 d2 d3 d4 d5 d6
        have d0 := HB3.out.at 0 rfl
        have d1 := HB3.out.at 1 rfl
        have d2 := HB3.out.at 2 rfl
        have d3 := HB3.out.at 3 rfl
        have d4 := HB3.out.at 4 rfl
        have d5 := HB3.out.at 5 rfl
        have d6 := HB3.out.at 6 rfl
        dsimp only at *
        go_wp2_with (first | (go_at_call 23; refine (HC2.out _ _ _ HM3.out).mono ?_) | fail)
        rintro e w4 ⟨rfl, hkk, Q4, hh⟩
        have HM4 := Lib.hid hh
        clear hkk hh d0 d1 d2 d3 d4 d5 d6
        dsimp only at *
        go_wp2_with fail
        rename_i K0 hK0
        have HLEN := Lib.hid (fun W (hW : Grow w4 W) => len_some (HM4.out.one.grow hW))
        obtain ⟨A2, c2, hq2⟩ : ∃ A2 c2, ∀ W, Grow w4 W → W.cell? ⟨pq, 2, none⟩ = some (.slice A2 S'.l.length c2) := by
          obtain ⟨pq', A2, c2, e1, e2, e3⟩ := HM4.out.two.row
          cases e1
          exact ⟨A2, c2, fun W hW => (hW.cell (p := ⟨pq, 2, none⟩) e3).trans e2⟩
        obtain ⟨zl, hzl⟩ : ∃ zl : Nat, zl = S'.l.length := ⟨_, rfl⟩
        rw [← hzl] at HLEN hq2
        have KC := Lib.hid hq2
        clear hq2 hzl
        refine wp_region_listG [fun v _ => v = .int .i64 r1, fun v _ => v = .int .i64 r1, fun v _ => v = .bool false, fun v _ => v = .bool false, fun v _ => v = .int .i64 r2, fun v _ => v = .int .i64 r2, fun v _ => v = .bool false, fun v _ => v = .bool false, fun v _ => v = .bool false, fun v _ => v = .pointer (some ⟨pm, 0, none⟩), fun v _ => v = .int .i64 (zl : Int), fun v _ => v = .pointer (some ⟨pq, 0, none⟩), fun v _ => v = .pointer (some ⟨pq, 0, none⟩), fun v _ => v = .pointer (some ⟨pq, 2, none⟩), fun v _ => v = .slice A2 zl c2, fun v _ => v = .int .i64 (zl : Int), fun v _ => v = .bool false]
          [(5, .pointer (some ⟨pm, 0, none⟩)), (7, .pointer (some ⟨pq, 0, none⟩)), (11, .int .i64 r1), (12, .int .i64 r1), (13, .int .i64 r2), (14, .int .i64 r2)] 17 (by kernel_rfl) ⟨stays_pure _, stays_pure _, stays_pure _, stays_pure _, stays_pure _, stays_pure _, stays_pure _, stays_pure _, stays_pure _, stays_pure _, stays_pure _, stays_pure _, stays_pure _, stays_pure _, stays_pure _, stays_pure _, stays_pure _, trivial⟩ rfl (by kernel_rfl) rfl ?base (by kernel_rfl) ⟨?_, ?_, ?_, ?_, ?_, ?_, ?_, ?_, ?_, ?_, ?_, ?_, ?_, ?_, ?_, ?_, ?_, trivial⟩ ?last
        case base => simp
        case last =>
          intro vs W hW hv
          simp only [FactsL, Nat.zero_add, Nat.reduceAdd] at hv
          have v8 := hv.2.2.2.2.2.2.2.2.1
          have v16 := hv.2.2.2.2.2.2.2.2.2.2.2.2.2.2.2.2.1
          clear hv
          refine ⟨rfl, ?_⟩
          simp only [List.take_succ_cons, List.take_zero, putF, Act.put, List.setIfInBounds_toArray, List.set_cons_zero, List.set_cons_succ, Nat.reduceAdd, v8, v16]
          unfold Oper.wp
          simp [execOp, go_sem]
          refine hK0 _ _ ?_
          have HME := Lib.hid (HM4.out.more hW)
          clear hW
          go_wp2_with fail
          exact ⟨⟨k + 1, by have := HNN.out; omega, by omega, by go_num, _, _, _, HME.out⟩, by simp [intOf]; omega⟩
        all_goals
          intro a' W hW hb hf
          have t2 := KC.out W hW
          simp only [List.forall_mem_cons, List.not_mem_nil, false_imp_iff, implies_true, and_true] at hb
          obtain ⟨m5, m7, m11, m12, m13, m14⟩ := hb
          simp [FactsOf, FactAt, Region.binds, factsL] at hf
        · refine .inl ⟨rfl, fun K hK => ?_⟩
          unfold Oper.wp
          simp [execOp, go_sem, *]
          exact hK _ _ (Grow.refl _) rfl
        · refine .inl ⟨rfl, fun K hK => ?_⟩
          unfold Oper.wp
          simp [execOp, go_sem, *]
          exact hK _ _ (Grow.refl _) rfl
        · refine .inl ⟨rfl, fun K hK => ?_⟩
          unfold Oper.wp
          simp [execOp, go_sem, *]
          exact hK _ _ (Grow.refl _) rfl
        · refine .inl ⟨rfl, fun K hK => ?_⟩
          unfold Oper.wp
          simp [execOp, go_sem, *]
          exact hK _ _ (Grow.refl _) rfl
        · refine .inl ⟨wanted_yes (j := 3) (b := false) rfl (yielded_of (d := 176) rfl (by simp [hf])), fun K hK => ?_⟩
          unfold Oper.wp
          simp [execOp, go_sem, *]
          exact hK _ _ (Grow.refl _) rfl
        · refine .inl ⟨wanted_yes (j := 3) (b := false) rfl (yielded_of (d := 176) rfl (by simp [hf])), fun K hK => ?_⟩
          unfold Oper.wp
          simp [execOp, go_sem, *]
          exact hK _ _ (Grow.refl _) rfl
        · refine .inl ⟨wanted_yes (j := 3) (b := false) rfl (yielded_of (d := 176) rfl (by simp [hf])), fun K hK => ?_⟩
          unfold Oper.wp
          simp [execOp, go_sem, *]
          exact hK _ _ (Grow.refl _) rfl
        · refine .inl ⟨rfl, fun K hK => ?_⟩
          unfold Oper.wp
          simp [execOp, go_sem, *]
          exact hK _ _ (Grow.refl _) rfl
        · refine .inl ⟨rfl, fun K hK => ?_⟩
          unfold Oper.wp
          simp [execOp, go_sem, *]
          exact hK _ _ (Grow.refl _) rfl
        · refine .inl ⟨wanted_yes (j := 8) (b := false) rfl (yielded_of (d := 181) rfl (by simp [hf])), fun K hK => ?_⟩
          unfold Oper.wp
          simp [execOp, go_sem, *]
          exact hK _ _ (Grow.refl _) rfl
        · refine .inl ⟨wanted_yes (j := 8) (b := false) rfl (yielded_of (d := 181) rfl (by simp [hf])), fun K hK => ?_⟩
          unfold Oper.wp
          simp [go_sem, *]
          refine (HLEN.out _ hW).mono ?_
          rintro e W' ⟨rfl, rfl⟩
          exact hK _ _ (Grow.refl _) rfl
        · refine .inl ⟨wanted_yes (j := 8) (b := false) rfl (yielded_of (d := 181) rfl (by simp [hf])), fun K hK => ?_⟩
          unfold Oper.wp
          simp [execOp, go_sem, *]
          exact hK _ _ (Grow.refl _) rfl
        · refine .inl ⟨wanted_yes (j := 8) (b := false) rfl (yielded_of (d := 181) rfl (by simp [hf])), fun K hK => ?_⟩
          unfold Oper.wp
          simp [execOp, go_sem, *]
          exact hK _ _ (Grow.refl _) rfl
        · refine .inl ⟨wanted_yes (j := 8) (b := false) rfl (yielded_of (d := 181) rfl (by simp [hf])), fun K hK => ?_⟩
          unfold Oper.wp
          simp [execOp, go_sem, *]
          exact hK _ _ (Grow.refl _) rfl
        · refine .inl ⟨wanted_yes (j := 8) (b := false) rfl (yielded_of (d := 181) rfl (by simp [hf])), fun K hK => ?_⟩
          unfold Oper.wp
          simp [execOp, go_sem, *]
          exact hK _ _ (Grow.refl _) rfl
        · refine .inl ⟨wanted_yes (j := 8) (b := false) rfl (yielded_of (d := 181) rfl (by simp [hf])), fun K hK => ?_⟩
          unfold Oper.wp
          simp [go_sem, *]
          exact hK _ _ (Grow.refl _) rfl
        · refine .inl ⟨wanted_yes (j := 8) (b := false) rfl (yielded_of (d := 181) rfl (by simp [hf])), fun K hK => ?_⟩
          unfold Oper.wp
          simp [execOp, go_sem, *]
          exact hK _ _ (Grow.refl _) rfl
      · obtain ⟨r, hr⟩ : ∃ r, r = twoS S c.op c.a c.b := ⟨_, rfl⟩
        have HRE := Lib.hid hr
        have HC1 := Lib.hid (HM2.out.pair1 HT.out ho256 ⟨ha1, ha2⟩ ⟨hb1, hb2⟩)
        have HC2 : Hid (∀ W P Q, Half w W P Q (.pointer (some ⟨pm, 0, none⟩)) (.pointer (some ⟨pq, 0, none⟩)) S r.2.2 → Calls Tryz.prog 23 #[(.pointer (some ⟨pq, 0, none⟩)), .int .u8 (c.op : Int), .int .i64 c.a, .int .i64 c.b] W (Told2 w W P (.pointer (some ⟨pm, 0, none⟩)) (.pointer (some ⟨pq, 0, none⟩)) r)) := Lib.hid (fun W P Q h => by
          rw [hr] at h ⊢
          have HA := Lib.hid h
          exact Half.pair2 HGS.out HA.out ho256 ⟨ha1, ha2⟩ ⟨hb1, hb2⟩)
        rw [← hr] at HC1
        clear hr
        obtain ⟨r1, r2, S'⟩ := r
        go_wp2_with (first | (go_at_call 22; refine HC1.out.mono ?_) | fail)
        rintro e w3 ⟨rfl, hkk, P3, hh⟩
        have HB3 := Lib.hid (hkk _ _ HB2.out)
        have HM3 := Lib.hid hh
        clear hkk hh d0 d1 d2 d3 d4 d5 d6
        have d0 := HB3.out.at 0 rfl
        have d1 := HB3.out.at 1 rfl
        have d2 := HB3.out.at 2 rfl
        have d3 := HB3.out.at 3 rfl
        have d4 := HB3.out.at 4 rfl
        have d5 := HB3.out.at 5 rfl
        have d6 := HB3.out.at 6 rfl
        dsimp only at *
        go_wp2_with (first | (go_at_call 23; refine (HC2.out _ _ _ HM3.out).mono ?_) | fail)
        rintro e w4 ⟨rfl, hkk, Q4, hh⟩
        have HM4 := Lib.hid hh
        clear hkk hh d0 d1 d2 d3 d4 d5 d6
        dsimp only at *
        go_wp2_with fail
        rename_i K0 hK0
        have HLEN := Lib.hid (fun W (hW : Grow w4 W) => len_some (HM4.out.one.grow hW))
        obtain ⟨A2, c2, hq2⟩ : ∃ A2 c2, ∀ W, Grow w4 W → W.cell? ⟨pq, 2, none⟩ = some (.slice A2 S'.l.length c2) := by
          obtain ⟨pq', A2, c2, e1, e2, e3⟩ := HM4.out.two.row
          cases e1
          exact ⟨A2, c2, fun W hW => (hW.cell (p := ⟨pq, 2, none⟩) e3).trans e2⟩
        obtain ⟨zl, hzl⟩ : ∃ zl : Nat, zl = S'.l.length := ⟨_, rfl⟩
        rw [← hzl] at HLEN hq2
        have KC := Lib.hid hq2
        clear hq2 hzl
        refine wp_region_listG [fun v _ => v = .int .i64 r1, fun v _ => v = .int .i64 r1, fun v _ => v = .bool false, fun v _ => v = .bool false, fun v _ => v = .int .i64 r2, fun v _ => v = .int .i64 r2, fun v _ => v = .bool false, fun v _ => v = .bool false, fun v _ => v = .bool false, fun v _ => v = .pointer (some ⟨pm, 0, none⟩), fun v _ => v = .int .i64 (zl : Int), fun v _ => v = .pointer (some ⟨pq, 0, none⟩), fun v _ => v = .pointer (some ⟨pq, 0, none⟩), fun v _ => v = .pointer (some ⟨pq, 2, none⟩), fun v _ => v = .slice A2 zl c2, fun v _ => v = .int .i64 (zl : Int), fun v _ => v = .bool false]
          [(5, .pointer (some ⟨pm, 0, none⟩)), (7, .pointer (some ⟨pq, 0, none⟩)), (11, .int .i64 r1), (12, .int .i64 r1), (13, .int .i64 r2), (14, .int .i64 r2)] 17 (by kernel_rfl) ⟨stays_pure _, stays_pure _, stays_pure _, stays_pure _, stays_pure _, stays_pure _, stays_pure _, stays_pure _, stays_pure _, stays_pure _, stays_pure _, stays_pure _, stays_pure _, stays_pure _, stays_pure _, stays_pure _, stays_pure _, trivial⟩ rfl (by kernel_rfl) rfl ?base (by kernel_rfl) ⟨?_, ?_, ?_, ?_, ?_, ?_, ?_, ?_, ?_, ?_, ?_, ?_, ?_, ?_, ?_, ?_, ?_, trivial⟩ ?last
        case base => simp
        case last =>
          intro vs W hW hv
          simp only [FactsL, Nat.zero_add, Nat.reduceAdd] at hv
          have v8 := hv.2.2.2.2.2.2.2.2.1
          have v16 := hv.2.2.2.2.2.2.2.2.2.2.2.2.2.2.2.2.1
          clear hv
          refine ⟨rfl, ?_⟩
          simp only [List.take_succ_cons, List.take_zero, putF, Act.put, List.setIfInBounds_toArray, List.set_cons_zero, List.set_cons_succ, Nat.reduceAdd, v8, v16]
          unfold Oper.wp
          simp [execOp, go_sem]
          refine hK0 _ _ ?_
          have HME := Lib.hid (HM4.out.more hW)
          clear hW
          go_wp2_with fail
          exact ⟨⟨k + 1, by have := HNN.out; omega, by omega, by go_num, _, _, _, HME.out⟩, by simp [intOf]; omega⟩
        all_goals
          intro a' W hW hb hf
          have t2 := KC.out W hW
          simp only [List.forall_mem_cons, List.not_mem_nil, false_imp_iff, implies_true, and_true] at hb
          obtain ⟨m5, m7, m11, m12, m13, m14⟩ := hb
          simp [FactsOf, FactAt, Region.binds, factsL] at hf
        · refine .inl ⟨rfl, fun K hK => ?_⟩
          unfold Oper.wp
          simp [execOp, go_sem, *]
          exact hK _ _ (Grow.refl _) rfl
        · refine .inl ⟨rfl, fun K hK => ?_⟩
          unfold Oper.wp
          simp [execOp, go_sem, *]
          exact hK _ _ (Grow.refl _) rfl
        · refine .inl ⟨rfl, fun K hK => ?_⟩
          unfold Oper.wp
          simp [execOp, go_sem, *]
          exact hK _ _ (Grow.refl _) rfl
        · refine .inl ⟨rfl, fun K hK => ?_⟩
          unfold Oper.wp
          simp [execOp, go_sem, *]
          exact hK _ _ (Grow.refl _) rfl
        · refine .inl ⟨wanted_yes (j := 3) (b := false) rfl (yielded_of (d := 176) rfl (by simp [hf])), fun K hK => ?_⟩
          unfold Oper.wp
          simp [execOp, go_sem, *]
          exact hK _ _ (Grow.refl _) rfl
        · refine .inl ⟨wanted_yes (j := 3) (b := false) rfl (yielded_of (d := 176) rfl (by simp [hf])), fun K hK => ?_⟩
          unfold Oper.wp
          simp [execOp, go_sem, *]
          exact hK _ _ (Grow.refl _) rfl
        · refine .inl ⟨wanted_yes (j := 3) (b := false) rfl (yielded_of (d := 176) rfl (by simp [hf])), fun K hK => ?_⟩
          unfold Oper.wp
          simp [execOp, go_sem, *]
          exact hK _ _ (Grow.refl _) rfl
        · refine .inl ⟨rfl, fun K hK => ?_⟩
          unfold Oper.wp
          simp [execOp, go_sem, *]
          exact hK _ _ (Grow.refl _) rfl
        · refine .inl ⟨rfl, fun K hK => ?_⟩
          unfold Oper.wp
          simp [execOp, go_sem, *]
          exact hK _ _ (Grow.refl _) rfl
        · refine .inl ⟨wanted_yes (j := 8) (b := false) rfl (yielded_of (d := 181) rfl (by simp [hf])), fun K hK => ?_⟩
          unfold Oper.wp
          simp [execOp, go_sem, *]
          exact hK _ _ (Grow.refl _) rfl
        · refine .inl ⟨wanted_yes (j := 8) (b := false) rfl (yielded_of (d := 181) rfl (by simp [hf])), fun K hK => ?_⟩
          unfold Oper.wp
          simp [go_sem, *]
          refine (HLEN.out _ hW).mono ?_
          rintro e W' ⟨rfl, rfl⟩
          exact hK _ _ (Grow.refl _) rfl
        · refine .inl ⟨wanted_yes (j := 8) (b := false) rfl (yielded_of (d := 181) rfl (by simp [hf])), fun K hK => ?_⟩
          unfold Oper.wp
          simp [execOp, go_sem, *]
          exact hK _ _ (Grow.refl _) rfl
        · refine .inl ⟨wanted_yes (j := 8) (b := false) rfl (yielded_of (d := 181) rfl (by simp [hf])), fun K hK => ?_⟩
          unfold Oper.wp
          simp [execOp, go_sem, *]
          exact hK _ _ (Grow.refl _) rfl
        · refine .inl ⟨wanted_yes (j := 8) (b := false) rfl (yielded_of (d := 181) rfl (by simp [hf])), fun K hK => ?_⟩
          unfold Oper.wp
          simp [execOp, go_sem, *]
          exact hK _ _ (Grow.refl _) rfl
        · refine .inl ⟨wanted_yes (j := 8) (b := false) rfl (yielded_of (d := 181) rfl (by simp [hf])), fun K hK => ?_⟩
          unfold Oper.wp
          simp [execOp, go_sem, *]
          exact hK _ _ (Grow.refl _) rfl
        · refine .inl ⟨wanted_yes (j := 8) (b := false) rfl (yielded_of (d := 181) rfl (by simp [hf])), fun K hK => ?_⟩
          unfold Oper.wp
          simp [go_sem, *]
          exact hK _ _ (Grow.refl _) rfl
        · refine .inl ⟨wanted_yes (j := 8) (b := false) rfl (yielded_of (d := 181) rfl (by simp [hf])), fun K hK => ?_⟩
          unfold Oper.wp
          simp [execOp, go_sem, *]
          exact hK _ _ (Grow.refl _) rfl
      · have HT1 := Lib.hid (fun (W : World) (h : Nat) (hh : Half w W P Q (.pointer (some ⟨pm, 0, none⟩)) (.pointer (some ⟨pq, 0, none⟩)) S S) (ht : TlsAt W (some ⟨h, 0, none⟩) [([120], c.b)]) => tape_some (out := c.a) (cap := 1) (T := [([120], c.b)]) hh.one ⟨ha1, ha2⟩ ht (by simp) (by simp))
        have HT2 := Lib.hid (fun (W : World) (h : Nat) (hh : Half w W P Q (.pointer (some ⟨pm, 0, none⟩)) (.pointer (some ⟨pq, 0, none⟩)) S S) (ht : TlsAt W (some ⟨h, 0, none⟩) [([120], c.b)]) => rtape_any (out := c.a) (cap := 1) (T := [([120], c.b)]) hh.two HGS.out ⟨ha1, ha2⟩ ht (by simp))
        have HBB : Hid (I64 c.b) := Lib.hid ⟨hb1, hb2⟩
        go_wp2_with (first | (go_at_call 24; refine (HT1.out _ _ (HM2.out.more (Grow.alloc _ _)) (tell_at _ rfl HBB.out)).mono ?_) | fail)
        rintro e w3 (⟨hex, vN, vT, rfl, hn1, ht1, hg3⟩ | ⟨hex, rfl, hg3⟩)
        · obtain ⟨An, cn2, rfl, hat⟩ := hn1.form
          obtain ⟨At, ct2, rfl, htt⟩ := ht1.form
          have hlow : Low S.l := by
            obtain ⟨_, _, _, _, _, _, h, _⟩ := HM2.out.two
            exact h
          have htp : TpAt 3 w3 ⟨(S.pars : Int), c.a, S.l, [([120], c.b)]⟩ (.slice An S.l.length cn2) (.slice At 1 ct2) := ⟨by have := HGS.out.2.2.1; constructor <;> simp only [] <;> omega, ⟨ha1, ha2⟩, by have := HGS.out.2.2.2.1; have := HGS.out.2.1; show S.l.length ≤ _; omega, by simp, _, _, _, _, rfl, rfl, (fun i y hy => by
            obtain ⟨b, off, un, ud, h1, h2, h3⟩ := hat i y hy
            exact ⟨b, off, un, ud, h1, h2, h3.1, h3.2.1, h3.2.2.1, h3.2.2.2.1, h3.2.2.2.2.1, hlow y (List.mem_of_getElem? hy)⟩), htt⟩
          have HTP := Lib.hid htp
          clear hat htt hlow htp hn1 ht1
          have hlen1 : ([([120], c.b)] : List (List UInt8 × Int)).length = 1 := rfl
          rw [hlen1]
          clear hlen1
          have hg3' := Grow.trans (Grow.alloc w2 _) hg3
          have HB3 := Lib.hid (HB2.out.below hg3' HB2.out.lt)
          have HM3 := Lib.hid (HM2.out.more hg3')
          have HEX := Lib.hid hex
          clear hex hg3 hg3' d0 d1 d2 d3 d4 d5 d6
          have d0 := fun o' => (HB3.out.alloc o').at 0 rfl
          have d1 := fun o' => (HB3.out.alloc o').at 1 rfl
          have d2 := fun o' => (HB3.out.alloc o').at 2 rfl
          have d3 := fun o' => (HB3.out.alloc o').at 3 rfl
          go_wp2_with (first | (go_at_call 25; refine (HT2.out _ _ ((HM3.out.more (Grow.alloc _ _)).more (Grow.alloc _ _)) (tell_at _ (by simp) HBB.out)).mono ?_) | fail)
          rintro e w5 (⟨hex2, vN2, rfl, htp2, hg5⟩ | ⟨hex2, rfl, hg5⟩)
          · obtain ⟨_, _, _, _, A5, c5, B5, k5, rfl, e5, _, _⟩ := id htp2
            unfold tpV
            dsimp only
            have hbt : BlkOf w5 w3.heap.size #[.int .i64 (S.pars : Int), .int .i64 c.a, .slice An S.l.length cn2, .slice At 1 ct2] 25 := ((BlkOf.new w3 _ _).alloc _).below hg5 (by simp; omega)
            have hg5' := Grow.trans (Grow.trans (Grow.alloc w3 _) (Grow.alloc _ _)) hg5
            have HB5 := Lib.hid (HB3.out.below hg5' HB3.out.lt)
            have HM5 := Lib.hid (HM3.out.more hg5')
            have HBT := Lib.hid hbt
            have HTP2 := Lib.hid htp2
            have HSM := Lib.hid (fun W (hW : Grow w5 W) => rsame_any (HTP.out.grow (hg5'.trans hW)) (htp2.grow hW))
            clear htp2
            rw [sameTp_self] at HSM
            unfold tpV at HSM
            dsimp only at HSM
            clear hbt hg5 hg5' hex2 d0 d1 d2 d3
            have q0 := fun o' => (HBT.out.alloc o').at 0 rfl
            have q1 := fun o' => (HBT.out.alloc o').at 1 rfl
            have q2 := fun o' => (HBT.out.alloc o').at 2 rfl
            have q3 := fun o' => (HBT.out.alloc o').at 3 rfl
            go_wp2_with (first | (go_at_call 12; refine (HSM.out _ (Grow.alloc _ _)).mono ?_) | fail)
            rintro e w6 ⟨rfl, hg6⟩
            have HM6 := Lib.hid (HM5.out.more (Grow.trans (Grow.alloc w5 _) hg6))
            clear hg6 q0 q1 q2 q3
            go_wp2_with fail
            rename_i K0 hK0
            have HLEN := Lib.hid (fun W (hW : Grow w6 W) => len_some (HM6.out.one.grow hW))
            obtain ⟨A2, c2, hq2⟩ : ∃ A2 c2, ∀ W, Grow w6 W → W.cell? ⟨pq, 2, none⟩ = some (.slice A2 S.l.length c2) := by
              obtain ⟨pq', A2, c2, e1, e2, e3⟩ := HM6.out.two.row
              cases e1
              exact ⟨A2, c2, fun W hW => (hW.cell (p := ⟨pq, 2, none⟩) e3).trans e2⟩
            obtain ⟨zl, hzl⟩ : ∃ zl : Nat, zl = S.l.length := ⟨_, rfl⟩
            rw [← hzl] at HLEN hq2
            have KC := Lib.hid hq2
            clear hq2 hzl
            refine wp_region_listG [fun v _ => v = .int .i64 0, fun v _ => v = .int .i64 0, fun v _ => v = .bool false, fun v _ => v = .bool false, fun v _ => v = .int .i64 0, fun v _ => v = .int .i64 0, fun v _ => v = .bool false, fun v _ => v = .bool false, fun v _ => v = .bool false, fun v _ => v = .pointer (some ⟨pm, 0, none⟩), fun v _ => v = .int .i64 (zl : Int), fun v _ => v = .pointer (some ⟨pq, 0, none⟩), fun v _ => v = .pointer (some ⟨pq, 0, none⟩), fun v _ => v = .pointer (some ⟨pq, 2, none⟩), fun v _ => v = .slice A2 zl c2, fun v _ => v = .int .i64 (zl : Int), fun v _ => v = .bool false]
              [(5, .pointer (some ⟨pm, 0, none⟩)), (7, .pointer (some ⟨pq, 0, none⟩)), (11, .int .i64 0), (12, .int .i64 0), (13, .int .i64 0), (14, .int .i64 0)] 17 (by kernel_rfl) ⟨stays_pure _, stays_pure _, stays_pure _, stays_pure _, stays_pure _, stays_pure _, stays_pure _, stays_pure _, stays_pure _, stays_pure _, stays_pure _, stays_pure _, stays_pure _, stays_pure _, stays_pure _, stays_pure _, stays_pure _, trivial⟩ rfl (by kernel_rfl) rfl ?base (by kernel_rfl) ⟨?_, ?_, ?_, ?_, ?_, ?_, ?_, ?_, ?_, ?_, ?_, ?_, ?_, ?_, ?_, ?_, ?_, trivial⟩ ?last
            case base => simp
            case last =>
              intro vs W hW hv
              simp only [FactsL, Nat.zero_add, Nat.reduceAdd] at hv
              have v8 := hv.2.2.2.2.2.2.2.2.1
              have v16 := hv.2.2.2.2.2.2.2.2.2.2.2.2.2.2.2.2.1
              clear hv
              refine ⟨rfl, ?_⟩
              simp only [List.take_succ_cons, List.take_zero, putF, Act.put, List.setIfInBounds_toArray, List.set_cons_zero, List.set_cons_succ, Nat.reduceAdd, v8, v16]
              unfold Oper.wp
              simp [execOp, go_sem]
              refine hK0 _ _ ?_
              have HME := Lib.hid (HM6.out.more hW)
              clear hW
              go_wp2_with fail
              exact ⟨⟨k + 1, by have := HNN.out; omega, by omega, by go_num, _, _, _, HME.out⟩, by simp [intOf]; omega⟩
            all_goals
              intro a' W hW hb hf
              have t2 := KC.out W hW
              simp only [List.forall_mem_cons, List.not_mem_nil, false_imp_iff, implies_true, and_true] at hb
              obtain ⟨m5, m7, m11, m12, m13, m14⟩ := hb
              simp [FactsOf, FactAt, Region.binds, factsL] at hf
            · refine .inl ⟨rfl, fun K hK => ?_⟩
              unfold Oper.wp
              simp [execOp, go_sem, *]
              exact hK _ _ (Grow.refl _) rfl
            · refine .inl ⟨rfl, fun K hK => ?_⟩
              unfold Oper.wp
              simp [execOp, go_sem, *]
              exact hK _ _ (Grow.refl _) rfl
            · refine .inl ⟨rfl, fun K hK => ?_⟩
              unfold Oper.wp
              simp [execOp, go_sem, *]
              exact hK _ _ (Grow.refl _) rfl
            · refine .inl ⟨rfl, fun K hK => ?_⟩
              unfold Oper.wp
              simp [execOp, go_sem, *]
              exact hK _ _ (Grow.refl _) rfl
            · refine .inl ⟨wanted_yes (j := 3) (b := false) rfl (yielded_of (d := 176) rfl (by simp [hf])), fun K hK => ?_⟩
              unfold Oper.wp
              simp [execOp, go_sem, *]
              exact hK _ _ (Grow.refl _) rfl
            · refine .inl ⟨wanted_yes (j := 3) (b := false) rfl (yielded_of (d := 176) rfl (by simp [hf])), fun K hK => ?_⟩
              unfold Oper.wp
              simp [execOp, go_sem, *]
              exact hK _ _ (Grow.refl _) rfl
            · refine .inl ⟨wanted_yes (j := 3) (b := false) rfl (yielded_of (d := 176) rfl (by simp [hf])), fun K hK => ?_⟩
              unfold Oper.wp
              simp [execOp, go_sem, *]
              exact hK _ _ (Grow.refl _) rfl
            · refine .inl ⟨rfl, fun K hK => ?_⟩
              unfold Oper.wp
              simp [execOp, go_sem, *]
              exact hK _ _ (Grow.refl _) rfl
            · refine .inl ⟨rfl, fun K hK => ?_⟩
              unfold Oper.wp
              simp [execOp, go_sem, *]
              exact hK _ _ (Grow.refl _) rfl
            · refine .inl ⟨wanted_yes (j := 8) (b := false) rfl (yielded_of (d := 181) rfl (by simp [hf])), fun K hK => ?_⟩
              unfold Oper.wp
              simp [execOp, go_sem, *]
              exact hK _ _ (Grow.refl _) rfl
            · refine .inl ⟨wanted_yes (j := 8) (b := false) rfl (yielded_of (d := 181) rfl (by simp [hf])), fun K hK => ?_⟩
              unfold Oper.wp
              simp [go_sem, *]
              refine (HLEN.out _ hW).mono ?_
              rintro e W' ⟨rfl, rfl⟩
              exact hK _ _ (Grow.refl _) rfl
            · refine .inl ⟨wanted_yes (j := 8) (b := false) rfl (yielded_of (d := 181) rfl (by simp [hf])), fun K hK => ?_⟩
              unfold Oper.wp
              simp [execOp, go_sem, *]
              exact hK _ _ (Grow.refl _) rfl
            · refine .inl ⟨wanted_yes (j := 8) (b := false) rfl (yielded_of (d := 181) rfl (by simp [hf])), fun K hK => ?_⟩
              unfold Oper.wp
              simp [execOp, go_sem, *]
              exact hK _ _ (Grow.refl _) rfl
            · refine .inl ⟨wanted_yes (j := 8) (b := false) rfl (yielded_of (d := 181) rfl (by simp [hf])), fun K hK => ?_⟩
              unfold Oper.wp
              simp [execOp, go_sem, *]
              exact hK _ _ (Grow.refl _) rfl
            · refine .inl ⟨wanted_yes (j := 8) (b := false) rfl (yielded_of (d := 181) rfl (by simp [hf])), fun K hK => ?_⟩
              unfold Oper.wp
              simp [execOp, go_sem, *]
              exact hK _ _ (Grow.refl _) rfl
            · refine .inl ⟨wanted_yes (j := 8) (b := false) rfl (yielded_of (d := 181) rfl (by simp [hf])), fun K hK => ?_⟩
              unfold Oper.wp
              simp [go_sem, *]
              exact hK _ _ (Grow.refl _) rfl
            · refine .inl ⟨wanted_yes (j := 8) (b := false) rfl (yielded_of (d := 181) rfl (by simp [hf])), fun K hK => ?_⟩
              unfold Oper.wp
              simp [execOp, go_sem, *]
              exact hK _ _ (Grow.refl _) rfl
          · rw [HEX.out] at hex2; cases hex2
        · have hg3' := Grow.trans (Grow.alloc w2 _) hg3
          have HB3 := Lib.hid (HB2.out.below hg3' HB2.out.lt)
          have HM3 := Lib.hid (HM2.out.more hg3')
          have HEX := Lib.hid hex
          clear hex hg3 hg3' d0 d1 d2 d3 d4 d5 d6
          have d0 := fun o' => (HB3.out.alloc o').at 0 rfl
          have d1 := fun o' => (HB3.out.alloc o').at 1 rfl
          have d2 := fun o' => (HB3.out.alloc o').at 2 rfl
          have d3 := fun o' => (HB3.out.alloc o').at 3 rfl
          go_wp2_with (first | (go_at_call 25; refine (HT2.out _ _ ((HM3.out.more (Grow.alloc _ _)).more (Grow.alloc _ _)) (tell_at _ (by simp) HBB.out)).mono ?_) | fail)
          rintro e w5 (⟨hex2, vN2, rfl, htp2, hg5⟩ | ⟨hex2, rfl, hg5⟩)
          · rw [HEX.out] at hex2; cases hex2
          · have hbt : BlkOf w5 w3.heap.size #[.int .i64 0, .int .i64 0, .slice none 0 0, .slice none 0 0] 25 := ((BlkOf.new w3 _ _).alloc _).below hg5 (by simp; omega)
            have hg5' := Grow.trans (Grow.trans (Grow.alloc w3 _) (Grow.alloc _ _)) hg5
            have HB5 := Lib.hid (HB3.out.below hg5' HB3.out.lt)
            have HM5 := Lib.hid (HM3.out.more hg5')
            have HBT := Lib.hid hbt
            have hz0 : ∀ W, TpAt 3 W ⟨0, 0, [], []⟩ (.slice none 0 0) (.slice none 0 0) := fun W => ⟨i64_zero, i64_zero, by simp, by simp, none, 0, none, 0, rfl, rfl, (fun i x h => by simp at h), (fun i x h => by simp at h)⟩
            have HSM := Lib.hid (fun W (hW : Grow w5 W) => rsame_any (hz0 W) (hz0 W))
            clear hz0
            rw [sameTp_self] at HSM
            unfold tpV at HSM
            dsimp only at HSM
            clear hbt hg5 hg5' hex2 d0 d1 d2 d3
            have q0 := fun o' => (HBT.out.alloc o').at 0 rfl
            have q1 := fun o' => (HBT.out.alloc o').at 1 rfl
            have q2 := fun o' => (HBT.out.alloc o').at 2 rfl
            have q3 := fun o' => (HBT.out.alloc o').at 3 rfl
            go_wp2_with (first | (go_at_call 12; refine (HSM.out _ (Grow.alloc _ _)).mono ?_) | fail)
            rintro e w6 ⟨rfl, hg6⟩
            have HM6 := Lib.hid (HM5.out.more (Grow.trans (Grow.alloc w5 _) hg6))
            clear hg6 q0 q1 q2 q3
            go_wp2_with fail
            rename_i K0 hK0
            have HLEN := Lib.hid (fun W (hW : Grow w6 W) => len_some (HM6.out.one.grow hW))
            obtain ⟨A2, c2, hq2⟩ : ∃ A2 c2, ∀ W, Grow w6 W → W.cell? ⟨pq, 2, none⟩ = some (.slice A2 S.l.length c2) := by
              obtain ⟨pq', A2, c2, e1, e2, e3⟩ := HM6.out.two.row
              cases e1
              exact ⟨A2, c2, fun W hW => (hW.cell (p := ⟨pq, 2, none⟩) e3).trans e2⟩
            obtain ⟨zl, hzl⟩ : ∃ zl : Nat, zl = S.l.length := ⟨_, rfl⟩
            rw [← hzl] at HLEN hq2
            have KC := Lib.hid hq2
            clear hq2 hzl
            refine wp_region_listG [fun v _ => v = .int .i64 0, fun v _ => v = .int .i64 0, fun v _ => v = .bool false, fun v _ => v = .bool false, fun v _ => v = .int .i64 0, fun v _ => v = .int .i64 0, fun v _ => v = .bool false, fun v _ => v = .bool false, fun v _ => v = .bool false, fun v _ => v = .pointer (some ⟨pm, 0, none⟩), fun v _ => v = .int .i64 (zl : Int), fun v _ => v = .pointer (some ⟨pq, 0, none⟩), fun v _ => v = .pointer (some ⟨pq, 0, none⟩), fun v _ => v = .pointer (some ⟨pq, 2, none⟩), fun v _ => v = .slice A2 zl c2, fun v _ => v = .int .i64 (zl : Int), fun v _ => v = .bool false]
              [(5, .pointer (some ⟨pm, 0, none⟩)), (7, .pointer (some ⟨pq, 0, none⟩)), (11, .int .i64 0), (12, .int .i64 0), (13, .int .i64 0), (14, .int .i64 0)] 17 (by kernel_rfl) ⟨stays_pure _, stays_pure _, stays_pure _, stays_pure _, stays_pure _, stays_pure _, stays_pure _, stays_pure _, stays_pure _, stays_pure _, stays_pure _, stays_pure _, stays_pure _, stays_pure _, stays_pure _, stays_pure _, stays_pure _, trivial⟩ rfl (by kernel_rfl) rfl ?base (by kernel_rfl) ⟨?_, ?_, ?_, ?_, ?_, ?_, ?_, ?_, ?_, ?_, ?_, ?_, ?_, ?_, ?_, ?_, ?_, trivial⟩ ?last
            case base => simp
            case last =>
              intro vs W hW hv
              simp only [FactsL, Nat.zero_add, Nat.reduceAdd] at hv
              have v8 := hv.2.2.2.2.2.2.2.2.1
              have v16 := hv.2.2.2.2.2.2.2.2.2.2.2.2.2.2.2.2.1
              clear hv
              refine ⟨rfl, ?_⟩
              simp only [List.take_succ_cons, List.take_zero, putF, Act.put, List.setIfInBounds_toArray, List.set_cons_zero, List.set_cons_succ, Nat.reduceAdd, v8, v16]
              unfold Oper.wp
              simp [execOp, go_sem]
              refine hK0 _ _ ?_
              have HME := Lib.hid (HM6.out.more hW)
              clear hW
              go_wp2_with fail
              exact ⟨⟨k + 1, by have := HNN.out; omega, by omega, by go_num, _, _, _, HME.out⟩, by simp [intOf]; omega⟩
            all_goals
              intro a' W hW hb hf
              have t2 := KC.out W hW
              simp only [List.forall_mem_cons, List.not_mem_nil, false_imp_iff, implies_true, and_true] at hb
              obtain ⟨m5, m7, m11, m12, m13, m14⟩ := hb
              simp [FactsOf, FactAt, Region.binds, factsL] at hf
            · refine .inl ⟨rfl, fun K hK => ?_⟩
              unfold Oper.wp
              simp [execOp, go_sem, *]
              exact hK _ _ (Grow.refl _) rfl
            · refine .inl ⟨rfl, fun K hK => ?_⟩
              unfold Oper.wp
              simp [execOp, go_sem, *]
              exact hK _ _ (Grow.refl _) rfl
            · refine .inl ⟨rfl, fun K hK => ?_⟩
              unfold Oper.wp
              simp [execOp, go_sem, *]
              exact hK _ _ (Grow.refl _) rfl
            · refine .inl ⟨rfl, fun K hK => ?_⟩
              unfold Oper.wp
              simp [execOp, go_sem, *]
              exact hK _ _ (Grow.refl _) rfl
            · refine .inl ⟨wanted_yes (j := 3) (b := false) rfl (yielded_of (d := 176) rfl (by simp [hf])), fun K hK => ?_⟩
              unfold Oper.wp
              simp [execOp, go_sem, *]
              exact hK _ _ (Grow.refl _) rfl
            · refine .inl ⟨wanted_yes (j := 3) (b := false) rfl (yielded_of (d := 176) rfl (by simp [hf])), fun K hK => ?_⟩
              unfold Oper.wp
              simp [execOp, go_sem, *]
              exact hK _ _ (Grow.refl _) rfl
            · refine .inl ⟨wanted_yes (j := 3) (b := false) rfl (yielded_of (d := 176) rfl (by simp [hf])), fun K hK => ?_⟩
              unfold Oper.wp
              simp [execOp, go_sem, *]
              exact hK _ _ (Grow.refl _) rfl
            · refine .inl ⟨rfl, fun K hK => ?_⟩
              unfold Oper.wp
              simp [execOp, go_sem, *]
              exact hK _ _ (Grow.refl _) rfl
            · refine .inl ⟨rfl, fun K hK => ?_⟩
              unfold Oper.wp
              simp [execOp, go_sem, *]
              exact hK _ _ (Grow.refl _) rfl
            · refine .inl ⟨wanted_yes (j := 8) (b := false) rfl (yielded_of (d := 181) rfl (by simp [hf])), fun K hK => ?_⟩
              unfold Oper.wp
              simp [execOp, go_sem, *]
              exact hK _ _ (Grow.refl _) rfl
            · refine .inl ⟨wanted_yes (j := 8) (b := false) rfl (yielded_of (d := 181) rfl (by simp [hf])), fun K hK => ?_⟩
              unfold Oper.wp
              simp [go_sem, *]
              refine (HLEN.out _ hW).mono ?_
              rintro e W' ⟨rfl, rfl⟩
              exact hK _ _ (Grow.refl _) rfl
            · refine .inl ⟨wanted_yes (j := 8) (b := false) rfl (yielded_of (d := 181) rfl (by simp [hf])), fun K hK => ?_⟩
              unfold Oper.wp
              simp [execOp, go_sem, *]
              exact hK _ _ (Grow.refl _) rfl
            · refine .inl ⟨wanted_yes (j := 8) (b := false) rfl (yielded_of (d := 181) rfl (by simp [hf])), fun K hK => ?_⟩
              unfold Oper.wp
              simp [execOp, go_sem, *]
              exact hK _ _ (Grow.refl _) rfl
            · refine .inl ⟨wanted_yes (j := 8) (b := false) rfl (yielded_of (d := 181) rfl (by simp [hf])), fun K hK => ?_⟩
              unfold Oper.wp
              simp [execOp, go_sem, *]
              exact hK _ _ (Grow.refl _) rfl
            · refine .inl ⟨wanted_yes (j := 8) (b := false) rfl (yielded_of (d := 181) rfl (by simp [hf])), fun K hK => ?_⟩
              unfold Oper.wp
              simp [execOp, go_sem, *]
              exact hK _ _ (Grow.refl _) rfl
            · refine .inl ⟨wanted_yes (j := 8) (b := false) rfl (yielded_of (d := 181) rfl (by simp [hf])), fun K hK => ?_⟩
              unfold Oper.wp
              simp [go_sem, *]
              exact hK _ _ (Grow.refl _) rfl
            · refine .inl ⟨wanted_yes (j := 8) (b := false) rfl (yielded_of (d := 181) rfl (by simp [hf])), fun K hK => ?_⟩
              unfold Oper.wp
              simp [execOp, go_sem, *]
              exact hK _ _ (Grow.refl _) rfl
end Go.Proofs.YtofpcdjoljjnoaaGreatDoor
