/-
  LAYER 17: the laws: which steps are live.
-/
import Derived.Test.YtofpcdjoljjnoaaDoorTapSmall2M
import Derived.Test.YtofpcdjoljjnoaaDoorTapLiveMM
import Derived.Test.YtofpcdjoljjnoaaDoorTapToldM
import Derived.Test.YtofpcdjoljjnoaaDoorTapAppRM
namespace Go.Proofs.YtofpcdjoljjnoaaDoor
open Go.RowKit Go.Maps

theorem NdsRaw.grow {W W' : World} {A : Option Addr} {L : List Nd} (h : NdsRaw W A L) (hg : Grow W W') : NdsRaw W' A L := fun i x hx => by
  obtain ⟨b, off, vn, vd, h1, h2, h3⟩ := h i x hx
  have hb := World.block_lt_of_cell? W _ (h2 0 _ rfl)
  exact ⟨b, off, vn, vd, h1, fun j v hv => (hg.cell (p := ⟨b, off + i * 6 + j, none⟩) hb).trans (h2 j v hv), h3.grow hg⟩
def UsedRel (L : List Nd) (F : List Bool) (g q z : Nat) (cs : Array Value) (w : World) (i : Value) (wr : World) : Prop :=
  ∃ k : Nat, k ≤ L.length ∧ i = .int .i64 (k : Int) ∧ BlkOf wr q (bools (usedUp L F k)) 4 ∧ BlkOf wr g (bools F) 4 ∧ BlkOf wr z cs 46 ∧ Grow w wr
def ThreeRel (n : Nat) (g q z : Nat) (G Q : List Bool) (cs : Array Value) (w : World) (i : Value) (wr : World) : Prop :=
  ∃ k : Nat, k ≤ n ∧ i = .int .i64 (k : Int) ∧ BlkOf wr q (bools Q) 4 ∧ BlkOf wr g (bools G) 4 ∧ BlkOf wr z cs 46 ∧ Grow w wr

set_option maxRecDepth 100000 in
set_option maxHeartbeats 64000000 in
theorem tlive_any {pars out : Int} {A B : Option Addr} {ca cb : Nat} {L : List Nd} {T : List (List UInt8 × Int)} {w : World} (hp : I64 pars) (ho : I64 out) (hl : L.length ≤ 9223372036854775807) (ht : T.length ≤ 9223372036854775807) (hL : NdsRaw w A L) (hTT : TlsAt w B T) (hs : ∀ t ∈ T, t.1.length ≤ 9223372036854775807) (hT : Tab w) :
    Calls Tryd.prog 4 #[.agg #[.int .i64 pars, .int .i64 out, .slice A L.length ca, .slice B T.length cb]] w (Just (.bool true) w) := by
  obtain ⟨i0, hinf, hz0, hz1, hz2⟩ := info_parts info_bool
  have b0 : BlkOf (w.alloc (.cells #[.int .i64 pars, .int .i64 out, .slice A L.length ca, .slice B T.length cb] 46)) w.heap.size #[.int .i64 pars, .int .i64 out, .slice A L.length ca, .slice B T.length cb] 46 := BlkOf.new w _ _
  have hg1 := Grow.alloc w (.cells #[.int .i64 pars, .int .i64 out, .slice A L.length ca, .slice B T.length cb] 46)
  have HSM := Lib.hid (small17_any (pars := pars) (out := out) (ca := ca) (cb := cb) (NdsRaw.grow hL hg1) (hTT.grow hg1) hl ht hs)
  have HH := Lib.hid (fun W (hW : Grow w W) => head_any W (hT.grow hW))
  have HL := Lib.hid hL
  have HTT := Lib.hid hTT
  have HT := Lib.hid hT
  have HIO := Lib.hid (And.intro hp ho)
  have HB := Lib.hid b0
  have HG1 := Lib.hid hg1
  clear hp ho hL hTT hs hT hg1
  go_enter Tryd.func4, Tryd.ntmps4
  have c0 := b0.at 0 rfl
  have c1 := b0.at 1 rfl
  have c2 := b0.at 2 rfl
  have c3 := b0.at 3 rfl
  clear b0
  go_wp2_with (first | (go_at_call 18; refine HSM.out.mono ?_) | fail)
  rintro e w2 (⟨rfl, h200, h50, hK, hg2⟩ | ⟨rfl, hg2⟩)
  · have HB2 := Lib.hid (HB.out.below hg2 HB.out.lt)
    have HG2 := Lib.hid (Grow.trans HG1.out hg2)
    have htp : TpAt 3 w ⟨pars, out, L, T⟩ (.slice A L.length ca) (.slice B T.length cb) := ⟨HIO.out.1, HIO.out.2, by show L.length ≤ _; omega, by show T.length ≤ _; omega, _, _, _, _, rfl, rfl, HL.out.at hK, HTT.out⟩
    have hchk := fun W (hW : Grow w W) => check_any (htp.grow hW) (by decide) (HT.out.grow hW)
    have hlive := fun W (hW : Grow w W) => live_any (htp.grow hW) (by decide) (HT.out.grow hW)
    unfold tpV at hchk hlive
    dsimp only at hchk hlive
    have HTP := Lib.hid htp
    have HLIVE := Lib.hid hlive
    obtain ⟨N, hN⟩ : ∃ N, N = L.length := ⟨_, rfl⟩
    obtain ⟨M, hM⟩ : ∃ M, M = T.length := ⟨_, rfl⟩
    have HN := Lib.hid hN
    have HM := Lib.hid hM
    rw [← hN] at hchk HLIVE HB HB2 c2 h200
    rw [← hM] at hchk HLIVE HB HB2 c3
    rw [← hN, ← hM]
    clear hg2 htp hlive hK c0 c1 c2 c3 hN hM HSM h50 hl ht
    have c0 := HB2.out.at 0 rfl
    have c1 := HB2.out.at 1 rfl
    have c2 := HB2.out.at 2 rfl
    have c3 := HB2.out.at 3 rfl
    cases hv : validB ⟨pars, out, L, T⟩ with
    | false =>
      rw [hv] at hchk
      have HCHK := Lib.hid hchk
      clear hchk
      go_wp2_with (first | (go_at_call 16; refine (HCHK.out _ HG2.out).mono ?_) | fail)
      rintro e w3 ⟨rfl, hg3⟩
      have HG3 := Lib.hid (Grow.trans HG2.out hg3)
      clear hg3 c0 c1 c2 c3
      go_wp2_with (first | (go_at_call 8; refine (HH.out _ HG3.out).mono ?_) | fail)
      rintro e w4 ⟨rfl, hg4⟩
      have HG4 := Lib.hid (Grow.trans HG3.out hg4)
      clear hg4
      go_wp2_with fail
      go_ret
      exact ⟨rfl, HG4.out⟩
    | true =>
      rw [hv] at hchk
      have HCHK := Lib.hid hchk
      have HV := Lib.hid hv
      have hval := hv
      unfold validB at hval
      dsimp only at hval
      simp only [Bool.and_eq_true, decide_eq_true_eq] at hval
      obtain ⟨⟨⟨hp0, hp2⟩, hl20, hsteps⟩, htl, ho0, ho1⟩ := hval
      obtain ⟨o, rfl⟩ := Int.eq_ofNat_of_zero_le ho0
      have HST := Lib.hid hsteps
      have HTL := Lib.hid htl
      have hoN : o < N := by have := HN.out; omega
      clear hchk hv hl20 htl hsteps ho0 ho1
      go_wp2_with (first | (go_at_call 16; refine (HCHK.out _ HG2.out).mono ?_) | fail)
      rintro e w3 ⟨rfl, hg3⟩
      have HG3 := Lib.hid (Grow.trans HG2.out hg3)
      have HB3 := Lib.hid (HB2.out.below hg3 HB2.out.lt)
      clear hg3 c0 c1 c2 c3
      have c0 := HB3.out.at 0 rfl
      have c1 := HB3.out.at 1 rfl
      have c2 := HB3.out.at 2 rfl
      have c3 := HB3.out.at 3 rfl
      go_wp2_with (first | (go_at_call 19; refine (HLIVE.out _ HG3.out).mono ?_) | fail)
      rintro e w4 (⟨_, g, n, rfl, hn, hgl, hbF, hg4⟩ | ⟨h, _⟩)
      · obtain ⟨F, hF⟩ : ∃ F, F = liveUp L (o : Int) L.length := ⟨_, rfl⟩
        dsimp only at hn hbF
        rw [← hF] at hbF
        have HF := Lib.hid hF
        have hFl : F.length = N := by rw [hF, liveUp_length, HN.out]
        rw [← HN.out] at hn
        subst hn
        have hFo : F.getD o false = true := by rw [hF]; exact (liveUp_get HST.out ⟨by omega, by have := HN.out; omega⟩ _ (Nat.le_refl _) o).2 (.inl rfl)
        have HG4 := Lib.hid (Grow.trans HG3.out hg4)
        have HB4 := Lib.hid (HB3.out.below hg4 HB3.out.lt)
        have HFB := Lib.hid hbF
        have HFL := Lib.hid hFl
        clear c0 c1 c2 c3
        have c0 := HB4.out.at 0 rfl
        have c1 := HB4.out.at 1 rfl
        have c2 := HB4.out.at 2 rfl
        have c3 := HB4.out.at 3 rfl
        have co := hbF.at o (bools_get F (by omega))
        rw [hFo] at co
        have hoI : (o : Int) < (n : Int) := by omega
        clear hg4 hF hbF hFl hFo
        have HGL := Lib.hid hgl
        go_wp2_with (first
          | (at_make
             refine wpList_make_full _ rfl _ _ 53 rfl w4.heap.size 4 i0 (.bool false) 1 Tryd.underlying53 hinf hz0 hz1 .i64 .i64 _ _ n rfl rfl rfl rfl (by rw [hz2]; omega) (by unfold maxLen; omega) (Nat.le_refl _) ?_
             intro w5 hown5 hgn5
             have hb5 : Below w4.heap.size w4 w5 := (Below.refl _ w4).grown hgn5 (Nat.le_refl _) (fun k hk => by cases hk)
             have HO5 := Lib.hid (made_bools hown5)
             have HF5 := Lib.hid (HFB.out.below hb5 HFB.out.lt)
             have HB5 := Lib.hid (HB4.out.below hb5 HB4.out.lt)
             have HG5 : Hid (Grow w w5) := Lib.hid (Grow.trans HG4.out hb5)
             clear hown5 hgn5 hb5 c0 c1 c2 c3 co)
          | fail)
        obtain ⟨q, hq⟩ : ∃ q, q = w4.heap.size := ⟨_, rfl⟩
        have HGQ : Hid (w.heap.size < g ∧ g < q) := Lib.hid (by
          exact ⟨Nat.lt_of_lt_of_le HB3.out.lt HGL.out, by rw [hq]; exact HFB.out.lt⟩)
        rw [← hq] at HO5 ⊢
        clear hq hgl
        go_loopw [5] (fun i wr => UsedRel L F g q w.heap.size #[.int .i64 pars, .int .i64 (o : Int), .slice A n ca, .slice B M cb] w i wr) (fun i _ => n - (intOf i).toNat)
        case atStart => exact ⟨0, by omega, rfl, (by unfold usedUp; rw [← HN.out]; exact HO5.out), HF5.out, HB5.out, HG5.out⟩
        case round =>
          obtain ⟨k, hk, rfl, hbQ, hbF, hbT, hgr⟩ := hrel
          have hkN : k ≤ n := by rw [HN.out]; exact hk
          have HQB := Lib.hid hbQ
          have HFB := Lib.hid hbF
          have HTB := Lib.hid hbT
          have HGR := Lib.hid hgr
          by_cases hlt : k < n
          · have hltI : (k : Int) < (n : Int) := by omega
            obtain ⟨x, hx⟩ : ∃ x, L[k]? = some x := ⟨_, List.getElem?_eq_getElem (by have := HN.out; omega)⟩
            have HX := Lib.hid hx
            obtain ⟨b, off, vn, vd, rfl, hc, hok⟩ := (HL.out.grow hgr) k x hx
            have d0 := hc 0 _ rfl
            have d1 := hc 1 _ rfl
            have d2 := hc 2 _ rfl
            have d3 := hc 3 _ rfl
            have d4 := hc 4 _ rfl
            have d5 := hc 5 _ rfl
            rw [Nat.add_zero] at d0
            obtain ⟨hop, ⟨ha1, ha2⟩, ⟨hb1, hb2⟩, ⟨an, cn, rfl, _⟩, ⟨ad, cd, rfl, _⟩, _⟩ := hok
            have t2 := hbT.at 2 rfl
            obtain ⟨fk, hfk⟩ : ∃ fk, fk = F.getD k false := ⟨_, rfl⟩
            have HFK := Lib.hid hfk
            have f0 := fun o' => (hbF.alloc o').at k (bools_get F (by have := HFL.out; omega))
            rw [← hfk] at f0
            have hqlt : q < wr.heap.size := hbQ.lt
            have hglt : g < wr.heap.size := hbF.lt
            have HUN : Hid (usedUp L F (k + 1) = if fk && decide (3 ≤ x.op) then (if x.op ≤ 6 then ((usedUp L F k).set x.a.toNat true).set x.b.toNat true else (usedUp L F k).set x.a.toNat true) else usedUp L F k) := Lib.hid (by rw [usedUp, HX.out, HFK.out])
            have hab := used_ab HST.out hx
            have HAB := Lib.hid hab
            have HUL : Hid ((usedUp L F k).length = n) := Lib.hid (by rw [usedUp_length, HN.out])
            obtain ⟨op, xa, xb, xs, xm, xd⟩ := x
            dsimp only at *
            clear hk hbF hbT hgr hx hc hfk hab HF5 HB5 HG5 HO5
            cases fk with
            | false =>
              have HUN2 : Hid (usedUp L F (k + 1) = usedUp L F k) := Lib.hid (by rw [HUN.out, Bool.false_and]; rfl)
              clear hbQ
              go_wp2_with fail
              go_roundw
              case rel => exact ⟨k + 1, by have := HN.out; omega, by go_num, by rw [HUN2.out]; exact HQB.out.alloc _, HFB.out.alloc _, HTB.out.alloc _, Grow.trans HGR.out (Grow.alloc _ _)⟩
              case measure => simp [intOf]; omega
            | true =>
              by_cases h3 : 3 ≤ op
              · have h3i : ¬ (op : Int) < 3 := by omega
                obtain ⟨⟨a1, a2⟩, hb6⟩ := HAB.out h3
                obtain ⟨ai, rfl⟩ := Int.eq_ofNat_of_zero_le a1
                have haN : ai < n := by omega
                have haI : (ai : Int) < (n : Int) := by omega
                have s1 := fun o' => (hbQ.alloc o').at ai (bools_get _ (by have := HUL.out; omega))
                have z1 := fun o' => (hbQ.alloc o').free ai
                have hQ1 := hbQ.set ai (.bool true)
                have hqne : q ≠ wr.heap.size := by omega
                have HQ1 := Lib.hid hQ1
                by_cases h6 : op ≤ 6
                · have h6i : (op : Int) ≤ 6 := by omega
                  obtain ⟨b1, b2⟩ := hb6 h6
                  obtain ⟨bi, rfl⟩ := Int.eq_ofNat_of_zero_le b1
                  have hbN : bi < n := by omega
                  have hbI : (bi : Int) < (n : Int) := by omega
                  have HUN2 : Hid (usedUp L F (k + 1) = ((usedUp L F k).set ai true).set bi true) := Lib.hid (by rw [HUN.out, decide_eq_true h3, Bool.true_and, if_pos rfl, if_pos h6]; rfl)
                  have s2 := fun o' => (hQ1.alloc o').at bi (v := .bool (((usedUp L F k).set ai true).getD bi false)) (by rw [bools_set]; exact bools_get _ (by rw [List.length_set]; have := HUL.out; omega))
                  have z2 := fun o' => (hQ1.alloc o').free bi
                  clear hbQ hb6 hQ1
                  go_wp2_with fail
                  go_roundw
                  case rel =>
                    refine ⟨k + 1, by have := HN.out; omega, by go_num, ?_, ?_, ?_, ?_⟩
                    · rw [HUN2.out, ← bools_set, ← bools_set]; exact (HQ1.out.set bi (.bool true)).alloc _
                    · exact ((HFB.out.other (p := ⟨q, ai, none⟩) (by show q ≠ g; have := HGQ.out; omega) _).other (p := ⟨q, bi, none⟩) (by show q ≠ g; have := HGQ.out; omega) _).alloc _
                    · exact ((HTB.out.other (p := ⟨q, ai, none⟩) (by show q ≠ w.heap.size; have := HGQ.out; omega) _).other (p := ⟨q, bi, none⟩) (by show q ≠ w.heap.size; have := HGQ.out; omega) _).alloc _
                    · have hb := (Below.setCell (p := ⟨q, ai, none⟩) HGR.out (by show w.heap.size ≤ q; have := HGQ.out; omega) (.bool true)).setCell (p := ⟨q, bi, none⟩) (by show w.heap.size ≤ q; have := HGQ.out; omega) (.bool true)
                      exact hb.alloc (Below.size hb) _
                  case measure => simp [intOf]; omega
                · have h6i : ¬ (op : Int) ≤ 6 := by omega
                  have HUN2 : Hid (usedUp L F (k + 1) = (usedUp L F k).set ai true) := Lib.hid (by rw [HUN.out, decide_eq_true h3, Bool.true_and, if_pos rfl, if_neg h6]; rfl)
                  clear hbQ hb6 hQ1
                  go_wp2_with fail
                  go_roundw
                  case rel =>
                    refine ⟨k + 1, by have := HN.out; omega, by go_num, ?_, ?_, ?_, ?_⟩
                    · rw [HUN2.out, ← bools_set]; exact HQ1.out.alloc _
                    · exact (HFB.out.other (p := ⟨q, ai, none⟩) (by show q ≠ g; have := HGQ.out; omega) _).alloc _
                    · exact (HTB.out.other (p := ⟨q, ai, none⟩) (by show q ≠ w.heap.size; have := HGQ.out; omega) _).alloc _
                    · have hb := Below.setCell (p := ⟨q, ai, none⟩) HGR.out (by show w.heap.size ≤ q; have := HGQ.out; omega) (.bool true)
                      exact hb.alloc (Below.size hb) _
                  case measure => simp [intOf]; omega
              · have h3i : (op : Int) < 3 := by omega
                have HUN2 : Hid (usedUp L F (k + 1) = usedUp L F k) := Lib.hid (by rw [HUN.out, decide_eq_false h3, Bool.and_false]; rfl)
                clear hbQ
                go_wp2_with fail
                go_roundw
                case rel => exact ⟨k + 1, by have := HN.out; omega, by go_num, by rw [HUN2.out]; exact HQB.out.alloc _, HFB.out.alloc _, HTB.out.alloc _, Grow.trans HGR.out (Grow.alloc _ _)⟩
                case measure => simp [intOf]; omega
          · obtain rfl : k = n := by omega
            have hab2 := True.intro
            obtain ⟨U, hU⟩ : ∃ U, U = usedUp L F k := ⟨_, rfl⟩
            have hUl : U.length = k := by rw [hU, usedUp_length, HN.out]
            rw [← hU] at hbQ HQB
            have HLU : Hid (∀ i, F.getD i false = (U.getD i false || decide ((i : Int) = (o : Int)))) := Lib.hid (fun i => by
              have h := live_used HST.out (out := (o : Int)) ⟨by omega, by have := HN.out; omega⟩ i
              rw [hU, HN.out, HF.out]
              exact h)
            have HUL := Lib.hid hUl
            clear hk hbQ hbF hbT hgr hU hUl hab2
            go_wp2_with fail
            obtain ⟨wq, hwq⟩ : ∃ wq, wq = wr := ⟨_, rfl⟩
            rw [← hwq] at HQB HFB HTB HGR ⊢
            clear hwq
            go_loopw [7] (fun i wr => ThreeRel k g q w.heap.size F U #[.int .i64 pars, .int .i64 (o : Int), .slice A k ca, .slice B M cb] w i wr) (fun i _ => k - (intOf i).toNat)
            case atStart => exact ⟨0, by omega, rfl, HQB.out, HFB.out, HTB.out, HGR.out⟩
            case round =>
              obtain ⟨j, hj, rfl, hbQ, hbF, hbT, hgr⟩ := hrel
              have HQ2 := Lib.hid hbQ
              have HF2 := Lib.hid hbF
              have HT2 := Lib.hid hbT
              have HG2' := Lib.hid hgr
              by_cases hlt2 : j < k
              · have hltJ : (j : Int) < (k : Int) := by omega
                have f0 := hbF.at j (bools_get F (by have := HFL.out; omega))
                have u0 := hbQ.at j (bools_get U (by have := HUL.out; omega))
                have t1 := hbT.at 1 rfl
                have hlu := HLU.out j
                obtain ⟨fk, hfk⟩ : ∃ fk, fk = F.getD j false := ⟨_, rfl⟩
                obtain ⟨uk, huk⟩ : ∃ uk, uk = U.getD j false := ⟨_, rfl⟩
                rw [← hfk] at f0 hlu
                rw [← huk] at u0 hlu
                clear hbQ hbF hbT hgr hj hfk huk
                cases uk with
                | true =>
                  obtain rfl : fk = true := by rw [hlu]; rfl
                  clear hlu
                  go_wp2_with fail
                  go_quiet (fail)
                  go_wp2_with fail
                  go_roundw
                  case rel => exact ⟨j + 1, by omega, by go_num, HQ2.out, HF2.out, HT2.out, Grow.trans HG2'.out (Grow.drewN wr nq)⟩
                  case measure => simp [intOf]; omega
                | false =>
                  by_cases hjo : j = o
                  · obtain rfl : fk = true := by rw [hlu, hjo]; simp
                    subst hjo
                    clear hlu
                    go_wp2_with fail
                    go_quiet (fail)
                    go_wp2_with fail
                    go_roundw
                    case rel => exact ⟨j + 1, by omega, by go_num, HQ2.out, HF2.out, HT2.out, Grow.trans HG2'.out (Grow.drewN wr nq)⟩
                    case measure => simp [intOf]; omega
                  · obtain rfl : fk = false := by rw [hlu, decide_eq_false (by omega)]; rfl
                    have hjoI : ¬ (j : Int) = (o : Int) := by omega
                    have hjob : ((j : Int) == (o : Int)) = false := by simp; omega
                    clear hlu
                    go_wp2_with fail
                    go_quiet (fail)
                    go_wp2_with fail
                    go_roundw
                    case rel => exact ⟨j + 1, by omega, by go_num, HQ2.out, HF2.out, HT2.out, Grow.trans HG2'.out (Grow.drewN wr nq)⟩
                    case measure => simp [intOf]; omega
              · obtain rfl : j = k := by omega
                have hltJ : ¬ (j : Int) < (j : Int) := by omega
                obtain ⟨ub, hub⟩ : ∃ ub, ub = wr.heap.size := ⟨_, rfl⟩
                obtain ⟨wu, hwu⟩ : ∃ wu, wu = wr.alloc (.cells #[.int .i64 pars, .int .i64 (o : Int), .slice A j ca, .slice B M cb] 46) := ⟨_, rfl⟩
                have hbU : BlkOf wu ub #[.int .i64 pars, .int .i64 (o : Int), .slice A j ca, .slice B M cb] 46 := by rw [hwu, hub]; exact BlkOf.new wr _ _
                have hgu : Grow wr wu := by rw [hwu]; exact Grow.alloc _ _
                have HUB := Lib.hid hbU
                have HGU := Lib.hid (Grow.trans hgr hgu)
                have HF3 := Lib.hid (hbF.below hgu hbF.lt)
                have HT3 := Lib.hid (hbT.below hgu hbT.lt)
                have t0 := hbT.at 0 rfl
                have t1 := hbT.at 1 rfl
                have t2 := hbT.at 2 rfl
                have t3 := hbT.at 3 rfl
                have HWU := Lib.hid hwu
                have HUBE := Lib.hid hub
                clear hbQ hbF hbT hgr hj hbU hgu hwu hub
                go_wp2_with fail
                rename_i K0 hK0
                rw [← HWU.out, ← HUBE.out]
                clear t0 t1 t2 t3
                obtain ⟨_, _, _, _, A', ca', B', cb', e1, e2, hat, hatT⟩ := HTP.out
                cases e1
                cases e2
                obtain ⟨b, off, rfl⟩ : ∃ b off, A = some ⟨b, off, none⟩ := by
                  obtain ⟨x0, hx0⟩ : ∃ x, L[0]? = some x := ⟨_, List.getElem?_eq_getElem (by have := HN.out; omega)⟩
                  obtain ⟨b, off, _, _, h, _⟩ := hat 0 x0 hx0
                  exact ⟨b, off, h⟩
                obtain ⟨ps, hvl, hvok, hvc, hvo⟩ := rows_of_at hat
                obtain ⟨cL, hcL⟩ : ∃ cL, cL = rowCells L ps := ⟨_, rfl⟩
                obtain ⟨cN, hcN⟩ : ∃ cN, cN = ndCells (bareNd 7 (o : Int) 0) (.slice none 0 0) (.slice none 0 0) := ⟨_, rfl⟩
                have hcLl : cL.length = j * 6 := by rw [hcL, rowCells_length hvl, HN.out]
                rw [← hcL] at hvc hvo
                have HCN := Lib.hid hcN
                have HCL := Lib.hid (And.intro hcL (And.intro hvl hvok))
                have HVC := Lib.hid (hvc b off rfl)
                have HVO := Lib.hid hvo
                have HCLL := Lib.hid hcLl
                have hj1 : 1 ≤ j := by omega
                have HLU2 : Hid (w.heap.size < ub ∧ ub < wu.heap.size) := Lib.hid ⟨by
                  rw [HUBE.out]
                  have h1 := HT2.out.lt
                  exact h1, HUB.out.lt⟩
                have KC : Hid (∀ W, (rowsRel wu.heap.size (j * 6) (cL ++ cN)).to wu W → W.cell? ⟨w.heap.size, 1, none⟩ = some (.int .i64 (o : Int)) ∧ W.cell? ⟨w.heap.size, 2, none⟩ = some (.slice (some ⟨b, off, none⟩) j ca)) := Lib.hid fun W hW => by
                  have q := HT3.out.below hW.1 HT3.out.lt
                  exact ⟨q.at 1 rfl, q.at 2 rfl⟩
                clear hat hatT hvl hvok hvc hvo hcL hcN hcLl
                obtain ⟨i5, hi5, hi50, hi51, hi52⟩ := info_parts info_node
                refine wp_region_listR (rowsRel wu.heap.size (j * 6) (cL ++ cN)) [fun v W => W.ownsRow wu.heap.size 56 6 v 0 [] ∧ ∃ h, v = .slice (some ⟨h, 0, none⟩) 0 0, fun v _ => v = .pointer (some ⟨w.heap.size, 2, none⟩), fun v _ => v = .slice (some ⟨b, off, none⟩) j ca, fun v W => W.ownsRow wu.heap.size 56 6 v j (cL) ∧ v ≠ .slice none 0 0, fun v _ => v = .pointer (some ⟨w.heap.size, 1, none⟩), fun v _ => v = .int .i64 (o : Int), fun v _ => v = .agg #[.int .u8 7, .int .i64 (o : Int), .int .i64 0, .bool false, .slice none 0 0, .slice none 0 0], fun v W => W.ownsRow wu.heap.size 56 6 v 1 (cN) ∧ v ≠ .slice none 0 0, fun v W => W.ownsRow wu.heap.size 56 6 v (j + 1) (cL ++ cN) ∧ v ≠ .slice none 0 0, fun v _ => v = .pointer (some ⟨ub, 2, none⟩)]
                  [(1, .pointer (some ⟨w.heap.size, 0, none⟩)), (8, .pointer (some ⟨ub, 0, none⟩))] 10 (by kernel_rfl) ⟨fun v w w' hr h => ⟨stays_rows (.inl (by omega)) v w w' hr h.1, h.2⟩, stays_pureR _ _, stays_pureR _ _, fun v w w' hr h => ⟨stays_rows (.inl (Nat.le_refl _)) v w w' hr h.1, h.2⟩, stays_pureR _ _, stays_pureR _ _, stays_pureR _ _, fun v w w' hr h => ⟨stays_rows (.inl (by omega)) v w w' hr h.1, h.2⟩, fun v w w' hr h => ⟨stays_rows (.inr rfl) v w w' hr h.1, h.2⟩, stays_pureR _ _, trivial⟩ rfl (by kernel_rfl) rfl ?base (by kernel_rfl) ⟨?_, ?_, ?_, ?_, ?_, ?_, ?_, ?_, ?_, ?_, trivial⟩ ?last
                case base => simp
                case last =>
                  intro vs W hW hv
                  simp only [FactsL, Nat.zero_add, Nat.reduceAdd] at hv
                  have v8 := hv.2.2.2.2.2.2.2.2.1
                  have v9 := hv.2.2.2.2.2.2.2.2.2.1
                  clear hv
                  refine ⟨rfl, ?_⟩
                  simp only [List.take_succ_cons, List.take_zero, putF, Act.put, List.setIfInBounds_toArray, List.set_cons_zero, List.set_cons_succ, Nat.reduceAdd, v9]
                  obtain ⟨x, hx⟩ : ∃ x, x = bareNd 7 (o : Int) 0 := ⟨_, rfl⟩
                  have hrow : W.ownsRow wu.heap.size 56 6 (vs 8) (L ++ [x]).length (rowCells (L ++ [x]) (ps ++ [(.slice none 0 0, .slice none 0 0)])) := by
                    rw [rowCells_snoc _ _ HCL.out.2.1, ← HCL.out.1, hx, ← HCN.out, List.length_append, ← HN.out]
                    exact v8.1
                  have hgx : ∃ gx cx, vs 8 = .slice (some ⟨gx, 0, none⟩) (j + 1) cx ∧ wu.heap.size ≤ gx := by
                    rcases v8.1.2 with ⟨e, _⟩ | ⟨g1, cap1, cur1, e1, hB1, _⟩
                    · exact absurd e v8.2
                    · exact ⟨_, _, e1, hB1⟩
                  obtain ⟨gx, cx, ex, hgxB⟩ := hgx
                  rw [ex] at hrow
                  have hub := HUB.out.below hW.1 HUB.out.lt
                  have u2 := hub.at 2 rfl
                  have z2 := hub.free 2
                  simp only [ex]
                  unfold Oper.wp
                  simp [execOp, go_sem, u2, z2]
                  have hgW : Grow w W := Grow.trans HGU.out hW.1
                  obtain ⟨W2, hW2⟩ : ∃ W2, W2 = W.setCell ⟨ub, 2, none⟩ (.slice (some ⟨gx, 0, none⟩) (j + 1) cx) := ⟨_, rfl⟩
                  have HW2 := Lib.hid hW2
                  have hgW2 : Grow w W2 := by rw [hW2]; exact Below.setCell (p := ⟨ub, 2, none⟩) hgW (by show w.heap.size ≤ ub; have := HLU2.out; omega) _
                  have hU2 : BlkOf W2 ub #[.int .i64 pars, .int .i64 (o : Int), .slice (some ⟨gx, 0, none⟩) (j + 1) cx, .slice B M cb] 46 := by rw [hW2]; exact hub.set 2 _
                  have hT2 : BlkOf W2 w.heap.size #[.int .i64 pars, .int .i64 (o : Int), .slice (some ⟨b, off, none⟩) j ca, .slice B M cb] 46 := by rw [hW2]; exact (HT3.out.below hW.1 HT3.out.lt).other (p := ⟨ub, 2, none⟩) (by show ub ≠ w.heap.size; have := HLU2.out; omega) _
                  have hF2 : BlkOf W2 g (bools F) 4 := by rw [hW2]; exact (HF3.out.below hW.1 HF3.out.lt).other (p := ⟨ub, 2, none⟩) (by show ub ≠ g; have := HF2.out.lt; have := HUBE.out; omega) _
                  obtain ⟨W3, hW3⟩ : ∃ W3, W3 = W2.setCell ⟨ub, 1, none⟩ (.int .i64 (j : Int)) := ⟨_, rfl⟩
                  have hgW3 : Grow w W3 := by rw [hW3]; exact Below.setCell (p := ⟨ub, 1, none⟩) hgW2 (by show w.heap.size ≤ ub; have := HLU2.out; omega) _
                  have hU3 : BlkOf W3 ub #[.int .i64 pars, .int .i64 (j : Int), .slice (some ⟨gx, 0, none⟩) (j + 1) cx, .slice B M cb] 46 := by rw [hW3]; exact hU2.set 1 _
                  have hT3 : BlkOf W3 w.heap.size #[.int .i64 pars, .int .i64 (o : Int), .slice (some ⟨b, off, none⟩) j ca, .slice B M cb] 46 := by rw [hW3]; exact hT2.other (p := ⟨ub, 1, none⟩) (by show ub ≠ w.heap.size; have := HLU2.out; omega) _
                  have hF3 : BlkOf W3 g (bools F) 4 := by rw [hW3]; exact hF2.other (p := ⟨ub, 1, none⟩) (by show ub ≠ g; have := HF2.out.lt; have := HUBE.out; omega) _
                  have hlen : (L ++ [x]).length = j + 1 := by rw [List.length_append, ← HN.out]; rfl
                  have hrow3 : W3.ownsRow wu.heap.size 56 6 (.slice (some ⟨gx, 0, none⟩) (j + 1) cx) (L ++ [x]).length (rowCells (L ++ [x]) (ps ++ [(.slice none 0 0, .slice none 0 0)])) := by
                    refine ownsRow_kept (P := fun k => k = gx) hrow (fun g hg => by cases hg; rfl) (fun k hk => ?_)
                    subst hk
                    rw [hW3, hW2]
                    rw [Below.heap_setCell _ _ _ _ (by show k ≠ ub; have := HLU2.out; omega), Below.heap_setCell _ _ _ _ (by show k ≠ ub; have := HLU2.out; omega)]
                  have hat3 : NdsAt 3 W3 (some ⟨gx, 0, none⟩) (L ++ [x]) := by
                    obtain ⟨g', c', e', _, h'⟩ := at_of_rows (K := 3) (by rw [List.length_append, List.length_append, HCL.out.2.1]; rfl) hrow3 (fun i y p hy hp => by
                      rcases Nat.lt_or_ge i L.length with hi | hi
                      · rw [List.getElem?_append_left hi] at hy
                        rw [List.getElem?_append_left (by rw [HCL.out.2.1]; exact hi)] at hp
                        have h := HCL.out.2.2 i y p hy hp
                        exact ⟨h.1, h.2.1, h.2.2.1, h.2.2.2.grow hgW3⟩
                      · rw [List.getElem?_append_right hi] at hy
                        rw [List.getElem?_append_right (by rw [HCL.out.2.1]; exact hi), HCL.out.2.1] at hp
                        have h0 : i - L.length = 0 := by
                          rcases Nat.eq_zero_or_pos (i - L.length) with h | h
                          · exact h
                          · rw [List.getElem?_eq_none (by simp; omega)] at hy; cases hy
                        rw [h0] at hy hp
                        simp at hy hp
                        rw [← hy, ← hp, hx]
                        exact ⟨by show 7 < 256; omega, HIO.out.2, i64_zero, Raw.nil _, Raw.nil _, by simp [bareNd], by simp [bareNd]⟩) (by simp)
                    have e1 : gx = g' := by simp at e'; exact e'.1
                    rw [e1]
                    exact h'
                  have htp3 : TpAt 3 W3 ⟨pars, (j : Int), L ++ [x], T⟩ (.slice (some ⟨gx, 0, none⟩) (L ++ [x]).length cx) (.slice B T.length cb) := ⟨HIO.out.1, by constructor <;> simp only [] <;> omega, by show (L ++ [x]).length ≤ _; omega, HTP.out.2.2.2.1, _, _, _, _, rfl, rfl, hat3, HTT.out.grow hgW3⟩
                  have hstep : stepB x (j : Int) pars = true := by
                    rw [hx]
                    unfold stepB bareNd isB writtenB
                    have f0 : fld 7 0 = 3 := by decide
                    have f1 : fld 7 1 = 0 := by decide
                    have f2 : fld 7 2 = 0 := by decide
                    simp only [f0, f1, f2]
                    have : (o : Int) < (j : Int) := by omega
                    simp [sameB, this]
                  have hval3 : validB ⟨pars, (j : Int), L ++ [x], T⟩ = true := by
                    unfold validB
                    dsimp only
                    rw [stepsB_snoc, HST.out, Nat.zero_add, ← HN.out, hstep, hlen, decide_eq_true hp0, decide_eq_true hp2, decide_eq_true (show j + 1 ≤ 20000 by omega), decide_eq_true (show (0 : Int) ≤ (j : Int) by omega), decide_eq_true (show (j : Int) < ((j + 1 : Nat) : Int) by omega)]
                    have htl := HTL.out
                    unfold tellsB at htl ⊢
                    rw [List.all_eq_true] at htl
                    have : (T.all fun x => decide (0 ≤ x.2) && decide (x.2 < ((j + 1 : Nat) : Int))) = true := by
                      rw [List.all_eq_true]
                      intro y hy
                      have h := htl y hy
                      simp only [Bool.and_eq_true, decide_eq_true_eq] at h ⊢
                      exact ⟨h.1, by have := h.2; have := HN.out; omega⟩
                    rw [this]
                    rfl
                  have hmore : liveUp (L ++ [x]) (j : Int) (L ++ [x]).length = F ++ [true] := by
                    have h := live_more HST.out (out := (o : Int)) ⟨by omega, by have := HN.out; omega⟩ (x := x) (by rw [hx]; exact ⟨by show fld 7 0 = 3; decide, rfl, by show fld 7 1 ≠ 3; decide⟩) L.length (Nat.le_refl _)
                    rw [hlen]
                    rw [← HN.out] at h
                    rw [h, HF.out, HN.out]
                  have hlive3 := live_any htp3 (by decide) (HT.out.grow hgW3)
                  unfold tpV at hlive3
                  dsimp only at hlive3
                  rw [hlen, ← HM.out] at hlive3
                  have HLV3 := Lib.hid hlive3
                  have HV3 := Lib.hid hval3
                  have HMORE := Lib.hid hmore
                  have HLEN3 := Lib.hid hlen
                  have HU3 := Lib.hid hU3
                  have HT3' := Lib.hid hT3
                  have HF3' := Lib.hid hF3
                  have HGW3 := Lib.hid hgW3
                  have HW3 := Lib.hid hW3
                  have t2 := hT2.at 2 rfl
                  have s0 := hU2.at 0 rfl
                  have s1 := hU2.at 1 rfl
                  have s2 := hU2.at 2 rfl
                  have s3 := hU2.at 3 rfl
                  have y1 := hU2.free 1
                  rw [← HW2.out]
                  refine hK0 _ _ ?_
                  clear v8 v9 ex hrow hub u2 z2 hgW hW2 hgW2 hU2 hT2 hF2 hW3 hgW3 hU3 hT3 hF3 hlen hrow3 hat3 htp3 hstep hval3 hmore hlive3 hx KC
                  go_wp2_with (first | (go_at_call 19; rw [← HW3.out]; refine HLV3.out.mono ?_) | fail)
                  rintro e w5 (⟨_, g2, n2, rfl, hn2, _, hb2, hg5⟩ | ⟨h, _⟩)
                  · dsimp only at hn2 hb2
                    rw [HMORE.out] at hb2
                    rw [HLEN3.out] at hn2
                    subst hn2
                    have HM5 := Lib.hid hb2
                    have HT5 := Lib.hid (HT3'.out.below hg5 HT3'.out.lt)
                    have HF5 := Lib.hid (HF3'.out.below hg5 HF3'.out.lt)
                    have HG5 := Lib.hid (Grow.trans HGW3.out hg5)
                    clear t2 s0 s1 s2 s3 y1 hb2 hg5
                    have t2 := HT5.out.at 2 rfl
                    have hne : ¬ ((j : Int) = 20000) := by omega
                    have hneb : ((j : Int) == 20000) = false := by simp; omega
                    have hadd : (((j + 1 : Nat) : Int)) = (j : Int) + 1 := by omega
                    go_wp2_with fail
                    clear t2
                    go_loopw [10] (fun i wr => ThreeRel j g g2 w.heap.size F (F ++ [true]) #[.int .i64 pars, .int .i64 (o : Int), .slice (some ⟨b, off, none⟩) j ca, .slice B M cb] w i wr) (fun i _ => j - (intOf i).toNat)
                    case atStart => exact ⟨0, by omega, rfl, HM5.out, HF5.out, HT5.out, HG5.out⟩
                    case round =>
                      obtain ⟨i, hi, rfl, hbQ, hbF, hbT, hgr⟩ := hrel
                      have HQ6 := Lib.hid hbQ
                      have HF6 := Lib.hid hbF
                      have HT6 := Lib.hid hbT
                      have HG6 := Lib.hid hgr
                      by_cases hlt6 : i < j
                      · have hltJ6 : (i : Int) < (j : Int) := by omega
                        have hltJ7 : (i : Int) < (j : Int) + 1 := by omega
                        have f0 := hbF.at i (bools_get F (by have := HFL.out; omega))
                        have m0 := hbQ.at i (bools_get (F ++ [true]) (by rw [List.length_append]; have := HFL.out; simp; omega))
                        have hm : (F ++ [true]).getD i false = F.getD i false := by
                          rw [List.getD_eq_getElem?_getD, List.getElem?_append_left (by have := HFL.out; omega), ← List.getD_eq_getElem?_getD]
                        rw [hm] at m0
                        obtain ⟨fk, hfk⟩ : ∃ fk, fk = F.getD i false := ⟨_, rfl⟩
                        rw [← hfk] at f0 m0
                        have hbb : (fk != fk) = false := by simp
                        clear hbQ hbF hbT hgr hi hfk hm
                        go_wp2_with fail
                        go_quiet (fail)
                        go_wp2_with fail
                        go_roundw
                        case rel => exact ⟨i + 1, by omega, by go_num, HQ6.out, HF6.out, HT6.out, Grow.trans HG6.out (Grow.drewN wr nq)⟩
                        case measure => simp [intOf]; omega
                      · have hltJ6 : ¬ (i : Int) < (j : Int) := by omega
                        clear hbQ hbF hbT hgr hi
                        go_wp2_with (first | (go_at_call 8; refine (HH.out _ HG6.out).mono ?_) | fail)
                        rintro e w7 ⟨rfl, hg7⟩
                        have HG7 := Lib.hid (Grow.trans HG6.out hg7)
                        clear hg7
                        go_wp2_with fail
                        go_ret
                        exact ⟨rfl, HG7.out⟩
                  · rw [HV3.out] at h; cases h
                all_goals
                  intro a' W hW hb hf
                  obtain ⟨e1, e2⟩ := KC.out W hW
                  simp only [List.forall_mem_cons, List.not_mem_nil, false_imp_iff, implies_true, and_true] at hb
                  obtain ⟨m1, m8⟩ := hb
                  simp [FactsOf, FactAt, Region.binds, factsL] at hf
                · refine .inl ⟨rfl, fun K hK => ?_⟩
                  unfold Oper.wp
                  simp [execOp, go_sem]
                  exact hK _ _ (rows_grow (Grow.alloc _ _) (Below.size hW.1)) ⟨own_empty W (Below.size hW.1), _, rfl⟩
                · refine .inl ⟨rfl, fun K hK => ?_⟩
                  unfold Oper.wp
                  simp [execOp, go_sem, *]
                  exact hK _ _ (Rel.refl _ _) rfl
                · refine .inl ⟨rfl, fun K hK => ?_⟩
                  unfold Oper.wp
                  simp [execOp, go_sem, *]
                  exact hK _ _ (Rel.refl _ _) rfl
                · refine .inl ⟨rfl, fun K hK => ?_⟩
                  have ev : ∀ k, a'.eval (.tmp k) = a'.tmps[k]?.getD undef := fun k => by simp [go_sem]
                  refine wp_append_done W (.tmp 93) (.tmp 95) 43 rfl wu.heap.size 56 i5 _ 6 80 Tryd.underlying43 hi5 hi50 hi51 hi52 rfl _ 0 [] (ev 93) hf.1.1 (fun e => by obtain ⟨h, h1⟩ := hf.1.2; rw [h1] at e; cases e) ⟨b, off, none⟩ j ca cL ((ev 95).trans hf.2) HCLL.out (fun i u hu => ((Grow.trans HGU.out hW.1).cell (World.block_lt_of_cell? w _ (HVC.out i u hu))).trans (HVC.out i u hu)) HVO.out (by unfold maxLen; omega) (by omega) (Below.size hW.1) ?_
                  intro v' w' hown hdone
                  have hgr : Grow W w' := by
                    rcases hdone with h | ⟨g1, cap1, cur1, e1, _, h2, _⟩
                    · exact h
                    · obtain ⟨h, h1⟩ := hf.1.2
                      rw [h1] at e1
                      cases e1
                      omega
                  rw [Nat.zero_add, List.nil_append] at hown
                  exact hK _ _ (rows_grow hgr (Below.size hW.1)) ⟨hown, ownsRow_ne hown hj1⟩
                · refine .inl ⟨rfl, fun K hK => ?_⟩
                  unfold Oper.wp
                  simp [execOp, go_sem, *]
                  exact hK _ _ (Rel.refl _ _) rfl
                · refine .inl ⟨rfl, fun K hK => ?_⟩
                  unfold Oper.wp
                  simp [execOp, go_sem, *]
                  exact hK _ _ (Rel.refl _ _) rfl
                · refine .inl ⟨rfl, fun K hK => ?_⟩
                  unfold Oper.wp
                  simp [execOp, go_sem, *]
                  exact hK _ _ (Rel.refl _ _) rfl
                · refine .inl ⟨rfl, fun K hK => ?_⟩
                  unfold Oper.wp
                  simp [execOp, go_sem, hf]
                  exact hK _ _ (rows_grow (Grow.alloc _ _) (Below.size hW.1)) ⟨by rw [HCN.out]; exact own_single W (Below.size hW.1) (bareNd 7 (o : Int) 0) _ _, by simp⟩
                · refine .inl ⟨rfl, fun K hK => ?_⟩
                  have ev : ∀ k, a'.eval (.tmp k) = a'.tmps[k]?.getD undef := fun k => by simp [go_sem]
                  have h100 := hf.2.1.1
                  obtain ⟨h, c1, e100⟩ : ∃ h c1, a'.tmps[100]?.getD undef = .slice (some ⟨h, 0, none⟩) 1 c1 := by
                    rcases h100.2 with ⟨_, h⟩ | ⟨g1, cap1, cur1, e1, _⟩
                    · omega
                    · exact ⟨_, _, e1⟩
                  have hcells := h100.cells (g := h) (by rw [e100]; rfl)
                  have hcN : ∀ u ∈ cN, u.oneCell' = true := by
                    rw [HCN.out]
                    unfold ndCells bareNd
                    intro u hu
                    simp only [List.mem_cons, List.not_mem_nil, or_false] at hu
                    rcases hu with rfl | rfl | rfl | rfl | rfl | rfl <;> rfl
                  have hcNl : cN.length = 1 * 6 := h100.1
                  refine wp_append_done W (.tmp 96) (.tmp 100) 43 rfl wu.heap.size 56 i5 _ 6 80 Tryd.underlying43 hi5 hi50 hi51 hi52 rfl _ j cL (ev 96) hf.1.1 hf.1.2 ⟨h, 0, none⟩ 1 c1 cN ((ev 100).trans e100) hcNl hcells hcN (by unfold maxLen; omega) (by omega) (Below.size hW.1) ?_
                  intro v' w' hown hdone
                  exact hK _ _ (rows_app hdone hf.1.1 rfl rfl hcNl (Below.size hW.1)) ⟨hown, ownsRow_ne hown (by omega)⟩
                · refine .inl ⟨rfl, fun K hK => ?_⟩
                  unfold Oper.wp
                  simp [execOp, go_sem, *]
                  exact hK _ _ (Rel.refl _ _) rfl
      · rw [HV.out] at h; cases h
  · have HG2 := Lib.hid (Grow.trans HG1.out hg2)
    clear hg2 c0 c1 c2 c3
    go_wp2_with (first | (go_at_call 8; refine (HH.out _ HG2.out).mono ?_) | fail)
    rintro e w3 ⟨rfl, hg3⟩
    have HG3 := Lib.hid (Grow.trans HG2.out hg3)
    clear hg3
    go_wp2_with fail
    go_ret
    exact ⟨rfl, HG3.out⟩
end Go.Proofs.YtofpcdjoljjnoaaDoor
