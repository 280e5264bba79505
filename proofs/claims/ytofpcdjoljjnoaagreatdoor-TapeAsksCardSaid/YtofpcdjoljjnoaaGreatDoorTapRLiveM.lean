/-
  LAYER 17: the document's answer: which steps are live.
-/
import Derived.Test.YtofpcdjoljjnoaaGreatDoorTapRLiveMM
import Derived.Test.YtofpcdjoljjnoaaGreatDoorTapZ24
namespace Go.Proofs.YtofpcdjoljjnoaaGreatDoor
open Go.RowKit

def isF (v : Value) : Bool := match v with | .bool false => true | _ => false
/-- How many cells of a block are false. -/
def cfW (w : World) (g : Nat) : Nat := match w.heap[g]? with | some (.cells cs _ _) => cs.toList.countP isF | _ => 0
theorem cfW_bools {w : World} {g : Nat} {X : List Bool} (h : BlkOf w g (bools X) 4) : cfW w g = cf X := by
  unfold cfW
  unfold BlkOf at h
  rw [h]
  unfold bools cf
  simp only
  induction X with
  | nil => rfl
  | cons b X ih =>
    simp only [List.map_cons, List.countP_cons, List.count_cons]
    have h2 : List.countP isF (X.map Value.bool) = List.count false X := by
      clear ih h
      induction X with
      | nil => rfl
      | cons c X ih2 =>
        rw [List.map_cons, List.countP_cons, List.count_cons, ih2]
        cases c <;> rfl
    rw [h2]
    cases b <;> rfl
def flag (v : Value) : Nat := match v with | .bool true => 1 | _ => 0
def OutRel (L : List Nd) (F : List Bool) (out g z : Nat) (cs : Array Value) (w : World) (v : Value) (wr : World) : Prop :=
  ∃ X m, v = .bool m ∧ Marked L F out X ∧ (m = false → X = F) ∧ BlkOf wr g (bools X) 4 ∧ BlkOf wr z cs 25 ∧ Grow w wr
def InRel (L : List Nd) (F X0 : List Bool) (out g z : Nat) (cs : Array Value) (w : World) (v i : Value) (wr : World) : Prop :=
  ∃ k X m, k ≤ L.length ∧ i = .int .i64 ((k : Nat) : Int) ∧ v = .bool m ∧ Pass L F out X0 k X m ∧ BlkOf wr g (bools X) 4 ∧ BlkOf wr z cs 25 ∧ Grow w wr

theorem shut_false {L : List Nd} {X : List Bool} {k : Nat} (h : X.getD k false = false) : Shut L X k := fun i h1 => by rw [h] at h1; cases h1
theorem shut_of {L : List Nd} {pars : Int} {X : List Bool} {k : Nat} {x : Nd} (hv : stepsB pars 0 L = true) (hx : L[k]? = some x) (ha : 3 ≤ x.op → X.getD x.a.toNat false = true) (hb : 3 ≤ x.op → x.op ≤ 6 → X.getD x.b.toNat false = true) : Shut L X k := fun i _ hu => by
  obtain ⟨y, hy, hu⟩ := hu
  rw [hx] at hy
  cases hy
  have hs := stepsB_at hv hx
  have ho := fld_of_op (stepB_op hs)
  rcases hu with ⟨h1, h2⟩ | ⟨h1, h2⟩
  · have := ha (ho.1.1 h1)
    rw [h2] at this
    exact this
  · have := hb (ho.2.1 h1).1 (ho.2.1 h1).2
    rw [h2] at this
    exact this

set_option maxRecDepth 100000 in
set_option maxHeartbeats 16000000 in
theorem rlive_any {w : World} {t : Tp} {vn vt : Value} (h : TpAt 3 w t vn vt) :
    Calls Tryz.prog 8 #[tpV t vn vt] w (LivePost t w) := by
  obtain ⟨i0, hi, hz0, hz1, hz2⟩ := info_parts info_bool
  have hchk := fun W (hW : Grow w W) => rcheck_any (h.grow hW)
  obtain ⟨hp, ho, hnl, htl, A, ca, B, cb, rfl, rfl, hn, htt⟩ := h
  obtain ⟨pars, out, L, T⟩ := t
  unfold tpV at *
  dsimp only at *
  obtain ⟨N, hN⟩ : ∃ N, N = L.length := ⟨_, rfl⟩
  rw [← hN] at hchk hnl ⊢
  have HN := Lib.hid hN
  have HL := Lib.hid hn
  have b0 : BlkOf (w.alloc (.cells #[.int .i64 pars, .int .i64 out, .slice A N ca, .slice B T.length cb] 25)) w.heap.size #[.int .i64 pars, .int .i64 out, .slice A N ca, .slice B T.length cb] 25 := BlkOf.new w _ _
  have HB := Lib.hid b0
  have HG := Lib.hid (Grow.alloc w (.cells #[.int .i64 pars, .int .i64 out, .slice A N ca, .slice B T.length cb] 25))
  have c0 := b0.at 0 rfl
  have c1 := b0.at 1 rfl
  have c2 := b0.at 2 rfl
  have c3 := b0.at 3 rfl
  cases hv : validB ⟨pars, out, L, T⟩ with
  | false =>
    rw [hv] at hchk
    have HCHK := Lib.hid hchk
    have HV := Lib.hid hv
    clear hchk hv hN hn htt b0
    go_enter Tryz.func8, Tryz.ntmps8
    go_wp2_with (first | (go_at_call 10; refine (HCHK.out _ HG.out).mono ?_) | fail)
    rintro e w1 ⟨rfl, hg1⟩
    have HG1 := Lib.hid (Grow.trans HG.out hg1)
    clear hg1
    go_wp2_with fail
    go_ret
    exact .inr ⟨HV.out, rfl, HG1.out⟩
  | true =>
    rw [hv] at hchk
    have HCHK := Lib.hid hchk
    have HV := Lib.hid hv
    have hval := hv
    unfold validB at hval
    dsimp only at hval
    simp only [Bool.and_eq_true, decide_eq_true_eq] at hval
    obtain ⟨⟨_, hl20, hsteps⟩, _, ho0, ho1⟩ := hval
    obtain ⟨o, rfl⟩ := Int.eq_ofNat_of_zero_le ho0
    have HST := Lib.hid hsteps
    have hoN : o < N := by omega
    have HO : Hid (o < L.length) := Lib.hid (by omega)
    have hoI : (o : Int) < (N : Int) := by omega
    have hNI : (N : Int) ≤ 20000 := by omega
    obtain ⟨F, hF⟩ : ∃ F, F = liveUp L (o : Int) L.length := ⟨_, rfl⟩
    have HF := Lib.hid hF
    clear hchk hv hN hn htt b0 hl20 hsteps ho0 ho1 hF
    go_enter Tryz.func8, Tryz.ntmps8
    go_wp2_with (first | (go_at_call 10; refine (HCHK.out _ HG.out).mono ?_) | fail)
    rintro e w1 ⟨rfl, hg1⟩
    have HG1 := Lib.hid (Grow.trans HG.out hg1)
    have HB1 := Lib.hid (HB.out.below hg1 HB.out.lt)
    clear hg1 c0 c1 c2 c3
    have c2 := HB1.out.at 2 rfl
    have hzw1 : w.heap.size < w1.heap.size := HB1.out.lt
    go_wp2_with (first
      | (at_make
         refine wpList_make_full _ rfl _ _ 28 rfl w1.heap.size 4 i0 (.bool false) 1 Tryz.underlying28 hi hz0 hz1 .i64 .i64 _ _ N rfl rfl rfl rfl (by rw [hz2]; omega) (by unfold maxLen; omega) (Nat.le_refl _) ?_
         intro w2 hown2 hgn2
         have hb2 : Below w1.heap.size w1 w2 := (Below.refl _ w1).grown hgn2 (Nat.le_refl _) (fun k hk => by cases hk)
         have hO2 := made_bools hown2
         have HO2 := Lib.hid hO2
         have HB2 := Lib.hid (HB1.out.below hb2 HB1.out.lt)
         have HG2 : Hid (Grow w w2) := Lib.hid (Grow.trans HG1.out hb2)
         have c1' := HB2.out.at 1 rfl
         have c5 := hO2.at o (bools_get _ (by simpa using hoN))
         have z5 := hO2.free o
         clear hown2 hgn2 hb2 hO2 c2)
      | fail)
    obtain ⟨g, hg⟩ : ∃ g, g = w1.heap.size := ⟨_, rfl⟩
    have HO2 := Lib.hid HO2.out
    have HSTART : Hid (OutRel L F o g w.heap.size #[.int .i64 pars, .int .i64 (o : Int), .slice A N ca, .slice B T.length cb] w (.bool true) (w2.setCell ⟨w1.heap.size, o, none⟩ (.bool true))) := Lib.hid (by
      have h1 := HO2.out.set o (.bool true)
      rw [bools_set] at h1
      refine ⟨(List.replicate L.length false).set o true, true, rfl, marked_start HST.out HO.out HF.out, (fun h => by cases h), by rw [hg, ← HN.out]; exact h1, HB2.out.other (p := ⟨w1.heap.size, o, none⟩) (by show w1.heap.size ≠ w.heap.size; omega) _, Below.setCell (p := ⟨w1.heap.size, o, none⟩) HG2.out (by show w.heap.size ≤ w1.heap.size; omega) _⟩)
    have HGQ : Hid (w.heap.size < g) := Lib.hid (by rw [hg]; exact hzw1)
    rw [← hg] at HSTART ⊢
    clear hg c1' c5 z5
    go_loopw [4] (fun v wr => OutRel L F o g w.heap.size #[.int .i64 pars, .int .i64 (o : Int), .slice A N ca, .slice B T.length cb] w v wr) (fun v wr => 2 * cfW wr g + flag v)
    case atStart => exact HSTART.out
    case round =>
      obtain ⟨X, m, rfl, hmk, hmF, hbx, hbt, hgr⟩ := hrel
      have HBX := Lib.hid hbx
      have HBT := Lib.hid hbt
      have HGR := Lib.hid hgr
      have HMK := Lib.hid hmk
      have HMF := Lib.hid hmF
      have HCF : Hid (cfW wr g = cf X) := Lib.hid (cfW_bools hbx)
      cases m with
      | false =>
        clear hmk hmF hbx hbt hgr
        go_wp2_with fail
        go_ret
        exact .inl ⟨HV.out, g, N, rfl, HN.out, Nat.le_of_lt HGQ.out, (by have hb := HBX.out; rw [HMF.out trivial, HF.out] at hb; exact hb), HGR.out⟩
      | true =>
        clear hmk hmF hbx hbt hgr
        go_wp2_with fail
        go_loopw [4, 5] (fun v i wr => InRel L F X o g w.heap.size #[.int .i64 pars, .int .i64 (o : Int), .slice A N ca, .slice B T.length cb] w v i wr) (fun _ i _ => N - (intOf i).toNat)
        case atStart => exact ⟨0, X, false, by omega, rfl, rfl, Pass.start HMK.out, HBX.out, HBT.out, HGR.out⟩
        case round =>
          obtain ⟨k, Y, m, hk, rfl, rfl, hps, hby, hbt, hgr⟩ := hrel
          have hkN : k ≤ N := by rw [HN.out]; exact hk
          have HPS := Lib.hid hps
          have HBY := Lib.hid hby
          have HBT2 := Lib.hid hbt
          have HGR2 := Lib.hid hgr
          by_cases hlt : k < N
          · have hltI : (k : Int) < (N : Int) := by omega
            obtain ⟨x, hx⟩ : ∃ x, L[k]? = some x := ⟨_, List.getElem?_eq_getElem (by have := HN.out; omega)⟩
            have HX := Lib.hid hx
            obtain ⟨b, off, un, ud, rfl, hc, hok⟩ := HL.out.grow hgr k x hx
            have d0 := hc 0 _ rfl
            have d1 := hc 1 _ rfl
            have d2 := hc 2 _ rfl
            have d3 := hc 3 _ rfl
            have d4 := hc 4 _ rfl
            have d5 := hc 5 _ rfl
            rw [Nat.add_zero] at d0
            obtain ⟨⟨an, cn, rfl, _⟩, ⟨ad, cd, rfl, _⟩, _⟩ := hok.2.2.2
            have t2 := hbt.at 2 rfl
            have HYL : Hid (Y.length = N) := Lib.hid (by rw [hps.mark.len, HN.out])
            obtain ⟨fk, hfk⟩ : ∃ fk, fk = Y.getD k false := ⟨_, rfl⟩
            have HFK := Lib.hid hfk
            have f0 := fun o' => (hby.alloc o').at k (bools_get Y (by have := HYL.out; omega))
            rw [← hfk] at f0
            have hglt : g < wr.heap.size := hby.lt
            have HGL : Hid (g < wr.heap.size) := Lib.hid hglt
            have hab := used_ab HST.out hx
            have HAB := Lib.hid hab
            obtain ⟨op, xa, xb, xc⟩ := x
            dsimp only at *
            clear hk hps hbt hgr hx hc hfk hab hok
            cases fk with
            | false =>
              have HNX := Lib.hid (Pass.next HPS.out (fun _ => shut_false HFK.out.symm))
              clear hby
              go_wp2_with fail
              go_roundw
              case rel => exact ⟨k + 1, _, _, by have := HN.out; omega, by go_num, rfl, HNX.out, HBY.out.alloc _, HBT2.out.alloc _, Grow.trans HGR2.out (Grow.alloc _ _)⟩
              case measure => simp [intOf]; omega
            | true =>
              by_cases h3 : 3 ≤ op
              case neg =>
                have h3i : (op : Int) < 3 := by omega
                have HNX := Lib.hid (Pass.next HPS.out (fun _ => shut_of HST.out HX.out (fun h => absurd h h3) (fun h => absurd h h3)))
                clear hby
                go_wp2_with fail
                go_roundw
                case rel => exact ⟨k + 1, _, _, by have := HN.out; omega, by go_num, rfl, HNX.out, HBY.out.alloc _, HBT2.out.alloc _, Grow.trans HGR2.out (Grow.alloc _ _)⟩
                case measure => simp [intOf]; omega
              have h3i : ¬ (op : Int) < 3 := by omega
              obtain ⟨⟨a1, a2⟩, hb6⟩ := HAB.out h3
              obtain ⟨ai, rfl⟩ := Int.eq_ofNat_of_zero_le a1
              have haN : ai < N := by omega
              have haI : (ai : Int) < (N : Int) := by omega
              obtain ⟨fa, hfa⟩ : ∃ fa, fa = Y.getD ai false := ⟨_, rfl⟩
              have HFA := Lib.hid hfa
              have s1 := fun o' => (hby.alloc o').at ai (bools_get Y (by have := HYL.out; omega))
              have z1 := fun o' => (hby.alloc o').free ai
              rw [← hfa] at s1
              have HB6 := Lib.hid hb6
              have hgne : g ≠ wr.heap.size := by omega
              have htwo := fun W => istwo_any op W
              clear hby hb6 hfa
              by_cases h6 : op ≤ 6
              case pos =>
                rw [show (decide (3 ≤ op) && decide (op ≤ 6)) = true by simp; omega] at htwo
                have HTWO := Lib.hid htwo
                clear htwo
                have HUA : Hid (Uses L k ai) := Lib.hid ⟨_, HX.out, .inl ⟨(fld_of_op (stepB_op (stepsB_at HST.out HX.out))).1.2 h3, rfl⟩⟩
                have HUB : Hid (∀ i : Nat, xb = (i : Int) → Uses L k i) := Lib.hid (fun i hi => ⟨_, HX.out, .inr ⟨(fld_of_op (stepB_op (stepsB_at HST.out HX.out))).2.2 ⟨h3, h6⟩, hi⟩⟩)
                cases fa with
                | false =>
                  go_wp2_with (first | (go_at_call 31; refine (HTWO.out _).mono ?_) | fail)
                  rintro e w2 ⟨rfl, hg2⟩
                  have HND := Lib.hid (show BlkOf w2 wr.heap.size _ _ by rw [← hg2]; exact BlkOf.news (by simp [World.setCell]) _ _)
                  have hbys : BlkOf (wr.setCell ⟨g, ai, none⟩ (.bool true)) g (bools (Y.set ai true)) 4 := by rw [← bools_set]; exact HBY.out.set ai (.bool true)
                  have HBY1 : Hid (BlkOf w2 g (bools (Y.set ai true)) 4) := Lib.hid (by rw [← hg2]; exact hbys.alloc _)
                  have HBT1 := Lib.hid (show BlkOf w2 w.heap.size _ _ by rw [← hg2]; exact (HBT2.out.other (p := ⟨g, ai, none⟩) (by show g ≠ w.heap.size; have := HGQ.out; omega) (.bool true)).alloc _)
                  have HGR1 : Hid (Grow w w2) := Lib.hid (by rw [← hg2]; have hb := Below.setCell (p := ⟨g, ai, none⟩) HGR2.out (by show w.heap.size ≤ g; have := HGQ.out; omega) (.bool true); exact hb.alloc (Below.size hb) _)
                  have HPS1 := Lib.hid (Pass.mark1 HST.out HO.out HF.out HPS.out HFK.out.symm HUA.out HFA.out.symm (by have := HN.out; omega))
                  have HA1 : Hid ((Y.set ai true).getD ai false = true) := Lib.hid (by rw [getD_set (by have := HYL.out; omega), if_pos rfl])
                  have HK1 : Hid ((Y.set ai true).getD k false = true) := Lib.hid (by rw [getD_set (by have := HYL.out; omega), if_neg (by omega)]; exact HFK.out.symm)
                  have HYL1 : Hid ((Y.set ai true).length = N) := Lib.hid (by rw [List.length_set]; exact HYL.out)
                  clear hbys
                  clear hg2 f0 s1 z1 t2 d0 d1 d2 d3 d4 d5
                  obtain ⟨b1, b2⟩ := HB6.out h6
                  obtain ⟨bi, rfl⟩ := Int.eq_ofNat_of_zero_le b1
                  have hbN : bi < N := by omega
                  have hbI : (bi : Int) < (N : Int) := by omega
                  obtain ⟨fb, hfb⟩ : ∃ fb, fb = (Y.set ai true).getD bi false := ⟨_, rfl⟩
                  have HFB := Lib.hid hfb
                  have s2 := HBY1.out.at bi (bools_get _ (by have := HYL1.out; omega))
                  have z2 := HBY1.out.free bi
                  rw [← hfb] at s2
                  have n2 := HND.out.at 2 rfl
                  clear hfb
                  cases fb with
                  | true =>
                    have HNX := Lib.hid (Pass.next HPS1.out (fun _ => shut_of HST.out HX.out (fun _ => HA1.out) (fun _ _ => HFB.out.symm)))
                    go_wp2_with fail
                    go_roundw
                    case rel => exact ⟨k + 1, _, _, by have := HN.out; omega, by go_num, rfl, HNX.out, HBY1.out, HBT1.out, HGR1.out⟩
                    case measure => simp [intOf]; omega
                  | false =>
                    have HNX := Lib.hid (Pass.next (Pass.mark1 HST.out HO.out HF.out HPS1.out HK1.out (HUB.out bi rfl) HFB.out.symm (by have := HN.out; omega)) (fun h => by cases h))
                    have HBYs := Lib.hid (HBY1.out.set bi (.bool true))
                    rw [bools_set] at HBYs
                    go_wp2_with fail
                    go_roundw
                    case rel => exact ⟨k + 1, _, _, by have := HN.out; omega, by go_num, rfl, HNX.out, HBYs.out, HBT1.out.other (p := ⟨g, bi, none⟩) (by show g ≠ w.heap.size; have := HGQ.out; omega) _, Below.setCell (p := ⟨g, bi, none⟩) HGR1.out (by show w.heap.size ≤ g; have := HGQ.out; omega) _⟩
                    case measure => simp [intOf]; omega
                | true =>
                  go_wp2_with (first | (go_at_call 31; refine (HTWO.out _).mono ?_) | fail)
                  rintro e w2 ⟨rfl, hg2⟩
                  have HND := Lib.hid (show BlkOf w2 wr.heap.size _ _ by rw [← hg2]; exact BlkOf.new _ _ _)
                  have HBY1 : Hid (BlkOf w2 g (bools Y) 4) := Lib.hid (by rw [← hg2]; exact HBY.out.alloc _)
                  have HBT1 := Lib.hid (show BlkOf w2 w.heap.size _ _ by rw [← hg2]; exact HBT2.out.alloc _)
                  have HGR1 : Hid (Grow w w2) := Lib.hid (by rw [← hg2]; exact Grow.trans HGR2.out (Grow.alloc _ _))
                  have HPS1 := HPS
                  have HA1 : Hid (Y.getD ai false = true) := Lib.hid HFA.out.symm
                  have HK1 : Hid (Y.getD k false = true) := Lib.hid HFK.out.symm
                  have HYL1 := HYL
                  clear hg2 f0 s1 z1 t2 d0 d1 d2 d3 d4 d5
                  obtain ⟨b1, b2⟩ := HB6.out h6
                  obtain ⟨bi, rfl⟩ := Int.eq_ofNat_of_zero_le b1
                  have hbN : bi < N := by omega
                  have hbI : (bi : Int) < (N : Int) := by omega
                  obtain ⟨fb, hfb⟩ : ∃ fb, fb = Y.getD bi false := ⟨_, rfl⟩
                  have HFB := Lib.hid hfb
                  have s2 := HBY1.out.at bi (bools_get _ (by have := HYL1.out; omega))
                  have z2 := HBY1.out.free bi
                  rw [← hfb] at s2
                  have n2 := HND.out.at 2 rfl
                  clear hfb
                  cases fb with
                  | true =>
                    have HNX := Lib.hid (Pass.next HPS1.out (fun _ => shut_of HST.out HX.out (fun _ => HA1.out) (fun _ _ => HFB.out.symm)))
                    go_wp2_with fail
                    go_roundw
                    case rel => exact ⟨k + 1, _, _, by have := HN.out; omega, by go_num, rfl, HNX.out, HBY1.out, HBT1.out, HGR1.out⟩
                    case measure => simp [intOf]; omega
                  | false =>
                    have HNX := Lib.hid (Pass.next (Pass.mark1 HST.out HO.out HF.out HPS1.out HK1.out (HUB.out bi rfl) HFB.out.symm (by have := HN.out; omega)) (fun h => by cases h))
                    have HBYs := Lib.hid (HBY1.out.set bi (.bool true))
                    rw [bools_set] at HBYs
                    go_wp2_with fail
                    go_roundw
                    case rel => exact ⟨k + 1, _, _, by have := HN.out; omega, by go_num, rfl, HNX.out, HBYs.out, HBT1.out.other (p := ⟨g, bi, none⟩) (by show g ≠ w.heap.size; have := HGQ.out; omega) _, Below.setCell (p := ⟨g, bi, none⟩) HGR1.out (by show w.heap.size ≤ g; have := HGQ.out; omega) _⟩
                    case measure => simp [intOf]; omega
              case neg =>
                rw [show (decide (3 ≤ op) && decide (op ≤ 6)) = false by simp; omega] at htwo
                have HTWO := Lib.hid htwo
                clear htwo
                have HUA : Hid (Uses L k ai) := Lib.hid ⟨_, HX.out, .inl ⟨(fld_of_op (stepB_op (stepsB_at HST.out HX.out))).1.2 h3, rfl⟩⟩
                cases fa with
                | false =>
                  go_wp2_with (first | (go_at_call 31; refine (HTWO.out _).mono ?_) | fail)
                  rintro e w2 ⟨rfl, hg2⟩
                  have HND := Lib.hid (show BlkOf w2 wr.heap.size _ _ by rw [← hg2]; exact BlkOf.news (by simp [World.setCell]) _ _)
                  have hbys : BlkOf (wr.setCell ⟨g, ai, none⟩ (.bool true)) g (bools (Y.set ai true)) 4 := by rw [← bools_set]; exact HBY.out.set ai (.bool true)
                  have HBY1 : Hid (BlkOf w2 g (bools (Y.set ai true)) 4) := Lib.hid (by rw [← hg2]; exact hbys.alloc _)
                  have HBT1 := Lib.hid (show BlkOf w2 w.heap.size _ _ by rw [← hg2]; exact (HBT2.out.other (p := ⟨g, ai, none⟩) (by show g ≠ w.heap.size; have := HGQ.out; omega) (.bool true)).alloc _)
                  have HGR1 : Hid (Grow w w2) := Lib.hid (by rw [← hg2]; have hb := Below.setCell (p := ⟨g, ai, none⟩) HGR2.out (by show w.heap.size ≤ g; have := HGQ.out; omega) (.bool true); exact hb.alloc (Below.size hb) _)
                  have HPS1 := Lib.hid (Pass.mark1 HST.out HO.out HF.out HPS.out HFK.out.symm HUA.out HFA.out.symm (by have := HN.out; omega))
                  have HA1 : Hid ((Y.set ai true).getD ai false = true) := Lib.hid (by rw [getD_set (by have := HYL.out; omega), if_pos rfl])
                  have HK1 : Hid ((Y.set ai true).getD k false = true) := Lib.hid (by rw [getD_set (by have := HYL.out; omega), if_neg (by omega)]; exact HFK.out.symm)
                  have HYL1 : Hid ((Y.set ai true).length = N) := Lib.hid (by rw [List.length_set]; exact HYL.out)
                  clear hbys
                  clear hg2 f0 s1 z1 t2 d0 d1 d2 d3 d4 d5
                  have HNX := Lib.hid (Pass.next HPS1.out (fun _ => shut_of HST.out HX.out (fun _ => HA1.out) (fun _ h => absurd h h6)))
                  go_wp2_with fail
                  go_roundw
                  case rel => exact ⟨k + 1, _, _, by have := HN.out; omega, by go_num, rfl, HNX.out, HBY1.out, HBT1.out, HGR1.out⟩
                  case measure => simp [intOf]; omega
                | true =>
                  go_wp2_with (first | (go_at_call 31; refine (HTWO.out _).mono ?_) | fail)
                  rintro e w2 ⟨rfl, hg2⟩
                  have HND := Lib.hid (show BlkOf w2 wr.heap.size _ _ by rw [← hg2]; exact BlkOf.new _ _ _)
                  have HBY1 : Hid (BlkOf w2 g (bools Y) 4) := Lib.hid (by rw [← hg2]; exact HBY.out.alloc _)
                  have HBT1 := Lib.hid (show BlkOf w2 w.heap.size _ _ by rw [← hg2]; exact HBT2.out.alloc _)
                  have HGR1 : Hid (Grow w w2) := Lib.hid (by rw [← hg2]; exact Grow.trans HGR2.out (Grow.alloc _ _))
                  have HPS1 := HPS
                  have HA1 : Hid (Y.getD ai false = true) := Lib.hid HFA.out.symm
                  have HK1 : Hid (Y.getD k false = true) := Lib.hid HFK.out.symm
                  have HYL1 := HYL
                  clear hg2 f0 s1 z1 t2 d0 d1 d2 d3 d4 d5
                  have HNX := Lib.hid (Pass.next HPS1.out (fun _ => shut_of HST.out HX.out (fun _ => HA1.out) (fun _ h => absurd h h6)))
                  go_wp2_with fail
                  go_roundw
                  case rel => exact ⟨k + 1, _, _, by have := HN.out; omega, by go_num, rfl, HNX.out, HBY1.out, HBT1.out, HGR1.out⟩
                  case measure => simp [intOf]; omega
          · obtain rfl : k = N := by omega
            have t2 := hbt.at 2 rfl
            clear hk hps hby hbt hgr
            go_wp2_with fail
            go_roundw
            case rel => exact ⟨Y, m, rfl, HPS.out.mark, (fun hm => shut_live HST.out HO.out HF.out HPS.out.mark (fun j hj => (HPS.out.idle hm).2 j (by have := HN.out; omega))), HBY.out, HBT2.out, HGR2.out⟩
            case measure =>
              rw [HCF.out, cfW_bools HBY.out]
              cases m with
              | false =>
                rw [(HPS.out.idle rfl).1]
                simp [flag]
              | true =>
                have := HPS.out.busy rfl
                simp [flag]
                omega
end Go.Proofs.YtofpcdjoljjnoaaGreatDoor
