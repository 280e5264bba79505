/-
  LAYER 11: the document's Read.
-/
import Derived.Test.YtomcpgogiglpkaaDoorTokTokR
import Derived.Test.YtomcpgogiglpkaaDoorTokRead
import Derived.Deep.CutRange
namespace Go.Proofs.YtomcpgogiglpkaaDoor
open Go.RowKit

theorem TkRow.below {B : Nat} {W W' : World} {v : Value} {L : List Tk} (h : TkRow B W v L) (s : Below W.heap.size W W') : TkRow B W' v L := h.stay (Stay.of_below s)

/-- At the loop's head. -/
def RefAt (z : Nat) (l : List UInt8) (w : World) (v i : Value) (wr : World) : Prop :=
  ∃ k, TkRow (z + 1) wr v (tks l k) ∧ Blk wr z #[.int .i64 0, .int .i64 0] 26 ∧ k ≤ 6000 ∧ k ≤ tkN l ∧ i = .int .i64 ((plc l k : Nat) : Int) ∧ Below z w wr ∧ z + 1 ≤ wr.heap.size

set_option maxRecDepth 100000 in
set_option maxHeartbeats 8000000 in
theorem refRead_any (l : List UInt8) (w : World) :
    Calls Tryd.prog 10 #[.string (mk l)] w (ReadPost l w) := by
  obtain ⟨z, hz⟩ : ∃ z, z = w.heap.size := ⟨_, rfl⟩
  have HZ := Lib.hid hz
  clear hz
  have hsz := mk_size l
  by_cases hl : 20000 < l.length
  · have hl1 : (20000 : Int) < (l.length : Int) := by omega
    go_enter Tryd.func10, Tryd.ntmps10
    go_wp2
    have hfl : flt l = (3, 0) := by unfold flt; rw [if_pos hl]
    have htd : told l = [] := by unfold told; rw [hfl]; rfl
    refine bodyPost_ret (results_tmp_cell rfl _ _ w.heap.size _ _ _ rfl (Blk.new w _ _) Tryd.underlying26 rfl info_fault) rfl ?_
    exact ⟨.slice none 0 0, by rw [hfl]; rfl, by rw [htd]; exact TkRow.nil _ _, (Below.refl _ _).alloc (Nat.le_refl _) _⟩
  · have hl1 : (l.length : Int) ≤ 20000 := by omega
    have hsk : skp l 0 = plc l 0 := rfl
    go_enter Tryd.func10, Tryd.ntmps10
    go_wp2_with (go_at_call 15; refine (skip_any l 0 _ rfl _ (by omega) (by omega)).mono ?_; rintro e w' ⟨rfl, rfl⟩)
    rw [← HZ.out]
    have hb0 : Blk (w.alloc (.cells #[.int .i64 0, .int .i64 0] 26)) z #[.int .i64 0, .int .i64 0] 26 := by rw [HZ.out]; exact Blk.new _ _ _
    have hbw : Below z w (w.alloc (.cells #[.int .i64 0, .int .i64 0] 26)) := by rw [HZ.out]; exact (Below.refl _ _).alloc (Nat.le_refl _) _
    have hs0 : z + 1 ≤ (w.alloc (.cells #[.int .i64 0, .int .i64 0] 26)).heap.size := by rw [World.size_alloc, HZ.out]; omega
    generalize w.alloc (.cells #[.int .i64 0, .int .i64 0] 26) = W0 at hb0 hbw hs0 ⊢
    have H0 : Hid (RefAt z l w (.slice none 0 0) (.int .i64 ((skp l 0 : Nat) : Int)) W0) := ⟨0, TkRow.nil _ _, hb0, by omega, by omega, by rw [hsk], hbw, hs0⟩
    clear hsk hb0 hbw hs0
    go_loopw [4, 5] (fun v i wr => RefAt z l w v i wr) (fun _ i _ => l.length - (intOf i).toNat)
    case atStart => exact H0.out
    case round =>
      obtain ⟨k, hv, b0, hk6, hkN, rfl, hbw, hs1⟩ := hrel
      obtain ⟨A, cap, rfl⟩ := hv.form
      rw [tks_length] at hv ⊢
      have hst := st_drop l k hkN
      have hlen := st_len l k hkN
      obtain ⟨p, hp⟩ : ∃ p, p = plc l k := ⟨_, rfl⟩
      have hpr : p + (st l k).length = l.length := by rw [hp]; unfold plc; omega
      rw [← hp] at hst ⊢
      have hp0 : (0 : Int) ≤ (p : Int) := by omega
      have HP := Lib.hid hp
      clear hp
      by_cases hlt : p < l.length
      · have hp1 : (p : Int) < (l.length : Int) := by omega
        have hne : st l k ≠ [] := by intro e; rw [e] at hpr; simp at hpr; omega
        obtain ⟨r, hr⟩ : ∃ r, r = st l k := ⟨_, rfl⟩
        rw [← hr] at hst hpr hne
        have HR := Lib.hid hr
        clear hr hlen
        obtain ⟨Z, hZ⟩ : ∃ Z, Z = (isL (bAt l p) && !(bAt l p).toNat == 95) := ⟨_, rfl⟩
        have HZZ := Lib.hid hZ
        clear hZ
        obtain ⟨q, hq⟩ : ∃ q, q = (((bAt l p).toNat : Int) != 95) := ⟨_, rfl⟩
        have hqq : (!(bAt l p).toNat == 95) = q := by rw [hq]; show _ = !(_ == ((95 : Nat) : Int)); rw [beq_cast]
        have HQ := Lib.hid hqq
        have hidx : (mk l)[p]'(by rw [mk_size]; exact hlt) = bAt l p := mk_get l p _
        have hq1 := hq.symm
        clear hq hqq
        go_upto_region 8 with fail
        obtain ⟨bt, hbt⟩ : ∃ bt, bt = wr.heap.size := ⟨_, rfl⟩
        have hB := Blk.new wr #[.int .u8 0, .string ⟨#[]⟩, .int .i64 (p : Int)] 35
        have hbelow := (Below.refl wr.heap.size wr).alloc (Nat.le_refl _) (.cells #[.int .u8 0, .string ⟨#[]⟩, .int .i64 (p : Int)] 35)
        generalize wr.alloc (.cells #[.int .u8 0, .string ⟨#[]⟩, .int .i64 (p : Int)] 35) = Wt at hB hbelow ⊢
        rw [← hbt] at hB hbelow ⊢
        have HBT := Lib.hid hbt
        have HBL := Lib.hid hbelow
        clear hbt hbelow
        go_cut [30] from 15 to 81 (fun s30 wx => s30 = .bool Z ∧ Wt = wx)
        case first =>
          go_wp2_with (go_at_call 16; (with_reducible refine (letterR_two l p _ rfl _).mono ?_); rintro e w' (⟨rfl, hz, rfl⟩ | ⟨rfl, hz, rfl⟩))
          · go_meet; exact ⟨by rw [HZZ.out, hz.out, HQ.out]; rfl, rfl⟩
          · go_meet; exact ⟨by rw [HZZ.out, hz.out]; rfl, rfl⟩
        case rest =>
        obtain ⟨rfl, rfl⟩ := hcut
        go_upto_if 30 with fail
        go_cut [7, 8] from 15 to 81 (fun s7 s8 wx => ∃ (kd en : Nat) (ok : Bool), s7 = .int .i64 (en : Int) ∧ s8 = .bool ok ∧ Told r p kd en ok ∧ en ≤ l.length ∧ kd ≤ 3 ∧ Blk wx bt #[.int .u8 (kd : Int), .string ⟨#[]⟩, .int .i64 (p : Int)] 35 ∧ Below bt wr wx)
        case first =>
          have hc0 := hB.at 0 (v := .int .u8 0) rfl
          have hf0 := hB.free 0
          have hset : ∀ v : Int, Blk (Wt.setCell ⟨bt, 0, none⟩ (.int .u8 v)) bt #[.int .u8 v, .string ⟨#[]⟩, .int .i64 (p : Int)] 35 := fun v => hB.set 0 (.int .u8 v)
          have hbs : ∀ v : Value, Below bt wr (Wt.setCell ⟨bt, 0, none⟩ v) := fun v => HBL.out.setCell (p := ⟨bt, 0, none⟩) (Nat.le_refl _) v
          have hbsz : ∀ v : Value, bt ≤ (Wt.setCell ⟨bt, 0, none⟩ v).heap.size := fun v => by rw [size_set]; exact Nat.le_of_lt hB.lt
          have HSET := Lib.hid hset
          have HBS := Lib.hid hbs
          have HBSZ := Lib.hid hbsz
          clear hset hbs hbsz
          cases Z
          · cases hdg : isD (bAt l p)
            · have HDG : Hid (∀ w, Calls Tryd.prog 17 #[.string (mk l), .int .i64 (p : Int)] w (Says (.bool false) w)) := Lib.hid fun w => by rw [← hdg]; exact digitR_any l p w
              have htd := told_sign HZZ.out.symm hdg
              have hsl : p + signL (l.drop p) ≤ l.length := by
                have := sgn_le sgs (l.drop p)
                rw [List.length_drop] at this
                show p + sgn sgs (l.drop p) ≤ l.length
                omega
              rw [hst] at htd hsl
              obtain ⟨S, hS⟩ : ∃ S, S = signL r := ⟨_, rfl⟩
              have HSG : Hid (∀ w, Calls Tryd.prog 19 #[.string (mk l), .int .i64 (p : Int)] w (SignPost S w)) := Lib.hid fun w => by rw [hS, ← hst]; exact signR_any l p _ rfl w (by omega) hlt
              rw [← hS] at htd hsl
              have HTD := Lib.hid htd
              clear htd hS hdg
              go_wp2_with (first
                | (go_at_call 17; (with_reducible refine (HDG.out _).mono ?_); rintro e w' ⟨rfl, rfl⟩)
                | (go_at_call 19; (with_reducible refine (HSG.out _).mono ?_); rintro e w' ⟨rfl, hbg⟩))
              go_meet
              exact ⟨3, p + S, decide (0 < S), by go_num, by congr 1; rw [Bool.eq_iff_iff]; simp; omega, HTD.out, hsl, by omega, (HSET.out 3).stay (Stay.of_below hbg), (HBS.out _).trans (hbg.mono (HBSZ.out _))⟩
            · have HDG : Hid (∀ w, Calls Tryd.prog 17 #[.string (mk l), .int .i64 (p : Int)] w (Says (.bool true) w)) := Lib.hid fun w => by rw [← hdg]; exact digitR_any l p w
              have htd := told_number hdg
              have hsl : endR l (fracR l p) ≤ l.length := endR_le (fracR_le (by omega))
              rw [hst] at htd
              obtain ⟨E, hE⟩ : ∃ E, E = endR l (fracR l p) := ⟨_, rfl⟩
              obtain ⟨O, hO⟩ : ∃ O, O = okR l (fracR l p) := ⟨_, rfl⟩
              have HNM : Hid (∀ w, Calls Tryd.prog 18 #[.string (mk l), .int .i64 (p : Int)] w (Says (.tuple #[.int .i64 (E : Int), .bool O]) w)) := Lib.hid fun w => by rw [hE, hO]; exact numberR_any l p _ rfl w (by omega) (by omega)
              rw [← hE] at htd hsl
              rw [← hO] at htd
              have HTD := Lib.hid htd
              clear htd hE hO hdg
              go_wp2_with (first
                | (go_at_call 17; (with_reducible refine (HDG.out _).mono ?_); rintro e w' ⟨rfl, rfl⟩)
                | (go_at_call 18; (with_reducible refine (HNM.out _).mono ?_); rintro e w' ⟨rfl, rfl⟩))
              go_meet
              exact ⟨2, E, O, rfl, rfl, HTD.out, hsl, by omega, HSET.out 2, HBS.out _⟩
          · have htd := told_name HZZ.out.symm
            have hsl : rEnd isLD l p ≤ l.length := rEnd_le _ _ _ (by omega)
            rw [hst] at htd
            have HTD := Lib.hid htd
            have HSL := Lib.hid hsl
            clear htd hsl
            go_wp2_with fail
            go_loop [7] (fun i => ∃ j : Nat, i = .int .i64 (j : Int) ∧ rEnd isLD l j = rEnd isLD l p ∧ j ≤ l.length) (fun i => l.length - (intOf i).toNat)
            case atStart => exact ⟨p, rfl, rfl, by omega⟩
            case round =>
              obtain ⟨j, rfl, hj, hj2⟩ := hrel
              have HJ := Lib.hid hj
              clear hj
              have hj0 : (0 : Int) ≤ (j : Int) := by omega
              go_wp2_with (first
                | (go_at_call 16; (with_reducible refine (letterR_two l j _ rfl _).mono ?_); rintro e w' (⟨rfl, hz2, rfl⟩ | ⟨rfl, hz2, rfl⟩))
                | (go_at_call 17; (with_reducible refine (digitR_two l j _ rfl _).mono ?_); rintro e w' (⟨rfl, hd2, rfl⟩ | ⟨rfl, hd2, rfl⟩)))
              · have hp : isLD (bAt l j) = true := by unfold isLD; rw [hz2.out]; rfl
                have hlt2 := lt_of_holds isLD_zero hp
                have hs := rEnd_step (p := isLD) isLD_zero hp
                go_round
                case rel => exact ⟨j + 1, by go_num, by rw [← hs]; exact HJ.out, by omega⟩
                case measure => simp [intOf]; omega
              · have hp : isLD (bAt l j) = true := by unfold isLD; rw [hd2.out, Bool.or_true]
                have hlt2 := lt_of_holds isLD_zero hp
                have hs := rEnd_step (p := isLD) isLD_zero hp
                go_round
                case rel => exact ⟨j + 1, by go_num, by rw [← hs]; exact HJ.out, by omega⟩
                case measure => simp [intOf]; omega
              · have hp : isLD (bAt l j) = false := by unfold isLD; rw [hz2.out, hd2.out]; rfl
                have hs := rEnd_stop hp
                go_meet
                exact ⟨1, rEnd isLD l p, true, by rw [← HJ.out, hs], rfl, HTD.out, HSL.out, by omega, HSET.out 1, HBS.out _⟩
        case rest =>
        obtain ⟨kd, en, ok, rfl, rfl, htold, hen, hkd, hB2, hbl⟩ := hcut
        clear hidx hq1 HQ HZZ
        have b1 : Blk wc z #[.int .i64 0, .int .i64 0] 26 := b0.stay (Stay.of_below (by rw [← HBT.out]; exact hbl))
        have hbz : Below z w wc := hbw.trans (hbl.mono (by rw [HBT.out]; omega))
        have hc0 := b1.at 0 (v := .int .i64 0) rfl
        have hc1 := b1.at 1 (v := .int .i64 0) rfl
        have hf0 := b1.free 0
        have hf1 := b1.free 1
        cases ok
        · have hk0 : tok r = (0, 0) := by
            rcases htold with ⟨h, _⟩ | ⟨_, h⟩
            · cases h
            · exact h
          have hfl : flt l = (110, p) := by
            have hdead : live (st l k) = false := by
              unfold live; rw [← HR.out, hk0]; simp
            have hkk : k = tkN l := by
              rcases Nat.lt_or_ge k (tkN l) with h | h
              · rw [live_lt h] at hdead; cases hdead
              · omega
            have hbd : bad l = true := by
              unfold bad; rw [← hkk, ← HR.out]
              simpa using hne
            unfold flt
            rw [if_neg hl, if_neg (by omega), if_pos hbd, ← hkk, HP.out]; rfl
          have htd : told l = [] := by unfold told; rw [hfl]; rfl
          have HF := Lib.hid (And.intro hfl htd)
          clear hfl htd hk0 htold
          go_wp2_with fail
          have hB3 : Blk ((wc.setCell ⟨z, 0, none⟩ (.int .i64 110)).setCell ⟨z, 1, none⟩ (.int .i64 (p : Int))) z #[.int .i64 110, .int .i64 (p : Int)] 26 := (b1.set 0 (.int .i64 110)).set 1 (.int .i64 (p : Int))
          refine bodyPost_ret (results_tmp_cell rfl _ _ z _ _ _ rfl hB3 Tryd.underlying26 rfl info_fault) rfl ?_
          exact ⟨.slice none 0 0, by rw [HF.out.1]; rfl, by rw [HF.out.2]; exact TkRow.nil _ _, by rw [← HZ.out]; exact (hbz.setCell (p := ⟨z, 0, none⟩) (Nat.le_refl _) _).setCell (p := ⟨z, 1, none⟩) (Nat.le_refl _) _⟩
        · obtain ⟨htk, hpe, hkd0⟩ : tok r = (kd, en - p) ∧ p < en ∧ kd ≠ 0 := by
            rcases htold with ⟨_, h⟩ | ⟨h, _⟩
            · exact h
            · cases h
          clear htold
          have hlive : live (st l k) = true := by
            rw [← HR.out, live_iff, htk]; exact ⟨hne, hkd0⟩
          have hkt : k < tkN l := by
            rcases Nat.lt_or_ge k (tkN l) with h | h
            · exact h
            · have e : k = tkN l := by omega
              rw [e, dead_N] at hlive; cases hlive
          have hspot : tk l k = ⟨kd, r.take (en - p), p⟩ := by
            unfold tk; rw [← HR.out, htk]
            congr 1
            show l.length - r.length = p
            omega
          by_cases hk : k = 6000
          · have hk' : ((k : Int) == 6000) = true := by rw [hk]; rfl
            have hfl : flt l = (6, p) := by
              unfold flt
              rw [if_neg hl, if_pos (by omega), ← hk, hspot]
            have htd : told l = [] := by unfold told; rw [hfl]; rfl
            have HF := Lib.hid (And.intro hfl htd)
            clear hfl htd htk hk hlive hspot
            go_wp2_with fail
            have hB3 : Blk ((wc.setCell ⟨z, 0, none⟩ (.int .i64 6)).setCell ⟨z, 1, none⟩ (.int .i64 (p : Int))) z #[.int .i64 6, .int .i64 (p : Int)] 26 := (b1.set 0 (.int .i64 6)).set 1 (.int .i64 (p : Int))
            refine bodyPost_ret (results_tmp_cell rfl _ _ z _ _ _ rfl hB3 Tryd.underlying26 rfl info_fault) rfl ?_
            exact ⟨.slice none 0 0, by rw [HF.out.1]; rfl, by rw [HF.out.2]; exact TkRow.nil _ _, by rw [← HZ.out]; exact (hbz.setCell (p := ⟨z, 0, none⟩) (Nat.le_refl _) _).setCell (p := ⟨z, 1, none⟩) (Nat.le_refl _) _⟩
          · have hk' : ((k : Int) == 6000) = false := by rw [beq_eq_false_iff_ne]; omega
            obtain ⟨T, hT⟩ : ∃ T, T = r.take (en - p) := ⟨_, rfl⟩
            have hE : (mk l).extract p en = mk T := by
              rw [mk_extract, hT, ← hst, List.drop_take]
            rw [← hT] at hspot
            have hpl : skp l en = plc l (k + 1) := by
              have := skp_next (l := l) (k := k) hkN
              rw [← HP.out, ← HR.out, htk, show p + (en - p) = en by omega] at this
              rw [this]
              show _ = l.length - (nxt (st l k)).length
              rw [← HR.out]
            have hdec : p < plc l (k + 1) := by
              have h1 := nxt_len hlive
              have h2 := st_len l (k + 1) (by omega)
              show p < l.length - (nxt (st l k)).length
              rw [← HR.out] at h1 ⊢
              omega
            have hple : plc l (k + 1) ≤ l.length := by unfold plc; omega
            have HSPOT := Lib.hid hspot
            have HPL := Lib.hid hpl
            have HDEC := Lib.hid hdec
            have HK6 := Lib.hid hk
            have hpe1 : (p : Int) ≤ (en : Int) := by omega
            have hen1 : (en : Int) ≤ (l.length : Int) := by omega
            have hB3 : Blk (wc.setCell ⟨bt, 1, none⟩ (.string (mk T))) bt #[.int .u8 (kd : Int), .string (mk T), .int .i64 (p : Int)] 35 := hB2.set 1 (.string (mk T))
            have hbl2 : Below bt wr (wc.setCell ⟨bt, 1, none⟩ (.string (mk T))) := hbl.setCell (p := ⟨bt, 1, none⟩) (Nat.le_refl _) _
            have hrow : TkRow (z + 1) (wc.setCell ⟨bt, 1, none⟩ (.string (mk T))) (.slice A k cap) (tks l k) := hv.below (by rw [← HBT.out]; exact hbl2)
            have hbz2 : Below z w (wc.setCell ⟨bt, 1, none⟩ (.string (mk T))) := hbw.trans (hbl2.mono (by rw [HBT.out]; omega))
            have b2 : Blk (wc.setCell ⟨bt, 1, none⟩ (.string (mk T))) z #[.int .i64 0, .int .i64 0] 26 := b0.stay (Stay.of_below (by rw [← HBT.out]; exact hbl2))
            have hsz2 : z + 1 ≤ (wc.setCell ⟨bt, 1, none⟩ (.string (mk T))).heap.size := by have := hbl2.size; omega
            have hd1 := hB2.at 1 (v := .string ⟨#[]⟩) rfl
            have hg1 := hB2.free 1
            have hown := hrow
            unfold TkRow at hown
            rw [tks_length] at hown
            have HOWN := Lib.hid hown
            have HROW := Lib.hid hrow
            have HB3 := Lib.hid hB3
            have HBZ := Lib.hid (And.intro hbz2 (And.intro b2 hsz2))
            clear hown hrow hB3 hbz2 b2 hsz2 hbl2 htk hspot hpl hdec hT hst hv hlive b0 b1 hbl hbw hbz hc0 hc1 hf0 hf1 hk
            obtain ⟨i0, hi, hz0, hz1, hz2⟩ := info_parts info_tok
            have hd0 := HB3.out.at 0 (v := .int .u8 (kd : Int)) rfl
            have hd2 := HB3.out.at 2 (v := .int .i64 (p : Int)) rfl
            have hd3 := HB3.out.at 1 (v := .string (mk T)) rfl
            go_wp2_with (first
              | (at_builtin
                 (
                   refine wpList_append_own_at _ rfl (.tmp 75) (.tmp 77) 23 rfl (z + 1) 35 i0 _ 3 32 Tryd.underlying23 hi hz0 hz1 hz2 rfl (by decide) (.slice A k cap) k _ rfl (HOWN.out.alloc _) ⟨wc.heap.size, 0, none⟩ 1 1 [.int .u8 (kd : Int), .string (mk T), .int .i64 (p : Int)] rfl rfl ?c1 ?c2 ?c3 ?c4 ?c5 ?_
                   case c1 => rw [← size_set wc ⟨bt, 1, none⟩ (.string (mk T))]; exact tok_new _ _ _
                   case c2 => intro u hu; simp at hu; rcases hu with rfl | rfl | rfl <;> rfl
                   case c3 => unfold maxLen; omega
                   case c4 => omega
                   case c5 => rw [World.size_alloc]; have := HBZ.out.2.2; omega
                   intro v1 w1 hown1 hg1 _ _
                   obtain ⟨hrow1, -, hblk1, hbel1⟩ := TkRow.more (x := ⟨kd, T, p⟩) HROW.out (by rw [tks_length]; exact hown1) hg1 HBZ.out.2.2))
              | (go_at_call 15; (with_reducible refine (skip_any l en _ rfl _ (by omega) hen).mono ?_); rintro e w' ⟨rfl, rfl⟩))
            go_roundw
            case rel =>
              refine ⟨k + 1, ?_, hblk1 _ _ _ HBZ.out.2.1 (by omega), by have := HK6.out; omega, by omega, by rw [HPL.out], HBZ.out.1.trans (hbel1.mono (by omega)), Nat.le_trans HBZ.out.2.2 hbel1.size⟩
              rw [tks_succ, HSPOT.out]
              exact hrow1
            case measure =>
              have h1 := HDEC.out
              have h2 := HPL.out
              simp only [intOf]
              rw [h2]
              simp
              omega
      · have hN : st l k = [] := List.eq_nil_of_length_eq_zero (by omega)
        have hp1 : ¬ (p : Int) < (l.length : Int) := by omega
        have hkk : k = tkN l := by
          rcases Nat.lt_or_ge k (tkN l) with h | h
          · have h2 := live_lt h
            rw [hN] at h2; cases h2
          · omega
        have hbd : bad l = false := by unfold bad; rw [← hkk, hN]; rfl
        have hfl : flt l = (0, 0) := by
          unfold flt
          rw [if_neg hl, if_neg (by omega), hbd]; rfl
        have htd : told l = tks l k := by unfold told; rw [hfl, hkk]; rfl
        have hc0 := b0.at 0 (v := .int .i64 0) rfl
        have hc1 := b0.at 1 (v := .int .i64 0) rfl
        have hf0 := b0.free 0
        have hf1 := b0.free 1
        have HF := Lib.hid (And.intro hfl htd)
        clear hfl htd hkk hbd hst
        go_wp2_with fail
        have hB3 : Blk ((wr.setCell ⟨z, 0, none⟩ (.int .i64 0)).setCell ⟨z, 1, none⟩ (.int .i64 0)) z #[.int .i64 0, .int .i64 0] 26 := (b0.set 0 (.int .i64 0)).set 1 (.int .i64 0)
        refine bodyPost_ret (results_tmp_cell rfl _ _ z _ _ _ rfl hB3 Tryd.underlying26 rfl info_fault) rfl ?_
        refine ⟨.slice A k cap, by rw [HF.out.1]; rfl, ?_, by rw [← HZ.out]; exact (hbw.setCell (p := ⟨z, 0, none⟩) (Nat.le_refl _) _).setCell (p := ⟨z, 1, none⟩) (Nat.le_refl _) _⟩
        rw [HF.out.2, ← HZ.out]
        exact ((hv.other (p := ⟨z, 0, none⟩) (by show z < z + 1; omega) _).other (p := ⟨z, 1, none⟩) (by show z < z + 1; omega) _).base (by omega)
end Go.Proofs.YtomcpgogiglpkaaDoor
