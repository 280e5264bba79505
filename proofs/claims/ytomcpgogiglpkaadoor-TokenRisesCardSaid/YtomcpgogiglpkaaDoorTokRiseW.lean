/-
  LAYER 11: the law on tokens that rise.
-/
import Derived.Test.YtomcpgogiglpkaaDoorTokJoinsW
import Derived.Test.YtomcpgogiglpkaaDoorTokRiseM
namespace Go.Proofs.YtomcpgogiglpkaaDoor
open Go.RowKit

/-- What a text of no fault is made of. -/
theorem rise_facts {s : List UInt8} (hs : s.length ≤ 3000) (hb : bad s = false) :
    ∃ (L M : List Tk) (A G : Nat → List UInt8) (D : Nat → Nat), (flt s = (0, 0) ∧ told s = L) ∧ A 0 = [] ∧ D 0 = 0 ∧ L.length ≤ 3000 ∧
      (∀ (k K : Nat) (T : List UInt8) (S : Nat), L[k]? = some ⟨K, T, S⟩ → D k ≤ S ∧ 0 < T.length ∧ S + T.length ≤ s.length ∧ mk ((s.take (S + T.length)).drop S) = mk T ∧ mk ((s.take S).drop (D k)) = mk (G k) ∧ (flt (G k) = (0, 0) ∧ told (G k) = []) ∧ A (k + 1) = A k ++ 32 :: T ∧ D (k + 1) = S + T.length) ∧
      (flt (A L.length) = (0, 0) ∧ told (A L.length) = M) ∧ M.length = L.length ∧ (∀ k, (A k).length ≤ 6000 ∨ L.length < k) ∧
      (∀ (k : Nat) (x : Tk), L[k]? = some x → ∃ S, M[k]? = some ⟨x.kind, x.text, S⟩) := by
  obtain ⟨r1, r2, r3⟩ := rise_again s
  have hla := acc_len (l := s) (Nat.le_refl _)
  have hN := tkN_le s
  obtain ⟨f1, d1⟩ := flt_small (s := s) (by omega)
  obtain ⟨f2, d2⟩ := flt_small (s := acc s (tkN s)) (by omega)
  rw [hb] at f1 d1
  rw [r2] at f2 d2
  rw [r1] at d2
  refine ⟨tks s (tkN s), tks (acc s (tkN s)) (tkN s), acc s, gap s, edg s, ⟨f1, d1⟩, rfl, rfl, by rw [tks_length]; omega, ?_, by rw [tks_length]; exact ⟨f2, d2⟩, by rw [tks_length, tks_length], ?_, ?_⟩
  · intro k K T S h
    have hk : k < tkN s := by
      have := (List.getElem?_eq_some_iff.1 h).1
      rw [tks_length] at this; exact this
    rw [tks_get hk] at h
    have e := Option.some.inj h
    have eT : T = (tk s k).text := by rw [e]
    have eS : S = plc s k := by
      show S = s.length - _
      have : (tk s k).spot = S := by rw [e]
      exact this.symm
    obtain ⟨h1, h2, h3, h4⟩ := edg_drop (l := s) (k := k) (by omega)
    have hst := st_drop s k (by omega)
    have hsl := st_len s k (by omega)
    have htl : T.length = (tok (st s k)).2 := by rw [eT, text_len]
    have htk := tok_le (st s k)
    have hpl : plc s k + (st s k).length = s.length := by unfold plc; omega
    refine ⟨by rw [eS]; exact h2, by rw [eT]; exact text_pos hk, by omega, ?_, ?_, told_none (gap_trm (by omega)) ?_, by rw [eT]; rfl, by rw [htl, eS]; rfl⟩
    · congr 1
      rw [List.drop_take, eS, hst, show plc s k + T.length - plc s k = T.length by omega, htl, eT]; rfl
    · congr 1
      rw [List.drop_take, eS]; rfl
    · unfold gap
      rw [List.length_take, List.length_drop]; omega
  · intro k
    rcases Nat.lt_or_ge (tkN s) k with h | h
    · exact .inr (by rw [tks_length]; exact h)
    · have := acc_len (l := s) h
      exact .inl (by omega)
  · intro k x h
    have hk : k < tkN s := by
      have := (List.getElem?_eq_some_iff.1 h).1
      rw [tks_length] at this; exact this
    rw [tks_get hk] at h
    obtain rfl := Option.some.inj h
    obtain ⟨e1, e2⟩ := r3 k hk
    refine ⟨(tk (acc s (tkN s)) k).spot, ?_⟩
    rw [tks_get hk, ← e1, ← e2]

set_option maxHeartbeats 1000000 in
theorem trises_long (s : ByteArray) (w : World) (hT : Tab w) (h : 3000 < s.size) :
    Calls Tryd.prog 5 #[.string s] w fun e w' => e = .returned (.bool true) ∧ Below w.heap.size w w' := by
  have g1 : (3000 : Int) < (s.size : Int) := by omega
  go_enter Tryd.func5, Tryd.ntmps5
  go_wp2_with (go_at_call 8; refine (head_any _ hT).mono ?_; rintro e w' ⟨rfl, hb⟩)
  go_ret
  exact ⟨rfl, hb⟩

set_option maxRecDepth 100000 in
set_option maxHeartbeats 4000000 in
theorem trises_bad (s : List UInt8) (w : World) (hT : Tab w) (hs : s.length ≤ 3000) (hb : bad s = true) :
    Calls Tryd.prog 5 #[.string (mk s)] w fun e w' => e = .returned (.bool true) ∧ Below w.heap.size w w' := by
  have hz1 := mk_size s
  have g1 : (s.length : Int) ≤ 3000 := by omega
  obtain ⟨S, hr, hS⟩ : ∃ S, (flt s = (110, S) ∧ told s = []) ∧ S < s.length := by
    obtain ⟨f, d⟩ := flt_small (s := s) (by omega)
    rw [hb] at f d
    refine ⟨_, ⟨f, d⟩, ?_⟩
    have h1 := (bad_tok hb).1
    have h2 : 0 < (st s (tkN s)).length := List.length_pos_iff.2 h1
    have h3 := st_len s (tkN s) (Nat.le_refl _)
    show s.length - _ < s.length
    omega
  have hS0 : (0 : Int) ≤ (S : Int) := by omega
  have hS1 : (S : Int) < (s.length : Int) := by omega
  have R1 := Lib.hid (fun w h => read_what s hr w h)
  clear hr
  go_enter Tryd.func5, Tryd.ntmps5
  go_wp2_with fail
  refine (R1.out _ hT).mono ?_
  rintro e w1 ⟨A1, p1, rfl, i1, b1⟩
  obtain ⟨f1, hf1⟩ : ∃ f, f = w1.heap.size := ⟨_, rfl⟩
  obtain ⟨Wa, hWa⟩ : ∃ W, W = w1.alloc (.cells #[.int .i64 110, .int .i64 (S : Int)] 26) := ⟨_, rfl⟩
  obtain ⟨f1a, Ta, ba, ca⟩ := flt_new b1 110 S hT hWa.symm
  rw [← hf1] at f1a
  have x10 := Blk.at f1a 0 (v := .int .i64 110) rfl
  have x11 := Blk.at f1a 1 (v := .int .i64 (S : Int)) rfl
  have HW := Lib.hid (And.intro hWa hf1)
  clear R1 i1 b1 ca f1a hWa hf1
  go_upto_region 4 with fail
  have HA : Hid (w1.alloc (.cells #[.int .i64 110, .int .i64 (S : Int)] 26) = Wa ∧ w1.heap.size = f1) := ⟨HW.out.1.symm, HW.out.2.symm⟩
  clear HW
  rw [HA.out.1, HA.out.2]
  clear HA
  go_wp2_with (go_at_call 8; refine (head_any _ Ta).mono ?_; rintro e w' ⟨rfl, hb⟩)
  go_ret
  exact ⟨rfl, ba.trans (hb.mono ba.size)⟩

set_option maxRecDepth 100000 in
set_option maxHeartbeats 8000000 in
theorem trises_good (s : List UInt8) (w : World) (hT : Tab w) (hs : s.length ≤ 3000) (hb : bad s = false) :
    Calls Tryd.prog 5 #[.string (mk s)] w fun e w' => e = .returned (.bool true) ∧ Below w.heap.size w w' := by
  have hz1 := mk_size s
  have g1 : (s.length : Int) ≤ 3000 := by omega
  obtain ⟨L, M, A, G, D, r1, hA0, hD0, hL, hF, r2, hML, hAl, hMx⟩ := rise_facts hs hb
  have R1 := Lib.hid (fun w h => read_what s r1 w h)
  have R2 := Lib.hid (fun w h => read_what (A L.length) r2 w h)
  have HF := Lib.hid hF
  have HML := Lib.hid hML
  have HAL := Lib.hid hAl
  have HMX := Lib.hid hMx
  clear hb r1 hF r2 hML hAl hMx
  go_enter Tryd.func5, Tryd.ntmps5
  go_wp2_with fail
  refine (R1.out _ hT).mono ?_
  rintro e w1 ⟨A1, p1, rfl, i1, b1⟩
  obtain ⟨f1, hf1⟩ : ∃ f, f = w1.heap.size := ⟨_, rfl⟩
  obtain ⟨Wa, hWa⟩ : ∃ W, W = w1.alloc (.cells #[.int .i64 0, .int .i64 0] 26) := ⟨_, rfl⟩
  obtain ⟨f1a, Ta, ba, ca⟩ := flt_new b1 0 0 hT hWa.symm
  rw [← hf1] at f1a
  have x10 := Blk.at f1a 0 (v := .int .i64 0) rfl
  have HW := Lib.hid (And.intro hWa hf1)
  have I1 := Lib.hid (i1.stay ca)
  clear R1 i1 b1 ca f1a hWa hf1
  go_upto_region 4 with fail
  have HA : Hid (w1.alloc (.cells #[.int .i64 0, .int .i64 0] 26) = Wa ∧ w1.heap.size = f1) := ⟨HW.out.1.symm, HW.out.2.symm⟩
  clear HW
  rw [HA.out.1, HA.out.2]
  clear HA
  go_wp2_with fail
  go_loopw [5, 6, 7] (fun a d i wr => ∃ k : Nat, k ≤ L.length ∧ i = .int .i64 (k : Int) ∧ a = .string (mk (A k)) ∧ d = .int .i64 (D k : Int) ∧ Below Wa.heap.size Wa wr) (fun _ _ i _ => L.length - (intOf i).toNat)
  case atStart => exact ⟨0, Nat.zero_le _, rfl, by rw [hA0]; rfl, by rw [hD0]; rfl, Below.refl _ _⟩
  case round =>
    obtain ⟨k, hk, rfl, rfl, rfl, hbr⟩ := hrel
    have hk0 : (0 : Int) ≤ (k : Int) := by omega
    by_cases hlt : k < L.length
    · have hk1 : (k : Int) < (L.length : Int) := by omega
      have hget := List.getElem?_eq_getElem hlt
      obtain ⟨⟨K, T, S⟩, hx⟩ : ∃ x, x = L[k] := ⟨_, rfl⟩
      rw [← hx] at hget
      clear hx
      obtain ⟨q1, q2, q3, q4, q5, q6, q7, q8⟩ := HF.out k K T S hget
      obtain ⟨g3, q3', e3, hg3, c0, c1, c2⟩ := (I1.out.stay hbr).block k _ hget
      cases e3
      dsimp only at c0 c1 c2
      have HLT := Lib.hid hlt
      clear hlt hget
      go_wp2_with fail
      have hbx := hbr.alloc hbr.size (.cells #[.int .u8 (K : Int), .string (mk T), .int .i64 (S : Int)] 35)
      have hnew := Blk.new wr #[.int .u8 (K : Int), .string (mk T), .int .i64 (S : Int)] 35
      generalize wr.alloc (.cells #[.int .u8 (K : Int), .string (mk T), .int .i64 (S : Int)] 35) = wx at hbx hnew ⊢
      generalize wr.heap.size = bx at hnew ⊢
      have n1 := hnew.at 1 (v := .string (mk T)) rfl
      have n2 := hnew.at 2 (v := .int .i64 (S : Int)) rfl
      have HN := Lib.hid hnew
      clear c0 c1 c2 hg3 hbr hnew
      have hzT := mk_size T
      have hzne : (mk T).toList.isEmpty = false := by
        rw [mk_toL]
        cases T with
        | nil => simp at q2
        | cons _ _ => rfl
      have hle : (D k : Int) ≤ (S : Int) := by omega
      have hle2 : (S : Int) + (T.length : Int) ≤ (s.length : Int) := by omega
      have hcut : (mk s).extract S (S + T.length) = mk T := by rw [mk_extract]; exact q4
      have hgap : (mk s).extract (D k) S = mk (G k) := by rw [mk_extract]; exact q5
      have H6 := Lib.hid q6
      have H7 := Lib.hid q7
      have H8 := Lib.hid q8
      clear q6 q7 q8 q4 q5
      have hg1 : decide (S < D k) = false := by simpa using q1
      have hg2 : decide ((s.length : Int) < (S : Int) + (T.length : Int)) = false := by simpa using hle2
      go_quiet (fail)
      have hbq := below_drewN hbx nq
      have m1 : (wx.drewN nq).cell? ⟨bx, 1, none⟩ = _ := n1
      have m2 : (wx.drewN nq).cell? ⟨bx, 2, none⟩ = _ := n2
      have HM : Hid (Blk (wx.drewN nq) bx #[.int .u8 (K : Int), .string (mk T), .int .i64 (S : Int)] 35) := HN.out
      clear n1 n2 HN hbx hzne hg1 hg2 hcut
      generalize wx.drewN nq = wq at hbq m1 m2 HM ⊢
      have Tq := Ta.below hbq
      go_wp2_with fail
      refine (read_what (G k) H6.out wq Tq).mono ?_
      rintro e w4 ⟨A4, p4, rfl, _, b4⟩
      obtain ⟨f4, hf4⟩ : ∃ f, f = w4.heap.size := ⟨_, rfl⟩
      obtain ⟨Wd, hWd⟩ : ∃ W, W = w4.alloc (.cells #[.int .i64 0, .int .i64 0] 26) := ⟨_, rfl⟩
      obtain ⟨f4d, Td, bd, cd⟩ := flt_new b4 0 0 Tq hWd.symm
      rw [← hf4] at f4d
      have x40 := Blk.at f4d 0 (v := .int .i64 0) rfl
      have o1 := Blk.at (HM.out.stay (Stay.of_below bd)) 1 (v := .string (mk T)) rfl
      have o2 := Blk.at (HM.out.stay (Stay.of_below bd)) 2 (v := .int .i64 (S : Int)) rfl
      have hbd := hbq.trans (bd.mono hbq.size)
      have HW := Lib.hid (And.intro hWd hf4)
      clear b4 cd f4d hWd hf4 HM m1 m2 bd hbq hgap H6
      go_upto_region 15 with fail
      have HA : Hid (w4.alloc (.cells #[.int .i64 0, .int .i64 0] 26) = Wd ∧ w4.heap.size = f4) := ⟨HW.out.1.symm, HW.out.2.symm⟩
      clear HW
      rw [HA.out.1, HA.out.2]
      clear HA
      have hzA : (mk (A k)).size = (A k).length := mk_size _
      have hAk : (A k).length ≤ 6000 := by rcases HAL.out k with h | h; exact h; have := HLT.out; omega
      have hcc1 : mk (A k) ++ (⟨#[32]⟩ : ByteArray) = mk (A k ++ [32]) := mk_append _ [32]
      have hzB : (mk (A k ++ [32])).size = (A k).length + 1 := by rw [mk_size]; simp
      have hcc2 : mk (A k ++ [32]) ++ mk T = mk (A (k + 1)) := by rw [mk_append, H7.out, List.append_assoc]; rfl
      go_wp2_with fail
      go_roundw
      case rel => exact ⟨k + 1, by have := HLT.out; omega, by go_num, rfl, by rw [H8.out]; simp, hbd⟩
      case measure => simp [intOf]; have := HLT.out; omega
    · obtain rfl : k = L.length := by omega
      have Tr := Ta.below hbr
      go_wp2_with fail
      refine (R2.out _ Tr).mono ?_
      rintro e w4 ⟨A4, p4, rfl, i4, b4⟩
      obtain ⟨f4, hf4⟩ : ∃ f, f = w4.heap.size := ⟨_, rfl⟩
      obtain ⟨Wd, hWd⟩ : ∃ W, W = w4.alloc (.cells #[.int .i64 0, .int .i64 0] 26) := ⟨_, rfl⟩
      obtain ⟨f4d, Td, bd, cd⟩ := flt_new b4 0 0 Tr hWd.symm
      rw [← hf4] at f4d
      have x40 := Blk.at f4d 0 (v := .int .i64 0) rfl
      have I4 := Lib.hid (i4.stay cd)
      have HBR := Lib.hid hbr
      have hbd := hbr.trans (bd.mono hbr.size)
      have I1d := Lib.hid (I1.out.stay hbd)
      have hbwd := ba.trans (hbd.mono ba.size)
      have HW := Lib.hid (And.intro hWd hf4)
      have hne : ((M.length : Int) != (L.length : Int)) = false := by rw [HML.out]; simp
      have hne2 : (M.length != L.length) = false := by rw [HML.out]; simp
      clear b4 cd f4d hWd hf4 i4 bd hbr I1 R2 HBR
      go_upto_region 20 with fail
      have HA : Hid (w4.alloc (.cells #[.int .i64 0, .int .i64 0] 26) = Wd ∧ w4.heap.size = f4) := ⟨HW.out.1.symm, HW.out.2.symm⟩
      clear HW
      rw [HA.out.1, HA.out.2]
      clear HA
      go_wp2_with fail
      go_loopw [13] (fun i wr => ∃ k : Nat, k ≤ L.length ∧ i = .int .i64 (k : Int) ∧ Below Wd.heap.size Wd wr) (fun i _ => L.length - (intOf i).toNat)
      case atStart => exact ⟨0, Nat.zero_le _, rfl, Below.refl _ _⟩
      case round =>
        obtain ⟨k, hk, rfl, hbr⟩ := hrel
        have hk0 : (0 : Int) ≤ (k : Int) := by omega
        by_cases hlt : k < L.length
        · have hk1 : (k : Int) < (L.length : Int) := by omega
          have hk2 : (k : Int) < (M.length : Int) := by have := HML.out; omega
          have hget := List.getElem?_eq_getElem hlt
          obtain ⟨⟨K, T, S⟩, hx⟩ : ∃ x, x = L[k] := ⟨_, rfl⟩
          rw [← hx] at hget
          clear hx
          obtain ⟨S', hgm⟩ := HMX.out k _ hget
          obtain ⟨g3, q3', e3, hg3, c0, c1, c2⟩ := (I1d.out.stay hbr).block k _ hget
          cases e3
          obtain ⟨g4, q4', e4, hg4, d0, d1, d2⟩ := (I4.out.stay hbr).block k _ hgm
          cases e4
          dsimp only at c0 c1 c2 d0 d1 d2
          have HLT := Lib.hid hlt
          clear hlt hget hgm
          go_wp2_with fail
          go_quiet (fail)
          go_wp2_with fail
          go_roundw
          case rel => exact ⟨k + 1, by have := HLT.out; omega, by go_num, below_drewN hbr _⟩
          case measure => simp [intOf]; have := HLT.out; omega
        · obtain rfl : k = L.length := by omega
          have Te := Td.below hbr
          go_wp2_with (go_at_call 8; refine (head_any _ Te).mono ?_; rintro e w' ⟨rfl, hb⟩)
          go_ret
          exact ⟨rfl, (hbwd.trans (hbr.mono hbwd.size)).trans (hb.mono (by have := hbwd.size; have := hbr.size; omega))⟩
end Go.Proofs.YtomcpgogiglpkaaDoor
