/-
  LAYER 11: the law on many tokens.
-/
import Derived.Test.YtomcpgogiglpkaaDoorTokManyM
namespace Go.Proofs.YtomcpgogiglpkaaDoor
open Go.RowKit

theorem ByteRow.below {B : Nat} {w w' : World} {v : Value} {L : List UInt8} (h : ByteRow B w v L) (hb : Below w.heap.size w w') : ByteRow B w' v L := by
  refine ⟨h.1, ?_⟩
  rcases h.2 with h2 | ⟨g, cap, cur, e, hB, hg, hr⟩
  · exact .inl h2
  · exact .inr ⟨g, cap, cur, e, hB, (Stay.of_below hb).2 _ _ _ _ hg, hr⟩

/-- Read, of a text whose tokens' number and fault are known. -/
theorem read_len {s : List UInt8} {E S c : Nat} (h : flt s = (E, S) ∧ (told s).length = c) (w : World) (hT : Tab w) :
    Calls Tryd.prog 9 #[.string (mk s)] w fun x w' => ∃ A cap, x = .returned (.tuple #[.slice A c cap, .agg #[.int .i64 (E : Int), .int .i64 (S : Int)]]) ∧ Below w.heap.size w w' := by
  refine (read_any s w hT).mono ?_
  rintro x w' ⟨v, rfl, hr, hb⟩
  obtain ⟨A, cap, rfl⟩ := hr.form
  rw [h.1, h.2]
  exact ⟨A, cap, rfl, hb⟩

set_option maxHeartbeats 1000000 in
theorem tmany_far (m : Int) (w : World) (hT : Tab w) (h : m < -2 ∨ (-2 ≤ m ∧ 2 < m)) (h0 : -128 ≤ m) (h1 : m ≤ 127) :
    Calls Tryd.prog 6 #[.int .i8 m] w fun e w' => e = .returned (.bool true) ∧ Below w.heap.size w w' := by
  rcases h with h | ⟨h, h2⟩
  all_goals
    go_enter Tryd.func6, Tryd.ntmps6
    go_wp2_with (go_at_call 8; refine (head_any _ hT).mono ?_; rintro e w' ⟨rfl, hb⟩)
    go_ret
    exact ⟨rfl, hb⟩

set_option maxRecDepth 100000 in
set_option maxHeartbeats 4000000 in
theorem tmany_near (m : Int) (w : World) (hT : Tab w) (h0 : -2 ≤ m) (h1 : m ≤ 2) :
    Calls Tryd.prog 6 #[.int .i8 m] w fun e w' => e = .returned (.bool true) ∧ Below w.heap.size w w' := by
  obtain ⟨N, hN⟩ : ∃ N : Nat, (N : Int) = 6000 + m := ⟨(6000 + m).toNat, by omega⟩
  obtain ⟨M, hM⟩ : ∃ M : Nat, (M : Int) = 20000 + m := ⟨(20000 + m).toNat, by omega⟩
  have HN := Lib.hid hN
  have HM := Lib.hid hM
  have hNe : 6000 + m = (N : Int) := by omega
  have hMe : 20000 + m = (M : Int) := by omega
  obtain ⟨z, hz⟩ : ∃ z, z = w.heap.size := ⟨_, rfl⟩
  have HZ := Lib.hid hz
  obtain ⟨i0, hi, hz0, hz1, hz2⟩ := info_parts info_u8
  have hN2 : N ≤ 6002 := by omega
  have hM2 : M ≤ 20002 := by omega
  have hN0 : 5998 ≤ N := by omega
  have hM0 : 19998 ≤ M := by omega
  clear hN hM hz
  go_enter Tryd.func6, Tryd.ntmps6
  go_wp2_with (
    (at_make
     refine wpList_make_full _ rfl _ _ 37 rfl w.heap.size 5 i0 (.int .u8 0) 1 Tryd.underlying37 hi hz0 hz1 .i64 .i64 _ _ N rfl rfl rfl rfl (by rw [hz2]; omega) (by unfold maxLen; omega) (Nat.le_refl _) ?_
     intro w0 hown0 hg0))
  have hr0 : ByteRow w.heap.size w0 (.slice (some ⟨w.heap.size, 0, none⟩) N N) (List.replicate N 0) := made_row hown0
  have hb0 : Below w.heap.size w w0 := (Below.refl _ w).grown hg0 (Nat.le_refl _) (fun k hk => by cases hk)
  rw [← HZ.out] at hr0 ⊢
  have HR0 := Lib.hid hr0
  have HB0 : Hid (Below z w w0) := by rw [HZ.out]; exact hb0
  clear hown0 hg0 hr0 hb0
  go_loopw [5] (fun i wr => ∃ k : Nat, k ≤ N ∧ i = .int .i64 (k : Int) ∧ ByteRow z wr (.slice (some ⟨z, 0, none⟩) N N) (List.replicate k 59 ++ List.replicate (N - k) 0) ∧ Below z w wr) (fun i _ => N - (intOf i).toNat)
  case atStart => exact ⟨0, Nat.zero_le _, rfl, HR0.out, HB0.out⟩
  case round =>
    obtain ⟨k, hk, rfl, hrow, hbw⟩ := hrel
    have hk0 : (0 : Int) ≤ (k : Int) := by omega
    by_cases hlt : k < N
    · have hk1 : (k : Int) < (N : Int) := by omega
      have hll : k < (List.replicate k (59 : UInt8) ++ List.replicate (N - k) 0).length := by simp; omega
      obtain ⟨hc, hf, _⟩ := hrow.at hll
      have hset := hrow.set k 59
      rw [set_fill 59 N k hlt] at hset
      have HSET := Lib.hid hset
      have HLT := Lib.hid hlt
      clear hset hrow hll hlt
      go_wp2_with fail
      go_roundw
      case rel => exact ⟨k + 1, HLT.out, by go_num, HSET.out, hbw.setCell (p := ⟨z, k, none⟩) (Nat.le_refl _) _⟩
      case measure => simp [intOf]; have := HLT.out; omega
    · obtain rfl : k = N := by omega
      have hrow2 : ByteRow z wr (.slice (some ⟨z, 0, none⟩) k k) (List.replicate k 59) := by
        rw [Nat.sub_self] at hrow
        simpa using hrow
      have hcv := conv_row hrow2
      have hzw : z ≤ wr.heap.size := by have := hbw.size; have := HZ.out; omega
      have hT1 : Tab wr := hT.below (by rw [← HZ.out]; exact hbw)
      clear hrow hrow2 hlt
      obtain ⟨E1, S1, c1, E2, S2, hall⟩ : ∃ E1 S1 c1 E2 S2 : Nat, (flt (List.replicate k 59) = (E1, S1) ∧ (told (List.replicate k 59)).length = c1) ∧ (flt (List.replicate M 32) = (E2, S2) ∧ (told (List.replicate M 32)).length = 0) ∧
          ((0 < m ∧ E1 = 6 ∧ S1 = 6000 ∧ c1 = 0 ∧ E2 = 3 ∧ S2 = 0) ∨ (m ≤ 0 ∧ E1 = 0 ∧ S1 = 0 ∧ c1 = k ∧ E2 = 0 ∧ S2 = 0)) := by
        by_cases hm : 0 < m
        · exact ⟨6, 6000, 0, 3, 0, semi_many (by omega) (by omega), ⟨spaces_many (by omega), told_spaces M⟩, .inl ⟨hm, rfl, rfl, rfl, rfl, rfl⟩⟩
        · exact ⟨0, 0, k, 0, 0, semi_few (by omega), ⟨spaces_few (by omega), told_spaces M⟩, .inr ⟨by omega, rfl, rfl, rfl, rfl, rfl⟩⟩
      have HALL := Lib.hid hall
      have hc1k : c1 ≤ 20000 := by have := hall.2.2; omega
      clear hall
      go_wp2_with fail
      refine (read_len HALL.out.1 wr hT1).mono ?_
      rintro e w1 ⟨A1, p1, rfl, d1⟩
      go_wp2_with (at_make; refine halt ?_)
      obtain ⟨f1, hf1⟩ : ∃ f, f = w1.heap.size := ⟨_, rfl⟩
      generalize hWa : w1.alloc (.cells #[.int .i64 (E1 : Int), .int .i64 (S1 : Int)] 26) = Wa
      obtain ⟨f1a, Ta, ba, ca⟩ := flt_new d1 E1 S1 hT1 hWa
      rw [← hf1] at f1a ⊢
      have hbwa : Below z w Wa := hbw.trans (ba.mono hzw)
      clear hWa hf1 d1 ca ba hcv hT1
      unfold Halt
      refine wpList_make_full _ rfl _ _ 37 rfl Wa.heap.size 5 i0 (.int .u8 0) 1 Tryd.underlying37 hi hz0 hz1 .i64 .i64 _ _ M rfl rfl rfl rfl (by rw [hz2]; omega) (by unfold maxLen; omega) (Nat.le_refl _) ?_
      intro w2 hown2 hg2
      have hr2 : ByteRow Wa.heap.size w2 (.slice (some ⟨Wa.heap.size, 0, none⟩) M M) (List.replicate M 0) := made_row hown2
      have hb2 : Below Wa.heap.size Wa w2 := (Below.refl _ Wa).grown hg2 (Nat.le_refl _) (fun k hk => by cases hk)
      obtain ⟨y, hy⟩ : ∃ y, y = Wa.heap.size := ⟨_, rfl⟩
      have hzy : z ≤ y := by rw [hy]; have := hbwa.size; have := HZ.out; omega
      rw [← hy] at hr2 hb2 ⊢
      have HY := Lib.hid hy
      have HR2 := Lib.hid hr2
      have HB2 := Lib.hid hb2
      have F1 := Lib.hid f1a
      clear hown2 hg2 hr2 hb2 hy f1a
      go_wp2_with fail
      go_loopw [9] (fun i wr => ∃ q : Nat, q ≤ M ∧ i = .int .i64 (q : Int) ∧ ByteRow y wr (.slice (some ⟨y, 0, none⟩) M M) (List.replicate q 32 ++ List.replicate (M - q) 0) ∧ Below y Wa wr) (fun i _ => M - (intOf i).toNat)
      case atStart => exact ⟨0, Nat.zero_le _, rfl, HR2.out, HB2.out⟩
      case round =>
        obtain ⟨q, hq, rfl, hrow, hbq⟩ := hrel
        have hq0 : (0 : Int) ≤ (q : Int) := by omega
        by_cases hlt : q < M
        · have hq1 : (q : Int) < (M : Int) := by omega
          have hll : q < (List.replicate q (32 : UInt8) ++ List.replicate (M - q) 0).length := by simp; omega
          obtain ⟨hc, hf, _⟩ := hrow.at hll
          have hset := hrow.set q 32
          rw [set_fill 32 M q hlt] at hset
          have HSET := Lib.hid hset
          have HLT := Lib.hid hlt
          clear hset hrow hll hlt
          go_wp2_with fail
          go_roundw
          case rel => exact ⟨q + 1, HLT.out, by go_num, HSET.out, hbq.setCell (p := ⟨y, q, none⟩) (Nat.le_refl _) _⟩
          case measure => simp [intOf]; have := HLT.out; omega
        · obtain rfl : q = M := by omega
          have hrow2 : ByteRow y wr (.slice (some ⟨y, 0, none⟩) q q) (List.replicate q 32) := by
            rw [Nat.sub_self] at hrow
            simpa using hrow
          have hcv := conv_row hrow2
          have hbq2 : Below Wa.heap.size Wa wr := by rw [← HY.out]; exact hbq
          have Tb := Ta.below hbq2
          have F1b := F1.out.stay hbq2
          have hbwb : Below z w wr := hbwa.trans (hbq.mono hzy)
          clear hrow hrow2 hlt hbq hbq2 Ta F1
          go_wp2_with fail
          refine (read_len HALL.out.2.1 wr Tb).mono ?_
          rintro e w3 ⟨A2, p2, rfl, d2⟩
          have hm := HALL.out.2.2
          rcases hm with ⟨hm, rfl, rfl, rfl, rfl, rfl⟩ | ⟨hm, rfl, rfl, rfl, rfl, rfl⟩
          · have F1c : Blk w3 f1 #[.int .i64 6, .int .i64 6000] 26 := F1b.stay d2
            have G1 := F1c.alloc (.cells #[.int .i64 3, .int .i64 0] 26)
            have G2 := Blk.new w3 #[.int .i64 3, .int .i64 0] 26
            have x0 := G1.at 0 (v := .int .i64 6) rfl
            have x1 := G1.at 1 (v := .int .i64 6000) rfl
            have y0 := G2.at 0 (v := .int .i64 3) rfl
            have y1 := G2.at 1 (v := .int .i64 0) rfl
            have d3 : Below wr.heap.size wr (w3.alloc (.cells #[.int .i64 3, .int .i64 0] 26)) := d2.alloc d2.size _
            have Tc : Tab (w3.alloc (.cells #[.int .i64 3, .int .i64 0] 26)) := Tb.below d3
            have hzr : z ≤ wr.heap.size := by have := hbwb.size; have := HZ.out; omega
            have hbwc : Below z w (w3.alloc (.cells #[.int .i64 3, .int .i64 0] 26)) := hbwb.trans (d3.mono hzr)
            clear F1c G1 G2 F1b d2 d3 Tb hcv
            go_wp2_with (go_at_call 8; refine (head_any _ Tc).mono ?_; rintro e w' ⟨rfl, hb⟩)
            go_ret
            rw [← HZ.out]
            exact ⟨rfl, hbwc.trans (hb.mono (by have := hbwc.size; have := HZ.out; omega))⟩
          · have F1c : Blk w3 f1 #[.int .i64 0, .int .i64 0] 26 := F1b.stay d2
            have G1 := F1c.alloc (.cells #[.int .i64 0, .int .i64 0] 26)
            have G2 := Blk.new w3 #[.int .i64 0, .int .i64 0] 26
            have x0 := G1.at 0 (v := .int .i64 0) rfl
            have x1 := G1.at 1 (v := .int .i64 0) rfl
            have y0 := G2.at 0 (v := .int .i64 0) rfl
            have y1 := G2.at 1 (v := .int .i64 0) rfl
            have d3 : Below wr.heap.size wr (w3.alloc (.cells #[.int .i64 0, .int .i64 0] 26)) := d2.alloc d2.size _
            have Tc : Tab (w3.alloc (.cells #[.int .i64 0, .int .i64 0] 26)) := Tb.below d3
            have hzr : z ≤ wr.heap.size := by have := hbwb.size; have := HZ.out; omega
            have hbwc : Below z w (w3.alloc (.cells #[.int .i64 0, .int .i64 0] 26)) := hbwb.trans (d3.mono hzr)
            clear F1c G1 G2 F1b d2 d3 Tb hcv
            go_wp2_with (go_at_call 8; refine (head_any _ Tc).mono ?_; rintro e w' ⟨rfl, hb⟩)
            go_ret
            rw [← HZ.out]
            exact ⟨rfl, hbwc.trans (hb.mono (by have := hbwc.size; have := HZ.out; omega))⟩
end Go.Proofs.YtomcpgogiglpkaaDoor
