/-
  LAYER 11: the law on Read.
-/
import Derived.Test.YtomcpgogiglpkaaDoorTokReadR
import Derived.Test.YtomcpgogiglpkaaDoorTokHead2
import Derived.BigQuiet
namespace Go.Proofs.YtomcpgogiglpkaaDoor
open Go.RowKit

set_option maxHeartbeats 2000000 in
theorem same_any {B B' : Nat} {v v' : Value} {L : List Tk} {w : World} (h : TkRow B w v L) (h' : TkRow B' w v' L) (hL : L.length ≤ 1099511627776) :
    Calls Tryd.prog 11 #[v, v'] w fun e w' => e = .returned (.bool true) ∧ ∃ n, w' = w.drewN n := by
  obtain ⟨A, cap, rfl⟩ := h.form
  obtain ⟨A', cap', rfl⟩ := h'.form
  have H := Lib.hid h.in
  have H' := Lib.hid h'.in
  clear h h'
  go_enter Tryd.func11, Tryd.ntmps11
  go_wp2_with fail
  go_loopw [5] (fun i wr => ∃ k n : Nat, k ≤ L.length ∧ i = .int .i64 (k : Int) ∧ wr = w.drewN n) (fun i _ => L.length - (intOf i).toNat)
  case atStart => exact ⟨0, 0, Nat.zero_le _, rfl, rfl⟩
  case round =>
    obtain ⟨k, n, hk, rfl, rfl⟩ := hrel
    have hk0 : (0 : Int) ≤ (k : Int) := by omega
    by_cases hlt : k < L.length
    · have hk1 : (k : Int) < (L.length : Int) := by omega
      obtain ⟨g, p, e, _, c0, c1, c2⟩ := H.out.block k _ (List.getElem?_eq_getElem hlt)
      obtain ⟨g', p', e', _, d0, d1, d2⟩ := H'.out.block k _ (List.getElem?_eq_getElem hlt)
      cases e
      cases e'
      generalize L[k] = t at c0 c1 c2 d0 d1 d2
      obtain ⟨K, T, S⟩ := t
      dsimp only at c0 c1 c2 d0 d1 d2
      go_wp2_with fail
      go_quiet (fail)
      go_wp2_with fail
      go_roundw
      case rel => exact ⟨k + 1, _, by omega, by go_num, rfl⟩
      case measure => simp [intOf]; omega
    · obtain rfl : k = L.length := by omega
      go_wp2_with fail
      go_ret
      exact ⟨rfl, _, rfl⟩

theorem told_len (s : List UInt8) : (told s).length ≤ 20000 := by
  unfold told
  split
  · rename_i h
    rw [tks_length]
    have := tkN_le s
    unfold flt at h
    split at h
    · simp at h
    · omega
  · simp

set_option maxHeartbeats 1000000 in
theorem treads_long (s : ByteArray) (w : World) (hT : Tab w) (hs : 20001 < s.size) :
    Calls Tryd.prog 3 #[.string s] w fun e w' => e = .returned (.bool true) ∧ Below w.heap.size w w' := by
  have h1 : (20001 : Int) < (s.size : Int) := by omega
  go_enter Tryd.func3, Tryd.ntmps3
  go_wp2_with (go_at_call 8; refine (head_any _ hT).mono ?_; rintro e w' ⟨rfl, hb⟩)
  go_ret
  exact ⟨rfl, hb⟩

set_option maxHeartbeats 2000000 in
theorem treads_any (l : List UInt8) (w : World) (hT : Tab w) (hl : l.length ≤ 20001) :
    Calls Tryd.prog 3 #[.string (mk l)] w fun e w' => e = .returned (.bool true) ∧ Below w.heap.size w w' := by
  have hs := mk_size l
  have hl2 : (l.length : Int) ≤ 20001 := by omega
  obtain ⟨E, hE⟩ : ∃ E, E = (flt l).1 := ⟨_, rfl⟩
  obtain ⟨S, hS⟩ : ∃ S, S = (flt l).2 := ⟨_, rfl⟩
  have hlen := told_len l
  have HR : Hid (∀ w, ReadPost l w = fun e w' => ∃ v, e = .returned (.tuple #[v, .agg #[.int .i64 (E : Int), .int .i64 (S : Int)]]) ∧ TkRow w.heap.size w' v (told l) ∧ Below w.heap.size w w') := Lib.hid fun w => by rw [hE, hS]; rfl
  clear hE hS
  go_enter Tryd.func3, Tryd.ntmps3
  go_wp2_with fail
  have R1 := read_any l w hT
  rw [HR.out] at R1
  refine R1.mono ?_
  rintro e w1 ⟨v1, rfl, i1, b1⟩
  clear R1
  go_wp2_with fail
  obtain ⟨f1, hf1⟩ : ∃ f, f = w1.heap.size := ⟨_, rfl⟩
  generalize hWa : w1.alloc (.cells #[.int .i64 (E : Int), .int .i64 (S : Int)] 26) = Wa
  obtain ⟨f1a, Ta, ba, ca⟩ := flt_new b1 E S hT hWa
  rw [← hf1] at f1a ⊢
  have i1a := i1.below ca
  clear hWa hf1 i1 b1 ca
  have R2 := refRead_any l Wa
  rw [HR.out] at R2
  refine R2.mono ?_
  rintro e w2 ⟨v2, rfl, i2, b2⟩
  clear R2
  go_wp2_with fail
  obtain ⟨f2, hf2⟩ : ∃ f, f = w2.heap.size := ⟨_, rfl⟩
  generalize hWb : w2.alloc (.cells #[.int .i64 (E : Int), .int .i64 (S : Int)] 26) = Wb
  obtain ⟨f2b, Tb, bb, cb⟩ := flt_new b2 E S Ta hWb
  rw [← hf2] at f2b ⊢
  have i2b := i2.below cb
  have i1b := i1a.below bb
  have f1b := f1a.stay bb
  have bwb := ba.trans (bb.mono ba.size)
  clear hWb hf2 i2 b2 cb i1a f1a ba bb Ta
  refine (same_any i1b i2b (by omega)).mono ?_
  rintro e w3 ⟨rfl, n, rfl⟩
  have q10 := Blk.at f1b 0 (v := .int .i64 (E : Int)) rfl
  have q11 := Blk.at f1b 1 (v := .int .i64 (S : Int)) rfl
  have q20 := Blk.at f2b 0 (v := .int .i64 (E : Int)) rfl
  have q21 := Blk.at f2b 1 (v := .int .i64 (S : Int)) rfl
  have Tc : Tab (Wb.drewN n) := Tb.drewN
  have bwc := below_drewN bwb n
  clear f1b f2b i1b i2b Tb bwb
  go_wp2_with (go_at_call 8; refine (head_any _ Tc).mono ?_; rintro e w' ⟨rfl, hb⟩)
  go_ret
  exact ⟨rfl, bwc.trans (hb.mono bwc.size)⟩
end Go.Proofs.YtomcpgogiglpkaaDoor
