/-
  LAYER 11: the program: the function that is ranged over: a token at each place.
-/
import Derived.Test.YtomcpgogiglpkaaDoorTokIter
namespace Go.Proofs.YtomcpgogiglpkaaDoor
open Go.RowKit Go.Shelf
attribute [local go_sem] Oper.semAt_some wide_fn

/-- A token, as a value. -/
def tkV (t : Tk) : Value := .agg #[.int .u8 ((t.kind : Nat) : Int), .string (mk t.text), .int .i64 ((t.spot : Nat) : Int)]
/-- How many rounds there are: a fault is one. -/
def rounds (s : List UInt8) : Nat := tkN s + (if bad s then 1 else 0)
/-- What the function reads ahead of a round. -/
def SrcRd (p : Nat) (s : List UInt8) (_ : Nat) (w : World) : Prop := w.cell? ⟨p, 0, none⟩ = some (.string (mk s)) ∧ Tab w

theorem tokens_any (s : List UInt8) (w : World) :
    Calls Tryd.prog 14 #[.string (mk s)] w fun e w' => e = .returned (.func (.func 22) #[] #[.pointer (some ⟨w.heap.size, 0, none⟩)]) ∧ w' = w.alloc (.cells #[.string (mk s)] 9) := by
  go_enter Tryd.func14, Tryd.ntmps14
  go_wp2
  go_ret
  exact ⟨rfl, rfl⟩

theorem tok_at {s : List UInt8} {k : Nat} (h : k < rounds s) : st s k ≠ [] ∧ (k < tkN s ∨ (k = tkN s ∧ bad s = true)) := by
  unfold rounds at h
  rcases Nat.lt_or_ge k (tkN s) with h1 | h1
  · exact ⟨(live_iff.1 (live_lt h1)).1, .inl h1⟩
  · cases hb : bad s
    · rw [hb] at h; simp at h; omega
    · rw [hb] at h
      have : k = tkN s := by simp at h; omega
      subst this
      exact ⟨(bad_tok hb).1, .inr ⟨rfl, rfl⟩⟩

set_option maxRecDepth 100000 in
set_option maxHeartbeats 2000000 in
theorem tokens_seq (p : Nat) (s : List UInt8) (hs : s.length ≤ 1099511627776) :
    SeqTo Tryd.prog 22 #[.pointer (some ⟨p, 0, none⟩)] (rounds s) (bad s) (fun k => #[tkV (tk s k)]) (SrcRd p s) := by
  intro m l J Jx W hRd hJ hM hY h0
  refine callsIn_of_wp Tryd.func22 rfl trivial ?_ rfl
  simp only [Tryd.ntmps22, List.size_toArray, List.length_cons, List.length_nil, Nat.reduceAdd, Nat.reduceSub, Array.replicate_succ, Array.replicate_zero, List.push_toArray, List.append_toArray, List.nil_append, List.cons_append]
  obtain ⟨hp0, hT0⟩ := hRd 0 W h0
  have HRD := Lib.hid hRd
  have HY := Lib.hid hY
  have HJ := Lib.hid hJ
  have HM := Lib.hid hM
  have H0 := Lib.hid h0
  clear hRd hY hJ hM h0
  gi_wp2_with (gi_at_call 23; refine (callsIn_wide.2 (trimmed_any s _ hs)).mono ?_; rintro e w' ⟨rfl, n, rfl⟩)
  have h1 : J 0 (W.drewN n) := HJ.out 0 W _ (below_drewN (Below.refl _ _) n) H0.out
  have H1 := Lib.hid h1
  clear h1 H0 hp0 hT0
  gi_loopw [3] (fun v wr => ∃ k : Nat, k ≤ rounds s ∧ v = .string (mk (st s k)) ∧ J k wr) (fun v _ => strLen v)
  case atStart => exact ⟨0, Nat.zero_le _, rfl, H1.out⟩
  case round =>
    obtain ⟨k, hk, rfl, hJ⟩ := hrel
    by_cases hlt : k < rounds s
    · obtain ⟨hne, hkN⟩ := tok_at hlt
      obtain ⟨r, hr⟩ : ∃ r, r = st s k := ⟨_, rfl⟩
      rw [← hr] at hne
      have hrl : r.length ≤ s.length := by
        have := st_len s k (by rcases hkN with h | ⟨h, _⟩ <;> omega)
        rw [hr]; omega
      have hln := tok_le r
      have HKN := Lib.hid hkN
      have HNX : Hid (st s (k + 1) = trm false (r.drop (tok r).2)) := by rw [hr]; rfl
      have HTK : Hid (tkV (tk s k) = .agg #[.int .u8 (((tok r).1 : Nat) : Int), .string (mk (r.take (tok r).2)), .int .i64 (((s.length - r.length : Nat)) : Int)]) := by rw [hr]; rfl
      have HR := Lib.hid hr
      have HNE := Lib.hid hne
      clear hkN hr hne
      rw [← HR.out]
      obtain ⟨K, hK⟩ : ∃ K, K = (tok r).1 := ⟨_, rfl⟩
      obtain ⟨n, hn⟩ : ∃ n, n = (tok r).2 := ⟨_, rfl⟩
      have HTO : Hid (∀ w, Tab w → Calls Tryd.prog 24 #[.string (mk r)] w fun e w' => e = .returned (.tuple #[.int .u8 (K : Int), .int .i64 (n : Int)]) ∧ Below w.heap.size w w') := Lib.hid fun w hT => by
        rw [hK, hn]; exact token_any r w hT (by omega)
      rw [← hn] at hln HNX HTK
      rw [← hK] at HTK
      have HK := Lib.hid hK
      have HN := Lib.hid hn
      clear hK hn
      have hn0 : (0 : Int) ≤ (n : Int) := by omega
      have hsr := mk_size r
      have hss := mk_size s
      have hE1 : (mk r).extract 0 n = mk (r.take n) := by rw [mk_extract]; rfl
      have hE2 : (mk r).extract n r.length = mk (r.drop n) := by rw [mk_extract, List.take_length]
      have hem : (mk r).toList.isEmpty = false := by
        rw [mk_toL]
        have : r ≠ [] := HNE.out
        simpa using this
      have hsub : ((s.length - r.length : Nat) : Int) = (s.length : Int) - (r.length : Int) := by omega
      rw [hsub] at HTK
      clear hsub
      have hT := (HRD.out k wr hJ).2
      gi_wp2_with (first
        | (gi_at_call 24; refine (callsIn_wide.2 (HTO.out _ hT)).mono ?_; rintro e w' ⟨rfl, hb⟩; have hJ2 := HJ.out k _ _ hb hJ)
        | (gi_at_call 25; refine (callsIn_wide.2 (clone_any (r.take n) _ (by rw [List.length_take]; omega))).mono ?_; rintro e w' ⟨rfl, hb2⟩; have hJ3 := HJ.out k _ _ hb2 hJ2; obtain ⟨fn, tmps, assign, body, hy, hRR⟩ := HY.out k _ hlt hJ3; rw [HTK.out] at hy; have hc := (HRD.out k _ hJ3).1))
      refine hRR.mono ?_
      rintro e W3 (⟨rfl, hJ4⟩ | ⟨rfl, hJx4⟩)
      · have hln2 : (trm false (r.drop n)).length ≤ r.length := Nat.le_trans (trm_len _ _) (by rw [List.length_drop]; omega)
        have HLN2 := Lib.hid hln2
        clear hln2
        gi_wp2_with (gi_at_call 23; refine (callsIn_wide.2 (trimmed_any (r.drop n) _ (by rw [List.length_drop]; omega))).mono ?_; rintro e w' ⟨rfl, m2, rfl⟩; have hJ5 := HJ.out (k + 1) _ _ (below_drewN (Below.refl _ _) m2) hJ4)
        go_roundw
        case rel => exact ⟨k + 1, by omega, by rw [HNX.out], hJ5⟩
        case measure =>
          rcases HKN.out with h | ⟨h, hbd⟩
          · have h1 := nxt_len (live_lt h)
            have e1 : nxt (st s k) = trm false (r.drop n) := HNX.out
            rw [e1, ← HR.out] at h1
            simp only [strLen, mk_size]
            exact h1
          · exfalso
            refine HM.out hbd W3 ?_
            have : rounds s = k + 1 := by unfold rounds; rw [hbd, h]; rfl
            rw [this]; exact hJ4
      · gi_wp2
        refine bodyPost_ret (results_none rfl _ _ _) rfl ?_
        exact ⟨⟨_, rfl⟩, .inr ⟨k + 1, by omega, hJx4⟩⟩
    · obtain rfl : k = rounds s := by omega
      cases hbd : bad s
      · have hN : rounds s = tkN s := by unfold rounds; rw [hbd]; rfl
        have hem : (mk (st s (rounds s))).toList.isEmpty = true := by
          rw [mk_toL, hN, good_end hbd]; rfl
        clear hN
        gi_wp2
        go_end0
        exact ⟨⟨_, rfl⟩, .inl hJ⟩
      · exact absurd hJ (HM.out hbd _)
end Go.Proofs.YtomcpgogiglpkaaDoor
