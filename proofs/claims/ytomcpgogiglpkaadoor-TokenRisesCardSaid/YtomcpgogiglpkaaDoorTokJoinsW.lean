/-
  LAYER 11: the law on texts behind each other.
-/
import Derived.Test.YtomcpgogiglpkaaDoorTokReadsW
import Derived.Test.YtomcpgogiglpkaaDoorTokJoinM
import Derived.BigQuiet
namespace Go.Proofs.YtomcpgogiglpkaaDoor
open Go.RowKit

theorem flt_small {s : List UInt8} (h : s.length ≤ 6000) : flt s = (if bad s then (110, (tk s (tkN s)).spot) else (0, 0)) ∧ told s = (if bad s then [] else tks s (tkN s)) := by
  have := tkN_le s
  have e : flt s = (if bad s then (110, (tk s (tkN s)).spot) else (0, 0)) := by
    unfold flt
    rw [if_neg (by omega), if_neg (by omega)]
  refine ⟨e, ?_⟩
  unfold told
  rw [e]
  cases bad s <;> rfl
theorem tks_get {s : List UInt8} {n i : Nat} (h : i < n) : (tks s n)[i]? = some (tk s i) := by
  unfold tks
  rw [List.getElem?_map, List.getElem?_range h]; rfl

/-- Read, whatever is told. -/
theorem read_what (s : List UInt8) {E S : Nat} {L : List Tk} (h : flt s = (E, S) ∧ told s = L) (w : World) (hT : Tab w) :
    Calls Tryd.prog 9 #[.string (mk s)] w fun x w' => ∃ A cap, x = .returned (.tuple #[.slice A L.length cap, .agg #[.int .i64 (E : Int), .int .i64 (S : Int)]]) ∧ TkIn w' (.slice A L.length cap) L ∧ Below w.heap.size w w' := by
  refine (read_any s w hT).mono ?_
  rintro x w' ⟨v, rfl, hr, hb⟩
  rw [h.2] at hr
  have hi := hr.in
  obtain ⟨A, cap, rfl⟩ := hr.form
  rw [h.1]
  exact ⟨A, cap, rfl, hi, hb⟩

set_option maxHeartbeats 1000000 in
theorem tjoins_long (s t : ByteArray) (w : World) (hT : Tab w) (h : 2000 < s.size ∨ (s.size ≤ 2000 ∧ 2000 < t.size)) :
    Calls Tryd.prog 7 #[.string s, .string t] w fun e w' => e = .returned (.bool true) ∧ Below w.heap.size w w' := by
  rcases h with h | ⟨h, h2⟩
  · have g1 : (2000 : Int) < (s.size : Int) := by omega
    go_enter Tryd.func7, Tryd.ntmps7
    go_wp2_with (go_at_call 8; refine (head_any _ hT).mono ?_; rintro e w' ⟨rfl, hb⟩)
    go_ret
    exact ⟨rfl, hb⟩
  · have g1 : (s.size : Int) ≤ 2000 := by omega
    have g2 : (2000 : Int) < (t.size : Int) := by omega
    go_enter Tryd.func7, Tryd.ntmps7
    go_wp2_with (go_at_call 8; refine (head_any _ hT).mono ?_; rintro e w' ⟨rfl, hb⟩)
    go_ret
    exact ⟨rfl, hb⟩

/-- What three readings have to do with each other. -/
def Joint (n E1 S1 E2 S2 E3 S3 : Nat) (La Lb Lc : List Tk) : Prop :=
  (E1 = 110 ∧ E3 = 110 ∧ S3 = S1 ∧ Lc = []) ∨ (E1 = 0 ∧ E2 = 110 ∧ E3 = 110 ∧ S3 = n + 1 + S2 ∧ Lc = []) ∨
  (E1 = 0 ∧ E2 = 0 ∧ E3 = 0 ∧ Lc.length = La.length + Lb.length ∧ (∀ i t, i < La.length → Lc[i]? = some t → La[i]? = some t) ∧ ∀ i t, La.length ≤ i → Lc[i]? = some t → ∃ x, Lb[i - La.length]? = some x ∧ t = x.moved (n + 1))
theorem joint_any (s t : List UInt8) (hs : s.length ≤ 2000) (ht : t.length ≤ 2000) :
    ∃ E1 S1 E2 S2 E3 S3 La Lb Lc, (flt s = (E1, S1) ∧ told s = La) ∧ (flt t = (E2, S2) ∧ told t = Lb) ∧ (flt (s ++ 10 :: (t ++ [10, 47, 47, 32, 120])) = (E3, S3) ∧ told (s ++ 10 :: (t ++ [10, 47, 47, 32, 120])) = Lc) ∧ Joint s.length E1 S1 E2 S2 E3 S3 La Lb Lc := by
  obtain ⟨r1, r2, r3⟩ := join_remark t
  have hJ : (s ++ 10 :: (t ++ [10, 47, 47, 32, 120])).length ≤ 6000 := by simp; omega
  obtain ⟨fs, ds⟩ := flt_small (s := s) (by omega)
  obtain ⟨ft, dt⟩ := flt_small (s := t) (by omega)
  obtain ⟨fj, dj⟩ := flt_small hJ
  refine ⟨(flt s).1, (flt s).2, (flt t).1, (flt t).2, (flt (s ++ 10 :: (t ++ [10, 47, 47, 32, 120]))).1, (flt (s ++ 10 :: (t ++ [10, 47, 47, 32, 120]))).2, told s, told t, told (s ++ 10 :: (t ++ [10, 47, 47, 32, 120])), ⟨rfl, rfl⟩, ⟨rfl, rfl⟩, ⟨rfl, rfl⟩, ?_⟩
  rw [fs, ds, ft, dt, fj, dj]
  cases hb : bad s
  · obtain ⟨j1, j2, j3, j4⟩ := join_good (t ++ [10, 47, 47, 32, 120]) hb
    rw [r1] at j1 j4
    rw [r2] at j2
    cases ht2 : bad t
    · rw [ht2] at j2
      rw [j2, j1]
      refine .inr (.inr ⟨rfl, rfl, rfl, ?_, ?_, ?_⟩)
      · show (tks _ _).length = (tks _ _).length + (tks _ _).length
        rw [tks_length, tks_length, tks_length]
      · intro i x hi hx
        replace hi : i < (tks s (tkN s)).length := hi
        rw [tks_length] at hi
        replace hx : (tks _ (tkN s + tkN t))[i]? = some x := hx
        rw [tks_get (by omega), j3 i hi] at hx
        show (tks s (tkN s))[i]? = some x
        rw [tks_get hi]; exact hx
      · intro i x hi hx
        replace hi : (tks s (tkN s)).length ≤ i := hi
        rw [tks_length] at hi
        replace hx : (tks _ (tkN s + tkN t))[i]? = some x := hx
        have hlt : i < tkN s + tkN t := by
          have := (List.getElem?_eq_some_iff.1 hx).1
          rw [tks_length] at this; exact this
        rw [tks_get hlt] at hx
        obtain ⟨j, rfl⟩ : ∃ j, i = tkN s + j := ⟨i - tkN s, by omega⟩
        rw [j4 j (by omega), r3 j (.inl (by omega))] at hx
        refine ⟨tk t j, ?_, ?_⟩
        · show (tks t (tkN t))[tkN s + j - (tks s (tkN s)).length]? = _
          rw [tks_length, show tkN s + j - tkN s = j by omega, tks_get (by omega)]
        · exact (Option.some.inj hx).symm
    · rw [ht2] at j2
      rw [j2, j1]
      refine .inr (.inl ⟨rfl, rfl, rfl, ?_, rfl⟩)
      show (tk _ (tkN s + tkN t)).spot = s.length + 1 + (tk t (tkN t)).spot
      rw [j4 _ (Nat.le_refl _), r3 _ (.inr ⟨rfl, ht2⟩)]
      show (tk t (tkN t)).spot + (s.length + 1) = _
      omega
  · obtain ⟨j1, j2, j3⟩ := join_bad (t ++ [10, 47, 47, 32, 120]) hb
    rw [j2, j1]
    refine .inl ⟨rfl, rfl, ?_, rfl⟩
    show (tk _ (tkN s)).spot = (tk s (tkN s)).spot
    rw [j3 _ (Nat.le_refl _)]

theorem flt_at {s : List UInt8} (h : s.length ≤ 6000) : (flt s).2 ≤ s.length := by
  rw [(flt_small h).1]
  cases bad s
  · simp
  · show (tk s (tkN s)).spot ≤ s.length
    show s.length - _ ≤ s.length
    omega

theorem told_spot {s : List UInt8} {i : Nat} {x : Tk} (h : (told s)[i]? = some x) : x.spot ≤ s.length := by
  unfold told at h
  split at h
  · have hi : i < tkN s := by
      have := (List.getElem?_eq_some_iff.1 h).1
      rw [tks_length] at this; exact this
    rw [tks_get hi] at h
    cases h
    show s.length - _ ≤ s.length
    omega
  · simp at h

set_option maxRecDepth 100000 in
set_option maxHeartbeats 8000000 in
theorem tjoins_any (s t : List UInt8) (w : World) (hT : Tab w) (hs : s.length ≤ 2000) (ht : t.length ≤ 2000) :
    Calls Tryd.prog 7 #[.string (mk s), .string (mk t)] w fun e w' => e = .returned (.bool true) ∧ Below w.heap.size w w' := by
  obtain ⟨E1, S1, E2, S2, E3, S3, La, Lb, Lc, r1, r2, r3, hj⟩ := joint_any s t hs ht
  have hz1 := mk_size s
  have hz2 := mk_size t
  have g1 : (s.length : Int) ≤ 2000 := by omega
  have g2 : (t.length : Int) ≤ 2000 := by omega
  have HA1 := Lib.hid (mk_append s [10])
  have HA2 : Hid (mk (s ++ [10]) ++ mk t = mk (s ++ 10 :: t)) := by
    rw [mk_append, List.append_assoc]; exact Lib.hid rfl
  have HA3 : Hid (mk (s ++ 10 :: t) ++ mk [10, 47, 47, 32, 120] = mk (s ++ 10 :: (t ++ [10, 47, 47, 32, 120]))) := by
    rw [mk_append, List.append_assoc]; exact Lib.hid rfl
  have HJ := Lib.hid hj
  have R1 := Lib.hid (fun w h => read_what s r1 w h)
  have R2 := Lib.hid (fun w h => read_what t r2 w h)
  have R3 := Lib.hid (fun w h => read_what _ r3 w h)
  have hla : La.length ≤ 20000 := by rw [← r1.2]; exact told_len s
  have hlb : Lb.length ≤ 20000 := by rw [← r2.2]; exact told_len t
  have hlc : Lc.length ≤ 20000 := by rw [← r3.2]; exact told_len _
  have hs2 : S2 ≤ 2000 := by
    have := flt_at (s := t) (by omega)
    rw [r2.1] at this
    exact Nat.le_trans this ht
  have HSP : Hid (∀ (i : Nat) (x : Tk), Lb[i]? = some x → x.spot ≤ 2000) := Lib.hid fun i x h => Nat.le_trans (told_spot (by rw [r2.2]; exact h)) ht
  clear hj r1 r2 r3
  go_enter Tryd.func7, Tryd.ntmps7
  go_wp2_with fail
  refine (R1.out _ hT).mono ?_
  rintro e w1 ⟨A1, p1, rfl, i1, b1⟩
  go_wp2_with fail
  obtain ⟨f1, hf1⟩ : ∃ f, f = w1.heap.size := ⟨_, rfl⟩
  generalize hWa : w1.alloc (.cells #[.int .i64 (E1 : Int), .int .i64 (S1 : Int)] 26) = Wa
  obtain ⟨f1a, Ta, ba, ca⟩ := flt_new b1 E1 S1 hT hWa
  rw [← hf1] at f1a ⊢
  have i1a := i1.stay ca
  clear hWa hf1 i1 b1 ca
  refine (R2.out _ Ta).mono ?_
  rintro e w2 ⟨A2, p2, rfl, i2, b2⟩
  go_wp2_with fail
  obtain ⟨f2, hf2⟩ : ∃ f, f = w2.heap.size := ⟨_, rfl⟩
  generalize hWb : w2.alloc (.cells #[.int .i64 (E2 : Int), .int .i64 (S2 : Int)] 26) = Wb
  obtain ⟨f2b, Tb, bb, cb⟩ := flt_new b2 E2 S2 Ta hWb
  rw [← hf2] at f2b ⊢
  have i2b := i2.stay cb
  have i1b := i1a.stay bb
  have f1b := f1a.stay bb
  have bwb := ba.trans (bb.mono ba.size)
  clear hWb hf2 i2 b2 cb i1a f1a ba bb Ta
  rw [show (⟨#[10]⟩ : ByteArray) = mk [10] from rfl, show (⟨#[10, 47, 47, 32, 120]⟩ : ByteArray) = mk [10, 47, 47, 32, 120] from rfl, HA1.out, HA2.out, HA3.out]
  refine (R3.out _ Tb).mono ?_
  rintro e w3 ⟨A3, p3, rfl, i3, b3⟩
  obtain ⟨f3, hf3⟩ : ∃ f, f = w3.heap.size := ⟨_, rfl⟩
  obtain ⟨Wc, hWc⟩ : ∃ W, W = w3.alloc (.cells #[.int .i64 (E3 : Int), .int .i64 (S3 : Int)] 26) := ⟨_, rfl⟩
  obtain ⟨f3c, Tc, bc, cc⟩ := flt_new b3 E3 S3 Tb hWc.symm
  rw [← hf3] at f3c
  have i3c := i3.stay cc
  have i2c := i2b.stay bc
  have i1c := i1b.stay bc
  have f1c := f1b.stay bc
  have f2c := f2b.stay bc
  have bwc := bwb.trans (bc.mono bwb.size)
  have x10 := Blk.at f1c 0 (v := .int .i64 (E1 : Int)) rfl
  have x11 := Blk.at f1c 1 (v := .int .i64 (S1 : Int)) rfl
  have x20 := Blk.at f2c 0 (v := .int .i64 (E2 : Int)) rfl
  have x21 := Blk.at f2c 1 (v := .int .i64 (S2 : Int)) rfl
  have x30 := Blk.at f3c 0 (v := .int .i64 (E3 : Int)) rfl
  have x31 := Blk.at f3c 1 (v := .int .i64 (S3 : Int)) rfl
  have HWC := Lib.hid (And.intro hWc hf3)
  clear f1c f2c f3c f1b f2b i1b i2b i3 cc bc bwb Tb b3 hWc hf3
  have I1 := Lib.hid i1c
  have I2 := Lib.hid i2c
  have I3 := Lib.hid i3c
  clear i1c i2c i3c R1 R2 R3 HA1 HA2 HA3
  have HALLOC : Hid (w3.alloc (.cells #[.int .i64 (E3 : Int), .int .i64 (S3 : Int)] 26) = Wc ∧ w3.heap.size = f3) := ⟨HWC.out.1.symm, HWC.out.2.symm⟩
  go_upto_region 6 with fail
  rw [HALLOC.out.1, HALLOC.out.2]
  clear HALLOC HWC
  rcases HJ.out with ⟨rfl, rfl, rfl, rfl⟩ | ⟨rfl, rfl, rfl, hS3, rfl⟩ | ⟨rfl, rfl, rfl, hlen, hA, hB⟩
  · clear HJ
    go_wp2_with (go_at_call 8; refine (head_any _ Tc).mono ?_; rintro e w' ⟨rfl, hb⟩)
    go_ret
    exact ⟨rfl, bwc.trans (hb.mono bwc.size)⟩
  · have heq : ((S3 : Int) == (s.length : Int) + 1 + (S2 : Int)) = true := by rw [beq_iff_eq]; omega
    clear HJ hS3
    go_wp2_with (go_at_call 8; refine (head_any _ Tc).mono ?_; rintro e w' ⟨rfl, hb⟩)
    go_ret
    exact ⟨rfl, bwc.trans (hb.mono bwc.size)⟩
  · clear HJ
    simp only [Int.natCast_zero] at x10 x20 x30 ⊢
    have hlenI : (Lc.length : Int) = (La.length : Int) + (Lb.length : Int) := by omega
    have hne : ((Lc.length : Int) != (La.length : Int) + (Lb.length : Int)) = false := by rw [hlenI]; simp
    have HA := Lib.hid hA
    have HB := Lib.hid hB
    have HL := Lib.hid hlen
    clear hA hB hlenI hlen
    go_wp2_with fail
    go_loopw [11] (fun i wr => ∃ k : Nat, k ≤ Lc.length ∧ i = .int .i64 (k : Int) ∧ Below Wc.heap.size Wc wr) (fun i _ => Lc.length - (intOf i).toNat)
    case atStart => exact ⟨0, Nat.zero_le _, rfl, Below.refl _ _⟩
    case round =>
      obtain ⟨k, hk, rfl, hbr⟩ := hrel
      have hk0 : (0 : Int) ≤ (k : Int) := by omega
      by_cases hlt : k < Lc.length
      · have hk1 : (k : Int) < (Lc.length : Int) := by omega
        have hget := List.getElem?_eq_getElem hlt
        obtain ⟨⟨K, T, S⟩, hx⟩ : ∃ x, x = Lc[k] := ⟨_, rfl⟩
        rw [← hx] at hget
        clear hx
        obtain ⟨g3, q3, e3, hg3, c0, c1, c2⟩ := (I3.out.stay hbr).block k _ hget
        cases e3
        dsimp only at c0 c1 c2
        by_cases hka : k < La.length
        · have hd : decide ((k : Int) < (La.length : Int)) = true := by simpa using hka
          obtain ⟨g1', q1', e1, _, a0, a1, a2⟩ := (I1.out.stay hbr).block k _ (HA.out k _ hka hget)
          cases e1
          dsimp only at a0 a1 a2
          have hge : ¬ ((La.length : Int) ≤ (k : Int)) := by omega
          have HLT := Lib.hid hlt
          clear hlt hget
          go_wp2_with fail
          go_quiet (fail)
          go_wp2_with fail
          go_roundw
          case rel => exact ⟨k + 1, by have := HLT.out; omega, by go_num, below_drewN hbr _⟩
          case measure => simp [intOf]; have := HLT.out; omega
        · have hd : decide ((k : Int) < (La.length : Int)) = false := by simpa using hka
          obtain ⟨⟨K', T', S'⟩, hgb, hxm⟩ := HB.out k _ (by omega) hget
          cases hxm
          have hsp : S' ≤ 2000 := HSP.out _ _ hgb
          have hj0 : (La.length : Int) ≤ (k : Int) := by omega
          have hj1 : (k : Int) - (La.length : Int) < (Lb.length : Int) := by have := HL.out; omega
          obtain ⟨g2', q2', e2, _, d0, d1, d2⟩ := (I2.out.stay hbr).block _ _ hgb
          cases e2
          dsimp only at d0 d1 d2 c0 c1 c2
          have hsum : (((S' + (s.length + 1) : Nat)) : Int) = (S' : Int) + (s.length : Int) + 1 := by omega
          rw [hsum] at c2
          clear hsum
          have hge : ((La.length : Int) ≤ (k : Int)) := by omega
          have HLT := Lib.hid hlt
          clear hlt hget hgb
          go_wp2_with fail
          go_quiet (fail)
          have hbq := below_drewN hbr nq
          have c0' : (wr.drewN nq).cell? ⟨g3, k * 3, none⟩ = _ := c0
          have c1' : (wr.drewN nq).cell? ⟨g3, k * 3 + 1, none⟩ = _ := c1
          have c2' : (wr.drewN nq).cell? ⟨g3, k * 3 + 2, none⟩ = _ := c2
          have d0' : (wr.drewN nq).cell? ⟨g2', (k - La.length) * 3, none⟩ = _ := d0
          have d1' : (wr.drewN nq).cell? ⟨g2', (k - La.length) * 3 + 1, none⟩ = _ := d1
          have d2' : (wr.drewN nq).cell? ⟨g2', (k - La.length) * 3 + 2, none⟩ = _ := d2
          clear c0 c1 c2 d0 d1 d2 hbr
          have hg3' : g3 < (wr.drewN nq).heap.size := hg3
          clear hg3
          generalize wr.drewN nq = wq at hbq c0' c1' c2' d0' d1' d2' hg3' ⊢
          go_wp2_with fail
          have hbx := hbq.alloc hbq.size (.cells #[.int .u8 (K' : Int), .string (mk T'), .int .i64 ((S' : Int) + (s.length : Int) + 1)] 35)
          have hnew := Blk.new wq #[.int .u8 (K' : Int), .string (mk T'), .int .i64 ((S' : Int) + (s.length : Int) + 1)] 35
          have hstay := (Below.refl wq.heap.size wq).alloc (Nat.le_refl _) (.cells #[.int .u8 (K' : Int), .string (mk T'), .int .i64 ((S' : Int) + (s.length : Int) + 1)] 35)
          generalize wq.alloc (.cells #[.int .u8 (K' : Int), .string (mk T'), .int .i64 ((S' : Int) + (s.length : Int) + 1)] 35) = wx at hbx hnew hstay ⊢
          have m0 := (hstay.cell (p := ⟨g3, k * 3, none⟩) hg3').trans c0'
          have m1 := (hstay.cell (p := ⟨g3, k * 3 + 1, none⟩) hg3').trans c1'
          have m2 := (hstay.cell (p := ⟨g3, k * 3 + 2, none⟩) hg3').trans c2'
          generalize wq.heap.size = bx at hnew hstay ⊢
          have n0 := hnew.at 0 (v := .int .u8 (K' : Int)) rfl
          have n1 := hnew.at 1 (v := .string (mk T')) rfl
          have n2 := hnew.at 2 (v := .int .i64 ((S' : Int) + (s.length : Int) + 1)) rfl
          clear c0' c1' c2' d0' d1' d2' hnew hstay hbq
          go_quiet (fail)
          go_wp2_with fail
          go_roundw
          case rel => exact ⟨k + 1, by have := HLT.out; omega, by go_num, below_drewN hbx _⟩
          case measure => simp [intOf]; have := HLT.out; omega
      · obtain rfl : k = Lc.length := by omega
        have Td := Tc.below hbr
        go_wp2_with (go_at_call 8; refine (head_any _ Td).mono ?_; rintro e w' ⟨rfl, hb⟩)
        go_ret
        exact ⟨rfl, (bwc.trans (hbr.mono bwc.size)).trans (hb.mono (by have := bwc.size; have := hbr.size; omega))⟩
end Go.Proofs.YtomcpgogiglpkaaDoor
