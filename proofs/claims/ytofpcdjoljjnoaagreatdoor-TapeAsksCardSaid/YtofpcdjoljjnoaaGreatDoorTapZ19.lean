/-
  The texts TapLive, TapOne, TapShelf, TapCopy, TapKin, TapTape, one behind the other.
-/
import Derived.Test.YtofpcdjoljjnoaaGreatDoorTapZ16
import Derived.Test.YtofpcdjoljjnoaaGreatDoorTapZ05
import Derived.Test.YtofpcdjoljjnoaaGreatDoorTapZ18
import Derived.Test.YtofpcdjoljjnoaaGreatDoorTapZ02

namespace Go.Proofs.YtofpcdjoljjnoaaGreatDoor
open Go.RowKit

/-- What a field marks. -/
def markL (f : Nat) (i : Int) (l : List Bool) : List Bool := if f = 3 then l.set i.toNat true else l
/-- What one round does, at step i. -/
def liveAt (L : List Nd) (i : Nat) (l : List Bool) : List Bool :=
  match L[i]? with
  | some x => if l.getD i false then markL (fld x.op 1) x.b (markL (fld x.op 0) x.a l) else l
  | none => l
/-- What is marked behind k rounds. -/
def liveUp (L : List Nd) (out : Int) : Nat → List Bool
  | 0 => (List.replicate L.length false).set out.toNat true
  | k + 1 => liveAt L (L.length - 1 - k) (liveUp L out k)
theorem markL_length (f : Nat) (i : Int) (l : List Bool) : (markL f i l).length = l.length := by unfold markL; split <;> simp
theorem liveAt_length (L : List Nd) (i : Nat) (l : List Bool) : (liveAt L i l).length = l.length := by
  unfold liveAt
  split
  · split
    · rw [markL_length, markL_length]
    · rfl
  · rfl
theorem liveUp_length (L : List Nd) (out : Int) : ∀ k, (liveUp L out k).length = L.length
  | 0 => by simp [liveUp]
  | k + 1 => by rw [liveUp, liveAt_length, liveUp_length L out k]

/-- Bools as cells. -/
def bools (l : List Bool) : Array Value := (l.map Value.bool).toArray
theorem bools_get (l : List Bool) {i : Nat} (h : i < l.length) : (bools l)[i]? = some (.bool (l.getD i false)) := by
  unfold bools
  simp [h, List.getD_eq_getElem?_getD]
theorem bools_set (l : List Bool) (i : Nat) (b : Bool) : (bools l).setIfInBounds i (.bool b) = bools (l.set i b) := by
  unfold bools
  simp

theorem stepsB_at {pars : Int} : ∀ {L : List Nd} {k i : Nat} {x : Nd}, stepsB pars k L = true → L[i]? = some x → stepB x ((k + i : Nat) : Int) pars = true
  | [], _, _, _, _, h => by simp at h
  | y :: L, k, 0, x, hv, h => by
    simp at h
    subst h
    simp [stepsB] at hv
    exact hv.1
  | y :: L, k, i + 1, x, hv, h => by
    simp [stepsB] at hv
    have := stepsB_at (k := k + 1) hv.2 (i := i) (x := x) (by simpa using h)
    rwa [show k + 1 + i = k + (i + 1) by omega] at this
theorem stepB_a {x : Nd} {i pars : Int} (h : stepB x i pars = true) (hf : fld x.op 0 = 3) : 0 ≤ x.a ∧ x.a < i := by
  unfold stepB at h
  simp only [Bool.and_eq_true] at h
  have h1 := h.2.1
  unfold isB at h1
  rw [if_pos hf] at h1
  simpa using h1
theorem stepB_b {x : Nd} {i pars : Int} (h : stepB x i pars = true) (hf : fld x.op 1 = 3) : 0 ≤ x.b ∧ x.b < i := by
  unfold stepB at h
  simp only [Bool.and_eq_true] at h
  have h1 := h.2.2.1
  unfold isB at h1
  rw [if_pos hf] at h1
  simpa using h1

/-- What the closure leaves. -/
def markW (f : Nat) (g : Nat) (i : Int) (w : World) : World := if f = 3 then w.setCell ⟨g, i.toNat, none⟩ (.bool true) else w

set_option maxHeartbeats 1000000 in
theorem mark_any {w : World} {f : Nat} {fi i : Int} {p g n : Nat} {l : List Bool} (hf : fi = (f : Int)) (hc : w.cell? ⟨p, 0, none⟩ = some (.slice (some ⟨g, 0, none⟩) n n)) (hg : BlkOf w g (bools l) 4) (hl : l.length = n) (hi : f = 3 → 0 ≤ i ∧ i < (n : Int)) :
    Calls Tryz.prog 29 #[.int .u8 fi, .int .i64 i, .pointer (some ⟨p, 0, none⟩)] w (fun e w' => e = .returned (.tuple #[]) ∧ w' = markW f g i w) := by
  subst hf
  unfold markW
  by_cases h3 : f = 3
  · subst h3
    rw [if_pos rfl]
    obtain ⟨i0, i1⟩ := hi rfl
    obtain ⟨k, rfl⟩ := Int.eq_ofNat_of_zero_le i0
    have hk : k < l.length := by omega
    have c1 := hg.at k (bools_get l hk)
    have z1 := hg.free k
    have hki : ((k : Int)).toNat = k := by simp
    have hnI : (k : Int) < (n : Int) := i1
    rw [hki]
    clear hg
    go_enter Tryz.func29, Tryz.ntmps29
    go_wp2_with fail
    go_end0
    exact ⟨rfl, rfl⟩
  · rw [if_neg h3]
    have n3 : ¬ ((f : Int) = 3) := by omega
    go_enter Tryz.func29, Tryz.ntmps29
    go_wp2_with fail
    go_end0
    exact ⟨rfl, rfl⟩

theorem markW_keep {f g : Nat} {i : Int} {w : World} {b : Nat} {cs : Array Value} {t : TypeId} (h : BlkOf w b cs t) (hne : g ≠ b) : BlkOf (markW f g i w) b cs t := by
  unfold markW
  split
  · exact h.other (p := ⟨g, i.toNat, none⟩) hne _
  · exact h
theorem markW_row {f g : Nat} {i : Int} {w : World} {l : List Bool} (h : BlkOf w g (bools l) 4) : BlkOf (markW f g i w) g (bools (markL f i l)) 4 := by
  unfold markW markL
  split
  · rw [← bools_set]; exact h.set _ _
  · exact h
theorem markW_below {B f g : Nat} {i : Int} {w0 w : World} (h : Below B w0 w) (hB : B ≤ g) : Below B w0 (markW f g i w) := by
  unfold markW
  split
  · exact h.setCell (p := ⟨g, i.toNat, none⟩) hB _
  · exact h
theorem info_bool : (Tryz.prog.info? 4).map (fun i => (i.zero, i.size, i.bytes)) = some (some (.bool false), 1, 1) := by kernel_rfl
theorem made_bools {w0 : World} {B n : Nat} (h : w0.ownsRow B 4 1 (.slice (some ⟨B, 0, none⟩) n n) n (madeCells (Value.bool false).cells (n * 1)).toList) : BlkOf w0 B (bools (List.replicate n false)) 4 := by
  rw [show (Value.bool false).cells = #[.bool false] from rfl, toList_madeCells_one, Nat.mul_one] at h
  rcases h.2 with ⟨h2, _⟩ | ⟨g, cap, cur, e, hB, hg, hle, hm, hs, htk⟩
  · injection h2 with h3; cases h3
  · injection e with e1 _ e3
    cases e1
    subst e3
    rw [Nat.mul_one] at hs htk
    have hc : cur = bools (List.replicate n false) := by
      unfold bools
      have hlen : cur.toList.length = n := by simpa using hs
      rw [List.take_of_length_le (by omega)] at htk
      apply Array.toList_inj.1
      rw [htk]
      simp
    unfold BlkOf
    rw [← hc]
    exact hg

def LiveRel (L : List Nd) (out : Int) (g q z : Nat) (cs : Array Value) (w : World) (i : Value) (wr : World) : Prop :=
  ∃ k : Nat, k ≤ L.length ∧ i = .int .i64 (k : Int) ∧ BlkOf wr g (bools (liveUp L out k)) 4 ∧ BlkOf wr q #[.slice (some ⟨g, 0, none⟩) L.length L.length] 28 ∧ BlkOf wr z cs 25 ∧ q < wr.heap.size ∧ Below w.heap.size w wr

/-- What Live tells of a valid tape: a row of its own. -/
def LivePost (t : Tp) (w : World) (e : Ending) (w' : World) : Prop :=
  (validB t = true ∧ ∃ g n, e = .returned (.slice (some ⟨g, 0, none⟩) n n) ∧ n = t.nodes.length ∧ w.heap.size ≤ g ∧ BlkOf w' g (bools (liveUp t.nodes t.out t.nodes.length)) 4 ∧ Below w.heap.size w w') ∨
  (validB t = false ∧ e = .returned (.slice none 0 0) ∧ Below w.heap.size w w')

set_option maxRecDepth 100000 in
set_option maxHeartbeats 4000000 in
theorem live_any {K : Nat} {w : World} {t : Tp} {vn vt : Value} (h : TpAt K w t vn vt) (hK : K ≤ 137438953472) (ht : Tab w) :
    Calls Tryz.prog 7 #[tpV t vn vt] w (LivePost t w) := by
  have hmf : ∀ (fn : Fn) (first cap : Array Value) (w : World), (Instr.makeFunc fn first cap).run Tryz.prog w = .ok (.func fn first cap) w := fun _ _ _ _ => rfl
  obtain ⟨i0, hi, hz0, hz1, hz2⟩ := info_parts info_bool
  have hv := fun W (hW : Grow w W) => isvalid_any (h.grow hW) hK (ht.grow hW)
  obtain ⟨hp, ho, hnl, htl, A, ca, B, cb, rfl, rfl, hn, htt⟩ := h
  obtain ⟨pars, out, L, T⟩ := t
  unfold tpV at *
  dsimp only at *
  obtain ⟨r, hr⟩ : ∃ r, r = validB ⟨pars, out, L, T⟩ := ⟨_, rfl⟩
  rw [← hr] at hv
  obtain ⟨N, hN⟩ : ∃ N, N = L.length := ⟨_, rfl⟩
  have HNN := Lib.hid hN
  rw [← hN] at hv hnl ⊢
  have HV := Lib.hid hv
  have HR := Lib.hid hr
  have HG := Lib.hid (fun o => Grow.alloc w o)
  have HT := Lib.hid ht
  have HN := Lib.hid hn
  clear hv htt ht hn hN
  cases r with
  | false =>
    clear hr
    go_enter Tryz.func7, Tryz.ntmps7
    go_wp2_with (first | (go_at_call 28; refine (HV.out _ (HG.out _)).mono ?_; rintro e w3 ⟨rfl, hb3⟩; have HG3 := Lib.hid ((HG.out _).trans hb3); clear hb3) | fail)
    go_ret
    exact .inr ⟨HR.out.symm, rfl, HG3.out⟩
  | true =>
    have hvalid := hr
    unfold validB at hvalid
    dsimp only at hvalid
    have hval2 := hvalid.symm
    simp only [Bool.and_eq_true, decide_eq_true_eq] at hval2
    obtain ⟨⟨_, hl20, hsteps⟩, _, ho0, ho1⟩ := hval2
    obtain ⟨o, rfl⟩ := Int.eq_ofNat_of_zero_le ho0
    have HST := Lib.hid hsteps
    have hoL : o < L.length := by omega
    have HO := Lib.hid hoL
    have hN := HNN.out
    rw [← hN] at hl20 hoL
    have hoI : (o : Int) < (N : Int) := by omega
    have hNI : (N : Int) ≤ 20000 := by omega
    clear hvalid hr ho1 hN hsteps ho0
    go_enter Tryz.func7, Tryz.ntmps7
    go_wp2_with (first | (go_at_call 28; refine (HV.out _ (HG.out _)).mono ?_) | fail)
    rintro e w1 ⟨rfl, hb1⟩
    have hg1 : Grow w w1 := (HG.out _).trans hb1
    have bz := (BlkOf.new w #[Value.int .i64 pars, .int .i64 (o : Int), .slice A N ca, .slice B T.length cb] 25).below hb1 (by simp)
    have hzw1 : w.heap.size < w1.heap.size := bz.lt
    have c2' := bz.at 2 rfl
    have HG1 := Lib.hid hg1
    have HBZ := Lib.hid bz
    clear hb1 bz hg1
    go_wp2_with (first
      | (at_make
         refine wpList_make_full _ rfl _ _ 28 rfl w1.heap.size 4 i0 (.bool false) 1 Tryz.underlying28 hi hz0 hz1 .i64 .i64 _ _ N rfl rfl rfl rfl (by rw [hz2]; omega) (by unfold maxLen; omega) (Nat.le_refl _) ?_
         intro w2 hown2 hg2
         have hb2 : Below w1.heap.size w1 w2 := (Below.refl _ w1).grown hg2 (Nat.le_refl _) (fun k hk => by cases hk)
         have hO2 := made_bools hown2
         have HO2 := Lib.hid hO2
         have HZ2 := Lib.hid (HBZ.out.below hb2 hzw1)
         have HG2 : Hid (Grow w w2) := Lib.hid (Below.trans HG1.out (hb2.mono (by omega)))
         have HL2 : Hid (w1.heap.size < w2.heap.size) := Lib.hid hO2.lt
         have c0 := fun o => (HZ2.out.alloc o).at 0 rfl
         have c1 := fun o => (HZ2.out.alloc o).at 1 rfl
         have c2 := fun o => (HZ2.out.alloc o).at 2 rfl
         have c3 := fun o => (HZ2.out.alloc o).at 3 rfl
         have c5 := fun o' => (hO2.alloc o').at o (bools_get _ (by simpa using hoL))
         have z5 := fun o' => (hO2.alloc o').free o
         clear hown2 hg2 hb2 hO2)
      | fail)
    clear c0 c1 c2 c3 c5 z5 c2'
    obtain ⟨g, hg⟩ : ∃ g, g = w1.heap.size := ⟨_, rfl⟩
    obtain ⟨q, hq⟩ : ∃ q, q = w2.heap.size := ⟨_, rfl⟩
    have hO2 := HO2.out
    have hL2 := HL2.out
    rw [← hg] at hO2 hL2 hzw1 ⊢
    rw [← hq] at hL2 ⊢
    obtain ⟨cs, hcs⟩ : ∃ cs, cs = #[Value.int .i64 pars, .int .i64 (o : Int), .slice A N ca, .slice B T.length cb] := ⟨_, rfl⟩
    have hZ2 := HZ2.out
    have hG2 := HG2.out
    have hstart : LiveRel L (o : Int) g q w.heap.size cs w (.int .i64 0) ((w2.alloc (.cells #[.slice (some ⟨g, 0, none⟩) N N] 28)).setCell ⟨g, o, none⟩ (.bool true)) := by
      refine ⟨0, Nat.zero_le _, rfl, ?_, ?_, ?_, ?_, ?_⟩
      · have h1 := (hO2.alloc (.cells #[.slice (some ⟨g, 0, none⟩) N N] 28)).set o (.bool true)
        rw [bools_set, HNN.out] at h1
        rw [← HNN.out] at h1
        show BlkOf _ g (bools ((List.replicate L.length false).set (o : Int).toNat true)) _
        rw [show (o : Int).toNat = o by simp, ← HNN.out]
        exact h1
      · rw [← HNN.out, hq]
        exact (BlkOf.new w2 _ _).other (p := ⟨g, o, none⟩) (by show g ≠ w2.heap.size; omega) _
      · rw [hcs]; exact (hZ2.alloc _).other (p := ⟨g, o, none⟩) (by show g ≠ w.heap.size; omega) _
      · rw [hq]; simp [World.setCell]
      · exact (Below.alloc hG2 (Below.size hG2) _).setCell (p := ⟨g, o, none⟩) (by show w.heap.size ≤ g; omega) _
    have HS := Lib.hid hstart
    have HGQ : Hid (w.heap.size < g ∧ g < q) := Lib.hid ⟨hzw1, hL2⟩
    have HCS := Lib.hid hcs
    clear hO2 hL2 hZ2 hG2 hstart hcs hg hq HO2 HZ2 HG2 HL2 HBZ HG1
    go_loopw [24] (fun i wr => LiveRel L (o : Int) g q w.heap.size cs w i wr) (fun i _ => N - (intOf i).toNat)
    case atStart => exact HS.out
    case round =>
      obtain ⟨k, hk, rfl, hrow, hbox, hz, hqw, hb⟩ := hrel
      have hkN : k ≤ N := by rw [HNN.out]; exact hk
      rw [← HNN.out] at hbox
      rw [HCS.out] at hz
      have HROW := Lib.hid hrow
      have HBOX := Lib.hid hbox
      have HZB := Lib.hid hz
      have HQW := Lib.hid hqw
      have HB := Lib.hid hb
      clear hk hrow hbox hz hqw hb
      by_cases hlt : k < N
      · obtain ⟨i, hi9⟩ : ∃ i, i = N - 1 - k := ⟨_, rfl⟩
        have hiN : i < N := by omega
        have hiI : (N : Int) - 1 - (k : Int) = (i : Int) := by omega
        have hltI : (k : Int) < (N : Int) := by omega
        have hkI : (0 : Int) ≤ (N : Int) - 1 := by omega
        have hiI2 : (i : Int) < (N : Int) := by omega
        obtain ⟨x, hx⟩ : ∃ x, L[i]? = some x := ⟨_, List.getElem?_eq_getElem (by have := HNN.out; omega)⟩
        obtain ⟨l, hl⟩ : ∃ l, l = liveUp L (o : Int) k := ⟨_, rfl⟩
        have hlen : l.length = N := by rw [hl, liveUp_length, HNN.out]
        have hnext : liveUp L (o : Int) (k + 1) = liveAt L i l := by
          rw [liveUp, ← hl]; congr 1; rw [← HNN.out]; exact hi9.symm
        have hrow := HROW.out
        rw [← hl] at hrow
        have c0 := HZB.out.at 2 rfl
        have c1 := HBOX.out.at 0 rfl
        have c2 := hrow.at i (bools_get l (by omega))
        have HROW2 := Lib.hid hrow
        have HLEN := Lib.hid hlen
        have HNEXT := Lib.hid hnext
        have HX := Lib.hid hx
        obtain ⟨bl, hbl⟩ : ∃ bl, bl = l.getD i false := ⟨_, rfl⟩
        rw [← hbl] at c2
        have HBL := Lib.hid hbl
        clear hrow hlen hnext hl hbl HROW hi9
        cases bl with
        | false =>
          have HE : Hid (liveUp L (o : Int) (k + 1) = l) := Lib.hid (by
            rw [HNEXT.out]; unfold liveAt; rw [HX.out]; dsimp only; rw [← HBL.out]; rfl)
          clear hx
          go_wp2_with fail
          go_roundw
          case rel => exact ⟨k + 1, by have := HNN.out; omega, by go_num, by rw [HE.out]; exact HROW2.out, by rw [← HNN.out]; exact HBOX.out, by rw [HCS.out]; exact HZB.out, HQW.out, HB.out⟩
          case measure => simp [intOf]; omega
        | true =>
          have hnd := HN.out.grow HB.out i x hx
          obtain ⟨b, off, un, ud, rfl, hc, hok⟩ := hnd
          have d0 := hc 0 _ rfl
          have d1 := hc 1 _ rfl
          have d2 := hc 2 _ rfl
          have d3 := hc 3 _ rfl
          have d4 := hc 4 _ rfl
          have d5 := hc 5 _ rfl
          rw [Nat.add_zero] at d0
          have hvx := stepsB_at HST.out hx
          rw [Nat.zero_add] at hvx
          have hva := stepB_a hvx
          have hvb := stepB_b hvx
          obtain ⟨⟨na, cna, rfl, _, _, _, _⟩, ⟨nd, cnd, rfl, _, _, _, _⟩, _⟩ := hok.2.2.2
          obtain ⟨op, xa, xb, s, M, D⟩ := x
          dsimp only at *
          have hop : op < 256 := hok.1
          have hxa : I64 xa := hok.2.1
          have hxb : I64 xb := hok.2.2.1
          obtain ⟨nw, hnw⟩ : ∃ nw, nw = wr.alloc (.cells #[.int .u8 (op : Int), .int .i64 xa, .int .i64 xb, .bool s, .slice na M.length cna, .slice nd D.length cnd] 71) := ⟨_, rfl⟩
          have bn : BlkOf nw wr.heap.size #[.int .u8 (op : Int), .int .i64 xa, .int .i64 xb, .bool s, .slice na M.length cna, .slice nd D.length cnd] 71 := by rw [hnw]; exact BlkOf.new wr _ _
          have hgn : Grow wr nw := by rw [hnw]; exact Grow.alloc _ _
          have hF := fieldsof_any op hop ((HT.out.grow HB.out).grow hgn)
          unfold fldV at hF
          have HNX : Hid (liveUp L (o : Int) (k + 1) = markL (fld op 1) xb (markL (fld op 0) xa l)) := Lib.hid (by
            rw [HNEXT.out]; unfold liveAt; rw [HX.out]; dsimp only; rw [← HBL.out]; rfl)
          generalize fld op 0 = fa at hF hva HNX
          generalize fld op 1 = fb at hF hvb HNX
          generalize fld op 2 = fc at hF
          have HF := Lib.hid hF
          have HVA := Lib.hid hva
          have HVB := Lib.hid hvb
          have HBN := Lib.hid bn
          have HGN := Lib.hid hgn
          have HRN := Lib.hid (HROW2.out.below hgn HROW2.out.lt)
          have HBXN := Lib.hid (HBOX.out.below hgn HBOX.out.lt)
          have HZN := Lib.hid (HZB.out.below hgn HZB.out.lt)
          have HXI := Lib.hid (And.intro hxa hxb)
          subst hnw
          clear hc hok hvx hva hvb hF bn hgn hx hop hxa hxb
          go_wp2_with (first | (go_at_call 30; refine HF.out.mono ?_) | fail)
          rintro e w4 ⟨rfl, hb4⟩
          have hn4 := HBN.out.below hb4 HBN.out.lt
          have hr4 := HRN.out.below hb4 HRN.out.lt
          have hx4 := HBXN.out.below hb4 HBXN.out.lt
          have hz4 := HZN.out.below hb4 HZN.out.lt
          have hg4 : Below w.heap.size w w4 := (HB.out.trans (HGN.out.mono (Below.size HB.out))).trans (hb4.mono (Below.size (HB.out.trans (HGN.out.mono (Below.size HB.out)))))
          obtain ⟨w5, hw5⟩ : ∃ w5, w5 = w4.alloc (.cells #[.int .u8 (fa : Int), .int .u8 (fb : Int), .int .u8 (fc : Int)] 76) := ⟨_, rfl⟩
          have hf5 : BlkOf w5 w4.heap.size #[.int .u8 (fa : Int), .int .u8 (fb : Int), .int .u8 (fc : Int)] 76 := by rw [hw5]; exact BlkOf.new w4 _ _
          have hn5 : BlkOf w5 wr.heap.size #[.int .u8 (op : Int), .int .i64 xa, .int .i64 xb, .bool s, .slice na M.length cna, .slice nd D.length cnd] 71 := by rw [hw5]; exact hn4.alloc _
          have hr5 : BlkOf w5 g (bools l) 4 := by rw [hw5]; exact hr4.alloc _
          have hx5 : BlkOf w5 q #[.slice (some ⟨g, 0, none⟩) N N] 28 := by rw [hw5]; exact hx4.alloc _
          have hz5 : BlkOf w5 w.heap.size #[.int .i64 pars, .int .i64 (o : Int), .slice (some ⟨b, off, none⟩) N ca, .slice B T.length cb] 25 := by rw [hw5]; exact hz4.alloc _
          have hg5 : Below w.heap.size w w5 := by rw [hw5]; exact hg4.alloc (Below.size hg4) _
          have hsz : q < wr.heap.size ∧ wr.heap.size < w4.heap.size := ⟨HQW.out, hn4.lt⟩
          have HM1 := Lib.hid (mark_any (f := fa) (fi := (fa : Int)) (i := xa) rfl (hx5.at 0 rfl) hr5 HLEN.out (fun h => by have := HVA.out h; omega))
          -- behind the first mark
          have hf6 := markW_keep (f := fa) (i := xa) hf5 (show g ≠ w4.heap.size by have := HGQ.out; omega)
          have hn6 := markW_keep (f := fa) (i := xa) hn5 (show g ≠ wr.heap.size by have := HGQ.out; omega)
          have hx6 := markW_keep (f := fa) (i := xa) hx5 (show g ≠ q by have := HGQ.out; omega)
          have hz6 := markW_keep (f := fa) (i := xa) hz5 (show g ≠ w.heap.size by have := HGQ.out; omega)
          have hr6 := markW_row (f := fa) (i := xa) hr5
          have hg6 := markW_below (f := fa) (i := xa) hg5 (show w.heap.size ≤ g by have := HGQ.out; omega)
          obtain ⟨w6, hw6⟩ : ∃ w6, w6 = markW fa g xa w5 := ⟨_, rfl⟩
          rw [← hw6] at hf6 hn6 hx6 hz6 hr6 hg6
          have HW6 := Lib.hid hw6
          have HM2 := Lib.hid (mark_any (f := fb) (fi := (fb : Int)) (i := xb) rfl (hx6.at 0 rfl) hr6 (by rw [markL_length]; exact HLEN.out) (fun h => by have := HVB.out h; omega))
          have hx7 := markW_keep (f := fb) (i := xb) hx6 (show g ≠ q by have := HGQ.out; omega)
          have hz7 := markW_keep (f := fb) (i := xb) hz6 (show g ≠ w.heap.size by have := HGQ.out; omega)
          have hr7 := markW_row (f := fb) (i := xb) hr6
          have hg7 := markW_below (f := fb) (i := xb) hg6 (show w.heap.size ≤ g by have := HGQ.out; omega)
          have HE := Lib.hid (And.intro hx7 (And.intro hz7 (And.intro hr7 (And.intro hg7 (show q < (markW fb g xb w6).heap.size by exact hx7.lt)))))
          have c50 := hf5.at 0 rfl
          have c51 := hn5.at 1 rfl
          have c60 := hf6.at 1 rfl
          have c61 := hn6.at 2 rfl
          rw [hw5] at c50 c51
          rw [hw5] at HM1 HW6
          clear hn4 hr4 hx4 hz4 hg4 hf5 hn5 hr5 hx5 hz5 hg5 hf6 hn6 hx6 hz6 hr6 hg6 hx7 hz7 hr7 hg7 hb4 hsz hw6 hw5
          go_wp2_with (first | (go_at_call 29; refine HM1.out.mono ?_) | fail)
          rintro e W ⟨rfl, rfl⟩
          rw [← HW6.out]
          go_wp2_with (first | (go_at_call 29; refine HM2.out.mono ?_) | fail)
          rintro e W ⟨rfl, rfl⟩
          go_wp2_with fail
          go_roundw
          case rel => exact ⟨k + 1, by have := HNN.out; omega, by go_num, by rw [HNX.out]; exact HE.out.2.2.1, by rw [← HNN.out]; exact HE.out.1, by rw [HCS.out]; exact HE.out.2.1, HE.out.2.2.2.2, HE.out.2.2.2.1⟩
          case measure => simp [intOf]; omega
      · obtain rfl : k = N := by omega
        have c1 := HBOX.out.at 0 rfl
        have HRW : Hid (BlkOf wr g (bools (liveUp L (o : Int) L.length)) 4) := Lib.hid (by rw [← HNN.out]; exact HROW.out)
        go_wp2_with fail
        go_ret
        exact .inl ⟨HR.out.symm, g, k, rfl, HNN.out, Nat.le_of_lt HGQ.out.1, HRW.out, HB.out⟩
end Go.Proofs.YtofpcdjoljjnoaaGreatDoor

namespace Go.Proofs.YtofpcdjoljjnoaaGreatDoor
open Go.RowKit Go.Maps

def oneS (S : MkS) (op : Nat) (a : Int) : Int × Int × MkS := ofS S 3 0 0 (bareNd op a 0)
def twoS (S : MkS) (op : Nat) (a b : Int) : Int × Int × MkS := ofS S 3 3 0 (bareNd op a b)

section
variable {P : Nat → Prop} {w : World} {m : Value} {S : MkS}
theorem MkAt.ptr (h : MkAt P w m S) : ∃ pm, m = .pointer (some ⟨pm, 0, none⟩) := by
  obtain ⟨pm, _, h1, _⟩ := h
  exact ⟨pm, h1⟩
theorem one_some {op : Nat} {a : Int} (h : MkAt P w m S) (hop : op < 256) (ha : I64 a) (ht : Tab w) :
    Calls Tryz.prog 20 #[m, .int .u8 (op : Int), .int .i64 a] w (MkPost P m w (oneS S op a)) := by
  have hO : Calls Tryz.prog 44 #[m, .agg #[.int .u8 3, .int .u8 0, .int .u8 0], .agg #[.int .u8 (op : Int), .int .i64 a, .int .i64 0, .bool false, .slice none 0 0, .slice none 0 0]] w (MkPost P m w (oneS S op a)) :=
    of_some (f0 := 3) (f1 := 0) (f2 := 0) h hop ha i64_zero ht rfl rfl
  obtain ⟨pm, rfl⟩ := h.ptr
  have HO := Lib.hid hO
  clear hO h
  go_enter Tryz.func20, Tryz.ntmps20
  go_wp2_with (first | (go_at_call 44; refine HO.out.mono ?_; rintro e w3 ⟨rfl, h3⟩; have H3 := Lib.hid h3; clear h3) | fail)
  go_ret2
  exact ⟨rfl, H3.out⟩
theorem two_some {op : Nat} {a b : Int} (h : MkAt P w m S) (hop : op < 256) (ha : I64 a) (hb : I64 b) (ht : Tab w) :
    Calls Tryz.prog 22 #[m, .int .u8 (op : Int), .int .i64 a, .int .i64 b] w (MkPost P m w (twoS S op a b)) := by
  have hO : Calls Tryz.prog 44 #[m, .agg #[.int .u8 3, .int .u8 3, .int .u8 0], .agg #[.int .u8 (op : Int), .int .i64 a, .int .i64 b, .bool false, .slice none 0 0, .slice none 0 0]] w (MkPost P m w (twoS S op a b)) :=
    of_some (f0 := 3) (f1 := 3) (f2 := 0) h hop ha hb ht rfl rfl
  obtain ⟨pm, rfl⟩ := h.ptr
  have HO := Lib.hid hO
  clear hO h
  go_enter Tryz.func22, Tryz.ntmps22
  go_wp2_with (first | (go_at_call 44; refine HO.out.mono ?_; rintro e w3 ⟨rfl, h3⟩; have H3 := Lib.hid h3; clear h3) | fail)
  go_ret2
  exact ⟨rfl, H3.out⟩
theorem one_none {op a : Int} (h : NoMk w m) : Calls Tryz.prog 20 #[m, .int .u8 op, .int .i64 a] w (Just (.tuple #[.int .i64 0, .int .i64 1]) w) := by
  have HO := Lib.hid (of_none (f0 := 3) (f1 := 0) (f2 := 0) (op := op) (a := a) (b := 0) h)
  clear h
  go_enter Tryz.func20, Tryz.ntmps20
  go_wp2_with (first | (go_at_call 44; refine HO.out.mono ?_; rintro e w3 ⟨rfl, h3⟩; have H3 := Lib.hid h3; clear h3) | fail)
  go_ret2
  exact ⟨rfl, H3.out⟩
theorem two_none {op a b : Int} (h : NoMk w m) : Calls Tryz.prog 22 #[m, .int .u8 op, .int .i64 a, .int .i64 b] w (Just (.tuple #[.int .i64 0, .int .i64 1]) w) := by
  have HO := Lib.hid (of_none (f0 := 3) (f1 := 3) (f2 := 0) (op := op) (a := a) (b := b) h)
  clear h
  go_enter Tryz.func22, Tryz.ntmps22
  go_wp2_with (first | (go_at_call 44; refine HO.out.mono ?_; rintro e w3 ⟨rfl, h3⟩; have H3 := Lib.hid h3; clear h3) | fail)
  go_ret2
  exact ⟨rfl, H3.out⟩
theorem par_none (h : NoMk w m) : Calls Tryz.prog 18 #[m] w (Same (.tuple #[.int .i64 0, .int .i64 1]) w) := by
  have HN := Lib.hid (isnone_none h)
  clear h
  go_enter Tryz.func18, Tryz.ntmps18
  go_wp2_with (first | (go_at_call 37; refine HN.out.mono ?_; rintro e w3 ⟨rfl, rfl⟩) | fail)
  go_ret2
  exact ⟨rfl, rfl⟩
end

/-- What Par tells. -/
def parNd (S : MkS) : Nd := bareNd 2 (S.pars : Int) 0
def parS (S : MkS) : Int × Int × MkS :=
  if S.pars = 200 then (0, 171, S) else if S.l.length = S.budget then (0, 171, S) else ((S.l.length : Int), 0, { S with pars := S.pars + 1, l := S.l ++ [parNd S] })
theorem fld2 : fld 2 0 = 2 ∧ fld 2 1 = 0 ∧ fld 2 2 = 0 := by decide
theorem par_new {S : MkS} (h : Good S) : kyAt (S.l.map keyN) (keyN (parNd S)) = none := by
  unfold kyAt
  rw [List.findIdx?_eq_none_iff]
  intro k hk
  obtain ⟨x, hx, rfl⟩ := List.mem_map.1 hk
  obtain ⟨i, hi⟩ := List.mem_iff_getElem?.1 hx
  have hs := stepsB_at h.2.2.2.2.1 hi
  simp only [beq_eq_false_iff_ne, ne_eq]
  intro e
  have h1 : x.op = 2 := congrArg Ky.op e
  have h2 : x.a = (S.pars : Int) := congrArg Ky.a e
  unfold stepB at hs
  simp only [Bool.and_eq_true] at hs
  have h3 := hs.2.1
  rw [h1, fld2.1, h2] at h3
  unfold isB at h3
  simp at h3
theorem stepB_more {x : Nd} {i p : Int} (h : stepB x i p = true) : stepB x i (p + 1) = true := by
  unfold stepB at h ⊢
  simp only [Bool.and_eq_true] at h ⊢
  refine ⟨h.1, ?_, ?_, h.2.2.2⟩
  · have := h.2.1
    unfold isB at this ⊢
    split
    · rename_i h3; rw [if_pos h3] at this; exact this
    · rename_i h3
      rw [if_neg h3] at this
      split
      · rename_i h2; rw [if_pos h2] at this; simp at this ⊢; omega
      · rename_i h2; rw [if_neg h2] at this; exact this
  · have := h.2.2.1
    unfold isB at this ⊢
    split
    · rename_i h3; rw [if_pos h3] at this; exact this
    · rename_i h3
      rw [if_neg h3] at this
      split
      · rename_i h2; rw [if_pos h2] at this; simp at this ⊢; omega
      · rename_i h2; rw [if_neg h2] at this; exact this
theorem stepsB_more {p : Int} : ∀ {L : List Nd} {k : Nat}, stepsB p k L = true → stepsB (p + 1) k L = true
  | [], _, _ => rfl
  | x :: L, k, h => by
    simp only [stepsB, Bool.and_eq_true] at h ⊢
    exact ⟨stepB_more h.1, stepsB_more h.2⟩
theorem parS_good {S : MkS} (h : Good S) : Good (parS S).2.2 := by
  unfold parS
  split
  · exact h
  · rename_i hp
    split
    · exact h
    · rename_i hf
      have hn := kyAt_none (par_new h)
      obtain ⟨h1, h2, h3, h4, h5, h6⟩ := h
      refine ⟨h1, h2, by show S.pars + 1 ≤ 200; omega, ?_, ?_, ?_⟩
      · show (S.l ++ [parNd S]).length ≤ S.budget
        rw [List.length_append, List.length_singleton]; omega
      · show stepsB ((S.pars + 1 : Nat) : Int) 0 (S.l ++ [parNd S]) = true
        rw [stepsB_snoc, show ((S.pars + 1 : Nat) : Int) = (S.pars : Int) + 1 by omega, stepsB_more h5, Bool.true_and]
        unfold stepB parNd bareNd
        dsimp only
        rw [fld2.1, fld2.2.1, fld2.2.2]
        unfold isB writtenB
        simp [sameB]
        omega
      · show ((S.l ++ [parNd S]).map keyN).Nodup
        rw [List.map_append, List.map_singleton]
        unfold List.Nodup at h6 ⊢
        rw [List.pairwise_append]
        refine ⟨h6, List.pairwise_singleton _ _, fun a ha b hb => ?_⟩
        rw [List.mem_singleton.1 hb]
        exact fun e => hn (by rw [← e]; exact ha)

/-- A store into a maker's row leaves what is of another type. -/
theorem set_apart {w : World} {pr i : Nat} {cs : Array Value} {x : Value} (hb : BlkOf w pr cs 86) {B e K : Nat} {v : Value} {n : Nat} {xs : List Value} (h : w.ownsRow B e K v n xs) (he : e ≠ 86) : (w.setCell ⟨pr, i, none⟩ x).ownsRow B e K v n xs := by
  refine ownsRow_kept (P := fun g => v.ownBlock = some g) h (fun g hg => hg) (fun g hg => Below.heap_setCell _ _ _ _ (fun e1 => ?_))
  obtain ⟨_, _, cur, hc⟩ := ownsRow_own h hg
  unfold BlkOf at hc hb
  have e2 : g = pr := e1
  rw [e2, hb] at hc
  injection hc with hc
  injection hc with _ hT
  exact he hT.symm
theorem set_sparing {P : Nat → Prop} {w : World} {pr i : Nat} {cs : Array Value} {x : Value} (hb : BlkOf w pr cs 86) (hP : P pr) : Sparing P w (w.setCell ⟨pr, i, none⟩ x) := by
  refine ⟨rfl, rfl, rfl, Nat.le_of_eq (size_set _ _ _).symm, fun k _ hn => Below.heap_setCell _ _ _ _ (fun e => hn (by rw [show k = pr from e]; exact hP)), fun b cs' t hb' h1 _ => ?_⟩
  refine (Below.heap_setCell _ _ _ _ (fun e => ?_)).trans hb'
  have e2 : b = pr := e
  unfold BlkOf at hb hb'
  rw [e2, hb] at hb'
  injection hb' with hb'
  injection hb' with _ hT
  exact h1 hT.symm
theorem row_setpar {P : Nat → Prop} {w : World} {pr : Nat} {S : MkS} (h : RowAt P w pr S) (n : Nat) : RowAt P (w.setCell ⟨pr, 1, none⟩ (.int .i64 (n : Int))) pr { S with pars := n } := by
  obtain ⟨mb, vN, h1, h2, h3, ⟨vs, k1, k2, k3, k4⟩, h5, h6⟩ := h
  refine ⟨mb, vN, h1, h2, h3.set 1 _, ⟨vs, k1, set_apart h3 k2 (by decide), k3, fun i x p hx hp => ?_⟩, ?_, fun k hk => by rw [size_set]; exact h6 k hk⟩
  · obtain ⟨q1, q2, q3, q4, q5, q6⟩ := k4 i x p hx hp
    exact ⟨q1, q2, q3, ⟨set_apart h3 q4.1 (by decide), q4.2⟩, ⟨set_apart h3 q5.1 (by decide), q5.2⟩, q6⟩
  · refine MapIn.of_block h5 (Below.heap_setCell _ _ _ _ (fun e => ?_))
    have e2 : mb = pr := e
    obtain ⟨es, clock, hm, _⟩ := h5
    unfold BlkOf at h3
    rw [e2, h3] at hm
    cases hm
theorem putS_pars (S : MkS) (x : Nd) : (putS S x).2.2.pars = S.pars := by
  unfold putS
  split
  · rfl
  · split <;> rfl

set_option maxRecDepth 100000 in
set_option maxHeartbeats 4000000 in
theorem par_some {P : Nat → Prop} {w : World} {m : Value} {S : MkS} (h : MkAt P w m S) :
    Calls Tryz.prog 18 #[m] w (MkPost P m w (parS S)) := by
  have H := Lib.hid h
  have HNO := Lib.hid (isnone_some h)
  obtain ⟨pm, pr, rfl, hPm, hpm, hrow, hgood⟩ := h
  have hrow' := hrow
  obtain ⟨mb, vN, hPr, hPmb, hblk, hnds, _, _⟩ := hrow'
  obtain ⟨r, hr⟩ : ∃ r, r = parS S := ⟨_, rfl⟩
  have HR := Lib.hid hr
  rw [← hr]
  obtain ⟨pars, hpars⟩ : ∃ pars, pars = S.pars := ⟨_, rfl⟩
  have HPS := Lib.hid hpars
  have hPI : (pars : Int) ≤ 200 := by have := hgood.2.2.1; omega
  have c0 := hpm.at 0 rfl
  have c1 := hblk.at 1 rfl
  rw [← hpars] at c1
  have HPM := Lib.hid hpm
  have HROW := Lib.hid hrow
  have HGD := Lib.hid hgood
  by_cases hfull : pars = 200
  · have HRE : Hid (r = (0, 171, S)) := Lib.hid (by rw [hr]; unfold parS; rw [if_pos (by rw [← hpars]; exact hfull)])
    have hfi : (pars : Int) = 200 := by omega
    clear hpm hrow hgood hblk hnds hr hpars
    go_enter Tryz.func18, Tryz.ntmps18
    go_wp2_with (first | (go_at_call 37; refine HNO.out.mono ?_; rintro e w3 ⟨rfl, rfl⟩) | fail)
    go_ret2
    rw [HRE.out]
    exact ⟨rfl, Sparing.of_grow (Grow.refl _), P, fun _ h => h, fun _ h => .inl h, H.out⟩
  · have hfi : ¬ ((pars : Int) = 200) := by omega
    have hnp : ¬ (S.pars = 200) := by rw [← hpars]; exact hfull
    have hnd : NdIn P w (parNd S) (.slice none 0 0) (.slice none 0 0) := ⟨(by decide : (2 : Nat) < 256), (by unfold parNd bareNd; dsimp only; constructor <;> omega), i64_zero, RawIn.nil _ _, RawIn.nil _ _, Nat.zero_le _, Nat.zero_le _⟩
    have hkn : keyN (parNd S) = ⟨2, (S.pars : Int), 0, []⟩ := bare_key (by decide)
    have hky : KyOK (keyN (parNd S)) := by rw [hkn]; exact ⟨(show (2:Nat) < 256 by decide), by dsimp only; constructor <;> omega, i64_zero, Nat.zero_le _⟩
    have hidx := fun n => index_any (hrow.grow (Grow.drewN w n)) hgood (hnd.kept (fun _ _ => rfl)) hky (show (keyN (parNd S)).t = [] by rw [hkn])
    have hidx2 : ∀ n, Calls Tryz.prog 39 #[.pointer (some ⟨pr, 0, none⟩), .agg #[.int .u8 2, .int .i64 (pars : Int), .int .i64 0, .bool false, .slice none 0 0, .slice none 0 0], .string (mk [])] (w.drewN n) (RowPost P pr (w.drewN n) (putS S (parNd S))) := by
      rw [hpars]; exact hidx
    have HIDX := Lib.hid hidx2
    have HNP := Lib.hid hnp
    clear hpm hrow hgood hblk hnds hr hpars hnd hkn hky hidx hidx2 hnp
    go_enter Tryz.func18, Tryz.ntmps18
    go_wp2_with (first | (go_at_call 37; refine HNO.out.mono ?_; rintro e w3 ⟨rfl, rfl⟩) | fail)
    rename_i K0 hK0
    refine wp_region_walk (fun w' => w'.cell? ⟨pm, 0, none⟩ = some (.pointer (some ⟨pr, 0, none⟩)) ∧ w'.cell? ⟨pr, 1, none⟩ = some (.int .i64 (pars : Int)))
      [true, true, true, true, true, true, true, true, true, true, true, true, false, true, true, true, true, true] (by kernel_rfl) (by kernel_rfl) rfl (by kernel_rfl) (fun _ _ d _ _ h => by cases d <;> exact h) ?_
    have hS : w.drew.cell? ⟨pm, 0, none⟩ = some (.pointer (some ⟨pr, 0, none⟩)) ∧ w.drew.cell? ⟨pr, 1, none⟩ = some (.int .i64 (pars : Int)) := ⟨c0, c1⟩
    repeat (refine walkS_yes hS rfl (fun w' hw' => by obtain ⟨q0, q1⟩ := hw'; go_simp; rfl) ?_; simp only [Act.put, List.setIfInBounds_toArray, List.set_cons_zero, List.set_cons_succ])
    refine walkS_no rfl (fun K hK => ?_)
    go_simp
    refine (HIDX.out 1).mono ?_
    rintro e w4 ⟨rfl, hsp, P2, hP2a, hP2b, hrow4⟩
    have hpm4 := hsp.kinds _ _ _ (HPM.out.below (Grow.drew w) HPM.out.lt) (by decide) (by decide)
    have hrow4' := hrow4
    obtain ⟨mb4, vN4, _, _, hblk4, _⟩ := hrow4'
    rw [putS_pars, ← HPS.out] at hblk4
    have hS4 : w4.cell? ⟨pm, 0, none⟩ = some (.pointer (some ⟨pr, 0, none⟩)) ∧ w4.cell? ⟨pr, 1, none⟩ = some (.int .i64 (pars : Int)) := ⟨hpm4.at 0 rfl, hblk4.at 1 rfl⟩
    refine hK _ _ hS4 ?_
    clear hK K hS
    repeat (refine walkS_yes hS4 rfl (fun w' hw' => by obtain ⟨q0, q1⟩ := hw'; go_simp; rfl) ?_; simp only [Act.put, List.setIfInBounds_toArray, List.set_cons_zero, List.set_cons_succ])
    simp only [walkS]
    have hg1 : Grow w w.drew := Grow.drew w
    have hspw : Sparing P w w4 := (Sparing.of_grow (P := P) hg1).trans hsp (fun _ h => .inl h)
    have hPb : ∀ k, P2 k → P k ∨ w.heap.size ≤ k := fun k hk => (hP2b k hk).imp id (fun h => Nat.le_trans (Below.size hg1) h)
    have c0 := hpm4.at 0 rfl
    have c1 := hblk4.at 1 rfl
    have f1 := hblk4.free 1
    by_cases hf : S.l.length = S.budget
    · have hput : putS S (parNd S) = (0, 171, S) := by unfold putS; rw [par_new HGD.out]; exact if_pos hf
      have hre : r = (0, 171, S) := by rw [HR.out]; unfold parS; rw [if_neg HNP.out, if_pos hf]
      rw [hput] at hrow4 ⊢
      have HFIN : Hid (Sparing P w w4 ∧ ∃ P', (∀ k, P k → P' k) ∧ (∀ k, P' k → P k ∨ w.heap.size ≤ k) ∧ MkAt P' w4 (.pointer (some ⟨pm, 0, none⟩)) r.2.2) := Lib.hid (by
        refine ⟨hspw, P2, hP2a, hPb, pm, pr, rfl, hP2a _ hPm, hpm4, ?_, ?_⟩
        · rw [hre]; exact hrow4
        · rw [hre]; exact HGD.out)
      have HRE := Lib.hid hre
      clear hspw hPb hsp hrow4 hpm4 hblk4 hS4 hP2a hP2b hre hput hg1
      refine hK0 _ _ ?_
      go_wp2_with fail
      go_ret2
      exact ⟨by rw [HRE.out]; rfl, HFIN.out⟩
    · have hput : putS S (parNd S) = ((S.l.length : Int), 0, { S with l := S.l ++ [parNd S] }) := by unfold putS; rw [par_new HGD.out]; exact if_neg hf
      have hre : r = ((S.l.length : Int), 0, { S with pars := S.pars + 1, l := S.l ++ [parNd S] }) := by rw [HR.out]; unfold parS; rw [if_neg HNP.out, if_neg hf]
      have hgd : Good r.2.2 := by rw [HR.out]; exact parS_good HGD.out
      rw [hput] at hrow4 ⊢
      have hpar1 : ((pars : Int) + 1) = ((pars + 1 : Nat) : Int) := by omega
      have hrow5 := row_setpar hrow4 (pars + 1)
      have hsp5 := (set_sparing (i := 1) (x := .int .i64 ((pars + 1 : Nat) : Int)) hblk4 (hP2a _ (by obtain ⟨_, _, h, _⟩ := HROW.out; exact h)))
      have hpm5 := hsp5.kinds _ _ _ hpm4 (by decide) (by decide)
      have HFIN : Hid (∀ w5, w5 = w4.setCell ⟨pr, 1, none⟩ (.int .i64 ((pars : Int) + 1)) → Sparing P w w5 ∧ ∃ P', (∀ k, P k → P' k) ∧ (∀ k, P' k → P k ∨ w.heap.size ≤ k) ∧ MkAt P' w5 (.pointer (some ⟨pm, 0, none⟩)) r.2.2) := Lib.hid (by
        rintro w5 rfl
        rw [hpar1]
        refine ⟨hspw.trans hsp5 hPb, P2, hP2a, hPb, pm, pr, rfl, hP2a _ hPm, hpm5, ?_, hgd⟩
        rw [hre, ← HPS.out]; exact hrow5)
      have HRE := Lib.hid hre
      clear hspw hPb hsp hrow4 hpm4 hblk4 hS4 hP2a hP2b hre hput hg1 hrow5 hsp5 hpm5 hgd hpar1
      have hb1 : (pars : Int) + 1 < 9223372036854775808 := by omega
      refine hK0 _ _ ?_
      go_wp2_with fail
      go_ret2
      exact ⟨by rw [HRE.out]; rfl, HFIN.out _ rfl⟩
end Go.Proofs.YtofpcdjoljjnoaaGreatDoor


namespace Go.Proofs.YtofpcdjoljjnoaaGreatDoor
open Go.RowKit Go.Maps

theorem row_kept {B : Nat} {w w' : World} {v : Value} {L : List Nat} (h : NRow B w v L) (hg : Grow w w') : NRow B w' v L :=
  ownsRow_kept (P := fun g => v.ownBlock = some g) h (fun _ hg => hg) (fun g hb => hg.block g (ownsRow_own h hb).2.1)
theorem clone_raw {w : World} {v : Value} {L : List Nat} (h : Raw w v L) (hl : L.length ≤ 1099511627776) : Calls Tryz.prog 70 #[v] w (OwnRes L w) := by
  obtain ⟨a, cap, rfl, hc, hn, _, hat⟩ := h
  exact clone_any a cap L w hl hc hn hat
/-- A string's copy. -/
theorem strclone_any (l : List UInt8) (w : World) (hl : l.length ≤ 1099511627776) :
    Calls Tryz.prog 48 #[.string (mk l)] w fun e w' => e = .returned (.string (mk l)) ∧ Grow w w' := by
  have hsz : (mk l).size ≤ 281474976710656 := by rw [mk_size]; omega
  go_enter Tryz.func48, Tryz.ntmps48
  go_wp2_with (go_at_call 71; refine (Tryz.stringslite_Clone (mk l) _ hsz).mono ?_; rintro e w' ⟨rfl, hb⟩)
  go_ret
  exact ⟨rfl, hb⟩

/-- A number of the call's own. -/
def CopyPost (s : Bool) (m d : List Nat) (w : World) (e : Ending) (w' : World) : Prop :=
  ∃ x c y c', e = .returned (.agg #[.bool s, .slice x m.length c, .slice y d.length c']) ∧ NRow w.heap.size w' (.slice x m.length c) m ∧ NRow w.heap.size w' (.slice y d.length c') d ∧ Grow w w'

set_option maxRecDepth 100000 in
set_option maxHeartbeats 2000000 in
theorem copied_any {w : World} {s : Bool} {m d : List Nat} {vm vd : Value} (hm : Raw w vm m) (hd : Raw w vd d) (hml : m.length ≤ 2048) (hdl : d.length ≤ 2048) :
    Calls Tryz.prog 47 #[.agg #[.bool s, vm, vd]] w (CopyPost s m d w) := by
  have H := Lib.hid (And.intro hm hd)
  obtain ⟨a, ca, rfl, _, _, _, _⟩ := hm
  obtain ⟨b, cb, rfl, _, _, _, _⟩ := hd
  obtain ⟨z, hz⟩ : ∃ z, z = w.heap.size := ⟨_, rfl⟩
  obtain ⟨W1, hW1⟩ : ∃ W1, W1 = (w.alloc (.cells #[.bool s, .slice a m.length ca, .slice b d.length cb] 46)).alloc (.cells #[.bool false, .slice none 0 0, .slice none 0 0] 46) := ⟨_, rfl⟩
  have b0 : BlkOf W1 z #[.bool s, .slice a m.length ca, .slice b d.length cb] 46 := by rw [hW1, hz]; exact (BlkOf.new w _ _).alloc _
  have b1 : BlkOf W1 (z + 1) #[.bool false, .slice none 0 0, .slice none 0 0] 46 := by rw [hW1, hz]; exact BlkOf.news (by simp) _ _
  have hbw : Grow w W1 := by rw [hW1]; exact ((Below.refl _ w).alloc (Nat.le_refl _) _).alloc (by simp) _
  have hsz : W1.heap.size = z + 2 := by rw [hW1, hz]; simp
  have HC1 := Lib.hid (fun W (hW : Grow W1 W) => (clone_raw (H.out.1.grow (hbw.trans hW)) (by omega)).mono (fun e W' h => h.elim fun v h => (⟨v, h.1, h.2.1.more (Nat.le_trans (Nat.le_of_eq hsz.symm) hW.size), h.2.2⟩ : ∃ v, e = .returned v ∧ NRow (z + 2) W' v m ∧ Grow W W')))
  have HC2 := Lib.hid (fun W (hW : Grow W1 W) => (clone_raw (H.out.2.grow (hbw.trans hW)) (by omega)).mono (fun e W' h => h.elim fun v h => (⟨v, h.1, h.2.1.more (Nat.le_trans (Nat.le_of_eq hsz.symm) hW.size), h.2.2⟩ : ∃ v, e = .returned v ∧ NRow (z + 2) W' v d ∧ Grow W W')))
  have KC : Hid (∀ W, Grow W1 W → W.cell? ⟨z, 0, none⟩ = some (.bool s) ∧ W.cell? ⟨z, 1, none⟩ = some (.slice a m.length ca) ∧ W.cell? ⟨z, 2, none⟩ = some (.slice b d.length cb)) := Lib.hid fun W hW => by
    have q0 := b0.below hW b0.lt
    exact ⟨q0.at 0 rfl, q0.at 1 rfl, q0.at 2 rfl⟩
  have HB1 := Lib.hid b1
  have HBW := Lib.hid hbw
  have HSZ := Lib.hid hsz
  have HZ := Lib.hid hz
  have HW1 := Lib.hid hW1
  clear b0 b1 hbw hsz hz hW1
  go_enter Tryz.func47, Tryz.ntmps47
  go_wp2_with fail
  rw [← HW1.out, ← HZ.out]
  rename_i K0 hK0
  refine wp_region_list [fun v _ => v = .pointer (some ⟨z, 0, none⟩), fun v _ => v = .pointer (some ⟨z, 0, none⟩), fun v _ => v = .bool s,
      fun v _ => v = .pointer (some ⟨z, 0, none⟩), fun v _ => v = .pointer (some ⟨z, 1, none⟩), fun v _ => v = .slice a m.length ca, fun v W => NRow (z + 2) W v m,
      fun v W => ∃ x c, v = .agg #[.bool s, .slice x m.length c] ∧ NRow (z + 2) W (.slice x m.length c) m,
      fun v _ => v = .pointer (some ⟨z, 2, none⟩), fun v _ => v = .slice b d.length cb, fun v W => NRow (z + 2) W v d,
      fun v W => ∃ x c y e, v = .agg #[.bool s, .slice x m.length c, .slice y d.length e] ∧ NRow (z + 2) W (.slice x m.length c) m ∧ NRow (z + 2) W (.slice y d.length e) d]
    [(1, .pointer (some ⟨z, 0, none⟩)), (2, .pointer (some ⟨z + 1, 0, none⟩))] 12 (by kernel_rfl) ?stay rfl (by kernel_rfl) rfl ?base (by kernel_rfl) ⟨?_, ?_, ?_, ?_, ?_, ?_, ?_, ?_, ?_, ?_, ?_, ?_, trivial⟩ ?last
  case stay =>
    refine ⟨stays_pure _, stays_pure _, stays_pure _, stays_pure _, stays_pure _, stays_pure _, ?_, ?_, stays_pure _, stays_pure _, ?_, ?_, trivial⟩
    · exact fun v W W' hg h => row_kept h hg
    · exact fun v W W' hg ⟨x, c, h1, h2⟩ => ⟨x, c, h1, row_kept h2 hg⟩
    · exact fun v W W' hg h => row_kept h hg
    · exact fun v W W' hg ⟨x, c, y, e, h1, h2, h3⟩ => ⟨x, c, y, e, h1, row_kept h2 hg, row_kept h3 hg⟩
  case base => simp
  case last =>
    intro vs W hW hv
    simp only [FactsL, Nat.zero_add, Nat.reduceAdd] at hv
    obtain ⟨v0, v1, v2, v3, v4, v5, v6, v7, v8, v9, v10, ⟨x, c, y, e, v11, hx, hy⟩, _⟩ := hv
    have q2 := HB1.out.below hW HB1.out.lt
    refine ⟨rfl, ?_⟩
    simp only [List.take_succ_cons, List.take_zero, putF, Act.put, List.setIfInBounds_toArray, List.set_cons_zero, List.set_cons_succ, Nat.reduceAdd, v11]
    unfold Oper.wp
    have c20 : W.cell? ⟨z + 1, 0, none⟩ = some (.bool false) := q2.at 0 rfl
    have c21 : W.cell? ⟨z + 1, 1, none⟩ = some (.slice none 0 0) := q2.at 1 rfl
    have c22 : W.cell? ⟨z + 1, 2, none⟩ = some (.slice none 0 0) := q2.at 2 rfl
    have d20 : W.frozen? ⟨z + 1, 0, none⟩ = false := q2.free 0
    have d21 : W.frozen? ⟨z + 1, 1, none⟩ = false := q2.free 1
    have d22 : W.frozen? ⟨z + 1, 2, none⟩ = false := q2.free 2
    simp [execOp, go_sem, c20, c21, c22, d20, d21, d22]
    refine hK0 _ _ ?_
    have q3 := ((q2.set 0 (.bool s)).set 1 (.slice x m.length c)).set 2 (.slice y d.length e)
    have hbW : Grow w W := HBW.out.trans hW
    have hzw := HZ.out
    have hbF : Grow w (((W.setCell ⟨z + 1, 0, none⟩ (.bool s)).setCell ⟨z + 1, 1, none⟩ (.slice x m.length c)).setCell ⟨z + 1, 2, none⟩ (.slice y d.length e)) :=
      ((Below.setCell hbW (p := ⟨z + 1, 0, none⟩) (by show w.heap.size ≤ z + 1; omega) _).setCell (p := ⟨z + 1, 1, none⟩) (by show w.heap.size ≤ z + 1; omega) _).setCell (p := ⟨z + 1, 2, none⟩) (by show w.heap.size ≤ z + 1; omega) _
    have Q3 := Lib.hid q3
    have HBF := Lib.hid hbF
    go_wp2_with fail
    refine post_cell rfl (g := z + 1) rfl Q3.out Tryz.underlying46 rfl (by kernel_rfl) ?_
    unfold CopyPost
    refine ⟨_, _, _, _, rfl, ?_, ?_, HBF.out⟩
    · have h1 := ownsRow_setCell_below (a := ⟨z + 1, 2, none⟩) (ownsRow_setCell_below (a := ⟨z + 1, 1, none⟩) (ownsRow_setCell_below (a := ⟨z + 1, 0, none⟩) hx (by show z + 1 < _; omega) (.bool s)) (by show z + 1 < _; omega) (.slice x m.length c)) (by show z + 1 < _; omega) (.slice y d.length e)
      exact NRow.more h1 (by omega)
    · have h1 := ownsRow_setCell_below (a := ⟨z + 1, 2, none⟩) (ownsRow_setCell_below (a := ⟨z + 1, 1, none⟩) (ownsRow_setCell_below (a := ⟨z + 1, 0, none⟩) hy (by show z + 1 < _; omega) (.bool s)) (by show z + 1 < _; omega) (.slice x m.length c)) (by show z + 1 < _; omega) (.slice y d.length e)
      exact NRow.more h1 (by omega)
  all_goals
    intro a' W hW hb hf
    obtain ⟨q0, q1, q2⟩ := KC.out W hW
    simp only [List.forall_mem_cons, List.not_mem_nil, false_imp_iff, implies_true, and_true] at hb
    obtain ⟨e1, e2⟩ := hb
    simp [FactsOf, FactAt, Region.binds, factsL] at hf
    refine ⟨rfl, fun K hK => ?_⟩
    unfold Oper.wp
  · simp [execOp, go_sem, *]
    exact hK _ _ (Grow.refl _) rfl
  · simp [execOp, go_sem, *]
    exact hK _ _ (Grow.refl _) rfl
  · simp [execOp, go_sem, *]
    exact hK _ _ (Grow.refl _) rfl
  · simp [execOp, go_sem, *]
    exact hK _ _ (Grow.refl _) rfl
  · simp [execOp, go_sem, *]
    exact hK _ _ (Grow.refl _) rfl
  · simp [execOp, go_sem, *]
    exact hK _ _ (Grow.refl _) rfl
  · simp [go_sem, *]
    refine (HC1.out W hW).mono ?_
    rintro e W' ⟨v, rfl, hr, hg⟩
    exact hK _ _ hg hr
  · have f5 := hf.1
    have f9 := hf.2
    obtain ⟨x, c, ex, _⟩ := f9.at_
    rw [ex] at f9
    clear hf
    simp [execOp, go_sem, f5, ex]
    exact hK _ _ (Grow.refl _) ⟨x, c, rfl, f9⟩
  · simp [execOp, go_sem, *]
    exact hK _ _ (Grow.refl _) rfl
  · simp [execOp, go_sem, *]
    exact hK _ _ (Grow.refl _) rfl
  · simp [go_sem, *]
    refine (HC2.out W hW).mono ?_
    rintro e W' ⟨v, rfl, hr, hg⟩
    exact hK _ _ hg hr
  · obtain ⟨x, c, ex, hx⟩ := hf.1
    have f9 := hf.2
    obtain ⟨y, c', ey, _⟩ := f9.at_
    rw [ey] at f9
    clear hf
    simp [execOp, go_sem, ex, ey]
    exact hK _ _ (Grow.refl _) ⟨x, c, y, c', rfl, hx, f9⟩
end Go.Proofs.YtofpcdjoljjnoaaGreatDoor

namespace Go.Proofs.YtofpcdjoljjnoaaGreatDoor
open Go.RowKit Go.Maps

/-- The blocks of these types are as they were. -/
def Kin (ts : List TypeId) (w w' : World) : Prop := ∀ b cs t, BlkOf w b cs t → t ∈ ts → BlkOf w' b cs t
section
variable {ts : List TypeId} {a b c : World}
theorem Kin.trans (h : Kin ts a b) (k : Kin ts b c) : Kin ts a c := fun i cs t hb ht => k i cs t (h i cs t hb ht) ht
theorem Kin.of_grow (h : Grow a b) : Kin ts a b := fun _ _ _ hb _ => hb.below h hb.lt
theorem Kin.set {p i : Nat} {cs : Array Value} {t : TypeId} (hb : BlkOf a p cs t) (ht : t ∉ ts) (x : Value) : Kin ts a (a.setCell ⟨p, i, none⟩ x) := fun k cs' t' hk ht' => by
  refine (Below.heap_setCell _ _ _ _ (fun e => ?_)).trans hk
  have e2 : k = p := e
  unfold BlkOf at hb hk
  rw [e2, hb] at hk
  injection hk with hk
  injection hk with _ hT
  exact ht (by rw [hT]; exact ht')
theorem Kin.grown {row : Option Nat} (h : a.grownBy b row) (hr : ∀ g, row = some g → ∃ cs t, BlkOf a g cs t ∧ t ∉ ts) : Kin ts a b := fun k cs' t' hk ht' => by
  refine (h.block k hk.lt (fun e => ?_)).trans hk
  obtain ⟨cs, t, hb, ht⟩ := hr k e.symm
  unfold BlkOf at hb hk
  rw [hb] at hk
  injection hk with hk
  injection hk with _ hT
  exact ht (by rw [hT]; exact ht')
theorem ownsRow_kin {w w' : World} {B e K : Nat} {v : Value} {n : Nat} {xs : List Value} (h : w.ownsRow B e K v n xs) (hk : Kin ts w w') (he : e ∈ ts) : w'.ownsRow B e K v n xs := by
  refine ownsRow_kept (P := fun g => v.ownBlock = some g) h (fun _ hg => hg) (fun g hg => ?_)
  obtain ⟨_, _, cur, hc⟩ := ownsRow_own h hg
  exact (hk g cur e hc he).trans hc.symm
theorem RawIn.kin {Q Q' : Nat → Prop} {w w' : World} {v : Value} {L : List Nat} (h : RawIn Q w v L) (hk : Kin ts w w') (ht : 100 ∈ ts) (hq : ∀ k, Q k → Q' k) : RawIn Q' w' v L :=
  ⟨ownsRow_kin h.1 hk ht, h.2.1, fun g hg => hq g (h.2.2 g hg)⟩
theorem NdIn.kin {Q Q' : Nat → Prop} {w w' : World} {x : Nd} {vn vd : Value} (h : NdIn Q w x vn vd) (hk : Kin ts w w') (ht : 100 ∈ ts) (hq : ∀ k, Q k → Q' k) : NdIn Q' w' x vn vd :=
  ⟨h.1, h.2.1, h.2.2.1, h.2.2.2.1.kin hk ht hq, h.2.2.2.2.1.kin hk ht hq, h.2.2.2.2.2⟩
theorem NdsIn.kin {Q Q' : Nat → Prop} {w w' : World} {v : Value} {L : List Nd} (h : NdsIn Q w v L) (hk : Kin ts w w') (ht : 100 ∈ ts) (hn : 71 ∈ ts) (hq : ∀ k, Q k → Q' k) : NdsIn Q' w' v L := by
  obtain ⟨vs, h1, h2, h3, h4⟩ := h
  exact ⟨vs, h1, ownsRow_kin h2 hk hn, fun g hg => hq g (h3 g hg), fun i x p hx hp => (h4 i x p hx hp).kin hk ht hq⟩
end

/-- The cells of a row of tells. -/
def tlCells : List (List UInt8 × Int) → List Value
  | [] => []
  | x :: T => [.string (mk x.1), .int .i64 x.2] ++ tlCells T
theorem tlCells_length : ∀ T, (tlCells T).length = T.length * 2
  | [] => rfl
  | x :: T => by rw [tlCells, List.length_append, tlCells_length T]; simp; omega
theorem tlCells_snoc : ∀ T x, tlCells (T ++ [x]) = tlCells T ++ [.string (mk x.1), .int .i64 x.2]
  | [], x => by simp [tlCells]
  | y :: T, x => by rw [List.cons_append, tlCells, tlCells_snoc T, tlCells, List.append_assoc]
theorem tlCells_get : ∀ {T : List (List UInt8 × Int)} {i : Nat} {x : List UInt8 × Int}, T[i]? = some x → (tlCells T)[i * 2]? = some (.string (mk x.1)) ∧ (tlCells T)[i * 2 + 1]? = some (.int .i64 x.2)
  | [], _, _, h => by simp at h
  | y :: T, 0, x, h => by
    simp at h
    subst h
    simp [tlCells]
  | y :: T, i + 1, x, h => by
    have := tlCells_get (T := T) (i := i) (x := x) (by simpa using h)
    rw [tlCells, show (i + 1) * 2 = i * 2 + 2 by omega]
    simpa using this
/-- A row of tells among Q. -/
def TlsIn (Q : Nat → Prop) (w : World) (v : Value) (T : List (List UInt8 × Int)) : Prop := w.ownsRow 0 63 2 v T.length (tlCells T) ∧ OwnIn Q v ∧ ∀ x ∈ T, I64 x.2
theorem TlsIn.nil (Q : Nat → Prop) (w : World) : TlsIn Q w (.slice none 0 0) [] := ⟨World.ownsRow_nil w 0 _ 2, fun _ h => (by cases h), fun _ h => by cases h⟩
theorem TlsIn.form {Q : Nat → Prop} {w : World} {v : Value} {T : List (List UInt8 × Int)} (h : TlsIn Q w v T) : ∃ A cap, v = .slice A T.length cap ∧ TlsAt w A T := by
  obtain ⟨h2, _, h4⟩ := h
  rcases h2.2 with ⟨e, he⟩ | ⟨g, cap, cur, e, _, hg, hn, hm, hs, htk⟩
  · have : T = [] := List.eq_nil_of_length_eq_zero he
    subst this
    exact ⟨none, 0, e, fun i x hx => by simp at hx⟩
  · refine ⟨some ⟨g, 0, none⟩, cap, e, fun i x hx => ?_⟩
    have hi := (List.getElem?_eq_some_iff.1 hx).1
    have h5 := tlCells_get hx
    rw [← htk] at h5
    refine ⟨h4 x (List.mem_of_getElem? hx), g, 0, rfl, ?_, ?_⟩
    · have := h5.1
      rw [List.getElem?_take, if_pos (by omega)] at this
      rw [cell_of_row w g (0 + i * 2) cur _ (0, 0) hg, Nat.zero_add]
      simpa using this
    · have := h5.2
      rw [List.getElem?_take, if_pos (by omega)] at this
      rw [cell_of_row w g (0 + i * 2 + 1) cur _ (0, 0) hg, Nat.zero_add]
      simpa using this
end Go.Proofs.YtofpcdjoljjnoaaGreatDoor

namespace Go.Proofs.YtofpcdjoljjnoaaGreatDoor
open Go.RowKit Go.Maps

set_option maxRecDepth 100000 in
set_option maxHeartbeats 4000000 in
theorem tape_none {w : World} {m : Value} {out : Int} {v : Value} (h : NoMk w m) :
    Calls Tryz.prog 24 #[m, .int .i64 out, v] w (Just (.tuple #[.agg #[.int .i64 0, .int .i64 0, .slice none 0 0, .slice none 0 0], .int .i64 1]) w) := by
  obtain ⟨W1, hW1⟩ : ∃ W1, W1 = w.alloc (.cells #[.int .i64 0, .int .i64 0, .slice none 0 0, .slice none 0 0] 25) := ⟨_, rfl⟩
  have b0 : BlkOf W1 w.heap.size #[.int .i64 0, .int .i64 0, .slice none 0 0, .slice none 0 0] 25 := by rw [hW1]; exact BlkOf.new w _ _
  have hbw : Grow w W1 := by rw [hW1]; exact Grow.alloc w _
  have HN := Lib.hid (isnone_none (h.grow hbw))
  have HB := Lib.hid b0
  have HBW := Lib.hid hbw
  have c0 := b0.at 0 rfl
  have c1 := b0.at 1 rfl
  have c2 := b0.at 2 rfl
  have c3 := b0.at 3 rfl
  have f0 := b0.free
  subst hW1
  clear h b0 hbw
  go_enter Tryz.func24, Tryz.ntmps24
  go_wp2_with (first | (go_at_call 37; refine HN.out.mono ?_; rintro e w3 ⟨rfl, rfl⟩) | fail)
  refine post_cell_tmp rfl (g := w.heap.size) rfl HB.out Tryz.underlying25 rfl (by kernel_rfl) ?_
  exact ⟨rfl, HBW.out⟩
end Go.Proofs.YtofpcdjoljjnoaaGreatDoor
