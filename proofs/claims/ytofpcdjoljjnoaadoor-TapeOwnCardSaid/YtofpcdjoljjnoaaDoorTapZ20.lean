/-
  The texts TapValid, TapOf, TapText, TapMk, one behind the other.
-/
import Derived.Test.YtofpcdjoljjnoaaDoorTapZ19
import Derived.Test.YtofpcdjoljjnoaaDoorTapZ18
import Derived.Maps.AppendAt

namespace Go.Proofs.YtofpcdjoljjnoaaDoor
open Go.RowKit

/-- A step's cells. -/
def ndCells (x : Nd) (vn vd : Value) : List Value := [.int .u8 (x.op : Int), .int .i64 x.a, .int .i64 x.b, .bool x.c.s, vn, vd]
/-- A row of steps that may be read. -/
def NdsAt (K : Nat) (w : World) (A : Option Addr) (L : List Nd) : Prop :=
  ∀ i x, L[i]? = some x → ∃ b off vn vd, A = some ⟨b, off, none⟩ ∧ (∀ j v, (ndCells x vn vd)[j]? = some v → w.cell? ⟨b, off + i * 6 + j, none⟩ = some v) ∧ NdOK K w x vn vd
/-- A row of tells that may be read. -/
def TlsAt (w : World) (A : Option Addr) (T : List (List UInt8 × Int)) : Prop :=
  ∀ i x, T[i]? = some x → I64 x.2 ∧ ∃ b off, A = some ⟨b, off, none⟩ ∧ w.cell? ⟨b, off + i * 2, none⟩ = some (.string (mk x.1)) ∧ w.cell? ⟨b, off + i * 2 + 1, none⟩ = some (.int .i64 x.2)
theorem NdsAt.grow {K : Nat} {w w' : World} {A : Option Addr} {L : List Nd} (h : NdsAt K w A L) (hg : Grow w w') : NdsAt K w' A L := fun i x hx => by
  obtain ⟨b, off, vn, vd, h1, h2, h3, h4, h5, h6⟩ := h i x hx
  refine ⟨b, off, vn, vd, h1, fun j v hv => ?_, h3, h4, h5, h6.grow hg⟩
  have hb := World.block_lt_of_cell? w _ (h2 0 _ rfl)
  exact (hg.cell (p := ⟨b, off + i * 6 + j, none⟩) hb).trans (h2 j v hv)
theorem TlsAt.grow {w w' : World} {A : Option Addr} {T : List (List UInt8 × Int)} (h : TlsAt w A T) (hg : Grow w w') : TlsAt w' A T := fun i x hx => by
  obtain ⟨h0, b, off, h1, h2, h3⟩ := h i x hx
  have hb := World.block_lt_of_cell? w _ h2
  exact ⟨h0, b, off, h1, (hg.cell (p := ⟨b, off + i * 2, none⟩) hb).trans h2, (hg.cell (p := ⟨b, off + i * 2 + 1, none⟩) hb).trans h3⟩

/-- Are the first of them valid, each behind the elder ones? -/
def stepsB (pars : Int) : Nat → List Nd → Bool
  | _, [] => true
  | k, x :: l => stepB x (k : Int) pars && stepsB pars (k + 1) l
theorem stepsB_take {pars : Int} : ∀ {L : List Nd} {k i : Nat} {x : Nd}, L[i]? = some x → stepsB pars k (L.take (i + 1)) = (stepsB pars k (L.take i) && stepB x ((k + i : Nat) : Int) pars)
  | [], _, _, _, h => by simp at h
  | y :: L, k, 0, x, h => by
    simp at h
    subst h
    simp [stepsB]
  | y :: L, k, i + 1, x, h => by
    have := stepsB_take (pars := pars) (k := k + 1) (L := L) (i := i) (x := x) (by simpa using h)
    simp only [List.take_succ_cons, stepsB, this, Bool.and_assoc, show k + 1 + i = k + (i + 1) by omega]
theorem stepsB_false {pars : Int} : ∀ {L : List Nd} {k i : Nat}, stepsB pars k (L.take i) = false → stepsB pars k L = false
  | [], _, _, h => by simpa using h
  | y :: L, k, 0, h => by simp [stepsB] at h
  | y :: L, k, i + 1, h => by
    simp only [List.take_succ_cons, stepsB] at h ⊢
    rcases Bool.and_eq_false_iff.1 h with h | h
    · rw [h]; rfl
    · rw [stepsB_false h, Bool.and_false]

def AreRel (pars : Int) (L : List Nd) (w : World) (i : Value) (wr : World) : Prop := ∃ k : Nat, k ≤ L.length ∧ i = .int .i64 (k : Int) ∧ stepsB pars 0 (L.take k) = true ∧ Below w.heap.size w wr

set_option maxHeartbeats 2000000 in
theorem aresteps_any {K : Nat} {w : World} (A : Option Addr) (cap : Nat) (L : List Nd) (pars : Int) (hl : L.length ≤ 1099511627776) (h : NdsAt K w A L) (hK : K ≤ 137438953472) (hp : I64 pars) (ht : Tab w) :
    Calls Tryd.prog 49 #[.slice A L.length cap, .int .i64 pars] w (Just (.bool (decide (L.length ≤ 20000) && stepsB pars 0 L)) w) := by
  obtain ⟨N, hN⟩ : ∃ N, N = L.length := ⟨_, rfl⟩
  have HN := Lib.hid hN
  have H := Lib.hid h
  have HT := Lib.hid ht
  have HP := Lib.hid hp
  rw [← hN] at hl ⊢
  clear h ht hp hN
  by_cases hbig : N ≤ 20000
  · have hbi : ¬ ((20000 : Int) < (N : Int)) := by omega
    rw [decide_eq_true hbig, Bool.true_and]
    go_enter Tryd.func49, Tryd.ntmps49
    go_wp2_with fail
    go_loopw [12] (fun i wr => AreRel pars L w i wr) (fun i _ => N - (intOf i).toNat)
    case atStart => exact ⟨0, by omega, rfl, rfl, Below.refl _ _⟩
    case round =>
      obtain ⟨k, hk, rfl, hv, hb⟩ := hrel
      have HB := Lib.hid hb
      have HV := Lib.hid hv
      have hkN : k ≤ N := by rw [HN.out]; exact hk
      clear hk hv hb
      by_cases hlt : k < N
      · obtain ⟨x, hx⟩ : ∃ x, L[k]? = some x := ⟨_, List.getElem?_eq_getElem (by have := HN.out; omega)⟩
        have HX := Lib.hid hx
        obtain ⟨b, off, vn, vd, rfl, hc, hok⟩ := H.out.grow HB.out k x hx
        have c0 := hc 0 _ rfl
        have c1 := hc 1 _ rfl
        have c2 := hc 2 _ rfl
        have c3 := hc 3 _ rfl
        have c4 := hc 4 _ rfl
        have c5 := hc 5 _ rfl
        rw [Nat.add_zero] at c0
        have hltI : (k : Int) < (N : Int) := by omega
        have hgrow : Grow wr (wr.alloc (.cells #[.int .u8 (x.op : Int), .int .i64 x.a, .int .i64 x.b, .bool x.c.s, vn, vd] 56)) := Grow.alloc _ _
        have hok2 : NdOK K (wr.alloc (.cells #[.int .u8 (x.op : Int), .int .i64 x.a, .int .i64 x.b, .bool x.c.s, vn, vd] 56)) x vn vd := ⟨hok.1, hok.2.1, hok.2.2.1, hok.2.2.2.grow hgrow⟩
        have hcall := isstep_any (steps := (k : Int)) (pars := pars) hok2 hK (by constructor <;> omega) HP.out ((HT.out.grow HB.out).grow hgrow)
        unfold ndV at hcall
        obtain ⟨r, hr⟩ : ∃ r, r = stepB x (k : Int) pars := ⟨_, rfl⟩
        rw [← hr] at hcall
        have HC := Lib.hid hcall
        have HG := Lib.hid (Grow.trans HB.out hgrow)
        have HST := Lib.hid (stepsB_take (pars := pars) (k := 0) hx)
        have HR := Lib.hid hr
        obtain ⟨⟨na, ca, rfl, _, _, _, _⟩, ⟨nd, cd, rfl, _, _, _, _⟩, _⟩ := hok.2.2.2
        clear hc hok hok2 hcall hgrow hr hx
        cases r with
        | true =>
          have HT1 : Hid (stepsB pars 0 (L.take (k + 1)) = true) := Lib.hid (by rw [HST.out, HV.out, Nat.zero_add, ← HR.out]; rfl)
          go_wp2_with (first | (go_at_call 45; refine HC.out.mono ?_; rintro e w3 ⟨rfl, hb3⟩; have HG3 := Lib.hid (HG.out.trans hb3); clear hb3) | fail)
          go_roundw
          case rel => exact ⟨k + 1, by have := HN.out; omega, by go_num, HT1.out, HG3.out⟩
          case measure => simp [intOf]; omega
        | false =>
          have HF : Hid (stepsB pars 0 L = false) := Lib.hid (stepsB_false (i := k + 1) (by rw [HST.out, Nat.zero_add, ← HR.out, Bool.and_false]))
          go_wp2_with (first | (go_at_call 45; refine HC.out.mono ?_; rintro e w3 ⟨rfl, hb3⟩; have HG3 := Lib.hid (HG.out.trans hb3); clear hb3) | fail)
          go_ret
          exact ⟨by rw [HF.out]; rfl, HG3.out⟩
      · obtain rfl : k = N := by omega
        have HE : Hid (stepsB pars 0 L = true) := Lib.hid (by
          have h1 := HV.out
          rw [List.take_of_length_le (by have := HN.out; omega)] at h1
          exact h1)
        go_wp2_with fail
        go_ret
        exact ⟨by rw [HE.out]; rfl, HB.out⟩
  · have hbi : (20000 : Int) < (N : Int) := by omega
    rw [decide_eq_false hbig, Bool.false_and]
    go_enter Tryd.func49, Tryd.ntmps49
    go_wp2_with fail
    go_ret
    exact ⟨rfl, Below.refl _ _⟩

/-- Are all tells among so many steps? -/
def tellsB (steps : Int) (T : List (List UInt8 × Int)) : Bool := T.all fun x => decide (0 ≤ x.2) && decide (x.2 < steps)
theorem tellsB_take {steps : Int} : ∀ {T : List (List UInt8 × Int)} {i : Nat} {x : List UInt8 × Int}, T[i]? = some x → tellsB steps (T.take (i + 1)) = (tellsB steps (T.take i) && (decide (0 ≤ x.2) && decide (x.2 < steps)))
  | [], _, _, h => by simp at h
  | y :: T, 0, x, h => by
    simp at h
    subst h
    simp [tellsB]
  | y :: T, i + 1, x, h => by
    have := tellsB_take (steps := steps) (T := T) (i := i) (x := x) (by simpa using h)
    simp only [tellsB, List.take_succ_cons, List.all_cons] at this ⊢
    rw [this]; simp [Bool.and_assoc]
theorem tellsB_false {steps : Int} {T : List (List UInt8 × Int)} {i : Nat} (h : tellsB steps (T.take i) = false) : tellsB steps T = false := by
  unfold tellsB at h ⊢
  rw [List.all_eq_false] at h ⊢
  obtain ⟨x, hx, hf⟩ := h
  exact ⟨x, List.mem_of_mem_take hx, hf⟩

def ExRel (steps : Int) (T : List (List UInt8 × Int)) (w : World) (i : Value) (wr : World) : Prop := ∃ k : Nat, k ≤ T.length ∧ i = .int .i64 (k : Int) ∧ tellsB steps (T.take k) = true ∧ Below w.heap.size w wr

set_option maxHeartbeats 2000000 in
theorem exist_any {w : World} (A : Option Addr) (cap : Nat) (T : List (List UInt8 × Int)) (steps out : Int) (hl : T.length ≤ 1099511627776) (h : TlsAt w A T) (hs : I64 steps) (ho : I64 out) :
    Calls Tryd.prog 26 #[.int .i64 steps, .int .i64 out, .slice A T.length cap] w (Just (.bool (tellsB steps T && (decide (0 ≤ out) && decide (out < steps)))) w) := by
  obtain ⟨N, hN⟩ : ∃ N, N = T.length := ⟨_, rfl⟩
  have HN := Lib.hid hN
  have H := Lib.hid h
  have HI := Lib.hid (And.intro hs ho)
  rw [← hN] at hl ⊢
  clear h hs ho hN
  obtain ⟨r, hr⟩ : ∃ r, r = (tellsB steps T && (decide (0 ≤ out) && decide (out < steps))) := ⟨_, rfl⟩
  have HR := Lib.hid hr
  rw [← hr]
  clear hr
  go_enter Tryd.func26, Tryd.ntmps26
  go_wp2_with fail
  go_loopw [11] (fun i wr => ExRel steps T w i wr) (fun i _ => N - (intOf i).toNat)
  case atStart => exact ⟨0, by omega, rfl, rfl, Below.refl _ _⟩
  case round =>
    obtain ⟨k, hk, rfl, hv, hb⟩ := hrel
    have HB := Lib.hid hb
    have HV := Lib.hid hv
    have hkN : k ≤ N := by rw [HN.out]; exact hk
    clear hk hv hb
    by_cases hlt : k < N
    · obtain ⟨x, hx⟩ : ∃ x, T[k]? = some x := ⟨_, List.getElem?_eq_getElem (by have := HN.out; omega)⟩
      obtain ⟨hx2, b, off, rfl, c0, c1⟩ := H.out.grow HB.out k x hx
      have HX2 := Lib.hid hx2
      have hltI : (k : Int) < (N : Int) := by omega
      obtain ⟨p, hp⟩ : ∃ p, p = (decide (0 ≤ x.2) && decide (x.2 < steps)) := ⟨_, rfl⟩
      have hcall := fun W => isindex_any x.2 steps W HX2.out HI.out.1
      rw [← hp] at hcall
      have HC := Lib.hid hcall
      have HST := Lib.hid (tellsB_take (steps := steps) hx)
      have HP := Lib.hid hp
      have HG := Lib.hid (fun o => (Grow.trans HB.out (Grow.alloc wr o) : Grow w (wr.alloc o)))
      clear hcall hp hx hx2
      cases p with
      | true =>
        have HT1 : Hid (tellsB steps (T.take (k + 1)) = true) := Lib.hid (by rw [HST.out, HV.out, ← HP.out]; rfl)
        go_wp2_with (first | (go_at_call 46; refine (HC.out _).mono ?_; rintro e w3 ⟨rfl, rfl⟩) | fail)
        go_roundw
        case rel => exact ⟨k + 1, by have := HN.out; omega, by go_num, HT1.out, HG.out _⟩
        case measure => simp [intOf]; omega
      | false =>
        have HF : Hid (r = false) := Lib.hid (by rw [HR.out, tellsB_false (i := k + 1) (by rw [HST.out, ← HP.out, Bool.and_false]), Bool.false_and])
        go_wp2_with (first | (go_at_call 46; refine (HC.out _).mono ?_; rintro e w3 ⟨rfl, rfl⟩) | fail)
        go_ret
        exact ⟨by rw [HF.out]; rfl, HG.out _⟩
    · obtain rfl : k = N := by omega
      have HE : Hid (r = (decide (0 ≤ out) && decide (out < steps))) := Lib.hid (by
        have h1 := HV.out
        rw [List.take_of_length_le (by have := HN.out; omega)] at h1
        rw [HR.out, h1, Bool.true_and])
      have hcall := fun W => isindex_any out steps W HI.out.2 HI.out.1
      rw [← HE.out] at hcall
      have HC := Lib.hid hcall
      clear hcall
      go_wp2_with (first | (go_at_call 46; refine (HC.out _).mono ?_; rintro e w3 ⟨rfl, rfl⟩) | fail)
      go_ret
      exact ⟨rfl, HB.out⟩

/-- A tape. -/
structure Tp where
  pars : Int
  out : Int
  nodes : List Nd
  tells : List (List UInt8 × Int)
/-- A tape as a value. -/
def tpV (t : Tp) (vn vt : Value) : Value := .agg #[.int .i64 t.pars, .int .i64 t.out, vn, vt]
/-- A tape that may be read. -/
def TpAt (K : Nat) (w : World) (t : Tp) (vn vt : Value) : Prop :=
  I64 t.pars ∧ I64 t.out ∧ t.nodes.length ≤ 1099511627776 ∧ t.tells.length ≤ 1099511627776 ∧ ∃ A ca B cb, vn = .slice A t.nodes.length ca ∧ vt = .slice B t.tells.length cb ∧ NdsAt K w A t.nodes ∧ TlsAt w B t.tells
theorem TpAt.grow {K : Nat} {w w' : World} {t : Tp} {vn vt : Value} (h : TpAt K w t vn vt) (hg : Grow w w') : TpAt K w' t vn vt := by
  obtain ⟨h1, h2, h3, h4, A, ca, B, cb, h5, h6, h7, h8⟩ := h
  exact ⟨h1, h2, h3, h4, A, ca, B, cb, h5, h6, h7.grow hg, h8.grow hg⟩
/-- Is a tape valid? -/
def validB (t : Tp) : Bool := (((decide (0 ≤ t.pars) && decide (t.pars ≤ 200)) && (decide (t.nodes.length ≤ 20000) && stepsB t.pars 0 t.nodes)) && (tellsB (t.nodes.length : Int) t.tells && (decide (0 ≤ t.out) && decide (t.out < (t.nodes.length : Int)))))

set_option maxRecDepth 100000 in
set_option maxHeartbeats 2000000 in
theorem isvalid_any {K : Nat} {w : World} {t : Tp} {vn vt : Value} (h : TpAt K w t vn vt) (hK : K ≤ 137438953472) (ht : Tab w) :
    Calls Tryd.prog 29 #[tpV t vn vt] w (Just (.bool (validB t)) w) := by
  obtain ⟨hp, ho, hnl, htl, A, ca, B, cb, rfl, rfl, hn, htt⟩ := h
  obtain ⟨pars, out, L, T⟩ := t
  unfold tpV
  dsimp only at *
  obtain ⟨W1, hW1⟩ : ∃ W1, W1 = w.alloc (.cells #[.int .i64 pars, .int .i64 out, .slice A L.length ca, .slice B T.length cb] 46) := ⟨_, rfl⟩
  have b0 : BlkOf W1 w.heap.size #[.int .i64 pars, .int .i64 out, .slice A L.length ca, .slice B T.length cb] 46 := by rw [hW1]; exact BlkOf.new w _ _
  have hbw : Grow w W1 := by rw [hW1]; exact Grow.alloc w _
  have hA := aresteps_any A ca L pars hnl (hn.grow hbw) hK hp (ht.grow hbw)
  have hE := fun W (hW : Grow w W) => exist_any (w := W) B cb T (L.length : Int) out htl (htt.grow hW) (by constructor <;> omega) ho
  obtain ⟨r, hr⟩ : ∃ r, r = validB ⟨pars, out, L, T⟩ := ⟨_, rfl⟩
  rw [← hr]
  unfold validB at hr
  dsimp only at hr
  obtain ⟨p, hp'⟩ : ∃ p, p = (decide (L.length ≤ 20000) && stepsB pars 0 L) := ⟨_, rfl⟩
  obtain ⟨q, hq'⟩ : ∃ q, q = (tellsB (L.length : Int) T && (decide (0 ≤ out) && decide (out < (L.length : Int)))) := ⟨_, rfl⟩
  rw [← hp'] at hA hr
  rw [← hq'] at hE hr
  have HA := Lib.hid hA
  have HE := Lib.hid hE
  have HR := Lib.hid hr
  have HB := Lib.hid b0
  have HBW := Lib.hid hbw
  obtain ⟨N, hN⟩ : ∃ N, N = L.length := ⟨_, rfl⟩
  have hNI : (N : Int) ≤ 1099511627776 := by omega
  rw [← hN] at HA HE HB hW1 ⊢
  have HA := Lib.hid HA.out
  have HE := Lib.hid HE.out
  have HB := Lib.hid HB.out
  subst hW1
  clear hA hE hr hp' hq' b0 hbw hn htt hN
  have hcase : (0 ≤ pars ∧ pars ≤ 200) ∨ (0 ≤ pars ∧ ¬ pars ≤ 200) ∨ ¬ 0 ≤ pars := by omega
  obtain ⟨hp1, hp2⟩ := hp
  rcases hcase with ⟨h1, h2⟩ | ⟨h1, h2⟩ | h1
  · have HRR : Hid (r = (p && q)) := Lib.hid (by rw [HR.out, decide_eq_true h1, decide_eq_true h2]; rfl)
    have d1 : decide (0 ≤ pars) = true := by simp [h1]
    have d2 : decide (pars ≤ 200) = true := by simp [h2]
    cases p with
    | false =>
      go_enter Tryd.func29, Tryd.ntmps29
      go_wp2_with (first | (go_at_call 49; refine HA.out.mono ?_; rintro e w3 ⟨rfl, hb3⟩; have HG3 := Lib.hid (HBW.out.trans hb3); clear hb3) | fail)
      go_ret
      exact ⟨by rw [HRR.out]; rfl, HG3.out⟩
    | true =>
      go_enter Tryd.func29, Tryd.ntmps29
      go_wp2_with (first | (go_at_call 49; refine HA.out.mono ?_) | fail)
      rintro e w3 ⟨rfl, hb3⟩
      have HG3 := Lib.hid (HBW.out.trans hb3)
      have b3 := HB.out.below hb3 HB.out.lt
      have c0 := b3.at 0 rfl
      have c1 := b3.at 1 rfl
      have c2 := b3.at 2 rfl
      have c3 := b3.at 3 rfl
      clear hb3
      go_wp2_with (first | (go_at_call 26; refine (HE.out _ HG3.out).mono ?_; rintro e w4 ⟨rfl, hb4⟩; have HG4 := Lib.hid (HG3.out.trans hb4); clear hb4) | fail)
      go_ret
      exact ⟨by rw [HRR.out]; simp, HG4.out⟩
  · have HRF : Hid (r = false) := Lib.hid (by rw [HR.out, decide_eq_false h2, Bool.and_false]; rfl)
    have d1 : decide (0 ≤ pars) = true := by simp [h1]
    have d2 : decide (pars ≤ 200) = false := by simp; omega
    go_enter Tryd.func29, Tryd.ntmps29
    go_wp2_with fail
    go_ret
    exact ⟨by rw [HRF.out]; simp, HBW.out⟩
  · have HRF : Hid (r = false) := Lib.hid (by rw [HR.out, decide_eq_false h1, Bool.false_and]; rfl)
    have d1 : decide (0 ≤ pars) = false := by simp; omega
    go_enter Tryd.func29, Tryd.ntmps29
    go_wp2_with fail
    go_ret
    exact ⟨by rw [HRF.out]; simp, HBW.out⟩

set_option maxRecDepth 100000 in
set_option maxHeartbeats 1000000 in
theorem check_any {K : Nat} {w : World} {t : Tp} {vn vt : Value} (h : TpAt K w t vn vt) (hK : K ≤ 137438953472) (ht : Tab w) :
    Calls Tryd.prog 16 #[tpV t vn vt] w (Just (.int .i64 (if validB t then 0 else 170)) w) := by
  have hv := fun W (hW : Grow w W) => isvalid_any (h.grow hW) hK (ht.grow hW)
  obtain ⟨hp, ho, hnl, htl, A, ca, B, cb, rfl, rfl, hn, htt⟩ := h
  unfold tpV at *
  obtain ⟨r, hr⟩ : ∃ r, r = validB t := ⟨_, rfl⟩
  rw [← hr] at hv ⊢
  have HV := Lib.hid hv
  have HG := Lib.hid (fun o => Grow.alloc w o)
  clear hv hr hn htt
  cases r with
  | true =>
    rw [if_pos rfl]
    go_enter Tryd.func16, Tryd.ntmps16
    go_wp2_with (first | (go_at_call 29; refine (HV.out _ (HG.out _)).mono ?_; rintro e w3 ⟨rfl, hb3⟩; have HG3 := Lib.hid ((HG.out _).trans hb3); clear hb3) | fail)
    go_ret
    exact ⟨rfl, HG3.out⟩
  | false =>
    rw [if_neg (by simp)]
    go_enter Tryd.func16, Tryd.ntmps16
    go_wp2_with (first | (go_at_call 29; refine (HV.out _ (HG.out _)).mono ?_; rintro e w3 ⟨rfl, hb3⟩; have HG3 := Lib.hid ((HG.out _).trans hb3); clear hb3) | fail)
    go_ret
    exact ⟨rfl, HG3.out⟩
end Go.Proofs.YtofpcdjoljjnoaaDoor

namespace Go.Proofs.YtofpcdjoljjnoaaDoor
open Go.RowKit

theorem NRow.by_form {B : Nat} {w : World} {v : Value} {L : List Nat} {G : Prop} (h : NRow B w v L) (k : ∀ A cap, v = .slice A L.length cap → NRow B w (.slice A L.length cap) L → G) : G := by
  obtain ⟨A, cap, rfl, _, _, _⟩ := h.at_
  exact k A cap rfl h

section
variable {w : World}

set_option maxRecDepth 100000 in
set_option maxHeartbeats 2000000 in
theorem zof_any (n : Nat) (w : World) (hn : n ≤ 9223372036854775807) :
    Calls Tryd.prog 35 #[.int .i64 (n : Int)] w (fun e w' => ∃ x c, e = .returned (.agg #[.bool false, .slice x (nrow n).length c]) ∧ NRow w.heap.size w' (.slice x (nrow n).length c) (nrow n) ∧ Below w.heap.size w w') := by
  obtain ⟨W1, hW1⟩ : ∃ W1, W1 = w.alloc (.cells #[.bool false, .slice none 0 0] 31) := ⟨_, rfl⟩
  have b0 : BlkOf W1 w.heap.size #[.bool false, .slice none 0 0] 31 := by rw [hW1]; exact BlkOf.new w _ _
  have hbw : Below w.heap.size w W1 := by rw [hW1]; exact (Below.refl _ w).alloc (Nat.le_refl _) _
  have hsz : W1.heap.size = w.heap.size + 1 := by rw [hW1]; simp
  have HO := Lib.hid (of_any n W1 (by omega))
  have HB := Lib.hid b0
  have HBW := Lib.hid hbw
  have HSZ := Lib.hid hsz
  have h0 : ¬ ((n : Int) < 0) := by omega
  subst hW1
  clear b0 hbw hsz
  go_enter Tryd.func35, Tryd.ntmps35
  go_wp2_with (first | (go_at_call 36; refine HO.out.mono ?_) | fail)
  have hsz1 := HSZ.out
  rintro e w1 ⟨v, rfl, hr, hb1⟩
  refine NRow.by_form hr fun x c ev hr => ?_
  rw [ev]
  rw [hsz1] at hr
  have hbw1 : Below w.heap.size w w1 := HBW.out.trans (hb1.mono HBW.out.size)
  have b1 := HB.out.below hb1 (by rw [hsz1]; omega)
  have hz1 : w.heap.size + 1 ≤ w1.heap.size := by have := hb1.size; omega
  have c10 := b1.at 0 rfl
  have c11 := b1.at 1 rfl
  have z10 := b1.free
  have Q1 := Lib.hid ((b1.set 0 (.bool false)).set 1 (.slice x (nrow n).length c))
  have HX := Lib.hid (NRow.more (ownsRow_setCell_below (a := ⟨w.heap.size, 1, none⟩) (ownsRow_setCell_below (a := ⟨w.heap.size, 0, none⟩) hr (by show w.heap.size < _; omega) (.bool false)) (by show w.heap.size < _; omega) (.slice x (nrow n).length c)) (Nat.le_succ _))
  have HBF := Lib.hid ((hbw1.setCell (p := ⟨w.heap.size, 0, none⟩) (Nat.le_refl _) (.bool false)).setCell (p := ⟨w.heap.size, 1, none⟩) (Nat.le_refl _) (.slice x (nrow n).length c))
  clear hr ev
  go_wp2_with fail
  refine post_cell rfl (g := w.heap.size) rfl Q1.out Tryd.underlying31 rfl (by kernel_rfl) ?_
  exact ⟨x, c, rfl, HX.out, HBF.out⟩

set_option maxRecDepth 100000 in
set_option maxHeartbeats 2000000 in
theorem fof_any (n : Nat) (w : World) (hn : n ≤ 9223372036854775807) :
    Calls Tryd.prog 20 #[.int .i64 (n : Int)] w (fun e w' => ∃ v, e = .returned v ∧ FrRow w.heap.size w' v false n 1 ∧ Below w.heap.size w w') := by
  obtain ⟨W1, hW1⟩ : ∃ W1, W1 = w.alloc (.cells #[.bool false, .slice none 0 0, .slice none 0 0] 33) := ⟨_, rfl⟩
  have b0 : BlkOf W1 w.heap.size #[.bool false, .slice none 0 0, .slice none 0 0] 33 := by rw [hW1]; exact BlkOf.new w _ _
  have hbw : Below w.heap.size w W1 := by rw [hW1]; exact (Below.refl _ w).alloc (Nat.le_refl _) _
  have hsz : W1.heap.size = w.heap.size + 1 := by rw [hW1]; simp
  have HO := Lib.hid (zof_any n W1 hn)
  have HB := Lib.hid b0
  have HBW := Lib.hid hbw
  have HSZ := Lib.hid hsz
  subst hW1
  clear b0 hbw hsz
  go_enter Tryd.func20, Tryd.ntmps20
  go_wp2_with (first | (go_at_call 35; refine HO.out.mono ?_) | fail)
  have hsz1 := HSZ.out
  rintro e w1 ⟨x, c, rfl, hr, hb1⟩
  rw [hsz1] at hr
  have hbw1 : Below w.heap.size w w1 := HBW.out.trans (hb1.mono HBW.out.size)
  have b1 := HB.out.below hb1 (by rw [hsz1]; omega)
  have hz1 : w.heap.size + 1 ≤ w1.heap.size := by have := hb1.size; omega
  have HO2 := Lib.hid (of_any 1 w1 (by omega))
  go_wp2_with (first | (go_at_call 36; refine HO2.out.mono ?_) | fail)
  rintro e w2 ⟨v, rfl, hr2, hb2⟩
  have hr' := hr.below hb2 (Nat.le_refl _)
  have hr2' := hr2.more hz1
  refine NRow.by_form hr2' fun y c2 ev hr2 => ?_
  rw [ev]
  have hbw2 : Below w.heap.size w w2 := hbw1.trans (hb2.mono hbw1.size)
  have b2 := b1.below hb2 (by omega)
  have hz2 : w.heap.size + 1 ≤ w2.heap.size := by have := hb2.size; omega
  have c10 := b2.at 0 rfl
  have c11 := b2.at 1 rfl
  have c12 := b2.at 2 rfl
  have z10 := b2.free
  have Q1 := Lib.hid (((b2.set 0 (.bool false)).set 1 (.slice x (nrow n).length c)).set 2 (.slice y (nrow 1).length c2))
  have hrow : ∀ {v : Value} {l : List Nat}, NRow (w.heap.size + 1) w2 v l → NRow w.heap.size (((w2.setCell ⟨w.heap.size, 0, none⟩ (.bool false)).setCell ⟨w.heap.size, 1, none⟩ (.slice x (nrow n).length c)).setCell ⟨w.heap.size, 2, none⟩ (.slice y (nrow 1).length c2)) v l := fun hx =>
    NRow.more (ownsRow_setCell_below (a := ⟨w.heap.size, 2, none⟩) (ownsRow_setCell_below (a := ⟨w.heap.size, 1, none⟩) (ownsRow_setCell_below (a := ⟨w.heap.size, 0, none⟩) hx (by show w.heap.size < _; omega) _) (by show w.heap.size < _; omega) _) (by show w.heap.size < _; omega) _) (Nat.le_succ _)
  have HX := Lib.hid (hrow hr')
  have HY := Lib.hid (hrow hr2)
  have HBF := Lib.hid (((hbw2.setCell (p := ⟨w.heap.size, 0, none⟩) (Nat.le_refl _) (.bool false)).setCell (p := ⟨w.heap.size, 1, none⟩) (Nat.le_refl _) (.slice x (nrow n).length c)).setCell (p := ⟨w.heap.size, 2, none⟩) (Nat.le_refl _) (.slice y (nrow 1).length c2))
  clear hr hr' hr2 hr2' ev hrow
  go_wp2_with fail
  refine post_cell rfl (g := w.heap.size) rfl Q1.out Tryd.underlying33 rfl (by kernel_rfl) ?_
  exact ⟨_, rfl, ⟨_, _, _, _, rfl, HX.out, HY.out⟩, HBF.out⟩
end
end Go.Proofs.YtofpcdjoljjnoaaDoor

namespace Go.Proofs.YtofpcdjoljjnoaaDoor
open Go.RowKit

/-- The text of a normal number. -/
def fT (s : Bool) (n d : Nat) : List UInt8 := if d = 1 then zT s n else zT s n ++ 47 :: decT d

theorem one_row : nrow 1 = [1] := by decide +kernel
theorem short_one : Short 1 := by unfold Short; rw [one_row]; decide
theorem zT_len {s : Bool} {n : Nat} (h : Short n) : (zT s n).length ≤ 131073 := by
  have := decT_short h
  unfold zT
  split
  · simp; omega
  · omega

section
variable {K : Nat} {w : World} {n d : Nat}

set_option maxRecDepth 100000 in
set_option maxHeartbeats 2000000 in
theorem ftext_any {vn vd : Value} (s : Bool) (h : FrNum K w vn vd n d) (hK : K ≤ 137438953472) (hok : okF n d = true) (hsN : Short (rdN n d)) (hsD : Short (rdD n d)) :
    Calls Tryd.prog 24 #[.agg #[.bool s, vn, vd]] w (StrPost (fT (rdS s n) (rdN n d) (rdD n d)) w) := by
  obtain ⟨W1, hW1⟩ : ∃ W1, W1 = w.alloc (.cells #[.bool s, vn, vd] 33) := ⟨_, rfl⟩
  have b0 : BlkOf W1 w.heap.size #[.bool s, vn, vd] 33 := by rw [hW1]; exact BlkOf.new w _ _
  have hbw : Below w.heap.size w W1 := by rw [hW1]; exact (Below.refl _ w).alloc (Nat.le_refl _) _
  have hsz : W1.heap.size = w.heap.size + 1 := by rw [hW1]; simp
  have HN := Lib.hid (fnorm_any s (h.grow hbw) hK)
  have HB := Lib.hid b0
  have HBW := Lib.hid hbw
  have HSZ := Lib.hid hsz
  obtain ⟨⟨a, ca, A, rfl, _, _, _, _, _, _⟩, ⟨b, cb, B, rfl, _, _, _, _, _, _⟩⟩ := h
  subst hW1
  clear b0 hbw hsz
  go_enter Tryd.func24, Tryd.ntmps24
  go_wp2_with (first | (go_at_call 22; refine HN.out.mono ?_) | fail)
  have hsz1 := HSZ.out
  rintro e w1 (⟨_, v, rfl, ⟨x, c, y, e', rfl, hx, hy⟩, hb1⟩ | ⟨hno, _⟩)
  · unfold frV
    generalize rdN n d = N at *
    generalize rdD n d = D at *
    generalize rdS s n = S at *
    have hbw1 : Below w.heap.size w w1 := HBW.out.trans (hb1.mono HBW.out.size)
    have b1 := HB.out.below hb1 (by rw [hsz1]; omega)
    have hz1 : w.heap.size + 1 ≤ w1.heap.size := by have := hb1.size; omega
    rw [hsz1] at hx hy
    have c10 := b1.at 0 rfl
    have c11 := b1.at 1 rfl
    have c12 := b1.at 2 rfl
    have z10 := b1.free
    -- the world behind the store
    obtain ⟨W2, hW2⟩ : ∃ W2, W2 = ((w1.setCell ⟨w.heap.size, 0, none⟩ (.bool S)).setCell ⟨w.heap.size, 1, none⟩ (.slice x (nrow N).length c)).setCell ⟨w.heap.size, 2, none⟩ (.slice y (nrow D).length e') := ⟨_, rfl⟩
    have q1 : BlkOf W2 w.heap.size #[.bool S, .slice x (nrow N).length c, .slice y (nrow D).length e'] 33 := by rw [hW2]; exact ((b1.set 0 (.bool S)).set 1 (.slice x (nrow N).length c)).set 2 (.slice y (nrow D).length e')
    have hrow : ∀ {v : Value} {l : List Nat}, NRow (w.heap.size + 1) w1 v l → NRow (w.heap.size + 1) W2 v l := fun hx => by
      rw [hW2]
      exact ownsRow_setCell_below (a := ⟨w.heap.size, 2, none⟩) (ownsRow_setCell_below (a := ⟨w.heap.size, 1, none⟩) (ownsRow_setCell_below (a := ⟨w.heap.size, 0, none⟩) hx (by show w.heap.size < _; omega) _) (by show w.heap.size < _; omega) _) (by show w.heap.size < _; omega) _
    have HX := Lib.hid ((hrow hx).short hsN)
    have HY := Lib.hid ((hrow hy).short hsD)
    have HB2 : Hid (Below w.heap.size w W2) := Lib.hid (by rw [hW2]; exact ((hbw1.setCell (p := ⟨w.heap.size, 0, none⟩) (Nat.le_refl _) _).setCell (p := ⟨w.heap.size, 1, none⟩) (Nat.le_refl _) _).setCell (p := ⟨w.heap.size, 2, none⟩) (Nat.le_refl _) _)
    have HZ2 : Hid (w.heap.size + 1 ≤ W2.heap.size) := Lib.hid (by rw [hW2]; simpa [World.setCell] using hz1)
    have HW2 := Lib.hid hW2
    clear hrow hx hy hW2
    go_wp2_with fail
    rw [← HW2.out]
    have KC : Hid (∀ W, Grow W2 W → W.cell? ⟨w.heap.size, 0, none⟩ = some (.bool S) ∧ W.cell? ⟨w.heap.size, 1, none⟩ = some (.slice x (nrow N).length c) ∧ W.cell? ⟨w.heap.size, 2, none⟩ = some (.slice y (nrow D).length e')) := Lib.hid fun W hW => by
      have q := q1.below hW q1.lt
      exact ⟨q.at 0 rfl, q.at 1 rfl, q.at 2 rfl⟩
    have HCm := Lib.hid (fun W (hW : Grow W2 W) (v : Value) (hv : NRow W2.heap.size W v (nrow 1)) => cmp_p (HY.out.below hW) (hv.short short_one) (by omega) (by omega))
    have hce : ((cmpV D 1 : Int) == 0) = decide (D = 1) := by
      rcases Nat.lt_trichotomy D 1 with h | h | h
      · rw [cmpV_lt h]; simp; omega
      · rw [h, cmpV_eq rfl]; rfl
      · rw [cmpV_gt h]; simp; omega
    obtain ⟨cv, hcv⟩ : ∃ cv, cv = cmpV D 1 := ⟨_, rfl⟩
    unfold CmpAnd at HCm
    rw [← hcv] at hce
    have HCV := Lib.hid hcv
    clear hcv
    rename_i K0 hK0
    refine wp_region_list [fun v _ => v = .pointer (some ⟨w.heap.size, 2, none⟩), fun v _ => v = .slice y (nrow D).length e', fun v W => ∃ q c, v = .slice q (nrow 1).length c ∧ NRow W2.heap.size W (.slice q (nrow 1).length c) (nrow 1), fun v _ => v = .int .i64 cv, fun v _ => v = .bool (decide (D = 1))]
      [(1, .pointer (some ⟨w.heap.size, 0, none⟩))] 5 (by kernel_rfl) ?stay rfl (by kernel_rfl) rfl ?base (by kernel_rfl) ⟨?_, ?_, ?_, ?_, ?_, trivial⟩ ?last
    case stay =>
      refine ⟨stays_pure _, stays_pure _, ?_, stays_pure _, stays_pure _, trivial⟩
      exact fun v W W' hg ⟨x, c, h1, h2⟩ => ⟨x, c, h1, h2.below hg (Nat.le_refl _)⟩
    case base => simp
    case last =>
      intro vs W hW hv
      simp only [FactsL, Nat.zero_add, Nat.reduceAdd] at hv
      obtain ⟨v0, v1, v2, v3, v4, _⟩ := hv
      refine ⟨rfl, ?_⟩
      simp only [List.take_succ_cons, List.take_zero, putF, Act.put, List.setIfInBounds_toArray, List.set_cons_zero, List.set_cons_succ, Nat.reduceAdd, v4]
      unfold Oper.wp
      simp [execOp, go_sem]
      refine hK0 _ _ ?_
      have hbW := HB2.out.trans (hW.mono HB2.out.size)
      have q2 := q1.below hW q1.lt
      have HBW2 := Lib.hid hbW
      have HX2 := Lib.hid (HX.out.below hW)
      have HY2 := Lib.hid (HY.out.below hW)
      have Q2 := Lib.hid q2
      obtain ⟨T, hT⟩ : ∃ T, T = zT S N := ⟨_, rfl⟩
      have hzt := fun W' (hW' : Grow W W') => ztext_any S (HX2.out.below hW') (by omega) hsN
      rw [← hT] at hzt
      have HZT := Lib.hid hzt
      by_cases hD : D = 1
      · have hfT : fT S N D = T := by unfold fT; rw [if_pos hD, hT]
        rw [hfT]
        have c0 := q2.at 0 rfl
        have c1 := q2.at 1 rfl
        have hd : decide (D = 1) = true := by simp [hD]
        rw [hd]
        clear hD hd hfT hT hzt hbW q2 v0 v1 v2 v3 v4
        go_wp2_with (first | (go_at_call 43; refine (HZT.out _ (Grow.refl _)).mono ?_; rintro e W' ⟨rfl, hb2⟩) | fail)
        go_ret
        rename_i W' hb2
        exact ⟨rfl, HBW2.out.trans (hb2.mono HBW2.out.size)⟩
      · obtain ⟨U, hU⟩ : ∃ U, U = decT D := ⟨_, rfl⟩
        have hfT : fT S N D = T ++ [47] ++ U := by unfold fT; rw [if_neg hD, hT, hU]; simp
        rw [hfT]
        have hd : decide (D = 1) = false := by simp [hD]
        rw [hd]
        have htx := fun W' (hW' : Grow W W') => text_p (HY2.out.below hW') (by omega) hsD
        rw [← hU] at htx
        have HTX := Lib.hid htx
        have happ1 : mk T ++ (⟨#[47]⟩ : ByteArray) = mk (T ++ [47]) := mk_append T [47]
        have happ2 : mk (T ++ [47]) ++ mk U = mk (T ++ [47] ++ U) := mk_append _ _
        have s1 : (mk T).size ≤ 131073 := by rw [mk_size, hT]; exact zT_len hsN
        have s2 : (mk (T ++ [47])).size ≤ 131074 := by rw [mk_size, List.length_append, hT]; have := zT_len (s := S) hsN; simp; omega
        have s3 : (mk U).size ≤ 131072 := by rw [mk_size, hU]; exact decT_short hsD
        clear hD hd hfT hT hU hzt htx hbW q2 v0 v1 v2 v3 v4
        go_wp2_with fail
        have KC2 : Hid (∀ W', Grow W W' → W'.cell? ⟨w.heap.size, 0, none⟩ = some (.bool S) ∧ W'.cell? ⟨w.heap.size, 1, none⟩ = some (.slice x (nrow N).length c) ∧ W'.cell? ⟨w.heap.size, 2, none⟩ = some (.slice y (nrow D).length e')) := Lib.hid fun W' hW' => by
          have q := Q2.out.below hW' Q2.out.lt
          exact ⟨q.at 0 rfl, q.at 1 rfl, q.at 2 rfl⟩
        rename_i K1 hK1
        refine wp_region_list [fun v _ => v = .pointer (some ⟨w.heap.size, 0, none⟩), fun v _ => v = .agg #[.bool S, .slice x (nrow N).length c], fun v _ => v = .string (mk T), fun v _ => v = .string (mk (T ++ [47])), fun v _ => v = .pointer (some ⟨w.heap.size, 2, none⟩), fun v _ => v = .slice y (nrow D).length e', fun v _ => v = .string (mk U), fun v _ => v = .string (mk (T ++ [47] ++ U))]
          [(1, .pointer (some ⟨w.heap.size, 0, none⟩))] 8 (by kernel_rfl) ⟨stays_pure _, stays_pure _, stays_pure _, stays_pure _, stays_pure _, stays_pure _, stays_pure _, stays_pure _, trivial⟩ rfl (by kernel_rfl) rfl ?base (by kernel_rfl) ⟨?_, ?_, ?_, ?_, ?_, ?_, ?_, ?_, trivial⟩ ?last
        case base => simp
        case last =>
          intro vs W3 hW3 hv
          simp only [FactsL, Nat.zero_add, Nat.reduceAdd] at hv
          obtain ⟨v0, v1, v2, v3, v4, v5, v6, v7, _⟩ := hv
          refine ⟨rfl, ?_⟩
          simp only [List.take_succ_cons, List.take_zero, putF, Act.put, List.setIfInBounds_toArray, List.set_cons_zero, List.set_cons_succ, Nat.reduceAdd, v7]
          unfold Oper.wp
          simp [execOp, go_sem]
          refine hK1 _ _ ?_
          have HB3 := Lib.hid (HBW2.out.trans (hW3.mono HBW2.out.size))
          go_wp2_with fail
          go_ret
          exact ⟨by simp, HB3.out⟩
        all_goals
          intro a' W' hW' hb hf
          obtain ⟨q00, q01, q10⟩ := KC2.out W' hW'
          simp only [List.forall_mem_cons, List.not_mem_nil, false_imp_iff, implies_true, and_true] at hb
          simp [FactsOf, FactAt, Region.binds, factsL] at hf
          refine ⟨rfl, fun K hK => ?_⟩
          unfold Oper.wp
        · simp [execOp, go_sem, *]
          exact hK _ _ (Grow.refl _) rfl
        · simp [execOp, go_sem, *]
          exact hK _ _ (Grow.refl _) rfl
        · simp [go_sem, *]
          refine (HZT.out W' hW').mono ?_
          rintro e W4 ⟨rfl, hg⟩
          exact hK _ _ hg rfl
        · simp [execOp, go_sem, hf, happ1]
          rw [if_neg (by have : (⟨#[47]⟩ : ByteArray).size = 1 := rfl; omega)]
          exact hK _ _ (Grow.refl _) rfl
        · simp [execOp, go_sem, *]
          exact hK _ _ (Grow.refl _) rfl
        · simp [execOp, go_sem, *]
          exact hK _ _ (Grow.refl _) rfl
        · simp [go_sem, *]
          refine (HTX.out W' hW').mono ?_
          rintro e W4 ⟨rfl, hg⟩
          exact hK _ _ hg rfl
        · simp [execOp, go_sem, hf, happ2]
          rw [if_neg (by omega)]
          exact hK _ _ (Grow.refl _) (by simp)
    all_goals
      intro a' W hW hb hf
      obtain ⟨q00, q01, q10⟩ := KC.out W hW
      simp only [List.forall_mem_cons, List.not_mem_nil, false_imp_iff, implies_true, and_true] at hb
      simp [FactsOf, FactAt, Region.binds, factsL] at hf
      refine ⟨rfl, fun K hK => ?_⟩
      unfold Oper.wp
    · simp [execOp, go_sem, *]
      exact hK _ _ (Grow.refl _) rfl
    · simp [execOp, go_sem, *]
      exact hK _ _ (Grow.refl _) rfl
    · simp [go_sem, *]
      refine (of_any 1 W (by omega)).mono ?_
      rintro e W' ⟨v, rfl, hr, hg⟩
      refine NRow.by_form hr fun q c ev hr => ?_
      rw [ev]
      exact hK _ _ hg ⟨q, c, rfl, hr.more hW.size⟩
    · obtain ⟨q, c, ev, hr⟩ := hf.2
      have hf1 := hf.1
      clear hf
      simp [go_sem, hf1, ev]
      refine (HCm.out W hW _ hr).mono ?_
      rintro e W' ⟨rfl, hg⟩
      exact hK _ _ hg (by rw [HCV.out])
    · simp [execOp, go_sem, *]
      exact hK _ _ (Grow.refl _) rfl
  · rw [hok] at hno; cases hno
end
end Go.Proofs.YtofpcdjoljjnoaaDoor

namespace Go.Proofs.YtofpcdjoljjnoaaDoor
open Go.RowKit Go.Maps

/-- A slice's block is among P. -/
def OwnIn (P : Nat → Prop) (v : Value) : Prop := ∀ g, v.ownBlock = some g → P g
/-- The blocks of P are as they were. -/
def Kept (P : Nat → Prop) (w w' : World) : Prop := ∀ k, P k → w'.heap[k]? = w.heap[k]?
theorem ownsRow_kept {P : Nat → Prop} {w w' : World} {B e K : Nat} {v : Value} {n : Nat} {xs : List Value} (h : w.ownsRow B e K v n xs) (ho : OwnIn P v) (hk : Kept P w w') : w'.ownsRow B e K v n xs := by
  refine ⟨h.1, ?_⟩
  rcases h.2 with h2 | ⟨g, cap, cur, e1, hB, hg, hr⟩
  · exact .inl h2
  · exact .inr ⟨g, cap, cur, e1, hB, (hk g (ho g (by rw [e1]; rfl))).trans hg, hr⟩
theorem ownsRow_lower {w : World} {B B' e K : Nat} {v : Value} {n : Nat} {xs : List Value} (h : w.ownsRow B e K v n xs) (hB : B' ≤ B) : w.ownsRow B' e K v n xs := by
  refine ⟨h.1, ?_⟩
  rcases h.2 with h2 | ⟨g, cap, cur, e1, hg, hr⟩
  · exact .inl h2
  · exact .inr ⟨g, cap, cur, e1, Nat.le_trans hB hg, hr⟩
theorem ownsRow_own {w : World} {B e K : Nat} {v : Value} {n : Nat} {xs : List Value} (h : w.ownsRow B e K v n xs) {g : Nat} (hg : v.ownBlock = some g) : B ≤ g ∧ g < w.heap.size ∧ ∃ cur, BlkOf w g cur e := by
  rcases h.2 with ⟨h2, _⟩ | ⟨g', cap, cur, e1, hB, hh, hr⟩
  · rw [h2] at hg; cases hg
  · rw [e1] at hg
    cases hg
    exact ⟨hB, (Array.getElem?_eq_some_iff.1 hh).1, cur, hh⟩

/-- A row of limbs among P. -/
def RawIn (P : Nat → Prop) (w : World) (v : Value) (L : List Nat) : Prop := NRow 0 w v L ∧ Fits L ∧ OwnIn P v
theorem RawIn.kept {P : Nat → Prop} {w w' : World} {v : Value} {L : List Nat} (h : RawIn P w v L) (hk : Kept P w w') : RawIn P w' v L := ⟨ownsRow_kept h.1 h.2.2 hk, h.2⟩
theorem RawIn.mono {P P' : Nat → Prop} {w : World} {v : Value} {L : List Nat} (h : RawIn P w v L) (hp : ∀ k, P k → P' k) : RawIn P' w v L := ⟨h.1, h.2.1, fun g hg => hp g (h.2.2 g hg)⟩
theorem RawIn.nil (P : Nat → Prop) (w : World) : RawIn P w (.slice none 0 0) [] := ⟨NRow.nil _ _, fun _ h => by simp at h, fun _ h => by cases h⟩
theorem raw_of_row {B : Nat} {w : World} {v : Value} {L : List Nat} (h : NRow B w v L) (hf : Fits L) : Raw w v L := by
  have h2 := h.2
  obtain ⟨A, cap, rfl, h1, _, h3⟩ := h.at_
  refine ⟨A, cap, rfl, h1, fun hA => ?_, hf, h3⟩
  rcases h2 with ⟨e, _⟩ | ⟨g, cap', cur, e, _⟩
  · injection e
  · injection e with e1
    rw [hA] at e1; cases e1
theorem RawIn.raw {P : Nat → Prop} {w : World} {v : Value} {L : List Nat} (h : RawIn P w v L) : Raw w v L := raw_of_row h.1 h.2.1

/-- A step among P. -/
def NdIn (P : Nat → Prop) (w : World) (x : Nd) (vn vd : Value) : Prop := x.op < 256 ∧ I64 x.a ∧ I64 x.b ∧ RawIn P w vn x.c.m ∧ RawIn P w vd x.c.d ∧ x.c.m.length ≤ 2048 ∧ x.c.d.length ≤ 2048
theorem NdIn.kept {P : Nat → Prop} {w w' : World} {x : Nd} {vn vd : Value} (h : NdIn P w x vn vd) (hk : Kept P w w') : NdIn P w' x vn vd := ⟨h.1, h.2.1, h.2.2.1, h.2.2.2.1.kept hk, h.2.2.2.2.1.kept hk, h.2.2.2.2.2⟩
theorem NdIn.mono {P P' : Nat → Prop} {w : World} {x : Nd} {vn vd : Value} (h : NdIn P w x vn vd) (hp : ∀ k, P k → P' k) : NdIn P' w x vn vd := ⟨h.1, h.2.1, h.2.2.1, h.2.2.2.1.mono hp, h.2.2.2.2.1.mono hp, h.2.2.2.2.2⟩
theorem NdIn.ok {P : Nat → Prop} {w : World} {x : Nd} {vn vd : Value} (h : NdIn P w x vn vd) : NdOK 2048 w x vn vd := ⟨h.1, h.2.1, h.2.2.1, h.2.2.2.1.raw, h.2.2.2.2.1.raw, h.2.2.2.2.2⟩

/-- The cells of a row of steps. -/
def rowCells : List Nd → List (Value × Value) → List Value
  | x :: L, p :: vs => ndCells x p.1 p.2 ++ rowCells L vs
  | _, _ => []
theorem ndCells_length (x : Nd) (vn vd : Value) : (ndCells x vn vd).length = 6 := rfl
theorem rowCells_length : ∀ {L : List Nd} {vs : List (Value × Value)}, vs.length = L.length → (rowCells L vs).length = L.length * 6
  | [], [], _ => rfl
  | [], _ :: _, h => by simp at h
  | _ :: _, [], h => by simp at h
  | x :: L, p :: vs, h => by
    rw [rowCells, List.length_append, ndCells_length, rowCells_length (by simpa using h), List.length_cons]
    omega
theorem rowCells_snoc : ∀ {L : List Nd} {vs : List (Value × Value)} (x : Nd) (p : Value × Value), vs.length = L.length → rowCells (L ++ [x]) (vs ++ [p]) = rowCells L vs ++ ndCells x p.1 p.2
  | [], [], x, p, _ => by simp [rowCells]
  | [], _ :: _, _, _, h => by simp at h
  | _ :: _, [], _, _, h => by simp at h
  | y :: L, q :: vs, x, p, h => by
    rw [List.cons_append, List.cons_append, rowCells, rowCells_snoc x p (by simpa using h), rowCells, List.append_assoc]
theorem rowCells_get : ∀ {L : List Nd} {vs : List (Value × Value)} {i j : Nat} {x : Nd} {p : Value × Value}, L[i]? = some x → vs[i]? = some p → j < 6 → (rowCells L vs)[i * 6 + j]? = (ndCells x p.1 p.2)[j]?
  | [], _, _, _, _, _, h, _, _ => by simp at h
  | _ :: _, [], _, _, _, _, _, h, _ => by simp at h
  | y :: L, q :: vs, 0, j, x, p, h, k, hj => by
    simp at h k
    subst h k
    rw [rowCells, Nat.zero_mul, Nat.zero_add, List.getElem?_append_left (by rw [ndCells_length]; exact hj)]
  | y :: L, q :: vs, i + 1, j, x, p, h, k, hj => by
    rw [rowCells, List.getElem?_append_right (by rw [ndCells_length]; omega), ndCells_length, show (i + 1) * 6 + j - 6 = i * 6 + j by omega]
    exact rowCells_get (by simpa using h) (by simpa using k) hj

/-- A row of steps among P. -/
def NdsIn (P : Nat → Prop) (w : World) (v : Value) (L : List Nd) : Prop :=
  ∃ vs : List (Value × Value), vs.length = L.length ∧ w.ownsRow 0 56 6 v L.length (rowCells L vs) ∧ OwnIn P v ∧ ∀ (i : Nat) (x : Nd) (p : Value × Value), L[i]? = some x → vs[i]? = some p → NdIn P w x p.1 p.2
theorem NdsIn.kept {P : Nat → Prop} {w w' : World} {v : Value} {L : List Nd} (h : NdsIn P w v L) (hk : Kept P w w') : NdsIn P w' v L := by
  obtain ⟨vs, h1, h2, h3, h4⟩ := h
  exact ⟨vs, h1, ownsRow_kept h2 h3 hk, h3, fun i x p hx hp => (h4 i x p hx hp).kept hk⟩
theorem NdsIn.mono {P P' : Nat → Prop} {w : World} {v : Value} {L : List Nd} (h : NdsIn P w v L) (hp : ∀ k, P k → P' k) : NdsIn P' w v L := by
  obtain ⟨vs, h1, h2, h3, h4⟩ := h
  exact ⟨vs, h1, h2, fun g hg => hp g (h3 g hg), fun i x p hx hp' => (h4 i x p hx hp').mono hp⟩
theorem NdsIn.nil (P : Nat → Prop) (w : World) : NdsIn P w (.slice none 0 0) [] := ⟨[], rfl, World.ownsRow_nil w 0 _ 6, fun _ h => (by cases h), fun _ _ _ h => by simp at h⟩
theorem NdsIn.form {P : Nat → Prop} {w : World} {v : Value} {L : List Nd} (h : NdsIn P w v L) : ∃ A cap, v = .slice A L.length cap ∧ NdsAt 2048 w A L := by
  obtain ⟨vs, h1, h2, h3, h4⟩ := h
  rcases h2.2 with ⟨e, he⟩ | ⟨g, cap, cur, e, _, hg, hn, hm, hs, htk⟩
  · have : L = [] := List.eq_nil_of_length_eq_zero he
    subst this
    exact ⟨none, 0, e, fun i x hx => by simp at hx⟩
  · refine ⟨some ⟨g, 0, none⟩, cap, e, fun i x hx => ?_⟩
    have hi := (List.getElem?_eq_some_iff.1 hx).1
    obtain ⟨p, hp⟩ : ∃ p, vs[i]? = some p := ⟨_, List.getElem?_eq_getElem (by omega)⟩
    refine ⟨g, 0, p.1, p.2, rfl, fun j u hu => ?_, (h4 i x p hx hp).ok⟩
    have hj : j < 6 := by have := (List.getElem?_eq_some_iff.1 hu).1; rwa [ndCells_length] at this
    have h5 := rowCells_get hx hp hj
    rw [hu, ← htk, List.getElem?_take, if_pos (by omega)] at h5
    rw [cell_of_row w g (0 + i * 6 + j) cur _ (0, 0) hg, Nat.zero_add]
    simpa using h5

/-- What a maker has. -/
structure MkS where
  budget : Nat
  pars : Nat
  l : List Nd
/-- A step's key. -/
def keyN (x : Nd) : Ky := ⟨x.op, x.a, x.b, if x.op = 1 then fT x.c.s (lv x.c.m) (lv x.c.d) else []⟩
/-- What holds of it always. -/
def Good (S : MkS) : Prop := 1 ≤ S.budget ∧ S.budget ≤ 20000 ∧ S.pars ≤ 200 ∧ S.l.length ≤ S.budget ∧ stepsB (S.pars : Int) 0 S.l = true ∧ (S.l.map keyN).Nodup
/-- The row of a maker in memory. -/
def RowAt (P : Nat → Prop) (w : World) (pr : Nat) (S : MkS) : Prop :=
  ∃ mb vN, P pr ∧ P mb ∧ BlkOf w pr #[.int .i64 (S.budget : Int), .int .i64 (S.pars : Int), vN, .map (some mb)] 68 ∧ NdsIn P w vN S.l ∧ MapIn w mb (S.l.map keyN) ∧ (∀ k, P k → k < w.heap.size)
theorem RowAt.kept {P : Nat → Prop} {w w' : World} {pr : Nat} {S : MkS} (h : RowAt P w pr S) (hk : Kept P w w') (hs : w.heap.size ≤ w'.heap.size) : RowAt P w' pr S := by
  obtain ⟨mb, vN, h1, h2, h3, h4, h5, h6⟩ := h
  exact ⟨mb, vN, h1, h2, (hk pr h1).trans h3, h4.kept hk, h5.of_block (hk mb h2), fun k h => Nat.lt_of_lt_of_le (h6 k h) hs⟩
theorem RowAt.grow {P : Nat → Prop} {w w' : World} {pr : Nat} {S : MkS} (h : RowAt P w pr S) (hg : Grow w w') : RowAt P w' pr S := by
  have h6 := h
  obtain ⟨_, _, _, _, _, _, _, h7⟩ := h6
  exact h.kept (fun k hk => hg.block k (h7 k hk)) (Below.size hg)
end Go.Proofs.YtofpcdjoljjnoaaDoor
