/-
  The texts NatRoundT, TapFact, TapFrac, NatDivide1, one behind the other.
-/
import Derived.Test.YtcbebikcfcidmaaDoorChaZ05
import Derived.Test.YtcbebikcfcidmaaDoorChaZ03
import Derived.Test.YtcbebikcfcidmaaDoorChaZ04

namespace Go.Proofs.YtcbebikcfcidmaaDoor
open Go.RowKit

section
variable {P : Program} {l m : Nat} {ops : Array Oper} {Q : Exit → Act → World → Prop} {md : Region.Mode} {S : World → Prop}

/-- As 'wpAnyH', but that S need not hold behind operations from t on. -/
def wpAnyT (P : Program) (md : Region.Mode) (ops : Array Oper) (Q : Exit → Act → World → Prop) (S : World → Prop) (t : Nat) : Nat → Array Bool → Act → World → Prop
  | 0, listed, a, w => Region.ready md ops listed = [] ∧ Q .normal a w
  | fuel + 1, listed, a, w =>
    (Region.ready md ops listed = [] → Q .normal a w) ∧
    ∀ i ∈ Region.ready md ops listed, wpOp P ops Q i (fun a' w' => (i < t → S w') ∧ wpAnyT P md ops Q S t fuel (listed.setIfInBounds i true) a' w') a w
theorem wpAny_of_T {t : Nat} : ∀ (fuel : Nat) (listed : Array Bool) (a : Act) (w : World), wpAnyT P md ops Q S t fuel listed a w → wpAny P md ops Q fuel listed a w
  | 0, _, _, _, h => h
  | fuel + 1, _, _, _, h => ⟨h.1, fun i hi => wpOp_mono (fun a' w' h' => wpAny_of_T fuel _ a' w' h'.2) (h.2 i hi)⟩
theorem chain_waitsT {t : Nat} (hc : chainK md ops t = true) (ht : t < ops.size) {listed : Array Bool} (h : Closed md ops listed) : ∀ (d i : Nat), t - i = d → i < t → listed.getD i true = false → t ∉ Region.ready md ops listed := by
  intro d
  induction d using Nat.strongRecOn with
  | _ d ih =>
    intro i hd hit hun hmem
    have h1 := List.all_eq_true.1 hc i (List.mem_range.2 hit)
    obtain ⟨j, hj, hj2⟩ := List.any_eq_true.1 h1
    simp only [Bool.and_eq_true, decide_eq_true_eq] at hj2
    have hjt : j < t + 1 := List.mem_range.1 hj
    obtain ⟨oj, hoj, e, he, hb, hon⟩ := Region.waitsFor_spec hj2.2
    by_cases hjt' : j = t
    · subst hjt'
      obtain ⟨_, ot, hot, hall⟩ := mem_ready.1 hmem
      rw [hoj] at hot
      cases hot
      have := hall e he hb
      rw [hon, getD_both hun] at this
      cases this
    · have hjun : listed.getD j true = false := by
        refine getD_in (by rw [h.1]; omega) ?_
        cases hq : listed.getD j false with
        | false => rfl
        | true =>
          have := h.2 j oj hoj hq e he hb
          rw [hon, getD_both hun] at this
          cases this
      exact ih (t - j) (by omega) j rfl (by omega) hjun hmem
/-- Whatever stands at the end waits for all that stands before it. -/
def tailT (md : Region.Mode) (ops : Array Oper) (t : Nat) : Bool := (List.range ops.size).all fun j => decide (j < t) || chainK md ops j
theorem wpAnyT_first {t i : Nat} {oi : Oper} {v : Value} (hc : tailT md ops t = true) (hit : i < t) (hi : ops[i]? = some oi) (hsel : ∀ (j : Nat) (o : Oper) cs b, ops[j]? = some o → o.op ≠ .select cs b)
    (hQ : ∀ c a w, Q (.panic c) (a.put oi.dst v) w → Q (.panic c) a w) :
    ∀ (fuel : Nat) (listed : Array Bool) (a : Act) (w : World), Closed md ops listed →
      (∀ j oj, ops[j]? = some oj → j ≠ i → listed.getD j true = false → (∀ e ∈ oj.after, Region.binds md e = true → e.on ≠ i) → oi.apart ops oj = true) →
      i ∈ Region.ready md ops listed → YieldsIf P ops S oi v a → S w →
      wpAnyT P md ops Q S t fuel (listed.setIfInBounds i true) (a.put oi.dst v) w → wpAnyT P md ops Q S t (fuel + 1) listed a w := by
  intro fuel
  induction fuel with
  | zero =>
    intro listed a w _ _ hr hy hS H
    refine ⟨fun h => (by rw [h] at hr; cases hr), fun j hj => ?_⟩
    by_cases hji : j = i
    · subst hji; exact hy.wpOp hi hS ⟨fun _ => hS, H⟩
    · have := ready_mono hj hji
      rw [H.1] at this
      cases this
  | succ fuel ih =>
    intro listed a w hcl hfree hr hy hS H
    refine ⟨fun h => (by rw [h] at hr; cases hr), fun j hj => ?_⟩
    by_cases hji : j = i
    · subst hji; exact hy.wpOp hi hS ⟨fun _ => hS, H⟩
    · obtain ⟨hjun, oj, hoj, hall⟩ := mem_ready.1 hj
      have hjs : j < ops.size := (Array.getElem?_eq_some_iff.1 hoj).1
      have hjt : j < t := by
        rcases Nat.lt_or_ge j t with h | h
        · exact h
        · exfalso
          have h1 := List.all_eq_true.1 hc j (List.mem_range.2 hjs)
          simp only [Bool.or_eq_true, decide_eq_true_eq] at h1
          exact chain_waitsT (h1.resolve_left (by omega)) hjs hcl _ i rfl (by omega) (mem_ready.1 hr).1 hj
      have h1 := H.2 j (ready_mono hj hji)
      have hnot : ∀ e ∈ oj.after, Region.binds md e = true → e.on ≠ i := fun e he hb heq => by
        have h1 := hall e he hb
        have h0 := (mem_ready.1 hr).1
        rw [heq, getD_both h0] at h1
        cases h1
      have h1' := wpOp_mono (fun a' w' (h3 : (j < t → S w') ∧ wpAnyT P md ops Q S t fuel ((listed.setIfInBounds i true).setIfInBounds j true) a' w') => (⟨h3.1 hjt, h3.2⟩ : S w' ∧ _)) h1
      have h2 := wpOp_putIf hoj (hfree j oj hoj hji hjun hnot) (fun cs b => hsel i oi cs b hi) (fun cs b => hsel j oj cs b hoj) hQ hy h1'
      have hfree' : ∀ k ok, ops[k]? = some ok → k ≠ i → (listed.setIfInBounds j true).getD k true = false →
          (∀ e ∈ ok.after, Region.binds md e = true → e.on ≠ i) → oi.apart ops ok = true := fun k ok hk hki hun hno => by
        refine hfree k ok hk hki ?_ hno
        by_cases hjk : j = k
        · subst hjk; exact hjun
        · rw [getD_set_ne true hjk] at hun; exact hun
      refine wpOp_mono (fun a' w' h3 => ⟨fun _ => h3.2.1, ih (listed.setIfInBounds j true) a' w' (hcl.set hj) hfree' (ready_mono hr (Ne.symm hji)) h3.1 h3.2.1 ?_⟩) h2
      rw [Array.setIfInBounds_comm _ _ hji]
      exact h3.2.2

/-- Taken at any time; the only one ready; two that are ready. -/
inductive Mark where
  | yes (k : Nat)
  | no (k : Nat)
  | two (i j : Nat)
def Mark.size : Mark → Nat | .two _ _ => 2 | _ => 1
def fuelT : List Mark → Nat | [] => 0 | m :: r => fuelT r + m.size
def walkT (P : Program) (ops : Array Oper) (Q : Exit → Act → World → Prop) (S : World → Prop) (t : Nat) : List Mark → Act → World → Prop
  | [], a, w => Q .normal a w
  | .yes k :: r, a, w => ∃ o, ops[k]? = some o ∧ S w ∧ ∃ v, (Region.wanted o (yielded ops a.tmps) = true ∧ ∀ w', S w' → (execOp a.eval o).run P w' = .ok (.value v) w') ∧ walkT P ops Q S t r (a.put o.dst v) w
  | .no k :: r, a, w => ∃ o, ops[k]? = some o ∧ Region.wanted o (yielded ops a.tmps) = true ∧ o.wp P a w (fun a' w' => (k < t → S w') ∧ walkT P ops Q S t r a' w') Q
  | .two i j :: r, a, w => ∃ oi oj, ops[i]? = some oi ∧ ops[j]? = some oj ∧ i ≠ j ∧
      (Region.wanted oi (yielded ops a.tmps) = true ∧ oi.wp P a w (fun a' w' => (i < t → S w') ∧ Region.wanted oj (yielded ops a'.tmps) = true ∧ oj.wp P a' w' (fun a'' w'' => (j < t → S w'') ∧ walkT P ops Q S t r a'' w'') Q) Q) ∧
      (Region.wanted oj (yielded ops a.tmps) = true ∧ oj.wp P a w (fun a' w' => (j < t → S w') ∧ Region.wanted oi (yielded ops a'.tmps) = true ∧ oi.wp P a' w' (fun a'' w'' => (i < t → S w'') ∧ walkT P ops Q S t r a'' w'') Q) Q)
def okT (md : Region.Mode) (ops : Array Oper) (t : Nat) : List Mark → Array Bool → Bool
  | [], listed => (Region.ready md ops listed).isEmpty
  | .yes k :: r, listed => decide (k < t) && ((Region.ready md ops listed).contains k && (Region.free md ops listed k && okT md ops t r (listed.setIfInBounds k true)))
  | .no k :: r, listed => Region.ready md ops listed == [k] && okT md ops t r (listed.setIfInBounds k true)
  | .two i j :: r, listed => Region.ready md ops listed == [i, j] && (Region.ready md ops (listed.setIfInBounds i true) == [j] && (Region.ready md ops (listed.setIfInBounds j true) == [i] && okT md ops t r ((listed.setIfInBounds i true).setIfInBounds j true)))
theorem step_of_only {t k fuel : Nat} {o : Oper} {listed : Array Bool} {a : Act} {w : World} (h0 : ops[k]? = some o) (hr : Region.ready md ops listed = [k]) (hw : Region.wanted o (yielded ops a.tmps) = true)
    (h : o.wp P a w (fun a' w' => (k < t → S w') ∧ wpAnyT P md ops Q S t fuel (listed.setIfInBounds k true) a' w') Q) : wpAnyT P md ops Q S t (fuel + 1) listed a w := by
  refine ⟨fun he => (by rw [hr] at he; cases he), fun i hi => ?_⟩
  rw [hr] at hi
  have hik : i = k := by simpa using hi
  subst hik
  unfold wpOp
  simp only [h0]
  rw [if_pos hw]
  exact .inl h
theorem wpAnyT_walk {t : Nat} (hc : tailT md ops t = true) (hs : Region.noSelect ops = true) (hQ : ∀ c a d v w, Q (.panic c) (Act.put a d v) w → Q (.panic c) a w) :
    ∀ (L : List Mark) (listed : Array Bool) (a : Act) (w : World), Closed md ops listed → okT md ops t L listed = true → walkT P ops Q S t L a w → wpAnyT P md ops Q S t (fuelT L) listed a w
  | [], listed, a, w, _, hok, h => ⟨List.isEmpty_iff.1 hok, h⟩
  | .yes k :: L, listed, a, w, hcl, hok, h => by
    simp only [okT, Bool.and_eq_true, decide_eq_true_eq] at hok
    obtain ⟨hkt, hr, hfree, hok'⟩ := hok
    obtain ⟨o, h0, hS, v, ⟨hw, hy⟩, hrest⟩ := h
    have hr' : k ∈ Region.ready md ops listed := by simpa using hr
    exact wpAnyT_first hc hkt h0 (Region.noSelect_spec hs) (fun c a w => hQ c a _ _ w) _ _ _ _ hcl (Region.free_spec h0 hfree) hr' (.inl ⟨hw, hy⟩) hS
      (wpAnyT_walk hc hs hQ L _ _ w (hcl.set hr') hok' hrest)
  | .no k :: L, listed, a, w, hcl, hok, h => by
    simp only [okT, Bool.and_eq_true] at hok
    obtain ⟨hr, hok'⟩ := hok
    have hr' : Region.ready md ops listed = [k] := by simpa using hr
    obtain ⟨o, h0, hw, hop⟩ := h
    exact step_of_only h0 hr' hw (Oper.wp_mono (fun a' w' hh => ⟨hh.1, wpAnyT_walk hc hs hQ L _ _ w' (hcl.set (by rw [hr']; simp)) hok' hh.2⟩) hop)
  | .two i j :: L, listed, a, w, hcl, hok, h => by
    simp only [okT, Bool.and_eq_true] at hok
    obtain ⟨hr, hri, hrj, hok'⟩ := hok
    have hr' : Region.ready md ops listed = [i, j] := by simpa using hr
    have hri' : Region.ready md ops (listed.setIfInBounds i true) = [j] := by simpa using hri
    have hrj' : Region.ready md ops (listed.setIfInBounds j true) = [i] := by simpa using hrj
    obtain ⟨oi, oj, hoi, hoj, hij, ⟨hwi, h1⟩, hwj, h2⟩ := h
    have hci := hcl.set (i := i) (by rw [hr']; simp)
    have hcj := hcl.set (i := j) (by rw [hr']; simp)
    show wpAnyT P md ops Q S t (fuelT L + 1 + 1) listed a w
    refine ⟨fun he => (by rw [hr'] at he; cases he), fun k hk => ?_⟩
    rw [hr'] at hk
    simp only [List.mem_cons, List.not_mem_nil, or_false] at hk
    rcases hk with rfl | rfl
    · unfold wpOp
      simp only [hoi]
      rw [if_pos hwi]
      refine .inl (Oper.wp_mono (fun a' w' hh => ⟨hh.1, step_of_only hoj hri' hh.2.1 (Oper.wp_mono (fun a'' w'' h3 => ⟨h3.1, wpAnyT_walk hc hs hQ L _ _ w'' (hci.set (by rw [hri']; simp)) hok' h3.2⟩) hh.2.2)⟩) h1)
    · unfold wpOp
      simp only [hoj]
      rw [if_pos hwj]
      refine .inl (Oper.wp_mono (fun a' w' hh => ⟨hh.1, step_of_only hoi hrj' hh.2.1 (Oper.wp_mono (fun a'' w'' h3 => ⟨h3.1, ?_⟩) hh.2.2)⟩) h2)
      have hcji := hcj.set (i := i) (by rw [hrj']; simp)
      rw [Array.setIfInBounds_comm _ _ (Ne.symm hij)] at hcji ⊢
      exact wpAnyT_walk hc hs hQ L _ _ w'' hcji hok' h3.2
theorem wpIn_region_walkT {id : Nat} {a : Act} {w : World} {L : List Oper} (S : World → Prop) (fl : List Mark) (t : Nat) (hm : P.follows .mixedOrders = true) (hs : Region.noSelect L.toArray = true) (hn : noDefer L.toArray = true)
    (hf : fuelT fl = L.length) (hc : tailT .any L.toArray t = true) (hok : okT .any L.toArray t fl (Array.replicate L.toArray.size false) = true) (hq : ¬ LetsOut Q) (hQ : ∀ c a d v w, Q (.panic c) (Act.put a d v) w → Q (.panic c) a w)
    (h : walkT P L.toArray Q S t fl a w.drew) : (Code.region id L.toArray true).wpIn (Fence.wide.inRound l) m P Q a w := by
  refine wpIn_region_any hm (wpAnyIn_of hn hq _ _ _ _ (wpAny_of_T (S := S) (t := t) _ _ _ _ ?_))
  have hcl : Closed .any L.toArray (Array.replicate L.toArray.size false) := ⟨by simp, fun j oj _ hl => (by rw [getD_replicate_false] at hl; cases hl)⟩
  have := wpAnyT_walk (md := .any) hc hs hQ fl (Array.replicate L.toArray.size false) a w.drew hcl hok h
  rw [hf] at this
  simpa using this
theorem wp_region_walkT {id : Nat} {a : Act} {w : World} {L : List Oper} (S : World → Prop) (fl : List Mark) (t : Nat) (hm : P.follows .mixedOrders = true) (hs : Region.noSelect L.toArray = true)
    (hf : fuelT fl = L.length) (hc : tailT .any L.toArray t = true) (hok : okT .any L.toArray t fl (Array.replicate L.toArray.size false) = true) (hQ : ∀ c a d v w, Q (.panic c) (Act.put a d v) w → Q (.panic c) a w)
    (h : walkT P L.toArray Q S t fl a w.drew) : (Code.region id L.toArray true).wp P Q a w := by
  refine wp_region_any hm (wpAny_of_T (S := S) (t := t) _ _ _ _ ?_)
  have hcl : Closed .any L.toArray (Array.replicate L.toArray.size false) := ⟨by simp, fun j oj _ hl => (by rw [getD_replicate_false] at hl; cases hl)⟩
  have := wpAnyT_walk (md := .any) hc hs hQ fl (Array.replicate L.toArray.size false) a w.drew hcl hok h
  rw [hf] at this
  simpa using this
/-- The same, where nothing of it panics: so it is asked of no panic what it leaves. -/
def Calm (Q : Exit → Act → World → Prop) : Exit → Act → World → Prop := fun e a w => e = .normal ∧ Q e a w
theorem wpIn_region_calmT {id : Nat} {a : Act} {w : World} {L : List Oper} (S : World → Prop) (fl : List Mark) (t : Nat) (hm : P.follows .mixedOrders = true) (hs : Region.noSelect L.toArray = true) (hn : noDefer L.toArray = true)
    (hf : fuelT fl = L.length) (hc : tailT .any L.toArray t = true) (hok : okT .any L.toArray t fl (Array.replicate L.toArray.size false) = true)
    (h : walkT P L.toArray (Calm Q) S t fl a w.drew) : (Code.region id L.toArray true).wpIn (Fence.wide.inRound l) m P Q a w :=
  Go.wpIn_mono (wpIn_region_walkT S fl t hm hs hn hf hc hok (by rintro ⟨_, _, h, _⟩; cases h) (fun _ _ _ _ _ h => (by cases h.1)) h) (fun _ _ _ h => h.2)
theorem operIn_wide {o : Oper} {a : Act} {w : World} {K : Act → World → Prop} (h : o.wp P a w K Q) : o.wpIn Fence.wide m P a w K Q := by
  refine ⟨fun _ _ => trivial, ?_⟩
  show o.uponIn _ _ _ _ _ _ ((execOp a.eval o).run P w)
  unfold Oper.wp at h
  generalize (execOp a.eval o).run P w = r at h ⊢
  cases r with
  | halt x w' => cases x <;> first | exact h | exact h.elim
  | ok x w' =>
    cases x with
    | value v => exact h
    | skip => exact h
    | defer d => exact h
    | enter f args => exact ⟨fun h' => Bool.noConfusion h', callsIn_wide.2 h⟩
    | row r args =>
      refine ⟨fun h' => Bool.noConfusion h', fun c cs _ => ?_⟩
      obtain ⟨v, w'', hr, hs⟩ := h c cs
      exact ⟨v, w'', hr, stepsIn_wide.2 hs⟩
    | round l' f t a b => exact h.elim
    | _ => exact h.elim
theorem wpOpIn_wide (hq : ¬ LetsOut Q) {i : Nat} {a : Act} {w : World} {K : Act → World → Prop} (h : wpOp P ops Q i K a w) : wpOpIn Fence.wide m P ops Q i K a w := by
  unfold wpOp at h
  unfold Go.wpOpIn
  cases hi : ops[i]? with
  | none => simpa [hi] using h
  | some o =>
    simp only [hi] at h ⊢
    split
    · rename_i hw
      rw [if_pos hw] at h
      exact operIn_wide (h.resolve_right fun h' => hq h'.2)
    · rename_i hw
      rw [if_neg hw] at h
      exact ⟨fun _ _ => trivial, h⟩
theorem wpAnyIn_wide (hq : ¬ LetsOut Q) : ∀ (fuel : Nat) (listed : Array Bool) (a : Act) (w : World), wpAny P md ops Q fuel listed a w → wpAnyIn Fence.wide m P md ops Q fuel listed a w
  | 0, _, _, _, h => h
  | fuel + 1, _, _, _, h => ⟨h.1, fun i hi => wpOpIn_mono (fun a w => wpAnyIn_wide hq fuel _ a w) (wpOpIn_wide hq (h.2 i hi))⟩
/-- At the function's own level. -/
theorem wpIn_region_wideT {id : Nat} {a : Act} {w : World} {L : List Oper} (S : World → Prop) (fl : List Mark) (t : Nat) (hm : P.follows .mixedOrders = true) (hs : Region.noSelect L.toArray = true)
    (hf : fuelT fl = L.length) (hc : tailT .any L.toArray t = true) (hok : okT .any L.toArray t fl (Array.replicate L.toArray.size false) = true)
    (h : walkT P L.toArray (Calm Q) S t fl a w.drew) : (Code.region id L.toArray true).wpIn Fence.wide m P Q a w := by
  refine Go.wpIn_mono (Q := Calm Q) ?_ (fun _ _ _ h => h.2)
  refine wpIn_region_any hm (wpAnyIn_wide (by rintro ⟨_, _, h, _⟩; cases h) _ _ _ _ (wpAny_of_T (S := S) (t := t) _ _ _ _ ?_))
  have hcl : Closed .any L.toArray (Array.replicate L.toArray.size false) := ⟨by simp, fun j oj _ hl => (by rw [getD_replicate_false] at hl; cases hl)⟩
  have := wpAnyT_walk (md := .any) hc hs (fun _ _ _ _ _ h => (by cases h.1)) fl (Array.replicate L.toArray.size false) a w.drew hcl hok h
  rw [hf] at this
  simpa using this
theorem walkT_yes {L : List Oper} {t k : Nat} {o : Oper} {r : List Mark} {a : Act} {w : World} (h0 : L[k]? = some o) (hS : S w) {v : Value} (hw : Region.wanted o (yielded L.toArray a.tmps) = true) (hy : ∀ w', S w' → (execOp a.eval o).run P w' = .ok (.value v) w')
    (h : walkT P L.toArray Q S t r (a.put o.dst v) w) : walkT P L.toArray Q S t (.yes k :: r) a w := ⟨o, by simpa using h0, hS, v, ⟨hw, hy⟩, h⟩
theorem walkT_no {L : List Oper} {t k : Nat} {o : Oper} {r : List Mark} {a : Act} {w : World} (h0 : L[k]? = some o) (hw : Region.wanted o (yielded L.toArray a.tmps) = true)
    (h : ∀ K : Act → World → Prop, (∀ a' w', (k < t → S w') → walkT P L.toArray Q S t r a' w' → K a' w') → o.wp P a w K Q) : walkT P L.toArray Q S t (.no k :: r) a w :=
  ⟨o, by simpa using h0, hw, h _ fun _ _ hS' h' => ⟨hS', h'⟩⟩
theorem walkT_two {L : List Oper} {t i j : Nat} {oi oj : Oper} {r : List Mark} {a : Act} {w : World} (hoi : L[i]? = some oi) (hoj : L[j]? = some oj) (hij : i ≠ j) (hwi : Region.wanted oi (yielded L.toArray a.tmps) = true) (hwj : Region.wanted oj (yielded L.toArray a.tmps) = true)
    (h1 : ∀ K : Act → World → Prop, (∀ a' w', (i < t → S w') → Region.wanted oj (yielded L.toArray a'.tmps) = true → (∀ K' : Act → World → Prop, (∀ a'' w'', (j < t → S w'') → walkT P L.toArray Q S t r a'' w'' → K' a'' w'') → oj.wp P a' w' K' Q) → K a' w') → oi.wp P a w K Q)
    (h2 : ∀ K : Act → World → Prop, (∀ a' w', (j < t → S w') → Region.wanted oi (yielded L.toArray a'.tmps) = true → (∀ K' : Act → World → Prop, (∀ a'' w'', (i < t → S w'') → walkT P L.toArray Q S t r a'' w'' → K' a'' w'') → oi.wp P a' w' K' Q) → K a' w') → oj.wp P a w K Q) :
    walkT P L.toArray Q S t (.two i j :: r) a w :=
  ⟨oi, oj, by simpa using hoi, by simpa using hoj, hij, ⟨hwi, h1 _ fun _ _ hS hw hk => ⟨hS, hw, hk _ fun _ _ hS' h' => ⟨hS', h'⟩⟩⟩, hwj, h2 _ fun _ _ hS hw hk => ⟨hS, hw, hk _ fun _ _ hS' h' => ⟨hS', h'⟩⟩⟩
end
end Go.Proofs.YtcbebikcfcidmaaDoor

namespace Go.Proofs.YtcbebikcfcidmaaDoor
open Go.RowKit

/-- All that was there is as it was. -/
def Grow (w w' : World) : Prop := Below w.heap.size w w'
theorem Grow.refl (w : World) : Grow w w := Below.refl _ _
theorem Grow.trans {a b c : World} (h : Grow a b) (k : Grow b c) : Grow a c := Below.trans h (k.mono h.size)
theorem Grow.size {a b : World} (h : Grow a b) : a.heap.size ≤ b.heap.size := Below.size h
theorem Grow.drew (w : World) : Grow w w.drew := (Below.refl _ _).drew
theorem Grow.drewN (w : World) (n : Nat) : Grow w (w.drewN n) := ⟨rfl, rfl, rfl, Nat.le_refl _, fun _ _ => rfl⟩
theorem Grow.alloc (w : World) (o : Obj) : Grow w (w.alloc o) := (Below.refl _ _).alloc (Nat.le_refl _) o

/-- The slots that operations fill. -/
def dstsOf (L : List Oper) : List Nat := L.filterMap (·.dst)
/-- Values for the operations, put into their slots in the text's order. -/
def putF (vs : Nat → Value) : List Oper → Nat → Act → Act
  | [], _, a => a
  | o :: r, k, a => putF vs r (k + 1) (a.put o.dst (vs k))

theorem put_size (a : Act) (d : Option Tmp) (v : Value) : (a.put d v).tmps.size = a.tmps.size := by cases d <;> simp [Act.put]
theorem put_defers (a : Act) (d : Option Tmp) (v : Value) : (a.put d v).defers = a.defers := by cases d <;> simp [Act.put]
theorem put_get_ne {a : Act} {d : Option Tmp} {s : Nat} (v : Value) (h : d ≠ some s) : (a.put d v).tmps[s]? = a.tmps[s]? := by
  cases d with
  | none => rfl
  | some d => simp only [Act.put]; exact Array.getElem?_setIfInBounds_ne (fun e => h (by rw [e]))
theorem put_get {a : Act} {s : Nat} (v : Value) (h : s < a.tmps.size) : (a.put (some s) v).tmps[s]? = some v := by
  simp only [Act.put]; rw [Array.getElem?_setIfInBounds, if_pos rfl, if_pos h]
theorem putF_size (vs : Nat → Value) : ∀ (L : List Oper) (k : Nat) (a : Act), (putF vs L k a).tmps.size = a.tmps.size ∧ (putF vs L k a).defers = a.defers
  | [], _, _ => ⟨rfl, rfl⟩
  | o :: r, k, a => by
    have h := putF_size vs r (k + 1) (a.put o.dst (vs k))
    exact ⟨h.1.trans (put_size _ _ _), h.2.trans (put_defers _ _ _)⟩
theorem putF_ne (vs : Nat → Value) (s : Nat) : ∀ (L : List Oper) (k : Nat) (a : Act), s ∉ dstsOf L → (putF vs L k a).tmps[s]? = a.tmps[s]?
  | [], _, _, _ => rfl
  | o :: r, k, a, h => by
    have h1 : o.dst ≠ some s := fun e => h (by simp [dstsOf, e])
    have h2 : s ∉ dstsOf r := fun e => h (by
      simp only [dstsOf, List.mem_filterMap] at e ⊢
      obtain ⟨x, hx, hd⟩ := e
      exact ⟨x, List.mem_cons_of_mem _ hx, hd⟩)
    exact (putF_ne vs s r (k + 1) _ h2).trans (put_get_ne _ h1)
theorem putF_at (vs : Nat → Value) (s : Nat) : ∀ (L : List Oper) (k : Nat) (a : Act) (j : Nat) (o : Oper), (dstsOf L).Nodup → L[j]? = some o → o.dst = some s → s < a.tmps.size → (putF vs L k a).tmps[s]? = some (vs (k + j))
  | [], _, _, _, _, _, h, _, _ => by simp at h
  | o :: r, k, a, j, o', hn, h, hd, hs => by
    cases j with
    | zero =>
      simp at h
      subst h
      have hn' : s ∉ dstsOf r := by
        simp [dstsOf, hd] at hn
        simpa [dstsOf] using hn.1
      refine (putF_ne vs s r (k + 1) _ hn').trans ?_
      rw [hd]
      exact put_get _ hs
    | succ j =>
      simp at h
      have hn' : (dstsOf r).Nodup := by
        unfold dstsOf at hn ⊢
        cases ho : o.dst with
        | none => simpa [ho] using hn
        | some d => rw [List.filterMap_cons_some ho] at hn; exact (List.nodup_cons.1 hn).2
      have := putF_at vs s r (k + 1) (a.put o.dst (vs k)) j o' hn' h hd (by rw [put_size]; exact hs)
      show (putF vs r (k + 1) (a.put o.dst (vs k))).tmps[s]? = _
      rw [this]
      congr 2
      omega
theorem act_ext {a b : Act} (h : a.tmps = b.tmps) (h' : a.defers = b.defers) : a = b := by
  cases a; cases b; simp only at h h'; rw [h, h']

section
variable {P : Program} {L : List Oper} {Q : Exit → Act → World → Prop}

/-- The fact of operation number j. -/
def FactAt (L : List Oper) (F : Nat → Value → World → Prop) (j : Nat) (a : Act) (w : World) : Prop :=
  match (L[j]?).bind (·.dst) with
  | some d => F j (a.tmps[d]?.getD undef) w
  | none => F j undef w
/-- The facts of those that an operation waits for. -/
def FactsOf (L : List Oper) (F : Nat → Value → World → Prop) (after : Array Go.Edge) (a : Act) (w : World) : Prop := ∀ e ∈ after.toList, Region.binds .any e = true → FactAt L F e.on a w
/-- What is asked of operation number i, which is o. -/
def StepF (P : Program) (Q : Exit → Act → World → Prop) (L : List Oper) (F : Nat → Value → World → Prop) (base : List (Nat × Value)) (w0 : World) (i : Nat) (o : Oper) : Prop :=
  ∀ a w, Grow w0 w → (∀ p ∈ base, a.tmps[p.1]?.getD undef = p.2) → FactsOf L F o.after a w →
    Region.wanted o (yielded L.toArray a.tmps) = true ∧ ∀ K : Act → World → Prop, (∀ v w', Grow w w' → F i v w' → K (a.put o.dst v) w') → o.wp P a w K Q
/-- The same of each of a row of operations, from number k on. -/
def StepsF (P : Program) (Q : Exit → Act → World → Prop) (L : List Oper) (F : Nat → Value → World → Prop) (base : List (Nat × Value)) (w0 : World) : Nat → List Oper → Prop
  | _, [] => True
  | k, o :: r => StepF P Q L F base w0 k o ∧ StepsF P Q L F base w0 (k + 1) r
theorem StepsF.at {F : Nat → Value → World → Prop} {base : List (Nat × Value)} {w0 : World} : ∀ {r : List Oper} {k : Nat}, StepsF P Q L F base w0 k r → ∀ j o, r[j]? = some o → StepF P Q L F base w0 (k + j) o
  | [], _, _, _, _, h => by simp at h
  | o :: r, k, hs, j, o', h => by
    cases j with
    | zero => simp at h; subst h; exact hs.1
    | succ j =>
      simp at h
      have := StepsF.at hs.2 j o' h
      rwa [show k + 1 + j = k + (j + 1) by omega] at this

/-- What holds in the middle of such a region. -/
structure Mid (L : List Oper) (F : Nat → Value → World → Prop) (t : Nat) (a0 : Act) (w0 : World) (listed : Array Bool) (a : Act) (w : World) : Prop where
  grow : Grow w0 w
  size : a.tmps.size = a0.tmps.size
  defers : a.defers = a0.defers
  other : ∀ s, s ∉ dstsOf (L.take t) → a.tmps[s]? = a0.tmps[s]?
  fact : ∀ j, j < t → listed.getD j false = true → FactAt L F j a w

/-- Decidable conditions on the operations: each waits for elder ones alone; slots are filled once, and there are such; the last one waits for all. -/
def factOK (L : List Oper) (t n : Nat) : Bool :=
  decide (L.length = t + 1) && ((List.range (t + 1)).all fun i => match L[i]? with
    | some o => o.after.all fun e => !Region.binds .any e || decide (e.on < i)
    | none => false) && decide (dstsOf (L.take t)).Nodup && (dstsOf (L.take t)).all (fun d => decide (d < n)) && (L.take t).all (fun o => o.dst.isSome) && chainK .any L.toArray t

theorem nodup_slot : ∀ {L : List Oper} {i j : Nat} {o o' : Oper} {d : Nat}, (dstsOf L).Nodup → L[i]? = some o → L[j]? = some o' → o.dst = some d → o'.dst = some d → i = j
  | [], _, _, _, _, _, _, h, _, _, _ => by simp at h
  | x :: L, i, j, o, o', d, hn, hi, hj, h1, h2 => by
    have hin : ∀ {k : Nat} {y : Oper}, L[k]? = some y → y.dst = some d → d ∈ dstsOf L := fun hk hy => by
      unfold dstsOf
      rw [List.mem_filterMap]
      exact ⟨_, List.mem_iff_getElem?.2 ⟨_, hk⟩, hy⟩
    have htl : (dstsOf L).Nodup := by
      unfold dstsOf at hn ⊢
      cases ho : x.dst with
      | none => simpa [ho] using hn
      | some d => rw [List.filterMap_cons_some ho] at hn; exact (List.nodup_cons.1 hn).2
    have hhd : x.dst = some d → d ∉ dstsOf L := fun hx => by
      unfold dstsOf at hn ⊢
      rw [List.filterMap_cons_some hx] at hn; exact (List.nodup_cons.1 hn).1
    cases i with
    | zero =>
      cases j with
      | zero => rfl
      | succ j => simp at hi hj; subst hi; exact absurd (hin hj h2) (hhd h1)
    | succ i =>
      cases j with
      | zero => simp at hi hj; subst hj; exact absurd (hin hi h1) (hhd h2)
      | succ j => simp at hi hj; rw [nodup_slot htl hi hj h1 h2]

theorem wpAny_facts {F : Nat → Value → World → Prop} {base : List (Nat × Value)} {t : Nat} {a0 : Act} {w0 : World} {last : Oper}
    (hF : ∀ i v w w', Grow w w' → F i v w → F i v w')
    (hok : factOK L t a0.tmps.size = true) (hl : L[t]? = some last)
    (hb : ∀ p ∈ base, a0.tmps[p.1]?.getD undef = p.2) (hfree : ∀ p ∈ base, p.1 ∉ dstsOf (L.take t))
    (hsteps : StepsF P Q L F base w0 0 (L.take t))
    (hlast : ∀ vs w, Grow w0 w → (∀ j, j < t → F j (vs j) w) → Region.wanted last (yielded L.toArray (putF vs (L.take t) 0 a0).tmps) = true ∧ last.wp P (putF vs (L.take t) 0 a0) w (fun a' w' => Q .normal a' w') Q) :
    ∀ (fuel : Nat) (listed : Array Bool) (a : Act) (w : World), listed.size = L.length → (listed.toList.filter (· == false)).length ≤ fuel → Closed .any L.toArray listed →
      ((∀ i, i < L.length → listed.getD i false = true) ∧ Q .normal a w ∨ listed.getD t true = false ∧ Mid L F t a0 w0 listed a w) →
      wpAny P .any L.toArray Q fuel listed a w := by
  unfold factOK at hok
  simp only [Bool.and_eq_true, decide_eq_true_eq] at hok
  obtain ⟨⟨⟨⟨⟨hlen, hord⟩, hnod⟩, hlow⟩, hsome⟩, hchain⟩ := hok
  have hsz0 : L.toArray.size = t + 1 := by simpa using hlen
  have hmemT : ∀ (listed : Array Bool), Closed .any L.toArray listed → t ∈ Region.ready .any L.toArray listed → ∀ i, i < t → listed.getD i true = true := by
    intro listed hcl hm i hi
    cases hq : listed.getD i true with
    | true => rfl
    | false => exact absurd hm (chain_waits hchain (by rw [hsz0]) hcl (t - i) i rfl hi hq)
  intro fuel
  induction fuel with
  | zero =>
    intro listed a w hsz hf hcl h
    have hall : ∀ i, i < L.length → listed.getD i false = true := by
      intro i hi
      have h0 : listed.toList.filter (· == false) = [] := List.eq_nil_of_length_eq_zero (by omega)
      rw [List.filter_eq_nil_iff] at h0
      have h1 := h0 (listed[i]'(by omega)) (by simp)
      rw [Array.getD_eq_getD_getElem?, Array.getElem?_eq_getElem (by omega)]
      simpa using h1
    rcases h with ⟨_, hq⟩ | ⟨hq, _⟩
    · refine ⟨List.eq_nil_iff_forall_not_mem.2 fun i hi => ?_, hq⟩
      obtain ⟨hl1, o, ho, _⟩ := mem_ready.1 hi
      have hlt : i < L.length := by have := (Array.getElem?_eq_some_iff.1 ho).1; simpa using this
      have := hall i hlt
      rw [Array.getD_eq_getD_getElem?, Array.getElem?_eq_getElem (by omega)] at this hl1
      simp at this hl1
      rw [this] at hl1; cases hl1
    · have := hall t (by omega)
      rw [Array.getD_eq_getD_getElem?, Array.getElem?_eq_getElem (by omega)] at this hq
      simp at this hq
      rw [this] at hq; cases hq
  | succ fuel ih =>
    intro listed a w hsz hf hcl h
    -- nothing is ready only when all is listed
    have hready : Region.ready .any L.toArray listed = [] → ∀ i, i < L.length → listed.getD i false = true := by
      intro hr i
      induction i using Nat.strongRecOn with
      | _ i ihi =>
        intro hi
        cases hq : listed.getD i false with
        | true => rfl
        | false =>
          have hmem : i ∈ Region.ready .any L.toArray listed := by
            refine mem_ready.2 ⟨?_, L[i], by simp [hi], fun e he hbd => ?_⟩
            · rw [Array.getD_eq_getD_getElem?, Array.getElem?_eq_getElem (by omega)] at hq ⊢
              exact hq
            · have h1 := List.all_eq_true.1 hord i (List.mem_range.2 (by omega))
              rw [List.getElem?_eq_getElem hi] at h1
              have h2 := Array.all_eq_true'.1 h1 e he
              simp only [hbd, Bool.not_true, Bool.false_or, decide_eq_true_eq] at h2
              exact ihi e.on h2 (by omega)
          rw [hr] at hmem
          cases hmem
    refine ⟨fun hr => ?_, fun i hi => ?_⟩
    · rcases h with ⟨_, hq⟩ | ⟨hq, _⟩
      · exact hq
      · have := hready hr t (by omega)
        rw [Array.getD_eq_getD_getElem?, Array.getElem?_eq_getElem (by omega)] at this hq
        simp at this hq
        rw [this] at hq; cases hq
    · have hi0 := hi
      obtain ⟨hl1, o, ho, hdeps⟩ := mem_ready.1 hi
      have hlt : i < L.length := by have := (Array.getElem?_eq_some_iff.1 ho).1; simpa using this
      have hoL : L[i]? = some o := by simpa using ho
      rcases h with ⟨hall, _⟩ | ⟨htf, hmid⟩
      · have := hall i hlt
        rw [Array.getD_eq_getD_getElem?, Array.getElem?_eq_getElem (by omega)] at this hl1
        simp at this hl1
        rw [this] at hl1; cases hl1
      · have hfuel : ((listed.setIfInBounds i true).toList.filter (· == false)).length ≤ fuel := by
          have hi2 : i < listed.size := by omega
          have e1 : (listed.setIfInBounds i true).toList = listed.toList.set i true := by simp
          have hli : listed.toList[i]? = some false := by
            rw [Array.getD_eq_getD_getElem?, Array.getElem?_eq_getElem hi2] at hl1
            simp at hl1
            simp [hi2, hl1]
          rw [e1]
          have key : ∀ (l : List Bool) (i : Nat), l[i]? = some false → ((l.set i true).filter (· == false)).length + 1 = (l.filter (· == false)).length := by
            intro l
            induction l with
            | nil => intro i h; simp at h
            | cons b l ihl =>
              intro i h
              cases i with
              | zero => simp at h; subst h; simp
              | succ i =>
                have := ihl i (by simpa using h)
                rw [List.set_cons_succ]
                cases b <;> simp at this ⊢ <;> omega
          have := key _ _ hli
          omega
        by_cases hit : i = t
        · -- the last one
          subst hit
          have hallT := hmemT listed hcl hi0
          obtain rfl : last = o := by rw [hl] at hoL; injection hoL
          -- the values
          have hvs : ∃ vs : Nat → Value, a = putF vs (L.take i) 0 a0 ∧ ∀ j, j < i → F j (vs j) w := by
            refine ⟨fun j => match (L[j]?).bind (·.dst) with | some d => a.tmps[d]?.getD undef | none => undef, ?_, fun j hj => ?_⟩
            · have hs := putF_size (fun j => match (L[j]?).bind (·.dst) with | some d => a.tmps[d]?.getD undef | none => undef) (L.take i) 0 a0
              have ht : a.tmps = (putF (fun j => match (L[j]?).bind (·.dst) with | some d => a.tmps[d]?.getD undef | none => undef) (L.take i) 0 a0).tmps := by
                apply Array.ext_getElem?
                intro s
                by_cases hmem : s ∈ dstsOf (L.take i)
                · have hmem' := hmem
                  unfold dstsOf at hmem'
                  rw [List.mem_filterMap] at hmem'
                  obtain ⟨o', ho', hd'⟩ := hmem'
                  obtain ⟨j, hj, hj'⟩ := List.mem_iff_getElem.1 ho'
                  have hjL : (L.take i)[j]? = some o' := by rw [List.getElem?_eq_getElem hj, hj']
                  have hji : j < i := by simp at hj; omega
                  have hjL2 : L[j]? = some o' := by rw [List.getElem?_take, if_pos hji] at hjL; exact hjL
                  have hsl : s < a0.tmps.size := by have := List.all_eq_true.1 hlow s hmem; simpa using this
                  rw [putF_at _ s (L.take i) 0 a0 j o' hnod hjL hd' hsl, Nat.zero_add, hjL2]
                  simp only [Option.bind_some, hd']
                  rw [Array.getElem?_eq_getElem (by rw [hmid.size]; exact hsl)]
                  rfl
                · rw [putF_ne _ s _ _ _ hmem]
                  exact hmid.other s hmem
              have hd : a.defers = (putF (fun j => match (L[j]?).bind (·.dst) with | some d => a.tmps[d]?.getD undef | none => undef) (L.take i) 0 a0).defers := hmid.defers.trans hs.2.symm
              exact act_ext ht hd
            · have h1 := hmid.fact j hj (by
                have := hallT j hj
                rw [Array.getD_eq_getD_getElem?, Array.getElem?_eq_getElem (by omega)] at this ⊢
                exact this)
              unfold FactAt at h1
              show F j (match (L[j]?).bind (·.dst) with | some d => a.tmps[d]?.getD undef | none => undef) w
              cases hx : (L[j]?).bind (·.dst) with
              | none => rw [hx] at h1; exact h1
              | some d => rw [hx] at h1; exact h1
          obtain ⟨vs, rfl, hvs⟩ := hvs
          obtain ⟨hw, hop⟩ := hlast vs w hmid.grow hvs
          unfold wpOp
          simp only [ho]
          rw [if_pos hw]
          refine .inl (Oper.wp_mono (fun a' w' hq => ih _ a' w' (by simpa using hsz) hfuel (hcl.set hi0) (.inl ⟨fun k hk => ?_, hq⟩)) hop)
          by_cases hki : i = k
          · subst hki
            rw [Array.getD_eq_getD_getElem?, Array.getElem?_setIfInBounds, if_pos rfl, if_pos (by omega)]; rfl
          · rw [Array.getD_eq_getD_getElem?, Array.getElem?_setIfInBounds, if_neg hki]
            have := hallT k (by omega)
            rw [Array.getD_eq_getD_getElem?, Array.getElem?_eq_getElem (by omega)] at this
            rw [Array.getElem?_eq_getElem (by omega)]
            exact this
        · have hit' : i < t := by omega
          have hstep := hsteps.at i o (by rw [List.getElem?_take, if_pos hit']; exact hoL)
          rw [Nat.zero_add] at hstep
          have hbase : ∀ p ∈ base, a.tmps[p.1]?.getD undef = p.2 := by
            intro p hp
            rw [← hb p hp, hmid.other p.1 (hfree p hp)]
          have hfacts : FactsOf L F o.after a w := by
            intro e he hbd
            have he' : e ∈ o.after := by simpa using he
            have h1 := List.all_eq_true.1 hord i (List.mem_range.2 (by omega))
            rw [hoL] at h1
            have h2 := Array.all_eq_true'.1 h1 e he'
            simp only [hbd, Bool.not_true, Bool.false_or, decide_eq_true_eq] at h2
            exact hmid.fact e.on (by omega) (hdeps e he' hbd)
          obtain ⟨hw, hop⟩ := hstep a w hmid.grow hbase hfacts
          unfold wpOp
          simp only [ho]
          rw [if_pos hw]
          refine .inl (hop _ fun v w' hg hFv => ?_)
          refine ih _ _ w' (by simpa using hsz) hfuel (hcl.set hi0) (.inr ⟨?_, ?_⟩)
          · rw [Array.getD_eq_getD_getElem?, Array.getElem?_setIfInBounds, if_neg hit, ← Array.getD_eq_getD_getElem?]
            exact htf
          · have hdmem : ∀ d, o.dst = some d → d ∈ dstsOf (L.take t) := fun d hd => by
              unfold dstsOf
              rw [List.mem_filterMap]
              exact ⟨o, List.mem_iff_getElem?.2 ⟨i, by rw [List.getElem?_take, if_pos hit']; exact hoL⟩, hd⟩
            refine ⟨hmid.grow.trans hg, (put_size _ _ _).trans hmid.size, (put_defers _ _ _).trans hmid.defers, fun s hs => (put_get_ne v (fun e => hs (hdmem s e))).trans (hmid.other s hs), fun j hj hlj => ?_⟩
            by_cases hji : i = j
            · subst hji
              unfold FactAt
              rw [hoL]
              simp only [Option.bind_some]
              cases hd : o.dst with
              | none =>
                have h1 := List.all_eq_true.1 hsome o (List.mem_iff_getElem?.2 ⟨i, by rw [List.getElem?_take, if_pos hit']; exact hoL⟩)
                rw [hd] at h1
                cases h1
              | some d =>
                simp only
                have : (a.put (some d) v).tmps[d]?.getD undef = v := by
                  rw [put_get v (by
                    rw [hmid.size]
                    have := List.all_eq_true.1 hlow d (hdmem d hd)
                    simpa using this)]
                  rfl
                rw [this]
                exact hFv
            · rw [Array.getD_eq_getD_getElem?, Array.getElem?_setIfInBounds, if_neg hji, ← Array.getD_eq_getD_getElem?] at hlj
              have h1 := hmid.fact j hj hlj
              unfold FactAt at h1 ⊢
              cases hjb : (L[j]?).bind (·.dst) with
              | none => rw [hjb] at h1; exact hF j _ w w' hg h1
              | some d =>
                rw [hjb] at h1
                have hne : o.dst ≠ some d := fun e => by
                  -- two operations with one slot
                  obtain ⟨oj, hoj, hdj⟩ := Option.bind_eq_some_iff.1 hjb
                  have := nodup_slot hnod (i := i) (j := j) (by rw [List.getElem?_take, if_pos hit']; exact hoL) (by rw [List.getElem?_take, if_pos hj]; exact hoj) e hdj
                  exact hji this
                have : (a.put o.dst v).tmps[d]?.getD undef = a.tmps[d]?.getD undef := by
                  rw [put_get_ne v hne]
                simp only [this]
                exact hF j _ w w' hg h1

/-- A region that draws its order, by facts. -/
theorem wp_region_facts {id : Nat} {a0 : Act} {w0 : World} (F : Nat → Value → World → Prop) (base : List (Nat × Value)) (t : Nat) {last : Oper} (hm : P.follows .mixedOrders = true)
    (hF : ∀ i v w w', Grow w w' → F i v w → F i v w')
    (hok : factOK L t a0.tmps.size = true) (hl : L[t]? = some last)
    (hb : ∀ p ∈ base, a0.tmps[p.1]?.getD undef = p.2) (hfree : base.all (fun p => !(dstsOf (L.take t)).contains p.1) = true)
    (hsteps : StepsF P Q L F base w0 0 (L.take t))
    (hlast : ∀ vs w, Grow w0 w → (∀ j, j < t → F j (vs j) w) → Region.wanted last (yielded L.toArray (putF vs (L.take t) 0 a0).tmps) = true ∧ last.wp P (putF vs (L.take t) 0 a0) w (fun a' w' => Q .normal a' w') Q) :
    (Code.region id L.toArray true).wp P Q a0 w0 := by
  refine wp_region_any hm (wpAny_facts hF hok hl hb (fun p hp => ?_) hsteps hlast _ _ _ _ (by simp) (Nat.le_trans (List.length_filter_le _ _) (by simp)) ⟨by simp, fun j oj _ hl => (by rw [getD_replicate_false] at hl; cases hl)⟩ (.inr ⟨?_, ?_⟩))
  · have := List.all_eq_true.1 hfree p hp
    simpa using this
  · have hlt : t < L.length := (List.getElem?_eq_some_iff.1 hl).1
    rw [Array.getD_eq_getD_getElem?]
    simp [hlt]
  · exact ⟨Grow.drew _, rfl, rfl, fun _ _ => rfl, fun j _ hlj => (by rw [getD_replicate_false] at hlj; cases hlj)⟩
/-- The facts as a row. -/
def factsL (l : List (Value → World → Prop)) (i : Nat) (v : Value) (w : World) : Prop := match l[i]? with
  | some f => f v w
  | none => True
/-- It stays while memory grows. -/
def Stays (f : Value → World → Prop) : Prop := ∀ v w w', Grow w w' → f v w → f v w'
def AllStay : List (Value → World → Prop) → Prop
  | [] => True
  | f :: l => Stays f ∧ AllStay l
theorem AllStay.at {l : List (Value → World → Prop)} : ∀ {f}, AllStay l → f ∈ l → Stays f := by
  induction l with
  | nil => intro f _ h; cases h
  | cons g l ih =>
    intro f h hm
    rcases List.mem_cons.1 hm with rfl | hm
    · exact h.1
    · exact ih h.2 hm
theorem factsL_mono {l : List (Value → World → Prop)} (h : AllStay l) (i : Nat) (v : Value) (w w' : World) (hg : Grow w w') (hf : factsL l i v w) : factsL l i v w' := by
  unfold factsL at hf ⊢
  cases hx : l[i]? with
  | none => trivial
  | some f =>
    rw [hx] at hf
    exact h.at (List.mem_of_getElem? hx) v w w' hg hf
theorem stays_pure (p : Value → Prop) : Stays (fun v _ => p v) := fun _ _ _ _ h => h
/-- What is behind all but the last. -/
def FactsL (vs : Nat → Value) (w : World) : Nat → List (Value → World → Prop) → Prop
  | _, [] => True
  | k, f :: l => f (vs k) w ∧ FactsL vs w (k + 1) l
theorem FactsL.of {vs : Nat → Value} {w : World} : ∀ {l : List (Value → World → Prop)} {k : Nat}, (∀ (j : Nat) (f : Value → World → Prop), l[j]? = some f → f (vs (k + j)) w) → FactsL vs w k l
  | [], _, _ => trivial
  | f :: l, k, h => ⟨h 0 f rfl, FactsL.of fun j g hj => by have := h (j + 1) g (by simpa using hj); rwa [show k + (j + 1) = k + 1 + j by omega] at this⟩
/-- The steps, each with its own fact. -/
def StepL (P : Program) (Q : Exit → Act → World → Prop) (L : List Oper) (l : List (Value → World → Prop)) (base : List (Nat × Value)) (w0 : World) (f : Value → World → Prop) (o : Oper) : Prop :=
  ∀ a w, Grow w0 w → (∀ p ∈ base, a.tmps[p.1]?.getD undef = p.2) → FactsOf L (factsL l) o.after a w →
    Region.wanted o (yielded L.toArray a.tmps) = true ∧ ∀ K : Act → World → Prop, (∀ v w', Grow w w' → f v w' → K (a.put o.dst v) w') → o.wp P a w K Q
def StepsL (P : Program) (Q : Exit → Act → World → Prop) (L : List Oper) (l : List (Value → World → Prop)) (base : List (Nat × Value)) (w0 : World) : List (Value → World → Prop) → List Oper → Prop
  | [], [] => True
  | f :: fs, o :: os => StepL P Q L l base w0 f o ∧ StepsL P Q L l base w0 fs os
  | _, _ => False
theorem StepsL.steps {l : List (Value → World → Prop)} {base : List (Nat × Value)} {w0 : World} : ∀ {fs : List (Value → World → Prop)} {os : List Oper} {k : Nat}, (∀ j, fs[j]? = l[k + j]?) → StepsL P Q L l base w0 fs os → StepsF P Q L (factsL l) base w0 k os
  | [], [], _, _, _ => trivial
  | [], _ :: _, _, _, h => h.elim
  | _ :: _, [], _, _, h => h.elim
  | f :: fs, o :: os, k, hk, h => by
    refine ⟨fun a w hg hb hf => ?_, StepsL.steps (k := k + 1) (fun j => by have := hk (j + 1); rw [List.getElem?_cons_succ] at this; rw [this]; congr 1; omega) h.2⟩
    obtain ⟨h1, h2⟩ := h.1 a w hg hb hf
    refine ⟨h1, fun K hK => h2 K fun v w' hg hfv => hK v w' hg ?_⟩
    have h0 := hk 0
    simp at h0
    unfold factsL
    rw [← h0]
    exact hfv
theorem wp_region_list {id : Nat} {a0 : Act} {w0 : World} (l : List (Value → World → Prop)) (base : List (Nat × Value)) (t : Nat) {last : Oper} (hm : P.follows .mixedOrders = true)
    (hF : AllStay l) (hlen : l.length = t)
    (hok : factOK L t a0.tmps.size = true) (hl : L[t]? = some last)
    (hb : ∀ p ∈ base, a0.tmps[p.1]?.getD undef = p.2) (hfree : base.all (fun p => !(dstsOf (L.take t)).contains p.1) = true)
    (hsteps : StepsL P Q L l base w0 l (L.take t))
    (hlast : ∀ vs w, Grow w0 w → FactsL vs w 0 l → Region.wanted last (yielded L.toArray (putF vs (L.take t) 0 a0).tmps) = true ∧ last.wp P (putF vs (L.take t) 0 a0) w (fun a' w' => Q .normal a' w') Q) :
    (Code.region id L.toArray true).wp P Q a0 w0 :=
  wp_region_facts (factsL l) base t hm (factsL_mono hF) hok hl hb hfree (StepsL.steps (fun j => by rw [Nat.zero_add]) hsteps) fun vs w hg h => hlast vs w hg (FactsL.of fun j f hj => by
    have hjt : j < t := by rw [← hlen]; exact (List.getElem?_eq_some_iff.1 hj).1
    have := h j hjt
    unfold factsL at this
    rw [hj] at this
    rwa [Nat.zero_add])
end
end Go.Proofs.YtcbebikcfcidmaaDoor

namespace Go.Proofs.YtcbebikcfcidmaaDoor
open Go.RowKit

/-- Is a number valid? -/
def okF (n d : Nat) : Bool := (decide (0 < blen d) && decide (blen d ≤ 131072)) && decide (blen n ≤ 131072)
theorem blen_leM {n M : Nat} (h : n < 2 ^ M) : blen n ≤ M := blen_le h
theorem lt_of_blenM {n M : Nat} (h : blen n ≤ M) : n < 2 ^ M := Nat.lt_of_lt_of_le (lt_blen n) (Nat.pow_le_pow_right (by omega) h)
theorem short_of_lt {n M : Nat} (h : n < 2 ^ M) (hM : M = 64 * 2048) : Short n := nrow_length_le (by rw [← hM]; exact h)
theorem short_iffM {n M : Nat} (hM : M = 64 * 2048) : blen n ≤ M ↔ Short n := ⟨fun h => short_of_lt (lt_of_blenM h) hM, fun h => blen_leM (short_lt h hM)⟩
theorem short_iff {n : Nat} : blen n ≤ 131072 ↔ Short n := short_iffM (by decide)
theorem okF_iff {n d : Nat} : okF n d = true ↔ Short n ∧ Short d ∧ d ≠ 0 := by
  unfold okF
  simp only [Bool.and_eq_true, decide_eq_true_eq]
  rw [short_iff, short_iff]
  constructor
  · rintro ⟨⟨h1, h2⟩, h3⟩
    exact ⟨h3, h2, fun e => by rw [e] at h1; exact absurd h1 (by decide)⟩
  · rintro ⟨h1, h2, h3⟩
    exact ⟨⟨blen_pos h3, h2⟩, h1⟩

theorem NRow.short {B : Nat} {w : World} {v : Value} {n : Nat} (h : NRow B w v (nrow n)) (hs : Short n) : NNum 2048 w v n := by
  have := h.num (nrow_fits n) hs
  rwa [lv_nrow] at this

/-- A number as it lies: numerator, denominator. -/
def frV (s : Bool) (vn vd : Value) : Value := .agg #[.bool s, vn, vd]
/-- A number that may be read. -/
def FrNum (K : Nat) (w : World) (vn vd : Value) (n d : Nat) : Prop := NNum K w vn n ∧ NNum K w vd d
theorem FrNum.grow {K n d : Nat} {w w' : World} {vn vd : Value} (h : FrNum K w vn vd n d) (hg : Grow w w') : FrNum K w' vn vd n d := ⟨h.1.below hg, h.2.below hg⟩

section
variable {K : Nat} {w : World} {n d : Nat}

set_option maxHeartbeats 1000000 in
theorem fvalid_any {vn vd : Value} (s : Bool) (h : FrNum K w vn vd n d) (hK : K ≤ 137438953472) :
    Calls Tryd.prog 37 #[.agg #[.bool s, vn, vd]] w (Just (.bool (okF n d)) w) := by
  have hg := h.grow (Grow.alloc w (.cells #[.bool s, vn, vd] 35))
  have hD := bits_p hg.2 hK
  have hN := bits_p hg.1 hK
  obtain ⟨⟨a, ca, A, rfl, _, _, _, _, _, _⟩, ⟨b, cb, B, rfl, _, _, _, _, _, _⟩⟩ := h
  unfold okF
  obtain ⟨p, hp⟩ : ∃ p, p = blen d := ⟨_, rfl⟩
  obtain ⟨q, hq⟩ : ∃ q, q = blen n := ⟨_, rfl⟩
  rw [← hp] at hD ⊢
  rw [← hq] at hN ⊢
  have HD2 := Lib.hid hD
  have HN2 := Lib.hid hN
  have hc : (decide ((0 : Int) < (p : Int)) = decide (0 < p)) ∧ (decide ((p : Int) ≤ 131072) = decide (p ≤ 131072)) ∧ (decide ((q : Int) ≤ 131072) = decide (q ≤ 131072)) := by
    refine ⟨?_, ?_, ?_⟩ <;> (congr 1; apply propext; omega)
  obtain ⟨c1, c2, c3⟩ := hc
  have hcase : (0 < p ∧ p ≤ 131072) ∨ (0 < p ∧ ¬ p ≤ 131072) ∨ ¬ 0 < p := by omega
  clear hD hN hg hp hq
  rcases hcase with ⟨h1, h2⟩ | ⟨h1, h2⟩ | h1
  all_goals
    first | (have e1 : decide (0 < p) = true := by simp [h1]) | (have e1 : decide (0 < p) = false := by simp; omega)
    try first | (have e2 : decide (p ≤ 131072) = true := by simp [h2]) | (have e2 : decide (p ≤ 131072) = false := by simp; omega)
    rw [e1]
    try rw [e2]
    go_enter Tryd.func37, Tryd.ntmps37
    go_wp2_with (first
      | (go_at_call 54; (with_reducible refine HD2.out.mono ?_); rintro e W ⟨rfl, rfl⟩)
      | (go_at_call 54; (with_reducible refine HN2.out.mono ?_); rintro e W ⟨rfl, rfl⟩)
      | fail)
    go_ret
    exact ⟨by simp, (Below.refl _ _).alloc (Nat.le_refl _) _⟩

/-- What 'panic(errno)' throws. -/
def thrown (c : Int) : List PanicEntry := [{ v := .iface 24 (.int .i64 c), recovered := false }]
/-- What 'check' does with one number. -/
def CheckPost (ok : Bool) (w : World) (e : Ending) (w' : World) : Prop := e = (if ok then .returned (.tuple #[]) else .panicked (thrown 2)) ∧ Below w.heap.size w w'
def CheckRel (n d : Nat) (w : World) (i : Value) (wr : World) : Prop := ∃ k : Nat, k ≤ 1 ∧ i = .int .i64 (k : Int) ∧ (k = 1 → okF n d = true) ∧ Below w.heap.size w wr

set_option maxHeartbeats 1000000 in
theorem fcheck_any {vn vd : Value} (s : Bool) (g : Nat) (hc0 : w.cell? ⟨g, 0, none⟩ = some (.bool s)) (hc1 : w.cell? ⟨g, 1, none⟩ = some vn) (hc2 : w.cell? ⟨g, 2, none⟩ = some vd) (h : FrNum K w vn vd n d) (hK : K ≤ 137438953472) :
    Calls Tryd.prog 23 #[.slice (some ⟨g, 0, none⟩) 1 1] w (CheckPost (okF n d) w) := by
  have hlt := World.block_lt_of_cell? w _ hc0
  have H := Lib.hid h
  obtain ⟨⟨a, ca, A, rfl, _, _, _, _, _, _⟩, ⟨b, cb, B, rfl, _, _, _, _, _, _⟩⟩ := h
  have HC := Lib.hid (And.intro hc0 (And.intro hc1 hc2))
  clear hc0 hc1 hc2
  go_enter Tryd.func23, Tryd.ntmps23
  go_wp2_with fail
  go_loopw [6] (fun i wr => CheckRel n d w i wr) (fun i _ => 1 - (intOf i).toNat)
  case atStart => exact ⟨0, by omega, rfl, by omega, Below.refl _ _⟩
  case round =>
    obtain ⟨k, hk, rfl, hkv, hb⟩ := hrel
    have hc0 := (hb.cell (p := ⟨g, 0, none⟩) hlt).trans HC.out.1
    have hc1 := (hb.cell (p := ⟨g, 1, none⟩) hlt).trans HC.out.2.1
    have hc2 := (hb.cell (p := ⟨g, 2, none⟩) hlt).trans HC.out.2.2
    have HB := Lib.hid hb
    have HK := Lib.hid hkv
    clear hkv
    by_cases h0 : k = 0
    · subst h0
      have hb2 : Below w.heap.size w (wr.alloc (.cells #[.bool s, .slice a A.length ca, .slice b B.length cb] 35)) := hb.alloc hb.size _
      have hv := fvalid_any s (H.out.grow hb2) hK
      have HV := Lib.hid hv
      have HB2 := Lib.hid hb2
      clear hb hb2 hv
      cases hok : okF n d with
      | true =>
        rw [hok] at HV
        have HV2 := Lib.hid HV.out
        clear HV
        go_wp2_with (first | (go_at_call 37; refine HV2.out.mono ?_; rintro e w' ⟨rfl, hb3⟩; have HB3 := Lib.hid (HB2.out.trans (hb3.mono HB2.out.size)); clear hb3) | fail)
        go_roundw
        case rel => exact ⟨1, by omega, by go_num, fun _ => hok, HB3.out⟩
        case measure => simp [intOf]
      | false =>
        rw [hok] at HV
        have HV2 := Lib.hid HV.out
        clear HV
        go_wp2_with (first | (go_at_call 37; refine HV2.out.mono ?_; rintro e w' ⟨rfl, hb3⟩; have HB3 := Lib.hid (HB2.out.trans (hb3.mono HB2.out.size)); clear hb3) | fail)
        exact ⟨rfl, rfl, HB3.out⟩
    · obtain rfl : k = 1 := by omega
      go_wp2_with fail
      first | go_end0 | skip
      exact ⟨by rw [HK.out (by trivial)]; rfl, HB.out⟩
end
end Go.Proofs.YtcbebikcfcidmaaDoor

namespace Go.Proofs.YtcbebikcfcidmaaDoor
open Go.RowKit

def DivideRes (na nb : Nat) (w : World) (e : Ending) (w' : World) : Prop :=
  ∃ q r, e = .returned (.tuple #[q, r]) ∧ NRow w.heap.size w' q (nrow (na / nb)) ∧ NRow w.heap.size w' r (nrow (na % nb)) ∧ Below w.heap.size w w'

set_option maxHeartbeats 1000000 in
theorem divide_less (a b : Option Addr) (ca cb na nb : Nat) (w : World) (hl : (nrow na).length < (nrow nb).length) (hs : (nrow na).length ≤ 1099511627776) (h2 : (nrow na).length ≤ ca) (h3 : a = none → ca = 0) (ma : NatAt w a (nrow na)) :
    Calls Tryd.prog 70 #[.slice a (nrow na).length ca, .slice b (nrow nb).length cb] w (DivideRes na nb w) := by
  have hlt := nrow_lt hl
  have HQ : Hid (na / nb = 0 ∧ na % nb = na) := Lib.hid ⟨Nat.div_eq_of_lt hlt, Nat.mod_eq_of_lt hlt⟩
  have HC := Lib.hid (clone_any a ca (nrow na) w hs h2 h3 ma)
  clear hlt hs h2 h3 ma
  go_enter Tryd.func70, Tryd.ntmps70
  go_wp2_with fail
  refine HC.out.mono ?_
  rintro e w2 ⟨v, rfl, hr, hb⟩
  have HR := Lib.hid hr
  have HB := Lib.hid hb
  clear hr hb
  go_wp2_with fail
  go_ret2
  exact ⟨_, v, rfl, by rw [HQ.out.1]; exact NRow.nil _ _, by rw [HQ.out.2]; exact HR.out, HB.out⟩

set_option maxHeartbeats 2000000 in
theorem divide_one (a b : Option Addr) (ca cb na nb : Nat) (w : World) (hl : (nrow nb).length = 1) (hp : 0 < (nrow na).length) (hs : (nrow na).length ≤ 1099511627776) (h2 : (nrow na).length ≤ ca) (h3 : a = none → ca = 0) (ma : NatAt w a (nrow na)) (mb : NatAt w b (nrow nb)) :
    Calls Tryd.prog 70 #[.slice a (nrow na).length ca, .slice b (nrow nb).length cb] w (DivideRes na nb w) := by
  have HC := Lib.hid (clone_any a ca (nrow na) w hs h2 h3 ma)
  obtain ⟨x, hx⟩ : ∃ x, nrow nb = [x] := by
    rcases hr : nrow nb with _ | ⟨x, _ | ⟨y, l⟩⟩
    · rw [hr] at hl; simp at hl
    · exact ⟨x, rfl⟩
    · rw [hr] at hl; simp at hl
  have hxn : x = nb := by have := lv_nrow nb; rw [hx, lv_one] at this; exact this
  subst hxn
  have hx0 : 0 < x := by
    rcases Nat.eq_zero_or_pos x with h | h
    · rw [h, nrow_zero] at hx; simp at hx
    · exact h
  have hxb : x < 18446744073709551616 := by have := nrow_fits x; rw [hx] at this; exact this x (by simp)
  obtain ⟨bb, ob, rfl, _⟩ := mb 0 (by omega)
  have MB := Lib.hid mb
  obtain ⟨N, hN⟩ : ∃ N, N = (nrow na).length := ⟨_, rfl⟩
  have HN := Lib.hid hN
  have HX := Lib.hid hx
  have nI : ¬ (N : Int) < 1 := by omega
  have HP := Lib.hid hp
  have HS := Lib.hid hs
  rw [hl, ← hN]
  rw [← hN] at HC
  clear hx hN mb hp hs h2 h3 ma hl
  have HC := Lib.hid HC
  go_enter Tryd.func70, Tryd.ntmps70
  go_wp2_with fail
  refine HC.out.mono ?_
  rintro e w2 ⟨v, rfl, hr, hb⟩
  have HR := Lib.hid hr
  have HB := Lib.hid hb
  obtain ⟨v1, v2, rfl, _, _, hat⟩ := hr.at_
  obtain ⟨g, off, rfl, _⟩ := hat 0 HP.out
  obtain ⟨rfl, _, hgB, _, _, hsg⟩ := hr.seg
  have hcell : w2.cell? ⟨bb, ob, none⟩ = some (.int .u64 (x : Int)) := by
    obtain ⟨b', o', e', hlt', hc'⟩ := MB.out.lt (i := 0) (by rw [HX.out]; simp)
    cases e'
    rw [HX.out, Nat.add_zero] at hc'
    exact (hb.cell (p := ⟨bb, ob, none⟩) hlt').trans hc'
  have hby := divideByLimb_any g 0 v2 x (nrow na) w2 HS.out (nrow_fits _) hx0 hxb hsg
  rw [← HN.out] at hby ⊢
  have HBY := Lib.hid hby
  have HGB := Lib.hid hgB
  clear hr hb hat hsg hby hgB
  go_wp2_with fail
  refine HBY.out.mono ?_
  rintro e w3 ⟨O, r, rfl, hO, fO, hq, hrm, hs3, hw3⟩
  rw [lv_nrow] at hq hrm
  have hrow3 := HR.out.wrote (by simpa using hw3) hs3 hO
  rw [← HN.out] at hrow3
  have ht := trim_own hrow3 fO (by have := HS.out; omega)
  rw [hq] at ht
  have HT := Lib.hid ht
  have HB3 : Hid (Below w.heap.size w w3) := Lib.hid (HB.out.trans (hw3.below HB.out.size HGB.out))
  have hr64 : r < 18446744073709551616 := by rw [hrm]; exact Nat.lt_trans (Nat.mod_lt _ hx0) hxb
  have HRM := Lib.hid hrm
  clear hO fO hq hrm hs3 hw3 hrow3 ht hcell
  go_wp2_with fail
  refine HT.out.mono ?_
  rintro e w4 ⟨v, rfl, hv, rfl⟩
  have HV := Lib.hid hv
  have HOF := Lib.hid (of_any r w3 hr64)
  clear hv
  go_wp2_with fail
  refine HOF.out.mono ?_
  rintro e w5 ⟨v5, rfl, hv5, hb5⟩
  have HV5 := Lib.hid (hv5.more (B' := w.heap.size) HB3.out.size)
  have HVq := Lib.hid (HV.out.below hb5 (Nat.le_refl _))
  have HB5 := Lib.hid (HB3.out.trans (hb5.mono HB3.out.size))
  clear hv5 hb5
  go_wp2_with fail
  go_ret2
  exact ⟨v, v5, rfl, HVq.out, by rw [← HRM.out]; exact HV5.out, HB5.out⟩
end Go.Proofs.YtcbebikcfcidmaaDoor
