/-
  The texts NatRoundT, one behind the other.
-/
import Derived.Test.YtofpcdjoljjnoaaDoorTapZ08

namespace Go.Proofs.YtofpcdjoljjnoaaDoor
open Go.RowKit

section
variable {P : Program} {l m : Nat} {ops : Array Oper} {Q : Exit → Act → World → Prop} {md : Region.Mode} {S : World → Prop}

/-- As 'wpAnyH', but that S need not hold behind operations from t on. -/
def wpAnyT (P : Program) (md : Region.Mode) (ops : Array Oper) (Q : Exit → Act → World → Prop) (S : World → Prop) (t : Nat) : Nat → Array Bool → Act → World → Prop
  | 0, listed, a, w => Region.ready md ops listed = [] ∧ Q .normal a w
  | fuel + 1, listed, a, w =>
    (Region.ready md ops listed = [] → Q .normal a w) ∧
    ∀ i ∈ Region.ready md ops listed, wpOp P ops Q i (fun a' w' => (i < t → S w') ∧ wpAnyT P md ops Q S t fuel (listed.setIfInBounds i true) a' w') a w
theorem wpAny_of_T {t : Nat} : ∀ (fuel : Nat) (listed : Array Bool) (a : Act) (w : World), wpAnyT P md ops Q S t fuel listed a w → wpAny P md ops Q fuel listed a w
  | 0, _, _, _, h => h
  | fuel + 1, _, _, _, h => ⟨h.1, fun i hi => wpOp_mono (fun a' w' h' => wpAny_of_T fuel _ a' w' h'.2) (h.2 i hi)⟩
theorem chain_waitsT {t : Nat} (hc : chainK md ops t = true) (ht : t < ops.size) {listed : Array Bool} (h : Closed md ops listed) : ∀ (d i : Nat), t - i = d → i < t → listed.getD i true = false → t ∉ Region.ready md ops listed := by
  intro d
  induction d using Nat.strongRecOn with
  | _ d ih =>
    intro i hd hit hun hmem
    have h1 := List.all_eq_true.1 hc i (List.mem_range.2 hit)
    obtain ⟨j, hj, hj2⟩ := List.any_eq_true.1 h1
    simp only [Bool.and_eq_true, decide_eq_true_eq] at hj2
    have hjt : j < t + 1 := List.mem_range.1 hj
    obtain ⟨oj, hoj, e, he, hb, hon⟩ := Region.waitsFor_spec hj2.2
    by_cases hjt' : j = t
    · subst hjt'
      obtain ⟨_, ot, hot, hall⟩ := mem_ready.1 hmem
      rw [hoj] at hot
      cases hot
      have := hall e he hb
      rw [hon, getD_both hun] at this
      cases this
    · have hjun : listed.getD j true = false := by
        refine getD_in (by rw [h.1]; omega) ?_
        cases hq : listed.getD j false with
        | false => rfl
        | true =>
          have := h.2 j oj hoj hq e he hb
          rw [hon, getD_both hun] at this
          cases this
      exact ih (t - j) (by omega) j rfl (by omega) hjun hmem
/-- Whatever stands at the end waits for all that stands before it. -/
def tailT (md : Region.Mode) (ops : Array Oper) (t : Nat) : Bool := (List.range ops.size).all fun j => decide (j < t) || chainK md ops j
theorem wpAnyT_first {t i : Nat} {oi : Oper} {v : Value} (hc : tailT md ops t = true) (hit : i < t) (hi : ops[i]? = some oi) (hsel : ∀ (j : Nat) (o : Oper) cs b, ops[j]? = some o → o.op ≠ .select cs b)
    (hQ : ∀ c a w, Q (.panic c) (a.put oi.dst v) w → Q (.panic c) a w) :
    ∀ (fuel : Nat) (listed : Array Bool) (a : Act) (w : World), Closed md ops listed →
      (∀ j oj, ops[j]? = some oj → j ≠ i → listed.getD j true = false → (∀ e ∈ oj.after, Region.binds md e = true → e.on ≠ i) → oi.apart ops oj = true) →
      i ∈ Region.ready md ops listed → YieldsIf P ops S oi v a → S w →
      wpAnyT P md ops Q S t fuel (listed.setIfInBounds i true) (a.put oi.dst v) w → wpAnyT P md ops Q S t (fuel + 1) listed a w := by
  intro fuel
  induction fuel with
  | zero =>
    intro listed a w _ _ hr hy hS H
    refine ⟨fun h => (by rw [h] at hr; cases hr), fun j hj => ?_⟩
    by_cases hji : j = i
    · subst hji; exact hy.wpOp hi hS ⟨fun _ => hS, H⟩
    · have := ready_mono hj hji
      rw [H.1] at this
      cases this
  | succ fuel ih =>
    intro listed a w hcl hfree hr hy hS H
    refine ⟨fun h => (by rw [h] at hr; cases hr), fun j hj => ?_⟩
    by_cases hji : j = i
    · subst hji; exact hy.wpOp hi hS ⟨fun _ => hS, H⟩
    · obtain ⟨hjun, oj, hoj, hall⟩ := mem_ready.1 hj
      have hjs : j < ops.size := (Array.getElem?_eq_some_iff.1 hoj).1
      have hjt : j < t := by
        rcases Nat.lt_or_ge j t with h | h
        · exact h
        · exfalso
          have h1 := List.all_eq_true.1 hc j (List.mem_range.2 hjs)
          simp only [Bool.or_eq_true, decide_eq_true_eq] at h1
          exact chain_waitsT (h1.resolve_left (by omega)) hjs hcl _ i rfl (by omega) (mem_ready.1 hr).1 hj
      have h1 := H.2 j (ready_mono hj hji)
      have hnot : ∀ e ∈ oj.after, Region.binds md e = true → e.on ≠ i := fun e he hb heq => by
        have h1 := hall e he hb
        have h0 := (mem_ready.1 hr).1
        rw [heq, getD_both h0] at h1
        cases h1
      have h1' := wpOp_mono (fun a' w' (h3 : (j < t → S w') ∧ wpAnyT P md ops Q S t fuel ((listed.setIfInBounds i true).setIfInBounds j true) a' w') => (⟨h3.1 hjt, h3.2⟩ : S w' ∧ _)) h1
      have h2 := wpOp_putIf hoj (hfree j oj hoj hji hjun hnot) (fun cs b => hsel i oi cs b hi) (fun cs b => hsel j oj cs b hoj) hQ hy h1'
      have hfree' : ∀ k ok, ops[k]? = some ok → k ≠ i → (listed.setIfInBounds j true).getD k true = false →
          (∀ e ∈ ok.after, Region.binds md e = true → e.on ≠ i) → oi.apart ops ok = true := fun k ok hk hki hun hno => by
        refine hfree k ok hk hki ?_ hno
        by_cases hjk : j = k
        · subst hjk; exact hjun
        · rw [getD_set_ne true hjk] at hun; exact hun
      refine wpOp_mono (fun a' w' h3 => ⟨fun _ => h3.2.1, ih (listed.setIfInBounds j true) a' w' (hcl.set hj) hfree' (ready_mono hr (Ne.symm hji)) h3.1 h3.2.1 ?_⟩) h2
      rw [Array.setIfInBounds_comm _ _ hji]
      exact h3.2.2

/-- Taken at any time; the only one ready; two that are ready. -/
inductive Mark where
  | yes (k : Nat)
  | no (k : Nat)
  | two (i j : Nat)
def Mark.size : Mark → Nat | .two _ _ => 2 | _ => 1
def fuelT : List Mark → Nat | [] => 0 | m :: r => fuelT r + m.size
def walkT (P : Program) (ops : Array Oper) (Q : Exit → Act → World → Prop) (S : World → Prop) (t : Nat) : List Mark → Act → World → Prop
  | [], a, w => Q .normal a w
  | .yes k :: r, a, w => ∃ o, ops[k]? = some o ∧ S w ∧ ∃ v, (Region.wanted o (yielded ops a.tmps) = true ∧ ∀ w', S w' → (execOp a.eval o).run P w' = .ok (.value v) w') ∧ walkT P ops Q S t r (a.put o.dst v) w
  | .no k :: r, a, w => ∃ o, ops[k]? = some o ∧ Region.wanted o (yielded ops a.tmps) = true ∧ o.wp P a w (fun a' w' => (k < t → S w') ∧ walkT P ops Q S t r a' w') Q
  | .two i j :: r, a, w => ∃ oi oj, ops[i]? = some oi ∧ ops[j]? = some oj ∧ i ≠ j ∧
      (Region.wanted oi (yielded ops a.tmps) = true ∧ oi.wp P a w (fun a' w' => (i < t → S w') ∧ Region.wanted oj (yielded ops a'.tmps) = true ∧ oj.wp P a' w' (fun a'' w'' => (j < t → S w'') ∧ walkT P ops Q S t r a'' w'') Q) Q) ∧
      (Region.wanted oj (yielded ops a.tmps) = true ∧ oj.wp P a w (fun a' w' => (j < t → S w') ∧ Region.wanted oi (yielded ops a'.tmps) = true ∧ oi.wp P a' w' (fun a'' w'' => (i < t → S w'') ∧ walkT P ops Q S t r a'' w'') Q) Q)
def okT (md : Region.Mode) (ops : Array Oper) (t : Nat) : List Mark → Array Bool → Bool
  | [], listed => (Region.ready md ops listed).isEmpty
  | .yes k :: r, listed => decide (k < t) && ((Region.ready md ops listed).contains k && (Region.free md ops listed k && okT md ops t r (listed.setIfInBounds k true)))
  | .no k :: r, listed => Region.ready md ops listed == [k] && okT md ops t r (listed.setIfInBounds k true)
  | .two i j :: r, listed => Region.ready md ops listed == [i, j] && (Region.ready md ops (listed.setIfInBounds i true) == [j] && (Region.ready md ops (listed.setIfInBounds j true) == [i] && okT md ops t r ((listed.setIfInBounds i true).setIfInBounds j true)))
theorem step_of_only {t k fuel : Nat} {o : Oper} {listed : Array Bool} {a : Act} {w : World} (h0 : ops[k]? = some o) (hr : Region.ready md ops listed = [k]) (hw : Region.wanted o (yielded ops a.tmps) = true)
    (h : o.wp P a w (fun a' w' => (k < t → S w') ∧ wpAnyT P md ops Q S t fuel (listed.setIfInBounds k true) a' w') Q) : wpAnyT P md ops Q S t (fuel + 1) listed a w := by
  refine ⟨fun he => (by rw [hr] at he; cases he), fun i hi => ?_⟩
  rw [hr] at hi
  have hik : i = k := by simpa using hi
  subst hik
  unfold wpOp
  simp only [h0]
  rw [if_pos hw]
  exact .inl h
theorem wpAnyT_walk {t : Nat} (hc : tailT md ops t = true) (hs : Region.noSelect ops = true) (hQ : ∀ c a d v w, Q (.panic c) (Act.put a d v) w → Q (.panic c) a w) :
    ∀ (L : List Mark) (listed : Array Bool) (a : Act) (w : World), Closed md ops listed → okT md ops t L listed = true → walkT P ops Q S t L a w → wpAnyT P md ops Q S t (fuelT L) listed a w
  | [], listed, a, w, _, hok, h => ⟨List.isEmpty_iff.1 hok, h⟩
  | .yes k :: L, listed, a, w, hcl, hok, h => by
    simp only [okT, Bool.and_eq_true, decide_eq_true_eq] at hok
    obtain ⟨hkt, hr, hfree, hok'⟩ := hok
    obtain ⟨o, h0, hS, v, ⟨hw, hy⟩, hrest⟩ := h
    have hr' : k ∈ Region.ready md ops listed := by simpa using hr
    exact wpAnyT_first hc hkt h0 (Region.noSelect_spec hs) (fun c a w => hQ c a _ _ w) _ _ _ _ hcl (Region.free_spec h0 hfree) hr' (.inl ⟨hw, hy⟩) hS
      (wpAnyT_walk hc hs hQ L _ _ w (hcl.set hr') hok' hrest)
  | .no k :: L, listed, a, w, hcl, hok, h => by
    simp only [okT, Bool.and_eq_true] at hok
    obtain ⟨hr, hok'⟩ := hok
    have hr' : Region.ready md ops listed = [k] := by simpa using hr
    obtain ⟨o, h0, hw, hop⟩ := h
    exact step_of_only h0 hr' hw (Oper.wp_mono (fun a' w' hh => ⟨hh.1, wpAnyT_walk hc hs hQ L _ _ w' (hcl.set (by rw [hr']; simp)) hok' hh.2⟩) hop)
  | .two i j :: L, listed, a, w, hcl, hok, h => by
    simp only [okT, Bool.and_eq_true] at hok
    obtain ⟨hr, hri, hrj, hok'⟩ := hok
    have hr' : Region.ready md ops listed = [i, j] := by simpa using hr
    have hri' : Region.ready md ops (listed.setIfInBounds i true) = [j] := by simpa using hri
    have hrj' : Region.ready md ops (listed.setIfInBounds j true) = [i] := by simpa using hrj
    obtain ⟨oi, oj, hoi, hoj, hij, ⟨hwi, h1⟩, hwj, h2⟩ := h
    have hci := hcl.set (i := i) (by rw [hr']; simp)
    have hcj := hcl.set (i := j) (by rw [hr']; simp)
    show wpAnyT P md ops Q S t (fuelT L + 1 + 1) listed a w
    refine ⟨fun he => (by rw [hr'] at he; cases he), fun k hk => ?_⟩
    rw [hr'] at hk
    simp only [List.mem_cons, List.not_mem_nil, or_false] at hk
    rcases hk with rfl | rfl
    · unfold wpOp
      simp only [hoi]
      rw [if_pos hwi]
      refine .inl (Oper.wp_mono (fun a' w' hh => ⟨hh.1, step_of_only hoj hri' hh.2.1 (Oper.wp_mono (fun a'' w'' h3 => ⟨h3.1, wpAnyT_walk hc hs hQ L _ _ w'' (hci.set (by rw [hri']; simp)) hok' h3.2⟩) hh.2.2)⟩) h1)
    · unfold wpOp
      simp only [hoj]
      rw [if_pos hwj]
      refine .inl (Oper.wp_mono (fun a' w' hh => ⟨hh.1, step_of_only hoi hrj' hh.2.1 (Oper.wp_mono (fun a'' w'' h3 => ⟨h3.1, ?_⟩) hh.2.2)⟩) h2)
      have hcji := hcj.set (i := i) (by rw [hrj']; simp)
      rw [Array.setIfInBounds_comm _ _ (Ne.symm hij)] at hcji ⊢
      exact wpAnyT_walk hc hs hQ L _ _ w'' hcji hok' h3.2
theorem wpIn_region_walkT {id : Nat} {a : Act} {w : World} {L : List Oper} (S : World → Prop) (fl : List Mark) (t : Nat) (hm : P.follows .mixedOrders = true) (hs : Region.noSelect L.toArray = true) (hn : noDefer L.toArray = true)
    (hf : fuelT fl = L.length) (hc : tailT .any L.toArray t = true) (hok : okT .any L.toArray t fl (Array.replicate L.toArray.size false) = true) (hq : ¬ LetsOut Q) (hQ : ∀ c a d v w, Q (.panic c) (Act.put a d v) w → Q (.panic c) a w)
    (h : walkT P L.toArray Q S t fl a w.drew) : (Code.region id L.toArray true).wpIn (Fence.wide.inRound l) m P Q a w := by
  refine wpIn_region_any hm (wpAnyIn_of hn hq _ _ _ _ (wpAny_of_T (S := S) (t := t) _ _ _ _ ?_))
  have hcl : Closed .any L.toArray (Array.replicate L.toArray.size false) := ⟨by simp, fun j oj _ hl => (by rw [getD_replicate_false] at hl; cases hl)⟩
  have := wpAnyT_walk (md := .any) hc hs hQ fl (Array.replicate L.toArray.size false) a w.drew hcl hok h
  rw [hf] at this
  simpa using this
theorem wp_region_walkT {id : Nat} {a : Act} {w : World} {L : List Oper} (S : World → Prop) (fl : List Mark) (t : Nat) (hm : P.follows .mixedOrders = true) (hs : Region.noSelect L.toArray = true)
    (hf : fuelT fl = L.length) (hc : tailT .any L.toArray t = true) (hok : okT .any L.toArray t fl (Array.replicate L.toArray.size false) = true) (hQ : ∀ c a d v w, Q (.panic c) (Act.put a d v) w → Q (.panic c) a w)
    (h : walkT P L.toArray Q S t fl a w.drew) : (Code.region id L.toArray true).wp P Q a w := by
  refine wp_region_any hm (wpAny_of_T (S := S) (t := t) _ _ _ _ ?_)
  have hcl : Closed .any L.toArray (Array.replicate L.toArray.size false) := ⟨by simp, fun j oj _ hl => (by rw [getD_replicate_false] at hl; cases hl)⟩
  have := wpAnyT_walk (md := .any) hc hs hQ fl (Array.replicate L.toArray.size false) a w.drew hcl hok h
  rw [hf] at this
  simpa using this
/-- The same, where nothing of it panics: so it is asked of no panic what it leaves. -/
def Calm (Q : Exit → Act → World → Prop) : Exit → Act → World → Prop := fun e a w => e = .normal ∧ Q e a w
theorem wpIn_region_calmT {id : Nat} {a : Act} {w : World} {L : List Oper} (S : World → Prop) (fl : List Mark) (t : Nat) (hm : P.follows .mixedOrders = true) (hs : Region.noSelect L.toArray = true) (hn : noDefer L.toArray = true)
    (hf : fuelT fl = L.length) (hc : tailT .any L.toArray t = true) (hok : okT .any L.toArray t fl (Array.replicate L.toArray.size false) = true)
    (h : walkT P L.toArray (Calm Q) S t fl a w.drew) : (Code.region id L.toArray true).wpIn (Fence.wide.inRound l) m P Q a w :=
  Go.wpIn_mono (wpIn_region_walkT S fl t hm hs hn hf hc hok (by rintro ⟨_, _, h, _⟩; cases h) (fun _ _ _ _ _ h => (by cases h.1)) h) (fun _ _ _ h => h.2)
theorem operIn_wide {o : Oper} {a : Act} {w : World} {K : Act → World → Prop} (h : o.wp P a w K Q) : o.wpIn Fence.wide m P a w K Q := by
  refine ⟨fun _ _ => trivial, ?_⟩
  show o.uponIn _ _ _ _ _ _ ((execOp a.eval o).run P w)
  unfold Oper.wp at h
  generalize (execOp a.eval o).run P w = r at h ⊢
  cases r with
  | halt x w' => cases x <;> first | exact h | exact h.elim
  | ok x w' =>
    cases x with
    | value v => exact h
    | skip => exact h
    | defer d => exact h
    | enter f args => exact ⟨fun h' => Bool.noConfusion h', callsIn_wide.2 h⟩
    | row r args =>
      refine ⟨fun h' => Bool.noConfusion h', fun c cs _ => ?_⟩
      obtain ⟨v, w'', hr, hs⟩ := h c cs
      exact ⟨v, w'', hr, stepsIn_wide.2 hs⟩
    | round l' f t a b => exact h.elim
    | _ => exact h.elim
theorem wpOpIn_wide (hq : ¬ LetsOut Q) {i : Nat} {a : Act} {w : World} {K : Act → World → Prop} (h : wpOp P ops Q i K a w) : wpOpIn Fence.wide m P ops Q i K a w := by
  unfold wpOp at h
  unfold Go.wpOpIn
  cases hi : ops[i]? with
  | none => simpa [hi] using h
  | some o =>
    simp only [hi] at h ⊢
    split
    · rename_i hw
      rw [if_pos hw] at h
      exact operIn_wide (h.resolve_right fun h' => hq h'.2)
    · rename_i hw
      rw [if_neg hw] at h
      exact ⟨fun _ _ => trivial, h⟩
theorem wpAnyIn_wide (hq : ¬ LetsOut Q) : ∀ (fuel : Nat) (listed : Array Bool) (a : Act) (w : World), wpAny P md ops Q fuel listed a w → wpAnyIn Fence.wide m P md ops Q fuel listed a w
  | 0, _, _, _, h => h
  | fuel + 1, _, _, _, h => ⟨h.1, fun i hi => wpOpIn_mono (fun a w => wpAnyIn_wide hq fuel _ a w) (wpOpIn_wide hq (h.2 i hi))⟩
/-- At the function's own level. -/
theorem wpIn_region_wideT {id : Nat} {a : Act} {w : World} {L : List Oper} (S : World → Prop) (fl : List Mark) (t : Nat) (hm : P.follows .mixedOrders = true) (hs : Region.noSelect L.toArray = true)
    (hf : fuelT fl = L.length) (hc : tailT .any L.toArray t = true) (hok : okT .any L.toArray t fl (Array.replicate L.toArray.size false) = true)
    (h : walkT P L.toArray (Calm Q) S t fl a w.drew) : (Code.region id L.toArray true).wpIn Fence.wide m P Q a w := by
  refine Go.wpIn_mono (Q := Calm Q) ?_ (fun _ _ _ h => h.2)
  refine wpIn_region_any hm (wpAnyIn_wide (by rintro ⟨_, _, h, _⟩; cases h) _ _ _ _ (wpAny_of_T (S := S) (t := t) _ _ _ _ ?_))
  have hcl : Closed .any L.toArray (Array.replicate L.toArray.size false) := ⟨by simp, fun j oj _ hl => (by rw [getD_replicate_false] at hl; cases hl)⟩
  have := wpAnyT_walk (md := .any) hc hs (fun _ _ _ _ _ h => (by cases h.1)) fl (Array.replicate L.toArray.size false) a w.drew hcl hok h
  rw [hf] at this
  simpa using this
theorem walkT_yes {L : List Oper} {t k : Nat} {o : Oper} {r : List Mark} {a : Act} {w : World} (h0 : L[k]? = some o) (hS : S w) {v : Value} (hw : Region.wanted o (yielded L.toArray a.tmps) = true) (hy : ∀ w', S w' → (execOp a.eval o).run P w' = .ok (.value v) w')
    (h : walkT P L.toArray Q S t r (a.put o.dst v) w) : walkT P L.toArray Q S t (.yes k :: r) a w := ⟨o, by simpa using h0, hS, v, ⟨hw, hy⟩, h⟩
theorem walkT_no {L : List Oper} {t k : Nat} {o : Oper} {r : List Mark} {a : Act} {w : World} (h0 : L[k]? = some o) (hw : Region.wanted o (yielded L.toArray a.tmps) = true)
    (h : ∀ K : Act → World → Prop, (∀ a' w', (k < t → S w') → walkT P L.toArray Q S t r a' w' → K a' w') → o.wp P a w K Q) : walkT P L.toArray Q S t (.no k :: r) a w :=
  ⟨o, by simpa using h0, hw, h _ fun _ _ hS' h' => ⟨hS', h'⟩⟩
theorem walkT_two {L : List Oper} {t i j : Nat} {oi oj : Oper} {r : List Mark} {a : Act} {w : World} (hoi : L[i]? = some oi) (hoj : L[j]? = some oj) (hij : i ≠ j) (hwi : Region.wanted oi (yielded L.toArray a.tmps) = true) (hwj : Region.wanted oj (yielded L.toArray a.tmps) = true)
    (h1 : ∀ K : Act → World → Prop, (∀ a' w', (i < t → S w') → Region.wanted oj (yielded L.toArray a'.tmps) = true → (∀ K' : Act → World → Prop, (∀ a'' w'', (j < t → S w'') → walkT P L.toArray Q S t r a'' w'' → K' a'' w'') → oj.wp P a' w' K' Q) → K a' w') → oi.wp P a w K Q)
    (h2 : ∀ K : Act → World → Prop, (∀ a' w', (j < t → S w') → Region.wanted oi (yielded L.toArray a'.tmps) = true → (∀ K' : Act → World → Prop, (∀ a'' w'', (i < t → S w'') → walkT P L.toArray Q S t r a'' w'' → K' a'' w'') → oi.wp P a' w' K' Q) → K a' w') → oj.wp P a w K Q) :
    walkT P L.toArray Q S t (.two i j :: r) a w :=
  ⟨oi, oj, by simpa using hoi, by simpa using hoj, hij, ⟨hwi, h1 _ fun _ _ hS hw hk => ⟨hS, hw, hk _ fun _ _ hS' h' => ⟨hS', h'⟩⟩⟩, hwj, h2 _ fun _ _ hS hw hk => ⟨hS, hw, hk _ fun _ _ hS' h' => ⟨hS', h'⟩⟩⟩
end
end Go.Proofs.YtofpcdjoljjnoaaDoor
