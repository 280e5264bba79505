/-
  The texts TapFactG, TapOfM, TapLive, one behind the other.
-/
import Derived.Test.YtcbebikcfcidmaaDoorChaZ06
import Derived.Test.YtcbebikcfcidmaaDoorChaZ14
import Derived.Test.YtcbebikcfcidmaaDoorChaZ13
import Derived.Test.YtcbebikcfcidmaaDoorChaZ02

namespace Go.Proofs.YtcbebikcfcidmaaDoor
open Go.RowKit

section
variable {P : Program} {L : List Oper} {Q : Exit → Act → World → Prop}

/-- What an operation that a guard asks has yielded. -/
theorem yielded_of {ops : Array Oper} {tmps : Array Value} {j d : Nat} {b : Bool} (ho : (ops[j]?).bind (·.dst) = some d) (h : tmps[d]?.getD undef = .bool b) : yielded ops tmps j = some b := by
  unfold yielded
  rw [ho]
  cases hx : tmps[d]? with
  | none => rw [hx] at h; exact absurd h (by simp [undef])
  | some v =>
    rw [hx] at h
    simp at h
    subst h
    simp [hx]

/-- What is asked of operation number i, which is o. -/
def StepG (P : Program) (Q : Exit → Act → World → Prop) (L : List Oper) (F : Nat → Value → World → Prop) (base : List (Nat × Value)) (w0 : World) (i : Nat) (o : Oper) : Prop :=
  ∀ a w, Grow w0 w → (∀ p ∈ base, a.tmps[p.1]?.getD undef = p.2) → FactsOf L F o.after a w →
    (Region.wanted o (yielded L.toArray a.tmps) = true ∧ ∀ K : Act → World → Prop, (∀ v w', Grow w w' → F i v w' → K (a.put o.dst v) w') → o.wp P a w K Q) ∨ (Region.wanted o (yielded L.toArray a.tmps) = false ∧ F i undef w)
/-- The same of each of a row of operations, from number k on. -/
def StepsG (P : Program) (Q : Exit → Act → World → Prop) (L : List Oper) (F : Nat → Value → World → Prop) (base : List (Nat × Value)) (w0 : World) : Nat → List Oper → Prop
  | _, [] => True
  | k, o :: r => StepG P Q L F base w0 k o ∧ StepsG P Q L F base w0 (k + 1) r
theorem StepsG.at {F : Nat → Value → World → Prop} {base : List (Nat × Value)} {w0 : World} : ∀ {r : List Oper} {k : Nat}, StepsG P Q L F base w0 k r → ∀ j o, r[j]? = some o → StepG P Q L F base w0 (k + j) o
  | [], _, _, _, _, h => by simp at h
  | o :: r, k, hs, j, o', h => by
    cases j with
    | zero => simp at h; subst h; exact hs.1
    | succ j =>
      simp at h
      have := StepsG.at hs.2 j o' h
      rwa [show k + 1 + j = k + (j + 1) by omega] at this

theorem wpAny_factsG {F : Nat → Value → World → Prop} {base : List (Nat × Value)} {t : Nat} {a0 : Act} {w0 : World} {last : Oper}
    (hF : ∀ i v w w', Grow w w' → F i v w → F i v w')
    (hok : factOK L t a0.tmps.size = true) (hl : L[t]? = some last)
    (hb : ∀ p ∈ base, a0.tmps[p.1]?.getD undef = p.2) (hfree : ∀ p ∈ base, p.1 ∉ dstsOf (L.take t))
    (hsteps : StepsG P Q L F base w0 0 (L.take t))
    (hlast : ∀ vs w, Grow w0 w → (∀ j, j < t → F j (vs j) w) → Region.wanted last (yielded L.toArray (putF vs (L.take t) 0 a0).tmps) = true ∧ last.wp P (putF vs (L.take t) 0 a0) w (fun a' w' => Q .normal a' w') Q) :
    ∀ (fuel : Nat) (listed : Array Bool) (a : Act) (w : World), listed.size = L.length → (listed.toList.filter (· == false)).length ≤ fuel → Closed .any L.toArray listed →
      ((∀ i, i < L.length → listed.getD i false = true) ∧ Q .normal a w ∨ listed.getD t true = false ∧ Mid L F t a0 w0 listed a w) →
      wpAny P .any L.toArray Q fuel listed a w := by
  unfold factOK at hok
  simp only [Bool.and_eq_true, decide_eq_true_eq] at hok
  obtain ⟨⟨⟨⟨⟨hlen, hord⟩, hnod⟩, hlow⟩, hsome⟩, hchain⟩ := hok
  have hsz0 : L.toArray.size = t + 1 := by simpa using hlen
  have hmemT : ∀ (listed : Array Bool), Closed .any L.toArray listed → t ∈ Region.ready .any L.toArray listed → ∀ i, i < t → listed.getD i true = true := by
    intro listed hcl hm i hi
    cases hq : listed.getD i true with
    | true => rfl
    | false => exact absurd hm (chain_waits hchain (by rw [hsz0]) hcl (t - i) i rfl hi hq)
  intro fuel
  induction fuel with
  | zero =>
    intro listed a w hsz hf hcl h
    have hall : ∀ i, i < L.length → listed.getD i false = true := by
      intro i hi
      have h0 : listed.toList.filter (· == false) = [] := List.eq_nil_of_length_eq_zero (by omega)
      rw [List.filter_eq_nil_iff] at h0
      have h1 := h0 (listed[i]'(by omega)) (by simp)
      rw [Array.getD_eq_getD_getElem?, Array.getElem?_eq_getElem (by omega)]
      simpa using h1
    rcases h with ⟨_, hq⟩ | ⟨hq, _⟩
    · refine ⟨List.eq_nil_iff_forall_not_mem.2 fun i hi => ?_, hq⟩
      obtain ⟨hl1, o, ho, _⟩ := mem_ready.1 hi
      have hlt : i < L.length := by have := (Array.getElem?_eq_some_iff.1 ho).1; simpa using this
      have := hall i hlt
      rw [Array.getD_eq_getD_getElem?, Array.getElem?_eq_getElem (by omega)] at this hl1
      simp at this hl1
      rw [this] at hl1; cases hl1
    · have := hall t (by omega)
      rw [Array.getD_eq_getD_getElem?, Array.getElem?_eq_getElem (by omega)] at this hq
      simp at this hq
      rw [this] at hq; cases hq
  | succ fuel ih =>
    intro listed a w hsz hf hcl h
    -- nothing is ready only when all is listed
    have hready : Region.ready .any L.toArray listed = [] → ∀ i, i < L.length → listed.getD i false = true := by
      intro hr i
      induction i using Nat.strongRecOn with
      | _ i ihi =>
        intro hi
        cases hq : listed.getD i false with
        | true => rfl
        | false =>
          have hmem : i ∈ Region.ready .any L.toArray listed := by
            refine mem_ready.2 ⟨?_, L[i], by simp [hi], fun e he hbd => ?_⟩
            · rw [Array.getD_eq_getD_getElem?, Array.getElem?_eq_getElem (by omega)] at hq ⊢
              exact hq
            · have h1 := List.all_eq_true.1 hord i (List.mem_range.2 (by omega))
              rw [List.getElem?_eq_getElem hi] at h1
              have h2 := Array.all_eq_true'.1 h1 e he
              simp only [hbd, Bool.not_true, Bool.false_or, decide_eq_true_eq] at h2
              exact ihi e.on h2 (by omega)
          rw [hr] at hmem
          cases hmem
    refine ⟨fun hr => ?_, fun i hi => ?_⟩
    · rcases h with ⟨_, hq⟩ | ⟨hq, _⟩
      · exact hq
      · have := hready hr t (by omega)
        rw [Array.getD_eq_getD_getElem?, Array.getElem?_eq_getElem (by omega)] at this hq
        simp at this hq
        rw [this] at hq; cases hq
    · have hi0 := hi
      obtain ⟨hl1, o, ho, hdeps⟩ := mem_ready.1 hi
      have hlt : i < L.length := by have := (Array.getElem?_eq_some_iff.1 ho).1; simpa using this
      have hoL : L[i]? = some o := by simpa using ho
      rcases h with ⟨hall, _⟩ | ⟨htf, hmid⟩
      · have := hall i hlt
        rw [Array.getD_eq_getD_getElem?, Array.getElem?_eq_getElem (by omega)] at this hl1
        simp at this hl1
        rw [this] at hl1; cases hl1
      · have hfuel : ((listed.setIfInBounds i true).toList.filter (· == false)).length ≤ fuel := by
          have hi2 : i < listed.size := by omega
          have e1 : (listed.setIfInBounds i true).toList = listed.toList.set i true := by simp
          have hli : listed.toList[i]? = some false := by
            rw [Array.getD_eq_getD_getElem?, Array.getElem?_eq_getElem hi2] at hl1
            simp at hl1
            simp [hi2, hl1]
          rw [e1]
          have key : ∀ (l : List Bool) (i : Nat), l[i]? = some false → ((l.set i true).filter (· == false)).length + 1 = (l.filter (· == false)).length := by
            intro l
            induction l with
            | nil => intro i h; simp at h
            | cons b l ihl =>
              intro i h
              cases i with
              | zero => simp at h; subst h; simp
              | succ i =>
                have := ihl i (by simpa using h)
                rw [List.set_cons_succ]
                cases b <;> simp at this ⊢ <;> omega
          have := key _ _ hli
          omega
        by_cases hit : i = t
        · -- the last one
          subst hit
          have hallT := hmemT listed hcl hi0
          obtain rfl : last = o := by rw [hl] at hoL; injection hoL
          -- the values
          have hvs : ∃ vs : Nat → Value, a = putF vs (L.take i) 0 a0 ∧ ∀ j, j < i → F j (vs j) w := by
            refine ⟨fun j => match (L[j]?).bind (·.dst) with | some d => a.tmps[d]?.getD undef | none => undef, ?_, fun j hj => ?_⟩
            · have hs := putF_size (fun j => match (L[j]?).bind (·.dst) with | some d => a.tmps[d]?.getD undef | none => undef) (L.take i) 0 a0
              have ht : a.tmps = (putF (fun j => match (L[j]?).bind (·.dst) with | some d => a.tmps[d]?.getD undef | none => undef) (L.take i) 0 a0).tmps := by
                apply Array.ext_getElem?
                intro s
                by_cases hmem : s ∈ dstsOf (L.take i)
                · have hmem' := hmem
                  unfold dstsOf at hmem'
                  rw [List.mem_filterMap] at hmem'
                  obtain ⟨o', ho', hd'⟩ := hmem'
                  obtain ⟨j, hj, hj'⟩ := List.mem_iff_getElem.1 ho'
                  have hjL : (L.take i)[j]? = some o' := by rw [List.getElem?_eq_getElem hj, hj']
                  have hji : j < i := by simp at hj; omega
                  have hjL2 : L[j]? = some o' := by rw [List.getElem?_take, if_pos hji] at hjL; exact hjL
                  have hsl : s < a0.tmps.size := by have := List.all_eq_true.1 hlow s hmem; simpa using this
                  rw [putF_at _ s (L.take i) 0 a0 j o' hnod hjL hd' hsl, Nat.zero_add, hjL2]
                  simp only [Option.bind_some, hd']
                  rw [Array.getElem?_eq_getElem (by rw [hmid.size]; exact hsl)]
                  rfl
                · rw [putF_ne _ s _ _ _ hmem]
                  exact hmid.other s hmem
              have hd : a.defers = (putF (fun j => match (L[j]?).bind (·.dst) with | some d => a.tmps[d]?.getD undef | none => undef) (L.take i) 0 a0).defers := hmid.defers.trans hs.2.symm
              exact act_ext ht hd
            · have h1 := hmid.fact j hj (by
                have := hallT j hj
                rw [Array.getD_eq_getD_getElem?, Array.getElem?_eq_getElem (by omega)] at this ⊢
                exact this)
              unfold FactAt at h1
              show F j (match (L[j]?).bind (·.dst) with | some d => a.tmps[d]?.getD undef | none => undef) w
              cases hx : (L[j]?).bind (·.dst) with
              | none => rw [hx] at h1; exact h1
              | some d => rw [hx] at h1; exact h1
          obtain ⟨vs, rfl, hvs⟩ := hvs
          obtain ⟨hw, hop⟩ := hlast vs w hmid.grow hvs
          unfold wpOp
          simp only [ho]
          rw [if_pos hw]
          refine .inl (Oper.wp_mono (fun a' w' hq => ih _ a' w' (by simpa using hsz) hfuel (hcl.set hi0) (.inl ⟨fun k hk => ?_, hq⟩)) hop)
          by_cases hki : i = k
          · subst hki
            rw [Array.getD_eq_getD_getElem?, Array.getElem?_setIfInBounds, if_pos rfl, if_pos (by omega)]; rfl
          · rw [Array.getD_eq_getD_getElem?, Array.getElem?_setIfInBounds, if_neg hki]
            have := hallT k (by omega)
            rw [Array.getD_eq_getD_getElem?, Array.getElem?_eq_getElem (by omega)] at this
            rw [Array.getElem?_eq_getElem (by omega)]
            exact this
        · have hit' : i < t := by omega
          have hstep := hsteps.at i o (by rw [List.getElem?_take, if_pos hit']; exact hoL)
          rw [Nat.zero_add] at hstep
          have hbase : ∀ p ∈ base, a.tmps[p.1]?.getD undef = p.2 := by
            intro p hp
            rw [← hb p hp, hmid.other p.1 (hfree p hp)]
          have hfacts : FactsOf L F o.after a w := by
            intro e he hbd
            have he' : e ∈ o.after := by simpa using he
            have h1 := List.all_eq_true.1 hord i (List.mem_range.2 (by omega))
            rw [hoL] at h1
            have h2 := Array.all_eq_true'.1 h1 e he'
            simp only [hbd, Bool.not_true, Bool.false_or, decide_eq_true_eq] at h2
            exact hmid.fact e.on (by omega) (hdeps e he' hbd)
          have hgo : ∀ v w', Grow w w' → F i v w' → wpAny P .any L.toArray Q fuel (listed.setIfInBounds i true) (a.put o.dst v) w' := by
            intro v w' hg hFv
            refine ih _ _ w' (by simpa using hsz) hfuel (hcl.set hi0) (.inr ⟨?_, ?_⟩)
            · rw [Array.getD_eq_getD_getElem?, Array.getElem?_setIfInBounds, if_neg hit, ← Array.getD_eq_getD_getElem?]
              exact htf
            · have hdmem : ∀ d, o.dst = some d → d ∈ dstsOf (L.take t) := fun d hd => by
                unfold dstsOf
                rw [List.mem_filterMap]
                exact ⟨o, List.mem_iff_getElem?.2 ⟨i, by rw [List.getElem?_take, if_pos hit']; exact hoL⟩, hd⟩
              refine ⟨hmid.grow.trans hg, (put_size _ _ _).trans hmid.size, (put_defers _ _ _).trans hmid.defers, fun s hs => (put_get_ne v (fun e => hs (hdmem s e))).trans (hmid.other s hs), fun j hj hlj => ?_⟩
              by_cases hji : i = j
              · subst hji
                unfold FactAt
                rw [hoL]
                simp only [Option.bind_some]
                cases hd : o.dst with
                | none =>
                  have h1 := List.all_eq_true.1 hsome o (List.mem_iff_getElem?.2 ⟨i, by rw [List.getElem?_take, if_pos hit']; exact hoL⟩)
                  rw [hd] at h1
                  cases h1
                | some d =>
                  simp only
                  have : (a.put (some d) v).tmps[d]?.getD undef = v := by
                    rw [put_get v (by
                      rw [hmid.size]
                      have := List.all_eq_true.1 hlow d (hdmem d hd)
                      simpa using this)]
                    rfl
                  rw [this]
                  exact hFv
              · rw [Array.getD_eq_getD_getElem?, Array.getElem?_setIfInBounds, if_neg hji, ← Array.getD_eq_getD_getElem?] at hlj
                have h1 := hmid.fact j hj hlj
                unfold FactAt at h1 ⊢
                cases hjb : (L[j]?).bind (·.dst) with
                | none => rw [hjb] at h1; exact hF j _ w w' hg h1
                | some d =>
                  rw [hjb] at h1
                  have hne : o.dst ≠ some d := fun e => by
                    -- two operations with one slot
                    obtain ⟨oj, hoj, hdj⟩ := Option.bind_eq_some_iff.1 hjb
                    have := nodup_slot hnod (i := i) (j := j) (by rw [List.getElem?_take, if_pos hit']; exact hoL) (by rw [List.getElem?_take, if_pos hj]; exact hoj) e hdj
                    exact hji this
                  have : (a.put o.dst v).tmps[d]?.getD undef = a.tmps[d]?.getD undef := by
                    rw [put_get_ne v hne]
                  simp only [this]
                  exact hF j _ w w' hg h1
          unfold wpOp
          simp only [ho]
          rcases hstep a w hmid.grow hbase hfacts with ⟨hw, hop⟩ | ⟨hw, hF0⟩
          · rw [if_pos hw]
            exact .inl (hop _ hgo)
          · rw [if_neg (by rw [hw]; simp)]
            exact hgo undef w (Grow.refl _) hF0

/-- A region that draws its order, by facts. -/
theorem wp_region_factsG {id : Nat} {a0 : Act} {w0 : World} (F : Nat → Value → World → Prop) (base : List (Nat × Value)) (t : Nat) {last : Oper} (hm : P.follows .mixedOrders = true)
    (hF : ∀ i v w w', Grow w w' → F i v w → F i v w')
    (hok : factOK L t a0.tmps.size = true) (hl : L[t]? = some last)
    (hb : ∀ p ∈ base, a0.tmps[p.1]?.getD undef = p.2) (hfree : base.all (fun p => !(dstsOf (L.take t)).contains p.1) = true)
    (hsteps : StepsG P Q L F base w0 0 (L.take t))
    (hlast : ∀ vs w, Grow w0 w → (∀ j, j < t → F j (vs j) w) → Region.wanted last (yielded L.toArray (putF vs (L.take t) 0 a0).tmps) = true ∧ last.wp P (putF vs (L.take t) 0 a0) w (fun a' w' => Q .normal a' w') Q) :
    (Code.region id L.toArray true).wp P Q a0 w0 := by
  refine wp_region_any hm (wpAny_factsG hF hok hl hb (fun p hp => ?_) hsteps hlast _ _ _ _ (by simp) (Nat.le_trans (List.length_filter_le _ _) (by simp)) ⟨by simp, fun j oj _ hl => (by rw [getD_replicate_false] at hl; cases hl)⟩ (.inr ⟨?_, ?_⟩))
  · have := List.all_eq_true.1 hfree p hp
    simpa using this
  · have hlt : t < L.length := (List.getElem?_eq_some_iff.1 hl).1
    rw [Array.getD_eq_getD_getElem?]
    simp [hlt]
  · exact ⟨Grow.drew _, rfl, rfl, fun _ _ => rfl, fun j _ hlj => (by rw [getD_replicate_false] at hlj; cases hlj)⟩
/-- The steps, each with its own fact. -/
def StepLG (P : Program) (Q : Exit → Act → World → Prop) (L : List Oper) (l : List (Value → World → Prop)) (base : List (Nat × Value)) (w0 : World) (f : Value → World → Prop) (o : Oper) : Prop :=
  ∀ a w, Grow w0 w → (∀ p ∈ base, a.tmps[p.1]?.getD undef = p.2) → FactsOf L (factsL l) o.after a w →
    (Region.wanted o (yielded L.toArray a.tmps) = true ∧ ∀ K : Act → World → Prop, (∀ v w', Grow w w' → f v w' → K (a.put o.dst v) w') → o.wp P a w K Q) ∨ (Region.wanted o (yielded L.toArray a.tmps) = false ∧ f undef w)
def StepsLG (P : Program) (Q : Exit → Act → World → Prop) (L : List Oper) (l : List (Value → World → Prop)) (base : List (Nat × Value)) (w0 : World) : List (Value → World → Prop) → List Oper → Prop
  | [], [] => True
  | f :: fs, o :: os => StepLG P Q L l base w0 f o ∧ StepsLG P Q L l base w0 fs os
  | _, _ => False
theorem StepsLG.steps {l : List (Value → World → Prop)} {base : List (Nat × Value)} {w0 : World} : ∀ {fs : List (Value → World → Prop)} {os : List Oper} {k : Nat}, (∀ j, fs[j]? = l[k + j]?) → StepsLG P Q L l base w0 fs os → StepsG P Q L (factsL l) base w0 k os
  | [], [], _, _, _ => trivial
  | [], _ :: _, _, _, h => h.elim
  | _ :: _, [], _, _, h => h.elim
  | f :: fs, o :: os, k, hk, h => by
    refine ⟨fun a w hg hb hf => ?_, StepsLG.steps (k := k + 1) (fun j => by have := hk (j + 1); rw [List.getElem?_cons_succ] at this; rw [this]; congr 1; omega) h.2⟩
    have h0 := hk 0
    simp at h0
    rcases h.1 a w hg hb hf with ⟨h1, h2⟩ | ⟨h1, h2⟩
    · refine .inl ⟨h1, fun K hK => h2 K fun v w' hg hfv => hK v w' hg ?_⟩
      unfold factsL
      rw [← h0]
      exact hfv
    · refine .inr ⟨h1, ?_⟩
      unfold factsL
      rw [← h0]
      exact h2
theorem wp_region_listG {id : Nat} {a0 : Act} {w0 : World} (l : List (Value → World → Prop)) (base : List (Nat × Value)) (t : Nat) {last : Oper} (hm : P.follows .mixedOrders = true)
    (hF : AllStay l) (hlen : l.length = t)
    (hok : factOK L t a0.tmps.size = true) (hl : L[t]? = some last)
    (hb : ∀ p ∈ base, a0.tmps[p.1]?.getD undef = p.2) (hfree : base.all (fun p => !(dstsOf (L.take t)).contains p.1) = true)
    (hsteps : StepsLG P Q L l base w0 l (L.take t))
    (hlast : ∀ vs w, Grow w0 w → FactsL vs w 0 l → Region.wanted last (yielded L.toArray (putF vs (L.take t) 0 a0).tmps) = true ∧ last.wp P (putF vs (L.take t) 0 a0) w (fun a' w' => Q .normal a' w') Q) :
    (Code.region id L.toArray true).wp P Q a0 w0 :=
  wp_region_factsG (factsL l) base t hm (factsL_mono hF) hok hl hb hfree (StepsLG.steps (fun j => by rw [Nat.zero_add]) hsteps) fun vs w hg h => hlast vs w hg (FactsL.of fun j f hj => by
    have hjt : j < t := by rw [← hlen]; exact (List.getElem?_eq_some_iff.1 hj).1
    have := h j hjt
    unfold factsL at this
    rw [hj] at this
    rwa [Nat.zero_add])
end
end Go.Proofs.YtcbebikcfcidmaaDoor

namespace Go.Proofs.YtcbebikcfcidmaaDoor
open Go.RowKit Go.Maps

theorem wanted_yes {o : Oper} {y : Nat → Option Bool} {j : Nat} {b : Bool} (hg : o.guard = some (j, b)) (h : y j = some b) : Region.wanted o y = true := by
  unfold Region.wanted
  simp [hg, h]
theorem wanted_no {o : Oper} {y : Nat → Option Bool} {j : Nat} {b : Bool} (hg : o.guard = some (j, b)) (h : y j = some (!b)) : Region.wanted o y = false := by
  unfold Region.wanted
  simp [hg, h]

/-- What 'of' tells. -/
def ofS (S : MkS) (f0 f1 f2 : Nat) (x : Nd) : Int × Int × MkS :=
  if (fld x.op 0 = f0 ∧ fld x.op 1 = f1 ∧ fld x.op 2 = f2) ∧ stepB x (S.l.length : Int) (S.pars : Int) = true then putS S x else (0, 2, S)
/-- A step without a number. -/
def bareNd (op : Nat) (a b : Int) : Nd := ⟨op, a, b, ⟨false, [], []⟩⟩

theorem bare_key {op : Nat} {a b : Int} (h : op ≠ 1) : keyN (bareNd op a b) = ⟨op, a, b, []⟩ := by
  unfold keyN bareNd
  dsimp only
  rw [if_neg h]

theorem of_none {w : World} {m : Value} {f0 f1 f2 op a b : Int} (h : NoMk w m) :
    Calls Tryd.prog 47 #[m, .agg #[.int .u8 f0, .int .u8 f1, .int .u8 f2], .agg #[.int .u8 op, .int .i64 a, .int .i64 b, .bool false, .slice none 0 0, .slice none 0 0]] w (Just (.tuple #[.int .i64 0, .int .i64 1]) w) := by
  have hg := Grow.trans (Grow.alloc w (.cells #[.int .u8 f0, .int .u8 f1, .int .u8 f2] 97)) (Grow.alloc _ (.cells #[.int .u8 op, .int .i64 a, .int .i64 b, .bool false, .slice none 0 0, .slice none 0 0] 52))
  have HN := Lib.hid (isnone_none (h.grow hg))
  have HG := Lib.hid hg
  clear h hg
  go_enter Tryd.func47, Tryd.ntmps47
  go_wp2_with (first | (go_at_call 12; refine HN.out.mono ?_; rintro e w3 ⟨rfl, rfl⟩) | fail)
  go_ret2
  exact ⟨rfl, HG.out⟩

set_option maxRecDepth 100000 in
set_option maxHeartbeats 8000000 in
theorem of_some {P : Nat → Prop} {w : World} {m : Value} {S : MkS} {f0 f1 f2 op : Nat} {a b : Int} (h : MkAt P w m S) (hop : op < 256) (ha : I64 a) (hb : I64 b) (ht : Tab w) (hf : f2 = 0) (hf0 : f0 = 3) :
    Calls Tryd.prog 47 #[m, .agg #[.int .u8 (f0 : Int), .int .u8 (f1 : Int), .int .u8 (f2 : Int)], .agg #[.int .u8 (op : Int), .int .i64 a, .int .i64 b, .bool false, .slice none 0 0, .slice none 0 0]] w (MkPost P m w (ofS S f0 f1 f2 (bareNd op a b))) := by
  have H := Lib.hid h
  obtain ⟨pm, pr, rfl, hPm, hpm, hrow, hgood⟩ := h
  have hrow' := hrow
  obtain ⟨mb, vN, hPr, hPmb, hblk, hnds, _, _⟩ := hrow'
  obtain ⟨AN, cN, rfl, _⟩ := hnds.form
  obtain ⟨N, hN⟩ : ∃ N, N = S.l.length := ⟨_, rfl⟩
  rw [← hN] at hblk
  have hNI : (N : Int) ≤ 20000 := by have := hgood.2.2.2.1; have := hgood.2.1; omega
  have hPI : (S.pars : Int) ≤ 200 := by have := hgood.2.2.1; omega
  obtain ⟨W1, hW1⟩ : ∃ W1, W1 = (w.alloc (.cells #[.int .u8 (f0 : Int), .int .u8 (f1 : Int), .int .u8 (f2 : Int)] 97)).alloc (.cells #[.int .u8 (op : Int), .int .i64 a, .int .i64 b, .bool false, .slice none 0 0, .slice none 0 0] 52) := ⟨_, rfl⟩
  have b0 : BlkOf W1 w.heap.size #[.int .u8 (f0 : Int), .int .u8 (f1 : Int), .int .u8 (f2 : Int)] 97 := by rw [hW1]; exact (BlkOf.new w _ _).alloc _
  have b1 : BlkOf W1 (w.heap.size + 1) #[.int .u8 (op : Int), .int .i64 a, .int .i64 b, .bool false, .slice none 0 0, .slice none 0 0] 52 := by rw [hW1]; exact BlkOf.news (by simp) _ _
  have hbw : Grow w W1 := by rw [hW1]; exact ((Below.refl _ w).alloc (Nat.le_refl _) _).alloc (by simp) _
  have HNO := Lib.hid (isnone_some (H.out.grow hbw))
  have HF := Lib.hid (fun W (hW : Grow W1 W) => fieldsof_any (w := W) op hop (ht.grow (hbw.trans hW)))
  have hnd : ∀ W, NdOK 0 W (bareNd op a b) (.slice none 0 0) (.slice none 0 0) := fun W => ⟨hop, ha, hb, Raw.nil W, Raw.nil W, Nat.le_refl _, Nat.le_refl _⟩
  have hst := fun W (hW : Grow W1 W) => isstep_any (hnd W) (by omega) (steps := (N : Int)) (pars := (S.pars : Int)) (by constructor <;> omega) (by constructor <;> omega) (ht.grow (hbw.trans hW))
  unfold ndV bareNd at hst
  dsimp only at hst
  obtain ⟨st, hst'⟩ : ∃ st, st = stepB ⟨op, a, b, false, [], []⟩ (N : Int) (S.pars : Int) := ⟨_, rfl⟩
  rw [← hst'] at hst
  have HST := Lib.hid hst
  have HSE := Lib.hid hst'
  unfold fldV at HF
  have KC : Hid (∀ W, Grow W1 W → W.cell? ⟨w.heap.size, 0, none⟩ = some (.int .u8 (f0 : Int)) ∧ W.cell? ⟨w.heap.size, 1, none⟩ = some (.int .u8 (f1 : Int)) ∧ W.cell? ⟨w.heap.size, 2, none⟩ = some (.int .u8 (f2 : Int)) ∧
      W.cell? ⟨w.heap.size + 1, 0, none⟩ = some (.int .u8 (op : Int)) ∧ W.cell? ⟨w.heap.size + 1, 1, none⟩ = some (.int .i64 a) ∧ W.cell? ⟨w.heap.size + 1, 2, none⟩ = some (.int .i64 b) ∧ W.cell? ⟨w.heap.size + 1, 3, none⟩ = some (.bool false) ∧ W.cell? ⟨w.heap.size + 1, 4, none⟩ = some (.slice none 0 0) ∧ W.cell? ⟨w.heap.size + 1, 5, none⟩ = some (.slice none 0 0) ∧
      W.cell? ⟨pm, 0, none⟩ = some (.pointer (some ⟨pr, 0, none⟩)) ∧ W.cell? ⟨pr, 1, none⟩ = some (.int .i64 (S.pars : Int)) ∧ W.cell? ⟨pr, 2, none⟩ = some (.slice AN N cN)) := Lib.hid fun W hW => by
    have q0 := b0.below hW b0.lt
    have q1 := b1.below hW b1.lt
    have hw := hbw.trans hW
    have q2 := hpm.below hw hpm.lt
    have q3 := hblk.below hw hblk.lt
    exact ⟨q0.at 0 rfl, q0.at 1 rfl, q0.at 2 rfl, q1.at 0 rfl, q1.at 1 rfl, q1.at 2 rfl, q1.at 3 rfl, q1.at 4 rfl, q1.at 5 rfl, q2.at 0 rfl, q3.at 1 rfl, q3.at 2 rfl⟩
  obtain ⟨r, hr⟩ : ∃ r, r = ofS S f0 f1 f2 (bareNd op a b) := ⟨_, rfl⟩
  have HR := Lib.hid hr
  rw [← hr]
  have HBW := Lib.hid hbw
  have HN := Lib.hid hN
  have HGD := Lib.hid hgood
  have HPM := Lib.hid hpm
  have HROW := Lib.hid hrow
  have HB1 := Lib.hid b1
  have HOP := Lib.hid hop
  have HII := Lib.hid (And.intro ha hb)
  have HFF := Lib.hid (And.intro hf0 hf)
  have c0 := hpm.at 0 rfl
  have KD := KC.out W1 (Grow.refl _)
  obtain ⟨d0, d1, d2, d3, d4, d5, d6, d7, d8, d9, d10, d11⟩ := KD
  obtain ⟨pars, hpars⟩ : ∃ pars, pars = S.pars := ⟨_, rfl⟩
  subst hW1
  clear hst hst' hnd b0 b1 hbw hrow hblk hnds hgood hr hN hop ha hb hpm c0 hf hf0 hpars
  by_cases heq : fld op 0 = f0 ∧ fld op 1 = f1 ∧ fld op 2 = f2
  · have hbin : ∀ W, (binOp .neq 97 (.agg #[.int .u8 ((fld op 0 : Nat) : Int), .int .u8 ((fld op 1 : Nat) : Int), .int .u8 ((fld op 2 : Nat) : Int)]) (.agg #[.int .u8 (f0 : Int), .int .u8 (f1 : Int), .int .u8 (f2 : Int)])).run Tryd.prog W = .ok (.bool false) W := by
      intro W
      rw [heq.1, heq.2.1, heq.2.2]
      simp [go_sem]
    have HEQ := Lib.hid heq
    clear heq
    go_enter Tryd.func47, Tryd.ntmps47
    go_wp2_with (first | (go_at_call 12; refine HNO.out.mono ?_; rintro e w3 ⟨rfl, rfl⟩) | fail)
    rename_i K0 hK0
    refine wp_region_listG [fun v _ => v = .pointer (some ⟨w.heap.size + 1, 0, none⟩), fun v _ => v = .int .u8 (op : Int), fun v _ => v = .agg #[.int .u8 ((fld op 0 : Nat) : Int), .int .u8 ((fld op 1 : Nat) : Int), .int .u8 ((fld op 2 : Nat) : Int)], fun v _ => v = .agg #[.int .u8 (f0 : Int), .int .u8 (f1 : Int), .int .u8 (f2 : Int)], fun v _ => v = .bool false, fun v _ => v = .bool false, fun v _ => v = .agg #[.int .u8 (op : Int), .int .i64 a, .int .i64 b, .bool false, .slice none 0 0, .slice none 0 0], fun v _ => v = .pointer (some ⟨pm, 0, none⟩), fun v _ => v = .pointer (some ⟨pm, 0, none⟩), fun v _ => v = .pointer (some ⟨pm, 0, none⟩), fun v _ => v = .pointer (some ⟨pr, 0, none⟩), fun v _ => v = .pointer (some ⟨pr, 0, none⟩), fun v _ => v = .pointer (some ⟨pr, 2, none⟩), fun v _ => v = .slice AN N cN, fun v _ => v = .int .i64 (N : Int), fun v _ => v = .pointer (some ⟨pm, 0, none⟩), fun v _ => v = .pointer (some ⟨pm, 0, none⟩), fun v _ => v = .pointer (some ⟨pm, 0, none⟩), fun v _ => v = .pointer (some ⟨pr, 0, none⟩), fun v _ => v = .pointer (some ⟨pr, 0, none⟩), fun v _ => v = .pointer (some ⟨pr, 1, none⟩), fun v _ => v = .int .i64 (S.pars : Int), fun v _ => v = .bool st, fun v _ => v = .bool (!st), fun v _ => v = .bool (!st)]
      [(0, .pointer (some ⟨pm, 0, none⟩)), (4, .pointer (some ⟨w.heap.size, 0, none⟩)), (5, .pointer (some ⟨w.heap.size + 1, 0, none⟩))] 25 (by kernel_rfl) ⟨stays_pure _, stays_pure _, stays_pure _, stays_pure _, stays_pure _, stays_pure _, stays_pure _, stays_pure _, stays_pure _, stays_pure _, stays_pure _, stays_pure _, stays_pure _, stays_pure _, stays_pure _, stays_pure _, stays_pure _, stays_pure _, stays_pure _, stays_pure _, stays_pure _, stays_pure _, stays_pure _, stays_pure _, stays_pure _, trivial⟩ rfl (by kernel_rfl) rfl ?base (by kernel_rfl) ⟨?_, ?_, ?_, ?_, ?_, ?_, ?_, ?_, ?_, ?_, ?_, ?_, ?_, ?_, ?_, ?_, ?_, ?_, ?_, ?_, ?_, ?_, ?_, ?_, ?_, trivial⟩ ?last
    case base => simp
    case last =>
      intro vs W hW hv
      simp only [FactsL, Nat.zero_add, Nat.reduceAdd] at hv
      have v24 := hv.2.2.2.2.2.2.2.2.2.2.2.2.2.2.2.2.2.2.2.2.2.2.2.2.1
      clear hv
      refine ⟨rfl, ?_⟩
      simp only [List.take_succ_cons, List.take_zero, putF, Act.put, List.setIfInBounds_toArray, List.set_cons_zero, List.set_cons_succ, Nat.reduceAdd, v24]
      unfold Oper.wp
      simp [execOp, go_sem]
      refine hK0 _ _ ?_
      have hg := HBW.out.trans hW
      have HG := Lib.hid hg
      cases st with
      | false =>
        have HRE : Hid (r = (0, 2, S)) := Lib.hid (by
          rw [HR.out]; unfold ofS
          rw [if_neg (fun h => by have h1 := h.2; unfold bareNd at h1; rw [← HN.out, ← HSE.out] at h1; cases h1)])
        clear v24 hg
        go_wp2_with fail
        go_ret2
        rw [HRE.out]
        exact ⟨rfl, Sparing.of_grow HG.out, P, fun _ h => h, fun _ h => .inl h, H.out.grow HG.out⟩
      | true =>
        have HRE : Hid (r = putS S (bareNd op a b)) := Lib.hid (by
          rw [HR.out]; unfold ofS
          rw [if_pos ⟨HEQ.out, by unfold bareNd; rw [← HN.out, ← HSE.out]⟩])
        have hstep : stepB (bareNd op a b) (S.l.length : Int) (S.pars : Int) = true := by unfold bareNd; rw [← HN.out, ← HSE.out]
        have hop1 : op ≠ 1 := fun e => by
          have h1 := HEQ.out.1
          rw [e, HFF.out.1] at h1
          exact absurd h1 (by decide)
        have hkn := bare_key (a := a) (b := b) hop1
        have hky : KyOK (keyN (bareNd op a b)) := by rw [hkn]; exact ⟨HOP.out, HII.out.1, HII.out.2, Nat.zero_le _⟩
        have hnd : NdIn P W (bareNd op a b) (.slice none 0 0) (.slice none 0 0) := ⟨HOP.out, HII.out.1, HII.out.2, RawIn.nil _ _, RawIn.nil _ _, Nat.zero_le _, Nat.zero_le _⟩
        have hidx := fun n => index_any ((HROW.out.grow hg).grow (Grow.drewN W n)) HGD.out (hnd.kept (fun _ _ => rfl)) hky (show (keyN (bareNd op a b)).t = [] by rw [hkn])
        unfold ndV bareNd at hidx
        dsimp only at hidx
        have HIDX := Lib.hid hidx
        have hpm2 := HPM.out.below hg HPM.out.lt
        have hb2 := HB1.out.below hW HB1.out.lt
        have HPM2 := Lib.hid hpm2
        have HB2 := Lib.hid hb2
        have HSTP := Lib.hid hstep
        obtain ⟨e0, e1, e2, e3, e4, e5, e6, e7, e8, e9, e10, e11⟩ := KC.out W hW
        clear v24 hg hstep hop1 hkn hky hnd hidx hpm2 hb2
        go_wp2_with fail
        rename_i K1 hK1
        have hS : W.drew.cell? ⟨pm, 0, none⟩ = some (.pointer (some ⟨pr, 0, none⟩)) ∧ W.drew.cell? ⟨w.heap.size + 1, 0, none⟩ = some (.int .u8 (op : Int)) ∧ W.drew.cell? ⟨w.heap.size + 1, 1, none⟩ = some (.int .i64 a) ∧ W.drew.cell? ⟨w.heap.size + 1, 2, none⟩ = some (.int .i64 b) ∧ W.drew.cell? ⟨w.heap.size + 1, 3, none⟩ = some (.bool false) ∧ W.drew.cell? ⟨w.heap.size + 1, 4, none⟩ = some (.slice none 0 0) ∧ W.drew.cell? ⟨w.heap.size + 1, 5, none⟩ = some (.slice none 0 0) := ⟨e9, e3, e4, e5, e6, e7, e8⟩
        refine wp_region_walk (fun w' => w'.cell? ⟨pm, 0, none⟩ = some (.pointer (some ⟨pr, 0, none⟩)) ∧ w'.cell? ⟨w.heap.size + 1, 0, none⟩ = some (.int .u8 (op : Int)) ∧ w'.cell? ⟨w.heap.size + 1, 1, none⟩ = some (.int .i64 a) ∧ w'.cell? ⟨w.heap.size + 1, 2, none⟩ = some (.int .i64 b) ∧ w'.cell? ⟨w.heap.size + 1, 3, none⟩ = some (.bool false) ∧ w'.cell? ⟨w.heap.size + 1, 4, none⟩ = some (.slice none 0 0) ∧ w'.cell? ⟨w.heap.size + 1, 5, none⟩ = some (.slice none 0 0))
          [true, true, true, true, true, false, true, true, true, true] (by kernel_rfl) (by kernel_rfl) rfl (by kernel_rfl) (fun _ _ d _ _ h => by cases d <;> exact h) ?_
        repeat (refine walkS_yes hS rfl (fun w' hw' => by obtain ⟨q0, q1, q2, q3, q4, q5, q6⟩ := hw'; go_simp; rfl) ?_; simp only [Act.put, List.setIfInBounds_toArray, List.set_cons_zero, List.set_cons_succ])
        refine walkS_no rfl (fun K hK => ?_)
        go_simp
        refine (HIDX.out 1).mono ?_
        rintro e w4 ⟨rfl, hsp, P2, hP2a, hP2b, hrow4⟩
        have hpm4 := hsp.kinds _ _ _ HPM2.out (by decide) (by decide)
        have hlt2 : w.heap.size + 1 < W.heap.size := HB2.out.lt
        have hq4 : BlkOf w4 (w.heap.size + 1) _ _ := (hsp.other (w.heap.size + 1) hlt2 (fun h => by have := H.out.lt _ h; omega)).trans HB2.out
        have hS4 : w4.cell? ⟨pm, 0, none⟩ = some (.pointer (some ⟨pr, 0, none⟩)) ∧ w4.cell? ⟨w.heap.size + 1, 0, none⟩ = some (.int .u8 (op : Int)) ∧ w4.cell? ⟨w.heap.size + 1, 1, none⟩ = some (.int .i64 a) ∧ w4.cell? ⟨w.heap.size + 1, 2, none⟩ = some (.int .i64 b) ∧ w4.cell? ⟨w.heap.size + 1, 3, none⟩ = some (.bool false) ∧ w4.cell? ⟨w.heap.size + 1, 4, none⟩ = some (.slice none 0 0) ∧ w4.cell? ⟨w.heap.size + 1, 5, none⟩ = some (.slice none 0 0) := ⟨hpm4.at 0 rfl, hq4.at 0 rfl, hq4.at 1 rfl, hq4.at 2 rfl, hq4.at 3 rfl, hq4.at 4 rfl, hq4.at 5 rfl⟩
        refine hK _ _ hS4 ?_
        clear hK K hS
        repeat (refine walkS_yes hS4 rfl (fun w' hw' => by obtain ⟨q0, q1, q2, q3, q4, q5, q6⟩ := hw'; go_simp; rfl) ?_; simp only [Act.put, List.setIfInBounds_toArray, List.set_cons_zero, List.set_cons_succ])
        simp only [walkS]
        have HFIN : Hid (Sparing P w w4 ∧ ∃ P', (∀ k, P k → P' k) ∧ (∀ k, P' k → P k ∨ w.heap.size ≤ k) ∧ MkAt P' w4 (.pointer (some ⟨pm, 0, none⟩)) r.2.2) := Lib.hid (by
          have hg := HBW.out.trans hW
          refine ⟨(Sparing.of_grow (P := P) (hg.trans (Grow.drewN W 1))).trans hsp (fun k hk => .inl hk), P2, hP2a, fun k hk => ?_, pm, pr, rfl, hP2a _ hPm, hpm4, ?_, ?_⟩
          · rcases hP2b k hk with h | h
            · exact .inl h
            · exact .inr (Nat.le_trans (Below.size hg) h)
          · rw [HRE.out]; exact hrow4
          · rw [HRE.out]; exact putS_good HGD.out HSTP.out)
        clear hsp hrow4 hpm4 hq4 hS4 hP2a hP2b
        refine hK1 _ _ ?_
        go_wp2_with fail
        go_ret2
        exact ⟨by rw [HRE.out]; rfl, HFIN.out⟩
    all_goals
      intro a' W hW hb hf
      obtain ⟨e0, e1, e2, e3, e4, e5, e6, e7, e8, e9, e10, e11⟩ := KC.out W hW
      simp only [List.forall_mem_cons, List.not_mem_nil, false_imp_iff, implies_true, and_true] at hb
      obtain ⟨m0, m4, m5⟩ := hb
      simp [FactsOf, FactAt, Region.binds, factsL] at hf
    · refine .inl ⟨rfl, fun K hK => ?_⟩
      unfold Oper.wp
      simp [execOp, go_sem, *]
      exact hK _ _ (Grow.refl _) rfl
    · refine .inl ⟨rfl, fun K hK => ?_⟩
      unfold Oper.wp
      simp [execOp, go_sem, *]
      exact hK _ _ (Grow.refl _) rfl
    · refine .inl ⟨rfl, fun K hK => ?_⟩
      unfold Oper.wp
      simp [go_sem, hf]
      refine (HF.out W hW).mono ?_
      rintro e W' ⟨rfl, hg⟩
      exact hK _ _ hg rfl
    · refine .inl ⟨rfl, fun K hK => ?_⟩
      unfold Oper.wp
      simp [execOp, go_sem, *]
      exact hK _ _ (Grow.refl _) rfl
    · refine .inl ⟨rfl, fun K hK => ?_⟩
      unfold Oper.wp
      simp [execOp, go_sem, hf, hbin]
      exact hK _ _ (Grow.refl _) rfl
    · refine .inl ⟨rfl, fun K hK => ?_⟩
      unfold Oper.wp
      simp [execOp, go_sem, *]
      exact hK _ _ (Grow.refl _) rfl
    · refine .inl ⟨wanted_yes (j := 5) (b := false) rfl (yielded_of (d := 17) rfl (by simp [hf])), fun K hK => ?_⟩
      unfold Oper.wp
      simp [execOp, go_sem, *]
      exact hK _ _ (Grow.refl _) rfl
    · refine .inl ⟨wanted_yes (j := 5) (b := false) rfl (yielded_of (d := 17) rfl (by simp [hf])), fun K hK => ?_⟩
      unfold Oper.wp
      simp [execOp, go_sem, *]
      exact hK _ _ (Grow.refl _) rfl
    · refine .inl ⟨wanted_yes (j := 5) (b := false) rfl (yielded_of (d := 17) rfl (by simp [hf])), fun K hK => ?_⟩
      unfold Oper.wp
      simp [execOp, go_sem, *]
      exact hK _ _ (Grow.refl _) rfl
    · refine .inl ⟨wanted_yes (j := 5) (b := false) rfl (yielded_of (d := 17) rfl (by simp [hf])), fun K hK => ?_⟩
      unfold Oper.wp
      simp [execOp, go_sem, *]
      exact hK _ _ (Grow.refl _) rfl
    · refine .inl ⟨wanted_yes (j := 5) (b := false) rfl (yielded_of (d := 17) rfl (by simp [hf])), fun K hK => ?_⟩
      unfold Oper.wp
      simp [execOp, go_sem, *]
      exact hK _ _ (Grow.refl _) rfl
    · refine .inl ⟨wanted_yes (j := 5) (b := false) rfl (yielded_of (d := 17) rfl (by simp [hf])), fun K hK => ?_⟩
      unfold Oper.wp
      simp [execOp, go_sem, *]
      exact hK _ _ (Grow.refl _) rfl
    · refine .inl ⟨wanted_yes (j := 5) (b := false) rfl (yielded_of (d := 17) rfl (by simp [hf])), fun K hK => ?_⟩
      unfold Oper.wp
      simp [execOp, go_sem, *]
      exact hK _ _ (Grow.refl _) rfl
    · refine .inl ⟨wanted_yes (j := 5) (b := false) rfl (yielded_of (d := 17) rfl (by simp [hf])), fun K hK => ?_⟩
      unfold Oper.wp
      simp [execOp, go_sem, *]
      exact hK _ _ (Grow.refl _) rfl
    · refine .inl ⟨wanted_yes (j := 5) (b := false) rfl (yielded_of (d := 17) rfl (by simp [hf])), fun K hK => ?_⟩
      unfold Oper.wp
      simp [go_sem, *]
      exact hK _ _ (Grow.refl _) rfl
    · refine .inl ⟨wanted_yes (j := 5) (b := false) rfl (yielded_of (d := 17) rfl (by simp [hf])), fun K hK => ?_⟩
      unfold Oper.wp
      simp [execOp, go_sem, *]
      exact hK _ _ (Grow.refl _) rfl
    · refine .inl ⟨wanted_yes (j := 5) (b := false) rfl (yielded_of (d := 17) rfl (by simp [hf])), fun K hK => ?_⟩
      unfold Oper.wp
      simp [execOp, go_sem, *]
      exact hK _ _ (Grow.refl _) rfl
    · refine .inl ⟨wanted_yes (j := 5) (b := false) rfl (yielded_of (d := 17) rfl (by simp [hf])), fun K hK => ?_⟩
      unfold Oper.wp
      simp [execOp, go_sem, *]
      exact hK _ _ (Grow.refl _) rfl
    · refine .inl ⟨wanted_yes (j := 5) (b := false) rfl (yielded_of (d := 17) rfl (by simp [hf])), fun K hK => ?_⟩
      unfold Oper.wp
      simp [execOp, go_sem, *]
      exact hK _ _ (Grow.refl _) rfl
    · refine .inl ⟨wanted_yes (j := 5) (b := false) rfl (yielded_of (d := 17) rfl (by simp [hf])), fun K hK => ?_⟩
      unfold Oper.wp
      simp [execOp, go_sem, *]
      exact hK _ _ (Grow.refl _) rfl
    · refine .inl ⟨wanted_yes (j := 5) (b := false) rfl (yielded_of (d := 17) rfl (by simp [hf])), fun K hK => ?_⟩
      unfold Oper.wp
      simp [execOp, go_sem, *]
      exact hK _ _ (Grow.refl _) rfl
    · refine .inl ⟨wanted_yes (j := 5) (b := false) rfl (yielded_of (d := 17) rfl (by simp [hf])), fun K hK => ?_⟩
      unfold Oper.wp
      simp [execOp, go_sem, *]
      exact hK _ _ (Grow.refl _) rfl
    · refine .inl ⟨wanted_yes (j := 5) (b := false) rfl (yielded_of (d := 17) rfl (by simp [hf])), fun K hK => ?_⟩
      unfold Oper.wp
      simp [go_sem, hf]
      refine (HST.out W hW).mono ?_
      rintro e W' ⟨rfl, hg⟩
      exact hK _ _ hg rfl
    · refine .inl ⟨wanted_yes (j := 5) (b := false) rfl (yielded_of (d := 17) rfl (by simp [hf])), fun K hK => ?_⟩
      unfold Oper.wp
      simp [execOp, go_sem, *]
      exact hK _ _ (Grow.refl _) rfl
    · refine .inl ⟨rfl, fun K hK => ?_⟩
      unfold Oper.wp
      simp [execOp, go_sem, *]
      exact hK _ _ (Grow.refl _) rfl
  · have hbin : ∀ W, (binOp .neq 97 (.agg #[.int .u8 ((fld op 0 : Nat) : Int), .int .u8 ((fld op 1 : Nat) : Int), .int .u8 ((fld op 2 : Nat) : Int)]) (.agg #[.int .u8 (f0 : Int), .int .u8 (f1 : Int), .int .u8 (f2 : Int)])).run Tryd.prog W = .ok (.bool true) W := by
      intro W
      simp [go_sem]
      omega
    have HEQ := Lib.hid heq
    clear heq
    go_enter Tryd.func47, Tryd.ntmps47
    go_wp2_with (first | (go_at_call 12; refine HNO.out.mono ?_; rintro e w3 ⟨rfl, rfl⟩) | fail)
    rename_i K0 hK0
    refine wp_region_listG [fun v _ => v = .pointer (some ⟨w.heap.size + 1, 0, none⟩), fun v _ => v = .int .u8 (op : Int), fun v _ => v = .agg #[.int .u8 ((fld op 0 : Nat) : Int), .int .u8 ((fld op 1 : Nat) : Int), .int .u8 ((fld op 2 : Nat) : Int)], fun v _ => v = .agg #[.int .u8 (f0 : Int), .int .u8 (f1 : Int), .int .u8 (f2 : Int)], fun v _ => v = .bool true, fun v _ => v = .bool true, fun _ _ => True, fun _ _ => True, fun _ _ => True, fun _ _ => True, fun _ _ => True, fun _ _ => True, fun _ _ => True, fun _ _ => True, fun _ _ => True, fun _ _ => True, fun _ _ => True, fun _ _ => True, fun _ _ => True, fun _ _ => True, fun _ _ => True, fun _ _ => True, fun _ _ => True, fun _ _ => True, fun v _ => v = .bool true]
      [(0, .pointer (some ⟨pm, 0, none⟩)), (4, .pointer (some ⟨w.heap.size, 0, none⟩)), (5, .pointer (some ⟨w.heap.size + 1, 0, none⟩))] 25 (by kernel_rfl) ⟨stays_pure _, stays_pure _, stays_pure _, stays_pure _, stays_pure _, stays_pure _, stays_pure _, stays_pure _, stays_pure _, stays_pure _, stays_pure _, stays_pure _, stays_pure _, stays_pure _, stays_pure _, stays_pure _, stays_pure _, stays_pure _, stays_pure _, stays_pure _, stays_pure _, stays_pure _, stays_pure _, stays_pure _, stays_pure _, trivial⟩ rfl (by kernel_rfl) rfl ?base (by kernel_rfl) ⟨?_, ?_, ?_, ?_, ?_, ?_, ?_, ?_, ?_, ?_, ?_, ?_, ?_, ?_, ?_, ?_, ?_, ?_, ?_, ?_, ?_, ?_, ?_, ?_, ?_, trivial⟩ ?last
    case base => simp
    case last =>
      intro vs W hW hv
      simp only [FactsL, Nat.zero_add, Nat.reduceAdd] at hv
      have v24 := hv.2.2.2.2.2.2.2.2.2.2.2.2.2.2.2.2.2.2.2.2.2.2.2.2.1
      clear hv
      refine ⟨rfl, ?_⟩
      simp only [List.take_succ_cons, List.take_zero, putF, Act.put, List.setIfInBounds_toArray, List.set_cons_zero, List.set_cons_succ, Nat.reduceAdd, v24]
      unfold Oper.wp
      simp [execOp, go_sem]
      refine hK0 _ _ ?_
      have HG := Lib.hid (HBW.out.trans hW)
      have HRE : Hid (r = (0, 2, S)) := Lib.hid (by
        rw [HR.out]; unfold ofS
        rw [if_neg (fun h => HEQ.out h.1)])
      clear v24
      go_wp2_with fail
      go_ret2
      rw [HRE.out]
      exact ⟨rfl, Sparing.of_grow HG.out, P, fun _ h => h, fun _ h => .inl h, H.out.grow HG.out⟩
    all_goals
      intro a' W hW hb hf
      obtain ⟨e0, e1, e2, e3, e4, e5, e6, e7, e8, e9, e10, e11⟩ := KC.out W hW
      simp only [List.forall_mem_cons, List.not_mem_nil, false_imp_iff, implies_true, and_true] at hb
      obtain ⟨m0, m4, m5⟩ := hb
      simp [FactsOf, FactAt, Region.binds, factsL] at hf
    · refine .inl ⟨rfl, fun K hK => ?_⟩
      unfold Oper.wp
      simp [execOp, go_sem, *]
      exact hK _ _ (Grow.refl _) rfl
    · refine .inl ⟨rfl, fun K hK => ?_⟩
      unfold Oper.wp
      simp [execOp, go_sem, *]
      exact hK _ _ (Grow.refl _) rfl
    · refine .inl ⟨rfl, fun K hK => ?_⟩
      unfold Oper.wp
      simp [go_sem, hf]
      refine (HF.out W hW).mono ?_
      rintro e W' ⟨rfl, hg⟩
      exact hK _ _ hg rfl
    · refine .inl ⟨rfl, fun K hK => ?_⟩
      unfold Oper.wp
      simp [execOp, go_sem, *]
      exact hK _ _ (Grow.refl _) rfl
    · refine .inl ⟨rfl, fun K hK => ?_⟩
      unfold Oper.wp
      simp [execOp, go_sem, hf, hbin]
      exact hK _ _ (Grow.refl _) rfl
    · refine .inl ⟨rfl, fun K hK => ?_⟩
      unfold Oper.wp
      simp [execOp, go_sem, *]
      exact hK _ _ (Grow.refl _) rfl
    · refine .inr ⟨?_, trivial⟩
      exact wanted_no (j := 5) (b := false) rfl (yielded_of (d := 17) rfl (by simp [hf]))
    · refine .inr ⟨?_, trivial⟩
      exact wanted_no (j := 5) (b := false) rfl (yielded_of (d := 17) rfl (by simp [hf]))
    · refine .inr ⟨?_, trivial⟩
      exact wanted_no (j := 5) (b := false) rfl (yielded_of (d := 17) rfl (by simp [hf]))
    · refine .inr ⟨?_, trivial⟩
      exact wanted_no (j := 5) (b := false) rfl (yielded_of (d := 17) rfl (by simp [hf]))
    · refine .inr ⟨?_, trivial⟩
      exact wanted_no (j := 5) (b := false) rfl (yielded_of (d := 17) rfl (by simp [hf]))
    · refine .inr ⟨?_, trivial⟩
      exact wanted_no (j := 5) (b := false) rfl (yielded_of (d := 17) rfl (by simp [hf]))
    · refine .inr ⟨?_, trivial⟩
      exact wanted_no (j := 5) (b := false) rfl (yielded_of (d := 17) rfl (by simp [hf]))
    · refine .inr ⟨?_, trivial⟩
      exact wanted_no (j := 5) (b := false) rfl (yielded_of (d := 17) rfl (by simp [hf]))
    · refine .inr ⟨?_, trivial⟩
      exact wanted_no (j := 5) (b := false) rfl (yielded_of (d := 17) rfl (by simp [hf]))
    · refine .inr ⟨?_, trivial⟩
      exact wanted_no (j := 5) (b := false) rfl (yielded_of (d := 17) rfl (by simp [hf]))
    · refine .inr ⟨?_, trivial⟩
      exact wanted_no (j := 5) (b := false) rfl (yielded_of (d := 17) rfl (by simp [hf]))
    · refine .inr ⟨?_, trivial⟩
      exact wanted_no (j := 5) (b := false) rfl (yielded_of (d := 17) rfl (by simp [hf]))
    · refine .inr ⟨?_, trivial⟩
      exact wanted_no (j := 5) (b := false) rfl (yielded_of (d := 17) rfl (by simp [hf]))
    · refine .inr ⟨?_, trivial⟩
      exact wanted_no (j := 5) (b := false) rfl (yielded_of (d := 17) rfl (by simp [hf]))
    · refine .inr ⟨?_, trivial⟩
      exact wanted_no (j := 5) (b := false) rfl (yielded_of (d := 17) rfl (by simp [hf]))
    · refine .inr ⟨?_, trivial⟩
      exact wanted_no (j := 5) (b := false) rfl (yielded_of (d := 17) rfl (by simp [hf]))
    · refine .inr ⟨?_, trivial⟩
      exact wanted_no (j := 5) (b := false) rfl (yielded_of (d := 17) rfl (by simp [hf]))
    · refine .inr ⟨?_, trivial⟩
      exact wanted_no (j := 5) (b := false) rfl (yielded_of (d := 17) rfl (by simp [hf]))
    · refine .inl ⟨rfl, fun K hK => ?_⟩
      unfold Oper.wp
      simp [execOp, go_sem, *]
      exact hK _ _ (Grow.refl _) rfl
end Go.Proofs.YtcbebikcfcidmaaDoor

namespace Go.Proofs.YtcbebikcfcidmaaDoor
open Go.RowKit

theorem stepsB_at {pars : Int} : ∀ {L : List Nd} {k i : Nat} {x : Nd}, stepsB pars k L = true → L[i]? = some x → stepB x ((k + i : Nat) : Int) pars = true
  | [], _, _, _, _, h => by simp at h
  | y :: L, k, 0, x, hv, h => by
    simp at h
    subst h
    simp [stepsB] at hv
    exact hv.1
  | y :: L, k, i + 1, x, hv, h => by
    simp [stepsB] at hv
    have := stepsB_at (k := k + 1) hv.2 (i := i) (x := x) (by simpa using h)
    rwa [show k + 1 + i = k + (i + 1) by omega] at this
end Go.Proofs.YtcbebikcfcidmaaDoor
