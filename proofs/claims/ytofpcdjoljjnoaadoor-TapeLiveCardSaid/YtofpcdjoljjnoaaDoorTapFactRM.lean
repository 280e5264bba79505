/-
  LAYER 17: a region that draws its order, by facts that any given relation between worlds keeps.
-/
import Derived.Test.YtofpcdjoljjnoaaDoorTapZ22
import Derived.Test.YtofpcdjoljjnoaaDoorTapZ23
namespace Go.Proofs.YtofpcdjoljjnoaaDoor
open Go.RowKit

/-- What each operation may do to memory. -/
structure Rel where
  to : World → World → Prop
  refl : ∀ w, to w w
  trans : ∀ {a b c}, to a b → to b c → to a c
  drew : ∀ w, to w w.drew
structure MidR (R : Rel) (L : List Oper) (F : Nat → Value → World → Prop) (t : Nat) (a0 : Act) (w0 : World) (listed : Array Bool) (a : Act) (w : World) : Prop where
  grow : R.to w0 w
  size : a.tmps.size = a0.tmps.size
  defers : a.defers = a0.defers
  other : ∀ s, s ∉ dstsOf (L.take t) → a.tmps[s]? = a0.tmps[s]?
  fact : ∀ j, j < t → listed.getD j false = true → FactAt L F j a w
def StaysR (R : Rel) (f : Value → World → Prop) : Prop := ∀ v w w', R.to w w' → f v w → f v w'
def AllStayR (R : Rel) : List (Value → World → Prop) → Prop
  | [] => True
  | f :: l => StaysR R f ∧ AllStayR R l
theorem AllStayR.at {R : Rel} {l : List (Value → World → Prop)} : ∀ {f}, AllStayR R l → f ∈ l → StaysR R f := by
  induction l with
  | nil => intro f _ h; cases h
  | cons g l ih =>
    intro f h hm
    rcases List.mem_cons.1 hm with rfl | hm
    · exact h.1
    · exact ih h.2 hm
theorem factsL_monoR {R : Rel} {l : List (Value → World → Prop)} (h : AllStayR R l) (i : Nat) (v : Value) (w w' : World) (hg : R.to w w') (hf : factsL l i v w) : factsL l i v w' := by
  unfold factsL at hf ⊢
  cases hx : l[i]? with
  | none => trivial
  | some f =>
    rw [hx] at hf
    exact (h.at (List.mem_of_getElem? hx)) v w w' hg hf
theorem stays_pureR (R : Rel) (p : Value → Prop) : StaysR R (fun v _ => p v) := fun _ _ _ _ h => h

section
variable {P : Program} {L : List Oper} {Q : Exit → Act → World → Prop}

/-- What is asked of operation number i, which is o. -/
def StepR (R : Rel) (P : Program) (Q : Exit → Act → World → Prop) (L : List Oper) (F : Nat → Value → World → Prop) (base : List (Nat × Value)) (w0 : World) (i : Nat) (o : Oper) : Prop :=
  ∀ a w, R.to w0 w → (∀ p ∈ base, a.tmps[p.1]?.getD undef = p.2) → FactsOf L F o.after a w →
    (Region.wanted o (yielded L.toArray a.tmps) = true ∧ ∀ K : Act → World → Prop, (∀ v w', R.to w w' → F i v w' → K (a.put o.dst v) w') → o.wp P a w K Q) ∨ (Region.wanted o (yielded L.toArray a.tmps) = false ∧ F i undef w)
/-- The same of each of a row of operations, from number k on. -/
def StepsR (R : Rel) (P : Program) (Q : Exit → Act → World → Prop) (L : List Oper) (F : Nat → Value → World → Prop) (base : List (Nat × Value)) (w0 : World) : Nat → List Oper → Prop
  | _, [] => True
  | k, o :: r => StepR R P Q L F base w0 k o ∧ StepsR R P Q L F base w0 (k + 1) r
theorem StepsR.at {R : Rel} {F : Nat → Value → World → Prop} {base : List (Nat × Value)} {w0 : World} : ∀ {r : List Oper} {k : Nat}, StepsR R P Q L F base w0 k r → ∀ j o, r[j]? = some o → StepR R P Q L F base w0 (k + j) o
  | [], _, _, _, _, h => by simp at h
  | o :: r, k, hs, j, o', h => by
    cases j with
    | zero => simp at h; subst h; exact hs.1
    | succ j =>
      simp at h
      have := StepsR.at hs.2 j o' h
      rwa [show k + 1 + j = k + (j + 1) by omega] at this

theorem wpAny_factsR {R : Rel} {F : Nat → Value → World → Prop} {base : List (Nat × Value)} {t : Nat} {a0 : Act} {w0 : World} {last : Oper}
    (hF : ∀ i v w w', R.to w w' → F i v w → F i v w')
    (hok : factOK L t a0.tmps.size = true) (hl : L[t]? = some last)
    (hb : ∀ p ∈ base, a0.tmps[p.1]?.getD undef = p.2) (hfree : ∀ p ∈ base, p.1 ∉ dstsOf (L.take t))
    (hsteps : StepsR R P Q L F base w0 0 (L.take t))
    (hlast : ∀ vs w, R.to w0 w → (∀ j, j < t → F j (vs j) w) → Region.wanted last (yielded L.toArray (putF vs (L.take t) 0 a0).tmps) = true ∧ last.wp P (putF vs (L.take t) 0 a0) w (fun a' w' => Q .normal a' w') Q) :
    ∀ (fuel : Nat) (listed : Array Bool) (a : Act) (w : World), listed.size = L.length → (listed.toList.filter (· == false)).length ≤ fuel → Closed .any L.toArray listed →
      ((∀ i, i < L.length → listed.getD i false = true) ∧ Q .normal a w ∨ listed.getD t true = false ∧ MidR R L F t a0 w0 listed a w) →
      wpAny P .any L.toArray Q fuel listed a w := by
  unfold factOK at hok
  simp only [Bool.and_eq_true, decide_eq_true_eq] at hok
  obtain ⟨⟨⟨⟨⟨hlen, hord⟩, hnod⟩, hlow⟩, hsome⟩, hchain⟩ := hok
  have hsz0 : L.toArray.size = t + 1 := by simpa using hlen
  have hmemT : ∀ (listed : Array Bool), Closed .any L.toArray listed → t ∈ Region.ready .any L.toArray listed → ∀ i, i < t → listed.getD i true = true := by
    intro listed hcl hm i hi
    cases hq : listed.getD i true with
    | true => rfl
    | false => exact absurd hm (chain_waits hchain (by rw [hsz0]) hcl (t - i) i rfl hi hq)
  intro fuel
  induction fuel with
  | zero =>
    intro listed a w hsz hf hcl h
    have hall : ∀ i, i < L.length → listed.getD i false = true := by
      intro i hi
      have h0 : listed.toList.filter (· == false) = [] := List.eq_nil_of_length_eq_zero (by omega)
      rw [List.filter_eq_nil_iff] at h0
      have h1 := h0 (listed[i]'(by omega)) (by simp)
      rw [Array.getD_eq_getD_getElem?, Array.getElem?_eq_getElem (by omega)]
      simpa using h1
    rcases h with ⟨_, hq⟩ | ⟨hq, _⟩
    · refine ⟨List.eq_nil_iff_forall_not_mem.2 fun i hi => ?_, hq⟩
      obtain ⟨hl1, o, ho, _⟩ := mem_ready.1 hi
      have hlt : i < L.length := by have := (Array.getElem?_eq_some_iff.1 ho).1; simpa using this
      have := hall i hlt
      rw [Array.getD_eq_getD_getElem?, Array.getElem?_eq_getElem (by omega)] at this hl1
      simp at this hl1
      rw [this] at hl1; cases hl1
    · have := hall t (by omega)
      rw [Array.getD_eq_getD_getElem?, Array.getElem?_eq_getElem (by omega)] at this hq
      simp at this hq
      rw [this] at hq; cases hq
  | succ fuel ih =>
    intro listed a w hsz hf hcl h
    -- nothing is ready only when all is listed
    have hready : Region.ready .any L.toArray listed = [] → ∀ i, i < L.length → listed.getD i false = true := by
      intro hr i
      induction i using Nat.strongRecOn with
      | _ i ihi =>
        intro hi
        cases hq : listed.getD i false with
        | true => rfl
        | false =>
          have hmem : i ∈ Region.ready .any L.toArray listed := by
            refine mem_ready.2 ⟨?_, L[i], by simp [hi], fun e he hbd => ?_⟩
            · rw [Array.getD_eq_getD_getElem?, Array.getElem?_eq_getElem (by omega)] at hq ⊢
              exact hq
            · have h1 := List.all_eq_true.1 hord i (List.mem_range.2 (by omega))
              rw [List.getElem?_eq_getElem hi] at h1
              have h2 := Array.all_eq_true'.1 h1 e he
              simp only [hbd, Bool.not_true, Bool.false_or, decide_eq_true_eq] at h2
              exact ihi e.on h2 (by omega)
          rw [hr] at hmem
          cases hmem
    refine ⟨fun hr => ?_, fun i hi => ?_⟩
    · rcases h with ⟨_, hq⟩ | ⟨hq, _⟩
      · exact hq
      · have := hready hr t (by omega)
        rw [Array.getD_eq_getD_getElem?, Array.getElem?_eq_getElem (by omega)] at this hq
        simp at this hq
        rw [this] at hq; cases hq
    · have hi0 := hi
      obtain ⟨hl1, o, ho, hdeps⟩ := mem_ready.1 hi
      have hlt : i < L.length := by have := (Array.getElem?_eq_some_iff.1 ho).1; simpa using this
      have hoL : L[i]? = some o := by simpa using ho
      rcases h with ⟨hall, _⟩ | ⟨htf, hmid⟩
      · have := hall i hlt
        rw [Array.getD_eq_getD_getElem?, Array.getElem?_eq_getElem (by omega)] at this hl1
        simp at this hl1
        rw [this] at hl1; cases hl1
      · have hfuel : ((listed.setIfInBounds i true).toList.filter (· == false)).length ≤ fuel := by
          have hi2 : i < listed.size := by omega
          have e1 : (listed.setIfInBounds i true).toList = listed.toList.set i true := by simp
          have hli : listed.toList[i]? = some false := by
            rw [Array.getD_eq_getD_getElem?, Array.getElem?_eq_getElem hi2] at hl1
            simp at hl1
            simp [hi2, hl1]
          rw [e1]
          have key : ∀ (l : List Bool) (i : Nat), l[i]? = some false → ((l.set i true).filter (· == false)).length + 1 = (l.filter (· == false)).length := by
            intro l
            induction l with
            | nil => intro i h; simp at h
            | cons b l ihl =>
              intro i h
              cases i with
              | zero => simp at h; subst h; simp
              | succ i =>
                have := ihl i (by simpa using h)
                rw [List.set_cons_succ]
                cases b <;> simp at this ⊢ <;> omega
          have := key _ _ hli
          omega
        by_cases hit : i = t
        · -- the last one
          subst hit
          have hallT := hmemT listed hcl hi0
          obtain rfl : last = o := by rw [hl] at hoL; injection hoL
          -- the values
          have hvs : ∃ vs : Nat → Value, a = putF vs (L.take i) 0 a0 ∧ ∀ j, j < i → F j (vs j) w := by
            refine ⟨fun j => match (L[j]?).bind (·.dst) with | some d => a.tmps[d]?.getD undef | none => undef, ?_, fun j hj => ?_⟩
            · have hs := putF_size (fun j => match (L[j]?).bind (·.dst) with | some d => a.tmps[d]?.getD undef | none => undef) (L.take i) 0 a0
              have ht : a.tmps = (putF (fun j => match (L[j]?).bind (·.dst) with | some d => a.tmps[d]?.getD undef | none => undef) (L.take i) 0 a0).tmps := by
                apply Array.ext_getElem?
                intro s
                by_cases hmem : s ∈ dstsOf (L.take i)
                · have hmem' := hmem
                  unfold dstsOf at hmem'
                  rw [List.mem_filterMap] at hmem'
                  obtain ⟨o', ho', hd'⟩ := hmem'
                  obtain ⟨j, hj, hj'⟩ := List.mem_iff_getElem.1 ho'
                  have hjL : (L.take i)[j]? = some o' := by rw [List.getElem?_eq_getElem hj, hj']
                  have hji : j < i := by simp at hj; omega
                  have hjL2 : L[j]? = some o' := by rw [List.getElem?_take, if_pos hji] at hjL; exact hjL
                  have hsl : s < a0.tmps.size := by have := List.all_eq_true.1 hlow s hmem; simpa using this
                  rw [putF_at _ s (L.take i) 0 a0 j o' hnod hjL hd' hsl, Nat.zero_add, hjL2]
                  simp only [Option.bind_some, hd']
                  rw [Array.getElem?_eq_getElem (by rw [hmid.size]; exact hsl)]
                  rfl
                · rw [putF_ne _ s _ _ _ hmem]
                  exact hmid.other s hmem
              have hd : a.defers = (putF (fun j => match (L[j]?).bind (·.dst) with | some d => a.tmps[d]?.getD undef | none => undef) (L.take i) 0 a0).defers := hmid.defers.trans hs.2.symm
              exact act_ext ht hd
            · have h1 := hmid.fact j hj (by
                have := hallT j hj
                rw [Array.getD_eq_getD_getElem?, Array.getElem?_eq_getElem (by omega)] at this ⊢
                exact this)
              unfold FactAt at h1
              show F j (match (L[j]?).bind (·.dst) with | some d => a.tmps[d]?.getD undef | none => undef) w
              cases hx : (L[j]?).bind (·.dst) with
              | none => rw [hx] at h1; exact h1
              | some d => rw [hx] at h1; exact h1
          obtain ⟨vs, rfl, hvs⟩ := hvs
          obtain ⟨hw, hop⟩ := hlast vs w hmid.grow hvs
          unfold wpOp
          simp only [ho]
          rw [if_pos hw]
          refine .inl (Oper.wp_mono (fun a' w' hq => ih _ a' w' (by simpa using hsz) hfuel (hcl.set hi0) (.inl ⟨fun k hk => ?_, hq⟩)) hop)
          by_cases hki : i = k
          · subst hki
            rw [Array.getD_eq_getD_getElem?, Array.getElem?_setIfInBounds, if_pos rfl, if_pos (by omega)]; rfl
          · rw [Array.getD_eq_getD_getElem?, Array.getElem?_setIfInBounds, if_neg hki]
            have := hallT k (by omega)
            rw [Array.getD_eq_getD_getElem?, Array.getElem?_eq_getElem (by omega)] at this
            rw [Array.getElem?_eq_getElem (by omega)]
            exact this
        · have hit' : i < t := by omega
          have hstep := hsteps.at i o (by rw [List.getElem?_take, if_pos hit']; exact hoL)
          rw [Nat.zero_add] at hstep
          have hbase : ∀ p ∈ base, a.tmps[p.1]?.getD undef = p.2 := by
            intro p hp
            rw [← hb p hp, hmid.other p.1 (hfree p hp)]
          have hfacts : FactsOf L F o.after a w := by
            intro e he hbd
            have he' : e ∈ o.after := by simpa using he
            have h1 := List.all_eq_true.1 hord i (List.mem_range.2 (by omega))
            rw [hoL] at h1
            have h2 := Array.all_eq_true'.1 h1 e he'
            simp only [hbd, Bool.not_true, Bool.false_or, decide_eq_true_eq] at h2
            exact hmid.fact e.on (by omega) (hdeps e he' hbd)
          have hgo : ∀ v w', R.to w w' → F i v w' → wpAny P .any L.toArray Q fuel (listed.setIfInBounds i true) (a.put o.dst v) w' := by
            intro v w' hg hFv
            refine ih _ _ w' (by simpa using hsz) hfuel (hcl.set hi0) (.inr ⟨?_, ?_⟩)
            · rw [Array.getD_eq_getD_getElem?, Array.getElem?_setIfInBounds, if_neg hit, ← Array.getD_eq_getD_getElem?]
              exact htf
            · have hdmem : ∀ d, o.dst = some d → d ∈ dstsOf (L.take t) := fun d hd => by
                unfold dstsOf
                rw [List.mem_filterMap]
                exact ⟨o, List.mem_iff_getElem?.2 ⟨i, by rw [List.getElem?_take, if_pos hit']; exact hoL⟩, hd⟩
              refine ⟨R.trans hmid.grow hg, (put_size _ _ _).trans hmid.size, (put_defers _ _ _).trans hmid.defers, fun s hs => (put_get_ne v (fun e => hs (hdmem s e))).trans (hmid.other s hs), fun j hj hlj => ?_⟩
              by_cases hji : i = j
              · subst hji
                unfold FactAt
                rw [hoL]
                simp only [Option.bind_some]
                cases hd : o.dst with
                | none =>
                  have h1 := List.all_eq_true.1 hsome o (List.mem_iff_getElem?.2 ⟨i, by rw [List.getElem?_take, if_pos hit']; exact hoL⟩)
                  rw [hd] at h1
                  cases h1
                | some d =>
                  simp only
                  have : (a.put (some d) v).tmps[d]?.getD undef = v := by
                    rw [put_get v (by
                      rw [hmid.size]
                      have := List.all_eq_true.1 hlow d (hdmem d hd)
                      simpa using this)]
                    rfl
                  rw [this]
                  exact hFv
              · rw [Array.getD_eq_getD_getElem?, Array.getElem?_setIfInBounds, if_neg hji, ← Array.getD_eq_getD_getElem?] at hlj
                have h1 := hmid.fact j hj hlj
                unfold FactAt at h1 ⊢
                cases hjb : (L[j]?).bind (·.dst) with
                | none => rw [hjb] at h1; exact hF j _ w w' hg h1
                | some d =>
                  rw [hjb] at h1
                  have hne : o.dst ≠ some d := fun e => by
                    -- two operations with one slot
                    obtain ⟨oj, hoj, hdj⟩ := Option.bind_eq_some_iff.1 hjb
                    have := nodup_slot hnod (i := i) (j := j) (by rw [List.getElem?_take, if_pos hit']; exact hoL) (by rw [List.getElem?_take, if_pos hj]; exact hoj) e hdj
                    exact hji this
                  have : (a.put o.dst v).tmps[d]?.getD undef = a.tmps[d]?.getD undef := by
                    rw [put_get_ne v hne]
                  simp only [this]
                  exact hF j _ w w' hg h1
          unfold wpOp
          simp only [ho]
          rcases hstep a w hmid.grow hbase hfacts with ⟨hw, hop⟩ | ⟨hw, hF0⟩
          · rw [if_pos hw]
            exact .inl (hop _ hgo)
          · rw [if_neg (by rw [hw]; simp)]
            exact hgo undef w (R.refl _) hF0

/-- A region that draws its order, by facts. -/
theorem wp_region_factsR {R : Rel} {id : Nat} {a0 : Act} {w0 : World} (F : Nat → Value → World → Prop) (base : List (Nat × Value)) (t : Nat) {last : Oper} (hm : P.follows .mixedOrders = true)
    (hF : ∀ i v w w', R.to w w' → F i v w → F i v w')
    (hok : factOK L t a0.tmps.size = true) (hl : L[t]? = some last)
    (hb : ∀ p ∈ base, a0.tmps[p.1]?.getD undef = p.2) (hfree : base.all (fun p => !(dstsOf (L.take t)).contains p.1) = true)
    (hsteps : StepsR R P Q L F base w0 0 (L.take t))
    (hlast : ∀ vs w, R.to w0 w → (∀ j, j < t → F j (vs j) w) → Region.wanted last (yielded L.toArray (putF vs (L.take t) 0 a0).tmps) = true ∧ last.wp P (putF vs (L.take t) 0 a0) w (fun a' w' => Q .normal a' w') Q) :
    (Code.region id L.toArray true).wp P Q a0 w0 := by
  refine wp_region_any hm (wpAny_factsR hF hok hl hb (fun p hp => ?_) hsteps hlast _ _ _ _ (by simp) (Nat.le_trans (List.length_filter_le _ _) (by simp)) ⟨by simp, fun j oj _ hl => (by rw [getD_replicate_false] at hl; cases hl)⟩ (.inr ⟨?_, ?_⟩))
  · have := List.all_eq_true.1 hfree p hp
    simpa using this
  · have hlt : t < L.length := (List.getElem?_eq_some_iff.1 hl).1
    rw [Array.getD_eq_getD_getElem?]
    simp [hlt]
  · exact ⟨R.drew _, rfl, rfl, fun _ _ => rfl, fun j _ hlj => (by rw [getD_replicate_false] at hlj; cases hlj)⟩
/-- The steps, each with its own fact. -/
def StepLR (R : Rel) (P : Program) (Q : Exit → Act → World → Prop) (L : List Oper) (l : List (Value → World → Prop)) (base : List (Nat × Value)) (w0 : World) (f : Value → World → Prop) (o : Oper) : Prop :=
  ∀ a w, R.to w0 w → (∀ p ∈ base, a.tmps[p.1]?.getD undef = p.2) → FactsOf L (factsL l) o.after a w →
    (Region.wanted o (yielded L.toArray a.tmps) = true ∧ ∀ K : Act → World → Prop, (∀ v w', R.to w w' → f v w' → K (a.put o.dst v) w') → o.wp P a w K Q) ∨ (Region.wanted o (yielded L.toArray a.tmps) = false ∧ f undef w)
def StepsLR (R : Rel) (P : Program) (Q : Exit → Act → World → Prop) (L : List Oper) (l : List (Value → World → Prop)) (base : List (Nat × Value)) (w0 : World) : List (Value → World → Prop) → List Oper → Prop
  | [], [] => True
  | f :: fs, o :: os => StepLR R P Q L l base w0 f o ∧ StepsLR R P Q L l base w0 fs os
  | _, _ => False
theorem StepsLR.steps {R : Rel} {l : List (Value → World → Prop)} {base : List (Nat × Value)} {w0 : World} : ∀ {fs : List (Value → World → Prop)} {os : List Oper} {k : Nat}, (∀ j, fs[j]? = l[k + j]?) → StepsLR R P Q L l base w0 fs os → StepsR R P Q L (factsL l) base w0 k os
  | [], [], _, _, _ => trivial
  | [], _ :: _, _, _, h => h.elim
  | _ :: _, [], _, _, h => h.elim
  | f :: fs, o :: os, k, hk, h => by
    refine ⟨fun a w hg hb hf => ?_, StepsLR.steps (k := k + 1) (fun j => by have := hk (j + 1); rw [List.getElem?_cons_succ] at this; rw [this]; congr 1; omega) h.2⟩
    have h0 := hk 0
    simp at h0
    rcases h.1 a w hg hb hf with ⟨h1, h2⟩ | ⟨h1, h2⟩
    · refine .inl ⟨h1, fun K hK => h2 K fun v w' hg hfv => hK v w' hg ?_⟩
      unfold factsL
      rw [← h0]
      exact hfv
    · refine .inr ⟨h1, ?_⟩
      unfold factsL
      rw [← h0]
      exact h2
theorem wp_region_listR (R : Rel) {id : Nat} {a0 : Act} {w0 : World} (l : List (Value → World → Prop)) (base : List (Nat × Value)) (t : Nat) {last : Oper} (hm : P.follows .mixedOrders = true)
    (hF : AllStayR R l) (hlen : l.length = t)
    (hok : factOK L t a0.tmps.size = true) (hl : L[t]? = some last)
    (hb : ∀ p ∈ base, a0.tmps[p.1]?.getD undef = p.2) (hfree : base.all (fun p => !(dstsOf (L.take t)).contains p.1) = true)
    (hsteps : StepsLR R P Q L l base w0 l (L.take t))
    (hlast : ∀ vs w, R.to w0 w → FactsL vs w 0 l → Region.wanted last (yielded L.toArray (putF vs (L.take t) 0 a0).tmps) = true ∧ last.wp P (putF vs (L.take t) 0 a0) w (fun a' w' => Q .normal a' w') Q) :
    (Code.region id L.toArray true).wp P Q a0 w0 :=
  wp_region_factsR (factsL l) base t hm (factsL_monoR hF) hok hl hb hfree (StepsLR.steps (fun j => by rw [Nat.zero_add]) hsteps) fun vs w hg h => hlast vs w hg (FactsL.of fun j f hj => by
    have hjt : j < t := by rw [← hlen]; exact (List.getElem?_eq_some_iff.1 hj).1
    have := h j hjt
    unfold factsL at this
    rw [hj] at this
    rwa [Nat.zero_add])
end
end Go.Proofs.YtofpcdjoljjnoaaDoor
