/-
  Where bytes of two texts of one length are changed for each other, the sum of both rests is the same, by the prime: the law CastSwaps returns true for every input, and leaves its arguments as they were. No condition.
-/
import Derived.Test.YtemekdoogocapaaDoorLift
import Derived.Test.YtemekdoogocapaaDoorCards
import Derived.Test.YtemekdoogocapaaDoorCastLaid
import Derived.Test.YtemekdoogocapaaDoorCastSwapsW
namespace Go.Proofs.YtemekdoogocapaaDoor.castSwapsDone
open Go.ChangeShapes Go.WideShapes Go.ChangeAt Go.RowKit Go.Joins
open Go.ChangeMaps (open_string shut_string)
set_option linter.unusedVariables false

theorem one_of1 {α : Type} {l : List α} (h : l.length = 1) : ∃ a, l = [a] := by
  match l, h with
  | [a], _ => exact ⟨a, rfl⟩

theorem open_bools {H : Type} {enc : TypeId × Value → H} {W : World} {b0 : Nat} {v : Value} {d : DataW H} {p : List MemPlace}
    (hv : Value.okWide Tryd.prog W .any b0 39 v) (h : DataW.Trod enc Tryd.prog W 0 (fun _ => true) true 39 v d p) :
    ∃ (A : Option Addr) (len cap : Nat) (z : Nat → Bool), v = .slice A len cap ∧ len ≤ 9223372036854775807 ∧ ∀ i, i < len → ∃ b off, A = some ⟨b, off, none⟩ ∧ b < W.heap.size ∧ W.cell? ⟨b, off + i, none⟩ = some (.bool (z i)) := by
  obtain ⟨A, len, cap, rfl, hlen, hel⟩ := open_rows (K := 1) Tryd.underlying39 (by kernel_rfl) (by decide) hv h
  have key : ∀ i, ∃ z : Bool, i < len → ∃ b off, A = some ⟨b, off, none⟩ ∧ b < W.heap.size ∧ W.cell? ⟨b, off + i, none⟩ = some (.bool z) := by
    intro i
    by_cases hi : i < len
    · obtain ⟨b, off, cs, n, x, hA, hb, hl, hc, ht⟩ := hel i hi
      obtain ⟨c0, rfl⟩ := one_of1 hl
      obtain ⟨z, e0, _⟩ := DataW.trod_bool Tryd.underlying4 ht
      simp only [List.cons.injEq, and_true] at e0
      subst e0
      have h0 := hc 0 (by decide)
      exact ⟨z, fun _ => ⟨b, off, hA, hb, by simpa using h0⟩⟩
    · exact ⟨true, fun h => absurd h hi⟩
  exact ⟨A, len, cap, fun i => (key i).choose, rfl, hlen, fun i hi => (key i).choose_spec hi⟩

theorem law (s t : ByteArray) (A : Option Addr) (len cap : Nat) (z : Nat → Bool) (w : World) (hT : Tab w) (hs : s.size ≤ 9223372036854775807) (ht : t.size ≤ 9223372036854775807) (hlen : len ≤ 9223372036854775807)
    (hc : ∀ i, i < len → ∃ b off, A = some ⟨b, off, none⟩ ∧ b < w.heap.size ∧ w.cell? ⟨b, off + i, none⟩ = some (.bool (z i))) :
    Calls Tryd.prog 9 #[.string s, .string t, .slice A len cap] w fun e w' => e = .returned (.bool true) ∧ Below w.heap.size w w' := by
  by_cases h : 1000 < s.size ∧ 1000 < t.size
  · exact swaps_long castC s t _ w hT h.1 h.2
  · obtain ⟨l, rfl⟩ : ∃ l, s = mk l := ⟨s.data.toList, (mk_of s).symm⟩
    obtain ⟨u, rfl⟩ : ∃ l, t = mk l := ⟨t.data.toList, (mk_of t).symm⟩
    rw [mk_size] at hs ht
    rw [mk_size, mk_size] at h
    exact swaps_any castC l u A len cap z w hT (by omega) hs ht hlen hc

set_option maxRecDepth 100000 in
theorem lifted (os : Os) (started : os.Started) (H : Type) (enc : TypeId × Value → H) :
    ReturnsInHanded {} Tryd.checked os 9 .any (fun w args => (Rows.castSwapsSpec.pre enc Tryd.prog Tryd.f9 [] false w args ∧ laidMetH Tryd.prog [("stepstone/cast.turns", Rows.laid_stepstone_cast_turns)] w) ∧ sizedMet enc Tryd.prog Tryd.f9 (OpenSpec.ofChange Rows.castSwapsSpec) false w args)
      (Rows.castSwapsSpec.post enc Tryd.prog Tryd.f9 false true false false) := by
  refine returnsInHanded_of_change_and (C := Tryd.checked) (X := fun w _ => laidMetH Tryd.prog [("stepstone/cast.turns", Rows.laid_stepstone_cast_turns)] w) (fun _ _ _ hh h => h.of_heap hh) own started (by kernel_rfl) Tryd.func9
    (ChangeSpec.witness_shaped (enc := enc) (C := Tryd.checked) (os := os) (X := fun w _ => laidMetH Tryd.prog [("stepstone/cast.turns", Rows.laid_stepstone_cast_turns)] w) false (World.doorLaid Tryd.prog 400 os) #[.string ⟨#[]⟩, .string ⟨#[]⟩, .slice none 0 0] 8 rfl (World.shaped_of_RefB (by kernel_rfl) (by kernel_rfl)) (by kernel_rfl) (by kernel_rfl) (by kernel_rfl) (door_met os _)) ?_
  intro W base args ds gs before hval0 hW _ _ hL _
  have hT := tab_of_laid hL
  have hval : ∀ (j : Nat) t v, Tryd.f9.params[j]? = some t → args[j]? = some v → Value.okWide Tryd.prog W .any base t v := hval0
  have hW' := hW
  obtain ⟨p, q, hA0, hV, rfl, hfz, hnd⟩ := hW
  have hA : DataW.TrodAll enc Tryd.prog W 0 (fun _ => true) true Tryd.f9.params.toList args.toList ds p := hA0
  rw [Tryd.params9] at hA hval
  obtain ⟨v0, v1, v2, d0, d1, d2, p0, p1, p2, rfl, rfl, rfl, h0, h1, h2⟩ := trodAll_three hA
  obtain ⟨rfl, rfl⟩ := trodVars_none hV
  have k0 := h0
  have lt0 : ∀ x ∈ p0, x.block < W.heap.size := by obtain ⟨m, hm⟩ := k0; exact DataW.trod_lt m _ _ _ hm
  have k1 := h1
  have lt1 : ∀ x ∈ p1, x.block < W.heap.size := by obtain ⟨m, hm⟩ := k1; exact DataW.trod_lt m _ _ _ hm
  have k2 := h2
  have lt2 : ∀ x ∈ p2, x.block < W.heap.size := by obtain ⟨m, hm⟩ := k2; exact DataW.trod_lt m _ _ _ hm
  obtain ⟨s, rfl, _, _, hs⟩ := open_string Tryd.underlying9 (hval 0 9 v0 rfl rfl) h0
  obtain ⟨t, rfl, _, _, ht⟩ := open_string Tryd.underlying9 (hval 1 9 v1 rfl rfl) h1
  obtain ⟨A, len, cap, z, rfl, hlen, hz⟩ := open_bools (hval 2 39 v2 rfl rfl) h2
  unfold maxLen at hs ht
  clear hA0 hval0
  refine (law s t A len cap z W hT hs ht hlen hz).mono fun e W' ⟨he, bel⟩ => ?_
  subst he
  exact ⟨_, rfl, _, _, _, [], _, [], hW', trodAll_mk1 (shut_bool Tryd.underlying4 _), trodAll_mk3 (Below.trod laidOut (by kernel_rfl) (of_decide_eq_true (by kernel_rfl)) k0 bel lt0) (Below.trod laidOut (by kernel_rfl) (of_decide_eq_true (by kernel_rfl)) k1 bel lt1) (Below.trod laidOut (by kernel_rfl) (of_decide_eq_true (by kernel_rfl)) k2 bel lt2), rfl, bel.frame _, fun h => by cases h⟩

/-- The statement. -/
theorem proved : Rows.CastSwapsSaid :=
  OpenClaim.holds_of_wide 9 Tryd.f9 rfl rfl rfl rfl rfl rfl rfl ⟨rfl, rfl, rfl, rfl, rfl⟩ rfl rfl rfl rfl rfl (by kernel_rfl) Tryd.func9 (by kernel_rfl)
    (of_decide_eq_true (by kernel_rfl)) (by unfold Func.isWrapper; first | (rw [if_pos (by decide +kernel)]; kernel_rfl) | (rw [if_neg (by decide +kernel)]; exact ⟨rfl, rfl⟩))
    (fun os started H enc _ => lifted os started H enc)

/-- THE TIED CARD: the statement, with the table tied to the program's text. -/
theorem carded : Rows.CastSwapsCardSaid :=
  Claim7.holds_tied_plain_at .later [] [.data] true _ false
    proved (fun _ h => by cases h) (by kernel_rfl) (fun _ h => by cases h) castSwaps_row_tie rfl ⟨rfl, rfl⟩ (by kernel_rfl) rfl
    (fun f fn hf hfn => by
      obtain rfl : f = 9 := Option.some.inj ((show Tryd.prog.funcNamed "stepstone/stepstonelaw02.CastSwaps" = some 9 by kernel_rfl).symm.trans hf) |>.symm
      obtain rfl : fn = Tryd.f9 := (Option.some.inj (Tryd.func9.symm.trans hfn)).symm
      exact ⟨by kernel_rfl, fun j t ht => by
        rw [Tryd.params9] at ht
        have hm : t ∈ [9, 9, 39] := by simpa using Array.mem_of_getElem? ht
        have hall : ([9, 9, 39].all fun u => !Tryd.prog.wantsStandIn u) = true := by kernel_rfl
        exact (show Tryd.prog.wantsStandIn t = false by simpa using List.all_eq_true.1 hall t hm)⟩)
    (by kernel_rfl)
#print axioms carded
end Go.Proofs.YtemekdoogocapaaDoor.castSwapsDone
