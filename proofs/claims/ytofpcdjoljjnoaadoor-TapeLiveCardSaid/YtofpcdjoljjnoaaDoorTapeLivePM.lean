/-
  A live step's steps are live, each live step but Out is a step of one that is, and a step more that hangs on Out leaves them live: the law TapeLive returns true for every input, and leaves its argument as it was. No condition.
-/
import Derived.Test.YtofpcdjoljjnoaaDoorTapZ27
import Derived.Test.YtofpcdjoljjnoaaDoorCards
import Derived.Test.YtofpcdjoljjnoaaDoorTapZ28
import Derived.Test.YtofpcdjoljjnoaaDoorTapLiveWM
namespace Go.Proofs.YtofpcdjoljjnoaaDoor.tapeLiveDone
open Go.ChangeShapes Go.WideShapes Go.ChangeAt Go.RowKit Go.Joins
open Go.ChangeMaps (open_string shut_string)
set_option linter.unusedVariables false

theorem law (pars out : Int) (A B : Option Addr) (ca cb : Nat) (L : List Nd) (T : List (List UInt8 × Int)) (w : World) (hT : Tab w) (hp : I64 pars) (ho : I64 out) (hl : L.length ≤ 9223372036854775807) (ht : T.length ≤ 9223372036854775807) (hL : NdsRaw w A L) (hTT : TlsAt w B T) (hs : ∀ t ∈ T, t.1.length ≤ 9223372036854775807) :
    Calls Tryd.prog 4 #[.agg #[.int .i64 pars, .int .i64 out, .slice A L.length ca, .slice B T.length cb]] w fun e w' => e = .returned (.bool true) ∧ Below w.heap.size w w' := by
  exact tlive_any hp ho hl ht hL hTT hs hT

set_option maxRecDepth 100000 in
theorem lifted (os : Os) (started : os.Started) (H : Type) (enc : TypeId × Value → H) :
    ReturnsInHanded {} Tryd.checked os 4 .any (fun w args => (Rows.tapeLiveSpec.pre enc Tryd.prog Tryd.f4 [] false w args ∧ laidMetH Tryd.prog [("stepstone/tape.fieldsByOp", Rows.laid_stepstone_tape_fieldsByOp)] w) ∧ sizedMet enc Tryd.prog Tryd.f4 (OpenSpec.ofChange Rows.tapeLiveSpec) false w args)
      (Rows.tapeLiveSpec.post enc Tryd.prog Tryd.f4 false true false false) := by
  refine returnsInHanded_of_change_and (C := Tryd.checked) (X := fun w _ => laidMetH Tryd.prog [("stepstone/tape.fieldsByOp", Rows.laid_stepstone_tape_fieldsByOp)] w) (fun _ _ _ hh h => h.of_heap hh) own started (by kernel_rfl) Tryd.func4
    (ChangeSpec.witness_shaped (enc := enc) (C := Tryd.checked) (os := os) (X := fun w _ => laidMetH Tryd.prog [("stepstone/tape.fieldsByOp", Rows.laid_stepstone_tape_fieldsByOp)] w) false (World.doorLaid Tryd.prog 400 os) #[.agg #[.int .i64 0, .int .i64 0, .slice none 0 0, .slice none 0 0]] 8 rfl (World.shaped_of_RefB (by kernel_rfl) (by kernel_rfl)) (by kernel_rfl) (by kernel_rfl) (by kernel_rfl) (door_met os _)) ?_
  intro W base args ds gs before hval0 hW _ _ hL _
  have hT := tab_of_laid hL
  have hval : ∀ (j : Nat) t v, Tryd.f4.params[j]? = some t → args[j]? = some v → Value.okWide Tryd.prog W .any base t v := hval0
  have hW' := hW
  obtain ⟨p, q, hA0, hV, rfl, hfz, hnd⟩ := hW
  have hA : DataW.TrodAll enc Tryd.prog W 0 (fun _ => true) true Tryd.f4.params.toList args.toList ds p := hA0
  rw [Tryd.params4] at hA hval
  obtain ⟨v0, d0, rfl, rfl, h0⟩ := trodAll_one hA
  obtain ⟨rfl, rfl⟩ := trodVars_none hV
  have k0 := h0
  have lt0 : ∀ x ∈ p, x.block < W.heap.size := by obtain ⟨m, hm⟩ := k0; exact DataW.trod_lt m _ _ _ hm
  obtain ⟨pars, out, A, B, ca, cb, L, T, rfl, hp, ho, hl, ht, hL, hTT, hs⟩ := open_tape (hval 0 46 v0 rfl rfl) h0
  clear hA0 hval0
  refine (law pars out A B ca cb L T W hT hp ho hl ht hL hTT hs).mono fun e W' ⟨he, bel⟩ => ?_
  subst he
  exact ⟨_, rfl, _, _, _, [], _, [], hW', trodAll_mk1 (shut_bool Tryd.underlying4 _), trodAll_mk1 (Below.trod laidOut (by kernel_rfl) (of_decide_eq_true (by kernel_rfl)) k0 bel lt0), rfl, bel.frame _, fun h => by cases h⟩

/-- The statement. -/
theorem proved : Rows.TapeLiveSaid :=
  OpenClaim.holds_of_wide 4 Tryd.f4 rfl rfl rfl rfl rfl rfl rfl ⟨rfl, rfl, rfl, rfl, rfl⟩ rfl rfl rfl rfl rfl (by kernel_rfl) Tryd.func4 (by kernel_rfl)
    (of_decide_eq_true (by kernel_rfl)) (by unfold Func.isWrapper; first | (rw [if_pos (by decide +kernel)]; kernel_rfl) | (rw [if_neg (by decide +kernel)]; exact ⟨rfl, rfl⟩))
    (fun os started H enc _ => lifted os started H enc)

/-- THE TIED CARD: the statement, with the table tied to the program's text. -/
theorem carded : Rows.TapeLiveCardSaid :=
  Claim7.holds_tied_plain_at .later [] [.data] true _ true
    proved (fun _ h => by cases h) (by kernel_rfl) (fun _ h => by cases h) tapeLive_row_tie rfl ⟨rfl, rfl⟩ (by kernel_rfl) rfl
    (fun f fn hf hfn => by
      obtain rfl : f = 4 := Option.some.inj ((show Tryd.prog.funcNamed "stepstone/stepstonelaw17.TapeLive" = some 4 by kernel_rfl).symm.trans hf) |>.symm
      obtain rfl : fn = Tryd.f4 := (Option.some.inj (Tryd.func4.symm.trans hfn)).symm
      exact ⟨by kernel_rfl, fun j t ht => by
        rw [Tryd.params4] at ht
        have hm : t ∈ [46] := by simpa using Array.mem_of_getElem? ht
        have hall : ([46].all fun u => !Tryd.prog.wantsStandIn u) = true := by kernel_rfl
        exact (show Tryd.prog.wantsStandIn t = false by simpa using List.all_eq_true.1 hall t hm)⟩)
    (by kernel_rfl)
#print axioms carded
end Go.Proofs.YtofpcdjoljjnoaaDoor.tapeLiveDone
