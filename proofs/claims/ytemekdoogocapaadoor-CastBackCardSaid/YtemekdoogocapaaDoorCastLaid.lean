/-
  LAYER 2: what the row's condition on the table gives the walks, and that the program's own start meets it.
-/
import Derived.Test.YtemekdoogocapaaDoorLift
import Derived.Test.YtemekdoogocapaaDoorTie
import Derived.Test.YtemekdoogocapaaDoorCastTab
import Derived.LaidMore
import Derived.Stop.Joined
namespace Go.Proofs.YtemekdoogocapaaDoor
open Go.ChangeShapes Go.WideShapes Go.ChangeAt Go.RowKit

theorem gTurns : Tryd.prog.globalNamed "stepstone/cast.turns" = some 0 := by kernel_rfl
theorem tTurns : (Tryd.prog.globals[0]?).map (·.type) = some 42 := by kernel_rfl
theorem cTurns : Tryd.prog.cellsOf 42 = 9 := by kernel_rfl
theorem cUint : Tryd.prog.cellsOf 34 = 1 := by kernel_rfl

/-- A cell that reads as a number. -/
theorem int_of_trod {H : Type} {enc : TypeId × Value → H} {P : Program} {w : World} {base : Nat} {sp : Nat → Bool} {held : Bool} {fuel : Nat} {t : TypeId} {k : IntKind} {c : Value} {y : DataW H × List MemPlace}
    (ht : P.underlying t = some (.int k)) (h : DataW.trod enc P w base sp held fuel t [c] = some y) : ∃ n, c = .int k n ∧ y = (.lit (.int k n), []) := by
  cases fuel with
  | zero => simp [DataW.trod] at h
  | succ fuel =>
    cases c <;> simp [DataW.trod, ht] at h
    rename_i k' n
    obtain ⟨⟨rfl, _⟩, rfl⟩ := h
    exact ⟨n, rfl, rfl⟩

def turnCells : Array Value := #[.int .u64 0, .int .u64 8, .int .u64 16, .int .u64 24, .int .u64 32, .int .u64 40, .int .u64 48, .int .u64 56, .int .u64 3]

theorem cells_of_laid {W : World} (h : laidMet Tryd.prog [("stepstone/cast.turns", Rows.laid_stepstone_cast_turns)] W) : W.var? Tryd.prog "stepstone/cast.turns" = some turnCells := by
  obtain ⟨ps, ⟨g, t, cs, fuel, p, q, hg, ht, hvar, hd, _, _⟩, _⟩ := h
  obtain rfl := Option.some.inj (gTurns.symm.trans hg)
  obtain rfl := Option.some.inj (tTurns.symm.trans ht)
  rw [hvar]
  congr 1
  obtain ⟨l⟩ := cs
  cases fuel with
  | zero => simp [DataW.trod] at hd
  | succ fuel =>
    simp only [DataW.trod, Tryd.underlying42, cTurns, cUint] at hd
    split at hd
    · rename_i hl
      obtain ⟨c0, c1, c2, c3, c4, c5, c6, c7, c8, rfl⟩ : ∃ c0 c1 c2 c3 c4 c5 c6 c7 c8, l = [c0, c1, c2, c3, c4, c5, c6, c7, c8] := by
        match l, hl with
        | [a, b, c, d, e, f, g, h, i], _ => exact ⟨a, b, c, d, e, f, g, h, i, rfl⟩
      have e : List.range 9 = [0, 1, 2, 3, 4, 5, 6, 7, 8] := rfl
      rw [e] at hd
      simp only [Option.map_eq_some_iff, List.mapM_cons, List.mapM_nil, Option.bind_eq_bind, Option.bind_eq_some_iff, Option.pure_def, Option.some.injEq] at hd
      obtain ⟨xs, ⟨y0, h0, _, ⟨y1, h1, _, ⟨y2, h2, _, ⟨y3, h3, _, ⟨y4, h4, _, ⟨y5, h5, _, ⟨y6, h6, _, ⟨y7, h7, _, ⟨y8, h8, _, rfl, rfl⟩, rfl⟩, rfl⟩, rfl⟩, rfl⟩, rfl⟩, rfl⟩, rfl⟩, rfl⟩, hx⟩ := hd
      obtain ⟨n0, rfl, rfl⟩ := int_of_trod Tryd.underlying34 h0
      obtain ⟨n1, rfl, rfl⟩ := int_of_trod Tryd.underlying34 h1
      obtain ⟨n2, rfl, rfl⟩ := int_of_trod Tryd.underlying34 h2
      obtain ⟨n3, rfl, rfl⟩ := int_of_trod Tryd.underlying34 h3
      obtain ⟨n4, rfl, rfl⟩ := int_of_trod Tryd.underlying34 h4
      obtain ⟨n5, rfl, rfl⟩ := int_of_trod Tryd.underlying34 h5
      obtain ⟨n6, rfl, rfl⟩ := int_of_trod Tryd.underlying34 h6
      obtain ⟨n7, rfl, rfl⟩ := int_of_trod Tryd.underlying34 h7
      obtain ⟨n8, rfl, rfl⟩ := int_of_trod Tryd.underlying34 h8
      simp [Rows.laid_stepstone_cast_turns] at hx
      obtain ⟨⟨rfl, rfl, rfl, rfl, rfl, rfl, rfl, rfl, rfl⟩, _⟩ := hx
      rfl
    · cases hd

/-- What the condition gives the walks. -/
theorem tab_of_laid {W : World} (h : laidMetH Tryd.prog [("stepstone/cast.turns", Rows.laid_stepstone_cast_turns)] W) : Tab W := by
  rw [MakeChecks.laidMetH_plain _ _ _ (by kernel_rfl)] at h
  have hv := cells_of_laid h
  intro i hi
  have hc := World.var?_cell gTurns hv i
  have h9 : i = 0 ∨ i = 1 ∨ i = 2 ∨ i = 3 ∨ i = 4 ∨ i = 5 ∨ i = 6 ∨ i = 7 ∨ i = 8 := by omega
  rcases h9 with rfl | rfl | rfl | rfl | rfl | rfl | rfl | rfl | rfl <;> simpa [turnCells, tn] using hc

/-- The program's own start meets the condition. -/
theorem door_met (os : Os) (args : Array Value) : laidMetH Tryd.prog [("stepstone/cast.turns", Rows.laid_stepstone_cast_turns)] ((World.doorLaid Tryd.prog 400 os).forCall (fun _ _ => 0) ⟨#[], args, []⟩).memory :=
  laidMetH_of_parts3 (fuel := 8) (laidMet_of_run' 8 (by kernel_rfl) (by kernel_rfl)) (by kernel_rfl) (by kernel_rfl)
end Go.Proofs.YtemekdoogocapaaDoor
