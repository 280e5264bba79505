/-
  DERIVED. GIVEN WITH THE SEED: THE CARDS: each row of YtcbebikcfcidmaaDoorRows.lean that lists a variable, with what it lists TIED to the program's text (the seventh form; the later family's looks); each row that meets fmt, with fmt's text TOLD by the authors' own Lean function (tested against real Go, not proved from fmt's source: count such statements apart). THE CARD IS WHAT COUNTS. Prove the row's statement (the work); the ties are given (YtcbebikcfcidmaaDoorTie.lean); close each card by the builder's one call (the guide's Derived/Test/ToyasCard.lean, 'card_holds'). Laid BY PROGRAM, IN A SANDBOX (cutbox-door.mjs). By AI agents, Wed Nov 11 2026. No macro, syntax, notation, axiom, sorry.
-/
import Derived.Test.YtcbebikcfcidmaaDoorRows
import GoSem.ClaimSeven
namespace Go.Proofs.YtcbebikcfcidmaaDoor
namespace Rows

/-- THE TIED CARD OF 'stepstonelaw20.ChartAgain'. -/
def chartAgainCard : Claim7 := { stood := { row := chartAgainRow, standIns := [], harness := (true, "a501239c94037e31f92bd5d5c952e90067bbaa193e321599988921871d20a7c0"), looks := true }, kinds := [], alts := [], laidByText := true, laidKinds := [.data], laidTests := true, laidLooks := .later }
def ChartAgainCardSaid : Prop := Claim7.holds Tryd.pinned (.plain (OpenSpec.ofChange chartAgainSpec)) chartAgainCard

/-- THE SECOND FORM's CARD OF 'stepstonelaw20.ChartAgain'. -/
def chartAgainUptoCard : Claim7 := { stood := { row := chartAgainUptoRow, standIns := [], harness := (true, "a501239c94037e31f92bd5d5c952e90067bbaa193e321599988921871d20a7c0"), looks := true }, kinds := [], alts := [], laidByText := true, laidKinds := [.data], laidTests := true, laidLooks := .later }
def ChartAgainUptoCardSaid : Prop := Claim7.holds Tryd.pinned (.plain (OpenSpec.upto chartAgainSpec)) chartAgainUptoCard
end Rows
end Go.Proofs.YtcbebikcfcidmaaDoor
