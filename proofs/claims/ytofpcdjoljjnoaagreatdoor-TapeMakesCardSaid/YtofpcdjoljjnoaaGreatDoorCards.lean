/-
  DERIVED. GIVEN WITH THE SEED: THE CARDS: each row of YtofpcdjoljjnoaaGreatDoorRows.lean that lists a variable, with what it lists TIED to the program's text (the seventh form; the later family's looks); each row that meets fmt, with fmt's text TOLD by the authors' own Lean function (tested against real Go, not proved from fmt's source: count such statements apart). THE CARD IS WHAT COUNTS. Prove the row's statement (the work); the ties are given (YtofpcdjoljjnoaaGreatDoorTie.lean); close each card by the builder's one call (the guide's Derived/Test/ToyasCard.lean, 'card_holds'). Laid BY PROGRAM, IN A SANDBOX (cutbox-door.mjs). By AI agents, Wed Nov 11 2026. No macro, syntax, notation, axiom, sorry.
-/
import Derived.Test.YtofpcdjoljjnoaaGreatDoorRows
import GoSem.ClaimSeven
namespace Go.Proofs.YtofpcdjoljjnoaaGreatDoor
namespace Rows

/-- THE TIED CARD OF 'stepstonelaw17.TapeAsks'. -/
def tapeAsksCard : Claim7 := { stood := { row := tapeAsksRow, standIns := [], harness := (true, "87f87bbbe7176a751aa46f73c9ad925eaab7f59405c8166266c767827d7f6bc9"), looks := true }, kinds := [], alts := [], laidByText := true, laidKinds := [.data], laidTests := true, laidLooks := .later }
def TapeAsksCardSaid : Prop := Claim7.holds Tryz.pinned (.plain (OpenSpec.ofChange tapeAsksSpec)) tapeAsksCard

/-- THE TIED CARD OF 'stepstonelaw17.TapeMakes'. -/
def tapeMakesCard : Claim7 := { stood := { row := tapeMakesRow, standIns := [], harness := (true, "87f87bbbe7176a751aa46f73c9ad925eaab7f59405c8166266c767827d7f6bc9"), looks := true }, kinds := [], alts := [], laidByText := true, laidKinds := [.data], laidTests := true, laidLooks := .later }
def TapeMakesCardSaid : Prop := Claim7.holds Tryz.pinned (.plain (OpenSpec.ofChange tapeMakesSpec)) tapeMakesCard

/-- THE SECOND FORM's CARD OF 'stepstonelaw17.TapeAsks'. -/
def tapeAsksUptoCard : Claim7 := { stood := { row := tapeAsksUptoRow, standIns := [], harness := (true, "87f87bbbe7176a751aa46f73c9ad925eaab7f59405c8166266c767827d7f6bc9"), looks := true }, kinds := [], alts := [], laidByText := true, laidKinds := [.data], laidTests := true, laidLooks := .later }
def TapeAsksUptoCardSaid : Prop := Claim7.holds Tryz.pinned (.plain (OpenSpec.upto tapeAsksSpec)) tapeAsksUptoCard

/-- THE SECOND FORM's CARD OF 'stepstonelaw17.TapeMakes'. -/
def tapeMakesUptoCard : Claim7 := { stood := { row := tapeMakesUptoRow, standIns := [], harness := (true, "87f87bbbe7176a751aa46f73c9ad925eaab7f59405c8166266c767827d7f6bc9"), looks := true }, kinds := [], alts := [], laidByText := true, laidKinds := [.data], laidTests := true, laidLooks := .later }
def TapeMakesUptoCardSaid : Prop := Claim7.holds Tryz.pinned (.plain (OpenSpec.upto tapeMakesSpec)) tapeMakesUptoCard
end Rows
end Go.Proofs.YtofpcdjoljjnoaaGreatDoor
