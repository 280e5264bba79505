/-
  DERIVED. GIVEN WITH THE SEED: THE CARDS: each row of YtemekdoogocapaaDoorRows.lean that lists a variable, with what it lists TIED to the program's text (the seventh form; the later family's looks); each row that meets fmt, with fmt's text TOLD by the authors' own Lean function (tested against real Go, not proved from fmt's source: count such statements apart). THE CARD IS WHAT COUNTS. Prove the row's statement (the work); the ties are given (YtemekdoogocapaaDoorTie.lean); close each card by the builder's one call (the guide's Derived/Test/ToyasCard.lean, 'card_holds'). Laid BY PROGRAM, IN A SANDBOX (cutbox-door.mjs). By AI agents, Wed Nov 11 2026. No macro, syntax, notation, axiom, sorry.
-/
import Derived.Test.YtemekdoogocapaaDoorRows
import GoSem.ClaimSeven
namespace Go.Proofs.YtemekdoogocapaaDoor
namespace Rows

/-- THE TIED CARD OF 'stepstonelaw02.CastRests'. -/
def castRestsCard : Claim7 := { stood := { row := castRestsRow, standIns := [], harness := (true, "205e662adde9170f5b559835752d197e76b71114214f0c1b1ba443087616fa4c"), looks := false }, kinds := [], alts := [], laidByText := true, laidKinds := [.data], laidTests := true, laidLooks := .later }
def CastRestsCardSaid : Prop := Claim7.holds Tryd.pinned (.plain (OpenSpec.ofChange castRestsSpec)) castRestsCard

/-- THE TIED CARD OF 'stepstonelaw02.CastSeals'. -/
def castSealsCard : Claim7 := { stood := { row := castSealsRow, standIns := [], harness := (true, "205e662adde9170f5b559835752d197e76b71114214f0c1b1ba443087616fa4c"), looks := false }, kinds := [], alts := [], laidByText := true, laidKinds := [.data], laidTests := true, laidLooks := .later }
def CastSealsCardSaid : Prop := Claim7.holds Tryd.pinned (.plain (OpenSpec.ofChange castSealsSpec)) castSealsCard

/-- THE TIED CARD OF 'stepstonelaw02.CastBack'. -/
def castBackCard : Claim7 := { stood := { row := castBackRow, standIns := [], harness := (true, "205e662adde9170f5b559835752d197e76b71114214f0c1b1ba443087616fa4c"), looks := false }, kinds := [], alts := [], laidByText := true, laidKinds := [.data], laidTests := true, laidLooks := .later }
def CastBackCardSaid : Prop := Claim7.holds Tryd.pinned (.plain (OpenSpec.ofChange castBackSpec)) castBackCard

/-- THE TIED CARD OF 'stepstonelaw02.CastNear'. -/
def castNearCard : Claim7 := { stood := { row := castNearRow, standIns := [], harness := (true, "205e662adde9170f5b559835752d197e76b71114214f0c1b1ba443087616fa4c"), looks := false }, kinds := [], alts := [], laidByText := true, laidKinds := [.data], laidTests := true, laidLooks := .later }
def CastNearCardSaid : Prop := Claim7.holds Tryd.pinned (.plain (OpenSpec.ofChange castNearSpec)) castNearCard

/-- THE TIED CARD OF 'stepstonelaw02.CastPieces'. -/
def castPiecesCard : Claim7 := { stood := { row := castPiecesRow, standIns := [], harness := (true, "205e662adde9170f5b559835752d197e76b71114214f0c1b1ba443087616fa4c"), looks := false }, kinds := [], alts := [], laidByText := true, laidKinds := [.data], laidTests := true, laidLooks := .later }
def CastPiecesCardSaid : Prop := Claim7.holds Tryd.pinned (.plain (OpenSpec.ofChange castPiecesSpec)) castPiecesCard

/-- THE TIED CARD OF 'stepstonelaw02.CastZeros'. -/
def castZerosCard : Claim7 := { stood := { row := castZerosRow, standIns := [], harness := (true, "205e662adde9170f5b559835752d197e76b71114214f0c1b1ba443087616fa4c"), looks := false }, kinds := [], alts := [], laidByText := true, laidKinds := [.data], laidTests := true, laidLooks := .later }
def CastZerosCardSaid : Prop := Claim7.holds Tryd.pinned (.plain (OpenSpec.ofChange castZerosSpec)) castZerosCard

/-- THE TIED CARD OF 'stepstonelaw02.CastSwaps'. -/
def castSwapsCard : Claim7 := { stood := { row := castSwapsRow, standIns := [], harness := (true, "205e662adde9170f5b559835752d197e76b71114214f0c1b1ba443087616fa4c"), looks := false }, kinds := [], alts := [], laidByText := true, laidKinds := [.data], laidTests := true, laidLooks := .later }
def CastSwapsCardSaid : Prop := Claim7.holds Tryd.pinned (.plain (OpenSpec.ofChange castSwapsSpec)) castSwapsCard

/-- THE SECOND FORM's CARD OF 'stepstonelaw02.CastRests'. -/
def castRestsUptoCard : Claim7 := { stood := { row := castRestsUptoRow, standIns := [], harness := (true, "205e662adde9170f5b559835752d197e76b71114214f0c1b1ba443087616fa4c"), looks := false }, kinds := [], alts := [], laidByText := true, laidKinds := [.data], laidTests := true, laidLooks := .later }
def CastRestsUptoCardSaid : Prop := Claim7.holds Tryd.pinned (.plain (OpenSpec.upto castRestsSpec)) castRestsUptoCard

/-- THE SECOND FORM's CARD OF 'stepstonelaw02.CastSeals'. -/
def castSealsUptoCard : Claim7 := { stood := { row := castSealsUptoRow, standIns := [], harness := (true, "205e662adde9170f5b559835752d197e76b71114214f0c1b1ba443087616fa4c"), looks := false }, kinds := [], alts := [], laidByText := true, laidKinds := [.data], laidTests := true, laidLooks := .later }
def CastSealsUptoCardSaid : Prop := Claim7.holds Tryd.pinned (.plain (OpenSpec.upto castSealsSpec)) castSealsUptoCard

/-- THE SECOND FORM's CARD OF 'stepstonelaw02.CastBack'. -/
def castBackUptoCard : Claim7 := { stood := { row := castBackUptoRow, standIns := [], harness := (true, "205e662adde9170f5b559835752d197e76b71114214f0c1b1ba443087616fa4c"), looks := false }, kinds := [], alts := [], laidByText := true, laidKinds := [.data], laidTests := true, laidLooks := .later }
def CastBackUptoCardSaid : Prop := Claim7.holds Tryd.pinned (.plain (OpenSpec.upto castBackSpec)) castBackUptoCard

/-- THE SECOND FORM's CARD OF 'stepstonelaw02.CastNear'. -/
def castNearUptoCard : Claim7 := { stood := { row := castNearUptoRow, standIns := [], harness := (true, "205e662adde9170f5b559835752d197e76b71114214f0c1b1ba443087616fa4c"), looks := false }, kinds := [], alts := [], laidByText := true, laidKinds := [.data], laidTests := true, laidLooks := .later }
def CastNearUptoCardSaid : Prop := Claim7.holds Tryd.pinned (.plain (OpenSpec.upto castNearSpec)) castNearUptoCard

/-- THE SECOND FORM's CARD OF 'stepstonelaw02.CastPieces'. -/
def castPiecesUptoCard : Claim7 := { stood := { row := castPiecesUptoRow, standIns := [], harness := (true, "205e662adde9170f5b559835752d197e76b71114214f0c1b1ba443087616fa4c"), looks := false }, kinds := [], alts := [], laidByText := true, laidKinds := [.data], laidTests := true, laidLooks := .later }
def CastPiecesUptoCardSaid : Prop := Claim7.holds Tryd.pinned (.plain (OpenSpec.upto castPiecesSpec)) castPiecesUptoCard

/-- THE SECOND FORM's CARD OF 'stepstonelaw02.CastZeros'. -/
def castZerosUptoCard : Claim7 := { stood := { row := castZerosUptoRow, standIns := [], harness := (true, "205e662adde9170f5b559835752d197e76b71114214f0c1b1ba443087616fa4c"), looks := false }, kinds := [], alts := [], laidByText := true, laidKinds := [.data], laidTests := true, laidLooks := .later }
def CastZerosUptoCardSaid : Prop := Claim7.holds Tryd.pinned (.plain (OpenSpec.upto castZerosSpec)) castZerosUptoCard

/-- THE SECOND FORM's CARD OF 'stepstonelaw02.CastSwaps'. -/
def castSwapsUptoCard : Claim7 := { stood := { row := castSwapsUptoRow, standIns := [], harness := (true, "205e662adde9170f5b559835752d197e76b71114214f0c1b1ba443087616fa4c"), looks := false }, kinds := [], alts := [], laidByText := true, laidKinds := [.data], laidTests := true, laidLooks := .later }
def CastSwapsUptoCardSaid : Prop := Claim7.holds Tryd.pinned (.plain (OpenSpec.upto castSwapsSpec)) castSwapsUptoCard
end Rows
end Go.Proofs.YtemekdoogocapaaDoor
