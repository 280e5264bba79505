/-
  DERIVED. GIVEN WITH THE SEED: THE CARDS: each row of YtofpcdjoljjnoaaDoorRows.lean that lists a variable, with what it lists TIED to the program's text (the seventh form; the later family's looks); each row that meets fmt, with fmt's text TOLD by the authors' own Lean function (tested against real Go, not proved from fmt's source: count such statements apart). THE CARD IS WHAT COUNTS. Prove the row's statement (the work); the ties are given (YtofpcdjoljjnoaaDoorTie.lean); close each card by the builder's one call (the guide's Derived/Test/ToyasCard.lean, 'card_holds'). Laid BY PROGRAM, IN A SANDBOX (cutbox-door.mjs). By AI agents, Wed Nov 11 2026. No macro, syntax, notation, axiom, sorry.
-/
import Derived.Test.YtofpcdjoljjnoaaDoorRows
import GoSem.ClaimSeven
namespace Go.Proofs.YtofpcdjoljjnoaaDoor
namespace Rows

/-- THE TIED CARD OF 'stepstonelaw17.TapeMay'. -/
def tapeMayCard : Claim7 := { stood := { row := tapeMayRow, standIns := [], harness := (true, "c5aec63df7c9156b9dd444e309b8e415be262d4e0aca590f92c60f69a68608df"), looks := true }, kinds := [], alts := [], laidByText := true, laidKinds := [.data], laidTests := true, laidLooks := .later }
def TapeMayCardSaid : Prop := Claim7.holds Tryd.pinned (.plain (OpenSpec.ofChange tapeMaySpec)) tapeMayCard

/-- THE TIED CARD OF 'stepstonelaw17.TapeLive'. -/
def tapeLiveCard : Claim7 := { stood := { row := tapeLiveRow, standIns := [], harness := (true, "c5aec63df7c9156b9dd444e309b8e415be262d4e0aca590f92c60f69a68608df"), looks := true }, kinds := [], alts := [], laidByText := true, laidKinds := [.data], laidTests := true, laidLooks := .later }
def TapeLiveCardSaid : Prop := Claim7.holds Tryd.pinned (.plain (OpenSpec.ofChange tapeLiveSpec)) tapeLiveCard

/-- THE TIED CARD OF 'stepstonelaw17.TapeNone'. -/
def tapeNoneCard : Claim7 := { stood := { row := tapeNoneRow, standIns := [], harness := (true, "c5aec63df7c9156b9dd444e309b8e415be262d4e0aca590f92c60f69a68608df"), looks := true }, kinds := [], alts := [], laidByText := true, laidKinds := [.data], laidTests := true, laidLooks := .later }
def TapeNoneCardSaid : Prop := Claim7.holds Tryd.pinned (.plain (OpenSpec.ofChange tapeNoneSpec)) tapeNoneCard

/-- THE TIED CARD OF 'stepstonelaw17.TapeOwn'. -/
def tapeOwnCard : Claim7 := { stood := { row := tapeOwnRow, standIns := [], harness := (true, "c5aec63df7c9156b9dd444e309b8e415be262d4e0aca590f92c60f69a68608df"), looks := true }, kinds := [], alts := [], laidByText := true, laidKinds := [.data], laidTests := true, laidLooks := .later }
def TapeOwnCardSaid : Prop := Claim7.holds Tryd.pinned (.plain (OpenSpec.ofChange tapeOwnSpec)) tapeOwnCard

/-- THE SECOND FORM's CARD OF 'stepstonelaw17.TapeMay'. -/
def tapeMayUptoCard : Claim7 := { stood := { row := tapeMayUptoRow, standIns := [], harness := (true, "c5aec63df7c9156b9dd444e309b8e415be262d4e0aca590f92c60f69a68608df"), looks := true }, kinds := [], alts := [], laidByText := true, laidKinds := [.data], laidTests := true, laidLooks := .later }
def TapeMayUptoCardSaid : Prop := Claim7.holds Tryd.pinned (.plain (OpenSpec.upto tapeMaySpec)) tapeMayUptoCard

/-- THE SECOND FORM's CARD OF 'stepstonelaw17.TapeLive'. -/
def tapeLiveUptoCard : Claim7 := { stood := { row := tapeLiveUptoRow, standIns := [], harness := (true, "c5aec63df7c9156b9dd444e309b8e415be262d4e0aca590f92c60f69a68608df"), looks := true }, kinds := [], alts := [], laidByText := true, laidKinds := [.data], laidTests := true, laidLooks := .later }
def TapeLiveUptoCardSaid : Prop := Claim7.holds Tryd.pinned (.plain (OpenSpec.upto tapeLiveSpec)) tapeLiveUptoCard

/-- THE SECOND FORM's CARD OF 'stepstonelaw17.TapeNone'. -/
def tapeNoneUptoCard : Claim7 := { stood := { row := tapeNoneUptoRow, standIns := [], harness := (true, "c5aec63df7c9156b9dd444e309b8e415be262d4e0aca590f92c60f69a68608df"), looks := true }, kinds := [], alts := [], laidByText := true, laidKinds := [.data], laidTests := true, laidLooks := .later }
def TapeNoneUptoCardSaid : Prop := Claim7.holds Tryd.pinned (.plain (OpenSpec.upto tapeNoneSpec)) tapeNoneUptoCard

/-- THE SECOND FORM's CARD OF 'stepstonelaw17.TapeOwn'. -/
def tapeOwnUptoCard : Claim7 := { stood := { row := tapeOwnUptoRow, standIns := [], harness := (true, "c5aec63df7c9156b9dd444e309b8e415be262d4e0aca590f92c60f69a68608df"), looks := true }, kinds := [], alts := [], laidByText := true, laidKinds := [.data], laidTests := true, laidLooks := .later }
def TapeOwnUptoCardSaid : Prop := Claim7.holds Tryd.pinned (.plain (OpenSpec.upto tapeOwnSpec)) tapeOwnUptoCard
end Rows
end Go.Proofs.YtofpcdjoljjnoaaDoor
