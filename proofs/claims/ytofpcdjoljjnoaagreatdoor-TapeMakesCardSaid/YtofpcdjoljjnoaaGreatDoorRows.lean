/-
  NARROWER THAN 'FOR EVERY INPUT', by the rows' own cells (each row's printed sentence says how): TapeAsks: laid · TapeMakes: laid.
  DERIVED. THE GIVEN ROWS OF THIS SEAT. 2 by the template 'for every input the law returns true; each argument reads behind the call as it read before'; 0 by the template 'total and deterministic' (their statements: YtofpcdjoljjnoaaGreatDoorTotals.lean).
  GIVEN WITH THE SEED: the statements are not yours to turn. If you find one false, say at which input.
  Laid BY PROGRAM, IN A SANDBOX (cutbox-rows.mjs): the forced cells as the released guide's own fill.sh prints them over the translation c6fc0741a8b05008… (all of the seat's roots in one cut). By AI agents, Wed Nov 11 2026. No macro, syntax, notation, axiom, sorry.
-/
import Derived.Test.YtofpcdjoljjnoaaGreatDoorChecked
import GoSem.Claim
import GoSem.ClaimJoined
import GoSem.ClaimMapViews
import Derived.JoinedTies
import Derived.KernelRfl
namespace Go.Proofs.YtofpcdjoljjnoaaGreatDoor
/- THE CELL 'sum', in the pinned program and in every row, IS THE sha256 OF THE DUMP (.gsa) THAT YtofpcdjoljjnoaaGreatDoorProg.lean LOADS. Nothing in Lean hashes anything: it is a label: what it is worth is what the hold of that sum in a sandbox is worth. -/
noncomputable def Tryz.pinned : Pinned := { name := "ytofpcdjoljjnoaagreatdoor", sum := "c6fc0741a8b05008967888eec115fe265914716dc5bae49cfa177ac5ce1ace9c", checked := Tryz.checked }
namespace Rows
def none {H : Type} : Left H := { results := [], args := [] }

/- WHAT THE LISTED PACKAGE-LEVEL VARIABLES READ AS WHEN THE CALL BEGINS. Each datum BY PROGRAM (the guide's laid-datum.mjs) off the statement by which the dump's own 'gosem.cut.vars' lays the variable. In a bare row this is a premise. The card (YtofpcdjoljjnoaaGreatDoorCards.lean) ties it to the program's text. -/
def laid_stepstone_tape_fieldsByOp {H : Type} : DataW H := .agg [.agg [.lit (.int .u8 0), .lit (.int .u8 0), .lit (.int .u8 0)], .agg [.lit (.int .u8 0), .lit (.int .u8 0), .lit (.int .u8 1)], .agg [.lit (.int .u8 2), .lit (.int .u8 0), .lit (.int .u8 0)], .agg [.lit (.int .u8 3), .lit (.int .u8 3), .lit (.int .u8 0)], .agg [.lit (.int .u8 3), .lit (.int .u8 3), .lit (.int .u8 0)], .agg [.lit (.int .u8 3), .lit (.int .u8 3), .lit (.int .u8 0)], .agg [.lit (.int .u8 3), .lit (.int .u8 3), .lit (.int .u8 0)], .agg [.lit (.int .u8 3), .lit (.int .u8 0), .lit (.int .u8 0)], .agg [.lit (.int .u8 3), .lit (.int .u8 0), .lit (.int .u8 0)], .agg [.lit (.int .u8 3), .lit (.int .u8 0), .lit (.int .u8 0)], .agg [.lit (.int .u8 3), .lit (.int .u8 0), .lit (.int .u8 0)], .agg [.lit (.int .u8 3), .lit (.int .u8 0), .lit (.int .u8 0)]]

/-- 'stepstonelaw17.TapeAsks': WHATEVER THE INPUT: true; the input reads as it did. -/
def tapeAsksSpec : ChangeSpec := { name := "tapeAsks", fn := fun _ => fun
  | [d1, d2] => { results := [.lit (.bool true)], args := [d1, d2] }
  | _ => none }
def tapeAsksRow : OpenClaim := { program := "ytofpcdjoljjnoaagreatdoor", sum := "c6fc0741a8b05008967888eec115fe265914716dc5bae49cfa177ac5ce1ace9c", func := "stepstone/stepstonelaw17.TapeAsks", spec := "tapeAsks", inPlace := ["math/bits.Sub64", "math/bits.Add64"], unfollowed := true, recurses := true, named := ["math/bits.divideError", "math/bits.overflowError", "stepstone/tape.fieldsByOp"], plainKeys := false, apart := false, laid := [("stepstone/tape.fieldsByOp", laid_stepstone_tape_fieldsByOp)] }
def TapeAsksSaid : Prop := tapeAsksRow.holds Tryz.pinned (OpenSpec.ofChange tapeAsksSpec)

/-- ITS FALSE NEIGHBOUR: 'it returns false'. Refute it at one input. -/
def tapeAsksWrong : ChangeSpec := { name := "tapeAsks", fn := fun _ => fun
  | [d1, d2] => { results := [.lit (.bool false)], args := [d1, d2] }
  | _ => none }
def TapeAsksWrongFalsely : Prop := tapeAsksRow.holds Tryz.pinned (OpenSpec.ofChange tapeAsksWrong)

/-- 'stepstonelaw17.TapeMakes': WHATEVER THE INPUT: true; the input reads as it did. -/
def tapeMakesSpec : ChangeSpec := { name := "tapeMakes", fn := fun _ => fun
  | [d1, d2] => { results := [.lit (.bool true)], args := [d1, d2] }
  | _ => none }
def tapeMakesRow : OpenClaim := { program := "ytofpcdjoljjnoaagreatdoor", sum := "c6fc0741a8b05008967888eec115fe265914716dc5bae49cfa177ac5ce1ace9c", func := "stepstone/stepstonelaw17.TapeMakes", spec := "tapeMakes", inPlace := ["math/bits.Sub64", "math/bits.Add64"], unfollowed := true, recurses := true, named := ["math/bits.divideError", "math/bits.overflowError", "stepstone/tape.fieldsByOp"], plainKeys := false, apart := false, laid := [("stepstone/tape.fieldsByOp", laid_stepstone_tape_fieldsByOp)] }
def TapeMakesSaid : Prop := tapeMakesRow.holds Tryz.pinned (OpenSpec.ofChange tapeMakesSpec)

/-- ITS FALSE NEIGHBOUR: 'it returns false'. Refute it at one input. -/
def tapeMakesWrong : ChangeSpec := { name := "tapeMakes", fn := fun _ => fun
  | [d1, d2] => { results := [.lit (.bool false)], args := [d1, d2] }
  | _ => none }
def TapeMakesWrongFalsely : Prop := tapeMakesRow.holds Tryz.pinned (OpenSpec.ofChange tapeMakesWrong)

/- THE SECOND FORM. 'bulk': how many values and letters a reading holds, each counted each time it is reached (what is shared counts as often as it is met; a slice's spare places count too). A statement '..UptoSaid' is the law's where the arguments, and the package variables that the reading takes, are together of bulk at most 1048576: NARROWER than '..Said'. Prove '..Said' where nothing that the law and all that it calls make is longer than what came in: it says more and counts as full. Else prove '..UptoSaid'. A law counts once. -/
mutual
def uptoBulk {H : Type} : DataW H → Nat
  | .lit (.string bytes) => bytes.length + 1
  | .lit _ => 1
  | .nil => 1
  | .ptr d => uptoBulk d + 1
  | .slice elems spare => uptoBulkAll elems + uptoBulkAll spare + 1
  | .agg parts => uptoBulkAll parts + 1
  | .iface _ d => uptoBulk d + 1
  | .map entries => uptoBulkEntries entries + 1
  | .held _ => 1
def uptoBulkAll {H : Type} : List (DataW H) → Nat
  | [] => 0
  | d :: r => uptoBulk d + uptoBulkAll r
def uptoBulkEntries {H : Type} : List (Lit × DataW H) → Nat
  | [] => 0
  | x :: r => uptoBulkEntry x + uptoBulkEntries r
def uptoBulkEntry {H : Type} : Lit × DataW H → Nat
  | (.string bytes, d) => bytes.length + uptoBulk d + 1
  | (_, d) => uptoBulk d + 1
 end
def uptoSmall : (H : Type) → List (DataW H) → Bool := fun _ ds => decide (uptoBulkAll ds ≤ 1048576)
def OpenSpec.upto (s : _root_.Go.ChangeSpec) : _root_.Go.OpenSpec := { _root_.Go.OpenSpec.ofChange s with cond := some uptoSmall }

/-- 'stepstonelaw17.TapeAsks', WHERE WHAT IT READS IS OF BULK AT MOST 1048576: true; the input reads as it did. -/
def tapeAsksUptoRow : OpenClaim := { program := "ytofpcdjoljjnoaagreatdoor", sum := "c6fc0741a8b05008967888eec115fe265914716dc5bae49cfa177ac5ce1ace9c", func := "stepstone/stepstonelaw17.TapeAsks", spec := "tapeAsks", inPlace := ["math/bits.Sub64", "math/bits.Add64"], unfollowed := true, recurses := true, named := ["math/bits.divideError", "math/bits.overflowError", "stepstone/tape.fieldsByOp"], plainKeys := false, apart := false, laid := [("stepstone/tape.fieldsByOp", laid_stepstone_tape_fieldsByOp)], narrowed := true }
def TapeAsksUptoSaid : Prop := tapeAsksUptoRow.holds Tryz.pinned (OpenSpec.upto tapeAsksSpec)

/-- 'stepstonelaw17.TapeMakes', WHERE WHAT IT READS IS OF BULK AT MOST 1048576: true; the input reads as it did. -/
def tapeMakesUptoRow : OpenClaim := { program := "ytofpcdjoljjnoaagreatdoor", sum := "c6fc0741a8b05008967888eec115fe265914716dc5bae49cfa177ac5ce1ace9c", func := "stepstone/stepstonelaw17.TapeMakes", spec := "tapeMakes", inPlace := ["math/bits.Sub64", "math/bits.Add64"], unfollowed := true, recurses := true, named := ["math/bits.divideError", "math/bits.overflowError", "stepstone/tape.fieldsByOp"], plainKeys := false, apart := false, laid := [("stepstone/tape.fieldsByOp", laid_stepstone_tape_fieldsByOp)], narrowed := true }
def TapeMakesUptoSaid : Prop := tapeMakesUptoRow.holds Tryz.pinned (OpenSpec.upto tapeMakesSpec)

end Rows
end Go.Proofs.YtofpcdjoljjnoaaGreatDoor
