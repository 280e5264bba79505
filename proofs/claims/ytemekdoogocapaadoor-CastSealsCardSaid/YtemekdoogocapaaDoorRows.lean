/-
  NARROWER THAN 'FOR EVERY INPUT', by the rows' own cells (each row's printed sentence says how): CastRests: laid · CastSeals: laid · CastBack: laid · CastNear: laid · CastPieces: laid · CastZeros: laid · CastSwaps: laid.
  DERIVED. THE GIVEN ROWS OF THIS SEAT. 7 by the template 'for every input the law returns true; each argument reads behind the call as it read before'; 0 by the template 'total and deterministic' (their statements: YtemekdoogocapaaDoorTotals.lean).
  GIVEN WITH THE SEED: the statements are not yours to turn. If you find one false, say at which input.
  Laid BY PROGRAM, IN A SANDBOX (cutbox-rows.mjs): the forced cells as the released guide's own fill.sh prints them over the translation fe12339021b1e0b6… (all of the seat's roots in one cut). By AI agents, Wed Nov 11 2026. No macro, syntax, notation, axiom, sorry.
-/
import Derived.Test.YtemekdoogocapaaDoorChecked
import GoSem.Claim
import GoSem.ClaimJoined
import GoSem.ClaimMapViews
import Derived.JoinedTies
import Derived.KernelRfl
namespace Go.Proofs.YtemekdoogocapaaDoor
/- THE CELL 'sum', in the pinned program and in every row, IS THE sha256 OF THE DUMP (.gsa) THAT YtemekdoogocapaaDoorProg.lean LOADS. Nothing in Lean hashes anything: it is a label: what it is worth is what the hold of that sum in a sandbox is worth. -/
noncomputable def Tryd.pinned : Pinned := { name := "ytemekdoogocapaadoor", sum := "fe12339021b1e0b6c9925cab32725a1ff3a3a0c9b14956261be94b33dbb69bc5", checked := Tryd.checked }
namespace Rows
def none {H : Type} : Left H := { results := [], args := [] }

/- WHAT THE LISTED PACKAGE-LEVEL VARIABLES READ AS WHEN THE CALL BEGINS. Each datum BY PROGRAM (the guide's laid-datum.mjs) off the statement by which the dump's own 'gosem.cut.vars' lays the variable. In a bare row this is a premise. The card (YtemekdoogocapaaDoorCards.lean) ties it to the program's text. -/
def laid_stepstone_cast_turns {H : Type} : DataW H := .agg [.lit (.int .u64 0), .lit (.int .u64 8), .lit (.int .u64 16), .lit (.int .u64 24), .lit (.int .u64 32), .lit (.int .u64 40), .lit (.int .u64 48), .lit (.int .u64 56), .lit (.int .u64 3)]

/-- 'stepstonelaw02.CastRests': WHATEVER THE INPUT: true; the input reads as it did. -/
def castRestsSpec : ChangeSpec := { name := "castRests", fn := fun _ => fun
  | [d1, d2] => { results := [.lit (.bool true)], args := [d1, d2] }
  | _ => none }
def castRestsRow : OpenClaim := { program := "ytemekdoogocapaadoor", sum := "fe12339021b1e0b6c9925cab32725a1ff3a3a0c9b14956261be94b33dbb69bc5", func := "stepstone/stepstonelaw02.CastRests", spec := "castRests", named := ["stepstone/cast.turns"], apart := false, laid := [("stepstone/cast.turns", laid_stepstone_cast_turns)] }
def CastRestsSaid : Prop := castRestsRow.holds Tryd.pinned (OpenSpec.ofChange castRestsSpec)

/-- ITS FALSE NEIGHBOUR: 'it returns false'. Refute it at one input. -/
def castRestsWrong : ChangeSpec := { name := "castRests", fn := fun _ => fun
  | [d1, d2] => { results := [.lit (.bool false)], args := [d1, d2] }
  | _ => none }
def CastRestsWrongFalsely : Prop := castRestsRow.holds Tryd.pinned (OpenSpec.ofChange castRestsWrong)

/-- 'stepstonelaw02.CastSeals': WHATEVER THE INPUT: true; the input reads as it did. -/
def castSealsSpec : ChangeSpec := { name := "castSeals", fn := fun _ => fun
  | [d1, d2] => { results := [.lit (.bool true)], args := [d1, d2] }
  | _ => none }
def castSealsRow : OpenClaim := { program := "ytemekdoogocapaadoor", sum := "fe12339021b1e0b6c9925cab32725a1ff3a3a0c9b14956261be94b33dbb69bc5", func := "stepstone/stepstonelaw02.CastSeals", spec := "castSeals", named := ["stepstone/cast.turns"], apart := false, laid := [("stepstone/cast.turns", laid_stepstone_cast_turns)] }
def CastSealsSaid : Prop := castSealsRow.holds Tryd.pinned (OpenSpec.ofChange castSealsSpec)

/-- ITS FALSE NEIGHBOUR: 'it returns false'. Refute it at one input. -/
def castSealsWrong : ChangeSpec := { name := "castSeals", fn := fun _ => fun
  | [d1, d2] => { results := [.lit (.bool false)], args := [d1, d2] }
  | _ => none }
def CastSealsWrongFalsely : Prop := castSealsRow.holds Tryd.pinned (OpenSpec.ofChange castSealsWrong)

/-- 'stepstonelaw02.CastBack': WHATEVER THE INPUT: true; the input reads as it did. -/
def castBackSpec : ChangeSpec := { name := "castBack", fn := fun _ => fun
  | [d] => { results := [.lit (.bool true)], args := [d] }
  | _ => none }
def castBackRow : OpenClaim := { program := "ytemekdoogocapaadoor", sum := "fe12339021b1e0b6c9925cab32725a1ff3a3a0c9b14956261be94b33dbb69bc5", func := "stepstone/stepstonelaw02.CastBack", spec := "castBack", named := ["stepstone/cast.turns"], apart := false, laid := [("stepstone/cast.turns", laid_stepstone_cast_turns)] }
def CastBackSaid : Prop := castBackRow.holds Tryd.pinned (OpenSpec.ofChange castBackSpec)

/-- ITS FALSE NEIGHBOUR: 'it returns false'. Refute it at one input. -/
def castBackWrong : ChangeSpec := { name := "castBack", fn := fun _ => fun
  | [d] => { results := [.lit (.bool false)], args := [d] }
  | _ => none }
def CastBackWrongFalsely : Prop := castBackRow.holds Tryd.pinned (OpenSpec.ofChange castBackWrong)

/-- 'stepstonelaw02.CastNear': WHATEVER THE INPUT: true; the input reads as it did. -/
def castNearSpec : ChangeSpec := { name := "castNear", fn := fun _ => fun
  | [d1, d2, d3] => { results := [.lit (.bool true)], args := [d1, d2, d3] }
  | _ => none }
def castNearRow : OpenClaim := { program := "ytemekdoogocapaadoor", sum := "fe12339021b1e0b6c9925cab32725a1ff3a3a0c9b14956261be94b33dbb69bc5", func := "stepstone/stepstonelaw02.CastNear", spec := "castNear", named := ["stepstone/cast.turns"], apart := false, laid := [("stepstone/cast.turns", laid_stepstone_cast_turns)] }
def CastNearSaid : Prop := castNearRow.holds Tryd.pinned (OpenSpec.ofChange castNearSpec)

/-- ITS FALSE NEIGHBOUR: 'it returns false'. Refute it at one input. -/
def castNearWrong : ChangeSpec := { name := "castNear", fn := fun _ => fun
  | [d1, d2, d3] => { results := [.lit (.bool false)], args := [d1, d2, d3] }
  | _ => none }
def CastNearWrongFalsely : Prop := castNearRow.holds Tryd.pinned (OpenSpec.ofChange castNearWrong)

/-- 'stepstonelaw02.CastPieces': WHATEVER THE INPUT: true; the input reads as it did. -/
def castPiecesSpec : ChangeSpec := { name := "castPieces", fn := fun _ => fun
  | [d1, d2] => { results := [.lit (.bool true)], args := [d1, d2] }
  | _ => none }
def castPiecesRow : OpenClaim := { program := "ytemekdoogocapaadoor", sum := "fe12339021b1e0b6c9925cab32725a1ff3a3a0c9b14956261be94b33dbb69bc5", func := "stepstone/stepstonelaw02.CastPieces", spec := "castPieces", named := ["stepstone/cast.turns"], apart := false, laid := [("stepstone/cast.turns", laid_stepstone_cast_turns)] }
def CastPiecesSaid : Prop := castPiecesRow.holds Tryd.pinned (OpenSpec.ofChange castPiecesSpec)

/-- ITS FALSE NEIGHBOUR: 'it returns false'. Refute it at one input. -/
def castPiecesWrong : ChangeSpec := { name := "castPieces", fn := fun _ => fun
  | [d1, d2] => { results := [.lit (.bool false)], args := [d1, d2] }
  | _ => none }
def CastPiecesWrongFalsely : Prop := castPiecesRow.holds Tryd.pinned (OpenSpec.ofChange castPiecesWrong)

/-- 'stepstonelaw02.CastZeros': WHATEVER THE INPUT: true; the input reads as it did. -/
def castZerosSpec : ChangeSpec := { name := "castZeros", fn := fun _ => fun
  | [d1, d2] => { results := [.lit (.bool true)], args := [d1, d2] }
  | _ => none }
def castZerosRow : OpenClaim := { program := "ytemekdoogocapaadoor", sum := "fe12339021b1e0b6c9925cab32725a1ff3a3a0c9b14956261be94b33dbb69bc5", func := "stepstone/stepstonelaw02.CastZeros", spec := "castZeros", named := ["stepstone/cast.turns"], apart := false, laid := [("stepstone/cast.turns", laid_stepstone_cast_turns)] }
def CastZerosSaid : Prop := castZerosRow.holds Tryd.pinned (OpenSpec.ofChange castZerosSpec)

/-- ITS FALSE NEIGHBOUR: 'it returns false'. Refute it at one input. -/
def castZerosWrong : ChangeSpec := { name := "castZeros", fn := fun _ => fun
  | [d1, d2] => { results := [.lit (.bool false)], args := [d1, d2] }
  | _ => none }
def CastZerosWrongFalsely : Prop := castZerosRow.holds Tryd.pinned (OpenSpec.ofChange castZerosWrong)

/-- 'stepstonelaw02.CastSwaps': WHATEVER THE INPUT: true; the input reads as it did. -/
def castSwapsSpec : ChangeSpec := { name := "castSwaps", fn := fun _ => fun
  | [d1, d2, d3] => { results := [.lit (.bool true)], args := [d1, d2, d3] }
  | _ => none }
def castSwapsRow : OpenClaim := { program := "ytemekdoogocapaadoor", sum := "fe12339021b1e0b6c9925cab32725a1ff3a3a0c9b14956261be94b33dbb69bc5", func := "stepstone/stepstonelaw02.CastSwaps", spec := "castSwaps", named := ["stepstone/cast.turns"], apart := false, laid := [("stepstone/cast.turns", laid_stepstone_cast_turns)] }
def CastSwapsSaid : Prop := castSwapsRow.holds Tryd.pinned (OpenSpec.ofChange castSwapsSpec)

/-- ITS FALSE NEIGHBOUR: 'it returns false'. Refute it at one input. -/
def castSwapsWrong : ChangeSpec := { name := "castSwaps", fn := fun _ => fun
  | [d1, d2, d3] => { results := [.lit (.bool false)], args := [d1, d2, d3] }
  | _ => none }
def CastSwapsWrongFalsely : Prop := castSwapsRow.holds Tryd.pinned (OpenSpec.ofChange castSwapsWrong)

/- THE SECOND FORM. 'bulk': how many values and letters a reading holds, each counted each time it is reached (what is shared counts as often as it is met; a slice's spare places count too). A statement '..UptoSaid' is the law's where the arguments, and the package variables that the reading takes, are together of bulk at most 1048576: NARROWER than '..Said'. Prove '..Said' where nothing that the law and all that it calls make is longer than what came in: it says more and counts as full. Else prove '..UptoSaid'. A law counts once. -/
mutual
def uptoBulk {H : Type} : DataW H → Nat
  | .lit (.string bytes) => bytes.length + 1
  | .lit _ => 1
  | .nil => 1
  | .ptr d => uptoBulk d + 1
  | .slice elems spare => uptoBulkAll elems + uptoBulkAll spare + 1
  | .agg parts => uptoBulkAll parts + 1
  | .iface _ d => uptoBulk d + 1
  | .map entries => uptoBulkEntries entries + 1
  | .held _ => 1
def uptoBulkAll {H : Type} : List (DataW H) → Nat
  | [] => 0
  | d :: r => uptoBulk d + uptoBulkAll r
def uptoBulkEntries {H : Type} : List (Lit × DataW H) → Nat
  | [] => 0
  | x :: r => uptoBulkEntry x + uptoBulkEntries r
def uptoBulkEntry {H : Type} : Lit × DataW H → Nat
  | (.string bytes, d) => bytes.length + uptoBulk d + 1
  | (_, d) => uptoBulk d + 1
 end
def uptoSmall : (H : Type) → List (DataW H) → Bool := fun _ ds => decide (uptoBulkAll ds ≤ 1048576)
def OpenSpec.upto (s : _root_.Go.ChangeSpec) : _root_.Go.OpenSpec := { _root_.Go.OpenSpec.ofChange s with cond := some uptoSmall }

/-- 'stepstonelaw02.CastRests', WHERE WHAT IT READS IS OF BULK AT MOST 1048576: true; the input reads as it did. -/
def castRestsUptoRow : OpenClaim := { program := "ytemekdoogocapaadoor", sum := "fe12339021b1e0b6c9925cab32725a1ff3a3a0c9b14956261be94b33dbb69bc5", func := "stepstone/stepstonelaw02.CastRests", spec := "castRests", named := ["stepstone/cast.turns"], apart := false, laid := [("stepstone/cast.turns", laid_stepstone_cast_turns)], narrowed := true }
def CastRestsUptoSaid : Prop := castRestsUptoRow.holds Tryd.pinned (OpenSpec.upto castRestsSpec)

/-- 'stepstonelaw02.CastSeals', WHERE WHAT IT READS IS OF BULK AT MOST 1048576: true; the input reads as it did. -/
def castSealsUptoRow : OpenClaim := { program := "ytemekdoogocapaadoor", sum := "fe12339021b1e0b6c9925cab32725a1ff3a3a0c9b14956261be94b33dbb69bc5", func := "stepstone/stepstonelaw02.CastSeals", spec := "castSeals", named := ["stepstone/cast.turns"], apart := false, laid := [("stepstone/cast.turns", laid_stepstone_cast_turns)], narrowed := true }
def CastSealsUptoSaid : Prop := castSealsUptoRow.holds Tryd.pinned (OpenSpec.upto castSealsSpec)

/-- 'stepstonelaw02.CastBack', WHERE WHAT IT READS IS OF BULK AT MOST 1048576: true; the input reads as it did. -/
def castBackUptoRow : OpenClaim := { program := "ytemekdoogocapaadoor", sum := "fe12339021b1e0b6c9925cab32725a1ff3a3a0c9b14956261be94b33dbb69bc5", func := "stepstone/stepstonelaw02.CastBack", spec := "castBack", named := ["stepstone/cast.turns"], apart := false, laid := [("stepstone/cast.turns", laid_stepstone_cast_turns)], narrowed := true }
def CastBackUptoSaid : Prop := castBackUptoRow.holds Tryd.pinned (OpenSpec.upto castBackSpec)

/-- 'stepstonelaw02.CastNear', WHERE WHAT IT READS IS OF BULK AT MOST 1048576: true; the input reads as it did. -/
def castNearUptoRow : OpenClaim := { program := "ytemekdoogocapaadoor", sum := "fe12339021b1e0b6c9925cab32725a1ff3a3a0c9b14956261be94b33dbb69bc5", func := "stepstone/stepstonelaw02.CastNear", spec := "castNear", named := ["stepstone/cast.turns"], apart := false, laid := [("stepstone/cast.turns", laid_stepstone_cast_turns)], narrowed := true }
def CastNearUptoSaid : Prop := castNearUptoRow.holds Tryd.pinned (OpenSpec.upto castNearSpec)

/-- 'stepstonelaw02.CastPieces', WHERE WHAT IT READS IS OF BULK AT MOST 1048576: true; the input reads as it did. -/
def castPiecesUptoRow : OpenClaim := { program := "ytemekdoogocapaadoor", sum := "fe12339021b1e0b6c9925cab32725a1ff3a3a0c9b14956261be94b33dbb69bc5", func := "stepstone/stepstonelaw02.CastPieces", spec := "castPieces", named := ["stepstone/cast.turns"], apart := false, laid := [("stepstone/cast.turns", laid_stepstone_cast_turns)], narrowed := true }
def CastPiecesUptoSaid : Prop := castPiecesUptoRow.holds Tryd.pinned (OpenSpec.upto castPiecesSpec)

/-- 'stepstonelaw02.CastZeros', WHERE WHAT IT READS IS OF BULK AT MOST 1048576: true; the input reads as it did. -/
def castZerosUptoRow : OpenClaim := { program := "ytemekdoogocapaadoor", sum := "fe12339021b1e0b6c9925cab32725a1ff3a3a0c9b14956261be94b33dbb69bc5", func := "stepstone/stepstonelaw02.CastZeros", spec := "castZeros", named := ["stepstone/cast.turns"], apart := false, laid := [("stepstone/cast.turns", laid_stepstone_cast_turns)], narrowed := true }
def CastZerosUptoSaid : Prop := castZerosUptoRow.holds Tryd.pinned (OpenSpec.upto castZerosSpec)

/-- 'stepstonelaw02.CastSwaps', WHERE WHAT IT READS IS OF BULK AT MOST 1048576: true; the input reads as it did. -/
def castSwapsUptoRow : OpenClaim := { program := "ytemekdoogocapaadoor", sum := "fe12339021b1e0b6c9925cab32725a1ff3a3a0c9b14956261be94b33dbb69bc5", func := "stepstone/stepstonelaw02.CastSwaps", spec := "castSwaps", named := ["stepstone/cast.turns"], apart := false, laid := [("stepstone/cast.turns", laid_stepstone_cast_turns)], narrowed := true }
def CastSwapsUptoSaid : Prop := castSwapsUptoRow.holds Tryd.pinned (OpenSpec.upto castSwapsSpec)

end Rows
end Go.Proofs.YtemekdoogocapaaDoor
