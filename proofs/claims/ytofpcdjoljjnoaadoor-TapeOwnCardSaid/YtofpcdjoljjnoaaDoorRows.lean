/-
  NARROWER THAN 'FOR EVERY INPUT', by the rows' own cells (each row's printed sentence says how): TapeMay: laid · TapeLive: laid · TapeNone: laid · TapeOwn: laid.
  DERIVED. THE GIVEN ROWS OF THIS SEAT. 4 by the template 'for every input the law returns true; each argument reads behind the call as it read before'; 0 by the template 'total and deterministic' (their statements: YtofpcdjoljjnoaaDoorTotals.lean).
  GIVEN WITH THE SEED: the statements are not yours to turn. If you find one false, say at which input.
  Laid BY PROGRAM, IN A SANDBOX (cutbox-rows.mjs): the forced cells as the released guide's own fill.sh prints them over the translation 7e281a909b122fb1… (all of the seat's roots in one cut). By AI agents, Wed Nov 11 2026. No macro, syntax, notation, axiom, sorry.
-/
import Derived.Test.YtofpcdjoljjnoaaDoorChecked
import GoSem.Claim
import GoSem.ClaimJoined
import GoSem.ClaimMapViews
import Derived.JoinedTies
import Derived.KernelRfl
namespace Go.Proofs.YtofpcdjoljjnoaaDoor
/- THE CELL 'sum', in the pinned program and in every row, IS THE sha256 OF THE DUMP (.gsa) THAT YtofpcdjoljjnoaaDoorProg.lean LOADS. Nothing in Lean hashes anything: it is a label: what it is worth is what the hold of that sum in a sandbox is worth. -/
noncomputable def Tryd.pinned : Pinned := { name := "ytofpcdjoljjnoaadoor", sum := "7e281a909b122fb15d4eb431735661a041af0b781434c24b6c30e0426edbcdf7", checked := Tryd.checked }
namespace Rows
def none {H : Type} : Left H := { results := [], args := [] }

/- WHAT THE LISTED PACKAGE-LEVEL VARIABLES READ AS WHEN THE CALL BEGINS. Each datum BY PROGRAM (the guide's laid-datum.mjs) off the statement by which the dump's own 'gosem.cut.vars' lays the variable. In a bare row this is a premise. The card (YtofpcdjoljjnoaaDoorCards.lean) ties it to the program's text. -/
def laid_stepstone_tape_fieldsByOp {H : Type} : DataW H := .agg [.agg [.lit (.int .u8 0), .lit (.int .u8 0), .lit (.int .u8 0)], .agg [.lit (.int .u8 0), .lit (.int .u8 0), .lit (.int .u8 1)], .agg [.lit (.int .u8 2), .lit (.int .u8 0), .lit (.int .u8 0)], .agg [.lit (.int .u8 3), .lit (.int .u8 3), .lit (.int .u8 0)], .agg [.lit (.int .u8 3), .lit (.int .u8 3), .lit (.int .u8 0)], .agg [.lit (.int .u8 3), .lit (.int .u8 3), .lit (.int .u8 0)], .agg [.lit (.int .u8 3), .lit (.int .u8 3), .lit (.int .u8 0)], .agg [.lit (.int .u8 3), .lit (.int .u8 0), .lit (.int .u8 0)], .agg [.lit (.int .u8 3), .lit (.int .u8 0), .lit (.int .u8 0)], .agg [.lit (.int .u8 3), .lit (.int .u8 0), .lit (.int .u8 0)], .agg [.lit (.int .u8 3), .lit (.int .u8 0), .lit (.int .u8 0)], .agg [.lit (.int .u8 3), .lit (.int .u8 0), .lit (.int .u8 0)]]

/-- 'stepstonelaw17.TapeMay': WHATEVER THE INPUT: true; the input reads as it did. -/
def tapeMaySpec : ChangeSpec := { name := "tapeMay", fn := fun _ => fun
  | [d1, d2] => { results := [.lit (.bool true)], args := [d1, d2] }
  | _ => none }
def tapeMayRow : OpenClaim := { program := "ytofpcdjoljjnoaadoor", sum := "7e281a909b122fb15d4eb431735661a041af0b781434c24b6c30e0426edbcdf7", func := "stepstone/stepstonelaw17.TapeMay", spec := "tapeMay", inPlace := ["math/bits.Sub64", "math/bits.Add64"], unfollowed := true, recurses := true, named := ["math/bits.divideError", "math/bits.overflowError", "stepstone/tape.fieldsByOp"], plainKeys := false, apart := false, laid := [("stepstone/tape.fieldsByOp", laid_stepstone_tape_fieldsByOp)] }
def TapeMaySaid : Prop := tapeMayRow.holds Tryd.pinned (OpenSpec.ofChange tapeMaySpec)

/-- ITS FALSE NEIGHBOUR: 'it returns false'. Refute it at one input. -/
def tapeMayWrong : ChangeSpec := { name := "tapeMay", fn := fun _ => fun
  | [d1, d2] => { results := [.lit (.bool false)], args := [d1, d2] }
  | _ => none }
def TapeMayWrongFalsely : Prop := tapeMayRow.holds Tryd.pinned (OpenSpec.ofChange tapeMayWrong)

/-- 'stepstonelaw17.TapeLive': WHATEVER THE INPUT: true; the input reads as it did. -/
def tapeLiveSpec : ChangeSpec := { name := "tapeLive", fn := fun _ => fun
  | [d] => { results := [.lit (.bool true)], args := [d] }
  | _ => none }
def tapeLiveRow : OpenClaim := { program := "ytofpcdjoljjnoaadoor", sum := "7e281a909b122fb15d4eb431735661a041af0b781434c24b6c30e0426edbcdf7", func := "stepstone/stepstonelaw17.TapeLive", spec := "tapeLive", inPlace := ["math/bits.Sub64", "math/bits.Add64"], unfollowed := true, recurses := true, named := ["stepstone/tape.fieldsByOp", "math/bits.divideError", "math/bits.overflowError"], plainKeys := false, apart := false, laid := [("stepstone/tape.fieldsByOp", laid_stepstone_tape_fieldsByOp)] }
def TapeLiveSaid : Prop := tapeLiveRow.holds Tryd.pinned (OpenSpec.ofChange tapeLiveSpec)

/-- ITS FALSE NEIGHBOUR: 'it returns false'. Refute it at one input. -/
def tapeLiveWrong : ChangeSpec := { name := "tapeLive", fn := fun _ => fun
  | [d] => { results := [.lit (.bool false)], args := [d] }
  | _ => none }
def TapeLiveWrongFalsely : Prop := tapeLiveRow.holds Tryd.pinned (OpenSpec.ofChange tapeLiveWrong)

/-- 'stepstonelaw17.TapeNone': WHATEVER THE INPUT: true; the input reads as it did. -/
def tapeNoneSpec : ChangeSpec := { name := "tapeNone", fn := fun _ => fun
  | [d] => { results := [.lit (.bool true)], args := [d] }
  | _ => none }
def tapeNoneRow : OpenClaim := { program := "ytofpcdjoljjnoaadoor", sum := "7e281a909b122fb15d4eb431735661a041af0b781434c24b6c30e0426edbcdf7", func := "stepstone/stepstonelaw17.TapeNone", spec := "tapeNone", inPlace := ["math/bits.Sub64", "math/bits.Add64"], unfollowed := true, recurses := true, named := ["math/bits.divideError", "math/bits.overflowError", "stepstone/tape.fieldsByOp"], plainKeys := false, apart := false, laid := [("stepstone/tape.fieldsByOp", laid_stepstone_tape_fieldsByOp)] }
def TapeNoneSaid : Prop := tapeNoneRow.holds Tryd.pinned (OpenSpec.ofChange tapeNoneSpec)

/-- ITS FALSE NEIGHBOUR: 'it returns false'. Refute it at one input. -/
def tapeNoneWrong : ChangeSpec := { name := "tapeNone", fn := fun _ => fun
  | [d] => { results := [.lit (.bool false)], args := [d] }
  | _ => none }
def TapeNoneWrongFalsely : Prop := tapeNoneRow.holds Tryd.pinned (OpenSpec.ofChange tapeNoneWrong)

/-- 'stepstonelaw17.TapeOwn': WHATEVER THE INPUT: true; the input reads as it did. -/
def tapeOwnSpec : ChangeSpec := { name := "tapeOwn", fn := fun _ => fun
  | [d] => { results := [.lit (.bool true)], args := [d] }
  | _ => none }
def tapeOwnRow : OpenClaim := { program := "ytofpcdjoljjnoaadoor", sum := "7e281a909b122fb15d4eb431735661a041af0b781434c24b6c30e0426edbcdf7", func := "stepstone/stepstonelaw17.TapeOwn", spec := "tapeOwn", inPlace := ["math/bits.Sub64", "math/bits.Add64"], unfollowed := true, recurses := true, named := ["math/bits.divideError", "math/bits.overflowError", "stepstone/tape.fieldsByOp"], plainKeys := false, apart := false, laid := [("stepstone/tape.fieldsByOp", laid_stepstone_tape_fieldsByOp)] }
def TapeOwnSaid : Prop := tapeOwnRow.holds Tryd.pinned (OpenSpec.ofChange tapeOwnSpec)

/-- ITS FALSE NEIGHBOUR: 'it returns false'. Refute it at one input. -/
def tapeOwnWrong : ChangeSpec := { name := "tapeOwn", fn := fun _ => fun
  | [d] => { results := [.lit (.bool false)], args := [d] }
  | _ => none }
def TapeOwnWrongFalsely : Prop := tapeOwnRow.holds Tryd.pinned (OpenSpec.ofChange tapeOwnWrong)

/- THE SECOND FORM. 'bulk': how many values and letters a reading holds, each counted each time it is reached (what is shared counts as often as it is met; a slice's spare places count too). A statement '..UptoSaid' is the law's where the arguments, and the package variables that the reading takes, are together of bulk at most 1048576: NARROWER than '..Said'. Prove '..Said' where nothing that the law and all that it calls make is longer than what came in: it says more and counts as full. Else prove '..UptoSaid'. A law counts once. -/
mutual
def uptoBulk {H : Type} : DataW H → Nat
  | .lit (.string bytes) => bytes.length + 1
  | .lit _ => 1
  | .nil => 1
  | .ptr d => uptoBulk d + 1
  | .slice elems spare => uptoBulkAll elems + uptoBulkAll spare + 1
  | .agg parts => uptoBulkAll parts + 1
  | .iface _ d => uptoBulk d + 1
  | .map entries => uptoBulkEntries entries + 1
  | .held _ => 1
def uptoBulkAll {H : Type} : List (DataW H) → Nat
  | [] => 0
  | d :: r => uptoBulk d + uptoBulkAll r
def uptoBulkEntries {H : Type} : List (Lit × DataW H) → Nat
  | [] => 0
  | x :: r => uptoBulkEntry x + uptoBulkEntries r
def uptoBulkEntry {H : Type} : Lit × DataW H → Nat
  | (.string bytes, d) => bytes.length + uptoBulk d + 1
  | (_, d) => uptoBulk d + 1
 end
def uptoSmall : (H : Type) → List (DataW H) → Bool := fun _ ds => decide (uptoBulkAll ds ≤ 1048576)
def OpenSpec.upto (s : _root_.Go.ChangeSpec) : _root_.Go.OpenSpec := { _root_.Go.OpenSpec.ofChange s with cond := some uptoSmall }

/-- 'stepstonelaw17.TapeMay', WHERE WHAT IT READS IS OF BULK AT MOST 1048576: true; the input reads as it did. -/
def tapeMayUptoRow : OpenClaim := { program := "ytofpcdjoljjnoaadoor", sum := "7e281a909b122fb15d4eb431735661a041af0b781434c24b6c30e0426edbcdf7", func := "stepstone/stepstonelaw17.TapeMay", spec := "tapeMay", inPlace := ["math/bits.Sub64", "math/bits.Add64"], unfollowed := true, recurses := true, named := ["math/bits.divideError", "math/bits.overflowError", "stepstone/tape.fieldsByOp"], plainKeys := false, apart := false, laid := [("stepstone/tape.fieldsByOp", laid_stepstone_tape_fieldsByOp)], narrowed := true }
def TapeMayUptoSaid : Prop := tapeMayUptoRow.holds Tryd.pinned (OpenSpec.upto tapeMaySpec)

/-- 'stepstonelaw17.TapeLive', WHERE WHAT IT READS IS OF BULK AT MOST 1048576: true; the input reads as it did. -/
def tapeLiveUptoRow : OpenClaim := { program := "ytofpcdjoljjnoaadoor", sum := "7e281a909b122fb15d4eb431735661a041af0b781434c24b6c30e0426edbcdf7", func := "stepstone/stepstonelaw17.TapeLive", spec := "tapeLive", inPlace := ["math/bits.Sub64", "math/bits.Add64"], unfollowed := true, recurses := true, named := ["stepstone/tape.fieldsByOp", "math/bits.divideError", "math/bits.overflowError"], plainKeys := false, apart := false, laid := [("stepstone/tape.fieldsByOp", laid_stepstone_tape_fieldsByOp)], narrowed := true }
def TapeLiveUptoSaid : Prop := tapeLiveUptoRow.holds Tryd.pinned (OpenSpec.upto tapeLiveSpec)

/-- 'stepstonelaw17.TapeNone', WHERE WHAT IT READS IS OF BULK AT MOST 1048576: true; the input reads as it did. -/
def tapeNoneUptoRow : OpenClaim := { program := "ytofpcdjoljjnoaadoor", sum := "7e281a909b122fb15d4eb431735661a041af0b781434c24b6c30e0426edbcdf7", func := "stepstone/stepstonelaw17.TapeNone", spec := "tapeNone", inPlace := ["math/bits.Sub64", "math/bits.Add64"], unfollowed := true, recurses := true, named := ["math/bits.divideError", "math/bits.overflowError", "stepstone/tape.fieldsByOp"], plainKeys := false, apart := false, laid := [("stepstone/tape.fieldsByOp", laid_stepstone_tape_fieldsByOp)], narrowed := true }
def TapeNoneUptoSaid : Prop := tapeNoneUptoRow.holds Tryd.pinned (OpenSpec.upto tapeNoneSpec)

/-- 'stepstonelaw17.TapeOwn', WHERE WHAT IT READS IS OF BULK AT MOST 1048576: true; the input reads as it did. -/
def tapeOwnUptoRow : OpenClaim := { program := "ytofpcdjoljjnoaadoor", sum := "7e281a909b122fb15d4eb431735661a041af0b781434c24b6c30e0426edbcdf7", func := "stepstone/stepstonelaw17.TapeOwn", spec := "tapeOwn", inPlace := ["math/bits.Sub64", "math/bits.Add64"], unfollowed := true, recurses := true, named := ["math/bits.divideError", "math/bits.overflowError", "stepstone/tape.fieldsByOp"], plainKeys := false, apart := false, laid := [("stepstone/tape.fieldsByOp", laid_stepstone_tape_fieldsByOp)], narrowed := true }
def TapeOwnUptoSaid : Prop := tapeOwnUptoRow.holds Tryd.pinned (OpenSpec.upto tapeOwnSpec)

end Rows
end Go.Proofs.YtofpcdjoljjnoaaDoor
