/-
  NARROWER THAN 'FOR EVERY INPUT', by the rows' own cells (each row's printed sentence says how): TokenReads: laid · TokenPlace: laid · TokenRises: laid · TokenMany: laid · TokenJoins: laid.
  DERIVED. THE GIVEN ROWS OF THIS SEAT. 5 by the template 'for every input the law returns true; each argument reads behind the call as it read before'; 0 by the template 'total and deterministic' (their statements: YtomcpgogiglpkaaDoorTotals.lean).
  GIVEN WITH THE SEED: the statements are not yours to turn. If you find one false, say at which input.
  Laid BY PROGRAM, IN A SANDBOX (cutbox-rows.mjs): the forced cells as the released guide's own fill.sh prints them over the translation b1f09e968953c229… (all of the seat's roots in one cut). By AI agents, Wed Nov 11 2026. No macro, syntax, notation, axiom, sorry.
-/
import Derived.Test.YtomcpgogiglpkaaDoorChecked
import GoSem.Claim
import GoSem.ClaimJoined
import GoSem.ClaimMapViews
import Derived.JoinedTies
import Derived.KernelRfl
namespace Go.Proofs.YtomcpgogiglpkaaDoor
/- THE CELL 'sum', in the pinned program and in every row, IS THE sha256 OF THE DUMP (.gsa) THAT YtomcpgogiglpkaaDoorProg.lean LOADS. Nothing in Lean hashes anything: it is a label: what it is worth is what the hold of that sum in a sandbox is worth. -/
noncomputable def Tryd.pinned : Pinned := { name := "ytomcpgogiglpkaadoor", sum := "b1f09e968953c22927f78fc261711aed2afb42969cc647012767da800b44018a", checked := Tryd.checked }
namespace Rows
def none {H : Type} : Left H := { results := [], args := [] }

/- WHAT THE LISTED PACKAGE-LEVEL VARIABLES READ AS WHEN THE CALL BEGINS. Each datum BY PROGRAM (the guide's laid-datum.mjs) off the statement by which the dump's own 'gosem.cut.vars' lays the variable. In a bare row this is a premise. The card (YtomcpgogiglpkaaDoorCards.lean) ties it to the program's text. -/
def laid_stepstone_token_signs {H : Type} : DataW H := .agg [.lit (.string [61, 61]), .lit (.string [33, 61]), .lit (.string [60, 61]), .lit (.string [62, 61]), .lit (.string [43, 61]), .lit (.string [123]), .lit (.string [125]), .lit (.string [91]), .lit (.string [93]), .lit (.string [40]), .lit (.string [41]), .lit (.string [60]), .lit (.string [62]), .lit (.string [61]), .lit (.string [43]), .lit (.string [45]), .lit (.string [42]), .lit (.string [47]), .lit (.string [126]), .lit (.string [44]), .lit (.string [59]), .lit (.string [58])]

/-- 'stepstonelaw11.TokenReads': WHATEVER THE INPUT: true; the input reads as it did. -/
def tokenReadsSpec : ChangeSpec := { name := "tokenReads", fn := fun _ => fun
  | [d] => { results := [.lit (.bool true)], args := [d] }
  | _ => none }
def tokenReadsRow : OpenClaim := { program := "ytomcpgogiglpkaadoor", sum := "b1f09e968953c22927f78fc261711aed2afb42969cc647012767da800b44018a", func := "stepstone/stepstonelaw11.TokenReads", spec := "tokenReads", inPlace := ["internal/bytealg.IndexByteString", "internal/bytealg.IndexString", "internal/bytealg.CountString"], unfollowed := true, recurses := true, named := ["internal/bytealg.MaxLen", "stepstone/token.signs"], apart := false, laid := [("stepstone/token.signs", laid_stepstone_token_signs)] }
def TokenReadsSaid : Prop := tokenReadsRow.holds Tryd.pinned (OpenSpec.ofChange tokenReadsSpec)

/-- ITS FALSE NEIGHBOUR: 'it returns false'. Refute it at one input. -/
def tokenReadsWrong : ChangeSpec := { name := "tokenReads", fn := fun _ => fun
  | [d] => { results := [.lit (.bool false)], args := [d] }
  | _ => none }
def TokenReadsWrongFalsely : Prop := tokenReadsRow.holds Tryd.pinned (OpenSpec.ofChange tokenReadsWrong)

/-- 'stepstonelaw11.TokenPlace': WHATEVER THE INPUT: true; the input reads as it did. -/
def tokenPlaceSpec : ChangeSpec := { name := "tokenPlace", fn := fun _ => fun
  | [d1, d2] => { results := [.lit (.bool true)], args := [d1, d2] }
  | _ => none }
def tokenPlaceRow : OpenClaim := { program := "ytomcpgogiglpkaadoor", sum := "b1f09e968953c22927f78fc261711aed2afb42969cc647012767da800b44018a", func := "stepstone/stepstonelaw11.TokenPlace", spec := "tokenPlace", inPlace := ["internal/bytealg.IndexByteString", "internal/bytealg.IndexString", "internal/bytealg.CountString"], unfollowed := true, recurses := true, named := ["internal/bytealg.MaxLen", "stepstone/token.signs"], apart := false, laid := [("stepstone/token.signs", laid_stepstone_token_signs)] }
def TokenPlaceSaid : Prop := tokenPlaceRow.holds Tryd.pinned (OpenSpec.ofChange tokenPlaceSpec)

/-- ITS FALSE NEIGHBOUR: 'it returns false'. Refute it at one input. -/
def tokenPlaceWrong : ChangeSpec := { name := "tokenPlace", fn := fun _ => fun
  | [d1, d2] => { results := [.lit (.bool false)], args := [d1, d2] }
  | _ => none }
def TokenPlaceWrongFalsely : Prop := tokenPlaceRow.holds Tryd.pinned (OpenSpec.ofChange tokenPlaceWrong)

/-- 'stepstonelaw11.TokenRises': WHATEVER THE INPUT: true; the input reads as it did. -/
def tokenRisesSpec : ChangeSpec := { name := "tokenRises", fn := fun _ => fun
  | [d] => { results := [.lit (.bool true)], args := [d] }
  | _ => none }
def tokenRisesRow : OpenClaim := { program := "ytomcpgogiglpkaadoor", sum := "b1f09e968953c22927f78fc261711aed2afb42969cc647012767da800b44018a", func := "stepstone/stepstonelaw11.TokenRises", spec := "tokenRises", inPlace := ["internal/bytealg.IndexByteString", "internal/bytealg.IndexString", "internal/bytealg.CountString"], unfollowed := true, recurses := true, named := ["internal/bytealg.MaxLen", "stepstone/token.signs"], apart := false, laid := [("stepstone/token.signs", laid_stepstone_token_signs)] }
def TokenRisesSaid : Prop := tokenRisesRow.holds Tryd.pinned (OpenSpec.ofChange tokenRisesSpec)

/-- ITS FALSE NEIGHBOUR: 'it returns false'. Refute it at one input. -/
def tokenRisesWrong : ChangeSpec := { name := "tokenRises", fn := fun _ => fun
  | [d] => { results := [.lit (.bool false)], args := [d] }
  | _ => none }
def TokenRisesWrongFalsely : Prop := tokenRisesRow.holds Tryd.pinned (OpenSpec.ofChange tokenRisesWrong)

/-- 'stepstonelaw11.TokenMany': WHATEVER THE INPUT: true; the input reads as it did. -/
def tokenManySpec : ChangeSpec := { name := "tokenMany", fn := fun _ => fun
  | [d] => { results := [.lit (.bool true)], args := [d] }
  | _ => none }
def tokenManyRow : OpenClaim := { program := "ytomcpgogiglpkaadoor", sum := "b1f09e968953c22927f78fc261711aed2afb42969cc647012767da800b44018a", func := "stepstone/stepstonelaw11.TokenMany", spec := "tokenMany", inPlace := ["internal/bytealg.IndexByteString", "internal/bytealg.IndexString", "internal/bytealg.CountString"], unfollowed := true, recurses := true, named := ["internal/bytealg.MaxLen", "stepstone/token.signs"], apart := false, laid := [("stepstone/token.signs", laid_stepstone_token_signs)] }
def TokenManySaid : Prop := tokenManyRow.holds Tryd.pinned (OpenSpec.ofChange tokenManySpec)

/-- ITS FALSE NEIGHBOUR: 'it returns false'. Refute it at one input. -/
def tokenManyWrong : ChangeSpec := { name := "tokenMany", fn := fun _ => fun
  | [d] => { results := [.lit (.bool false)], args := [d] }
  | _ => none }
def TokenManyWrongFalsely : Prop := tokenManyRow.holds Tryd.pinned (OpenSpec.ofChange tokenManyWrong)

/-- 'stepstonelaw11.TokenJoins': WHATEVER THE INPUT: true; the input reads as it did. -/
def tokenJoinsSpec : ChangeSpec := { name := "tokenJoins", fn := fun _ => fun
  | [d1, d2] => { results := [.lit (.bool true)], args := [d1, d2] }
  | _ => none }
def tokenJoinsRow : OpenClaim := { program := "ytomcpgogiglpkaadoor", sum := "b1f09e968953c22927f78fc261711aed2afb42969cc647012767da800b44018a", func := "stepstone/stepstonelaw11.TokenJoins", spec := "tokenJoins", inPlace := ["internal/bytealg.IndexByteString", "internal/bytealg.IndexString", "internal/bytealg.CountString"], unfollowed := true, recurses := true, named := ["internal/bytealg.MaxLen", "stepstone/token.signs"], apart := false, laid := [("stepstone/token.signs", laid_stepstone_token_signs)] }
def TokenJoinsSaid : Prop := tokenJoinsRow.holds Tryd.pinned (OpenSpec.ofChange tokenJoinsSpec)

/-- ITS FALSE NEIGHBOUR: 'it returns false'. Refute it at one input. -/
def tokenJoinsWrong : ChangeSpec := { name := "tokenJoins", fn := fun _ => fun
  | [d1, d2] => { results := [.lit (.bool false)], args := [d1, d2] }
  | _ => none }
def TokenJoinsWrongFalsely : Prop := tokenJoinsRow.holds Tryd.pinned (OpenSpec.ofChange tokenJoinsWrong)

/- THE SECOND FORM. 'bulk': how many values and letters a reading holds, each counted each time it is reached (what is shared counts as often as it is met; a slice's spare places count too). A statement '..UptoSaid' is the law's where the arguments, and the package variables that the reading takes, are together of bulk at most 1048576: NARROWER than '..Said'. Prove '..Said' where nothing that the law and all that it calls make is longer than what came in: it says more and counts as full. Else prove '..UptoSaid'. A law counts once. -/
mutual
def uptoBulk {H : Type} : DataW H → Nat
  | .lit (.string bytes) => bytes.length + 1
  | .lit _ => 1
  | .nil => 1
  | .ptr d => uptoBulk d + 1
  | .slice elems spare => uptoBulkAll elems + uptoBulkAll spare + 1
  | .agg parts => uptoBulkAll parts + 1
  | .iface _ d => uptoBulk d + 1
  | .map entries => uptoBulkEntries entries + 1
  | .held _ => 1
def uptoBulkAll {H : Type} : List (DataW H) → Nat
  | [] => 0
  | d :: r => uptoBulk d + uptoBulkAll r
def uptoBulkEntries {H : Type} : List (Lit × DataW H) → Nat
  | [] => 0
  | x :: r => uptoBulkEntry x + uptoBulkEntries r
def uptoBulkEntry {H : Type} : Lit × DataW H → Nat
  | (.string bytes, d) => bytes.length + uptoBulk d + 1
  | (_, d) => uptoBulk d + 1
 end
def uptoSmall : (H : Type) → List (DataW H) → Bool := fun _ ds => decide (uptoBulkAll ds ≤ 1048576)
def OpenSpec.upto (s : _root_.Go.ChangeSpec) : _root_.Go.OpenSpec := { _root_.Go.OpenSpec.ofChange s with cond := some uptoSmall }

/-- 'stepstonelaw11.TokenReads', WHERE WHAT IT READS IS OF BULK AT MOST 1048576: true; the input reads as it did. -/
def tokenReadsUptoRow : OpenClaim := { program := "ytomcpgogiglpkaadoor", sum := "b1f09e968953c22927f78fc261711aed2afb42969cc647012767da800b44018a", func := "stepstone/stepstonelaw11.TokenReads", spec := "tokenReads", inPlace := ["internal/bytealg.IndexByteString", "internal/bytealg.IndexString", "internal/bytealg.CountString"], unfollowed := true, recurses := true, named := ["internal/bytealg.MaxLen", "stepstone/token.signs"], apart := false, laid := [("stepstone/token.signs", laid_stepstone_token_signs)], narrowed := true }
def TokenReadsUptoSaid : Prop := tokenReadsUptoRow.holds Tryd.pinned (OpenSpec.upto tokenReadsSpec)

/-- 'stepstonelaw11.TokenPlace', WHERE WHAT IT READS IS OF BULK AT MOST 1048576: true; the input reads as it did. -/
def tokenPlaceUptoRow : OpenClaim := { program := "ytomcpgogiglpkaadoor", sum := "b1f09e968953c22927f78fc261711aed2afb42969cc647012767da800b44018a", func := "stepstone/stepstonelaw11.TokenPlace", spec := "tokenPlace", inPlace := ["internal/bytealg.IndexByteString", "internal/bytealg.IndexString", "internal/bytealg.CountString"], unfollowed := true, recurses := true, named := ["internal/bytealg.MaxLen", "stepstone/token.signs"], apart := false, laid := [("stepstone/token.signs", laid_stepstone_token_signs)], narrowed := true }
def TokenPlaceUptoSaid : Prop := tokenPlaceUptoRow.holds Tryd.pinned (OpenSpec.upto tokenPlaceSpec)

/-- 'stepstonelaw11.TokenRises', WHERE WHAT IT READS IS OF BULK AT MOST 1048576: true; the input reads as it did. -/
def tokenRisesUptoRow : OpenClaim := { program := "ytomcpgogiglpkaadoor", sum := "b1f09e968953c22927f78fc261711aed2afb42969cc647012767da800b44018a", func := "stepstone/stepstonelaw11.TokenRises", spec := "tokenRises", inPlace := ["internal/bytealg.IndexByteString", "internal/bytealg.IndexString", "internal/bytealg.CountString"], unfollowed := true, recurses := true, named := ["internal/bytealg.MaxLen", "stepstone/token.signs"], apart := false, laid := [("stepstone/token.signs", laid_stepstone_token_signs)], narrowed := true }
def TokenRisesUptoSaid : Prop := tokenRisesUptoRow.holds Tryd.pinned (OpenSpec.upto tokenRisesSpec)

/-- 'stepstonelaw11.TokenMany', WHERE WHAT IT READS IS OF BULK AT MOST 1048576: true; the input reads as it did. -/
def tokenManyUptoRow : OpenClaim := { program := "ytomcpgogiglpkaadoor", sum := "b1f09e968953c22927f78fc261711aed2afb42969cc647012767da800b44018a", func := "stepstone/stepstonelaw11.TokenMany", spec := "tokenMany", inPlace := ["internal/bytealg.IndexByteString", "internal/bytealg.IndexString", "internal/bytealg.CountString"], unfollowed := true, recurses := true, named := ["internal/bytealg.MaxLen", "stepstone/token.signs"], apart := false, laid := [("stepstone/token.signs", laid_stepstone_token_signs)], narrowed := true }
def TokenManyUptoSaid : Prop := tokenManyUptoRow.holds Tryd.pinned (OpenSpec.upto tokenManySpec)

/-- 'stepstonelaw11.TokenJoins', WHERE WHAT IT READS IS OF BULK AT MOST 1048576: true; the input reads as it did. -/
def tokenJoinsUptoRow : OpenClaim := { program := "ytomcpgogiglpkaadoor", sum := "b1f09e968953c22927f78fc261711aed2afb42969cc647012767da800b44018a", func := "stepstone/stepstonelaw11.TokenJoins", spec := "tokenJoins", inPlace := ["internal/bytealg.IndexByteString", "internal/bytealg.IndexString", "internal/bytealg.CountString"], unfollowed := true, recurses := true, named := ["internal/bytealg.MaxLen", "stepstone/token.signs"], apart := false, laid := [("stepstone/token.signs", laid_stepstone_token_signs)], narrowed := true }
def TokenJoinsUptoSaid : Prop := tokenJoinsUptoRow.holds Tryd.pinned (OpenSpec.upto tokenJoinsSpec)

end Rows
end Go.Proofs.YtomcpgogiglpkaaDoor
