/-
  NARROWER THAN 'FOR EVERY INPUT', by the rows' own cells (each row's printed sentence says how): RightsTable: laid · RightsNames: laid.
  DERIVED. THE GIVEN ROWS OF THIS SEAT. 2 by the template 'for every input the law returns true; each argument reads behind the call as it read before'; 0 by the template 'total and deterministic' (their statements: YtdinbalpfgobgaaDoorTotals.lean).
  GIVEN WITH THE SEED: the statements are not yours to turn. If you find one false, say at which input.
  Laid BY PROGRAM, IN A SANDBOX (cutbox-rows.mjs): the forced cells as the released guide's own fill.sh prints them over the translation 2a4736fb23b98d3e… (all of the seat's roots in one cut). By AI agents, Wed Nov 11 2026. No macro, syntax, notation, axiom, sorry.
-/
import Derived.Test.YtdinbalpfgobgaaDoorChecked
import GoSem.Claim
import GoSem.ClaimJoined
import GoSem.ClaimMapViews
import Derived.JoinedTies
import Derived.KernelRfl
namespace Go.Proofs.YtdinbalpfgobgaaDoor
/- THE CELL 'sum', in the pinned program and in every row, IS THE sha256 OF THE DUMP (.gsa) THAT YtdinbalpfgobgaaDoorProg.lean LOADS. Nothing in Lean hashes anything: it is a label: what it is worth is what the hold of that sum in a sandbox is worth. -/
noncomputable def Tryd.pinned : Pinned := { name := "ytdinbalpfgobgaadoor", sum := "2a4736fb23b98d3e40dd78a98f6cb9c1dda0fc4f0cc668faa5add832b4def707", checked := Tryd.checked }
namespace Rows
def none {H : Type} : Left H := { results := [], args := [] }

/- WHAT THE LISTED PACKAGE-LEVEL VARIABLES READ AS WHEN THE CALL BEGINS. Each datum BY PROGRAM (the guide's laid-datum.mjs) off the statement by which the dump's own 'gosem.cut.vars' lays the variable. In a bare row this is a premise. The card (YtdinbalpfgobgaaDoorCards.lean) ties it to the program's text. -/
def laid_helmsman_rights_calls {H : Type} : DataW H := .agg [.agg [.lit (.string []), .lit (.int .i64 0)], .agg [.lit (.string [121, 105, 101, 108, 100]), .lit (.int .i64 0)], .agg [.lit (.string [101, 120, 105, 116]), .lit (.int .i64 0)], .agg [.lit (.string [112, 97, 114, 107]), .lit (.int .i64 0)], .agg [.lit (.string [115, 108, 101, 101, 112]), .lit (.int .i64 1)], .agg [.lit (.string [115, 112, 97, 119, 110]), .lit (.int .i64 4)], .agg [.lit (.string [119, 97, 107, 101]), .lit (.int .i64 1)], .agg [.lit (.string [107, 105, 108, 108]), .lit (.int .i64 1)], .agg [.lit (.string [115, 117, 115, 112, 101, 110, 100]), .lit (.int .i64 1)], .agg [.lit (.string [114, 101, 115, 117, 109, 101]), .lit (.int .i64 1)], .agg [.lit (.string [97, 102, 102, 105, 110, 105, 116, 121]), .lit (.int .i64 2)], .agg [.lit (.string [98, 105, 110, 100]), .lit (.int .i64 2)], .agg [.lit (.string [109, 105, 110, 116]), .lit (.int .i64 3)], .agg [.lit (.string [99, 111, 112, 121]), .lit (.int .i64 2)], .agg [.lit (.string [109, 111, 118, 101]), .lit (.int .i64 2)], .agg [.lit (.string [100, 101, 108, 101, 116, 101]), .lit (.int .i64 1)], .agg [.lit (.string [114, 101, 118, 111, 107, 101]), .lit (.int .i64 1)], .agg [.lit (.string [103, 105, 118, 101]), .lit (.int .i64 3)], .agg [.lit (.string [115, 112, 108, 105, 116]), .lit (.int .i64 3)], .agg [.lit (.string [100, 111, 110, 97, 116, 101]), .lit (.int .i64 3)], .agg [.lit (.string [99, 97, 114, 118, 101]), .lit (.int .i64 5)], .agg [.lit (.string [109, 101, 114, 103, 101]), .lit (.int .i64 1)], .agg [.lit (.string [100, 114, 111, 112]), .lit (.int .i64 1)]]

/-- 'helmsmanlaw11.RightsTable': WHATEVER THE INPUT: true; the input reads as it did. -/
def rightsTableSpec : ChangeSpec := { name := "rightsTable", fn := fun _ => fun
  | [d] => { results := [.lit (.bool true)], args := [d] }
  | _ => none }
def rightsTableRow : OpenClaim := { program := "ytdinbalpfgobgaadoor", sum := "2a4736fb23b98d3e40dd78a98f6cb9c1dda0fc4f0cc668faa5add832b4def707", func := "helmsman/helmsmanlaw11.RightsTable", spec := "rightsTable", inPlace := ["internal/abi.NoEscape"], named := ["helmsman/rights.calls"], apart := false, laid := [("helmsman/rights.calls", laid_helmsman_rights_calls)] }
def RightsTableSaid : Prop := rightsTableRow.holds Tryd.pinned (OpenSpec.ofChange rightsTableSpec)

/-- ITS FALSE NEIGHBOUR: 'it returns false'. Refute it at one input. -/
def rightsTableWrong : ChangeSpec := { name := "rightsTable", fn := fun _ => fun
  | [d] => { results := [.lit (.bool false)], args := [d] }
  | _ => none }
def RightsTableWrongFalsely : Prop := rightsTableRow.holds Tryd.pinned (OpenSpec.ofChange rightsTableWrong)

/-- 'helmsmanlaw11.RightsNames': WHATEVER THE INPUT: true; the input reads as it did. -/
def rightsNamesSpec : ChangeSpec := { name := "rightsNames", fn := fun _ => fun
  | [d] => { results := [.lit (.bool true)], args := [d] }
  | _ => none }
def rightsNamesRow : OpenClaim := { program := "ytdinbalpfgobgaadoor", sum := "2a4736fb23b98d3e40dd78a98f6cb9c1dda0fc4f0cc668faa5add832b4def707", func := "helmsman/helmsmanlaw11.RightsNames", spec := "rightsNames", inPlace := ["internal/abi.NoEscape"], named := ["helmsman/rights.calls"], apart := false, laid := [("helmsman/rights.calls", laid_helmsman_rights_calls)] }
def RightsNamesSaid : Prop := rightsNamesRow.holds Tryd.pinned (OpenSpec.ofChange rightsNamesSpec)

/-- ITS FALSE NEIGHBOUR: 'it returns false'. Refute it at one input. -/
def rightsNamesWrong : ChangeSpec := { name := "rightsNames", fn := fun _ => fun
  | [d] => { results := [.lit (.bool false)], args := [d] }
  | _ => none }
def RightsNamesWrongFalsely : Prop := rightsNamesRow.holds Tryd.pinned (OpenSpec.ofChange rightsNamesWrong)

/- THE SECOND FORM. 'bulk': how many values and letters a reading holds, each counted each time it is reached (what is shared counts as often as it is met; a slice's spare places count too). A statement '..UptoSaid' is the law's where the arguments, and the package variables that the reading takes, are together of bulk at most 1048576: NARROWER than '..Said'. Prove '..Said' where nothing that the law and all that it calls make is longer than what came in: it says more and counts as full. Else prove '..UptoSaid'. A law counts once. -/
mutual
def uptoBulk {H : Type} : DataW H → Nat
  | .lit (.string bytes) => bytes.length + 1
  | .lit _ => 1
  | .nil => 1
  | .ptr d => uptoBulk d + 1
  | .slice elems spare => uptoBulkAll elems + uptoBulkAll spare + 1
  | .agg parts => uptoBulkAll parts + 1
  | .iface _ d => uptoBulk d + 1
  | .map entries => uptoBulkEntries entries + 1
  | .held _ => 1
def uptoBulkAll {H : Type} : List (DataW H) → Nat
  | [] => 0
  | d :: r => uptoBulk d + uptoBulkAll r
def uptoBulkEntries {H : Type} : List (Lit × DataW H) → Nat
  | [] => 0
  | x :: r => uptoBulkEntry x + uptoBulkEntries r
def uptoBulkEntry {H : Type} : Lit × DataW H → Nat
  | (.string bytes, d) => bytes.length + uptoBulk d + 1
  | (_, d) => uptoBulk d + 1
 end
def uptoSmall : (H : Type) → List (DataW H) → Bool := fun _ ds => decide (uptoBulkAll ds ≤ 1048576)
def OpenSpec.upto (s : _root_.Go.ChangeSpec) : _root_.Go.OpenSpec := { _root_.Go.OpenSpec.ofChange s with cond := some uptoSmall }

/-- 'helmsmanlaw11.RightsTable', WHERE WHAT IT READS IS OF BULK AT MOST 1048576: true; the input reads as it did. -/
def rightsTableUptoRow : OpenClaim := { program := "ytdinbalpfgobgaadoor", sum := "2a4736fb23b98d3e40dd78a98f6cb9c1dda0fc4f0cc668faa5add832b4def707", func := "helmsman/helmsmanlaw11.RightsTable", spec := "rightsTable", inPlace := ["internal/abi.NoEscape"], named := ["helmsman/rights.calls"], apart := false, laid := [("helmsman/rights.calls", laid_helmsman_rights_calls)], narrowed := true }
def RightsTableUptoSaid : Prop := rightsTableUptoRow.holds Tryd.pinned (OpenSpec.upto rightsTableSpec)

/-- 'helmsmanlaw11.RightsNames', WHERE WHAT IT READS IS OF BULK AT MOST 1048576: true; the input reads as it did. -/
def rightsNamesUptoRow : OpenClaim := { program := "ytdinbalpfgobgaadoor", sum := "2a4736fb23b98d3e40dd78a98f6cb9c1dda0fc4f0cc668faa5add832b4def707", func := "helmsman/helmsmanlaw11.RightsNames", spec := "rightsNames", inPlace := ["internal/abi.NoEscape"], named := ["helmsman/rights.calls"], apart := false, laid := [("helmsman/rights.calls", laid_helmsman_rights_calls)], narrowed := true }
def RightsNamesUptoSaid : Prop := rightsNamesUptoRow.holds Tryd.pinned (OpenSpec.upto rightsNamesSpec)

end Rows
end Go.Proofs.YtdinbalpfgobgaaDoor
