/-
  NARROWER THAN 'FOR EVERY INPUT', by the rows' own cells (each row's printed sentence says how): GtableMay: laid.
  DERIVED. THE GIVEN ROWS OF THIS SEAT. 1 by the template 'for every input the law returns true; each argument reads behind the call as it read before'; 0 by the template 'total and deterministic' (their statements: YtapgcadffghljaaDoorTotals.lean).
  GIVEN WITH THE SEED: the statements are not yours to turn. If you find one false, say at which input.
  Laid BY PROGRAM, IN A SANDBOX (cutbox-rows.mjs): the forced cells as the released guide's own fill.sh prints them over the translation c67a0bf856c2536c… (all of the seat's roots in one cut). By AI agents, Wed Nov 11 2026. No macro, syntax, notation, axiom, sorry.
-/
import Derived.Test.YtapgcadffghljaaDoorChecked
import GoSem.Claim
import GoSem.ClaimJoined
import GoSem.ClaimMapViews
import Derived.JoinedTies
import Derived.KernelRfl
namespace Go.Proofs.YtapgcadffghljaaDoor
/- THE CELL 'sum', in the pinned program and in every row, IS THE sha256 OF THE DUMP (.gsa) THAT YtapgcadffghljaaDoorProg.lean LOADS. Nothing in Lean hashes anything: it is a label: what it is worth is what the hold of that sum in a sandbox is worth. -/
noncomputable def Tryd.pinned : Pinned := { name := "ytapgcadffghljaadoor", sum := "c67a0bf856c2536cd0c4e1199ea8c433a1e455dd1381c98553cad9abf65c95b0", checked := Tryd.checked }
namespace Rows
def none {H : Type} : Left H := { results := [], args := [] }

/- WHAT THE LISTED PACKAGE-LEVEL VARIABLES READ AS WHEN THE CALL BEGINS. Each datum BY PROGRAM (the guide's laid-datum.mjs) off the statement by which the dump's own 'gosem.cut.vars' lays the variable. In a bare row this is a premise. The card (YtapgcadffghljaaDoorCards.lean) ties it to the program's text. -/
def laid_helmsman_gtable_names {H : Type} : DataW H := .agg [.lit (.string [105, 100, 108, 101]), .lit (.string [114, 117, 110, 110, 97, 98, 108, 101]), .lit (.string [114, 117, 110, 110, 105, 110, 103]), .lit (.string [112, 97, 114, 107, 101, 100]), .lit (.string [115, 108, 101, 101, 112, 105, 110, 103]), .lit (.string [115, 117, 115, 112, 101, 110, 100, 101, 100]), .lit (.string [116, 104, 114, 111, 116, 116, 108, 101, 100])]

/-- 'helmsmanlaw16.GtableMay': WHATEVER THE INPUT: true; the input reads as it did. -/
def gtableMaySpec : ChangeSpec := { name := "gtableMay", fn := fun _ => fun
  | [d1, d2, d3] => { results := [.lit (.bool true)], args := [d1, d2, d3] }
  | _ => none }
def gtableMayRow : OpenClaim := { program := "ytapgcadffghljaadoor", sum := "c67a0bf856c2536cd0c4e1199ea8c433a1e455dd1381c98553cad9abf65c95b0", func := "helmsman/helmsmanlaw16.GtableMay", spec := "gtableMay", named := ["helmsman/gtable.names"], apart := false, laid := [("helmsman/gtable.names", laid_helmsman_gtable_names)] }
def GtableMaySaid : Prop := gtableMayRow.holds Tryd.pinned (OpenSpec.ofChange gtableMaySpec)

/-- ITS FALSE NEIGHBOUR: 'it returns false'. Refute it at one input. -/
def gtableMayWrong : ChangeSpec := { name := "gtableMay", fn := fun _ => fun
  | [d1, d2, d3] => { results := [.lit (.bool false)], args := [d1, d2, d3] }
  | _ => none }
def GtableMayWrongFalsely : Prop := gtableMayRow.holds Tryd.pinned (OpenSpec.ofChange gtableMayWrong)

/- THE SECOND FORM. 'bulk': how many values and letters a reading holds, each counted each time it is reached (what is shared counts as often as it is met; a slice's spare places count too). A statement '..UptoSaid' is the law's where the arguments, and the package variables that the reading takes, are together of bulk at most 1048576: NARROWER than '..Said'. Prove '..Said' where nothing that the law and all that it calls make is longer than what came in: it says more and counts as full. Else prove '..UptoSaid'. A law counts once. -/
mutual
def uptoBulk {H : Type} : DataW H → Nat
  | .lit (.string bytes) => bytes.length + 1
  | .lit _ => 1
  | .nil => 1
  | .ptr d => uptoBulk d + 1
  | .slice elems spare => uptoBulkAll elems + uptoBulkAll spare + 1
  | .agg parts => uptoBulkAll parts + 1
  | .iface _ d => uptoBulk d + 1
  | .map entries => uptoBulkEntries entries + 1
  | .held _ => 1
def uptoBulkAll {H : Type} : List (DataW H) → Nat
  | [] => 0
  | d :: r => uptoBulk d + uptoBulkAll r
def uptoBulkEntries {H : Type} : List (Lit × DataW H) → Nat
  | [] => 0
  | x :: r => uptoBulkEntry x + uptoBulkEntries r
def uptoBulkEntry {H : Type} : Lit × DataW H → Nat
  | (.string bytes, d) => bytes.length + uptoBulk d + 1
  | (_, d) => uptoBulk d + 1
 end
def uptoSmall : (H : Type) → List (DataW H) → Bool := fun _ ds => decide (uptoBulkAll ds ≤ 1048576)
def OpenSpec.upto (s : _root_.Go.ChangeSpec) : _root_.Go.OpenSpec := { _root_.Go.OpenSpec.ofChange s with cond := some uptoSmall }

/-- 'helmsmanlaw16.GtableMay', WHERE WHAT IT READS IS OF BULK AT MOST 1048576: true; the input reads as it did. -/
def gtableMayUptoRow : OpenClaim := { program := "ytapgcadffghljaadoor", sum := "c67a0bf856c2536cd0c4e1199ea8c433a1e455dd1381c98553cad9abf65c95b0", func := "helmsman/helmsmanlaw16.GtableMay", spec := "gtableMay", named := ["helmsman/gtable.names"], apart := false, laid := [("helmsman/gtable.names", laid_helmsman_gtable_names)], narrowed := true }
def GtableMayUptoSaid : Prop := gtableMayUptoRow.holds Tryd.pinned (OpenSpec.upto gtableMaySpec)

end Rows
end Go.Proofs.YtapgcadffghljaaDoor
