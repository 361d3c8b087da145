/-
  No cell of these rows narrows 'for every input' (looked for: loops, veiled, ifaces, maps, wideKeys, modest, calm, conditions, laid).
  DERIVED. THE GIVEN ROWS OF THIS SEAT. 5 by the template 'for every input the law returns true; each argument reads behind the call as it read before'; 0 by the template 'total and deterministic' (their statements: YtapgcadffghljaaTotals.lean).
  GIVEN WITH THE SEED: the statements are not yours to turn. If you find one false, say at which input.
  Laid BY PROGRAM, IN A SANDBOX (cutbox-rows.mjs): the forced cells as the released guide's own fill.sh prints them over the translation 358f00e6002a5960… (all of the seat's roots in one cut). By AI agents, Wed Nov 11 2026. No macro, syntax, notation, axiom, sorry.
-/
import Derived.Test.YtapgcadffghljaaChecked
import GoSem.Claim
import GoSem.ClaimJoined
import GoSem.ClaimMapViews
import Derived.JoinedTies
import Derived.KernelRfl
namespace Go.Proofs.Ytapgcadffghljaa
/- THE CELL 'sum', in the pinned program and in every row, IS THE sha256 OF THE DUMP (.gsa) THAT YtapgcadffghljaaProg.lean LOADS. Nothing in Lean hashes anything: it is a label: what it is worth is what the hold of that sum in a sandbox is worth. -/
noncomputable def Try.pinned : Pinned := { name := "ytapgcadffghljaa", sum := "358f00e6002a59603b4bd60baf48668df99974e5daac048ff304f1e7482d26b1", checked := Try.checked }
namespace Rows
def none {H : Type} : Left H := { results := [], args := [] }

/-- 'helmsmanlaw16.GtablePlays': WHATEVER THE INPUT: true; the input reads as it did. -/
def gtablePlaysSpec : ChangeSpec := { name := "gtablePlays", fn := fun _ => fun
  | [d1, d2] => { results := [.lit (.bool true)], args := [d1, d2] }
  | _ => none }
def gtablePlaysRow : OpenClaim := { program := "ytapgcadffghljaa", sum := "358f00e6002a59603b4bd60baf48668df99974e5daac048ff304f1e7482d26b1", func := "helmsman/helmsmanlaw16.GtablePlays", spec := "gtablePlays", unfollowed := true, recurses := true, apart := false }
def GtablePlaysSaid : Prop := gtablePlaysRow.holds Try.pinned (OpenSpec.ofChange gtablePlaysSpec)

/-- ITS FALSE NEIGHBOUR: 'it returns false'. Refute it at one input. -/
def gtablePlaysWrong : ChangeSpec := { name := "gtablePlays", fn := fun _ => fun
  | [d1, d2] => { results := [.lit (.bool false)], args := [d1, d2] }
  | _ => none }
def GtablePlaysWrongFalsely : Prop := gtablePlaysRow.holds Try.pinned (OpenSpec.ofChange gtablePlaysWrong)

/-- 'helmsmanlaw16.GtableFine': WHATEVER THE INPUT: true; the input reads as it did. -/
def gtableFineSpec : ChangeSpec := { name := "gtableFine", fn := fun _ => fun
  | [d1, d2] => { results := [.lit (.bool true)], args := [d1, d2] }
  | _ => none }
def gtableFineRow : OpenClaim := { program := "ytapgcadffghljaa", sum := "358f00e6002a59603b4bd60baf48668df99974e5daac048ff304f1e7482d26b1", func := "helmsman/helmsmanlaw16.GtableFine", spec := "gtableFine", unfollowed := true, recurses := true, apart := false }
def GtableFineSaid : Prop := gtableFineRow.holds Try.pinned (OpenSpec.ofChange gtableFineSpec)

/-- ITS FALSE NEIGHBOUR: 'it returns false'. Refute it at one input. -/
def gtableFineWrong : ChangeSpec := { name := "gtableFine", fn := fun _ => fun
  | [d1, d2] => { results := [.lit (.bool false)], args := [d1, d2] }
  | _ => none }
def GtableFineWrongFalsely : Prop := gtableFineRow.holds Try.pinned (OpenSpec.ofChange gtableFineWrong)

/-- 'helmsmanlaw16.GtableStale': WHATEVER THE INPUT: true; the input reads as it did. -/
def gtableStaleSpec : ChangeSpec := { name := "gtableStale", fn := fun _ => fun
  | [d1, d2, d3] => { results := [.lit (.bool true)], args := [d1, d2, d3] }
  | _ => none }
def gtableStaleRow : OpenClaim := { program := "ytapgcadffghljaa", sum := "358f00e6002a59603b4bd60baf48668df99974e5daac048ff304f1e7482d26b1", func := "helmsman/helmsmanlaw16.GtableStale", spec := "gtableStale", unfollowed := true, recurses := true, apart := false }
def GtableStaleSaid : Prop := gtableStaleRow.holds Try.pinned (OpenSpec.ofChange gtableStaleSpec)

/-- ITS FALSE NEIGHBOUR: 'it returns false'. Refute it at one input. -/
def gtableStaleWrong : ChangeSpec := { name := "gtableStale", fn := fun _ => fun
  | [d1, d2, d3] => { results := [.lit (.bool false)], args := [d1, d2, d3] }
  | _ => none }
def GtableStaleWrongFalsely : Prop := gtableStaleRow.holds Try.pinned (OpenSpec.ofChange gtableStaleWrong)

/-- 'helmsmanlaw16.GtableCopies': WHATEVER THE INPUT: true; the input reads as it did. -/
def gtableCopiesSpec : ChangeSpec := { name := "gtableCopies", fn := fun _ => fun
  | [d1, d2, d3, d4] => { results := [.lit (.bool true)], args := [d1, d2, d3, d4] }
  | _ => none }
def gtableCopiesRow : OpenClaim := { program := "ytapgcadffghljaa", sum := "358f00e6002a59603b4bd60baf48668df99974e5daac048ff304f1e7482d26b1", func := "helmsman/helmsmanlaw16.GtableCopies", spec := "gtableCopies", unfollowed := true, recurses := true, apart := false }
def GtableCopiesSaid : Prop := gtableCopiesRow.holds Try.pinned (OpenSpec.ofChange gtableCopiesSpec)

/-- ITS FALSE NEIGHBOUR: 'it returns false'. Refute it at one input. -/
def gtableCopiesWrong : ChangeSpec := { name := "gtableCopies", fn := fun _ => fun
  | [d1, d2, d3, d4] => { results := [.lit (.bool false)], args := [d1, d2, d3, d4] }
  | _ => none }
def GtableCopiesWrongFalsely : Prop := gtableCopiesRow.holds Try.pinned (OpenSpec.ofChange gtableCopiesWrong)

/-- 'helmsmanlaw16.GtableNil': WHATEVER THE INPUT: true; the input reads as it did. -/
def gtableNilSpec : ChangeSpec := { name := "gtableNil", fn := fun _ => fun
  | [] => { results := [.lit (.bool true)], args := [] }
  | _ => none }
def gtableNilRow : OpenClaim := { program := "ytapgcadffghljaa", sum := "358f00e6002a59603b4bd60baf48668df99974e5daac048ff304f1e7482d26b1", func := "helmsman/helmsmanlaw16.GtableNil", spec := "gtableNil", unfollowed := true, recurses := true, apart := false }
def GtableNilSaid : Prop := gtableNilRow.holds Try.pinned (OpenSpec.ofChange gtableNilSpec)

/-- ITS FALSE NEIGHBOUR: 'it returns false'. Refute it at one input. -/
def gtableNilWrong : ChangeSpec := { name := "gtableNil", fn := fun _ => fun
  | [] => { results := [.lit (.bool false)], args := [] }
  | _ => none }
def GtableNilWrongFalsely : Prop := gtableNilRow.holds Try.pinned (OpenSpec.ofChange gtableNilWrong)

/- THE SECOND FORM. 'bulk': how many values and letters a reading holds, each counted each time it is reached (what is shared counts as often as it is met; a slice's spare places count too). A statement '..UptoSaid' is the law's where the arguments, and the package variables that the reading takes, are together of bulk at most 1048576: NARROWER than '..Said'. Prove '..Said' where nothing that the law and all that it calls make is longer than what came in: it says more and counts as full. Else prove '..UptoSaid'. A law counts once. -/
mutual
def uptoBulk {H : Type} : DataW H → Nat
  | .lit (.string bytes) => bytes.length + 1
  | .lit _ => 1
  | .nil => 1
  | .ptr d => uptoBulk d + 1
  | .slice elems spare => uptoBulkAll elems + uptoBulkAll spare + 1
  | .agg parts => uptoBulkAll parts + 1
  | .iface _ d => uptoBulk d + 1
  | .map entries => uptoBulkEntries entries + 1
  | .held _ => 1
def uptoBulkAll {H : Type} : List (DataW H) → Nat
  | [] => 0
  | d :: r => uptoBulk d + uptoBulkAll r
def uptoBulkEntries {H : Type} : List (Lit × DataW H) → Nat
  | [] => 0
  | x :: r => uptoBulkEntry x + uptoBulkEntries r
def uptoBulkEntry {H : Type} : Lit × DataW H → Nat
  | (.string bytes, d) => bytes.length + uptoBulk d + 1
  | (_, d) => uptoBulk d + 1
 end
def uptoSmall : (H : Type) → List (DataW H) → Bool := fun _ ds => decide (uptoBulkAll ds ≤ 1048576)
def OpenSpec.upto (s : _root_.Go.ChangeSpec) : _root_.Go.OpenSpec := { _root_.Go.OpenSpec.ofChange s with cond := some uptoSmall }

/-- 'helmsmanlaw16.GtablePlays', WHERE WHAT IT READS IS OF BULK AT MOST 1048576: true; the input reads as it did. -/
def gtablePlaysUptoRow : OpenClaim := { program := "ytapgcadffghljaa", sum := "358f00e6002a59603b4bd60baf48668df99974e5daac048ff304f1e7482d26b1", func := "helmsman/helmsmanlaw16.GtablePlays", spec := "gtablePlays", unfollowed := true, recurses := true, apart := false, narrowed := true }
def GtablePlaysUptoSaid : Prop := gtablePlaysUptoRow.holds Try.pinned (OpenSpec.upto gtablePlaysSpec)

/-- 'helmsmanlaw16.GtableFine', WHERE WHAT IT READS IS OF BULK AT MOST 1048576: true; the input reads as it did. -/
def gtableFineUptoRow : OpenClaim := { program := "ytapgcadffghljaa", sum := "358f00e6002a59603b4bd60baf48668df99974e5daac048ff304f1e7482d26b1", func := "helmsman/helmsmanlaw16.GtableFine", spec := "gtableFine", unfollowed := true, recurses := true, apart := false, narrowed := true }
def GtableFineUptoSaid : Prop := gtableFineUptoRow.holds Try.pinned (OpenSpec.upto gtableFineSpec)

/-- 'helmsmanlaw16.GtableStale', WHERE WHAT IT READS IS OF BULK AT MOST 1048576: true; the input reads as it did. -/
def gtableStaleUptoRow : OpenClaim := { program := "ytapgcadffghljaa", sum := "358f00e6002a59603b4bd60baf48668df99974e5daac048ff304f1e7482d26b1", func := "helmsman/helmsmanlaw16.GtableStale", spec := "gtableStale", unfollowed := true, recurses := true, apart := false, narrowed := true }
def GtableStaleUptoSaid : Prop := gtableStaleUptoRow.holds Try.pinned (OpenSpec.upto gtableStaleSpec)

/-- 'helmsmanlaw16.GtableCopies', WHERE WHAT IT READS IS OF BULK AT MOST 1048576: true; the input reads as it did. -/
def gtableCopiesUptoRow : OpenClaim := { program := "ytapgcadffghljaa", sum := "358f00e6002a59603b4bd60baf48668df99974e5daac048ff304f1e7482d26b1", func := "helmsman/helmsmanlaw16.GtableCopies", spec := "gtableCopies", unfollowed := true, recurses := true, apart := false, narrowed := true }
def GtableCopiesUptoSaid : Prop := gtableCopiesUptoRow.holds Try.pinned (OpenSpec.upto gtableCopiesSpec)

/-- 'helmsmanlaw16.GtableNil', WHERE WHAT IT READS IS OF BULK AT MOST 1048576: true; the input reads as it did. -/
def gtableNilUptoRow : OpenClaim := { program := "ytapgcadffghljaa", sum := "358f00e6002a59603b4bd60baf48668df99974e5daac048ff304f1e7482d26b1", func := "helmsman/helmsmanlaw16.GtableNil", spec := "gtableNil", unfollowed := true, recurses := true, apart := false, narrowed := true }
def GtableNilUptoSaid : Prop := gtableNilUptoRow.holds Try.pinned (OpenSpec.upto gtableNilSpec)

end Rows
end Go.Proofs.Ytapgcadffghljaa
