/-
  No cell of these rows narrows 'for every input' (looked for: loops, veiled, ifaces, maps, wideKeys, modest, calm, conditions, laid).
  DERIVED. THE GIVEN ROWS OF THIS SEAT. 4 by the template 'for every input the law returns true; each argument reads behind the call as it read before'; 0 by the template 'total and deterministic' (their statements: YtdinbalpfgobgaaTotals.lean).
  GIVEN WITH THE SEED: the statements are not yours to turn. If you find one false, say at which input.
  Laid BY PROGRAM, IN A SANDBOX (cutbox-rows.mjs): the forced cells as the released guide's own fill.sh prints them over the translation f70a507e39a96c5c… (all of the seat's roots in one cut). By AI agents, Wed Nov 11 2026. No macro, syntax, notation, axiom, sorry.
-/
import Derived.Test.YtdinbalpfgobgaaChecked
import GoSem.Claim
import GoSem.ClaimJoined
import GoSem.ClaimMapViews
import Derived.JoinedTies
import Derived.KernelRfl
namespace Go.Proofs.Ytdinbalpfgobgaa
/- THE CELL 'sum', in the pinned program and in every row, IS THE sha256 OF THE DUMP (.gsa) THAT YtdinbalpfgobgaaProg.lean LOADS. Nothing in Lean hashes anything: it is a label: what it is worth is what the hold of that sum in a sandbox is worth. -/
noncomputable def Try.pinned : Pinned := { name := "ytdinbalpfgobgaa", sum := "f70a507e39a96c5c8a6d64ff72efe8117e5e5112f575db5ce4d8cb2c9b7c7718", checked := Try.checked }
namespace Rows
def none {H : Type} : Left H := { results := [], args := [] }

/-- 'helmsmanlaw11.RightsNarrow': WHATEVER THE INPUT: true; the input reads as it did. -/
def rightsNarrowSpec : ChangeSpec := { name := "rightsNarrow", fn := fun _ => fun
  | [d1, d2] => { results := [.lit (.bool true)], args := [d1, d2] }
  | _ => none }
def rightsNarrowRow : OpenClaim := { program := "ytdinbalpfgobgaa", sum := "f70a507e39a96c5c8a6d64ff72efe8117e5e5112f575db5ce4d8cb2c9b7c7718", func := "helmsman/helmsmanlaw11.RightsNarrow", spec := "rightsNarrow", inPlace := ["internal/abi.NoEscape"], apart := false }
def RightsNarrowSaid : Prop := rightsNarrowRow.holds Try.pinned (OpenSpec.ofChange rightsNarrowSpec)

/-- ITS FALSE NEIGHBOUR: 'it returns false'. Refute it at one input. -/
def rightsNarrowWrong : ChangeSpec := { name := "rightsNarrow", fn := fun _ => fun
  | [d1, d2] => { results := [.lit (.bool false)], args := [d1, d2] }
  | _ => none }
def RightsNarrowWrongFalsely : Prop := rightsNarrowRow.holds Try.pinned (OpenSpec.ofChange rightsNarrowWrong)

/-- 'helmsmanlaw11.RightsMeets': WHATEVER THE INPUT: true; the input reads as it did. -/
def rightsMeetsSpec : ChangeSpec := { name := "rightsMeets", fn := fun _ => fun
  | [d1, d2, d3] => { results := [.lit (.bool true)], args := [d1, d2, d3] }
  | _ => none }
def rightsMeetsRow : OpenClaim := { program := "ytdinbalpfgobgaa", sum := "f70a507e39a96c5c8a6d64ff72efe8117e5e5112f575db5ce4d8cb2c9b7c7718", func := "helmsman/helmsmanlaw11.RightsMeets", spec := "rightsMeets", inPlace := ["internal/abi.NoEscape"], apart := false }
def RightsMeetsSaid : Prop := rightsMeetsRow.holds Try.pinned (OpenSpec.ofChange rightsMeetsSpec)

/-- ITS FALSE NEIGHBOUR: 'it returns false'. Refute it at one input. -/
def rightsMeetsWrong : ChangeSpec := { name := "rightsMeets", fn := fun _ => fun
  | [d1, d2, d3] => { results := [.lit (.bool false)], args := [d1, d2, d3] }
  | _ => none }
def RightsMeetsWrongFalsely : Prop := rightsMeetsRow.holds Try.pinned (OpenSpec.ofChange rightsMeetsWrong)

/-- 'helmsmanlaw11.RightsTexts': WHATEVER THE INPUT: true; the input reads as it did. -/
def rightsTextsSpec : ChangeSpec := { name := "rightsTexts", fn := fun _ => fun
  | [] => { results := [.lit (.bool true)], args := [] }
  | _ => none }
def rightsTextsRow : OpenClaim := { program := "ytdinbalpfgobgaa", sum := "f70a507e39a96c5c8a6d64ff72efe8117e5e5112f575db5ce4d8cb2c9b7c7718", func := "helmsman/helmsmanlaw11.RightsTexts", spec := "rightsTexts", inPlace := ["internal/abi.NoEscape"], apart := false }
def RightsTextsSaid : Prop := rightsTextsRow.holds Try.pinned (OpenSpec.ofChange rightsTextsSpec)

/-- ITS FALSE NEIGHBOUR: 'it returns false'. Refute it at one input. -/
def rightsTextsWrong : ChangeSpec := { name := "rightsTexts", fn := fun _ => fun
  | [] => { results := [.lit (.bool false)], args := [] }
  | _ => none }
def RightsTextsWrongFalsely : Prop := rightsTextsRow.holds Try.pinned (OpenSpec.ofChange rightsTextsWrong)

/-- 'helmsmanlaw11.RightsReads': WHATEVER THE INPUT: true; the input reads as it did. -/
def rightsReadsSpec : ChangeSpec := { name := "rightsReads", fn := fun _ => fun
  | [d] => { results := [.lit (.bool true)], args := [d] }
  | _ => none }
def rightsReadsRow : OpenClaim := { program := "ytdinbalpfgobgaa", sum := "f70a507e39a96c5c8a6d64ff72efe8117e5e5112f575db5ce4d8cb2c9b7c7718", func := "helmsman/helmsmanlaw11.RightsReads", spec := "rightsReads", inPlace := ["internal/abi.NoEscape"], apart := false }
def RightsReadsSaid : Prop := rightsReadsRow.holds Try.pinned (OpenSpec.ofChange rightsReadsSpec)

/-- ITS FALSE NEIGHBOUR: 'it returns false'. Refute it at one input. -/
def rightsReadsWrong : ChangeSpec := { name := "rightsReads", fn := fun _ => fun
  | [d] => { results := [.lit (.bool false)], args := [d] }
  | _ => none }
def RightsReadsWrongFalsely : Prop := rightsReadsRow.holds Try.pinned (OpenSpec.ofChange rightsReadsWrong)

/- THE SECOND FORM. 'bulk': how many values and letters a reading holds, each counted each time it is reached (what is shared counts as often as it is met; a slice's spare places count too). A statement '..UptoSaid' is the law's where the arguments, and the package variables that the reading takes, are together of bulk at most 1048576: NARROWER than '..Said'. Prove '..Said' where nothing that the law and all that it calls make is longer than what came in: it says more and counts as full. Else prove '..UptoSaid'. A law counts once. -/
mutual
def uptoBulk {H : Type} : DataW H → Nat
  | .lit (.string bytes) => bytes.length + 1
  | .lit _ => 1
  | .nil => 1
  | .ptr d => uptoBulk d + 1
  | .slice elems spare => uptoBulkAll elems + uptoBulkAll spare + 1
  | .agg parts => uptoBulkAll parts + 1
  | .iface _ d => uptoBulk d + 1
  | .map entries => uptoBulkEntries entries + 1
  | .held _ => 1
def uptoBulkAll {H : Type} : List (DataW H) → Nat
  | [] => 0
  | d :: r => uptoBulk d + uptoBulkAll r
def uptoBulkEntries {H : Type} : List (Lit × DataW H) → Nat
  | [] => 0
  | x :: r => uptoBulkEntry x + uptoBulkEntries r
def uptoBulkEntry {H : Type} : Lit × DataW H → Nat
  | (.string bytes, d) => bytes.length + uptoBulk d + 1
  | (_, d) => uptoBulk d + 1
 end
def uptoSmall : (H : Type) → List (DataW H) → Bool := fun _ ds => decide (uptoBulkAll ds ≤ 1048576)
def OpenSpec.upto (s : _root_.Go.ChangeSpec) : _root_.Go.OpenSpec := { _root_.Go.OpenSpec.ofChange s with cond := some uptoSmall }

/-- 'helmsmanlaw11.RightsNarrow', WHERE WHAT IT READS IS OF BULK AT MOST 1048576: true; the input reads as it did. -/
def rightsNarrowUptoRow : OpenClaim := { program := "ytdinbalpfgobgaa", sum := "f70a507e39a96c5c8a6d64ff72efe8117e5e5112f575db5ce4d8cb2c9b7c7718", func := "helmsman/helmsmanlaw11.RightsNarrow", spec := "rightsNarrow", inPlace := ["internal/abi.NoEscape"], apart := false, narrowed := true }
def RightsNarrowUptoSaid : Prop := rightsNarrowUptoRow.holds Try.pinned (OpenSpec.upto rightsNarrowSpec)

/-- 'helmsmanlaw11.RightsMeets', WHERE WHAT IT READS IS OF BULK AT MOST 1048576: true; the input reads as it did. -/
def rightsMeetsUptoRow : OpenClaim := { program := "ytdinbalpfgobgaa", sum := "f70a507e39a96c5c8a6d64ff72efe8117e5e5112f575db5ce4d8cb2c9b7c7718", func := "helmsman/helmsmanlaw11.RightsMeets", spec := "rightsMeets", inPlace := ["internal/abi.NoEscape"], apart := false, narrowed := true }
def RightsMeetsUptoSaid : Prop := rightsMeetsUptoRow.holds Try.pinned (OpenSpec.upto rightsMeetsSpec)

/-- 'helmsmanlaw11.RightsTexts', WHERE WHAT IT READS IS OF BULK AT MOST 1048576: true; the input reads as it did. -/
def rightsTextsUptoRow : OpenClaim := { program := "ytdinbalpfgobgaa", sum := "f70a507e39a96c5c8a6d64ff72efe8117e5e5112f575db5ce4d8cb2c9b7c7718", func := "helmsman/helmsmanlaw11.RightsTexts", spec := "rightsTexts", inPlace := ["internal/abi.NoEscape"], apart := false, narrowed := true }
def RightsTextsUptoSaid : Prop := rightsTextsUptoRow.holds Try.pinned (OpenSpec.upto rightsTextsSpec)

/-- 'helmsmanlaw11.RightsReads', WHERE WHAT IT READS IS OF BULK AT MOST 1048576: true; the input reads as it did. -/
def rightsReadsUptoRow : OpenClaim := { program := "ytdinbalpfgobgaa", sum := "f70a507e39a96c5c8a6d64ff72efe8117e5e5112f575db5ce4d8cb2c9b7c7718", func := "helmsman/helmsmanlaw11.RightsReads", spec := "rightsReads", inPlace := ["internal/abi.NoEscape"], apart := false, narrowed := true }
def RightsReadsUptoSaid : Prop := rightsReadsUptoRow.holds Try.pinned (OpenSpec.upto rightsReadsSpec)

end Rows
end Go.Proofs.Ytdinbalpfgobgaa
