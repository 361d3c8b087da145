/-
  No cell of these rows narrows 'for every input' (looked for: loops, veiled, ifaces, maps, wideKeys, modest, calm, conditions, laid).
  DERIVED. THE GIVEN ROWS OF THIS SEAT. 4 by the template 'for every input the law returns true; each argument reads behind the call as it read before'; 0 by the template 'total and deterministic' (their statements: YtoddffpbbnicpaaTotals.lean).
  GIVEN WITH THE SEED: the statements are not yours to turn. If you find one false, say at which input.
  Laid BY PROGRAM, IN A SANDBOX (cutbox-rows.mjs): the forced cells as the released guide's own fill.sh prints them over the translation 1f319b31218027f9… (all of the seat's roots in one cut). By AI agents, Wed Nov 11 2026. No macro, syntax, notation, axiom, sorry.
-/
import Derived.Test.YtoddffpbbnicpaaChecked
import GoSem.Claim
import GoSem.ClaimJoined
import GoSem.ClaimMapViews
import Derived.JoinedTies
import Derived.KernelRfl
namespace Go.Proofs.Ytoddffpbbnicpaa
/- THE CELL 'sum', in the pinned program and in every row, IS THE sha256 OF THE DUMP (.gsa) THAT YtoddffpbbnicpaaProg.lean LOADS. Nothing in Lean hashes anything: it is a label: what it is worth is what the hold of that sum in a sandbox is worth. -/
noncomputable def Try.pinned : Pinned := { name := "ytoddffpbbnicpaa", sum := "1f319b31218027f92d200de50f915cfd72bf4f2a9a69f7838dd936de106c0c5c", checked := Try.checked }
namespace Rows
def none {H : Type} : Left H := { results := [], args := [] }

/-- 'helmsmanlaw05.RunqPlays': WHATEVER THE INPUT: true; the input reads as it did. -/
def runqPlaysSpec : ChangeSpec := { name := "runqPlays", fn := fun _ => fun
  | [d1, d2] => { results := [.lit (.bool true)], args := [d1, d2] }
  | _ => none }
def runqPlaysRow : OpenClaim := { program := "ytoddffpbbnicpaa", sum := "1f319b31218027f92d200de50f915cfd72bf4f2a9a69f7838dd936de106c0c5c", func := "helmsman/helmsmanlaw05.RunqPlays", spec := "runqPlays", unfollowed := true, recurses := true, apart := false }
def RunqPlaysSaid : Prop := runqPlaysRow.holds Try.pinned (OpenSpec.ofChange runqPlaysSpec)

/-- ITS FALSE NEIGHBOUR: 'it returns false'. Refute it at one input. -/
def runqPlaysWrong : ChangeSpec := { name := "runqPlays", fn := fun _ => fun
  | [d1, d2] => { results := [.lit (.bool false)], args := [d1, d2] }
  | _ => none }
def RunqPlaysWrongFalsely : Prop := runqPlaysRow.holds Try.pinned (OpenSpec.ofChange runqPlaysWrong)

/-- 'helmsmanlaw05.RunqOnce': WHATEVER THE INPUT: true; the input reads as it did. -/
def runqOnceSpec : ChangeSpec := { name := "runqOnce", fn := fun _ => fun
  | [d1, d2] => { results := [.lit (.bool true)], args := [d1, d2] }
  | _ => none }
def runqOnceRow : OpenClaim := { program := "ytoddffpbbnicpaa", sum := "1f319b31218027f92d200de50f915cfd72bf4f2a9a69f7838dd936de106c0c5c", func := "helmsman/helmsmanlaw05.RunqOnce", spec := "runqOnce", unfollowed := true, recurses := true, apart := false }
def RunqOnceSaid : Prop := runqOnceRow.holds Try.pinned (OpenSpec.ofChange runqOnceSpec)

/-- ITS FALSE NEIGHBOUR: 'it returns false'. Refute it at one input. -/
def runqOnceWrong : ChangeSpec := { name := "runqOnce", fn := fun _ => fun
  | [d1, d2] => { results := [.lit (.bool false)], args := [d1, d2] }
  | _ => none }
def RunqOnceWrongFalsely : Prop := runqOnceRow.holds Try.pinned (OpenSpec.ofChange runqOnceWrong)

/-- 'helmsmanlaw05.RunqSteals': WHATEVER THE INPUT: true; the input reads as it did. -/
def runqStealsSpec : ChangeSpec := { name := "runqSteals", fn := fun _ => fun
  | [d1, d2, d3, d4] => { results := [.lit (.bool true)], args := [d1, d2, d3, d4] }
  | _ => none }
def runqStealsRow : OpenClaim := { program := "ytoddffpbbnicpaa", sum := "1f319b31218027f92d200de50f915cfd72bf4f2a9a69f7838dd936de106c0c5c", func := "helmsman/helmsmanlaw05.RunqSteals", spec := "runqSteals", unfollowed := true, recurses := true, apart := false }
def RunqStealsSaid : Prop := runqStealsRow.holds Try.pinned (OpenSpec.ofChange runqStealsSpec)

/-- ITS FALSE NEIGHBOUR: 'it returns false'. Refute it at one input. -/
def runqStealsWrong : ChangeSpec := { name := "runqSteals", fn := fun _ => fun
  | [d1, d2, d3, d4] => { results := [.lit (.bool false)], args := [d1, d2, d3, d4] }
  | _ => none }
def RunqStealsWrongFalsely : Prop := runqStealsRow.holds Try.pinned (OpenSpec.ofChange runqStealsWrong)

/-- 'helmsmanlaw05.RunqCopies': WHATEVER THE INPUT: true; the input reads as it did. -/
def runqCopiesSpec : ChangeSpec := { name := "runqCopies", fn := fun _ => fun
  | [d1, d2, d3, d4] => { results := [.lit (.bool true)], args := [d1, d2, d3, d4] }
  | _ => none }
def runqCopiesRow : OpenClaim := { program := "ytoddffpbbnicpaa", sum := "1f319b31218027f92d200de50f915cfd72bf4f2a9a69f7838dd936de106c0c5c", func := "helmsman/helmsmanlaw05.RunqCopies", spec := "runqCopies", unfollowed := true, recurses := true, apart := false }
def RunqCopiesSaid : Prop := runqCopiesRow.holds Try.pinned (OpenSpec.ofChange runqCopiesSpec)

/-- ITS FALSE NEIGHBOUR: 'it returns false'. Refute it at one input. -/
def runqCopiesWrong : ChangeSpec := { name := "runqCopies", fn := fun _ => fun
  | [d1, d2, d3, d4] => { results := [.lit (.bool false)], args := [d1, d2, d3, d4] }
  | _ => none }
def RunqCopiesWrongFalsely : Prop := runqCopiesRow.holds Try.pinned (OpenSpec.ofChange runqCopiesWrong)

/- THE SECOND FORM. 'bulk': how many values and letters a reading holds, each counted each time it is reached (what is shared counts as often as it is met; a slice's spare places count too). A statement '..UptoSaid' is the law's where the arguments, and the package variables that the reading takes, are together of bulk at most 1048576: NARROWER than '..Said'. Prove '..Said' where nothing that the law and all that it calls make is longer than what came in: it says more and counts as full. Else prove '..UptoSaid'. A law counts once. -/
mutual
def uptoBulk {H : Type} : DataW H → Nat
  | .lit (.string bytes) => bytes.length + 1
  | .lit _ => 1
  | .nil => 1
  | .ptr d => uptoBulk d + 1
  | .slice elems spare => uptoBulkAll elems + uptoBulkAll spare + 1
  | .agg parts => uptoBulkAll parts + 1
  | .iface _ d => uptoBulk d + 1
  | .map entries => uptoBulkEntries entries + 1
  | .held _ => 1
def uptoBulkAll {H : Type} : List (DataW H) → Nat
  | [] => 0
  | d :: r => uptoBulk d + uptoBulkAll r
def uptoBulkEntries {H : Type} : List (Lit × DataW H) → Nat
  | [] => 0
  | x :: r => uptoBulkEntry x + uptoBulkEntries r
def uptoBulkEntry {H : Type} : Lit × DataW H → Nat
  | (.string bytes, d) => bytes.length + uptoBulk d + 1
  | (_, d) => uptoBulk d + 1
 end
def uptoSmall : (H : Type) → List (DataW H) → Bool := fun _ ds => decide (uptoBulkAll ds ≤ 1048576)
def OpenSpec.upto (s : _root_.Go.ChangeSpec) : _root_.Go.OpenSpec := { _root_.Go.OpenSpec.ofChange s with cond := some uptoSmall }

/-- 'helmsmanlaw05.RunqPlays', WHERE WHAT IT READS IS OF BULK AT MOST 1048576: true; the input reads as it did. -/
def runqPlaysUptoRow : OpenClaim := { program := "ytoddffpbbnicpaa", sum := "1f319b31218027f92d200de50f915cfd72bf4f2a9a69f7838dd936de106c0c5c", func := "helmsman/helmsmanlaw05.RunqPlays", spec := "runqPlays", unfollowed := true, recurses := true, apart := false, narrowed := true }
def RunqPlaysUptoSaid : Prop := runqPlaysUptoRow.holds Try.pinned (OpenSpec.upto runqPlaysSpec)

/-- 'helmsmanlaw05.RunqOnce', WHERE WHAT IT READS IS OF BULK AT MOST 1048576: true; the input reads as it did. -/
def runqOnceUptoRow : OpenClaim := { program := "ytoddffpbbnicpaa", sum := "1f319b31218027f92d200de50f915cfd72bf4f2a9a69f7838dd936de106c0c5c", func := "helmsman/helmsmanlaw05.RunqOnce", spec := "runqOnce", unfollowed := true, recurses := true, apart := false, narrowed := true }
def RunqOnceUptoSaid : Prop := runqOnceUptoRow.holds Try.pinned (OpenSpec.upto runqOnceSpec)

/-- 'helmsmanlaw05.RunqSteals', WHERE WHAT IT READS IS OF BULK AT MOST 1048576: true; the input reads as it did. -/
def runqStealsUptoRow : OpenClaim := { program := "ytoddffpbbnicpaa", sum := "1f319b31218027f92d200de50f915cfd72bf4f2a9a69f7838dd936de106c0c5c", func := "helmsman/helmsmanlaw05.RunqSteals", spec := "runqSteals", unfollowed := true, recurses := true, apart := false, narrowed := true }
def RunqStealsUptoSaid : Prop := runqStealsUptoRow.holds Try.pinned (OpenSpec.upto runqStealsSpec)

/-- 'helmsmanlaw05.RunqCopies', WHERE WHAT IT READS IS OF BULK AT MOST 1048576: true; the input reads as it did. -/
def runqCopiesUptoRow : OpenClaim := { program := "ytoddffpbbnicpaa", sum := "1f319b31218027f92d200de50f915cfd72bf4f2a9a69f7838dd936de106c0c5c", func := "helmsman/helmsmanlaw05.RunqCopies", spec := "runqCopies", unfollowed := true, recurses := true, apart := false, narrowed := true }
def RunqCopiesUptoSaid : Prop := runqCopiesUptoRow.holds Try.pinned (OpenSpec.upto runqCopiesSpec)

end Rows
end Go.Proofs.Ytoddffpbbnicpaa
