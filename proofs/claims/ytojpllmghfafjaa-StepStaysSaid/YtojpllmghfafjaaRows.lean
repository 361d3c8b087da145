/-
  No cell of these rows narrows 'for every input' (looked for: loops, veiled, ifaces, maps, wideKeys, modest, calm, conditions, laid).
  DERIVED. THE GIVEN ROWS OF THIS SEAT. 4 by the template 'for every input the law returns true; each argument reads behind the call as it read before'; 0 by the template 'total and deterministic' (their statements: YtojpllmghfafjaaTotals.lean).
  GIVEN WITH THE SEED: the statements are not yours to turn. If you find one false, say at which input.
  Laid BY PROGRAM, IN A SANDBOX (cutbox-rows.mjs): the forced cells as the released guide's own fill.sh prints them over the translation b02b975886e6fd73… (all of the seat's roots in one cut). By AI agents, Wed Nov 11 2026. No macro, syntax, notation, axiom, sorry.
-/
import Derived.Test.YtojpllmghfafjaaChecked
import GoSem.Claim
import GoSem.ClaimJoined
import GoSem.ClaimMapViews
import Derived.JoinedTies
import Derived.KernelRfl
namespace Go.Proofs.Ytojpllmghfafjaa
/- THE CELL 'sum', in the pinned program and in every row, IS THE sha256 OF THE DUMP (.gsa) THAT YtojpllmghfafjaaProg.lean LOADS. Nothing in Lean hashes anything: it is a label: what it is worth is what the hold of that sum in a sandbox is worth. -/
noncomputable def Try.pinned : Pinned := { name := "ytojpllmghfafjaa", sum := "b02b975886e6fd73ace64738e1ba2675b274b8711a083272fd0603546a8999d4", checked := Try.checked }
namespace Rows
def none {H : Type} : Left H := { results := [], args := [] }

/-- 'helmsmanlaw15.StepKeeps': WHATEVER THE INPUT: true; the input reads as it did. -/
def stepKeepsSpec : ChangeSpec := { name := "stepKeeps", fn := fun _ => fun
  | [d1, d2] => { results := [.lit (.bool true)], args := [d1, d2] }
  | _ => none }
def stepKeepsRow : OpenClaim := { program := "ytojpllmghfafjaa", sum := "b02b975886e6fd73ace64738e1ba2675b274b8711a083272fd0603546a8999d4", func := "helmsman/helmsmanlaw15.StepKeeps", spec := "stepKeeps", inPlace := ["math/bits.Add64"], unfollowed := true, recurses := true, apart := false }
def StepKeepsSaid : Prop := stepKeepsRow.holds Try.pinned (OpenSpec.ofChange stepKeepsSpec)

/-- ITS FALSE NEIGHBOUR: 'it returns false'. Refute it at one input. -/
def stepKeepsWrong : ChangeSpec := { name := "stepKeeps", fn := fun _ => fun
  | [d1, d2] => { results := [.lit (.bool false)], args := [d1, d2] }
  | _ => none }
def StepKeepsWrongFalsely : Prop := stepKeepsRow.holds Try.pinned (OpenSpec.ofChange stepKeepsWrong)

/-- 'helmsmanlaw15.StepStays': WHATEVER THE INPUT: true; the input reads as it did. -/
def stepStaysSpec : ChangeSpec := { name := "stepStays", fn := fun _ => fun
  | [d1, d2, d3] => { results := [.lit (.bool true)], args := [d1, d2, d3] }
  | _ => none }
def stepStaysRow : OpenClaim := { program := "ytojpllmghfafjaa", sum := "b02b975886e6fd73ace64738e1ba2675b274b8711a083272fd0603546a8999d4", func := "helmsman/helmsmanlaw15.StepStays", spec := "stepStays", inPlace := ["math/bits.Add64"], unfollowed := true, recurses := true, apart := false }
def StepStaysSaid : Prop := stepStaysRow.holds Try.pinned (OpenSpec.ofChange stepStaysSpec)

/-- ITS FALSE NEIGHBOUR: 'it returns false'. Refute it at one input. -/
def stepStaysWrong : ChangeSpec := { name := "stepStays", fn := fun _ => fun
  | [d1, d2, d3] => { results := [.lit (.bool false)], args := [d1, d2, d3] }
  | _ => none }
def StepStaysWrongFalsely : Prop := stepStaysRow.holds Try.pinned (OpenSpec.ofChange stepStaysWrong)

/-- 'helmsmanlaw15.StepCalls': WHATEVER THE INPUT: true; the input reads as it did. -/
def stepCallsSpec : ChangeSpec := { name := "stepCalls", fn := fun _ => fun
  | [d1, d2, d3] => { results := [.lit (.bool true)], args := [d1, d2, d3] }
  | _ => none }
def stepCallsRow : OpenClaim := { program := "ytojpllmghfafjaa", sum := "b02b975886e6fd73ace64738e1ba2675b274b8711a083272fd0603546a8999d4", func := "helmsman/helmsmanlaw15.StepCalls", spec := "stepCalls", inPlace := ["math/bits.Add64"], unfollowed := true, recurses := true, apart := false }
def StepCallsSaid : Prop := stepCallsRow.holds Try.pinned (OpenSpec.ofChange stepCallsSpec)

/-- ITS FALSE NEIGHBOUR: 'it returns false'. Refute it at one input. -/
def stepCallsWrong : ChangeSpec := { name := "stepCalls", fn := fun _ => fun
  | [d1, d2, d3] => { results := [.lit (.bool false)], args := [d1, d2, d3] }
  | _ => none }
def StepCallsWrongFalsely : Prop := stepCallsRow.holds Try.pinned (OpenSpec.ofChange stepCallsWrong)

/-- 'helmsmanlaw15.StepNil': WHATEVER THE INPUT: true; the input reads as it did. -/
def stepNilSpec : ChangeSpec := { name := "stepNil", fn := fun _ => fun
  | [] => { results := [.lit (.bool true)], args := [] }
  | _ => none }
def stepNilRow : OpenClaim := { program := "ytojpllmghfafjaa", sum := "b02b975886e6fd73ace64738e1ba2675b274b8711a083272fd0603546a8999d4", func := "helmsman/helmsmanlaw15.StepNil", spec := "stepNil", inPlace := ["math/bits.Add64"], unfollowed := true, recurses := true, apart := false }
def StepNilSaid : Prop := stepNilRow.holds Try.pinned (OpenSpec.ofChange stepNilSpec)

/-- ITS FALSE NEIGHBOUR: 'it returns false'. Refute it at one input. -/
def stepNilWrong : ChangeSpec := { name := "stepNil", fn := fun _ => fun
  | [] => { results := [.lit (.bool false)], args := [] }
  | _ => none }
def StepNilWrongFalsely : Prop := stepNilRow.holds Try.pinned (OpenSpec.ofChange stepNilWrong)

/- THE SECOND FORM. 'bulk': how many values and letters a reading holds, each counted each time it is reached (what is shared counts as often as it is met; a slice's spare places count too). A statement '..UptoSaid' is the law's where the arguments, and the package variables that the reading takes, are together of bulk at most 1048576: NARROWER than '..Said'. Prove '..Said' where nothing that the law and all that it calls make is longer than what came in: it says more and counts as full. Else prove '..UptoSaid'. A law counts once. -/
mutual
def uptoBulk {H : Type} : DataW H → Nat
  | .lit (.string bytes) => bytes.length + 1
  | .lit _ => 1
  | .nil => 1
  | .ptr d => uptoBulk d + 1
  | .slice elems spare => uptoBulkAll elems + uptoBulkAll spare + 1
  | .agg parts => uptoBulkAll parts + 1
  | .iface _ d => uptoBulk d + 1
  | .map entries => uptoBulkEntries entries + 1
  | .held _ => 1
def uptoBulkAll {H : Type} : List (DataW H) → Nat
  | [] => 0
  | d :: r => uptoBulk d + uptoBulkAll r
def uptoBulkEntries {H : Type} : List (Lit × DataW H) → Nat
  | [] => 0
  | x :: r => uptoBulkEntry x + uptoBulkEntries r
def uptoBulkEntry {H : Type} : Lit × DataW H → Nat
  | (.string bytes, d) => bytes.length + uptoBulk d + 1
  | (_, d) => uptoBulk d + 1
 end
def uptoSmall : (H : Type) → List (DataW H) → Bool := fun _ ds => decide (uptoBulkAll ds ≤ 1048576)
def OpenSpec.upto (s : _root_.Go.ChangeSpec) : _root_.Go.OpenSpec := { _root_.Go.OpenSpec.ofChange s with cond := some uptoSmall }

/-- 'helmsmanlaw15.StepKeeps', WHERE WHAT IT READS IS OF BULK AT MOST 1048576: true; the input reads as it did. -/
def stepKeepsUptoRow : OpenClaim := { program := "ytojpllmghfafjaa", sum := "b02b975886e6fd73ace64738e1ba2675b274b8711a083272fd0603546a8999d4", func := "helmsman/helmsmanlaw15.StepKeeps", spec := "stepKeeps", inPlace := ["math/bits.Add64"], unfollowed := true, recurses := true, apart := false, narrowed := true }
def StepKeepsUptoSaid : Prop := stepKeepsUptoRow.holds Try.pinned (OpenSpec.upto stepKeepsSpec)

/-- 'helmsmanlaw15.StepStays', WHERE WHAT IT READS IS OF BULK AT MOST 1048576: true; the input reads as it did. -/
def stepStaysUptoRow : OpenClaim := { program := "ytojpllmghfafjaa", sum := "b02b975886e6fd73ace64738e1ba2675b274b8711a083272fd0603546a8999d4", func := "helmsman/helmsmanlaw15.StepStays", spec := "stepStays", inPlace := ["math/bits.Add64"], unfollowed := true, recurses := true, apart := false, narrowed := true }
def StepStaysUptoSaid : Prop := stepStaysUptoRow.holds Try.pinned (OpenSpec.upto stepStaysSpec)

/-- 'helmsmanlaw15.StepCalls', WHERE WHAT IT READS IS OF BULK AT MOST 1048576: true; the input reads as it did. -/
def stepCallsUptoRow : OpenClaim := { program := "ytojpllmghfafjaa", sum := "b02b975886e6fd73ace64738e1ba2675b274b8711a083272fd0603546a8999d4", func := "helmsman/helmsmanlaw15.StepCalls", spec := "stepCalls", inPlace := ["math/bits.Add64"], unfollowed := true, recurses := true, apart := false, narrowed := true }
def StepCallsUptoSaid : Prop := stepCallsUptoRow.holds Try.pinned (OpenSpec.upto stepCallsSpec)

/-- 'helmsmanlaw15.StepNil', WHERE WHAT IT READS IS OF BULK AT MOST 1048576: true; the input reads as it did. -/
def stepNilUptoRow : OpenClaim := { program := "ytojpllmghfafjaa", sum := "b02b975886e6fd73ace64738e1ba2675b274b8711a083272fd0603546a8999d4", func := "helmsman/helmsmanlaw15.StepNil", spec := "stepNil", inPlace := ["math/bits.Add64"], unfollowed := true, recurses := true, apart := false, narrowed := true }
def StepNilUptoSaid : Prop := stepNilUptoRow.holds Try.pinned (OpenSpec.upto stepNilSpec)

end Rows
end Go.Proofs.Ytojpllmghfafjaa
