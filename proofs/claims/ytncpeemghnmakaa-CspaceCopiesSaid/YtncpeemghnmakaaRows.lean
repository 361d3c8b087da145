/-
  No cell of these rows narrows 'for every input' (looked for: loops, veiled, ifaces, maps, wideKeys, modest, calm, conditions, laid).
  DERIVED. THE GIVEN ROWS OF THIS SEAT. 6 by the template 'for every input the law returns true; each argument reads behind the call as it read before'; 0 by the template 'total and deterministic' (their statements: YtncpeemghnmakaaTotals.lean).
  GIVEN WITH THE SEED: the statements are not yours to turn. If you find one false, say at which input.
  Laid BY PROGRAM, IN A SANDBOX (cutbox-rows.mjs): the forced cells as the released guide's own fill.sh prints them over the translation 7f13d3bcc0b449d1… (all of the seat's roots in one cut). By AI agents, Wed Nov 11 2026. No macro, syntax, notation, axiom, sorry.
-/
import Derived.Test.YtncpeemghnmakaaChecked
import GoSem.Claim
import GoSem.ClaimJoined
import GoSem.ClaimMapViews
import Derived.JoinedTies
import Derived.KernelRfl
namespace Go.Proofs.Ytncpeemghnmakaa
/- THE CELL 'sum', in the pinned program and in every row, IS THE sha256 OF THE DUMP (.gsa) THAT YtncpeemghnmakaaProg.lean LOADS. Nothing in Lean hashes anything: it is a label: what it is worth is what the hold of that sum in a sandbox is worth. -/
noncomputable def Try.pinned : Pinned := { name := "ytncpeemghnmakaa", sum := "7f13d3bcc0b449d1102384a59986243e0c0bcea8fb56ce50c36c763c823348b9", checked := Try.checked }
namespace Rows
def none {H : Type} : Left H := { results := [], args := [] }

/-- 'helmsmanlaw13.CspacePlays': WHATEVER THE INPUT: true; the input reads as it did. -/
def cspacePlaysSpec : ChangeSpec := { name := "cspacePlays", fn := fun _ => fun
  | [d1, d2, d3, d4] => { results := [.lit (.bool true)], args := [d1, d2, d3, d4] }
  | _ => none }
def cspacePlaysRow : OpenClaim := { program := "ytncpeemghnmakaa", sum := "7f13d3bcc0b449d1102384a59986243e0c0bcea8fb56ce50c36c763c823348b9", func := "helmsman/helmsmanlaw13.CspacePlays", spec := "cspacePlays", inPlace := ["maps.clone"], unfollowed := true, recurses := true, plainKeys := false, apart := false }
def CspacePlaysSaid : Prop := cspacePlaysRow.holds Try.pinned (OpenSpec.ofChange cspacePlaysSpec)

/-- ITS FALSE NEIGHBOUR: 'it returns false'. Refute it at one input. -/
def cspacePlaysWrong : ChangeSpec := { name := "cspacePlays", fn := fun _ => fun
  | [d1, d2, d3, d4] => { results := [.lit (.bool false)], args := [d1, d2, d3, d4] }
  | _ => none }
def CspacePlaysWrongFalsely : Prop := cspacePlaysRow.holds Try.pinned (OpenSpec.ofChange cspacePlaysWrong)

/-- 'helmsmanlaw13.CspaceNarrows': WHATEVER THE INPUT: true; the input reads as it did. -/
def cspaceNarrowsSpec : ChangeSpec := { name := "cspaceNarrows", fn := fun _ => fun
  | [d1, d2, d3, d4] => { results := [.lit (.bool true)], args := [d1, d2, d3, d4] }
  | _ => none }
def cspaceNarrowsRow : OpenClaim := { program := "ytncpeemghnmakaa", sum := "7f13d3bcc0b449d1102384a59986243e0c0bcea8fb56ce50c36c763c823348b9", func := "helmsman/helmsmanlaw13.CspaceNarrows", spec := "cspaceNarrows", inPlace := ["maps.clone"], unfollowed := true, recurses := true, plainKeys := false, apart := false }
def CspaceNarrowsSaid : Prop := cspaceNarrowsRow.holds Try.pinned (OpenSpec.ofChange cspaceNarrowsSpec)

/-- ITS FALSE NEIGHBOUR: 'it returns false'. Refute it at one input. -/
def cspaceNarrowsWrong : ChangeSpec := { name := "cspaceNarrows", fn := fun _ => fun
  | [d1, d2, d3, d4] => { results := [.lit (.bool false)], args := [d1, d2, d3, d4] }
  | _ => none }
def CspaceNarrowsWrongFalsely : Prop := cspaceNarrowsRow.holds Try.pinned (OpenSpec.ofChange cspaceNarrowsWrong)

/-- 'helmsmanlaw13.CspaceRevokes': WHATEVER THE INPUT: true; the input reads as it did. -/
def cspaceRevokesSpec : ChangeSpec := { name := "cspaceRevokes", fn := fun _ => fun
  | [d1, d2, d3, d4, d5, d6] => { results := [.lit (.bool true)], args := [d1, d2, d3, d4, d5, d6] }
  | _ => none }
def cspaceRevokesRow : OpenClaim := { program := "ytncpeemghnmakaa", sum := "7f13d3bcc0b449d1102384a59986243e0c0bcea8fb56ce50c36c763c823348b9", func := "helmsman/helmsmanlaw13.CspaceRevokes", spec := "cspaceRevokes", inPlace := ["maps.clone"], unfollowed := true, recurses := true, plainKeys := false, apart := false }
def CspaceRevokesSaid : Prop := cspaceRevokesRow.holds Try.pinned (OpenSpec.ofChange cspaceRevokesSpec)

/-- ITS FALSE NEIGHBOUR: 'it returns false'. Refute it at one input. -/
def cspaceRevokesWrong : ChangeSpec := { name := "cspaceRevokes", fn := fun _ => fun
  | [d1, d2, d3, d4, d5, d6] => { results := [.lit (.bool false)], args := [d1, d2, d3, d4, d5, d6] }
  | _ => none }
def CspaceRevokesWrongFalsely : Prop := cspaceRevokesRow.holds Try.pinned (OpenSpec.ofChange cspaceRevokesWrong)

/-- 'helmsmanlaw13.CspaceMoves': WHATEVER THE INPUT: true; the input reads as it did. -/
def cspaceMovesSpec : ChangeSpec := { name := "cspaceMoves", fn := fun _ => fun
  | [d1, d2, d3, d4, d5, d6, d7] => { results := [.lit (.bool true)], args := [d1, d2, d3, d4, d5, d6, d7] }
  | _ => none }
def cspaceMovesRow : OpenClaim := { program := "ytncpeemghnmakaa", sum := "7f13d3bcc0b449d1102384a59986243e0c0bcea8fb56ce50c36c763c823348b9", func := "helmsman/helmsmanlaw13.CspaceMoves", spec := "cspaceMoves", inPlace := ["maps.clone"], unfollowed := true, recurses := true, plainKeys := false, apart := false }
def CspaceMovesSaid : Prop := cspaceMovesRow.holds Try.pinned (OpenSpec.ofChange cspaceMovesSpec)

/-- ITS FALSE NEIGHBOUR: 'it returns false'. Refute it at one input. -/
def cspaceMovesWrong : ChangeSpec := { name := "cspaceMoves", fn := fun _ => fun
  | [d1, d2, d3, d4, d5, d6, d7] => { results := [.lit (.bool false)], args := [d1, d2, d3, d4, d5, d6, d7] }
  | _ => none }
def CspaceMovesWrongFalsely : Prop := cspaceMovesRow.holds Try.pinned (OpenSpec.ofChange cspaceMovesWrong)

/-- 'helmsmanlaw13.CspaceCopies': WHATEVER THE INPUT: true; the input reads as it did. -/
def cspaceCopiesSpec : ChangeSpec := { name := "cspaceCopies", fn := fun _ => fun
  | [d1, d2, d3, d4, d5, d6] => { results := [.lit (.bool true)], args := [d1, d2, d3, d4, d5, d6] }
  | _ => none }
def cspaceCopiesRow : OpenClaim := { program := "ytncpeemghnmakaa", sum := "7f13d3bcc0b449d1102384a59986243e0c0bcea8fb56ce50c36c763c823348b9", func := "helmsman/helmsmanlaw13.CspaceCopies", spec := "cspaceCopies", inPlace := ["maps.clone"], unfollowed := true, recurses := true, plainKeys := false, apart := false }
def CspaceCopiesSaid : Prop := cspaceCopiesRow.holds Try.pinned (OpenSpec.ofChange cspaceCopiesSpec)

/-- ITS FALSE NEIGHBOUR: 'it returns false'. Refute it at one input. -/
def cspaceCopiesWrong : ChangeSpec := { name := "cspaceCopies", fn := fun _ => fun
  | [d1, d2, d3, d4, d5, d6] => { results := [.lit (.bool false)], args := [d1, d2, d3, d4, d5, d6] }
  | _ => none }
def CspaceCopiesWrongFalsely : Prop := cspaceCopiesRow.holds Try.pinned (OpenSpec.ofChange cspaceCopiesWrong)

/-- 'helmsmanlaw13.CspaceNil': WHATEVER THE INPUT: true; the input reads as it did. -/
def cspaceNilSpec : ChangeSpec := { name := "cspaceNil", fn := fun _ => fun
  | [] => { results := [.lit (.bool true)], args := [] }
  | _ => none }
def cspaceNilRow : OpenClaim := { program := "ytncpeemghnmakaa", sum := "7f13d3bcc0b449d1102384a59986243e0c0bcea8fb56ce50c36c763c823348b9", func := "helmsman/helmsmanlaw13.CspaceNil", spec := "cspaceNil", inPlace := ["maps.clone"], unfollowed := true, recurses := true, plainKeys := false, apart := false }
def CspaceNilSaid : Prop := cspaceNilRow.holds Try.pinned (OpenSpec.ofChange cspaceNilSpec)

/-- ITS FALSE NEIGHBOUR: 'it returns false'. Refute it at one input. -/
def cspaceNilWrong : ChangeSpec := { name := "cspaceNil", fn := fun _ => fun
  | [] => { results := [.lit (.bool false)], args := [] }
  | _ => none }
def CspaceNilWrongFalsely : Prop := cspaceNilRow.holds Try.pinned (OpenSpec.ofChange cspaceNilWrong)

/- THE SECOND FORM. 'bulk': how many values and letters a reading holds, each counted each time it is reached (what is shared counts as often as it is met; a slice's spare places count too). A statement '..UptoSaid' is the law's where the arguments, and the package variables that the reading takes, are together of bulk at most 1048576: NARROWER than '..Said'. Prove '..Said' where nothing that the law and all that it calls make is longer than what came in: it says more and counts as full. Else prove '..UptoSaid'. A law counts once. -/
mutual
def uptoBulk {H : Type} : DataW H → Nat
  | .lit (.string bytes) => bytes.length + 1
  | .lit _ => 1
  | .nil => 1
  | .ptr d => uptoBulk d + 1
  | .slice elems spare => uptoBulkAll elems + uptoBulkAll spare + 1
  | .agg parts => uptoBulkAll parts + 1
  | .iface _ d => uptoBulk d + 1
  | .map entries => uptoBulkEntries entries + 1
  | .held _ => 1
def uptoBulkAll {H : Type} : List (DataW H) → Nat
  | [] => 0
  | d :: r => uptoBulk d + uptoBulkAll r
def uptoBulkEntries {H : Type} : List (Lit × DataW H) → Nat
  | [] => 0
  | x :: r => uptoBulkEntry x + uptoBulkEntries r
def uptoBulkEntry {H : Type} : Lit × DataW H → Nat
  | (.string bytes, d) => bytes.length + uptoBulk d + 1
  | (_, d) => uptoBulk d + 1
 end
def uptoSmall : (H : Type) → List (DataW H) → Bool := fun _ ds => decide (uptoBulkAll ds ≤ 1048576)
def OpenSpec.upto (s : _root_.Go.ChangeSpec) : _root_.Go.OpenSpec := { _root_.Go.OpenSpec.ofChange s with cond := some uptoSmall }

/-- 'helmsmanlaw13.CspacePlays', WHERE WHAT IT READS IS OF BULK AT MOST 1048576: true; the input reads as it did. -/
def cspacePlaysUptoRow : OpenClaim := { program := "ytncpeemghnmakaa", sum := "7f13d3bcc0b449d1102384a59986243e0c0bcea8fb56ce50c36c763c823348b9", func := "helmsman/helmsmanlaw13.CspacePlays", spec := "cspacePlays", inPlace := ["maps.clone"], unfollowed := true, recurses := true, plainKeys := false, apart := false, narrowed := true }
def CspacePlaysUptoSaid : Prop := cspacePlaysUptoRow.holds Try.pinned (OpenSpec.upto cspacePlaysSpec)

/-- 'helmsmanlaw13.CspaceNarrows', WHERE WHAT IT READS IS OF BULK AT MOST 1048576: true; the input reads as it did. -/
def cspaceNarrowsUptoRow : OpenClaim := { program := "ytncpeemghnmakaa", sum := "7f13d3bcc0b449d1102384a59986243e0c0bcea8fb56ce50c36c763c823348b9", func := "helmsman/helmsmanlaw13.CspaceNarrows", spec := "cspaceNarrows", inPlace := ["maps.clone"], unfollowed := true, recurses := true, plainKeys := false, apart := false, narrowed := true }
def CspaceNarrowsUptoSaid : Prop := cspaceNarrowsUptoRow.holds Try.pinned (OpenSpec.upto cspaceNarrowsSpec)

/-- 'helmsmanlaw13.CspaceRevokes', WHERE WHAT IT READS IS OF BULK AT MOST 1048576: true; the input reads as it did. -/
def cspaceRevokesUptoRow : OpenClaim := { program := "ytncpeemghnmakaa", sum := "7f13d3bcc0b449d1102384a59986243e0c0bcea8fb56ce50c36c763c823348b9", func := "helmsman/helmsmanlaw13.CspaceRevokes", spec := "cspaceRevokes", inPlace := ["maps.clone"], unfollowed := true, recurses := true, plainKeys := false, apart := false, narrowed := true }
def CspaceRevokesUptoSaid : Prop := cspaceRevokesUptoRow.holds Try.pinned (OpenSpec.upto cspaceRevokesSpec)

/-- 'helmsmanlaw13.CspaceMoves', WHERE WHAT IT READS IS OF BULK AT MOST 1048576: true; the input reads as it did. -/
def cspaceMovesUptoRow : OpenClaim := { program := "ytncpeemghnmakaa", sum := "7f13d3bcc0b449d1102384a59986243e0c0bcea8fb56ce50c36c763c823348b9", func := "helmsman/helmsmanlaw13.CspaceMoves", spec := "cspaceMoves", inPlace := ["maps.clone"], unfollowed := true, recurses := true, plainKeys := false, apart := false, narrowed := true }
def CspaceMovesUptoSaid : Prop := cspaceMovesUptoRow.holds Try.pinned (OpenSpec.upto cspaceMovesSpec)

/-- 'helmsmanlaw13.CspaceCopies', WHERE WHAT IT READS IS OF BULK AT MOST 1048576: true; the input reads as it did. -/
def cspaceCopiesUptoRow : OpenClaim := { program := "ytncpeemghnmakaa", sum := "7f13d3bcc0b449d1102384a59986243e0c0bcea8fb56ce50c36c763c823348b9", func := "helmsman/helmsmanlaw13.CspaceCopies", spec := "cspaceCopies", inPlace := ["maps.clone"], unfollowed := true, recurses := true, plainKeys := false, apart := false, narrowed := true }
def CspaceCopiesUptoSaid : Prop := cspaceCopiesUptoRow.holds Try.pinned (OpenSpec.upto cspaceCopiesSpec)

/-- 'helmsmanlaw13.CspaceNil', WHERE WHAT IT READS IS OF BULK AT MOST 1048576: true; the input reads as it did. -/
def cspaceNilUptoRow : OpenClaim := { program := "ytncpeemghnmakaa", sum := "7f13d3bcc0b449d1102384a59986243e0c0bcea8fb56ce50c36c763c823348b9", func := "helmsman/helmsmanlaw13.CspaceNil", spec := "cspaceNil", inPlace := ["maps.clone"], unfollowed := true, recurses := true, plainKeys := false, apart := false, narrowed := true }
def CspaceNilUptoSaid : Prop := cspaceNilUptoRow.holds Try.pinned (OpenSpec.upto cspaceNilSpec)

end Rows
end Go.Proofs.Ytncpeemghnmakaa
