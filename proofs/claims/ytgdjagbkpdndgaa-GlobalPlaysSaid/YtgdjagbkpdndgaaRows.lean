/-
  No cell of these rows narrows 'for every input' (looked for: loops, veiled, ifaces, maps, wideKeys, modest, calm, conditions, laid).
  DERIVED. THE GIVEN ROWS OF THIS SEAT. 5 by the template 'for every input the law returns true; each argument reads behind the call as it read before'; 0 by the template 'total and deterministic' (their statements: YtgdjagbkpdndgaaTotals.lean).
  GIVEN WITH THE SEED: the statements are not yours to turn. If you find one false, say at which input.
  Laid BY PROGRAM, IN A SANDBOX (cutbox-rows.mjs): the forced cells as the released guide's own fill.sh prints them over the translation c6579cb7e47c1f0c… (all of the seat's roots in one cut). By AI agents, Wed Nov 11 2026. No macro, syntax, notation, axiom, sorry.
-/
import Derived.Test.YtgdjagbkpdndgaaChecked
import GoSem.Claim
import GoSem.ClaimJoined
import GoSem.ClaimMapViews
import Derived.JoinedTies
import Derived.KernelRfl
namespace Go.Proofs.Ytgdjagbkpdndgaa
/- THE CELL 'sum', in the pinned program and in every row, IS THE sha256 OF THE DUMP (.gsa) THAT YtgdjagbkpdndgaaProg.lean LOADS. Nothing in Lean hashes anything: it is a label: what it is worth is what the hold of that sum in a sandbox is worth. -/
noncomputable def Try.pinned : Pinned := { name := "ytgdjagbkpdndgaa", sum := "c6579cb7e47c1f0cbb5c71142b5386b80064e2c65a59922092fca127c061850f", checked := Try.checked }
namespace Rows
def none {H : Type} : Left H := { results := [], args := [] }

/-- 'helmsmanlaw06.GlobalPlays': WHATEVER THE INPUT: true; the input reads as it did. -/
def globalPlaysSpec : ChangeSpec := { name := "globalPlays", fn := fun _ => fun
  | [d] => { results := [.lit (.bool true)], args := [d] }
  | _ => none }
def globalPlaysRow : OpenClaim := { program := "ytgdjagbkpdndgaa", sum := "c6579cb7e47c1f0cbb5c71142b5386b80064e2c65a59922092fca127c061850f", func := "helmsman/helmsmanlaw06.GlobalPlays", spec := "globalPlays", unfollowed := true, recurses := true, apart := false }
def GlobalPlaysSaid : Prop := globalPlaysRow.holds Try.pinned (OpenSpec.ofChange globalPlaysSpec)

/-- ITS FALSE NEIGHBOUR: 'it returns false'. Refute it at one input. -/
def globalPlaysWrong : ChangeSpec := { name := "globalPlays", fn := fun _ => fun
  | [d] => { results := [.lit (.bool false)], args := [d] }
  | _ => none }
def GlobalPlaysWrongFalsely : Prop := globalPlaysRow.holds Try.pinned (OpenSpec.ofChange globalPlaysWrong)

/-- 'helmsmanlaw06.GlobalOrder': WHATEVER THE INPUT: true; the input reads as it did. -/
def globalOrderSpec : ChangeSpec := { name := "globalOrder", fn := fun _ => fun
  | [d1, d2, d3, d4] => { results := [.lit (.bool true)], args := [d1, d2, d3, d4] }
  | _ => none }
def globalOrderRow : OpenClaim := { program := "ytgdjagbkpdndgaa", sum := "c6579cb7e47c1f0cbb5c71142b5386b80064e2c65a59922092fca127c061850f", func := "helmsman/helmsmanlaw06.GlobalOrder", spec := "globalOrder", unfollowed := true, recurses := true, apart := false }
def GlobalOrderSaid : Prop := globalOrderRow.holds Try.pinned (OpenSpec.ofChange globalOrderSpec)

/-- ITS FALSE NEIGHBOUR: 'it returns false'. Refute it at one input. -/
def globalOrderWrong : ChangeSpec := { name := "globalOrder", fn := fun _ => fun
  | [d1, d2, d3, d4] => { results := [.lit (.bool false)], args := [d1, d2, d3, d4] }
  | _ => none }
def GlobalOrderWrongFalsely : Prop := globalOrderRow.holds Try.pinned (OpenSpec.ofChange globalOrderWrong)

/-- 'helmsmanlaw06.GlobalCopies': WHATEVER THE INPUT: true; the input reads as it did. -/
def globalCopiesSpec : ChangeSpec := { name := "globalCopies", fn := fun _ => fun
  | [d1, d2, d3] => { results := [.lit (.bool true)], args := [d1, d2, d3] }
  | _ => none }
def globalCopiesRow : OpenClaim := { program := "ytgdjagbkpdndgaa", sum := "c6579cb7e47c1f0cbb5c71142b5386b80064e2c65a59922092fca127c061850f", func := "helmsman/helmsmanlaw06.GlobalCopies", spec := "globalCopies", unfollowed := true, recurses := true, apart := false }
def GlobalCopiesSaid : Prop := globalCopiesRow.holds Try.pinned (OpenSpec.ofChange globalCopiesSpec)

/-- ITS FALSE NEIGHBOUR: 'it returns false'. Refute it at one input. -/
def globalCopiesWrong : ChangeSpec := { name := "globalCopies", fn := fun _ => fun
  | [d1, d2, d3] => { results := [.lit (.bool false)], args := [d1, d2, d3] }
  | _ => none }
def GlobalCopiesWrongFalsely : Prop := globalCopiesRow.holds Try.pinned (OpenSpec.ofChange globalCopiesWrong)

/-- 'helmsmanlaw06.GlobalApart': WHATEVER THE INPUT: true; the input reads as it did. -/
def globalApartSpec : ChangeSpec := { name := "globalApart", fn := fun _ => fun
  | [d1, d2, d3] => { results := [.lit (.bool true)], args := [d1, d2, d3] }
  | _ => none }
def globalApartRow : OpenClaim := { program := "ytgdjagbkpdndgaa", sum := "c6579cb7e47c1f0cbb5c71142b5386b80064e2c65a59922092fca127c061850f", func := "helmsman/helmsmanlaw06.GlobalApart", spec := "globalApart", unfollowed := true, recurses := true, apart := false }
def GlobalApartSaid : Prop := globalApartRow.holds Try.pinned (OpenSpec.ofChange globalApartSpec)

/-- ITS FALSE NEIGHBOUR: 'it returns false'. Refute it at one input. -/
def globalApartWrong : ChangeSpec := { name := "globalApart", fn := fun _ => fun
  | [d1, d2, d3] => { results := [.lit (.bool false)], args := [d1, d2, d3] }
  | _ => none }
def GlobalApartWrongFalsely : Prop := globalApartRow.holds Try.pinned (OpenSpec.ofChange globalApartWrong)

/-- 'helmsmanlaw06.GlobalNil': WHATEVER THE INPUT: true; the input reads as it did. -/
def globalNilSpec : ChangeSpec := { name := "globalNil", fn := fun _ => fun
  | [] => { results := [.lit (.bool true)], args := [] }
  | _ => none }
def globalNilRow : OpenClaim := { program := "ytgdjagbkpdndgaa", sum := "c6579cb7e47c1f0cbb5c71142b5386b80064e2c65a59922092fca127c061850f", func := "helmsman/helmsmanlaw06.GlobalNil", spec := "globalNil", unfollowed := true, recurses := true, apart := false }
def GlobalNilSaid : Prop := globalNilRow.holds Try.pinned (OpenSpec.ofChange globalNilSpec)

/-- ITS FALSE NEIGHBOUR: 'it returns false'. Refute it at one input. -/
def globalNilWrong : ChangeSpec := { name := "globalNil", fn := fun _ => fun
  | [] => { results := [.lit (.bool false)], args := [] }
  | _ => none }
def GlobalNilWrongFalsely : Prop := globalNilRow.holds Try.pinned (OpenSpec.ofChange globalNilWrong)

/- THE SECOND FORM. 'bulk': how many values and letters a reading holds, each counted each time it is reached (what is shared counts as often as it is met; a slice's spare places count too). A statement '..UptoSaid' is the law's where the arguments, and the package variables that the reading takes, are together of bulk at most 1048576: NARROWER than '..Said'. Prove '..Said' where nothing that the law and all that it calls make is longer than what came in: it says more and counts as full. Else prove '..UptoSaid'. A law counts once. -/
mutual
def uptoBulk {H : Type} : DataW H → Nat
  | .lit (.string bytes) => bytes.length + 1
  | .lit _ => 1
  | .nil => 1
  | .ptr d => uptoBulk d + 1
  | .slice elems spare => uptoBulkAll elems + uptoBulkAll spare + 1
  | .agg parts => uptoBulkAll parts + 1
  | .iface _ d => uptoBulk d + 1
  | .map entries => uptoBulkEntries entries + 1
  | .held _ => 1
def uptoBulkAll {H : Type} : List (DataW H) → Nat
  | [] => 0
  | d :: r => uptoBulk d + uptoBulkAll r
def uptoBulkEntries {H : Type} : List (Lit × DataW H) → Nat
  | [] => 0
  | x :: r => uptoBulkEntry x + uptoBulkEntries r
def uptoBulkEntry {H : Type} : Lit × DataW H → Nat
  | (.string bytes, d) => bytes.length + uptoBulk d + 1
  | (_, d) => uptoBulk d + 1
 end
def uptoSmall : (H : Type) → List (DataW H) → Bool := fun _ ds => decide (uptoBulkAll ds ≤ 1048576)
def OpenSpec.upto (s : _root_.Go.ChangeSpec) : _root_.Go.OpenSpec := { _root_.Go.OpenSpec.ofChange s with cond := some uptoSmall }

/-- 'helmsmanlaw06.GlobalPlays', WHERE WHAT IT READS IS OF BULK AT MOST 1048576: true; the input reads as it did. -/
def globalPlaysUptoRow : OpenClaim := { program := "ytgdjagbkpdndgaa", sum := "c6579cb7e47c1f0cbb5c71142b5386b80064e2c65a59922092fca127c061850f", func := "helmsman/helmsmanlaw06.GlobalPlays", spec := "globalPlays", unfollowed := true, recurses := true, apart := false, narrowed := true }
def GlobalPlaysUptoSaid : Prop := globalPlaysUptoRow.holds Try.pinned (OpenSpec.upto globalPlaysSpec)

/-- 'helmsmanlaw06.GlobalOrder', WHERE WHAT IT READS IS OF BULK AT MOST 1048576: true; the input reads as it did. -/
def globalOrderUptoRow : OpenClaim := { program := "ytgdjagbkpdndgaa", sum := "c6579cb7e47c1f0cbb5c71142b5386b80064e2c65a59922092fca127c061850f", func := "helmsman/helmsmanlaw06.GlobalOrder", spec := "globalOrder", unfollowed := true, recurses := true, apart := false, narrowed := true }
def GlobalOrderUptoSaid : Prop := globalOrderUptoRow.holds Try.pinned (OpenSpec.upto globalOrderSpec)

/-- 'helmsmanlaw06.GlobalCopies', WHERE WHAT IT READS IS OF BULK AT MOST 1048576: true; the input reads as it did. -/
def globalCopiesUptoRow : OpenClaim := { program := "ytgdjagbkpdndgaa", sum := "c6579cb7e47c1f0cbb5c71142b5386b80064e2c65a59922092fca127c061850f", func := "helmsman/helmsmanlaw06.GlobalCopies", spec := "globalCopies", unfollowed := true, recurses := true, apart := false, narrowed := true }
def GlobalCopiesUptoSaid : Prop := globalCopiesUptoRow.holds Try.pinned (OpenSpec.upto globalCopiesSpec)

/-- 'helmsmanlaw06.GlobalApart', WHERE WHAT IT READS IS OF BULK AT MOST 1048576: true; the input reads as it did. -/
def globalApartUptoRow : OpenClaim := { program := "ytgdjagbkpdndgaa", sum := "c6579cb7e47c1f0cbb5c71142b5386b80064e2c65a59922092fca127c061850f", func := "helmsman/helmsmanlaw06.GlobalApart", spec := "globalApart", unfollowed := true, recurses := true, apart := false, narrowed := true }
def GlobalApartUptoSaid : Prop := globalApartUptoRow.holds Try.pinned (OpenSpec.upto globalApartSpec)

/-- 'helmsmanlaw06.GlobalNil', WHERE WHAT IT READS IS OF BULK AT MOST 1048576: true; the input reads as it did. -/
def globalNilUptoRow : OpenClaim := { program := "ytgdjagbkpdndgaa", sum := "c6579cb7e47c1f0cbb5c71142b5386b80064e2c65a59922092fca127c061850f", func := "helmsman/helmsmanlaw06.GlobalNil", spec := "globalNil", unfollowed := true, recurses := true, apart := false, narrowed := true }
def GlobalNilUptoSaid : Prop := globalNilUptoRow.holds Try.pinned (OpenSpec.upto globalNilSpec)

end Rows
end Go.Proofs.Ytgdjagbkpdndgaa
