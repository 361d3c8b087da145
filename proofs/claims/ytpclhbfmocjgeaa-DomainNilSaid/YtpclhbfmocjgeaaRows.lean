/-
  No cell of these rows narrows 'for every input' (looked for: loops, veiled, ifaces, maps, wideKeys, modest, calm, conditions, laid).
  DERIVED. THE GIVEN ROWS OF THIS SEAT. 5 by the template 'for every input the law returns true; each argument reads behind the call as it read before'; 0 by the template 'total and deterministic' (their statements: YtpclhbfmocjgeaaTotals.lean).
  GIVEN WITH THE SEED: the statements are not yours to turn. If you find one false, say at which input.
  Laid BY PROGRAM, IN A SANDBOX (cutbox-rows.mjs): the forced cells as the released guide's own fill.sh prints them over the translation e6bb3ffd1fda8797… (all of the seat's roots in one cut). By AI agents, Wed Nov 11 2026. No macro, syntax, notation, axiom, sorry.
-/
import Derived.Test.YtpclhbfmocjgeaaChecked
import GoSem.Claim
import GoSem.ClaimJoined
import GoSem.ClaimMapViews
import Derived.JoinedTies
import Derived.KernelRfl
namespace Go.Proofs.Ytpclhbfmocjgeaa
/- THE CELL 'sum', in the pinned program and in every row, IS THE sha256 OF THE DUMP (.gsa) THAT YtpclhbfmocjgeaaProg.lean LOADS. Nothing in Lean hashes anything: it is a label: what it is worth is what the hold of that sum in a sandbox is worth. -/
noncomputable def Try.pinned : Pinned := { name := "ytpclhbfmocjgeaa", sum := "e6bb3ffd1fda8797d4d4f231afe02e4531fc7f496c58784c3c7ab99468b26054", checked := Try.checked }
namespace Rows
def none {H : Type} : Left H := { results := [], args := [] }

/-- 'helmsmanlaw09.DomainPlays': WHATEVER THE INPUT: true; the input reads as it did. -/
def domainPlaysSpec : ChangeSpec := { name := "domainPlays", fn := fun _ => fun
  | [d1, d2, d3, d4, d5] => { results := [.lit (.bool true)], args := [d1, d2, d3, d4, d5] }
  | _ => none }
def domainPlaysRow : OpenClaim := { program := "ytpclhbfmocjgeaa", sum := "e6bb3ffd1fda8797d4d4f231afe02e4531fc7f496c58784c3c7ab99468b26054", func := "helmsman/helmsmanlaw09.DomainPlays", spec := "domainPlays", inPlace := ["math/bits.Add64"], unfollowed := true, recurses := true, apart := false }
def DomainPlaysSaid : Prop := domainPlaysRow.holds Try.pinned (OpenSpec.ofChange domainPlaysSpec)

/-- ITS FALSE NEIGHBOUR: 'it returns false'. Refute it at one input. -/
def domainPlaysWrong : ChangeSpec := { name := "domainPlays", fn := fun _ => fun
  | [d1, d2, d3, d4, d5] => { results := [.lit (.bool false)], args := [d1, d2, d3, d4, d5] }
  | _ => none }
def DomainPlaysWrongFalsely : Prop := domainPlaysRow.holds Try.pinned (OpenSpec.ofChange domainPlaysWrong)

/-- 'helmsmanlaw09.DomainBooks': WHATEVER THE INPUT: true; the input reads as it did. -/
def domainBooksSpec : ChangeSpec := { name := "domainBooks", fn := fun _ => fun
  | [d1, d2, d3, d4, d5] => { results := [.lit (.bool true)], args := [d1, d2, d3, d4, d5] }
  | _ => none }
def domainBooksRow : OpenClaim := { program := "ytpclhbfmocjgeaa", sum := "e6bb3ffd1fda8797d4d4f231afe02e4531fc7f496c58784c3c7ab99468b26054", func := "helmsman/helmsmanlaw09.DomainBooks", spec := "domainBooks", inPlace := ["math/bits.Add64"], unfollowed := true, recurses := true, apart := false }
def DomainBooksSaid : Prop := domainBooksRow.holds Try.pinned (OpenSpec.ofChange domainBooksSpec)

/-- ITS FALSE NEIGHBOUR: 'it returns false'. Refute it at one input. -/
def domainBooksWrong : ChangeSpec := { name := "domainBooks", fn := fun _ => fun
  | [d1, d2, d3, d4, d5] => { results := [.lit (.bool false)], args := [d1, d2, d3, d4, d5] }
  | _ => none }
def DomainBooksWrongFalsely : Prop := domainBooksRow.holds Try.pinned (OpenSpec.ofChange domainBooksWrong)

/-- 'helmsmanlaw09.DomainStale': WHATEVER THE INPUT: true; the input reads as it did. -/
def domainStaleSpec : ChangeSpec := { name := "domainStale", fn := fun _ => fun
  | [d1, d2, d3, d4, d5] => { results := [.lit (.bool true)], args := [d1, d2, d3, d4, d5] }
  | _ => none }
def domainStaleRow : OpenClaim := { program := "ytpclhbfmocjgeaa", sum := "e6bb3ffd1fda8797d4d4f231afe02e4531fc7f496c58784c3c7ab99468b26054", func := "helmsman/helmsmanlaw09.DomainStale", spec := "domainStale", inPlace := ["math/bits.Add64"], unfollowed := true, recurses := true, apart := false }
def DomainStaleSaid : Prop := domainStaleRow.holds Try.pinned (OpenSpec.ofChange domainStaleSpec)

/-- ITS FALSE NEIGHBOUR: 'it returns false'. Refute it at one input. -/
def domainStaleWrong : ChangeSpec := { name := "domainStale", fn := fun _ => fun
  | [d1, d2, d3, d4, d5] => { results := [.lit (.bool false)], args := [d1, d2, d3, d4, d5] }
  | _ => none }
def DomainStaleWrongFalsely : Prop := domainStaleRow.holds Try.pinned (OpenSpec.ofChange domainStaleWrong)

/-- 'helmsmanlaw09.DomainBack': WHATEVER THE INPUT: true; the input reads as it did. -/
def domainBackSpec : ChangeSpec := { name := "domainBack", fn := fun _ => fun
  | [d1, d2, d3, d4, d5, d6] => { results := [.lit (.bool true)], args := [d1, d2, d3, d4, d5, d6] }
  | _ => none }
def domainBackRow : OpenClaim := { program := "ytpclhbfmocjgeaa", sum := "e6bb3ffd1fda8797d4d4f231afe02e4531fc7f496c58784c3c7ab99468b26054", func := "helmsman/helmsmanlaw09.DomainBack", spec := "domainBack", inPlace := ["math/bits.Add64"], unfollowed := true, recurses := true, apart := false }
def DomainBackSaid : Prop := domainBackRow.holds Try.pinned (OpenSpec.ofChange domainBackSpec)

/-- ITS FALSE NEIGHBOUR: 'it returns false'. Refute it at one input. -/
def domainBackWrong : ChangeSpec := { name := "domainBack", fn := fun _ => fun
  | [d1, d2, d3, d4, d5, d6] => { results := [.lit (.bool false)], args := [d1, d2, d3, d4, d5, d6] }
  | _ => none }
def DomainBackWrongFalsely : Prop := domainBackRow.holds Try.pinned (OpenSpec.ofChange domainBackWrong)

/-- 'helmsmanlaw09.DomainNil': WHATEVER THE INPUT: true; the input reads as it did. -/
def domainNilSpec : ChangeSpec := { name := "domainNil", fn := fun _ => fun
  | [] => { results := [.lit (.bool true)], args := [] }
  | _ => none }
def domainNilRow : OpenClaim := { program := "ytpclhbfmocjgeaa", sum := "e6bb3ffd1fda8797d4d4f231afe02e4531fc7f496c58784c3c7ab99468b26054", func := "helmsman/helmsmanlaw09.DomainNil", spec := "domainNil", inPlace := ["math/bits.Add64"], unfollowed := true, recurses := true, apart := false }
def DomainNilSaid : Prop := domainNilRow.holds Try.pinned (OpenSpec.ofChange domainNilSpec)

/-- ITS FALSE NEIGHBOUR: 'it returns false'. Refute it at one input. -/
def domainNilWrong : ChangeSpec := { name := "domainNil", fn := fun _ => fun
  | [] => { results := [.lit (.bool false)], args := [] }
  | _ => none }
def DomainNilWrongFalsely : Prop := domainNilRow.holds Try.pinned (OpenSpec.ofChange domainNilWrong)

/- THE SECOND FORM. 'bulk': how many values and letters a reading holds, each counted each time it is reached (what is shared counts as often as it is met; a slice's spare places count too). A statement '..UptoSaid' is the law's where the arguments, and the package variables that the reading takes, are together of bulk at most 1048576: NARROWER than '..Said'. Prove '..Said' where nothing that the law and all that it calls make is longer than what came in: it says more and counts as full. Else prove '..UptoSaid'. A law counts once. -/
mutual
def uptoBulk {H : Type} : DataW H → Nat
  | .lit (.string bytes) => bytes.length + 1
  | .lit _ => 1
  | .nil => 1
  | .ptr d => uptoBulk d + 1
  | .slice elems spare => uptoBulkAll elems + uptoBulkAll spare + 1
  | .agg parts => uptoBulkAll parts + 1
  | .iface _ d => uptoBulk d + 1
  | .map entries => uptoBulkEntries entries + 1
  | .held _ => 1
def uptoBulkAll {H : Type} : List (DataW H) → Nat
  | [] => 0
  | d :: r => uptoBulk d + uptoBulkAll r
def uptoBulkEntries {H : Type} : List (Lit × DataW H) → Nat
  | [] => 0
  | x :: r => uptoBulkEntry x + uptoBulkEntries r
def uptoBulkEntry {H : Type} : Lit × DataW H → Nat
  | (.string bytes, d) => bytes.length + uptoBulk d + 1
  | (_, d) => uptoBulk d + 1
 end
def uptoSmall : (H : Type) → List (DataW H) → Bool := fun _ ds => decide (uptoBulkAll ds ≤ 1048576)
def OpenSpec.upto (s : _root_.Go.ChangeSpec) : _root_.Go.OpenSpec := { _root_.Go.OpenSpec.ofChange s with cond := some uptoSmall }

/-- 'helmsmanlaw09.DomainPlays', WHERE WHAT IT READS IS OF BULK AT MOST 1048576: true; the input reads as it did. -/
def domainPlaysUptoRow : OpenClaim := { program := "ytpclhbfmocjgeaa", sum := "e6bb3ffd1fda8797d4d4f231afe02e4531fc7f496c58784c3c7ab99468b26054", func := "helmsman/helmsmanlaw09.DomainPlays", spec := "domainPlays", inPlace := ["math/bits.Add64"], unfollowed := true, recurses := true, apart := false, narrowed := true }
def DomainPlaysUptoSaid : Prop := domainPlaysUptoRow.holds Try.pinned (OpenSpec.upto domainPlaysSpec)

/-- 'helmsmanlaw09.DomainBooks', WHERE WHAT IT READS IS OF BULK AT MOST 1048576: true; the input reads as it did. -/
def domainBooksUptoRow : OpenClaim := { program := "ytpclhbfmocjgeaa", sum := "e6bb3ffd1fda8797d4d4f231afe02e4531fc7f496c58784c3c7ab99468b26054", func := "helmsman/helmsmanlaw09.DomainBooks", spec := "domainBooks", inPlace := ["math/bits.Add64"], unfollowed := true, recurses := true, apart := false, narrowed := true }
def DomainBooksUptoSaid : Prop := domainBooksUptoRow.holds Try.pinned (OpenSpec.upto domainBooksSpec)

/-- 'helmsmanlaw09.DomainStale', WHERE WHAT IT READS IS OF BULK AT MOST 1048576: true; the input reads as it did. -/
def domainStaleUptoRow : OpenClaim := { program := "ytpclhbfmocjgeaa", sum := "e6bb3ffd1fda8797d4d4f231afe02e4531fc7f496c58784c3c7ab99468b26054", func := "helmsman/helmsmanlaw09.DomainStale", spec := "domainStale", inPlace := ["math/bits.Add64"], unfollowed := true, recurses := true, apart := false, narrowed := true }
def DomainStaleUptoSaid : Prop := domainStaleUptoRow.holds Try.pinned (OpenSpec.upto domainStaleSpec)

/-- 'helmsmanlaw09.DomainBack', WHERE WHAT IT READS IS OF BULK AT MOST 1048576: true; the input reads as it did. -/
def domainBackUptoRow : OpenClaim := { program := "ytpclhbfmocjgeaa", sum := "e6bb3ffd1fda8797d4d4f231afe02e4531fc7f496c58784c3c7ab99468b26054", func := "helmsman/helmsmanlaw09.DomainBack", spec := "domainBack", inPlace := ["math/bits.Add64"], unfollowed := true, recurses := true, apart := false, narrowed := true }
def DomainBackUptoSaid : Prop := domainBackUptoRow.holds Try.pinned (OpenSpec.upto domainBackSpec)

/-- 'helmsmanlaw09.DomainNil', WHERE WHAT IT READS IS OF BULK AT MOST 1048576: true; the input reads as it did. -/
def domainNilUptoRow : OpenClaim := { program := "ytpclhbfmocjgeaa", sum := "e6bb3ffd1fda8797d4d4f231afe02e4531fc7f496c58784c3c7ab99468b26054", func := "helmsman/helmsmanlaw09.DomainNil", spec := "domainNil", inPlace := ["math/bits.Add64"], unfollowed := true, recurses := true, apart := false, narrowed := true }
def DomainNilUptoSaid : Prop := domainNilUptoRow.holds Try.pinned (OpenSpec.upto domainNilSpec)

end Rows
end Go.Proofs.Ytpclhbfmocjgeaa
