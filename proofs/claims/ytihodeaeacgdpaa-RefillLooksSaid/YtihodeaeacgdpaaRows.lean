/-
  No cell of these rows narrows 'for every input' (looked for: loops, veiled, ifaces, maps, wideKeys, modest, calm, conditions, laid).
  DERIVED. THE GIVEN ROWS OF THIS SEAT. 6 by the template 'for every input the law returns true; each argument reads behind the call as it read before'; 0 by the template 'total and deterministic' (their statements: YtihodeaeacgdpaaTotals.lean).
  GIVEN WITH THE SEED: the statements are not yours to turn. If you find one false, say at which input.
  Laid BY PROGRAM, IN A SANDBOX (cutbox-rows.mjs): the forced cells as the released guide's own fill.sh prints them over the translation 929732412909b206… (all of the seat's roots in one cut). By AI agents, Wed Nov 11 2026. No macro, syntax, notation, axiom, sorry.
-/
import Derived.Test.YtihodeaeacgdpaaChecked
import GoSem.Claim
import GoSem.ClaimJoined
import GoSem.ClaimMapViews
import Derived.JoinedTies
import Derived.KernelRfl
namespace Go.Proofs.Ytihodeaeacgdpaa
/- THE CELL 'sum', in the pinned program and in every row, IS THE sha256 OF THE DUMP (.gsa) THAT YtihodeaeacgdpaaProg.lean LOADS. Nothing in Lean hashes anything: it is a label: what it is worth is what the hold of that sum in a sandbox is worth. -/
noncomputable def Try.pinned : Pinned := { name := "ytihodeaeacgdpaa", sum := "929732412909b20625cb35a700ffa444b67530b95a2a08e88c5ba285efe52a3b", checked := Try.checked }
namespace Rows
def none {H : Type} : Left H := { results := [], args := [] }

/-- 'helmsmanlaw07.RefillLooks': WHATEVER THE INPUT: true; the input reads as it did. -/
def refillLooksSpec : ChangeSpec := { name := "refillLooks", fn := fun _ => fun
  | [d1, d2, d3] => { results := [.lit (.bool true)], args := [d1, d2, d3] }
  | _ => none }
def refillLooksRow : OpenClaim := { program := "ytihodeaeacgdpaa", sum := "929732412909b20625cb35a700ffa444b67530b95a2a08e88c5ba285efe52a3b", func := "helmsman/helmsmanlaw07.RefillLooks", spec := "refillLooks", inPlace := ["math/bits.Add64"], unfollowed := true, recurses := true, apart := false }
def RefillLooksSaid : Prop := refillLooksRow.holds Try.pinned (OpenSpec.ofChange refillLooksSpec)

/-- ITS FALSE NEIGHBOUR: 'it returns false'. Refute it at one input. -/
def refillLooksWrong : ChangeSpec := { name := "refillLooks", fn := fun _ => fun
  | [d1, d2, d3] => { results := [.lit (.bool false)], args := [d1, d2, d3] }
  | _ => none }
def RefillLooksWrongFalsely : Prop := refillLooksRow.holds Try.pinned (OpenSpec.ofChange refillLooksWrong)

/-- 'helmsmanlaw07.RefillCharges': WHATEVER THE INPUT: true; the input reads as it did. -/
def refillChargesSpec : ChangeSpec := { name := "refillCharges", fn := fun _ => fun
  | [d1, d2, d3, d4] => { results := [.lit (.bool true)], args := [d1, d2, d3, d4] }
  | _ => none }
def refillChargesRow : OpenClaim := { program := "ytihodeaeacgdpaa", sum := "929732412909b20625cb35a700ffa444b67530b95a2a08e88c5ba285efe52a3b", func := "helmsman/helmsmanlaw07.RefillCharges", spec := "refillCharges", inPlace := ["math/bits.Add64"], unfollowed := true, recurses := true, apart := false }
def RefillChargesSaid : Prop := refillChargesRow.holds Try.pinned (OpenSpec.ofChange refillChargesSpec)

/-- ITS FALSE NEIGHBOUR: 'it returns false'. Refute it at one input. -/
def refillChargesWrong : ChangeSpec := { name := "refillCharges", fn := fun _ => fun
  | [d1, d2, d3, d4] => { results := [.lit (.bool false)], args := [d1, d2, d3, d4] }
  | _ => none }
def RefillChargesWrongFalsely : Prop := refillChargesRow.holds Try.pinned (OpenSpec.ofChange refillChargesWrong)

/-- 'helmsmanlaw07.RefillGives': WHATEVER THE INPUT: true; the input reads as it did. -/
def refillGivesSpec : ChangeSpec := { name := "refillGives", fn := fun _ => fun
  | [d1, d2, d3, d4] => { results := [.lit (.bool true)], args := [d1, d2, d3, d4] }
  | _ => none }
def refillGivesRow : OpenClaim := { program := "ytihodeaeacgdpaa", sum := "929732412909b20625cb35a700ffa444b67530b95a2a08e88c5ba285efe52a3b", func := "helmsman/helmsmanlaw07.RefillGives", spec := "refillGives", inPlace := ["math/bits.Add64"], unfollowed := true, recurses := true, apart := false }
def RefillGivesSaid : Prop := refillGivesRow.holds Try.pinned (OpenSpec.ofChange refillGivesSpec)

/-- ITS FALSE NEIGHBOUR: 'it returns false'. Refute it at one input. -/
def refillGivesWrong : ChangeSpec := { name := "refillGives", fn := fun _ => fun
  | [d1, d2, d3, d4] => { results := [.lit (.bool false)], args := [d1, d2, d3, d4] }
  | _ => none }
def RefillGivesWrongFalsely : Prop := refillGivesRow.holds Try.pinned (OpenSpec.ofChange refillGivesWrong)

/-- 'helmsmanlaw07.RefillWindow': WHATEVER THE INPUT: true; the input reads as it did. -/
def refillWindowSpec : ChangeSpec := { name := "refillWindow", fn := fun _ => fun
  | [d1, d2, d3, d4] => { results := [.lit (.bool true)], args := [d1, d2, d3, d4] }
  | _ => none }
def refillWindowRow : OpenClaim := { program := "ytihodeaeacgdpaa", sum := "929732412909b20625cb35a700ffa444b67530b95a2a08e88c5ba285efe52a3b", func := "helmsman/helmsmanlaw07.RefillWindow", spec := "refillWindow", inPlace := ["math/bits.Add64"], unfollowed := true, recurses := true, apart := false }
def RefillWindowSaid : Prop := refillWindowRow.holds Try.pinned (OpenSpec.ofChange refillWindowSpec)

/-- ITS FALSE NEIGHBOUR: 'it returns false'. Refute it at one input. -/
def refillWindowWrong : ChangeSpec := { name := "refillWindow", fn := fun _ => fun
  | [d1, d2, d3, d4] => { results := [.lit (.bool false)], args := [d1, d2, d3, d4] }
  | _ => none }
def RefillWindowWrongFalsely : Prop := refillWindowRow.holds Try.pinned (OpenSpec.ofChange refillWindowWrong)

/-- 'helmsmanlaw07.RefillBack': WHATEVER THE INPUT: true; the input reads as it did. -/
def refillBackSpec : ChangeSpec := { name := "refillBack", fn := fun _ => fun
  | [d1, d2, d3, d4] => { results := [.lit (.bool true)], args := [d1, d2, d3, d4] }
  | _ => none }
def refillBackRow : OpenClaim := { program := "ytihodeaeacgdpaa", sum := "929732412909b20625cb35a700ffa444b67530b95a2a08e88c5ba285efe52a3b", func := "helmsman/helmsmanlaw07.RefillBack", spec := "refillBack", inPlace := ["math/bits.Add64"], unfollowed := true, recurses := true, apart := false }
def RefillBackSaid : Prop := refillBackRow.holds Try.pinned (OpenSpec.ofChange refillBackSpec)

/-- ITS FALSE NEIGHBOUR: 'it returns false'. Refute it at one input. -/
def refillBackWrong : ChangeSpec := { name := "refillBack", fn := fun _ => fun
  | [d1, d2, d3, d4] => { results := [.lit (.bool false)], args := [d1, d2, d3, d4] }
  | _ => none }
def RefillBackWrongFalsely : Prop := refillBackRow.holds Try.pinned (OpenSpec.ofChange refillBackWrong)

/-- 'helmsmanlaw07.RefillNil': WHATEVER THE INPUT: true; the input reads as it did. -/
def refillNilSpec : ChangeSpec := { name := "refillNil", fn := fun _ => fun
  | [] => { results := [.lit (.bool true)], args := [] }
  | _ => none }
def refillNilRow : OpenClaim := { program := "ytihodeaeacgdpaa", sum := "929732412909b20625cb35a700ffa444b67530b95a2a08e88c5ba285efe52a3b", func := "helmsman/helmsmanlaw07.RefillNil", spec := "refillNil", inPlace := ["math/bits.Add64"], unfollowed := true, recurses := true, apart := false }
def RefillNilSaid : Prop := refillNilRow.holds Try.pinned (OpenSpec.ofChange refillNilSpec)

/-- ITS FALSE NEIGHBOUR: 'it returns false'. Refute it at one input. -/
def refillNilWrong : ChangeSpec := { name := "refillNil", fn := fun _ => fun
  | [] => { results := [.lit (.bool false)], args := [] }
  | _ => none }
def RefillNilWrongFalsely : Prop := refillNilRow.holds Try.pinned (OpenSpec.ofChange refillNilWrong)

/- THE SECOND FORM. 'bulk': how many values and letters a reading holds, each counted each time it is reached (what is shared counts as often as it is met; a slice's spare places count too). A statement '..UptoSaid' is the law's where the arguments, and the package variables that the reading takes, are together of bulk at most 1048576: NARROWER than '..Said'. Prove '..Said' where nothing that the law and all that it calls make is longer than what came in: it says more and counts as full. Else prove '..UptoSaid'. A law counts once. -/
mutual
def uptoBulk {H : Type} : DataW H → Nat
  | .lit (.string bytes) => bytes.length + 1
  | .lit _ => 1
  | .nil => 1
  | .ptr d => uptoBulk d + 1
  | .slice elems spare => uptoBulkAll elems + uptoBulkAll spare + 1
  | .agg parts => uptoBulkAll parts + 1
  | .iface _ d => uptoBulk d + 1
  | .map entries => uptoBulkEntries entries + 1
  | .held _ => 1
def uptoBulkAll {H : Type} : List (DataW H) → Nat
  | [] => 0
  | d :: r => uptoBulk d + uptoBulkAll r
def uptoBulkEntries {H : Type} : List (Lit × DataW H) → Nat
  | [] => 0
  | x :: r => uptoBulkEntry x + uptoBulkEntries r
def uptoBulkEntry {H : Type} : Lit × DataW H → Nat
  | (.string bytes, d) => bytes.length + uptoBulk d + 1
  | (_, d) => uptoBulk d + 1
 end
def uptoSmall : (H : Type) → List (DataW H) → Bool := fun _ ds => decide (uptoBulkAll ds ≤ 1048576)
def OpenSpec.upto (s : _root_.Go.ChangeSpec) : _root_.Go.OpenSpec := { _root_.Go.OpenSpec.ofChange s with cond := some uptoSmall }

/-- 'helmsmanlaw07.RefillLooks', WHERE WHAT IT READS IS OF BULK AT MOST 1048576: true; the input reads as it did. -/
def refillLooksUptoRow : OpenClaim := { program := "ytihodeaeacgdpaa", sum := "929732412909b20625cb35a700ffa444b67530b95a2a08e88c5ba285efe52a3b", func := "helmsman/helmsmanlaw07.RefillLooks", spec := "refillLooks", inPlace := ["math/bits.Add64"], unfollowed := true, recurses := true, apart := false, narrowed := true }
def RefillLooksUptoSaid : Prop := refillLooksUptoRow.holds Try.pinned (OpenSpec.upto refillLooksSpec)

/-- 'helmsmanlaw07.RefillCharges', WHERE WHAT IT READS IS OF BULK AT MOST 1048576: true; the input reads as it did. -/
def refillChargesUptoRow : OpenClaim := { program := "ytihodeaeacgdpaa", sum := "929732412909b20625cb35a700ffa444b67530b95a2a08e88c5ba285efe52a3b", func := "helmsman/helmsmanlaw07.RefillCharges", spec := "refillCharges", inPlace := ["math/bits.Add64"], unfollowed := true, recurses := true, apart := false, narrowed := true }
def RefillChargesUptoSaid : Prop := refillChargesUptoRow.holds Try.pinned (OpenSpec.upto refillChargesSpec)

/-- 'helmsmanlaw07.RefillGives', WHERE WHAT IT READS IS OF BULK AT MOST 1048576: true; the input reads as it did. -/
def refillGivesUptoRow : OpenClaim := { program := "ytihodeaeacgdpaa", sum := "929732412909b20625cb35a700ffa444b67530b95a2a08e88c5ba285efe52a3b", func := "helmsman/helmsmanlaw07.RefillGives", spec := "refillGives", inPlace := ["math/bits.Add64"], unfollowed := true, recurses := true, apart := false, narrowed := true }
def RefillGivesUptoSaid : Prop := refillGivesUptoRow.holds Try.pinned (OpenSpec.upto refillGivesSpec)

/-- 'helmsmanlaw07.RefillWindow', WHERE WHAT IT READS IS OF BULK AT MOST 1048576: true; the input reads as it did. -/
def refillWindowUptoRow : OpenClaim := { program := "ytihodeaeacgdpaa", sum := "929732412909b20625cb35a700ffa444b67530b95a2a08e88c5ba285efe52a3b", func := "helmsman/helmsmanlaw07.RefillWindow", spec := "refillWindow", inPlace := ["math/bits.Add64"], unfollowed := true, recurses := true, apart := false, narrowed := true }
def RefillWindowUptoSaid : Prop := refillWindowUptoRow.holds Try.pinned (OpenSpec.upto refillWindowSpec)

/-- 'helmsmanlaw07.RefillBack', WHERE WHAT IT READS IS OF BULK AT MOST 1048576: true; the input reads as it did. -/
def refillBackUptoRow : OpenClaim := { program := "ytihodeaeacgdpaa", sum := "929732412909b20625cb35a700ffa444b67530b95a2a08e88c5ba285efe52a3b", func := "helmsman/helmsmanlaw07.RefillBack", spec := "refillBack", inPlace := ["math/bits.Add64"], unfollowed := true, recurses := true, apart := false, narrowed := true }
def RefillBackUptoSaid : Prop := refillBackUptoRow.holds Try.pinned (OpenSpec.upto refillBackSpec)

/-- 'helmsmanlaw07.RefillNil', WHERE WHAT IT READS IS OF BULK AT MOST 1048576: true; the input reads as it did. -/
def refillNilUptoRow : OpenClaim := { program := "ytihodeaeacgdpaa", sum := "929732412909b20625cb35a700ffa444b67530b95a2a08e88c5ba285efe52a3b", func := "helmsman/helmsmanlaw07.RefillNil", spec := "refillNil", inPlace := ["math/bits.Add64"], unfollowed := true, recurses := true, apart := false, narrowed := true }
def RefillNilUptoSaid : Prop := refillNilUptoRow.holds Try.pinned (OpenSpec.upto refillNilSpec)

end Rows
end Go.Proofs.Ytihodeaeacgdpaa
