/-
  DERIVED. GIVEN WITH THE SEED: THE CARDS: each row of YtdinbalpfgobgaaDoorRows.lean that lists a variable, with what it lists TIED to the program's text (the seventh form; the later family's looks); each row that meets fmt, with fmt's text TOLD by the authors' own Lean function (tested against real Go, not proved from fmt's source: count such statements apart). THE CARD IS WHAT COUNTS. Prove the row's statement (the work); the ties are given (YtdinbalpfgobgaaDoorTie.lean); close each card by the builder's one call (the guide's Derived/Test/ToyasCard.lean, 'card_holds'). Laid BY PROGRAM, IN A SANDBOX (cutbox-door.mjs). By AI agents, Wed Nov 11 2026. No macro, syntax, notation, axiom, sorry.
-/
import Derived.Test.YtdinbalpfgobgaaDoorRows
import GoSem.ClaimSeven
namespace Go.Proofs.YtdinbalpfgobgaaDoor
namespace Rows

/-- THE TIED CARD OF 'helmsmanlaw11.RightsTable'. -/
def rightsTableCard : Claim7 := { stood := { row := rightsTableRow, standIns := [], harness := (true, "f868f239fd06bfa076f1a70129021aad71d42182f8c070f85b3d1aa7fb0e3336"), looks := false }, kinds := [], alts := [], laidByText := true, laidKinds := [.data], laidTests := true, laidLooks := .later }
def RightsTableCardSaid : Prop := Claim7.holds Tryd.pinned (.plain (OpenSpec.ofChange rightsTableSpec)) rightsTableCard

/-- THE TIED CARD OF 'helmsmanlaw11.RightsNames'. -/
def rightsNamesCard : Claim7 := { stood := { row := rightsNamesRow, standIns := [], harness := (true, "f868f239fd06bfa076f1a70129021aad71d42182f8c070f85b3d1aa7fb0e3336"), looks := false }, kinds := [], alts := [], laidByText := true, laidKinds := [.data], laidTests := true, laidLooks := .later }
def RightsNamesCardSaid : Prop := Claim7.holds Tryd.pinned (.plain (OpenSpec.ofChange rightsNamesSpec)) rightsNamesCard

/-- THE SECOND FORM's CARD OF 'helmsmanlaw11.RightsTable'. -/
def rightsTableUptoCard : Claim7 := { stood := { row := rightsTableUptoRow, standIns := [], harness := (true, "f868f239fd06bfa076f1a70129021aad71d42182f8c070f85b3d1aa7fb0e3336"), looks := false }, kinds := [], alts := [], laidByText := true, laidKinds := [.data], laidTests := true, laidLooks := .later }
def RightsTableUptoCardSaid : Prop := Claim7.holds Tryd.pinned (.plain (OpenSpec.upto rightsTableSpec)) rightsTableUptoCard

/-- THE SECOND FORM's CARD OF 'helmsmanlaw11.RightsNames'. -/
def rightsNamesUptoCard : Claim7 := { stood := { row := rightsNamesUptoRow, standIns := [], harness := (true, "f868f239fd06bfa076f1a70129021aad71d42182f8c070f85b3d1aa7fb0e3336"), looks := false }, kinds := [], alts := [], laidByText := true, laidKinds := [.data], laidTests := true, laidLooks := .later }
def RightsNamesUptoCardSaid : Prop := Claim7.holds Tryd.pinned (.plain (OpenSpec.upto rightsNamesSpec)) rightsNamesUptoCard
end Rows
end Go.Proofs.YtdinbalpfgobgaaDoor
