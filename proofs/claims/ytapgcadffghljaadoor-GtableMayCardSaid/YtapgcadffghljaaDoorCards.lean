/-
  DERIVED. GIVEN WITH THE SEED: THE CARDS: each row of YtapgcadffghljaaDoorRows.lean that lists a variable, with what it lists TIED to the program's text (the seventh form; the later family's looks); each row that meets fmt, with fmt's text TOLD by the authors' own Lean function (tested against real Go, not proved from fmt's source: count such statements apart). THE CARD IS WHAT COUNTS. Prove the row's statement (the work); the ties are given (YtapgcadffghljaaDoorTie.lean); close each card by the builder's one call (the guide's Derived/Test/ToyasCard.lean, 'card_holds'). Laid BY PROGRAM, IN A SANDBOX (cutbox-door.mjs). By AI agents, Wed Nov 11 2026. No macro, syntax, notation, axiom, sorry.
-/
import Derived.Test.YtapgcadffghljaaDoorRows
import GoSem.ClaimSeven
namespace Go.Proofs.YtapgcadffghljaaDoor
namespace Rows

/-- THE TIED CARD OF 'helmsmanlaw16.GtableMay'. -/
def gtableMayCard : Claim7 := { stood := { row := gtableMayRow, standIns := [], harness := (true, "6ef66028f1a35abb3c0bcc78f823a9959e4c8351b743abf0f6cf61d16b105a70"), looks := false }, kinds := [], alts := [], laidByText := true, laidKinds := [.data], laidTests := true, laidLooks := .later }
def GtableMayCardSaid : Prop := Claim7.holds Tryd.pinned (.plain (OpenSpec.ofChange gtableMaySpec)) gtableMayCard

/-- THE SECOND FORM's CARD OF 'helmsmanlaw16.GtableMay'. -/
def gtableMayUptoCard : Claim7 := { stood := { row := gtableMayUptoRow, standIns := [], harness := (true, "6ef66028f1a35abb3c0bcc78f823a9959e4c8351b743abf0f6cf61d16b105a70"), looks := false }, kinds := [], alts := [], laidByText := true, laidKinds := [.data], laidTests := true, laidLooks := .later }
def GtableMayUptoCardSaid : Prop := Claim7.holds Tryd.pinned (.plain (OpenSpec.upto gtableMaySpec)) gtableMayUptoCard
end Rows
end Go.Proofs.YtapgcadffghljaaDoor
