/-
  DERIVED. GIVEN WITH THE SEED: THE CARDS: each row of YtidglddjinfncabDoorRows.lean that lists a variable, with what it lists TIED to the program's text (the seventh form; the later family's looks); each row that meets fmt, with fmt's text TOLD by the authors' own Lean function (tested against real Go, not proved from fmt's source: count such statements apart). THE CARD IS WHAT COUNTS. Prove the row's statement (the work); the ties are given (YtidglddjinfncabDoorTie.lean); close each card by the builder's one call (the guide's Derived/Test/ToyasCard.lean, 'card_holds'). Laid BY PROGRAM, IN A SANDBOX (cutbox-door.mjs). By AI agents, Wed Nov 11 2026. No macro, syntax, notation, axiom, sorry.
-/
import Derived.Test.YtidglddjinfncabDoorRows
import GoSem.ClaimSeven
namespace Go.Proofs.YtidglddjinfncabDoor
namespace Rows

/-- THE TIED CARD OF 'trellislaw4.LinkNamed'. -/
def linkNamedCard : Claim7 := { stood := { row := linkNamedRow, standIns := [], harness := (true, "8e3560031045aef253a1fb26f4b618a1b18d215bbb44bb0e6cf341fec85b3dcb"), looks := false }, kinds := [], alts := [], laidByText := true, laidKinds := [.data], laidTests := true, laidLooks := .later }
def LinkNamedCardSaid : Prop := Claim7.holds Tryd.pinned (.plain (OpenSpec.ofChange linkNamedSpec)) linkNamedCard

/-- THE SECOND FORM's CARD OF 'trellislaw4.LinkNamed'. -/
def linkNamedUptoCard : Claim7 := { stood := { row := linkNamedUptoRow, standIns := [], harness := (true, "8e3560031045aef253a1fb26f4b618a1b18d215bbb44bb0e6cf341fec85b3dcb"), looks := false }, kinds := [], alts := [], laidByText := true, laidKinds := [.data], laidTests := true, laidLooks := .later }
def LinkNamedUptoCardSaid : Prop := Claim7.holds Tryd.pinned (.plain (OpenSpec.upto linkNamedSpec)) linkNamedUptoCard
end Rows
end Go.Proofs.YtidglddjinfncabDoor
