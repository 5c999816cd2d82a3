/-
  DERIVED. GIVEN WITH THE SEED: THE CARDS: each row of YtmcamdcgnegmmaaGreatDoorRows.lean that lists a variable, with what it lists TIED to the program's text (the seventh form; the later family's looks); each row that meets fmt, with fmt's text TOLD by the authors' own Lean function (tested against real Go, not proved from fmt's source: count such statements apart). THE CARD IS WHAT COUNTS. Prove the row's statement (the work); the ties are given (YtmcamdcgnegmmaaGreatDoorTie.lean); close each card by the builder's one call (the guide's Derived/Test/ToyasCard.lean, 'card_holds'). Laid BY PROGRAM, IN A SANDBOX (cutbox-door.mjs). By AI agents, Wed Nov 11 2026. No macro, syntax, notation, axiom, sorry.
-/
import Derived.Test.YtmcamdcgnegmmaaGreatDoorRows
import GoSem.ClaimSeven
namespace Go.Proofs.YtmcamdcgnegmmaaGreatDoor
namespace Rows

/-- THE TIED CARD OF 'trellislaw9.LooseSteady'. -/
def looseSteadyCard : Claim7 := { stood := { row := looseSteadyRow, standIns := [], harness := (true, "be5ea9f24b22be71151203db356273ee3eb268e4831d6f3e781640da291c7089"), looks := true }, kinds := [], alts := [], laidByText := true, laidKinds := [.data, .pinned], laidTests := true, laidLooks := .later }
def LooseSteadyCardSaid : Prop := Claim7.holds Tryz.pinned (.plain (OpenSpec.ofChange looseSteadySpec)) looseSteadyCard

/-- THE SECOND FORM's CARD OF 'trellislaw9.LooseSteady'. -/
def looseSteadyUptoCard : Claim7 := { stood := { row := looseSteadyUptoRow, standIns := [], harness := (true, "be5ea9f24b22be71151203db356273ee3eb268e4831d6f3e781640da291c7089"), looks := true }, kinds := [], alts := [], laidByText := true, laidKinds := [.data, .pinned], laidTests := true, laidLooks := .later }
def LooseSteadyUptoCardSaid : Prop := Claim7.holds Tryz.pinned (.plain (OpenSpec.upto looseSteadySpec)) looseSteadyUptoCard
end Rows
end Go.Proofs.YtmcamdcgnegmmaaGreatDoor
