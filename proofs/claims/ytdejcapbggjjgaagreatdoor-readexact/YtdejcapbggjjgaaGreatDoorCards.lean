/-
  DERIVED. GIVEN WITH THE SEED: THE CARDS: each row of YtdejcapbggjjgaaGreatDoorRows.lean that lists a variable, with what it lists TIED to the program's text (the seventh form; the later family's looks); each row that meets fmt, with fmt's text TOLD by the authors' own Lean function (tested against real Go, not proved from fmt's source: count such statements apart). THE CARD IS WHAT COUNTS. Prove the row's statement (the work); the ties are given (YtdejcapbggjjgaaGreatDoorTie.lean); close each card by the builder's one call (the guide's Derived/Test/ToyasCard.lean, 'card_holds'). Laid BY PROGRAM, IN A SANDBOX (cutbox-door.mjs). By AI agents, Wed Nov 11 2026. No macro, syntax, notation, axiom, sorry.
-/
import Derived.Test.YtdejcapbggjjgaaGreatDoorRows
import GoSem.ClaimSeven
namespace Go.Proofs.YtdejcapbggjjgaaGreatDoor
namespace Rows

/-- THE TIED CARD OF 'trellislaw8.ReadExact'. -/
def readExactCard : Claim7 := { stood := { row := readExactRow, standIns := [], harness := (true, "eec068eea25f7b50ab1b3d37d7004d5a89fbe0cdab718bef59d88d27ce068e53"), looks := false }, kinds := [], alts := [], laidByText := true, laidKinds := [.data, .pinned], laidTests := true, laidLooks := .later }
def ReadExactCardSaid : Prop := Claim7.holds Tryz.pinned (.plain (OpenSpec.ofChange readExactSpec)) readExactCard

/-- THE SECOND FORM's CARD OF 'trellislaw8.ReadExact'. -/
def readExactUptoCard : Claim7 := { stood := { row := readExactUptoRow, standIns := [], harness := (true, "eec068eea25f7b50ab1b3d37d7004d5a89fbe0cdab718bef59d88d27ce068e53"), looks := false }, kinds := [], alts := [], laidByText := true, laidKinds := [.data, .pinned], laidTests := true, laidLooks := .later }
def ReadExactUptoCardSaid : Prop := Claim7.holds Tryz.pinned (.plain (OpenSpec.upto readExactSpec)) readExactUptoCard
end Rows
end Go.Proofs.YtdejcapbggjjgaaGreatDoor
