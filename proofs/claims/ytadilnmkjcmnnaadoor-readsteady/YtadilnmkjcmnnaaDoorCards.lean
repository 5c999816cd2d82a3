/-
  DERIVED. GIVEN WITH THE SEED: THE CARDS: each row of YtadilnmkjcmnnaaDoorRows.lean that lists a variable, with what it lists TIED to the program's text (the seventh form; the later family's looks); each row that meets fmt, with fmt's text TOLD by the authors' own Lean function (tested against real Go, not proved from fmt's source: count such statements apart). THE CARD IS WHAT COUNTS. Prove the row's statement (the work); the ties are given (YtadilnmkjcmnnaaDoorTie.lean); close each card by the builder's one call (the guide's Derived/Test/ToyasCard.lean, 'card_holds'). Laid BY PROGRAM, IN A SANDBOX (cutbox-door.mjs). By AI agents, Wed Nov 11 2026. No macro, syntax, notation, axiom, sorry.
-/
import Derived.Test.YtadilnmkjcmnnaaDoorRows
import GoSem.ClaimSeven
namespace Go.Proofs.YtadilnmkjcmnnaaDoor
namespace Rows

/-- THE TIED CARD OF 'trellislaw8.ReadSteady'. -/
def readSteadyCard : Claim7 := { stood := { row := readSteadyRow, standIns := [], harness := (true, "e00f961d9c6e1fd7a7fcf12ac913fb9c1b4d29ea3e5cdda0188bcead9824cefb"), looks := false }, kinds := [], alts := [], laidByText := true, laidKinds := [.data, .pinned], laidTests := true, laidLooks := .later }
def ReadSteadyCardSaid : Prop := Claim7.holds Tryd.pinned (.plain (OpenSpec.ofChange readSteadySpec)) readSteadyCard

/-- THE SECOND FORM's CARD OF 'trellislaw8.ReadSteady'. -/
def readSteadyUptoCard : Claim7 := { stood := { row := readSteadyUptoRow, standIns := [], harness := (true, "e00f961d9c6e1fd7a7fcf12ac913fb9c1b4d29ea3e5cdda0188bcead9824cefb"), looks := false }, kinds := [], alts := [], laidByText := true, laidKinds := [.data, .pinned], laidTests := true, laidLooks := .later }
def ReadSteadyUptoCardSaid : Prop := Claim7.holds Tryd.pinned (.plain (OpenSpec.upto readSteadySpec)) readSteadyUptoCard
end Rows
end Go.Proofs.YtadilnmkjcmnnaaDoor
