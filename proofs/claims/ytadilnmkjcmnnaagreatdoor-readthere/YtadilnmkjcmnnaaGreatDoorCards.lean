/-
  DERIVED. GIVEN WITH THE SEED: THE CARDS: each row of YtadilnmkjcmnnaaGreatDoorRows.lean that lists a variable, with what it lists TIED to the program's text (the seventh form; the later family's looks); each row that meets fmt, with fmt's text TOLD by the authors' own Lean function (tested against real Go, not proved from fmt's source: count such statements apart). THE CARD IS WHAT COUNTS. Prove the row's statement (the work); the ties are given (YtadilnmkjcmnnaaGreatDoorTie.lean); close each card by the builder's one call (the guide's Derived/Test/ToyasCard.lean, 'card_holds'). Laid BY PROGRAM, IN A SANDBOX (cutbox-door.mjs). By AI agents, Wed Nov 11 2026. No macro, syntax, notation, axiom, sorry.
-/
import Derived.Test.YtadilnmkjcmnnaaGreatDoorRows
import GoSem.ClaimSeven
namespace Go.Proofs.YtadilnmkjcmnnaaGreatDoor
namespace Rows

/-- THE TIED CARD OF 'trellislaw8.ReadExact'. -/
def readExactCard : Claim7 := { stood := { row := readExactRow, standIns := [], harness := (true, "f0024bd2083aa76d2d2c4c3fdf370cc1b205c42caac2f168f7d300ef32eb508d"), looks := true }, kinds := [], alts := [], laidByText := true, laidKinds := [.data, .pinned], laidTests := true, laidLooks := .later }
def ReadExactCardSaid : Prop := Claim7.holds Tryz.pinned (.plain (OpenSpec.ofChange readExactSpec)) readExactCard

/-- THE TIED CARD OF 'trellislaw8.ReadThere'. -/
def readThereCard : Claim7 := { stood := { row := readThereRow, standIns := [], harness := (true, "f0024bd2083aa76d2d2c4c3fdf370cc1b205c42caac2f168f7d300ef32eb508d"), looks := true }, kinds := [], alts := [], laidByText := true, laidKinds := [.data, .pinned], laidTests := true, laidLooks := .later }
def ReadThereCardSaid : Prop := Claim7.holds Tryz.pinned (.plain (OpenSpec.ofChange readThereSpec)) readThereCard

/-- THE TIED CARD OF 'trellislaw8.ReadBack'. -/
def readBackCard : Claim7 := { stood := { row := readBackRow, standIns := [], harness := (true, "f0024bd2083aa76d2d2c4c3fdf370cc1b205c42caac2f168f7d300ef32eb508d"), looks := true }, kinds := [], alts := [], laidByText := true, laidKinds := [.data, .pinned], laidTests := true, laidLooks := .later }
def ReadBackCardSaid : Prop := Claim7.holds Tryz.pinned (.plain (OpenSpec.ofChange readBackSpec)) readBackCard

/-- THE SECOND FORM's CARD OF 'trellislaw8.ReadExact'. -/
def readExactUptoCard : Claim7 := { stood := { row := readExactUptoRow, standIns := [], harness := (true, "f0024bd2083aa76d2d2c4c3fdf370cc1b205c42caac2f168f7d300ef32eb508d"), looks := true }, kinds := [], alts := [], laidByText := true, laidKinds := [.data, .pinned], laidTests := true, laidLooks := .later }
def ReadExactUptoCardSaid : Prop := Claim7.holds Tryz.pinned (.plain (OpenSpec.upto readExactSpec)) readExactUptoCard

/-- THE SECOND FORM's CARD OF 'trellislaw8.ReadThere'. -/
def readThereUptoCard : Claim7 := { stood := { row := readThereUptoRow, standIns := [], harness := (true, "f0024bd2083aa76d2d2c4c3fdf370cc1b205c42caac2f168f7d300ef32eb508d"), looks := true }, kinds := [], alts := [], laidByText := true, laidKinds := [.data, .pinned], laidTests := true, laidLooks := .later }
def ReadThereUptoCardSaid : Prop := Claim7.holds Tryz.pinned (.plain (OpenSpec.upto readThereSpec)) readThereUptoCard

/-- THE SECOND FORM's CARD OF 'trellislaw8.ReadBack'. -/
def readBackUptoCard : Claim7 := { stood := { row := readBackUptoRow, standIns := [], harness := (true, "f0024bd2083aa76d2d2c4c3fdf370cc1b205c42caac2f168f7d300ef32eb508d"), looks := true }, kinds := [], alts := [], laidByText := true, laidKinds := [.data, .pinned], laidTests := true, laidLooks := .later }
def ReadBackUptoCardSaid : Prop := Claim7.holds Tryz.pinned (.plain (OpenSpec.upto readBackSpec)) readBackUptoCard
end Rows
end Go.Proofs.YtadilnmkjcmnnaaGreatDoor
