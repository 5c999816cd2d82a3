/-
  DERIVED. GIVEN WITH THE SEED: THE CARDS: each row of YtjlknnpgngaooaaGreatDoorRows.lean that lists a variable, with what it lists TIED to the program's text (the seventh form; the later family's looks); each row that meets fmt, with fmt's text TOLD by the authors' own Lean function (tested against real Go, not proved from fmt's source: count such statements apart). THE CARD IS WHAT COUNTS. Prove the row's statement (the work); the ties are given (YtjlknnpgngaooaaGreatDoorTie.lean); close each card by the builder's one call (the guide's Derived/Test/ToyasCard.lean, 'card_holds'). Laid BY PROGRAM, IN A SANDBOX (cutbox-door.mjs). By AI agents, Wed Nov 11 2026. No macro, syntax, notation, axiom, sorry.
-/
import Derived.Test.YtjlknnpgngaooaaGreatDoorRows
import GoSem.ClaimSeven
namespace Go.Proofs.YtjlknnpgngaooaaGreatDoor
namespace Rows

/-- THE TIED CARD OF 'trellislaw7.LayExact'. -/
def layExactCard : Claim7 := { stood := { row := layExactRow, standIns := [], harness := (true, "a67b573e34ccf9284e49358b0aacd8590c15687bc8947e1a39a38c3eeecaa347"), looks := true }, kinds := [], alts := [], laidByText := true, laidKinds := [.data, .pinned], laidTests := true, laidLooks := .later }
def LayExactCardSaid : Prop := Claim7.holds Tryz.pinned (.plain (OpenSpec.ofChange layExactSpec)) layExactCard

/-- THE TIED CARD OF 'trellislaw7.LayOne'. -/
def layOneCard : Claim7 := { stood := { row := layOneRow, standIns := [], harness := (true, "a67b573e34ccf9284e49358b0aacd8590c15687bc8947e1a39a38c3eeecaa347"), looks := true }, kinds := [], alts := [], laidByText := true, laidKinds := [.data, .pinned], laidTests := true, laidLooks := .later }
def LayOneCardSaid : Prop := Claim7.holds Tryz.pinned (.plain (OpenSpec.ofChange layOneSpec)) layOneCard

/-- THE SECOND FORM's CARD OF 'trellislaw7.LayExact'. -/
def layExactUptoCard : Claim7 := { stood := { row := layExactUptoRow, standIns := [], harness := (true, "a67b573e34ccf9284e49358b0aacd8590c15687bc8947e1a39a38c3eeecaa347"), looks := true }, kinds := [], alts := [], laidByText := true, laidKinds := [.data, .pinned], laidTests := true, laidLooks := .later }
def LayExactUptoCardSaid : Prop := Claim7.holds Tryz.pinned (.plain (OpenSpec.upto layExactSpec)) layExactUptoCard

/-- THE SECOND FORM's CARD OF 'trellislaw7.LayOne'. -/
def layOneUptoCard : Claim7 := { stood := { row := layOneUptoRow, standIns := [], harness := (true, "a67b573e34ccf9284e49358b0aacd8590c15687bc8947e1a39a38c3eeecaa347"), looks := true }, kinds := [], alts := [], laidByText := true, laidKinds := [.data, .pinned], laidTests := true, laidLooks := .later }
def LayOneUptoCardSaid : Prop := Claim7.holds Tryz.pinned (.plain (OpenSpec.upto layOneSpec)) layOneUptoCard
end Rows
end Go.Proofs.YtjlknnpgngaooaaGreatDoor
