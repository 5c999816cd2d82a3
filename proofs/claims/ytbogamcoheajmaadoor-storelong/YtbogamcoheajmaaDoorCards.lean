/-
  DERIVED. GIVEN WITH THE SEED: THE CARDS: each row of YtbogamcoheajmaaDoorRows.lean that lists a variable, with what it lists TIED to the program's text (the seventh form; the later family's looks); each row that meets fmt, with fmt's text TOLD by the authors' own Lean function (tested against real Go, not proved from fmt's source: count such statements apart). THE CARD IS WHAT COUNTS. Prove the row's statement (the work); the ties are given (YtbogamcoheajmaaDoorTie.lean); close each card by the builder's one call (the guide's Derived/Test/ToyasCard.lean, 'card_holds'). Laid BY PROGRAM, IN A SANDBOX (cutbox-door.mjs). By AI agents, Wed Nov 11 2026. No macro, syntax, notation, axiom, sorry.
-/
import Derived.Test.YtbogamcoheajmaaDoorRows
import GoSem.ClaimSeven
namespace Go.Proofs.YtbogamcoheajmaaDoor
namespace Rows

/-- THE TIED CARD OF 'trellislaw13.StoreLong'. -/
def storeLongCard : Claim7 := { stood := { row := storeLongRow, standIns := [], harness := (true, "b833da751564729975f8a5f1dbe1a5af9e629c6e67289b75fbbb878e67adde51"), looks := false }, kinds := [], alts := [], laidByText := true, laidKinds := [.data], laidTests := true, laidLooks := .later }
def StoreLongCardSaid : Prop := Claim7.holds Tryd.pinned (.plain (OpenSpec.ofChange storeLongSpec)) storeLongCard

/-- THE SECOND FORM's CARD OF 'trellislaw13.StoreLong'. -/
def storeLongUptoCard : Claim7 := { stood := { row := storeLongUptoRow, standIns := [], harness := (true, "b833da751564729975f8a5f1dbe1a5af9e629c6e67289b75fbbb878e67adde51"), looks := false }, kinds := [], alts := [], laidByText := true, laidKinds := [.data], laidTests := true, laidLooks := .later }
def StoreLongUptoCardSaid : Prop := Claim7.holds Tryd.pinned (.plain (OpenSpec.upto storeLongSpec)) storeLongUptoCard
end Rows
end Go.Proofs.YtbogamcoheajmaaDoor
