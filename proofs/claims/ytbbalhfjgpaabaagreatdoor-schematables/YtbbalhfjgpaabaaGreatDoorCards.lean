/-
  DERIVED. GIVEN WITH THE SEED: THE CARDS: each row of YtbbalhfjgpaabaaGreatDoorRows.lean that lists a variable, with what it lists TIED to the program's text (the seventh form; the later family's looks); each row that meets fmt, with fmt's text TOLD by the authors' own Lean function (tested against real Go, not proved from fmt's source: count such statements apart). THE CARD IS WHAT COUNTS. Prove the row's statement (the work); the ties are given (YtbbalhfjgpaabaaGreatDoorTie.lean); close each card by the builder's one call (the guide's Derived/Test/ToyasCard.lean, 'card_holds'). Laid BY PROGRAM, IN A SANDBOX (cutbox-door.mjs). By AI agents, Wed Nov 11 2026. No macro, syntax, notation, axiom, sorry.
-/
import Derived.Test.YtbbalhfjgpaabaaGreatDoorRows
import GoSem.ClaimSeven
namespace Go.Proofs.YtbbalhfjgpaabaaGreatDoor
namespace Rows

/-- THE TIED CARD OF 'trellislaw11.SchemaTables'. -/
def schemaTablesCard : Claim7 := { stood := { row := schemaTablesRow, standIns := [], harness := (true, "ddc623a0d576961c3da61e02065eabb217ba248ad9edc0df9d29ba42157b7935"), looks := false }, kinds := [], alts := [], laidByText := true, laidKinds := [.data, .data, .pinned], laidTests := true, laidLooks := .later }
def SchemaTablesCardSaid : Prop := Claim7.holds Tryz.pinned (.plain (OpenSpec.ofChange schemaTablesSpec)) schemaTablesCard

/-- THE SECOND FORM's CARD OF 'trellislaw11.SchemaTables'. -/
def schemaTablesUptoCard : Claim7 := { stood := { row := schemaTablesUptoRow, standIns := [], harness := (true, "ddc623a0d576961c3da61e02065eabb217ba248ad9edc0df9d29ba42157b7935"), looks := false }, kinds := [], alts := [], laidByText := true, laidKinds := [.data, .data, .pinned], laidTests := true, laidLooks := .later }
def SchemaTablesUptoCardSaid : Prop := Claim7.holds Tryz.pinned (.plain (OpenSpec.upto schemaTablesSpec)) schemaTablesUptoCard
end Rows
end Go.Proofs.YtbbalhfjgpaabaaGreatDoor
