/-
  DERIVED. GIVEN WITH THE SEED: THE CARDS: each row of YtnpjmanagecpkaaDoorRows.lean that lists a variable, with what it lists TIED to the program's text (the seventh form; the later family's looks); each row that meets fmt, with fmt's text TOLD by the authors' own Lean function (tested against real Go, not proved from fmt's source: count such statements apart). THE CARD IS WHAT COUNTS. Prove the row's statement (the work); the ties are given (YtnpjmanagecpkaaDoorTie.lean); close each card by the builder's one call (the guide's Derived/Test/ToyasCard.lean, 'card_holds'). Laid BY PROGRAM, IN A SANDBOX (cutbox-door.mjs). By AI agents, Wed Nov 11 2026. No macro, syntax, notation, axiom, sorry.
-/
import Derived.Test.YtnpjmanagecpkaaDoorRows
import GoSem.ClaimSeven
namespace Go.Proofs.YtnpjmanagecpkaaDoor
namespace Rows

/-- THE TIED CARD OF 'trellislaw11.SchemaFilled'. -/
def schemaFilledCard : Claim7 := { stood := { row := schemaFilledRow, standIns := [], harness := (true, "d361532bd6dc8d58fc068b7ca07a6f9c60de63019d300f9ef9ab77ef39f924e2"), looks := false }, kinds := [], alts := [], laidByText := true, laidKinds := [.data, .data, .pinned], laidTests := true, laidLooks := .later }
def SchemaFilledCardSaid : Prop := Claim7.holds Tryd.pinned (.plain (OpenSpec.ofChange schemaFilledSpec)) schemaFilledCard

/-- THE TIED CARD OF 'trellislaw11.SchemaEnds'. -/
def schemaEndsCard : Claim7 := { stood := { row := schemaEndsRow, standIns := [], harness := (true, "d361532bd6dc8d58fc068b7ca07a6f9c60de63019d300f9ef9ab77ef39f924e2"), looks := false }, kinds := [], alts := [], laidByText := true, laidKinds := [.data, .data, .pinned], laidTests := true, laidLooks := .later }
def SchemaEndsCardSaid : Prop := Claim7.holds Tryd.pinned (.plain (OpenSpec.ofChange schemaEndsSpec)) schemaEndsCard

/-- THE SECOND FORM's CARD OF 'trellislaw11.SchemaFilled'. -/
def schemaFilledUptoCard : Claim7 := { stood := { row := schemaFilledUptoRow, standIns := [], harness := (true, "d361532bd6dc8d58fc068b7ca07a6f9c60de63019d300f9ef9ab77ef39f924e2"), looks := false }, kinds := [], alts := [], laidByText := true, laidKinds := [.data, .data, .pinned], laidTests := true, laidLooks := .later }
def SchemaFilledUptoCardSaid : Prop := Claim7.holds Tryd.pinned (.plain (OpenSpec.upto schemaFilledSpec)) schemaFilledUptoCard

/-- THE SECOND FORM's CARD OF 'trellislaw11.SchemaEnds'. -/
def schemaEndsUptoCard : Claim7 := { stood := { row := schemaEndsUptoRow, standIns := [], harness := (true, "d361532bd6dc8d58fc068b7ca07a6f9c60de63019d300f9ef9ab77ef39f924e2"), looks := false }, kinds := [], alts := [], laidByText := true, laidKinds := [.data, .data, .pinned], laidTests := true, laidLooks := .later }
def SchemaEndsUptoCardSaid : Prop := Claim7.holds Tryd.pinned (.plain (OpenSpec.upto schemaEndsSpec)) schemaEndsUptoCard
end Rows
end Go.Proofs.YtnpjmanagecpkaaDoor
