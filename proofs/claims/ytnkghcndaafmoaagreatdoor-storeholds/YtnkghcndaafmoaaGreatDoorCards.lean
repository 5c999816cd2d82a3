/-
  DERIVED. GIVEN WITH THE SEED: THE CARDS: each row of YtnkghcndaafmoaaGreatDoorRows.lean that lists a variable, with what it lists TIED to the program's text (the seventh form; the later family's looks); each row that meets fmt, with fmt's text TOLD by the authors' own Lean function (tested against real Go, not proved from fmt's source: count such statements apart). THE CARD IS WHAT COUNTS. Prove the row's statement (the work); the ties are given (YtnkghcndaafmoaaGreatDoorTie.lean); close each card by the builder's one call (the guide's Derived/Test/ToyasCard.lean, 'card_holds'). Laid BY PROGRAM, IN A SANDBOX (cutbox-door.mjs). By AI agents, Wed Nov 11 2026. No macro, syntax, notation, axiom, sorry.
-/
import Derived.Test.YtnkghcndaafmoaaGreatDoorRows
import GoSem.ClaimSeven
namespace Go.Proofs.YtnkghcndaafmoaaGreatDoor
namespace Rows

/-- THE TIED CARD OF 'trellislaw13.StoreExact'. -/
def storeExactCard : Claim7 := { stood := { row := storeExactRow, standIns := [], harness := (true, "0ada7256f0fb86159df9842b7ad8fcaddee7fb410a6bdef18233971e759079e8"), looks := true }, kinds := [], alts := [], laidByText := true, laidKinds := [.data], laidTests := true, laidLooks := .later }
def StoreExactCardSaid : Prop := Claim7.holds Tryz.pinned (.plain (OpenSpec.ofChange storeExactSpec)) storeExactCard

/-- THE TIED CARD OF 'trellislaw13.StoreFresh'. -/
def storeFreshCard : Claim7 := { stood := { row := storeFreshRow, standIns := [], harness := (true, "0ada7256f0fb86159df9842b7ad8fcaddee7fb410a6bdef18233971e759079e8"), looks := true }, kinds := [], alts := [], laidByText := true, laidKinds := [.data], laidTests := true, laidLooks := .later }
def StoreFreshCardSaid : Prop := Claim7.holds Tryz.pinned (.plain (OpenSpec.ofChange storeFreshSpec)) storeFreshCard

/-- THE TIED CARD OF 'trellislaw13.StoreHolds'. -/
def storeHoldsCard : Claim7 := { stood := { row := storeHoldsRow, standIns := [], harness := (true, "0ada7256f0fb86159df9842b7ad8fcaddee7fb410a6bdef18233971e759079e8"), looks := true }, kinds := [], alts := [], laidByText := true, laidKinds := [.data], laidTests := true, laidLooks := .later }
def StoreHoldsCardSaid : Prop := Claim7.holds Tryz.pinned (.plain (OpenSpec.ofChange storeHoldsSpec)) storeHoldsCard

/-- THE SECOND FORM's CARD OF 'trellislaw13.StoreExact'. -/
def storeExactUptoCard : Claim7 := { stood := { row := storeExactUptoRow, standIns := [], harness := (true, "0ada7256f0fb86159df9842b7ad8fcaddee7fb410a6bdef18233971e759079e8"), looks := true }, kinds := [], alts := [], laidByText := true, laidKinds := [.data], laidTests := true, laidLooks := .later }
def StoreExactUptoCardSaid : Prop := Claim7.holds Tryz.pinned (.plain (OpenSpec.upto storeExactSpec)) storeExactUptoCard

/-- THE SECOND FORM's CARD OF 'trellislaw13.StoreFresh'. -/
def storeFreshUptoCard : Claim7 := { stood := { row := storeFreshUptoRow, standIns := [], harness := (true, "0ada7256f0fb86159df9842b7ad8fcaddee7fb410a6bdef18233971e759079e8"), looks := true }, kinds := [], alts := [], laidByText := true, laidKinds := [.data], laidTests := true, laidLooks := .later }
def StoreFreshUptoCardSaid : Prop := Claim7.holds Tryz.pinned (.plain (OpenSpec.upto storeFreshSpec)) storeFreshUptoCard

/-- THE SECOND FORM's CARD OF 'trellislaw13.StoreHolds'. -/
def storeHoldsUptoCard : Claim7 := { stood := { row := storeHoldsUptoRow, standIns := [], harness := (true, "0ada7256f0fb86159df9842b7ad8fcaddee7fb410a6bdef18233971e759079e8"), looks := true }, kinds := [], alts := [], laidByText := true, laidKinds := [.data], laidTests := true, laidLooks := .later }
def StoreHoldsUptoCardSaid : Prop := Claim7.holds Tryz.pinned (.plain (OpenSpec.upto storeHoldsSpec)) storeHoldsUptoCard
end Rows
end Go.Proofs.YtnkghcndaafmoaaGreatDoor
