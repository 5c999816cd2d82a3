/-
  DERIVED. GIVEN WITH THE SEED: THE CARDS: each row of YtedgdnoafajhoaaDoorRows.lean that lists a variable, with what it lists TIED to the program's text (the seventh form; the later family's looks); each row that meets fmt, with fmt's text TOLD by the authors' own Lean function (tested against real Go, not proved from fmt's source: count such statements apart). THE CARD IS WHAT COUNTS. Prove the row's statement (the work); the ties are given (YtedgdnoafajhoaaDoorTie.lean); close each card by the builder's one call (the guide's Derived/Test/ToyasCard.lean, 'card_holds'). Laid BY PROGRAM, IN A SANDBOX (cutbox-door.mjs). By AI agents, Wed Nov 11 2026. No macro, syntax, notation, axiom, sorry.
-/
import Derived.Test.YtedgdnoafajhoaaDoorRows
import GoSem.ClaimSeven
namespace Go.Proofs.YtedgdnoafajhoaaDoor
namespace Rows

/-- THE TIED CARD OF 'trellislaw3.DigestExact'. -/
def digestExactCard : Claim7 := { stood := { row := digestExactRow, standIns := [], harness := (true, "2cf52acac150ff2cee87976c51e44be699c4b929e59a08632893f4eabf4284be"), looks := false }, kinds := [], alts := [], laidByText := true, laidKinds := [.data], laidTests := true, laidLooks := .later }
def DigestExactCardSaid : Prop := Claim7.holds Tryd.pinned (.plain (OpenSpec.ofChange digestExactSpec)) digestExactCard

/-- THE TIED CARD OF 'trellislaw3.DigestParts'. -/
def digestPartsCard : Claim7 := { stood := { row := digestPartsRow, standIns := [], harness := (true, "2cf52acac150ff2cee87976c51e44be699c4b929e59a08632893f4eabf4284be"), looks := false }, kinds := [], alts := [], laidByText := true, laidKinds := [.data], laidTests := true, laidLooks := .later }
def DigestPartsCardSaid : Prop := Claim7.holds Tryd.pinned (.plain (OpenSpec.ofChange digestPartsSpec)) digestPartsCard

/-- THE TIED CARD OF 'trellislaw3.DigestLaid'. -/
def digestLaidCard : Claim7 := { stood := { row := digestLaidRow, standIns := [], harness := (true, "2cf52acac150ff2cee87976c51e44be699c4b929e59a08632893f4eabf4284be"), looks := false }, kinds := [], alts := [], laidByText := true, laidKinds := [.data], laidTests := true, laidLooks := .later }
def DigestLaidCardSaid : Prop := Claim7.holds Tryd.pinned (.plain (OpenSpec.ofChange digestLaidSpec)) digestLaidCard

/-- THE TIED CARD OF 'trellislaw3.DigestHolds'. -/
def digestHoldsCard : Claim7 := { stood := { row := digestHoldsRow, standIns := [], harness := (true, "2cf52acac150ff2cee87976c51e44be699c4b929e59a08632893f4eabf4284be"), looks := false }, kinds := [], alts := [], laidByText := true, laidKinds := [.data], laidTests := true, laidLooks := .later }
def DigestHoldsCardSaid : Prop := Claim7.holds Tryd.pinned (.plain (OpenSpec.ofChange digestHoldsSpec)) digestHoldsCard

/-- THE TIED CARD OF 'trellislaw3.DigestWhole'. -/
def digestWholeCard : Claim7 := { stood := { row := digestWholeRow, standIns := [], harness := (true, "2cf52acac150ff2cee87976c51e44be699c4b929e59a08632893f4eabf4284be"), looks := false }, kinds := [], alts := [], laidByText := true, laidKinds := [.data], laidTests := true, laidLooks := .later }
def DigestWholeCardSaid : Prop := Claim7.holds Tryd.pinned (.plain (OpenSpec.ofChange digestWholeSpec)) digestWholeCard

/-- THE TIED CARD OF 'trellislaw3.DigestBack'. -/
def digestBackCard : Claim7 := { stood := { row := digestBackRow, standIns := [], harness := (true, "2cf52acac150ff2cee87976c51e44be699c4b929e59a08632893f4eabf4284be"), looks := false }, kinds := [], alts := [], laidByText := true, laidKinds := [.data], laidTests := true, laidLooks := .later }
def DigestBackCardSaid : Prop := Claim7.holds Tryd.pinned (.plain (OpenSpec.ofChange digestBackSpec)) digestBackCard

/-- THE SECOND FORM's CARD OF 'trellislaw3.DigestExact'. -/
def digestExactUptoCard : Claim7 := { stood := { row := digestExactUptoRow, standIns := [], harness := (true, "2cf52acac150ff2cee87976c51e44be699c4b929e59a08632893f4eabf4284be"), looks := false }, kinds := [], alts := [], laidByText := true, laidKinds := [.data], laidTests := true, laidLooks := .later }
def DigestExactUptoCardSaid : Prop := Claim7.holds Tryd.pinned (.plain (OpenSpec.upto digestExactSpec)) digestExactUptoCard

/-- THE SECOND FORM's CARD OF 'trellislaw3.DigestParts'. -/
def digestPartsUptoCard : Claim7 := { stood := { row := digestPartsUptoRow, standIns := [], harness := (true, "2cf52acac150ff2cee87976c51e44be699c4b929e59a08632893f4eabf4284be"), looks := false }, kinds := [], alts := [], laidByText := true, laidKinds := [.data], laidTests := true, laidLooks := .later }
def DigestPartsUptoCardSaid : Prop := Claim7.holds Tryd.pinned (.plain (OpenSpec.upto digestPartsSpec)) digestPartsUptoCard

/-- THE SECOND FORM's CARD OF 'trellislaw3.DigestLaid'. -/
def digestLaidUptoCard : Claim7 := { stood := { row := digestLaidUptoRow, standIns := [], harness := (true, "2cf52acac150ff2cee87976c51e44be699c4b929e59a08632893f4eabf4284be"), looks := false }, kinds := [], alts := [], laidByText := true, laidKinds := [.data], laidTests := true, laidLooks := .later }
def DigestLaidUptoCardSaid : Prop := Claim7.holds Tryd.pinned (.plain (OpenSpec.upto digestLaidSpec)) digestLaidUptoCard

/-- THE SECOND FORM's CARD OF 'trellislaw3.DigestHolds'. -/
def digestHoldsUptoCard : Claim7 := { stood := { row := digestHoldsUptoRow, standIns := [], harness := (true, "2cf52acac150ff2cee87976c51e44be699c4b929e59a08632893f4eabf4284be"), looks := false }, kinds := [], alts := [], laidByText := true, laidKinds := [.data], laidTests := true, laidLooks := .later }
def DigestHoldsUptoCardSaid : Prop := Claim7.holds Tryd.pinned (.plain (OpenSpec.upto digestHoldsSpec)) digestHoldsUptoCard

/-- THE SECOND FORM's CARD OF 'trellislaw3.DigestWhole'. -/
def digestWholeUptoCard : Claim7 := { stood := { row := digestWholeUptoRow, standIns := [], harness := (true, "2cf52acac150ff2cee87976c51e44be699c4b929e59a08632893f4eabf4284be"), looks := false }, kinds := [], alts := [], laidByText := true, laidKinds := [.data], laidTests := true, laidLooks := .later }
def DigestWholeUptoCardSaid : Prop := Claim7.holds Tryd.pinned (.plain (OpenSpec.upto digestWholeSpec)) digestWholeUptoCard

/-- THE SECOND FORM's CARD OF 'trellislaw3.DigestBack'. -/
def digestBackUptoCard : Claim7 := { stood := { row := digestBackUptoRow, standIns := [], harness := (true, "2cf52acac150ff2cee87976c51e44be699c4b929e59a08632893f4eabf4284be"), looks := false }, kinds := [], alts := [], laidByText := true, laidKinds := [.data], laidTests := true, laidLooks := .later }
def DigestBackUptoCardSaid : Prop := Claim7.holds Tryd.pinned (.plain (OpenSpec.upto digestBackSpec)) digestBackUptoCard
end Rows
end Go.Proofs.YtedgdnoafajhoaaDoor
