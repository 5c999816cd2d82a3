/-
  DERIVED. GIVEN WITH THE SEED: THE CARDS: each row of YtglbllkmhedlfaaDoorRows.lean that lists a variable, with what it lists TIED to the program's text (the seventh form; the later family's looks); each row that meets fmt, with fmt's text TOLD by the authors' own Lean function (tested against real Go, not proved from fmt's source: count such statements apart). THE CARD IS WHAT COUNTS. Prove the row's statement (the work); the ties are given (YtglbllkmhedlfaaDoorTie.lean); close each card by the builder's one call (the guide's Derived/Test/ToyasCard.lean, 'card_holds'). Laid BY PROGRAM, IN A SANDBOX (cutbox-door.mjs). By AI agents, Wed Nov 11 2026. No macro, syntax, notation, axiom, sorry.
-/
import Derived.Test.YtglbllkmhedlfaaDoorRows
import GoSem.ClaimSeven
namespace Go.Proofs.YtglbllkmhedlfaaDoor
namespace Rows

/-- THE TIED CARD OF 'trellislaw6.ValuePlace'. -/
def valuePlaceCard : Claim7 := { stood := { row := valuePlaceRow, standIns := [], harness := (true, "ff1645671440999711f79c171adf14bd4197684f5a0bddc168802ede14b668ae"), looks := false }, kinds := [], alts := [], laidByText := true, laidKinds := [.data, .pinned], laidTests := true, laidLooks := .later }
def ValuePlaceCardSaid : Prop := Claim7.holds Tryd.pinned (.plain (OpenSpec.ofChange valuePlaceSpec)) valuePlaceCard

/-- THE SECOND FORM's CARD OF 'trellislaw6.ValuePlace'. -/
def valuePlaceUptoCard : Claim7 := { stood := { row := valuePlaceUptoRow, standIns := [], harness := (true, "ff1645671440999711f79c171adf14bd4197684f5a0bddc168802ede14b668ae"), looks := false }, kinds := [], alts := [], laidByText := true, laidKinds := [.data, .pinned], laidTests := true, laidLooks := .later }
def ValuePlaceUptoCardSaid : Prop := Claim7.holds Tryd.pinned (.plain (OpenSpec.upto valuePlaceSpec)) valuePlaceUptoCard
end Rows
end Go.Proofs.YtglbllkmhedlfaaDoor
