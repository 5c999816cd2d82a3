/-
  DERIVED. GIVEN WITH THE SEED: THE CARDS: each row of YtibcepokeaaoiaaDoorRows.lean that lists a variable, with what it lists TIED to the program's text (the seventh form; the later family's looks); each row that meets fmt, with fmt's text TOLD by the authors' own Lean function (tested against real Go, not proved from fmt's source: count such statements apart). THE CARD IS WHAT COUNTS. Prove the row's statement (the work); the ties are given (YtibcepokeaaoiaaDoorTie.lean); close each card by the builder's one call (the guide's Derived/Test/ToyasCard.lean, 'card_holds'). Laid BY PROGRAM, IN A SANDBOX (cutbox-door.mjs). By AI agents, Wed Nov 11 2026. No macro, syntax, notation, axiom, sorry.
-/
import Derived.Test.YtibcepokeaaoiaaDoorRows
import GoSem.ClaimSeven
namespace Go.Proofs.YtibcepokeaaoiaaDoor
namespace Rows

/-- THE TIED CARD OF 'trellislaw6.ValueCheck'. -/
def valueCheckCard : Claim7 := { stood := { row := valueCheckRow, standIns := [], harness := (true, "b3ee312d3bffdb8642e2128002d5112f32414f5e6bfe2d0ec5abd38274d5102d"), looks := false }, kinds := [], alts := [], laidByText := true, laidKinds := [.data, .pinned], laidTests := true, laidLooks := .later }
def ValueCheckCardSaid : Prop := Claim7.holds Tryd.pinned (.plain (OpenSpec.ofChange valueCheckSpec)) valueCheckCard

/-- THE TIED CARD OF 'trellislaw6.ValueEqual'. -/
def valueEqualCard : Claim7 := { stood := { row := valueEqualRow, standIns := [], harness := (true, "b3ee312d3bffdb8642e2128002d5112f32414f5e6bfe2d0ec5abd38274d5102d"), looks := false }, kinds := [], alts := [], laidByText := true, laidKinds := [.data, .pinned], laidTests := true, laidLooks := .later }
def ValueEqualCardSaid : Prop := Claim7.holds Tryd.pinned (.plain (OpenSpec.ofChange valueEqualSpec)) valueEqualCard

/-- THE TIED CARD OF 'trellislaw6.ValueBefore'. -/
def valueBeforeCard : Claim7 := { stood := { row := valueBeforeRow, standIns := [], harness := (true, "b3ee312d3bffdb8642e2128002d5112f32414f5e6bfe2d0ec5abd38274d5102d"), looks := false }, kinds := [], alts := [], laidByText := true, laidKinds := [.data, .pinned], laidTests := true, laidLooks := .later }
def ValueBeforeCardSaid : Prop := Claim7.holds Tryd.pinned (.plain (OpenSpec.ofChange valueBeforeSpec)) valueBeforeCard

/-- THE TIED CARD OF 'trellislaw6.ValuePlace'. -/
def valuePlaceCard : Claim7 := { stood := { row := valuePlaceRow, standIns := [], harness := (true, "b3ee312d3bffdb8642e2128002d5112f32414f5e6bfe2d0ec5abd38274d5102d"), looks := false }, kinds := [], alts := [], laidByText := true, laidKinds := [.data, .pinned], laidTests := true, laidLooks := .later }
def ValuePlaceCardSaid : Prop := Claim7.holds Tryd.pinned (.plain (OpenSpec.ofChange valuePlaceSpec)) valuePlaceCard

/-- THE TIED CARD OF 'trellislaw6.ValueRaw'. -/
def valueRawCard : Claim7 := { stood := { row := valueRawRow, standIns := [], harness := (true, "b3ee312d3bffdb8642e2128002d5112f32414f5e6bfe2d0ec5abd38274d5102d"), looks := false }, kinds := [], alts := [], laidByText := true, laidKinds := [.data, .pinned], laidTests := true, laidLooks := .later }
def ValueRawCardSaid : Prop := Claim7.holds Tryd.pinned (.plain (OpenSpec.ofChange valueRawSpec)) valueRawCard

/-- THE SECOND FORM's CARD OF 'trellislaw6.ValueCheck'. -/
def valueCheckUptoCard : Claim7 := { stood := { row := valueCheckUptoRow, standIns := [], harness := (true, "b3ee312d3bffdb8642e2128002d5112f32414f5e6bfe2d0ec5abd38274d5102d"), looks := false }, kinds := [], alts := [], laidByText := true, laidKinds := [.data, .pinned], laidTests := true, laidLooks := .later }
def ValueCheckUptoCardSaid : Prop := Claim7.holds Tryd.pinned (.plain (OpenSpec.upto valueCheckSpec)) valueCheckUptoCard

/-- THE SECOND FORM's CARD OF 'trellislaw6.ValueEqual'. -/
def valueEqualUptoCard : Claim7 := { stood := { row := valueEqualUptoRow, standIns := [], harness := (true, "b3ee312d3bffdb8642e2128002d5112f32414f5e6bfe2d0ec5abd38274d5102d"), looks := false }, kinds := [], alts := [], laidByText := true, laidKinds := [.data, .pinned], laidTests := true, laidLooks := .later }
def ValueEqualUptoCardSaid : Prop := Claim7.holds Tryd.pinned (.plain (OpenSpec.upto valueEqualSpec)) valueEqualUptoCard

/-- THE SECOND FORM's CARD OF 'trellislaw6.ValueBefore'. -/
def valueBeforeUptoCard : Claim7 := { stood := { row := valueBeforeUptoRow, standIns := [], harness := (true, "b3ee312d3bffdb8642e2128002d5112f32414f5e6bfe2d0ec5abd38274d5102d"), looks := false }, kinds := [], alts := [], laidByText := true, laidKinds := [.data, .pinned], laidTests := true, laidLooks := .later }
def ValueBeforeUptoCardSaid : Prop := Claim7.holds Tryd.pinned (.plain (OpenSpec.upto valueBeforeSpec)) valueBeforeUptoCard

/-- THE SECOND FORM's CARD OF 'trellislaw6.ValuePlace'. -/
def valuePlaceUptoCard : Claim7 := { stood := { row := valuePlaceUptoRow, standIns := [], harness := (true, "b3ee312d3bffdb8642e2128002d5112f32414f5e6bfe2d0ec5abd38274d5102d"), looks := false }, kinds := [], alts := [], laidByText := true, laidKinds := [.data, .pinned], laidTests := true, laidLooks := .later }
def ValuePlaceUptoCardSaid : Prop := Claim7.holds Tryd.pinned (.plain (OpenSpec.upto valuePlaceSpec)) valuePlaceUptoCard

/-- THE SECOND FORM's CARD OF 'trellislaw6.ValueRaw'. -/
def valueRawUptoCard : Claim7 := { stood := { row := valueRawUptoRow, standIns := [], harness := (true, "b3ee312d3bffdb8642e2128002d5112f32414f5e6bfe2d0ec5abd38274d5102d"), looks := false }, kinds := [], alts := [], laidByText := true, laidKinds := [.data, .pinned], laidTests := true, laidLooks := .later }
def ValueRawUptoCardSaid : Prop := Claim7.holds Tryd.pinned (.plain (OpenSpec.upto valueRawSpec)) valueRawUptoCard
end Rows
end Go.Proofs.YtibcepokeaaoiaaDoor
