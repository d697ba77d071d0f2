/-
  DERIVED. GIVEN WITH THE SEED: THE CARDS: each row of YtnedjafpjbfncaaGreatDoorRows.lean that lists a variable, with what it lists TIED to the program's text (the seventh form; the later family's looks); each row that meets fmt, with fmt's text TOLD by the authors' own Lean function (tested against real Go, not proved from fmt's source: count such statements apart). THE CARD IS WHAT COUNTS. Prove the row's statement (the work); the ties are given (YtnedjafpjbfncaaGreatDoorTie.lean); close each card by the builder's one call (the guide's Derived/Test/ToyasCard.lean, 'card_holds'). Laid BY PROGRAM, IN A SANDBOX (cutbox-door.mjs). By AI agents, Wed Nov 11 2026. No macro, syntax, notation, axiom, sorry.
-/
import Derived.Test.YtnedjafpjbfncaaGreatDoorRows
import GoSem.ClaimSeven
namespace Go.Proofs.YtnedjafpjbfncaaGreatDoor
namespace Rows

/-- THE TIED CARD OF 'virgulelaw19.TokenAll'. -/
def tokenAllCard : Claim7 := { stood := { row := tokenAllRow, standIns := [], harness := (true, "58902377a7983df7a674fc44eaab2a8449d52dd4ee6546e63f76fbf255702d0f"), looks := true }, kinds := [], alts := [], laidByText := true, laidKinds := [.data, .data, .data, .data, .sentinel, .sentinel, .pinned, .pinned], laidTests := true, laidLooks := .later }
def TokenAllCardSaid : Prop := Claim7.holds Tryz.pinned (.plain (OpenSpec.ofChange tokenAllSpec)) tokenAllCard

/-- THE TIED CARD OF 'virgulelaw19.TokenTiles'. -/
def tokenTilesCard : Claim7 := { stood := { row := tokenTilesRow, standIns := [], harness := (true, "58902377a7983df7a674fc44eaab2a8449d52dd4ee6546e63f76fbf255702d0f"), looks := true }, kinds := [], alts := [], laidByText := true, laidKinds := [.data, .data, .data, .data, .sentinel, .sentinel, .pinned, .pinned], laidTests := true, laidLooks := .later }
def TokenTilesCardSaid : Prop := Claim7.holds Tryz.pinned (.plain (OpenSpec.ofChange tokenTilesSpec)) tokenTilesCard

/-- THE TIED CARD OF 'virgulelaw19.TokenAt'. -/
def tokenAtCard : Claim7 := { stood := { row := tokenAtRow, standIns := [], harness := (true, "58902377a7983df7a674fc44eaab2a8449d52dd4ee6546e63f76fbf255702d0f"), looks := true }, kinds := [], alts := [], laidByText := true, laidKinds := [.data, .data, .data, .data, .sentinel, .sentinel, .pinned, .pinned], laidTests := true, laidLooks := .later }
def TokenAtCardSaid : Prop := Claim7.holds Tryz.pinned (.plain (OpenSpec.ofChange tokenAtSpec)) tokenAtCard

/-- THE TIED CARD OF 'virgulelaw19.TokenPrints'. -/
def tokenPrintsCard : Claim7 := { stood := { row := tokenPrintsRow, standIns := [], harness := (true, "58902377a7983df7a674fc44eaab2a8449d52dd4ee6546e63f76fbf255702d0f"), looks := true }, kinds := [], alts := [], laidByText := true, laidKinds := [.data, .data, .data, .data, .sentinel, .sentinel, .pinned, .pinned], laidTests := true, laidLooks := .later }
def TokenPrintsCardSaid : Prop := Claim7.holds Tryz.pinned (.plain (OpenSpec.ofChange tokenPrintsSpec)) tokenPrintsCard

/-- THE TIED CARD OF 'virgulelaw19.TokenParts'. -/
def tokenPartsCard : Claim7 := { stood := { row := tokenPartsRow, standIns := [], harness := (true, "58902377a7983df7a674fc44eaab2a8449d52dd4ee6546e63f76fbf255702d0f"), looks := true }, kinds := [], alts := [], laidByText := true, laidKinds := [.data, .data, .data, .data, .sentinel, .sentinel, .pinned, .pinned], laidTests := true, laidLooks := .later }
def TokenPartsCardSaid : Prop := Claim7.holds Tryz.pinned (.plain (OpenSpec.ofChange tokenPartsSpec)) tokenPartsCard

/-- THE SECOND FORM's CARD OF 'virgulelaw19.TokenAll'. -/
def tokenAllUptoCard : Claim7 := { stood := { row := tokenAllUptoRow, standIns := [], harness := (true, "58902377a7983df7a674fc44eaab2a8449d52dd4ee6546e63f76fbf255702d0f"), looks := true }, kinds := [], alts := [], laidByText := true, laidKinds := [.data, .data, .data, .data, .sentinel, .sentinel, .pinned, .pinned], laidTests := true, laidLooks := .later }
def TokenAllUptoCardSaid : Prop := Claim7.holds Tryz.pinned (.plain (OpenSpec.upto tokenAllSpec)) tokenAllUptoCard

/-- THE SECOND FORM's CARD OF 'virgulelaw19.TokenTiles'. -/
def tokenTilesUptoCard : Claim7 := { stood := { row := tokenTilesUptoRow, standIns := [], harness := (true, "58902377a7983df7a674fc44eaab2a8449d52dd4ee6546e63f76fbf255702d0f"), looks := true }, kinds := [], alts := [], laidByText := true, laidKinds := [.data, .data, .data, .data, .sentinel, .sentinel, .pinned, .pinned], laidTests := true, laidLooks := .later }
def TokenTilesUptoCardSaid : Prop := Claim7.holds Tryz.pinned (.plain (OpenSpec.upto tokenTilesSpec)) tokenTilesUptoCard

/-- THE SECOND FORM's CARD OF 'virgulelaw19.TokenAt'. -/
def tokenAtUptoCard : Claim7 := { stood := { row := tokenAtUptoRow, standIns := [], harness := (true, "58902377a7983df7a674fc44eaab2a8449d52dd4ee6546e63f76fbf255702d0f"), looks := true }, kinds := [], alts := [], laidByText := true, laidKinds := [.data, .data, .data, .data, .sentinel, .sentinel, .pinned, .pinned], laidTests := true, laidLooks := .later }
def TokenAtUptoCardSaid : Prop := Claim7.holds Tryz.pinned (.plain (OpenSpec.upto tokenAtSpec)) tokenAtUptoCard

/-- THE SECOND FORM's CARD OF 'virgulelaw19.TokenPrints'. -/
def tokenPrintsUptoCard : Claim7 := { stood := { row := tokenPrintsUptoRow, standIns := [], harness := (true, "58902377a7983df7a674fc44eaab2a8449d52dd4ee6546e63f76fbf255702d0f"), looks := true }, kinds := [], alts := [], laidByText := true, laidKinds := [.data, .data, .data, .data, .sentinel, .sentinel, .pinned, .pinned], laidTests := true, laidLooks := .later }
def TokenPrintsUptoCardSaid : Prop := Claim7.holds Tryz.pinned (.plain (OpenSpec.upto tokenPrintsSpec)) tokenPrintsUptoCard

/-- THE SECOND FORM's CARD OF 'virgulelaw19.TokenParts'. -/
def tokenPartsUptoCard : Claim7 := { stood := { row := tokenPartsUptoRow, standIns := [], harness := (true, "58902377a7983df7a674fc44eaab2a8449d52dd4ee6546e63f76fbf255702d0f"), looks := true }, kinds := [], alts := [], laidByText := true, laidKinds := [.data, .data, .data, .data, .sentinel, .sentinel, .pinned, .pinned], laidTests := true, laidLooks := .later }
def TokenPartsUptoCardSaid : Prop := Claim7.holds Tryz.pinned (.plain (OpenSpec.upto tokenPartsSpec)) tokenPartsUptoCard
end Rows
end Go.Proofs.YtnedjafpjbfncaaGreatDoor
