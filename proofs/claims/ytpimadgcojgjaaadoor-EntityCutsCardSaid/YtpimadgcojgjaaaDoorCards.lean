/-
  DERIVED. GIVEN WITH THE SEED: THE CARDS: each row of YtpimadgcojgjaaaDoorRows.lean that lists a variable, with what it lists TIED to the program's text (the seventh form; the later family's looks); each row that meets fmt, with fmt's text TOLD by the authors' own Lean function (tested against real Go, not proved from fmt's source: count such statements apart). THE CARD IS WHAT COUNTS. Prove the row's statement (the work); the ties are given (YtpimadgcojgjaaaDoorTie.lean); close each card by the builder's one call (the guide's Derived/Test/ToyasCard.lean, 'card_holds'). Laid BY PROGRAM, IN A SANDBOX (cutbox-door.mjs). By AI agents, Wed Nov 11 2026. No macro, syntax, notation, axiom, sorry.
-/
import Derived.Test.YtpimadgcojgjaaaDoorRows
import GoSem.ClaimSeven
namespace Go.Proofs.YtpimadgcojgjaaaDoor
namespace Rows

/-- THE TIED CARD OF 'virgulelaw16.EntityReads'. -/
def entityReadsCard : Claim7 := { stood := { row := entityReadsRow, standIns := [], harness := (true, "74d93cbd94842b0360df2d3ad2253775719d628741e90345ac9ebba8d74e7022"), looks := true }, kinds := [], alts := [], laidByText := true, laidKinds := [.data, .data, .data, .data, .sentinel, .sentinel, .pinned], laidTests := true, laidLooks := .later }
def EntityReadsCardSaid : Prop := Claim7.holds Tryd.pinned (.plain (OpenSpec.ofChange entityReadsSpec)) entityReadsCard

/-- THE TIED CARD OF 'virgulelaw16.EntityOpens'. -/
def entityOpensCard : Claim7 := { stood := { row := entityOpensRow, standIns := [], harness := (true, "74d93cbd94842b0360df2d3ad2253775719d628741e90345ac9ebba8d74e7022"), looks := true }, kinds := [], alts := [], laidByText := true, laidKinds := [.data, .data, .data, .data, .sentinel, .sentinel, .pinned], laidTests := true, laidLooks := .later }
def EntityOpensCardSaid : Prop := Claim7.holds Tryd.pinned (.plain (OpenSpec.ofChange entityOpensSpec)) entityOpensCard

/-- THE TIED CARD OF 'virgulelaw16.EntityWrites'. -/
def entityWritesCard : Claim7 := { stood := { row := entityWritesRow, standIns := [], harness := (true, "74d93cbd94842b0360df2d3ad2253775719d628741e90345ac9ebba8d74e7022"), looks := true }, kinds := [], alts := [], laidByText := true, laidKinds := [.data, .data, .data, .data, .sentinel, .sentinel, .pinned], laidTests := true, laidLooks := .later }
def EntityWritesCardSaid : Prop := Claim7.holds Tryd.pinned (.plain (OpenSpec.ofChange entityWritesSpec)) entityWritesCard

/-- THE TIED CARD OF 'virgulelaw16.EntityNames'. -/
def entityNamesCard : Claim7 := { stood := { row := entityNamesRow, standIns := [], harness := (true, "74d93cbd94842b0360df2d3ad2253775719d628741e90345ac9ebba8d74e7022"), looks := true }, kinds := [], alts := [], laidByText := true, laidKinds := [.data, .data, .data, .data, .sentinel, .sentinel, .pinned], laidTests := true, laidLooks := .later }
def EntityNamesCardSaid : Prop := Claim7.holds Tryd.pinned (.plain (OpenSpec.ofChange entityNamesSpec)) entityNamesCard

/-- THE TIED CARD OF 'virgulelaw16.EntityCuts'. -/
def entityCutsCard : Claim7 := { stood := { row := entityCutsRow, standIns := [], harness := (true, "74d93cbd94842b0360df2d3ad2253775719d628741e90345ac9ebba8d74e7022"), looks := true }, kinds := [], alts := [], laidByText := true, laidKinds := [.data, .data, .data, .data, .sentinel, .sentinel, .pinned], laidTests := true, laidLooks := .later }
def EntityCutsCardSaid : Prop := Claim7.holds Tryd.pinned (.plain (OpenSpec.ofChange entityCutsSpec)) entityCutsCard

/-- THE TIED CARD OF 'virgulelaw17.AnsiReads'. -/
def ansiReadsCard : Claim7 := { stood := { row := ansiReadsRow, standIns := [], harness := (true, "74d93cbd94842b0360df2d3ad2253775719d628741e90345ac9ebba8d74e7022"), looks := true }, kinds := [], alts := [], laidByText := true, laidKinds := [.data, .pinned], laidTests := true, laidLooks := .later }
def AnsiReadsCardSaid : Prop := Claim7.holds Tryd.pinned (.plain (OpenSpec.ofChange ansiReadsSpec)) ansiReadsCard

/-- THE TIED CARD OF 'virgulelaw17.AnsiStrips'. -/
def ansiStripsCard : Claim7 := { stood := { row := ansiStripsRow, standIns := [], harness := (true, "74d93cbd94842b0360df2d3ad2253775719d628741e90345ac9ebba8d74e7022"), looks := true }, kinds := [], alts := [], laidByText := true, laidKinds := [.data, .pinned], laidTests := true, laidLooks := .later }
def AnsiStripsCardSaid : Prop := Claim7.holds Tryd.pinned (.plain (OpenSpec.ofChange ansiStripsSpec)) ansiStripsCard

/-- THE TIED CARD OF 'virgulelaw17.AnsiWrites'. -/
def ansiWritesCard : Claim7 := { stood := { row := ansiWritesRow, standIns := [], harness := (true, "74d93cbd94842b0360df2d3ad2253775719d628741e90345ac9ebba8d74e7022"), looks := true }, kinds := [], alts := [], laidByText := true, laidKinds := [.data, .data, .data, .data, .pinned], laidTests := true, laidLooks := .later }
def AnsiWritesCardSaid : Prop := Claim7.holds Tryd.pinned (.plain (OpenSpec.ofChange ansiWritesSpec)) ansiWritesCard

/-- THE TIED CARD OF 'virgulelaw17.AnsiGrows'. -/
def ansiGrowsCard : Claim7 := { stood := { row := ansiGrowsRow, standIns := [], harness := (true, "74d93cbd94842b0360df2d3ad2253775719d628741e90345ac9ebba8d74e7022"), looks := true }, kinds := [], alts := [], laidByText := true, laidKinds := [.data, .pinned], laidTests := true, laidLooks := .later }
def AnsiGrowsCardSaid : Prop := Claim7.holds Tryd.pinned (.plain (OpenSpec.ofChange ansiGrowsSpec)) ansiGrowsCard

/-- THE TIED CARD OF 'virgulelaw17.AnsiLeaves'. -/
def ansiLeavesCard : Claim7 := { stood := { row := ansiLeavesRow, standIns := [], harness := (true, "74d93cbd94842b0360df2d3ad2253775719d628741e90345ac9ebba8d74e7022"), looks := true }, kinds := [], alts := [], laidByText := true, laidKinds := [.data, .data, .data, .data, .pinned], laidTests := true, laidLooks := .later }
def AnsiLeavesCardSaid : Prop := Claim7.holds Tryd.pinned (.plain (OpenSpec.ofChange ansiLeavesSpec)) ansiLeavesCard

/-- THE SECOND FORM's CARD OF 'virgulelaw16.EntityReads'. -/
def entityReadsUptoCard : Claim7 := { stood := { row := entityReadsUptoRow, standIns := [], harness := (true, "74d93cbd94842b0360df2d3ad2253775719d628741e90345ac9ebba8d74e7022"), looks := true }, kinds := [], alts := [], laidByText := true, laidKinds := [.data, .data, .data, .data, .sentinel, .sentinel, .pinned], laidTests := true, laidLooks := .later }
def EntityReadsUptoCardSaid : Prop := Claim7.holds Tryd.pinned (.plain (OpenSpec.upto entityReadsSpec)) entityReadsUptoCard

/-- THE SECOND FORM's CARD OF 'virgulelaw16.EntityOpens'. -/
def entityOpensUptoCard : Claim7 := { stood := { row := entityOpensUptoRow, standIns := [], harness := (true, "74d93cbd94842b0360df2d3ad2253775719d628741e90345ac9ebba8d74e7022"), looks := true }, kinds := [], alts := [], laidByText := true, laidKinds := [.data, .data, .data, .data, .sentinel, .sentinel, .pinned], laidTests := true, laidLooks := .later }
def EntityOpensUptoCardSaid : Prop := Claim7.holds Tryd.pinned (.plain (OpenSpec.upto entityOpensSpec)) entityOpensUptoCard

/-- THE SECOND FORM's CARD OF 'virgulelaw16.EntityWrites'. -/
def entityWritesUptoCard : Claim7 := { stood := { row := entityWritesUptoRow, standIns := [], harness := (true, "74d93cbd94842b0360df2d3ad2253775719d628741e90345ac9ebba8d74e7022"), looks := true }, kinds := [], alts := [], laidByText := true, laidKinds := [.data, .data, .data, .data, .sentinel, .sentinel, .pinned], laidTests := true, laidLooks := .later }
def EntityWritesUptoCardSaid : Prop := Claim7.holds Tryd.pinned (.plain (OpenSpec.upto entityWritesSpec)) entityWritesUptoCard

/-- THE SECOND FORM's CARD OF 'virgulelaw16.EntityNames'. -/
def entityNamesUptoCard : Claim7 := { stood := { row := entityNamesUptoRow, standIns := [], harness := (true, "74d93cbd94842b0360df2d3ad2253775719d628741e90345ac9ebba8d74e7022"), looks := true }, kinds := [], alts := [], laidByText := true, laidKinds := [.data, .data, .data, .data, .sentinel, .sentinel, .pinned], laidTests := true, laidLooks := .later }
def EntityNamesUptoCardSaid : Prop := Claim7.holds Tryd.pinned (.plain (OpenSpec.upto entityNamesSpec)) entityNamesUptoCard

/-- THE SECOND FORM's CARD OF 'virgulelaw16.EntityCuts'. -/
def entityCutsUptoCard : Claim7 := { stood := { row := entityCutsUptoRow, standIns := [], harness := (true, "74d93cbd94842b0360df2d3ad2253775719d628741e90345ac9ebba8d74e7022"), looks := true }, kinds := [], alts := [], laidByText := true, laidKinds := [.data, .data, .data, .data, .sentinel, .sentinel, .pinned], laidTests := true, laidLooks := .later }
def EntityCutsUptoCardSaid : Prop := Claim7.holds Tryd.pinned (.plain (OpenSpec.upto entityCutsSpec)) entityCutsUptoCard

/-- THE SECOND FORM's CARD OF 'virgulelaw17.AnsiReads'. -/
def ansiReadsUptoCard : Claim7 := { stood := { row := ansiReadsUptoRow, standIns := [], harness := (true, "74d93cbd94842b0360df2d3ad2253775719d628741e90345ac9ebba8d74e7022"), looks := true }, kinds := [], alts := [], laidByText := true, laidKinds := [.data, .pinned], laidTests := true, laidLooks := .later }
def AnsiReadsUptoCardSaid : Prop := Claim7.holds Tryd.pinned (.plain (OpenSpec.upto ansiReadsSpec)) ansiReadsUptoCard

/-- THE SECOND FORM's CARD OF 'virgulelaw17.AnsiStrips'. -/
def ansiStripsUptoCard : Claim7 := { stood := { row := ansiStripsUptoRow, standIns := [], harness := (true, "74d93cbd94842b0360df2d3ad2253775719d628741e90345ac9ebba8d74e7022"), looks := true }, kinds := [], alts := [], laidByText := true, laidKinds := [.data, .pinned], laidTests := true, laidLooks := .later }
def AnsiStripsUptoCardSaid : Prop := Claim7.holds Tryd.pinned (.plain (OpenSpec.upto ansiStripsSpec)) ansiStripsUptoCard

/-- THE SECOND FORM's CARD OF 'virgulelaw17.AnsiWrites'. -/
def ansiWritesUptoCard : Claim7 := { stood := { row := ansiWritesUptoRow, standIns := [], harness := (true, "74d93cbd94842b0360df2d3ad2253775719d628741e90345ac9ebba8d74e7022"), looks := true }, kinds := [], alts := [], laidByText := true, laidKinds := [.data, .data, .data, .data, .pinned], laidTests := true, laidLooks := .later }
def AnsiWritesUptoCardSaid : Prop := Claim7.holds Tryd.pinned (.plain (OpenSpec.upto ansiWritesSpec)) ansiWritesUptoCard

/-- THE SECOND FORM's CARD OF 'virgulelaw17.AnsiGrows'. -/
def ansiGrowsUptoCard : Claim7 := { stood := { row := ansiGrowsUptoRow, standIns := [], harness := (true, "74d93cbd94842b0360df2d3ad2253775719d628741e90345ac9ebba8d74e7022"), looks := true }, kinds := [], alts := [], laidByText := true, laidKinds := [.data, .pinned], laidTests := true, laidLooks := .later }
def AnsiGrowsUptoCardSaid : Prop := Claim7.holds Tryd.pinned (.plain (OpenSpec.upto ansiGrowsSpec)) ansiGrowsUptoCard

/-- THE SECOND FORM's CARD OF 'virgulelaw17.AnsiLeaves'. -/
def ansiLeavesUptoCard : Claim7 := { stood := { row := ansiLeavesUptoRow, standIns := [], harness := (true, "74d93cbd94842b0360df2d3ad2253775719d628741e90345ac9ebba8d74e7022"), looks := true }, kinds := [], alts := [], laidByText := true, laidKinds := [.data, .data, .data, .data, .pinned], laidTests := true, laidLooks := .later }
def AnsiLeavesUptoCardSaid : Prop := Claim7.holds Tryd.pinned (.plain (OpenSpec.upto ansiLeavesSpec)) ansiLeavesUptoCard
end Rows
end Go.Proofs.YtpimadgcojgjaaaDoor
