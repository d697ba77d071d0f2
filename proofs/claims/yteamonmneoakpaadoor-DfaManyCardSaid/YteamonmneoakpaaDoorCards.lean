/-
  DERIVED. GIVEN WITH THE SEED: THE CARDS: each row of YteamonmneoakpaaDoorRows.lean that lists a variable, with what it lists TIED to the program's text (the seventh form; the later family's looks); each row that meets fmt, with fmt's text TOLD by the authors' own Lean function (tested against real Go, not proved from fmt's source: count such statements apart). THE CARD IS WHAT COUNTS. Prove the row's statement (the work); the ties are given (YteamonmneoakpaaDoorTie.lean); close each card by the builder's one call (the guide's Derived/Test/ToyasCard.lean, 'card_holds'). Laid BY PROGRAM, IN A SANDBOX (cutbox-door.mjs). By AI agents, Wed Nov 11 2026. No macro, syntax, notation, axiom, sorry.
-/
import Derived.Test.YteamonmneoakpaaDoorRows
import GoSem.ClaimSeven
namespace Go.Proofs.YteamonmneoakpaaDoor
namespace Rows

/-- THE TIED CARD OF 'virgulelaw08.NfaSteps'. -/
def nfaStepsCard : Claim7 := { stood := { row := nfaStepsRow, standIns := [], harness := (true, "ce949b5f571b8c1e328b4fea5526353e7f726185cc188170a27722b370ed44f0"), looks := false }, kinds := [], alts := [], laidByText := true, laidKinds := [.data], laidTests := true, laidLooks := .later }
def NfaStepsCardSaid : Prop := Claim7.holds Tryd.pinned (.plain (OpenSpec.ofChange nfaStepsSpec)) nfaStepsCard

/-- THE TIED CARD OF 'virgulelaw08.NfaTells'. -/
def nfaTellsCard : Claim7 := { stood := { row := nfaTellsRow, standIns := [], harness := (true, "ce949b5f571b8c1e328b4fea5526353e7f726185cc188170a27722b370ed44f0"), looks := false }, kinds := [], alts := [], laidByText := true, laidKinds := [.data], laidTests := true, laidLooks := .later }
def NfaTellsCardSaid : Prop := Claim7.holds Tryd.pinned (.plain (OpenSpec.ofChange nfaTellsSpec)) nfaTellsCard

/-- THE TIED CARD OF 'virgulelaw09.DfaMakes'. -/
def dfaMakesCard : Claim7 := { stood := { row := dfaMakesRow, standIns := [], harness := (true, "ce949b5f571b8c1e328b4fea5526353e7f726185cc188170a27722b370ed44f0"), looks := false }, kinds := [], alts := [], laidByText := true, laidKinds := [.data, .data, .data], laidTests := true, laidLooks := .later }
def DfaMakesCardSaid : Prop := Claim7.holds Tryd.pinned (.plain (OpenSpec.ofChange dfaMakesSpec)) dfaMakesCard

/-- THE TIED CARD OF 'virgulelaw09.DfaRuns'. -/
def dfaRunsCard : Claim7 := { stood := { row := dfaRunsRow, standIns := [], harness := (true, "ce949b5f571b8c1e328b4fea5526353e7f726185cc188170a27722b370ed44f0"), looks := false }, kinds := [], alts := [], laidByText := true, laidKinds := [.data, .data, .data], laidTests := true, laidLooks := .later }
def DfaRunsCardSaid : Prop := Claim7.holds Tryd.pinned (.plain (OpenSpec.ofChange dfaRunsSpec)) dfaRunsCard

/-- THE TIED CARD OF 'virgulelaw09.DfaRights'. -/
def dfaRightsCard : Claim7 := { stood := { row := dfaRightsRow, standIns := [], harness := (true, "ce949b5f571b8c1e328b4fea5526353e7f726185cc188170a27722b370ed44f0"), looks := false }, kinds := [], alts := [], laidByText := true, laidKinds := [.data, .data, .data], laidTests := true, laidLooks := .later }
def DfaRightsCardSaid : Prop := Claim7.holds Tryd.pinned (.plain (OpenSpec.ofChange dfaRightsSpec)) dfaRightsCard

/-- THE TIED CARD OF 'virgulelaw09.DfaMany'. -/
def dfaManyCard : Claim7 := { stood := { row := dfaManyRow, standIns := [], harness := (true, "ce949b5f571b8c1e328b4fea5526353e7f726185cc188170a27722b370ed44f0"), looks := false }, kinds := [], alts := [], laidByText := true, laidKinds := [.data, .data, .data], laidTests := true, laidLooks := .later }
def DfaManyCardSaid : Prop := Claim7.holds Tryd.pinned (.plain (OpenSpec.ofChange dfaManySpec)) dfaManyCard

/-- THE TIED CARD OF 'virgulelaw09.DfaSame'. -/
def dfaSameCard : Claim7 := { stood := { row := dfaSameRow, standIns := [], harness := (true, "ce949b5f571b8c1e328b4fea5526353e7f726185cc188170a27722b370ed44f0"), looks := false }, kinds := [], alts := [], laidByText := true, laidKinds := [.data, .data, .data], laidTests := true, laidLooks := .later }
def DfaSameCardSaid : Prop := Claim7.holds Tryd.pinned (.plain (OpenSpec.ofChange dfaSameSpec)) dfaSameCard

/-- THE SECOND FORM's CARD OF 'virgulelaw08.NfaSteps'. -/
def nfaStepsUptoCard : Claim7 := { stood := { row := nfaStepsUptoRow, standIns := [], harness := (true, "ce949b5f571b8c1e328b4fea5526353e7f726185cc188170a27722b370ed44f0"), looks := false }, kinds := [], alts := [], laidByText := true, laidKinds := [.data], laidTests := true, laidLooks := .later }
def NfaStepsUptoCardSaid : Prop := Claim7.holds Tryd.pinned (.plain (OpenSpec.upto nfaStepsSpec)) nfaStepsUptoCard

/-- THE SECOND FORM's CARD OF 'virgulelaw08.NfaTells'. -/
def nfaTellsUptoCard : Claim7 := { stood := { row := nfaTellsUptoRow, standIns := [], harness := (true, "ce949b5f571b8c1e328b4fea5526353e7f726185cc188170a27722b370ed44f0"), looks := false }, kinds := [], alts := [], laidByText := true, laidKinds := [.data], laidTests := true, laidLooks := .later }
def NfaTellsUptoCardSaid : Prop := Claim7.holds Tryd.pinned (.plain (OpenSpec.upto nfaTellsSpec)) nfaTellsUptoCard

/-- THE SECOND FORM's CARD OF 'virgulelaw09.DfaMakes'. -/
def dfaMakesUptoCard : Claim7 := { stood := { row := dfaMakesUptoRow, standIns := [], harness := (true, "ce949b5f571b8c1e328b4fea5526353e7f726185cc188170a27722b370ed44f0"), looks := false }, kinds := [], alts := [], laidByText := true, laidKinds := [.data, .data, .data], laidTests := true, laidLooks := .later }
def DfaMakesUptoCardSaid : Prop := Claim7.holds Tryd.pinned (.plain (OpenSpec.upto dfaMakesSpec)) dfaMakesUptoCard

/-- THE SECOND FORM's CARD OF 'virgulelaw09.DfaRuns'. -/
def dfaRunsUptoCard : Claim7 := { stood := { row := dfaRunsUptoRow, standIns := [], harness := (true, "ce949b5f571b8c1e328b4fea5526353e7f726185cc188170a27722b370ed44f0"), looks := false }, kinds := [], alts := [], laidByText := true, laidKinds := [.data, .data, .data], laidTests := true, laidLooks := .later }
def DfaRunsUptoCardSaid : Prop := Claim7.holds Tryd.pinned (.plain (OpenSpec.upto dfaRunsSpec)) dfaRunsUptoCard

/-- THE SECOND FORM's CARD OF 'virgulelaw09.DfaRights'. -/
def dfaRightsUptoCard : Claim7 := { stood := { row := dfaRightsUptoRow, standIns := [], harness := (true, "ce949b5f571b8c1e328b4fea5526353e7f726185cc188170a27722b370ed44f0"), looks := false }, kinds := [], alts := [], laidByText := true, laidKinds := [.data, .data, .data], laidTests := true, laidLooks := .later }
def DfaRightsUptoCardSaid : Prop := Claim7.holds Tryd.pinned (.plain (OpenSpec.upto dfaRightsSpec)) dfaRightsUptoCard

/-- THE SECOND FORM's CARD OF 'virgulelaw09.DfaMany'. -/
def dfaManyUptoCard : Claim7 := { stood := { row := dfaManyUptoRow, standIns := [], harness := (true, "ce949b5f571b8c1e328b4fea5526353e7f726185cc188170a27722b370ed44f0"), looks := false }, kinds := [], alts := [], laidByText := true, laidKinds := [.data, .data, .data], laidTests := true, laidLooks := .later }
def DfaManyUptoCardSaid : Prop := Claim7.holds Tryd.pinned (.plain (OpenSpec.upto dfaManySpec)) dfaManyUptoCard

/-- THE SECOND FORM's CARD OF 'virgulelaw09.DfaSame'. -/
def dfaSameUptoCard : Claim7 := { stood := { row := dfaSameUptoRow, standIns := [], harness := (true, "ce949b5f571b8c1e328b4fea5526353e7f726185cc188170a27722b370ed44f0"), looks := false }, kinds := [], alts := [], laidByText := true, laidKinds := [.data, .data, .data], laidTests := true, laidLooks := .later }
def DfaSameUptoCardSaid : Prop := Claim7.holds Tryd.pinned (.plain (OpenSpec.upto dfaSameSpec)) dfaSameUptoCard
end Rows
end Go.Proofs.YteamonmneoakpaaDoor
