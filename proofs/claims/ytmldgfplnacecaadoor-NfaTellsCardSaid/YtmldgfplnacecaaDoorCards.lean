/-
  DERIVED. GIVEN WITH THE SEED: THE CARDS: each row of YtmldgfplnacecaaDoorRows.lean that lists a variable, with what it lists TIED to the program's text (the seventh form; the later family's looks); each row that meets fmt, with fmt's text TOLD by the authors' own Lean function (tested against real Go, not proved from fmt's source: count such statements apart). THE CARD IS WHAT COUNTS. Prove the row's statement (the work); the ties are given (YtmldgfplnacecaaDoorTie.lean); close each card by the builder's one call (the guide's Derived/Test/ToyasCard.lean, 'card_holds'). Laid BY PROGRAM, IN A SANDBOX (cutbox-door.mjs). By AI agents, Wed Nov 11 2026. No macro, syntax, notation, axiom, sorry.
-/
import Derived.Test.YtmldgfplnacecaaDoorRows
import GoSem.ClaimSeven
namespace Go.Proofs.YtmldgfplnacecaaDoor
namespace Rows

/-- THE TIED CARD OF 'virgulelaw08.NfaSteps'. -/
def nfaStepsCard : Claim7 := { stood := { row := nfaStepsRow, standIns := [], harness := (true, "514ee3f9c623097908ebe5a446b6330cc07a40f1cd1db0d920030062fa9fe13d"), looks := false }, kinds := [], alts := [], laidByText := true, laidKinds := [.data], laidTests := true, laidLooks := .later }
def NfaStepsCardSaid : Prop := Claim7.holds Tryd.pinned (.plain (OpenSpec.ofChange nfaStepsSpec)) nfaStepsCard

/-- THE TIED CARD OF 'virgulelaw08.NfaTells'. -/
def nfaTellsCard : Claim7 := { stood := { row := nfaTellsRow, standIns := [], harness := (true, "514ee3f9c623097908ebe5a446b6330cc07a40f1cd1db0d920030062fa9fe13d"), looks := false }, kinds := [], alts := [], laidByText := true, laidKinds := [.data], laidTests := true, laidLooks := .later }
def NfaTellsCardSaid : Prop := Claim7.holds Tryd.pinned (.plain (OpenSpec.ofChange nfaTellsSpec)) nfaTellsCard

/-- THE TIED CARD OF 'virgulelaw09.DfaMakes'. -/
def dfaMakesCard : Claim7 := { stood := { row := dfaMakesRow, standIns := [], harness := (true, "514ee3f9c623097908ebe5a446b6330cc07a40f1cd1db0d920030062fa9fe13d"), looks := false }, kinds := [], alts := [], laidByText := true, laidKinds := [.data, .data, .data], laidTests := true, laidLooks := .later }
def DfaMakesCardSaid : Prop := Claim7.holds Tryd.pinned (.plain (OpenSpec.ofChange dfaMakesSpec)) dfaMakesCard

/-- THE TIED CARD OF 'virgulelaw11.SqueezeGroups'. -/
def squeezeGroupsCard : Claim7 := { stood := { row := squeezeGroupsRow, standIns := [], harness := (true, "514ee3f9c623097908ebe5a446b6330cc07a40f1cd1db0d920030062fa9fe13d"), looks := false }, kinds := [], alts := [], laidByText := true, laidKinds := [.data, .data, .data], laidTests := true, laidLooks := .later }
def SqueezeGroupsCardSaid : Prop := Claim7.holds Tryd.pinned (.plain (OpenSpec.ofChange squeezeGroupsSpec)) squeezeGroupsCard

/-- THE TIED CARD OF 'virgulelaw11.SqueezeMakes'. -/
def squeezeMakesCard : Claim7 := { stood := { row := squeezeMakesRow, standIns := [], harness := (true, "514ee3f9c623097908ebe5a446b6330cc07a40f1cd1db0d920030062fa9fe13d"), looks := false }, kinds := [], alts := [], laidByText := true, laidKinds := [.data, .data, .data], laidTests := true, laidLooks := .later }
def SqueezeMakesCardSaid : Prop := Claim7.holds Tryd.pinned (.plain (OpenSpec.ofChange squeezeMakesSpec)) squeezeMakesCard

/-- THE TIED CARD OF 'virgulelaw11.SqueezeWide'. -/
def squeezeWideCard : Claim7 := { stood := { row := squeezeWideRow, standIns := [], harness := (true, "514ee3f9c623097908ebe5a446b6330cc07a40f1cd1db0d920030062fa9fe13d"), looks := false }, kinds := [], alts := [], laidByText := true, laidKinds := [.data, .data, .data], laidTests := true, laidLooks := .later }
def SqueezeWideCardSaid : Prop := Claim7.holds Tryd.pinned (.plain (OpenSpec.ofChange squeezeWideSpec)) squeezeWideCard

/-- THE TIED CARD OF 'virgulelaw11.SqueezeBack'. -/
def squeezeBackCard : Claim7 := { stood := { row := squeezeBackRow, standIns := [], harness := (true, "514ee3f9c623097908ebe5a446b6330cc07a40f1cd1db0d920030062fa9fe13d"), looks := false }, kinds := [], alts := [], laidByText := true, laidKinds := [.data, .data, .data], laidTests := true, laidLooks := .later }
def SqueezeBackCardSaid : Prop := Claim7.holds Tryd.pinned (.plain (OpenSpec.ofChange squeezeBackSpec)) squeezeBackCard

/-- THE TIED CARD OF 'virgulelaw11.SqueezeOwn'. -/
def squeezeOwnCard : Claim7 := { stood := { row := squeezeOwnRow, standIns := [], harness := (true, "514ee3f9c623097908ebe5a446b6330cc07a40f1cd1db0d920030062fa9fe13d"), looks := false }, kinds := [], alts := [], laidByText := true, laidKinds := [.data, .data, .data], laidTests := true, laidLooks := .later }
def SqueezeOwnCardSaid : Prop := Claim7.holds Tryd.pinned (.plain (OpenSpec.ofChange squeezeOwnSpec)) squeezeOwnCard

/-- THE SECOND FORM's CARD OF 'virgulelaw08.NfaSteps'. -/
def nfaStepsUptoCard : Claim7 := { stood := { row := nfaStepsUptoRow, standIns := [], harness := (true, "514ee3f9c623097908ebe5a446b6330cc07a40f1cd1db0d920030062fa9fe13d"), looks := false }, kinds := [], alts := [], laidByText := true, laidKinds := [.data], laidTests := true, laidLooks := .later }
def NfaStepsUptoCardSaid : Prop := Claim7.holds Tryd.pinned (.plain (OpenSpec.upto nfaStepsSpec)) nfaStepsUptoCard

/-- THE SECOND FORM's CARD OF 'virgulelaw08.NfaTells'. -/
def nfaTellsUptoCard : Claim7 := { stood := { row := nfaTellsUptoRow, standIns := [], harness := (true, "514ee3f9c623097908ebe5a446b6330cc07a40f1cd1db0d920030062fa9fe13d"), looks := false }, kinds := [], alts := [], laidByText := true, laidKinds := [.data], laidTests := true, laidLooks := .later }
def NfaTellsUptoCardSaid : Prop := Claim7.holds Tryd.pinned (.plain (OpenSpec.upto nfaTellsSpec)) nfaTellsUptoCard

/-- THE SECOND FORM's CARD OF 'virgulelaw09.DfaMakes'. -/
def dfaMakesUptoCard : Claim7 := { stood := { row := dfaMakesUptoRow, standIns := [], harness := (true, "514ee3f9c623097908ebe5a446b6330cc07a40f1cd1db0d920030062fa9fe13d"), looks := false }, kinds := [], alts := [], laidByText := true, laidKinds := [.data, .data, .data], laidTests := true, laidLooks := .later }
def DfaMakesUptoCardSaid : Prop := Claim7.holds Tryd.pinned (.plain (OpenSpec.upto dfaMakesSpec)) dfaMakesUptoCard

/-- THE SECOND FORM's CARD OF 'virgulelaw11.SqueezeGroups'. -/
def squeezeGroupsUptoCard : Claim7 := { stood := { row := squeezeGroupsUptoRow, standIns := [], harness := (true, "514ee3f9c623097908ebe5a446b6330cc07a40f1cd1db0d920030062fa9fe13d"), looks := false }, kinds := [], alts := [], laidByText := true, laidKinds := [.data, .data, .data], laidTests := true, laidLooks := .later }
def SqueezeGroupsUptoCardSaid : Prop := Claim7.holds Tryd.pinned (.plain (OpenSpec.upto squeezeGroupsSpec)) squeezeGroupsUptoCard

/-- THE SECOND FORM's CARD OF 'virgulelaw11.SqueezeMakes'. -/
def squeezeMakesUptoCard : Claim7 := { stood := { row := squeezeMakesUptoRow, standIns := [], harness := (true, "514ee3f9c623097908ebe5a446b6330cc07a40f1cd1db0d920030062fa9fe13d"), looks := false }, kinds := [], alts := [], laidByText := true, laidKinds := [.data, .data, .data], laidTests := true, laidLooks := .later }
def SqueezeMakesUptoCardSaid : Prop := Claim7.holds Tryd.pinned (.plain (OpenSpec.upto squeezeMakesSpec)) squeezeMakesUptoCard

/-- THE SECOND FORM's CARD OF 'virgulelaw11.SqueezeWide'. -/
def squeezeWideUptoCard : Claim7 := { stood := { row := squeezeWideUptoRow, standIns := [], harness := (true, "514ee3f9c623097908ebe5a446b6330cc07a40f1cd1db0d920030062fa9fe13d"), looks := false }, kinds := [], alts := [], laidByText := true, laidKinds := [.data, .data, .data], laidTests := true, laidLooks := .later }
def SqueezeWideUptoCardSaid : Prop := Claim7.holds Tryd.pinned (.plain (OpenSpec.upto squeezeWideSpec)) squeezeWideUptoCard

/-- THE SECOND FORM's CARD OF 'virgulelaw11.SqueezeBack'. -/
def squeezeBackUptoCard : Claim7 := { stood := { row := squeezeBackUptoRow, standIns := [], harness := (true, "514ee3f9c623097908ebe5a446b6330cc07a40f1cd1db0d920030062fa9fe13d"), looks := false }, kinds := [], alts := [], laidByText := true, laidKinds := [.data, .data, .data], laidTests := true, laidLooks := .later }
def SqueezeBackUptoCardSaid : Prop := Claim7.holds Tryd.pinned (.plain (OpenSpec.upto squeezeBackSpec)) squeezeBackUptoCard

/-- THE SECOND FORM's CARD OF 'virgulelaw11.SqueezeOwn'. -/
def squeezeOwnUptoCard : Claim7 := { stood := { row := squeezeOwnUptoRow, standIns := [], harness := (true, "514ee3f9c623097908ebe5a446b6330cc07a40f1cd1db0d920030062fa9fe13d"), looks := false }, kinds := [], alts := [], laidByText := true, laidKinds := [.data, .data, .data], laidTests := true, laidLooks := .later }
def SqueezeOwnUptoCardSaid : Prop := Claim7.holds Tryd.pinned (.plain (OpenSpec.upto squeezeOwnSpec)) squeezeOwnUptoCard
end Rows
end Go.Proofs.YtmldgfplnacecaaDoor
