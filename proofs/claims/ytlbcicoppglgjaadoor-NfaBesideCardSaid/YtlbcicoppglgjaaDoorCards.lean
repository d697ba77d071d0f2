/-
  DERIVED. GIVEN WITH THE SEED: THE CARDS: each row of YtlbcicoppglgjaaDoorRows.lean that lists a variable, with what it lists TIED to the program's text (the seventh form; the later family's looks); each row that meets fmt, with fmt's text TOLD by the authors' own Lean function (tested against real Go, not proved from fmt's source: count such statements apart). THE CARD IS WHAT COUNTS. Prove the row's statement (the work); the ties are given (YtlbcicoppglgjaaDoorTie.lean); close each card by the builder's one call (the guide's Derived/Test/ToyasCard.lean, 'card_holds'). Laid BY PROGRAM, IN A SANDBOX (cutbox-door.mjs). By AI agents, Wed Nov 11 2026. No macro, syntax, notation, axiom, sorry.
-/
import Derived.Test.YtlbcicoppglgjaaDoorRows
import GoSem.ClaimSeven
namespace Go.Proofs.YtlbcicoppglgjaaDoor
namespace Rows

/-- THE TIED CARD OF 'virgulelaw08.NfaSteps'. -/
def nfaStepsCard : Claim7 := { stood := { row := nfaStepsRow, standIns := [], harness := (true, "5fb09bada185de421887ecf7d0e5c711d8aeac1814c104588f9baee8346305b0"), looks := false }, kinds := [], alts := [], laidByText := true, laidKinds := [.data], laidTests := true, laidLooks := .later }
def NfaStepsCardSaid : Prop := Claim7.holds Tryd.pinned (.plain (OpenSpec.ofChange nfaStepsSpec)) nfaStepsCard

/-- THE TIED CARD OF 'virgulelaw08.NfaTells'. -/
def nfaTellsCard : Claim7 := { stood := { row := nfaTellsRow, standIns := [], harness := (true, "5fb09bada185de421887ecf7d0e5c711d8aeac1814c104588f9baee8346305b0"), looks := false }, kinds := [], alts := [], laidByText := true, laidKinds := [.data], laidTests := true, laidLooks := .later }
def NfaTellsCardSaid : Prop := Claim7.holds Tryd.pinned (.plain (OpenSpec.ofChange nfaTellsSpec)) nfaTellsCard

/-- THE TIED CARD OF 'virgulelaw08.NfaUnions'. -/
def nfaUnionsCard : Claim7 := { stood := { row := nfaUnionsRow, standIns := [], harness := (true, "5fb09bada185de421887ecf7d0e5c711d8aeac1814c104588f9baee8346305b0"), looks := false }, kinds := [], alts := [], laidByText := true, laidKinds := [.data], laidTests := true, laidLooks := .later }
def NfaUnionsCardSaid : Prop := Claim7.holds Tryd.pinned (.plain (OpenSpec.ofChange nfaUnionsSpec)) nfaUnionsCard

/-- THE TIED CARD OF 'virgulelaw08.NfaCounts'. -/
def nfaCountsCard : Claim7 := { stood := { row := nfaCountsRow, standIns := [], harness := (true, "5fb09bada185de421887ecf7d0e5c711d8aeac1814c104588f9baee8346305b0"), looks := false }, kinds := [], alts := [], laidByText := true, laidKinds := [.data], laidTests := true, laidLooks := .later }
def NfaCountsCardSaid : Prop := Claim7.holds Tryd.pinned (.plain (OpenSpec.ofChange nfaCountsSpec)) nfaCountsCard

/-- THE TIED CARD OF 'virgulelaw08.NfaBeside'. -/
def nfaBesideCard : Claim7 := { stood := { row := nfaBesideRow, standIns := [], harness := (true, "5fb09bada185de421887ecf7d0e5c711d8aeac1814c104588f9baee8346305b0"), looks := false }, kinds := [], alts := [], laidByText := true, laidKinds := [.data], laidTests := true, laidLooks := .later }
def NfaBesideCardSaid : Prop := Claim7.holds Tryd.pinned (.plain (OpenSpec.ofChange nfaBesideSpec)) nfaBesideCard

/-- THE SECOND FORM's CARD OF 'virgulelaw08.NfaSteps'. -/
def nfaStepsUptoCard : Claim7 := { stood := { row := nfaStepsUptoRow, standIns := [], harness := (true, "5fb09bada185de421887ecf7d0e5c711d8aeac1814c104588f9baee8346305b0"), looks := false }, kinds := [], alts := [], laidByText := true, laidKinds := [.data], laidTests := true, laidLooks := .later }
def NfaStepsUptoCardSaid : Prop := Claim7.holds Tryd.pinned (.plain (OpenSpec.upto nfaStepsSpec)) nfaStepsUptoCard

/-- THE SECOND FORM's CARD OF 'virgulelaw08.NfaTells'. -/
def nfaTellsUptoCard : Claim7 := { stood := { row := nfaTellsUptoRow, standIns := [], harness := (true, "5fb09bada185de421887ecf7d0e5c711d8aeac1814c104588f9baee8346305b0"), looks := false }, kinds := [], alts := [], laidByText := true, laidKinds := [.data], laidTests := true, laidLooks := .later }
def NfaTellsUptoCardSaid : Prop := Claim7.holds Tryd.pinned (.plain (OpenSpec.upto nfaTellsSpec)) nfaTellsUptoCard

/-- THE SECOND FORM's CARD OF 'virgulelaw08.NfaUnions'. -/
def nfaUnionsUptoCard : Claim7 := { stood := { row := nfaUnionsUptoRow, standIns := [], harness := (true, "5fb09bada185de421887ecf7d0e5c711d8aeac1814c104588f9baee8346305b0"), looks := false }, kinds := [], alts := [], laidByText := true, laidKinds := [.data], laidTests := true, laidLooks := .later }
def NfaUnionsUptoCardSaid : Prop := Claim7.holds Tryd.pinned (.plain (OpenSpec.upto nfaUnionsSpec)) nfaUnionsUptoCard

/-- THE SECOND FORM's CARD OF 'virgulelaw08.NfaCounts'. -/
def nfaCountsUptoCard : Claim7 := { stood := { row := nfaCountsUptoRow, standIns := [], harness := (true, "5fb09bada185de421887ecf7d0e5c711d8aeac1814c104588f9baee8346305b0"), looks := false }, kinds := [], alts := [], laidByText := true, laidKinds := [.data], laidTests := true, laidLooks := .later }
def NfaCountsUptoCardSaid : Prop := Claim7.holds Tryd.pinned (.plain (OpenSpec.upto nfaCountsSpec)) nfaCountsUptoCard

/-- THE SECOND FORM's CARD OF 'virgulelaw08.NfaBeside'. -/
def nfaBesideUptoCard : Claim7 := { stood := { row := nfaBesideUptoRow, standIns := [], harness := (true, "5fb09bada185de421887ecf7d0e5c711d8aeac1814c104588f9baee8346305b0"), looks := false }, kinds := [], alts := [], laidByText := true, laidKinds := [.data], laidTests := true, laidLooks := .later }
def NfaBesideUptoCardSaid : Prop := Claim7.holds Tryd.pinned (.plain (OpenSpec.upto nfaBesideSpec)) nfaBesideUptoCard
end Rows
end Go.Proofs.YtlbcicoppglgjaaDoor
