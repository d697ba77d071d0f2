/-
  DERIVED. GIVEN WITH THE SEED: THE CARDS: each row of YtimiinnnmdcmhaaDoorRows.lean that lists a variable, with what it lists TIED to the program's text (the seventh form; the later family's looks); each row that meets fmt, with fmt's text TOLD by the authors' own Lean function (tested against real Go, not proved from fmt's source: count such statements apart). THE CARD IS WHAT COUNTS. Prove the row's statement (the work); the ties are given (YtimiinnnmdcmhaaDoorTie.lean); close each card by the builder's one call (the guide's Derived/Test/ToyasCard.lean, 'card_holds'). Laid BY PROGRAM, IN A SANDBOX (cutbox-door.mjs). By AI agents, Wed Nov 11 2026. No macro, syntax, notation, axiom, sorry.
-/
import Derived.Test.YtimiinnnmdcmhaaDoorRows
import GoSem.ClaimSeven
namespace Go.Proofs.YtimiinnnmdcmhaaDoor
namespace Rows

/-- THE TIED CARD OF 'virgulelaw01.ScalarReads'. -/
def scalarReadsCard : Claim7 := { stood := { row := scalarReadsRow, standIns := [], harness := (true, "d338f0f6eb5f5a4c2dd97e172309e9d85a221adfe05b0f48f18ba13cc592ba39"), looks := true }, kinds := [], alts := [], laidByText := true, laidKinds := [.data, .pinned], laidTests := true, laidLooks := .later }
def ScalarReadsCardSaid : Prop := Claim7.holds Tryd.pinned (.plain (OpenSpec.ofChange scalarReadsSpec)) scalarReadsCard

/-- THE TIED CARD OF 'virgulelaw01.ScalarAll'. -/
def scalarAllCard : Claim7 := { stood := { row := scalarAllRow, standIns := [], harness := (true, "d338f0f6eb5f5a4c2dd97e172309e9d85a221adfe05b0f48f18ba13cc592ba39"), looks := true }, kinds := [], alts := [], laidByText := true, laidKinds := [.data, .pinned], laidTests := true, laidLooks := .later }
def ScalarAllCardSaid : Prop := Claim7.holds Tryd.pinned (.plain (OpenSpec.ofChange scalarAllSpec)) scalarAllCard

/-- THE TIED CARD OF 'virgulelaw01.ScalarStarts'. -/
def scalarStartsCard : Claim7 := { stood := { row := scalarStartsRow, standIns := [], harness := (true, "d338f0f6eb5f5a4c2dd97e172309e9d85a221adfe05b0f48f18ba13cc592ba39"), looks := true }, kinds := [], alts := [], laidByText := true, laidKinds := [.data, .pinned], laidTests := true, laidLooks := .later }
def ScalarStartsCardSaid : Prop := Claim7.holds Tryd.pinned (.plain (OpenSpec.ofChange scalarStartsSpec)) scalarStartsCard

/-- THE TIED CARD OF 'virgulelaw01.ScalarPuts'. -/
def scalarPutsCard : Claim7 := { stood := { row := scalarPutsRow, standIns := [], harness := (true, "d338f0f6eb5f5a4c2dd97e172309e9d85a221adfe05b0f48f18ba13cc592ba39"), looks := true }, kinds := [], alts := [], laidByText := true, laidKinds := [.data, .data, .data, .data, .sentinel, .sentinel, .pinned, .pinned], laidTests := true, laidLooks := .later }
def ScalarPutsCardSaid : Prop := Claim7.holds Tryd.pinned (.plain (OpenSpec.ofChange scalarPutsSpec)) scalarPutsCard

/-- THE TIED CARD OF 'virgulelaw01.ScalarParses'. -/
def scalarParsesCard : Claim7 := { stood := { row := scalarParsesRow, standIns := [], harness := (true, "d338f0f6eb5f5a4c2dd97e172309e9d85a221adfe05b0f48f18ba13cc592ba39"), looks := true }, kinds := [], alts := [], laidByText := true, laidKinds := [.data, .data, .data, .data, .sentinel, .sentinel, .pinned, .pinned], laidTests := true, laidLooks := .later }
def ScalarParsesCardSaid : Prop := Claim7.holds Tryd.pinned (.plain (OpenSpec.ofChange scalarParsesSpec)) scalarParsesCard

/-- THE TIED CARD OF 'virgulelaw01.ScalarJoins'. -/
def scalarJoinsCard : Claim7 := { stood := { row := scalarJoinsRow, standIns := [], harness := (true, "d338f0f6eb5f5a4c2dd97e172309e9d85a221adfe05b0f48f18ba13cc592ba39"), looks := true }, kinds := [], alts := [], laidByText := true, laidKinds := [.data, .pinned], laidTests := true, laidLooks := .later }
def ScalarJoinsCardSaid : Prop := Claim7.holds Tryd.pinned (.plain (OpenSpec.ofChange scalarJoinsSpec)) scalarJoinsCard

/-- THE TIED CARD OF 'virgulelaw02.RangesMake'. -/
def rangesMakeCard : Claim7 := { stood := { row := rangesMakeRow, standIns := [], harness := (true, "d338f0f6eb5f5a4c2dd97e172309e9d85a221adfe05b0f48f18ba13cc592ba39"), looks := true }, kinds := [], alts := [], laidByText := true, laidKinds := [.data, .data, .data], laidTests := true, laidLooks := .later }
def RangesMakeCardSaid : Prop := Claim7.holds Tryd.pinned (.plain (OpenSpec.ofChange rangesMakeSpec)) rangesMakeCard

/-- THE TIED CARD OF 'virgulelaw02.RangesJoin'. -/
def rangesJoinCard : Claim7 := { stood := { row := rangesJoinRow, standIns := [], harness := (true, "d338f0f6eb5f5a4c2dd97e172309e9d85a221adfe05b0f48f18ba13cc592ba39"), looks := true }, kinds := [], alts := [], laidByText := true, laidKinds := [.data, .data, .data], laidTests := true, laidLooks := .later }
def RangesJoinCardSaid : Prop := Claim7.holds Tryd.pinned (.plain (OpenSpec.ofChange rangesJoinSpec)) rangesJoinCard

/-- THE TIED CARD OF 'virgulelaw02.RangesLaws'. -/
def rangesLawsCard : Claim7 := { stood := { row := rangesLawsRow, standIns := [], harness := (true, "d338f0f6eb5f5a4c2dd97e172309e9d85a221adfe05b0f48f18ba13cc592ba39"), looks := true }, kinds := [], alts := [], laidByText := true, laidKinds := [.data, .data, .data], laidTests := true, laidLooks := .later }
def RangesLawsCardSaid : Prop := Claim7.holds Tryd.pinned (.plain (OpenSpec.ofChange rangesLawsSpec)) rangesLawsCard

/-- THE TIED CARD OF 'virgulelaw02.RangesMany'. -/
def rangesManyCard : Claim7 := { stood := { row := rangesManyRow, standIns := [], harness := (true, "d338f0f6eb5f5a4c2dd97e172309e9d85a221adfe05b0f48f18ba13cc592ba39"), looks := true }, kinds := [], alts := [], laidByText := true, laidKinds := [.data, .data, .data], laidTests := true, laidLooks := .later }
def RangesManyCardSaid : Prop := Claim7.holds Tryd.pinned (.plain (OpenSpec.ofChange rangesManySpec)) rangesManyCard

/-- THE SECOND FORM's CARD OF 'virgulelaw01.ScalarReads'. -/
def scalarReadsUptoCard : Claim7 := { stood := { row := scalarReadsUptoRow, standIns := [], harness := (true, "d338f0f6eb5f5a4c2dd97e172309e9d85a221adfe05b0f48f18ba13cc592ba39"), looks := true }, kinds := [], alts := [], laidByText := true, laidKinds := [.data, .pinned], laidTests := true, laidLooks := .later }
def ScalarReadsUptoCardSaid : Prop := Claim7.holds Tryd.pinned (.plain (OpenSpec.upto scalarReadsSpec)) scalarReadsUptoCard

/-- THE SECOND FORM's CARD OF 'virgulelaw01.ScalarAll'. -/
def scalarAllUptoCard : Claim7 := { stood := { row := scalarAllUptoRow, standIns := [], harness := (true, "d338f0f6eb5f5a4c2dd97e172309e9d85a221adfe05b0f48f18ba13cc592ba39"), looks := true }, kinds := [], alts := [], laidByText := true, laidKinds := [.data, .pinned], laidTests := true, laidLooks := .later }
def ScalarAllUptoCardSaid : Prop := Claim7.holds Tryd.pinned (.plain (OpenSpec.upto scalarAllSpec)) scalarAllUptoCard

/-- THE SECOND FORM's CARD OF 'virgulelaw01.ScalarStarts'. -/
def scalarStartsUptoCard : Claim7 := { stood := { row := scalarStartsUptoRow, standIns := [], harness := (true, "d338f0f6eb5f5a4c2dd97e172309e9d85a221adfe05b0f48f18ba13cc592ba39"), looks := true }, kinds := [], alts := [], laidByText := true, laidKinds := [.data, .pinned], laidTests := true, laidLooks := .later }
def ScalarStartsUptoCardSaid : Prop := Claim7.holds Tryd.pinned (.plain (OpenSpec.upto scalarStartsSpec)) scalarStartsUptoCard

/-- THE SECOND FORM's CARD OF 'virgulelaw01.ScalarPuts'. -/
def scalarPutsUptoCard : Claim7 := { stood := { row := scalarPutsUptoRow, standIns := [], harness := (true, "d338f0f6eb5f5a4c2dd97e172309e9d85a221adfe05b0f48f18ba13cc592ba39"), looks := true }, kinds := [], alts := [], laidByText := true, laidKinds := [.data, .data, .data, .data, .sentinel, .sentinel, .pinned, .pinned], laidTests := true, laidLooks := .later }
def ScalarPutsUptoCardSaid : Prop := Claim7.holds Tryd.pinned (.plain (OpenSpec.upto scalarPutsSpec)) scalarPutsUptoCard

/-- THE SECOND FORM's CARD OF 'virgulelaw01.ScalarParses'. -/
def scalarParsesUptoCard : Claim7 := { stood := { row := scalarParsesUptoRow, standIns := [], harness := (true, "d338f0f6eb5f5a4c2dd97e172309e9d85a221adfe05b0f48f18ba13cc592ba39"), looks := true }, kinds := [], alts := [], laidByText := true, laidKinds := [.data, .data, .data, .data, .sentinel, .sentinel, .pinned, .pinned], laidTests := true, laidLooks := .later }
def ScalarParsesUptoCardSaid : Prop := Claim7.holds Tryd.pinned (.plain (OpenSpec.upto scalarParsesSpec)) scalarParsesUptoCard

/-- THE SECOND FORM's CARD OF 'virgulelaw01.ScalarJoins'. -/
def scalarJoinsUptoCard : Claim7 := { stood := { row := scalarJoinsUptoRow, standIns := [], harness := (true, "d338f0f6eb5f5a4c2dd97e172309e9d85a221adfe05b0f48f18ba13cc592ba39"), looks := true }, kinds := [], alts := [], laidByText := true, laidKinds := [.data, .pinned], laidTests := true, laidLooks := .later }
def ScalarJoinsUptoCardSaid : Prop := Claim7.holds Tryd.pinned (.plain (OpenSpec.upto scalarJoinsSpec)) scalarJoinsUptoCard

/-- THE SECOND FORM's CARD OF 'virgulelaw02.RangesMake'. -/
def rangesMakeUptoCard : Claim7 := { stood := { row := rangesMakeUptoRow, standIns := [], harness := (true, "d338f0f6eb5f5a4c2dd97e172309e9d85a221adfe05b0f48f18ba13cc592ba39"), looks := true }, kinds := [], alts := [], laidByText := true, laidKinds := [.data, .data, .data], laidTests := true, laidLooks := .later }
def RangesMakeUptoCardSaid : Prop := Claim7.holds Tryd.pinned (.plain (OpenSpec.upto rangesMakeSpec)) rangesMakeUptoCard

/-- THE SECOND FORM's CARD OF 'virgulelaw02.RangesJoin'. -/
def rangesJoinUptoCard : Claim7 := { stood := { row := rangesJoinUptoRow, standIns := [], harness := (true, "d338f0f6eb5f5a4c2dd97e172309e9d85a221adfe05b0f48f18ba13cc592ba39"), looks := true }, kinds := [], alts := [], laidByText := true, laidKinds := [.data, .data, .data], laidTests := true, laidLooks := .later }
def RangesJoinUptoCardSaid : Prop := Claim7.holds Tryd.pinned (.plain (OpenSpec.upto rangesJoinSpec)) rangesJoinUptoCard

/-- THE SECOND FORM's CARD OF 'virgulelaw02.RangesLaws'. -/
def rangesLawsUptoCard : Claim7 := { stood := { row := rangesLawsUptoRow, standIns := [], harness := (true, "d338f0f6eb5f5a4c2dd97e172309e9d85a221adfe05b0f48f18ba13cc592ba39"), looks := true }, kinds := [], alts := [], laidByText := true, laidKinds := [.data, .data, .data], laidTests := true, laidLooks := .later }
def RangesLawsUptoCardSaid : Prop := Claim7.holds Tryd.pinned (.plain (OpenSpec.upto rangesLawsSpec)) rangesLawsUptoCard

/-- THE SECOND FORM's CARD OF 'virgulelaw02.RangesMany'. -/
def rangesManyUptoCard : Claim7 := { stood := { row := rangesManyUptoRow, standIns := [], harness := (true, "d338f0f6eb5f5a4c2dd97e172309e9d85a221adfe05b0f48f18ba13cc592ba39"), looks := true }, kinds := [], alts := [], laidByText := true, laidKinds := [.data, .data, .data], laidTests := true, laidLooks := .later }
def RangesManyUptoCardSaid : Prop := Claim7.holds Tryd.pinned (.plain (OpenSpec.upto rangesManySpec)) rangesManyUptoCard
end Rows
end Go.Proofs.YtimiinnnmdcmhaaDoor
