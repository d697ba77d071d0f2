/-
  DERIVED. GIVEN WITH THE SEED: THE CARDS: each row of YtojinnnpfjhifaaGreatDoorRows.lean that lists a variable, with what it lists TIED to the program's text (the seventh form; the later family's looks); each row that meets fmt, with fmt's text TOLD by the authors' own Lean function (tested against real Go, not proved from fmt's source: count such statements apart). THE CARD IS WHAT COUNTS. Prove the row's statement (the work); the ties are given (YtojinnnpfjhifaaGreatDoorTie.lean); close each card by the builder's one call (the guide's Derived/Test/ToyasCard.lean, 'card_holds'). Laid BY PROGRAM, IN A SANDBOX (cutbox-door.mjs). By AI agents, Wed Nov 11 2026. No macro, syntax, notation, axiom, sorry.
-/
import Derived.Test.YtojinnnpfjhifaaGreatDoorRows
import GoSem.ClaimSeven
namespace Go.Proofs.YtojinnnpfjhifaaGreatDoor
namespace Rows

/-- THE TIED CARD OF 'virgulelaw23.ExtractAll'. -/
def extractAllCard : Claim7 := { stood := { row := extractAllRow, standIns := [], harness := (true, "f44a9557a23f5ff39d4fb72b61fb2ebe813314dde12cce187cb66d70984972e8"), looks := true }, kinds := [], alts := [], laidByText := true, laidKinds := [.data, .data, .data, .data, .sentinel, .sentinel, .pinned], laidTests := true, laidLooks := .later }
def ExtractAllCardSaid : Prop := Claim7.holds Tryz.pinned (.plain (OpenSpec.ofChange extractAllSpec)) extractAllCard

/-- THE TIED CARD OF 'virgulelaw23.ExtractTakes'. -/
def extractTakesCard : Claim7 := { stood := { row := extractTakesRow, standIns := [], harness := (true, "f44a9557a23f5ff39d4fb72b61fb2ebe813314dde12cce187cb66d70984972e8"), looks := true }, kinds := [], alts := [], laidByText := true, laidKinds := [.data, .data, .data, .data, .sentinel, .sentinel, .pinned], laidTests := true, laidLooks := .later }
def ExtractTakesCardSaid : Prop := Claim7.holds Tryz.pinned (.plain (OpenSpec.ofChange extractTakesSpec)) extractTakesCard

/-- THE TIED CARD OF 'virgulelaw23.ExtractRises'. -/
def extractRisesCard : Claim7 := { stood := { row := extractRisesRow, standIns := [], harness := (true, "f44a9557a23f5ff39d4fb72b61fb2ebe813314dde12cce187cb66d70984972e8"), looks := true }, kinds := [], alts := [], laidByText := true, laidKinds := [.data, .data, .data, .data, .sentinel, .sentinel, .pinned], laidTests := true, laidLooks := .later }
def ExtractRisesCardSaid : Prop := Claim7.holds Tryz.pinned (.plain (OpenSpec.ofChange extractRisesSpec)) extractRisesCard

/-- THE TIED CARD OF 'virgulelaw23.ExtractPlain'. -/
def extractPlainCard : Claim7 := { stood := { row := extractPlainRow, standIns := [], harness := (true, "f44a9557a23f5ff39d4fb72b61fb2ebe813314dde12cce187cb66d70984972e8"), looks := true }, kinds := [], alts := [], laidByText := true, laidKinds := [.data, .data, .data, .data, .sentinel, .sentinel, .pinned], laidTests := true, laidLooks := .later }
def ExtractPlainCardSaid : Prop := Claim7.holds Tryz.pinned (.plain (OpenSpec.ofChange extractPlainSpec)) extractPlainCard

/-- THE SECOND FORM's CARD OF 'virgulelaw23.ExtractAll'. -/
def extractAllUptoCard : Claim7 := { stood := { row := extractAllUptoRow, standIns := [], harness := (true, "f44a9557a23f5ff39d4fb72b61fb2ebe813314dde12cce187cb66d70984972e8"), looks := true }, kinds := [], alts := [], laidByText := true, laidKinds := [.data, .data, .data, .data, .sentinel, .sentinel, .pinned], laidTests := true, laidLooks := .later }
def ExtractAllUptoCardSaid : Prop := Claim7.holds Tryz.pinned (.plain (OpenSpec.upto extractAllSpec)) extractAllUptoCard

/-- THE SECOND FORM's CARD OF 'virgulelaw23.ExtractTakes'. -/
def extractTakesUptoCard : Claim7 := { stood := { row := extractTakesUptoRow, standIns := [], harness := (true, "f44a9557a23f5ff39d4fb72b61fb2ebe813314dde12cce187cb66d70984972e8"), looks := true }, kinds := [], alts := [], laidByText := true, laidKinds := [.data, .data, .data, .data, .sentinel, .sentinel, .pinned], laidTests := true, laidLooks := .later }
def ExtractTakesUptoCardSaid : Prop := Claim7.holds Tryz.pinned (.plain (OpenSpec.upto extractTakesSpec)) extractTakesUptoCard

/-- THE SECOND FORM's CARD OF 'virgulelaw23.ExtractRises'. -/
def extractRisesUptoCard : Claim7 := { stood := { row := extractRisesUptoRow, standIns := [], harness := (true, "f44a9557a23f5ff39d4fb72b61fb2ebe813314dde12cce187cb66d70984972e8"), looks := true }, kinds := [], alts := [], laidByText := true, laidKinds := [.data, .data, .data, .data, .sentinel, .sentinel, .pinned], laidTests := true, laidLooks := .later }
def ExtractRisesUptoCardSaid : Prop := Claim7.holds Tryz.pinned (.plain (OpenSpec.upto extractRisesSpec)) extractRisesUptoCard

/-- THE SECOND FORM's CARD OF 'virgulelaw23.ExtractPlain'. -/
def extractPlainUptoCard : Claim7 := { stood := { row := extractPlainUptoRow, standIns := [], harness := (true, "f44a9557a23f5ff39d4fb72b61fb2ebe813314dde12cce187cb66d70984972e8"), looks := true }, kinds := [], alts := [], laidByText := true, laidKinds := [.data, .data, .data, .data, .sentinel, .sentinel, .pinned], laidTests := true, laidLooks := .later }
def ExtractPlainUptoCardSaid : Prop := Claim7.holds Tryz.pinned (.plain (OpenSpec.upto extractPlainSpec)) extractPlainUptoCard
end Rows
end Go.Proofs.YtojinnnpfjhifaaGreatDoor
