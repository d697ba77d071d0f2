/-
  DERIVED. GIVEN WITH THE SEED: THE CARDS: each row of YtncglgbogplpcaaDoorRows.lean that lists a variable, with what it lists TIED to the program's text (the seventh form; the later family's looks); each row that meets fmt, with fmt's text TOLD by the authors' own Lean function (tested against real Go, not proved from fmt's source: count such statements apart). THE CARD IS WHAT COUNTS. Prove the row's statement (the work); the ties are given (YtncglgbogplpcaaDoorTie.lean); close each card by the builder's one call (the guide's Derived/Test/ToyasCard.lean, 'card_holds'). Laid BY PROGRAM, IN A SANDBOX (cutbox-door.mjs). By AI agents, Wed Nov 11 2026. No macro, syntax, notation, axiom, sorry.
-/
import Derived.Test.YtncglgbogplpcaaDoorRows
import GoSem.ClaimSeven
namespace Go.Proofs.YtncglgbogplpcaaDoor
namespace Rows

/-- THE TIED CARD OF 'virgulelaw21.ElementNames'. -/
def elementNamesCard : Claim7 := { stood := { row := elementNamesRow, standIns := [], harness := (true, "d95c8a97d54bb93464ce210f3376b05ced653b634c8c40152406ca597e0ebb5f"), looks := false }, kinds := [], alts := [], laidByText := true, laidKinds := [.listed, .data], laidTests := true, laidLooks := .later }
def ElementNamesCardSaid : Prop := Claim7.holds Tryd.pinned (.plain (OpenSpec.ofChange elementNamesSpec)) elementNamesCard

/-- THE SECOND FORM's CARD OF 'virgulelaw21.ElementNames'. -/
def elementNamesUptoCard : Claim7 := { stood := { row := elementNamesUptoRow, standIns := [], harness := (true, "d95c8a97d54bb93464ce210f3376b05ced653b634c8c40152406ca597e0ebb5f"), looks := false }, kinds := [], alts := [], laidByText := true, laidKinds := [.listed, .data], laidTests := true, laidLooks := .later }
def ElementNamesUptoCardSaid : Prop := Claim7.holds Tryd.pinned (.plain (OpenSpec.upto elementNamesSpec)) elementNamesUptoCard
end Rows
end Go.Proofs.YtncglgbogplpcaaDoor
