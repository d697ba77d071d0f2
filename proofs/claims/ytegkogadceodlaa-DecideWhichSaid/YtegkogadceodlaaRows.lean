/-
  NARROWER THAN 'FOR EVERY INPUT', by the rows' own cells (each row's printed sentence says how): ExprMatches: loops · ExprBounds: loops · ExprMacros: loops · DecideBreaks: loops · DecideWhich: loops · DecideHides: loops · DecideSeen: loops · DecideFirst: loops.
  DERIVED. THE GIVEN ROWS OF THIS SEAT. 8 by the template 'for every input the law returns true; each argument reads behind the call as it read before'; 0 by the template 'total and deterministic' (their statements: YtegkogadceodlaaTotals.lean).
  GIVEN WITH THE SEED: the statements are not yours to turn. If you find one false, say at which input.
  Laid BY PROGRAM, IN A SANDBOX (cutbox-rows.mjs): the forced cells as the released guide's own fill.sh prints them over the translation 3c624c4f314ee3b5… (all of the seat's roots in one cut). By AI agents, Wed Nov 11 2026. No macro, syntax, notation, axiom, sorry.
-/
import Derived.Test.YtegkogadceodlaaChecked
import GoSem.Claim
import GoSem.ClaimJoined
import GoSem.ClaimMapViews
import Derived.JoinedTies
import Derived.KernelRfl
namespace Go.Proofs.Ytegkogadceodlaa
/- THE CELL 'sum', in the pinned program and in every row, IS THE sha256 OF THE DUMP (.gsa) THAT YtegkogadceodlaaProg.lean LOADS. Nothing in Lean hashes anything: it is a label: what it is worth is what the hold of that sum in a sandbox is worth. -/
noncomputable def Try.pinned : Pinned := { name := "ytegkogadceodlaa", sum := "3c624c4f314ee3b5b0835ca56602da9152ab0004f5f79b1e1101c7366ffc1cac", checked := Try.checked }
namespace Rows
def none {H : Type} : Left H := { results := [], args := [] }

/-- 'virgulelaw05.ExprMatches': WHATEVER THE INPUT: true; the input reads as it did. -/
def exprMatchesSpec : ChangeSpec := { name := "exprMatches", fn := fun _ => fun
  | [d1, d2] => { results := [.lit (.bool true)], args := [d1, d2] }
  | _ => none }
def exprMatchesRow : OpenClaim := { program := "ytegkogadceodlaa", sum := "3c624c4f314ee3b5b0835ca56602da9152ab0004f5f79b1e1101c7366ffc1cac", func := "virgule/virgulelaw05.ExprMatches", spec := "exprMatches", inPlace := ["internal/abi.NoEscape"], unfollowed := true, recurses := true, loops := true, plainKeys := false, apart := false }
def ExprMatchesSaid : Prop := exprMatchesRow.holds Try.pinned (OpenSpec.ofChange exprMatchesSpec)

/-- ITS FALSE NEIGHBOUR: 'it returns false'. Refute it at one input. -/
def exprMatchesWrong : ChangeSpec := { name := "exprMatches", fn := fun _ => fun
  | [d1, d2] => { results := [.lit (.bool false)], args := [d1, d2] }
  | _ => none }
def ExprMatchesWrongFalsely : Prop := exprMatchesRow.holds Try.pinned (OpenSpec.ofChange exprMatchesWrong)

/-- 'virgulelaw05.ExprBounds': WHATEVER THE INPUT: true; the input reads as it did. -/
def exprBoundsSpec : ChangeSpec := { name := "exprBounds", fn := fun _ => fun
  | [d1, d2] => { results := [.lit (.bool true)], args := [d1, d2] }
  | _ => none }
def exprBoundsRow : OpenClaim := { program := "ytegkogadceodlaa", sum := "3c624c4f314ee3b5b0835ca56602da9152ab0004f5f79b1e1101c7366ffc1cac", func := "virgule/virgulelaw05.ExprBounds", spec := "exprBounds", inPlace := ["internal/abi.NoEscape"], unfollowed := true, recurses := true, loops := true, plainKeys := false, apart := false }
def ExprBoundsSaid : Prop := exprBoundsRow.holds Try.pinned (OpenSpec.ofChange exprBoundsSpec)

/-- ITS FALSE NEIGHBOUR: 'it returns false'. Refute it at one input. -/
def exprBoundsWrong : ChangeSpec := { name := "exprBounds", fn := fun _ => fun
  | [d1, d2] => { results := [.lit (.bool false)], args := [d1, d2] }
  | _ => none }
def ExprBoundsWrongFalsely : Prop := exprBoundsRow.holds Try.pinned (OpenSpec.ofChange exprBoundsWrong)

/-- 'virgulelaw05.ExprMacros': WHATEVER THE INPUT: true; the input reads as it did. -/
def exprMacrosSpec : ChangeSpec := { name := "exprMacros", fn := fun _ => fun
  | [d1, d2, d3] => { results := [.lit (.bool true)], args := [d1, d2, d3] }
  | _ => none }
def exprMacrosRow : OpenClaim := { program := "ytegkogadceodlaa", sum := "3c624c4f314ee3b5b0835ca56602da9152ab0004f5f79b1e1101c7366ffc1cac", func := "virgule/virgulelaw05.ExprMacros", spec := "exprMacros", inPlace := ["internal/abi.NoEscape"], unfollowed := true, recurses := true, loops := true, plainKeys := false, apart := false }
def ExprMacrosSaid : Prop := exprMacrosRow.holds Try.pinned (OpenSpec.ofChange exprMacrosSpec)

/-- ITS FALSE NEIGHBOUR: 'it returns false'. Refute it at one input. -/
def exprMacrosWrong : ChangeSpec := { name := "exprMacros", fn := fun _ => fun
  | [d1, d2, d3] => { results := [.lit (.bool false)], args := [d1, d2, d3] }
  | _ => none }
def ExprMacrosWrongFalsely : Prop := exprMacrosRow.holds Try.pinned (OpenSpec.ofChange exprMacrosWrong)

/-- 'virgulelaw07.DecideBreaks': WHATEVER THE INPUT: true; the input reads as it did. -/
def decideBreaksSpec : ChangeSpec := { name := "decideBreaks", fn := fun _ => fun
  | [d1, d2] => { results := [.lit (.bool true)], args := [d1, d2] }
  | _ => none }
def decideBreaksRow : OpenClaim := { program := "ytegkogadceodlaa", sum := "3c624c4f314ee3b5b0835ca56602da9152ab0004f5f79b1e1101c7366ffc1cac", func := "virgule/virgulelaw07.DecideBreaks", spec := "decideBreaks", unfollowed := true, recurses := true, loops := true, plainKeys := false, apart := false }
def DecideBreaksSaid : Prop := decideBreaksRow.holds Try.pinned (OpenSpec.ofChange decideBreaksSpec)

/-- ITS FALSE NEIGHBOUR: 'it returns false'. Refute it at one input. -/
def decideBreaksWrong : ChangeSpec := { name := "decideBreaks", fn := fun _ => fun
  | [d1, d2] => { results := [.lit (.bool false)], args := [d1, d2] }
  | _ => none }
def DecideBreaksWrongFalsely : Prop := decideBreaksRow.holds Try.pinned (OpenSpec.ofChange decideBreaksWrong)

/-- 'virgulelaw07.DecideWhich': WHATEVER THE INPUT: true; the input reads as it did. -/
def decideWhichSpec : ChangeSpec := { name := "decideWhich", fn := fun _ => fun
  | [d1, d2, d3] => { results := [.lit (.bool true)], args := [d1, d2, d3] }
  | _ => none }
def decideWhichRow : OpenClaim := { program := "ytegkogadceodlaa", sum := "3c624c4f314ee3b5b0835ca56602da9152ab0004f5f79b1e1101c7366ffc1cac", func := "virgule/virgulelaw07.DecideWhich", spec := "decideWhich", unfollowed := true, recurses := true, loops := true, plainKeys := false, apart := false }
def DecideWhichSaid : Prop := decideWhichRow.holds Try.pinned (OpenSpec.ofChange decideWhichSpec)

/-- ITS FALSE NEIGHBOUR: 'it returns false'. Refute it at one input. -/
def decideWhichWrong : ChangeSpec := { name := "decideWhich", fn := fun _ => fun
  | [d1, d2, d3] => { results := [.lit (.bool false)], args := [d1, d2, d3] }
  | _ => none }
def DecideWhichWrongFalsely : Prop := decideWhichRow.holds Try.pinned (OpenSpec.ofChange decideWhichWrong)

/-- 'virgulelaw07.DecideHides': WHATEVER THE INPUT: true; the input reads as it did. -/
def decideHidesSpec : ChangeSpec := { name := "decideHides", fn := fun _ => fun
  | [d1, d2] => { results := [.lit (.bool true)], args := [d1, d2] }
  | _ => none }
def decideHidesRow : OpenClaim := { program := "ytegkogadceodlaa", sum := "3c624c4f314ee3b5b0835ca56602da9152ab0004f5f79b1e1101c7366ffc1cac", func := "virgule/virgulelaw07.DecideHides", spec := "decideHides", unfollowed := true, recurses := true, loops := true, plainKeys := false, apart := false }
def DecideHidesSaid : Prop := decideHidesRow.holds Try.pinned (OpenSpec.ofChange decideHidesSpec)

/-- ITS FALSE NEIGHBOUR: 'it returns false'. Refute it at one input. -/
def decideHidesWrong : ChangeSpec := { name := "decideHides", fn := fun _ => fun
  | [d1, d2] => { results := [.lit (.bool false)], args := [d1, d2] }
  | _ => none }
def DecideHidesWrongFalsely : Prop := decideHidesRow.holds Try.pinned (OpenSpec.ofChange decideHidesWrong)

/-- 'virgulelaw07.DecideSeen': WHATEVER THE INPUT: true; the input reads as it did. -/
def decideSeenSpec : ChangeSpec := { name := "decideSeen", fn := fun _ => fun
  | [d1, d2] => { results := [.lit (.bool true)], args := [d1, d2] }
  | _ => none }
def decideSeenRow : OpenClaim := { program := "ytegkogadceodlaa", sum := "3c624c4f314ee3b5b0835ca56602da9152ab0004f5f79b1e1101c7366ffc1cac", func := "virgule/virgulelaw07.DecideSeen", spec := "decideSeen", unfollowed := true, recurses := true, loops := true, plainKeys := false, apart := false }
def DecideSeenSaid : Prop := decideSeenRow.holds Try.pinned (OpenSpec.ofChange decideSeenSpec)

/-- ITS FALSE NEIGHBOUR: 'it returns false'. Refute it at one input. -/
def decideSeenWrong : ChangeSpec := { name := "decideSeen", fn := fun _ => fun
  | [d1, d2] => { results := [.lit (.bool false)], args := [d1, d2] }
  | _ => none }
def DecideSeenWrongFalsely : Prop := decideSeenRow.holds Try.pinned (OpenSpec.ofChange decideSeenWrong)

/-- 'virgulelaw07.DecideFirst': WHATEVER THE INPUT: true; the input reads as it did. -/
def decideFirstSpec : ChangeSpec := { name := "decideFirst", fn := fun _ => fun
  | [d1, d2, d3] => { results := [.lit (.bool true)], args := [d1, d2, d3] }
  | _ => none }
def decideFirstRow : OpenClaim := { program := "ytegkogadceodlaa", sum := "3c624c4f314ee3b5b0835ca56602da9152ab0004f5f79b1e1101c7366ffc1cac", func := "virgule/virgulelaw07.DecideFirst", spec := "decideFirst", unfollowed := true, recurses := true, loops := true, plainKeys := false, apart := false }
def DecideFirstSaid : Prop := decideFirstRow.holds Try.pinned (OpenSpec.ofChange decideFirstSpec)

/-- ITS FALSE NEIGHBOUR: 'it returns false'. Refute it at one input. -/
def decideFirstWrong : ChangeSpec := { name := "decideFirst", fn := fun _ => fun
  | [d1, d2, d3] => { results := [.lit (.bool false)], args := [d1, d2, d3] }
  | _ => none }
def DecideFirstWrongFalsely : Prop := decideFirstRow.holds Try.pinned (OpenSpec.ofChange decideFirstWrong)

/- THE SECOND FORM. 'bulk': how many values and letters a reading holds, each counted each time it is reached (what is shared counts as often as it is met; a slice's spare places count too). A statement '..UptoSaid' is the law's where the arguments, and the package variables that the reading takes, are together of bulk at most 1048576: NARROWER than '..Said'. Prove '..Said' where nothing that the law and all that it calls make is longer than what came in: it says more and counts as full. Else prove '..UptoSaid'. A law counts once. -/
mutual
def uptoBulk {H : Type} : DataW H → Nat
  | .lit (.string bytes) => bytes.length + 1
  | .lit _ => 1
  | .nil => 1
  | .ptr d => uptoBulk d + 1
  | .slice elems spare => uptoBulkAll elems + uptoBulkAll spare + 1
  | .agg parts => uptoBulkAll parts + 1
  | .iface _ d => uptoBulk d + 1
  | .map entries => uptoBulkEntries entries + 1
  | .held _ => 1
def uptoBulkAll {H : Type} : List (DataW H) → Nat
  | [] => 0
  | d :: r => uptoBulk d + uptoBulkAll r
def uptoBulkEntries {H : Type} : List (Lit × DataW H) → Nat
  | [] => 0
  | x :: r => uptoBulkEntry x + uptoBulkEntries r
def uptoBulkEntry {H : Type} : Lit × DataW H → Nat
  | (.string bytes, d) => bytes.length + uptoBulk d + 1
  | (_, d) => uptoBulk d + 1
 end
def uptoSmall : (H : Type) → List (DataW H) → Bool := fun _ ds => decide (uptoBulkAll ds ≤ 1048576)
def OpenSpec.upto (s : _root_.Go.ChangeSpec) : _root_.Go.OpenSpec := { _root_.Go.OpenSpec.ofChange s with cond := some uptoSmall }

/-- 'virgulelaw05.ExprMatches', WHERE WHAT IT READS IS OF BULK AT MOST 1048576: true; the input reads as it did. -/
def exprMatchesUptoRow : OpenClaim := { program := "ytegkogadceodlaa", sum := "3c624c4f314ee3b5b0835ca56602da9152ab0004f5f79b1e1101c7366ffc1cac", func := "virgule/virgulelaw05.ExprMatches", spec := "exprMatches", inPlace := ["internal/abi.NoEscape"], unfollowed := true, recurses := true, loops := true, plainKeys := false, apart := false, narrowed := true }
def ExprMatchesUptoSaid : Prop := exprMatchesUptoRow.holds Try.pinned (OpenSpec.upto exprMatchesSpec)

/-- 'virgulelaw05.ExprBounds', WHERE WHAT IT READS IS OF BULK AT MOST 1048576: true; the input reads as it did. -/
def exprBoundsUptoRow : OpenClaim := { program := "ytegkogadceodlaa", sum := "3c624c4f314ee3b5b0835ca56602da9152ab0004f5f79b1e1101c7366ffc1cac", func := "virgule/virgulelaw05.ExprBounds", spec := "exprBounds", inPlace := ["internal/abi.NoEscape"], unfollowed := true, recurses := true, loops := true, plainKeys := false, apart := false, narrowed := true }
def ExprBoundsUptoSaid : Prop := exprBoundsUptoRow.holds Try.pinned (OpenSpec.upto exprBoundsSpec)

/-- 'virgulelaw05.ExprMacros', WHERE WHAT IT READS IS OF BULK AT MOST 1048576: true; the input reads as it did. -/
def exprMacrosUptoRow : OpenClaim := { program := "ytegkogadceodlaa", sum := "3c624c4f314ee3b5b0835ca56602da9152ab0004f5f79b1e1101c7366ffc1cac", func := "virgule/virgulelaw05.ExprMacros", spec := "exprMacros", inPlace := ["internal/abi.NoEscape"], unfollowed := true, recurses := true, loops := true, plainKeys := false, apart := false, narrowed := true }
def ExprMacrosUptoSaid : Prop := exprMacrosUptoRow.holds Try.pinned (OpenSpec.upto exprMacrosSpec)

/-- 'virgulelaw07.DecideBreaks', WHERE WHAT IT READS IS OF BULK AT MOST 1048576: true; the input reads as it did. -/
def decideBreaksUptoRow : OpenClaim := { program := "ytegkogadceodlaa", sum := "3c624c4f314ee3b5b0835ca56602da9152ab0004f5f79b1e1101c7366ffc1cac", func := "virgule/virgulelaw07.DecideBreaks", spec := "decideBreaks", unfollowed := true, recurses := true, loops := true, plainKeys := false, apart := false, narrowed := true }
def DecideBreaksUptoSaid : Prop := decideBreaksUptoRow.holds Try.pinned (OpenSpec.upto decideBreaksSpec)

/-- 'virgulelaw07.DecideWhich', WHERE WHAT IT READS IS OF BULK AT MOST 1048576: true; the input reads as it did. -/
def decideWhichUptoRow : OpenClaim := { program := "ytegkogadceodlaa", sum := "3c624c4f314ee3b5b0835ca56602da9152ab0004f5f79b1e1101c7366ffc1cac", func := "virgule/virgulelaw07.DecideWhich", spec := "decideWhich", unfollowed := true, recurses := true, loops := true, plainKeys := false, apart := false, narrowed := true }
def DecideWhichUptoSaid : Prop := decideWhichUptoRow.holds Try.pinned (OpenSpec.upto decideWhichSpec)

/-- 'virgulelaw07.DecideHides', WHERE WHAT IT READS IS OF BULK AT MOST 1048576: true; the input reads as it did. -/
def decideHidesUptoRow : OpenClaim := { program := "ytegkogadceodlaa", sum := "3c624c4f314ee3b5b0835ca56602da9152ab0004f5f79b1e1101c7366ffc1cac", func := "virgule/virgulelaw07.DecideHides", spec := "decideHides", unfollowed := true, recurses := true, loops := true, plainKeys := false, apart := false, narrowed := true }
def DecideHidesUptoSaid : Prop := decideHidesUptoRow.holds Try.pinned (OpenSpec.upto decideHidesSpec)

/-- 'virgulelaw07.DecideSeen', WHERE WHAT IT READS IS OF BULK AT MOST 1048576: true; the input reads as it did. -/
def decideSeenUptoRow : OpenClaim := { program := "ytegkogadceodlaa", sum := "3c624c4f314ee3b5b0835ca56602da9152ab0004f5f79b1e1101c7366ffc1cac", func := "virgule/virgulelaw07.DecideSeen", spec := "decideSeen", unfollowed := true, recurses := true, loops := true, plainKeys := false, apart := false, narrowed := true }
def DecideSeenUptoSaid : Prop := decideSeenUptoRow.holds Try.pinned (OpenSpec.upto decideSeenSpec)

/-- 'virgulelaw07.DecideFirst', WHERE WHAT IT READS IS OF BULK AT MOST 1048576: true; the input reads as it did. -/
def decideFirstUptoRow : OpenClaim := { program := "ytegkogadceodlaa", sum := "3c624c4f314ee3b5b0835ca56602da9152ab0004f5f79b1e1101c7366ffc1cac", func := "virgule/virgulelaw07.DecideFirst", spec := "decideFirst", unfollowed := true, recurses := true, loops := true, plainKeys := false, apart := false, narrowed := true }
def DecideFirstUptoSaid : Prop := decideFirstUptoRow.holds Try.pinned (OpenSpec.upto decideFirstSpec)

end Rows
end Go.Proofs.Ytegkogadceodlaa
