/-
  No cell of these rows narrows 'for every input' (looked for: loops, veiled, ifaces, maps, wideKeys, modest, calm, conditions, laid).
  DERIVED. THE GIVEN ROWS OF THIS SEAT. 4 by the template 'for every input the law returns true; each argument reads behind the call as it read before'; 0 by the template 'total and deterministic' (their statements: YtflhdfbpafhjlaaTotals.lean).
  GIVEN WITH THE SEED: the statements are not yours to turn. If you find one false, say at which input.
  Laid BY PROGRAM, IN A SANDBOX (cutbox-rows.mjs): the forced cells as the released guide's own fill.sh prints them over the translation f7e2deef3230ee9f… (all of the seat's roots in one cut). By AI agents, Wed Nov 11 2026. No macro, syntax, notation, axiom, sorry.
-/
import Derived.Test.YtflhdfbpafhjlaaChecked
import GoSem.Claim
import GoSem.ClaimJoined
import GoSem.ClaimMapViews
import Derived.JoinedTies
import Derived.KernelRfl
namespace Go.Proofs.Ytflhdfbpafhjlaa
/- THE CELL 'sum', in the pinned program and in every row, IS THE sha256 OF THE DUMP (.gsa) THAT YtflhdfbpafhjlaaProg.lean LOADS. Nothing in Lean hashes anything: it is a label: what it is worth is what the hold of that sum in a sandbox is worth. -/
noncomputable def Try.pinned : Pinned := { name := "ytflhdfbpafhjlaa", sum := "f7e2deef3230ee9fb96bb773ba4cc874e88abeae6da1b1066ece9d4b281a1795", checked := Try.checked }
namespace Rows
def none {H : Type} : Left H := { results := [], args := [] }

/-- 'virgulelaw25.OverlayBetween': WHATEVER THE INPUT: true; the input reads as it did. -/
def overlayBetweenSpec : ChangeSpec := { name := "overlayBetween", fn := fun _ => fun
  | [d1, d2, d3, d4] => { results := [.lit (.bool true)], args := [d1, d2, d3, d4] }
  | _ => none }
def overlayBetweenRow : OpenClaim := { program := "ytflhdfbpafhjlaa", sum := "f7e2deef3230ee9fb96bb773ba4cc874e88abeae6da1b1066ece9d4b281a1795", func := "virgule/virgulelaw25.OverlayBetween", spec := "overlayBetween", unfollowed := true, recurses := true, apart := false }
def OverlayBetweenSaid : Prop := overlayBetweenRow.holds Try.pinned (OpenSpec.ofChange overlayBetweenSpec)

/-- ITS FALSE NEIGHBOUR: 'it returns false'. Refute it at one input. -/
def overlayBetweenWrong : ChangeSpec := { name := "overlayBetween", fn := fun _ => fun
  | [d1, d2, d3, d4] => { results := [.lit (.bool false)], args := [d1, d2, d3, d4] }
  | _ => none }
def OverlayBetweenWrongFalsely : Prop := overlayBetweenRow.holds Try.pinned (OpenSpec.ofChange overlayBetweenWrong)

/-- 'virgulelaw25.OverlayBreaks': WHATEVER THE INPUT: true; the input reads as it did. -/
def overlayBreaksSpec : ChangeSpec := { name := "overlayBreaks", fn := fun _ => fun
  | [d1, d2, d3] => { results := [.lit (.bool true)], args := [d1, d2, d3] }
  | _ => none }
def overlayBreaksRow : OpenClaim := { program := "ytflhdfbpafhjlaa", sum := "f7e2deef3230ee9fb96bb773ba4cc874e88abeae6da1b1066ece9d4b281a1795", func := "virgule/virgulelaw25.OverlayBreaks", spec := "overlayBreaks", unfollowed := true, recurses := true, apart := false }
def OverlayBreaksSaid : Prop := overlayBreaksRow.holds Try.pinned (OpenSpec.ofChange overlayBreaksSpec)

/-- ITS FALSE NEIGHBOUR: 'it returns false'. Refute it at one input. -/
def overlayBreaksWrong : ChangeSpec := { name := "overlayBreaks", fn := fun _ => fun
  | [d1, d2, d3] => { results := [.lit (.bool false)], args := [d1, d2, d3] }
  | _ => none }
def OverlayBreaksWrongFalsely : Prop := overlayBreaksRow.holds Try.pinned (OpenSpec.ofChange overlayBreaksWrong)

/-- 'virgulelaw25.OverlayPlain': WHATEVER THE INPUT: true; the input reads as it did. -/
def overlayPlainSpec : ChangeSpec := { name := "overlayPlain", fn := fun _ => fun
  | [d1, d2, d3, d4, d5] => { results := [.lit (.bool true)], args := [d1, d2, d3, d4, d5] }
  | _ => none }
def overlayPlainRow : OpenClaim := { program := "ytflhdfbpafhjlaa", sum := "f7e2deef3230ee9fb96bb773ba4cc874e88abeae6da1b1066ece9d4b281a1795", func := "virgule/virgulelaw25.OverlayPlain", spec := "overlayPlain", unfollowed := true, recurses := true, apart := false }
def OverlayPlainSaid : Prop := overlayPlainRow.holds Try.pinned (OpenSpec.ofChange overlayPlainSpec)

/-- ITS FALSE NEIGHBOUR: 'it returns false'. Refute it at one input. -/
def overlayPlainWrong : ChangeSpec := { name := "overlayPlain", fn := fun _ => fun
  | [d1, d2, d3, d4, d5] => { results := [.lit (.bool false)], args := [d1, d2, d3, d4, d5] }
  | _ => none }
def OverlayPlainWrongFalsely : Prop := overlayPlainRow.holds Try.pinned (OpenSpec.ofChange overlayPlainWrong)

/-- 'virgulelaw25.OverlayHolds': WHATEVER THE INPUT: true; the input reads as it did. -/
def overlayHoldsSpec : ChangeSpec := { name := "overlayHolds", fn := fun _ => fun
  | [d1, d2, d3, d4] => { results := [.lit (.bool true)], args := [d1, d2, d3, d4] }
  | _ => none }
def overlayHoldsRow : OpenClaim := { program := "ytflhdfbpafhjlaa", sum := "f7e2deef3230ee9fb96bb773ba4cc874e88abeae6da1b1066ece9d4b281a1795", func := "virgule/virgulelaw25.OverlayHolds", spec := "overlayHolds", unfollowed := true, recurses := true, apart := false }
def OverlayHoldsSaid : Prop := overlayHoldsRow.holds Try.pinned (OpenSpec.ofChange overlayHoldsSpec)

/-- ITS FALSE NEIGHBOUR: 'it returns false'. Refute it at one input. -/
def overlayHoldsWrong : ChangeSpec := { name := "overlayHolds", fn := fun _ => fun
  | [d1, d2, d3, d4] => { results := [.lit (.bool false)], args := [d1, d2, d3, d4] }
  | _ => none }
def OverlayHoldsWrongFalsely : Prop := overlayHoldsRow.holds Try.pinned (OpenSpec.ofChange overlayHoldsWrong)

/- THE SECOND FORM. 'bulk': how many values and letters a reading holds, each counted each time it is reached (what is shared counts as often as it is met; a slice's spare places count too). A statement '..UptoSaid' is the law's where the arguments, and the package variables that the reading takes, are together of bulk at most 1048576: NARROWER than '..Said'. Prove '..Said' where nothing that the law and all that it calls make is longer than what came in: it says more and counts as full. Else prove '..UptoSaid'. A law counts once. -/
mutual
def uptoBulk {H : Type} : DataW H → Nat
  | .lit (.string bytes) => bytes.length + 1
  | .lit _ => 1
  | .nil => 1
  | .ptr d => uptoBulk d + 1
  | .slice elems spare => uptoBulkAll elems + uptoBulkAll spare + 1
  | .agg parts => uptoBulkAll parts + 1
  | .iface _ d => uptoBulk d + 1
  | .map entries => uptoBulkEntries entries + 1
  | .held _ => 1
def uptoBulkAll {H : Type} : List (DataW H) → Nat
  | [] => 0
  | d :: r => uptoBulk d + uptoBulkAll r
def uptoBulkEntries {H : Type} : List (Lit × DataW H) → Nat
  | [] => 0
  | x :: r => uptoBulkEntry x + uptoBulkEntries r
def uptoBulkEntry {H : Type} : Lit × DataW H → Nat
  | (.string bytes, d) => bytes.length + uptoBulk d + 1
  | (_, d) => uptoBulk d + 1
 end
def uptoSmall : (H : Type) → List (DataW H) → Bool := fun _ ds => decide (uptoBulkAll ds ≤ 1048576)
def OpenSpec.upto (s : _root_.Go.ChangeSpec) : _root_.Go.OpenSpec := { _root_.Go.OpenSpec.ofChange s with cond := some uptoSmall }

/-- 'virgulelaw25.OverlayBetween', WHERE WHAT IT READS IS OF BULK AT MOST 1048576: true; the input reads as it did. -/
def overlayBetweenUptoRow : OpenClaim := { program := "ytflhdfbpafhjlaa", sum := "f7e2deef3230ee9fb96bb773ba4cc874e88abeae6da1b1066ece9d4b281a1795", func := "virgule/virgulelaw25.OverlayBetween", spec := "overlayBetween", unfollowed := true, recurses := true, apart := false, narrowed := true }
def OverlayBetweenUptoSaid : Prop := overlayBetweenUptoRow.holds Try.pinned (OpenSpec.upto overlayBetweenSpec)

/-- 'virgulelaw25.OverlayBreaks', WHERE WHAT IT READS IS OF BULK AT MOST 1048576: true; the input reads as it did. -/
def overlayBreaksUptoRow : OpenClaim := { program := "ytflhdfbpafhjlaa", sum := "f7e2deef3230ee9fb96bb773ba4cc874e88abeae6da1b1066ece9d4b281a1795", func := "virgule/virgulelaw25.OverlayBreaks", spec := "overlayBreaks", unfollowed := true, recurses := true, apart := false, narrowed := true }
def OverlayBreaksUptoSaid : Prop := overlayBreaksUptoRow.holds Try.pinned (OpenSpec.upto overlayBreaksSpec)

/-- 'virgulelaw25.OverlayPlain', WHERE WHAT IT READS IS OF BULK AT MOST 1048576: true; the input reads as it did. -/
def overlayPlainUptoRow : OpenClaim := { program := "ytflhdfbpafhjlaa", sum := "f7e2deef3230ee9fb96bb773ba4cc874e88abeae6da1b1066ece9d4b281a1795", func := "virgule/virgulelaw25.OverlayPlain", spec := "overlayPlain", unfollowed := true, recurses := true, apart := false, narrowed := true }
def OverlayPlainUptoSaid : Prop := overlayPlainUptoRow.holds Try.pinned (OpenSpec.upto overlayPlainSpec)

/-- 'virgulelaw25.OverlayHolds', WHERE WHAT IT READS IS OF BULK AT MOST 1048576: true; the input reads as it did. -/
def overlayHoldsUptoRow : OpenClaim := { program := "ytflhdfbpafhjlaa", sum := "f7e2deef3230ee9fb96bb773ba4cc874e88abeae6da1b1066ece9d4b281a1795", func := "virgule/virgulelaw25.OverlayHolds", spec := "overlayHolds", unfollowed := true, recurses := true, apart := false, narrowed := true }
def OverlayHoldsUptoSaid : Prop := overlayHoldsUptoRow.holds Try.pinned (OpenSpec.upto overlayHoldsSpec)

end Rows
end Go.Proofs.Ytflhdfbpafhjlaa
