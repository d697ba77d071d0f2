/-
  No cell of these rows narrows 'for every input' (looked for: loops, veiled, ifaces, maps, wideKeys, modest, calm, conditions, laid).
  DERIVED. THE GIVEN ROWS OF THIS SEAT. 4 by the template 'for every input the law returns true; each argument reads behind the call as it read before'; 0 by the template 'total and deterministic' (their statements: YtojinnnpfjhifaaTotals.lean).
  GIVEN WITH THE SEED: the statements are not yours to turn. If you find one false, say at which input.
  Laid BY PROGRAM, IN A SANDBOX (cutbox-rows.mjs): the forced cells as the released guide's own fill.sh prints them over the translation 4f887366a7d71a5d… (all of the seat's roots in one cut). By AI agents, Wed Nov 11 2026. No macro, syntax, notation, axiom, sorry.
-/
import Derived.Test.YtojinnnpfjhifaaChecked
import GoSem.Claim
import GoSem.ClaimJoined
import GoSem.ClaimMapViews
import Derived.JoinedTies
import Derived.KernelRfl
namespace Go.Proofs.Ytojinnnpfjhifaa
/- THE CELL 'sum', in the pinned program and in every row, IS THE sha256 OF THE DUMP (.gsa) THAT YtojinnnpfjhifaaProg.lean LOADS. Nothing in Lean hashes anything: it is a label: what it is worth is what the hold of that sum in a sandbox is worth. -/
noncomputable def Try.pinned : Pinned := { name := "ytojinnnpfjhifaa", sum := "4f887366a7d71a5d37c4499fd98eefb8d8a7ef14334f0388bf74e354e9b7de11", checked := Try.checked }
namespace Rows
def none {H : Type} : Left H := { results := [], args := [] }

/-- 'virgulelaw22.NestPlays': WHATEVER THE INPUT: true; the input reads as it did. -/
def nestPlaysSpec : ChangeSpec := { name := "nestPlays", fn := fun _ => fun
  | [d] => { results := [.lit (.bool true)], args := [d] }
  | _ => none }
def nestPlaysRow : OpenClaim := { program := "ytojinnnpfjhifaa", sum := "4f887366a7d71a5d37c4499fd98eefb8d8a7ef14334f0388bf74e354e9b7de11", func := "virgule/virgulelaw22.NestPlays", spec := "nestPlays", inPlace := ["internal/bytealg.IndexByteString", "internal/bytealg.IndexString"], named := ["internal/bytealg.MaxLen"], apart := false }
def NestPlaysSaid : Prop := nestPlaysRow.holds Try.pinned (OpenSpec.ofChange nestPlaysSpec)

/-- ITS FALSE NEIGHBOUR: 'it returns false'. Refute it at one input. -/
def nestPlaysWrong : ChangeSpec := { name := "nestPlays", fn := fun _ => fun
  | [d] => { results := [.lit (.bool false)], args := [d] }
  | _ => none }
def NestPlaysWrongFalsely : Prop := nestPlaysRow.holds Try.pinned (OpenSpec.ofChange nestPlaysWrong)

/-- 'virgulelaw22.NestFull': WHATEVER THE INPUT: true; the input reads as it did. -/
def nestFullSpec : ChangeSpec := { name := "nestFull", fn := fun _ => fun
  | [d1, d2, d3] => { results := [.lit (.bool true)], args := [d1, d2, d3] }
  | _ => none }
def nestFullRow : OpenClaim := { program := "ytojinnnpfjhifaa", sum := "4f887366a7d71a5d37c4499fd98eefb8d8a7ef14334f0388bf74e354e9b7de11", func := "virgule/virgulelaw22.NestFull", spec := "nestFull", inPlace := ["internal/bytealg.IndexByteString", "internal/bytealg.IndexString"], named := ["internal/bytealg.MaxLen"], apart := false }
def NestFullSaid : Prop := nestFullRow.holds Try.pinned (OpenSpec.ofChange nestFullSpec)

/-- ITS FALSE NEIGHBOUR: 'it returns false'. Refute it at one input. -/
def nestFullWrong : ChangeSpec := { name := "nestFull", fn := fun _ => fun
  | [d1, d2, d3] => { results := [.lit (.bool false)], args := [d1, d2, d3] }
  | _ => none }
def NestFullWrongFalsely : Prop := nestFullRow.holds Try.pinned (OpenSpec.ofChange nestFullWrong)

/-- 'virgulelaw22.NestBack': WHATEVER THE INPUT: true; the input reads as it did. -/
def nestBackSpec : ChangeSpec := { name := "nestBack", fn := fun _ => fun
  | [d1, d2] => { results := [.lit (.bool true)], args := [d1, d2] }
  | _ => none }
def nestBackRow : OpenClaim := { program := "ytojinnnpfjhifaa", sum := "4f887366a7d71a5d37c4499fd98eefb8d8a7ef14334f0388bf74e354e9b7de11", func := "virgule/virgulelaw22.NestBack", spec := "nestBack", inPlace := ["internal/bytealg.IndexByteString", "internal/bytealg.IndexString"], named := ["internal/bytealg.MaxLen"], apart := false }
def NestBackSaid : Prop := nestBackRow.holds Try.pinned (OpenSpec.ofChange nestBackSpec)

/-- ITS FALSE NEIGHBOUR: 'it returns false'. Refute it at one input. -/
def nestBackWrong : ChangeSpec := { name := "nestBack", fn := fun _ => fun
  | [d1, d2] => { results := [.lit (.bool false)], args := [d1, d2] }
  | _ => none }
def NestBackWrongFalsely : Prop := nestBackRow.holds Try.pinned (OpenSpec.ofChange nestBackWrong)

/-- 'virgulelaw22.NestNone': WHATEVER THE INPUT: true; the input reads as it did. -/
def nestNoneSpec : ChangeSpec := { name := "nestNone", fn := fun _ => fun
  | [d] => { results := [.lit (.bool true)], args := [d] }
  | _ => none }
def nestNoneRow : OpenClaim := { program := "ytojinnnpfjhifaa", sum := "4f887366a7d71a5d37c4499fd98eefb8d8a7ef14334f0388bf74e354e9b7de11", func := "virgule/virgulelaw22.NestNone", spec := "nestNone", inPlace := ["internal/bytealg.IndexByteString", "internal/bytealg.IndexString"], named := ["internal/bytealg.MaxLen"], apart := false }
def NestNoneSaid : Prop := nestNoneRow.holds Try.pinned (OpenSpec.ofChange nestNoneSpec)

/-- ITS FALSE NEIGHBOUR: 'it returns false'. Refute it at one input. -/
def nestNoneWrong : ChangeSpec := { name := "nestNone", fn := fun _ => fun
  | [d] => { results := [.lit (.bool false)], args := [d] }
  | _ => none }
def NestNoneWrongFalsely : Prop := nestNoneRow.holds Try.pinned (OpenSpec.ofChange nestNoneWrong)

/- THE SECOND FORM. 'bulk': how many values and letters a reading holds, each counted each time it is reached (what is shared counts as often as it is met; a slice's spare places count too). A statement '..UptoSaid' is the law's where the arguments, and the package variables that the reading takes, are together of bulk at most 1048576: NARROWER than '..Said'. Prove '..Said' where nothing that the law and all that it calls make is longer than what came in: it says more and counts as full. Else prove '..UptoSaid'. A law counts once. -/
mutual
def uptoBulk {H : Type} : DataW H → Nat
  | .lit (.string bytes) => bytes.length + 1
  | .lit _ => 1
  | .nil => 1
  | .ptr d => uptoBulk d + 1
  | .slice elems spare => uptoBulkAll elems + uptoBulkAll spare + 1
  | .agg parts => uptoBulkAll parts + 1
  | .iface _ d => uptoBulk d + 1
  | .map entries => uptoBulkEntries entries + 1
  | .held _ => 1
def uptoBulkAll {H : Type} : List (DataW H) → Nat
  | [] => 0
  | d :: r => uptoBulk d + uptoBulkAll r
def uptoBulkEntries {H : Type} : List (Lit × DataW H) → Nat
  | [] => 0
  | x :: r => uptoBulkEntry x + uptoBulkEntries r
def uptoBulkEntry {H : Type} : Lit × DataW H → Nat
  | (.string bytes, d) => bytes.length + uptoBulk d + 1
  | (_, d) => uptoBulk d + 1
 end
def uptoSmall : (H : Type) → List (DataW H) → Bool := fun _ ds => decide (uptoBulkAll ds ≤ 1048576)
def OpenSpec.upto (s : _root_.Go.ChangeSpec) : _root_.Go.OpenSpec := { _root_.Go.OpenSpec.ofChange s with cond := some uptoSmall }

/-- 'virgulelaw22.NestPlays', WHERE WHAT IT READS IS OF BULK AT MOST 1048576: true; the input reads as it did. -/
def nestPlaysUptoRow : OpenClaim := { program := "ytojinnnpfjhifaa", sum := "4f887366a7d71a5d37c4499fd98eefb8d8a7ef14334f0388bf74e354e9b7de11", func := "virgule/virgulelaw22.NestPlays", spec := "nestPlays", inPlace := ["internal/bytealg.IndexByteString", "internal/bytealg.IndexString"], named := ["internal/bytealg.MaxLen"], apart := false, narrowed := true }
def NestPlaysUptoSaid : Prop := nestPlaysUptoRow.holds Try.pinned (OpenSpec.upto nestPlaysSpec)

/-- 'virgulelaw22.NestFull', WHERE WHAT IT READS IS OF BULK AT MOST 1048576: true; the input reads as it did. -/
def nestFullUptoRow : OpenClaim := { program := "ytojinnnpfjhifaa", sum := "4f887366a7d71a5d37c4499fd98eefb8d8a7ef14334f0388bf74e354e9b7de11", func := "virgule/virgulelaw22.NestFull", spec := "nestFull", inPlace := ["internal/bytealg.IndexByteString", "internal/bytealg.IndexString"], named := ["internal/bytealg.MaxLen"], apart := false, narrowed := true }
def NestFullUptoSaid : Prop := nestFullUptoRow.holds Try.pinned (OpenSpec.upto nestFullSpec)

/-- 'virgulelaw22.NestBack', WHERE WHAT IT READS IS OF BULK AT MOST 1048576: true; the input reads as it did. -/
def nestBackUptoRow : OpenClaim := { program := "ytojinnnpfjhifaa", sum := "4f887366a7d71a5d37c4499fd98eefb8d8a7ef14334f0388bf74e354e9b7de11", func := "virgule/virgulelaw22.NestBack", spec := "nestBack", inPlace := ["internal/bytealg.IndexByteString", "internal/bytealg.IndexString"], named := ["internal/bytealg.MaxLen"], apart := false, narrowed := true }
def NestBackUptoSaid : Prop := nestBackUptoRow.holds Try.pinned (OpenSpec.upto nestBackSpec)

/-- 'virgulelaw22.NestNone', WHERE WHAT IT READS IS OF BULK AT MOST 1048576: true; the input reads as it did. -/
def nestNoneUptoRow : OpenClaim := { program := "ytojinnnpfjhifaa", sum := "4f887366a7d71a5d37c4499fd98eefb8d8a7ef14334f0388bf74e354e9b7de11", func := "virgule/virgulelaw22.NestNone", spec := "nestNone", inPlace := ["internal/bytealg.IndexByteString", "internal/bytealg.IndexString"], named := ["internal/bytealg.MaxLen"], apart := false, narrowed := true }
def NestNoneUptoSaid : Prop := nestNoneUptoRow.holds Try.pinned (OpenSpec.upto nestNoneSpec)

end Rows
end Go.Proofs.Ytojinnnpfjhifaa
