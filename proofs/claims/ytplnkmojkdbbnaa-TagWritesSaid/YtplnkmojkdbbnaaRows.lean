/-
  No cell of these rows narrows 'for every input' (looked for: loops, veiled, ifaces, maps, wideKeys, modest, calm, conditions, laid).
  DERIVED. THE GIVEN ROWS OF THIS SEAT. 5 by the template 'for every input the law returns true; each argument reads behind the call as it read before'; 0 by the template 'total and deterministic' (their statements: YtplnkmojkdbbnaaTotals.lean).
  GIVEN WITH THE SEED: the statements are not yours to turn. If you find one false, say at which input.
  Laid BY PROGRAM, IN A SANDBOX (cutbox-rows.mjs): the forced cells as the released guide's own fill.sh prints them over the translation 5f05b31b170f0213… (all of the seat's roots in one cut). By AI agents, Wed Nov 11 2026. No macro, syntax, notation, axiom, sorry.
-/
import Derived.Test.YtplnkmojkdbbnaaChecked
import GoSem.Claim
import GoSem.ClaimJoined
import GoSem.ClaimMapViews
import Derived.JoinedTies
import Derived.KernelRfl
namespace Go.Proofs.Ytplnkmojkdbbnaa
/- THE CELL 'sum', in the pinned program and in every row, IS THE sha256 OF THE DUMP (.gsa) THAT YtplnkmojkdbbnaaProg.lean LOADS. Nothing in Lean hashes anything: it is a label: what it is worth is what the hold of that sum in a sandbox is worth. -/
noncomputable def Try.pinned : Pinned := { name := "ytplnkmojkdbbnaa", sum := "5f05b31b170f0213d1883095597b78132533f23ec0899cdad716c1ce3944c21b", checked := Try.checked }
namespace Rows
def none {H : Type} : Left H := { results := [], args := [] }

/-- 'virgulelaw18.TagReads': WHATEVER THE INPUT: true; the input reads as it did. -/
def tagReadsSpec : ChangeSpec := { name := "tagReads", fn := fun _ => fun
  | [d1, d2] => { results := [.lit (.bool true)], args := [d1, d2] }
  | _ => none }
def tagReadsRow : OpenClaim := { program := "ytplnkmojkdbbnaa", sum := "5f05b31b170f0213d1883095597b78132533f23ec0899cdad716c1ce3944c21b", func := "virgule/virgulelaw18.TagReads", spec := "tagReads", inPlace := ["internal/bytealg.IndexByteString", "internal/bytealg.IndexByte", "internal/bytealg.Index"], unfollowed := true, recurses := true, named := ["internal/bytealg.MaxLen"], apart := false }
def TagReadsSaid : Prop := tagReadsRow.holds Try.pinned (OpenSpec.ofChange tagReadsSpec)

/-- ITS FALSE NEIGHBOUR: 'it returns false'. Refute it at one input. -/
def tagReadsWrong : ChangeSpec := { name := "tagReads", fn := fun _ => fun
  | [d1, d2] => { results := [.lit (.bool false)], args := [d1, d2] }
  | _ => none }
def TagReadsWrongFalsely : Prop := tagReadsRow.holds Try.pinned (OpenSpec.ofChange tagReadsWrong)

/-- 'virgulelaw18.TagGrows': WHATEVER THE INPUT: true; the input reads as it did. -/
def tagGrowsSpec : ChangeSpec := { name := "tagGrows", fn := fun _ => fun
  | [d1, d2] => { results := [.lit (.bool true)], args := [d1, d2] }
  | _ => none }
def tagGrowsRow : OpenClaim := { program := "ytplnkmojkdbbnaa", sum := "5f05b31b170f0213d1883095597b78132533f23ec0899cdad716c1ce3944c21b", func := "virgule/virgulelaw18.TagGrows", spec := "tagGrows", inPlace := ["internal/bytealg.IndexByteString", "internal/bytealg.IndexByte", "internal/bytealg.Index"], unfollowed := true, recurses := true, named := ["internal/bytealg.MaxLen"], apart := false }
def TagGrowsSaid : Prop := tagGrowsRow.holds Try.pinned (OpenSpec.ofChange tagGrowsSpec)

/-- ITS FALSE NEIGHBOUR: 'it returns false'. Refute it at one input. -/
def tagGrowsWrong : ChangeSpec := { name := "tagGrows", fn := fun _ => fun
  | [d1, d2] => { results := [.lit (.bool false)], args := [d1, d2] }
  | _ => none }
def TagGrowsWrongFalsely : Prop := tagGrowsRow.holds Try.pinned (OpenSpec.ofChange tagGrowsWrong)

/-- 'virgulelaw18.TagWrites': WHATEVER THE INPUT: true; the input reads as it did. -/
def tagWritesSpec : ChangeSpec := { name := "tagWrites", fn := fun _ => fun
  | [d1, d2] => { results := [.lit (.bool true)], args := [d1, d2] }
  | _ => none }
def tagWritesRow : OpenClaim := { program := "ytplnkmojkdbbnaa", sum := "5f05b31b170f0213d1883095597b78132533f23ec0899cdad716c1ce3944c21b", func := "virgule/virgulelaw18.TagWrites", spec := "tagWrites", inPlace := ["internal/bytealg.IndexByteString", "internal/bytealg.IndexByte", "internal/bytealg.Index", "internal/bytealg.IndexString"], unfollowed := true, recurses := true, named := ["internal/bytealg.MaxLen"], apart := false }
def TagWritesSaid : Prop := tagWritesRow.holds Try.pinned (OpenSpec.ofChange tagWritesSpec)

/-- ITS FALSE NEIGHBOUR: 'it returns false'. Refute it at one input. -/
def tagWritesWrong : ChangeSpec := { name := "tagWrites", fn := fun _ => fun
  | [d1, d2] => { results := [.lit (.bool false)], args := [d1, d2] }
  | _ => none }
def TagWritesWrongFalsely : Prop := tagWritesRow.holds Try.pinned (OpenSpec.ofChange tagWritesWrong)

/-- 'virgulelaw18.TagValues': WHATEVER THE INPUT: true; the input reads as it did. -/
def tagValuesSpec : ChangeSpec := { name := "tagValues", fn := fun _ => fun
  | [d1, d2, d3] => { results := [.lit (.bool true)], args := [d1, d2, d3] }
  | _ => none }
def tagValuesRow : OpenClaim := { program := "ytplnkmojkdbbnaa", sum := "5f05b31b170f0213d1883095597b78132533f23ec0899cdad716c1ce3944c21b", func := "virgule/virgulelaw18.TagValues", spec := "tagValues", inPlace := ["internal/bytealg.IndexByteString", "internal/bytealg.IndexByte", "internal/bytealg.Index"], unfollowed := true, recurses := true, named := ["internal/bytealg.MaxLen"], apart := false }
def TagValuesSaid : Prop := tagValuesRow.holds Try.pinned (OpenSpec.ofChange tagValuesSpec)

/-- ITS FALSE NEIGHBOUR: 'it returns false'. Refute it at one input. -/
def tagValuesWrong : ChangeSpec := { name := "tagValues", fn := fun _ => fun
  | [d1, d2, d3] => { results := [.lit (.bool false)], args := [d1, d2, d3] }
  | _ => none }
def TagValuesWrongFalsely : Prop := tagValuesRow.holds Try.pinned (OpenSpec.ofChange tagValuesWrong)

/-- 'virgulelaw18.TagCase': WHATEVER THE INPUT: true; the input reads as it did. -/
def tagCaseSpec : ChangeSpec := { name := "tagCase", fn := fun _ => fun
  | [d] => { results := [.lit (.bool true)], args := [d] }
  | _ => none }
def tagCaseRow : OpenClaim := { program := "ytplnkmojkdbbnaa", sum := "5f05b31b170f0213d1883095597b78132533f23ec0899cdad716c1ce3944c21b", func := "virgule/virgulelaw18.TagCase", spec := "tagCase", inPlace := ["internal/bytealg.IndexByteString", "internal/bytealg.IndexByte", "internal/bytealg.Index"], unfollowed := true, recurses := true, named := ["internal/bytealg.MaxLen"], apart := false }
def TagCaseSaid : Prop := tagCaseRow.holds Try.pinned (OpenSpec.ofChange tagCaseSpec)

/-- ITS FALSE NEIGHBOUR: 'it returns false'. Refute it at one input. -/
def tagCaseWrong : ChangeSpec := { name := "tagCase", fn := fun _ => fun
  | [d] => { results := [.lit (.bool false)], args := [d] }
  | _ => none }
def TagCaseWrongFalsely : Prop := tagCaseRow.holds Try.pinned (OpenSpec.ofChange tagCaseWrong)

/- THE SECOND FORM. 'bulk': how many values and letters a reading holds, each counted each time it is reached (what is shared counts as often as it is met; a slice's spare places count too). A statement '..UptoSaid' is the law's where the arguments, and the package variables that the reading takes, are together of bulk at most 1048576: NARROWER than '..Said'. Prove '..Said' where nothing that the law and all that it calls make is longer than what came in: it says more and counts as full. Else prove '..UptoSaid'. A law counts once. -/
mutual
def uptoBulk {H : Type} : DataW H → Nat
  | .lit (.string bytes) => bytes.length + 1
  | .lit _ => 1
  | .nil => 1
  | .ptr d => uptoBulk d + 1
  | .slice elems spare => uptoBulkAll elems + uptoBulkAll spare + 1
  | .agg parts => uptoBulkAll parts + 1
  | .iface _ d => uptoBulk d + 1
  | .map entries => uptoBulkEntries entries + 1
  | .held _ => 1
def uptoBulkAll {H : Type} : List (DataW H) → Nat
  | [] => 0
  | d :: r => uptoBulk d + uptoBulkAll r
def uptoBulkEntries {H : Type} : List (Lit × DataW H) → Nat
  | [] => 0
  | x :: r => uptoBulkEntry x + uptoBulkEntries r
def uptoBulkEntry {H : Type} : Lit × DataW H → Nat
  | (.string bytes, d) => bytes.length + uptoBulk d + 1
  | (_, d) => uptoBulk d + 1
 end
def uptoSmall : (H : Type) → List (DataW H) → Bool := fun _ ds => decide (uptoBulkAll ds ≤ 1048576)
def OpenSpec.upto (s : _root_.Go.ChangeSpec) : _root_.Go.OpenSpec := { _root_.Go.OpenSpec.ofChange s with cond := some uptoSmall }

/-- 'virgulelaw18.TagReads', WHERE WHAT IT READS IS OF BULK AT MOST 1048576: true; the input reads as it did. -/
def tagReadsUptoRow : OpenClaim := { program := "ytplnkmojkdbbnaa", sum := "5f05b31b170f0213d1883095597b78132533f23ec0899cdad716c1ce3944c21b", func := "virgule/virgulelaw18.TagReads", spec := "tagReads", inPlace := ["internal/bytealg.IndexByteString", "internal/bytealg.IndexByte", "internal/bytealg.Index"], unfollowed := true, recurses := true, named := ["internal/bytealg.MaxLen"], apart := false, narrowed := true }
def TagReadsUptoSaid : Prop := tagReadsUptoRow.holds Try.pinned (OpenSpec.upto tagReadsSpec)

/-- 'virgulelaw18.TagGrows', WHERE WHAT IT READS IS OF BULK AT MOST 1048576: true; the input reads as it did. -/
def tagGrowsUptoRow : OpenClaim := { program := "ytplnkmojkdbbnaa", sum := "5f05b31b170f0213d1883095597b78132533f23ec0899cdad716c1ce3944c21b", func := "virgule/virgulelaw18.TagGrows", spec := "tagGrows", inPlace := ["internal/bytealg.IndexByteString", "internal/bytealg.IndexByte", "internal/bytealg.Index"], unfollowed := true, recurses := true, named := ["internal/bytealg.MaxLen"], apart := false, narrowed := true }
def TagGrowsUptoSaid : Prop := tagGrowsUptoRow.holds Try.pinned (OpenSpec.upto tagGrowsSpec)

/-- 'virgulelaw18.TagWrites', WHERE WHAT IT READS IS OF BULK AT MOST 1048576: true; the input reads as it did. -/
def tagWritesUptoRow : OpenClaim := { program := "ytplnkmojkdbbnaa", sum := "5f05b31b170f0213d1883095597b78132533f23ec0899cdad716c1ce3944c21b", func := "virgule/virgulelaw18.TagWrites", spec := "tagWrites", inPlace := ["internal/bytealg.IndexByteString", "internal/bytealg.IndexByte", "internal/bytealg.Index", "internal/bytealg.IndexString"], unfollowed := true, recurses := true, named := ["internal/bytealg.MaxLen"], apart := false, narrowed := true }
def TagWritesUptoSaid : Prop := tagWritesUptoRow.holds Try.pinned (OpenSpec.upto tagWritesSpec)

/-- 'virgulelaw18.TagValues', WHERE WHAT IT READS IS OF BULK AT MOST 1048576: true; the input reads as it did. -/
def tagValuesUptoRow : OpenClaim := { program := "ytplnkmojkdbbnaa", sum := "5f05b31b170f0213d1883095597b78132533f23ec0899cdad716c1ce3944c21b", func := "virgule/virgulelaw18.TagValues", spec := "tagValues", inPlace := ["internal/bytealg.IndexByteString", "internal/bytealg.IndexByte", "internal/bytealg.Index"], unfollowed := true, recurses := true, named := ["internal/bytealg.MaxLen"], apart := false, narrowed := true }
def TagValuesUptoSaid : Prop := tagValuesUptoRow.holds Try.pinned (OpenSpec.upto tagValuesSpec)

/-- 'virgulelaw18.TagCase', WHERE WHAT IT READS IS OF BULK AT MOST 1048576: true; the input reads as it did. -/
def tagCaseUptoRow : OpenClaim := { program := "ytplnkmojkdbbnaa", sum := "5f05b31b170f0213d1883095597b78132533f23ec0899cdad716c1ce3944c21b", func := "virgule/virgulelaw18.TagCase", spec := "tagCase", inPlace := ["internal/bytealg.IndexByteString", "internal/bytealg.IndexByte", "internal/bytealg.Index"], unfollowed := true, recurses := true, named := ["internal/bytealg.MaxLen"], apart := false, narrowed := true }
def TagCaseUptoSaid : Prop := tagCaseUptoRow.holds Try.pinned (OpenSpec.upto tagCaseSpec)

end Rows
end Go.Proofs.Ytplnkmojkdbbnaa
