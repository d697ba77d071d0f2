/-
  Arguments: items; slices of items; slices of bools.
-/
import Derived.WalkKit
import Derived.ProofKit
import Derived.OpenShut
import Derived.ShutString
import Derived.JoinedTies
import Derived.Deep.Slices
import Derived.Deep.MidRow
import Derived.Test.YtflhdfbpafhjlaaRows
import Derived.Test.YtflhdfbpafhjlaaOrw
namespace Go.Proofs.Ytflhdfbpafhjlaa
open Go.ChangeShapes Go.WideShapes Go.ChangeAt Go.RowKit Go.Shelf
open Go.Lib

theorem own : ownKnob Try.prog.godebug = none := by kernel_rfl
theorem laidOut : laidOutB Try.prog = true := by kernel_rfl
theorem cells23 : Try.prog.cellsOf 23 = 7 := by kernel_rfl
theorem cells3 : Try.prog.cellsOf 3 = 1 := by kernel_rfl
theorem cells21 : Try.prog.cellsOf 21 = 1 := by kernel_rfl
theorem cells4 : Try.prog.cellsOf 4 = 1 := by kernel_rfl
theorem wf32 {x : Int} (h : (Lit.int .i32 x).wf = true) : R32 x := by
  simp [Lit.wf, IntKind.min, IntKind.max, IntKind.signed, IntKind.bits] at h
  unfold R32
  omega
section
variable {H : Type} {enc : TypeId × Value → H} {W : World}
set_option maxRecDepth 100000 in
theorem item_cells {fuel : Nat} {cs : List Value} {x : DataW H × List MemPlace} (h : DataW.trod enc Try.prog W 0 (fun _ => true) true fuel 23 cs = some x) : ∃ t : IT, cs = (itA t).toList ∧ R32 t.r := by
  obtain ⟨xs, m, hm, _, hlen, hxl, hff⟩ := DataW.trod_struct Try.underlying23 h
  rw [cells23] at hlen
  have hxl : xs.length = 7 := hxl
  match cs, hlen, xs, hxl with
  | [c0, c1, c2, c3, c4, c5, c6], _, [x0, x1, x2, x3, x4, x5, x6], _ =>
    have h0 := hff 0 _ rfl
    have h1 := hff 1 _ rfl
    have h2 := hff 2 _ rfl
    have h3 := hff 3 _ rfl
    have h4 := hff 4 _ rfl
    have h5 := hff 5 _ rfl
    have h6 := hff 6 _ rfl
    simp [cells3] at h1 h2
    simp [cells21] at h0
    simp [cells4] at h3 h4 h5 h6
    obtain ⟨r, e0, _, w0⟩ := DataW.trod_int Try.underlying21 h0
    obtain ⟨a, e1, _, _⟩ := DataW.trod_int Try.underlying3 h1
    obtain ⟨s, e2, _, _⟩ := DataW.trod_int Try.underlying3 h2
    obtain ⟨f, e3, _⟩ := DataW.trod_bool Try.underlying4 h3
    obtain ⟨c, e4, _⟩ := DataW.trod_bool Try.underlying4 h4
    obtain ⟨n, e5, _⟩ := DataW.trod_bool Try.underlying4 h5
    obtain ⟨p, e6, _⟩ := DataW.trod_bool Try.underlying4 h6
    simp at e0 e1 e2 e3 e4 e5 e6
    subst e0 e1 e2 e3 e4 e5 e6
    exact ⟨⟨r, a, s, f, c, n, p⟩, rfl, wf32 w0⟩
set_option maxRecDepth 100000 in
theorem item_of_arg {b0 : Nat} {v : Value} {d : DataW H} {p : List MemPlace} (hv : Value.okWide Try.prog W .any b0 23 v) (h : DataW.Trod enc Try.prog W 0 (fun _ => true) true 23 v d p) :
    ∃ t : IT, v = .agg (itA t) ∧ R32 t.r := by
  obtain ⟨cs, rfl, hcs⟩ := okWide_struct Try.underlying23 hv
  obtain ⟨fuel, hf⟩ := h
  rw [cells23] at hcs
  obtain ⟨l⟩ := cs
  obtain ⟨t, ht, hr⟩ := item_cells hf
  simp [Value.cells] at ht
  subst ht
  exact ⟨t, rfl, hr⟩
end
end Go.Proofs.Ytflhdfbpafhjlaa
