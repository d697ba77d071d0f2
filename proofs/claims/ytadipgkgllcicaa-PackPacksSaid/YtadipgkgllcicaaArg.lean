/-
  Arguments as they lie in memory: packed rows, lists of lists.
-/
import Derived.Test.YtadipgkgllcicaaAwk
import Derived.OpenShut
import Derived.Deep.MidRow
import Derived.WalkKit
import Derived.ProofKit
namespace Go.Proofs.Ytadipgkgllcicaa
open Go.ChangeShapes Go.WideShapes Go.ChangeAt Go.RowKit Go.Shelf
open Go.Lib

theorem laidOut : laidOutB Try.prog = true := by kernel_rfl
theorem cells25 : Try.prog.cellsOf 25 = 1 := by kernel_rfl
theorem cells3 : Try.prog.cellsOf 3 = 1 := by kernel_rfl
theorem cells34 : Try.prog.cellsOf 34 = 5 := by kernel_rfl
section
variable {H : Type} {enc : TypeId × Value → H} {W : World}
set_option maxRecDepth 100000 in
theorem int_cell {n : Nat} {v : Value} {x : DataW H × List MemPlace} (h : DataW.trod enc Try.prog W 0 (fun _ => true) true n 3 [v] = some x) : ∃ a, v = .int .i64 a ∧ i64 a := by
  obtain ⟨a, e, _, w⟩ := DataW.trod_int Try.underlying3 h
  have b : -9223372036854775808 ≤ a ∧ a ≤ 9223372036854775807 := by simpa [Lit.wf, IntKind.min, IntKind.max, IntKind.signed, IntKind.bits] using w
  exact ⟨a, by simpa using e, b⟩
set_option maxRecDepth 100000 in
theorem is_cells {fuel : Nat} {cs : List Value} {x : DataW H × List MemPlace} (hf : DataW.trod enc Try.prog W 0 (fun _ => true) true fuel 25 cs = some x) :
    ∃ (xs : List Int) (A : Option Addr) (cap : Nat), cs = [.slice A xs.length cap] ∧ IS W W.heap.size xs A cap ∧ (A = none → cap = 0) := by
  rcases open_ints Try.underlying25 Try.underlying3 (by kernel_rfl) hf with ⟨hcs, _⟩ | ⟨x, l, c, zs, hcs, _, hl, hm, hz, _, hcell, hwz⟩
  · exact ⟨[], none, 0, by simpa using hcs, ⟨by simp, by simp, fun x hx => by simp at hx, fun hn => absurd rfl hn⟩, fun _ => rfl⟩
  · have hzl : zs.length = c := by simpa using hz
    have htl : (zs.take l).length = l := by rw [List.length_take]; omega
    refine ⟨zs.take l, some x, c, by rw [htl]; simpa using hcs, ⟨by rw [htl]; exact hl, hm, fun y hy => ?_, fun hn => ?_⟩, fun e => by cases e⟩
    · have := hwz y (List.mem_of_mem_take hy)
      have b : -9223372036854775808 ≤ y ∧ y ≤ 9223372036854775807 := by simpa [Lit.wf, IntKind.min, IntKind.max, IntKind.signed, IntKind.bits] using this
      exact b
    · have h0 : 0 < l := by
        rcases Nat.eq_zero_or_pos l with e | e
        · subst e; simp at hn
        · exact e
      have hc0 := hcell 0 (by omega)
      obtain ⟨b, o, spot⟩ := x
      have hspot : spot = none := by simpa [Addr.add] using World.cell?_spot hc0
      subst hspot
      have hbl := cell_lt hc0
      refine ⟨b, o, rfl, by simpa [Addr.add] using hbl, fun i y hy => ?_⟩
      have hi : i < l := by have := (List.getElem?_eq_some_iff.1 hy).1; omega
      have := hcell i (by omega)
      rw [Addr.add_mid] at this
      rw [this]
      rw [List.getElem?_take, if_pos hi] at hy
      simp [List.getD, hy]
set_option maxRecDepth 100000 in
theorem rs_cells {fuel : Nat} {cs : List Value} {x : DataW H × List MemPlace} (h : DataW.trod enc Try.prog W 0 (fun _ => true) true fuel 22 cs = some x) :
    ∃ (R : List (List Int)) (A : Option Addr) (cap : Nat), cs = [.slice A R.length cap] ∧ RsAt W W.heap.size R A cap := by
  rcases DataW.trod_slice Try.underlying22 h with ⟨rfl, _⟩ | ⟨a, len, cap, elems, rest, m, hm, rfl, _, _, hl, hcm, hlen, hel, _, _⟩
  · exact ⟨[], none, 0, rfl, ⟨by simp, by simp, fun _ => rfl, fun hn => absurd rfl hn⟩⟩
  · rw [cells25] at hel
    have each : ∀ i, i < len → ∃ r : List Int, ∃ (A : Option Addr) (cp : Nat), W.cell? (a.add i) = some (.slice A r.length cp) ∧ IS W W.heap.size r A cp ∧ (A = none → cp = 0) := by
      intro i hi
      have key := hel i hi
      rw [List.getElem?_eq_getElem (by omega)] at key
      obtain ⟨cs', h1, h2⟩ := Option.bind_eq_some_iff.1 key
      obtain ⟨r, A, cp, rfl, hr, hz⟩ := is_cells h2
      obtain ⟨_, _, hcell⟩ := World.cells?_some h1
      have := hcell 0 (by omega)
      exact ⟨r, A, cp, by simpa [add_none] using this, hr, hz⟩
    obtain ⟨f, hf⟩ := Go.Deep.choose_lt each
    have hfl : ((List.range len).map f).length = len := by simp
    refine ⟨(List.range len).map f, some a, cap, by rw [hfl], ⟨by rw [hfl]; exact hl, hcm, fun e => (by cases e), fun hn => ?_⟩⟩
    have h0 : 0 < len := by
      rcases Nat.eq_zero_or_pos len with e | e
      · subst e; exact absurd rfl hn
      · exact e
    obtain ⟨_, _, hc0, _⟩ := hf 0 h0
    obtain ⟨b, o, spot⟩ := a
    have hspot : spot = none := by simpa [Addr.add] using World.cell?_spot hc0
    subst hspot
    have hbl := cell_lt hc0
    refine ⟨b, o, rfl, by simpa [Addr.add] using hbl, fun i r hr => ?_⟩
    have hi : i < len := by have := (List.getElem?_eq_some_iff.1 hr).1; omega
    simp [hi] at hr
    subst hr
    obtain ⟨A, cp, c0, hr, hz⟩ := hf i hi
    rw [Addr.add_mid] at c0
    exact ⟨A, cp, c0, hr, hz⟩
set_option maxRecDepth 100000 in
theorem rows_of_arg {b0 : Nat} {v : Value} {d : DataW H} {p : List MemPlace} (hv : Value.okWide Try.prog W .any b0 22 v) (h : DataW.Trod enc Try.prog W 0 (fun _ => true) true 22 v d p) :
    ∃ (R : List (List Int)) (A : Option Addr) (cap : Nat), v = .slice A R.length cap ∧ RsAt W W.heap.size R A cap := by
  obtain ⟨a, len, cap, rfl⟩ := okWide_slice Try.underlying22 hv
  obtain ⟨fuel, hf⟩ := h
  obtain ⟨R, A, c, he, hR⟩ := rs_cells hf
  simp [Value.cells] at he
  obtain ⟨rfl, rfl, rfl⟩ := he
  exact ⟨R, a, cap, rfl, hR⟩
set_option maxRecDepth 100000 in
theorem pk_of_arg {b0 : Nat} {v : Value} {d : DataW H} {p : List MemPlace} (hv : Value.okWide Try.prog W .any b0 34 v) (h : DataW.Trod enc Try.prog W 0 (fun _ => true) true 34 v d p) : ∃ q, PkV W q v := by
  obtain ⟨cs, rfl, hcs⟩ := okWide_struct Try.underlying34 hv
  obtain ⟨fuel, hf⟩ := h
  obtain ⟨xs, n, hn, _, hlen, hxl, hff⟩ := DataW.trod_struct Try.underlying34 hf
  rw [cells34] at hcs hlen
  have hxl : xs.length = 5 := hxl
  obtain ⟨l⟩ := cs
  match l, hcs, xs, hxl with
  | [c0, c1, c2, c3, c4], _, [x0, x1, x2, x3, x4], _ =>
    have h0 := hff 0 _ rfl
    have h1 := hff 1 _ rfl
    have h2 := hff 2 _ rfl
    have h3 := hff 3 _ rfl
    have h4 := hff 4 _ rfl
    simp [cells3, Value.cells] at h0
    simp [cells25, Value.cells] at h1 h2 h3 h4
    obtain ⟨a, rfl, ha⟩ := int_cell h0
    obtain ⟨us, A1, k1, e1, i1, _⟩ := is_cells h1
    obtain ⟨bs, A2, k2, e2, i2, _⟩ := is_cells h2
    obtain ⟨ss, A3, k3, e3, i3, _⟩ := is_cells h3
    obtain ⟨ns, A4, k4, e4, i4, _⟩ := is_cells h4
    simp at e1 e2 e3 e4
    subst e1 e2 e3 e4
    exact ⟨⟨a, us, bs, ss, ns⟩, ha, A1, k1, A2, k2, A3, k3, A4, k4, rfl, i1, i2, i3, i4⟩
end
end Go.Proofs.Ytadipgkgllcicaa
