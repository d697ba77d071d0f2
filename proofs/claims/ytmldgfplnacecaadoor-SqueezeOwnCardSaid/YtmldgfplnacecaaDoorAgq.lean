/-
  Arguments: lists of numbers, tables, lists of tables, narrow tables, as they lie in memory.
-/
import Derived.Deep.Slices
import Derived.Deep.SlicePairs
import Derived.Deep.MidRow
import Derived.Test.YtmldgfplnacecaaDoorLdq
import Derived.Test.YtmldgfplnacecaaDoorTbl
import Derived.Test.YtmldgfplnacecaaDoorGrp
namespace Go.Proofs.YtmldgfplnacecaaDoor
open Go.ChangeShapes Go.WideShapes Go.ChangeAt Go.RowKit Go.Shelf
open Go.Lib

theorem cells3 : Tryd.prog.cellsOf 3 = 1 := by kernel_rfl
theorem cells23 : Tryd.prog.cellsOf 23 = 1 := by kernel_rfl
theorem cells51 : Tryd.prog.cellsOf 51 = 1 := by kernel_rfl
theorem cells52 : Tryd.prog.cellsOf 52 = 1 := by kernel_rfl
theorem cells57 : Tryd.prog.cellsOf 57 = 2 := by kernel_rfl
section
variable {H : Type} {enc : TypeId × Value → H} {W : World}
set_option maxRecDepth 100000 in
theorem is_cells {fuel : Nat} {cs : List Value} {x : DataW H × List MemPlace} (hf : DataW.trod enc Tryd.prog W 0 (fun _ => true) true fuel 23 cs = some x) :
    ∃ (xs : List Int) (A : Option Addr) (cap : Nat), cs = [.slice A xs.length cap] ∧ IS W W.heap.size xs A cap ∧ (A = none → cap = 0) := by
  rcases open_ints Tryd.underlying23 Tryd.underlying3 (by kernel_rfl) hf with ⟨hcs, _⟩ | ⟨x, l, c, zs, hcs, _, hl, hm, hz, _, hcell, hwz⟩
  · exact ⟨[], none, 0, by simpa using hcs, ⟨by simp, by simp, fun x hx => by simp at hx, fun hn => absurd rfl hn⟩, fun _ => rfl⟩
  · have hzl : zs.length = c := by simpa using hz
    have htl : (zs.take l).length = l := by rw [List.length_take]; omega
    refine ⟨zs.take l, some x, c, by rw [htl]; simpa using hcs, ⟨by rw [htl]; exact hl, hm, fun y hy => ?_, fun hn => ?_⟩, fun e => by cases e⟩
    · have := hwz y (List.mem_of_mem_take hy)
      have b : -9223372036854775808 ≤ y ∧ y ≤ 9223372036854775807 := by simpa [Lit.wf, IntKind.min, IntKind.max, IntKind.signed, IntKind.bits] using this
      exact b
    · have h0 : 0 < l := by
        rcases Nat.eq_zero_or_pos l with e | e
        · subst e; simp at hn
        · exact e
      have hc0 := hcell 0 (by omega)
      obtain ⟨b, o, spot⟩ := x
      have hspot : spot = none := by simpa [Addr.add] using World.cell?_spot hc0
      subst hspot
      have hbl := cell_lt hc0
      refine ⟨b, o, rfl, by simpa [Addr.add] using hbl, fun i y hy => ?_⟩
      have hi : i < l := by have := (List.getElem?_eq_some_iff.1 hy).1; omega
      have := hcell i (by omega)
      rw [Addr.add_mid] at this
      rw [this]
      rw [List.getElem?_take, if_pos hi] at hy
      simp [List.getD, hy]
set_option maxRecDepth 100000 in
theorem us_cells {fuel : Nat} {cs : List Value} {x : DataW H × List MemPlace} (hf : DataW.trod enc Tryd.prog W 0 (fun _ => true) true fuel 52 cs = some x) :
    ∃ (T : List Nat) (A : Option Addr) (cap : Nat), cs = [.slice A T.length cap] ∧ UsAt W W.heap.size T A cap := by
  rcases open_ints Tryd.underlying52 Tryd.underlying37 (by kernel_rfl) hf with ⟨hcs, _⟩ | ⟨x, l, c, zs, hcs, _, hl, hm, hz, _, hcell, hwz⟩
  · exact ⟨[], none, 0, by simpa using hcs, ⟨by simp, by simp, fun _ => rfl, fun x hx => by simp at hx, fun hn => absurd rfl hn⟩⟩
  · have hzl : zs.length = c := by simpa using hz
    have htl : ((zs.take l).map Int.toNat).length = l := by rw [List.length_map, List.length_take]; omega
    have bz : ∀ y ∈ zs, 0 ≤ y ∧ y ≤ 18446744073709551615 := fun y hy => by
      have := hwz y hy
      simpa [Lit.wf, IntKind.min, IntKind.max, IntKind.signed, IntKind.bits] using this
    refine ⟨(zs.take l).map Int.toNat, some x, c, by rw [htl]; simpa using hcs, ⟨by rw [htl]; exact hl, hm, fun e => (by cases e), fun y hy => ?_, fun hn => ?_⟩⟩
    · obtain ⟨z, hz, rfl⟩ := List.mem_map.1 hy
      have := bz z (List.mem_of_mem_take hz)
      omega
    · have h0 : 0 < l := by
        rcases Nat.eq_zero_or_pos l with e | e
        · subst e; simp at hn
        · exact e
      have hc0 := hcell 0 (by omega)
      obtain ⟨b, o, spot⟩ := x
      have hspot : spot = none := by simpa [Addr.add] using World.cell?_spot hc0
      subst hspot
      have hbl := cell_lt hc0
      refine ⟨b, o, rfl, by simpa [Addr.add] using hbl, fun i y hy => ?_⟩
      have hi : i < l := by have := (List.getElem?_eq_some_iff.1 hy).1; omega
      have := hcell i (by omega)
      rw [Addr.add_mid] at this
      rw [this]
      rw [List.getElem?_map, List.getElem?_take, if_pos hi] at hy
      obtain ⟨z, hz, rfl⟩ := Option.map_eq_some_iff.1 hy
      have := bz z (List.mem_of_getElem? hz)
      simp [List.getD, hz]
      omega
set_option maxRecDepth 100000 in
theorem rs_cells {fuel : Nat} {cs : List Value} {x : DataW H × List MemPlace} (h : DataW.trod enc Tryd.prog W 0 (fun _ => true) true fuel 51 cs = some x) :
    ∃ (R : List (List Int)) (A : Option Addr) (cap : Nat), cs = [.slice A R.length cap] ∧ RsAt W W.heap.size R A cap := by
  rcases DataW.trod_slice Tryd.underlying51 h with ⟨rfl, _⟩ | ⟨a, len, cap, elems, rest, m, hm, rfl, _, _, hl, hcm, hlen, hel, _, _⟩
  · exact ⟨[], none, 0, rfl, ⟨by simp, by simp, fun _ => rfl, fun hn => absurd rfl hn⟩⟩
  · rw [cells23] at hel
    have each : ∀ i, i < len → ∃ r : List Int, ∃ (A : Option Addr) (cp : Nat), W.cell? (a.add i) = some (.slice A r.length cp) ∧ IS W W.heap.size r A cp ∧ (A = none → cp = 0) := by
      intro i hi
      have key := hel i hi
      rw [List.getElem?_eq_getElem (by omega)] at key
      obtain ⟨cs', h1, h2⟩ := Option.bind_eq_some_iff.1 key
      obtain ⟨r, A, cp, rfl, hr, hz⟩ := is_cells h2
      obtain ⟨_, _, hcell⟩ := World.cells?_some h1
      have := hcell 0 (by omega)
      exact ⟨r, A, cp, by simpa [add_none] using this, hr, hz⟩
    obtain ⟨f, hf⟩ := Go.Deep.choose_lt each
    have hfl : ((List.range len).map f).length = len := by simp
    refine ⟨(List.range len).map f, some a, cap, by rw [hfl], ⟨by rw [hfl]; exact hl, hcm, fun e => (by cases e), fun hn => ?_⟩⟩
    have h0 : 0 < len := by
      rcases Nat.eq_zero_or_pos len with e | e
      · subst e; exact absurd rfl hn
      · exact e
    obtain ⟨_, _, hc0, _⟩ := hf 0 h0
    obtain ⟨b, o, spot⟩ := a
    have hspot : spot = none := by simpa [Addr.add] using World.cell?_spot hc0
    subst hspot
    have hbl := cell_lt hc0
    refine ⟨b, o, rfl, by simpa [Addr.add] using hbl, fun i r hr => ?_⟩
    have hi : i < len := by have := (List.getElem?_eq_some_iff.1 hr).1; omega
    simp [hi] at hr
    subst hr
    obtain ⟨A, cp, c0, hr, hz⟩ := hf i hi
    rw [Addr.add_mid] at c0
    exact ⟨A, cp, c0, hr, hz⟩
set_option maxRecDepth 100000 in
theorem tb_of_arg {b0 : Nat} {v : Value} {d : DataW H} {p : List MemPlace} (hv : Value.okWide Tryd.prog W .any b0 57 v) (h : DataW.Trod enc Tryd.prog W 0 (fun _ => true) true 57 v d p) : ∃ R T, TbV W R T v := by
  obtain ⟨cs, rfl, hcs⟩ := okWide_struct Tryd.underlying57 hv
  obtain ⟨fuel, hf⟩ := h
  obtain ⟨xs, n, hn, _, hlen, hxl, hff⟩ := DataW.trod_struct Tryd.underlying57 hf
  rw [cells57] at hcs hlen
  have hxl : xs.length = 2 := hxl
  obtain ⟨l⟩ := cs
  match l, hcs, xs, hxl with
  | [c0, c1], _, [x0, x1], _ =>
    have h0 := hff 0 _ rfl
    have h1 := hff 1 _ rfl
    simp [cells51, Value.cells] at h0
    simp [cells52, Value.cells] at h1
    obtain ⟨R, A, c, e0, hR⟩ := rs_cells h0
    obtain ⟨T, A2, c2, e1, hT⟩ := us_cells h1
    simp at e0 e1
    subst e0 e1
    exact ⟨R, T, A, c, A2, c2, rfl, hR, hT⟩
set_option maxRecDepth 100000 in
/-- An argument that is a list of numbers. -/
theorem is_of_arg {b0 : Nat} {v : Value} {d : DataW H} {p : List MemPlace} (hv : Value.okWide Tryd.prog W .any b0 23 v) (h : DataW.Trod enc Tryd.prog W 0 (fun _ => true) true 23 v d p) :
    ∃ (xs : List Int) (A : Option Addr) (cap : Nat), v = .slice A xs.length cap ∧ IS W W.heap.size xs A cap ∧ (A = none → cap = 0) := by
  obtain ⟨a, len, cap, rfl⟩ := okWide_slice Tryd.underlying23 hv
  obtain ⟨fuel, hf⟩ := h
  rcases open_ints Tryd.underlying23 Tryd.underlying3 (by kernel_rfl) hf with ⟨hcs, _⟩ | ⟨x, l, c, zs, hcs, _, hl, hm, hz, _, hcell, hwz⟩
  · simp [Value.cells] at hcs
    obtain ⟨rfl, rfl, rfl⟩ := hcs
    exact ⟨[], none, 0, rfl, ⟨by simp, by simp, fun x hx => by simp at hx, fun hn => absurd rfl hn⟩, fun _ => rfl⟩
  · simp [Value.cells] at hcs
    obtain ⟨rfl, rfl, rfl⟩ := hcs
    have hzl : zs.length = cap := by simpa using hz
    have htl : (zs.take len).length = len := by rw [List.length_take]; omega
    refine ⟨zs.take len, some x, cap, by rw [htl], ⟨by rw [htl]; exact hl, hm, fun y hy => ?_, fun hn => ?_⟩, fun e => by cases e⟩
    · have := hwz y (List.mem_of_mem_take hy)
      have b : -9223372036854775808 ≤ y ∧ y ≤ 9223372036854775807 := by simpa [Lit.wf, IntKind.min, IntKind.max, IntKind.signed, IntKind.bits] using this
      exact b
    · have h0 : 0 < len := by
        rcases Nat.eq_zero_or_pos len with e | e
        · subst e; simp at hn
        · exact e
      have hc0 := hcell 0 (by omega)
      obtain ⟨b, o, spot⟩ := x
      have hspot : spot = none := by simpa [Addr.add] using World.cell?_spot hc0
      subst hspot
      have hbl := cell_lt hc0
      refine ⟨b, o, rfl, by simpa [Addr.add] using hbl, fun i y hy => ?_⟩
      have hi : i < len := by have := (List.getElem?_eq_some_iff.1 hy).1; omega
      have := hcell i (by omega)
      rw [Addr.add_mid] at this
      rw [this]
      rw [List.getElem?_take, if_pos hi] at hy
      simp [List.getD, hy]

instance : Inhabited Tab := ⟨([], [])⟩
set_option maxRecDepth 100000 in
/-- An argument that is a list of tables. -/
theorem ds_of_arg {b0 : Nat} {v : Value} {d : DataW H} {p : List MemPlace} (hv : Value.okWide Tryd.prog W .any b0 61 v) (h : DataW.Trod enc Tryd.prog W 0 (fun _ => true) true 61 v d p) :
    ∃ (L : List Tab) (A : Option Addr) (cap : Nat), v = .slice A L.length cap ∧ DsAt W W.heap.size L A ∧ L.length ≤ cap ∧ cap ≤ maxLen := by
  obtain ⟨a, len, cap, rfl⟩ := okWide_slice Tryd.underlying61 hv
  obtain ⟨fuel, hf⟩ := h
  rcases Go.Deep.open_slice_pairs Tryd.underlying61 Tryd.underlying57 (by kernel_rfl) rfl rfl (by kernel_rfl) (by kernel_rfl) hf with ⟨hcs, _⟩ | ⟨x, l, c, m, n, V0, V1, D0, D1, P0, P1, hcs, _, hl, hm, hmm, _, hcell⟩
  · simp [Value.cells] at hcs
    obtain ⟨rfl, rfl, rfl⟩ := hcs
    exact ⟨[], none, 0, rfl, fun i t ht => by simp at ht, Nat.le_refl _, by unfold maxLen; omega⟩
  · simp [Value.cells] at hcs
    obtain ⟨rfl, rfl, rfl⟩ := hcs
    have hlm : len ≤ m := by rw [hmm]; simpa using hl
    have hint : ∀ i, i < len → ∃ q : Tab, ∃ (A1 : Option Addr) (c1 : Nat) (A2 : Option Addr) (c2 : Nat), V0 i = .slice A1 q.1.length c1 ∧ V1 i = .slice A2 q.2.length c2 ∧ RsAt W W.heap.size q.1 A1 c1 ∧ UsAt W W.heap.size q.2 A2 c2 := fun i hi => by
      obtain ⟨_, _, h0, h1⟩ := hcell i (by omega)
      obtain ⟨R, A, c, e0, hR⟩ := rs_cells h0
      obtain ⟨T, A2, c2, e1, hT⟩ := us_cells h1
      simp at e0 e1
      exact ⟨(R, T), A, c, A2, c2, e0, e1, hR, hT⟩
    obtain ⟨q, hq⟩ := Go.Deep.choose_lt hint
    have hlen : ((List.range len).map q).length = len := by simp
    refine ⟨(List.range len).map q, some x, cap, by rw [hlen], fun i t ht => ?_, by rw [hlen]; exact hl, hm⟩
    have hi : i < len := by have := (List.getElem?_eq_some_iff.1 ht).1; omega
    simp [hi] at ht
    subst ht
    obtain ⟨c0, c1, _, _⟩ := hcell i (by omega)
    obtain ⟨A1, k1, A2, k2, e0, e1, hR, hT⟩ := hq i hi
    obtain ⟨b, off, spot⟩ := x
    have hspot : spot = none := by simpa [Addr.add] using World.cell?_spot (hcell 0 (by omega)).1
    subst hspot
    rw [Addr.add_lit] at c0 c1
    have hbl := cell_lt c0
    rw [e0] at c0
    rw [e1, ← Nat.add_assoc] at c1
    exact ⟨b, off, A1, k1, A2, k2, rfl, hbl, c0, c1, hR, hT⟩
theorem cells74 : Tryd.prog.cellsOf 74 = 3 := by kernel_rfl
set_option maxRecDepth 100000 in
/-- An argument that is a narrow table. -/
theorem nw_of_arg {b0 : Nat} {v : Value} {d : DataW H} {p : List MemPlace} (hv : Value.okWide Tryd.prog W .any b0 74 v) (h : DataW.Trod enc Tryd.prog W 0 (fun _ => true) true 74 v d p) :
    ∃ (g : List Int) (R : List (List Int)) (T : List Nat) (A : Option Addr) (c : Nat) (A1 : Option Addr) (c1 : Nat) (A2 : Option Addr) (c2 : Nat), v = .agg #[.slice A g.length c, .slice A1 R.length c1, .slice A2 T.length c2] ∧ IS W W.heap.size g A c ∧ RsAt W W.heap.size R A1 c1 ∧ UsAt W W.heap.size T A2 c2 := by
  obtain ⟨cs, rfl, hcs⟩ := okWide_struct Tryd.underlying74 hv
  obtain ⟨fuel, hf⟩ := h
  obtain ⟨xs, n, hn, _, hlen, hxl, hff⟩ := DataW.trod_struct Tryd.underlying74 hf
  rw [cells74] at hcs hlen
  have hxl : xs.length = 3 := hxl
  obtain ⟨l⟩ := cs
  match l, hcs, xs, hxl with
  | [c0, c1, c2], _, [x0, x1, x2], _ =>
    have h0 := hff 0 _ rfl
    have h1 := hff 1 _ rfl
    have h2 := hff 2 _ rfl
    simp [cells23, Value.cells] at h0
    simp [cells51, Value.cells] at h1
    simp [cells52, Value.cells] at h2
    obtain ⟨g, A, c, e0, hg, _⟩ := is_cells h0
    obtain ⟨R, A1, c1, e1, hR⟩ := rs_cells h1
    obtain ⟨T, A2, c2, e2, hT⟩ := us_cells h2
    simp at e0 e1 e2
    subst e0 e1 e2
    exact ⟨g, R, T, A, c, A1, c1, A2, c2, rfl, hg, hR, hT⟩
end
end Go.Proofs.YtmldgfplnacecaaDoor
