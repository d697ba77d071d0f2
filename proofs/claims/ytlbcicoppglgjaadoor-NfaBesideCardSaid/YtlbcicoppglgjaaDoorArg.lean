/-
  An argument that is a list of expressions, as it lies in memory; a list of numbers.
-/
import Derived.Deep.Slices
import Derived.Test.YtlbcicoppglgjaaDoorStp
import Derived.Test.YtlbcicoppglgjaaDoorLdN
namespace Go.Proofs.YtlbcicoppglgjaaDoor
open Go.ChangeShapes Go.WideShapes Go.ChangeAt Go.RowKit Go.Shelf
open Go.Lib

instance : Inhabited E := ⟨.mk 0 0 []⟩
theorem cells48 : Tryd.prog.cellsOf 48 = 3 := by kernel_rfl
theorem cells3 : Tryd.prog.cellsOf 3 = 1 := by kernel_rfl
theorem cells22 : Tryd.prog.cellsOf 22 = 1 := by kernel_rfl
section
variable {H : Type} {enc : TypeId × Value → H} {W : World}
theorem int_cell {n : Nat} {v : Value} {x : DataW H × List MemPlace} (h : DataW.trod enc Tryd.prog W 0 (fun _ => true) true n 3 [v] = some x) : ∃ a, v = .int .i64 a ∧ i64 a := by
  obtain ⟨a, e, _, w⟩ := DataW.trod_int Tryd.underlying3 h
  have b : -9223372036854775808 ≤ a ∧ a ≤ 9223372036854775807 := by simpa [Lit.wf, IntKind.min, IntKind.max, IntKind.signed, IntKind.bits] using w
  exact ⟨a, by simpa using e, b⟩
/-- The cells of one expression. -/
theorem nd_cells : ∀ fuel, (∀ cs (x : DataW H × List MemPlace), DataW.trod enc Tryd.prog W 0 (fun _ => true) true fuel 48 cs = some x → ∃ (e : E) (A : Option Addr) (cap : Nat), cs = [.int .i64 e.k, .int .i64 e.c, .slice A e.ks.length cap] ∧ i64 e.k ∧ i64 e.c ∧ KsAt W W.heap.size e.ks A cap) ∧
    (∀ cs (x : DataW H × List MemPlace), DataW.trod enc Tryd.prog W 0 (fun _ => true) true fuel 22 cs = some x → ∃ (ks : List E) (A : Option Addr) (cap : Nat), cs = [.slice A ks.length cap] ∧ KsAt W W.heap.size ks A cap) := by
  intro fuel
  induction fuel with
  | zero => exact ⟨fun cs x h => by simp [DataW.trod] at h, fun cs x h => by simp [DataW.trod] at h⟩
  | succ n ih =>
    constructor
    · intro cs x h
      obtain ⟨xs, m, hm, _, hlen, hxl, hf⟩ := DataW.trod_struct Tryd.underlying48 h
      obtain rfl : m = n := by omega
      rw [cells48] at hlen
      have hxl : xs.length = 3 := hxl
      match cs, hlen, xs, hxl with
      | [c0, c1, c2], _, [x0, x1, x2], _ =>
        have h0 := hf 0 _ rfl
        have h1 := hf 1 _ rfl
        have h2 := hf 2 _ rfl
        simp [cells3] at h0 h1
        simp [cells22] at h2
        obtain ⟨k, rfl, hk⟩ := int_cell h0
        obtain ⟨c, rfl, hc⟩ := int_cell h1
        obtain ⟨ks, A, cap, he, hks⟩ := ih.2 _ _ h2
        simp at he
        subst he
        exact ⟨.mk k c ks, A, cap, rfl, hk, hc, hks⟩
    · intro cs x h
      rcases DataW.trod_slice Tryd.underlying22 h with ⟨rfl, _⟩ | ⟨a, len, cap, elems, rest, m, hm, rfl, _, _, hl, hcm, hlen, hel, _, _⟩
      · exact ⟨[], none, 0, rfl, ⟨by simp, by simp, by simp, fun hn => absurd rfl hn⟩⟩
      · obtain rfl : m = n := by omega
        rw [cells48] at hel
        have each : ∀ i, i < len → ∃ e : E, ∃ (A : Option Addr) (cp : Nat), W.cell? ((a.add (i * 3)).add 0) = some (.int .i64 e.k) ∧ W.cell? ((a.add (i * 3)).add 1) = some (.int .i64 e.c) ∧ W.cell? ((a.add (i * 3)).add 2) = some (.slice A e.ks.length cp) ∧ i64 e.k ∧ i64 e.c ∧ KsAt W W.heap.size e.ks A cp := by
          intro i hi
          have key := hel i hi
          rw [List.getElem?_eq_getElem (by omega)] at key
          obtain ⟨cs', h1, h2⟩ := Option.bind_eq_some_iff.1 key
          obtain ⟨e, A, cp, rfl, hk, hc, hks⟩ := ih.1 _ _ h2
          obtain ⟨_, _, hcell⟩ := World.cells?_some h1
          exact ⟨e, A, cp, by simpa using hcell 0 (by omega), by simpa using hcell 1 (by omega), by simpa using hcell 2 (by omega), hk, hc, hks⟩
        obtain ⟨f, hf⟩ := Go.Deep.choose_lt each
        have hfl : ((List.range len).map f).length = len := by simp
        refine ⟨(List.range len).map f, some a, cap, by rw [hfl], ⟨by rw [hfl]; exact hl, hcm, fun e => (by cases e), fun hn => ?_⟩⟩
        have h0 : 0 < len := by
          rcases Nat.eq_zero_or_pos len with e | e
          · subst e; exact absurd rfl hn
          · exact e
        obtain ⟨_, _, hc0, _⟩ := hf 0 h0
        obtain ⟨b, o, spot⟩ := a
        have hspot : spot = none := by simpa [Addr.add] using World.cell?_spot hc0
        subst hspot
        have hbl := cell_lt hc0
        refine ⟨b, o, rfl, by simpa [Addr.add] using hbl, row_of fun i e he => ?_⟩
        have hi : i < len := by have := (List.getElem?_eq_some_iff.1 he).1; omega
        simp [hi] at he
        subst he
        obtain ⟨A, cp, c0, c1, c2, hk, hc, hks⟩ := hf i hi
        have ad : ∀ j, ((⟨b, o, none⟩ : Addr).add (i * 3)).add j = ⟨b, o + i * 3 + j, none⟩ := fun j => by
          rw [Addr.add_mid, Addr.add_mid]
        rw [ad] at c0 c1 c2
        exact ⟨_, _, _, c0, c1, c2, Nd_iff.2 ⟨hk, hc, A, cp, rfl, hks⟩⟩
/-- An argument that is a list of expressions. -/
theorem ks_of_arg {b0 : Nat} {v : Value} {d : DataW H} {p : List MemPlace} (hv : Value.okWide Tryd.prog W .any b0 22 v) (h : DataW.Trod enc Tryd.prog W 0 (fun _ => true) true 22 v d p) :
    ∃ (ks : List E) (A : Option Addr) (cap : Nat), v = .slice A ks.length cap ∧ KsAt W W.heap.size ks A cap := by
  obtain ⟨a, len, cap, rfl⟩ := okWide_slice Tryd.underlying22 hv
  obtain ⟨fuel, hf⟩ := h
  obtain ⟨ks, A, cp, he, hk⟩ := (nd_cells fuel).2 _ _ hf
  simp [Value.cells] at he
  obtain ⟨rfl, rfl, rfl⟩ := he
  exact ⟨ks, a, cap, rfl, hk⟩
/-- An argument that is a list of numbers. -/
theorem is_of_arg {b0 : Nat} {v : Value} {d : DataW H} {p : List MemPlace} (hv : Value.okWide Tryd.prog W .any b0 23 v) (h : DataW.Trod enc Tryd.prog W 0 (fun _ => true) true 23 v d p) :
    ∃ (xs : List Int) (A : Option Addr) (cap : Nat), v = .slice A xs.length cap ∧ IS W W.heap.size xs A cap ∧ (A = none → cap = 0) := by
  obtain ⟨a, len, cap, rfl⟩ := okWide_slice Tryd.underlying23 hv
  obtain ⟨fuel, hf⟩ := h
  rcases open_ints Tryd.underlying23 Tryd.underlying3 (by kernel_rfl) hf with ⟨hcs, _⟩ | ⟨x, l, c, zs, hcs, _, hl, hm, hz, _, hcell, hwz⟩
  · simp [Value.cells] at hcs
    obtain ⟨rfl, rfl, rfl⟩ := hcs
    exact ⟨[], none, 0, rfl, ⟨by simp, by simp, fun x hx => by simp at hx, fun hn => absurd rfl hn⟩, fun _ => rfl⟩
  · simp [Value.cells] at hcs
    obtain ⟨rfl, rfl, rfl⟩ := hcs
    have hzl : zs.length = cap := by simpa using hz
    have htl : (zs.take len).length = len := by rw [List.length_take]; omega
    refine ⟨zs.take len, some x, cap, by rw [htl], ⟨by rw [htl]; exact hl, hm, fun y hy => ?_, fun hn => ?_⟩, fun e => by cases e⟩
    · have := hwz y (List.mem_of_mem_take hy)
      have b : -9223372036854775808 ≤ y ∧ y ≤ 9223372036854775807 := by simpa [Lit.wf, IntKind.min, IntKind.max, IntKind.signed, IntKind.bits] using this
      exact b
    · have h0 : 0 < len := by
        rcases Nat.eq_zero_or_pos len with e | e
        · subst e; simp at hn
        · exact e
      have hc0 := hcell 0 (by omega)
      obtain ⟨b, o, spot⟩ := x
      have hspot : spot = none := by simpa [Addr.add] using World.cell?_spot hc0
      subst hspot
      have hbl := cell_lt hc0
      refine ⟨b, o, rfl, by simpa [Addr.add] using hbl, fun i y hy => ?_⟩
      have hi : i < len := by have := (List.getElem?_eq_some_iff.1 hy).1; omega
      have := hcell i (by omega)
      rw [Addr.add_mid] at this
      rw [this]
      rw [List.getElem?_take, if_pos hi] at hy
      simp [List.getD, hy]
end
end Go.Proofs.YtlbcicoppglgjaaDoor
