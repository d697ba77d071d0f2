/-
  Arguments: attributes and marks of the document, as they lie in memory.
-/
import Derived.Deep.Slices
import Derived.Deep.MidRow
import Derived.Test.YtplnkmojkdbbnaaLaz
import Derived.Test.YtplnkmojkdbbnaaWri
namespace Go.Proofs.Ytplnkmojkdbbnaa
open Go.ChangeShapes Go.WideShapes Go.ChangeAt Go.RowKit Go.Shelf
open Go.Lib

theorem str_ofA (S : ByteArray) : ∃ l : List Nat, (∀ x ∈ l, x < 256) ∧ l.length = S.size ∧ ⟨(u8s l).toArray⟩ = S := by
  obtain ⟨⟨d⟩⟩ := S
  exact ⟨nats d, nats_lt d, by rw [nats_len]; rfl, by rw [u8s_nats]⟩
theorem cells39 : Try.prog.cellsOf 39 = 2 := by kernel_rfl
theorem cells29 : Try.prog.cellsOf 29 = 1 := by kernel_rfl
theorem cells31 : Try.prog.cellsOf 31 = 6 := by kernel_rfl
theorem cells9 : Try.prog.cellsOf 9 = 1 := by kernel_rfl
theorem cells4 : Try.prog.cellsOf 4 = 1 := by kernel_rfl
def B2 (a : AT) : Prop := (∀ x ∈ a.1, x < 256) ∧ (∀ x ∈ a.2, x < 256)
section
variable {H : Type} {enc : TypeId × Value → H} {W : World}
set_option maxRecDepth 100000 in
theorem str_cell {n : Nat} {v : Value} {x : DataW H × List MemPlace} (h : DataW.trod enc Try.prog W 0 (fun _ => true) true n 9 [v] = some x) : ∃ l : List Nat, v = strV l ∧ ∀ x ∈ l, x < 256 := by
  obtain ⟨s, e, _, _⟩ := DataW.trod_string Try.underlying9 h
  obtain ⟨l, h1, _, h2⟩ := str_ofA s
  refine ⟨l, ?_, h1⟩
  unfold strV
  rw [h2]
  simpa using e
set_option maxRecDepth 100000 in
theorem at_cells {fuel : Nat} {cs : List Value} {x : DataW H × List MemPlace} (h : DataW.trod enc Try.prog W 0 (fun _ => true) true fuel 39 cs = some x) : ∃ a : AT, cs = [strV a.1, strV a.2] ∧ B2 a := by
  obtain ⟨xs, m, hm, _, hlen, hxl, hf⟩ := DataW.trod_struct Try.underlying39 h
  rw [cells39] at hlen
  have hxl : xs.length = 2 := hxl
  match cs, hlen, xs, hxl with
  | [c0, c1], _, [x0, x1], _ =>
    have h0 := hf 0 _ rfl
    have h1 := hf 1 _ rfl
    simp [cells9] at h0 h1
    obtain ⟨n, rfl, hn⟩ := str_cell h0
    obtain ⟨v, rfl, hv⟩ := str_cell h1
    exact ⟨(n, v), rfl, hn, hv⟩
set_option maxRecDepth 100000 in
theorem as_cells {fuel : Nat} {cs : List Value} {x : DataW H × List MemPlace} (h : DataW.trod enc Try.prog W 0 (fun _ => true) true fuel 29 cs = some x) :
    ∃ (L : List AT) (A : Option Addr) (cap : Nat), cs = [.slice A L.length cap] ∧ AS W W.heap.size L A cap ∧ ∀ a ∈ L, B2 a := by
  rcases DataW.trod_slice Try.underlying29 h with ⟨rfl, _⟩ | ⟨a, len, cap, elems, rest, m, hm, rfl, _, _, hl, hcm, hlen, hel, _, _⟩
  · exact ⟨[], none, 0, rfl, ⟨by simp, by simp, fun i a h => by simp at h⟩, fun a h => by simp at h⟩
  · rw [cells39] at hel
    have each : ∀ i, i < len → ∃ e : AT, W.cell? ((a.add (i * 2)).add 0) = some (strV e.1) ∧ W.cell? ((a.add (i * 2)).add 1) = some (strV e.2) ∧ B2 e := by
      intro i hi
      have key := hel i hi
      rw [List.getElem?_eq_getElem (by omega)] at key
      obtain ⟨cs', h1, h2⟩ := Option.bind_eq_some_iff.1 key
      obtain ⟨e, rfl, he⟩ := at_cells h2
      obtain ⟨_, _, hcell⟩ := World.cells?_some h1
      exact ⟨e, by simpa using hcell 0 (by omega), by simpa using hcell 1 (by omega), he⟩
    obtain ⟨f, hf⟩ := Go.Deep.choose_lt each
    have hfl : ((List.range len).map f).length = len := by simp
    refine ⟨(List.range len).map f, some a, cap, by rw [hfl], ⟨by rw [hfl]; exact hl, hcm, fun i e he => ?_⟩, fun e he => ?_⟩
    · have hi : i < len := by have := (List.getElem?_eq_some_iff.1 he).1; omega
      simp [hi] at he
      subst he
      obtain ⟨c0, c1, _⟩ := hf i hi
      obtain ⟨b, o, spot⟩ := a
      have hspot : spot = none := by
        obtain ⟨z0, _, _⟩ := hf 0 (by omega)
        simpa [Addr.add] using World.cell?_spot z0
      subst hspot
      have ad : ∀ j, ((⟨b, o, none⟩ : Addr).add (i * 2)).add j = ⟨b, o + i * 2 + j, none⟩ := fun j => by
        rw [Addr.add_mid, Addr.add_mid]
      rw [ad] at c0 c1
      refine ⟨b, o, rfl, ?_, c0, ?_⟩
      · exact block_lt_of_cell c0
      · rw [← Nat.add_assoc]
        exact c1
    · obtain ⟨i, hi, rfl⟩ := List.mem_map.1 he
      exact (hf i (List.mem_range.1 hi)).2.2
set_option maxRecDepth 100000 in
/-- An argument that is a mark of the document. -/
theorem tg_of_arg {b0 : Nat} {v : Value} {d : DataW H} {p : List MemPlace} (hv : Value.okWide Try.prog W .any b0 31 v) (h : DataW.Trod enc Try.prog W 0 (fun _ => true) true 31 v d p) :
    ∃ (kd sz : Int) (nm : List Nat) (L : List AT) (A : Option Addr) (cap : Nat) (sg cl : Bool), v = .agg #[.int .i64 kd, .int .i64 sz, strV nm, .slice A L.length cap, .bool sg, .bool cl] ∧ AS W W.heap.size L A cap ∧ (∀ a ∈ L, B2 a) ∧ (∀ x ∈ nm, x < 256) := by
  obtain ⟨cs, rfl, hcs⟩ := okWide_struct Try.underlying31 hv
  obtain ⟨fuel, hf⟩ := h
  obtain ⟨xs, n, hn, _, hlen, hxl, hff⟩ := DataW.trod_struct Try.underlying31 hf
  rw [cells31] at hcs hlen
  have hxl : xs.length = 6 := hxl
  obtain ⟨l⟩ := cs
  match l, hcs, xs, hxl with
  | [c0, c1, c2, c3, c4, c5], _, [x0, x1, x2, x3, x4, x5], _ =>
    have h0 := hff 0 _ rfl
    have h1 := hff 1 _ rfl
    have h2 := hff 2 _ rfl
    have h3 := hff 3 _ rfl
    have h4 := hff 4 _ rfl
    have h5 := hff 5 _ rfl
    simp [cells3, Value.cells] at h0 h1
    simp [cells9, Value.cells] at h2
    simp [cells29, Value.cells] at h3
    simp [cells4, Value.cells] at h4 h5
    obtain ⟨kd, e0, _, _⟩ := DataW.trod_int Try.underlying3 h0
    obtain ⟨sz, e1, _, _⟩ := DataW.trod_int Try.underlying3 h1
    obtain ⟨nm, rfl, hnm⟩ := str_cell h2
    obtain ⟨L, A, cap, e3, hL, hB⟩ := as_cells h3
    obtain ⟨sg, e4, _⟩ := DataW.trod_bool Try.underlying4 h4
    obtain ⟨cl, e5, _⟩ := DataW.trod_bool Try.underlying4 h5
    simp at e0 e1 e3 e4 e5
    subst e0 e1 e3 e4 e5
    exact ⟨kd, sz, nm, L, A, cap, sg, cl, rfl, hL, hB, hnm⟩
end
end Go.Proofs.Ytplnkmojkdbbnaa
