/-
  Arguments: tags (a kind, a name, single or not), as they lie in memory.
-/
import Derived.Deep.Slices
import Derived.Deep.MidRow
import Derived.Test.YtojinnnpfjhifaaLaz
import Derived.Test.YtojinnnpfjhifaaNma
namespace Go.Proofs.Ytojinnnpfjhifaa
open Go.ChangeShapes Go.WideShapes Go.ChangeAt Go.RowKit Go.Shelf
open Go.Lib

/-- A tag of the law's. -/
structure TG where
  k : Int
  n : ByteArray
  s : Bool
instance : Inhabited TG := ⟨⟨0, ⟨#[]⟩, false⟩⟩
/-- A slice of them. -/
structure TsAt (w : World) (B : Nat) (L : List TG) (A : Option Addr) (cap : Nat) : Prop where
  l : L.length ≤ cap
  m : cap ≤ maxLen
  r : ∀ i t, L[i]? = some t → ∃ b o, A = some ⟨b, o, none⟩ ∧ b < B ∧ w.cell? ⟨b, o + i * 3, none⟩ = some (.int .i64 t.k) ∧ w.cell? ⟨b, o + i * 3 + 1, none⟩ = some (.string t.n) ∧ w.cell? ⟨b, o + i * 3 + 2, none⟩ = some (.bool t.s)
theorem TsAt.below {w w' : World} {B : Nat} {L : List TG} {A : Option Addr} {cap : Nat} (h : TsAt w B L A cap) (hb : Below B w w') : TsAt w' B L A cap :=
  ⟨h.l, h.m, fun i t ht => by
    obtain ⟨b, o, rfl, hl, c0, c1, c2⟩ := h.r i t ht
    exact ⟨b, o, rfl, hl, (hb.cell (p := ⟨b, _, none⟩) hl).trans c0, (hb.cell (p := ⟨b, _, none⟩) hl).trans c1, (hb.cell (p := ⟨b, _, none⟩) hl).trans c2⟩⟩
theorem cells29 : Try.prog.cellsOf 29 = 3 := by kernel_rfl
theorem cells9 : Try.prog.cellsOf 9 = 1 := by kernel_rfl
theorem cells4 : Try.prog.cellsOf 4 = 1 := by kernel_rfl
section
variable {H : Type} {enc : TypeId × Value → H} {W : World}
set_option maxRecDepth 100000 in
theorem tag_cells {fuel : Nat} {cs : List Value} {x : DataW H × List MemPlace} (h : DataW.trod enc Try.prog W 0 (fun _ => true) true fuel 29 cs = some x) : ∃ t : TG, cs = [.int .i64 t.k, .string t.n, .bool t.s] := by
  obtain ⟨xs, m, hm, _, hlen, hxl, hf⟩ := DataW.trod_struct Try.underlying29 h
  rw [cells29] at hlen
  have hxl : xs.length = 3 := hxl
  match cs, hlen, xs, hxl with
  | [c0, c1, c2], _, [x0, x1, x2], _ =>
    have h0 := hf 0 _ rfl
    have h1 := hf 1 _ rfl
    have h2 := hf 2 _ rfl
    simp [cells3] at h0
    simp [cells9] at h1
    simp [cells4] at h2
    obtain ⟨kd, e0, _, _⟩ := DataW.trod_int Try.underlying3 h0
    obtain ⟨s, e1, _, _⟩ := DataW.trod_string Try.underlying9 h1
    obtain ⟨sg, e2, _⟩ := DataW.trod_bool Try.underlying4 h2
    simp at e0 e1 e2
    subst e0 e1 e2
    exact ⟨⟨kd, s, sg⟩, rfl⟩
set_option maxRecDepth 100000 in
theorem tag_of_arg {b0 : Nat} {v : Value} {d : DataW H} {p : List MemPlace} (hv : Value.okWide Try.prog W .any b0 29 v) (h : DataW.Trod enc Try.prog W 0 (fun _ => true) true 29 v d p) :
    ∃ (kd : Int) (nm : ByteArray) (sg : Bool), v = .agg #[.int .i64 kd, .string nm, .bool sg] := by
  obtain ⟨cs, rfl, hcs⟩ := okWide_struct Try.underlying29 hv
  obtain ⟨fuel, hf⟩ := h
  rw [cells29] at hcs
  obtain ⟨l⟩ := cs
  obtain ⟨t, ht⟩ := tag_cells hf
  simp [Value.cells] at ht
  subst ht
  exact ⟨t.k, t.n, t.s, rfl⟩
set_option maxRecDepth 100000 in
theorem tags_of_arg {b0 : Nat} {v : Value} {d : DataW H} {p : List MemPlace} (hv : Value.okWide Try.prog W .any b0 22 v) (h : DataW.Trod enc Try.prog W 0 (fun _ => true) true 22 v d p) :
    ∃ (L : List TG) (A : Option Addr) (cap : Nat), v = .slice A L.length cap ∧ TsAt W W.heap.size L A cap := by
  obtain ⟨a0, len0, cap0, rfl⟩ := okWide_slice Try.underlying22 hv
  obtain ⟨fuel, hf⟩ := h
  rcases DataW.trod_slice Try.underlying22 hf with ⟨hcs, _⟩ | ⟨a, len, cap, elems, rest, m, hm, hcs, _, _, hl, hcm, hlen, hel, _, _⟩
  · simp [Value.cells] at hcs
    obtain ⟨rfl, rfl, rfl⟩ := hcs
    exact ⟨[], none, 0, rfl, ⟨by simp, by simp, fun i t h => by simp at h⟩⟩
  · simp [Value.cells] at hcs
    obtain ⟨rfl, rfl, rfl⟩ := hcs
    rw [cells29] at hel
    have each : ∀ i, i < len0 → ∃ t : TG, W.cell? ((a.add (i * 3)).add 0) = some (.int .i64 t.k) ∧ W.cell? ((a.add (i * 3)).add 1) = some (.string t.n) ∧ W.cell? ((a.add (i * 3)).add 2) = some (.bool t.s) := by
      intro i hi
      have key := hel i hi
      rw [List.getElem?_eq_getElem (by omega)] at key
      obtain ⟨cs', h1, h2⟩ := Option.bind_eq_some_iff.1 key
      obtain ⟨t, rfl⟩ := tag_cells h2
      obtain ⟨_, _, hcell⟩ := World.cells?_some h1
      exact ⟨t, by simpa using hcell 0 (by omega), by simpa using hcell 1 (by omega), by simpa using hcell 2 (by omega)⟩
    obtain ⟨f, hf⟩ := Go.Deep.choose_lt each
    have hfl : ((List.range len0).map f).length = len0 := by simp
    refine ⟨(List.range len0).map f, some a, cap0, by rw [hfl], ⟨by rw [hfl]; exact hl, hcm, fun i t ht => ?_⟩⟩
    have hi : i < len0 := by have := (List.getElem?_eq_some_iff.1 ht).1; omega
    simp [hi] at ht
    subst ht
    obtain ⟨c0, c1, c2⟩ := hf i hi
    obtain ⟨b, o, spot⟩ := a
    have hspot : spot = none := by
      obtain ⟨z0, _, _⟩ := hf 0 (by omega)
      simpa [Addr.add] using World.cell?_spot z0
    subst hspot
    have ad : ∀ j, ((⟨b, o, none⟩ : Addr).add (i * 3)).add j = ⟨b, o + i * 3 + j, none⟩ := fun j => by
      rw [Addr.add_mid, Addr.add_mid]
    rw [ad] at c0 c1 c2
    exact ⟨b, o, rfl, block_lt_of_cell c0, c0, c1, c2⟩
end
end Go.Proofs.Ytojinnnpfjhifaa
