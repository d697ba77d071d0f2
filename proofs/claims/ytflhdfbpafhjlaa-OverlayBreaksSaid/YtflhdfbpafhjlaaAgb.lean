/-
  Arguments: slices of items; slices of bools.
-/
import Derived.Test.YtflhdfbpafhjlaaLaz
import Derived.Test.YtflhdfbpafhjlaaObs
namespace Go.Proofs.Ytflhdfbpafhjlaa
open Go.ChangeShapes Go.WideShapes Go.ChangeAt Go.RowKit Go.Shelf
open Go.Lib

section
variable {H : Type} {enc : TypeId × Value → H} {W : World}
set_option maxRecDepth 100000 in
theorem items_of_arg {b0 : Nat} {v : Value} {d : DataW H} {p : List MemPlace} (hv : Value.okWide Try.prog W .any b0 31 v) (h : DataW.Trod enc Try.prog W 0 (fun _ => true) true 31 v d p) :
    ∃ (L : List IT) (A : Option Addr) (cap : Nat), v = .slice A L.length cap ∧ IsA W W.heap.size L A cap ∧ ∀ x ∈ L, R32 x.r := by
  obtain ⟨a0, len0, cap0, rfl⟩ := okWide_slice Try.underlying31 hv
  obtain ⟨fuel, hf⟩ := h
  rcases DataW.trod_slice Try.underlying31 hf with ⟨hcs, _⟩ | ⟨a, len, cap, elems, rest, m, hm, hcs, _, _, hl, hcm, hlen, hel, _, _⟩
  · simp [Value.cells] at hcs
    obtain ⟨rfl, rfl, rfl⟩ := hcs
    exact ⟨[], none, 0, rfl, ⟨by simp, by simp, fun i t h => by simp at h⟩, fun x hx => by simp at hx⟩
  · simp [Value.cells] at hcs
    obtain ⟨rfl, rfl, rfl⟩ := hcs
    rw [cells23] at hel
    have each : ∀ i, i < len0 → ∃ t : IT, R32 t.r ∧ ∀ j u, (itA t)[j]? = some u → W.cell? ((a.add (i * 7)).add j) = some u := by
      intro i hi
      have key := hel i hi
      rw [List.getElem?_eq_getElem (by omega)] at key
      obtain ⟨cs', h1, h2⟩ := Option.bind_eq_some_iff.1 key
      obtain ⟨t, rfl, ht⟩ := item_cells h2
      obtain ⟨_, _, hcell⟩ := World.cells?_some h1
      refine ⟨t, ht, fun j u hu => ?_⟩
      have hj : j < 7 := by
        have := (Array.getElem?_eq_some_iff.1 hu).1
        simpa [itA] using this
      have := hcell j (by omega)
      rw [this]
      simpa using hu
    obtain ⟨f, hf⟩ := Go.Deep.choose_lt each
    have hfl : ((List.range len0).map f).length = len0 := by simp
    refine ⟨(List.range len0).map f, some a, cap0, by rw [hfl], ⟨by rw [hfl]; exact hl, hcm, fun i t ht => ?_⟩, fun x hx => ?_⟩
    · have hi : i < len0 := by have := (List.getElem?_eq_some_iff.1 ht).1; omega
      simp [hi] at ht
      subst ht
      obtain ⟨_, hc⟩ := hf i hi
      obtain ⟨b, o, spot⟩ := a
      have hspot : spot = none := by
        have z0 := (hf 0 (by omega)).2 0 _ rfl
        simpa [Addr.add] using World.cell?_spot z0
      subst hspot
      have ad : ∀ j, ((⟨b, o, none⟩ : Addr).add (i * 7)).add j = ⟨b, o + (i * 7 + j), none⟩ := fun j => by
        rw [Addr.add_mid, Addr.add_mid, Nat.add_assoc]
      have h0 := hc 0 _ rfl
      rw [ad] at h0
      exact ⟨b, o, rfl, block_lt_of_cell h0, fun j u hu => by have := hc j u hu; rwa [ad] at this⟩
    · obtain ⟨i, hi, rfl⟩ := List.mem_map.1 hx
      exact (hf i (List.mem_range.1 hi)).1
set_option maxRecDepth 100000 in
theorem bools_of_arg {b0 : Nat} {v : Value} {d : DataW H} {p : List MemPlace} (hv : Value.okWide Try.prog W .any b0 32 v) (h : DataW.Trod enc Try.prog W 0 (fun _ => true) true 32 v d p) :
    ∃ (L : List Bool) (A : Option Addr) (cap : Nat), v = .slice A L.length cap ∧ BS W W.heap.size L A cap := by
  obtain ⟨a0, len0, cap0, rfl⟩ := okWide_slice Try.underlying32 hv
  obtain ⟨fuel, hf⟩ := h
  rcases DataW.trod_slice Try.underlying32 hf with ⟨hcs, _⟩ | ⟨a, len, cap, elems, rest, m, hm, hcs, _, _, hl, hcm, hlen, hel, _, _⟩
  · simp [Value.cells] at hcs
    obtain ⟨rfl, rfl, rfl⟩ := hcs
    exact ⟨[], none, 0, rfl, ⟨by simp, by simp, fun h => absurd rfl h⟩⟩
  · simp [Value.cells] at hcs
    obtain ⟨rfl, rfl, rfl⟩ := hcs
    rw [cells4] at hel
    have each : ∀ i, i < len0 → ∃ t : Bool, W.cell? (a.add i) = some (.bool t) := by
      intro i hi
      have key := hel i hi
      rw [List.getElem?_eq_getElem (by omega)] at key
      obtain ⟨cs', h1, h2⟩ := Option.bind_eq_some_iff.1 key
      obtain ⟨t, ht, _⟩ := DataW.trod_bool Try.underlying4 h2
      obtain ⟨_, _, hcell⟩ := World.cells?_some h1
      refine ⟨t, ?_⟩
      have h0 := hcell 0 (by omega)
      rw [ht] at h0
      simpa [Addr.add] using h0
    obtain ⟨f, hf⟩ := Go.Deep.choose_lt each
    have hfl : ((List.range len0).map f).length = len0 := by simp
    refine ⟨(List.range len0).map f, some a, cap0, by rw [hfl], ⟨by rw [hfl]; exact hl, hcm, fun hne => ?_⟩⟩
    have h0 : 0 < len0 := by
      rcases Nat.eq_zero_or_pos len0 with e | e
      · subst e; exact absurd rfl hne
      · exact e
    obtain ⟨b, o, spot⟩ := a
    have hspot : spot = none := by
      have z0 := hf 0 h0
      simpa [Addr.add] using World.cell?_spot z0
    subst hspot
    have c0 := hf 0 h0
    rw [Addr.add_mid] at c0
    refine ⟨b, o, rfl, block_lt_of_cell c0, fun i x hx => ?_⟩
    have hi : i < len0 := by have := (List.getElem?_eq_some_iff.1 hx).1; omega
    simp [hi] at hx
    subst hx
    have := hf i hi
    rwa [Addr.add_mid] at this
end
end Go.Proofs.Ytflhdfbpafhjlaa
