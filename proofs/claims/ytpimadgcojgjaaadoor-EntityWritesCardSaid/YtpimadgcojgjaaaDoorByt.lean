/-
  Bytes as they lie in memory.
-/
import Derived.Test.YtpimadgcojgjaaaDoorAnm
namespace Go.Proofs.YtpimadgcojgjaaaDoor
open Go.RowKit Go.Shelf Go.Lib Go.Maps

/-- A slice of bytes. -/
structure BY (w : World) (B : Nat) (xs : List Nat) (A : Option Addr) (cap : Nat) : Prop where
  l : xs.length ≤ cap
  m : cap ≤ maxLen
  z : A = none → cap = 0
  i : ∀ x ∈ xs, x < 256
  r : xs ≠ [] → ∃ b o, A = some ⟨b, o, none⟩ ∧ b < B ∧ ∀ (i : Nat) (x : Nat), xs[i]? = some x → w.cell? ⟨b, o + i, none⟩ = some (.int .u8 (x : Int))
theorem BY.below {w w' : World} {B : Nat} {xs : List Nat} {A : Option Addr} {cap : Nat} (h : BY w B xs A cap) (hb : Below B w w') : BY w' B xs A cap :=
  ⟨h.l, h.m, h.z, h.i, fun hne => by
    obtain ⟨b, o, rfl, hl, hr⟩ := h.r hne
    exact ⟨b, o, rfl, hl, fun i x hx => (hb.cell (p := ⟨b, _, none⟩) hl).trans (hr i x hx)⟩⟩
theorem BY.mono {w : World} {B B' : Nat} {xs : List Nat} {A : Option Addr} {cap : Nat} (h : BY w B xs A cap) (hB : B ≤ B') : BY w B' xs A cap :=
  ⟨h.l, h.m, h.z, h.i, fun hne => by
    obtain ⟨b, o, rfl, hl, hr⟩ := h.r hne
    exact ⟨b, o, rfl, by omega, hr⟩⟩
theorem BY.on {w w' : World} {xs : List Nat} {A : Option Addr} {cap : Nat} (h : BY w w.heap.size xs A cap) (hb : Below w.heap.size w w') : BY w' w'.heap.size xs A cap := (h.below hb).mono hb.size
theorem BY.at {w : World} {B : Nat} {xs : List Nat} {A : Option Addr} {cap i x : Nat} (h : BY w B xs A cap) (hx : xs[i]? = some x) : ∃ b o, A = some ⟨b, o, none⟩ ∧ b < B ∧ w.cell? ⟨b, o + i, none⟩ = some (.int .u8 (x : Int)) := by
  obtain ⟨b, o, e, hb, hc⟩ := h.r (by rintro rfl; simp at hx)
  exact ⟨b, o, e, hb, hc i x hx⟩
theorem BY.lt {w : World} {B : Nat} {xs : List Nat} {A : Option Addr} {cap i x : Nat} (h : BY w B xs A cap) (hx : xs[i]? = some x) : x < 256 := h.i x (List.mem_of_getElem? hx)
theorem BY.len {w : World} {B : Nat} {xs : List Nat} {A : Option Addr} {cap : Nat} (h : BY w B xs A cap) : xs.length ≤ 9223372036854775807 := by have := h.l; have := h.m; unfold maxLen at this; omega
theorem BY.drop {w : World} {B : Nat} {xs : List Nat} {b o cap k : Nat} (h : BY w B xs (some ⟨b, o, none⟩) cap) (hk : k < xs.length) : BY w B (xs.drop k) (some ⟨b, o + k, none⟩) (cap - k) :=
  ⟨(by have hh := h.l; simp; omega), (by have hh := h.m; omega), fun e => (by cases e), fun x hx => h.i x (List.mem_of_mem_drop hx), fun hne => by
    obtain ⟨b', o', e, hl, hr⟩ := h.r (by rintro rfl; simp at hk)
    obtain ⟨rfl, rfl⟩ : b = b' ∧ o = o' := by simpa using e
    exact ⟨b, o + k, rfl, hl, fun i x hx => by
      rw [List.getElem?_drop] at hx
      rw [Nat.add_assoc]
      exact hr _ x hx⟩⟩
theorem BY.take {w : World} {B : Nat} {xs : List Nat} {A : Option Addr} {cap : Nat} (h : BY w B xs A cap) (k : Nat) : BY w B (xs.take k) A cap :=
  ⟨(by have hh := h.l; simp; omega), h.m, h.z, fun x hx => h.i x (List.mem_of_mem_take hx), fun hne => by
    obtain ⟨b, o, rfl, hl, hr⟩ := h.r (by rintro rfl; simp at hne)
    exact ⟨b, o, rfl, hl, fun i x hx => by
      rw [List.getElem?_take] at hx
      split at hx
      · exact hr i x hx
      · cases hx⟩⟩
theorem drop_at {α : Type} {l : List α} {k : Nat} {x : α} (h : l[k]? = some x) : l.drop k = x :: l.drop (k + 1) := by
  obtain ⟨hk, rfl⟩ := List.getElem?_eq_some_iff.1 h
  exact List.drop_eq_getElem_cons hk
theorem at_lt {α : Type} {l : List α} {k : Nat} (h : k < l.length) : ∃ x, l[k]? = some x := ⟨l[k], List.getElem?_eq_getElem h⟩
/-- An escape as a value. -/
def escV (e : Esc) : Value := .agg #[.int .i64 e.size, .bool e.whole, .bool e.op, .int .u8 e.last]
end Go.Proofs.YtpimadgcojgjaaaDoor
