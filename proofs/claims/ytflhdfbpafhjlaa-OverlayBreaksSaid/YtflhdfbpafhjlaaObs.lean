/-
  Lists of bools as they lie; what is decided at all places.
-/
import Derived.Test.YtflhdfbpafhjlaaOrc
import Derived.Test.YtflhdfbpafhjlaaLtr
import Derived.Test.YtflhdfbpafhjlaaMix
namespace Go.Proofs.Ytflhdfbpafhjlaa
open Go.RowKit Go.Shelf Go.Lib Go.Sort Go.Maps

/-- A list of bools, as it lies. -/
structure BS (w : World) (B : Nat) (xs : List Bool) (A : Option Addr) (cap : Nat) : Prop where
  l : xs.length ≤ cap
  m : cap ≤ maxLen
  r : xs ≠ [] → ∃ b o, A = some ⟨b, o, none⟩ ∧ b < B ∧ ∀ (i : Nat) x, xs[i]? = some x → w.cell? ⟨b, o + i, none⟩ = some (.bool x)
theorem BS.below {w w' : World} {B : Nat} {xs : List Bool} {A : Option Addr} {cap : Nat} (h : BS w B xs A cap) (hb : Below B w w') : BS w' B xs A cap :=
  ⟨h.l, h.m, fun hne => by
    obtain ⟨b, o, rfl, hl, hr⟩ := h.r hne
    exact ⟨b, o, rfl, hl, fun i x hx => (hb.cell (p := ⟨b, _, none⟩) hl).trans (hr i x hx)⟩⟩
theorem BS.mono {w : World} {B B' : Nat} {xs : List Bool} {A : Option Addr} {cap : Nat} (h : BS w B xs A cap) (hB : B ≤ B') : BS w B' xs A cap :=
  ⟨h.l, h.m, fun hne => by
    obtain ⟨b, o, rfl, hl, hr⟩ := h.r hne
    exact ⟨b, o, rfl, by omega, hr⟩⟩
theorem BS.on {w w' : World} {xs : List Bool} {A : Option Addr} {cap : Nat} (h : BS w w.heap.size xs A cap) (hb : Below w.heap.size w w') : BS w' w'.heap.size xs A cap := (h.below hb).mono hb.size
theorem BS.len {w : World} {B : Nat} {xs : List Bool} {A : Option Addr} {cap : Nat} (h : BS w B xs A cap) : xs.length ≤ 9223372036854775807 := by have := h.l; have := h.m; unfold maxLen at this; omega
instance : Inhabited IT := ⟨⟨0, 0, 0, false, false, false, false⟩⟩
def btAt (m : Int) (l : List IT) (q : List Bool) (i : Nat) : Int := betw m (l.getD (i - 1) default) (l.getD i default) (q.getD i false)
/-- What is decided at the first places. -/
def brkL (m : Int) (l : List IT) (q : List Bool) (k : Nat) : List Int := 0 :: (List.range (k - 1)).map fun j => btAt m l q (j + 1)
def brkAll (m : Int) (l : List IT) (q : List Bool) : List Int := if q.length = l.length + 1 then (if l.length = 0 then [0] else brkL m l q l.length ++ [0]) else []
theorem brkL_len (m : Int) (l : List IT) (q : List Bool) {k : Nat} (h : 1 ≤ k) : (brkL m l q k).length = k := by
  unfold brkL
  rw [List.length_cons, List.length_map, List.length_range]
  omega
theorem brkL_next (m : Int) (l : List IT) (q : List Bool) {k : Nat} (h : 1 ≤ k) : brkL m l q (k + 1) = brkL m l q k ++ [btAt m l q k] := by
  unfold brkL
  obtain ⟨j, rfl⟩ : ∃ j, k = j + 1 := ⟨k - 1, by omega⟩
  rw [show j + 1 + 1 - 1 = j + 1 by omega, show j + 1 - 1 = j by omega, List.range_succ, List.map_append]
  rfl
theorem brkAll_get (m : Int) (l : List IT) (q : List Bool) (h : q.length = l.length + 1) {i : Nat} (hi : i < q.length) : (brkAll m l q)[i]? = some (if 0 < i ∧ i < l.length then btAt m l q i else 0) := by
  unfold brkAll
  rw [if_pos h]
  by_cases h0 : l.length = 0
  · rw [if_pos h0]
    obtain rfl : i = 0 := by omega
    simp
  · rw [if_neg h0]
    have hl := brkL_len m l q (k := l.length) (by omega)
    by_cases hl2 : i < l.length
    · rw [List.getElem?_append_left (by omega)]
      unfold brkL
      cases i with
      | zero => simp
      | succ i =>
        rw [if_pos ⟨by omega, hl2⟩, List.getElem?_cons_succ, List.getElem?_map, List.getElem?_range (by omega)]
        rfl
    · obtain rfl : i = l.length := by omega
      rw [List.getElem?_append_right (by omega), hl, if_neg (by omega)]
      simp
theorem brkAll_len (m : Int) (l : List IT) (q : List Bool) (h : q.length = l.length + 1) : (brkAll m l q).length = l.length + 1 := by
  unfold brkAll
  rw [if_pos h]
  by_cases h0 : l.length = 0
  · rw [if_pos h0, h0]; rfl
  · rw [if_neg h0, List.length_append, brkL_len m l q (by omega)]; rfl
theorem getD_of {α : Type} [Inhabited α] {l : List α} {i : Nat} {x d : α} (h : l[i]? = some x) : l.getD i d = x := by simp [List.getD_eq_getElem?_getD, h]
theorem cells_fz0 {X : Nat → Prop} {w w' : World} {g t : Nat} {cs : Array Value} (h : Fz X w w') (hX : ¬ X g) (hc : Cells w g t cs) : Cells w' g t cs := (h.block _ hc.lt hX).trans hc
end Go.Proofs.Ytflhdfbpafhjlaa
