/-
  What trie.share keeps: the trie's block, the blocks seen.
-/
import Derived.Deep.MidRow
import Derived.Test.YtphhdkffnboboaaShr2
namespace Go.Proofs.Ytphhdkffnboboaa
open Go.RowKit Go.Shelf
open Go.Lib Go.Great Go.Maps

/-- A trie's block. -/
def TB (w : World) (T : Nat) (ov : Value) (g : Nat → Int) (S : Value) : Prop := ∃ cs : Array Value, w.heap[T]? = some (.cells cs 80 (0, 0)) ∧ cs.size = 4354 ∧ cs[0]? = some ov ∧ (∀ t, t < 4352 → cs[1 + t]? = some (.int .i64 (g t))) ∧ cs[4353]? = some S
theorem TB.lt {w : World} {T : Nat} {ov S : Value} {g : Nat → Int} (h : TB w T ov g S) : T < w.heap.size := by obtain ⟨_, h, _⟩ := h; exact (Array.getElem?_eq_some_iff.1 h).1
theorem TB.kept {w w' : World} {T : Nat} {ov S : Value} {g : Nat → Int} (h : TB w T ov g S) (he : w'.heap[T]? = w.heap[T]?) : TB w' T ov g S := by
  obtain ⟨cs, h1, h2⟩ := h
  exact ⟨cs, he.trans h1, h2⟩
theorem TB.other {w : World} {T : Nat} {ov S : Value} {g : Nat → Int} (h : TB w T ov g S) : w.cell? ⟨T, 0, none⟩ = some ov := by
  obtain ⟨cs, h1, h2, h3, h4, h5⟩ := h
  exact (cell_of_row w T 0 cs 80 (0, 0) h1).trans h3
theorem TB.slice {w : World} {T : Nat} {ov S : Value} {g : Nat → Int} (h : TB w T ov g S) : w.cell? ⟨T, 4353, none⟩ = some S ∧ w.frozen? ⟨T, 4353, none⟩ = false := by
  obtain ⟨cs, h1, h2, h3, h4, h5⟩ := h
  exact ⟨(cell_of_row w T 4353 cs 80 (0, 0) h1).trans h5, frozen_of_row w T 4353 cs 80 h1⟩
theorem TB.ref {w : World} {T : Nat} {ov S : Value} {g : Nat → Int} (h : TB w T ov g S) {t : Nat} (ht : t < 4352) : w.cell? ⟨T, 1 + t, none⟩ = some (.int .i64 (g t)) ∧ w.frozen? ⟨T, 1 + t, none⟩ = false := by
  obtain ⟨cs, h1, h2, h3, h4, h5⟩ := h
  exact ⟨(cell_of_row w T (1 + t) cs 80 (0, 0) h1).trans (h4 t ht), frozen_of_row w T (1 + t) cs 80 h1⟩
theorem TB.setS {w : World} {T : Nat} {ov S : Value} {g : Nat → Int} (h : TB w T ov g S) (S' : Value) : TB (w.setCell ⟨T, 4353, none⟩ S') T ov g S' := by
  obtain ⟨cs, h1, h2, h3, h4, h5⟩ := h
  refine ⟨cs.setIfInBounds 4353 S', heap_setCell_same w T 4353 cs 80 _ h1, by simpa using h2, ?_, fun t ht => ?_, ?_⟩
  · rw [Array.getElem?_setIfInBounds, if_neg (by omega)]; exact h3
  · rw [Array.getElem?_setIfInBounds, if_neg (by omega)]; exact h4 t ht
  · simp [h2]
theorem TB.setRef {w : World} {T : Nat} {ov S : Value} {g : Nat → Int} (h : TB w T ov g S) {j : Nat} (hj : j < 4352) (v : Int) : TB (w.setCell ⟨T, 1 + j, none⟩ (.int .i64 v)) T ov (fun t => if t = j then v else g t) S := by
  obtain ⟨cs, h1, h2, h3, h4, h5⟩ := h
  refine ⟨cs.setIfInBounds (1 + j) (.int .i64 v), heap_setCell_same w T (1 + j) cs 80 _ h1, by simpa using h2, ?_, fun t ht => ?_, ?_⟩
  · rw [Array.getElem?_setIfInBounds, if_neg (by omega)]; exact h3
  · rw [Array.getElem?_setIfInBounds]
    by_cases c : 1 + j = 1 + t
    · have e : t = j := by omega
      subst e
      simp [h2, ht]
      omega
    · rw [if_neg c, h4 t ht]
      show _ = some (Value.int .i64 (if t = j then v else g t))
      rw [if_neg (by omega)]
  · rw [Array.getElem?_setIfInBounds, if_neg (by omega)]; exact h5
theorem TB.congr {w : World} {T : Nat} {ov S : Value} {g g' : Nat → Int} (h : TB w T ov g S) (e : ∀ i, i < 4352 → g i = g' i) : TB w T ov g' S := by
  obtain ⟨cs, h1, h2, h3, h4, h5⟩ := h
  exact ⟨cs, h1, h2, h3, fun t ht => by rw [h4 t ht, e t ht], h5⟩

/-- The key of each block. -/
def KL (F : Nat → Int) (kl : Nat → Lit) : Prop := ∀ k, keyOf Try.prog 84 (.agg (blc F k).toArray) = some (kl k)
theorem KL.ex (F : Nat → Int) (hF : U8 F) : ∃ kl, KL F kl := ⟨fun k => (key84 F hF k).choose, fun k => (key84 F hF k).choose_spec⟩
theorem KL.iff {F : Nat → Int} {kl : Nat → Lit} (h : KL F kl) (s t : Nat) : kl s = kl t ↔ blc F s = blc F t := by
  constructor
  · intro e
    have h1 := h s
    rw [e] at h1
    have := law84.inj h1 (h t)
    simpa using this
  · intro e
    have h1 := h s
    rw [e, h t] at h1
    exact (Option.some.inj h1).symm
theorem any_congr (F : Nat → Int) (l : List Nat) {s t : Nat} (e : blc F s = blc F t) : l.any (fun k => sameB F k s) = l.any (fun k => sameB F k t) := by
  congr 1
  funext k
  rw [Bool.eq_iff_iff, sameB_iff, sameB_iff, e]

/-- What the map of the blocks seen tells. -/
structure Seen {H : Type} (F : Nat → Int) (kl : Nat → Lit) (i : Nat) (D : DataW H) : Prop where
  has : ∀ t, Maps.has D (kl t) = (dd F i).any (fun k => sameB F k t)
  at_ : ∀ t, (dd F i).any (fun k => sameB F k t) = true → D.atKey (kl t) (.lit (.int .i64 0)) = .lit (.int .i64 (rf F i t : Nat))
theorem Seen.zero {H : Type} (F : Nat → Int) (kl : Nat → Lit) : Seen (H := H) F kl 0 (.map []) := ⟨fun _ => rfl, fun t h => by simp [dd] at h⟩
theorem Seen.old {H : Type} {F : Nat → Int} {kl : Nat → Lit} {i : Nat} {D : DataW H} (h : Seen F kl i D) (c : (dd F i).any (fun k => sameB F k i) = true) : Seen F kl (i + 1) D := by
  have e : dd F (i + 1) = dd F i := by rw [dd_succ, if_pos c]
  refine ⟨fun t => by rw [e]; exact h.has t, fun t ht => ?_⟩
  rw [e] at ht
  rw [rf_keep F i t ht]
  exact h.at_ t ht
theorem Seen.new {H : Type} {F : Nat → Int} {kl : Nat → Lit} {i : Nat} {D : DataW H} (h : Seen F kl i D) (hk : KL F kl) (hD : IsMap D) (c : (dd F i).any (fun k => sameB F k i) = false) : Seen F kl (i + 1) (D.put (kl i) (.lit (.int .i64 ((dd F i).length : Nat)))) := by
  have hkey := law84.key (hk i)
  have e : dd F (i + 1) = dd F i ++ [i] := by rw [dd_succ, if_neg (by rw [c]; simp)]
  refine ⟨fun t => ?_, fun t ht => ?_⟩
  · rw [e, List.any_append]
    by_cases q : kl t = kl i
    · rw [q, has_put_same hD hkey]
      have := (hk.iff t i).1 q
      simp [(sameB_iff F i t).2 this.symm]
    · rw [has_put_other q, h.has t]
      have : sameB F i t = false := by
        rw [Bool.eq_false_iff]
        intro hh
        exact q ((hk.iff t i).2 ((sameB_iff F i t).1 hh).symm)
      simp [this]
  · by_cases q : kl t = kl i
    · rw [q, atKey_put_same hD hkey]
      have hb := (hk.iff t i).1 q
      rw [rf_new F i t (by rw [any_congr F _ hb]; exact c) ((sameB_iff F i t).2 hb.symm) c]
    · rw [atKey_put_other q]
      have ho : (dd F i).any (fun k => sameB F k t) = true := by
        rw [e, List.any_append, Bool.or_eq_true] at ht
        rcases ht with ht | ht
        · exact ht
        · have : sameB F i t = true := by simpa using ht
          exact absurd ((hk.iff t i).2 ((sameB_iff F i t).1 this).symm) q
      rw [rf_keep F i t ho]
      exact h.at_ t ho
end Go.Proofs.Ytphhdkffnboboaa
