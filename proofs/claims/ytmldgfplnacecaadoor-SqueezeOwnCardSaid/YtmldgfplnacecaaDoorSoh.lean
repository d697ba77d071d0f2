/-
  What Make answers, part by part, as the call's own.
-/
import Derived.Test.YtmldgfplnacecaaDoorSbh
namespace Go.Proofs.YtmldgfplnacecaaDoor
open Go.RowKit Go.Shelf Go.Lib Go.Maps Go.Sort

theorem make_own (g : List Int) (A : Option Addr) (cap : Nat) {R : List (List Int)} {T : List Nat} {v : Value} {w : World} (his : IS w w.heap.size g A cap) (h : TbV w R T v) (hg : manyL g ≠ 0) (hr : rightT R T = true) (hf : R.all (fitB g) = true) :
    Calls Tryd.prog 37 #[.slice A g.length cap, v] w fun r w' => Below w.heap.size w w' ∧ ∃ v', r = .returned (.tuple #[v', .int .i64 0]) ∧ NarO w w' g (narR R g) T v' := by
  have hp := many_parts hg
  refine (make_any g A cap his (by omega) h).mono ?_
  rintro r w' ⟨hb, ((⟨h1, _⟩ | ⟨_, _, h3, _⟩) | ⟨_, _, _, v', rfl, hn⟩)⟩
  · rcases h1 with h1 | h1
    · exact absurd h1 hg
    · rw [hr] at h1; cases h1
  · rw [hf] at h3; cases h3
  · exact ⟨hb, v', rfl, hn⟩
theorem own_cells {w : World} {B e n : Nat} {v : Value} {xs : List Value} (h : w.ownsRow B e 1 v n xs) (hn : n ≠ 0) : ∃ g cap cur, v = .slice (some ⟨g, 0, none⟩) n cap ∧ B ≤ g ∧ Cells w g e cur ∧ ∀ (i : Nat) x, xs[i]? = some x → cur[i]? = some x := by
  have h0 := h
  rcases h.2 with ⟨_, h2⟩ | ⟨g, cap, cur, h1, h2, h3, _⟩
  · exact absurd h2 hn
  · have hc : Cells w g e cur := h3
    refine ⟨g, cap, cur, h1, h2, hc, fun i x hx => ?_⟩
    have := World.ownsRow.cells h0 (g := g) (by rw [h1]; rfl) i x hx
    rw [add0, hc.cell] at this
    exact this
theorem nar_parts {w W : World} {g : List Int} {rows : List (List Int)} {T : List Nat} {v : Value} (h : NarO w W g rows T v) {x0 : Int} (hg : g[0]? = some x0) {y0 : Nat} (hT : T[0]? = some y0) {r0 : List Int} (h0 : rows[0]? = some r0) :
    ∃ g0 c0 cur0 bN cN curN b2 c2 cur2 q, v = .agg #[.slice (some ⟨g0, 0, none⟩) g.length c0, .slice (some ⟨bN, 0, none⟩) rows.length cN, .slice (some ⟨b2, 0, none⟩) T.length c2] ∧ w.heap.size ≤ g0 ∧ w.heap.size ≤ b2 ∧ w.heap.size ≤ q ∧
      Cells W g0 3 cur0 ∧ Cells W bN 23 curN ∧ Cells W b2 37 cur2 ∧ Cells W q 3 (intsC r0).toArray ∧ cur0[0]? = some (.int .i64 x0) ∧ curN[0]? = some (.slice (some ⟨q, 0, none⟩) r0.length r0.length) ∧ cur2[0]? = some (.int .u64 (y0 : Int)) := by
  obtain ⟨v1, vN, v2, xs, e, o1, oN, o2, r⟩ := h
  have l1 := (List.getElem?_eq_some_iff.1 hg).1
  have l2 := (List.getElem?_eq_some_iff.1 hT).1
  have l3 := (List.getElem?_eq_some_iff.1 h0).1
  obtain ⟨g0, c0, cur0, rfl, k1, k2, k3⟩ := own_cells o1 (by omega)
  obtain ⟨bN, cN, curN, rfl, m1, m2, m3⟩ := own_cells oN (by omega)
  obtain ⟨b2, c2, cur2, rfl, n1, n2, n3⟩ := own_cells o2 (by omega)
  obtain ⟨u, hu, q, rfl, hq, hc⟩ := r 0 r0 h0
  exact ⟨g0, c0, cur0, bN, cN, curN, b2, c2, cur2, q, e, k1, n1, hq, k2, m2, n2, hc, k3 0 _ (by simp [intsC, hg]), m3 0 _ hu, n3 0 _ (by simp [u64C, hT])⟩
theorem cells_still {W : World} {q t b i : Nat} {cs : Array Value} (h : Cells W q t cs) (v : Value) : ∃ cs', Cells (W.setCell ⟨b, i, none⟩ v) q t cs' ∧ cs'.size = cs.size := by
  by_cases e : b = q
  · subst e
    exact ⟨_, h.set i v, by simp⟩
  · exact ⟨cs, ((grown_setc W b i v).block q h.lt (by simpa using fun e' => e e'.symm)).trans h, rfl⟩
theorem cell_of_size {W : World} {q t i : Nat} {cs : Array Value} (h : Cells W q t cs) (hi : i < cs.size) : ∃ x, W.cell? ⟨q, i, none⟩ = some x := ⟨cs[i], by rw [h.cell]; exact Array.getElem?_eq_getElem hi⟩
theorem narL_in {R : List (List Int)} {T : List Nat} {g r : List Int} (h : rightT R T = true) (hr : r ∈ R) : ∀ x ∈ narL r g (manyL g).toNat, 0 ≤ x ∧ x < (R.length : Int) := by
  have hp := right_parts h
  obtain ⟨i, hi⟩ := List.mem_iff_getElem?.1 hr
  have h0 : (0 : Int) ≤ 0 ∧ (0 : Int) < (R.length : Int) := by omega
  refine setL_all (P := fun x => 0 ≤ x ∧ x < (R.length : Int)) h0 (fun k => ?_) _
  by_cases hk : k < r.length
  · obtain ⟨x, hx⟩ := list_at hk
    rw [getD_get hx]
    exact (hp.2.2.2 i r hi).2 k x hx
  · rw [getD_none (by omega)]; exact h0
end Go.Proofs.YtmldgfplnacecaaDoor
