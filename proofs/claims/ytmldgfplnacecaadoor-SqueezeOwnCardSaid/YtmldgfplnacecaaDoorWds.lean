/-
  A table while it is made, row by row.
-/
import Derived.Test.YtmldgfplnacecaaDoorSqo
namespace Go.Proofs.YtmldgfplnacecaaDoor
open Go.RowKit Go.Shelf Go.Lib Go.Maps Go.Sort

def nil2 : Array Value := #[.slice none 0 0, .slice none 0 0]
/-- A table while it is made: all that it consists of is behind what was there. -/
structure WdS (ts : Nat) (w wr : World) (vN v2 : Value) (rows : List (List Int)) (xs : List Value) : Prop where
  b : Below w.heap.size w wr
  s : Cells wr w.heap.size ts #[vN, v2]
  oN : wr.ownsRow w.heap.size 23 1 vN rows.length xs
  r : ∀ (i : Nat) x, rows[i]? = some x → ∃ u, xs[i]? = some u ∧ OwnI wr w.heap.size x u
theorem WdS.on {ts : Nat} {w wr W : World} {vN v2 : Value} {rows : List (List Int)} {xs : List Value} (h : WdS ts w wr vN v2 rows xs) (hb : Below wr.heap.size wr W) : WdS ts w W vN v2 rows xs :=
  ⟨h.b.trans (hb.mono h.b.size), h.s.on hb, ownsRow_below h.oN hb, fun i x hx => by obtain ⟨u, h1, h2⟩ := h.r i x hx; exact ⟨u, h1, h2.below hb⟩⟩
theorem WdS.start {ts : Nat} (w : World) (v2 : Value) : WdS ts w (w.alloc (.cells #[.slice none 0 0, v2] ts)) (.slice none 0 0) v2 [] [] :=
  ⟨below_new _ _, cells_new _ _ _, ⟨rfl, .inl ⟨rfl, rfl⟩⟩, fun i x hx => by simp at hx⟩
theorem WdS.add {ts : Nat} {w wr w' : World} {vN v2 vN' u : Value} {rows : List (List Int)} {xs : List Value} {x : List Int} (h3 : ts ≠ 3) (h23 : ts ≠ 23) (h : WdS ts w wr vN v2 rows xs)
    (ho : w'.ownsRow w.heap.size 23 1 vN' (rows.length + 1) (xs ++ [u])) (hg : wr.grownBy w' vN.ownBlock) (hu : OwnI wr w.heap.size x u) :
    Cells w' w.heap.size ts #[vN, v2] ∧ WdS ts w (w'.setCell ⟨w.heap.size, 0, none⟩ vN') vN' v2 (rows ++ [x]) (xs ++ [u]) := by
  have F1 : Fz (fun k => vN.ownBlock = some k ∨ k = w.heap.size) wr w' := Fz.of_grown hg (fun k e => .inl e)
  have F2 : Fz (fun k => vN.ownBlock = some k ∨ k = w.heap.size) w' (w'.setCell ⟨w.heap.size, 0, none⟩ vN') := Fz.set w' w.heap.size 0 vN' (.inr rfl)
  have F := F1.trans F2
  have s1 : Cells w' w.heap.size ts #[vN, v2] := (hg.block _ h.s.lt (fun e => own_not_cells h.oN h.s h23 e.symm)).trans h.s
  have s2 := s1.set 0 vN'
  refine ⟨s1, ?_, s2, ?_, ?_⟩
  · exact ((h.b.trans (below_grown' hg h.oN h.b.size))).setCell (Nat.le_refl _) _
  · rw [List.length_append]
    exact own_fz (Fz.set (X := fun k => k = w.heap.size) w' w.heap.size 0 vN' rfl) ho (fun k hk e => by subst hk; exact own_not_cells ho s1 h23 e)
  · have hxl : xs.length = rows.length := by have := h.oN.1; omega
    have mv : ∀ l a, OwnI wr w.heap.size l a → OwnI (w'.setCell ⟨w.heap.size, 0, none⟩ vN') w.heap.size l a := fun l a ha => own_fz F ha (fun k hk e => by
      rcases hk with hk | hk
      · exact own_types ha h.oN (by decide) k e hk
      · subst hk; exact own_not_cells ha h.s h3 e)
    intro i z hz
    rcases Nat.lt_or_ge i rows.length with hlt | hge
    · rw [List.getElem?_append_left hlt] at hz
      obtain ⟨a, h1, h2⟩ := h.r i z hz
      exact ⟨a, by rw [List.getElem?_append_left (by omega)]; exact h1, mv _ _ h2⟩
    · have hl2 := (List.getElem?_eq_some_iff.1 hz).1
      simp at hl2
      obtain rfl : i = rows.length := by omega
      simp at hz
      subst hz
      exact ⟨u, by rw [← hxl]; simp, mv _ _ hu⟩
theorem rs_of_rows {w : World} {B : Nat} {rows : List (List Int)} {v : Value} {xs : List Value} (ho : w.ownsRow B 23 1 v rows.length xs) (hr : ∀ (i : Nat) x, rows[i]? = some x → ∃ u, xs[i]? = some u ∧ OwnI w B x u)
    (hl : ∀ r ∈ rows, ∀ x ∈ r, i64 x) : ∃ A cap, v = .slice A rows.length cap ∧ RsAt w w.heap.size rows A cap := by
  rcases ho.2 with ⟨h1, h2⟩ | ⟨g, cap, cur, h1, h2, h3, h4, h5, h6, h7⟩
  · have hn : rows = [] := List.eq_nil_of_length_eq_zero h2
    subst hn
    exact ⟨none, 0, by rw [h1]; rfl, ⟨Nat.le_refl _, by unfold maxLen; omega, fun _ => rfl, fun hn => absurd rfl hn⟩⟩
  · refine ⟨_, cap, h1, ⟨h4, h5, fun e => (by cases e), fun _ => ⟨g, 0, rfl, (Array.getElem?_eq_some_iff.1 h3).1, fun i r hir => ?_⟩⟩⟩
    obtain ⟨u, hu, hf⟩ := hr i r hir
    obtain ⟨A', c', rfl, his, hz⟩ := hf.is (hl r (List.mem_of_getElem? hir))
    have hc0 := World.ownsRow.cells ho (g := g) (by rw [h1]; rfl) i _ hu
    rw [add0] at hc0
    exact ⟨A', c', by rw [Nat.zero_add]; exact hc0, his, hz⟩
theorem FrL.own {w w' : World} {l : List Int} {v : Value} (h : FrL w w' l v) (hl : l.length ≤ 1000) : OwnI w' w.heap.size l v := by
  obtain ⟨q, rfl, hq, hc⟩ := h
  exact ⟨by simp [intsC_len], .inr ⟨q, l.length, (intsC l).toArray, rfl, hq, hc, Nat.le_refl _, by unfold maxLen; omega, by simp [intsC_len], by simp [List.take_of_length_le, intsC_len]⟩⟩
theorem own_inis {w : World} {B : Nat} {l : List Int} {v : Value} (h : OwnI w B l v) {B' : Nat} (hB : B' ≤ B) : OwnI w B' l v := own_base h hB
/-- The wide rows. -/
def widR (R : List (List Int)) (g : List Int) : List (List Int) := R.map fun r => widL r g
def lenB (g : List Int) (r : List Int) : Bool := decide ((r.length : Int) = manyL g)
def wideB (g : List Int) (R : List (List Int)) (T : List Nat) : Bool := decide (manyL g ≠ 0) && R.all (lenB g) && rightT (widR R g) T
theorem widR_take {R : List (List Int)} {g : List Int} {k : Nat} {r : List Int} (h : R[k]? = some r) : widR (R.take (k + 1)) g = widR (R.take k) g ++ [widL r g] := by
  unfold widR
  rw [List.take_add_one, h, Option.toList_some, List.map_append]
  rfl
theorem widR_len (R : List (List Int)) (g : List Int) : (widR R g).length = R.length := by unfold widR; rw [List.length_map]
theorem widL_len (r g : List Int) : (widL r g).length = g.length := by unfold widL; rw [List.length_map]
theorem widR_ints {R : List (List Int)} {g : List Int} (h : ∀ r ∈ R, ∀ x ∈ r, i64 x) : ∀ r ∈ widR R g, ∀ x ∈ r, i64 x := by
  intro r hr
  unfold widR at hr
  obtain ⟨q, hq, rfl⟩ := List.mem_map.1 hr
  exact widL_i64 (h q hq)
theorem wideB_long {g : List Int} {R : List (List Int)} {T : List Nat} (h : 1000 < R.length) : wideB g R T = false := by
  cases hq : wideB g R T with
  | false => rfl
  | true =>
    unfold wideB at hq
    simp only [Bool.and_eq_true] at hq
    have := (right_parts hq.2).2.1
    rw [widR_len] at this
    omega
theorem wideB_none {g : List Int} {R : List (List Int)} {T : List Nat} (h : manyL g = 0) : wideB g R T = false := by
  unfold wideB
  simp [h]
theorem wideB_miss {g : List Int} {R : List (List Int)} {T : List Nat} {k : Nat} {r : List Int} (hr : R[k]? = some r) (h : lenB g r = false) : wideB g R T = false := by
  unfold wideB
  have : R.all (lenB g) = false := allT_miss hr h
  simp [this]
theorem wideB_last {g : List Int} {R : List (List Int)} {T : List Nat} (h : manyL g ≠ 0) (hl : R.all (lenB g) = true) : wideB g R T = rightT (widR R g) T := by
  unfold wideB
  rw [hl, decide_eq_true h]
  rfl
/-- What widening answers. -/
def WideOk (w : World) (g : List Int) (R : List (List Int)) (T : List Nat) (r : Ending) (w' : World) : Prop :=
  Below w.heap.size w w' ∧ ((wideB g R T = false ∧ r = .returned (.tuple #[.agg nil2, .bool false])) ∨ (wideB g R T = true ∧ ∃ v, r = .returned (.tuple #[v, .bool true]) ∧ TbV w' (widR R g) T v))
theorem below_set2 {w W : World} {B C0 : Nat} (h : Below B w W) (hB : B ≤ C0) (a b : Value) : Below B w ((W.setCell ⟨C0, 0, none⟩ a).setCell ⟨C0, 1, none⟩ b) := (h.setCell hB _).setCell hB _
theorem fz2 (X : World) (p : Nat) (a b : Value) : Fz (fun k => k = p) X ((X.setCell ⟨p, 0, none⟩ a).setCell ⟨p, 1, none⟩ b) := (Fz.set (X := fun k => k = p) X p 0 a rfl).trans (Fz.set (X := fun k => k = p) _ p 1 b rfl)
theorem nil_set3 {C0 t : Nat} {W : World} (h : Cells W C0 t nil2) (a b : Value) : Cells ((W.setCell ⟨C0, 0, none⟩ a).setCell ⟨C0, 1, none⟩ b) C0 t #[a, b] := (h.set 0 _).set 1 _
end Go.Proofs.YtmldgfplnacecaaDoor
