/-
  A narrow table while it is made.
-/
import Derived.Test.YtmldgfplnacecaaDoorMan
import Derived.Test.YtmldgfplnacecaaDoorNar
import Derived.Test.YtmldgfplnacecaaDoorClo
import Derived.Test.YtmldgfplnacecaaDoorTgr
import Derived.Laws.ResultCell
import Derived.Laws.Rows
namespace Go.Proofs.YtmldgfplnacecaaDoor
open Go.RowKit Go.Shelf Go.Lib Go.Maps Go.Sort

/-- Rows of different types lie in different blocks. -/
theorem own_types {w : World} {B B' e e' z z' n n' : Nat} {v v' : Value} {xs ys : List Value} (h : w.ownsRow B e z v n xs) (h' : w.ownsRow B' e' z' v' n' ys) (hne : e ≠ e') : ∀ g, v.ownBlock = some g → v'.ownBlock ≠ some g := by
  intro g hg hg'
  rcases h.2 with ⟨h1, _⟩ | ⟨g1, c1, cur1, h1, _, h3, _⟩
  · rw [h1] at hg; simp [Value.ownBlock] at hg
  · rcases h'.2 with ⟨k1, _⟩ | ⟨g2, c2, cur2, k1, _, k3, _⟩
    · rw [k1] at hg'; simp [Value.ownBlock] at hg'
    · rw [h1] at hg; rw [k1] at hg'
      simp [Value.ownBlock] at hg hg'
      subst hg; subst hg'
      rw [h3] at k3
      injection k3 with k3
      injection k3 with _ k3
      exact hne k3
theorem own_base {w : World} {B B' e z n : Nat} {v : Value} {xs : List Value} (h : w.ownsRow B e z v n xs) (hB : B' ≤ B) : w.ownsRow B' e z v n xs := by
  refine ⟨h.1, ?_⟩
  rcases h.2 with h2 | ⟨g, c, cur, h1, h2, h3⟩
  · exact .inl h2
  · exact .inr ⟨g, c, cur, h1, Nat.le_trans hB h2, h3⟩
theorem own_shape {w : World} {B e z n : Nat} {v : Value} {xs : List Value} (h : w.ownsRow B e z v n xs) : ∃ A cap, v = .slice A n cap := by
  rcases h.2 with ⟨h1, h2⟩ | ⟨g, c, cur, h1, _⟩
  · subst h2; exact ⟨none, 0, h1⟩
  · exact ⟨_, c, h1⟩
theorem own_not_cells {w : World} {B e z n k t : Nat} {v : Value} {xs : List Value} {cs : Array Value} (h : w.ownsRow B e z v n xs) (hc : Cells w k t cs) (hne : t ≠ e) : v.ownBlock ≠ some k := by
  intro hk
  rcases h.2 with ⟨h1, _⟩ | ⟨g1, c1, cur1, h1, _, h3, _⟩
  · rw [h1] at hk; simp [Value.ownBlock] at hk
  · rw [h1] at hk
    simp [Value.ownBlock] at hk
    subst hk
    unfold Cells at hc
    rw [hc] at h3
    simp at h3
    exact hne h3.2
theorem cells_apart {w : World} {k k' t t' : Nat} {cs cs' : Array Value} (h : Cells w k t cs) (h' : Cells w k' t' cs') (hne : t ≠ t') : k ≠ k' := by
  rintro rfl
  unfold Cells at h h'
  rw [h] at h'
  simp at h'
  exact hne h'.2
def nil3 : Array Value := #[.slice none 0 0, .slice none 0 0, .slice none 0 0]
/-- A narrow table while it is made. -/
structure MkS (w wr : World) (bx : Array Value) (g7 : Nat) (g : List Int) (T : List Nat) (v1 v2 vN : Value) (rows : List (List Int)) (xs : List Value) : Prop where
  b : Below w.heap.size w wr
  x : Cells wr w.heap.size 54 bx
  y : Cells wr (w.heap.size + 1) 70 nil3
  s : Cells wr g7 70 #[v1, vN, v2]
  h : w.heap.size + 1 < g7
  o1 : wr.ownsRow w.heap.size 3 1 v1 g.length (intsC g)
  o2 : wr.ownsRow w.heap.size 37 1 v2 T.length (u64C T)
  oN : wr.ownsRow w.heap.size 23 1 vN rows.length xs
  r : ∀ (i : Nat) x, rows[i]? = some x → ∃ u, xs[i]? = some u ∧ FrL w wr x u
theorem MkS.on {w wr W : World} {bx : Array Value} {g7 : Nat} {g : List Int} {T : List Nat} {v1 v2 vN : Value} {rows : List (List Int)} {xs : List Value} (h : MkS w wr bx g7 g T v1 v2 vN rows xs) (hb : Below wr.heap.size wr W) : MkS w W bx g7 g T v1 v2 vN rows xs :=
  ⟨h.b.trans (hb.mono h.b.size), h.x.on hb, h.y.on hb, h.s.on hb, h.h, ownsRow_below h.o1 hb, ownsRow_below h.o2 hb, ownsRow_below h.oN hb, fun i x hx => by obtain ⟨u, h1, h2⟩ := h.r i x hx; exact ⟨u, h1, h2.on hb⟩⟩
theorem frL_fz {X : Nat → Prop} {w wr W : World} {l : List Int} {u : Value} (hf : Fz X wr W) (h : FrL w wr l u) (hn : ∀ q cs, Cells wr q 3 cs → ¬ X q) : FrL w W l u := by
  obtain ⟨q, e, h1, hc⟩ := h
  exact ⟨q, e, h1, (hf.block q hc.lt (hn q _ hc)).trans hc⟩
theorem MkS.add {w wr w' : World} {bx : Array Value} {g7 : Nat} {g : List Int} {T : List Nat} {v1 v2 vN vN' u : Value} {rows : List (List Int)} {xs : List Value} {x : List Int} (h : MkS w wr bx g7 g T v1 v2 vN rows xs)
    (ho : w'.ownsRow w.heap.size 23 1 vN' (rows.length + 1) (xs ++ [u])) (hg : wr.grownBy w' vN.ownBlock) (hu : FrL w wr x u) : MkS w (w'.setCell ⟨g7, 1, none⟩ vN') bx g7 g T v1 v2 vN' (rows ++ [x]) (xs ++ [u]) := by
  have F1 : Fz (fun k => vN.ownBlock = some k ∨ k = g7) wr w' := Fz.of_grown hg (fun k e => .inl e)
  have F2 : Fz (fun k => vN.ownBlock = some k ∨ k = g7) w' (w'.setCell ⟨g7, 1, none⟩ vN') := Fz.set w' g7 1 vN' (.inr rfl)
  have F := F1.trans F2
  have cm : ∀ k t cs, Cells wr k t cs → t ≠ 23 → t ≠ 70 → Cells (w'.setCell ⟨g7, 1, none⟩ vN') k t cs := fun k t cs hc h1 h2 =>
    (F.block k hc.lt (by rintro (hk | hk); exact own_not_cells h.oN hc h1 hk; exact cells_apart hc h.s h2 hk)).trans hc
  have s1 : Cells w' g7 70 #[v1, vN, v2] := (hg.block g7 h.s.lt (fun e => own_not_cells h.oN h.s (by decide) e.symm)).trans h.s
  have s2 := s1.set 1 vN'
  have hw := h.s.lt
  refine ⟨?_, cm _ _ _ h.x (by decide) (by decide), ?_, s2, h.h, ?_, ?_, ?_, ?_⟩
  · exact ((h.b.trans (below_grown' hg h.oN h.b.size))).setCell (by show w.heap.size ≤ g7; have := h.h; omega) _
  · have y1 : Cells w' (w.heap.size + 1) 70 nil3 := (hg.block _ h.y.lt (fun e => own_not_cells h.oN h.y (by decide) e.symm)).trans h.y
    exact ((grown_setc w' g7 1 vN').block _ y1.lt (by have := h.h; simp; omega)).trans y1
  · exact own_fz F h.o1 (fun k hk e => by
      rcases hk with hk | hk
      · exact own_types h.o1 h.oN (by decide) k e hk
      · subst hk; exact own_not_cells h.o1 h.s (by decide) e)
  · exact own_fz F h.o2 (fun k hk e => by
      rcases hk with hk | hk
      · exact own_types h.o2 h.oN (by decide) k e hk
      · subst hk; exact own_not_cells h.o2 h.s (by decide) e)
  · rw [List.length_append]
    exact own_fz (Fz.set (X := fun k => k = g7) w' g7 1 vN' rfl) ho (fun k hk e => by subst hk; exact own_not_cells ho s1 (by decide) e)
  · have hxl : xs.length = rows.length := by have := h.oN.1; omega
    have mv : ∀ l a, FrL w wr l a → FrL w (w'.setCell ⟨g7, 1, none⟩ vN') l a := fun l a ha => frL_fz F ha (fun q cs hc hX => by
      rcases hX with hk | hk
      · exact own_not_cells h.oN hc (by decide) hk
      · exact cells_apart hc h.s (by decide) hk)
    intro i z hz
    rcases Nat.lt_or_ge i rows.length with hlt | hge
    · rw [List.getElem?_append_left hlt] at hz
      obtain ⟨a, h1, h2⟩ := h.r i z hz
      exact ⟨a, by rw [List.getElem?_append_left (by omega)]; exact h1, mv _ _ h2⟩
    · have hl2 := (List.getElem?_eq_some_iff.1 hz).1
      simp at hl2
      obtain rfl : i = rows.length := by omega
      simp at hz
      subst hz
      exact ⟨u, by rw [← hxl]; simp, mv _ _ hu⟩
/-- A narrow table that is the call's own. -/
def NarO (w w' : World) (g : List Int) (rows : List (List Int)) (T : List Nat) (v : Value) : Prop :=
  ∃ v1 vN v2 xs, v = .agg #[v1, vN, v2] ∧ w'.ownsRow w.heap.size 3 1 v1 g.length (intsC g) ∧ w'.ownsRow w.heap.size 23 1 vN rows.length xs ∧ w'.ownsRow w.heap.size 37 1 v2 T.length (u64C T) ∧ ∀ (i : Nat) x, rows[i]? = some x → ∃ u, xs[i]? = some u ∧ FrL w w' x u
theorem NarO.on {w w' W : World} {g : List Int} {rows : List (List Int)} {T : List Nat} {v : Value} (h : NarO w w' g rows T v) (hb : Below w'.heap.size w' W) : NarO w W g rows T v := by
  obtain ⟨v1, vN, v2, xs, e, o1, oN, o2, r⟩ := h
  exact ⟨v1, vN, v2, xs, e, ownsRow_below o1 hb, ownsRow_below oN hb, ownsRow_below o2 hb, fun i x hx => by obtain ⟨u, h1, h2⟩ := r i x hx; exact ⟨u, h1, h2.on hb⟩⟩
theorem nil_set (C0 : Nat) (W : World) (h : Cells W C0 70 nil3) (a b c : Value) : Cells (((W.setCell ⟨C0, 0, none⟩ a).setCell ⟨C0, 1, none⟩ b).setCell ⟨C0, 2, none⟩ c) C0 70 #[a, b, c] := ((h.set 0 _).set 1 _).set 2 _
theorem below_set3 {w W : World} {B C0 : Nat} (h : Below B w W) (hB : B ≤ C0) (a b c : Value) : Below B w (((W.setCell ⟨C0, 0, none⟩ a).setCell ⟨C0, 1, none⟩ b).setCell ⟨C0, 2, none⟩ c) := ((h.setCell hB _).setCell hB _).setCell hB _
theorem fz3 (X : World) (p : Nat) (a b c : Value) : Fz (fun k => k = p) X (((X.setCell ⟨p, 0, none⟩ a).setCell ⟨p, 1, none⟩ b).setCell ⟨p, 2, none⟩ c) :=
  ((Fz.set (X := fun k => k = p) X p 0 a rfl).trans (Fz.set (X := fun k => k = p) _ p 1 b rfl)).trans (Fz.set (X := fun k => k = p) _ p 2 c rfl)
theorem MkS.done {w wr : World} {bx : Array Value} {g7 : Nat} {g : List Int} {T : List Nat} {v1 v2 vN : Value} {rows : List (List Int)} {xs : List Value} (h : MkS w wr bx g7 g T v1 v2 vN rows xs) :
    Cells (((wr.setCell ⟨w.heap.size + 1, 0, none⟩ v1).setCell ⟨w.heap.size + 1, 1, none⟩ vN).setCell ⟨w.heap.size + 1, 2, none⟩ v2) (w.heap.size + 1) 70 #[v1, vN, v2] ∧
    Below w.heap.size w (((wr.setCell ⟨w.heap.size + 1, 0, none⟩ v1).setCell ⟨w.heap.size + 1, 1, none⟩ vN).setCell ⟨w.heap.size + 1, 2, none⟩ v2) ∧
    NarO w (((wr.setCell ⟨w.heap.size + 1, 0, none⟩ v1).setCell ⟨w.heap.size + 1, 1, none⟩ vN).setCell ⟨w.heap.size + 1, 2, none⟩ v2) g rows T (.agg #[v1, vN, v2]) := by
  have F : Fz (fun k => k = w.heap.size + 1) wr (((wr.setCell ⟨w.heap.size + 1, 0, none⟩ v1).setCell ⟨w.heap.size + 1, 1, none⟩ vN).setCell ⟨w.heap.size + 1, 2, none⟩ v2) := fz3 _ _ _ _ _
  refine ⟨nil_set _ _ h.y _ _ _, below_set3 h.b (Nat.le_succ _) _ _ _, v1, vN, v2, xs, rfl, ?_, ?_, ?_, ?_⟩
  · exact own_fz F h.o1 (fun k hk e => by subst hk; exact own_not_cells h.o1 h.y (by decide) e)
  · exact own_fz F h.oN (fun k hk e => by subst hk; exact own_not_cells h.oN h.y (by decide) e)
  · exact own_fz F h.o2 (fun k hk e => by subst hk; exact own_not_cells h.o2 h.y (by decide) e)
  · intro i x hx
    obtain ⟨u, h1, h2⟩ := h.r i x hx
    exact ⟨u, h1, frL_fz F h2 (fun q cs hc hk => cells_apart hc h.y (by decide) hk)⟩
/-- It begins: its block is made last. -/
theorem MkS.start_a {w X : World} {bx : Array Value} {g : List Int} {T : List Nat} {v1 v2 : Value} (b : Below w.heap.size w X) (x : Cells X w.heap.size 54 bx) (y : Cells X (w.heap.size + 1) 70 nil3)
    (o1 : X.ownsRow w.heap.size 3 1 v1 g.length (intsC g)) (o2 : X.ownsRow w.heap.size 37 1 v2 T.length (u64C T)) : MkS w (X.alloc (.cells #[v1, .slice none 0 0, v2] 70)) bx X.heap.size g T v1 v2 (.slice none 0 0) [] [] := by
  have hb := below_new X (.cells #[v1, .slice none 0 0, v2] 70)
  exact ⟨b.trans (hb.mono b.size), x.on hb, y.on hb, cells_new _ _ _, y.lt, ownsRow_below o1 hb, ownsRow_below o2 hb, ⟨rfl, .inl ⟨rfl, rfl⟩⟩, fun i x hx => by simp at hx⟩
/-- It begins: its block was made before. -/
theorem MkS.start_b {w X : World} {bx : Array Value} {g : List Int} {T : List Nat} {v1 v2 : Value} {p : Nat} (b : Below w.heap.size w X) (x : Cells X w.heap.size 54 bx) (y : Cells X (w.heap.size + 1) 70 nil3) (hp : w.heap.size + 1 < p) (hz : Cells X p 70 nil3)
    (o1 : X.ownsRow w.heap.size 3 1 v1 g.length (intsC g)) (o2 : X.ownsRow w.heap.size 37 1 v2 T.length (u64C T)) :
    MkS w (((X.setCell ⟨p, 0, none⟩ v1).setCell ⟨p, 1, none⟩ (.slice none 0 0)).setCell ⟨p, 2, none⟩ v2) bx p g T v1 v2 (.slice none 0 0) [] [] := by
  have F : Fz (fun k => k = p) X (((X.setCell ⟨p, 0, none⟩ v1).setCell ⟨p, 1, none⟩ (.slice none 0 0)).setCell ⟨p, 2, none⟩ v2) := fz3 _ _ _ _ _
  refine ⟨below_set3 b (by omega) _ _ _, ?_, ?_, nil_set _ _ hz _ _ _, hp, ?_, ?_, ⟨rfl, .inl ⟨rfl, rfl⟩⟩, fun i x hx => by simp at hx⟩
  · exact (F.block _ x.lt (by omega)).trans x
  · exact (F.block _ y.lt (by omega)).trans y
  · exact own_fz F o1 (fun k hk e => by subst hk; exact own_not_cells o1 hz (by decide) e)
  · exact own_fz F o2 (fun k hk e => by subst hk; exact own_not_cells o2 hz (by decide) e)
theorem results_nar {fn : Func} {p u : Tmp} (h : fn.results = #[.cell p 70, .tmp u]) (tmps : Array Value) (w : World) (g : Nat) (cs : Array Value)
    (hp : tmps.getD p undef = .pointer (some ⟨g, 0, none⟩)) (hg : Cells w g 70 cs) (hi : (Tryd.prog.info? 70).map (·.size) = some cs.size) (x : Value) (hx : tmps.getD u undef = x) :
    (results fn tmps).run Tryd.prog w = .ok (.tuple #[.agg cs, x]) w := by
  rw [results_cell_tmp h, hp, hx]
  have := run_loadVar_row (P := Tryd.prog) w g 70 70 cs (0, 0) _ hg Tryd.underlying70 rfl hi
  simp [asAddr, this, Result.andThen]
/-- The narrow rows. -/
def fitB (g : List Int) (r : List Int) : Bool := decide (widL (narL r g (manyL g).toNat) g = r)
def narR (R : List (List Int)) (g : List Int) : List (List Int) := R.map fun r => narL r g (manyL g).toNat
end Go.Proofs.YtmldgfplnacecaaDoor
