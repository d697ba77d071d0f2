/-
  The builder's state in memory, as one; what a step does to it.
  Laws for the walk: a list of numbers is appended to one of the call's own.
  Contracts: the document's side: virguleref08.in, join.
  The document's automaton as it lies in memory; contracts: virguleref08.A.Tells and Step.
  Contract: virguleref08.A.Step.
-/
import Derived.Test.YtmldgfplnacecaaDoorXqd
import Derived.Laws.AppendOwnNone
namespace Go.Proofs.YtmldgfplnacecaaDoor
open Go.RowKit Go.Shelf Go.Lib Go.Great Go.Maps

def u64C (l : List Nat) : List Value := l.map fun (x : Nat) => Value.int .u64 (x : Int)
theorem u64C_len (l : List Nat) : (u64C l).length = l.length := by simp [u64C]
theorem u64C_snoc (l : List Nat) (x : Nat) : u64C (l ++ [x]) = u64C l ++ [.int .u64 (x : Int)] := by simp [u64C]
/-- The blocks that rows and sets may lie in. -/
def Xo (G : Nat) (vN vT : Value) (b : Nat) : Prop := G + 5 ≤ b ∧ vN.ownBlock ≠ some b ∧ vT.ownBlock ≠ some b
structure Bd (w0 w : World) (G k : Nat) (X : Nat → Prop) (S R : List (List Int)) (T : List Nat) (vN vT : Value) : Prop where
  sz : G + 5 ≤ w.heap.size
  res : Cells w G 54 #[.slice none 0 0, .slice none 0 0]
  d : Cells w (G + 1) 54 #[vN, vT]
  b : Cells w (G + 4) 134 #[.map (some (G + 2)), .map (some (G + 3))]
  nm : Nm w (G + 2) S
  wt : Wt w (G + 3) X S k
  rn : Rn w (G + 5) X R vN
  rt : w.ownsRow (G + 5) 37 1 vT T.length (u64C T)
  ne : ∀ g, vN.ownBlock = some g → vT.ownBlock ≠ some g
  low : Below G w0 w
theorem Rn.own {w : World} {base : Nat} {X : Nat → Prop} {R : List (List Int)} {v : Value} (h : Rn w base X R v) : ∃ gs, w.ownsRow base 23 1 v R.length gs := by obtain ⟨gs, h, _⟩ := h; exact ⟨gs, h⟩
theorem Rn.lt {w : World} {base : Nat} {X : Nat → Prop} {R : List (List Int)} {v : Value} (h : Rn w base X R v) : ∀ g, v.ownBlock = some g → base ≤ g ∧ g < w.heap.size := by
  obtain ⟨gs, h, _⟩ := h; exact own_block_lt h
theorem Rn.move {w w' : World} {base : Nat} {X X' : Nat → Prop} {R : List (List Int)} {v : Value} {o : Option Nat} (h : Rn w base X R v) (hg : w.grownBy w' o) (hne : v.ownBlock = none ∨ v.ownBlock ≠ o) (hX : ∀ b, X b → b < w.heap.size → X' b ∧ o ≠ some b) : Rn w' base X' R v := by
  obtain ⟨gs, h1, h2⟩ := h
  refine ⟨gs, h1.kept hg hne, fun i r hr => ?_⟩
  obtain ⟨u, h3, h4⟩ := h2 i r hr
  exact ⟨u, h3, h4.move hg.size (fun b hb hl => ⟨(hX b hb hl).1, hg.block b hl (fun e => (hX b hb hl).2 e.symm)⟩)⟩
/-- New blocks alone. -/
theorem Bd.below {w0 w w' : World} {G k : Nat} {X : Nat → Prop} {S R : List (List Int)} {T : List Nat} {vN vT : Value} (h : Bd w0 w G k X S R T vN vT) (hb : Below w.heap.size w w') : Bd w0 w' G k X S R T vN vT :=
  have g := grown_of_below hb
  ⟨by have := hb.size; have := h.sz; omega, (hb.block _ h.res.lt).trans h.res, (hb.block _ h.d.lt).trans h.d, (hb.block _ h.b.lt).trans h.b, h.nm.block (hb.block _ h.nm.lt),
    h.wt.move (hb.block _ (by obtain ⟨f, h1, _⟩ := h.wt; exact h1.lt)) hb.size (fun b hx hl => ⟨hx, hb.block b hl⟩) (Nat.le_refl _), h.rn.move g (by cases vN.ownBlock <;> simp) (fun b hx _ => ⟨hx, by simp⟩),
    h.rt.kept g (by cases vT.ownBlock <;> simp), h.ne, h.low.trans (hb.mono (by have := h.sz; omega))⟩
theorem Bd.congr {w0 w : World} {G k : Nat} {X X' : Nat → Prop} {S R : List (List Int)} {T : List Nat} {vN vT : Value} (h : Bd w0 w G k X S R T vN vT) (hX : ∀ b, X b → b < w.heap.size → X' b) : Bd w0 w G k X' S R T vN vT :=
  ⟨h.sz, h.res, h.d, h.b, h.nm, h.wt.move rfl (Nat.le_refl _) (fun b hx hl => ⟨hX b hx hl, rfl⟩) (Nat.le_refl _), by
    obtain ⟨gs, h1, h2⟩ := h.rn
    exact ⟨gs, h1, fun i r hr => by obtain ⟨u, h3, h4⟩ := h2 i r hr; exact ⟨u, h3, h4.move (Nat.le_refl _) (fun b hx hl => ⟨hX b hx hl, rfl⟩)⟩⟩, h.rt, h.ne, h.low⟩
/-- A block of the call's own that nothing of it lies in. -/
theorem Bd.grown {w0 w w' : World} {G k c : Nat} {X : Nat → Prop} {S R : List (List Int)} {T : List Nat} {vN vT : Value} (h : Bd w0 w G k X S R T vN vT) (hg : w.grownBy w' (some c)) (hc : Xo G vN vT c) (hx : ∀ b, X b → b ≠ c) : Bd w0 w' G k X S R T vN vT :=
  have nb : ∀ b, b < G + 5 → b < w.heap.size → w'.heap[b]? = w.heap[b]? := fun b hb hl => hg.block b hl (fun e => by injection e with e; have := hc.1; omega)
  ⟨by have := hg.size; have := h.sz; omega, (nb _ (by omega) h.res.lt).trans h.res, (nb _ (by omega) h.d.lt).trans h.d, (nb _ (by omega) h.b.lt).trans h.b, h.nm.block (nb _ (by omega) h.nm.lt),
    h.wt.move (nb _ (by omega) (by obtain ⟨f, h1, _⟩ := h.wt; exact h1.lt)) hg.size (fun b hb hl => ⟨hb, hg.block b hl (fun e => by injection e with e; exact hx b hb e)⟩) (Nat.le_refl _),
    h.rn.move hg (.inr hc.2.1) (fun b hb _ => ⟨hb, fun e => by injection e with e; exact hx b hb e.symm⟩), h.rt.kept hg (.inr hc.2.2), h.ne,
    h.low.trans ⟨hg.os, hg.tape, hg.output, hg.size, fun j hj => nb j (by omega) (by have := h.sz; omega)⟩⟩
/-- The set of the state is taken out. -/
theorem Bd.deleted {w0 w w' : World} {G k : Nat} {X : Nat → Prop} {S R : List (List Int)} {T : List Nat} {vN vT : Value} (h : Bd w0 w G k X S R T vN vT) (hX : ∀ b, X b → G + 5 ≤ b) {f : Int → Value} (hf : ∀ (i : Nat) x, k ≤ i → S[i]? = some x → SlX w X x (f i))
    (hm : MapF w' (G + 3) S.length (.slice none 0 0) (fun j => if j = (k : Int) then .slice none 0 0 else f j)) (hg : w.grownBy w' (some (G + 3))) : Bd w0 w' G (k + 1) X S R T vN vT := by
  have nb : ∀ b, b ≠ G + 3 → b < w.heap.size → w'.heap[b]? = w.heap[b]? := fun b hb hl => hg.block b hl (fun e => by injection e with e; exact hb e)
  have hn : vN.ownBlock ≠ some (G + 3) := fun e => by have := (h.rn.lt _ e).1; omega
  have ht : vT.ownBlock ≠ some (G + 3) := fun e => by have := (own_block_lt h.rt _ e).1; omega
  refine ⟨by have := hg.size; have := h.sz; omega, (nb _ (by omega) h.res.lt).trans h.res, (nb _ (by omega) h.d.lt).trans h.d, (nb _ (by omega) h.b.lt).trans h.b, h.nm.block (nb _ (by omega) h.nm.lt), ⟨_, hm, fun i x hi hx => ?_⟩,
    h.rn.move hg (.inr hn) (fun b hb _ => ⟨hb, fun e => by injection e with e; have := hX b hb; omega⟩), h.rt.kept hg (.inr ht), h.ne, h.low.trans ⟨hg.os, hg.tape, hg.output, hg.size, fun j hj => nb j (by omega) (by have := h.sz; omega)⟩⟩
  rw [if_neg (by omega)]
  exact (hf i x (by omega) hx).move hg.size (fun b hb hl => ⟨hb, nb b (by have := hX b hb; omega) hl⟩)
/-- A set more. -/
theorem Bd.found {w0 w w' : World} {G k : Nat} {X : Nat → Prop} {S R : List (List Int)} {T : List Nat} {vN vT : Value} (h : Bd w0 w G k X S R T vN vT) (hX : ∀ b, X b → G + 5 ≤ b) {f : Int → Value} (hf : ∀ (i : Nat) x, k ≤ i → S[i]? = some x → SlX w X x (f i))
    {x : List Int} {v : Value} (hv : SlX w X x v) (hn : Nm w' (G + 2) (S ++ [x])) (hm : MapF w' (G + 3) (S.length + 1) (.slice none 0 0) (fun j => if j = (S.length : Int) then v else f j)) (hg : Fz (fun b => b = G + 2 ∨ b = G + 3) w w') : Bd w0 w' G k X (S ++ [x]) R T vN vT := by
  have nb : ∀ b, b ≠ G + 2 → b ≠ G + 3 → b < w.heap.size → w'.heap[b]? = w.heap[b]? := fun b h2 h3 hl => hg.block b hl (fun e => by rcases e with e | e; exact h2 e; exact h3 e)
  have nx : ∀ b, X b → b < w.heap.size → X b ∧ w'.heap[b]? = w.heap[b]? := fun b hb hl => ⟨hb, nb b (by have := hX b hb; omega) (by have := hX b hb; omega) hl⟩
  have own : ∀ {e n : Nat} {u : Value} {xs : List Value}, w.ownsRow (G + 5) e 1 u n xs → w'.ownsRow (G + 5) e 1 u n xs := fun {e n u xs} ho => by
    refine ⟨ho.1, ?_⟩
    rcases ho.2 with hn | ⟨g, cap, cur, h1, h2, h3, rest⟩
    · exact .inl hn
    · exact .inr ⟨g, cap, cur, h1, h2, (nb g (by omega) (by omega) (Array.getElem?_eq_some_iff.1 h3).1).trans h3, rest⟩
  refine ⟨by have := hg.size; have := h.sz; omega, (nb _ (by omega) (by omega) h.res.lt).trans h.res, (nb _ (by omega) (by omega) h.d.lt).trans h.d, (nb _ (by omega) (by omega) h.b.lt).trans h.b, hn, ⟨_, by simpa using hm, fun i y hi hy => ?_⟩, ?_, own h.rt, h.ne,
    h.low.trans ⟨hg.os, hg.tape, hg.output, hg.size, fun j hj => nb j (by omega) (by omega) (by have := h.sz; omega)⟩⟩
  · rcases Nat.lt_or_ge i S.length with hlt | hge
    · rw [List.getElem?_append_left hlt] at hy
      rw [if_neg (by omega)]
      exact (hf i y hi hy).move hg.size nx
    · have hl2 := (List.getElem?_eq_some_iff.1 hy).1
      simp at hl2
      obtain rfl : i = S.length := by omega
      simp at hy
      subst hy
      rw [if_pos rfl]
      exact hv.move hg.size nx
  · obtain ⟨gs, h1, h2⟩ := h.rn
    exact ⟨gs, own h1, fun i r hr => by obtain ⟨u, h3, h4⟩ := h2 i r hr; exact ⟨u, h3, h4.move hg.size nx⟩⟩
/-- A row more. -/
theorem Bd.row {w0 w w' : World} {G k g cap : Nat} {X : Nat → Prop} {S R : List (List Int)} {T : List Nat} {vN vT u : Value} {r : List Int} (h : Bd w0 w G k X S R T vN vT) (hX : ∀ b, X b → Xo G vN vT b) (hu : SlX w X r u)
    {gs : List Value} (ho : w'.ownsRow (G + 5) 23 1 (.slice (some ⟨g, 0, none⟩) (R.length + 1) cap) (R.length + 1) (gs ++ [u])) (hgs : ∀ (i : Nat) r, R[i]? = some r → ∃ u, gs[i]? = some u ∧ SlX w X r u) (hgl : gs.length = R.length)
    (hg : w.grownBy w' vN.ownBlock) (hat : vN.ownBlock = some g ∨ g = w.heap.size) :
    Bd w0 (w'.setCell ⟨G + 1, 0, none⟩ (.slice (some ⟨g, 0, none⟩) (R.length + 1) cap)) G k (Xo G (.slice (some ⟨g, 0, none⟩) (R.length + 1) cap) vT) S (R ++ [r]) T (.slice (some ⟨g, 0, none⟩) (R.length + 1) cap) vT := by
  have nb : ∀ b, vN.ownBlock ≠ some b → b ≠ G + 1 → b < w.heap.size → (w'.setCell ⟨G + 1, 0, none⟩ (.slice (some ⟨g, 0, none⟩) (R.length + 1) cap)).heap[b]? = w.heap[b]? := fun b hb h1 hl => by
    rw [Below.heap_setCell _ _ _ _ (by simp; omega)]
    exact hg.block b hl (fun e => hb e.symm)
  have hge : G + 5 ≤ g := (own_block_lt ho g rfl).1
  have low : ∀ b, b < G + 5 → vN.ownBlock ≠ some b := fun b hb e => by have := (h.rn.lt _ e).1; omega
  have hgX : ∀ b, X b → b < w.heap.size → Xo G (.slice (some ⟨g, 0, none⟩) (R.length + 1) cap) vT b := fun b hb hl => ⟨(hX b hb).1, fun e => by
    have e : g = b := by injection e
    subst e
    rcases hat with hat | hat
    · exact (hX g hb).2.1 hat
    · omega, (hX b hb).2.2⟩
  have nx : ∀ b, X b → b < w.heap.size → Xo G (.slice (some ⟨g, 0, none⟩) (R.length + 1) cap) vT b ∧ (w'.setCell ⟨G + 1, 0, none⟩ (.slice (some ⟨g, 0, none⟩) (R.length + 1) cap)).heap[b]? = w.heap[b]? := fun b hb hl =>
    ⟨hgX b hb hl, nb b (hX b hb).2.1 (by have := (hX b hb).1; omega) hl⟩
  have ss : w.heap.size ≤ (w'.setCell ⟨G + 1, 0, none⟩ (.slice (some ⟨g, 0, none⟩) (R.length + 1) cap)).heap.size := by have := hg.size; simp; omega
  have hd : Cells w' (G + 1) 54 #[vN, vT] := (hg.block _ h.d.lt (fun e => low (G + 1) (by omega) e.symm)).trans h.d
  refine ⟨by have := h.sz; omega, (nb _ (low _ (by omega)) (by omega) h.res.lt).trans h.res, hd.set 0 _, (nb _ (low _ (by omega)) (by omega) h.b.lt).trans h.b, h.nm.block (nb _ (low _ (by omega)) (by omega) h.nm.lt),
    h.wt.move (nb _ (low _ (by omega)) (by omega) (by obtain ⟨f, h1, _⟩ := h.wt; exact h1.lt)) ss nx (Nat.le_refl _), ⟨gs ++ [u], ?_, fun i q hq => ?_⟩, ?_, fun g' e => ?_, ?_⟩
  · rw [List.length_append]
    exact ho.kept (grown_setc _ _ _ _) (.inr (by show some g ≠ some (G + 1); intro e; injection e with e; omega))
  · rcases Nat.lt_or_ge i R.length with hlt | hge
    · rw [List.getElem?_append_left hlt] at hq
      obtain ⟨u', h3, h4⟩ := hgs i q hq
      exact ⟨u', by rw [List.getElem?_append_left (by omega)]; exact h3, h4.move ss nx⟩
    · have hl2 := (List.getElem?_eq_some_iff.1 hq).1
      simp at hl2
      obtain rfl : i = R.length := by omega
      simp at hq
      subst hq
      exact ⟨u, by rw [← hgl]; simp, hu.move ss nx⟩
  · refine (h.rt.kept hg ?_).kept (grown_setc _ _ _ _) ?_
    · rcases hv : vT.ownBlock with _ | t
      · exact .inl rfl
      · exact .inr (fun e => h.ne t e.symm hv)
    · rcases hv : vT.ownBlock with _ | t
      · exact .inl rfl
      · exact .inr (fun e => by injection e with e; have := (own_block_lt h.rt t hv).1; omega)
  · have e : g = g' := by injection e
    subst e
    intro hv
    rcases hat with hat | hat
    · exact h.ne g hat hv
    · have := (own_block_lt h.rt g hv).2; omega
  · refine h.low.trans ⟨hg.os, hg.tape, hg.output, ss, fun j hj => nb j (low j (by omega)) (by omega) (by have := h.sz; omega)⟩
/-- What a state more tells. -/
theorem Bd.tell {w0 w w' : World} {G k g cap t : Nat} {X : Nat → Prop} {S R : List (List Int)} {T : List Nat} {vN vT : Value} (h : Bd w0 w G k X S R T vN vT) (hX : ∀ b, X b → Xo G vN vT b)
    (ho : w'.ownsRow (G + 5) 37 1 (.slice (some ⟨g, 0, none⟩) (T.length + 1) cap) (T.length + 1) (u64C T ++ [.int .u64 (t : Int)])) (hg : w.grownBy w' vT.ownBlock) (hat : vT.ownBlock = some g ∨ g = w.heap.size) :
    Bd w0 (w'.setCell ⟨G + 1, 1, none⟩ (.slice (some ⟨g, 0, none⟩) (T.length + 1) cap)) G k (Xo G vN (.slice (some ⟨g, 0, none⟩) (T.length + 1) cap)) S R (T ++ [t]) vN (.slice (some ⟨g, 0, none⟩) (T.length + 1) cap) := by
  have nb : ∀ b, vT.ownBlock ≠ some b → b ≠ G + 1 → b < w.heap.size → (w'.setCell ⟨G + 1, 1, none⟩ (.slice (some ⟨g, 0, none⟩) (T.length + 1) cap)).heap[b]? = w.heap[b]? := fun b hb h1 hl => by
    rw [Below.heap_setCell _ _ _ _ (by simp; omega)]
    exact hg.block b hl (fun e => hb e.symm)
  have hge : G + 5 ≤ g := (own_block_lt ho g rfl).1
  have low : ∀ b, b < G + 5 → vT.ownBlock ≠ some b := fun b hb e => by have := (own_block_lt h.rt _ e).1; omega
  have hgX : ∀ b, X b → b < w.heap.size → Xo G vN (.slice (some ⟨g, 0, none⟩) (T.length + 1) cap) b := fun b hb hl => ⟨(hX b hb).1, (hX b hb).2.1, fun e => by
    have e : g = b := by injection e
    subst e
    rcases hat with hat | hat
    · exact (hX g hb).2.2 hat
    · omega⟩
  have nx : ∀ b, X b → b < w.heap.size → Xo G vN (.slice (some ⟨g, 0, none⟩) (T.length + 1) cap) b ∧ (w'.setCell ⟨G + 1, 1, none⟩ (.slice (some ⟨g, 0, none⟩) (T.length + 1) cap)).heap[b]? = w.heap[b]? := fun b hb hl =>
    ⟨hgX b hb hl, nb b (hX b hb).2.2 (by have := (hX b hb).1; omega) hl⟩
  have ss : w.heap.size ≤ (w'.setCell ⟨G + 1, 1, none⟩ (.slice (some ⟨g, 0, none⟩) (T.length + 1) cap)).heap.size := by have := hg.size; simp; omega
  have hd : Cells w' (G + 1) 54 #[vN, vT] := (hg.block _ h.d.lt (fun e => low (G + 1) (by omega) e.symm)).trans h.d
  have hNT : ∀ g', vN.ownBlock = some g' → vT.ownBlock ≠ some g' := h.ne
  refine ⟨by have := h.sz; omega, (nb _ (low _ (by omega)) (by omega) h.res.lt).trans h.res, hd.set 1 _, (nb _ (low _ (by omega)) (by omega) h.b.lt).trans h.b, h.nm.block (nb _ (low _ (by omega)) (by omega) h.nm.lt),
    h.wt.move (nb _ (low _ (by omega)) (by omega) (by obtain ⟨f, h1, _⟩ := h.wt; exact h1.lt)) ss nx (Nat.le_refl _), ?_, ?_, fun g' e => ?_, ?_⟩
  · obtain ⟨gs, h1, h2⟩ := h.rn
    refine ⟨gs, (h1.kept hg ?_).kept (grown_setc _ _ _ _) ?_, fun i q hq => ?_⟩
    · rcases hv : vN.ownBlock with _ | t
      · exact .inl rfl
      · exact .inr (fun e => h.ne t hv e.symm)
    · rcases hv : vN.ownBlock with _ | t
      · exact .inl rfl
      · exact .inr (fun e => by injection e with e; have := (own_block_lt h1 t hv).1; omega)
    · obtain ⟨u', h3, h4⟩ := h2 i q hq
      exact ⟨u', h3, h4.move ss nx⟩
  · rw [List.length_append, u64C_snoc]
    exact ho.kept (grown_setc _ _ _ _) (.inr (by show some g ≠ some (G + 1); intro e; injection e with e; omega))
  · intro hv
    have e2 : g = g' := by injection hv
    subst e2
    rcases hat with hat | hat
    · exact h.ne g e hat
    · have := (h.rn.lt g e).2; omega
  · refine h.low.trans ⟨hg.os, hg.tape, hg.output, ss, fun j hj => nb j (low j (by omega)) (by omega) (by have := h.sz; omega)⟩
end Go.Proofs.YtmldgfplnacecaaDoor

namespace Go.Proofs.YtmldgfplnacecaaDoor
open Go.RowKit Go.Shelf Go.Lib

def intsC (l : List Int) : List Value := l.map fun x => Value.int .i64 x
theorem intsC_len (l : List Int) : (intsC l).length = l.length := by simp [intsC]
theorem intsC_append (l m : List Int) : intsC (l ++ m) = intsC l ++ intsC m := by simp [intsC]
def OwnI (w : World) (base : Nat) (l : List Int) (v : Value) : Prop := w.ownsRow base 3 1 v l.length (intsC l)
set_option maxRecDepth 100000 in
theorem wpList_append_is {ops : Array Oper} {rest : List Oper} {o : Oper} {a : Act} {w : World} {Q : Exit → Act → World → Prop} (hgd : o.guard = none) (s x : Operand)
    (ho : o.op = .call { callee := .builtin .append, args := #[s, x], argTypes := #[23, 23] }) (base : Nat) (v : Value) (l : List Int) (hs : a.eval s = v) (hown : OwnI w base l v)
    (xs : List Int) (A : Option Addr) (cap : Nat) (hx : a.eval x = .slice A xs.length cap) (his : IS w w.heap.size xs A cap) (hz : A = none → cap = 0) (h63 : l.length + xs.length ≤ 100000) (hbase : base ≤ w.heap.size)
    (h : ∀ v' w', OwnI w' base (l ++ xs) v' → w.grownBy w' v.ownBlock → wpList Tryd.prog ops Q rest (a.put o.dst v') w') : wpList Tryd.prog ops Q (o :: rest) a w := by
  obtain ⟨i0, hi, hz0, hz1, hz2⟩ := info_parts info3
  cases A with
  | none =>
    have hxs : xs = [] := by
      cases xs with
      | nil => rfl
      | cons y r => obtain ⟨b, o', e, _⟩ := his.r (by simp); cases e
    subst hxs
    obtain rfl := hz rfl
    refine wpList_append_own_none hgd s x 23 ho base 3 i0 1 Tryd.underlying23 hi v l.length (intsC l) hs hown hx (h v w (by simpa using hown) ?_)
    exact ⟨rfl, rfl, rfl, Nat.le_refl _, fun _ _ _ => rfl⟩
  | some ad =>
    have hnews : ∀ j u, (intsC xs)[j]? = some u → w.cell? (ad.add j) = some u := by
      intro j u hj
      unfold intsC at hj
      rw [List.getElem?_map] at hj
      obtain ⟨y, hy, rfl⟩ := Option.map_eq_some_iff.1 hj
      obtain ⟨b, o', e, _, hc⟩ := his.r (by rintro rfl; simp at hy)
      injection e with e
      subst e
      rw [Addr.add_mid]
      exact hc j y hy
    refine wpList_append_own _ hgd s x 23 ho base 3 i0 (.int .i64 0) 1 8 Tryd.underlying23 hi hz0 hz1 hz2 rfl (by decide) v l.length (intsC l) hs hown ad xs.length cap (intsC xs) hx (by rw [intsC_len]; omega) hnews
      (fun u hu => by unfold intsC at hu; obtain ⟨y, _, rfl⟩ := List.mem_map.1 hu; rfl) (by unfold maxLen; omega) (by omega) hbase fun v' w' h1 h2 _ => h v' w' ?_ h2
    unfold OwnI
    rw [intsC_append, List.length_append]
    exact h1
theorem wpList_wanted {P : Program} {ops : Array Oper} {rest : List Oper} {o : Oper} {a : Act} {w : World} {Q : Exit → Act → World → Prop} (hw : Region.wanted o (yielded ops a.tmps) = true)
    (h : ∀ K : Act → World → Prop, (∀ a w, wpList P ops Q rest a w → K a w) → o.wp P a w K Q) : wpList P ops Q (o :: rest) a w :=
  wpList_step fun K hK => by rw [if_pos hw]; exact h K hK
set_option maxRecDepth 100000 in
/-- The same at a guarded operation that is wanted. -/
theorem wpList_append_isG {ops : Array Oper} {rest : List Oper} {o : Oper} {a : Act} {w : World} {Q : Exit → Act → World → Prop} (hgw : Region.wanted o (yielded ops a.tmps) = true) (s x : Operand)
    (ho : o.op = .call { callee := .builtin .append, args := #[s, x], argTypes := #[23, 23] }) (base : Nat) (v : Value) (l : List Int) (hs : a.eval s = v) (hown : OwnI w base l v)
    (xs : List Int) (A : Option Addr) (cap : Nat) (hx : a.eval x = .slice A xs.length cap) (his : IS w w.heap.size xs A cap) (hz : A = none → cap = 0) (h63 : l.length + xs.length ≤ 100000) (hbase : base ≤ w.heap.size)
    (h : ∀ v' w', OwnI w' base (l ++ xs) v' → w.grownBy w' v.ownBlock → wpList Tryd.prog ops Q rest (a.put o.dst v') w') : wpList Tryd.prog ops Q (o :: rest) a w := by
  obtain ⟨i0, hi, hz0, hz1, hz2⟩ := info_parts info3
  cases A with
  | none =>
    have hxs : xs = [] := by
      cases xs with
      | nil => rfl
      | cons y r => obtain ⟨b, o', e, _⟩ := his.r (by simp); cases e
    subst hxs
    obtain rfl := hz rfl
    refine wpList_wanted hgw fun K hK => ?_
    have hrun := run_append_owned_none (P := Tryd.prog) (w := w) base 23 o.type 3 i0 1 Tryd.underlying23 hi v l.length (intsC l) hown
    unfold Oper.wp
    simp [execOp, ho, resolve, invoke, builtin, hs, hx, hrun, Result.andThen]
    exact hK _ _ (h v w (by simpa using hown) ⟨rfl, rfl, rfl, Nat.le_refl _, fun _ _ _ => rfl⟩)
  | some ad =>
    have hnews : ∀ j u, (intsC xs)[j]? = some u → w.cell? (ad.add j) = some u := by
      intro j u hj
      unfold intsC at hj
      rw [List.getElem?_map] at hj
      obtain ⟨y, hy, rfl⟩ := Option.map_eq_some_iff.1 hj
      obtain ⟨b, o', e, _, hc⟩ := his.r (by rintro rfl; simp at hy)
      injection e with e
      subst e
      rw [Addr.add_mid]
      exact hc j y hy
    refine wpList_wanted hgw fun K hK => wp_append_own _ s x 23 ho base 3 i0 (.int .i64 0) 1 8 Tryd.underlying23 hi hz0 hz1 hz2 rfl (by decide) v l.length (intsC l) hs hown ad xs.length cap (intsC xs) hx (by rw [intsC_len]; omega) hnews
      (fun u hu => by unfold intsC at hu; obtain ⟨y, _, rfl⟩ := List.mem_map.1 hu; rfl) (by unfold maxLen; omega) (by omega) hbase fun v' w' h1 h2 _ => hK _ _ (h v' w' ?_ h2)
    unfold OwnI
    rw [intsC_append, List.length_append]
    exact h1
theorem OwnP.is2 {w : World} {base m : Nat} {v : Value} (h : OwnP w base (posL m) v) : ∃ A cap, v = .slice A (posI m).length cap ∧ IS w w.heap.size (posI m) A cap ∧ (A = none → cap = 0) := by
  obtain ⟨A, cap, he, hi⟩ := h.is
  refine ⟨A, cap, he, hi, fun e => ?_⟩
  subst e
  rcases h.2 with ⟨h1, _⟩ | ⟨g, c, cur, h1, _⟩
  · rw [he] at h1; injection h1
  · rw [he] at h1
    have h2 : (none : Option Nat) = some g := congrArg Value.ownBlock h1
    exact absurd h2 (by simp)
theorem OwnI.is {w : World} {base : Nat} {l : List Int} {v : Value} (h : OwnI w base l v) (hl : ∀ x ∈ l, i64 x) : ∃ A cap, v = .slice A l.length cap ∧ IS w w.heap.size l A cap ∧ (A = none → cap = 0) := by
  rcases h.2 with ⟨h1, h2⟩ | ⟨g, cap, cur, h1, h2, h3, h4, h5, h6, h7⟩
  · have hn : l = [] := List.eq_nil_of_length_eq_zero h2
    subst hn
    exact ⟨none, 0, by rw [h1]; rfl, ⟨Nat.le_refl _, by unfold maxLen; omega, (fun x hx => absurd hx (by simp)), (fun hn => absurd rfl hn)⟩, fun _ => rfl⟩
  · refine ⟨_, cap, h1, ⟨h4, h5, hl, fun _ => ⟨g, 0, rfl, (Array.getElem?_eq_some_iff.1 h3).1, fun i x hx => ?_⟩⟩, fun e => by cases e⟩
    have hc := World.ownsRow.cells h (g := g) (by rw [h1]; rfl) i (.int .i64 x) (by simp [intsC, hx])
    rw [add0] at hc
    rw [Nat.zero_add]; exact hc
/-- A slice literal is the call's own. -/
theorem ownI_lit (w : World) (l : List Int) (hl : l.length ≤ 100) : OwnI (w.alloc (.cells (intsC l).toArray 3)) w.heap.size l (.slice (some ⟨w.heap.size, 0, none⟩) l.length l.length) :=
  ⟨by simp [intsC_len], .inr ⟨w.heap.size, l.length, (intsC l).toArray, rfl, Nat.le_refl _, heap_alloc_new w _, Nat.le_refl _, by unfold maxLen; omega, by simp [intsC_len], by simp [List.take_of_length_le, intsC_len]⟩⟩
theorem OwnI.below {w w' : World} {base : Nat} {l : List Int} {v : Value} (h : OwnI w base l v) (hb : Below w.heap.size w w') : OwnI w' base l v := ownsRow_below h hb
end Go.Proofs.YtmldgfplnacecaaDoor

namespace Go.Proofs.YtmldgfplnacecaaDoor
open Go.RowKit Go.Shelf Go.Lib

set_option maxHeartbeats 4000000 in
set_option maxRecDepth 100000 in
theorem in_any (xs : List Int) (A : Option Addr) (cap : Nat) (n : Int) (w : World) (h : IS w w.heap.size xs A cap) :
    Calls Tryd.prog 54 #[.slice A xs.length cap, .int .i64 n] w fun r w' => r = .returned (.bool (decide (n ∈ xs))) ∧ w' = w := by
  have hl1 : xs.length ≤ 9223372036854775807 := by have := h.l; have := h.m; unfold maxLen at this; omega
  obtain ⟨R, hR⟩ : ∃ R, decide (n ∈ xs) = R := ⟨_, rfl⟩
  obtain ⟨N, hN⟩ : ∃ N, xs.length = N := ⟨_, rfl⟩
  rw [hN] at hl1
  rw [hR, hN]
  have HH := Lib.hid (And.intro h (And.intro hR hN))
  clear h hR hN
  go_enter Tryd.func54, Tryd.ntmps54
  go_wp2_with fail
  go_loopw [5] (fun i wr => ∃ k : Nat, i = .int .i64 (k : Int) ∧ k ≤ N ∧ ¬ n ∈ xs.take k ∧ wr = w) (fun i _ => N - (RowKit.intOf i).toNat)
  case atStart => exact ⟨0, rfl, by omega, by simp, rfl⟩
  case round =>
    obtain ⟨k, rfl, hk, htk, rfl⟩ := hrel
    by_cases hlt : k < N
    · have i1 : (k : Int) < (N : Int) := by omega
      obtain ⟨x, hx⟩ : ∃ x, xs[k]? = some x := ⟨xs[k]'(by rw [HH.out.2.2]; exact hlt), List.getElem?_eq_getElem _⟩
      obtain ⟨b, o, rfl, hbl, hc⟩ := HH.out.1.r (by rintro rfl; simp at hx)
      have d0 := hc k x hx
      have HK := Lib.hid (And.intro htk hx)
      clear htk hc hx
      by_cases he : x = n
      · have hq : (x == n) = true := by simpa using he
        have : R = true := by
          rw [← HH.out.2.1]
          have := List.mem_of_getElem? HK.out.2
          rw [he] at this
          simpa using this
        subst this
        clear he
        go_wp2_with fail
        go_ret
        exact ⟨rfl, rfl⟩
      · have hq : (x == n) = false := by simpa using he
        have HE := Lib.hid (show ¬ n ∈ xs.take (k + 1) by
          rw [List.take_add_one, HK.out.2]
          simp only [Option.toList_some, List.mem_append, List.mem_singleton, not_or]
          exact ⟨HK.out.1, fun e => he e.symm⟩)
        clear he
        go_wp2_with fail
        go_roundw
        case rel => exact ⟨k + 1, by go_num, by omega, HE.out, trivial⟩
        case measure => simp [RowKit.intOf]; omega
    · obtain rfl : k = N := by omega
      have i1 : ¬ (k : Int) < (k : Int) := by omega
      have : R = false := by
        rw [← HH.out.2.1]
        have e1 : xs.take k = xs := by rw [← HH.out.2.2, List.take_length]
        rw [e1] at htk
        simpa using htk
      subst this
      clear htk
      go_wp2_with fail
      go_ret
      exact ⟨rfl, rfl⟩
set_option maxHeartbeats 4000000 in
set_option maxRecDepth 100000 in
theorem join_any (xs ys : List Int) (A A' : Option Addr) (cap cap' : Nat) (w : World) (hx : IS w w.heap.size xs A cap) (hy : IS w w.heap.size ys A' cap') (zx : A = none → cap = 0) (zy : A' = none → cap' = 0) (hl : xs.length + ys.length ≤ 100000) :
    Calls Tryd.prog 53 #[.slice A xs.length cap, .slice A' ys.length cap'] w fun r w' => ∃ v, r = .returned v ∧ OwnI w' w.heap.size (xs ++ ys) v ∧ Below w.heap.size w w' := by
  obtain ⟨nx, hnx⟩ : ∃ n, xs.length = n := ⟨_, rfl⟩
  obtain ⟨ny, hny⟩ : ∃ n, ys.length = n := ⟨_, rfl⟩
  have b0 := below_new w (.cells (intsC []).toArray 3)
  have H := Lib.hid (And.intro (And.intro hx hy) (And.intro (And.intro zx zy) (And.intro hl (And.intro hnx (And.intro hny (And.intro b0 (And.intro (ownI_lit w [] (by simp)) (And.intro (hx.on b0) (hy.on b0)))))))))
  rw [hnx, hny]
  clear hx hy zx zy hl hnx hny b0
  go_enter Tryd.func53, Tryd.ntmps53
  go_wp2_with (first
    | (at_builtin; refine wpList_append_is rfl (.tmp 5) (.tmp 6) rfl w.heap.size _ [] rfl H.out.2.2.2.2.2.2.1 xs A cap (by rw [H.out.2.2.2.1]; rfl) H.out.2.2.2.2.2.2.2.1 H.out.2.1.1 (by have := H.out.2.2.1; simp; omega) (by simp) ?_
       intro v7 w7 ho7 hg7
       have hb7 := (Below.refl w.heap.size w).alloc (Nat.le_refl _) (.cells (intsC []).toArray 3) |>.grown hg7 (by simp) (fun k hk => (H.out.2.2.2.2.2.2.1.lt k hk).1)
       have H7 := Lib.hid (And.intro ho7 hb7)
       clear ho7 hg7 hb7)
    | (at_builtin; refine wpList_append_is rfl (.tmp 7) (.tmp 8) rfl w.heap.size _ ([] ++ xs) rfl H7.out.1 ys A' cap' (by rw [H.out.2.2.2.2.1]; rfl) (H.out.1.2.on H7.out.2) H.out.2.1.2 (by have := H.out.2.2.1; simp; omega) H7.out.2.size ?_
       intro v8 w8 ho8 hg8
       have hb8 := H7.out.2.grown hg8 H7.out.2.size (fun k hk => (H7.out.1.lt k hk).1)
       have H8 := Lib.hid (And.intro ho8 hb8)
       clear ho8 hg8 hb8)
    | fail)
  go_ret
  exact ⟨v8, rfl, by have := H8.out.1; simpa using this, H8.out.2⟩
/-- Does a leaf take a symbol? -/
def takesI (k c m : Int) : Bool := if k = 3 then m == 36 else decide (0 ≤ m) && decide (m ≤ 35) && (k == 1 || (k == 0 && m == c) || (k == 2 && m != c))
set_option maxHeartbeats 8000000 in
set_option maxRecDepth 100000 in
theorem takesR_any (k c m : Int) (A : Option Addr) (n cap : Nat) (w : World) : Calls Tryd.prog 59 #[.agg #[.int .i64 k, .int .i64 c, .slice A n cap], .int .i64 m] w fun e w' => e = .returned (.bool (takesI k c m)) ∧ Below w.heap.size w w' := by
  obtain ⟨R, hR⟩ : ∃ R, takesI k c m = R := ⟨_, rfl⟩
  rw [hR]
  have HR := Lib.hid hR
  have hb := Lib.hid (below_new w (.cells #[.int .i64 k, .int .i64 c, .slice A n cap] 48))
  clear hR
  by_cases h3 : k = 3
  · subst h3
    go_enter Tryd.func59, Tryd.ntmps59
    go_wp2_with fail
    go_ret
    exact ⟨by rw [← HR.out]; rfl, hb.out⟩
  · by_cases hm0 : 0 ≤ m
    · by_cases hm1 : m ≤ 35
      · by_cases h1 : k = 1
        · subst h1
          go_enter Tryd.func59, Tryd.ntmps59
          go_wp2_with fail
          go_ret
          exact ⟨by rw [← HR.out]; simp [takesI, hm0, hm1], hb.out⟩
        · by_cases h0 : k = 0
          · subst h0
            by_cases hc : m = c
            · subst hc
              go_enter Tryd.func59, Tryd.ntmps59
              go_wp2_with fail
              go_ret
              exact ⟨by rw [← HR.out]; simp [takesI, hm0, hm1], hb.out⟩
            · have hq : (m == c) = false := by simpa using hc
              go_enter Tryd.func59, Tryd.ntmps59
              go_wp2_with fail
              go_ret
              exact ⟨by rw [← HR.out]; simp [takesI, hm0, hm1, hc], hb.out⟩
          · by_cases h2 : k = 2
            · subst h2
              by_cases hc : m = c
              · subst hc
                go_enter Tryd.func59, Tryd.ntmps59
                go_wp2_with fail
                go_ret
                exact ⟨by rw [← HR.out]; simp [takesI, hm0, hm1], hb.out⟩
              · have hq : (m == c) = false := by simpa using hc
                go_enter Tryd.func59, Tryd.ntmps59
                go_wp2_with fail
                go_ret
                exact ⟨by rw [← HR.out]; simp [takesI, hm0, hm1], hb.out⟩
            · go_enter Tryd.func59, Tryd.ntmps59
              go_wp2_with fail
              go_ret
              exact ⟨by rw [← HR.out, show takesI k c m = false by unfold takesI; rw [if_neg h3, show (k == 1) = false by simpa using h1, show (k == 0) = false by simpa using h0, show (k == 2) = false by simpa using h2]; simp]; simp [h1], hb.out⟩
      · go_enter Tryd.func59, Tryd.ntmps59
        go_wp2_with fail
        go_ret
        have hh : R = false := by rw [← HR.out]; unfold takesI; rw [if_neg h3, decide_eq_false (show ¬ m ≤ 35 by omega)]; simp
        subst hh
        exact ⟨rfl, hb.out⟩
    · go_enter Tryd.func59, Tryd.ntmps59
      go_wp2_with fail
      go_ret
      have hh : R = false := by rw [← HR.out]; unfold takesI; rw [if_neg h3, decide_eq_false (show ¬ 0 ≤ m by omega)]; simp
      subst hh
      exact ⟨rfl, hb.out⟩
end Go.Proofs.YtmldgfplnacecaaDoor

namespace Go.Proofs.YtmldgfplnacecaaDoor
open Go.RowKit Go.Shelf Go.Lib

/-- The document's automaton. -/
structure RA where
  se : Bool
  lv : List E
  of : List Int
  fi : List Int
  la : List Int
  pr : List (Int × Int)
  em : Nat
/-- Pairs of numbers as they lie. -/
structure PS (w : World) (B : Nat) (ps : List (Int × Int)) (A : Option Addr) (cap : Nat) : Prop where
  l : ps.length ≤ cap
  m : cap ≤ maxLen
  i : ∀ p ∈ ps, i64 p.1 ∧ i64 p.2
  r : ps ≠ [] → ∃ b o, A = some ⟨b, o, none⟩ ∧ b < B ∧ ∀ i p, ps[i]? = some p → w.cell? ⟨b, o + i * 2, none⟩ = some (.int .i64 p.1) ∧ w.cell? ⟨b, o + i * 2 + 1, none⟩ = some (.int .i64 p.2)
theorem PS.on {w w' : World} {ps : List (Int × Int)} {A : Option Addr} {cap : Nat} (h : PS w w.heap.size ps A cap) (hb : Below w.heap.size w w') : PS w' w'.heap.size ps A cap :=
  ⟨h.l, h.m, h.i, fun hne => by
    obtain ⟨b, o, e, hbl, hc⟩ := h.r hne
    exact ⟨b, o, e, Nat.lt_of_lt_of_le hbl hb.size, fun i p hp => ⟨(hb.cell (p := ⟨b, o + i * 2, none⟩) hbl).trans (hc i p hp).1, (hb.cell (p := ⟨b, o + i * 2 + 1, none⟩) hbl).trans (hc i p hp).2⟩⟩⟩
structure RAt (w : World) (b : Nat) (a : RA) : Prop where
  lt : b < w.heap.size
  c0 : w.cell? ⟨b, 0, none⟩ = some (.bool a.se)
  c1 : ∃ A cap, w.cell? ⟨b, 1, none⟩ = some (.slice A a.lv.length cap) ∧ KsAt w w.heap.size a.lv A cap
  c2 : ∃ A cap, w.cell? ⟨b, 2, none⟩ = some (.slice A a.of.length cap) ∧ IS w w.heap.size a.of A cap
  c3 : ∃ A cap, w.cell? ⟨b, 3, none⟩ = some (.slice A a.fi.length cap) ∧ IS w w.heap.size a.fi A cap
  c4 : ∃ A cap, w.cell? ⟨b, 4, none⟩ = some (.slice A a.la.length cap) ∧ IS w w.heap.size a.la A cap
  c5 : ∃ A cap, w.cell? ⟨b, 5, none⟩ = some (.slice A a.pr.length cap) ∧ PS w w.heap.size a.pr A cap
  c6 : w.cell? ⟨b, 6, none⟩ = some (.int .u64 (a.em : Nat))
theorem RAt.on {w w' : World} {b : Nat} {a : RA} (h : RAt w b a) (hb : Below w.heap.size w w') : RAt w' b a where
  lt := Nat.lt_of_lt_of_le h.lt hb.size
  c0 := (hb.cell (p := ⟨b, 0, none⟩) h.lt).trans h.c0
  c1 := by obtain ⟨A, cap, e, k⟩ := h.c1; exact ⟨A, cap, (hb.cell (p := ⟨b, 1, none⟩) h.lt).trans e, k.on hb⟩
  c2 := by obtain ⟨A, cap, e, k⟩ := h.c2; exact ⟨A, cap, (hb.cell (p := ⟨b, 2, none⟩) h.lt).trans e, k.on hb⟩
  c3 := by obtain ⟨A, cap, e, k⟩ := h.c3; exact ⟨A, cap, (hb.cell (p := ⟨b, 3, none⟩) h.lt).trans e, k.on hb⟩
  c4 := by obtain ⟨A, cap, e, k⟩ := h.c4; exact ⟨A, cap, (hb.cell (p := ⟨b, 4, none⟩) h.lt).trans e, k.on hb⟩
  c5 := by obtain ⟨A, cap, e, k⟩ := h.c5; exact ⟨A, cap, (hb.cell (p := ⟨b, 5, none⟩) h.lt).trans e, k.on hb⟩
  c6 := (hb.cell (p := ⟨b, 6, none⟩) h.lt).trans h.c6
/-- May a leaf come behind a set? -/
def pairR (set : List Int) (k : Int) (p : Int × Int) : Bool := p.2 == k && decide (p.1 ∈ set)
def firstR (a : RA) (set : List Int) (k : Int) : Bool := decide ((0 : Int) ∈ set) && decide (k ∈ a.fi)
def mayR (a : RA) (set : List Int) (k : Int) : Bool := firstR a set k || a.pr.any (pairR set k)
def takesAt (a : RA) (j : Nat) (m : Int) : Bool := match a.lv[j]? with | some e => takesI e.k e.c m | none => false
def stepF (a : RA) (set : List Int) (m : Int) : Nat → List Int
  | 0 => if a.se then [0] else []
  | j + 1 => stepF a set m j ++ if mayR a set ((j + 1 : Nat) : Int) && takesAt a j m then [((j + 1 : Nat) : Int)] else []
def stepR (a : RA) (set : List Int) (m : Int) : List Int := stepF a set m a.lv.length
theorem stepF_len (a : RA) (set : List Int) (m : Int) : ∀ j, (stepF a set m j).length ≤ j + 1
  | 0 => by unfold stepF; split <;> simp
  | j + 1 => by
    unfold stepF
    rw [List.length_append]
    have := stepF_len a set m j
    split <;> simp <;> omega
theorem any_take1 {ps : List (Int × Int)} {i : Nat} {p : Int × Int} (f : Int × Int → Bool) (h : ps[i]? = some p) : (ps.take (i + 1)).any f = ((ps.take i).any f || f p) := by
  rw [List.take_add_one, h, Option.toList_some, List.any_append]
  simp
theorem any_more {ps : List (Int × Int)} {i : Nat} {f : Int × Int → Bool} (h : (ps.take i).any f = true) : ps.any f = true := by
  rw [List.any_eq_true] at h ⊢
  obtain ⟨p, hp, hf⟩ := h
  exact ⟨p, List.mem_of_mem_take hp, hf⟩
end Go.Proofs.YtmldgfplnacecaaDoor

namespace Go.Proofs.YtmldgfplnacecaaDoor
open Go.RowKit Go.Shelf Go.Lib

theorem ownI_nil (w : World) (B : Nat) : OwnI w B [] (.slice none 0 0) := World.ownsRow_nil _ _ _ _
set_option maxHeartbeats 16000000 in
set_option maxRecDepth 100000 in
theorem stepR_any (a : RA) (b : Nat) (xs : List Int) (A : Option Addr) (cap : Nat) (m : Int) (w : World) (h : RAt w b a) (hx : IS w w.heap.size xs A cap) (hm : i64 m) (hn : a.lv.length ≤ 1000) :
    Calls Tryd.prog 23 #[.pointer (some ⟨b, 0, none⟩), .slice A xs.length cap, .int .i64 m] w fun r w' => ∃ v, r = .returned v ∧ OwnI w' w.heap.size (stepR a xs m) v ∧ Below w.heap.size w w' := by
  obtain ⟨N, hN⟩ : ∃ N, a.lv.length = N := ⟨_, rfl⟩
  obtain ⟨nx, hnx⟩ : ∃ n, xs.length = n := ⟨_, rfl⟩
  obtain ⟨M, hM⟩ : ∃ M, a.pr.length = M := ⟨_, rfl⟩
  have c0 := h.c0
  obtain ⟨SE, hse⟩ : ∃ s, a.se = s := ⟨_, rfl⟩
  rw [hse] at c0
  rw [hN] at hn
  rw [hnx]
  have hM63 : M ≤ 9223372036854775807 := by
    obtain ⟨_, _, _, k⟩ := h.c5
    have := k.l; have := k.m; unfold maxLen at this; omega
  have H := Lib.hid (And.intro h (And.intro hx (And.intro hm (And.intro hN (And.intro hnx (And.intro hM hse))))))
  clear h hx hm hN hnx hM hse
  cases SE with
  | true =>
    have hl := ownI_lit w [0] (by simp)
    have HL := Lib.hid (show OwnI (w.alloc (.cells #[.int .i64 0] 3)) w.heap.size (stepF a xs m 0) (.slice (some ⟨w.heap.size, 0, none⟩) 1 1) by
      have e : stepF a xs m 0 = [0] := by unfold stepF; rw [H.out.2.2.2.2.2.2]; rfl
      rw [e]; exact hl)
    clear hl
    go_enter Tryd.func23, Tryd.ntmps23
    go_wp2_with fail
    go_loopw [7, 8] (fun out k wr => ∃ j : Nat, k = .int .i64 ((j : Int) + 1) ∧ j ≤ N ∧ Below w.heap.size w wr ∧ OwnI wr w.heap.size (stepF a xs m j) out) (fun _ k _ => N + 1 - (RowKit.intOf k).toNat)
    case atStart => exact ⟨0, by simp, by omega, below_new _ _, HL.out⟩
    case round =>
      obtain ⟨wo, rfl⟩ : ∃ wo : World, wo = wr := ⟨_, rfl⟩
      obtain ⟨j, rfl, hj, hb, ho⟩ := hrel
      have a1 := H.out.1.on hb
      obtain ⟨A1, cp1, d1, k1⟩ := a1.c1
      rw [H.out.2.2.2.1] at d1
      by_cases hlt : j < N
      · have i1 : (j : Int) + 1 ≤ (N : Int) := by omega
        obtain ⟨e, he⟩ : ∃ e, a.lv[j]? = some e := ⟨a.lv[j]'(by rw [H.out.2.2.2.1]; exact hlt), List.getElem?_eq_getElem _⟩
        obtain ⟨bl, ol, rfl, hbl, hrow⟩ := k1.r (by rintro e'; rw [e'] at he; simp at he)
        obtain ⟨A', cap', e0, e1, e2, _⟩ := row_get' hrow he
        obtain ⟨A3, cp3, d3, k3⟩ := a1.c3
        obtain ⟨A5, cp5, d5, k5⟩ := a1.c5
        rw [H.out.2.2.2.2.2.1] at d5
        have CI := fun (v : Int) => in_any xs A cap v wo (H.out.2.1.on hb)
        rw [H.out.2.2.2.2.1] at CI
        have CI := Lib.hid CI
        obtain ⟨nf, hnf⟩ : ∃ n, a.fi.length = n := ⟨_, rfl⟩
        have CF := in_any a.fi A3 cp3 ((j : Int) + 1) wo k3
        rw [hnf] at CF d3
        have CF := Lib.hid CF
        obtain ⟨MAY, hmay⟩ : ∃ y, mayR a xs ((j + 1 : Nat) : Int) = y := ⟨_, rfl⟩
        obtain ⟨F0, hF0⟩ : ∃ y, firstR a xs ((j + 1 : Nat) : Int) = y := ⟨_, rfl⟩
        have CT := Lib.hid (takesR_any e.k e.c m A' e.ks.length cap' wo)
        have hta : takesAt a j m = takesI e.k e.c m := by unfold takesAt; rw [he]
        have HK := Lib.hid (And.intro (And.intro hb ho) (And.intro k5 (And.intro hmay (And.intro hF0 (And.intro hta (And.intro a1 he))))))
        have hw1 : wrap64 ((j : Int) + 1 - 1) = (j : Int) := by unfold wrap64; omega
        clear hb ho k5 k3 k1 hmay hF0 hta a1 he hrow hnf
        -- F0
        have P0 : ∃ z, decide ((0 : Int) ∈ xs) = z := ⟨_, rfl⟩
        obtain ⟨Z, hZ⟩ := P0
        have CI0 := CI.out 0
        rw [hZ] at CI0
        have CI0 := Lib.hid CI0
        obtain ⟨G, hG⟩ : ∃ z, decide (((j : Int) + 1) ∈ a.fi) = z := ⟨_, rfl⟩
        have CF1 := CF.out
        rw [hG] at CF1
        have CF1 := Lib.hid CF1
        have HF : F0 = (Z && G) := by rw [← HK.out.2.2.2.1, ← hZ, ← hG]; rfl
        clear hZ hG
        cases Z with
        | true =>
          obtain rfl : F0 = G := by rw [HF]; rfl
          clear HF
          go_wp2_with fail
          refine CI0.out.mono ?_
          rintro r wq ⟨rfl, e20⟩
          obtain rfl := e20.symm
          go_wp2_with fail
          refine CF1.out.mono ?_
          rintro r wq ⟨rfl, e20⟩
          obtain rfl := e20.symm
          go_wp2_with fail
          go_loopw [9, 10] (fun y i wi => ∃ t : Nat, i = .int .i64 (t : Int) ∧ t ≤ M ∧ y = .bool (F0 || (a.pr.take t).any (pairR xs ((j + 1 : Nat) : Int))) ∧ wi = wo) (fun _ i _ => M - (RowKit.intOf i).toNat)
          case atStart => exact ⟨0, rfl, by omega, by simp, rfl⟩
          case round =>
            obtain ⟨t, rfl, ht, rfl, rfl⟩ := hrel
            obtain ⟨Y, hY⟩ : ∃ y, (F0 || (a.pr.take t).any (pairR xs ((j + 1 : Nat) : Int))) = y := ⟨_, rfl⟩
            rw [hY]
            have HY := Lib.hid hY
            clear hY
            by_cases hgo : t < M ∧ Y = false
            · obtain ⟨htl, rfl⟩ := hgo
              have i2 : (t : Int) < (M : Int) := by omega
              obtain ⟨p, hp⟩ : ∃ p, a.pr[t]? = some p := ⟨a.pr[t]'(by rw [H.out.2.2.2.2.2.1]; exact htl), List.getElem?_eq_getElem _⟩
              obtain ⟨bp, op, rfl, hbp, hcp⟩ := HK.out.2.1.r (by rintro e'; rw [e'] at hp; simp at hp)
              obtain ⟨g0, g1⟩ := hcp t p hp
              have HP := Lib.hid (any_take1 (pairR xs ((j + 1 : Nat) : Int)) hp)
              clear hp hcp
              obtain ⟨p1, p2⟩ := p
              simp only at g0 g1
              by_cases heq : p2 = (j : Int) + 1
              · have hq : (p2 == (j : Int) + 1) = true := by simpa using heq
                obtain ⟨Z1, hZ1⟩ : ∃ z, decide (p1 ∈ xs) = z := ⟨_, rfl⟩
                have CP := CI.out p1
                rw [hZ1] at CP
                have CP := Lib.hid CP
                have HN2 := Lib.hid (show (F0 || (a.pr.take (t + 1)).any (pairR xs ((j + 1 : Nat) : Int))) = Z1 by
                  rw [HP.out, ← Bool.or_assoc, HY.out]
                  have : pairR xs ((j + 1 : Nat) : Int) (p1, p2) = Z1 := by
                    unfold pairR
                    rw [← hZ1]
                    have e1 : (p2 == ((j + 1 : Nat) : Int)) = true := by rw [heq]; simp
                    simp only [e1, Bool.true_and]
                  rw [this]; rfl)
                clear hZ1 heq
                go_wp2_with fail
                refine CP.out.mono ?_
                rintro r wq ⟨rfl, e20⟩
                obtain rfl := e20.symm
                go_wp2_with fail
                go_roundw
                case rel => exact ⟨t + 1, by go_num, by omega, by rw [HN2.out], trivial⟩
                case measure => simp [RowKit.intOf]; omega
              · have hq : (p2 == (j : Int) + 1) = false := by simpa using heq
                have HN2 := Lib.hid (show (F0 || (a.pr.take (t + 1)).any (pairR xs ((j + 1 : Nat) : Int))) = false by
                  rw [HP.out, ← Bool.or_assoc, HY.out]
                  have : pairR xs ((j + 1 : Nat) : Int) (p1, p2) = false := by
                    unfold pairR
                    have e1 : (p2 == ((j + 1 : Nat) : Int)) = false := by simp; omega
                    simp only [e1, Bool.false_and]
                  rw [this]; rfl)
                clear heq
                go_wp2_with fail
                go_roundw
                case rel => exact ⟨t + 1, by go_num, by omega, by rw [HN2.out], trivial⟩
                case measure => simp [RowKit.intOf]; omega
            · have hYM : Y = MAY := by
                rw [← HY.out, ← HK.out.2.2.1]
                unfold mayR
                rw [HK.out.2.2.2.1]
                by_cases e : t < M
                · have hYt : Y = true := by
                    cases hy : Y with
                    | true => rfl
                    | false => exact absurd ⟨e, hy⟩ hgo
                  have h1 := HY.out
                  rw [hYt] at h1
                  rw [h1]
                  rw [Bool.or_eq_true] at h1
                  rcases h1 with h1 | h1
                  · rw [h1]; rfl
                  · rw [any_more h1]; simp
                · have e2 : a.pr.take t = a.pr := List.take_of_length_le (by rw [H.out.2.2.2.2.2.1]; omega)
                  rw [e2]
              subst hYM
              have hcase : Y = true ∨ (Y = false ∧ ¬ (t : Int) < (M : Int)) := by
                cases hy : Y with
                | true => exact .inl rfl
                | false => exact .inr ⟨rfl, fun e => hgo ⟨by omega, hy⟩⟩
              clear hgo
              rcases hcase with rfl | ⟨rfl, i2⟩
              · -- taken?
                obtain ⟨TK, hTK⟩ : ∃ z, takesI e.k e.c m = z := ⟨_, rfl⟩
                have CT1 := CT.out
                rw [hTK] at CT1
                have CT1 := Lib.hid CT1
                have HT := Lib.hid (show stepF a xs m (j + 1) = stepF a xs m j ++ (if TK then [((j + 1 : Nat) : Int)] else []) by
                  rw [← hTK, ← HK.out.2.2.2.2.1]
                  show stepF a xs m j ++ (if mayR a xs ((j + 1 : Nat) : Int) && takesAt a j m then _ else _) = _
                  rw [HK.out.2.2.1, Bool.true_and])
                clear hTK
                by_cases htM : t < M
                · have i2 : (t : Int) < (M : Int) := by omega
                  go_wp2_with fail
                  refine CT1.out.mono ?_
                  rintro r w2 ⟨rfl, hb2⟩
                  have hbw := HK.out.1.1.trans (hb2.mono HK.out.1.1.size)
                  have ho2 := OwnI.below HK.out.1.2 hb2
                  have H2 := Lib.hid (And.intro hbw ho2)
                  clear hb2 hbw ho2
                  cases TK with
                  | true =>
                    have isk : IS (w2.alloc (.cells #[.int .i64 ((j : Int) + 1)] 3)) (w2.alloc (.cells #[.int .i64 ((j : Int) + 1)] 3)).heap.size [(j : Int) + 1] (some ⟨w2.heap.size, 0, none⟩) 1 :=
                      ⟨by simp, by unfold maxLen; omega, fun x hx => by simp at hx; subst hx; unfold i64; omega, fun _ => ⟨_, 0, rfl, by simp, fun i x hx => by
                        cases i with
                        | zero => simp at hx; subst hx; rw [World.cell?_alloc_new]; rfl
                        | succ i => simp at hx⟩⟩
                    have HI := Lib.hid (And.intro isk (And.intro (OwnI.below H2.out.2 (below_new w2 (.cells #[.int .i64 ((j : Int) + 1)] 3))) (below_new w2 (.cells #[.int .i64 ((j : Int) + 1)] 3))))
                    clear isk
                    go_wp2_with (first
                      | (at_builtin; refine wpList_append_is rfl (.tmp 83) (.tmp 85) rfl w.heap.size _ (stepF a xs m j) rfl HI.out.2.1 [(j : Int) + 1] (some ⟨w2.heap.size, 0, none⟩) 1 rfl HI.out.1 (fun e' => by cases e') (by have := stepF_len a xs m j; simp; omega) (by have := H2.out.1.size; simp; omega) ?_
                         intro v8 w8 ho8 hg8
                         have hb8 := (H2.out.1.alloc (by exact H2.out.1.size) (.cells #[.int .i64 ((j : Int) + 1)] 3)).grown hg8 (by have := H2.out.1.size; simp; omega) (fun k hk => (HI.out.2.1.lt k hk).1)
                         have H8 := Lib.hid (And.intro ho8 hb8)
                         clear ho8 hg8 hb8)
                      | fail)
                    go_roundw
                    case rel => exact ⟨j + 1, by go_num, by omega, H8.out.2, by rw [HT.out]; exact H8.out.1⟩
                    case measure => simp [RowKit.intOf]; omega
                  | false =>
                    go_wp2_with fail
                    go_roundw
                    case rel => exact ⟨j + 1, by go_num, by omega, H2.out.1, by rw [HT.out]; simpa using H2.out.2⟩
                    case measure => simp [RowKit.intOf]; omega
                · have i2 : ¬ (t : Int) < (M : Int) := by omega
                  go_wp2_with fail
                  refine CT1.out.mono ?_
                  rintro r w2 ⟨rfl, hb2⟩
                  have hbw := HK.out.1.1.trans (hb2.mono HK.out.1.1.size)
                  have ho2 := OwnI.below HK.out.1.2 hb2
                  have H2 := Lib.hid (And.intro hbw ho2)
                  clear hb2 hbw ho2
                  cases TK with
                  | true =>
                    have isk : IS (w2.alloc (.cells #[.int .i64 ((j : Int) + 1)] 3)) (w2.alloc (.cells #[.int .i64 ((j : Int) + 1)] 3)).heap.size [(j : Int) + 1] (some ⟨w2.heap.size, 0, none⟩) 1 :=
                      ⟨by simp, by unfold maxLen; omega, fun x hx => by simp at hx; subst hx; unfold i64; omega, fun _ => ⟨_, 0, rfl, by simp, fun i x hx => by
                        cases i with
                        | zero => simp at hx; subst hx; rw [World.cell?_alloc_new]; rfl
                        | succ i => simp at hx⟩⟩
                    have HI := Lib.hid (And.intro isk (And.intro (OwnI.below H2.out.2 (below_new w2 (.cells #[.int .i64 ((j : Int) + 1)] 3))) (below_new w2 (.cells #[.int .i64 ((j : Int) + 1)] 3))))
                    clear isk
                    go_wp2_with (first
                      | (at_builtin; refine wpList_append_is rfl (.tmp 83) (.tmp 85) rfl w.heap.size _ (stepF a xs m j) rfl HI.out.2.1 [(j : Int) + 1] (some ⟨w2.heap.size, 0, none⟩) 1 rfl HI.out.1 (fun e' => by cases e') (by have := stepF_len a xs m j; simp; omega) (by have := H2.out.1.size; simp; omega) ?_
                         intro v8 w8 ho8 hg8
                         have hb8 := (H2.out.1.alloc (by exact H2.out.1.size) (.cells #[.int .i64 ((j : Int) + 1)] 3)).grown hg8 (by have := H2.out.1.size; simp; omega) (fun k hk => (HI.out.2.1.lt k hk).1)
                         have H8 := Lib.hid (And.intro ho8 hb8)
                         clear ho8 hg8 hb8)
                      | fail)
                    go_roundw
                    case rel => exact ⟨j + 1, by go_num, by omega, H8.out.2, by rw [HT.out]; exact H8.out.1⟩
                    case measure => simp [RowKit.intOf]; omega
                  | false =>
                    go_wp2_with fail
                    go_roundw
                    case rel => exact ⟨j + 1, by go_num, by omega, H2.out.1, by rw [HT.out]; simpa using H2.out.2⟩
                    case measure => simp [RowKit.intOf]; omega
              · have HT := Lib.hid (show stepF a xs m (j + 1) = stepF a xs m j by
                  show stepF a xs m j ++ (if mayR a xs ((j + 1 : Nat) : Int) && takesAt a j m then _ else _) = _
                  rw [HK.out.2.2.1, Bool.false_and]; simp)
                go_wp2_with fail
                go_roundw
                case rel => exact ⟨j + 1, by go_num, by omega, HK.out.1.1, by rw [HT.out]; exact HK.out.1.2⟩
                case measure => simp [RowKit.intOf]; omega
        | false =>
          obtain rfl : F0 = false := by rw [HF]; rfl
          clear HF
          go_wp2_with fail
          refine CI0.out.mono ?_
          rintro r wq ⟨rfl, e20⟩
          obtain rfl := e20.symm
          go_wp2_with fail
          go_loopw [9, 10] (fun y i wi => ∃ t : Nat, i = .int .i64 (t : Int) ∧ t ≤ M ∧ y = .bool (false || (a.pr.take t).any (pairR xs ((j + 1 : Nat) : Int))) ∧ wi = wo) (fun _ i _ => M - (RowKit.intOf i).toNat)
          case atStart => exact ⟨0, rfl, by omega, by simp, rfl⟩
          case round =>
            obtain ⟨t, rfl, ht, rfl, rfl⟩ := hrel
            obtain ⟨Y, hY⟩ : ∃ y, (false || (a.pr.take t).any (pairR xs ((j + 1 : Nat) : Int))) = y := ⟨_, rfl⟩
            rw [hY]
            have HY := Lib.hid hY
            clear hY
            by_cases hgo : t < M ∧ Y = false
            · obtain ⟨htl, rfl⟩ := hgo
              have i2 : (t : Int) < (M : Int) := by omega
              obtain ⟨p, hp⟩ : ∃ p, a.pr[t]? = some p := ⟨a.pr[t]'(by rw [H.out.2.2.2.2.2.1]; exact htl), List.getElem?_eq_getElem _⟩
              obtain ⟨bp, op, rfl, hbp, hcp⟩ := HK.out.2.1.r (by rintro e'; rw [e'] at hp; simp at hp)
              obtain ⟨g0, g1⟩ := hcp t p hp
              have HP := Lib.hid (any_take1 (pairR xs ((j + 1 : Nat) : Int)) hp)
              clear hp hcp
              obtain ⟨p1, p2⟩ := p
              simp only at g0 g1
              by_cases heq : p2 = (j : Int) + 1
              · have hq : (p2 == (j : Int) + 1) = true := by simpa using heq
                obtain ⟨Z1, hZ1⟩ : ∃ z, decide (p1 ∈ xs) = z := ⟨_, rfl⟩
                have CP := CI.out p1
                rw [hZ1] at CP
                have CP := Lib.hid CP
                have HN2 := Lib.hid (show (false || (a.pr.take (t + 1)).any (pairR xs ((j + 1 : Nat) : Int))) = Z1 by
                  rw [HP.out, ← Bool.or_assoc, HY.out]
                  have : pairR xs ((j + 1 : Nat) : Int) (p1, p2) = Z1 := by
                    unfold pairR
                    rw [← hZ1]
                    have e1 : (p2 == ((j + 1 : Nat) : Int)) = true := by rw [heq]; simp
                    simp only [e1, Bool.true_and]
                  rw [this]; rfl)
                clear hZ1 heq
                go_wp2_with fail
                refine CP.out.mono ?_
                rintro r wq ⟨rfl, e20⟩
                obtain rfl := e20.symm
                go_wp2_with fail
                go_roundw
                case rel => exact ⟨t + 1, by go_num, by omega, by rw [HN2.out], trivial⟩
                case measure => simp [RowKit.intOf]; omega
              · have hq : (p2 == (j : Int) + 1) = false := by simpa using heq
                have HN2 := Lib.hid (show (false || (a.pr.take (t + 1)).any (pairR xs ((j + 1 : Nat) : Int))) = false by
                  rw [HP.out, ← Bool.or_assoc, HY.out]
                  have : pairR xs ((j + 1 : Nat) : Int) (p1, p2) = false := by
                    unfold pairR
                    have e1 : (p2 == ((j + 1 : Nat) : Int)) = false := by simp; omega
                    simp only [e1, Bool.false_and]
                  rw [this]; rfl)
                clear heq
                go_wp2_with fail
                go_roundw
                case rel => exact ⟨t + 1, by go_num, by omega, by rw [HN2.out], trivial⟩
                case measure => simp [RowKit.intOf]; omega
            · have hYM : Y = MAY := by
                rw [← HY.out, ← HK.out.2.2.1]
                unfold mayR
                rw [HK.out.2.2.2.1]
                by_cases e : t < M
                · have hYt : Y = true := by
                    cases hy : Y with
                    | true => rfl
                    | false => exact absurd ⟨e, hy⟩ hgo
                  have h1 := HY.out
                  rw [hYt] at h1
                  rw [h1]
                  rw [Bool.or_eq_true] at h1
                  rcases h1 with h1 | h1
                  · rw [h1]; rfl
                  · rw [any_more h1]; simp
                · have e2 : a.pr.take t = a.pr := List.take_of_length_le (by rw [H.out.2.2.2.2.2.1]; omega)
                  rw [e2]
              subst hYM
              have hcase : Y = true ∨ (Y = false ∧ ¬ (t : Int) < (M : Int)) := by
                cases hy : Y with
                | true => exact .inl rfl
                | false => exact .inr ⟨rfl, fun e => hgo ⟨by omega, hy⟩⟩
              clear hgo
              rcases hcase with rfl | ⟨rfl, i2⟩
              · -- taken?
                obtain ⟨TK, hTK⟩ : ∃ z, takesI e.k e.c m = z := ⟨_, rfl⟩
                have CT1 := CT.out
                rw [hTK] at CT1
                have CT1 := Lib.hid CT1
                have HT := Lib.hid (show stepF a xs m (j + 1) = stepF a xs m j ++ (if TK then [((j + 1 : Nat) : Int)] else []) by
                  rw [← hTK, ← HK.out.2.2.2.2.1]
                  show stepF a xs m j ++ (if mayR a xs ((j + 1 : Nat) : Int) && takesAt a j m then _ else _) = _
                  rw [HK.out.2.2.1, Bool.true_and])
                clear hTK
                by_cases htM : t < M
                · have i2 : (t : Int) < (M : Int) := by omega
                  go_wp2_with fail
                  refine CT1.out.mono ?_
                  rintro r w2 ⟨rfl, hb2⟩
                  have hbw := HK.out.1.1.trans (hb2.mono HK.out.1.1.size)
                  have ho2 := OwnI.below HK.out.1.2 hb2
                  have H2 := Lib.hid (And.intro hbw ho2)
                  clear hb2 hbw ho2
                  cases TK with
                  | true =>
                    have isk : IS (w2.alloc (.cells #[.int .i64 ((j : Int) + 1)] 3)) (w2.alloc (.cells #[.int .i64 ((j : Int) + 1)] 3)).heap.size [(j : Int) + 1] (some ⟨w2.heap.size, 0, none⟩) 1 :=
                      ⟨by simp, by unfold maxLen; omega, fun x hx => by simp at hx; subst hx; unfold i64; omega, fun _ => ⟨_, 0, rfl, by simp, fun i x hx => by
                        cases i with
                        | zero => simp at hx; subst hx; rw [World.cell?_alloc_new]; rfl
                        | succ i => simp at hx⟩⟩
                    have HI := Lib.hid (And.intro isk (And.intro (OwnI.below H2.out.2 (below_new w2 (.cells #[.int .i64 ((j : Int) + 1)] 3))) (below_new w2 (.cells #[.int .i64 ((j : Int) + 1)] 3))))
                    clear isk
                    go_wp2_with (first
                      | (at_builtin; refine wpList_append_is rfl (.tmp 83) (.tmp 85) rfl w.heap.size _ (stepF a xs m j) rfl HI.out.2.1 [(j : Int) + 1] (some ⟨w2.heap.size, 0, none⟩) 1 rfl HI.out.1 (fun e' => by cases e') (by have := stepF_len a xs m j; simp; omega) (by have := H2.out.1.size; simp; omega) ?_
                         intro v8 w8 ho8 hg8
                         have hb8 := (H2.out.1.alloc (by exact H2.out.1.size) (.cells #[.int .i64 ((j : Int) + 1)] 3)).grown hg8 (by have := H2.out.1.size; simp; omega) (fun k hk => (HI.out.2.1.lt k hk).1)
                         have H8 := Lib.hid (And.intro ho8 hb8)
                         clear ho8 hg8 hb8)
                      | fail)
                    go_roundw
                    case rel => exact ⟨j + 1, by go_num, by omega, H8.out.2, by rw [HT.out]; exact H8.out.1⟩
                    case measure => simp [RowKit.intOf]; omega
                  | false =>
                    go_wp2_with fail
                    go_roundw
                    case rel => exact ⟨j + 1, by go_num, by omega, H2.out.1, by rw [HT.out]; simpa using H2.out.2⟩
                    case measure => simp [RowKit.intOf]; omega
                · have i2 : ¬ (t : Int) < (M : Int) := by omega
                  go_wp2_with fail
                  refine CT1.out.mono ?_
                  rintro r w2 ⟨rfl, hb2⟩
                  have hbw := HK.out.1.1.trans (hb2.mono HK.out.1.1.size)
                  have ho2 := OwnI.below HK.out.1.2 hb2
                  have H2 := Lib.hid (And.intro hbw ho2)
                  clear hb2 hbw ho2
                  cases TK with
                  | true =>
                    have isk : IS (w2.alloc (.cells #[.int .i64 ((j : Int) + 1)] 3)) (w2.alloc (.cells #[.int .i64 ((j : Int) + 1)] 3)).heap.size [(j : Int) + 1] (some ⟨w2.heap.size, 0, none⟩) 1 :=
                      ⟨by simp, by unfold maxLen; omega, fun x hx => by simp at hx; subst hx; unfold i64; omega, fun _ => ⟨_, 0, rfl, by simp, fun i x hx => by
                        cases i with
                        | zero => simp at hx; subst hx; rw [World.cell?_alloc_new]; rfl
                        | succ i => simp at hx⟩⟩
                    have HI := Lib.hid (And.intro isk (And.intro (OwnI.below H2.out.2 (below_new w2 (.cells #[.int .i64 ((j : Int) + 1)] 3))) (below_new w2 (.cells #[.int .i64 ((j : Int) + 1)] 3))))
                    clear isk
                    go_wp2_with (first
                      | (at_builtin; refine wpList_append_is rfl (.tmp 83) (.tmp 85) rfl w.heap.size _ (stepF a xs m j) rfl HI.out.2.1 [(j : Int) + 1] (some ⟨w2.heap.size, 0, none⟩) 1 rfl HI.out.1 (fun e' => by cases e') (by have := stepF_len a xs m j; simp; omega) (by have := H2.out.1.size; simp; omega) ?_
                         intro v8 w8 ho8 hg8
                         have hb8 := (H2.out.1.alloc (by exact H2.out.1.size) (.cells #[.int .i64 ((j : Int) + 1)] 3)).grown hg8 (by have := H2.out.1.size; simp; omega) (fun k hk => (HI.out.2.1.lt k hk).1)
                         have H8 := Lib.hid (And.intro ho8 hb8)
                         clear ho8 hg8 hb8)
                      | fail)
                    go_roundw
                    case rel => exact ⟨j + 1, by go_num, by omega, H8.out.2, by rw [HT.out]; exact H8.out.1⟩
                    case measure => simp [RowKit.intOf]; omega
                  | false =>
                    go_wp2_with fail
                    go_roundw
                    case rel => exact ⟨j + 1, by go_num, by omega, H2.out.1, by rw [HT.out]; simpa using H2.out.2⟩
                    case measure => simp [RowKit.intOf]; omega
              · have HT := Lib.hid (show stepF a xs m (j + 1) = stepF a xs m j by
                  show stepF a xs m j ++ (if mayR a xs ((j + 1 : Nat) : Int) && takesAt a j m then _ else _) = _
                  rw [HK.out.2.2.1, Bool.false_and]; simp)
                go_wp2_with fail
                go_roundw
                case rel => exact ⟨j + 1, by go_num, by omega, HK.out.1.1, by rw [HT.out]; exact HK.out.1.2⟩
                case measure => simp [RowKit.intOf]; omega
      · obtain rfl : j = N := by omega
        have i1 : ¬ (j : Int) + 1 ≤ (j : Int) := by omega
        have HO := Lib.hid (And.intro hb ho)
        clear hb ho a1 k1
        go_wp2_with fail
        go_ret
        exact ⟨_, rfl, by unfold stepR; rw [H.out.2.2.2.1]; exact HO.out.2, HO.out.1⟩
  | false =>
    have HL := Lib.hid (show OwnI w w.heap.size (stepF a xs m 0) (.slice none 0 0) by
      have e : stepF a xs m 0 = [] := by unfold stepF; rw [H.out.2.2.2.2.2.2]; rfl
      rw [e]; exact ownI_nil _ _)
    go_enter Tryd.func23, Tryd.ntmps23
    go_wp2_with fail
    go_loopw [7, 8] (fun out k wr => ∃ j : Nat, k = .int .i64 ((j : Int) + 1) ∧ j ≤ N ∧ Below w.heap.size w wr ∧ OwnI wr w.heap.size (stepF a xs m j) out) (fun _ k _ => N + 1 - (RowKit.intOf k).toNat)
    case atStart => exact ⟨0, by simp, by omega, Below.refl _ _, HL.out⟩
    case round =>
      obtain ⟨wo, rfl⟩ : ∃ wo : World, wo = wr := ⟨_, rfl⟩
      obtain ⟨j, rfl, hj, hb, ho⟩ := hrel
      have a1 := H.out.1.on hb
      obtain ⟨A1, cp1, d1, k1⟩ := a1.c1
      rw [H.out.2.2.2.1] at d1
      by_cases hlt : j < N
      · have i1 : (j : Int) + 1 ≤ (N : Int) := by omega
        obtain ⟨e, he⟩ : ∃ e, a.lv[j]? = some e := ⟨a.lv[j]'(by rw [H.out.2.2.2.1]; exact hlt), List.getElem?_eq_getElem _⟩
        obtain ⟨bl, ol, rfl, hbl, hrow⟩ := k1.r (by rintro e'; rw [e'] at he; simp at he)
        obtain ⟨A', cap', e0, e1, e2, _⟩ := row_get' hrow he
        obtain ⟨A3, cp3, d3, k3⟩ := a1.c3
        obtain ⟨A5, cp5, d5, k5⟩ := a1.c5
        rw [H.out.2.2.2.2.2.1] at d5
        have CI := fun (v : Int) => in_any xs A cap v wo (H.out.2.1.on hb)
        rw [H.out.2.2.2.2.1] at CI
        have CI := Lib.hid CI
        obtain ⟨nf, hnf⟩ : ∃ n, a.fi.length = n := ⟨_, rfl⟩
        have CF := in_any a.fi A3 cp3 ((j : Int) + 1) wo k3
        rw [hnf] at CF d3
        have CF := Lib.hid CF
        obtain ⟨MAY, hmay⟩ : ∃ y, mayR a xs ((j + 1 : Nat) : Int) = y := ⟨_, rfl⟩
        obtain ⟨F0, hF0⟩ : ∃ y, firstR a xs ((j + 1 : Nat) : Int) = y := ⟨_, rfl⟩
        have CT := Lib.hid (takesR_any e.k e.c m A' e.ks.length cap' wo)
        have hta : takesAt a j m = takesI e.k e.c m := by unfold takesAt; rw [he]
        have HK := Lib.hid (And.intro (And.intro hb ho) (And.intro k5 (And.intro hmay (And.intro hF0 (And.intro hta (And.intro a1 he))))))
        have hw1 : wrap64 ((j : Int) + 1 - 1) = (j : Int) := by unfold wrap64; omega
        clear hb ho k5 k3 k1 hmay hF0 hta a1 he hrow hnf
        -- F0
        have P0 : ∃ z, decide ((0 : Int) ∈ xs) = z := ⟨_, rfl⟩
        obtain ⟨Z, hZ⟩ := P0
        have CI0 := CI.out 0
        rw [hZ] at CI0
        have CI0 := Lib.hid CI0
        obtain ⟨G, hG⟩ : ∃ z, decide (((j : Int) + 1) ∈ a.fi) = z := ⟨_, rfl⟩
        have CF1 := CF.out
        rw [hG] at CF1
        have CF1 := Lib.hid CF1
        have HF : F0 = (Z && G) := by rw [← HK.out.2.2.2.1, ← hZ, ← hG]; rfl
        clear hZ hG
        cases Z with
        | true =>
          obtain rfl : F0 = G := by rw [HF]; rfl
          clear HF
          go_wp2_with fail
          refine CI0.out.mono ?_
          rintro r wq ⟨rfl, e20⟩
          obtain rfl := e20.symm
          go_wp2_with fail
          refine CF1.out.mono ?_
          rintro r wq ⟨rfl, e20⟩
          obtain rfl := e20.symm
          go_wp2_with fail
          go_loopw [9, 10] (fun y i wi => ∃ t : Nat, i = .int .i64 (t : Int) ∧ t ≤ M ∧ y = .bool (F0 || (a.pr.take t).any (pairR xs ((j + 1 : Nat) : Int))) ∧ wi = wo) (fun _ i _ => M - (RowKit.intOf i).toNat)
          case atStart => exact ⟨0, rfl, by omega, by simp, rfl⟩
          case round =>
            obtain ⟨t, rfl, ht, rfl, rfl⟩ := hrel
            obtain ⟨Y, hY⟩ : ∃ y, (F0 || (a.pr.take t).any (pairR xs ((j + 1 : Nat) : Int))) = y := ⟨_, rfl⟩
            rw [hY]
            have HY := Lib.hid hY
            clear hY
            by_cases hgo : t < M ∧ Y = false
            · obtain ⟨htl, rfl⟩ := hgo
              have i2 : (t : Int) < (M : Int) := by omega
              obtain ⟨p, hp⟩ : ∃ p, a.pr[t]? = some p := ⟨a.pr[t]'(by rw [H.out.2.2.2.2.2.1]; exact htl), List.getElem?_eq_getElem _⟩
              obtain ⟨bp, op, rfl, hbp, hcp⟩ := HK.out.2.1.r (by rintro e'; rw [e'] at hp; simp at hp)
              obtain ⟨g0, g1⟩ := hcp t p hp
              have HP := Lib.hid (any_take1 (pairR xs ((j + 1 : Nat) : Int)) hp)
              clear hp hcp
              obtain ⟨p1, p2⟩ := p
              simp only at g0 g1
              by_cases heq : p2 = (j : Int) + 1
              · have hq : (p2 == (j : Int) + 1) = true := by simpa using heq
                obtain ⟨Z1, hZ1⟩ : ∃ z, decide (p1 ∈ xs) = z := ⟨_, rfl⟩
                have CP := CI.out p1
                rw [hZ1] at CP
                have CP := Lib.hid CP
                have HN2 := Lib.hid (show (F0 || (a.pr.take (t + 1)).any (pairR xs ((j + 1 : Nat) : Int))) = Z1 by
                  rw [HP.out, ← Bool.or_assoc, HY.out]
                  have : pairR xs ((j + 1 : Nat) : Int) (p1, p2) = Z1 := by
                    unfold pairR
                    rw [← hZ1]
                    have e1 : (p2 == ((j + 1 : Nat) : Int)) = true := by rw [heq]; simp
                    simp only [e1, Bool.true_and]
                  rw [this]; rfl)
                clear hZ1 heq
                go_wp2_with fail
                refine CP.out.mono ?_
                rintro r wq ⟨rfl, e20⟩
                obtain rfl := e20.symm
                go_wp2_with fail
                go_roundw
                case rel => exact ⟨t + 1, by go_num, by omega, by rw [HN2.out], trivial⟩
                case measure => simp [RowKit.intOf]; omega
              · have hq : (p2 == (j : Int) + 1) = false := by simpa using heq
                have HN2 := Lib.hid (show (F0 || (a.pr.take (t + 1)).any (pairR xs ((j + 1 : Nat) : Int))) = false by
                  rw [HP.out, ← Bool.or_assoc, HY.out]
                  have : pairR xs ((j + 1 : Nat) : Int) (p1, p2) = false := by
                    unfold pairR
                    have e1 : (p2 == ((j + 1 : Nat) : Int)) = false := by simp; omega
                    simp only [e1, Bool.false_and]
                  rw [this]; rfl)
                clear heq
                go_wp2_with fail
                go_roundw
                case rel => exact ⟨t + 1, by go_num, by omega, by rw [HN2.out], trivial⟩
                case measure => simp [RowKit.intOf]; omega
            · have hYM : Y = MAY := by
                rw [← HY.out, ← HK.out.2.2.1]
                unfold mayR
                rw [HK.out.2.2.2.1]
                by_cases e : t < M
                · have hYt : Y = true := by
                    cases hy : Y with
                    | true => rfl
                    | false => exact absurd ⟨e, hy⟩ hgo
                  have h1 := HY.out
                  rw [hYt] at h1
                  rw [h1]
                  rw [Bool.or_eq_true] at h1
                  rcases h1 with h1 | h1
                  · rw [h1]; rfl
                  · rw [any_more h1]; simp
                · have e2 : a.pr.take t = a.pr := List.take_of_length_le (by rw [H.out.2.2.2.2.2.1]; omega)
                  rw [e2]
              subst hYM
              have hcase : Y = true ∨ (Y = false ∧ ¬ (t : Int) < (M : Int)) := by
                cases hy : Y with
                | true => exact .inl rfl
                | false => exact .inr ⟨rfl, fun e => hgo ⟨by omega, hy⟩⟩
              clear hgo
              rcases hcase with rfl | ⟨rfl, i2⟩
              · -- taken?
                obtain ⟨TK, hTK⟩ : ∃ z, takesI e.k e.c m = z := ⟨_, rfl⟩
                have CT1 := CT.out
                rw [hTK] at CT1
                have CT1 := Lib.hid CT1
                have HT := Lib.hid (show stepF a xs m (j + 1) = stepF a xs m j ++ (if TK then [((j + 1 : Nat) : Int)] else []) by
                  rw [← hTK, ← HK.out.2.2.2.2.1]
                  show stepF a xs m j ++ (if mayR a xs ((j + 1 : Nat) : Int) && takesAt a j m then _ else _) = _
                  rw [HK.out.2.2.1, Bool.true_and])
                clear hTK
                by_cases htM : t < M
                · have i2 : (t : Int) < (M : Int) := by omega
                  go_wp2_with fail
                  refine CT1.out.mono ?_
                  rintro r w2 ⟨rfl, hb2⟩
                  have hbw := HK.out.1.1.trans (hb2.mono HK.out.1.1.size)
                  have ho2 := OwnI.below HK.out.1.2 hb2
                  have H2 := Lib.hid (And.intro hbw ho2)
                  clear hb2 hbw ho2
                  cases TK with
                  | true =>
                    have isk : IS (w2.alloc (.cells #[.int .i64 ((j : Int) + 1)] 3)) (w2.alloc (.cells #[.int .i64 ((j : Int) + 1)] 3)).heap.size [(j : Int) + 1] (some ⟨w2.heap.size, 0, none⟩) 1 :=
                      ⟨by simp, by unfold maxLen; omega, fun x hx => by simp at hx; subst hx; unfold i64; omega, fun _ => ⟨_, 0, rfl, by simp, fun i x hx => by
                        cases i with
                        | zero => simp at hx; subst hx; rw [World.cell?_alloc_new]; rfl
                        | succ i => simp at hx⟩⟩
                    have HI := Lib.hid (And.intro isk (And.intro (OwnI.below H2.out.2 (below_new w2 (.cells #[.int .i64 ((j : Int) + 1)] 3))) (below_new w2 (.cells #[.int .i64 ((j : Int) + 1)] 3))))
                    clear isk
                    go_wp2_with (first
                      | (at_builtin; refine wpList_append_is rfl (.tmp 83) (.tmp 85) rfl w.heap.size _ (stepF a xs m j) rfl HI.out.2.1 [(j : Int) + 1] (some ⟨w2.heap.size, 0, none⟩) 1 rfl HI.out.1 (fun e' => by cases e') (by have := stepF_len a xs m j; simp; omega) (by have := H2.out.1.size; simp; omega) ?_
                         intro v8 w8 ho8 hg8
                         have hb8 := (H2.out.1.alloc (by exact H2.out.1.size) (.cells #[.int .i64 ((j : Int) + 1)] 3)).grown hg8 (by have := H2.out.1.size; simp; omega) (fun k hk => (HI.out.2.1.lt k hk).1)
                         have H8 := Lib.hid (And.intro ho8 hb8)
                         clear ho8 hg8 hb8)
                      | fail)
                    go_roundw
                    case rel => exact ⟨j + 1, by go_num, by omega, H8.out.2, by rw [HT.out]; exact H8.out.1⟩
                    case measure => simp [RowKit.intOf]; omega
                  | false =>
                    go_wp2_with fail
                    go_roundw
                    case rel => exact ⟨j + 1, by go_num, by omega, H2.out.1, by rw [HT.out]; simpa using H2.out.2⟩
                    case measure => simp [RowKit.intOf]; omega
                · have i2 : ¬ (t : Int) < (M : Int) := by omega
                  go_wp2_with fail
                  refine CT1.out.mono ?_
                  rintro r w2 ⟨rfl, hb2⟩
                  have hbw := HK.out.1.1.trans (hb2.mono HK.out.1.1.size)
                  have ho2 := OwnI.below HK.out.1.2 hb2
                  have H2 := Lib.hid (And.intro hbw ho2)
                  clear hb2 hbw ho2
                  cases TK with
                  | true =>
                    have isk : IS (w2.alloc (.cells #[.int .i64 ((j : Int) + 1)] 3)) (w2.alloc (.cells #[.int .i64 ((j : Int) + 1)] 3)).heap.size [(j : Int) + 1] (some ⟨w2.heap.size, 0, none⟩) 1 :=
                      ⟨by simp, by unfold maxLen; omega, fun x hx => by simp at hx; subst hx; unfold i64; omega, fun _ => ⟨_, 0, rfl, by simp, fun i x hx => by
                        cases i with
                        | zero => simp at hx; subst hx; rw [World.cell?_alloc_new]; rfl
                        | succ i => simp at hx⟩⟩
                    have HI := Lib.hid (And.intro isk (And.intro (OwnI.below H2.out.2 (below_new w2 (.cells #[.int .i64 ((j : Int) + 1)] 3))) (below_new w2 (.cells #[.int .i64 ((j : Int) + 1)] 3))))
                    clear isk
                    go_wp2_with (first
                      | (at_builtin; refine wpList_append_is rfl (.tmp 83) (.tmp 85) rfl w.heap.size _ (stepF a xs m j) rfl HI.out.2.1 [(j : Int) + 1] (some ⟨w2.heap.size, 0, none⟩) 1 rfl HI.out.1 (fun e' => by cases e') (by have := stepF_len a xs m j; simp; omega) (by have := H2.out.1.size; simp; omega) ?_
                         intro v8 w8 ho8 hg8
                         have hb8 := (H2.out.1.alloc (by exact H2.out.1.size) (.cells #[.int .i64 ((j : Int) + 1)] 3)).grown hg8 (by have := H2.out.1.size; simp; omega) (fun k hk => (HI.out.2.1.lt k hk).1)
                         have H8 := Lib.hid (And.intro ho8 hb8)
                         clear ho8 hg8 hb8)
                      | fail)
                    go_roundw
                    case rel => exact ⟨j + 1, by go_num, by omega, H8.out.2, by rw [HT.out]; exact H8.out.1⟩
                    case measure => simp [RowKit.intOf]; omega
                  | false =>
                    go_wp2_with fail
                    go_roundw
                    case rel => exact ⟨j + 1, by go_num, by omega, H2.out.1, by rw [HT.out]; simpa using H2.out.2⟩
                    case measure => simp [RowKit.intOf]; omega
              · have HT := Lib.hid (show stepF a xs m (j + 1) = stepF a xs m j by
                  show stepF a xs m j ++ (if mayR a xs ((j + 1 : Nat) : Int) && takesAt a j m then _ else _) = _
                  rw [HK.out.2.2.1, Bool.false_and]; simp)
                go_wp2_with fail
                go_roundw
                case rel => exact ⟨j + 1, by go_num, by omega, HK.out.1.1, by rw [HT.out]; exact HK.out.1.2⟩
                case measure => simp [RowKit.intOf]; omega
        | false =>
          obtain rfl : F0 = false := by rw [HF]; rfl
          clear HF
          go_wp2_with fail
          refine CI0.out.mono ?_
          rintro r wq ⟨rfl, e20⟩
          obtain rfl := e20.symm
          go_wp2_with fail
          go_loopw [9, 10] (fun y i wi => ∃ t : Nat, i = .int .i64 (t : Int) ∧ t ≤ M ∧ y = .bool (false || (a.pr.take t).any (pairR xs ((j + 1 : Nat) : Int))) ∧ wi = wo) (fun _ i _ => M - (RowKit.intOf i).toNat)
          case atStart => exact ⟨0, rfl, by omega, by simp, rfl⟩
          case round =>
            obtain ⟨t, rfl, ht, rfl, rfl⟩ := hrel
            obtain ⟨Y, hY⟩ : ∃ y, (false || (a.pr.take t).any (pairR xs ((j + 1 : Nat) : Int))) = y := ⟨_, rfl⟩
            rw [hY]
            have HY := Lib.hid hY
            clear hY
            by_cases hgo : t < M ∧ Y = false
            · obtain ⟨htl, rfl⟩ := hgo
              have i2 : (t : Int) < (M : Int) := by omega
              obtain ⟨p, hp⟩ : ∃ p, a.pr[t]? = some p := ⟨a.pr[t]'(by rw [H.out.2.2.2.2.2.1]; exact htl), List.getElem?_eq_getElem _⟩
              obtain ⟨bp, op, rfl, hbp, hcp⟩ := HK.out.2.1.r (by rintro e'; rw [e'] at hp; simp at hp)
              obtain ⟨g0, g1⟩ := hcp t p hp
              have HP := Lib.hid (any_take1 (pairR xs ((j + 1 : Nat) : Int)) hp)
              clear hp hcp
              obtain ⟨p1, p2⟩ := p
              simp only at g0 g1
              by_cases heq : p2 = (j : Int) + 1
              · have hq : (p2 == (j : Int) + 1) = true := by simpa using heq
                obtain ⟨Z1, hZ1⟩ : ∃ z, decide (p1 ∈ xs) = z := ⟨_, rfl⟩
                have CP := CI.out p1
                rw [hZ1] at CP
                have CP := Lib.hid CP
                have HN2 := Lib.hid (show (false || (a.pr.take (t + 1)).any (pairR xs ((j + 1 : Nat) : Int))) = Z1 by
                  rw [HP.out, ← Bool.or_assoc, HY.out]
                  have : pairR xs ((j + 1 : Nat) : Int) (p1, p2) = Z1 := by
                    unfold pairR
                    rw [← hZ1]
                    have e1 : (p2 == ((j + 1 : Nat) : Int)) = true := by rw [heq]; simp
                    simp only [e1, Bool.true_and]
                  rw [this]; rfl)
                clear hZ1 heq
                go_wp2_with fail
                refine CP.out.mono ?_
                rintro r wq ⟨rfl, e20⟩
                obtain rfl := e20.symm
                go_wp2_with fail
                go_roundw
                case rel => exact ⟨t + 1, by go_num, by omega, by rw [HN2.out], trivial⟩
                case measure => simp [RowKit.intOf]; omega
              · have hq : (p2 == (j : Int) + 1) = false := by simpa using heq
                have HN2 := Lib.hid (show (false || (a.pr.take (t + 1)).any (pairR xs ((j + 1 : Nat) : Int))) = false by
                  rw [HP.out, ← Bool.or_assoc, HY.out]
                  have : pairR xs ((j + 1 : Nat) : Int) (p1, p2) = false := by
                    unfold pairR
                    have e1 : (p2 == ((j + 1 : Nat) : Int)) = false := by simp; omega
                    simp only [e1, Bool.false_and]
                  rw [this]; rfl)
                clear heq
                go_wp2_with fail
                go_roundw
                case rel => exact ⟨t + 1, by go_num, by omega, by rw [HN2.out], trivial⟩
                case measure => simp [RowKit.intOf]; omega
            · have hYM : Y = MAY := by
                rw [← HY.out, ← HK.out.2.2.1]
                unfold mayR
                rw [HK.out.2.2.2.1]
                by_cases e : t < M
                · have hYt : Y = true := by
                    cases hy : Y with
                    | true => rfl
                    | false => exact absurd ⟨e, hy⟩ hgo
                  have h1 := HY.out
                  rw [hYt] at h1
                  rw [h1]
                  rw [Bool.or_eq_true] at h1
                  rcases h1 with h1 | h1
                  · rw [h1]; rfl
                  · rw [any_more h1]; simp
                · have e2 : a.pr.take t = a.pr := List.take_of_length_le (by rw [H.out.2.2.2.2.2.1]; omega)
                  rw [e2]
              subst hYM
              have hcase : Y = true ∨ (Y = false ∧ ¬ (t : Int) < (M : Int)) := by
                cases hy : Y with
                | true => exact .inl rfl
                | false => exact .inr ⟨rfl, fun e => hgo ⟨by omega, hy⟩⟩
              clear hgo
              rcases hcase with rfl | ⟨rfl, i2⟩
              · -- taken?
                obtain ⟨TK, hTK⟩ : ∃ z, takesI e.k e.c m = z := ⟨_, rfl⟩
                have CT1 := CT.out
                rw [hTK] at CT1
                have CT1 := Lib.hid CT1
                have HT := Lib.hid (show stepF a xs m (j + 1) = stepF a xs m j ++ (if TK then [((j + 1 : Nat) : Int)] else []) by
                  rw [← hTK, ← HK.out.2.2.2.2.1]
                  show stepF a xs m j ++ (if mayR a xs ((j + 1 : Nat) : Int) && takesAt a j m then _ else _) = _
                  rw [HK.out.2.2.1, Bool.true_and])
                clear hTK
                by_cases htM : t < M
                · have i2 : (t : Int) < (M : Int) := by omega
                  go_wp2_with fail
                  refine CT1.out.mono ?_
                  rintro r w2 ⟨rfl, hb2⟩
                  have hbw := HK.out.1.1.trans (hb2.mono HK.out.1.1.size)
                  have ho2 := OwnI.below HK.out.1.2 hb2
                  have H2 := Lib.hid (And.intro hbw ho2)
                  clear hb2 hbw ho2
                  cases TK with
                  | true =>
                    have isk : IS (w2.alloc (.cells #[.int .i64 ((j : Int) + 1)] 3)) (w2.alloc (.cells #[.int .i64 ((j : Int) + 1)] 3)).heap.size [(j : Int) + 1] (some ⟨w2.heap.size, 0, none⟩) 1 :=
                      ⟨by simp, by unfold maxLen; omega, fun x hx => by simp at hx; subst hx; unfold i64; omega, fun _ => ⟨_, 0, rfl, by simp, fun i x hx => by
                        cases i with
                        | zero => simp at hx; subst hx; rw [World.cell?_alloc_new]; rfl
                        | succ i => simp at hx⟩⟩
                    have HI := Lib.hid (And.intro isk (And.intro (OwnI.below H2.out.2 (below_new w2 (.cells #[.int .i64 ((j : Int) + 1)] 3))) (below_new w2 (.cells #[.int .i64 ((j : Int) + 1)] 3))))
                    clear isk
                    go_wp2_with (first
                      | (at_builtin; refine wpList_append_is rfl (.tmp 83) (.tmp 85) rfl w.heap.size _ (stepF a xs m j) rfl HI.out.2.1 [(j : Int) + 1] (some ⟨w2.heap.size, 0, none⟩) 1 rfl HI.out.1 (fun e' => by cases e') (by have := stepF_len a xs m j; simp; omega) (by have := H2.out.1.size; simp; omega) ?_
                         intro v8 w8 ho8 hg8
                         have hb8 := (H2.out.1.alloc (by exact H2.out.1.size) (.cells #[.int .i64 ((j : Int) + 1)] 3)).grown hg8 (by have := H2.out.1.size; simp; omega) (fun k hk => (HI.out.2.1.lt k hk).1)
                         have H8 := Lib.hid (And.intro ho8 hb8)
                         clear ho8 hg8 hb8)
                      | fail)
                    go_roundw
                    case rel => exact ⟨j + 1, by go_num, by omega, H8.out.2, by rw [HT.out]; exact H8.out.1⟩
                    case measure => simp [RowKit.intOf]; omega
                  | false =>
                    go_wp2_with fail
                    go_roundw
                    case rel => exact ⟨j + 1, by go_num, by omega, H2.out.1, by rw [HT.out]; simpa using H2.out.2⟩
                    case measure => simp [RowKit.intOf]; omega
                · have i2 : ¬ (t : Int) < (M : Int) := by omega
                  go_wp2_with fail
                  refine CT1.out.mono ?_
                  rintro r w2 ⟨rfl, hb2⟩
                  have hbw := HK.out.1.1.trans (hb2.mono HK.out.1.1.size)
                  have ho2 := OwnI.below HK.out.1.2 hb2
                  have H2 := Lib.hid (And.intro hbw ho2)
                  clear hb2 hbw ho2
                  cases TK with
                  | true =>
                    have isk : IS (w2.alloc (.cells #[.int .i64 ((j : Int) + 1)] 3)) (w2.alloc (.cells #[.int .i64 ((j : Int) + 1)] 3)).heap.size [(j : Int) + 1] (some ⟨w2.heap.size, 0, none⟩) 1 :=
                      ⟨by simp, by unfold maxLen; omega, fun x hx => by simp at hx; subst hx; unfold i64; omega, fun _ => ⟨_, 0, rfl, by simp, fun i x hx => by
                        cases i with
                        | zero => simp at hx; subst hx; rw [World.cell?_alloc_new]; rfl
                        | succ i => simp at hx⟩⟩
                    have HI := Lib.hid (And.intro isk (And.intro (OwnI.below H2.out.2 (below_new w2 (.cells #[.int .i64 ((j : Int) + 1)] 3))) (below_new w2 (.cells #[.int .i64 ((j : Int) + 1)] 3))))
                    clear isk
                    go_wp2_with (first
                      | (at_builtin; refine wpList_append_is rfl (.tmp 83) (.tmp 85) rfl w.heap.size _ (stepF a xs m j) rfl HI.out.2.1 [(j : Int) + 1] (some ⟨w2.heap.size, 0, none⟩) 1 rfl HI.out.1 (fun e' => by cases e') (by have := stepF_len a xs m j; simp; omega) (by have := H2.out.1.size; simp; omega) ?_
                         intro v8 w8 ho8 hg8
                         have hb8 := (H2.out.1.alloc (by exact H2.out.1.size) (.cells #[.int .i64 ((j : Int) + 1)] 3)).grown hg8 (by have := H2.out.1.size; simp; omega) (fun k hk => (HI.out.2.1.lt k hk).1)
                         have H8 := Lib.hid (And.intro ho8 hb8)
                         clear ho8 hg8 hb8)
                      | fail)
                    go_roundw
                    case rel => exact ⟨j + 1, by go_num, by omega, H8.out.2, by rw [HT.out]; exact H8.out.1⟩
                    case measure => simp [RowKit.intOf]; omega
                  | false =>
                    go_wp2_with fail
                    go_roundw
                    case rel => exact ⟨j + 1, by go_num, by omega, H2.out.1, by rw [HT.out]; simpa using H2.out.2⟩
                    case measure => simp [RowKit.intOf]; omega
              · have HT := Lib.hid (show stepF a xs m (j + 1) = stepF a xs m j by
                  show stepF a xs m j ++ (if mayR a xs ((j + 1 : Nat) : Int) && takesAt a j m then _ else _) = _
                  rw [HK.out.2.2.1, Bool.false_and]; simp)
                go_wp2_with fail
                go_roundw
                case rel => exact ⟨j + 1, by go_num, by omega, HK.out.1.1, by rw [HT.out]; exact HK.out.1.2⟩
                case measure => simp [RowKit.intOf]; omega
      · obtain rfl : j = N := by omega
        have i1 : ¬ (j : Int) + 1 ≤ (j : Int) := by omega
        have HO := Lib.hid (And.intro hb ho)
        clear hb ho a1 k1
        go_wp2_with fail
        go_ret
        exact ⟨_, rfl, by unfold stepR; rw [H.out.2.2.2.1]; exact HO.out.2, HO.out.1⟩
end Go.Proofs.YtmldgfplnacecaaDoor

