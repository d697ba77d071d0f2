/-
  Laws for the walk: look-ups and stores in the three maps of an automaton; a list of places.
-/
import Derived.Test.YtlbcicoppglgjaaDoorNf
namespace Go.Proofs.YtlbcicoppglgjaaDoor
open Go.RowKit Go.Shelf Go.Lib Go.Great Go.Maps

theorem nat64 {p : Nat} (h : p < 9223372036854775808) : i64 (p : Int) := by unfold i64; omega
theorem wpList_lookN {ops : Array Oper} {rest : List Oper} {o : Oper} {a : Act} {w : World} {Q : Exit → Act → World → Prop} (hg : o.guard = none) (m x : Operand) (hop : o.op = Op.lookup 57 m x false)
    {q : Np} {n : Nat} {se : Bool} {s : St} (h : NfaAt w q n se s) (k : Int) (hk : i64 k) (X : Nat) (hX : (if 0 ≤ k then s.next k.toNat else 0) = X)
    (hm : a.eval m = .map (some q.nx)) (hx : a.eval x = .int .i64 k)
    (hK : wpList Tryd.prog ops Q rest (a.put o.dst (.agg (plL X).toArray)) w) : wpList Tryd.prog ops Q (o :: rest) a w := by
  subst hX
  exact wpList_lookupF hg m x 57 70 hop Tryd.underlying57 q.nx n (plV 0) _ h.mN (zero70 w) k hk hm hx hK
theorem wpList_lookT {ops : Array Oper} {rest : List Oper} {o : Oper} {a : Act} {w : World} {Q : Exit → Act → World → Prop} (hg : o.guard = none) (m x : Operand) (hop : o.op = Op.lookup 57 m x false)
    {q : Np} {n : Nat} {se : Bool} {s : St} (h : NfaAt w q n se s) (k : Int) (hk : i64 k) (X : Nat) (hX : takersI s k = X)
    (hm : a.eval m = .map (some q.tk)) (hx : a.eval x = .int .i64 k)
    (hK : wpList Tryd.prog ops Q rest (a.put o.dst (.agg (plL X).toArray)) w) : wpList Tryd.prog ops Q (o :: rest) a w := by
  subst hX
  exact wpList_lookupF hg m x 57 70 hop Tryd.underlying57 q.tk n (plV 0) _ h.mT (zero70 w) k hk hm hx hK
theorem wpList_lookL {ops : Array Oper} {rest : List Oper} {o : Oper} {a : Act} {w : World} {Q : Exit → Act → World → Prop} (hg : o.guard = none) (m x : Operand) (hop : o.op = Op.lookup 58 m x false)
    {q : Np} {n : Nat} {se : Bool} {s : St} (h : NfaAt w q n se s) (k : Int) (hk : i64 k) (X : Nat) (hX : (if 0 ≤ k then s.tells k.toNat else 0) = X)
    (hm : a.eval m = .map (some q.tl)) (hx : a.eval x = .int .i64 k)
    (hK : wpList Tryd.prog ops Q rest (a.put o.dst (.int .u64 (X : Int))) w) : wpList Tryd.prog ops Q (o :: rest) a w := by
  subst hX
  exact wpList_lookupF hg m x 58 37 hop Tryd.underlying58 q.tl n (.int .u64 0) _ h.mL (zero37 w) k hk hm hx hK
/-- One place's followers are set anew. -/
def St.setN (s : St) (p X : Nat) : St := { s with next := fun r => if r = p then X else s.next r }
def St.setT (s : St) (p X : Nat) : St := { s with takers := fun r => if r = p then X else s.takers r }
def St.setL (s : St) (p X : Nat) : St := { s with tells := fun r => if r = p then X else s.tells r }
theorem wpList_updN {ops : Array Oper} {rest : List Oper} {o : Oper} {a : Act} {w : World} {Q : Exit → Act → World → Prop} (hg : o.guard = none) (m x y : Operand) (hop : o.op = Op.mapUpdate 57 m x y)
    {q : Np} {n B : Nat} {se : Bool} {s : St} (h : NfaAt w q n se s) (hq : q.Ok B) (hn : n < maxLen) (p : Nat) (hp : p < 9223372036854775808) (X : Nat)
    (hm : a.eval m = .map (some q.nx)) (hx : a.eval x = .int .i64 (p : Int)) (hy : a.eval y = .agg (plL X).toArray)
    (hK : ∀ w', NfaAt w' q (n + 1) se (s.setN p X) → w.grownBy w' (some q.nx) → wpList Tryd.prog ops Q rest (a.put o.dst undef) w') : wpList Tryd.prog ops Q (o :: rest) a w := by
  refine wpList_updateF hg m x y 57 70 hop Tryd.underlying57 q.nx n (plV 0) _ h.mN hn (p : Int) (nat64 hp) (plV X) hm hx hy fun w' h1 h2 => hK w' ?_ h2
  have hb := fun k (hk : k < w.heap.size) (hne : k ≠ q.nx) => h2.block k hk (fun e => hne (by injection e))
  have h0 := hb q.b (cell_lt h.c0) hq.d1
  have c := fun j => World.cell?_of_block (w := w) (w' := w') (a := ⟨q.b, j, none⟩) h0
  refine ⟨(c 0).trans h.c0, (c 1).trans h.c1, (c 2).trans h.c2, (c 3).trans h.c3, (c 4).trans h.c4, (World.frozen?_of_block (w := w) (w' := w') (a := ⟨q.b, 1, none⟩) h0).trans h.f1,
    h1.congr fun k => ?_, (h.mT.block (hb _ h.mT.lt (Ne.symm hq.d4))).mono (by omega), (h.mL.block (hb _ h.mL.lt (Ne.symm hq.d5))).mono (by omega), h.t⟩
  dsimp only [St.setN]
  by_cases e : k = (p : Int)
  · subst e; simp
  · rw [if_neg e]
    by_cases h0 : 0 ≤ k
    · rw [if_pos h0, if_pos h0, if_neg (by omega)]
    · rw [if_neg h0, if_neg h0]
theorem wpList_updT {ops : Array Oper} {rest : List Oper} {o : Oper} {a : Act} {w : World} {Q : Exit → Act → World → Prop} (hg : o.guard = none) (m x y : Operand) (hop : o.op = Op.mapUpdate 57 m x y)
    {q : Np} {n B : Nat} {se : Bool} {s : St} (h : NfaAt w q n se s) (hq : q.Ok B) (hn : n < maxLen) (p : Nat) (hp : p < 9223372036854775808) (X : Nat)
    (hm : a.eval m = .map (some q.tk)) (hx : a.eval x = .int .i64 (p : Int)) (hy : a.eval y = .agg (plL X).toArray)
    (hK : ∀ w', NfaAt w' q (n + 1) se (s.setT p X) → w.grownBy w' (some q.tk) → wpList Tryd.prog ops Q rest (a.put o.dst undef) w') : wpList Tryd.prog ops Q (o :: rest) a w := by
  refine wpList_updateF hg m x y 57 70 hop Tryd.underlying57 q.tk n (plV 0) _ h.mT hn (p : Int) (nat64 hp) (plV X) hm hx hy fun w' h1 h2 => hK w' ?_ h2
  have hb := fun k (hk : k < w.heap.size) (hne : k ≠ q.tk) => h2.block k hk (fun e => hne (by injection e))
  have h0 := hb q.b (cell_lt h.c0) hq.d2
  have c := fun j => World.cell?_of_block (w := w) (w' := w') (a := ⟨q.b, j, none⟩) h0
  refine ⟨(c 0).trans h.c0, (c 1).trans h.c1, (c 2).trans h.c2, (c 3).trans h.c3, (c 4).trans h.c4, (World.frozen?_of_block (w := w) (w' := w') (a := ⟨q.b, 1, none⟩) h0).trans h.f1,
    (h.mN.block (hb _ h.mN.lt hq.d4)).mono (by omega), h1.congr fun k => ?_, (h.mL.block (hb _ h.mL.lt (Ne.symm hq.d6))).mono (by omega), h.t⟩
  dsimp only [St.setT, takersI]
  by_cases e : k = (p : Int)
  · subst e; simp
  · rw [if_neg e]
    by_cases h0 : 0 ≤ k
    · rw [if_pos h0, if_pos h0, if_neg (by omega)]
    · rw [if_neg h0, if_neg h0]
theorem wpList_updL {ops : Array Oper} {rest : List Oper} {o : Oper} {a : Act} {w : World} {Q : Exit → Act → World → Prop} (hg : o.guard = none) (m x y : Operand) (hop : o.op = Op.mapUpdate 58 m x y)
    {q : Np} {n B : Nat} {se : Bool} {s : St} (h : NfaAt w q n se s) (hq : q.Ok B) (hn : n < maxLen) (p : Nat) (hp : p < 9223372036854775808) (X : Nat) (hX : X < 18446744073709551616) (Y : Int) (hY : Y = (X : Int))
    (hm : a.eval m = .map (some q.tl)) (hx : a.eval x = .int .i64 (p : Int)) (hy : a.eval y = .int .u64 Y)
    (hK : ∀ w', NfaAt w' q (n + 1) se (s.setL p X) → w.grownBy w' (some q.tl) → wpList Tryd.prog ops Q rest (a.put o.dst undef) w') : wpList Tryd.prog ops Q (o :: rest) a w := by
  subst hY
  refine wpList_updateF hg m x y 58 37 hop Tryd.underlying58 q.tl n (.int .u64 0) _ h.mL hn (p : Int) (nat64 hp) (.int .u64 (X : Int)) hm hx hy fun w' h1 h2 => hK w' ?_ h2
  have hb := fun k (hk : k < w.heap.size) (hne : k ≠ q.tl) => h2.block k hk (fun e => hne (by injection e))
  have h0 := hb q.b (cell_lt h.c0) hq.d3
  have c := fun j => World.cell?_of_block (w := w) (w' := w') (a := ⟨q.b, j, none⟩) h0
  refine ⟨(c 0).trans h.c0, (c 1).trans h.c1, (c 2).trans h.c2, (c 3).trans h.c3, (c 4).trans h.c4, (World.frozen?_of_block (w := w) (w' := w') (a := ⟨q.b, 1, none⟩) h0).trans h.f1,
    (h.mN.block (hb _ h.mN.lt hq.d5)).mono (by omega), (h.mT.block (hb _ h.mT.lt hq.d6)).mono (by omega), h1.congr fun k => ?_, fun r => ?_⟩
  · dsimp only [St.setL]
    by_cases e : k = (p : Int)
    · subst e; simp
    · rw [if_neg e]
      by_cases h0 : 0 ≤ k
      · rw [if_pos h0, if_pos h0, if_neg (by omega)]
      · rw [if_neg h0, if_neg h0]
  · dsimp only [St.setL]
    split
    · exact hX
    · exact h.t r
/-- A list of places, as a slice: where it lies. -/
theorem OwnP.form {w : World} {base : Nat} {l : List Nat} {v : Value} (h : OwnP w base l v) : ∃ A cap, v = .slice A l.length cap ∧ l.length ≤ cap ∧ cap ≤ maxLen ∧ (l ≠ [] → ∃ g, A = some ⟨g, 0, none⟩ ∧ base ≤ g ∧ g < w.heap.size ∧ ∀ (i p : Nat), l[i]? = some p → w.cell? ⟨g, i, none⟩ = some (.int .i64 (p : Int))) := by
  rcases h.2 with ⟨h1, h2⟩ | ⟨g, cap, cur, h1, h2, h3, h4, h5, h6, h7⟩
  · have hl : l = [] := List.eq_nil_of_length_eq_zero h2
    subst hl
    exact ⟨none, 0, h1, by simp, by simp, fun hn => absurd rfl hn⟩
  · refine ⟨_, cap, h1, h4, h5, fun _ => ⟨g, rfl, h2, (Array.getElem?_eq_some_iff.1 h3).1, fun i p hp => ?_⟩⟩
    have hc := World.ownsRow.cells h (g := g) (by rw [h1]; rfl) i (.int .i64 (p : Int)) (by simp [cellsP, hp])
    rwa [add0] at hc
theorem plAt_box (w : World) (m : Nat) : PlAt (w.alloc (.cells (plL m).toArray 70)) w.heap.size 0 m := fun i hi => by
  constructor
  · rw [World.cell?_alloc_new]
    simpa using plL_get m i hi
  · exact World.frozen?_alloc_new _ _ _ _
end Go.Proofs.YtlbcicoppglgjaaDoor
