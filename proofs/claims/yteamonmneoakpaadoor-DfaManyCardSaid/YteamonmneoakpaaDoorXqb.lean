/-
  An automaton in memory: a struct of five cells and three maps; what a call may turn of it; a map as a function of its keys.
  Laws for the walk: look-ups and stores in the three maps of an automaton; a list of places.
  Contracts: (*NFA).link.
  A span in memory: two sets and a truth value; laws for the walk.
  Contracts: expr.isClass, Node.isShaped.
  Contracts: expr.Node.isShaped.
  A function that is yielded to node by node, and what it comes to; what one block's turning leaves of an expression; the function that Right yields to.
-/
import Derived.Test.YteamonmneoakpaaDoorXqa
import Derived.Maps.OwnOps
import Derived.Maps.OwnSet
import Derived.Maps.Views
import Derived.StillTailTactics
import Derived.IntWalk
namespace Go.Proofs.YteamonmneoakpaaDoor
open Go.RowKit Go.Shelf Go.Lib Go.Great Go.Maps

/-- An element as it stands. -/
def hR (v : Value) : Option (DataW Value × List MemPlace) := some (.held v, [])
/-- A map of ints, as a function. -/
def MapF (w : World) (b n : Nat) (z : Value) (f : Int → Value) : Prop := ∃ D : DataW Value, w.ownsMap Tryd.prog 3 hR b n D ∧ ∀ k : Int, D.atKey (.int .i64 k) (.held z) = .held (f k)
theorem MapF.lt {w : World} {b n : Nat} {z : Value} {f : Int → Value} (h : MapF w b n z f) : b < w.heap.size := by obtain ⟨D, h, _⟩ := h; exact h.lt
theorem MapF.block {w w' : World} {b n : Nat} {z : Value} {f : Int → Value} (h : MapF w b n z f) (hb : w'.heap[b]? = w.heap[b]?) : MapF w' b n z f := by
  obtain ⟨D, ⟨es, clock, h1, h2, h3, h4⟩, hf⟩ := h
  exact ⟨D, ⟨es, clock, hb.trans h1, h2, h3, h4⟩, hf⟩
theorem MapF.congr {w : World} {b n : Nat} {z : Value} {f g : Int → Value} (h : MapF w b n z f) (hfg : ∀ k, f k = g k) : MapF w b n z g := by
  obtain ⟨D, h1, hf⟩ := h
  exact ⟨D, h1, fun k => by rw [hf, hfg]⟩
theorem MapF.mono {w : World} {b n n' : Nat} {z : Value} {f : Int → Value} (h : MapF w b n z f) (hn : n ≤ n') : MapF w b n' z f := by
  obtain ⟨D, h1, hf⟩ := h
  exact ⟨D, h1.mono hn, hf⟩
theorem MapF.made (w : World) (z : Value) : MapF (w.alloc (.map #[] 0)) w.heap.size 0 z (fun _ => z) := ⟨_, World.ownsMap_made _ _ _ _, fun _ => rfl⟩
theorem keyed3 : Keyed Tryd.prog 3 := int_keyed Tryd.underlying3
theorem wf64 {k : Int} (h : i64 k) : (Lit.int .i64 k).wf = true := by simpa [Lit.wf, IntKind.min, IntKind.max, IntKind.signed, IntKind.bits, i64] using h
theorem key64 {k : Int} (h : i64 k) : keyOf Tryd.prog 3 (.int .i64 k) = some (.int .i64 k) := keyOf_int_mk Tryd.underlying3 (wf64 h)
theorem MapF.lookup {w : World} {b n : Nat} {z : Value} {f : Int → Value} (h : MapF w b n z f) {t e : TypeId} (ht : Tryd.prog.underlying t = some (.map 3 e)) (hz : (zeroValue e).run Tryd.prog w = .ok z w) {k : Int} (hk : i64 k) :
    (Instr.lookup t (.map (some b)) (.int .i64 k) false).run Tryd.prog w = .ok (f k) w := by
  obtain ⟨D, h1, hf⟩ := h
  obtain ⟨v, ps, hrun, hv⟩ := h1.lookup keyed3 ht hz (zd := .held z) (zp := []) rfl (key64 hk)
  simp only [hR, Option.some.injEq, Prod.mk.injEq] at hv
  have e : v = f k := by have := hv.1.trans (hf k); injection this
  rw [hrun, e]
theorem MapF.update {w : World} {b n : Nat} {z : Value} {f : Int → Value} (h : MapF w b n z f) {t e : TypeId} (ht : Tryd.prog.underlying t = some (.map 3 e)) (hn : n < maxLen) {k : Int} (hk : i64 k) (v : Value) :
    ∃ w', (Instr.mapUpdate t (.map (some b)) (.int .i64 k) v).run Tryd.prog w = .ok () w' ∧ MapF w' b (n + 1) z (fun j => if j = k then v else f j) ∧ w.grownBy w' (some b) := by
  obtain ⟨D, h1, hf⟩ := h
  obtain ⟨w', hrun, h2, h3⟩ := h1.update keyed3 ht hn (key64 hk) (show hR v = some (.held v, []) from rfl)
  refine ⟨w', hrun, ⟨_, h2, fun j => ?_⟩, h3⟩
  dsimp only
  by_cases e : j = k
  · rw [if_pos e, e]
    exact atKey_put_same h1.isMap (show WideAt.IsKeyLit (.int .i64 k) from trivial) _ _
  · rw [if_neg e, atKey_put_other (by intro h; injection h with _ h; exact e h)]
    exact hf j
theorem wpList_lookupF {ops : Array Oper} {rest : List Oper} {o : Oper} {a : Act} {w : World} {Q : Exit → Act → World → Prop} (hg : o.guard = none) (m x : Operand) (t e : TypeId) (hop : o.op = Op.lookup t m x false)
    (ht : Tryd.prog.underlying t = some (.map 3 e)) (b n : Nat) (z : Value) (f : Int → Value) (h : MapF w b n z f) (hz : (zeroValue e).run Tryd.prog w = .ok z w) (k : Int) (hk : i64 k)
    (hm : a.eval m = .map (some b)) (hx : a.eval x = .int .i64 k)
    (hK : wpList Tryd.prog ops Q rest (a.put o.dst (f k)) w) : wpList Tryd.prog ops Q (o :: rest) a w := by
  refine wpList_plain hg fun K' hK' => ?_
  unfold Oper.wp
  simp [execOp, hop, hm, hx, h.lookup ht hz hk, Result.andThen]
  exact hK' _ _ hK
theorem wpList_updateF {ops : Array Oper} {rest : List Oper} {o : Oper} {a : Act} {w : World} {Q : Exit → Act → World → Prop} (hg : o.guard = none) (m x y : Operand) (t e : TypeId) (hop : o.op = Op.mapUpdate t m x y)
    (ht : Tryd.prog.underlying t = some (.map 3 e)) (b n : Nat) (z : Value) (f : Int → Value) (h : MapF w b n z f) (hn : n < maxLen) (k : Int) (hk : i64 k) (v : Value)
    (hm : a.eval m = .map (some b)) (hx : a.eval x = .int .i64 k) (hy : a.eval y = v)
    (hK : ∀ w', MapF w' b (n + 1) z (fun j => if j = k then v else f j) → w.grownBy w' (some b) → wpList Tryd.prog ops Q rest (a.put o.dst undef) w') : wpList Tryd.prog ops Q (o :: rest) a w := by
  refine wpList_plain hg fun K' hK' => ?_
  obtain ⟨w', hrun, r1, r2⟩ := h.update ht hn hk v
  unfold Oper.wp
  simp [execOp, hop, hm, hx, hy, hrun, Result.andThen]
  exact hK' _ _ (hK w' r1 r2)
theorem zero70 (w : World) : (zeroValue 88).run Tryd.prog w = .ok (.agg (plL 0).toArray) w := by rw [← Z70_eq]; kernel_rfl
theorem zero37 (w : World) : (zeroValue 37).run Tryd.prog w = .ok (.int .u64 0) w := by kernel_rfl

/-- The blocks of an automaton. -/
structure Np where
  b : Nat
  nx : Nat
  tk : Nat
  tl : Nat
def Np.In (q : Np) (k : Nat) : Prop := k = q.b ∨ k = q.nx ∨ k = q.tk ∨ k = q.tl
structure Np.Ok (q : Np) (B : Nat) : Prop where
  b : B ≤ q.b
  nx : B ≤ q.nx
  tk : B ≤ q.tk
  tl : B ≤ q.tl
  d1 : q.b ≠ q.nx
  d2 : q.b ≠ q.tk
  d3 : q.b ≠ q.tl
  d4 : q.nx ≠ q.tk
  d5 : q.nx ≠ q.tl
  d6 : q.tk ≠ q.tl
theorem Np.Ok.out {q : Np} {B k : Nat} (h : q.Ok B) (hk : k < B) : ¬ q.In k := by
  have := h.b; have := h.nx; have := h.tk; have := h.tl
  unfold Np.In; omega
/-- Of what was there only the automaton's own blocks may have turned. -/
structure Kp (q : Np) (w w' : World) : Prop where
  os : w'.os = w.os
  tape : w'.tape = w.tape
  output : w'.output = w.output
  size : w.heap.size ≤ w'.heap.size
  block : ∀ k, k < w.heap.size → ¬ q.In k → w'.heap[k]? = w.heap[k]?
theorem Kp.refl (q : Np) (w : World) : Kp q w w := ⟨rfl, rfl, rfl, Nat.le_refl _, fun _ _ _ => rfl⟩
theorem Kp.trans {q : Np} {a b c : World} (h : Kp q a b) (k : Kp q b c) : Kp q a c :=
  ⟨k.os.trans h.os, k.tape.trans h.tape, k.output.trans h.output, Nat.le_trans h.size k.size, fun i hi hn => (k.block i (Nat.lt_of_lt_of_le hi h.size) hn).trans (h.block i hi hn)⟩
theorem Kp.of_below {q : Np} {a b : World} (h : Below a.heap.size a b) : Kp q a b := ⟨h.os, h.tape, h.output, h.size, fun k hk _ => h.block k hk⟩
theorem Kp.below {q : Np} {a b c : World} (h : Kp q a b) (k : Below b.heap.size b c) : Kp q a c := h.trans (.of_below k)
theorem Kp.of_grown {q : Np} {a b : World} {x : Nat} (h : a.grownBy b (some x)) (hx : q.In x) : Kp q a b := ⟨h.os, h.tape, h.output, h.size, fun k hk hn => h.block k hk (fun e => hn (by injection e with e; rw [e]; exact hx))⟩
/-- .. or a block that was made since. -/
theorem Kp.grown {q : Np} {a b c : World} {x : Nat} (h : Kp q a b) (k : b.grownBy c (some x)) (hx : q.In x ∨ a.heap.size ≤ x) : Kp q a c :=
  ⟨k.os.trans h.os, k.tape.trans h.tape, k.output.trans h.output, Nat.le_trans h.size k.size, fun i hi hn => (k.block i (Nat.lt_of_lt_of_le hi h.size) (fun e => by
    injection e with e
    rcases hx with hx | hx
    · exact hn (by rw [e]; exact hx)
    · omega)).trans (h.block i hi hn)⟩
theorem Kp.alloc {q : Np} {a b : World} (h : Kp q a b) (o : Obj) : Kp q a (b.alloc o) := h.below (below_new b o)
theorem Kp.drew {q : Np} {a b : World} (h : Kp q a b) : Kp q a b.drew := h.trans ⟨rfl, rfl, rfl, Nat.le_refl _, fun _ _ _ => rfl⟩
/-- Below the automaton nothing has turned. -/
theorem Kp.under {q : Np} {B : Nat} {a b : World} (h : Kp q a b) (hq : q.Ok B) (hB : B ≤ a.heap.size) : Below B a b := ⟨h.os, h.tape, h.output, h.size, fun k hk => h.block k (by omega) (hq.out hk)⟩
theorem Kp.pl {q : Np} {a b : World} (h : Kp q a b) {g o m : Nat} (hg : ¬ q.In g) (hp : PlAt a g o m) : PlAt b g o m := hp.block (h.block g hp.lt hg)
theorem Kp.tz {q : Np} {a b : World} (h : Kp q a b) (hT : TZ a) (hq : ¬ q.In 0) : TZ b := hT.block (h.block 0 hT.lt hq)
def plV (m : Nat) : Value := .agg (plL m).toArray
/-- An automaton. -/
structure NfaAt (w : World) (q : Np) (n : Nat) (se : Bool) (s : St) : Prop where
  c0 : w.cell? ⟨q.b, 0, none⟩ = some (.bool se)
  c1 : w.cell? ⟨q.b, 1, none⟩ = some (.int .i64 (s.count : Int))
  c2 : w.cell? ⟨q.b, 2, none⟩ = some (.map (some q.nx))
  c3 : w.cell? ⟨q.b, 3, none⟩ = some (.map (some q.tk))
  c4 : w.cell? ⟨q.b, 4, none⟩ = some (.map (some q.tl))
  f1 : w.frozen? ⟨q.b, 1, none⟩ = false
  mN : MapF w q.nx n (plV 0) (fun p => plV (if 0 ≤ p then s.next p.toNat else 0))
  mT : MapF w q.tk n (plV 0) (fun p => plV (takersI s p))
  mL : MapF w q.tl n (.int .u64 0) (fun p => .int .u64 ((if 0 ≤ p then s.tells p.toNat else 0 : Nat) : Int))
  t : ∀ p, s.tells p < 18446744073709551616
theorem cell_lt {w : World} {a : Addr} {v : Value} (h : w.cell? a = some v) : a.block < w.heap.size := by
  unfold World.cell? at h
  cases hb : w.heap[a.block]? with
  | none => simp [hb] at h
  | some x => exact (Array.getElem?_eq_some_iff.1 hb).1
theorem NfaAt.blocks {w w' : World} {q : Np} {n : Nat} {se : Bool} {s : St} (h : NfaAt w q n se s) (hb : ∀ k, q.In k → w'.heap[k]? = w.heap[k]?) : NfaAt w' q n se s := by
  have h0 := hb q.b (.inl rfl)
  have c := fun j => World.cell?_of_block (w := w) (w' := w') (a := ⟨q.b, j, none⟩) h0
  exact ⟨(c 0).trans h.c0, (c 1).trans h.c1, (c 2).trans h.c2, (c 3).trans h.c3, (c 4).trans h.c4, (World.frozen?_of_block (w := w) (w' := w') (a := ⟨q.b, 1, none⟩) h0).trans h.f1,
    h.mN.block (hb _ (.inr (.inl rfl))), h.mT.block (hb _ (.inr (.inr (.inl rfl)))), h.mL.block (hb _ (.inr (.inr (.inr rfl)))), h.t⟩
theorem NfaAt.lt {w : World} {q : Np} {n : Nat} {se : Bool} {s : St} (h : NfaAt w q n se s) {k : Nat} (hk : q.In k) : k < w.heap.size := by
  rcases hk with rfl | rfl | rfl | rfl
  · exact cell_lt h.c0
  · exact h.mN.lt
  · exact h.mT.lt
  · exact h.mL.lt
theorem NfaAt.below {w w' : World} {q : Np} {n : Nat} {se : Bool} {s : St} (h : NfaAt w q n se s) (hb : Below w.heap.size w w') : NfaAt w' q n se s := h.blocks fun k hk => hb.block k (h.lt hk)
theorem NfaAt.grown {w w' : World} {q : Np} {n : Nat} {se : Bool} {s : St} {x : Nat} (h : NfaAt w q n se s) (hb : w.grownBy w' (some x)) (hx : ¬ q.In x) : NfaAt w' q n se s :=
  h.blocks fun k hk => hb.block k (h.lt hk) (fun e => hx (by injection e with e; rw [← e]; exact hk))
theorem NfaAt.mono {w : World} {q : Np} {n n' : Nat} {se : Bool} {s : St} (h : NfaAt w q n se s) (hn : n ≤ n') : NfaAt w q n' se s := ⟨h.c0, h.c1, h.c2, h.c3, h.c4, h.f1, h.mN.mono hn, h.mT.mono hn, h.mL.mono hn, h.t⟩
end Go.Proofs.YteamonmneoakpaaDoor

namespace Go.Proofs.YteamonmneoakpaaDoor
open Go.RowKit Go.Shelf Go.Lib Go.Great Go.Maps

theorem nat64 {p : Nat} (h : p < 9223372036854775808) : i64 (p : Int) := by unfold i64; omega
theorem wpList_lookN {ops : Array Oper} {rest : List Oper} {o : Oper} {a : Act} {w : World} {Q : Exit → Act → World → Prop} (hg : o.guard = none) (m x : Operand) (hop : o.op = Op.lookup 75 m x false)
    {q : Np} {n : Nat} {se : Bool} {s : St} (h : NfaAt w q n se s) (k : Int) (hk : i64 k) (X : Nat) (hX : (if 0 ≤ k then s.next k.toNat else 0) = X)
    (hm : a.eval m = .map (some q.nx)) (hx : a.eval x = .int .i64 k)
    (hK : wpList Tryd.prog ops Q rest (a.put o.dst (.agg (plL X).toArray)) w) : wpList Tryd.prog ops Q (o :: rest) a w := by
  subst hX
  exact wpList_lookupF hg m x 75 88 hop Tryd.underlying75 q.nx n (plV 0) _ h.mN (zero70 w) k hk hm hx hK
theorem wpList_lookT {ops : Array Oper} {rest : List Oper} {o : Oper} {a : Act} {w : World} {Q : Exit → Act → World → Prop} (hg : o.guard = none) (m x : Operand) (hop : o.op = Op.lookup 75 m x false)
    {q : Np} {n : Nat} {se : Bool} {s : St} (h : NfaAt w q n se s) (k : Int) (hk : i64 k) (X : Nat) (hX : takersI s k = X)
    (hm : a.eval m = .map (some q.tk)) (hx : a.eval x = .int .i64 k)
    (hK : wpList Tryd.prog ops Q rest (a.put o.dst (.agg (plL X).toArray)) w) : wpList Tryd.prog ops Q (o :: rest) a w := by
  subst hX
  exact wpList_lookupF hg m x 75 88 hop Tryd.underlying75 q.tk n (plV 0) _ h.mT (zero70 w) k hk hm hx hK
theorem wpList_lookL {ops : Array Oper} {rest : List Oper} {o : Oper} {a : Act} {w : World} {Q : Exit → Act → World → Prop} (hg : o.guard = none) (m x : Operand) (hop : o.op = Op.lookup 76 m x false)
    {q : Np} {n : Nat} {se : Bool} {s : St} (h : NfaAt w q n se s) (k : Int) (hk : i64 k) (X : Nat) (hX : (if 0 ≤ k then s.tells k.toNat else 0) = X)
    (hm : a.eval m = .map (some q.tl)) (hx : a.eval x = .int .i64 k)
    (hK : wpList Tryd.prog ops Q rest (a.put o.dst (.int .u64 (X : Int))) w) : wpList Tryd.prog ops Q (o :: rest) a w := by
  subst hX
  exact wpList_lookupF hg m x 76 37 hop Tryd.underlying76 q.tl n (.int .u64 0) _ h.mL (zero37 w) k hk hm hx hK
/-- One place's followers are set anew. -/
def St.setN (s : St) (p X : Nat) : St := { s with next := fun r => if r = p then X else s.next r }
def St.setT (s : St) (p X : Nat) : St := { s with takers := fun r => if r = p then X else s.takers r }
def St.setL (s : St) (p X : Nat) : St := { s with tells := fun r => if r = p then X else s.tells r }
theorem wpList_updN {ops : Array Oper} {rest : List Oper} {o : Oper} {a : Act} {w : World} {Q : Exit → Act → World → Prop} (hg : o.guard = none) (m x y : Operand) (hop : o.op = Op.mapUpdate 75 m x y)
    {q : Np} {n B : Nat} {se : Bool} {s : St} (h : NfaAt w q n se s) (hq : q.Ok B) (hn : n < maxLen) (p : Nat) (hp : p < 9223372036854775808) (X : Nat)
    (hm : a.eval m = .map (some q.nx)) (hx : a.eval x = .int .i64 (p : Int)) (hy : a.eval y = .agg (plL X).toArray)
    (hK : ∀ w', NfaAt w' q (n + 1) se (s.setN p X) → w.grownBy w' (some q.nx) → wpList Tryd.prog ops Q rest (a.put o.dst undef) w') : wpList Tryd.prog ops Q (o :: rest) a w := by
  refine wpList_updateF hg m x y 75 88 hop Tryd.underlying75 q.nx n (plV 0) _ h.mN hn (p : Int) (nat64 hp) (plV X) hm hx hy fun w' h1 h2 => hK w' ?_ h2
  have hb := fun k (hk : k < w.heap.size) (hne : k ≠ q.nx) => h2.block k hk (fun e => hne (by injection e))
  have h0 := hb q.b (cell_lt h.c0) hq.d1
  have c := fun j => World.cell?_of_block (w := w) (w' := w') (a := ⟨q.b, j, none⟩) h0
  refine ⟨(c 0).trans h.c0, (c 1).trans h.c1, (c 2).trans h.c2, (c 3).trans h.c3, (c 4).trans h.c4, (World.frozen?_of_block (w := w) (w' := w') (a := ⟨q.b, 1, none⟩) h0).trans h.f1,
    h1.congr fun k => ?_, (h.mT.block (hb _ h.mT.lt (Ne.symm hq.d4))).mono (by omega), (h.mL.block (hb _ h.mL.lt (Ne.symm hq.d5))).mono (by omega), h.t⟩
  dsimp only [St.setN]
  by_cases e : k = (p : Int)
  · subst e; simp
  · rw [if_neg e]
    by_cases h0 : 0 ≤ k
    · rw [if_pos h0, if_pos h0, if_neg (by omega)]
    · rw [if_neg h0, if_neg h0]
theorem wpList_updT {ops : Array Oper} {rest : List Oper} {o : Oper} {a : Act} {w : World} {Q : Exit → Act → World → Prop} (hg : o.guard = none) (m x y : Operand) (hop : o.op = Op.mapUpdate 75 m x y)
    {q : Np} {n B : Nat} {se : Bool} {s : St} (h : NfaAt w q n se s) (hq : q.Ok B) (hn : n < maxLen) (p : Nat) (hp : p < 9223372036854775808) (X : Nat)
    (hm : a.eval m = .map (some q.tk)) (hx : a.eval x = .int .i64 (p : Int)) (hy : a.eval y = .agg (plL X).toArray)
    (hK : ∀ w', NfaAt w' q (n + 1) se (s.setT p X) → w.grownBy w' (some q.tk) → wpList Tryd.prog ops Q rest (a.put o.dst undef) w') : wpList Tryd.prog ops Q (o :: rest) a w := by
  refine wpList_updateF hg m x y 75 88 hop Tryd.underlying75 q.tk n (plV 0) _ h.mT hn (p : Int) (nat64 hp) (plV X) hm hx hy fun w' h1 h2 => hK w' ?_ h2
  have hb := fun k (hk : k < w.heap.size) (hne : k ≠ q.tk) => h2.block k hk (fun e => hne (by injection e))
  have h0 := hb q.b (cell_lt h.c0) hq.d2
  have c := fun j => World.cell?_of_block (w := w) (w' := w') (a := ⟨q.b, j, none⟩) h0
  refine ⟨(c 0).trans h.c0, (c 1).trans h.c1, (c 2).trans h.c2, (c 3).trans h.c3, (c 4).trans h.c4, (World.frozen?_of_block (w := w) (w' := w') (a := ⟨q.b, 1, none⟩) h0).trans h.f1,
    (h.mN.block (hb _ h.mN.lt hq.d4)).mono (by omega), h1.congr fun k => ?_, (h.mL.block (hb _ h.mL.lt (Ne.symm hq.d6))).mono (by omega), h.t⟩
  dsimp only [St.setT, takersI]
  by_cases e : k = (p : Int)
  · subst e; simp
  · rw [if_neg e]
    by_cases h0 : 0 ≤ k
    · rw [if_pos h0, if_pos h0, if_neg (by omega)]
    · rw [if_neg h0, if_neg h0]
theorem wpList_updL {ops : Array Oper} {rest : List Oper} {o : Oper} {a : Act} {w : World} {Q : Exit → Act → World → Prop} (hg : o.guard = none) (m x y : Operand) (hop : o.op = Op.mapUpdate 76 m x y)
    {q : Np} {n B : Nat} {se : Bool} {s : St} (h : NfaAt w q n se s) (hq : q.Ok B) (hn : n < maxLen) (p : Nat) (hp : p < 9223372036854775808) (X : Nat) (hX : X < 18446744073709551616) (Y : Int) (hY : Y = (X : Int))
    (hm : a.eval m = .map (some q.tl)) (hx : a.eval x = .int .i64 (p : Int)) (hy : a.eval y = .int .u64 Y)
    (hK : ∀ w', NfaAt w' q (n + 1) se (s.setL p X) → w.grownBy w' (some q.tl) → wpList Tryd.prog ops Q rest (a.put o.dst undef) w') : wpList Tryd.prog ops Q (o :: rest) a w := by
  subst hY
  refine wpList_updateF hg m x y 76 37 hop Tryd.underlying76 q.tl n (.int .u64 0) _ h.mL hn (p : Int) (nat64 hp) (.int .u64 (X : Int)) hm hx hy fun w' h1 h2 => hK w' ?_ h2
  have hb := fun k (hk : k < w.heap.size) (hne : k ≠ q.tl) => h2.block k hk (fun e => hne (by injection e))
  have h0 := hb q.b (cell_lt h.c0) hq.d3
  have c := fun j => World.cell?_of_block (w := w) (w' := w') (a := ⟨q.b, j, none⟩) h0
  refine ⟨(c 0).trans h.c0, (c 1).trans h.c1, (c 2).trans h.c2, (c 3).trans h.c3, (c 4).trans h.c4, (World.frozen?_of_block (w := w) (w' := w') (a := ⟨q.b, 1, none⟩) h0).trans h.f1,
    (h.mN.block (hb _ h.mN.lt hq.d5)).mono (by omega), (h.mT.block (hb _ h.mT.lt hq.d6)).mono (by omega), h1.congr fun k => ?_, fun r => ?_⟩
  · dsimp only [St.setL]
    by_cases e : k = (p : Int)
    · subst e; simp
    · rw [if_neg e]
      by_cases h0 : 0 ≤ k
      · rw [if_pos h0, if_pos h0, if_neg (by omega)]
      · rw [if_neg h0, if_neg h0]
  · dsimp only [St.setL]
    split
    · exact hX
    · exact h.t r
/-- A list of places, as a slice: where it lies. -/
theorem OwnP.form {w : World} {base : Nat} {l : List Nat} {v : Value} (h : OwnP w base l v) : ∃ A cap, v = .slice A l.length cap ∧ l.length ≤ cap ∧ cap ≤ maxLen ∧ (l ≠ [] → ∃ g, A = some ⟨g, 0, none⟩ ∧ base ≤ g ∧ g < w.heap.size ∧ ∀ (i p : Nat), l[i]? = some p → w.cell? ⟨g, i, none⟩ = some (.int .i64 (p : Int))) := by
  rcases h.2 with ⟨h1, h2⟩ | ⟨g, cap, cur, h1, h2, h3, h4, h5, h6, h7⟩
  · have hl : l = [] := List.eq_nil_of_length_eq_zero h2
    subst hl
    exact ⟨none, 0, h1, by simp, by simp, fun hn => absurd rfl hn⟩
  · refine ⟨_, cap, h1, h4, h5, fun _ => ⟨g, rfl, h2, (Array.getElem?_eq_some_iff.1 h3).1, fun i p hp => ?_⟩⟩
    have hc := World.ownsRow.cells h (g := g) (by rw [h1]; rfl) i (.int .i64 (p : Int)) (by simp [cellsP, hp])
    rwa [add0] at hc
theorem plAt_box (w : World) (m : Nat) : PlAt (w.alloc (.cells (plL m).toArray 88)) w.heap.size 0 m := fun i hi => by
  constructor
  · rw [World.cell?_alloc_new]
    simpa using plL_get m i hi
  · exact World.frozen?_alloc_new _ _ _ _
end Go.Proofs.YteamonmneoakpaaDoor

namespace Go.Proofs.YteamonmneoakpaaDoor
open Go.RowKit Go.Shelf Go.Lib Go.Great Go.Maps

/-- The first places of a list have been linked. -/
def linkL (s : St) (l : List Nat) (b : Nat) : St := { s with next := fun p => if p ∈ l then s.next p ||| b else s.next p }
theorem linkL_nil (s : St) (b : Nat) : linkL s [] b = s := by simp [linkL]
theorem or_again (x b : Nat) : (x ||| b) ||| b = x ||| b := by rw [Nat.or_assoc, Nat.or_self]
theorem linkL_snoc (s : St) (l : List Nat) (p b : Nat) : (linkL s l b).setN p ((linkL s l b).next p ||| b) = linkL s (l ++ [p]) b := by
  unfold linkL St.setN
  simp only [St.mk.injEq, true_and, and_true]
  funext r
  by_cases e : r = p
  · subst e
    simp only [if_true, List.mem_append, List.mem_singleton, or_true]
    by_cases h : r ∈ l
    · rw [if_pos h, or_again]
    · rw [if_neg h]
  · rw [if_neg e]
    simp [e]
theorem mem_posL {m p : Nat} : p ∈ posL m ↔ inM m p = true := by
  unfold posL
  simp only [List.mem_filter, List.mem_range]
  constructor
  · exact fun h => h.2
  · intro h
    refine ⟨?_, h⟩
    unfold inM at h; simp at h; exact h.1
theorem linkL_full (s : St) (a b : Nat) : linkL s (posL a) b = s.link a b := by
  unfold linkL St.link
  simp only [St.mk.injEq, true_and, and_true]
  funext r
  by_cases h : inM a r = true
  · rw [if_pos (mem_posL.2 h), if_pos h]
  · rw [if_neg (fun h2 => h (mem_posL.1 h2)), if_neg h]
theorem posL_lt {m i p : Nat} (h : (posL m)[i]? = some p) : p < 1024 := by
  have := mem_posL.1 (List.mem_of_getElem? h)
  unfold inM at this; simp at this; exact this.1
theorem wpStill_loadPl {ops : Array Oper} {w : World} {Q : Act → Prop} {a : Act} {o : Oper} {rest : List Oper} (x : Operand) (ho : o.op = .load 88 x) (hw : Region.wanted o (yielded ops a.tmps) = true)
    (b off m : Nat) (hx : a.eval x = .pointer (some ⟨b, off, none⟩)) (hat : PlAt w b off m) (h : wpStill Tryd.prog ops w Q rest (a.put o.dst (.agg (plL m).toArray))) : wpStill Tryd.prog ops w Q (o :: rest) a := by
  refine wpStill_step (fun K hK => ?_)
  rw [if_pos hw]
  unfold Oper.still execOp
  simp only [ho, hx, run_loadAt_mid w b off 88 (plL m) (.array 16 37) hat.range Tryd.underlying88 rfl (by rw [plL_len]; exact size70), Sem.run_bind, Sem.run_pure, Result.andThen_ok]
  exact ⟨rfl, hK _ h⟩
set_option maxHeartbeats 4000000 in
set_option maxRecDepth 100000 in
theorem link_any (q : Np) (B n : Nat) (se : Bool) (s : St) (a b : Nat) (w : World) (h : NfaAt w q n se s) (hq : q.Ok B) (_hB : 0 < B) (hT : TZ w) (hn : n ≤ 1000000000000) :
    Calls Tryd.prog 66 #[.pointer (some ⟨q.b, 0, none⟩), .agg (plL a).toArray, .agg (plL b).toArray] w fun e w' => e = .returned (.tuple #[]) ∧ Kp q w w' ∧ NfaAt w' q (n + 1024) se (s.link a b) := by
  obtain ⟨W1, hW1⟩ : ∃ W, w.alloc (.cells (plL a).toArray 88) = W := ⟨_, rfl⟩
  obtain ⟨W2, hW2⟩ : ∃ W, W1.alloc (.cells (plL b).toArray 88) = W := ⟨_, rfl⟩
  have hz1 : W1.heap.size = w.heap.size + 1 := by rw [← hW1]; simp
  have hz2 : W2.heap.size = w.heap.size + 2 := by rw [← hW2]; simp [hz1]
  have b1 : Below w.heap.size w W1 := by rw [← hW1]; exact below_new _ _
  have b2 : Below W1.heap.size W1 W2 := by rw [← hW2]; exact below_new _ _
  have p1 : PlAt W2 w.heap.size 0 a := by
    have : PlAt W1 w.heap.size 0 a := by rw [← hW1]; exact plAt_box w a
    exact this.block (b2.block _ (by omega))
  have p2 : PlAt W2 (w.heap.size + 1) 0 b := by rw [← hz1, ← hW2]; exact plAt_box W1 b
  have hT2 : TZ W2 := (hT.below b1 hT.lt).below b2 (by omega)
  have b12 : Below w.heap.size w W2 := b1.trans (b2.mono (by omega))
  have C := Lib.hid (list_any w.heap.size 0 a W2 p1 hT2)
  have HH := Lib.hid (And.intro h (And.intro hT2 (And.intro b12 (And.intro p2 (And.intro hz2 hz1)))))
  have HW1 := Lib.hid hW1
  have HW2 := Lib.hid hW2
  have hqb := fun k (hk : q.In k) => h.lt hk
  have HQ := Lib.hid hqb
  clear h hT hz1 hz2 b1 b2 p1 p2 hT2 b12 hqb
  generalize hA : (plL a).toArray = PA at *
  generalize hB2 : (plL b).toArray = PB at *
  have HB2 := Lib.hid hB2
  clear hA hB2 hW1 hW2
  go_enter Tryd.func66, Tryd.ntmps66
  go_wp2_with fail
  rw [HW1.out, HW2.out]
  refine C.out.mono ?_
  rintro e W3 ⟨v, rfl, hown, hb3⟩
  obtain ⟨A, cap, rfl, hlc, hcm, hcell⟩ := hown.form
  have hlen : (posL a).length ≤ 1024 := by rw [posL_eq]; exact posN_len _ _
  have hkp0 : Kp q w W3 := (Kp.of_below HH.out.2.2.1).below hb3
  have h3 : NfaAt W3 q n se s := (HH.out.1.below HH.out.2.2.1).below (hb3)
  have hT3 : TZ W3 := HH.out.2.1.below hb3 (by have := HH.out.2.1.lt; omega)
  have p3 : PlAt W3 (w.heap.size + 1) 0 b := HH.out.2.2.2.1.block (hb3.block _ (by have := HH.out.2.2.2.2.1; omega))
  have HG := Lib.hid (And.intro hkp0 (And.intro p3 (And.intro hcell (And.intro HH.out.2.2.2.2 (And.intro hb3.size (fun (i p : Nat) (hp : (posL a)[i]? = some p) => posL_lt hp))))))
  obtain ⟨l, hl⟩ : ∃ l, posL a = l := ⟨_, rfl⟩
  have HL := Lib.hid hl
  rw [hl] at HG hlen
  simp only [hl]
  obtain ⟨N, hN⟩ : ∃ N, l.length = N := ⟨_, rfl⟩
  rw [hN] at hlen ⊢
  have HN := Lib.hid hN
  have H3 := Lib.hid (And.intro h3 (And.intro hlen hn))
  clear hown hb3 hlc hcell h3 hT3 p3 hkp0 hl hN hcm
  go_wp2_with fail
  go_loopw [11] (fun i wr => ∃ k : Nat, i = .int .i64 (k : Int) ∧ k ≤ N ∧ Kp q W3 wr ∧ NfaAt wr q (n + k) se (linkL s (l.take k) b)) (fun i _ => N - (RowKit.intOf i).toNat)
  case atStart => exact ⟨0, rfl, by omega, Kp.refl _ _, by rw [List.take_zero, linkL_nil]; exact H3.out.1⟩
  case round =>
    obtain ⟨k, rfl, hk, hkp, hnf⟩ := hrel
    by_cases hlt : k < N
    · have i1 : (k : Int) < (N : Int) := by omega
      obtain ⟨p, hp⟩ : ∃ p, l[k]? = some p := ⟨l[k]'(by rw [HN.out]; exact hlt), List.getElem?_eq_getElem _⟩
      obtain ⟨g, rfl, hg1, hg2, hgc⟩ := HG.out.2.2.1 (by rintro rfl; simp at hp)
      have hng : ¬ q.In g := fun hin => by have := HQ.out _ hin; have := HG.out.2.2.2.1.1; omega
      have d0 : wr.cell? ⟨g, k, none⟩ = some (.int .i64 (p : Int)) := (World.cell?_of_block (w := W3) (w' := wr) (a := ⟨g, k, none⟩) (hkp.block g hg2 hng)).trans (hgc k p hp)
      have c2 := hnf.c2
      have hp1 := HG.out.2.2.2.2.2 k p hp
      have hgb : ¬ q.In (w.heap.size + 1) := fun hin => by have := HQ.out _ hin; omega
      have pb : PlAt wr (w.heap.size + 1) 0 b := hkp.pl hgb HG.out.2.1
      obtain ⟨X, hX⟩ : ∃ X, (linkL s (l.take k) b).next p = X := ⟨_, rfl⟩
      have HX := Lib.hid hX
      have HK := Lib.hid (And.intro hkp (And.intro hnf (And.intro hp (And.intro pb hp1))))
      obtain ⟨G, hG⟩ : ∃ G, wr.heap.size = G := ⟨_, rfl⟩
      obtain ⟨W4, hW4⟩ : ∃ W, wr.alloc (.cells Z70 88) = W := ⟨_, rfl⟩
      have p4 : PlAt W4 G 0 0 := by rw [← hW4, ← hG]; exact plAt_new wr
      have b4 : Below wr.heap.size wr W4 := by rw [← hW4]; exact below_new _ _
      have HG4 := Lib.hid hG
      have HW4 := Lib.hid hW4
      have H4 := Lib.hid (And.intro p4 b4)
      clear hkp hnf hp pb hX hng hgc p4 b4 hG hW4
      go_wp2_with (first
        | (refine wpList_lookN rfl (.tmp 18) (.tmp 19) rfl HK.out.2.1 (p : Int) (nat64 (by have := HK.out.2.2.2.2; omega)) X (by rw [if_pos (by omega), Int.toNat_natCast]; exact HX.out) rfl rfl ?_)
        | (refine wpList_alloc70 rfl 8 rfl rfl G HG4.out W4 HW4.out ?_)
        | (refine wpList_storePl rfl (.tmp 8) (.tmp 20) rfl rfl G 0 0 X rfl rfl H4.out.1 ?_
           intro W5 hW5
           have k5 : Kp q wr W5 := (Kp.of_below H4.out.2).grown hW5.grown (.inr (by have := HG4.out; omega))
           have n5 : NfaAt W5 q (n + k) se (linkL s (l.take k) b) := ((HK.out.2.1.below H4.out.2).grown hW5.grown (fun hin => by have := HK.out.2.1.lt hin; have := HG4.out; omega))
           have q5 : PlAt W5 (w.heap.size + 1) 0 b := (HK.out.2.2.2.1.block (H4.out.2.block _ HK.out.2.2.2.1.lt)).block (hW5.grown.block _ (by have := HK.out.2.2.2.1.lt; have := H4.out.2.size; omega) (fun e => by injection e with e; have := HK.out.2.2.2.1.lt; have := HG4.out; omega))
           have H5 := Lib.hid (And.intro hW5.at_ (And.intro k5 (And.intro n5 q5)))
           clear hW5 k5 n5 q5)
        | (refine wpList_loadPl rfl (.tmp 5) rfl (w.heap.size + 1) 0 b rfl H5.out.2.2.2 ?_)
        | (go_at_call 45; refine (padd_any G 0 X b W5 H5.out.1).mono ?_; rintro e W6 ⟨rfl, hW6⟩)
        | fail)
      have k6 : Kp q wr W6 := H5.out.2.1.grown hW6.grown (.inr (by have := HG4.out; omega))
      have n6 : NfaAt W6 q (n + k) se (linkL s (l.take k) b) := H5.out.2.2.1.grown hW6.grown (fun hin => by have := HK.out.2.1.lt hin; have := HG4.out; omega)
      have hdw : PlAt W6.drew G 0 (X ||| b) := hW6.at_
      have c2' := n6.c2
      have H6 := Lib.hid (And.intro k6 n6)
      have HD := Lib.hid hdw
      clear k6 n6 hW6 c2 hdw
      go_wp2_with fail
      go_still_tail 6, (by kernel_rfl)
      refine wpStill_loadPl (.tmp 8) rfl (by kernel_rfl) G 0 (X ||| b) rfl HD.out ?_
      refine wpStill_nil ?_
      change wpList _ _ _ _ _ W6.drew
      have n6' : NfaAt W6.drew q (n + k) se (linkL s (l.take k) b) := ⟨H6.out.2.c0, H6.out.2.c1, H6.out.2.c2, H6.out.2.c3, H6.out.2.c4, H6.out.2.f1, H6.out.2.mN, H6.out.2.mT, H6.out.2.mL, H6.out.2.t⟩
      refine wpList_updN rfl (.tmp 26) (.tmp 27) (.tmp 28) rfl n6' hq (by unfold maxLen; have := H3.out.2; omega) p (by have := HK.out.2.2.2.2; omega) (X ||| b) rfl rfl rfl ?_
      intro W7 n7 g7
      have hs7 : linkL s (l.take (k + 1)) b = (linkL s (l.take k) b).setN p (X ||| b) := by
        rw [List.take_add_one, HK.out.2.2.1]
        simp only [Option.toList_some]
        rw [← linkL_snoc, HX.out]
      have hend : ∃ j : Nat, Value.int .i64 ((k : Int) + 1) = .int .i64 (j : Int) ∧ j ≤ N ∧ Kp q W3 W7 ∧ NfaAt W7 q (n + j) se (linkL s (l.take j) b) :=
        ⟨k + 1, by simp, by omega, HK.out.1.trans (H6.out.1.drew.grown g7 (.inl (.inr (.inl rfl)))), by rw [hs7]; exact n7⟩
      have HEND := Lib.hid hend
      clear n6' n7 g7 hs7 hend c2'
      go_wp2_with fail
      go_roundw
      case rel => exact HEND.out
      case measure => simp [RowKit.intOf]; omega
    · obtain rfl : k = N := by omega
      have d1 : ¬ (k : Int) < (k : Int) := by omega
      have HK := Lib.hid (And.intro hkp hnf)
      clear hkp hnf
      go_wp2_with fail
      go_end0
      have e1 : l.take k = l := by rw [← HN.out, List.take_length]
      refine ⟨rfl, HG.out.1.trans HK.out.1, ?_⟩
      have := HK.out.2
      rw [e1, ← HL.out, linkL_full] at this
      exact this.mono (by have := H3.out.2.1; omega)
end Go.Proofs.YteamonmneoakpaaDoor

namespace Go.Proofs.YteamonmneoakpaaDoor
open Go.RowKit Go.Shelf Go.Lib Go.Great Go.Maps

def spL (p : Sp) : List Value := plL p.first ++ (plL p.last ++ [.bool p.empty])
theorem spL_len (p : Sp) : (spL p).length = 33 := by simp [spL, plL_len]
theorem spL_one (p : Sp) : (spL p).toArray.all (·.oneCell') = true := by
  rw [Array.all_eq_true_iff_forall_mem]
  intro v hv
  simp only [List.mem_toArray, spL, plL, List.mem_append, List.mem_map, List.mem_singleton] at hv
  rcases hv with ⟨j, _, rfl⟩ | ⟨j, _, rfl⟩ | rfl <;> rfl
theorem size80 : (Tryd.prog.info? 103).map (·.size) = some 33 := by kernel_rfl
def spV (p : Sp) : Value := .agg (spL p).toArray
def sp0 : Sp := ⟨0, 0, false⟩
structure SpAt (w : World) (b : Nat) (p : Sp) : Prop where
  f : PlAt w b 0 p.first
  l : PlAt w b 16 p.last
  e : w.cell? ⟨b, 32, none⟩ = some (.bool p.empty)
  z : w.frozen? ⟨b, 32, none⟩ = false
theorem spL_get1 (p : Sp) {i : Nat} (h : i < 16) : (spL p)[i]? = some (.int .u64 (wd p.first i : Nat)) := by
  unfold spL; rw [List.getElem?_append_left (by rw [plL_len]; exact h)]; exact plL_get _ _ h
theorem spL_get2 (p : Sp) {i : Nat} (h : i < 16) : (spL p)[16 + i]? = some (.int .u64 (wd p.last i : Nat)) := by
  unfold spL
  rw [List.getElem?_append_right (by rw [plL_len]; omega), List.getElem?_append_left (by rw [plL_len]; rw [plL_len]; omega), plL_len]
  rw [show 16 + i - 16 = i by omega]
  exact plL_get _ _ h
theorem spL_get3 (p : Sp) : (spL p)[32]? = some (.bool p.empty) := by
  unfold spL
  rw [List.getElem?_append_right (by rw [plL_len]; omega), List.getElem?_append_right (by rw [plL_len]; rw [plL_len]; omega), plL_len, plL_len]
  rfl
theorem SpAt.lt {w : World} {b : Nat} {p : Sp} (h : SpAt w b p) : b < w.heap.size := h.f.lt
theorem SpAt.block {w w' : World} {b : Nat} {p : Sp} (h : SpAt w b p) (hb : w'.heap[b]? = w.heap[b]?) : SpAt w' b p :=
  ⟨h.f.block hb, h.l.block hb, (World.cell?_of_block (w := w) (w' := w') (a := ⟨b, 32, none⟩) hb).trans h.e, (World.frozen?_of_block (w := w) (w' := w') (a := ⟨b, 32, none⟩) hb).trans h.z⟩
theorem SpAt.range {w : World} {b : Nat} {p : Sp} (h : SpAt w b p) : w.rangeAt b 0 (spL p) := by
  intro j v hv
  have hj : j < 33 := by have := (List.getElem?_eq_some_iff.1 hv).1; rw [spL_len] at this; exact this
  rw [Nat.zero_add]
  by_cases h1 : j < 16
  · rw [spL_get1 p h1] at hv; rw [← hv]; simpa using (h.f j h1).1
  · by_cases h2 : j < 32
    · obtain ⟨i, rfl⟩ : ∃ i, j = 16 + i := ⟨j - 16, by omega⟩
      rw [spL_get2 p (by omega)] at hv; rw [← hv]; exact (h.l i (by omega)).1
    · obtain rfl : j = 32 := by omega
      rw [spL_get3] at hv; rw [← hv]; exact h.e
theorem SpAt.there {w : World} {b : Nat} {p : Sp} (h : SpAt w b p) : w.there b 0 33 := fun j hj => by
  rw [Nat.zero_add]
  by_cases h1 : j < 16
  · have := h.f j h1; rw [Nat.zero_add] at this; exact ⟨by rw [this.1]; rfl, this.2⟩
  · by_cases h2 : j < 32
    · obtain ⟨i, rfl⟩ : ∃ i, j = 16 + i := ⟨j - 16, by omega⟩
      have := h.l i (by omega); exact ⟨by rw [this.1]; rfl, this.2⟩
    · obtain rfl : j = 32 := by omega
      exact ⟨by rw [h.e]; rfl, h.z⟩
theorem spAt_of {w : World} {b : Nat} {p : Sp} (h : ∀ j v, (spL p)[j]? = some v → w.cell? ⟨b, j, none⟩ = some v ∧ w.frozen? ⟨b, j, none⟩ = false) : SpAt w b p :=
  ⟨fun i hi => by rw [Nat.zero_add]; exact h i _ (spL_get1 p hi), fun i hi => h (16 + i) _ (spL_get2 p hi), (h 32 _ (spL_get3 p)).1, (h 32 _ (spL_get3 p)).2⟩
def Z80 : Array Value := (spL sp0).toArray
theorem spAt_new (w : World) (p : Sp) : SpAt (w.alloc (.cells (spL p).toArray 103)) w.heap.size p := spAt_of fun j v hv => by
  constructor
  · rw [World.cell?_alloc_new]; simpa using hv
  · exact World.frozen?_alloc_new _ _ _ _
theorem wpList_alloc80 {ops : Array Oper} {rest : List Oper} {o : Oper} {a : Act} {w : World} {Q : Exit → Act → World → Prop} (hg : o.guard = none) (dst : Tmp) (hdst : o.dst = some dst) (ho : o.op = .alloc 103)
    (N : Nat) (hN : w.heap.size = N) (W : World) (hW : w.alloc (.cells Z80 103) = W)
    (h : wpList Tryd.prog ops Q rest (a.put (some dst) (.pointer (some ⟨N, 0, none⟩))) W) : wpList Tryd.prog ops Q (o :: rest) a w := by
  subst hN hW
  refine wpList_allocTo hg (some dst) hdst (.pointer (some ⟨w.heap.size, 0, none⟩)) (.cells Z80 103) ?_ h
  obtain ⟨d, op, t, pos, aft, g⟩ := o
  dsimp only at ho
  subst ho
  kernel_rfl
/-- Behind the store of a span. -/
structure SpSet (w w' : World) (b : Nat) (p : Sp) : Prop where
  grown : w.grownBy w' (some b)
  at_ : SpAt w' b p
theorem spSet_cells {w : World} {b : Nat} {p : Sp} (p' : Sp) (h : SpAt w b p) : SpSet w (w.setCells b 0 (spL p').toArray.toList) b p' := by
  have hl := spL_len p'
  have ht := h.there
  simp only
  refine ⟨grown_setCells _ _ _ _, spAt_of fun j v hv => ?_⟩
  have hj : j < 33 := by have := (List.getElem?_eq_some_iff.1 hv).1; omega
  have hz := ht j hj
  rw [Nat.zero_add] at hz
  constructor
  · have h2 := World.cell?_setCells_in b (spL p') 0 w (fun i hi => (ht i (by omega)).1) j (by omega)
    rw [Nat.zero_add] at h2
    rw [h2]
    rw [List.getElem?_eq_getElem (by omega)] at hv
    exact hv
  · rw [World.frozen?_setCells]; exact hz.2
theorem wpList_storeSp {ops : Array Oper} {rest : List Oper} {o : Oper} {a : Act} {w : World} {Q : Exit → Act → World → Prop} (hg : o.guard = none) (x y : Operand) (ho : o.op = .store 103 x y) (hd : o.dst = none)
    (b : Nat) (p p' : Sp) (hx : a.eval x = .pointer (some ⟨b, 0, none⟩)) (hy : a.eval y = .agg (spL p').toArray) (hat : SpAt w b p)
    (h : ∀ W, SpSet w W b p' → wpList Tryd.prog ops Q rest a W) : wpList Tryd.prog ops Q (o :: rest) a w := by
  refine wpList_store_mid hg 103 x y ho b 0 (spL p').toArray hx hy (by simpa [spL_len] using hat.there) (by rw [size80]; simp [spL_len]) (spL_one _) ?_
  rw [hd]
  exact h _ (spSet_cells p' hat)
theorem wpList_loadSp {ops : Array Oper} {rest : List Oper} {o : Oper} {a : Act} {w : World} {Q : Exit → Act → World → Prop} (hg : o.guard = none) (x : Operand) (ho : o.op = .load 103 x)
    (b : Nat) (p : Sp) (hx : a.eval x = .pointer (some ⟨b, 0, none⟩)) (hat : SpAt w b p)
    (h : wpList Tryd.prog ops Q rest (a.put o.dst (.agg (spL p).toArray)) w) : wpList Tryd.prog ops Q (o :: rest) a w :=
  wpList_load_mid hg 103 x ho b 0 hx (spL p) _ hat.range Tryd.underlying103 rfl (by rw [spL_len]; exact size80) h
theorem results_sp {fn : Func} {t : Tmp} (h : fn.results = #[.cell t 103]) (tmps : Array Value) (w : World) (b : Nat) (p : Sp) (hp : tmps.getD t undef = .pointer (some ⟨b, 0, none⟩)) (hat : SpAt w b p) :
    (results fn tmps).run Tryd.prog w = .ok (.agg (spL p).toArray) w := by
  have hp' : tmps[t]?.getD undef = .pointer (some ⟨b, 0, none⟩) := by simpa using hp
  simp [results, h, hp', asAddr, run_loadVar_mid w b 0 103 (spL p) _ hat.range Tryd.underlying103 rfl (by rw [spL_len]; exact size80)]
theorem built_empty : (Tryd.prog.built 103 [(2, .bool true)]) = some (spL ⟨0, 0, true⟩).toArray := by kernel_rfl
theorem built_leaf (m : Nat) : (Tryd.prog.built 103 [(0, .agg (plL m).toArray), (1, .agg (plL m).toArray)]) = some (spL ⟨m, m, false⟩).toArray := by kernel_rfl
theorem wpList_buildLeaf {ops : Array Oper} {rest : List Oper} {o : Oper} {a : Act} {w : World} {Q : Exit → Act → World → Prop} (hg : o.guard = none) (x y : Operand) (ho : o.op = .build 103 #[(0, x), (1, y)]) (m : Nat)
    (hx : a.eval x = .agg (plL m).toArray) (hy : a.eval y = .agg (plL m).toArray)
    (h : wpList Tryd.prog ops Q rest (a.put o.dst (.agg (spL ⟨m, m, false⟩).toArray)) w) : wpList Tryd.prog ops Q (o :: rest) a w := by
  have e : (Array.map (fun (i, x) => (i, a.eval x)) #[((0 : Nat), x), (1, y)]).toList = [(0, .agg (plL m).toArray), (1, .agg (plL m).toArray)] := by simp [hx, hy]
  refine wpList_build hg 103 _ ho (by rw [e, built_leaf]; rfl) ?_
  rw [e, built_leaf]
  exact h
theorem wpList_buildEmpty {ops : Array Oper} {rest : List Oper} {o : Oper} {a : Act} {w : World} {Q : Exit → Act → World → Prop} (hg : o.guard = none) (ho : o.op = .build 103 #[(2, .const (.bool true))])
    (h : wpList Tryd.prog ops Q rest (a.put o.dst (.agg (spL ⟨0, 0, true⟩).toArray)) w) : wpList Tryd.prog ops Q (o :: rest) a w := by
  have e : (Array.map (fun (i, x) => (i, a.eval x)) #[((2 : Nat), Operand.const (.bool true))]).toList = [(2, .bool true)] := by simp [Act.eval]
  refine wpList_build hg 103 _ ho (by rw [e, built_empty]; rfl) ?_
  rw [e, built_empty]
  exact h
/-- One of the two sets has turned. -/
theorem SpAt.first {w w' : World} {b m : Nat} {p : Sp} (h : SpAt w b p) (hs : PlSet w w' b 0 m) : SpAt w' b ⟨m, p.last, p.empty⟩ :=
  ⟨hs.at_, fun i hi => ⟨(hs.cell _ (.inr (by omega))).trans (h.l i hi).1, (hs.frozen _ (.inr (by omega))).trans (h.l i hi).2⟩, (hs.cell _ (.inr (by omega))).trans h.e, (hs.frozen _ (.inr (by omega))).trans h.z⟩
theorem SpAt.last {w w' : World} {b m : Nat} {p : Sp} (h : SpAt w b p) (hs : PlSet w w' b 16 m) : SpAt w' b ⟨p.first, m, p.empty⟩ :=
  ⟨fun i hi => ⟨(hs.cell _ (.inl (by omega))).trans (h.f i hi).1, (hs.frozen _ (.inl (by omega))).trans (h.f i hi).2⟩, hs.at_, (hs.cell _ (.inr (by omega))).trans h.e, (hs.frozen _ (.inr (by omega))).trans h.z⟩
theorem SpAt.empty {w : World} {b : Nat} {p : Sp} (h : SpAt w b p) (e : Bool) : SpAt (w.setCell ⟨b, 32, none⟩ (.bool e)) b ⟨p.first, p.last, e⟩ :=
  ⟨fun i hi => ⟨by rw [World.cell?_setCell_other _ _ _ _ (by intro h3; injection h3 with h4 h5; omega)]; exact (h.f i hi).1, by rw [World.frozen?_setCell]; exact (h.f i hi).2⟩,
   fun i hi => ⟨by rw [World.cell?_setCell_other _ _ _ _ (by intro h3; injection h3 with h4 h5; omega)]; exact (h.l i hi).1, by rw [World.frozen?_setCell]; exact (h.l i hi).2⟩,
   World.cell?_setCell_same _ _ _ h.e, by rw [World.frozen?_setCell]; exact h.z⟩
theorem grown_setc (w : World) (b j : Nat) (v : Value) : w.grownBy (w.setCell ⟨b, j, none⟩ v) (some b) := ⟨rfl, rfl, rfl, by simp [World.setCell], fun k _ hk => Below.heap_setCell _ _ _ _ (fun e => hk (by rw [e]))⟩
end Go.Proofs.YteamonmneoakpaaDoor

namespace Go.Proofs.YteamonmneoakpaaDoor
open Go.RowKit Go.Shelf Go.Lib

def isC (n : Int) : Bool := decide (0 ≤ n) && decide (n < 36)
/-- Has a node a class and so many parts as its kind asks? -/
def shapedK (k c : Int) (n : Nat) : Bool :=
  if k = 0 ∨ k = 2 then isC c && decide (n = 0)
  else if k = 1 ∨ k = 3 ∨ k = 9 then decide (c = 0) && decide (n = 0)
  else if k = 4 ∨ k = 5 then decide (c = 0) && decide (2 ≤ n)
  else if k = 6 ∨ k = 7 ∨ k = 8 then decide (c = 0) && decide (n = 1)
  else false
theorem isClass_any (n : Int) (w : World) : Calls Tryd.prog 93 #[.int .i64 n] w fun r w' => r = .returned (.bool (isC n)) ∧ w' = w := by
  unfold isC
  by_cases h0 : 0 ≤ n
  · by_cases h1 : n < 36
    · rw [decide_eq_true h0, decide_eq_true h1]
      go_enter Tryd.func93, Tryd.ntmps93
      go_wp2
      go_ret
      exact ⟨rfl, rfl⟩
    · have h1' : decide (n < 36) = false := by simp; omega
      rw [decide_eq_true h0, h1']
      go_enter Tryd.func93, Tryd.ntmps93
      go_wp2
      go_ret
      exact ⟨rfl, rfl⟩
  · have h0' : decide (0 ≤ n) = false := by simp; omega
    rw [h0']
    go_enter Tryd.func93, Tryd.ntmps93
    go_wp2
    go_ret
    exact ⟨rfl, rfl⟩
end Go.Proofs.YteamonmneoakpaaDoor

namespace Go.Proofs.YteamonmneoakpaaDoor
open Go.RowKit Go.Shelf Go.Lib

set_option maxHeartbeats 4000000 in
theorem shaped_any (k c : Int) (A : Option Addr) (n cap : Nat) (w : World) (hn : n ≤ 9223372036854775807) :
    Calls Tryd.prog 74 #[.agg #[.int .i64 k, .int .i64 c, .slice A n cap]] w fun r w' => r = .returned (.bool (shapedK k c n)) ∧ Below w.heap.size w w' := by
  have C := Lib.hid (fun W => isClass_any c W)
  have hb0 := below_new w (.cells #[.int .i64 k, .int .i64 c, .slice A n cap] 71)
  obtain ⟨R, hR⟩ : ∃ R, shapedK k c n = R := ⟨_, rfl⟩
  rw [hR]
  unfold shapedK at hR
  by_cases k0 : k = 0
  · subst k0
    simp only [true_or, if_true] at hR
    obtain ⟨cb, hcb⟩ : ∃ cb, isC c = cb := ⟨_, rfl⟩
    have C1 := Lib.hid (C.out (w.alloc (.cells #[.int .i64 0, .int .i64 c, .slice A n cap] 71)))
    rw [hcb] at hR C1
    by_cases n0 : n = 0
    · subst n0
      cases cb
      all_goals
        simp at hR
        subst hR
        go_enter Tryd.func74, Tryd.ntmps74
        go_wp2_with fail
        refine C1.out.mono ?_
        rintro e w1 ⟨rfl, rfl⟩
        go_wp2
        go_ret
        exact ⟨rfl, hb0⟩
    · have n1 : ((n : Int) == 0) = false := by simpa using n0
      cases cb
      all_goals
        simp [n0] at hR
        subst hR
        go_enter Tryd.func74, Tryd.ntmps74
        go_wp2_with fail
        refine C1.out.mono ?_
        rintro e w1 ⟨rfl, rfl⟩
        go_wp2
        go_ret
        exact ⟨rfl, hb0⟩
  by_cases k2 : k = 2
  · subst k2
    simp only [or_true, if_true] at hR
    obtain ⟨cb, hcb⟩ : ∃ cb, isC c = cb := ⟨_, rfl⟩
    have C1 := Lib.hid (C.out (w.alloc (.cells #[.int .i64 2, .int .i64 c, .slice A n cap] 71)))
    rw [hcb] at hR C1
    by_cases n0 : n = 0
    · subst n0
      cases cb
      all_goals
        simp at hR
        subst hR
        go_enter Tryd.func74, Tryd.ntmps74
        go_wp2_with fail
        refine C1.out.mono ?_
        rintro e w1 ⟨rfl, rfl⟩
        go_wp2
        go_ret
        exact ⟨rfl, hb0⟩
    · have n1 : ((n : Int) == 0) = false := by simpa using n0
      cases cb
      all_goals
        simp [n0] at hR
        subst hR
        go_enter Tryd.func74, Tryd.ntmps74
        go_wp2_with fail
        refine C1.out.mono ?_
        rintro e w1 ⟨rfl, rfl⟩
        go_wp2
        go_ret
        exact ⟨rfl, hb0⟩
  by_cases k1 : k = 1
  · subst k1
    simp at hR
    by_cases c0 : c = 0
    · subst c0
      by_cases n0 : n = 0
      · have n1 : ((n : Int) == 0) = true := by simp; omega
        simp [n0] at hR
        subst hR
        go_enter Tryd.func74, Tryd.ntmps74
        go_wp2
        go_ret
        first
          | exact ⟨rfl, hb0⟩
          | (subst n0; exact ⟨rfl, hb0⟩)
      · have n1 : ((n : Int) == 0) = false := by simp; omega
        simp [n0] at hR
        subst hR
        go_enter Tryd.func74, Tryd.ntmps74
        go_wp2
        go_ret
        exact ⟨rfl, hb0⟩
    · have c1 : (c == 0) = false := by simpa using c0
      simp [c0] at hR
      subst hR
      go_enter Tryd.func74, Tryd.ntmps74
      go_wp2
      go_ret
      exact ⟨rfl, hb0⟩
  by_cases k3 : k = 3
  · subst k3
    simp at hR
    by_cases c0 : c = 0
    · subst c0
      by_cases n0 : n = 0
      · have n1 : ((n : Int) == 0) = true := by simp; omega
        simp [n0] at hR
        subst hR
        go_enter Tryd.func74, Tryd.ntmps74
        go_wp2
        go_ret
        first
          | exact ⟨rfl, hb0⟩
          | (subst n0; exact ⟨rfl, hb0⟩)
      · have n1 : ((n : Int) == 0) = false := by simp; omega
        simp [n0] at hR
        subst hR
        go_enter Tryd.func74, Tryd.ntmps74
        go_wp2
        go_ret
        exact ⟨rfl, hb0⟩
    · have c1 : (c == 0) = false := by simpa using c0
      simp [c0] at hR
      subst hR
      go_enter Tryd.func74, Tryd.ntmps74
      go_wp2
      go_ret
      exact ⟨rfl, hb0⟩
  by_cases k9 : k = 9
  · subst k9
    simp at hR
    by_cases c0 : c = 0
    · subst c0
      by_cases n0 : n = 0
      · have n1 : ((n : Int) == 0) = true := by simp; omega
        simp [n0] at hR
        subst hR
        go_enter Tryd.func74, Tryd.ntmps74
        go_wp2
        go_ret
        first
          | exact ⟨rfl, hb0⟩
          | (subst n0; exact ⟨rfl, hb0⟩)
      · have n1 : ((n : Int) == 0) = false := by simp; omega
        simp [n0] at hR
        subst hR
        go_enter Tryd.func74, Tryd.ntmps74
        go_wp2
        go_ret
        exact ⟨rfl, hb0⟩
    · have c1 : (c == 0) = false := by simpa using c0
      simp [c0] at hR
      subst hR
      go_enter Tryd.func74, Tryd.ntmps74
      go_wp2
      go_ret
      exact ⟨rfl, hb0⟩
  by_cases k4 : k = 4
  · subst k4
    simp at hR
    by_cases c0 : c = 0
    · subst c0
      by_cases n0 : 2 ≤ n
      · have n1 : decide ((2 : Int) ≤ (n : Int)) = true := by simp; omega
        simp [n0] at hR
        subst hR
        go_enter Tryd.func74, Tryd.ntmps74
        go_wp2
        go_ret
        first
          | exact ⟨rfl, hb0⟩
          | (subst n0; exact ⟨rfl, hb0⟩)
      · have n1 : decide ((2 : Int) ≤ (n : Int)) = false := by simp; omega
        simp [n0] at hR
        subst hR
        go_enter Tryd.func74, Tryd.ntmps74
        go_wp2
        go_ret
        exact ⟨rfl, hb0⟩
    · have c1 : (c == 0) = false := by simpa using c0
      simp [c0] at hR
      subst hR
      go_enter Tryd.func74, Tryd.ntmps74
      go_wp2
      go_ret
      exact ⟨rfl, hb0⟩
  by_cases k5 : k = 5
  · subst k5
    simp at hR
    by_cases c0 : c = 0
    · subst c0
      by_cases n0 : 2 ≤ n
      · have n1 : decide ((2 : Int) ≤ (n : Int)) = true := by simp; omega
        simp [n0] at hR
        subst hR
        go_enter Tryd.func74, Tryd.ntmps74
        go_wp2
        go_ret
        first
          | exact ⟨rfl, hb0⟩
          | (subst n0; exact ⟨rfl, hb0⟩)
      · have n1 : decide ((2 : Int) ≤ (n : Int)) = false := by simp; omega
        simp [n0] at hR
        subst hR
        go_enter Tryd.func74, Tryd.ntmps74
        go_wp2
        go_ret
        exact ⟨rfl, hb0⟩
    · have c1 : (c == 0) = false := by simpa using c0
      simp [c0] at hR
      subst hR
      go_enter Tryd.func74, Tryd.ntmps74
      go_wp2
      go_ret
      exact ⟨rfl, hb0⟩
  by_cases k6 : k = 6
  · subst k6
    simp at hR
    by_cases c0 : c = 0
    · subst c0
      by_cases n0 : n = 1
      · have n1 : ((n : Int) == 1) = true := by simp; omega
        simp [n0] at hR
        subst hR
        go_enter Tryd.func74, Tryd.ntmps74
        go_wp2
        go_ret
        first
          | exact ⟨rfl, hb0⟩
          | (subst n0; exact ⟨rfl, hb0⟩)
      · have n1 : ((n : Int) == 1) = false := by simp; omega
        simp [n0] at hR
        subst hR
        go_enter Tryd.func74, Tryd.ntmps74
        go_wp2
        go_ret
        exact ⟨rfl, hb0⟩
    · have c1 : (c == 0) = false := by simpa using c0
      simp [c0] at hR
      subst hR
      go_enter Tryd.func74, Tryd.ntmps74
      go_wp2
      go_ret
      exact ⟨rfl, hb0⟩
  by_cases k7 : k = 7
  · subst k7
    simp at hR
    by_cases c0 : c = 0
    · subst c0
      by_cases n0 : n = 1
      · have n1 : ((n : Int) == 1) = true := by simp; omega
        simp [n0] at hR
        subst hR
        go_enter Tryd.func74, Tryd.ntmps74
        go_wp2
        go_ret
        first
          | exact ⟨rfl, hb0⟩
          | (subst n0; exact ⟨rfl, hb0⟩)
      · have n1 : ((n : Int) == 1) = false := by simp; omega
        simp [n0] at hR
        subst hR
        go_enter Tryd.func74, Tryd.ntmps74
        go_wp2
        go_ret
        exact ⟨rfl, hb0⟩
    · have c1 : (c == 0) = false := by simpa using c0
      simp [c0] at hR
      subst hR
      go_enter Tryd.func74, Tryd.ntmps74
      go_wp2
      go_ret
      exact ⟨rfl, hb0⟩
  by_cases k8 : k = 8
  · subst k8
    simp at hR
    by_cases c0 : c = 0
    · subst c0
      by_cases n0 : n = 1
      · have n1 : ((n : Int) == 1) = true := by simp; omega
        simp [n0] at hR
        subst hR
        go_enter Tryd.func74, Tryd.ntmps74
        go_wp2
        go_ret
        first
          | exact ⟨rfl, hb0⟩
          | (subst n0; exact ⟨rfl, hb0⟩)
      · have n1 : ((n : Int) == 1) = false := by simp; omega
        simp [n0] at hR
        subst hR
        go_enter Tryd.func74, Tryd.ntmps74
        go_wp2
        go_ret
        exact ⟨rfl, hb0⟩
    · have c1 : (c == 0) = false := by simpa using c0
      simp [c0] at hR
      subst hR
      go_enter Tryd.func74, Tryd.ntmps74
      go_wp2
      go_ret
      exact ⟨rfl, hb0⟩
  simp [k0, k1, k2, k3, k4, k5, k6, k7, k8, k9] at hR
  subst hR
  have q0 : (k == 0) = false := by simpa using k0
  have q1 : (k == 1) = false := by simpa using k1
  have q2 : (k == 2) = false := by simpa using k2
  have q3 : (k == 3) = false := by simpa using k3
  have q4 : (k == 4) = false := by simpa using k4
  have q5 : (k == 5) = false := by simpa using k5
  have q6 : (k == 6) = false := by simpa using k6
  have q7 : (k == 7) = false := by simpa using k7
  have q8 : (k == 8) = false := by simpa using k8
  have q9 : (k == 9) = false := by simpa using k9
  go_enter Tryd.func74, Tryd.ntmps74
  go_wp2
  go_ret
  exact ⟨rfl, hb0⟩
end Go.Proofs.YteamonmneoakpaaDoor

namespace Go.Proofs.YteamonmneoakpaaDoor
open Go.RowKit Go.Shelf Go.Lib

/-- A node, then those within it, as long as the answer is yes. -/
def visG {σ : Type} (nx : E → σ → Bool × σ) : E → σ → Bool × σ
  | .mk k c ks, s => match nx (.mk k c ks) s with
    | (true, s') => kids nx ks s'
    | (false, s') => (false, s')
where kids {σ : Type} (nx : E → σ → Bool × σ) : List E → σ → Bool × σ
  | [], s => (true, s)
  | e :: r, s => match visG nx e s with
    | (true, s') => kids nx r s'
    | (false, s') => (false, s')
abbrev visL {σ : Type} (nx : E → σ → Bool × σ) : List E → σ → Bool × σ := visG.kids nx
theorem visG_eq {σ : Type} (nx : E → σ → Bool × σ) (e : E) (s : σ) : visG nx e s = if (nx e s).1 then visL nx e.ks (nx e s).2 else (false, (nx e s).2) := by
  cases e with
  | mk k c ks =>
    show (match nx (.mk k c ks) s with
      | (true, s') => visL nx ks s'
      | (false, s') => (false, s')) = _
    rcases nx (.mk k c ks) s with ⟨_ | _, s'⟩ <;> rfl
theorem visL_append {σ : Type} (nx : E → σ → Bool × σ) (a b : List E) (s : σ) : visL nx (a ++ b) s = if (visL nx a s).1 then visL nx b (visL nx a s).2 else (false, (visL nx a s).2) := by
  induction a generalizing s with
  | nil => simp [visL, visG.kids]
  | cons e r ih =>
    show (match visG nx e s with
      | (true, s') => visL nx (r ++ b) s'
      | (false, s') => (false, s')) = _
    rcases h : visG nx e s with ⟨_ | _, s'⟩
    · simp [visL, visG.kids, h]
    · simp only [ih]
      simp [visL, visG.kids, h]
theorem visL_take {σ : Type} (nx : E → σ → Bool × σ) (ks : List E) (i : Nat) (e : E) (s : σ) (h : ks[i]? = some e) :
    visL nx (ks.take (i + 1)) s = if (visL nx (ks.take i) s).1 then visG nx e (visL nx (ks.take i) s).2 else (false, (visL nx (ks.take i) s).2) := by
  rw [List.take_add_one, h, visL_append]
  have : visL nx (some e).toList (visL nx (ks.take i) s).2 = visG nx e (visL nx (ks.take i) s).2 := by
    show (match visG nx e _ with
      | (true, s') => (true, s')
      | (false, s') => (false, s')) = _
    rcases visG nx e (visL nx (ks.take i) s).2 with ⟨_ | _, s'⟩ <;> rfl
  rw [this]
/-- Where the answer is no among the first ones, it is for all. -/
theorem visL_stop {σ : Type} (nx : E → σ → Bool × σ) (ks : List E) (i : Nat) (s s' : σ) (h : visL nx (ks.take i) s = (false, s')) : visL nx ks s = (false, s') := by
  have := visL_append nx (ks.take i) (ks.drop i) s
  rw [List.take_append_drop, h] at this
  simpa using this

theorem grown_trans {a b c : World} {row : Option Nat} (h : a.grownBy b row) (k : b.grownBy c row) : a.grownBy c row :=
  ⟨k.os.trans h.os, k.tape.trans h.tape, k.output.trans h.output, Nat.le_trans h.size k.size, fun i hi hn => (k.block i (Nat.lt_of_lt_of_le hi h.size) hn).trans (h.block i hi hn)⟩
theorem grown_below {a b : World} {row : Option Nat} (h : Below a.heap.size a b) : a.grownBy b row := ⟨h.os, h.tape, h.output, h.size, fun k hk _ => h.block k hk⟩
theorem grown_set (w : World) (b : Nat) (v : Value) : w.grownBy (w.setCell ⟨b, 0, none⟩ v) (some b) :=
  ⟨rfl, rfl, rfl, by simp, fun k _ hk => Below.heap_setCell _ _ _ k (fun e => hk (by rw [e]))⟩
theorem Nd.grown {w w' : World} {B g : Nat} {e : E} {v : Value} (h : Nd w B e v) (hg : w.grownBy w' (some g)) (hB : B ≤ g) : Nd w' B e v :=
  h.carry (Nat.le_refl _) (fun b o u hl hu => hg.cell hu (by simp; omega)) _ _ _ (Nat.le_refl _)
theorem boxed_below {W W' : World} {B t : Nat} {v : Value} (h : Boxed W B t v) (hb : Below W.heap.size W W') : Boxed W' B t v := (hb.block B h.lt).trans h
theorem boxed_grown {W W' : World} {B g t : Nat} {v : Value} (h : Boxed W B t v) (hg : W.grownBy W' (some g)) (hne : B ≠ g) : Boxed W' B t v := (hg.block B h.lt (by simpa using hne)).trans h

/-- What Right's function says of a node: how many there were ahead of it. -/
def nxR (e : E) (m : Nat) : Bool × Nat := (decide (m + 1 ≤ 2000) && decide (e.k ≠ 9) && shapedK e.k e.c e.ks.length, m + 1)

set_option maxHeartbeats 4000000 in
theorem right1_any (k c : Int) (A : Option Addr) (n cap g m : Nat) (w : World) (hn : n ≤ 9223372036854775807) (hg : Boxed w g 3 (.int .i64 m)) (hm : m ≤ 2000) :
    Calls Tryd.prog 76 #[.agg #[.int .i64 k, .int .i64 c, .slice A n cap], .pointer (some ⟨g, 0, none⟩)] w fun r w' =>
      r = .returned (.bool (decide (m + 1 ≤ 2000) && decide (k ≠ 9) && shapedK k c n)) ∧ w.grownBy w' (some g) ∧ Boxed w' g 3 (.int .i64 (m + 1 : Nat)) := by
  have hg0 := hg.alloc (.cells #[.int .i64 k, .int .i64 c, .slice A n cap] 71)
  have hgl := hg.lt
  have g0 := hg.cell
  have z0 := hg.frozen
  have hw : wrap64 ((m : Int) + 1) = (m : Int) + 1 := by unfold wrap64; omega
  have hne : g ≠ w.heap.size := by omega
  have hgr0 : w.grownBy (w.alloc (.cells #[.int .i64 k, .int .i64 c, .slice A n cap] 71)) (some g) := World.grownBy_alloc _ _ _
  have C := Lib.hid (fun W => shaped_any k c A n cap W hn)
  obtain ⟨SB, hSB⟩ : ∃ b, shapedK k c n = b := ⟨_, rfl⟩
  rw [hSB] at C ⊢
  have hfin : w.grownBy ((w.setCell ⟨g, 0, none⟩ (.int .i64 ((m : Int) + 1))).alloc (.cells #[.int .i64 k, .int .i64 c, .slice A n cap] 71)) (some g) ∧ Boxed ((w.setCell ⟨g, 0, none⟩ (.int .i64 ((m : Int) + 1))).alloc (.cells #[.int .i64 k, .int .i64 c, .slice A n cap] 71)) g 3 (.int .i64 ((m : Int) + 1)) :=
    ⟨grown_trans (grown_set w g _) (World.grownBy_alloc _ _ _), (hg.set _).alloc _⟩
  have H := Lib.hid hfin
  have C1 := Lib.hid (C.out ((w.setCell ⟨g, 0, none⟩ (.int .i64 ((m : Int) + 1))).alloc (.cells #[.int .i64 k, .int .i64 c, .slice A n cap] 71)))
  have hc : ((m + 1 : Nat) : Int) = (m : Int) + 1 := by omega
  rw [hc]
  clear hfin hc
  by_cases h1 : m + 1 ≤ 2000
  · have i1 : ((m : Int) + 1 ≤ 2000) := by omega
    rw [decide_eq_true h1]
    have HM := Lib.hid (And.intro hm h1)
    clear hg hg0 hgr0 hSB hm h1
    by_cases k9 : k = 9
    · subst k9
      rw [show (true && decide ((9 : Int) ≠ 9) && SB) = false by simp]
      go_enter Tryd.func76, Tryd.ntmps76
      go_wp2
      go_ret
      exact ⟨rfl, H.out⟩
    · have q9 : (k == 9) = false := by simpa using k9
      have q9' : (k != 9) = true := by simpa using k9
      rw [show (true && decide (k ≠ 9) && SB) = SB by simp [k9]]
      go_enter Tryd.func76, Tryd.ntmps76
      go_wp2_with fail
      refine C1.out.mono ?_
      rintro r w1 ⟨rfl, hb⟩
      have HZ := Lib.hid (And.intro (grown_trans H.out.1 (grown_below hb)) (boxed_below H.out.2 hb))
      clear hb
      go_wp2
      go_ret
      exact ⟨rfl, HZ.out⟩
  · have i1 : decide ((m : Int) + 1 ≤ 2000) = false := by simp; omega
    rw [decide_eq_false h1]
    rw [show (false && decide (k ≠ 9) && SB) = false by simp]
    have HM := Lib.hid (And.intro hm h1)
    clear hg hg0 hgr0 hSB hm h1
    go_enter Tryd.func76, Tryd.ntmps76
    go_wp2
    go_ret
    exact ⟨rfl, H.out⟩
end Go.Proofs.YteamonmneoakpaaDoor

