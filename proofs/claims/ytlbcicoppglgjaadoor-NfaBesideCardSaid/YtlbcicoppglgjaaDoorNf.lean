/-
  An automaton in memory: a struct of five cells and three maps; what a call may turn of it; a map as a function of its keys.
-/
import Derived.Test.YtlbcicoppglgjaaDoorLst
import Derived.Maps.OwnOps
import Derived.Maps.OwnSet
import Derived.Maps.Views
import Derived.StillTailTactics
namespace Go.Proofs.YtlbcicoppglgjaaDoor
open Go.RowKit Go.Shelf Go.Lib Go.Great Go.Maps

/-- An element as it stands. -/
def hR (v : Value) : Option (DataW Value × List MemPlace) := some (.held v, [])
/-- A map of ints, as a function. -/
def MapF (w : World) (b n : Nat) (z : Value) (f : Int → Value) : Prop := ∃ D : DataW Value, w.ownsMap Tryd.prog 3 hR b n D ∧ ∀ k : Int, D.atKey (.int .i64 k) (.held z) = .held (f k)
theorem MapF.lt {w : World} {b n : Nat} {z : Value} {f : Int → Value} (h : MapF w b n z f) : b < w.heap.size := by obtain ⟨D, h, _⟩ := h; exact h.lt
theorem MapF.block {w w' : World} {b n : Nat} {z : Value} {f : Int → Value} (h : MapF w b n z f) (hb : w'.heap[b]? = w.heap[b]?) : MapF w' b n z f := by
  obtain ⟨D, ⟨es, clock, h1, h2, h3, h4⟩, hf⟩ := h
  exact ⟨D, ⟨es, clock, hb.trans h1, h2, h3, h4⟩, hf⟩
theorem MapF.congr {w : World} {b n : Nat} {z : Value} {f g : Int → Value} (h : MapF w b n z f) (hfg : ∀ k, f k = g k) : MapF w b n z g := by
  obtain ⟨D, h1, hf⟩ := h
  exact ⟨D, h1, fun k => by rw [hf, hfg]⟩
theorem MapF.mono {w : World} {b n n' : Nat} {z : Value} {f : Int → Value} (h : MapF w b n z f) (hn : n ≤ n') : MapF w b n' z f := by
  obtain ⟨D, h1, hf⟩ := h
  exact ⟨D, h1.mono hn, hf⟩
theorem MapF.made (w : World) (z : Value) : MapF (w.alloc (.map #[] 0)) w.heap.size 0 z (fun _ => z) := ⟨_, World.ownsMap_made _ _ _ _, fun _ => rfl⟩
theorem keyed3 : Keyed Tryd.prog 3 := int_keyed Tryd.underlying3
theorem wf64 {k : Int} (h : i64 k) : (Lit.int .i64 k).wf = true := by simpa [Lit.wf, IntKind.min, IntKind.max, IntKind.signed, IntKind.bits, i64] using h
theorem key64 {k : Int} (h : i64 k) : keyOf Tryd.prog 3 (.int .i64 k) = some (.int .i64 k) := keyOf_int_mk Tryd.underlying3 (wf64 h)
theorem MapF.lookup {w : World} {b n : Nat} {z : Value} {f : Int → Value} (h : MapF w b n z f) {t e : TypeId} (ht : Tryd.prog.underlying t = some (.map 3 e)) (hz : (zeroValue e).run Tryd.prog w = .ok z w) {k : Int} (hk : i64 k) :
    (Instr.lookup t (.map (some b)) (.int .i64 k) false).run Tryd.prog w = .ok (f k) w := by
  obtain ⟨D, h1, hf⟩ := h
  obtain ⟨v, ps, hrun, hv⟩ := h1.lookup keyed3 ht hz (zd := .held z) (zp := []) rfl (key64 hk)
  simp only [hR, Option.some.injEq, Prod.mk.injEq] at hv
  have e : v = f k := by have := hv.1.trans (hf k); injection this
  rw [hrun, e]
theorem MapF.update {w : World} {b n : Nat} {z : Value} {f : Int → Value} (h : MapF w b n z f) {t e : TypeId} (ht : Tryd.prog.underlying t = some (.map 3 e)) (hn : n < maxLen) {k : Int} (hk : i64 k) (v : Value) :
    ∃ w', (Instr.mapUpdate t (.map (some b)) (.int .i64 k) v).run Tryd.prog w = .ok () w' ∧ MapF w' b (n + 1) z (fun j => if j = k then v else f j) ∧ w.grownBy w' (some b) := by
  obtain ⟨D, h1, hf⟩ := h
  obtain ⟨w', hrun, h2, h3⟩ := h1.update keyed3 ht hn (key64 hk) (show hR v = some (.held v, []) from rfl)
  refine ⟨w', hrun, ⟨_, h2, fun j => ?_⟩, h3⟩
  dsimp only
  by_cases e : j = k
  · rw [if_pos e, e]
    exact atKey_put_same h1.isMap (show WideAt.IsKeyLit (.int .i64 k) from trivial) _ _
  · rw [if_neg e, atKey_put_other (by intro h; injection h with _ h; exact e h)]
    exact hf j
theorem wpList_lookupF {ops : Array Oper} {rest : List Oper} {o : Oper} {a : Act} {w : World} {Q : Exit → Act → World → Prop} (hg : o.guard = none) (m x : Operand) (t e : TypeId) (hop : o.op = Op.lookup t m x false)
    (ht : Tryd.prog.underlying t = some (.map 3 e)) (b n : Nat) (z : Value) (f : Int → Value) (h : MapF w b n z f) (hz : (zeroValue e).run Tryd.prog w = .ok z w) (k : Int) (hk : i64 k)
    (hm : a.eval m = .map (some b)) (hx : a.eval x = .int .i64 k)
    (hK : wpList Tryd.prog ops Q rest (a.put o.dst (f k)) w) : wpList Tryd.prog ops Q (o :: rest) a w := by
  refine wpList_plain hg fun K' hK' => ?_
  unfold Oper.wp
  simp [execOp, hop, hm, hx, h.lookup ht hz hk, Result.andThen]
  exact hK' _ _ hK
theorem wpList_updateF {ops : Array Oper} {rest : List Oper} {o : Oper} {a : Act} {w : World} {Q : Exit → Act → World → Prop} (hg : o.guard = none) (m x y : Operand) (t e : TypeId) (hop : o.op = Op.mapUpdate t m x y)
    (ht : Tryd.prog.underlying t = some (.map 3 e)) (b n : Nat) (z : Value) (f : Int → Value) (h : MapF w b n z f) (hn : n < maxLen) (k : Int) (hk : i64 k) (v : Value)
    (hm : a.eval m = .map (some b)) (hx : a.eval x = .int .i64 k) (hy : a.eval y = v)
    (hK : ∀ w', MapF w' b (n + 1) z (fun j => if j = k then v else f j) → w.grownBy w' (some b) → wpList Tryd.prog ops Q rest (a.put o.dst undef) w') : wpList Tryd.prog ops Q (o :: rest) a w := by
  refine wpList_plain hg fun K' hK' => ?_
  obtain ⟨w', hrun, r1, r2⟩ := h.update ht hn hk v
  unfold Oper.wp
  simp [execOp, hop, hm, hx, hy, hrun, Result.andThen]
  exact hK' _ _ (hK w' r1 r2)
theorem zero70 (w : World) : (zeroValue 70).run Tryd.prog w = .ok (.agg (plL 0).toArray) w := by rw [← Z70_eq]; kernel_rfl
theorem zero37 (w : World) : (zeroValue 37).run Tryd.prog w = .ok (.int .u64 0) w := by kernel_rfl

/-- The blocks of an automaton. -/
structure Np where
  b : Nat
  nx : Nat
  tk : Nat
  tl : Nat
def Np.In (q : Np) (k : Nat) : Prop := k = q.b ∨ k = q.nx ∨ k = q.tk ∨ k = q.tl
structure Np.Ok (q : Np) (B : Nat) : Prop where
  b : B ≤ q.b
  nx : B ≤ q.nx
  tk : B ≤ q.tk
  tl : B ≤ q.tl
  d1 : q.b ≠ q.nx
  d2 : q.b ≠ q.tk
  d3 : q.b ≠ q.tl
  d4 : q.nx ≠ q.tk
  d5 : q.nx ≠ q.tl
  d6 : q.tk ≠ q.tl
theorem Np.Ok.out {q : Np} {B k : Nat} (h : q.Ok B) (hk : k < B) : ¬ q.In k := by
  have := h.b; have := h.nx; have := h.tk; have := h.tl
  unfold Np.In; omega
/-- Of what was there only the automaton's own blocks may have turned. -/
structure Kp (q : Np) (w w' : World) : Prop where
  os : w'.os = w.os
  tape : w'.tape = w.tape
  output : w'.output = w.output
  size : w.heap.size ≤ w'.heap.size
  block : ∀ k, k < w.heap.size → ¬ q.In k → w'.heap[k]? = w.heap[k]?
theorem Kp.refl (q : Np) (w : World) : Kp q w w := ⟨rfl, rfl, rfl, Nat.le_refl _, fun _ _ _ => rfl⟩
theorem Kp.trans {q : Np} {a b c : World} (h : Kp q a b) (k : Kp q b c) : Kp q a c :=
  ⟨k.os.trans h.os, k.tape.trans h.tape, k.output.trans h.output, Nat.le_trans h.size k.size, fun i hi hn => (k.block i (Nat.lt_of_lt_of_le hi h.size) hn).trans (h.block i hi hn)⟩
theorem Kp.of_below {q : Np} {a b : World} (h : Below a.heap.size a b) : Kp q a b := ⟨h.os, h.tape, h.output, h.size, fun k hk _ => h.block k hk⟩
theorem Kp.below {q : Np} {a b c : World} (h : Kp q a b) (k : Below b.heap.size b c) : Kp q a c := h.trans (.of_below k)
theorem Kp.of_grown {q : Np} {a b : World} {x : Nat} (h : a.grownBy b (some x)) (hx : q.In x) : Kp q a b := ⟨h.os, h.tape, h.output, h.size, fun k hk hn => h.block k hk (fun e => hn (by injection e with e; rw [e]; exact hx))⟩
/-- .. or a block that was made since. -/
theorem Kp.grown {q : Np} {a b c : World} {x : Nat} (h : Kp q a b) (k : b.grownBy c (some x)) (hx : q.In x ∨ a.heap.size ≤ x) : Kp q a c :=
  ⟨k.os.trans h.os, k.tape.trans h.tape, k.output.trans h.output, Nat.le_trans h.size k.size, fun i hi hn => (k.block i (Nat.lt_of_lt_of_le hi h.size) (fun e => by
    injection e with e
    rcases hx with hx | hx
    · exact hn (by rw [e]; exact hx)
    · omega)).trans (h.block i hi hn)⟩
theorem Kp.alloc {q : Np} {a b : World} (h : Kp q a b) (o : Obj) : Kp q a (b.alloc o) := h.below (below_new b o)
theorem Kp.drew {q : Np} {a b : World} (h : Kp q a b) : Kp q a b.drew := h.trans ⟨rfl, rfl, rfl, Nat.le_refl _, fun _ _ _ => rfl⟩
/-- Below the automaton nothing has turned. -/
theorem Kp.under {q : Np} {B : Nat} {a b : World} (h : Kp q a b) (hq : q.Ok B) (hB : B ≤ a.heap.size) : Below B a b := ⟨h.os, h.tape, h.output, h.size, fun k hk => h.block k (by omega) (hq.out hk)⟩
theorem Kp.pl {q : Np} {a b : World} (h : Kp q a b) {g o m : Nat} (hg : ¬ q.In g) (hp : PlAt a g o m) : PlAt b g o m := hp.block (h.block g hp.lt hg)
theorem Kp.tz {q : Np} {a b : World} (h : Kp q a b) (hT : TZ a) (hq : ¬ q.In 0) : TZ b := hT.block (h.block 0 hT.lt hq)
def plV (m : Nat) : Value := .agg (plL m).toArray
/-- An automaton. -/
structure NfaAt (w : World) (q : Np) (n : Nat) (se : Bool) (s : St) : Prop where
  c0 : w.cell? ⟨q.b, 0, none⟩ = some (.bool se)
  c1 : w.cell? ⟨q.b, 1, none⟩ = some (.int .i64 (s.count : Int))
  c2 : w.cell? ⟨q.b, 2, none⟩ = some (.map (some q.nx))
  c3 : w.cell? ⟨q.b, 3, none⟩ = some (.map (some q.tk))
  c4 : w.cell? ⟨q.b, 4, none⟩ = some (.map (some q.tl))
  f1 : w.frozen? ⟨q.b, 1, none⟩ = false
  mN : MapF w q.nx n (plV 0) (fun p => plV (if 0 ≤ p then s.next p.toNat else 0))
  mT : MapF w q.tk n (plV 0) (fun p => plV (takersI s p))
  mL : MapF w q.tl n (.int .u64 0) (fun p => .int .u64 ((if 0 ≤ p then s.tells p.toNat else 0 : Nat) : Int))
  t : ∀ p, s.tells p < 18446744073709551616
theorem cell_lt {w : World} {a : Addr} {v : Value} (h : w.cell? a = some v) : a.block < w.heap.size := by
  unfold World.cell? at h
  cases hb : w.heap[a.block]? with
  | none => simp [hb] at h
  | some x => exact (Array.getElem?_eq_some_iff.1 hb).1
theorem NfaAt.blocks {w w' : World} {q : Np} {n : Nat} {se : Bool} {s : St} (h : NfaAt w q n se s) (hb : ∀ k, q.In k → w'.heap[k]? = w.heap[k]?) : NfaAt w' q n se s := by
  have h0 := hb q.b (.inl rfl)
  have c := fun j => World.cell?_of_block (w := w) (w' := w') (a := ⟨q.b, j, none⟩) h0
  exact ⟨(c 0).trans h.c0, (c 1).trans h.c1, (c 2).trans h.c2, (c 3).trans h.c3, (c 4).trans h.c4, (World.frozen?_of_block (w := w) (w' := w') (a := ⟨q.b, 1, none⟩) h0).trans h.f1,
    h.mN.block (hb _ (.inr (.inl rfl))), h.mT.block (hb _ (.inr (.inr (.inl rfl)))), h.mL.block (hb _ (.inr (.inr (.inr rfl)))), h.t⟩
theorem NfaAt.lt {w : World} {q : Np} {n : Nat} {se : Bool} {s : St} (h : NfaAt w q n se s) {k : Nat} (hk : q.In k) : k < w.heap.size := by
  rcases hk with rfl | rfl | rfl | rfl
  · exact cell_lt h.c0
  · exact h.mN.lt
  · exact h.mT.lt
  · exact h.mL.lt
theorem NfaAt.below {w w' : World} {q : Np} {n : Nat} {se : Bool} {s : St} (h : NfaAt w q n se s) (hb : Below w.heap.size w w') : NfaAt w' q n se s := h.blocks fun k hk => hb.block k (h.lt hk)
theorem NfaAt.grown {w w' : World} {q : Np} {n : Nat} {se : Bool} {s : St} {x : Nat} (h : NfaAt w q n se s) (hb : w.grownBy w' (some x)) (hx : ¬ q.In x) : NfaAt w' q n se s :=
  h.blocks fun k hk => hb.block k (h.lt hk) (fun e => hx (by injection e with e; rw [← e]; exact hk))
theorem NfaAt.mono {w : World} {q : Np} {n n' : Nat} {se : Bool} {s : St} (h : NfaAt w q n se s) (hn : n ≤ n') : NfaAt w q n' se s := ⟨h.c0, h.c1, h.c2, h.c3, h.c4, h.f1, h.mN.mono hn, h.mT.mono hn, h.mL.mono hn, h.t⟩
end Go.Proofs.YtlbcicoppglgjaaDoor
