/-
  What holds in the midst of a list of parts: the automaton, the span of what was read, the span of the part at hand.
-/
import Derived.Test.YtlbcicoppglgjaaDoorRdm
namespace Go.Proofs.YtlbcicoppglgjaaDoor
open Go.RowKit Go.Shelf Go.Lib Go.Great Go.Maps

/-- Reading a part does what it should. -/
def ReadOk (e : E) : Prop := ∀ (q : Np) (B n : Nat) (se : Bool) (s : St) (v : Value) (w : World), NfaAt w q n se s → q.Ok B → B ≤ w.heap.size → 0 < B → TZ w → Nd w B e v → goodE e = true → s.count + leavesE e ≤ 1000 →
  n + 5000 * szE e ≤ 900000000000 → Calls Tryd.prog 41 #[.pointer (some ⟨q.b, 0, none⟩), v] w fun r w' => r = .returned (.agg (spL (readE e s).2).toArray) ∧ Kp q w w' ∧ NfaAt w' q (n + (5000 * szE e - 2500)) se (readE e s).1
/-- Blocks made since w, apart. -/
structure Fx (q : Np) (w : World) (N4 N5 N8 : Nat) : Prop where
  q4 : ¬ q.In N4
  q5 : ¬ q.In N5
  q8 : ¬ q.In N8
  n4 : w.heap.size ≤ N4
  n5 : w.heap.size ≤ N5
  n8 : w.heap.size ≤ N8
  d1 : N4 ≠ N5
  d2 : N4 ≠ N8
  d3 : N5 ≠ N8
/-- In the midst. -/
structure Sq (q : Np) (w W : World) (N4 N5 N8 n : Nat) (se : Bool) (S : St) (P Q : Sp) : Prop where
  kp : Kp q w W
  nf : NfaAt W q n se S
  r : SpAt W N4 sp0
  a : SpAt W N5 P
  s : SpAt W N8 Q
theorem Sq.keep {q : Np} {w W W' : World} {N4 N5 N8 n n' : Nat} {se : Bool} {S S' : St} {P Q : Sp} (h : Sq q w W N4 N5 N8 n se S P Q) (f : Fx q w N4 N5 N8) (hk : Kp q W W') (hn : NfaAt W' q n' se S') : Sq q w W' N4 N5 N8 n' se S' P Q :=
  ⟨h.kp.trans hk, hn, h.r.block (hk.block _ h.r.lt f.q4), h.a.block (hk.block _ h.a.lt f.q5), h.s.block (hk.block _ h.s.lt f.q8)⟩
theorem SpAt.grown {w w' : World} {b x : Nat} {p : Sp} (h : SpAt w b p) (hg : w.grownBy w' (some x)) (hx : b ≠ x) : SpAt w' b p := h.block (hg.block b h.lt (fun e => hx (by injection e)))
theorem Sq.a1 {q : Np} {w W W' : World} {N4 N5 N8 n m : Nat} {se : Bool} {S : St} {P Q : Sp} (h : Sq q w W N4 N5 N8 n se S P Q) (f : Fx q w N4 N5 N8) (hs : PlSet W W' N5 0 m) : Sq q w W' N4 N5 N8 n se S ⟨m, P.last, P.empty⟩ Q :=
  ⟨h.kp.grown hs.grown (.inr f.n5), h.nf.grown hs.grown f.q5, h.r.grown hs.grown f.d1, h.a.first hs, h.s.grown hs.grown f.d3.symm⟩
theorem Sq.a2 {q : Np} {w W W' : World} {N4 N5 N8 n m : Nat} {se : Bool} {S : St} {P Q : Sp} (h : Sq q w W N4 N5 N8 n se S P Q) (f : Fx q w N4 N5 N8) (hs : PlSet W W' N5 16 m) : Sq q w W' N4 N5 N8 n se S ⟨P.first, m, P.empty⟩ Q :=
  ⟨h.kp.grown hs.grown (.inr f.n5), h.nf.grown hs.grown f.q5, h.r.grown hs.grown f.d1, h.a.last hs, h.s.grown hs.grown f.d3.symm⟩
theorem Sq.a3 {q : Np} {w W : World} {N4 N5 N8 n : Nat} {se : Bool} {S : St} {P Q : Sp} (h : Sq q w W N4 N5 N8 n se S P Q) (f : Fx q w N4 N5 N8) (e : Bool) : Sq q w (W.setCell ⟨N5, 32, none⟩ (.bool e)) N4 N5 N8 n se S ⟨P.first, P.last, e⟩ Q :=
  ⟨h.kp.grown (grown_setc W N5 32 _) (.inr f.n5), h.nf.grown (grown_setc W N5 32 _) f.q5, h.r.grown (grown_setc W N5 32 _) f.d1, h.a.empty e, h.s.grown (grown_setc W N5 32 _) f.d3.symm⟩
theorem Sq.s2 {q : Np} {w W W' : World} {N4 N5 N8 n m : Nat} {se : Bool} {S : St} {P Q : Sp} (h : Sq q w W N4 N5 N8 n se S P Q) (f : Fx q w N4 N5 N8) (hs : PlSet W W' N8 16 m) : Sq q w W' N4 N5 N8 n se S P ⟨Q.first, m, Q.empty⟩ :=
  ⟨h.kp.grown hs.grown (.inr f.n8), h.nf.grown hs.grown f.q8, h.r.grown hs.grown f.d2, h.a.grown hs.grown f.d3, h.s.last hs⟩
/-- A new span beside the two. -/
theorem sq_new {q : Np} {w W W' W2 : World} {N4 N5 n : Nat} {se : Bool} {S : St} {P Q : Sp} (hk : Kp q w W) (hn : NfaAt W q n se S) (hr : SpAt W N4 sp0) (ha : SpAt W N5 P) (q4 : ¬ q.In N4) (q5 : ¬ q.In N5) (n4 : w.heap.size ≤ N4) (n5 : w.heap.size ≤ N5) (d1 : N4 ≠ N5)
    (hW : W.alloc (.cells Z80 80) = W') (hs : SpSet W' W2 W.heap.size Q) : Fx q w N4 N5 W.heap.size ∧ Sq q w W2 N4 N5 W.heap.size n se S P Q := by
  have b1 : Below W.heap.size W W' := by rw [← hW]; exact below_new _ _
  have q8 : ¬ q.In W.heap.size := fun hin => by have := hn.lt hin; omega
  have l4 := hr.lt
  have l5 := ha.lt
  have f : Fx q w N4 N5 W.heap.size := ⟨q4, q5, q8, n4, n5, hk.size, d1, by omega, by omega⟩
  exact ⟨f, (hk.below b1).grown hs.grown (.inr hk.size), (hn.below b1).grown hs.grown q8, (hr.block (b1.block _ l4)).grown hs.grown f.d2, (ha.block (b1.block _ l5)).grown hs.grown f.d3, hs.at_⟩
theorem spAt_new0 (w : World) : SpAt (w.alloc (.cells Z80 80)) w.heap.size sp0 := spAt_new w sp0
end Go.Proofs.YtlbcicoppglgjaaDoor
