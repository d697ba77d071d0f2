/-
  
  An expression as it lies in memory: a struct of two numbers and a slice of such structs, to whatever depth; what lies so lies so in every later world.
  A region that draws its order, some of whose operations only read while others write, one behind another: one walk, the readings first, serves every order.
  More on blocks that are known whole; worlds in which only some blocks have turned.
  Contracts: expr.isClass, Node.isShaped.
  Contracts: expr.Node.isShaped.
  A function that is yielded to node by node, and what it comes to; what one block's turning leaves of an expression; the function that Right yields to.
  Contracts: expr.Node.each at the function that Right yields to; expr.Right.
  Contracts: expr.Right.
  Plain mathematics: which expressions are right; how long their longest and shortest lists are.
-/
import Derived.WalkKit
import Derived.BigQuiet
import Derived.Deep.QuietTactic
import Derived.Outline
import Derived.Lib.Hide
import Derived.Below
import Derived.Lib.DecodeNEq
import Derived.Shelf.SlicesE.Clone
import Derived.Laws.IdiomStrings
import Derived.Laws.OwnMore
import Derived.OwnWalk
import Derived.RangeFuncRecord
import Derived.RangeFuncBox
import Derived.Deep.AppendLies
import Derived.Test.YtegkogadceodlaaProg
import Derived.Deep.Quiet
import Derived.StillTail
import Derived.Lib.QuietBelow
import Derived.IntWalk
namespace Go.Proofs.Ytegkogadceodlaa
open Go.RowKit Go.Shelf Go.Lib
set_option maxHeartbeats 1000000 in
set_option maxRecDepth 100000 in
theorem below_drewN {B : Nat} {a w : World} (h : Below B a w) (n : Nat) : Below B a (w.drewN n) := ⟨h.os, h.tape, h.output, h.size, h.block⟩
theorem ret_bool {a b : Bool} (h : a = b) : Ending.returned (.bool a) = .returned (.bool b) := by rw [h]
theorem add0 (g j : Nat) : (Addr.mk g 0 none).add j = ⟨g, j, none⟩ := by
  unfold Addr.add
  by_cases h : j = 0 <;> simp [h]
/-- A block that is known whole. -/
def Cells (W : World) (g t : Nat) (cs : Array Value) : Prop := W.heap[g]? = some (.cells cs t (0, 0))
theorem Cells.lt {W : World} {g t : Nat} {cs : Array Value} (h : Cells W g t cs) : g < W.heap.size := (Array.getElem?_eq_some_iff.1 h).1
theorem Cells.cell {W : World} {g t : Nat} {cs : Array Value} (h : Cells W g t cs) (i : Nat) : W.cell? ⟨g, i, none⟩ = cs[i]? := by
  simp [World.cell?, show W.heap[g]? = _ from h]
theorem own_block_lt {w : World} {base e size n : Nat} {v : Value} {xs : List Value} (h : w.ownsRow base e size v n xs) : ∀ k, v.ownBlock = some k → base ≤ k ∧ k < w.heap.size := by
  rcases h.2 with ⟨rfl, _⟩ | ⟨g, cap, cur, rfl, hb, hh, _⟩
  · intro k e; simp [Value.ownBlock] at e
  · intro k e
    obtain rfl : g = k := by simpa [Value.ownBlock] using e
    exact ⟨hb, (Array.getElem?_eq_some_iff.1 hh).1⟩

theorem grown_of_below {A B : World} (h : Below A.heap.size A B) : A.grownBy B none := ⟨h.os, h.tape, h.output, h.size, fun k hk _ => h.block k hk⟩
theorem ownsRow_below {w w' : World} {base e size n : Nat} {v : Value} {xs : List Value} (h : w.ownsRow base e size v n xs) (hb : Below w.heap.size w w') : w'.ownsRow base e size v n xs :=
  h.kept (grown_of_below hb) (by cases v.ownBlock <;> simp)

end Go.Proofs.Ytegkogadceodlaa

namespace Go.Proofs.Ytegkogadceodlaa
open Go.RowKit Go.Shelf Go.Lib

/-- An expression: its kind, its class, its parts. -/
inductive E where
  | mk (k c : Int) (ks : List E)
def E.k : E → Int | .mk k _ _ => k
def E.c : E → Int | .mk _ c _ => c
def E.ks : E → List E | .mk _ _ ks => ks
/-- How many nodes. -/
def szE : E → Nat
  | .mk _ _ ks => 1 + szL ks
where szL : List E → Nat
  | [] => 0
  | e :: r => szE e + szL r
abbrev szL := szE.szL
theorem szE_eq (e : E) : szE e = 1 + szL e.ks := by cases e; rfl
theorem szL_append (a b : List E) : szL (a ++ b) = szL a + szL b := by
  induction a with
  | nil => simp [szL, szE.szL]
  | cons e r ih => simp only [List.cons_append, szL, szE.szL] at *; omega
theorem szE_pos (e : E) : 1 ≤ szE e := by rw [szE_eq]; omega
theorem szL_mem {ks : List E} {e : E} (h : e ∈ ks) : szE e ≤ szL ks := by
  induction ks with
  | nil => cases h
  | cons a r ih =>
    simp only [szL, szE.szL] at *
    rcases List.mem_cons.1 h with rfl | h
    · omega
    · have := ih h; omega
theorem szE_kid {e f : E} (h : f ∈ e.ks) : szE f < szE e := by have := szL_mem h; rw [szE_eq e]; omega
theorem szL_take {ks : List E} {i : Nat} {e : E} (h : ks[i]? = some e) : szL (ks.take (i + 1)) = szL (ks.take i) + szE e := by
  rw [List.take_add_one, h, szL_append]
  simp [szL, szE.szL]

theorem szL_take_le (ks : List E) (i : Nat) : szL (ks.take i) ≤ szL ks := by
  have := szL_append (ks.take i) (ks.drop i)
  rw [List.take_append_drop] at this
  omega
def i64 (n : Int) : Prop := -9223372036854775808 ≤ n ∧ n ≤ 9223372036854775807

/-- A value is an expression, whose parts lie in blocks below B. -/
def Nd (w : World) (B : Nat) : E → Value → Prop
  | .mk k c ks, v => i64 k ∧ i64 c ∧ ∃ A cap, v = .agg #[.int .i64 k, .int .i64 c, .slice A ks.length cap] ∧ ks.length ≤ cap ∧ cap ≤ maxLen ∧ (A = none → cap = 0) ∧ (ks ≠ [] → ∃ b o, A = some ⟨b, o, none⟩ ∧ b < B ∧ Row w B b o ks)
where Row (w : World) (B b : Nat) : Nat → List E → Prop
  | _, [] => True
  | o, e :: r => (∃ x y z, w.cell? ⟨b, o, none⟩ = some x ∧ w.cell? ⟨b, o + 1, none⟩ = some y ∧ w.cell? ⟨b, o + 2, none⟩ = some z ∧ Nd w B e (.agg #[x, y, z])) ∧ Row w B b (o + 3) r
/-- A slice of expressions. -/
structure KsAt (w : World) (B : Nat) (ks : List E) (A : Option Addr) (cap : Nat) : Prop where
  l : ks.length ≤ cap
  m : cap ≤ maxLen
  z : A = none → cap = 0
  r : ks ≠ [] → ∃ b o, A = some ⟨b, o, none⟩ ∧ b < B ∧ Nd.Row w B b o ks
theorem Nd_iff {w : World} {B : Nat} {e : E} {v : Value} : Nd w B e v ↔ i64 e.k ∧ i64 e.c ∧ ∃ A cap, v = .agg #[.int .i64 e.k, .int .i64 e.c, .slice A e.ks.length cap] ∧ KsAt w B e.ks A cap := by
  cases e with
  | mk k c ks =>
    show (i64 k ∧ i64 c ∧ _) ↔ (i64 k ∧ i64 c ∧ _)
    constructor
    · rintro ⟨h1, h2, A, cap, rfl, h3, h4, h5, h6⟩
      exact ⟨h1, h2, A, cap, rfl, h3, h4, h5, h6⟩
    · rintro ⟨h1, h2, A, cap, rfl, h3, h4, h5, h6⟩
      exact ⟨h1, h2, A, cap, rfl, h3, h4, h5, h6⟩
theorem row_get {w : World} {B b : Nat} {ks : List E} : ∀ {o i : Nat} {e : E}, Nd.Row w B b o ks → ks[i]? = some e →
    ∃ x y z, w.cell? ⟨b, o + i * 3, none⟩ = some x ∧ w.cell? ⟨b, o + i * 3 + 1, none⟩ = some y ∧ w.cell? ⟨b, o + i * 3 + 2, none⟩ = some z ∧ Nd w B e (.agg #[x, y, z]) := by
  induction ks with
  | nil => intro o i e _ h; simp at h
  | cons a r ih =>
    rintro o i e ⟨h1, h2⟩ h
    cases i with
    | zero =>
      obtain rfl : a = e := by simpa using h
      simpa using h1
    | succ i =>
      have := ih h2 (show r[i]? = some e by simpa using h)
      rw [show o + (i + 1) * 3 = o + 3 + i * 3 by omega]
      exact this
theorem row_get' {w : World} {B b : Nat} {ks : List E} {o i : Nat} {e : E} (h : Nd.Row w B b o ks) (hi : ks[i]? = some e) :
    ∃ A cap, w.cell? ⟨b, o + i * 3, none⟩ = some (.int .i64 e.k) ∧ w.cell? ⟨b, o + i * 3 + 1, none⟩ = some (.int .i64 e.c) ∧ w.cell? ⟨b, o + i * 3 + 2, none⟩ = some (.slice A e.ks.length cap) ∧ Nd w B e (.agg #[.int .i64 e.k, .int .i64 e.c, .slice A e.ks.length cap]) := by
  obtain ⟨x, y, z, c1, c2, c3, hN⟩ := row_get h hi
  obtain ⟨_, _, A, cap, he, _⟩ := Nd_iff.1 hN
  have he' : x = .int .i64 e.k ∧ y = .int .i64 e.c ∧ z = .slice A e.ks.length cap := by simpa using he
  obtain ⟨rfl, rfl, rfl⟩ := he'
  exact ⟨A, cap, c1, c2, c3, hN⟩
theorem row_of {w : World} {B b : Nat} {ks : List E} : ∀ {o : Nat}, (∀ i e, ks[i]? = some e →
    ∃ x y z, w.cell? ⟨b, o + i * 3, none⟩ = some x ∧ w.cell? ⟨b, o + i * 3 + 1, none⟩ = some y ∧ w.cell? ⟨b, o + i * 3 + 2, none⟩ = some z ∧ Nd w B e (.agg #[x, y, z])) → Nd.Row w B b o ks := by
  induction ks with
  | nil => intro o _; exact trivial
  | cons a r ih =>
    intro o h
    refine ⟨by simpa using h 0 a rfl, ih fun i e hi => ?_⟩
    have := h (i + 1) e (by simpa using hi)
    rw [show o + (i + 1) * 3 = o + 3 + i * 3 by omega] at this
    exact this
/-- What turns nothing below B turns nothing of an expression there. -/
theorem Nd.carry {w w' : World} {B B' : Nat} (hB : B ≤ B') (hc : ∀ b o v, b < B → w.cell? ⟨b, o, none⟩ = some v → w'.cell? ⟨b, o, none⟩ = some v) :
    ∀ n e v, szE e ≤ n → Nd w B e v → Nd w' B' e v := by
  intro n
  induction n with
  | zero => intro e v h; have := szE_pos e; omega
  | succ n ih =>
    intro e v hn h
    obtain ⟨h1, h2, A, cap, rfl, hk⟩ := Nd_iff.1 h
    refine Nd_iff.2 ⟨h1, h2, A, cap, rfl, hk.l, hk.m, hk.z, fun hne => ?_⟩
    obtain ⟨b, o, rfl, hb, hr⟩ := hk.r hne
    refine ⟨b, o, rfl, by omega, row_of fun i f hf => ?_⟩
    obtain ⟨x, y, z, c1, c2, c3, hN⟩ := row_get hr hf
    exact ⟨x, y, z, hc _ _ _ hb c1, hc _ _ _ hb c2, hc _ _ _ hb c3, ih f _ (by have := szE_kid (List.mem_of_getElem? hf); omega) hN⟩
theorem Nd.below {w w' : World} {B : Nat} {e : E} {v : Value} (h : Nd w B e v) (hb : Below B w w') : Nd w' B e v :=
  h.carry (Nat.le_refl _) (fun b o _u hl hu => (hb.cell (p := ⟨b, o, none⟩) hl).trans hu) _ _ _ (Nat.le_refl _)
theorem Nd.mono {w : World} {B B' : Nat} {e : E} {v : Value} (h : Nd w B e v) (hB : B ≤ B') : Nd w B' e v :=
  h.carry hB (fun _ _ _ _ hu => hu) _ _ _ (Nat.le_refl _)
/-- In a later world, its own heap the bound. -/
theorem Nd.on {w w' : World} {e : E} {v : Value} (h : Nd w w.heap.size e v) (hb : Below w.heap.size w w') : Nd w' w'.heap.size e v := (h.below hb).mono hb.size
theorem KsAt.below {w w' : World} {B : Nat} {ks : List E} {A : Option Addr} {cap : Nat} (h : KsAt w B ks A cap) (hb : Below B w w') : KsAt w' B ks A cap :=
  ⟨h.l, h.m, h.z, fun hne => by
    obtain ⟨b, o, rfl, hl, hr⟩ := h.r hne
    refine ⟨b, o, rfl, hl, row_of fun i f hf => ?_⟩
    obtain ⟨x, y, z, c1, c2, c3, hN⟩ := row_get hr hf
    exact ⟨x, y, z, (hb.cell (p := ⟨b, _, none⟩) hl).trans c1, (hb.cell (p := ⟨b, _, none⟩) hl).trans c2, (hb.cell (p := ⟨b, _, none⟩) hl).trans c3, hN.below hb⟩⟩
theorem KsAt.mono {w : World} {B B' : Nat} {ks : List E} {A : Option Addr} {cap : Nat} (h : KsAt w B ks A cap) (hB : B ≤ B') : KsAt w B' ks A cap :=
  ⟨h.l, h.m, h.z, fun hne => by
    obtain ⟨b, o, rfl, hl, hr⟩ := h.r hne
    refine ⟨b, o, rfl, by omega, row_of fun i f hf => ?_⟩
    obtain ⟨x, y, z, c1, c2, c3, hN⟩ := row_get hr hf
    exact ⟨x, y, z, c1, c2, c3, hN.mono hB⟩⟩
theorem KsAt.on {w w' : World} {ks : List E} {A : Option Addr} {cap : Nat} (h : KsAt w w.heap.size ks A cap) (hb : Below w.heap.size w w') : KsAt w' w'.heap.size ks A cap := (h.below hb).mono hb.size
theorem below_new (w : World) (o : Obj) : Below w.heap.size w (w.alloc o) := (Below.refl _ _).alloc (Nat.le_refl _) o
end Go.Proofs.Ytegkogadceodlaa

namespace Go.Proofs.Ytegkogadceodlaa
open Go

section
variable {P : Program} {ops : Array Oper} {md : Region.Mode} {C : World → Prop} {κ : Nat → Nat}

/-- Operations that hand back a value at once. -/
def plainB (o : Oper) : Bool := match o.op with
  | .move _ | .assign _ | .load .. | .fieldAddr .. | .indexAddr .. | .unOp .. | .pick .. | .extract .. | .build .. | .field .. | .binOp .. | .nilCheck _ | .slice .. => true
  | .call c => (match c.callee with | .builtin .len => true | _ => false)
  | _ => false
theorem value_only {α : Type} {s : Sem α} {g : α → Value} {w : World} {n : Next} {w' : World} (h : ((do pure (.value (g (← s))) : Sem Next)).run P w = .ok n w') : ∃ u, n = .value u := by
  have h2 : (s.run P w).andThen (fun u w'' => (Result.ok (Next.value (g u)) w'' : Result Next)) = .ok n w' := by simpa using h
  cases hs : s.run P w with
  | ok u w'' =>
    rw [hs] at h2
    simp [Result.andThen] at h2
    exact ⟨g u, h2.1.symm⟩
  | halt x w'' =>
    rw [hs] at h2
    simp [Result.andThen] at h2
theorem call_len {c : Call} {ty : TypeId} {ρ : Operand → Value} (hc : (match c.callee with | .builtin .len => true | _ => false) = true) {w w' : World} {n : Next}
    (h : ((do let d ← resolve ρ c ty; invoke d.target d.args) : Sem Next).run P w = .ok n w') : ∃ u, n = .value u := by
  have hc' : c.callee = .builtin .len := by
    revert hc
    cases c.callee with
    | builtin b => cases b <;> simp
    | value _ => simp
    | invoke _ _ => simp
  simp only [resolve, hc', invoke, builtin] at h
  have h2 : (((do pure (.value (← Builtin.len_ c.argTypes ty (c.args.map ρ))) : Sem Next)).run P w) = .ok n w' := by simpa using h
  exact value_only (g := id) h2
theorem bind_value {α : Type} {s : Sem α} {f : α → Sem Next} (hf : ∀ a w n w', (f a).run P w = .ok n w' → ∃ u, n = .value u) {w w' : World} {n : Next} (h : (s >>= f).run P w = .ok n w') : ∃ u, n = .value u := by
  have h2 : (s.run P w).andThen (fun u w'' => (f u).run P w'') = .ok n w' := by simpa using h
  cases hs : s.run P w with
  | ok u w'' =>
    rw [hs] at h2
    exact hf u w'' n w' h2
  | halt x w'' =>
    rw [hs] at h2
    simp [Result.andThen] at h2
theorem pure_value {u : Value} {w w' : World} {n : Next} (h : (pure (.value u) : Sem Next).run P w = .ok n w') : ∃ u, n = .value u := by
  simp at h
  exact ⟨_, h.1.symm⟩
theorem plain_value {o : Oper} (hp : plainB o = true) {ρ : Operand → Value} {w w' : World} {n : Next} (h : (execOp ρ o).run P w = .ok n w') : ∃ u, n = .value u := by
  unfold plainB at hp
  unfold execOp at h
  split at hp <;> simp_all only
  all_goals first
    | exact call_len hp h
    | exact value_only (g := id) h
    | exact value_only h
    | (simp at h; exact ⟨_, h.1.symm⟩)
    | cases hp
    | skip
  repeat' split at h
  all_goals first
    | exact pure_value h
    | (simp [runtimePanic] at h; done)
    | (simp at h; done)
    | exact bind_value (fun _ _ _ _ h => bind_value (fun b _ _ _ h => by
        split at h
        · exact bind_value (fun _ _ _ _ h => pure_value h) h
        · exact pure_value h) h) h
/-- In every world of the class an operation hands back this value, and leaves the world as it is. -/
def givesAt (P : Program) (o : Oper) (a : Act) (w : World) (v : Value) : Prop := (execOp a.eval o).run P w = .ok (.value v) w
theorem gives_of_quiet {o : Oper} (hp : plainB o = true) {a : Act} {w : World} {v : Value} (h : o.quietAt P a C w v) : givesAt P o a w v := by
  unfold Oper.quietAt at h
  unfold givesAt
  cases hr : (execOp a.eval o).run P w with
  | ok n w' =>
    rw [hr] at h
    obtain ⟨u, rfl⟩ := plain_value hp hr
    obtain ⟨rfl, rfl⟩ := h
    rfl
  | halt x w' =>
    rw [hr] at h
    cases h
def pOp (P : Program) (ops : Array Oper) (C : World → Prop) (i : Nat) (K : Act → Prop) (a : Act) : Prop :=
  match ops[i]? with
  | none => K a
  | some o => if Region.wanted o (yielded ops a.tmps) then ∃ v, (∀ w, C w → givesAt P o a w v) ∧ K (a.put o.dst v) else K (a.put o.dst undef)
theorem pOp_mono {i : Nat} {a : Act} {K K' : Act → Prop} (h : ∀ a, K a → K' a) (hh : pOp P ops C i K a) : pOp P ops C i K' a := by
  unfold pOp at *
  split
  · exact h _ (by simpa [*] using hh)
  · rename_i o ho
    simp only [ho] at hh
    split
    · rename_i hw
      simp only [hw, if_true] at hh
      obtain ⟨v, h1, h2⟩ := hh
      exact ⟨v, h1, h _ h2⟩
    · rename_i hw; simp only [hw] at hh; exact h _ hh
theorem pOp_of_qOp {i : Nat} {o : Oper} (hi : ops[i]? = some o) (hp : plainB o = true) {a : Act} {K : Act → Prop} (h : qOp P ops C i K a) : pOp P ops C i K a := by
  unfold qOp at h
  unfold pOp
  simp only [hi] at h ⊢
  split
  · rename_i hw
    simp only [hw, if_true] at h
    obtain ⟨v, h1, h2⟩ := h
    exact ⟨v, fun w hw' => gives_of_quiet hp (h1 w hw'), h2⟩
  · rename_i hw; simp only [hw] at h; exact h
theorem wpOp_of_pOp {i : Nat} {a : Act} {K : Act → Prop} {K' : Act → World → Prop} {Q' : Exit → Act → World → Prop} {w : World} (hC : C w) (h : ∀ a, K a → K' a w) (hh : pOp P ops C i K a) : wpOp P ops Q' i K' a w := by
  unfold pOp at hh
  unfold wpOp
  split
  · rename_i ho; simp only [ho] at hh; exact h _ hh
  · rename_i o ho
    simp only [ho] at hh
    split
    · rename_i hw
      simp only [hw, if_true] at hh
      obtain ⟨v, h1, h2⟩ := hh
      left
      unfold Oper.wp
      rw [h1 w hC]
      exact h _ h2
    · rename_i hw; simp only [hw] at hh; exact h _ hh
def noQ : Exit → Act → World → Prop := fun _ _ _ => False
theorem wpOp_of_noQ {i : Nat} {a : Act} {w : World} {K : Act → World → Prop} {Q' : Exit → Act → World → Prop} (h : wpOp P ops noQ i K a w) : wpOp P ops Q' i K a w := by
  unfold wpOp at *
  split
  · simpa [*] using h
  · rename_i o ho
    simp only [ho] at h
    split
    · rename_i hw
      simp only [hw, if_true] at h
      rcases h with h | ⟨_, _, _, h⟩
      case inr => cases h
      left
      unfold Oper.wp at *
      generalize (execOp a.eval o).run P w = r at *
      cases r with
      | ok n w' =>
        cases n <;> simp only [Oper.upon] at h ⊢
        case value u => exact h
        case skip => exact h
        case defer d => exact h
        case enter f args =>
          refine Calls.mono h fun e w'' he => ?_
          cases e with
          | returned u => exact he
          | panicked c => cases he
          | outgrown =>
            obtain ⟨_, _, h⟩ := he
            cases h
        case row row args => exact h
      | halt x w' =>
        cases x <;> simp only [Oper.upon] at h ⊢
        case panic u => cases h
    · rename_i hw; simp only [hw] at h; exact h
/-- What a value that another operation hands back makes no difference to. -/
structure Keeps (Y : Act → Prop) (oj : Oper) : Prop where
  put : ∀ a u, Y a → Y (a.put oj.dst u)
  dfr : ∀ a d, Y a → Y { a with defers := d :: a.defers }
theorem pOp_put {j : Nat} {oi oj : Oper} {v : Value} {Y : Act → Prop} (hj : ops[j]? = some oj) (hap : oi.apart ops oj = true) (hsj : ∀ cs b, oj.op ≠ .select cs b) (hY : Keeps Y oj) {K : Act → Prop} {a : Act}
    (hy : Y a) (h : pOp P ops C j K (a.put oi.dst v)) : pOp P ops C j (fun a' => Y a' ∧ K (a'.put oi.dst v)) a := by
  obtain ⟨h1, h2, h3⟩ := Oper.apart_spec hap
  unfold pOp at *
  simp only [hj] at *
  rw [wanted_put oj a oi.dst v h1] at h
  split
  · rename_i hw
    simp only [hw, if_true] at h
    obtain ⟨u, hu, hn⟩ := h
    refine ⟨u, fun w hw' => ?_, hY.put a u hy, by rw [← Act.put_comm a v u h2]; exact hn⟩
    have := hu w hw'
    unfold givesAt at *
    rwa [execOp_put oj hsj a oi.dst v h1] at this
  · rename_i hw
    simp only [hw] at h
    exact ⟨hY.put a _ hy, by rw [← Act.put_comm a v undef h2]; exact h⟩
theorem qOp_putY {j : Nat} {oi oj : Oper} {v : Value} {Y : Act → Prop} (hj : ops[j]? = some oj) (hap : oi.apart ops oj = true) (hsj : ∀ cs b, oj.op ≠ .select cs b) (hY : Keeps Y oj) {K : Act → Prop} {a : Act}
    (hy : Y a) (h : qOp P ops C j K (a.put oi.dst v)) : qOp P ops C j (fun a' => Y a' ∧ K (a'.put oi.dst v)) a := by
  obtain ⟨h1, h2, h3⟩ := Oper.apart_spec hap
  unfold qOp at *
  simp only [hj] at *
  rw [wanted_put oj a oi.dst v h1] at h
  split
  · rename_i hw
    simp only [hw, if_true] at h
    obtain ⟨u, hu, hn⟩ := h
    refine ⟨u, fun w hw' => ?_, hY.put a u hy, by rw [← Act.put_comm a v u h2]; exact hn⟩
    have := hu w hw'
    unfold Oper.quietAt at *
    rwa [execOp_put oj hsj a oi.dst v h1] at this
  · rename_i hw
    simp only [hw] at h
    exact ⟨hY.put a _ hy, by rw [← Act.put_comm a v undef h2]; exact h⟩
theorem wpOp_putY {j : Nat} {oi oj : Oper} {v : Value} {Y : Act → Prop} (hj : ops[j]? = some oj) (hap : oi.apart ops oj = true) (hsj : ∀ cs b, oj.op ≠ .select cs b) (hY : Keeps Y oj) {K : Act → World → Prop} {a : Act} {w : World}
    (hy : Y a) (h : wpOp P ops noQ j K (a.put oi.dst v) w) : wpOp P ops noQ j (fun a' w' => Y a' ∧ K (a'.put oi.dst v) w') a w := by
  obtain ⟨h1, h2, h3⟩ := Oper.apart_spec hap
  unfold wpOp at *
  simp only [hj] at *
  rw [wanted_put oj a oi.dst v h1] at h
  split
  · rename_i hw
    simp only [hw, if_true] at h
    rcases h with h | ⟨_, _, _, h⟩
    case inr => cases h
    refine .inl ?_
    unfold Oper.wp at *
    rw [execOp_put oj hsj a oi.dst v h1] at h
    generalize (execOp a.eval oj).run P w = r at *
    cases r with
    | ok n w' =>
      cases n <;> simp only [Oper.upon] at h ⊢
      case value u => exact ⟨hY.put a u hy, by rw [← Act.put_comm a v u h2]; exact h⟩
      case skip => exact ⟨hY.put a _ hy, by rw [← Act.put_comm a v undef h2]; exact h⟩
      case defer d =>
        refine ⟨hY.put _ _ (hY.dfr a d hy), ?_⟩
        rw [← Act.put_comm _ v undef h2, ← Act.put_defers]
        exact h
      case enter f args =>
        refine Calls.mono h fun e w'' he => ?_
        cases e with
        | returned u => exact ⟨hY.put a u hy, by rw [← Act.put_comm a v u h2]; exact he⟩
        | panicked c => exact he
        | outgrown => exact he
      case row row args => exact Rows.mono h fun u w'' he => ⟨hY.put a u hy, by rw [← Act.put_comm a v u h2]; exact he⟩
    | halt x w' =>
      cases x <;> simp only [Oper.upon] at h ⊢
      case panic u => exact h
  · rename_i hw
    simp only [hw] at h
    exact ⟨hY.put a _ hy, by rw [← Act.put_comm a v undef h2]; exact h⟩
/-- Whatever order is picked from here on. Kinds: 0 reads, 1 is a call that stays in the class, 2 writes and stays in the class, 3 writes, with nothing left that reads. -/
def wpAnyM (P : Program) (md : Region.Mode) (ops : Array Oper) (C : World → Prop) (κ : Nat → Nat) (Q : Exit → Act → World → Prop) : Nat → Array Bool → Act → World → Prop
  | 0, listed, a, w => Region.ready md ops listed = [] ∧ Q .normal a w
  | f + 1, listed, a, w => (Region.ready md ops listed = [] → Q .normal a w) ∧ ∀ i ∈ Region.ready md ops listed,
      (κ i = 0 → pOp P ops C i (fun a' => wpAnyM P md ops C κ Q f (listed.setIfInBounds i true) a' w) a) ∧
      (κ i = 1 → qOp P ops C i (fun a' => ∀ w', C w' → wpAnyM P md ops C κ Q f (listed.setIfInBounds i true) a' w') a) ∧
      (2 ≤ κ i → wpOp P ops noQ i (fun a' w' => (κ i = 3 ∨ C w') ∧ wpAnyM P md ops C κ Q f (listed.setIfInBounds i true) a' w') a w)
def Closed (md : Region.Mode) (ops : Array Oper) (listed : Array Bool) : Prop := ∀ j oj, ops[j]? = some oj → listed.getD j false = true → ∀ e ∈ oj.after, Region.binds md e = true → listed.getD e.on false = true
theorem Closed.set {listed : Array Bool} (h : Closed md ops listed) {i : Nat} (hi : i ∈ Region.ready md ops listed) : Closed md ops (listed.setIfInBounds i true) := by
  obtain ⟨_, oi, hoi, hall⟩ := mem_ready.1 hi
  intro j oj hj hl e he hb
  by_cases hij : i = j
  · subst hij
    have : oj = oi := Option.some.inj (hj.symm.trans hoi)
    subst this
    exact getD_set_true (hall e he hb)
  · rw [getD_set_ne false hij] at hl
    exact getD_set_true (h j oj hj hl e he hb)
/-- Nothing is left that reads. -/
def RDone (ops : Array Oper) (κ : Nat → Nat) (listed : Array Bool) : Prop := ∀ j oj, ops[j]? = some oj → κ j ≤ 1 → listed.getD j false = true
theorem RDone.set {listed : Array Bool} (h : RDone ops κ listed) (i : Nat) : RDone ops κ (listed.setIfInBounds i true) := fun j oj hj hk => getD_set_true (h j oj hj hk)
theorem RDone.not {listed : Array Bool} (h : RDone ops κ listed) {i : Nat} (hi : i ∈ Region.ready md ops listed) (hk : κ i ≤ 1) : False := by
  obtain ⟨h0, oi, hoi, _⟩ := mem_ready.1 hi
  have := h i oi hoi hk
  rw [getD_both h0] at this
  cases this
/-- What a writing operation waits for. -/
structure Waits (md : Region.Mode) (ops : Array Oper) (κ : Nat → Nat) : Prop where
  fin : ∀ listed k, Closed md ops listed → k ∈ Region.ready md ops listed → κ k = 3 → RDone ops κ listed
  act : ∀ listed k, Closed md ops listed → k ∈ Region.ready md ops listed → 2 ≤ κ k → ∀ j oj, ops[j]? = some oj → κ j = 1 → listed.getD j false = true
theorem wpAny_of_M {Q : Exit → Act → World → Prop} (hW : Waits md ops κ) : ∀ (f : Nat) (listed : Array Bool) (a : Act) (w : World), Closed md ops listed → (C w ∨ RDone ops κ listed) → wpAnyM P md ops C κ Q f listed a w → wpAny P md ops Q f listed a w
  | 0, _, _, _, _, _, h => h
  | f + 1, listed, a, w, hc, hi, h => by
    refine ⟨h.1, fun i hr => ?_⟩
    obtain ⟨h0, h1, h2⟩ := h.2 i hr
    have hcs := hc.set hr
    rcases Nat.lt_or_ge (κ i) 2 with hk | hk
    · have hC : C w := by
        rcases hi with hi | hi
        · exact hi
        · exact (hi.not hr (by omega)).elim
      by_cases hk0 : κ i = 0
      · exact wpOp_of_pOp hC (fun a' h => wpAny_of_M hW f _ a' w hcs (.inl hC) h) (h0 hk0)
      · exact wpOp_of_qOp hC (fun a' w' hw' h => wpAny_of_M hW f _ a' w' hcs (.inl hw') (h w' hw')) (h1 (by omega))
    · refine wpOp_mono (fun a' w' h => wpAny_of_M hW f _ a' w' hcs ?_ h.2) (wpOp_of_noQ (h2 hk))
      rcases h.1 with h3 | h3
      · exact .inr ((hW.fin listed i hc hr h3).set i)
      · exact .inl h3
def YP (P : Program) (ops : Array Oper) (C : World → Prop) (o : Oper) (v : Value) (a : Act) : Prop :=
  (Region.wanted o (yielded ops a.tmps) = true ∧ ∀ w, C w → givesAt P o a w v) ∨ (Region.wanted o (yielded ops a.tmps) = false ∧ v = undef)
theorem YP.pOp {i : Nat} {o : Oper} {v : Value} {a : Act} (hi : ops[i]? = some o) (hy : YP P ops C o v a) {K : Act → Prop} (h : K (a.put o.dst v)) : pOp P ops C i K a := by
  unfold Go.Proofs.Ytegkogadceodlaa.pOp
  simp only [hi]
  rcases hy with ⟨hw, hv⟩ | ⟨hw, rfl⟩
  · simp only [hw, if_true]; exact ⟨v, hv, h⟩
  · simp only [hw, Bool.false_eq_true, if_false]; exact h
theorem YP.of_same {o : Oper} {v : Value} {a a' : Act} (hy : YP P ops C o v a) (he : execOp a'.eval o = execOp a.eval o)
    (hw : Region.wanted o (yielded ops a'.tmps) = Region.wanted o (yielded ops a.tmps)) : YP P ops C o v a' := by
  unfold YP givesAt at *
  rw [he, hw]
  exact hy
theorem yP_of_pOp {i : Nat} {o : Oper} {a : Act} {K : Act → Prop} (hi : ops[i]? = some o) (h : pOp P ops C i K a) : ∃ v, YP P ops C o v a ∧ K (a.put o.dst v) := by
  unfold pOp at h
  simp only [hi] at h
  by_cases hw : Region.wanted o (yielded ops a.tmps) = true
  · simp only [hw, if_true] at h
    obtain ⟨v, h1, h2⟩ := h
    exact ⟨v, .inl ⟨hw, h1⟩, h2⟩
  · simp only [hw] at h
    exact ⟨undef, .inr ⟨by simpa using hw, rfl⟩, h⟩
theorem keeps_YP {oi oj : Oper} {v : Value} (hsi : ∀ cs b, oi.op ≠ .select cs b) (hap : oi.apart ops oj = true) : Keeps (YP P ops C oi v) oj := by
  obtain ⟨_, _, h3⟩ := Oper.apart_spec hap
  exact ⟨fun a u hy => hy.of_same (execOp_put oi hsi a oj.dst u h3) (wanted_put oi a oj.dst u h3), fun a d hy => hy.of_same rfl rfl⟩
theorem keeps_YI {oi oj : Oper} {v : Value} (hsi : ∀ cs b, oi.op ≠ .select cs b) (hap : oi.apart ops oj = true) : Keeps (YieldsIn P ops C oi v) oj := by
  obtain ⟨_, _, h3⟩ := Oper.apart_spec hap
  exact ⟨fun a u hy => hy.of_same (execOp_put oi hsi a oj.dst u h3) (wanted_put oi a oj.dst u h3), fun a d hy => hy.of_same rfl rfl⟩
/-- What is known of the operations that are left, once one may be taken first. -/
def FreeAt (md : Region.Mode) (ops : Array Oper) (listed : Array Bool) (i : Nat) (oi : Oper) : Prop :=
  ∀ j oj, ops[j]? = some oj → j ≠ i → listed.getD j true = false → (∀ e ∈ oj.after, Region.binds md e = true → e.on ≠ i) → oi.apart ops oj = true
theorem FreeAt.set {listed : Array Bool} {i j : Nat} {oi : Oper} (h : FreeAt md ops listed i oi) (hj : listed.getD j true = false) : FreeAt md ops (listed.setIfInBounds j true) i oi := fun k ok hk hki hun hno => by
  refine h k ok hk hki ?_ hno
  by_cases hjk : j = k
  · subst hjk; exact hj
  · rw [getD_set_ne true hjk] at hun; exact hun
theorem FreeAt.apart {listed : Array Bool} {i j : Nat} {oi oj : Oper} (h : FreeAt md ops listed i oi) (hi : i ∈ Region.ready md ops listed) (hj : j ∈ Region.ready md ops listed) (hoj : ops[j]? = some oj) (hji : j ≠ i) : oi.apart ops oj = true := by
  obtain ⟨hjun, oj', hoj', hall⟩ := mem_ready.1 hj
  obtain rfl : oj' = oj := Option.some.inj (hoj'.symm.trans hoj)
  refine h j oj' hoj hji hjun fun e he hb heq => ?_
  have h1 := hall e he hb
  rw [heq, getD_both (mem_ready.1 hi).1] at h1
  cases h1
theorem first0 {Q : Exit → Act → World → Prop} (hW : Waits md ops κ) {i : Nat} {oi : Oper} {v : Value} (hi : ops[i]? = some oi) (hκ : κ i = 0) (hsel : ∀ (j : Nat) (o : Oper) cs b, ops[j]? = some o → o.op ≠ .select cs b) :
    ∀ (f : Nat) (listed : Array Bool) (a : Act) (w : World), Closed md ops listed → FreeAt md ops listed i oi → i ∈ Region.ready md ops listed → C w → YP P ops C oi v a →
      wpAnyM P md ops C κ Q f (listed.setIfInBounds i true) (a.put oi.dst v) w → wpAnyM P md ops C κ Q (f + 1) listed a w := by
  intro f
  induction f with
  | zero =>
    intro listed a w hc hf hr hC hy H
    refine ⟨fun h => (by rw [h] at hr; cases hr), fun j hj => ?_⟩
    by_cases hji : j = i
    · subst hji
      exact ⟨fun _ => hy.pOp hi H, fun h => by omega, fun h => by omega⟩
    · have := ready_mono hj hji
      rw [H.1] at this
      cases this
  | succ f ih =>
    intro listed a w hc hf hr hC hy H
    refine ⟨fun h => (by rw [h] at hr; cases hr), fun j hj => ?_⟩
    by_cases hji : j = i
    · subst hji
      exact ⟨fun _ => hy.pOp hi H, fun h => by omega, fun h => by omega⟩
    · obtain ⟨h0, h1, h2⟩ := H.2 j (ready_mono hj hji)
      obtain ⟨hjun, oj, hoj, _⟩ := mem_ready.1 hj
      have hap := hf.apart hr hj hoj hji
      have hsi := fun cs b => hsel i oi cs b hi
      have hsj := fun cs b => hsel j oj cs b hoj
      have hcs := hc.set hj
      have hfs := hf.set hjun
      have hrs := ready_mono hr (Ne.symm hji)
      refine ⟨fun hk => ?_, fun hk => ?_, fun hk => ?_⟩
      · refine pOp_mono (fun a' h3 => ih _ a' w hcs hfs hrs hC h3.1 ?_) (pOp_put hoj hap hsj (keeps_YP hsi hap) hy (h0 hk))
        rw [Array.setIfInBounds_comm _ _ hji]
        exact h3.2
      · refine qOp_mono (fun a' h3 w' hw' => ih _ a' w' hcs hfs hrs hw' h3.1 ?_) (qOp_putY hoj hap hsj (keeps_YP hsi hap) hy (h1 hk))
        rw [Array.setIfInBounds_comm _ _ hji]
        exact h3.2 w' hw'
      · refine wpOp_mono (fun a' w' h3 => ⟨h3.2.1, ?_⟩) (wpOp_putY hoj hap hsj (keeps_YP hsi hap) hy (h2 hk))
        have hw' : C w' := by
          rcases h3.2.1 with h4 | h4
          · exact ((hW.fin listed j hc hj h4).not hr (by omega)).elim
          · exact h4
        refine ih _ a' w' hcs hfs hrs hw' h3.1 ?_
        rw [Array.setIfInBounds_comm _ _ hji]
        exact h3.2.2
theorem pOp_all {j : Nat} {oj : Oper} (hj : ops[j]? = some oj) {a : Act} {K : Act → World → Prop} {w : World} (hC : C w) (h : ∀ w', C w' → pOp P ops C j (fun a' => K a' w') a) : pOp P ops C j (fun a' => ∀ w', C w' → K a' w') a := by
  unfold pOp at *
  simp only [hj] at *
  split
  · rename_i hw
    simp only [hw, if_true] at h
    obtain ⟨v, h1, _⟩ := h w hC
    refine ⟨v, h1, fun w' hw' => ?_⟩
    obtain ⟨v', h3, h4⟩ := h w' hw'
    have e := (h1 w hC).symm.trans (h3 w hC)
    obtain rfl : v = v' := by simpa using e
    exact h4
  · rename_i hw
    simp only [hw] at h
    exact h
theorem first1 {Q : Exit → Act → World → Prop} (hW : Waits md ops κ) {i : Nat} {oi : Oper} {v : Value} (hi : ops[i]? = some oi) (hκ : κ i = 1) (hsel : ∀ (j : Nat) (o : Oper) cs b, ops[j]? = some o → o.op ≠ .select cs b) :
    ∀ (f : Nat) (listed : Array Bool) (a : Act), Closed md ops listed → FreeAt md ops listed i oi → i ∈ Region.ready md ops listed → YieldsIn P ops C oi v a →
      (∀ w, C w → wpAnyM P md ops C κ Q f (listed.setIfInBounds i true) (a.put oi.dst v) w) → ∀ w, C w → wpAnyM P md ops C κ Q (f + 1) listed a w := by
  intro f
  induction f with
  | zero =>
    intro listed a hc hf hr hy H w hC
    refine ⟨fun h => (by rw [h] at hr; cases hr), fun j hj => ?_⟩
    by_cases hji : j = i
    · subst hji
      exact ⟨fun h => by omega, fun _ => hy.qOp hi H, fun h => by omega⟩
    · have := ready_mono hj hji
      rw [(H w hC).1] at this
      cases this
  | succ f ih =>
    intro listed a hc hf hr hy H w hC
    refine ⟨fun h => (by rw [h] at hr; cases hr), fun j hj => ?_⟩
    by_cases hji : j = i
    · subst hji
      exact ⟨fun h => by omega, fun _ => hy.qOp hi H, fun h => by omega⟩
    · obtain ⟨hjun, oj, hoj, _⟩ := mem_ready.1 hj
      have hap := hf.apart hr hj hoj hji
      have hsi := fun cs b => hsel i oi cs b hi
      have hsj := fun cs b => hsel j oj cs b hoj
      have hcs := hc.set hj
      have hfs := hf.set hjun
      have hrs := ready_mono hr (Ne.symm hji)
      refine ⟨fun hk => ?_, fun hk => ?_, fun hk => ?_⟩
      · have hall := pOp_all hoj hC (fun w' hw' => ((H w' hw').2 j (ready_mono hj hji)).1 hk)
        refine pOp_mono (fun a' h3 => ih _ a' hcs hfs hrs h3.1 (fun w' hw' => ?_) w hC) (pOp_put hoj hap hsj (keeps_YI hsi hap) hy hall)
        rw [Array.setIfInBounds_comm _ _ hji]
        exact h3.2 w' hw'
      · refine qOp_mono (fun a' h3 w' hw' => ih _ a' hcs hfs hrs h3.1 (fun w'' hw'' => ?_) w' hw') (qOp_putY hoj hap hsj (keeps_YI hsi hap) hy (((H w hC).2 j (ready_mono hj hji)).2.1 hk))
        rw [Array.setIfInBounds_comm _ _ hji]
        exact h3.2 w'' hw''
      · have := hW.act listed j hc hj hk i oi hi hκ
        rw [getD_both (mem_ready.1 hr).1] at this
        cases this
/-- The writing ones, one behind another. -/
def wpSeqM (P : Program) (ops : Array Oper) (C : World → Prop) (κ : Nat → Nat) (Q : Exit → Act → World → Prop) : List Nat → Act → World → Prop
  | [], a, w => Q .normal a w
  | k :: r, a, w => wpOp P ops noQ k (fun a' w' => (κ k = 3 ∨ C w') ∧ wpSeqM P ops C κ Q r a' w') a w
def seqMB (md : Region.Mode) (ops : Array Oper) (κ : Nat → Nat) : List Nat → Array Bool → Bool
  | [], listed => (Region.ready md ops listed).isEmpty
  | k :: r, listed => decide (Region.ready md ops listed = [k]) && decide (2 ≤ κ k) && seqMB md ops κ r (listed.setIfInBounds k true)
theorem anyM_of_seq {Q : Exit → Act → World → Prop} : ∀ (l : List Nat) (listed : Array Bool) (a : Act) (w : World), seqMB md ops κ l listed = true → wpSeqM P ops C κ Q l a w → wpAnyM P md ops C κ Q l.length listed a w
  | [], _, _, _, hB, h => ⟨by simpa [seqMB] using hB, h⟩
  | k :: r, listed, a, w, hB, h => by
    simp only [seqMB, Bool.and_eq_true, decide_eq_true_eq] at hB
    obtain ⟨⟨hr, hk⟩, hB⟩ := hB
    refine ⟨fun h0 => (by rw [hr] at h0; cases h0), fun i hi => ?_⟩
    rw [hr] at hi
    obtain rfl : i = k := by simpa using hi
    exact ⟨fun h => by omega, fun h => by omega, fun _ => wpOp_mono (fun a' w' h' => ⟨h'.1, anyM_of_seq r _ a' w' hB h'.2⟩) h⟩
def lexMB (md : Region.Mode) (ops : Array Oper) (κ : Nat → Nat) (l2 : List Nat) : List Nat → Array Bool → Bool
  | [], listed => seqMB md ops κ l2 listed
  | i :: r, listed => (Region.ready md ops listed).contains i && Region.free md ops listed i && (match ops[i]? with | some o => (κ i == 0 && plainB o) || κ i == 1 | none => false) && lexMB md ops κ l2 r (listed.setIfInBounds i true)
/-- The operations of these numbers. -/
def opsAt (ops : Array Oper) (l : List Nat) : List Oper := l.filterMap fun i => ops[i]?
theorem anyM_lex {Q : Exit → Act → World → Prop} (hW : Waits md ops κ) (hs : Region.noSelect ops = true) (l2 : List Nat) : ∀ (l : List Nat) (listed : Array Bool) (a : Act), Closed md ops listed → lexMB md ops κ l2 l listed = true →
    wpQuiet P ops C (fun a' => ∀ w', C w' → wpSeqM P ops C κ Q l2 a' w') (opsAt ops l) a → ∀ w, C w → wpAnyM P md ops C κ Q (l.length + l2.length) listed a w
  | [], listed, a, _, hB, h, w, hC => by
    rw [List.length_nil, Nat.zero_add]
    exact anyM_of_seq l2 listed a w (by simpa [lexMB] using hB) (h w hC)
  | i :: r, listed, a, hc, hB, h, w, hC => by
    simp only [lexMB, Bool.and_eq_true] at hB
    obtain ⟨⟨⟨hr, hf⟩, hk⟩, hB⟩ := hB
    have hr' : i ∈ Region.ready md ops listed := by simpa using hr
    obtain ⟨_, oi, hi, _⟩ := mem_ready.1 hr'
    have hfa : FreeAt md ops listed i oi := Region.free_spec hi hf
    simp only [hi, Bool.or_eq_true, Bool.and_eq_true, beq_iff_eq] at hk
    have hq : qOp P ops C i (wpQuiet P ops C (fun a' => ∀ w', C w' → wpSeqM P ops C κ Q l2 a' w') (opsAt ops r)) a := by
      unfold qOp
      simp only [hi]
      unfold opsAt at h
      rw [List.filterMap_cons, hi] at h
      exact h
    rw [List.length_cons, show r.length + 1 + l2.length = r.length + l2.length + 1 by omega]
    rcases hk with ⟨hk, hp⟩ | hk
    · obtain ⟨v, hy, hK⟩ := yP_of_pOp hi (pOp_of_qOp hi hp hq)
      exact first0 hW hi hk (Region.noSelect_spec hs) _ listed a w hc hfa hr' hC hy (anyM_lex hW hs l2 r _ _ (hc.set hr') hB hK w hC)
    · obtain ⟨v, hy, hK⟩ := yieldsIn_of_qOp hi hq
      exact first1 hW hi hk (Region.noSelect_spec hs) _ listed a hc hfa hr' hy (anyM_lex hW hs l2 r _ _ (hc.set hr') hB hK) w hC
/-- The same where nothing but readings goes ahead: the world stays as it was. -/
theorem anyM_lex0 {Q : Exit → Act → World → Prop} (hW : Waits md ops κ) (hs : Region.noSelect ops = true) (l2 : List Nat) : ∀ (l : List Nat) (listed : Array Bool) (a : Act) (w : World), Closed md ops listed → lexMB md ops κ l2 l listed = true → (l.all fun i => κ i == 0) = true →
    C w → wpQuiet P ops C (fun a' => wpSeqM P ops C κ Q l2 a' w) (opsAt ops l) a → wpAnyM P md ops C κ Q (l.length + l2.length) listed a w
  | [], listed, a, w, _, hB, _, _, h => by
    rw [List.length_nil, Nat.zero_add]
    exact anyM_of_seq l2 listed a w (by simpa [lexMB] using hB) h
  | i :: r, listed, a, w, hc, hB, h0, hC, h => by
    simp only [lexMB, Bool.and_eq_true] at hB
    obtain ⟨⟨⟨hr, hf⟩, hk⟩, hB⟩ := hB
    have hr' : i ∈ Region.ready md ops listed := by simpa using hr
    obtain ⟨_, oi, hi, _⟩ := mem_ready.1 hr'
    have hfa : FreeAt md ops listed i oi := Region.free_spec hi hf
    simp only [hi, Bool.or_eq_true, Bool.and_eq_true, beq_iff_eq] at hk
    simp only [List.all_cons, Bool.and_eq_true, beq_iff_eq] at h0
    have hq : qOp P ops C i (wpQuiet P ops C (fun a' => wpSeqM P ops C κ Q l2 a' w) (opsAt ops r)) a := by
      unfold qOp
      simp only [hi]
      unfold opsAt at h
      rw [List.filterMap_cons, hi] at h
      exact h
    rw [List.length_cons, show r.length + 1 + l2.length = r.length + l2.length + 1 by omega]
    rcases hk with ⟨_, hp⟩ | hk
    · obtain ⟨v, hy, hK⟩ := yP_of_pOp hi (pOp_of_qOp hi hp hq)
      exact first0 hW hi h0.1 (Region.noSelect_spec hs) _ listed a w hc hfa hr' hC hy (anyM_lex0 hW hs l2 r _ _ w (hc.set hr') hB h0.2 hC hK)
    · omega
/-- Does an operation wait for another one, at once or by others? -/
def reachB (md : Region.Mode) (ops : Array Oper) : Nat → Nat → Nat → Bool
  | 0, _, _ => false
  | f + 1, j, i => match ops[j]? with
    | some oj => (oj.after.any fun e => Region.binds md e && e.on == i) || oj.after.any fun e => Region.binds md e && reachB md ops f e.on i
    | none => false
theorem reach_listed {listed : Array Bool} (hc : Closed md ops listed) : ∀ (f j i : Nat), listed.getD j false = true → reachB md ops f j i = true → listed.getD i false = true
  | 0, _, _, _, h => by cases h
  | f + 1, j, i, hj, h => by
    unfold reachB at h
    split at h
    · rename_i oj hoj
      rw [Bool.or_eq_true] at h
      rcases h with h | h
      · obtain ⟨e, he, hb⟩ := Array.any_eq_true'.1 h
        simp only [Bool.and_eq_true, beq_iff_eq] at hb
        rw [← hb.2]
        exact hc j oj hoj hj e he hb.1
      · obtain ⟨e, he, hb⟩ := Array.any_eq_true'.1 h
        simp only [Bool.and_eq_true] at hb
        exact reach_listed hc f e.on i (hc j oj hoj hj e he hb.1) hb.2
    · cases h
theorem reach_ready {listed : Array Bool} (hc : Closed md ops listed) {f k i : Nat} (hk : k ∈ Region.ready md ops listed) (h : reachB md ops f k i = true) : listed.getD i false = true := by
  obtain ⟨_, ok, hok, hall⟩ := mem_ready.1 hk
  cases f with
  | zero => cases h
  | succ f =>
    unfold reachB at h
    rw [hok] at h
    dsimp only at h
    rw [Bool.or_eq_true] at h
    rcases h with h | h
    · obtain ⟨e, he, hb⟩ := Array.any_eq_true'.1 h
      simp only [Bool.and_eq_true, beq_iff_eq] at hb
      rw [← hb.2]
      exact hall e he hb.1
    · obtain ⟨e, he, hb⟩ := Array.any_eq_true'.1 h
      simp only [Bool.and_eq_true] at hb
      exact reach_listed hc f e.on i (hall e he hb.1) hb.2
def waitsB (md : Region.Mode) (ops : Array Oper) (κ : Nat → Nat) : Bool := (List.range ops.size).all fun k => decide (κ k < 2) || (List.range ops.size).all fun j => (decide (2 ≤ κ j) || (κ j == 0 && κ k != 3)) || reachB md ops ops.size k j
theorem waits_of (h : waitsB md ops κ = true) : Waits md ops κ := by
  have key : ∀ listed k, Closed md ops listed → k ∈ Region.ready md ops listed → 2 ≤ κ k → ∀ j oj, ops[j]? = some oj → (κ j = 1 ∨ (κ j ≤ 1 ∧ κ k = 3)) → listed.getD j false = true := by
    intro listed k hc hk h2 j oj hoj hj
    have hkl := (Array.getElem?_eq_some_iff.1 (mem_ready.1 hk).2.choose_spec.1).1
    have hjl := (Array.getElem?_eq_some_iff.1 hoj).1
    have h1 := List.all_eq_true.1 h k (List.mem_range.2 hkl)
    simp only [Bool.or_eq_true, decide_eq_true_eq] at h1
    rcases h1 with h1 | h1
    · omega
    · have h3 := List.all_eq_true.1 h1 j (List.mem_range.2 hjl)
      simp only [Bool.or_eq_true, decide_eq_true_eq, Bool.and_eq_true, beq_iff_eq, bne_iff_ne] at h3
      rcases h3 with (h3 | h3) | h3
      · omega
      · omega
      · exact reach_ready hc hk h3
  exact ⟨fun listed k hc hk h3 j oj hoj hj => key listed k hc hk (by omega) j oj hoj (.inr ⟨hj, h3⟩), fun listed k hc hk h2 j oj hoj hj => key listed k hc hk h2 j oj hoj (.inl hj)⟩
def mixB (md : Region.Mode) (ops : Array Oper) (κ : Nat → Nat) (l1 l2 : List Nat) : Bool := Region.noSelect ops && decide (l1.length + l2.length = ops.size) && waitsB md ops κ && lexMB md ops κ l2 l1 (Array.replicate ops.size false)
theorem wp_region_mix {id : Nat} {Q : Exit → Act → World → Prop} {a : Act} {w : World} {l : List Oper} (κ : Nat → Nat) (l1 l2 : List Nat) (C : World → Prop) (hm : P.follows .mixedOrders = true) (hB : mixB .any l.toArray κ l1 l2 = true) (hC : C { w with drawn := w.drawn + 1 })
    (h : wpQuiet P l.toArray C (fun a' => ∀ w', C w' → wpSeqM P l.toArray C κ Q l2 a' w') (opsAt l.toArray l1) a) : (Code.region id l.toArray true).wp P Q a w := by
  simp only [mixB, Bool.and_eq_true, decide_eq_true_eq] at hB
  obtain ⟨⟨⟨hs, hn⟩, hw⟩, hB⟩ := hB
  have hW := waits_of hw
  have hc : Closed .any l.toArray (Array.replicate l.toArray.size false) := fun j oj _ hl => by rw [getD_replicate_false] at hl; cases hl
  have H := anyM_lex (Q := Q) hW hs l2 l1 _ a hc hB h _ hC
  rw [hn] at H
  exact wp_region_any hm (wpAny_of_M hW _ _ _ _ hc (.inl hC) H)
theorem wp_region_mix0 {id : Nat} {Q : Exit → Act → World → Prop} {a : Act} {w : World} {l : List Oper} (κ : Nat → Nat) (l1 l2 : List Nat) (C : World → Prop) (hm : P.follows .mixedOrders = true) (hB : (mixB .any l.toArray κ l1 l2 && l1.all fun i => κ i == 0) = true) (hC : C { w with drawn := w.drawn + 1 })
    (h : wpQuiet P l.toArray C (fun a' => wpSeqM P l.toArray C κ Q l2 a' { w with drawn := w.drawn + 1 }) (opsAt l.toArray l1) a) : (Code.region id l.toArray true).wp P Q a w := by
  rw [Bool.and_eq_true] at hB
  obtain ⟨hB, h0⟩ := hB
  simp only [mixB, Bool.and_eq_true, decide_eq_true_eq] at hB
  obtain ⟨⟨⟨hs, hn⟩, hw⟩, hB⟩ := hB
  have hW := waits_of hw
  have hc : Closed .any l.toArray (Array.replicate l.toArray.size false) := fun j oj _ hl => by rw [getD_replicate_false] at hl; cases hl
  have H := anyM_lex0 (Q := Q) hW hs l2 l1 _ a _ hc hB h0 hC h
  rw [hn] at H
  exact wp_region_any hm (wpAny_of_M hW _ _ _ _ hc (.inl hC) H)
/-- What is left, in every order in which it may come. -/
def wpFreeM (P : Program) (md : Region.Mode) (ops : Array Oper) (C : World → Prop) (κ : Nat → Nat) (Q : Exit → Act → World → Prop) : Nat → Array Bool → Act → World → Prop
  | 0, _, a, w => Q .normal a w
  | n + 1, listed, a, w => ∀ k ∈ Region.ready md ops listed, wpOp P ops noQ k (fun a' w' => (κ k = 3 ∨ C w') ∧ wpFreeM P md ops C κ Q n (listed.setIfInBounds k true) a' w') a w
def freeMB (md : Region.Mode) (ops : Array Oper) (κ : Nat → Nat) : Nat → Array Bool → Bool
  | 0, listed => (Region.ready md ops listed).isEmpty
  | n + 1, listed => !(Region.ready md ops listed).isEmpty && (Region.ready md ops listed).all fun k => decide (2 ≤ κ k) && freeMB md ops κ n (listed.setIfInBounds k true)
theorem anyM_of_free {Q : Exit → Act → World → Prop} : ∀ (n : Nat) (listed : Array Bool) (a : Act) (w : World), freeMB md ops κ n listed = true → wpFreeM P md ops C κ Q n listed a w → wpAnyM P md ops C κ Q n listed a w
  | 0, _, _, _, hB, h => ⟨by simpa [freeMB] using hB, h⟩
  | n + 1, listed, a, w, hB, h => by
    simp only [freeMB, Bool.and_eq_true, List.all_eq_true, decide_eq_true_eq] at hB
    obtain ⟨h1, hB⟩ := hB
    refine ⟨fun h0 => (by rw [h0] at h1; cases h1), fun i hi => ?_⟩
    have hk := hB i hi
    exact ⟨fun h => by omega, fun h => by omega, fun _ => wpOp_mono (fun a' w' h' => ⟨h'.1, anyM_of_free n _ a' w' hk.2 h'.2⟩) (h i hi)⟩
def lexFB (md : Region.Mode) (ops : Array Oper) (κ : Nat → Nat) (n : Nat) : List Nat → Array Bool → Bool
  | [], listed => freeMB md ops κ n listed
  | i :: r, listed => (Region.ready md ops listed).contains i && Region.free md ops listed i && (match ops[i]? with | some o => (κ i == 0 && plainB o) || κ i == 1 | none => false) && lexFB md ops κ n r (listed.setIfInBounds i true)
theorem anyM_lexF {Q : Exit → Act → World → Prop} (hW : Waits md ops κ) (hs : Region.noSelect ops = true) (n : Nat) : ∀ (l : List Nat) (listed : Array Bool) (a : Act) (w : World), Closed md ops listed → lexFB md ops κ n l listed = true → (l.all fun i => κ i == 0) = true →
    C w → wpQuiet P ops C (fun a' => wpFreeM P md ops C κ Q n (l.foldl (fun s i => s.setIfInBounds i true) listed) a' w) (opsAt ops l) a → wpAnyM P md ops C κ Q (l.length + n) listed a w
  | [], listed, a, w, _, hB, _, _, h => by
    rw [List.length_nil, Nat.zero_add]
    exact anyM_of_free n listed a w (by simpa [lexFB] using hB) h
  | i :: r, listed, a, w, hc, hB, h0, hC, h => by
    simp only [lexFB, Bool.and_eq_true] at hB
    obtain ⟨⟨⟨hr, hf⟩, hk⟩, hB⟩ := hB
    have hr' : i ∈ Region.ready md ops listed := by simpa using hr
    obtain ⟨_, oi, hi, _⟩ := mem_ready.1 hr'
    have hfa : FreeAt md ops listed i oi := Region.free_spec hi hf
    simp only [hi, Bool.or_eq_true, Bool.and_eq_true, beq_iff_eq] at hk
    simp only [List.all_cons, Bool.and_eq_true, beq_iff_eq] at h0
    have hq : qOp P ops C i (wpQuiet P ops C (fun a' => wpFreeM P md ops C κ Q n (r.foldl (fun s i => s.setIfInBounds i true) (listed.setIfInBounds i true)) a' w) (opsAt ops r)) a := by
      unfold qOp
      simp only [hi]
      unfold opsAt at h
      rw [List.filterMap_cons, hi, List.foldl_cons] at h
      exact h
    rw [List.length_cons, show r.length + 1 + n = r.length + n + 1 by omega]
    rcases hk with ⟨_, hp⟩ | hk
    · obtain ⟨v, hy, hK⟩ := yP_of_pOp hi (pOp_of_qOp hi hp hq)
      exact first0 hW hi h0.1 (Region.noSelect_spec hs) _ listed a w hc hfa hr' hC hy (anyM_lexF hW hs n r _ _ w (hc.set hr') hB h0.2 hC hK)
    · omega
def mixFB (md : Region.Mode) (ops : Array Oper) (κ : Nat → Nat) (l1 : List Nat) (n : Nat) : Bool := Region.noSelect ops && decide (l1.length + n = ops.size) && waitsB md ops κ && lexFB md ops κ n l1 (Array.replicate ops.size false) && l1.all fun i => κ i == 0
/-- A region that draws its order: its readings first; then what writes, in every order that is left. -/
theorem wp_region_mixF {id : Nat} {Q : Exit → Act → World → Prop} {a : Act} {w : World} {l : List Oper} (κ : Nat → Nat) (l1 : List Nat) (n : Nat) (C : World → Prop) (hm : P.follows .mixedOrders = true) (hB : mixFB .any l.toArray κ l1 n = true) (hC : C { w with drawn := w.drawn + 1 })
    (h : wpQuiet P l.toArray C (fun a' => wpFreeM P .any l.toArray C κ Q n (l1.foldl (fun s i => s.setIfInBounds i true) (Array.replicate l.toArray.size false)) a' { w with drawn := w.drawn + 1 }) (opsAt l.toArray l1) a) : (Code.region id l.toArray true).wp P Q a w := by
  simp only [mixFB, Bool.and_eq_true, decide_eq_true_eq] at hB
  obtain ⟨⟨⟨⟨hs, hn⟩, hw⟩, hB⟩, h0⟩ := hB
  have hW := waits_of hw
  have hc : Closed .any l.toArray (Array.replicate l.toArray.size false) := fun j oj _ hl => by rw [getD_replicate_false] at hl; cases hl
  have H := anyM_lexF (Q := Q) hW hs n l1 _ a _ hc hB h0 hC h
  rw [hn] at H
  exact wp_region_any hm (wpAny_of_M hW _ _ _ _ hc (.inl hC) H)
/-- Each of some operations next. -/
def wpAllM (P : Program) (md : Region.Mode) (ops : Array Oper) (C : World → Prop) (κ : Nat → Nat) (Q : Exit → Act → World → Prop) (n : Nat) (listed : Array Bool) (a : Act) (w : World) : List Nat → Prop
  | [] => True
  | k :: r => wpOp P ops noQ k (fun a' w' => (κ k = 3 ∨ C w') ∧ wpFreeM P md ops C κ Q n (listed.setIfInBounds k true) a' w') a w ∧ wpAllM P md ops C κ Q n listed a w r
theorem wpAllM_mem {Q : Exit → Act → World → Prop} {n : Nat} {listed : Array Bool} {a : Act} {w : World} : ∀ {rs : List Nat}, wpAllM P md ops C κ Q n listed a w rs → ∀ k ∈ rs, wpOp P ops noQ k (fun a' w' => (κ k = 3 ∨ C w') ∧ wpFreeM P md ops C κ Q n (listed.setIfInBounds k true) a' w') a w
  | [], _, k, hk => by cases hk
  | x :: r, h, k, hk => by
    rcases List.mem_cons.1 hk with rfl | hk
    · exact h.1
    · exact wpAllM_mem h.2 k hk
theorem wpFreeM_step {Q : Exit → Act → World → Prop} {n : Nat} {listed : Array Bool} {a : Act} {w : World} (rs : List Nat) (hr : Region.ready md ops listed = rs) (h : wpAllM P md ops C κ Q n listed a w rs) : wpFreeM P md ops C κ Q (n + 1) listed a w := fun k hk => wpAllM_mem h k (hr ▸ hk)
/-- A writing one, as a list of one. -/
theorem wpOp_of_list {k : Nat} {o : Oper} {K : Act → World → Prop} {a : Act} {w : World} (hk : ops[k]? = some o) (h : wpList P ops (fun ex a' w' => ex = .normal ∧ K a' w') [o] a w) : wpOp P ops noQ k K a w := by
  unfold wpOp
  simp only [hk]
  unfold wpList at h
  split
  · rename_i hw
    simp only [hw, if_true] at h
    rcases h with h | ⟨_, _, _, h, _⟩
    case inr => cases h
    left
    unfold Oper.wp at *
    generalize (execOp a.eval o).run P w = r at *
    cases r with
    | ok n w' =>
      cases n <;> simp only [Oper.upon] at h ⊢
      case value u => exact h.2
      case skip => exact h.2
      case defer d => exact h.2
      case enter f args =>
        refine Calls.mono h fun e w'' he => ?_
        cases e with
        | returned u => exact he.2
        | panicked c => cases he.1
        | outgrown =>
          obtain ⟨_, _, h, _⟩ := he
          cases h
      case row row args => exact Rows.mono h fun _ _ he => he.2
    | halt x w' =>
      cases x <;> simp only [Oper.upon] at h ⊢
      case panic u => cases h.1
  · rename_i hw
    simp only [hw] at h
    exact h.2
theorem wpSeqM_step {Q : Exit → Act → World → Prop} {k : Nat} {r : List Nat} {o : Oper} {a : Act} {w : World} (hk : ops[k]? = some o)
    (h : wpList P ops (fun ex a' w' => ex = .normal ∧ (κ k = 3 ∨ C w') ∧ wpSeqM P ops C κ Q r a' w') [o] a w) : wpSeqM P ops C κ Q (k :: r) a w := wpOp_of_list hk h
end
end Go.Proofs.Ytegkogadceodlaa

namespace Go.Proofs.Ytegkogadceodlaa
open Go.RowKit Go.Shelf Go.Lib

theorem cells_new (w : World) (cs : Array Value) (t : Nat) : Cells (w.alloc (.cells cs t)) w.heap.size t cs := World.alloc_heap_new w _
theorem Cells.on {W W' : World} {g t : Nat} {cs : Array Value} (h : Cells W g t cs) (hb : Below W.heap.size W W') : Cells W' g t cs := (hb.block _ h.lt).trans h
theorem Cells.froz {W : World} {g t : Nat} {cs : Array Value} (h : Cells W g t cs) (i : Nat) : W.frozen? ⟨g, i, none⟩ = false := by
  simp [World.frozen?, show W.heap[g]? = _ from h]
theorem Cells.set {W : World} {g t : Nat} {cs : Array Value} (h : Cells W g t cs) (i : Nat) (v : Value) : Cells (W.setCell ⟨g, i, none⟩ v) g t (cs.setIfInBounds i v) := by
  unfold Cells World.setCell
  simp only [Array.getElem?_modify, if_true]
  rw [show W.heap[g]? = _ from h]
  rfl
theorem _root_.Go.RowKit.Below.setc {B : Nat} {w w' : World} (h : Below B w w') {j : Nat} (hj : B ≤ j) (i : Nat) (x : Value) : Below B w (w'.setCell ⟨j, i, none⟩ x) := h.setCell (p := ⟨j, i, none⟩) hj x
/-- Of what was there only some blocks may have turned. -/
structure Fz (X : Nat → Prop) (w w' : World) : Prop where
  os : w'.os = w.os
  tape : w'.tape = w.tape
  output : w'.output = w.output
  size : w.heap.size ≤ w'.heap.size
  block : ∀ k, k < w.heap.size → ¬ X k → w'.heap[k]? = w.heap[k]?
theorem Fz.refl (X : Nat → Prop) (w : World) : Fz X w w := ⟨rfl, rfl, rfl, Nat.le_refl _, fun _ _ _ => rfl⟩
theorem Fz.trans {X : Nat → Prop} {a b c : World} (h : Fz X a b) (k : Fz X b c) : Fz X a c :=
  ⟨k.os.trans h.os, k.tape.trans h.tape, k.output.trans h.output, Nat.le_trans h.size k.size, fun i hi hn => (k.block i (Nat.lt_of_lt_of_le hi h.size) hn).trans (h.block i hi hn)⟩
theorem Fz.of_below {X : Nat → Prop} {a b : World} (h : Below a.heap.size a b) : Fz X a b := ⟨h.os, h.tape, h.output, h.size, fun k hk _ => h.block k hk⟩
theorem Fz.of_grown {X : Nat → Prop} {a b : World} {o : Option Nat} (h : a.grownBy b o) (hx : ∀ k, o = some k → X k) : Fz X a b :=
  ⟨h.os, h.tape, h.output, h.size, fun k hk hn => h.block k hk (fun e => hn (hx k e.symm))⟩
theorem Fz.mono {X Y : Nat → Prop} {a b : World} (h : Fz X a b) (hxy : ∀ k, X k → Y k) : Fz Y a b := ⟨h.os, h.tape, h.output, h.size, fun k hk hn => h.block k hk (fun hx => hn (hxy k hx))⟩
theorem Fz.below {X : Nat → Prop} {a b : World} {B : Nat} (h : Fz X a b) (hB : B ≤ a.heap.size) (hX : ∀ k, k < B → ¬ X k) : Below B a b := ⟨h.os, h.tape, h.output, h.size, fun k hk => h.block k (by omega) (hX k hk)⟩
theorem Fz.set {X : Nat → Prop} (w : World) (b i : Nat) (v : Value) (hb : X b) : Fz X w (w.setCell ⟨b, i, none⟩ v) :=
  ⟨rfl, rfl, rfl, by simp, fun k _ hn => by
    have : b ≠ k := fun e => hn (e ▸ hb)
    simp [World.setCell, Array.getElem?_modify, this]⟩
theorem Fz.drew {X : Nat → Prop} (w : World) : Fz X w { w with drawn := w.drawn + 1 } := ⟨rfl, rfl, rfl, Nat.le_refl _, fun _ _ _ => rfl⟩
theorem Fz.cells {X : Nat → Prop} {w w' : World} {g t : Nat} {cs : Array Value} (h : Fz X w w') (hX : ¬ X g) (hc : Cells w g t cs) : Cells w' g t cs := (h.block _ hc.lt hX).trans hc
/-- A later world, in which only some blocks may have turned: for the walk's simp one thing. -/
structure Later (X : Nat → Prop) (w : World) where
  W : World
  h : Fz X w W
instance later_nonempty (X : Nat → Prop) (w : World) : Nonempty (Later X w) := ⟨⟨w, Fz.refl _ _⟩⟩
theorem cell_later {X : Nat → Prop} {w : World} {b o : Nat} {v : Value} (h : w.cell? ⟨b, o, none⟩ = some v) (hX : ¬ X b) (p : Later X w) : p.W.cell? ⟨b, o, none⟩ = some v :=
  (World.cell?_of_block (a := ⟨b, o, none⟩) (p.h.block b (block_lt_of_cell h) hX)).trans h
end Go.Proofs.Ytegkogadceodlaa

namespace Go.Proofs.Ytegkogadceodlaa
open Go.RowKit Go.Shelf Go.Lib

def isC (n : Int) : Bool := decide (0 ≤ n) && decide (n < 36)
/-- Has a node a class and so many parts as its kind asks? -/
def shapedK (k c : Int) (n : Nat) : Bool :=
  if k = 0 ∨ k = 2 then isC c && decide (n = 0)
  else if k = 1 ∨ k = 3 ∨ k = 9 then decide (c = 0) && decide (n = 0)
  else if k = 4 ∨ k = 5 then decide (c = 0) && decide (2 ≤ n)
  else if k = 6 ∨ k = 7 ∨ k = 8 then decide (c = 0) && decide (n = 1)
  else false
theorem isClass_any (n : Int) (w : World) : Calls Try.prog 87 #[.int .i64 n] w fun r w' => r = .returned (.bool (isC n)) ∧ w' = w := by
  unfold isC
  by_cases h0 : 0 ≤ n
  · by_cases h1 : n < 36
    · rw [decide_eq_true h0, decide_eq_true h1]
      go_enter Try.func87, Try.ntmps87
      go_wp2
      go_ret
      exact ⟨rfl, rfl⟩
    · have h1' : decide (n < 36) = false := by simp; omega
      rw [decide_eq_true h0, h1']
      go_enter Try.func87, Try.ntmps87
      go_wp2
      go_ret
      exact ⟨rfl, rfl⟩
  · have h0' : decide (0 ≤ n) = false := by simp; omega
    rw [h0']
    go_enter Try.func87, Try.ntmps87
    go_wp2
    go_ret
    exact ⟨rfl, rfl⟩
end Go.Proofs.Ytegkogadceodlaa

namespace Go.Proofs.Ytegkogadceodlaa
open Go.RowKit Go.Shelf Go.Lib

set_option maxHeartbeats 4000000 in
theorem shaped_any (k c : Int) (A : Option Addr) (n cap : Nat) (w : World) (hn : n ≤ 9223372036854775807) :
    Calls Try.prog 58 #[.agg #[.int .i64 k, .int .i64 c, .slice A n cap]] w fun r w' => r = .returned (.bool (shapedK k c n)) ∧ Below w.heap.size w w' := by
  have C := Lib.hid (fun W => isClass_any c W)
  have hb0 := below_new w (.cells #[.int .i64 k, .int .i64 c, .slice A n cap] 33)
  obtain ⟨R, hR⟩ : ∃ R, shapedK k c n = R := ⟨_, rfl⟩
  rw [hR]
  unfold shapedK at hR
  by_cases k0 : k = 0
  · subst k0
    simp only [true_or, if_true] at hR
    obtain ⟨cb, hcb⟩ : ∃ cb, isC c = cb := ⟨_, rfl⟩
    have C1 := Lib.hid (C.out (w.alloc (.cells #[.int .i64 0, .int .i64 c, .slice A n cap] 33)))
    rw [hcb] at hR C1
    by_cases n0 : n = 0
    · subst n0
      cases cb
      all_goals
        simp at hR
        subst hR
        go_enter Try.func58, Try.ntmps58
        go_wp2_with fail
        refine C1.out.mono ?_
        rintro e w1 ⟨rfl, rfl⟩
        go_wp2
        go_ret
        exact ⟨rfl, hb0⟩
    · have n1 : ((n : Int) == 0) = false := by simpa using n0
      cases cb
      all_goals
        simp [n0] at hR
        subst hR
        go_enter Try.func58, Try.ntmps58
        go_wp2_with fail
        refine C1.out.mono ?_
        rintro e w1 ⟨rfl, rfl⟩
        go_wp2
        go_ret
        exact ⟨rfl, hb0⟩
  by_cases k2 : k = 2
  · subst k2
    simp only [or_true, if_true] at hR
    obtain ⟨cb, hcb⟩ : ∃ cb, isC c = cb := ⟨_, rfl⟩
    have C1 := Lib.hid (C.out (w.alloc (.cells #[.int .i64 2, .int .i64 c, .slice A n cap] 33)))
    rw [hcb] at hR C1
    by_cases n0 : n = 0
    · subst n0
      cases cb
      all_goals
        simp at hR
        subst hR
        go_enter Try.func58, Try.ntmps58
        go_wp2_with fail
        refine C1.out.mono ?_
        rintro e w1 ⟨rfl, rfl⟩
        go_wp2
        go_ret
        exact ⟨rfl, hb0⟩
    · have n1 : ((n : Int) == 0) = false := by simpa using n0
      cases cb
      all_goals
        simp [n0] at hR
        subst hR
        go_enter Try.func58, Try.ntmps58
        go_wp2_with fail
        refine C1.out.mono ?_
        rintro e w1 ⟨rfl, rfl⟩
        go_wp2
        go_ret
        exact ⟨rfl, hb0⟩
  by_cases k1 : k = 1
  · subst k1
    simp at hR
    by_cases c0 : c = 0
    · subst c0
      by_cases n0 : n = 0
      · have n1 : ((n : Int) == 0) = true := by simp; omega
        simp [n0] at hR
        subst hR
        go_enter Try.func58, Try.ntmps58
        go_wp2
        go_ret
        first
          | exact ⟨rfl, hb0⟩
          | (subst n0; exact ⟨rfl, hb0⟩)
      · have n1 : ((n : Int) == 0) = false := by simp; omega
        simp [n0] at hR
        subst hR
        go_enter Try.func58, Try.ntmps58
        go_wp2
        go_ret
        exact ⟨rfl, hb0⟩
    · have c1 : (c == 0) = false := by simpa using c0
      simp [c0] at hR
      subst hR
      go_enter Try.func58, Try.ntmps58
      go_wp2
      go_ret
      exact ⟨rfl, hb0⟩
  by_cases k3 : k = 3
  · subst k3
    simp at hR
    by_cases c0 : c = 0
    · subst c0
      by_cases n0 : n = 0
      · have n1 : ((n : Int) == 0) = true := by simp; omega
        simp [n0] at hR
        subst hR
        go_enter Try.func58, Try.ntmps58
        go_wp2
        go_ret
        first
          | exact ⟨rfl, hb0⟩
          | (subst n0; exact ⟨rfl, hb0⟩)
      · have n1 : ((n : Int) == 0) = false := by simp; omega
        simp [n0] at hR
        subst hR
        go_enter Try.func58, Try.ntmps58
        go_wp2
        go_ret
        exact ⟨rfl, hb0⟩
    · have c1 : (c == 0) = false := by simpa using c0
      simp [c0] at hR
      subst hR
      go_enter Try.func58, Try.ntmps58
      go_wp2
      go_ret
      exact ⟨rfl, hb0⟩
  by_cases k9 : k = 9
  · subst k9
    simp at hR
    by_cases c0 : c = 0
    · subst c0
      by_cases n0 : n = 0
      · have n1 : ((n : Int) == 0) = true := by simp; omega
        simp [n0] at hR
        subst hR
        go_enter Try.func58, Try.ntmps58
        go_wp2
        go_ret
        first
          | exact ⟨rfl, hb0⟩
          | (subst n0; exact ⟨rfl, hb0⟩)
      · have n1 : ((n : Int) == 0) = false := by simp; omega
        simp [n0] at hR
        subst hR
        go_enter Try.func58, Try.ntmps58
        go_wp2
        go_ret
        exact ⟨rfl, hb0⟩
    · have c1 : (c == 0) = false := by simpa using c0
      simp [c0] at hR
      subst hR
      go_enter Try.func58, Try.ntmps58
      go_wp2
      go_ret
      exact ⟨rfl, hb0⟩
  by_cases k4 : k = 4
  · subst k4
    simp at hR
    by_cases c0 : c = 0
    · subst c0
      by_cases n0 : 2 ≤ n
      · have n1 : decide ((2 : Int) ≤ (n : Int)) = true := by simp; omega
        simp [n0] at hR
        subst hR
        go_enter Try.func58, Try.ntmps58
        go_wp2
        go_ret
        first
          | exact ⟨rfl, hb0⟩
          | (subst n0; exact ⟨rfl, hb0⟩)
      · have n1 : decide ((2 : Int) ≤ (n : Int)) = false := by simp; omega
        simp [n0] at hR
        subst hR
        go_enter Try.func58, Try.ntmps58
        go_wp2
        go_ret
        exact ⟨rfl, hb0⟩
    · have c1 : (c == 0) = false := by simpa using c0
      simp [c0] at hR
      subst hR
      go_enter Try.func58, Try.ntmps58
      go_wp2
      go_ret
      exact ⟨rfl, hb0⟩
  by_cases k5 : k = 5
  · subst k5
    simp at hR
    by_cases c0 : c = 0
    · subst c0
      by_cases n0 : 2 ≤ n
      · have n1 : decide ((2 : Int) ≤ (n : Int)) = true := by simp; omega
        simp [n0] at hR
        subst hR
        go_enter Try.func58, Try.ntmps58
        go_wp2
        go_ret
        first
          | exact ⟨rfl, hb0⟩
          | (subst n0; exact ⟨rfl, hb0⟩)
      · have n1 : decide ((2 : Int) ≤ (n : Int)) = false := by simp; omega
        simp [n0] at hR
        subst hR
        go_enter Try.func58, Try.ntmps58
        go_wp2
        go_ret
        exact ⟨rfl, hb0⟩
    · have c1 : (c == 0) = false := by simpa using c0
      simp [c0] at hR
      subst hR
      go_enter Try.func58, Try.ntmps58
      go_wp2
      go_ret
      exact ⟨rfl, hb0⟩
  by_cases k6 : k = 6
  · subst k6
    simp at hR
    by_cases c0 : c = 0
    · subst c0
      by_cases n0 : n = 1
      · have n1 : ((n : Int) == 1) = true := by simp; omega
        simp [n0] at hR
        subst hR
        go_enter Try.func58, Try.ntmps58
        go_wp2
        go_ret
        first
          | exact ⟨rfl, hb0⟩
          | (subst n0; exact ⟨rfl, hb0⟩)
      · have n1 : ((n : Int) == 1) = false := by simp; omega
        simp [n0] at hR
        subst hR
        go_enter Try.func58, Try.ntmps58
        go_wp2
        go_ret
        exact ⟨rfl, hb0⟩
    · have c1 : (c == 0) = false := by simpa using c0
      simp [c0] at hR
      subst hR
      go_enter Try.func58, Try.ntmps58
      go_wp2
      go_ret
      exact ⟨rfl, hb0⟩
  by_cases k7 : k = 7
  · subst k7
    simp at hR
    by_cases c0 : c = 0
    · subst c0
      by_cases n0 : n = 1
      · have n1 : ((n : Int) == 1) = true := by simp; omega
        simp [n0] at hR
        subst hR
        go_enter Try.func58, Try.ntmps58
        go_wp2
        go_ret
        first
          | exact ⟨rfl, hb0⟩
          | (subst n0; exact ⟨rfl, hb0⟩)
      · have n1 : ((n : Int) == 1) = false := by simp; omega
        simp [n0] at hR
        subst hR
        go_enter Try.func58, Try.ntmps58
        go_wp2
        go_ret
        exact ⟨rfl, hb0⟩
    · have c1 : (c == 0) = false := by simpa using c0
      simp [c0] at hR
      subst hR
      go_enter Try.func58, Try.ntmps58
      go_wp2
      go_ret
      exact ⟨rfl, hb0⟩
  by_cases k8 : k = 8
  · subst k8
    simp at hR
    by_cases c0 : c = 0
    · subst c0
      by_cases n0 : n = 1
      · have n1 : ((n : Int) == 1) = true := by simp; omega
        simp [n0] at hR
        subst hR
        go_enter Try.func58, Try.ntmps58
        go_wp2
        go_ret
        first
          | exact ⟨rfl, hb0⟩
          | (subst n0; exact ⟨rfl, hb0⟩)
      · have n1 : ((n : Int) == 1) = false := by simp; omega
        simp [n0] at hR
        subst hR
        go_enter Try.func58, Try.ntmps58
        go_wp2
        go_ret
        exact ⟨rfl, hb0⟩
    · have c1 : (c == 0) = false := by simpa using c0
      simp [c0] at hR
      subst hR
      go_enter Try.func58, Try.ntmps58
      go_wp2
      go_ret
      exact ⟨rfl, hb0⟩
  simp [k0, k1, k2, k3, k4, k5, k6, k7, k8, k9] at hR
  subst hR
  have q0 : (k == 0) = false := by simpa using k0
  have q1 : (k == 1) = false := by simpa using k1
  have q2 : (k == 2) = false := by simpa using k2
  have q3 : (k == 3) = false := by simpa using k3
  have q4 : (k == 4) = false := by simpa using k4
  have q5 : (k == 5) = false := by simpa using k5
  have q6 : (k == 6) = false := by simpa using k6
  have q7 : (k == 7) = false := by simpa using k7
  have q8 : (k == 8) = false := by simpa using k8
  have q9 : (k == 9) = false := by simpa using k9
  go_enter Try.func58, Try.ntmps58
  go_wp2
  go_ret
  exact ⟨rfl, hb0⟩
end Go.Proofs.Ytegkogadceodlaa

namespace Go.Proofs.Ytegkogadceodlaa
open Go.RowKit Go.Shelf Go.Lib

/-- A node, then those within it, as long as the answer is yes. -/
def visG {σ : Type} (nx : E → σ → Bool × σ) : E → σ → Bool × σ
  | .mk k c ks, s => match nx (.mk k c ks) s with
    | (true, s') => kids nx ks s'
    | (false, s') => (false, s')
where kids {σ : Type} (nx : E → σ → Bool × σ) : List E → σ → Bool × σ
  | [], s => (true, s)
  | e :: r, s => match visG nx e s with
    | (true, s') => kids nx r s'
    | (false, s') => (false, s')
abbrev visL {σ : Type} (nx : E → σ → Bool × σ) : List E → σ → Bool × σ := visG.kids nx
theorem visG_eq {σ : Type} (nx : E → σ → Bool × σ) (e : E) (s : σ) : visG nx e s = if (nx e s).1 then visL nx e.ks (nx e s).2 else (false, (nx e s).2) := by
  cases e with
  | mk k c ks =>
    show (match nx (.mk k c ks) s with
      | (true, s') => visL nx ks s'
      | (false, s') => (false, s')) = _
    rcases nx (.mk k c ks) s with ⟨_ | _, s'⟩ <;> rfl
theorem visL_append {σ : Type} (nx : E → σ → Bool × σ) (a b : List E) (s : σ) : visL nx (a ++ b) s = if (visL nx a s).1 then visL nx b (visL nx a s).2 else (false, (visL nx a s).2) := by
  induction a generalizing s with
  | nil => simp [visL, visG.kids]
  | cons e r ih =>
    show (match visG nx e s with
      | (true, s') => visL nx (r ++ b) s'
      | (false, s') => (false, s')) = _
    rcases h : visG nx e s with ⟨_ | _, s'⟩
    · simp [visL, visG.kids, h]
    · simp only [ih]
      simp [visL, visG.kids, h]
theorem visL_take {σ : Type} (nx : E → σ → Bool × σ) (ks : List E) (i : Nat) (e : E) (s : σ) (h : ks[i]? = some e) :
    visL nx (ks.take (i + 1)) s = if (visL nx (ks.take i) s).1 then visG nx e (visL nx (ks.take i) s).2 else (false, (visL nx (ks.take i) s).2) := by
  rw [List.take_add_one, h, visL_append]
  have : visL nx (some e).toList (visL nx (ks.take i) s).2 = visG nx e (visL nx (ks.take i) s).2 := by
    show (match visG nx e _ with
      | (true, s') => (true, s')
      | (false, s') => (false, s')) = _
    rcases visG nx e (visL nx (ks.take i) s).2 with ⟨_ | _, s'⟩ <;> rfl
  rw [this]
/-- Where the answer is no among the first ones, it is for all. -/
theorem visL_stop {σ : Type} (nx : E → σ → Bool × σ) (ks : List E) (i : Nat) (s s' : σ) (h : visL nx (ks.take i) s = (false, s')) : visL nx ks s = (false, s') := by
  have := visL_append nx (ks.take i) (ks.drop i) s
  rw [List.take_append_drop, h] at this
  simpa using this

theorem grown_trans {a b c : World} {row : Option Nat} (h : a.grownBy b row) (k : b.grownBy c row) : a.grownBy c row :=
  ⟨k.os.trans h.os, k.tape.trans h.tape, k.output.trans h.output, Nat.le_trans h.size k.size, fun i hi hn => (k.block i (Nat.lt_of_lt_of_le hi h.size) hn).trans (h.block i hi hn)⟩
theorem grown_below {a b : World} {row : Option Nat} (h : Below a.heap.size a b) : a.grownBy b row := ⟨h.os, h.tape, h.output, h.size, fun k hk _ => h.block k hk⟩
theorem grown_set (w : World) (b : Nat) (v : Value) : w.grownBy (w.setCell ⟨b, 0, none⟩ v) (some b) :=
  ⟨rfl, rfl, rfl, by simp, fun k _ hk => Below.heap_setCell _ _ _ k (fun e => hk (by rw [e]))⟩
theorem Nd.grown {w w' : World} {B g : Nat} {e : E} {v : Value} (h : Nd w B e v) (hg : w.grownBy w' (some g)) (hB : B ≤ g) : Nd w' B e v :=
  h.carry (Nat.le_refl _) (fun b o u hl hu => hg.cell hu (by simp; omega)) _ _ _ (Nat.le_refl _)
theorem boxed_below {W W' : World} {B t : Nat} {v : Value} (h : Boxed W B t v) (hb : Below W.heap.size W W') : Boxed W' B t v := (hb.block B h.lt).trans h
theorem boxed_grown {W W' : World} {B g t : Nat} {v : Value} (h : Boxed W B t v) (hg : W.grownBy W' (some g)) (hne : B ≠ g) : Boxed W' B t v := (hg.block B h.lt (by simpa using hne)).trans h

/-- What Right's function says of a node: how many there were ahead of it. -/
def nxR (e : E) (m : Nat) : Bool × Nat := (decide (m + 1 ≤ 2000) && decide (e.k ≠ 9) && shapedK e.k e.c e.ks.length, m + 1)

set_option maxHeartbeats 4000000 in
theorem right1_any (k c : Int) (A : Option Addr) (n cap g m : Nat) (w : World) (hn : n ≤ 9223372036854775807) (hg : Boxed w g 3 (.int .i64 m)) (hm : m ≤ 2000) :
    Calls Try.prog 60 #[.agg #[.int .i64 k, .int .i64 c, .slice A n cap], .pointer (some ⟨g, 0, none⟩)] w fun r w' =>
      r = .returned (.bool (decide (m + 1 ≤ 2000) && decide (k ≠ 9) && shapedK k c n)) ∧ w.grownBy w' (some g) ∧ Boxed w' g 3 (.int .i64 (m + 1 : Nat)) := by
  have hg0 := hg.alloc (.cells #[.int .i64 k, .int .i64 c, .slice A n cap] 33)
  have hgl := hg.lt
  have g0 := hg.cell
  have z0 := hg.frozen
  have hw : wrap64 ((m : Int) + 1) = (m : Int) + 1 := by unfold wrap64; omega
  have hne : g ≠ w.heap.size := by omega
  have hgr0 : w.grownBy (w.alloc (.cells #[.int .i64 k, .int .i64 c, .slice A n cap] 33)) (some g) := World.grownBy_alloc _ _ _
  have C := Lib.hid (fun W => shaped_any k c A n cap W hn)
  obtain ⟨SB, hSB⟩ : ∃ b, shapedK k c n = b := ⟨_, rfl⟩
  rw [hSB] at C ⊢
  have hfin : w.grownBy ((w.setCell ⟨g, 0, none⟩ (.int .i64 ((m : Int) + 1))).alloc (.cells #[.int .i64 k, .int .i64 c, .slice A n cap] 33)) (some g) ∧ Boxed ((w.setCell ⟨g, 0, none⟩ (.int .i64 ((m : Int) + 1))).alloc (.cells #[.int .i64 k, .int .i64 c, .slice A n cap] 33)) g 3 (.int .i64 ((m : Int) + 1)) :=
    ⟨grown_trans (grown_set w g _) (World.grownBy_alloc _ _ _), (hg.set _).alloc _⟩
  have H := Lib.hid hfin
  have C1 := Lib.hid (C.out ((w.setCell ⟨g, 0, none⟩ (.int .i64 ((m : Int) + 1))).alloc (.cells #[.int .i64 k, .int .i64 c, .slice A n cap] 33)))
  have hc : ((m + 1 : Nat) : Int) = (m : Int) + 1 := by omega
  rw [hc]
  clear hfin hc
  by_cases h1 : m + 1 ≤ 2000
  · have i1 : ((m : Int) + 1 ≤ 2000) := by omega
    rw [decide_eq_true h1]
    have HM := Lib.hid (And.intro hm h1)
    clear hg hg0 hgr0 hSB hm h1
    by_cases k9 : k = 9
    · subst k9
      rw [show (true && decide ((9 : Int) ≠ 9) && SB) = false by simp]
      go_enter Try.func60, Try.ntmps60
      go_wp2
      go_ret
      exact ⟨rfl, H.out⟩
    · have q9 : (k == 9) = false := by simpa using k9
      have q9' : (k != 9) = true := by simpa using k9
      rw [show (true && decide (k ≠ 9) && SB) = SB by simp [k9]]
      go_enter Try.func60, Try.ntmps60
      go_wp2_with fail
      refine C1.out.mono ?_
      rintro r w1 ⟨rfl, hb⟩
      have HZ := Lib.hid (And.intro (grown_trans H.out.1 (grown_below hb)) (boxed_below H.out.2 hb))
      clear hb
      go_wp2
      go_ret
      exact ⟨rfl, HZ.out⟩
  · have i1 : decide ((m : Int) + 1 ≤ 2000) = false := by simp; omega
    rw [decide_eq_false h1]
    rw [show (false && decide (k ≠ 9) && SB) = false by simp]
    have HM := Lib.hid (And.intro hm h1)
    clear hg hg0 hgr0 hSB hm h1
    go_enter Try.func60, Try.ntmps60
    go_wp2
    go_ret
    exact ⟨rfl, H.out⟩
end Go.Proofs.Ytegkogadceodlaa

namespace Go.Proofs.Ytegkogadceodlaa
open Go.RowKit Go.Shelf Go.Lib

theorem visR_le : ∀ N e m, szE e ≤ N → (visG nxR e m).1 = true → m + 1 ≤ (visG nxR e m).2 ∧ (visG nxR e m).2 ≤ 2000 := by
  intro N
  induction N with
  | zero => intro e m h; have := szE_pos e; omega
  | succ N ih =>
    intro e m he h
    have hl : ∀ (ks : List E) (m : Nat), (∀ f ∈ ks, szE f ≤ N) → m ≤ 2000 → (visL nxR ks m).1 = true → m ≤ (visL nxR ks m).2 ∧ (visL nxR ks m).2 ≤ 2000 := by
      intro ks
      induction ks with
      | nil => intro m _ hm _; exact ⟨Nat.le_refl _, hm⟩
      | cons f r ihr =>
        intro m hf hm h
        have e1 : visL nxR (f :: r) m = if (visG nxR f m).1 then visL nxR r (visG nxR f m).2 else (false, (visG nxR f m).2) := by
          show visG.kids nxR (f :: r) m = _
          rw [visG.kids]
          rcases visG nxR f m with ⟨_ | _, s'⟩ <;> rfl
        rw [e1] at h ⊢
        by_cases hb : (visG nxR f m).1 = true
        · rw [if_pos hb] at h ⊢
          have h1 := ih f m (hf f List.mem_cons_self) hb
          have h2 := ihr _ (fun x hx => hf x (List.mem_cons_of_mem _ hx)) h1.2 h
          exact ⟨by omega, h2.2⟩
        · rw [if_neg hb] at h
          cases h
    rw [visG_eq] at h ⊢
    by_cases hb : (nxR e m).1 = true
    · rw [if_pos hb] at h ⊢
      have hm : m + 1 ≤ 2000 := by
        unfold nxR at hb
        simp only [Bool.and_eq_true, decide_eq_true_eq] at hb
        exact hb.1.1
      exact hl e.ks (m + 1) (fun f hf => by have := szE_kid hf; omega) hm h
    · rw [if_neg hb] at h
      cases h

theorem visL_le (ks : List E) : ∀ m, m ≤ 2000 → (visL nxR ks m).1 = true → (visL nxR ks m).2 ≤ 2000 := by
  induction ks with
  | nil => intro m hm _; exact hm
  | cons f r ihr =>
    intro m hm h
    have e1 : visL nxR (f :: r) m = if (visG nxR f m).1 then visL nxR r (visG nxR f m).2 else (false, (visG nxR f m).2) := by
      show visG.kids nxR (f :: r) m = _
      rw [visG.kids]
      rcases visG nxR f m with ⟨_ | _, s'⟩ <;> rfl
    rw [e1] at h ⊢
    by_cases hb : (visG nxR f m).1 = true
    · rw [if_pos hb] at h ⊢
      exact ihr _ (visR_le _ f m (Nat.le_refl _) hb).2 h
    · rw [if_neg hb] at h
      cases h

set_option maxHeartbeats 4000000 in
theorem each_right : ∀ N e, szE e ≤ N → ∀ v B g (m : Nat) w, Nd w B e v → B ≤ g → Boxed w g 3 (.int .i64 m) → m ≤ 2000 →
    Calls Try.prog 59 #[v, .func (.func 60) #[] #[.pointer (some ⟨g, 0, none⟩)]] w fun r w' => r = .returned (.bool (visG nxR e m).1) ∧ w.grownBy w' (some g) ∧ Boxed w' g 3 (.int .i64 ((visG nxR e m).2 : Nat)) := by
  intro N
  induction N with
  | zero => intro e h; have := szE_pos e; omega
  | succ N ih =>
    intro e he v B g m w h hB hg hm
    obtain ⟨_, _, A, cap, rfl, hk⟩ := Nd_iff.1 h
    obtain ⟨W0, hW0⟩ : ∃ W0, w.alloc (.cells #[.int .i64 e.k, .int .i64 e.c, .slice A e.ks.length cap] 33) = W0 := ⟨_, rfl⟩
    have hgr0 : w.grownBy W0 (some g) := by rw [← hW0]; exact World.grownBy_alloc _ _ _
    have hg0 : Boxed W0 g 3 (.int .i64 m) := by rw [← hW0]; exact hg.alloc _
    have hbx : Cells W0 w.heap.size 33 #[.int .i64 e.k, .int .i64 e.c, .slice A e.ks.length cap] := by rw [← hW0]; exact World.alloc_heap_new _ _
    have hln : e.ks.length ≤ 9223372036854775807 := by have := hk.l; have := hk.m; unfold maxLen at this; omega
    have C := right1_any e.k e.c A e.ks.length cap g m W0 hln hg0 hm
    have hS : visG nxR e m = _ := visG_eq nxR e m
    have hkid := fun i f (hf : e.ks[i]? = some f) => szE_kid (List.mem_of_getElem? hf)
    have hgl : g < w.heap.size := hg.lt
    have hnx : (nxR e m).2 = m + 1 := rfl
    have hnx1 : (decide (m + 1 ≤ 2000) && decide (e.k ≠ 9) && shapedK e.k e.c e.ks.length) = (nxR e m).1 := rfl
    rw [hnx1] at C
    rw [hnx] at hS
    obtain ⟨Z, hZ⟩ : ∃ Z, visG nxR e m = Z := ⟨_, rfl⟩
    rw [hZ] at hS ⊢
    have hm1 : (nxR e m).1 = true → m + 1 ≤ 2000 := fun hb => by
      unfold nxR at hb
      simp only [Bool.and_eq_true, decide_eq_true_eq] at hb
      exact hb.1.1
    generalize (nxR e m).1 = nb at *
    generalize e.k = kk at *
    generalize e.c = cc at *
    generalize e.ks = ks at *
    obtain ⟨n, hn⟩ : ∃ n, ks.length = n := ⟨_, rfl⟩
    rw [hn] at hW0 C hbx hln ⊢
    have HW := Lib.hid hW0
    have HC := Lib.hid C
    have HK := Lib.hid (And.intro hk (And.intro hgr0 (And.intro hbx (And.intro hB hm))))
    have HI := Lib.hid ih
    have HKD := Lib.hid hkid
    have HN := Lib.hid hn
    have HS := Lib.hid (And.intro hS (And.intro hm1 (And.intro hgl he)))
    clear hW0 hk hgr0 hbx hB hm ih hkid hn h C hg0 hg hS hm1 hgl hZ he hnx hnx1
    cases nb
    · have hZ : Z = (false, m + 1) := by rw [HS.out.1]; rfl
      subst hZ
      go_enter Try.func59, Try.ntmps59
      go_wp2_with fail
      rw [HW.out]
      refine HC.out.mono ?_
      rintro r w1 ⟨rfl, hgr1, hb1⟩
      have HZ := Lib.hid (And.intro (grown_trans HK.out.2.1 hgr1) hb1)
      clear hgr1 hb1
      go_wp2
      go_ret
      exact ⟨rfl, HZ.out⟩
    · have hZ : Z = visL nxR ks (m + 1) := by rw [HS.out.1]; rfl
      have HZ0 := Lib.hid hZ
      clear hZ
      go_enter Try.func59, Try.ntmps59
      go_wp2_with fail
      rw [HW.out]
      refine HC.out.mono ?_
      rintro r w1 ⟨rfl, hgr1, hb1⟩
      have hbx1 : Cells w1 w.heap.size 33 #[.int .i64 kk, .int .i64 cc, .slice A n cap] := (hgr1.block _ HK.out.2.2.1.lt (by have := HS.out.2.2.1; simp; omega)).trans HK.out.2.2.1
      have c2 := hbx1.cell 2
      have HZ := Lib.hid (And.intro (grown_trans HK.out.2.1 hgr1) (And.intro hb1 hbx1))
      clear hgr1 hb1 hbx1
      go_wp2_with fail
      go_loopw [6, 14] (fun _ i wr => ∃ k : Nat, i = .int .i64 k ∧ k ≤ n ∧ (visL nxR (ks.take k) (m + 1)).1 = true ∧ Boxed wr g 3 (.int .i64 ((visL nxR (ks.take k) (m + 1)).2 : Nat)) ∧ w.grownBy wr (some g)) (fun _ i _ => n - (RowKit.intOf i).toNat)
      case atStart => exact ⟨0, rfl, Nat.zero_le _, rfl, by rw [List.take_zero]; exact HZ.out.2.1, HZ.out.1⟩
      case round =>
        obtain ⟨k, rfl, hkn, hyes, hbk, hgk⟩ := hrel
        by_cases hlt : k < n
        · obtain ⟨f, hf⟩ : ∃ f, ks[k]? = some f := ⟨ks[k]'(by rw [HN.out]; exact hlt), List.getElem?_eq_getElem _⟩
          have i1 : (k : Int) < (n : Int) := by omega
          obtain ⟨b, o, rfl, hbl, hr⟩ := HK.out.1.r (by rintro rfl; simp at hf)
          obtain ⟨A', cap', d0, d1, d2, hN⟩ := row_get' hr hf
          have hne : some b ≠ some g := by have := HK.out.2.2.2.1; simp; omega
          have d0' := hgk.cell d0 hne
          have d1' := hgk.cell d1 hne
          have d2' := hgk.cell d2 hne
          have hs := visL_take nxR ks k f (m + 1) hf
          rw [if_pos hyes] at hs
          have hl := HKD.out k f hf
          have hm' := visL_le (ks.take k) (m + 1) (HS.out.2.1 trivial) hyes
          generalize (visL nxR (ks.take k) (m + 1)).2 = m' at *
          obtain ⟨wr', hwr'⟩ : ∃ W, wr.alloc (.cells #[.int .i64 f.k, .int .i64 f.c, .slice A' f.ks.length cap'] 33) = W := ⟨_, rfl⟩
          have hg2 : w.grownBy wr' (some g) := by rw [← hwr']; exact grown_trans hgk (World.grownBy_alloc _ _ _)
          have hC := HI.out f (by have := HS.out.2.2.2; omega) (.agg #[.int .i64 f.k, .int .i64 f.c, .slice A' f.ks.length cap']) B g m' wr' (hN.grown hg2 HK.out.2.2.2.1) HK.out.2.2.2.1 (by rw [← hwr']; exact hbk.alloc _) hm'
          obtain ⟨q, hq⟩ : ∃ q, visG nxR f m' = q := ⟨_, rfl⟩
          rw [hq] at hC hs
          have hC := Lib.hid hC
          have HH := Lib.hid (And.intro hs (And.intro hg2 hlt))
          have HWR := Lib.hid hwr'
          clear hs hl hm' hg2 hwr' hN hr hbl hbk hgk hyes hq
          go_wp2_with fail
          rw [HWR.out]
          refine hC.out.mono ?_
          rintro r w2 ⟨rfl, hg3, hb3⟩
          have HY := Lib.hid (And.intro (grown_trans HH.out.2.1 hg3) hb3)
          have hs := HH.out.1
          clear hg3 hb3
          obtain ⟨qb, qm⟩ := q
          cases qb
          · have hz : Z = (false, qm) := by rw [HZ0.out]; exact visL_stop nxR ks (k + 1) (m + 1) qm hs
            subst hz
            go_wp2
            go_ret
            exact ⟨rfl, HY.out⟩
          · have hend : (visL nxR (ks.take (k + 1)) (m + 1)).1 = true ∧ Boxed w2 g 3 (.int .i64 ((visL nxR (ks.take (k + 1)) (m + 1)).2 : Nat)) ∧ w.grownBy w2 (some g) := by rw [hs]; exact ⟨rfl, HY.out.2, HY.out.1⟩
            have HEND := Lib.hid hend
            clear hend hs
            go_wp2
            go_roundw
            case rel => exact ⟨k + 1, by go_num, by omega, HEND.out⟩
            case measure => simp [RowKit.intOf]; omega
        · have hkn : k = n := by omega
          subst hkn
          have i1 : ¬ (k : Int) < (k : Int) := by omega
          have ht : ks.take k = ks := by rw [← HN.out, List.take_length]
          rw [ht, ← HZ0.out] at hyes hbk
          obtain ⟨zb, zm⟩ := Z
          obtain rfl : zb = true := hyes
          have HY := Lib.hid (And.intro hgk hbk)
          clear hgk hbk ht
          go_wp2
          go_ret
          exact ⟨rfl, HY.out⟩
end Go.Proofs.Ytegkogadceodlaa

namespace Go.Proofs.Ytegkogadceodlaa
open Go.RowKit Go.Shelf Go.Lib

/-- Is it right? -/
def rightE (e : E) : Bool := if e.k = 9 then shapedK e.k e.c e.ks.length else (visG nxR e 0).1

set_option maxHeartbeats 2000000 in
theorem right_any (e : E) (v : Value) (w : World) (h : Nd w w.heap.size e v) : Calls Try.prog 37 #[v] w fun r w' => r = .returned (.bool (rightE e)) ∧ Below w.heap.size w w' := by
  obtain ⟨_, _, A, cap, rfl, hk⟩ := Nd_iff.1 h
  have hln : e.ks.length ≤ 9223372036854775807 := by have := hk.l; have := hk.m; unfold maxLen at this; omega
  by_cases h9 : e.k = 9
  · have hb0 := below_new w (.cells #[.int .i64 9, .int .i64 e.c, .slice A e.ks.length cap] 33)
    have C := Lib.hid (fun W => shaped_any 9 e.c A e.ks.length cap W hln)
    have hR : rightE e = shapedK 9 e.c e.ks.length := by unfold rightE; rw [if_pos h9, h9]
    rw [hR, h9]
    generalize shapedK 9 e.c e.ks.length = R at *
    generalize e.ks.length = n at *
    clear hk h hR h9
    go_enter Try.func37, Try.ntmps37
    go_wp2_with fail
    refine (C.out _).mono ?_
    rintro r w1 ⟨rfl, hb⟩
    have HB := Lib.hid (hb0.trans (hb.mono hb0.size))
    clear hb hb0
    go_wp2
    go_ret
    exact ⟨rfl, HB.out⟩
  · have q9 : (e.k == 9) = false := by simpa using h9
    have hR : rightE e = (visG nxR e 0).1 := by unfold rightE; rw [if_neg h9]
    rw [hR]
    obtain ⟨W1, hW1⟩ : ∃ W1, (w.alloc (.cells #[.int .i64 e.k, .int .i64 e.c, .slice A e.ks.length cap] 33)).alloc (.cells #[.int .i64 0] 3) = W1 := ⟨_, rfl⟩
    have hb1 : Below w.heap.size w W1 := by rw [← hW1]; exact ((Below.refl _ w).alloc (Nat.le_refl _) _).alloc (by simp) _
    have hg : Boxed W1 (w.heap.size + 1) 3 (.int .i64 ((0 : Nat) : Int)) := by
      rw [← hW1]
      have := Boxed.new (w.alloc (.cells #[.int .i64 e.k, .int .i64 e.c, .slice A e.ks.length cap] 33)) 3 (.int .i64 0)
      rw [World.size_alloc] at this
      exact this
    have C := each_right _ e (Nat.le_refl _) _ w.heap.size (w.heap.size + 1) 0 W1 (h.below hb1) (by omega) hg (by omega)
    have C := Lib.hid C
    have HW := Lib.hid hW1
    generalize (visG nxR e 0).1 = R at *
    generalize (visG nxR e 0).2 = R2 at *
    generalize e.k = kk at *
    generalize e.c = cc at *
    generalize e.ks.length = n at *
    clear hk h hR h9 hg hW1
    go_enter Try.func37, Try.ntmps37
    go_wp2_with fail
    rw [HW.out]
    refine C.out.mono ?_
    rintro r w1 ⟨rfl, hgr, _⟩
    have HB := Lib.hid (hb1.grown hgr hb1.size fun k e => by cases e; omega)
    clear hgr hb1
    go_wp2
    go_ret
    exact ⟨rfl, HB.out⟩
end Go.Proofs.Ytegkogadceodlaa

namespace Go.Proofs.Ytegkogadceodlaa
open Go.RowKit Go.Shelf Go.Lib

/-- Has each node what its kind asks, and is none Empty? -/
def goodE : E → Bool
  | .mk k c ks => decide (k ≠ 9) && shapedK k c ks.length && all ks
where all : List E → Bool
  | [] => true
  | e :: r => goodE e && all r
theorem goodE_eq (e : E) : goodE e = (decide (e.k ≠ 9) && shapedK e.k e.c e.ks.length && goodE.all e.ks) := by cases e; rfl
theorem good_all {ks : List E} (h : goodE.all ks = true) : ∀ e ∈ ks, goodE e = true := by
  induction ks with
  | nil => intro e he; cases he
  | cons a r ih =>
    have h' : (goodE a && goodE.all r) = true := h
    simp only [Bool.and_eq_true] at h'
    intro e he
    rcases List.mem_cons.1 he with rfl | he
    · exact h'.1
    · exact ih h'.2 e he
theorem visL_cons (f : E) (r : List E) (m : Nat) : visL nxR (f :: r) m = if (visG nxR f m).1 then visL nxR r (visG nxR f m).2 else (false, (visG nxR f m).2) := by
  show visG.kids nxR (f :: r) m = _
  rw [visG.kids]
  rcases visG nxR f m with ⟨_ | _, s'⟩ <;> rfl
theorem szL_cons (f : E) (r : List E) : szL (f :: r) = szE f + szL r := rfl
theorem vis_good : ∀ N e m, szE e ≤ N → ((visG nxR e m).1 = true ↔ goodE e = true ∧ m + szE e ≤ 2000) ∧ ((visG nxR e m).1 = true → (visG nxR e m).2 = m + szE e) := by
  intro N
  induction N with
  | zero => intro e m h; have := szE_pos e; omega
  | succ N ih =>
    intro e m he
    have hl : ∀ (ks : List E) (m : Nat), (∀ f ∈ ks, szE f ≤ N) → m ≤ 2000 → ((visL nxR ks m).1 = true ↔ goodE.all ks = true ∧ m + szL ks ≤ 2000) ∧ ((visL nxR ks m).1 = true → (visL nxR ks m).2 = m + szL ks) := by
      intro ks
      induction ks with
      | nil => intro m _ hm; exact ⟨⟨fun _ => ⟨rfl, hm⟩, fun _ => rfl⟩, fun _ => rfl⟩
      | cons f r ihr =>
        intro m hf hm
        have hi := ih f m (hf f List.mem_cons_self)
        have hg : goodE.all (f :: r) = (goodE f && goodE.all r) := rfl
        rw [visL_cons, szL_cons, hg]
        by_cases hb : (visG nxR f m).1 = true
        · have h2 := hi.2 hb
          have h1 := hi.1.1 hb
          have h3 := ihr (visG nxR f m).2 (fun x hx => hf x (List.mem_cons_of_mem _ hx)) (by omega)
          rw [if_pos hb, h1.1, Bool.true_and]
          rw [h2] at h3 ⊢
          refine ⟨h3.1.trans ⟨fun h => ⟨h.1, by omega⟩, fun h => ⟨h.1, by omega⟩⟩, fun h => by rw [h3.2 h]; omega⟩
        · rw [if_neg hb]
          refine ⟨⟨fun h => (by cases h), fun h => absurd (hi.1.2 ⟨?_, by omega⟩) hb⟩, fun h => (by cases h)⟩
          have := h.1
          simp only [Bool.and_eq_true] at this
          exact this.1
    rw [visG_eq, goodE_eq, szE_eq]
    have hn : (nxR e m).1 = (decide (m + 1 ≤ 2000) && decide (e.k ≠ 9) && shapedK e.k e.c e.ks.length) := rfl
    have hn2 : (nxR e m).2 = m + 1 := rfl
    rw [hn, hn2]
    by_cases hm : m + 1 ≤ 2000
    · rw [decide_eq_true hm, Bool.true_and]
      have h3 := hl e.ks (m + 1) (fun f hf => by have := szE_kid hf; omega) hm
      by_cases hb : (decide (e.k ≠ 9) && shapedK e.k e.c e.ks.length) = true
      · rw [if_pos hb, hb, Bool.true_and]
        exact ⟨h3.1.trans ⟨fun h => ⟨h.1, by omega⟩, fun h => ⟨h.1, by omega⟩⟩, fun h => by rw [h3.2 h]; omega⟩
      · rw [if_neg hb]
        refine ⟨⟨fun h => (by cases h), fun h => absurd ?_ hb⟩, fun h => (by cases h)⟩
        have := h.1
        simp only [Bool.and_eq_true] at this
        simp only [Bool.and_eq_true]
        exact this.1
    · rw [decide_eq_false hm, Bool.false_and, Bool.false_and, if_neg (by simp)]
      exact ⟨⟨fun h => (by cases h), fun h => (by omega)⟩, fun h => (by cases h)⟩
theorem rightE_good {e : E} (h9 : e.k ≠ 9) : rightE e = (goodE e && decide (szE e ≤ 2000)) := by
  unfold rightE
  rw [if_neg h9]
  have := (vis_good _ e 0 (Nat.le_refl _)).1
  rw [Bool.eq_iff_iff, this]
  simp
theorem right_size {e : E} (h : rightE e = true) : szE e ≤ 2000 := by
  by_cases h9 : e.k = 9
  · unfold rightE at h
    rw [if_pos h9, h9] at h
    have hn : e.ks = [] := by
      unfold shapedK at h
      simp at h
      exact h.2
    rw [szE_eq, hn]
    show 1 + 0 ≤ 2000
    omega
  · rw [rightE_good h9] at h
    simp only [Bool.and_eq_true, decide_eq_true_eq] at h
    exact h.2

/-- The longest list, where nothing is repeated. -/
def lgE : E → Nat
  | .mk k _ ks => if k = 9 then 0 else if k = 4 then sum ks else if k = 5 ∨ k = 8 then most ks else 1
where
  sum : List E → Nat
    | [] => 0
    | e :: r => lgE e + sum r
  most : List E → Nat
    | [] => 0
    | e :: r => max (lgE e) (most r)
/-- The shortest list. -/
def shE : E → Nat
  | .mk k _ ks => if k = 6 ∨ k = 8 ∨ k = 9 then 0 else if k = 4 then sum ks else if k = 5 ∨ k = 7 then least ks else 1
where
  sum : List E → Nat
    | [] => 0
    | e :: r => shE e + sum r
  least : List E → Nat
    | [] => 0
    | [e] => shE e
    | e :: f :: r => min (shE e) (least (f :: r))
theorem lgE_eq (e : E) : lgE e = if e.k = 9 then 0 else if e.k = 4 then lgE.sum e.ks else if e.k = 5 ∨ e.k = 8 then lgE.most e.ks else 1 := by cases e; rfl
theorem shE_eq (e : E) : shE e = if e.k = 6 ∨ e.k = 8 ∨ e.k = 9 then 0 else if e.k = 4 then shE.sum e.ks else if e.k = 5 ∨ e.k = 7 then shE.least e.ks else 1 := by cases e; rfl
theorem lg_le : ∀ N e, szE e ≤ N → lgE e ≤ szE e := by
  intro N
  induction N with
  | zero => intro e h; have := szE_pos e; omega
  | succ N ih =>
    intro e he
    have hs : ∀ ks : List E, (∀ f ∈ ks, szE f ≤ N) → lgE.sum ks ≤ szL ks ∧ lgE.most ks ≤ szL ks := by
      intro ks
      induction ks with
      | nil => intro _; exact ⟨Nat.le_refl _, Nat.le_refl _⟩
      | cons f r ihr =>
        intro hf
        have h1 := ih f (hf f List.mem_cons_self)
        have h2 := ihr fun x hx => hf x (List.mem_cons_of_mem _ hx)
        have e1 : lgE.sum (f :: r) = lgE f + lgE.sum r := rfl
        have e2 : lgE.most (f :: r) = max (lgE f) (lgE.most r) := rfl
        rw [szL_cons, e1, e2]
        omega
    have h := hs e.ks fun f hf => by have := szE_kid hf; omega
    rw [lgE_eq, szE_eq]
    split
    · omega
    · split
      · omega
      · split <;> omega
theorem lgsum_append (a b : List E) : lgE.sum (a ++ b) = lgE.sum a + lgE.sum b := by
  induction a with
  | nil => show lgE.sum b = 0 + _; omega
  | cons f r ih => show lgE f + lgE.sum (r ++ b) = lgE f + lgE.sum r + _; omega
theorem lgmost_append (a b : List E) : lgE.most (a ++ b) = max (lgE.most a) (lgE.most b) := by
  induction a with
  | nil => show lgE.most b = max 0 _; omega
  | cons f r ih => show max (lgE f) (lgE.most (r ++ b)) = max (max (lgE f) (lgE.most r)) _; omega
theorem lgsum_take {ks : List E} {i : Nat} {e : E} (h : ks[i]? = some e) : lgE.sum (ks.take (i + 1)) = lgE.sum (ks.take i) + lgE e := by
  rw [List.take_add_one, h, lgsum_append]
  show _ + (lgE e + 0) = _
  omega
theorem lgmost_take {ks : List E} {i : Nat} {e : E} (h : ks[i]? = some e) : lgE.most (ks.take (i + 1)) = max (lgE.most (ks.take i)) (lgE e) := by
  rw [List.take_add_one, h, lgmost_append]
  show max _ (max (lgE e) 0) = _
  omega
theorem lgsum_le (ks : List E) (i : Nat) : lgE.sum (ks.take i) ≤ lgE.sum ks ∧ lgE.most (ks.take i) ≤ lgE.most ks := by
  have h1 := lgsum_append (ks.take i) (ks.drop i)
  have h2 := lgmost_append (ks.take i) (ks.drop i)
  rw [List.take_append_drop] at h1 h2
  omega
theorem lgL_le (ks : List E) : lgE.sum ks ≤ szL ks ∧ lgE.most ks ≤ szL ks := by
  induction ks with
  | nil => exact ⟨Nat.le_refl _, Nat.le_refl _⟩
  | cons f r ih =>
    have h1 := lg_le _ f (Nat.le_refl _)
    have e1 : lgE.sum (f :: r) = lgE f + lgE.sum r := rfl
    have e2 : lgE.most (f :: r) = max (lgE f) (lgE.most r) := rfl
    rw [szL_cons, e1, e2]
    omega
end Go.Proofs.Ytegkogadceodlaa

