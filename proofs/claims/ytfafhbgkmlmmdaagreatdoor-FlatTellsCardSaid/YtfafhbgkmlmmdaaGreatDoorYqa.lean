/-
  What the rows of flat lean on, part a.
-/
import Derived.Deep.Quiet
import Derived.StillTail
import Derived.Lib.QuietBelow
import Derived.Lib.IndexMore
import Derived.WalkKit
import Derived.BigQuiet
import Derived.Deep.QuietTactic
import Derived.Outline
import Derived.Lib.Hide
import Derived.Below
import Derived.Shelf.SlicesE.Clone
import Derived.Laws.IdiomStrings
import Derived.Laws.OwnMore
import Derived.OwnWalk
import Derived.RangeFuncRecord
import Derived.RangeFuncBox
import Derived.Deep.AppendLies
import Derived.Test.YtfafhbgkmlmmdaaGreatDoorProg
import Derived.StillTailTactics
import Derived.Maps.OwnOps
import Derived.Maps.OwnSet
import Derived.Maps.Views
import Derived.BigRegion
import Derived.Deep.RegionLaw
import Derived.Laws.AppendOwnNone
import Derived.Deep.Slices
set_option maxRecDepth 100000
set_option maxHeartbeats 40000000
namespace Go.Proofs.YtfafhbgkmlmmdaaGreatDoor.K
open Go
section
variable {P : Program} {ops : Array Oper} {md : Region.Mode} {C : World → Prop} {κ : Nat → Nat}
def plainB (o : Oper) : Bool := match o.op with
 | .move _ | .assign _ | .load .. | .fieldAddr .. | .indexAddr .. | .unOp .. | .pick .. | .extract .. | .build .. | .field .. | .binOp .. | .nilCheck _ | .slice .. => true
 | .call c => (match c.callee with | .builtin .len => true | _ => false)
 | _ => false
theorem value_only {α : Type} {s : Sem α} {g : α → Value} {w : World} {n : Next} {w' : World} (h : ((do pure (.value (g (← s))) : Sem Next)).run P w = .ok n w') : ∃ u, n = .value u := by
 have h2 : (s.run P w).andThen (fun u w'' => (Result.ok (Next.value (g u)) w'' : Result Next)) = .ok n w' := by simpa using h
 cases hs : s.run P w with
 | ok u w'' =>
  rw [hs] at h2
  simp [Result.andThen] at h2
  exact ⟨g u, h2.1.symm⟩
 | halt x w'' =>
  rw [hs] at h2
  simp [Result.andThen] at h2
theorem call_len {c : Call} {ty : TypeId} {ρ : Operand → Value} (hc : (match c.callee with | .builtin .len => true | _ => false) = true) {w w' : World} {n : Next}
  (h : ((do let d ← resolve ρ c ty; invoke d.target d.args) : Sem Next).run P w = .ok n w') : ∃ u, n = .value u := by
 have hc' : c.callee = .builtin .len := by
  revert hc
  cases c.callee with
  | builtin b => cases b <;> simp
  | value _ => simp
  | invoke _ _ => simp
 simp only [resolve, hc', invoke, builtin] at h
 have h2 : (((do pure (.value (← Builtin.len_ c.argTypes ty (c.args.map ρ))) : Sem Next)).run P w) = .ok n w' := by simpa using h
 exact value_only (g := id) h2
theorem bind_value {α : Type} {s : Sem α} {f : α → Sem Next} (hf : ∀ a w n w', (f a).run P w = .ok n w' → ∃ u, n = .value u) {w w' : World} {n : Next} (h : (s >>= f).run P w = .ok n w') : ∃ u, n = .value u := by
 have h2 : (s.run P w).andThen (fun u w'' => (f u).run P w'') = .ok n w' := by simpa using h
 cases hs : s.run P w with
 | ok u w'' =>
  rw [hs] at h2
  exact hf u w'' n w' h2
 | halt x w'' =>
  rw [hs] at h2
  simp [Result.andThen] at h2
theorem pure_value {u : Value} {w w' : World} {n : Next} (h : (pure (.value u) : Sem Next).run P w = .ok n w') : ∃ u, n = .value u := by
 simp at h
 exact ⟨_, h.1.symm⟩
theorem plain_value {o : Oper} (hp : plainB o = true) {ρ : Operand → Value} {w w' : World} {n : Next} (h : (execOp ρ o).run P w = .ok n w') : ∃ u, n = .value u := by
 unfold plainB at hp
 unfold execOp at h
 split at hp <;> simp_all only
 all_goals first
  | exact call_len hp h
  | exact value_only (g := id) h
  | exact value_only h
  | (simp at h; exact ⟨_, h.1.symm⟩)
  | cases hp
  | skip
 repeat' split at h
 all_goals first
  | exact pure_value h
  | (simp [runtimePanic] at h; done)
  | (simp at h; done)
  | exact bind_value (fun _ _ _ _ h => bind_value (fun b _ _ _ h => by
    split at h
    ·exact bind_value (fun _ _ _ _ h => pure_value h) h
    ·exact pure_value h) h) h
def givesAt (P : Program) (o : Oper) (a : Act) (w : World) (v : Value) : Prop := (execOp a.eval o).run P w = .ok (.value v) w
theorem gives_of_quiet {o : Oper} (hp : plainB o = true) {a : Act} {w : World} {v : Value} (h : o.quietAt P a C w v) : givesAt P o a w v := by
 unfold Oper.quietAt at h
 unfold givesAt
 cases hr : (execOp a.eval o).run P w with
 | ok n w' =>
  rw [hr] at h
  obtain ⟨u, rfl⟩ := plain_value hp hr
  obtain ⟨rfl, rfl⟩ := h
  rfl
 | halt x w' =>
  rw [hr] at h
  cases h
def pOp (P : Program) (ops : Array Oper) (C : World → Prop) (i : Nat) (K : Act → Prop) (a : Act) : Prop :=
 match ops[i]? with
 | none => K a
 | some o => if Region.wanted o (yielded ops a.tmps) then ∃ v, (∀ w, C w → givesAt P o a w v) ∧ K (a.put o.dst v) else K (a.put o.dst undef)
theorem pOp_mono {i : Nat} {a : Act} {K K' : Act → Prop} (h : ∀ a, K a → K' a) (hh : pOp P ops C i K a) : pOp P ops C i K' a := by
 unfold pOp at *
 split
 ·exact h _ (by simpa [*] using hh)
 ·rename_i o ho
  simp only [ho] at hh
  split
  ·rename_i hw
   simp only [hw, if_true] at hh
   obtain ⟨v, h1, h2⟩ := hh
   exact ⟨v, h1, h _ h2⟩
  ·rename_i hw; simp only [hw] at hh; exact h _ hh
theorem pOp_of_qOp {i : Nat} {o : Oper} (hi : ops[i]? = some o) (hp : plainB o = true) {a : Act} {K : Act → Prop} (h : qOp P ops C i K a) : pOp P ops C i K a := by
 unfold qOp at h
 unfold pOp
 simp only [hi] at h ⊢
 split
 ·rename_i hw
  simp only [hw, if_true] at h
  obtain ⟨v, h1, h2⟩ := h
  exact ⟨v, fun w hw' => gives_of_quiet hp (h1 w hw'), h2⟩
 ·rename_i hw; simp only [hw] at h; exact h
theorem wpOp_of_pOp {i : Nat} {a : Act} {K : Act → Prop} {K' : Act → World → Prop} {Q' : Exit → Act → World → Prop} {w : World} (hC : C w) (h : ∀ a, K a → K' a w) (hh : pOp P ops C i K a) : wpOp P ops Q' i K' a w := by
 unfold pOp at hh
 unfold wpOp
 split
 ·rename_i ho; simp only [ho] at hh; exact h _ hh
 ·rename_i o ho
  simp only [ho] at hh
  split
  ·rename_i hw
   simp only [hw, if_true] at hh
   obtain ⟨v, h1, h2⟩ := hh
   left
   unfold Oper.wp
   rw [h1 w hC]
   exact h _ h2
  ·rename_i hw; simp only [hw] at hh; exact h _ hh
def noQ : Exit → Act → World → Prop := fun _ _ _ => False
theorem wpOp_of_noQ {i : Nat} {a : Act} {w : World} {K : Act → World → Prop} {Q' : Exit → Act → World → Prop} (h : wpOp P ops noQ i K a w) : wpOp P ops Q' i K a w := by
 unfold wpOp at *
 split
 ·simpa [*] using h
 ·rename_i o ho
  simp only [ho] at h
  split
  ·rename_i hw
   simp only [hw, if_true] at h
   rcases h with h | ⟨_, _, _, h⟩
   case inr => cases h
   left
   unfold Oper.wp at *
   generalize (execOp a.eval o).run P w = r at *
   cases r with
   | ok n w' =>
    cases n <;> simp only [Oper.upon] at h ⊢
    case value u => exact h
    case skip => exact h
    case defer d => exact h
    case enter f args =>
     refine Calls.mono h fun e w'' he => ?_
     cases e with
     | returned u => exact he
     | panicked c => cases he
     | outgrown =>
      obtain ⟨_, _, h⟩ := he
      cases h
    case row row args => exact h
   | halt x w' =>
    cases x <;> simp only [Oper.upon] at h ⊢
    case panic u => cases h
  ·rename_i hw; simp only [hw] at h; exact h
structure Keeps (Y : Act → Prop) (oj : Oper) : Prop where
 put : ∀ a u, Y a → Y (a.put oj.dst u)
 dfr : ∀ a d, Y a → Y { a with defers := d :: a.defers }
theorem pOp_put {j : Nat} {oi oj : Oper} {v : Value} {Y : Act → Prop} (hj : ops[j]? = some oj) (hap : oi.apart ops oj = true) (hsj : ∀ cs b, oj.op ≠ .select cs b) (hY : Keeps Y oj) {K : Act → Prop} {a : Act}
  (hy : Y a) (h : pOp P ops C j K (a.put oi.dst v)) : pOp P ops C j (fun a' => Y a' ∧ K (a'.put oi.dst v)) a := by
 obtain ⟨h1, h2, h3⟩ := Oper.apart_spec hap
 unfold pOp at *
 simp only [hj] at *
 rw [wanted_put oj a oi.dst v h1] at h
 split
 ·rename_i hw
  simp only [hw, if_true] at h
  obtain ⟨u, hu, hn⟩ := h
  refine ⟨u, fun w hw' => ?_, hY.put a u hy, by rw [← Act.put_comm a v u h2]; exact hn⟩
  have := hu w hw'
  unfold givesAt at *
  rwa [execOp_put oj hsj a oi.dst v h1] at this
 ·rename_i hw
  simp only [hw] at h
  exact ⟨hY.put a _ hy, by rw [← Act.put_comm a v undef h2]; exact h⟩
theorem qOp_putY {j : Nat} {oi oj : Oper} {v : Value} {Y : Act → Prop} (hj : ops[j]? = some oj) (hap : oi.apart ops oj = true) (hsj : ∀ cs b, oj.op ≠ .select cs b) (hY : Keeps Y oj) {K : Act → Prop} {a : Act}
  (hy : Y a) (h : qOp P ops C j K (a.put oi.dst v)) : qOp P ops C j (fun a' => Y a' ∧ K (a'.put oi.dst v)) a := by
 obtain ⟨h1, h2, h3⟩ := Oper.apart_spec hap
 unfold qOp at *
 simp only [hj] at *
 rw [wanted_put oj a oi.dst v h1] at h
 split
 ·rename_i hw
  simp only [hw, if_true] at h
  obtain ⟨u, hu, hn⟩ := h
  refine ⟨u, fun w hw' => ?_, hY.put a u hy, by rw [← Act.put_comm a v u h2]; exact hn⟩
  have := hu w hw'
  unfold Oper.quietAt at *
  rwa [execOp_put oj hsj a oi.dst v h1] at this
 ·rename_i hw
  simp only [hw] at h
  exact ⟨hY.put a _ hy, by rw [← Act.put_comm a v undef h2]; exact h⟩
theorem wpOp_putY {j : Nat} {oi oj : Oper} {v : Value} {Y : Act → Prop} (hj : ops[j]? = some oj) (hap : oi.apart ops oj = true) (hsj : ∀ cs b, oj.op ≠ .select cs b) (hY : Keeps Y oj) {K : Act → World → Prop} {a : Act} {w : World}
  (hy : Y a) (h : wpOp P ops noQ j K (a.put oi.dst v) w) : wpOp P ops noQ j (fun a' w' => Y a' ∧ K (a'.put oi.dst v) w') a w := by
 obtain ⟨h1, h2, h3⟩ := Oper.apart_spec hap
 unfold wpOp at *
 simp only [hj] at *
 rw [wanted_put oj a oi.dst v h1] at h
 split
 ·rename_i hw
  simp only [hw, if_true] at h
  rcases h with h | ⟨_, _, _, h⟩
  case inr => cases h
  refine .inl ?_
  unfold Oper.wp at *
  rw [execOp_put oj hsj a oi.dst v h1] at h
  generalize (execOp a.eval oj).run P w = r at *
  cases r with
  | ok n w' =>
   cases n <;> simp only [Oper.upon] at h ⊢
   case value u => exact ⟨hY.put a u hy, by rw [← Act.put_comm a v u h2]; exact h⟩
   case skip => exact ⟨hY.put a _ hy, by rw [← Act.put_comm a v undef h2]; exact h⟩
   case defer d =>
    refine ⟨hY.put _ _ (hY.dfr a d hy), ?_⟩
    rw [← Act.put_comm _ v undef h2, ← Act.put_defers]
    exact h
   case enter f args =>
    refine Calls.mono h fun e w'' he => ?_
    cases e with
    | returned u => exact ⟨hY.put a u hy, by rw [← Act.put_comm a v u h2]; exact he⟩
    | panicked c => exact he
    | outgrown => exact he
   case row row args => exact Rows.mono h fun u w'' he => ⟨hY.put a u hy, by rw [← Act.put_comm a v u h2]; exact he⟩
  | halt x w' =>
   cases x <;> simp only [Oper.upon] at h ⊢
   case panic u => exact h
 ·rename_i hw
  simp only [hw] at h
  exact ⟨hY.put a _ hy, by rw [← Act.put_comm a v undef h2]; exact h⟩
def wpAnyM (P : Program) (md : Region.Mode) (ops : Array Oper) (C : World → Prop) (κ : Nat → Nat) (Q : Exit → Act → World → Prop) : Nat → Array Bool → Act → World → Prop
 | 0, listed, a, w => Region.ready md ops listed = [] ∧ Q .normal a w
 | f + 1, listed, a, w => (Region.ready md ops listed = [] → Q .normal a w) ∧ ∀ i ∈ Region.ready md ops listed,
   (κ i = 0 → pOp P ops C i (fun a' => wpAnyM P md ops C κ Q f (listed.setIfInBounds i true) a' w) a) ∧
   (κ i = 1 → qOp P ops C i (fun a' => ∀ w', C w' → wpAnyM P md ops C κ Q f (listed.setIfInBounds i true) a' w') a) ∧
   (2 ≤ κ i → wpOp P ops noQ i (fun a' w' => (κ i = 3 ∨ C w') ∧ wpAnyM P md ops C κ Q f (listed.setIfInBounds i true) a' w') a w)
def Closed (md : Region.Mode) (ops : Array Oper) (listed : Array Bool) : Prop := ∀ j oj, ops[j]? = some oj → listed.getD j false = true → ∀ e ∈ oj.after, Region.binds md e = true → listed.getD e.on false = true
theorem Closed.set {listed : Array Bool} (h : Closed md ops listed) {i : Nat} (hi : i ∈ Region.ready md ops listed) : Closed md ops (listed.setIfInBounds i true) := by
 obtain ⟨_, oi, hoi, hall⟩ := mem_ready.1 hi
 intro j oj hj hl e he hb
 by_cases hij : i = j
 ·subst hij
  have : oj = oi := Option.some.inj (hj.symm.trans hoi)
  subst this
  exact getD_set_true (hall e he hb)
 ·rw [getD_set_ne false hij] at hl
  exact getD_set_true (h j oj hj hl e he hb)
def RDone (ops : Array Oper) (κ : Nat → Nat) (listed : Array Bool) : Prop := ∀ j oj, ops[j]? = some oj → κ j ≤ 1 → listed.getD j false = true
theorem RDone.set {listed : Array Bool} (h : RDone ops κ listed) (i : Nat) : RDone ops κ (listed.setIfInBounds i true) := fun j oj hj hk => getD_set_true (h j oj hj hk)
theorem RDone.not {listed : Array Bool} (h : RDone ops κ listed) {i : Nat} (hi : i ∈ Region.ready md ops listed) (hk : κ i ≤ 1) : False := by
 obtain ⟨h0, oi, hoi, _⟩ := mem_ready.1 hi
 have := h i oi hoi hk
 rw [getD_both h0] at this
 cases this
structure Waits (md : Region.Mode) (ops : Array Oper) (κ : Nat → Nat) : Prop where
 fin : ∀ listed k, Closed md ops listed → k ∈ Region.ready md ops listed → κ k = 3 → RDone ops κ listed
 act : ∀ listed k, Closed md ops listed → k ∈ Region.ready md ops listed → 2 ≤ κ k → ∀ j oj, ops[j]? = some oj → κ j = 1 → listed.getD j false = true
theorem wpAny_of_M {Q : Exit → Act → World → Prop} (hW : Waits md ops κ) : ∀ (f : Nat) (listed : Array Bool) (a : Act) (w : World), Closed md ops listed → (C w ∨ RDone ops κ listed) → wpAnyM P md ops C κ Q f listed a w → wpAny P md ops Q f listed a w
 | 0, _, _, _, _, _, h => h
 | f + 1, listed, a, w, hc, hi, h => by
  refine ⟨h.1, fun i hr => ?_⟩
  obtain ⟨h0, h1, h2⟩ := h.2 i hr
  have hcs := hc.set hr
  rcases Nat.lt_or_ge (κ i) 2 with hk | hk
  ·have hC : C w := by
    rcases hi with hi | hi
    ·exact hi
    ·exact (hi.not hr (by omega)).elim
   by_cases hk0 : κ i = 0
   ·exact wpOp_of_pOp hC (fun a' h => wpAny_of_M hW f _ a' w hcs (.inl hC) h) (h0 hk0)
   ·exact wpOp_of_qOp hC (fun a' w' hw' h => wpAny_of_M hW f _ a' w' hcs (.inl hw') (h w' hw')) (h1 (by omega))
  ·refine wpOp_mono (fun a' w' h => wpAny_of_M hW f _ a' w' hcs ?_ h.2) (wpOp_of_noQ (h2 hk))
   rcases h.1 with h3 | h3
   ·exact .inr ((hW.fin listed i hc hr h3).set i)
   ·exact .inl h3
def YP (P : Program) (ops : Array Oper) (C : World → Prop) (o : Oper) (v : Value) (a : Act) : Prop :=
 (Region.wanted o (yielded ops a.tmps) = true ∧ ∀ w, C w → givesAt P o a w v) ∨ (Region.wanted o (yielded ops a.tmps) = false ∧ v = undef)
theorem YP.pOp {i : Nat} {o : Oper} {v : Value} {a : Act} (hi : ops[i]? = some o) (hy : YP P ops C o v a) {K : Act → Prop} (h : K (a.put o.dst v)) : pOp P ops C i K a := by
 unfold Go.Proofs.YtfafhbgkmlmmdaaGreatDoor.K.pOp
 simp only [hi]
 rcases hy with ⟨hw, hv⟩ | ⟨hw, rfl⟩
 ·simp only [hw, if_true]; exact ⟨v, hv, h⟩
 ·simp only [hw, Bool.false_eq_true, if_false]; exact h
theorem YP.of_same {o : Oper} {v : Value} {a a' : Act} (hy : YP P ops C o v a) (he : execOp a'.eval o = execOp a.eval o)
  (hw : Region.wanted o (yielded ops a'.tmps) = Region.wanted o (yielded ops a.tmps)) : YP P ops C o v a' := by
 unfold YP givesAt at *
 rw [he, hw]
 exact hy
theorem yP_of_pOp {i : Nat} {o : Oper} {a : Act} {K : Act → Prop} (hi : ops[i]? = some o) (h : pOp P ops C i K a) : ∃ v, YP P ops C o v a ∧ K (a.put o.dst v) := by
 unfold pOp at h
 simp only [hi] at h
 by_cases hw : Region.wanted o (yielded ops a.tmps) = true
 ·simp only [hw, if_true] at h
  obtain ⟨v, h1, h2⟩ := h
  exact ⟨v, .inl ⟨hw, h1⟩, h2⟩
 ·simp only [hw] at h
  exact ⟨undef, .inr ⟨by simpa using hw, rfl⟩, h⟩
theorem keeps_YP {oi oj : Oper} {v : Value} (hsi : ∀ cs b, oi.op ≠ .select cs b) (hap : oi.apart ops oj = true) : Keeps (YP P ops C oi v) oj := by
 obtain ⟨_, _, h3⟩ := Oper.apart_spec hap
 exact ⟨fun a u hy => hy.of_same (execOp_put oi hsi a oj.dst u h3) (wanted_put oi a oj.dst u h3), fun a d hy => hy.of_same rfl rfl⟩
theorem keeps_YI {oi oj : Oper} {v : Value} (hsi : ∀ cs b, oi.op ≠ .select cs b) (hap : oi.apart ops oj = true) : Keeps (YieldsIn P ops C oi v) oj := by
 obtain ⟨_, _, h3⟩ := Oper.apart_spec hap
 exact ⟨fun a u hy => hy.of_same (execOp_put oi hsi a oj.dst u h3) (wanted_put oi a oj.dst u h3), fun a d hy => hy.of_same rfl rfl⟩
def FreeAt (md : Region.Mode) (ops : Array Oper) (listed : Array Bool) (i : Nat) (oi : Oper) : Prop :=
 ∀ j oj, ops[j]? = some oj → j ≠ i → listed.getD j true = false → (∀ e ∈ oj.after, Region.binds md e = true → e.on ≠ i) → oi.apart ops oj = true
theorem FreeAt.set {listed : Array Bool} {i j : Nat} {oi : Oper} (h : FreeAt md ops listed i oi) (hj : listed.getD j true = false) : FreeAt md ops (listed.setIfInBounds j true) i oi := fun k ok hk hki hun hno => by
 refine h k ok hk hki ?_ hno
 by_cases hjk : j = k
 ·subst hjk; exact hj
 ·rw [getD_set_ne true hjk] at hun; exact hun
theorem FreeAt.apart {listed : Array Bool} {i j : Nat} {oi oj : Oper} (h : FreeAt md ops listed i oi) (hi : i ∈ Region.ready md ops listed) (hj : j ∈ Region.ready md ops listed) (hoj : ops[j]? = some oj) (hji : j ≠ i) : oi.apart ops oj = true := by
 obtain ⟨hjun, oj', hoj', hall⟩ := mem_ready.1 hj
 obtain rfl : oj' = oj := Option.some.inj (hoj'.symm.trans hoj)
 refine h j oj' hoj hji hjun fun e he hb heq => ?_
 have h1 := hall e he hb
 rw [heq, getD_both (mem_ready.1 hi).1] at h1
 cases h1
theorem first0 {Q : Exit → Act → World → Prop} (hW : Waits md ops κ) {i : Nat} {oi : Oper} {v : Value} (hi : ops[i]? = some oi) (hκ : κ i = 0) (hsel : ∀ (j : Nat) (o : Oper) cs b, ops[j]? = some o → o.op ≠ .select cs b) :
  ∀ (f : Nat) (listed : Array Bool) (a : Act) (w : World), Closed md ops listed → FreeAt md ops listed i oi → i ∈ Region.ready md ops listed → C w → YP P ops C oi v a →
   wpAnyM P md ops C κ Q f (listed.setIfInBounds i true) (a.put oi.dst v) w → wpAnyM P md ops C κ Q (f + 1) listed a w := by
 intro f
 induction f with
 | zero =>
  intro listed a w hc hf hr hC hy H
  refine ⟨fun h => (by rw [h] at hr; cases hr), fun j hj => ?_⟩
  by_cases hji : j = i
  ·subst hji
   exact ⟨fun _ => hy.pOp hi H, fun h => by omega, fun h => by omega⟩
  ·have := ready_mono hj hji
   rw [H.1] at this
   cases this
 | succ f ih =>
  intro listed a w hc hf hr hC hy H
  refine ⟨fun h => (by rw [h] at hr; cases hr), fun j hj => ?_⟩
  by_cases hji : j = i
  ·subst hji
   exact ⟨fun _ => hy.pOp hi H, fun h => by omega, fun h => by omega⟩
  ·obtain ⟨h0, h1, h2⟩ := H.2 j (ready_mono hj hji)
   obtain ⟨hjun, oj, hoj, _⟩ := mem_ready.1 hj
   have hap := hf.apart hr hj hoj hji
   have hsi := fun cs b => hsel i oi cs b hi
   have hsj := fun cs b => hsel j oj cs b hoj
   have hcs := hc.set hj
   have hfs := hf.set hjun
   have hrs := ready_mono hr (Ne.symm hji)
   refine ⟨fun hk => ?_, fun hk => ?_, fun hk => ?_⟩
   ·refine pOp_mono (fun a' h3 => ih _ a' w hcs hfs hrs hC h3.1 ?_) (pOp_put hoj hap hsj (keeps_YP hsi hap) hy (h0 hk))
    rw [Array.setIfInBounds_comm _ _ hji]
    exact h3.2
   ·refine qOp_mono (fun a' h3 w' hw' => ih _ a' w' hcs hfs hrs hw' h3.1 ?_) (qOp_putY hoj hap hsj (keeps_YP hsi hap) hy (h1 hk))
    rw [Array.setIfInBounds_comm _ _ hji]
    exact h3.2 w' hw'
   ·refine wpOp_mono (fun a' w' h3 => ⟨h3.2.1, ?_⟩) (wpOp_putY hoj hap hsj (keeps_YP hsi hap) hy (h2 hk))
    have hw' : C w' := by
     rcases h3.2.1 with h4 | h4
     ·exact ((hW.fin listed j hc hj h4).not hr (by omega)).elim
     ·exact h4
    refine ih _ a' w' hcs hfs hrs hw' h3.1 ?_
    rw [Array.setIfInBounds_comm _ _ hji]
    exact h3.2.2
theorem pOp_all {j : Nat} {oj : Oper} (hj : ops[j]? = some oj) {a : Act} {K : Act → World → Prop} {w : World} (hC : C w) (h : ∀ w', C w' → pOp P ops C j (fun a' => K a' w') a) : pOp P ops C j (fun a' => ∀ w', C w' → K a' w') a := by
 unfold pOp at *
 simp only [hj] at *
 split
 ·rename_i hw
  simp only [hw, if_true] at h
  obtain ⟨v, h1, _⟩ := h w hC
  refine ⟨v, h1, fun w' hw' => ?_⟩
  obtain ⟨v', h3, h4⟩ := h w' hw'
  have e := (h1 w hC).symm.trans (h3 w hC)
  obtain rfl : v = v' := by simpa using e
  exact h4
 ·rename_i hw
  simp only [hw] at h
  exact h
theorem first1 {Q : Exit → Act → World → Prop} (hW : Waits md ops κ) {i : Nat} {oi : Oper} {v : Value} (hi : ops[i]? = some oi) (hκ : κ i = 1) (hsel : ∀ (j : Nat) (o : Oper) cs b, ops[j]? = some o → o.op ≠ .select cs b) :
  ∀ (f : Nat) (listed : Array Bool) (a : Act), Closed md ops listed → FreeAt md ops listed i oi → i ∈ Region.ready md ops listed → YieldsIn P ops C oi v a →
   (∀ w, C w → wpAnyM P md ops C κ Q f (listed.setIfInBounds i true) (a.put oi.dst v) w) → ∀ w, C w → wpAnyM P md ops C κ Q (f + 1) listed a w := by
 intro f
 induction f with
 | zero =>
  intro listed a hc hf hr hy H w hC
  refine ⟨fun h => (by rw [h] at hr; cases hr), fun j hj => ?_⟩
  by_cases hji : j = i
  ·subst hji
   exact ⟨fun h => by omega, fun _ => hy.qOp hi H, fun h => by omega⟩
  ·have := ready_mono hj hji
   rw [(H w hC).1] at this
   cases this
 | succ f ih =>
  intro listed a hc hf hr hy H w hC
  refine ⟨fun h => (by rw [h] at hr; cases hr), fun j hj => ?_⟩
  by_cases hji : j = i
  ·subst hji
   exact ⟨fun h => by omega, fun _ => hy.qOp hi H, fun h => by omega⟩
  ·obtain ⟨hjun, oj, hoj, _⟩ := mem_ready.1 hj
   have hap := hf.apart hr hj hoj hji
   have hsi := fun cs b => hsel i oi cs b hi
   have hsj := fun cs b => hsel j oj cs b hoj
   have hcs := hc.set hj
   have hfs := hf.set hjun
   have hrs := ready_mono hr (Ne.symm hji)
   refine ⟨fun hk => ?_, fun hk => ?_, fun hk => ?_⟩
   ·have hall := pOp_all hoj hC (fun w' hw' => ((H w' hw').2 j (ready_mono hj hji)).1 hk)
    refine pOp_mono (fun a' h3 => ih _ a' hcs hfs hrs h3.1 (fun w' hw' => ?_) w hC) (pOp_put hoj hap hsj (keeps_YI hsi hap) hy hall)
    rw [Array.setIfInBounds_comm _ _ hji]
    exact h3.2 w' hw'
   ·refine qOp_mono (fun a' h3 w' hw' => ih _ a' hcs hfs hrs h3.1 (fun w'' hw'' => ?_) w' hw') (qOp_putY hoj hap hsj (keeps_YI hsi hap) hy (((H w hC).2 j (ready_mono hj hji)).2.1 hk))
    rw [Array.setIfInBounds_comm _ _ hji]
    exact h3.2 w'' hw''
   ·have := hW.act listed j hc hj hk i oi hi hκ
    rw [getD_both (mem_ready.1 hr).1] at this
    cases this
def wpSeqM (P : Program) (ops : Array Oper) (C : World → Prop) (κ : Nat → Nat) (Q : Exit → Act → World → Prop) : List Nat → Act → World → Prop
 | [], a, w => Q .normal a w
 | k :: r, a, w => wpOp P ops noQ k (fun a' w' => (κ k = 3 ∨ C w') ∧ wpSeqM P ops C κ Q r a' w') a w
def seqMB (md : Region.Mode) (ops : Array Oper) (κ : Nat → Nat) : List Nat → Array Bool → Bool
 | [], listed => (Region.ready md ops listed).isEmpty
 | k :: r, listed => decide (Region.ready md ops listed = [k]) && decide (2 ≤ κ k) && seqMB md ops κ r (listed.setIfInBounds k true)
theorem anyM_of_seq {Q : Exit → Act → World → Prop} : ∀ (l : List Nat) (listed : Array Bool) (a : Act) (w : World), seqMB md ops κ l listed = true → wpSeqM P ops C κ Q l a w → wpAnyM P md ops C κ Q l.length listed a w
 | [], _, _, _, hB, h => ⟨by simpa [seqMB] using hB, h⟩
 | k :: r, listed, a, w, hB, h => by
  simp only [seqMB, Bool.and_eq_true, decide_eq_true_eq] at hB
  obtain ⟨⟨hr, hk⟩, hB⟩ := hB
  refine ⟨fun h0 => (by rw [hr] at h0; cases h0), fun i hi => ?_⟩
  rw [hr] at hi
  obtain rfl : i = k := by simpa using hi
  exact ⟨fun h => by omega, fun h => by omega, fun _ => wpOp_mono (fun a' w' h' => ⟨h'.1, anyM_of_seq r _ a' w' hB h'.2⟩) h⟩
def lexMB (md : Region.Mode) (ops : Array Oper) (κ : Nat → Nat) (l2 : List Nat) : List Nat → Array Bool → Bool
 | [], listed => seqMB md ops κ l2 listed
 | i :: r, listed => (Region.ready md ops listed).contains i && Region.free md ops listed i && (match ops[i]? with | some o => (κ i == 0 && plainB o) || κ i == 1 | none => false) && lexMB md ops κ l2 r (listed.setIfInBounds i true)
def opsAt (ops : Array Oper) (l : List Nat) : List Oper := l.filterMap fun i => ops[i]?
theorem anyM_lex {Q : Exit → Act → World → Prop} (hW : Waits md ops κ) (hs : Region.noSelect ops = true) (l2 : List Nat) : ∀ (l : List Nat) (listed : Array Bool) (a : Act), Closed md ops listed → lexMB md ops κ l2 l listed = true →
  wpQuiet P ops C (fun a' => ∀ w', C w' → wpSeqM P ops C κ Q l2 a' w') (opsAt ops l) a → ∀ w, C w → wpAnyM P md ops C κ Q (l.length + l2.length) listed a w
 | [], listed, a, _, hB, h, w, hC => by
  rw [List.length_nil, Nat.zero_add]
  exact anyM_of_seq l2 listed a w (by simpa [lexMB] using hB) (h w hC)
 | i :: r, listed, a, hc, hB, h, w, hC => by
  simp only [lexMB, Bool.and_eq_true] at hB
  obtain ⟨⟨⟨hr, hf⟩, hk⟩, hB⟩ := hB
  have hr' : i ∈ Region.ready md ops listed := by simpa using hr
  obtain ⟨_, oi, hi, _⟩ := mem_ready.1 hr'
  have hfa : FreeAt md ops listed i oi := Region.free_spec hi hf
  simp only [hi, Bool.or_eq_true, Bool.and_eq_true, beq_iff_eq] at hk
  have hq : qOp P ops C i (wpQuiet P ops C (fun a' => ∀ w', C w' → wpSeqM P ops C κ Q l2 a' w') (opsAt ops r)) a := by
   unfold qOp
   simp only [hi]
   unfold opsAt at h
   rw [List.filterMap_cons, hi] at h
   exact h
  rw [List.length_cons, show r.length + 1 + l2.length = r.length + l2.length + 1 by omega]
  rcases hk with ⟨hk, hp⟩ | hk
  ·obtain ⟨v, hy, hK⟩ := yP_of_pOp hi (pOp_of_qOp hi hp hq)
   exact first0 hW hi hk (Region.noSelect_spec hs) _ listed a w hc hfa hr' hC hy (anyM_lex hW hs l2 r _ _ (hc.set hr') hB hK w hC)
  ·obtain ⟨v, hy, hK⟩ := yieldsIn_of_qOp hi hq
   exact first1 hW hi hk (Region.noSelect_spec hs) _ listed a hc hfa hr' hy (anyM_lex hW hs l2 r _ _ (hc.set hr') hB hK) w hC
def reachB (md : Region.Mode) (ops : Array Oper) : Nat → Nat → Nat → Bool
 | 0, _, _ => false
 | f + 1, j, i => match ops[j]? with
  | some oj => (oj.after.any fun e => Region.binds md e && e.on == i) || oj.after.any fun e => Region.binds md e && reachB md ops f e.on i
  | none => false
theorem reach_listed {listed : Array Bool} (hc : Closed md ops listed) : ∀ (f j i : Nat), listed.getD j false = true → reachB md ops f j i = true → listed.getD i false = true
 | 0, _, _, _, h => by cases h
 | f + 1, j, i, hj, h => by
  unfold reachB at h
  split at h
  ·rename_i oj hoj
   rw [Bool.or_eq_true] at h
   rcases h with h | h
   ·obtain ⟨e, he, hb⟩ := Array.any_eq_true'.1 h
    simp only [Bool.and_eq_true, beq_iff_eq] at hb
    rw [← hb.2]
    exact hc j oj hoj hj e he hb.1
   ·obtain ⟨e, he, hb⟩ := Array.any_eq_true'.1 h
    simp only [Bool.and_eq_true] at hb
    exact reach_listed hc f e.on i (hc j oj hoj hj e he hb.1) hb.2
  ·cases h
theorem reach_ready {listed : Array Bool} (hc : Closed md ops listed) {f k i : Nat} (hk : k ∈ Region.ready md ops listed) (h : reachB md ops f k i = true) : listed.getD i false = true := by
 obtain ⟨_, ok, hok, hall⟩ := mem_ready.1 hk
 cases f with
 | zero => cases h
 | succ f =>
  unfold reachB at h
  rw [hok] at h
  dsimp only at h
  rw [Bool.or_eq_true] at h
  rcases h with h | h
  ·obtain ⟨e, he, hb⟩ := Array.any_eq_true'.1 h
   simp only [Bool.and_eq_true, beq_iff_eq] at hb
   rw [← hb.2]
   exact hall e he hb.1
  ·obtain ⟨e, he, hb⟩ := Array.any_eq_true'.1 h
   simp only [Bool.and_eq_true] at hb
   exact reach_listed hc f e.on i (hall e he hb.1) hb.2
def waitsB (md : Region.Mode) (ops : Array Oper) (κ : Nat → Nat) : Bool := (List.range ops.size).all fun k => decide (κ k < 2) || (List.range ops.size).all fun j => (decide (2 ≤ κ j) || (κ j == 0 && κ k != 3)) || reachB md ops ops.size k j
theorem waits_of (h : waitsB md ops κ = true) : Waits md ops κ := by
 have key : ∀ listed k, Closed md ops listed → k ∈ Region.ready md ops listed → 2 ≤ κ k → ∀ j oj, ops[j]? = some oj → (κ j = 1 ∨ (κ j ≤ 1 ∧ κ k = 3)) → listed.getD j false = true := by
  intro listed k hc hk h2 j oj hoj hj
  have hkl := (Array.getElem?_eq_some_iff.1 (mem_ready.1 hk).2.choose_spec.1).1
  have hjl := (Array.getElem?_eq_some_iff.1 hoj).1
  have h1 := List.all_eq_true.1 h k (List.mem_range.2 hkl)
  simp only [Bool.or_eq_true, decide_eq_true_eq] at h1
  rcases h1 with h1 | h1
  ·omega
  ·have h3 := List.all_eq_true.1 h1 j (List.mem_range.2 hjl)
   simp only [Bool.or_eq_true, decide_eq_true_eq, Bool.and_eq_true, beq_iff_eq, bne_iff_ne] at h3
   rcases h3 with (h3 | h3) | h3
   ·omega
   ·omega
   ·exact reach_ready hc hk h3
 exact ⟨fun listed k hc hk h3 j oj hoj hj => key listed k hc hk (by omega) j oj hoj (.inr ⟨hj, h3⟩), fun listed k hc hk h2 j oj hoj hj => key listed k hc hk h2 j oj hoj (.inl hj)⟩
def mixB (md : Region.Mode) (ops : Array Oper) (κ : Nat → Nat) (l1 l2 : List Nat) : Bool := Region.noSelect ops && decide (l1.length + l2.length = ops.size) && waitsB md ops κ && lexMB md ops κ l2 l1 (Array.replicate ops.size false)
theorem wp_region_mix {id : Nat} {Q : Exit → Act → World → Prop} {a : Act} {w : World} {l : List Oper} (κ : Nat → Nat) (l1 l2 : List Nat) (C : World → Prop) (hm : P.follows .mixedOrders = true) (hB : mixB .any l.toArray κ l1 l2 = true) (hC : C { w with drawn := w.drawn + 1 })
  (h : wpQuiet P l.toArray C (fun a' => ∀ w', C w' → wpSeqM P l.toArray C κ Q l2 a' w') (opsAt l.toArray l1) a) : (Code.region id l.toArray true).wp P Q a w := by
 simp only [mixB, Bool.and_eq_true, decide_eq_true_eq] at hB
 obtain ⟨⟨⟨hs, hn⟩, hw⟩, hB⟩ := hB
 have hW := waits_of hw
 have hc : Closed .any l.toArray (Array.replicate l.toArray.size false) := fun j oj _ hl => by rw [getD_replicate_false] at hl; cases hl
 have H := anyM_lex (Q := Q) hW hs l2 l1 _ a hc hB h _ hC
 rw [hn] at H
 exact wp_region_any hm (wpAny_of_M hW _ _ _ _ hc (.inl hC) H)
def wpFreeM (P : Program) (md : Region.Mode) (ops : Array Oper) (C : World → Prop) (κ : Nat → Nat) (Q : Exit → Act → World → Prop) : Nat → Array Bool → Act → World → Prop
 | 0, _, a, w => Q .normal a w
 | n + 1, listed, a, w => ∀ k ∈ Region.ready md ops listed, wpOp P ops noQ k (fun a' w' => (κ k = 3 ∨ C w') ∧ wpFreeM P md ops C κ Q n (listed.setIfInBounds k true) a' w') a w
def freeMB (md : Region.Mode) (ops : Array Oper) (κ : Nat → Nat) : Nat → Array Bool → Bool
 | 0, listed => (Region.ready md ops listed).isEmpty
 | n + 1, listed => !(Region.ready md ops listed).isEmpty && (Region.ready md ops listed).all fun k => decide (2 ≤ κ k) && freeMB md ops κ n (listed.setIfInBounds k true)
theorem anyM_of_free {Q : Exit → Act → World → Prop} : ∀ (n : Nat) (listed : Array Bool) (a : Act) (w : World), freeMB md ops κ n listed = true → wpFreeM P md ops C κ Q n listed a w → wpAnyM P md ops C κ Q n listed a w
 | 0, _, _, _, hB, h => ⟨by simpa [freeMB] using hB, h⟩
 | n + 1, listed, a, w, hB, h => by
  simp only [freeMB, Bool.and_eq_true, List.all_eq_true, decide_eq_true_eq] at hB
  obtain ⟨h1, hB⟩ := hB
  refine ⟨fun h0 => (by rw [h0] at h1; cases h1), fun i hi => ?_⟩
  have hk := hB i hi
  exact ⟨fun h => by omega, fun h => by omega, fun _ => wpOp_mono (fun a' w' h' => ⟨h'.1, anyM_of_free n _ a' w' hk.2 h'.2⟩) (h i hi)⟩
def lexFB (md : Region.Mode) (ops : Array Oper) (κ : Nat → Nat) (n : Nat) : List Nat → Array Bool → Bool
 | [], listed => freeMB md ops κ n listed
 | i :: r, listed => (Region.ready md ops listed).contains i && Region.free md ops listed i && (match ops[i]? with | some o => (κ i == 0 && plainB o) || κ i == 1 | none => false) && lexFB md ops κ n r (listed.setIfInBounds i true)
theorem anyM_lexF {Q : Exit → Act → World → Prop} (hW : Waits md ops κ) (hs : Region.noSelect ops = true) (n : Nat) : ∀ (l : List Nat) (listed : Array Bool) (a : Act) (w : World), Closed md ops listed → lexFB md ops κ n l listed = true → (l.all fun i => κ i == 0) = true →
  C w → wpQuiet P ops C (fun a' => wpFreeM P md ops C κ Q n (l.foldl (fun s i => s.setIfInBounds i true) listed) a' w) (opsAt ops l) a → wpAnyM P md ops C κ Q (l.length + n) listed a w
 | [], listed, a, w, _, hB, _, _, h => by
  rw [List.length_nil, Nat.zero_add]
  exact anyM_of_free n listed a w (by simpa [lexFB] using hB) h
 | i :: r, listed, a, w, hc, hB, h0, hC, h => by
  simp only [lexFB, Bool.and_eq_true] at hB
  obtain ⟨⟨⟨hr, hf⟩, hk⟩, hB⟩ := hB
  have hr' : i ∈ Region.ready md ops listed := by simpa using hr
  obtain ⟨_, oi, hi, _⟩ := mem_ready.1 hr'
  have hfa : FreeAt md ops listed i oi := Region.free_spec hi hf
  simp only [hi, Bool.or_eq_true, Bool.and_eq_true, beq_iff_eq] at hk
  simp only [List.all_cons, Bool.and_eq_true, beq_iff_eq] at h0
  have hq : qOp P ops C i (wpQuiet P ops C (fun a' => wpFreeM P md ops C κ Q n (r.foldl (fun s i => s.setIfInBounds i true) (listed.setIfInBounds i true)) a' w) (opsAt ops r)) a := by
   unfold qOp
   simp only [hi]
   unfold opsAt at h
   rw [List.filterMap_cons, hi, List.foldl_cons] at h
   exact h
  rw [List.length_cons, show r.length + 1 + n = r.length + n + 1 by omega]
  rcases hk with ⟨_, hp⟩ | hk
  ·obtain ⟨v, hy, hK⟩ := yP_of_pOp hi (pOp_of_qOp hi hp hq)
   exact first0 hW hi h0.1 (Region.noSelect_spec hs) _ listed a w hc hfa hr' hC hy (anyM_lexF hW hs n r _ _ w (hc.set hr') hB h0.2 hC hK)
  ·omega
def mixFB (md : Region.Mode) (ops : Array Oper) (κ : Nat → Nat) (l1 : List Nat) (n : Nat) : Bool := Region.noSelect ops && decide (l1.length + n = ops.size) && waitsB md ops κ && lexFB md ops κ n l1 (Array.replicate ops.size false) && l1.all fun i => κ i == 0
theorem wp_region_mixF {id : Nat} {Q : Exit → Act → World → Prop} {a : Act} {w : World} {l : List Oper} (κ : Nat → Nat) (l1 : List Nat) (n : Nat) (C : World → Prop) (hm : P.follows .mixedOrders = true) (hB : mixFB .any l.toArray κ l1 n = true) (hC : C { w with drawn := w.drawn + 1 })
  (h : wpQuiet P l.toArray C (fun a' => wpFreeM P .any l.toArray C κ Q n (l1.foldl (fun s i => s.setIfInBounds i true) (Array.replicate l.toArray.size false)) a' { w with drawn := w.drawn + 1 }) (opsAt l.toArray l1) a) : (Code.region id l.toArray true).wp P Q a w := by
 simp only [mixFB, Bool.and_eq_true, decide_eq_true_eq] at hB
 obtain ⟨⟨⟨⟨hs, hn⟩, hw⟩, hB⟩, h0⟩ := hB
 have hW := waits_of hw
 have hc : Closed .any l.toArray (Array.replicate l.toArray.size false) := fun j oj _ hl => by rw [getD_replicate_false] at hl; cases hl
 have H := anyM_lexF (Q := Q) hW hs n l1 _ a _ hc hB h0 hC h
 rw [hn] at H
 exact wp_region_any hm (wpAny_of_M hW _ _ _ _ hc (.inl hC) H)
def wpAllM (P : Program) (md : Region.Mode) (ops : Array Oper) (C : World → Prop) (κ : Nat → Nat) (Q : Exit → Act → World → Prop) (n : Nat) (listed : Array Bool) (a : Act) (w : World) : List Nat → Prop
 | [] => True
 | k :: r => wpOp P ops noQ k (fun a' w' => (κ k = 3 ∨ C w') ∧ wpFreeM P md ops C κ Q n (listed.setIfInBounds k true) a' w') a w ∧ wpAllM P md ops C κ Q n listed a w r
theorem wpAllM_mem {Q : Exit → Act → World → Prop} {n : Nat} {listed : Array Bool} {a : Act} {w : World} : ∀ {rs : List Nat}, wpAllM P md ops C κ Q n listed a w rs → ∀ k ∈ rs, wpOp P ops noQ k (fun a' w' => (κ k = 3 ∨ C w') ∧ wpFreeM P md ops C κ Q n (listed.setIfInBounds k true) a' w') a w
 | [], _, k, hk => by cases hk
 | x :: r, h, k, hk => by
  rcases List.mem_cons.1 hk with rfl | hk
  ·exact h.1
  ·exact wpAllM_mem h.2 k hk
theorem wpFreeM_step {Q : Exit → Act → World → Prop} {n : Nat} {listed : Array Bool} {a : Act} {w : World} (rs : List Nat) (hr : Region.ready md ops listed = rs) (h : wpAllM P md ops C κ Q n listed a w rs) : wpFreeM P md ops C κ Q (n + 1) listed a w := fun k hk => wpAllM_mem h k (hr ▸ hk)
theorem wpOp_of_list {k : Nat} {o : Oper} {K : Act → World → Prop} {a : Act} {w : World} (hk : ops[k]? = some o) (h : wpList P ops (fun ex a' w' => ex = .normal ∧ K a' w') [o] a w) : wpOp P ops noQ k K a w := by
 unfold wpOp
 simp only [hk]
 unfold wpList at h
 split
 ·rename_i hw
  simp only [hw, if_true] at h
  rcases h with h | ⟨_, _, _, h, _⟩
  case inr => cases h
  left
  unfold Oper.wp at *
  generalize (execOp a.eval o).run P w = r at *
  cases r with
  | ok n w' =>
   cases n <;> simp only [Oper.upon] at h ⊢
   case value u => exact h.2
   case skip => exact h.2
   case defer d => exact h.2
   case enter f args =>
    refine Calls.mono h fun e w'' he => ?_
    cases e with
    | returned u => exact he.2
    | panicked c => cases he.1
    | outgrown =>
     obtain ⟨_, _, h, _⟩ := he
     cases h
   case row row args => exact Rows.mono h fun _ _ he => he.2
  | halt x w' =>
   cases x <;> simp only [Oper.upon] at h ⊢
   case panic u => cases h.1
 ·rename_i hw
  simp only [hw] at h
  exact h.2
theorem wpSeqM_step {Q : Exit → Act → World → Prop} {k : Nat} {r : List Nat} {o : Oper} {a : Act} {w : World} (hk : ops[k]? = some o)
  (h : wpList P ops (fun ex a' w' => ex = .normal ∧ (κ k = 3 ∨ C w') ∧ wpSeqM P ops C κ Q r a' w') [o] a w) : wpSeqM P ops C κ Q (k :: r) a w := wpOp_of_list hk h
end
end Go.Proofs.YtfafhbgkmlmmdaaGreatDoor.K
namespace Go.Proofs.YtfafhbgkmlmmdaaGreatDoor.K
open Go.Lib
theorem contains_iff (s sub : List UInt8) : contains s sub = true ↔ ∃ a c, s = a ++ (sub ++ c) := by
 unfold contains
 rw [decide_eq_true_eq]
 constructor
 ·intro h
  rcases index_spec s sub with ⟨h1, _⟩ | ⟨i, _, h2, h3, _⟩
  ·omega
  ·unfold occAt at h3
   obtain ⟨c, hc⟩ := List.isPrefixOf_iff_prefix.1 h3
   exact ⟨s.take i, c, by rw [hc, List.take_append_drop]⟩
 ·rintro ⟨a, c, rfl⟩
  rcases index_spec (a ++ (sub ++ c)) sub with ⟨_, h2⟩ | ⟨i, h1, _⟩
  ·have := h2 a.length (by simp)
   unfold occAt at this
   rw [List.drop_left] at this
   have h3 : sub.isPrefixOf (sub ++ c) = true := List.isPrefixOf_iff_prefix.2 ⟨c, rfl⟩
   rw [h3] at this
   cases this
  ·omega
def joinB : List (List UInt8) → List UInt8
 | [] => [32]
 | w :: r => 32 :: (w ++ joinB r)
theorem joinB_head : ∀ ws : List (List UInt8), ∃ t, joinB ws = 32 :: t
 | [] => ⟨_, rfl⟩
 | _ :: _ => ⟨_, rfl⟩
theorem split32 : ∀ {n w x y : List UInt8}, 32 ∉ n → 32 ∉ w → n ++ 32 :: x = w ++ 32 :: y → n = w ∧ x = y
 | [], [], _, _, _, _, h => ⟨rfl, by simpa using h⟩
 | [], b :: w, _, _, _, hw, h => by
  simp at h
  rw [← h.1] at hw
  simp at hw
 | a :: n, [], _, _, hn, _, h => by
  simp at h
  rw [h.1] at hn
  simp at hn
 | a :: n, b :: w, x, y, hn, hw, h => by
  simp at h
  have h1 : 32 ∉ n := fun h => hn (List.mem_cons_of_mem _ h)
  have h2 : 32 ∉ w := fun h => hw (List.mem_cons_of_mem _ h)
  obtain ⟨e1, e2⟩ := split32 h1 h2 h.2
  exact ⟨by rw [h.1, e1], e2⟩
theorem skip32 : ∀ {w a x y : List UInt8}, 32 ∉ w → a ++ 32 :: x = w ++ y → ∃ a', a = w ++ a'
 | [], a, _, _, _, _ => ⟨a, rfl⟩
 | b :: w, [], _, _, hw, h => by
  simp at h
  rw [← h.1] at hw
  simp at hw
 | b :: w, c :: a, x, y, hw, h => by
  simp at h
  have h2 : 32 ∉ w := fun h => hw (List.mem_cons_of_mem _ h)
  obtain ⟨a', ha⟩ := skip32 h2 h.2
  exact ⟨a', by rw [h.1, ha]; rfl⟩
theorem in_join {n : List UInt8} (hn : 32 ∉ n) : ∀ {ws : List (List UInt8)}, (∀ w ∈ ws, 32 ∉ w) → ((∃ a c, joinB ws = a ++ (32 :: (n ++ [32]) ++ c)) ↔ n ∈ ws)
 | [], _ => by
  constructor
  ·rintro ⟨a, c, h⟩
   have := congrArg List.length h
   simp [joinB] at this
   omega
  ·intro h
   cases h
 | w :: r, hw => by
  have hw1 : 32 ∉ w := hw w (List.mem_cons_self ..)
  have ih := in_join hn (ws := r) (fun x hx => hw x (List.mem_cons_of_mem _ hx))
  obtain ⟨t, ht⟩ := joinB_head r
  constructor
  ·rintro ⟨a, c, h⟩
   cases a with
   | nil =>
    unfold joinB at h
    rw [ht] at h
    simp at h
    exact List.mem_cons.2 (.inl (split32 hw1 hn h).1.symm)
   | cons b a =>
    unfold joinB at h
    simp at h
    obtain ⟨a', rfl⟩ := skip32 hw1 h.2.symm
    rw [List.append_assoc, List.append_cancel_left_eq] at h
    exact List.mem_cons_of_mem _ (ih.1 ⟨a', c, by rw [h.2]; simp⟩)
  ·intro h
   rcases List.mem_cons.1 h with rfl | h
   ·exact ⟨[], t, by unfold joinB; rw [ht]; simp⟩
   ·obtain ⟨a, c, h2⟩ := ih.2 h
    exact ⟨32 :: (w ++ a), c, by rw [joinB, h2]; simp⟩
theorem contains_join {n : List UInt8} (hn : 32 ∉ n) {ws : List (List UInt8)} (hw : ∀ w ∈ ws, 32 ∉ w) : contains (joinB ws) (32 :: (n ++ [32])) = decide (n ∈ ws) := by
 rw [Bool.eq_iff_iff, contains_iff, decide_eq_true_eq, ← in_join hn hw]
theorem contains_blank (n : List UInt8) : contains n [32] = decide (32 ∈ n) := by
 rw [Bool.eq_iff_iff, contains_iff, decide_eq_true_eq]
 constructor
 ·rintro ⟨a, c, rfl⟩
  simp
 ·intro h
  obtain ⟨a, c, rfl⟩ := List.append_of_mem h
  exact ⟨a, c, by simp⟩
def nm0 : List (List UInt8) := [[97, 100, 100, 114, 101, 115, 115], [97, 114, 116, 105, 99, 108, 101], [97, 115, 105, 100, 101], [98, 108, 111, 99, 107, 113, 117, 111, 116, 101], [98, 111, 100, 121], [99, 101, 110, 116, 101, 114], [100, 100], [100, 101, 116, 97, 105, 108, 115], [100, 105, 97, 108, 111, 103], [100, 105, 118], [100, 108], [100, 116], [102, 105, 101, 108, 100, 115, 101, 116], [102, 105, 103, 99, 97, 112, 116, 105, 111, 110], [102, 105, 103, 117, 114, 101], [102, 111, 111, 116, 101, 114], [102, 111, 114, 109], [104, 49], [104, 50], [104, 51], [104, 52], [104, 53], [104, 54], [104, 101, 97, 100, 101, 114], [104, 114], [104, 116, 109, 108], [108, 105], [109, 97, 105, 110], [110, 97, 118], [111, 108], [112], [112, 114, 101], [115, 101, 99, 116, 105, 111, 110], [115, 117, 109, 109, 97, 114, 121], [116, 97, 98, 108, 101], [116, 98, 111, 100, 121], [116, 100], [116, 102, 111, 111, 116], [116, 104], [116, 104, 101, 97, 100], [116, 114], [117, 108]]
def nm1 : List (List UInt8) := [[97, 114, 101, 97], [98, 97, 115, 101], [98, 114], [99, 111, 108], [101, 109, 98, 101, 100], [104, 114], [105, 109, 103], [105, 110, 112, 117, 116], [108, 105, 110, 107], [109, 101, 116, 97], [115, 111, 117, 114, 99, 101], [116, 114, 97, 99, 107], [119, 98, 114]]
def nm2 : List (List UInt8) := [[104, 101, 97, 100], [110, 111, 115, 99, 114, 105, 112, 116], [115, 99, 114, 105, 112, 116], [115, 116, 121, 108, 101], [116, 101, 109, 112, 108, 97, 116, 101], [116, 105, 116, 108, 101]]
def nm3 : List (List UInt8) := [[112, 114, 101]]
def nm4 : List (List UInt8) := [[110, 111, 98, 114]]
def nm5 : List (List UInt8) := [[98, 114]]
def nm6 : List (List UInt8) := [[119, 98, 114]]
def nmL : Nat → List (List UInt8)
 | 0 => nm0
 | 1 => nm1
 | 2 => nm2
 | 3 => nm3
 | 4 => nm4
 | 5 => nm5
 | 6 => nm6
 | _ => []
theorem nm_plain : ∀ j, ∀ w ∈ nmL j, 32 ∉ w
 | 0 => by decide +kernel
 | 1 => by decide +kernel
 | 2 => by decide +kernel
 | 3 => by decide +kernel
 | 4 => by decide +kernel
 | 5 => by decide +kernel
 | 6 => by decide +kernel
 | _ + 7 => by intro w h; cases h
def ofN (n : List UInt8) : Nat → Nat
 | 0 => 0
 | j + 1 => ofN n j + (if n ∈ nmL j then 2 ^ j else 0)
theorem ofN_lt (n : List UInt8) : ∀ j, ofN n j < 2 ^ j
 | 0 => by show 0 < 2 ^ 0; decide
 | j + 1 => by
  have := ofN_lt n j
  unfold ofN
  rw [Nat.pow_succ]
  split <;> omega
theorem ofN_blank {n : List UInt8} (h : 32 ∈ n) : ∀ j, ofN n j = 0
 | 0 => rfl
 | j + 1 => by
  unfold ofN
  rw [ofN_blank h j, if_neg (fun e => nm_plain j n e h)]
def wordB (n : List UInt8) : List UInt8 := 32 :: (n ++ [32])
theorem contains_nm {n : List UInt8} (h : 32 ∉ n) (j : Nat) : contains (joinB (nmL j)) (wordB n) = decide (n ∈ nmL j) := contains_join h (nm_plain j)
theorem nm_nodup : ∀ j, (nmL j).Nodup
 | 0 => by decide +kernel
 | 1 => by decide +kernel
 | 2 => by decide +kernel
 | 3 => by decide +kernel
 | 4 => by decide +kernel
 | 5 => by decide +kernel
 | 6 => by decide +kernel
 | _ + 7 => List.nodup_nil
end Go.Proofs.YtfafhbgkmlmmdaaGreatDoor.K
namespace Go.Proofs.YtfafhbgkmlmmdaaGreatDoor.K
structure Ct where
 h : Nat
 p : Nat
 n : Nat
def isB (N k : Nat) : Bool := N / 2 ^ k % 2 == 1
def clampN (c : Nat) (b : Int) : Nat := (min (max ((c : Int) + b) 0) 255).toNat
theorem clampN_le (c : Nat) (b : Int) : clampN c b ≤ 255 := by unfold clampN; omega
theorem clampN_eq (c : Nat) (b : Int) : ((clampN c b : Nat) : Int) = min (max ((c : Int) + b) 0) 255 := by unfold clampN; omega
theorem clampN_zero (c : Nat) (h : c ≤ 255) : clampN c 0 = c := by unfold clampN; omega
theorem clampN_up (c : Nat) (h : c < 255) : clampN c 1 = c + 1 := by unfold clampN; omega
def byN (N : Nat) (kd : Int) (sg : Bool) : Int := if isB N 1 then 0 else if kd = 3 then -1 else if sg then 0 else 1
theorem byN_cases (N : Nat) (kd : Int) (sg : Bool) : byN N kd sg = 0 ∨ byN N kd sg = 1 ∨ byN N kd sg = -1 := by
 unfold byN; (repeat' split) <;> simp
def addN (N : Nat) (b : Int) (c : Ct) : Ct :=
 ⟨if isB N 2 then clampN c.h b else c.h, if c.h = 0 ∧ isB N 3 then clampN c.p b else c.p, if c.h = 0 ∧ isB N 4 then clampN c.n b else c.n⟩
def forcesN (N : Nat) (kd : Int) : Bool := if kd = 3 then isB N 0 && !isB N 1 else isB N 0 || isB N 5
def takeC (N : Nat) (kd : Int) (sg : Bool) (c : Ct) : Ct := if kd = 2 ∨ kd = 3 then addN N (byN N kd sg) c else c
def takeF (N : Nat) (kd : Int) (c : Ct) : Bool := decide (kd = 2 ∨ kd = 3) && (decide (c.h = 0) && forcesN N kd)
def takeX (N : Nat) (kd : Int) (c : Ct) : Bool := decide (kd = 2) && (decide (c.h = 0) && isB N 6)
def Ct.ok (c : Ct) : Prop := c.h ≤ 255 ∧ c.p ≤ 255 ∧ c.n ≤ 255
theorem addN_ok (N : Nat) (b : Int) {c : Ct} (h : c.ok) : (addN N b c).ok := by
 obtain ⟨h1, h2, h3⟩ := h
 refine ⟨?_, ?_, ?_⟩
 ·show (if _ then _ else _) ≤ 255
  split
  ·exact clampN_le _ _
  ·exact h1
 ·show (if _ then _ else _) ≤ 255
  split
  ·exact clampN_le _ _
  ·exact h2
 ·show (if _ then _ else _) ≤ 255
  split
  ·exact clampN_le _ _
  ·exact h3
theorem takeC_ok (N : Nat) (kd : Int) (sg : Bool) {c : Ct} (h : c.ok) : (takeC N kd sg c).ok := by
 unfold takeC
 split
 ·exact addN_ok _ _ h
 ·exact h
theorem and4 : ∀ a : Nat, a < 128 → Go.bits Go.BinOp.and Go.IntKind.i64 (a : Int) 4 = if isB a 2 then 4 else 0 := by decide +kernel
theorem and8 : ∀ a : Nat, a < 128 → Go.bits Go.BinOp.and Go.IntKind.i64 (a : Int) 8 = if isB a 3 then 8 else 0 := by decide +kernel
theorem and16 : ∀ a : Nat, a < 128 → Go.bits Go.BinOp.and Go.IntKind.i64 (a : Int) 16 = if isB a 4 then 16 else 0 := by decide +kernel
theorem and2 : ∀ a : Nat, a < 128 → Go.bits Go.BinOp.and Go.IntKind.i64 (a : Int) 2 = if isB a 1 then 2 else 0 := by decide +kernel
theorem and1 : ∀ a : Nat, a < 128 → Go.bits Go.BinOp.and Go.IntKind.i64 (a : Int) 1 = if isB a 0 then 1 else 0 := by decide +kernel
theorem and64 : ∀ a : Nat, a < 128 → Go.bits Go.BinOp.and Go.IntKind.i64 (a : Int) 64 = if isB a 6 then 64 else 0 := by decide +kernel
theorem and33 : ∀ a : Nat, a < 128 → (Go.bits Go.BinOp.and Go.IntKind.i64 (a : Int) 33 == 0) = !(isB a 0 || isB a 5) := by decide +kernel
end Go.Proofs.YtfafhbgkmlmmdaaGreatDoor.K
namespace Go.Proofs.YtfafhbgkmlmmdaaGreatDoor.K
open Go.RowKit Go.Shelf Go.Lib Go.Maps
theorem below_drewN {B : Nat} {a w : World} (h : Below B a w) (n : Nat) : Below B a (w.drewN n) := ⟨h.os, h.tape, h.output, h.size, h.block⟩
theorem ret_bool {a b : Bool} (h : a = b) : Ending.returned (.bool a) = .returned (.bool b) := by rw [h]
theorem add0 (g j : Nat) : (Addr.mk g 0 none).add j = ⟨g, j, none⟩ := by
 unfold Addr.add
 by_cases h : j = 0 <;> simp [h]
def Cells (W : World) (g t : Nat) (cs : Array Value) : Prop := W.heap[g]? = some (.cells cs t (0, 0))
theorem Cells.lt {W : World} {g t : Nat} {cs : Array Value} (h : Cells W g t cs) : g < W.heap.size := (Array.getElem?_eq_some_iff.1 h).1
theorem Cells.cell {W : World} {g t : Nat} {cs : Array Value} (h : Cells W g t cs) (i : Nat) : W.cell? ⟨g, i, none⟩ = cs[i]? := by
 simp [World.cell?, show W.heap[g]? = _ from h]
theorem own_block_lt {w : World} {base e size n : Nat} {v : Value} {xs : List Value} (h : w.ownsRow base e size v n xs) : ∀ k, v.ownBlock = some k → base ≤ k ∧ k < w.heap.size := by
 rcases h.2 with ⟨rfl, _⟩ | ⟨g, cap, cur, rfl, hb, hh, _⟩
 ·intro k e; simp [Value.ownBlock] at e
 ·intro k e
  obtain rfl : g = k := by simpa [Value.ownBlock] using e
  exact ⟨hb, (Array.getElem?_eq_some_iff.1 hh).1⟩
theorem grown_of_below {A B : World} (h : Below A.heap.size A B) : A.grownBy B none := ⟨h.os, h.tape, h.output, h.size, fun k hk _ => h.block k hk⟩
theorem ownsRow_below {w w' : World} {base e size n : Nat} {v : Value} {xs : List Value} (h : w.ownsRow base e size v n xs) (hb : Below w.heap.size w w') : w'.ownsRow base e size v n xs :=
 h.kept (grown_of_below hb) (by cases v.ownBlock <;> simp)
def i64 (n : Int) : Prop := -9223372036854775808 ≤ n ∧ n ≤ 9223372036854775807
theorem below_new (w : World) (o : Obj) : Below w.heap.size w (w.alloc o) := (Below.refl _ _).alloc (Nat.le_refl _) o
theorem cells_new (w : World) (cs : Array Value) (t : Nat) : Cells (w.alloc (.cells cs t)) w.heap.size t cs := World.alloc_heap_new w _
theorem Cells.froz {W : World} {g t : Nat} {cs : Array Value} (h : Cells W g t cs) (i : Nat) : W.frozen? ⟨g, i, none⟩ = false := by
 simp [World.frozen?, show W.heap[g]? = _ from h]
theorem Cells.set {W : World} {g t : Nat} {cs : Array Value} (h : Cells W g t cs) (i : Nat) (v : Value) : Cells (W.setCell ⟨g, i, none⟩ v) g t (cs.setIfInBounds i v) := by
 unfold Cells World.setCell
 simp only [Array.getElem?_modify, if_true]
 rw [show W.heap[g]? = _ from h]
 rfl
theorem cell_lt {w : World} {a : Addr} {v : Value} (h : w.cell? a = some v) : a.block < w.heap.size := by
 unfold World.cell? at h
 cases hb : w.heap[a.block]? with
 | none => simp [hb] at h
 | some x => exact (Array.getElem?_eq_some_iff.1 hb).1
structure IS (w : World) (B : Nat) (xs : List Int) (A : Option Addr) (cap : Nat) : Prop where
 l : xs.length ≤ cap
 m : cap ≤ maxLen
 i : ∀ x ∈ xs, i64 x
 r : xs ≠ [] → ∃ b o, A = some ⟨b, o, none⟩ ∧ b < B ∧ ∀ i x, xs[i]? = some x → w.cell? ⟨b, o + i, none⟩ = some (.int .i64 x)
theorem IS.below {w w' : World} {B : Nat} {xs : List Int} {A : Option Addr} {cap : Nat} (h : IS w B xs A cap) (hb : Below B w w') : IS w' B xs A cap :=
 ⟨h.l, h.m, h.i, fun hne => by
  obtain ⟨b, o, rfl, hl, hr⟩ := h.r hne
  exact ⟨b, o, rfl, hl, fun i x hx => (hb.cell (p := ⟨b, _, none⟩) hl).trans (hr i x hx)⟩⟩
theorem IS.mono {w : World} {B B' : Nat} {xs : List Int} {A : Option Addr} {cap : Nat} (h : IS w B xs A cap) (hB : B ≤ B') : IS w B' xs A cap :=
 ⟨h.l, h.m, h.i, fun hne => by
  obtain ⟨b, o, rfl, hl, hr⟩ := h.r hne
  exact ⟨b, o, rfl, by omega, hr⟩⟩
theorem IS.on {w w' : World} {xs : List Int} {A : Option Addr} {cap : Nat} (h : IS w w.heap.size xs A cap) (hb : Below w.heap.size w w') : IS w' w'.heap.size xs A cap := (h.below hb).mono hb.size
def intsC (l : List Int) : List Value := l.map fun x => Value.int .i64 x
def OwnI (w : World) (base : Nat) (l : List Int) (v : Value) : Prop := w.ownsRow base 3 1 v l.length (intsC l)
theorem OwnI.is {w : World} {base : Nat} {l : List Int} {v : Value} (h : OwnI w base l v) (hl : ∀ x ∈ l, i64 x) : ∃ A cap, v = .slice A l.length cap ∧ IS w w.heap.size l A cap ∧ (A = none → cap = 0) := by
 rcases h.2 with ⟨h1, h2⟩ | ⟨g, cap, cur, h1, h2, h3, h4, h5, h6, h7⟩
 ·have hn : l = [] := List.eq_nil_of_length_eq_zero h2
  subst hn
  exact ⟨none, 0, by rw [h1]; rfl, ⟨Nat.le_refl _, by unfold maxLen; omega, (fun x hx => absurd hx (by simp)), (fun hn => absurd rfl hn)⟩, fun _ => rfl⟩
 ·refine ⟨_, cap, h1, ⟨h4, h5, hl, fun _ => ⟨g, 0, rfl, (Array.getElem?_eq_some_iff.1 h3).1, fun i x hx => ?_⟩⟩, fun e => by cases e⟩
  have hc := World.ownsRow.cells h (g := g) (by rw [h1]; rfl) i (.int .i64 x) (by simp [intsC, hx])
  rw [add0] at hc
  rw [Nat.zero_add]; exact hc
theorem OwnI.below {w w' : World} {base : Nat} {l : List Int} {v : Value} (h : OwnI w base l v) (hb : Below w.heap.size w w') : OwnI w' base l v := ownsRow_below h hb
structure Fz (X : Nat → Prop) (w w' : World) : Prop where
 os : w'.os = w.os
 tape : w'.tape = w.tape
 output : w'.output = w.output
 size : w.heap.size ≤ w'.heap.size
 block : ∀ k, k < w.heap.size → ¬ X k → w'.heap[k]? = w.heap[k]?
theorem Fz.refl (X : Nat → Prop) (w : World) : Fz X w w := ⟨rfl, rfl, rfl, Nat.le_refl _, fun _ _ _ => rfl⟩
theorem Fz.trans {X : Nat → Prop} {a b c : World} (h : Fz X a b) (k : Fz X b c) : Fz X a c :=
 ⟨k.os.trans h.os, k.tape.trans h.tape, k.output.trans h.output, Nat.le_trans h.size k.size, fun i hi hn => (k.block i (Nat.lt_of_lt_of_le hi h.size) hn).trans (h.block i hi hn)⟩
theorem Fz.of_below {X : Nat → Prop} {a b : World} (h : Below a.heap.size a b) : Fz X a b := ⟨h.os, h.tape, h.output, h.size, fun k hk _ => h.block k hk⟩
theorem Fz.of_grown {X : Nat → Prop} {a b : World} {o : Option Nat} (h : a.grownBy b o) (hx : ∀ k, o = some k → X k) : Fz X a b :=
 ⟨h.os, h.tape, h.output, h.size, fun k hk hn => h.block k hk (fun e => hn (hx k e.symm))⟩
theorem Fz.mono {X Y : Nat → Prop} {a b : World} (h : Fz X a b) (hxy : ∀ k, X k → Y k) : Fz Y a b := ⟨h.os, h.tape, h.output, h.size, fun k hk hn => h.block k hk (fun hx => hn (hxy k hx))⟩
theorem Fz.below {X : Nat → Prop} {a b : World} {B : Nat} (h : Fz X a b) (hB : B ≤ a.heap.size) (hX : ∀ k, k < B → ¬ X k) : Below B a b := ⟨h.os, h.tape, h.output, h.size, fun k hk => h.block k (by omega) (hX k hk)⟩
theorem Fz.set {X : Nat → Prop} (w : World) (b i : Nat) (v : Value) (hb : X b) : Fz X w (w.setCell ⟨b, i, none⟩ v) :=
 ⟨rfl, rfl, rfl, by simp, fun k _ hn => by
  have : b ≠ k := fun e => hn (e ▸ hb)
  simp [World.setCell, Array.getElem?_modify, this]⟩
theorem below_grown' {w w' : World} {B e n : Nat} {v : Value} {xs : List Value} (hg : w.grownBy w' v.ownBlock) (ho : w.ownsRow B e 1 v n xs) (hB : B ≤ w.heap.size) : Below B w w' :=
 ⟨hg.os, hg.tape, hg.output, hg.size, fun k hk => hg.block k (by omega) (fun h => by have := (own_block_lt ho k h.symm).1; omega)⟩
structure RsAt (w : World) (B : Nat) (R : List (List Int)) (A : Option Addr) (cap : Nat) : Prop where
 l : R.length ≤ cap
 m : cap ≤ maxLen
 z : A = none → cap = 0
 r : R ≠ [] → ∃ b o, A = some ⟨b, o, none⟩ ∧ b < B ∧ ∀ (i : Nat) (r : List Int), R[i]? = some r → ∃ A' c', w.cell? ⟨b, o + i, none⟩ = some (.slice A' r.length c') ∧ IS w B r A' c' ∧ (A' = none → c' = 0)
theorem RsAt.below {w w' : World} {B : Nat} {R : List (List Int)} {A : Option Addr} {cap : Nat} (h : RsAt w B R A cap) (hb : Below B w w') : RsAt w' B R A cap :=
 ⟨h.l, h.m, h.z, fun hne => by
  obtain ⟨b, o, rfl, hl, hr⟩ := h.r hne
  exact ⟨b, o, rfl, hl, fun i r hx => by
   obtain ⟨A', c', h1, h2, h3⟩ := hr i r hx
   exact ⟨A', c', (hb.cell (p := ⟨b, _, none⟩) hl).trans h1, h2.below hb, h3⟩⟩⟩
theorem RsAt.mono {w : World} {B B' : Nat} {R : List (List Int)} {A : Option Addr} {cap : Nat} (h : RsAt w B R A cap) (hB : B ≤ B') : RsAt w B' R A cap :=
 ⟨h.l, h.m, h.z, fun hne => by
  obtain ⟨b, o, rfl, hl, hr⟩ := h.r hne
  exact ⟨b, o, rfl, by omega, fun i r hx => by
   obtain ⟨A', c', h1, h2, h3⟩ := hr i r hx
   exact ⟨A', c', h1, h2.mono hB, h3⟩⟩⟩
theorem RsAt.on {w w' : World} {R : List (List Int)} {A : Option Addr} {cap : Nat} (h : RsAt w w.heap.size R A cap) (hb : Below w.heap.size w w') : RsAt w' w'.heap.size R A cap := (h.below hb).mono hb.size
structure UsAt (w : World) (B : Nat) (T : List Nat) (A : Option Addr) (cap : Nat) : Prop where
 l : T.length ≤ cap
 m : cap ≤ maxLen
 z : A = none → cap = 0
 i : ∀ x ∈ T, x < 18446744073709551616
 r : T ≠ [] → ∃ b o, A = some ⟨b, o, none⟩ ∧ b < B ∧ ∀ (i : Nat) (x : Nat), T[i]? = some x → w.cell? ⟨b, o + i, none⟩ = some (.int .u64 (x : Int))
theorem UsAt.below {w w' : World} {B : Nat} {T : List Nat} {A : Option Addr} {cap : Nat} (h : UsAt w B T A cap) (hb : Below B w w') : UsAt w' B T A cap :=
 ⟨h.l, h.m, h.z, h.i, fun hne => by
  obtain ⟨b, o, rfl, hl, hr⟩ := h.r hne
  exact ⟨b, o, rfl, hl, fun i x hx => (hb.cell (p := ⟨b, _, none⟩) hl).trans (hr i x hx)⟩⟩
theorem UsAt.mono {w : World} {B B' : Nat} {T : List Nat} {A : Option Addr} {cap : Nat} (h : UsAt w B T A cap) (hB : B ≤ B') : UsAt w B' T A cap :=
 ⟨h.l, h.m, h.z, h.i, fun hne => by
  obtain ⟨b, o, rfl, hl, hr⟩ := h.r hne
  exact ⟨b, o, rfl, by omega, hr⟩⟩
theorem UsAt.on {w w' : World} {T : List Nat} {A : Option Addr} {cap : Nat} (h : UsAt w w.heap.size T A cap) (hb : Below w.heap.size w w') : UsAt w' w'.heap.size T A cap := (h.below hb).mono hb.size
theorem own_fz {w w' : World} {X : Nat → Prop} {B e z n : Nat} {u : Value} {xs : List Value} (hf : Fz X w w') (ho : w.ownsRow B e z u n xs) (hn : ∀ k, X k → u.ownBlock ≠ some k) : w'.ownsRow B e z u n xs := by
 refine ⟨ho.1, ?_⟩
 rcases ho.2 with h0 | ⟨g, cap, cur, h1, h2, h3, rest⟩
 ·exact .inl h0
 ·exact .inr ⟨g, cap, cur, h1, h2, (hf.block g (Array.getElem?_eq_some_iff.1 h3).1 (fun hx => hn g hx (by rw [h1]; rfl))).trans h3, rest⟩
theorem Cells.on {W W' : World} {g t : Nat} {cs : Array Value} (h : Cells W g t cs) (hb : Below W.heap.size W W') : Cells W' g t cs := (hb.block _ h.lt).trans h
def nameS (j : Nat) : ByteArray := ⟨(joinB (nmL j)).toArray⟩
theorem names_any (j : Nat) (hj : j < 7) (w : World) : Calls Tryz.prog 173 #[.int .i64 ((2 ^ j : Nat) : Int)] w fun e w' => e = .returned (.string (nameS j)) ∧ w' = w := by
 obtain rfl | rfl | rfl | rfl | rfl | rfl | rfl : j = 0 ∨ j = 1 ∨ j = 2 ∨ j = 3 ∨ j = 4 ∨ j = 5 ∨ j = 6 := by omega
 all_goals
  go_enter Tryz.func173, Tryz.ntmps173
  go_wp2_with fail
  go_ret
  exact ⟨by kernel_rfl, rfl⟩
def strs (l : List (List UInt8)) : Array Value := (l.map fun x => Value.string ⟨x.toArray⟩).toArray
theorem List_any (j : Nat) (hj : j < 7) (w : World) : Calls Tryz.prog 108 #[.int .i64 ((2 ^ j : Nat) : Int)] w fun e w' => e = .returned (.slice (some ⟨w.heap.size, 0, none⟩) (nmL j).length (nmL j).length) ∧ Cells w' w.heap.size 9 (strs (nmL j)) ∧ Below w.heap.size w w' := by
 obtain rfl | rfl | rfl | rfl | rfl | rfl | rfl : j = 0 ∨ j = 1 ∨ j = 2 ∨ j = 3 ∨ j = 4 ∨ j = 5 ∨ j = 6 := by omega
 all_goals
  go_enter Tryz.func108, Tryz.ntmps108
  go_wp2_with fail
  go_ret
  exact ⟨by kernel_rfl, (cells_new w _ _).trans (by kernel_rfl), below_new _ _⟩
end Go.Proofs.YtfafhbgkmlmmdaaGreatDoor.K
namespace Go.Proofs.YtfafhbgkmlmmdaaGreatDoor.K
open Go.RowKit Go.Shelf Go.Lib Go.Maps
attribute [local irreducible] nmL ofN
theorem pow_cases {k : Nat} (hk : k ≤ 7) : 1 ≤ 2 ^ k ∧ (2 ^ k ≤ 64 ↔ k < 7) ∧ (2 ^ k < 128 ↔ k < 7) ∧ 2 ^ (k + 1) = 2 * 2 ^ k ∧ 2 ^ k ≤ 128 := by
 obtain rfl | rfl | rfl | rfl | rfl | rfl | rfl | rfl : k = 0 ∨ k = 1 ∨ k = 2 ∨ k = 3 ∨ k = 4 ∨ k = 5 ∨ k = 6 ∨ k = 7 := by omega
 all_goals decide
theorem strs_at {l : List (List UInt8)} {i : Nat} {x : List UInt8} (h : l[i]? = some x) : (strs l)[i]? = some (.string ⟨x.toArray⟩) := by
 unfold strs
 simp [h]
theorem ofN_succ (n : List UInt8) (j : Nat) : ofN n (j + 1) = ofN n j + (if n ∈ nmL j then 2 ^ j else 0) := by with_unfolding_all rfl
theorem ofN_zero (n : List UInt8) : ofN n 0 = 0 := by with_unfolding_all rfl
theorem nmL_small (j : Nat) (hj : j < 7) : (nmL j).length ≤ 100 := by
 obtain rfl | rfl | rfl | rfl | rfl | rfl | rfl : j = 0 ∨ j = 1 ∨ j = 2 ∨ j = 3 ∨ j = 4 ∨ j = 5 ∨ j = 6 := by omega
 all_goals with_unfolding_all decide +kernel
theorem toList_data (s : ByteArray) : s.toList = s.data.toList := by
 obtain ⟨⟨l⟩⟩ := s
 simp
theorem refOf_any (s : ByteArray) (w : World) : Calls Tryz.prog 85 #[.string s] w fun e w' => e = .returned (.int .i64 ((ofN s.data.toList 7 : Nat) : Int)) ∧ Below w.heap.size w w' := by
 obtain ⟨n, hn⟩ : ∃ n, s.data.toList = n := ⟨_, rfl⟩
 rw [hn]
 have HS := Lib.hid hn
 clear hn
 go_enter Tryz.func85, Tryz.ntmps85
 go_wp2_with fail
 go_loopw [3, 4] (fun o b wr => ∃ k : Nat, k ≤ 7 ∧ o = .int .i64 ((ofN n k : Nat) : Int) ∧ b = .int .i64 ((2 ^ k : Nat) : Int) ∧ Below w.heap.size w wr) (fun _ b _ => 128 - (RowKit.intOf b).toNat)
 case atStart => exact ⟨0, by omega, by rw [ofN_zero]; rfl, rfl, Below.refl _ _⟩
 case round =>
  obtain ⟨k, hk, rfl, rfl, hb⟩ := hrel
  have hp := pow_cases hk
  have CL := List_any k
  have hs := ofN_succ n k
  have hlt : ofN n k < 2 ^ k := ofN_lt n k
  obtain ⟨b, hbb⟩ : ∃ b, 2 ^ k = b := ⟨_, rfl⟩
  obtain ⟨O, hO⟩ : ∃ o, ofN n k = o := ⟨_, rfl⟩
  rw [hbb] at hp CL hs hlt ⊢
  rw [hO] at hs hlt ⊢
  by_cases lt : k < 7
  case neg =>
   have hk7 : k = 7 := by omega
   have i1 : ¬ (b : Int) ≤ 64 := by omega
   subst hk7
   have HE := Lib.hid (And.intro hO hb)
   clear hp CL hs hlt hbb hO hb
   go_wp2_with fail
   go_ret
   exact ⟨by rw [HE.out.1]; rfl, HE.out.2⟩
  case pos =>
   have i1 : (b : Int) ≤ 64 := by omega
   have hsm := nmL_small k lt
   obtain ⟨L, hL⟩ : ∃ l, nmL k = l := ⟨_, rfl⟩
   have hnd : L.Nodup := by rw [← hL]; exact nm_nodup k
   rw [hL] at CL hs hsm
   obtain ⟨m, hm⟩ : ∃ m, L.length = m := ⟨_, rfl⟩
   rw [hm] at CL hsm
   have HK := Lib.hid (And.intro hb (And.intro hs (And.intro hnd (And.intro hm hp))))
   clear hs hO hL hnd hm hb hbb
   go_wp2_with fail
   refine (CL lt wr).mono ?_
   rintro e w1 ⟨rfl, hc, hb1⟩
   have HC := Lib.hid (And.intro hc (And.intro hb1 (HK.out.1.trans (hb1.mono HK.out.1.size))))
   have hb128 : b ≤ 64 := by omega
   have hO64 : O < 64 := by omega
   clear hc hb1 CL hp
   go_wp2_with fail
   go_loopw [3, 6] (fun o j wr' => ∃ i : Nat, i ≤ m ∧ o = .int .i64 (((O + (if n ∈ L.take i then b else 0)) : Nat) : Int) ∧ j = .int .i64 (i : Int) ∧ Below w1.heap.size w1 wr') (fun _ j _ => m - (RowKit.intOf j).toNat)
   case atStart => exact ⟨0, by omega, by simp, rfl, Below.refl _ _⟩
   case round =>
    obtain ⟨i, hi, rfl, rfl, hb2⟩ := hrel
    by_cases lti : i < m
    case neg =>
     have i2 : ¬ (i : Int) < (m : Int) := by omega
     rw [List.take_of_length_le (by have := HK.out.2.2.2.1; omega)]
     rw [← HK.out.2.1]
     have hpw := HK.out.2.2.2.2
     have HE := Lib.hid (HC.out.2.2.trans (hb2.mono HC.out.2.2.size))
     clear hb2
     have HP := Lib.hid hpw
     clear hpw
     go_wp2_with fail
     go_roundw
     case rel => exact ⟨k + 1, by omega, rfl, by rw [Nat.pow_succ]; have := HP.out.2.2.2.1; rw [Nat.pow_succ] at this; go_num, HE.out⟩
     case measure => simp [RowKit.intOf]; omega
    case pos =>
     have i2 : (i : Int) < (m : Int) := by omega
     obtain ⟨x, hx⟩ : ∃ x, L[i]? = some x := ⟨_, List.getElem?_eq_getElem (by rw [HK.out.2.2.2.1]; exact lti)⟩
     have xc := ((HC.out.1.on hb2).cell i).trans (strs_at hx)
     have ht : L.take (i + 1) = L.take i ++ [x] := by rw [List.take_add_one, hx]; rfl
     have hni : x ∉ L.take i := fun hm => by
      have hnd := HK.out.2.2.1
      have h2 : (L.take (i + 1)).Nodup := hnd.sublist (List.take_sublist _ _)
      rw [ht, List.nodup_append] at h2
      exact h2.2.2 x hm x (by simp) rfl
     obtain ⟨X, hX⟩ : ∃ Z : ByteArray, ⟨x.toArray⟩ = Z := ⟨_, rfl⟩
     rw [hX] at xc
     by_cases e : x = n
     case pos =>
      have hXs : X = s := by
       rw [← hX, e, ← HS.out]
      have h1 : (if n ∈ L.take i then b else 0) = 0 := if_neg (by rw [← e]; exact hni)
      have h2 : (if n ∈ L.take (i + 1) then b else 0) = b := if_pos (by rw [ht, e]; simp)
      rw [h1]
      have HR := Lib.hid (And.intro h2 hb2)
      subst hXs
      clear h1 h2 hX hni ht hx hb2 e
      go_wp2_with fail
      exact ⟨⟨i + 1, by omega, by rw [HR.out.1]; go_num, by go_num, HR.out.2⟩, by simp [RowKit.intOf]; omega⟩
     case neg =>
      have hXs : (X.toList == s.toList) = false := by
       rw [beq_eq_false_iff_ne]
       intro h
       apply e
       rw [← HS.out, ← toList_data, ← h, ← hX, toList_data]
      have h2 : (if n ∈ L.take (i + 1) then b else 0) = (if n ∈ L.take i then b else 0) := by
       rw [ht]
       simp [Ne.symm e]
      obtain ⟨Q, hQ⟩ : ∃ q, (if n ∈ L.take i then b else 0) = q := ⟨_, rfl⟩
      rw [hQ] at h2 ⊢
      have HR := Lib.hid (And.intro h2 hb2)
      clear h2 hX hni ht hx hb2 e hQ
      go_wp2_with fail
      exact ⟨⟨i + 1, by omega, by rw [HR.out.1], by go_num, HR.out.2⟩, by simp [RowKit.intOf]; omega⟩
end Go.Proofs.YtfafhbgkmlmmdaaGreatDoor.K
