/-
  A region that draws its order, some of whose operations only read while others write, one behind another: one walk, the readings first, serves every order.
-/
import Derived.Deep.Quiet
import Derived.StillTail
import Derived.Lib.QuietBelow
namespace Go.Proofs.Ytflhdfbpafhjlaa
open Go

section
variable {P : Program} {ops : Array Oper} {md : Region.Mode} {C : World → Prop} {κ : Nat → Nat}

/-- Operations that hand back a value at once. -/
def plainB (o : Oper) : Bool := match o.op with
  | .move _ | .assign _ | .load .. | .fieldAddr .. | .indexAddr .. | .unOp .. | .pick .. | .extract .. | .build .. | .field .. | .binOp .. | .nilCheck _ | .slice .. => true
  | .call c => (match c.callee with | .builtin .len => true | _ => false)
  | _ => false
theorem value_only {α : Type} {s : Sem α} {g : α → Value} {w : World} {n : Next} {w' : World} (h : ((do pure (.value (g (← s))) : Sem Next)).run P w = .ok n w') : ∃ u, n = .value u := by
  have h2 : (s.run P w).andThen (fun u w'' => (Result.ok (Next.value (g u)) w'' : Result Next)) = .ok n w' := by simpa using h
  cases hs : s.run P w with
  | ok u w'' =>
    rw [hs] at h2
    simp [Result.andThen] at h2
    exact ⟨g u, h2.1.symm⟩
  | halt x w'' =>
    rw [hs] at h2
    simp [Result.andThen] at h2
theorem call_len {c : Call} {ty : TypeId} {ρ : Operand → Value} (hc : (match c.callee with | .builtin .len => true | _ => false) = true) {w w' : World} {n : Next}
    (h : ((do let d ← resolve ρ c ty; invoke d.target d.args) : Sem Next).run P w = .ok n w') : ∃ u, n = .value u := by
  have hc' : c.callee = .builtin .len := by
    revert hc
    cases c.callee with
    | builtin b => cases b <;> simp
    | value _ => simp
    | invoke _ _ => simp
  simp only [resolve, hc', invoke, builtin] at h
  have h2 : (((do pure (.value (← Builtin.len_ c.argTypes ty (c.args.map ρ))) : Sem Next)).run P w) = .ok n w' := by simpa using h
  exact value_only (g := id) h2
theorem bind_value {α : Type} {s : Sem α} {f : α → Sem Next} (hf : ∀ a w n w', (f a).run P w = .ok n w' → ∃ u, n = .value u) {w w' : World} {n : Next} (h : (s >>= f).run P w = .ok n w') : ∃ u, n = .value u := by
  have h2 : (s.run P w).andThen (fun u w'' => (f u).run P w'') = .ok n w' := by simpa using h
  cases hs : s.run P w with
  | ok u w'' =>
    rw [hs] at h2
    exact hf u w'' n w' h2
  | halt x w'' =>
    rw [hs] at h2
    simp [Result.andThen] at h2
theorem pure_value {u : Value} {w w' : World} {n : Next} (h : (pure (.value u) : Sem Next).run P w = .ok n w') : ∃ u, n = .value u := by
  simp at h
  exact ⟨_, h.1.symm⟩
theorem plain_value {o : Oper} (hp : plainB o = true) {ρ : Operand → Value} {w w' : World} {n : Next} (h : (execOp ρ o).run P w = .ok n w') : ∃ u, n = .value u := by
  unfold plainB at hp
  unfold execOp at h
  split at hp <;> simp_all only
  all_goals first
    | exact call_len hp h
    | exact value_only (g := id) h
    | exact value_only h
    | (simp at h; exact ⟨_, h.1.symm⟩)
    | cases hp
    | skip
  repeat' split at h
  all_goals first
    | exact pure_value h
    | (simp [runtimePanic] at h; done)
    | (simp at h; done)
    | exact bind_value (fun _ _ _ _ h => bind_value (fun b _ _ _ h => by
        split at h
        · exact bind_value (fun _ _ _ _ h => pure_value h) h
        · exact pure_value h) h) h
/-- In every world of the class an operation hands back this value, and leaves the world as it is. -/
def givesAt (P : Program) (o : Oper) (a : Act) (w : World) (v : Value) : Prop := (execOp a.eval o).run P w = .ok (.value v) w
theorem gives_of_quiet {o : Oper} (hp : plainB o = true) {a : Act} {w : World} {v : Value} (h : o.quietAt P a C w v) : givesAt P o a w v := by
  unfold Oper.quietAt at h
  unfold givesAt
  cases hr : (execOp a.eval o).run P w with
  | ok n w' =>
    rw [hr] at h
    obtain ⟨u, rfl⟩ := plain_value hp hr
    obtain ⟨rfl, rfl⟩ := h
    rfl
  | halt x w' =>
    rw [hr] at h
    cases h
def pOp (P : Program) (ops : Array Oper) (C : World → Prop) (i : Nat) (K : Act → Prop) (a : Act) : Prop :=
  match ops[i]? with
  | none => K a
  | some o => if Region.wanted o (yielded ops a.tmps) then ∃ v, (∀ w, C w → givesAt P o a w v) ∧ K (a.put o.dst v) else K (a.put o.dst undef)
theorem pOp_mono {i : Nat} {a : Act} {K K' : Act → Prop} (h : ∀ a, K a → K' a) (hh : pOp P ops C i K a) : pOp P ops C i K' a := by
  unfold pOp at *
  split
  · exact h _ (by simpa [*] using hh)
  · rename_i o ho
    simp only [ho] at hh
    split
    · rename_i hw
      simp only [hw, if_true] at hh
      obtain ⟨v, h1, h2⟩ := hh
      exact ⟨v, h1, h _ h2⟩
    · rename_i hw; simp only [hw] at hh; exact h _ hh
theorem pOp_of_qOp {i : Nat} {o : Oper} (hi : ops[i]? = some o) (hp : plainB o = true) {a : Act} {K : Act → Prop} (h : qOp P ops C i K a) : pOp P ops C i K a := by
  unfold qOp at h
  unfold pOp
  simp only [hi] at h ⊢
  split
  · rename_i hw
    simp only [hw, if_true] at h
    obtain ⟨v, h1, h2⟩ := h
    exact ⟨v, fun w hw' => gives_of_quiet hp (h1 w hw'), h2⟩
  · rename_i hw; simp only [hw] at h; exact h
theorem wpOp_of_pOp {i : Nat} {a : Act} {K : Act → Prop} {K' : Act → World → Prop} {Q' : Exit → Act → World → Prop} {w : World} (hC : C w) (h : ∀ a, K a → K' a w) (hh : pOp P ops C i K a) : wpOp P ops Q' i K' a w := by
  unfold pOp at hh
  unfold wpOp
  split
  · rename_i ho; simp only [ho] at hh; exact h _ hh
  · rename_i o ho
    simp only [ho] at hh
    split
    · rename_i hw
      simp only [hw, if_true] at hh
      obtain ⟨v, h1, h2⟩ := hh
      left
      unfold Oper.wp
      rw [h1 w hC]
      exact h _ h2
    · rename_i hw; simp only [hw] at hh; exact h _ hh
def noQ : Exit → Act → World → Prop := fun _ _ _ => False
theorem wpOp_of_noQ {i : Nat} {a : Act} {w : World} {K : Act → World → Prop} {Q' : Exit → Act → World → Prop} (h : wpOp P ops noQ i K a w) : wpOp P ops Q' i K a w := by
  unfold wpOp at *
  split
  · simpa [*] using h
  · rename_i o ho
    simp only [ho] at h
    split
    · rename_i hw
      simp only [hw, if_true] at h
      rcases h with h | ⟨_, _, _, h⟩
      case inr => cases h
      left
      unfold Oper.wp at *
      generalize (execOp a.eval o).run P w = r at *
      cases r with
      | ok n w' =>
        cases n <;> simp only [Oper.upon] at h ⊢
        case value u => exact h
        case skip => exact h
        case defer d => exact h
        case enter f args =>
          refine Calls.mono h fun e w'' he => ?_
          cases e with
          | returned u => exact he
          | panicked c => cases he
          | outgrown =>
            obtain ⟨_, _, h⟩ := he
            cases h
        case row row args => exact h
      | halt x w' =>
        cases x <;> simp only [Oper.upon] at h ⊢
        case panic u => cases h
    · rename_i hw; simp only [hw] at h; exact h
/-- What a value that another operation hands back makes no difference to. -/
structure Keeps (Y : Act → Prop) (oj : Oper) : Prop where
  put : ∀ a u, Y a → Y (a.put oj.dst u)
  dfr : ∀ a d, Y a → Y { a with defers := d :: a.defers }
theorem pOp_put {j : Nat} {oi oj : Oper} {v : Value} {Y : Act → Prop} (hj : ops[j]? = some oj) (hap : oi.apart ops oj = true) (hsj : ∀ cs b, oj.op ≠ .select cs b) (hY : Keeps Y oj) {K : Act → Prop} {a : Act}
    (hy : Y a) (h : pOp P ops C j K (a.put oi.dst v)) : pOp P ops C j (fun a' => Y a' ∧ K (a'.put oi.dst v)) a := by
  obtain ⟨h1, h2, h3⟩ := Oper.apart_spec hap
  unfold pOp at *
  simp only [hj] at *
  rw [wanted_put oj a oi.dst v h1] at h
  split
  · rename_i hw
    simp only [hw, if_true] at h
    obtain ⟨u, hu, hn⟩ := h
    refine ⟨u, fun w hw' => ?_, hY.put a u hy, by rw [← Act.put_comm a v u h2]; exact hn⟩
    have := hu w hw'
    unfold givesAt at *
    rwa [execOp_put oj hsj a oi.dst v h1] at this
  · rename_i hw
    simp only [hw] at h
    exact ⟨hY.put a _ hy, by rw [← Act.put_comm a v undef h2]; exact h⟩
theorem qOp_putY {j : Nat} {oi oj : Oper} {v : Value} {Y : Act → Prop} (hj : ops[j]? = some oj) (hap : oi.apart ops oj = true) (hsj : ∀ cs b, oj.op ≠ .select cs b) (hY : Keeps Y oj) {K : Act → Prop} {a : Act}
    (hy : Y a) (h : qOp P ops C j K (a.put oi.dst v)) : qOp P ops C j (fun a' => Y a' ∧ K (a'.put oi.dst v)) a := by
  obtain ⟨h1, h2, h3⟩ := Oper.apart_spec hap
  unfold qOp at *
  simp only [hj] at *
  rw [wanted_put oj a oi.dst v h1] at h
  split
  · rename_i hw
    simp only [hw, if_true] at h
    obtain ⟨u, hu, hn⟩ := h
    refine ⟨u, fun w hw' => ?_, hY.put a u hy, by rw [← Act.put_comm a v u h2]; exact hn⟩
    have := hu w hw'
    unfold Oper.quietAt at *
    rwa [execOp_put oj hsj a oi.dst v h1] at this
  · rename_i hw
    simp only [hw] at h
    exact ⟨hY.put a _ hy, by rw [← Act.put_comm a v undef h2]; exact h⟩
theorem wpOp_putY {j : Nat} {oi oj : Oper} {v : Value} {Y : Act → Prop} (hj : ops[j]? = some oj) (hap : oi.apart ops oj = true) (hsj : ∀ cs b, oj.op ≠ .select cs b) (hY : Keeps Y oj) {K : Act → World → Prop} {a : Act} {w : World}
    (hy : Y a) (h : wpOp P ops noQ j K (a.put oi.dst v) w) : wpOp P ops noQ j (fun a' w' => Y a' ∧ K (a'.put oi.dst v) w') a w := by
  obtain ⟨h1, h2, h3⟩ := Oper.apart_spec hap
  unfold wpOp at *
  simp only [hj] at *
  rw [wanted_put oj a oi.dst v h1] at h
  split
  · rename_i hw
    simp only [hw, if_true] at h
    rcases h with h | ⟨_, _, _, h⟩
    case inr => cases h
    refine .inl ?_
    unfold Oper.wp at *
    rw [execOp_put oj hsj a oi.dst v h1] at h
    generalize (execOp a.eval oj).run P w = r at *
    cases r with
    | ok n w' =>
      cases n <;> simp only [Oper.upon] at h ⊢
      case value u => exact ⟨hY.put a u hy, by rw [← Act.put_comm a v u h2]; exact h⟩
      case skip => exact ⟨hY.put a _ hy, by rw [← Act.put_comm a v undef h2]; exact h⟩
      case defer d =>
        refine ⟨hY.put _ _ (hY.dfr a d hy), ?_⟩
        rw [← Act.put_comm _ v undef h2, ← Act.put_defers]
        exact h
      case enter f args =>
        refine Calls.mono h fun e w'' he => ?_
        cases e with
        | returned u => exact ⟨hY.put a u hy, by rw [← Act.put_comm a v u h2]; exact he⟩
        | panicked c => exact he
        | outgrown => exact he
      case row row args => exact Rows.mono h fun u w'' he => ⟨hY.put a u hy, by rw [← Act.put_comm a v u h2]; exact he⟩
    | halt x w' =>
      cases x <;> simp only [Oper.upon] at h ⊢
      case panic u => exact h
  · rename_i hw
    simp only [hw] at h
    exact ⟨hY.put a _ hy, by rw [← Act.put_comm a v undef h2]; exact h⟩
/-- Whatever order is picked from here on. Kinds: 0 reads, 1 is a call that stays in the class, 2 writes and stays in the class, 3 writes, with nothing left that reads. -/
def wpAnyM (P : Program) (md : Region.Mode) (ops : Array Oper) (C : World → Prop) (κ : Nat → Nat) (Q : Exit → Act → World → Prop) : Nat → Array Bool → Act → World → Prop
  | 0, listed, a, w => Region.ready md ops listed = [] ∧ Q .normal a w
  | f + 1, listed, a, w => (Region.ready md ops listed = [] → Q .normal a w) ∧ ∀ i ∈ Region.ready md ops listed,
      (κ i = 0 → pOp P ops C i (fun a' => wpAnyM P md ops C κ Q f (listed.setIfInBounds i true) a' w) a) ∧
      (κ i = 1 → qOp P ops C i (fun a' => ∀ w', C w' → wpAnyM P md ops C κ Q f (listed.setIfInBounds i true) a' w') a) ∧
      (2 ≤ κ i → wpOp P ops noQ i (fun a' w' => (κ i = 3 ∨ C w') ∧ wpAnyM P md ops C κ Q f (listed.setIfInBounds i true) a' w') a w)
def Closed (md : Region.Mode) (ops : Array Oper) (listed : Array Bool) : Prop := ∀ j oj, ops[j]? = some oj → listed.getD j false = true → ∀ e ∈ oj.after, Region.binds md e = true → listed.getD e.on false = true
theorem Closed.set {listed : Array Bool} (h : Closed md ops listed) {i : Nat} (hi : i ∈ Region.ready md ops listed) : Closed md ops (listed.setIfInBounds i true) := by
  obtain ⟨_, oi, hoi, hall⟩ := mem_ready.1 hi
  intro j oj hj hl e he hb
  by_cases hij : i = j
  · subst hij
    have : oj = oi := Option.some.inj (hj.symm.trans hoi)
    subst this
    exact getD_set_true (hall e he hb)
  · rw [getD_set_ne false hij] at hl
    exact getD_set_true (h j oj hj hl e he hb)
/-- Nothing is left that reads. -/
def RDone (ops : Array Oper) (κ : Nat → Nat) (listed : Array Bool) : Prop := ∀ j oj, ops[j]? = some oj → κ j ≤ 1 → listed.getD j false = true
theorem RDone.set {listed : Array Bool} (h : RDone ops κ listed) (i : Nat) : RDone ops κ (listed.setIfInBounds i true) := fun j oj hj hk => getD_set_true (h j oj hj hk)
theorem RDone.not {listed : Array Bool} (h : RDone ops κ listed) {i : Nat} (hi : i ∈ Region.ready md ops listed) (hk : κ i ≤ 1) : False := by
  obtain ⟨h0, oi, hoi, _⟩ := mem_ready.1 hi
  have := h i oi hoi hk
  rw [getD_both h0] at this
  cases this
/-- What a writing operation waits for. -/
structure Waits (md : Region.Mode) (ops : Array Oper) (κ : Nat → Nat) : Prop where
  fin : ∀ listed k, Closed md ops listed → k ∈ Region.ready md ops listed → κ k = 3 → RDone ops κ listed
  act : ∀ listed k, Closed md ops listed → k ∈ Region.ready md ops listed → 2 ≤ κ k → ∀ j oj, ops[j]? = some oj → κ j = 1 → listed.getD j false = true
theorem wpAny_of_M {Q : Exit → Act → World → Prop} (hW : Waits md ops κ) : ∀ (f : Nat) (listed : Array Bool) (a : Act) (w : World), Closed md ops listed → (C w ∨ RDone ops κ listed) → wpAnyM P md ops C κ Q f listed a w → wpAny P md ops Q f listed a w
  | 0, _, _, _, _, _, h => h
  | f + 1, listed, a, w, hc, hi, h => by
    refine ⟨h.1, fun i hr => ?_⟩
    obtain ⟨h0, h1, h2⟩ := h.2 i hr
    have hcs := hc.set hr
    rcases Nat.lt_or_ge (κ i) 2 with hk | hk
    · have hC : C w := by
        rcases hi with hi | hi
        · exact hi
        · exact (hi.not hr (by omega)).elim
      by_cases hk0 : κ i = 0
      · exact wpOp_of_pOp hC (fun a' h => wpAny_of_M hW f _ a' w hcs (.inl hC) h) (h0 hk0)
      · exact wpOp_of_qOp hC (fun a' w' hw' h => wpAny_of_M hW f _ a' w' hcs (.inl hw') (h w' hw')) (h1 (by omega))
    · refine wpOp_mono (fun a' w' h => wpAny_of_M hW f _ a' w' hcs ?_ h.2) (wpOp_of_noQ (h2 hk))
      rcases h.1 with h3 | h3
      · exact .inr ((hW.fin listed i hc hr h3).set i)
      · exact .inl h3
def YP (P : Program) (ops : Array Oper) (C : World → Prop) (o : Oper) (v : Value) (a : Act) : Prop :=
  (Region.wanted o (yielded ops a.tmps) = true ∧ ∀ w, C w → givesAt P o a w v) ∨ (Region.wanted o (yielded ops a.tmps) = false ∧ v = undef)
theorem YP.pOp {i : Nat} {o : Oper} {v : Value} {a : Act} (hi : ops[i]? = some o) (hy : YP P ops C o v a) {K : Act → Prop} (h : K (a.put o.dst v)) : pOp P ops C i K a := by
  unfold Go.Proofs.Ytflhdfbpafhjlaa.pOp
  simp only [hi]
  rcases hy with ⟨hw, hv⟩ | ⟨hw, rfl⟩
  · simp only [hw, if_true]; exact ⟨v, hv, h⟩
  · simp only [hw, Bool.false_eq_true, if_false]; exact h
theorem YP.of_same {o : Oper} {v : Value} {a a' : Act} (hy : YP P ops C o v a) (he : execOp a'.eval o = execOp a.eval o)
    (hw : Region.wanted o (yielded ops a'.tmps) = Region.wanted o (yielded ops a.tmps)) : YP P ops C o v a' := by
  unfold YP givesAt at *
  rw [he, hw]
  exact hy
theorem yP_of_pOp {i : Nat} {o : Oper} {a : Act} {K : Act → Prop} (hi : ops[i]? = some o) (h : pOp P ops C i K a) : ∃ v, YP P ops C o v a ∧ K (a.put o.dst v) := by
  unfold pOp at h
  simp only [hi] at h
  by_cases hw : Region.wanted o (yielded ops a.tmps) = true
  · simp only [hw, if_true] at h
    obtain ⟨v, h1, h2⟩ := h
    exact ⟨v, .inl ⟨hw, h1⟩, h2⟩
  · simp only [hw] at h
    exact ⟨undef, .inr ⟨by simpa using hw, rfl⟩, h⟩
theorem keeps_YP {oi oj : Oper} {v : Value} (hsi : ∀ cs b, oi.op ≠ .select cs b) (hap : oi.apart ops oj = true) : Keeps (YP P ops C oi v) oj := by
  obtain ⟨_, _, h3⟩ := Oper.apart_spec hap
  exact ⟨fun a u hy => hy.of_same (execOp_put oi hsi a oj.dst u h3) (wanted_put oi a oj.dst u h3), fun a d hy => hy.of_same rfl rfl⟩
theorem keeps_YI {oi oj : Oper} {v : Value} (hsi : ∀ cs b, oi.op ≠ .select cs b) (hap : oi.apart ops oj = true) : Keeps (YieldsIn P ops C oi v) oj := by
  obtain ⟨_, _, h3⟩ := Oper.apart_spec hap
  exact ⟨fun a u hy => hy.of_same (execOp_put oi hsi a oj.dst u h3) (wanted_put oi a oj.dst u h3), fun a d hy => hy.of_same rfl rfl⟩
/-- What is known of the operations that are left, once one may be taken first. -/
def FreeAt (md : Region.Mode) (ops : Array Oper) (listed : Array Bool) (i : Nat) (oi : Oper) : Prop :=
  ∀ j oj, ops[j]? = some oj → j ≠ i → listed.getD j true = false → (∀ e ∈ oj.after, Region.binds md e = true → e.on ≠ i) → oi.apart ops oj = true
theorem FreeAt.set {listed : Array Bool} {i j : Nat} {oi : Oper} (h : FreeAt md ops listed i oi) (hj : listed.getD j true = false) : FreeAt md ops (listed.setIfInBounds j true) i oi := fun k ok hk hki hun hno => by
  refine h k ok hk hki ?_ hno
  by_cases hjk : j = k
  · subst hjk; exact hj
  · rw [getD_set_ne true hjk] at hun; exact hun
theorem FreeAt.apart {listed : Array Bool} {i j : Nat} {oi oj : Oper} (h : FreeAt md ops listed i oi) (hi : i ∈ Region.ready md ops listed) (hj : j ∈ Region.ready md ops listed) (hoj : ops[j]? = some oj) (hji : j ≠ i) : oi.apart ops oj = true := by
  obtain ⟨hjun, oj', hoj', hall⟩ := mem_ready.1 hj
  obtain rfl : oj' = oj := Option.some.inj (hoj'.symm.trans hoj)
  refine h j oj' hoj hji hjun fun e he hb heq => ?_
  have h1 := hall e he hb
  rw [heq, getD_both (mem_ready.1 hi).1] at h1
  cases h1
theorem first0 {Q : Exit → Act → World → Prop} (hW : Waits md ops κ) {i : Nat} {oi : Oper} {v : Value} (hi : ops[i]? = some oi) (hκ : κ i = 0) (hsel : ∀ (j : Nat) (o : Oper) cs b, ops[j]? = some o → o.op ≠ .select cs b) :
    ∀ (f : Nat) (listed : Array Bool) (a : Act) (w : World), Closed md ops listed → FreeAt md ops listed i oi → i ∈ Region.ready md ops listed → C w → YP P ops C oi v a →
      wpAnyM P md ops C κ Q f (listed.setIfInBounds i true) (a.put oi.dst v) w → wpAnyM P md ops C κ Q (f + 1) listed a w := by
  intro f
  induction f with
  | zero =>
    intro listed a w hc hf hr hC hy H
    refine ⟨fun h => (by rw [h] at hr; cases hr), fun j hj => ?_⟩
    by_cases hji : j = i
    · subst hji
      exact ⟨fun _ => hy.pOp hi H, fun h => by omega, fun h => by omega⟩
    · have := ready_mono hj hji
      rw [H.1] at this
      cases this
  | succ f ih =>
    intro listed a w hc hf hr hC hy H
    refine ⟨fun h => (by rw [h] at hr; cases hr), fun j hj => ?_⟩
    by_cases hji : j = i
    · subst hji
      exact ⟨fun _ => hy.pOp hi H, fun h => by omega, fun h => by omega⟩
    · obtain ⟨h0, h1, h2⟩ := H.2 j (ready_mono hj hji)
      obtain ⟨hjun, oj, hoj, _⟩ := mem_ready.1 hj
      have hap := hf.apart hr hj hoj hji
      have hsi := fun cs b => hsel i oi cs b hi
      have hsj := fun cs b => hsel j oj cs b hoj
      have hcs := hc.set hj
      have hfs := hf.set hjun
      have hrs := ready_mono hr (Ne.symm hji)
      refine ⟨fun hk => ?_, fun hk => ?_, fun hk => ?_⟩
      · refine pOp_mono (fun a' h3 => ih _ a' w hcs hfs hrs hC h3.1 ?_) (pOp_put hoj hap hsj (keeps_YP hsi hap) hy (h0 hk))
        rw [Array.setIfInBounds_comm _ _ hji]
        exact h3.2
      · refine qOp_mono (fun a' h3 w' hw' => ih _ a' w' hcs hfs hrs hw' h3.1 ?_) (qOp_putY hoj hap hsj (keeps_YP hsi hap) hy (h1 hk))
        rw [Array.setIfInBounds_comm _ _ hji]
        exact h3.2 w' hw'
      · refine wpOp_mono (fun a' w' h3 => ⟨h3.2.1, ?_⟩) (wpOp_putY hoj hap hsj (keeps_YP hsi hap) hy (h2 hk))
        have hw' : C w' := by
          rcases h3.2.1 with h4 | h4
          · exact ((hW.fin listed j hc hj h4).not hr (by omega)).elim
          · exact h4
        refine ih _ a' w' hcs hfs hrs hw' h3.1 ?_
        rw [Array.setIfInBounds_comm _ _ hji]
        exact h3.2.2
theorem pOp_all {j : Nat} {oj : Oper} (hj : ops[j]? = some oj) {a : Act} {K : Act → World → Prop} {w : World} (hC : C w) (h : ∀ w', C w' → pOp P ops C j (fun a' => K a' w') a) : pOp P ops C j (fun a' => ∀ w', C w' → K a' w') a := by
  unfold pOp at *
  simp only [hj] at *
  split
  · rename_i hw
    simp only [hw, if_true] at h
    obtain ⟨v, h1, _⟩ := h w hC
    refine ⟨v, h1, fun w' hw' => ?_⟩
    obtain ⟨v', h3, h4⟩ := h w' hw'
    have e := (h1 w hC).symm.trans (h3 w hC)
    obtain rfl : v = v' := by simpa using e
    exact h4
  · rename_i hw
    simp only [hw] at h
    exact h
theorem first1 {Q : Exit → Act → World → Prop} (hW : Waits md ops κ) {i : Nat} {oi : Oper} {v : Value} (hi : ops[i]? = some oi) (hκ : κ i = 1) (hsel : ∀ (j : Nat) (o : Oper) cs b, ops[j]? = some o → o.op ≠ .select cs b) :
    ∀ (f : Nat) (listed : Array Bool) (a : Act), Closed md ops listed → FreeAt md ops listed i oi → i ∈ Region.ready md ops listed → YieldsIn P ops C oi v a →
      (∀ w, C w → wpAnyM P md ops C κ Q f (listed.setIfInBounds i true) (a.put oi.dst v) w) → ∀ w, C w → wpAnyM P md ops C κ Q (f + 1) listed a w := by
  intro f
  induction f with
  | zero =>
    intro listed a hc hf hr hy H w hC
    refine ⟨fun h => (by rw [h] at hr; cases hr), fun j hj => ?_⟩
    by_cases hji : j = i
    · subst hji
      exact ⟨fun h => by omega, fun _ => hy.qOp hi H, fun h => by omega⟩
    · have := ready_mono hj hji
      rw [(H w hC).1] at this
      cases this
  | succ f ih =>
    intro listed a hc hf hr hy H w hC
    refine ⟨fun h => (by rw [h] at hr; cases hr), fun j hj => ?_⟩
    by_cases hji : j = i
    · subst hji
      exact ⟨fun h => by omega, fun _ => hy.qOp hi H, fun h => by omega⟩
    · obtain ⟨hjun, oj, hoj, _⟩ := mem_ready.1 hj
      have hap := hf.apart hr hj hoj hji
      have hsi := fun cs b => hsel i oi cs b hi
      have hsj := fun cs b => hsel j oj cs b hoj
      have hcs := hc.set hj
      have hfs := hf.set hjun
      have hrs := ready_mono hr (Ne.symm hji)
      refine ⟨fun hk => ?_, fun hk => ?_, fun hk => ?_⟩
      · have hall := pOp_all hoj hC (fun w' hw' => ((H w' hw').2 j (ready_mono hj hji)).1 hk)
        refine pOp_mono (fun a' h3 => ih _ a' hcs hfs hrs h3.1 (fun w' hw' => ?_) w hC) (pOp_put hoj hap hsj (keeps_YI hsi hap) hy hall)
        rw [Array.setIfInBounds_comm _ _ hji]
        exact h3.2 w' hw'
      · refine qOp_mono (fun a' h3 w' hw' => ih _ a' hcs hfs hrs h3.1 (fun w'' hw'' => ?_) w' hw') (qOp_putY hoj hap hsj (keeps_YI hsi hap) hy (((H w hC).2 j (ready_mono hj hji)).2.1 hk))
        rw [Array.setIfInBounds_comm _ _ hji]
        exact h3.2 w'' hw''
      · have := hW.act listed j hc hj hk i oi hi hκ
        rw [getD_both (mem_ready.1 hr).1] at this
        cases this
/-- The writing ones, one behind another. -/
def wpSeqM (P : Program) (ops : Array Oper) (C : World → Prop) (κ : Nat → Nat) (Q : Exit → Act → World → Prop) : List Nat → Act → World → Prop
  | [], a, w => Q .normal a w
  | k :: r, a, w => wpOp P ops noQ k (fun a' w' => (κ k = 3 ∨ C w') ∧ wpSeqM P ops C κ Q r a' w') a w
def seqMB (md : Region.Mode) (ops : Array Oper) (κ : Nat → Nat) : List Nat → Array Bool → Bool
  | [], listed => (Region.ready md ops listed).isEmpty
  | k :: r, listed => decide (Region.ready md ops listed = [k]) && decide (2 ≤ κ k) && seqMB md ops κ r (listed.setIfInBounds k true)
theorem anyM_of_seq {Q : Exit → Act → World → Prop} : ∀ (l : List Nat) (listed : Array Bool) (a : Act) (w : World), seqMB md ops κ l listed = true → wpSeqM P ops C κ Q l a w → wpAnyM P md ops C κ Q l.length listed a w
  | [], _, _, _, hB, h => ⟨by simpa [seqMB] using hB, h⟩
  | k :: r, listed, a, w, hB, h => by
    simp only [seqMB, Bool.and_eq_true, decide_eq_true_eq] at hB
    obtain ⟨⟨hr, hk⟩, hB⟩ := hB
    refine ⟨fun h0 => (by rw [hr] at h0; cases h0), fun i hi => ?_⟩
    rw [hr] at hi
    obtain rfl : i = k := by simpa using hi
    exact ⟨fun h => by omega, fun h => by omega, fun _ => wpOp_mono (fun a' w' h' => ⟨h'.1, anyM_of_seq r _ a' w' hB h'.2⟩) h⟩
def lexMB (md : Region.Mode) (ops : Array Oper) (κ : Nat → Nat) (l2 : List Nat) : List Nat → Array Bool → Bool
  | [], listed => seqMB md ops κ l2 listed
  | i :: r, listed => (Region.ready md ops listed).contains i && Region.free md ops listed i && (match ops[i]? with | some o => (κ i == 0 && plainB o) || κ i == 1 | none => false) && lexMB md ops κ l2 r (listed.setIfInBounds i true)
/-- The operations of these numbers. -/
def opsAt (ops : Array Oper) (l : List Nat) : List Oper := l.filterMap fun i => ops[i]?
theorem anyM_lex {Q : Exit → Act → World → Prop} (hW : Waits md ops κ) (hs : Region.noSelect ops = true) (l2 : List Nat) : ∀ (l : List Nat) (listed : Array Bool) (a : Act), Closed md ops listed → lexMB md ops κ l2 l listed = true →
    wpQuiet P ops C (fun a' => ∀ w', C w' → wpSeqM P ops C κ Q l2 a' w') (opsAt ops l) a → ∀ w, C w → wpAnyM P md ops C κ Q (l.length + l2.length) listed a w
  | [], listed, a, _, hB, h, w, hC => by
    rw [List.length_nil, Nat.zero_add]
    exact anyM_of_seq l2 listed a w (by simpa [lexMB] using hB) (h w hC)
  | i :: r, listed, a, hc, hB, h, w, hC => by
    simp only [lexMB, Bool.and_eq_true] at hB
    obtain ⟨⟨⟨hr, hf⟩, hk⟩, hB⟩ := hB
    have hr' : i ∈ Region.ready md ops listed := by simpa using hr
    obtain ⟨_, oi, hi, _⟩ := mem_ready.1 hr'
    have hfa : FreeAt md ops listed i oi := Region.free_spec hi hf
    simp only [hi, Bool.or_eq_true, Bool.and_eq_true, beq_iff_eq] at hk
    have hq : qOp P ops C i (wpQuiet P ops C (fun a' => ∀ w', C w' → wpSeqM P ops C κ Q l2 a' w') (opsAt ops r)) a := by
      unfold qOp
      simp only [hi]
      unfold opsAt at h
      rw [List.filterMap_cons, hi] at h
      exact h
    rw [List.length_cons, show r.length + 1 + l2.length = r.length + l2.length + 1 by omega]
    rcases hk with ⟨hk, hp⟩ | hk
    · obtain ⟨v, hy, hK⟩ := yP_of_pOp hi (pOp_of_qOp hi hp hq)
      exact first0 hW hi hk (Region.noSelect_spec hs) _ listed a w hc hfa hr' hC hy (anyM_lex hW hs l2 r _ _ (hc.set hr') hB hK w hC)
    · obtain ⟨v, hy, hK⟩ := yieldsIn_of_qOp hi hq
      exact first1 hW hi hk (Region.noSelect_spec hs) _ listed a hc hfa hr' hy (anyM_lex hW hs l2 r _ _ (hc.set hr') hB hK) w hC
/-- The same where nothing but readings goes ahead: the world stays as it was. -/
theorem anyM_lex0 {Q : Exit → Act → World → Prop} (hW : Waits md ops κ) (hs : Region.noSelect ops = true) (l2 : List Nat) : ∀ (l : List Nat) (listed : Array Bool) (a : Act) (w : World), Closed md ops listed → lexMB md ops κ l2 l listed = true → (l.all fun i => κ i == 0) = true →
    C w → wpQuiet P ops C (fun a' => wpSeqM P ops C κ Q l2 a' w) (opsAt ops l) a → wpAnyM P md ops C κ Q (l.length + l2.length) listed a w
  | [], listed, a, w, _, hB, _, _, h => by
    rw [List.length_nil, Nat.zero_add]
    exact anyM_of_seq l2 listed a w (by simpa [lexMB] using hB) h
  | i :: r, listed, a, w, hc, hB, h0, hC, h => by
    simp only [lexMB, Bool.and_eq_true] at hB
    obtain ⟨⟨⟨hr, hf⟩, hk⟩, hB⟩ := hB
    have hr' : i ∈ Region.ready md ops listed := by simpa using hr
    obtain ⟨_, oi, hi, _⟩ := mem_ready.1 hr'
    have hfa : FreeAt md ops listed i oi := Region.free_spec hi hf
    simp only [hi, Bool.or_eq_true, Bool.and_eq_true, beq_iff_eq] at hk
    simp only [List.all_cons, Bool.and_eq_true, beq_iff_eq] at h0
    have hq : qOp P ops C i (wpQuiet P ops C (fun a' => wpSeqM P ops C κ Q l2 a' w) (opsAt ops r)) a := by
      unfold qOp
      simp only [hi]
      unfold opsAt at h
      rw [List.filterMap_cons, hi] at h
      exact h
    rw [List.length_cons, show r.length + 1 + l2.length = r.length + l2.length + 1 by omega]
    rcases hk with ⟨_, hp⟩ | hk
    · obtain ⟨v, hy, hK⟩ := yP_of_pOp hi (pOp_of_qOp hi hp hq)
      exact first0 hW hi h0.1 (Region.noSelect_spec hs) _ listed a w hc hfa hr' hC hy (anyM_lex0 hW hs l2 r _ _ w (hc.set hr') hB h0.2 hC hK)
    · omega
/-- Does an operation wait for another one, at once or by others? -/
def reachB (md : Region.Mode) (ops : Array Oper) : Nat → Nat → Nat → Bool
  | 0, _, _ => false
  | f + 1, j, i => match ops[j]? with
    | some oj => (oj.after.any fun e => Region.binds md e && e.on == i) || oj.after.any fun e => Region.binds md e && reachB md ops f e.on i
    | none => false
theorem reach_listed {listed : Array Bool} (hc : Closed md ops listed) : ∀ (f j i : Nat), listed.getD j false = true → reachB md ops f j i = true → listed.getD i false = true
  | 0, _, _, _, h => by cases h
  | f + 1, j, i, hj, h => by
    unfold reachB at h
    split at h
    · rename_i oj hoj
      rw [Bool.or_eq_true] at h
      rcases h with h | h
      · obtain ⟨e, he, hb⟩ := Array.any_eq_true'.1 h
        simp only [Bool.and_eq_true, beq_iff_eq] at hb
        rw [← hb.2]
        exact hc j oj hoj hj e he hb.1
      · obtain ⟨e, he, hb⟩ := Array.any_eq_true'.1 h
        simp only [Bool.and_eq_true] at hb
        exact reach_listed hc f e.on i (hc j oj hoj hj e he hb.1) hb.2
    · cases h
theorem reach_ready {listed : Array Bool} (hc : Closed md ops listed) {f k i : Nat} (hk : k ∈ Region.ready md ops listed) (h : reachB md ops f k i = true) : listed.getD i false = true := by
  obtain ⟨_, ok, hok, hall⟩ := mem_ready.1 hk
  cases f with
  | zero => cases h
  | succ f =>
    unfold reachB at h
    rw [hok] at h
    dsimp only at h
    rw [Bool.or_eq_true] at h
    rcases h with h | h
    · obtain ⟨e, he, hb⟩ := Array.any_eq_true'.1 h
      simp only [Bool.and_eq_true, beq_iff_eq] at hb
      rw [← hb.2]
      exact hall e he hb.1
    · obtain ⟨e, he, hb⟩ := Array.any_eq_true'.1 h
      simp only [Bool.and_eq_true] at hb
      exact reach_listed hc f e.on i (hall e he hb.1) hb.2
def waitsB (md : Region.Mode) (ops : Array Oper) (κ : Nat → Nat) : Bool := (List.range ops.size).all fun k => decide (κ k < 2) || (List.range ops.size).all fun j => (decide (2 ≤ κ j) || (κ j == 0 && κ k != 3)) || reachB md ops ops.size k j
theorem waits_of (h : waitsB md ops κ = true) : Waits md ops κ := by
  have key : ∀ listed k, Closed md ops listed → k ∈ Region.ready md ops listed → 2 ≤ κ k → ∀ j oj, ops[j]? = some oj → (κ j = 1 ∨ (κ j ≤ 1 ∧ κ k = 3)) → listed.getD j false = true := by
    intro listed k hc hk h2 j oj hoj hj
    have hkl := (Array.getElem?_eq_some_iff.1 (mem_ready.1 hk).2.choose_spec.1).1
    have hjl := (Array.getElem?_eq_some_iff.1 hoj).1
    have h1 := List.all_eq_true.1 h k (List.mem_range.2 hkl)
    simp only [Bool.or_eq_true, decide_eq_true_eq] at h1
    rcases h1 with h1 | h1
    · omega
    · have h3 := List.all_eq_true.1 h1 j (List.mem_range.2 hjl)
      simp only [Bool.or_eq_true, decide_eq_true_eq, Bool.and_eq_true, beq_iff_eq, bne_iff_ne] at h3
      rcases h3 with (h3 | h3) | h3
      · omega
      · omega
      · exact reach_ready hc hk h3
  exact ⟨fun listed k hc hk h3 j oj hoj hj => key listed k hc hk (by omega) j oj hoj (.inr ⟨hj, h3⟩), fun listed k hc hk h2 j oj hoj hj => key listed k hc hk h2 j oj hoj (.inl hj)⟩
def mixB (md : Region.Mode) (ops : Array Oper) (κ : Nat → Nat) (l1 l2 : List Nat) : Bool := Region.noSelect ops && decide (l1.length + l2.length = ops.size) && waitsB md ops κ && lexMB md ops κ l2 l1 (Array.replicate ops.size false)
theorem wp_region_mix {id : Nat} {Q : Exit → Act → World → Prop} {a : Act} {w : World} {l : List Oper} (κ : Nat → Nat) (l1 l2 : List Nat) (C : World → Prop) (hm : P.follows .mixedOrders = true) (hB : mixB .any l.toArray κ l1 l2 = true) (hC : C { w with drawn := w.drawn + 1 })
    (h : wpQuiet P l.toArray C (fun a' => ∀ w', C w' → wpSeqM P l.toArray C κ Q l2 a' w') (opsAt l.toArray l1) a) : (Code.region id l.toArray true).wp P Q a w := by
  simp only [mixB, Bool.and_eq_true, decide_eq_true_eq] at hB
  obtain ⟨⟨⟨hs, hn⟩, hw⟩, hB⟩ := hB
  have hW := waits_of hw
  have hc : Closed .any l.toArray (Array.replicate l.toArray.size false) := fun j oj _ hl => by rw [getD_replicate_false] at hl; cases hl
  have H := anyM_lex (Q := Q) hW hs l2 l1 _ a hc hB h _ hC
  rw [hn] at H
  exact wp_region_any hm (wpAny_of_M hW _ _ _ _ hc (.inl hC) H)
theorem wp_region_mix0 {id : Nat} {Q : Exit → Act → World → Prop} {a : Act} {w : World} {l : List Oper} (κ : Nat → Nat) (l1 l2 : List Nat) (C : World → Prop) (hm : P.follows .mixedOrders = true) (hB : (mixB .any l.toArray κ l1 l2 && l1.all fun i => κ i == 0) = true) (hC : C { w with drawn := w.drawn + 1 })
    (h : wpQuiet P l.toArray C (fun a' => wpSeqM P l.toArray C κ Q l2 a' { w with drawn := w.drawn + 1 }) (opsAt l.toArray l1) a) : (Code.region id l.toArray true).wp P Q a w := by
  rw [Bool.and_eq_true] at hB
  obtain ⟨hB, h0⟩ := hB
  simp only [mixB, Bool.and_eq_true, decide_eq_true_eq] at hB
  obtain ⟨⟨⟨hs, hn⟩, hw⟩, hB⟩ := hB
  have hW := waits_of hw
  have hc : Closed .any l.toArray (Array.replicate l.toArray.size false) := fun j oj _ hl => by rw [getD_replicate_false] at hl; cases hl
  have H := anyM_lex0 (Q := Q) hW hs l2 l1 _ a _ hc hB h0 hC h
  rw [hn] at H
  exact wp_region_any hm (wpAny_of_M hW _ _ _ _ hc (.inl hC) H)
/-- What is left, in every order in which it may come. -/
def wpFreeM (P : Program) (md : Region.Mode) (ops : Array Oper) (C : World → Prop) (κ : Nat → Nat) (Q : Exit → Act → World → Prop) : Nat → Array Bool → Act → World → Prop
  | 0, _, a, w => Q .normal a w
  | n + 1, listed, a, w => ∀ k ∈ Region.ready md ops listed, wpOp P ops noQ k (fun a' w' => (κ k = 3 ∨ C w') ∧ wpFreeM P md ops C κ Q n (listed.setIfInBounds k true) a' w') a w
def freeMB (md : Region.Mode) (ops : Array Oper) (κ : Nat → Nat) : Nat → Array Bool → Bool
  | 0, listed => (Region.ready md ops listed).isEmpty
  | n + 1, listed => !(Region.ready md ops listed).isEmpty && (Region.ready md ops listed).all fun k => decide (2 ≤ κ k) && freeMB md ops κ n (listed.setIfInBounds k true)
theorem anyM_of_free {Q : Exit → Act → World → Prop} : ∀ (n : Nat) (listed : Array Bool) (a : Act) (w : World), freeMB md ops κ n listed = true → wpFreeM P md ops C κ Q n listed a w → wpAnyM P md ops C κ Q n listed a w
  | 0, _, _, _, hB, h => ⟨by simpa [freeMB] using hB, h⟩
  | n + 1, listed, a, w, hB, h => by
    simp only [freeMB, Bool.and_eq_true, List.all_eq_true, decide_eq_true_eq] at hB
    obtain ⟨h1, hB⟩ := hB
    refine ⟨fun h0 => (by rw [h0] at h1; cases h1), fun i hi => ?_⟩
    have hk := hB i hi
    exact ⟨fun h => by omega, fun h => by omega, fun _ => wpOp_mono (fun a' w' h' => ⟨h'.1, anyM_of_free n _ a' w' hk.2 h'.2⟩) (h i hi)⟩
def lexFB (md : Region.Mode) (ops : Array Oper) (κ : Nat → Nat) (n : Nat) : List Nat → Array Bool → Bool
  | [], listed => freeMB md ops κ n listed
  | i :: r, listed => (Region.ready md ops listed).contains i && Region.free md ops listed i && (match ops[i]? with | some o => (κ i == 0 && plainB o) || κ i == 1 | none => false) && lexFB md ops κ n r (listed.setIfInBounds i true)
theorem anyM_lexF {Q : Exit → Act → World → Prop} (hW : Waits md ops κ) (hs : Region.noSelect ops = true) (n : Nat) : ∀ (l : List Nat) (listed : Array Bool) (a : Act) (w : World), Closed md ops listed → lexFB md ops κ n l listed = true → (l.all fun i => κ i == 0) = true →
    C w → wpQuiet P ops C (fun a' => wpFreeM P md ops C κ Q n (l.foldl (fun s i => s.setIfInBounds i true) listed) a' w) (opsAt ops l) a → wpAnyM P md ops C κ Q (l.length + n) listed a w
  | [], listed, a, w, _, hB, _, _, h => by
    rw [List.length_nil, Nat.zero_add]
    exact anyM_of_free n listed a w (by simpa [lexFB] using hB) h
  | i :: r, listed, a, w, hc, hB, h0, hC, h => by
    simp only [lexFB, Bool.and_eq_true] at hB
    obtain ⟨⟨⟨hr, hf⟩, hk⟩, hB⟩ := hB
    have hr' : i ∈ Region.ready md ops listed := by simpa using hr
    obtain ⟨_, oi, hi, _⟩ := mem_ready.1 hr'
    have hfa : FreeAt md ops listed i oi := Region.free_spec hi hf
    simp only [hi, Bool.or_eq_true, Bool.and_eq_true, beq_iff_eq] at hk
    simp only [List.all_cons, Bool.and_eq_true, beq_iff_eq] at h0
    have hq : qOp P ops C i (wpQuiet P ops C (fun a' => wpFreeM P md ops C κ Q n (r.foldl (fun s i => s.setIfInBounds i true) (listed.setIfInBounds i true)) a' w) (opsAt ops r)) a := by
      unfold qOp
      simp only [hi]
      unfold opsAt at h
      rw [List.filterMap_cons, hi, List.foldl_cons] at h
      exact h
    rw [List.length_cons, show r.length + 1 + n = r.length + n + 1 by omega]
    rcases hk with ⟨_, hp⟩ | hk
    · obtain ⟨v, hy, hK⟩ := yP_of_pOp hi (pOp_of_qOp hi hp hq)
      exact first0 hW hi h0.1 (Region.noSelect_spec hs) _ listed a w hc hfa hr' hC hy (anyM_lexF hW hs n r _ _ w (hc.set hr') hB h0.2 hC hK)
    · omega
def mixFB (md : Region.Mode) (ops : Array Oper) (κ : Nat → Nat) (l1 : List Nat) (n : Nat) : Bool := Region.noSelect ops && decide (l1.length + n = ops.size) && waitsB md ops κ && lexFB md ops κ n l1 (Array.replicate ops.size false) && l1.all fun i => κ i == 0
/-- A region that draws its order: its readings first; then what writes, in every order that is left. -/
theorem wp_region_mixF {id : Nat} {Q : Exit → Act → World → Prop} {a : Act} {w : World} {l : List Oper} (κ : Nat → Nat) (l1 : List Nat) (n : Nat) (C : World → Prop) (hm : P.follows .mixedOrders = true) (hB : mixFB .any l.toArray κ l1 n = true) (hC : C { w with drawn := w.drawn + 1 })
    (h : wpQuiet P l.toArray C (fun a' => wpFreeM P .any l.toArray C κ Q n (l1.foldl (fun s i => s.setIfInBounds i true) (Array.replicate l.toArray.size false)) a' { w with drawn := w.drawn + 1 }) (opsAt l.toArray l1) a) : (Code.region id l.toArray true).wp P Q a w := by
  simp only [mixFB, Bool.and_eq_true, decide_eq_true_eq] at hB
  obtain ⟨⟨⟨⟨hs, hn⟩, hw⟩, hB⟩, h0⟩ := hB
  have hW := waits_of hw
  have hc : Closed .any l.toArray (Array.replicate l.toArray.size false) := fun j oj _ hl => by rw [getD_replicate_false] at hl; cases hl
  have H := anyM_lexF (Q := Q) hW hs n l1 _ a _ hc hB h0 hC h
  rw [hn] at H
  exact wp_region_any hm (wpAny_of_M hW _ _ _ _ hc (.inl hC) H)
/-- Each of some operations next. -/
def wpAllM (P : Program) (md : Region.Mode) (ops : Array Oper) (C : World → Prop) (κ : Nat → Nat) (Q : Exit → Act → World → Prop) (n : Nat) (listed : Array Bool) (a : Act) (w : World) : List Nat → Prop
  | [] => True
  | k :: r => wpOp P ops noQ k (fun a' w' => (κ k = 3 ∨ C w') ∧ wpFreeM P md ops C κ Q n (listed.setIfInBounds k true) a' w') a w ∧ wpAllM P md ops C κ Q n listed a w r
theorem wpAllM_mem {Q : Exit → Act → World → Prop} {n : Nat} {listed : Array Bool} {a : Act} {w : World} : ∀ {rs : List Nat}, wpAllM P md ops C κ Q n listed a w rs → ∀ k ∈ rs, wpOp P ops noQ k (fun a' w' => (κ k = 3 ∨ C w') ∧ wpFreeM P md ops C κ Q n (listed.setIfInBounds k true) a' w') a w
  | [], _, k, hk => by cases hk
  | x :: r, h, k, hk => by
    rcases List.mem_cons.1 hk with rfl | hk
    · exact h.1
    · exact wpAllM_mem h.2 k hk
theorem wpFreeM_step {Q : Exit → Act → World → Prop} {n : Nat} {listed : Array Bool} {a : Act} {w : World} (rs : List Nat) (hr : Region.ready md ops listed = rs) (h : wpAllM P md ops C κ Q n listed a w rs) : wpFreeM P md ops C κ Q (n + 1) listed a w := fun k hk => wpAllM_mem h k (hr ▸ hk)
/-- A writing one, as a list of one. -/
theorem wpOp_of_list {k : Nat} {o : Oper} {K : Act → World → Prop} {a : Act} {w : World} (hk : ops[k]? = some o) (h : wpList P ops (fun ex a' w' => ex = .normal ∧ K a' w') [o] a w) : wpOp P ops noQ k K a w := by
  unfold wpOp
  simp only [hk]
  unfold wpList at h
  split
  · rename_i hw
    simp only [hw, if_true] at h
    rcases h with h | ⟨_, _, _, h, _⟩
    case inr => cases h
    left
    unfold Oper.wp at *
    generalize (execOp a.eval o).run P w = r at *
    cases r with
    | ok n w' =>
      cases n <;> simp only [Oper.upon] at h ⊢
      case value u => exact h.2
      case skip => exact h.2
      case defer d => exact h.2
      case enter f args =>
        refine Calls.mono h fun e w'' he => ?_
        cases e with
        | returned u => exact he.2
        | panicked c => cases he.1
        | outgrown =>
          obtain ⟨_, _, h, _⟩ := he
          cases h
      case row row args => exact Rows.mono h fun _ _ he => he.2
    | halt x w' =>
      cases x <;> simp only [Oper.upon] at h ⊢
      case panic u => cases h.1
  · rename_i hw
    simp only [hw] at h
    exact h.2
theorem wpSeqM_step {Q : Exit → Act → World → Prop} {k : Nat} {r : List Nat} {o : Oper} {a : Act} {w : World} (hk : ops[k]? = some o)
    (h : wpList P ops (fun ex a' w' => ex = .normal ∧ (κ k = 3 ∨ C w') ∧ wpSeqM P ops C κ Q r a' w') [o] a w) : wpSeqM P ops C κ Q (k :: r) a w := wpOp_of_list hk h
end
end Go.Proofs.Ytflhdfbpafhjlaa
