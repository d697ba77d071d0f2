/-
  Laws for the walk: a list of numbers is appended to one of the call's own.
-/
import Derived.Test.YtlbcicoppglgjaaDoorStp
import Derived.Laws.AppendOwnNone
namespace Go.Proofs.YtlbcicoppglgjaaDoor
open Go.RowKit Go.Shelf Go.Lib

def intsC (l : List Int) : List Value := l.map fun x => Value.int .i64 x
theorem intsC_len (l : List Int) : (intsC l).length = l.length := by simp [intsC]
theorem intsC_append (l m : List Int) : intsC (l ++ m) = intsC l ++ intsC m := by simp [intsC]
def OwnI (w : World) (base : Nat) (l : List Int) (v : Value) : Prop := w.ownsRow base 3 1 v l.length (intsC l)
theorem wpList_append_is {ops : Array Oper} {rest : List Oper} {o : Oper} {a : Act} {w : World} {Q : Exit → Act → World → Prop} (hgd : o.guard = none) (s x : Operand)
    (ho : o.op = .call { callee := .builtin .append, args := #[s, x], argTypes := #[23, 23] }) (base : Nat) (v : Value) (l : List Int) (hs : a.eval s = v) (hown : OwnI w base l v)
    (xs : List Int) (A : Option Addr) (cap : Nat) (hx : a.eval x = .slice A xs.length cap) (his : IS w w.heap.size xs A cap) (hz : A = none → cap = 0) (h63 : l.length + xs.length ≤ 100000) (hbase : base ≤ w.heap.size)
    (h : ∀ v' w', OwnI w' base (l ++ xs) v' → w.grownBy w' v.ownBlock → wpList Tryd.prog ops Q rest (a.put o.dst v') w') : wpList Tryd.prog ops Q (o :: rest) a w := by
  obtain ⟨i0, hi, hz0, hz1, hz2⟩ := info_parts info3
  cases A with
  | none =>
    have hxs : xs = [] := by
      cases xs with
      | nil => rfl
      | cons y r => obtain ⟨b, o', e, _⟩ := his.r (by simp); cases e
    subst hxs
    obtain rfl := hz rfl
    refine wpList_append_own_none hgd s x 23 ho base 3 i0 1 Tryd.underlying23 hi v l.length (intsC l) hs hown hx (h v w (by simpa using hown) ?_)
    exact ⟨rfl, rfl, rfl, Nat.le_refl _, fun _ _ _ => rfl⟩
  | some ad =>
    have hnews : ∀ j u, (intsC xs)[j]? = some u → w.cell? (ad.add j) = some u := by
      intro j u hj
      unfold intsC at hj
      rw [List.getElem?_map] at hj
      obtain ⟨y, hy, rfl⟩ := Option.map_eq_some_iff.1 hj
      obtain ⟨b, o', e, _, hc⟩ := his.r (by rintro rfl; simp at hy)
      injection e with e
      subst e
      rw [Addr.add_mid]
      exact hc j y hy
    refine wpList_append_own _ hgd s x 23 ho base 3 i0 (.int .i64 0) 1 8 Tryd.underlying23 hi hz0 hz1 hz2 rfl (by decide) v l.length (intsC l) hs hown ad xs.length cap (intsC xs) hx (by rw [intsC_len]; omega) hnews
      (fun u hu => by unfold intsC at hu; obtain ⟨y, _, rfl⟩ := List.mem_map.1 hu; rfl) (by unfold maxLen; omega) (by omega) hbase fun v' w' h1 h2 _ => h v' w' ?_ h2
    unfold OwnI
    rw [intsC_append, List.length_append]
    exact h1
theorem wpList_wanted {P : Program} {ops : Array Oper} {rest : List Oper} {o : Oper} {a : Act} {w : World} {Q : Exit → Act → World → Prop} (hw : Region.wanted o (yielded ops a.tmps) = true)
    (h : ∀ K : Act → World → Prop, (∀ a w, wpList P ops Q rest a w → K a w) → o.wp P a w K Q) : wpList P ops Q (o :: rest) a w :=
  wpList_step fun K hK => by rw [if_pos hw]; exact h K hK
/-- The same at a guarded operation that is wanted. -/
theorem wpList_append_isG {ops : Array Oper} {rest : List Oper} {o : Oper} {a : Act} {w : World} {Q : Exit → Act → World → Prop} (hgw : Region.wanted o (yielded ops a.tmps) = true) (s x : Operand)
    (ho : o.op = .call { callee := .builtin .append, args := #[s, x], argTypes := #[23, 23] }) (base : Nat) (v : Value) (l : List Int) (hs : a.eval s = v) (hown : OwnI w base l v)
    (xs : List Int) (A : Option Addr) (cap : Nat) (hx : a.eval x = .slice A xs.length cap) (his : IS w w.heap.size xs A cap) (hz : A = none → cap = 0) (h63 : l.length + xs.length ≤ 100000) (hbase : base ≤ w.heap.size)
    (h : ∀ v' w', OwnI w' base (l ++ xs) v' → w.grownBy w' v.ownBlock → wpList Tryd.prog ops Q rest (a.put o.dst v') w') : wpList Tryd.prog ops Q (o :: rest) a w := by
  obtain ⟨i0, hi, hz0, hz1, hz2⟩ := info_parts info3
  cases A with
  | none =>
    have hxs : xs = [] := by
      cases xs with
      | nil => rfl
      | cons y r => obtain ⟨b, o', e, _⟩ := his.r (by simp); cases e
    subst hxs
    obtain rfl := hz rfl
    refine wpList_wanted hgw fun K hK => ?_
    have hrun := run_append_owned_none (P := Tryd.prog) (w := w) base 23 o.type 3 i0 1 Tryd.underlying23 hi v l.length (intsC l) hown
    unfold Oper.wp
    simp [execOp, ho, resolve, invoke, builtin, hs, hx, hrun, Result.andThen]
    exact hK _ _ (h v w (by simpa using hown) ⟨rfl, rfl, rfl, Nat.le_refl _, fun _ _ _ => rfl⟩)
  | some ad =>
    have hnews : ∀ j u, (intsC xs)[j]? = some u → w.cell? (ad.add j) = some u := by
      intro j u hj
      unfold intsC at hj
      rw [List.getElem?_map] at hj
      obtain ⟨y, hy, rfl⟩ := Option.map_eq_some_iff.1 hj
      obtain ⟨b, o', e, _, hc⟩ := his.r (by rintro rfl; simp at hy)
      injection e with e
      subst e
      rw [Addr.add_mid]
      exact hc j y hy
    refine wpList_wanted hgw fun K hK => wp_append_own _ s x 23 ho base 3 i0 (.int .i64 0) 1 8 Tryd.underlying23 hi hz0 hz1 hz2 rfl (by decide) v l.length (intsC l) hs hown ad xs.length cap (intsC xs) hx (by rw [intsC_len]; omega) hnews
      (fun u hu => by unfold intsC at hu; obtain ⟨y, _, rfl⟩ := List.mem_map.1 hu; rfl) (by unfold maxLen; omega) (by omega) hbase fun v' w' h1 h2 _ => hK _ _ (h v' w' ?_ h2)
    unfold OwnI
    rw [intsC_append, List.length_append]
    exact h1
theorem OwnP.is2 {w : World} {base m : Nat} {v : Value} (h : OwnP w base (posL m) v) : ∃ A cap, v = .slice A (posI m).length cap ∧ IS w w.heap.size (posI m) A cap ∧ (A = none → cap = 0) := by
  obtain ⟨A, cap, he, hi⟩ := h.is
  refine ⟨A, cap, he, hi, fun e => ?_⟩
  subst e
  rcases h.2 with ⟨h1, _⟩ | ⟨g, c, cur, h1, _⟩
  · rw [he] at h1; injection h1
  · rw [he] at h1
    have h2 : (none : Option Nat) = some g := congrArg Value.ownBlock h1
    exact absurd h2 (by simp)
theorem OwnI.is {w : World} {base : Nat} {l : List Int} {v : Value} (h : OwnI w base l v) (hl : ∀ x ∈ l, i64 x) : ∃ A cap, v = .slice A l.length cap ∧ IS w w.heap.size l A cap ∧ (A = none → cap = 0) := by
  rcases h.2 with ⟨h1, h2⟩ | ⟨g, cap, cur, h1, h2, h3, h4, h5, h6, h7⟩
  · have hn : l = [] := List.eq_nil_of_length_eq_zero h2
    subst hn
    exact ⟨none, 0, by rw [h1]; rfl, ⟨Nat.le_refl _, by unfold maxLen; omega, (fun x hx => absurd hx (by simp)), (fun hn => absurd rfl hn)⟩, fun _ => rfl⟩
  · refine ⟨_, cap, h1, ⟨h4, h5, hl, fun _ => ⟨g, 0, rfl, (Array.getElem?_eq_some_iff.1 h3).1, fun i x hx => ?_⟩⟩, fun e => by cases e⟩
    have hc := World.ownsRow.cells h (g := g) (by rw [h1]; rfl) i (.int .i64 x) (by simp [intsC, hx])
    rw [add0] at hc
    rw [Nat.zero_add]; exact hc
/-- A slice literal is the call's own. -/
theorem ownI_lit (w : World) (l : List Int) (hl : l.length ≤ 100) : OwnI (w.alloc (.cells (intsC l).toArray 3)) w.heap.size l (.slice (some ⟨w.heap.size, 0, none⟩) l.length l.length) :=
  ⟨by simp [intsC_len], .inr ⟨w.heap.size, l.length, (intsC l).toArray, rfl, Nat.le_refl _, heap_alloc_new w _, Nat.le_refl _, by unfold maxLen; omega, by simp [intsC_len], by simp [List.take_of_length_le, intsC_len]⟩⟩
theorem OwnI.below {w w' : World} {base : Nat} {l : List Int} {v : Value} (h : OwnI w base l v) (hb : Below w.heap.size w w') : OwnI w' base l v := ownsRow_below h hb
end Go.Proofs.YtlbcicoppglgjaaDoor
