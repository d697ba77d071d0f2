/-
  Contract: prop.rows.
-/
import Derived.Test.YtflhdfbpafhjlaaCpm
import Derived.Great.Walk
import Derived.Laws.Rows
import Derived.Laws.Tables
namespace Go.Proofs.Ytflhdfbpafhjlaa
open Go.RowKit Go.Shelf Go.Lib Go.Great
theorem below_setRow {B : Nat} {w w1 : World} (h : Below B w w1) {g : Nat} (hg : B ≤ g) (cs : Array Value) : Below B w (w1.setRow g cs) :=
  h.trans ⟨rfl, rfl, rfl, by simp, fun k hk => setRow_other _ _ _ _ (by omega)⟩

def rcell (x : Row) : List Value := [.int .i32 x.1, .int .i32 x.2.1, .int .i64 (x.2.2 : Int)]
def NR : Array Value := (rowsP.flatMap rcell).toArray
def ZNR : Array Value := (List.replicate 140 [Value.int .i32 0, .int .i32 0, .int .i64 0]).flatten.toArray
/-- One operation that builds a value of what is known. -/
def bstep (P : Program) (t : Array Value) (o : Oper) : Option (Array Value) :=
  match o.guard, o.op, o.dst with
  | none, .build ty parts, some d => (P.built ty (parts.map fun (i, x) => (i, Act.eval { tmps := t, defers := [] } x)).toList).map fun cs => t.setIfInBounds d (.agg cs)
  | _, _, _ => none
theorem eval_tmps (a : Act) (x : Operand) : a.eval x = Act.eval { tmps := a.tmps, defers := [] } x := by cases x <;> rfl
theorem wpList_builds {P : Program} {ops : Array Oper} {Q : Exit → Act → World → Prop} {w : World} {rest : List Oper} (bs : List Oper) : ∀ (a : Act) (t' : Array Value), bs.foldlM (bstep P) a.tmps = some t' → wpList P ops Q rest { a with tmps := t' } w → wpList P ops Q (bs ++ rest) a w := by
  induction bs with
  | nil => intro a t' h k; simp at h; subst h; exact k
  | cons o bs ih =>
    intro a t' h k
    rw [List.foldlM_cons] at h
    cases hs : bstep P a.tmps o with
    | none => rw [hs] at h; cases h
    | some t1 =>
      rw [hs] at h
      have h : bs.foldlM (bstep P) t1 = some t' := h
      unfold bstep at hs
      split at hs
      · rename_i ty parts d hg ho hd
        simp only [Option.map_eq_some_iff] at hs
        obtain ⟨cs, hcs, rfl⟩ := hs
        have e : (parts.map fun (i, x) => (i, a.eval x)) = (parts.map fun (i, x) => (i, Act.eval { tmps := a.tmps, defers := [] } x)) := by
          congr 1
        rw [← e] at hcs
        refine wpList_build hg ty parts ho (by rw [hcs]; rfl) ?_
        rw [hcs]
        have e2 : a.put o.dst (.agg cs) = { a with tmps := a.tmps.setIfInBounds d (.agg cs) } := by rw [hd]; rfl
        show wpList P ops Q (bs ++ rest) (a.put o.dst (.agg cs)) w
        rw [e2]
        exact ih _ t' h k
      · cases hs
def FR (v : Value) : Array Value := (#[v] ++ (rowsP.map fun x => Value.agg (rcell x).toArray).toArray) ++ #[.agg NR]

attribute [local irreducible] wpList Code.wp NR ZNR FR

set_option maxHeartbeats 4000000 in
set_option maxRecDepth 100000 in
theorem rows_any (w : World) : Calls Try.prog 22 #[] w fun e w' => e = .returned (.agg NR) ∧ Below w.heap.size w w' := by
  refine calls_of_wp Try.func22 rfl ?_
  apply wp_seq_k; intro K hK
  apply wp_region_lit
  refine wpList_allocTo rfl (some 0) rfl (.pointer (some ⟨w.heap.size, 0, none⟩)) (.cells ZNR 51) (by as_aux_lemma => kernel_rfl) ?_
  apply wpList_nil
  refine hK _ _ ?_
  clear hK K
  apply wp_seq_k; intro K hK
  apply wp_region_lit
  refine wpList_splitAt 141 _ (List.take_append_drop 141 _).symm ?_
  refine wpList_builds _ _ (FR (.pointer (some ⟨w.heap.size, 0, none⟩))) (by as_aux_lemma => kernel_rfl) ?_
  have hz := heap_alloc_new w (.cells ZNR 51)
  have h0 : ∀ d, Act.eval { tmps := FR (.pointer (some ⟨w.heap.size, 0, none⟩)), defers := d } (.tmp 0) = .pointer (some ⟨w.heap.size, 0, none⟩) := fun d => by as_aux_lemma => kernel_rfl
  have h1 : ∀ d, Act.eval { tmps := FR (.pointer (some ⟨w.heap.size, 0, none⟩)), defers := d } (.tmp 141) = .agg NR := fun d => by as_aux_lemma => kernel_rfl
  refine wpList_store_row rfl 51 (.tmp 0) (.tmp 141) rfl w.heap.size NR (h0 _) (h1 _) 51 ZNR hz (by as_aux_lemma => kernel_rfl) (by as_aux_lemma => kernel_rfl) (by as_aux_lemma => kernel_rfl) ?_
  apply wpList_nil
  refine hK _ _ ?_
  clear hK K
  refine wp_ret ?_
  refine bodyPost_ret (v := .agg NR) (results_cell_row rfl _ _ w.heap.size 51 NR (0, 0) (.array 140 50) (h0 []) ?_ (by as_aux_lemma => kernel_rfl) rfl (by as_aux_lemma => kernel_rfl)) rfl ⟨rfl, ?_⟩
  · exact setRow_heap _ _ _ _ _ _ hz
  · exact below_setRow (below_new w _) (Nat.le_refl _) _
end Go.Proofs.Ytflhdfbpafhjlaa
