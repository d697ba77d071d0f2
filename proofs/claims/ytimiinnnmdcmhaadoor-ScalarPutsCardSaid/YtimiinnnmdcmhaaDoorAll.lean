/-
  Contracts of what ranges over scalar.each: scalar.All.
-/
import Derived.Maps.AppendAt
import Derived.Test.YtimiinnnmdcmhaaDoorEach
namespace Go.Proofs.YtimiinnnmdcmhaaDoor
open Go.RowKit Go.Shelf
open Go.Lib

attribute [local go_sem] Oper.semAt_some

theorem rds_length (n : Nat) (f : Nat → Nat) : ∀ (k i : Nat), (rds n f k i).length ≤ k
  | 0, _ => Nat.le_refl _
  | k + 1, i => by
    unfold rds
    split
    · have := rds_length n f k (i + (rd n f i).2.2.1)
      simp; omega
    · simp
theorem rest_length (n : Nat) (f : Nat → Nat) : (rest n f 0).length ≤ n := rds_length n f n 0

/-- A block that is known whole. -/
def Cells (W : World) (g t : Nat) (cs : Array Value) : Prop := W.heap[g]? = some (.cells cs t (0, 0))
theorem cells_own (g t : Nat) (cs : Array Value) : Own (fun (_ : Unit) W => Cells W g t cs) := fun _ X Y row hs hg hr =>
  (hg.block g (Array.getElem?_eq_some_iff.1 hs).1 (fun e => by
    obtain ⟨o, ho, hc⟩ := hr g e.symm
    rw [show X.heap[g]? = _ from hs] at ho
    cases ho
    cases hc)).trans hs
theorem Cells.lt {W : World} {g t : Nat} {cs : Array Value} (h : Cells W g t cs) : g < W.heap.size := (Array.getElem?_eq_some_iff.1 h).1
theorem Cells.cell {W : World} {g t : Nat} {cs : Array Value} (h : Cells W g t cs) (i : Nat) : W.cell? ⟨g, i, none⟩ = cs[i]? := by
  simp [World.cell?, show W.heap[g]? = _ from h]
theorem K78_b {n₀ : Nat} {w : World} (hn : n₀ ≤ w.heap.size) (W : World) (l : Nat) (o o' : Obj) (hl : w.heap.size ≤ l) (h : W.heap[l]? = some o) (ho : o.isCells = false) (_ : o.isWalk = false) : K78 n₀ W (W.putObj l o') :=
  K78.putObj W l o o' (Nat.le_trans hn hl) h ho

/-- 'out = append(out, ..)': a round that collects keeps what it must. -/
theorem K78.appended {W w1 : World} {n₀ B t e size : Nat} {v v' : Value} {k m : Nat} {xs ys : List Value} {tmp : Obj} (ht : t ≠ 78 ∧ t ≠ 22) (he : e ≠ 78 ∧ e ≠ 22)
    (hv : Boxed W B t v) (hte : t ≠ e) (hrow : W.ownsRow n₀ e size v k xs) (hn₀ : n₀ ≤ W.heap.size) (hB : n₀ ≤ B)
    (hown' : w1.ownsRow n₀ e size v' m ys) (hgrow : (W.alloc tmp).grownBy w1 v.ownBlock) : K78 n₀ W (w1.setCell ⟨B, 0, none⟩ v') := by
  obtain ⟨hv1, _, _, _, hb⟩ := hv.appended hte hrow hn₀ hB hown' hgrow
  refine ⟨hb, fun g t' cs ht' hg => ?_⟩
  have hlt := (Array.getElem?_eq_some_iff.1 hg).1
  have h1 : (W.alloc tmp).heap[g]? = some (.cells cs t' (0, 0)) := (Below.heap_alloc W tmp g hlt).trans hg
  have hne : some g ≠ v.ownBlock := by
    rcases hrow.2 with ⟨rfl, _⟩ | ⟨g', cap, cur, rfl, _, hgb, _⟩
    · simp [Value.ownBlock]
    · intro e'
      obtain rfl : g = g' := by simpa [Value.ownBlock] using e'
      rw [hg] at hgb
      simp only [Option.some.injEq, Obj.cells.injEq] at hgb
      have h3 : t' = e := hgb.2.1
      rcases ht' with h4 | h4
      · exact he.1 (h3.symm.trans h4)
      · exact he.2 (h3.symm.trans h4)
  have h2 : w1.heap[g]? = some (.cells cs t' (0, 0)) := (hgrow.block g (by simp; omega) hne).trans h1
  refine (Below.heap_setCell w1 _ _ g (fun e' => ?_)).trans h2
  have e'' : g = B := e'
  subst e''
  rw [show w1.heap[g]? = _ from hv1] at h2
  simp only [Option.some.injEq, Obj.cells.injEq] at h2
  have h3 : t = t' := h2.2.1
  rcases ht' with h4 | h4
  · exact ht.1 (h3.trans h4)
  · exact ht.2 (h3.trans h4)

theorem Tryd.info21 : (Tryd.prog.info? 21).map (fun i => (i.zero, i.size, i.bytes)) = some (some (.int .i32 0), 1, 4) := by kernel_rfl

def runes (xs : List Rec) : List Value := xs.map fun x => Value.int .i32 x.1
theorem runes_snoc (xs : List Rec) (x : Rec) : runes (xs ++ [x]) = runes xs ++ [Value.int .i32 x.1] := by simp [runes]

/-- A slice of the call's own that holds these. -/
def Holds1 (B t : Nat) (xs : List Value) (w : World) (e : Ending) (w' : World) : Prop :=
  ∃ v, e = .returned v ∧ w'.ownsRow B t 1 v xs.length xs ∧ (v = .slice none 0 0 ↔ xs = []) ∧ Below B w w'

set_option maxRecDepth 100000 in
set_option maxHeartbeats 2000000 in
theorem all_in (n : Nat) (hn : 3 ≤ n) (A : Option Addr) (len cap : Nat) (f : Nat → Nat) (w : World) (hT : Tabs w) (hS : Sl w w.heap.size A len cap f) (hlim : len ≤ 1000000) :
    CallsIn Fence.wide n Tryd.prog 16 #[.slice A len cap] w (Holds1 w.heap.size 21 (runes (rest len f 0)) w) := by
  obtain ⟨i0, hi, hz0, hz1, hz2⟩ := info_parts Tryd.info21
  have hrl := rest_length len f
  refine callsIn_of_wp_marks Tryd.func16 rfl trivial ?_ rfl
  simp only [Tryd.ntmps16, List.size_toArray, List.length_cons, List.length_nil, Nat.reduceAdd, Nat.reduceSub, Array.replicate_succ, Array.replicate_zero, List.push_toArray, List.append_toArray, List.nil_append, List.cons_append]
  gi_wp2_with fail
  refine ⟨trivial, (fun h => by cases h), ?_⟩
  refine (each_in (n - 1) A len cap _).mono ?_
  rintro e w' ⟨rfl, rfl⟩
  gi_wp2_with fail
  have bO := (Boxed.new w 30 (.slice none 0 0)).alloc (.cells #[.slice A len cap] 22)
  have bN := Boxed.new (w.alloc (.cells #[.slice none 0 0] 30)) 22 (.slice A len cap)
  rw [World.size_alloc] at bN
  have hB0 : Below w.heap.size w ((w.alloc (.cells #[.slice none 0 0] 30)).alloc (.cells #[.slice A len cap] 22)) := ((Below.refl _ w).alloc (Nat.le_refl _) _).alloc (by simp) _
  have hT0 := hT.below hB0 hT.2
  have hS0 := hS.below hB0
  refine wpIn_rangeFunc_ownH rfl (by omega) (gf := 76) (lb := #[.pointer (some ⟨w.heap.size + 1, 0, none⟩)]) rfl trivial (enters_of Tryd.func76 (by kernel_rfl) rfl)
    (each_stops (n - 1) (w.heap.size + 1) w.heap.size len cap A f _ (by simp; omega) hT.2 bN hT0 hS0) K78.trans (K78_b (by simp; omega)) (Below.refl _ _) (fun _ => rfl)
    (fun pre W => (∃ v, Boxed W w.heap.size 30 v ∧ W.ownsRow w.heap.size 21 1 v (runes pre).length (runes pre) ∧ (v = .slice none 0 0 ↔ runes pre = [])) ∧ Below w.heap.size w W)
    (fun _ _ _ => False)
    (OwnFrom.and (Own.from (holdsRow_own w.heap.size w.heap.size 30 21 1 (fun pre => (runes pre).length) (fun pre => runes pre) (fun pre v => v = .slice none 0 0 ↔ runes pre = [])) _) (ownFrom_below (Nat.le_refl _) (by simp; omega)))
    (fun _ _ _ _ _ hs _ _ => hs)
    ⟨⟨_, bO, World.ownsRow_nil _ _ _ _, by simp [runes]⟩, hB0⟩
    (fun x a' W => ∃ Bx, w.heap.size < Bx ∧ Cells W Bx 78 #[.int .i32 x.1, .int .i64 x.2.1, .int .i64 x.2.2.1, .bool x.2.2.2] ∧ a' = { tmps := #[.slice A len cap, undef, .slice none 0 0, .pointer (some ⟨w.heap.size, 0, none⟩), .pointer (some ⟨Bx, 0, none⟩), .slice A len cap, .func (.func 76) #[] #[.pointer (some ⟨w.heap.size + 1, 0, none⟩)], .agg #[.int .i32 x.1, .int .i64 x.2.1, .int .i64 x.2.2.1, .bool x.2.2.2], undef, undef, undef, undef, undef, undef], defers := [] })
    (fun x a' _ X Y row hs hg hr => by obtain ⟨Bx, h1, h2, h3⟩ := hs; exact ⟨Bx, h1, cells_own Bx 78 _ () X Y row h2 hg (fun r e => (hr r e).2), h3⟩)
    ?assign ?body ?done ?stop
  case assign =>
    rintro l pre x W K ⟨⟨v, hv, hrow, hnil⟩, hB⟩ hK
    simp only [encR]
    gi_wp2
    exact hK _ _ ((KeepsOthers.alloc _ _).from _) ((K78.refl _ W).alloc hB.size _) ⟨⟨v, hv.alloc _, hrow.alloc _, hnil⟩, hB.alloc hB.size _⟩ ⟨W.heap.size, hv.lt, World.alloc_heap_new W _, rfl⟩
  case body =>
    rintro l pre x a' W hl ⟨r, hr⟩ ⟨⟨v, hv, hrow, hnil⟩, hB⟩ ⟨Bx, hBx, bX, rfl⟩ hlt
    have hc := hv.cell
    have hx0 := bX.cell 0
    simp at hx0
    have hpl : (runes pre).length = pre.length := by simp [runes]
    have hlt' : pre.length < 1000000 := by omega
    have hpl' : (runes pre).length < 1000000 := by omega
    clear hpl hlt
    gi_wp2_with (gi_at_builtin; refine wpListIn_append_own _ rfl _ _ 30 rfl w.heap.size 21 i0 (.int .i32 0) 1 4 Tryd.underlying30 hi hz0 hz1 hz2 rfl (by decide) _ _ _ rfl (hrow.alloc _) ⟨W.heap.size, 0, none⟩ 1 1 [.int .i32 x.1] rfl rfl (cell_one_new _ _ _) (by simp [Value.oneCell']) (by unfold maxLen; omega) (by omega) (by have := hB.size; simp; omega) ?_; intro v' w1 hown' hgrow _; have hk78 := K78.appended (t := 30) (e := 21) (by decide) (by decide) hv (by decide) hrow hB.size (Nat.le_refl _) hown' hgrow; obtain ⟨g', cap', rfl⟩ := ownsRow_succ hown'; obtain ⟨hv1, hv2, hr2, hk2, hb2⟩ := hv.appended (by decide) hrow hB.size (Nat.le_refl _) hown' hgrow; have hc1 := hv1.cell; have hf1 := hv1.frozen)
    exact ⟨hk2.from _, hk78, ⟨_, hv2, by rw [runes_snoc]; simpa using hr2, by rw [runes_snoc]; simp⟩, hB.trans hb2⟩
  case done =>
    rintro D ys W hD rfl ⟨⟨v, hv, hrow, hnil⟩, hB⟩ hK
    have hc := hv.cell
    gi_wp2
    refine ⟨by simp, .inl ⟨_, _, rfl, run_takeDeferred hK, ?_⟩⟩
    exact ⟨_, results_tmp rfl _ _ _, v, rfl, ownsRow_putObj hrow _ hK rfl, hnil, hB.trans (belowK_b (w := w) (Nat.le_refl _) W D _ _ (by simp at hD; omega) hK rfl rfl)⟩
  case stop =>
    rintro D c pre W _ _ h _
    exact h.elim
end Go.Proofs.YtimiinnnmdcmhaaDoor
