/-
  Contracts of what ranges over scalar.each: scalar.Starts, scalar.Count, scalar.Valid.
-/
import Derived.Test.YtimiinnnmdcmhaaDoorAll
namespace Go.Proofs.YtimiinnnmdcmhaaDoor
open Go.RowKit Go.Shelf
open Go.Lib

attribute [local go_sem] Oper.semAt_some

theorem Tryd.info3 : (Tryd.prog.info? 3).map (fun i => (i.zero, i.size, i.bytes)) = some (some (.int .i64 0), 1, 8) := by kernel_rfl

def places (xs : List Rec) : List Value := xs.map fun x => Value.int .i64 x.2.1
theorem places_snoc (xs : List Rec) (x : Rec) : places (xs ++ [x]) = places xs ++ [Value.int .i64 x.2.1] := by simp [places]

set_option maxRecDepth 100000 in
set_option maxHeartbeats 2000000 in
theorem starts_in (n : Nat) (hn : 3 ≤ n) (A : Option Addr) (len cap : Nat) (f : Nat → Nat) (w : World) (hT : Tabs w) (hS : Sl w w.heap.size A len cap f) (hlim : len ≤ 1000000) :
    CallsIn Fence.wide n Tryd.prog 17 #[.slice A len cap] w (Holds1 w.heap.size 3 (places (rest len f 0)) w) := by
  obtain ⟨i0, hi, hz0, hz1, hz2⟩ := info_parts Tryd.info3
  have hrl := rest_length len f
  refine callsIn_of_wp_marks Tryd.func17 rfl trivial ?_ rfl
  simp only [Tryd.ntmps17, List.size_toArray, List.length_cons, List.length_nil, Nat.reduceAdd, Nat.reduceSub, Array.replicate_succ, Array.replicate_zero, List.push_toArray, List.append_toArray, List.nil_append, List.cons_append]
  gi_wp2_with fail
  refine ⟨trivial, (fun h => by cases h), ?_⟩
  refine (each_in (n - 1) A len cap _).mono ?_
  rintro e w' ⟨rfl, rfl⟩
  gi_wp2_with fail
  have bO := (Boxed.new w 32 (.slice none 0 0)).alloc (.cells #[.slice A len cap] 22)
  have bN := Boxed.new (w.alloc (.cells #[.slice none 0 0] 32)) 22 (.slice A len cap)
  rw [World.size_alloc] at bN
  have hB0 : Below w.heap.size w ((w.alloc (.cells #[.slice none 0 0] 32)).alloc (.cells #[.slice A len cap] 22)) := ((Below.refl _ w).alloc (Nat.le_refl _) _).alloc (by simp) _
  have hT0 := hT.below hB0 hT.2
  have hS0 := hS.below hB0
  refine wpIn_rangeFunc_ownH rfl (by omega) (gf := 76) (lb := #[.pointer (some ⟨w.heap.size + 1, 0, none⟩)]) rfl trivial (enters_of Tryd.func76 (by kernel_rfl) rfl)
    (each_stops (n - 1) (w.heap.size + 1) w.heap.size len cap A f _ (by simp; omega) hT.2 bN hT0 hS0) K78.trans (K78_b (by simp; omega)) (Below.refl _ _) (fun _ => rfl)
    (fun pre W => (∃ v, Boxed W w.heap.size 32 v ∧ W.ownsRow w.heap.size 3 1 v (places pre).length (places pre) ∧ (v = .slice none 0 0 ↔ places pre = [])) ∧ Below w.heap.size w W)
    (fun _ _ _ => False)
    (OwnFrom.and (Own.from (holdsRow_own w.heap.size w.heap.size 32 3 1 (fun pre => (places pre).length) (fun pre => places pre) (fun pre v => v = .slice none 0 0 ↔ places pre = [])) _) (ownFrom_below (Nat.le_refl _) (by simp; omega)))
    (fun _ _ _ _ _ hs _ _ => hs)
    ⟨⟨_, bO, World.ownsRow_nil _ _ _ _, by simp [places]⟩, hB0⟩
    (fun x a' W => ∃ Bx, w.heap.size < Bx ∧ Cells W Bx 78 #[.int .i32 x.1, .int .i64 x.2.1, .int .i64 x.2.2.1, .bool x.2.2.2] ∧ a' = { tmps := #[.slice A len cap, undef, .slice none 0 0, .pointer (some ⟨w.heap.size, 0, none⟩), .pointer (some ⟨Bx, 0, none⟩), .slice A len cap, .func (.func 76) #[] #[.pointer (some ⟨w.heap.size + 1, 0, none⟩)], .agg #[.int .i32 x.1, .int .i64 x.2.1, .int .i64 x.2.2.1, .bool x.2.2.2], undef, undef, undef, undef, undef, undef], defers := [] })
    (fun x a' _ X Y row hs hg hr => by obtain ⟨Bx, h1, h2, h3⟩ := hs; exact ⟨Bx, h1, cells_own Bx 78 _ () X Y row h2 hg (fun r e => (hr r e).2), h3⟩)
    ?assign ?body ?done ?stop
  case assign =>
    rintro l pre x W K ⟨⟨v, hv, hrow, hnil⟩, hB⟩ hK
    simp only [encR]
    gi_wp2
    exact hK _ _ ((KeepsOthers.alloc _ _).from _) ((K78.refl _ W).alloc hB.size _) ⟨⟨v, hv.alloc _, hrow.alloc _, hnil⟩, hB.alloc hB.size _⟩ ⟨W.heap.size, hv.lt, World.alloc_heap_new W _, rfl⟩
  case body =>
    rintro l pre x a' W hl ⟨r, hr⟩ ⟨⟨v, hv, hrow, hnil⟩, hB⟩ ⟨Bx, hBx, bX, rfl⟩ hlt
    have hc := hv.cell
    have hx0 := bX.cell 1
    simp at hx0
    have hpl : (places pre).length = pre.length := by simp [places]
    have hlt' : pre.length < 1000000 := by omega
    have hpl' : (places pre).length < 1000000 := by omega
    clear hpl hlt
    gi_wp2_with (gi_at_builtin; refine wpListIn_append_own _ rfl _ _ 32 rfl w.heap.size 3 i0 (.int .i64 0) 1 8 Tryd.underlying32 hi hz0 hz1 hz2 rfl (by decide) _ _ _ rfl (hrow.alloc _) ⟨W.heap.size, 0, none⟩ 1 1 [.int .i64 x.2.1] rfl rfl (cell_one_new _ _ _) (by simp [Value.oneCell']) (by unfold maxLen; omega) (by omega) (by have := hB.size; simp; omega) ?_; intro v' w1 hown' hgrow _; have hk78 := K78.appended (t := 32) (e := 3) (by decide) (by decide) hv (by decide) hrow hB.size (Nat.le_refl _) hown' hgrow; obtain ⟨g', cap', rfl⟩ := ownsRow_succ hown'; obtain ⟨hv1, hv2, hr2, hk2, hb2⟩ := hv.appended (by decide) hrow hB.size (Nat.le_refl _) hown' hgrow; have hc1 := hv1.cell; have hf1 := hv1.frozen)
    exact ⟨hk2.from _, hk78, ⟨_, hv2, by rw [places_snoc]; simpa using hr2, by rw [places_snoc]; simp⟩, hB.trans hb2⟩
  case done =>
    rintro D ys W hD rfl ⟨⟨v, hv, hrow, hnil⟩, hB⟩ hK
    have hc := hv.cell
    gi_wp2
    refine ⟨by simp, .inl ⟨_, _, rfl, run_takeDeferred hK, ?_⟩⟩
    exact ⟨_, results_tmp rfl _ _ _, v, rfl, ownsRow_putObj hrow _ hK rfl, hnil, hB.trans (belowK_b (w := w) (Nat.le_refl _) W D _ _ (by simp at hD; omega) hK rfl rfl)⟩
  case stop =>
    rintro D c pre W _ _ h _
    exact h.elim

/-- A store into a variable's box keeps the scalars that were read. -/
theorem K78.store {n₀ B t : Nat} {W : World} {v : Value} (v' : Value) (hv : Boxed W B t v) (ht : t ≠ 78 ∧ t ≠ 22) (hB : n₀ ≤ B) : K78 n₀ W (W.setCell ⟨B, 0, none⟩ v') := by
  refine ⟨(Below.refl n₀ W).setCell (p := ⟨B, 0, none⟩) hB v', fun g t' cs ht' hg => (Below.heap_setCell W _ _ g (fun e => ?_)).trans hg⟩
  have e' : g = B := e
  subst e'
  rw [show W.heap[g]? = _ from hv] at hg
  simp only [Option.some.injEq, Obj.cells.injEq] at hg
  have h3 : t = t' := hg.2.1
  rcases ht' with h4 | h4
  · exact ht.1 (h3.trans h4)
  · exact ht.2 (h3.trans h4)

set_option maxRecDepth 100000 in
set_option maxHeartbeats 2000000 in
theorem count_in (n : Nat) (hn : 3 ≤ n) (A : Option Addr) (len cap : Nat) (f : Nat → Nat) (w : World) (hT : Tabs w) (hS : Sl w w.heap.size A len cap f) (hlim : len ≤ 1000000) :
    CallsIn Fence.wide n Tryd.prog 19 #[.slice A len cap] w fun e w' => e = .returned (.int .i64 (rest len f 0).length) ∧ Below w.heap.size w w' := by
  have hrl := rest_length len f
  refine callsIn_of_wp_marks Tryd.func19 rfl trivial ?_ rfl
  simp only [Tryd.ntmps19, List.size_toArray, List.length_cons, List.length_nil, Nat.reduceAdd, Nat.reduceSub, Array.replicate_succ, Array.replicate_zero, List.push_toArray, List.append_toArray, List.nil_append, List.cons_append]
  gi_wp2_with fail
  refine ⟨trivial, (fun h => by cases h), ?_⟩
  refine (each_in (n - 1) A len cap _).mono ?_
  rintro e w' ⟨rfl, rfl⟩
  gi_wp2_with fail
  have bO := (Boxed.new w 3 (.int .i64 0)).alloc (.cells #[.slice A len cap] 22)
  have bN := Boxed.new (w.alloc (.cells #[.int .i64 0] 3)) 22 (.slice A len cap)
  rw [World.size_alloc] at bN
  have hB0 : Below w.heap.size w ((w.alloc (.cells #[.int .i64 0] 3)).alloc (.cells #[.slice A len cap] 22)) := ((Below.refl _ w).alloc (Nat.le_refl _) _).alloc (by simp) _
  have hT0 := hT.below hB0 hT.2
  have hS0 := hS.below hB0
  refine wpIn_rangeFunc_ownG rfl (by omega) (gf := 76) (lb := #[.pointer (some ⟨w.heap.size + 1, 0, none⟩)]) rfl trivial (enters_of Tryd.func76 (by kernel_rfl) rfl)
    (each_stops (n - 1) (w.heap.size + 1) w.heap.size len cap A f _ (by simp; omega) hT.2 bN hT0 hS0) K78.trans (K78_b (by simp; omega)) (Below.refl _ _) (fun _ => rfl)
    (fun pre W => Boxed W w.heap.size 3 (.int .i64 pre.length) ∧ Below w.heap.size w W)
    (fun _ _ _ => False)
    (OwnFrom.and (Own.from (boxed_own w.heap.size 3 (fun pre : List Rec => Value.int .i64 pre.length)) _) (ownFrom_below (Nat.le_refl _) (by simp; omega)))
    (fun _ _ _ _ _ hs _ _ => hs)
    ⟨bO, hB0⟩
    (fun x => { tmps := #[.slice A len cap, undef, .int .i64 0, .pointer (some ⟨w.heap.size, 0, none⟩), .slice A len cap, .func (.func 76) #[] #[.pointer (some ⟨w.heap.size + 1, 0, none⟩)], .agg #[.int .i32 x.1, .int .i64 x.2.1, .int .i64 x.2.2.1, .bool x.2.2.2], undef, undef, undef], defers := [] })
    ?assign ?body ?done ?stop
  case assign =>
    intro l x W K hK
    simp only [encR]
    gi_wp2
    simpa using hK
  case body =>
    rintro l pre x W ⟨hv, hB⟩ hlt
    have hc := hv.cell
    have hf := hv.frozen
    have hb : (pre.length : Int) < 1000000 := by omega
    have hst := K78.store (n₀ := w.heap.size) (.int .i64 ((pre.length : Int) + 1)) hv (by decide) (Nat.le_refl _)
    have hst2 := hv.set (.int .i64 ((pre.length : Int) + 1))
    have hB2 := hB.setCell (p := ⟨w.heap.size, 0, none⟩) (Nat.le_refl _) (.int .i64 ((pre.length : Int) + 1))
    gi_wp2
    exact ⟨(KeepsOthers.setCell _ _ _).from _, hst, by rw [List.length_append]; exact hst2, hB2⟩
  case done =>
    rintro D ys W hD rfl ⟨hv, hB⟩ hK
    have hc := hv.cell
    gi_wp2
    refine ⟨by simp, .inl ⟨_, _, rfl, run_takeDeferred hK, ?_⟩⟩
    exact ⟨_, results_tmp rfl _ _ _, rfl, hB.trans (belowK_b (w := w) (Nat.le_refl _) W D _ _ (by simp at hD; omega) hK rfl rfl)⟩
  case stop =>
    rintro D c pre W _ _ h _
    exact h.elim

def AllWhole (xs : List Rec) : Prop := ∀ x ∈ xs, x.2.2.2 = true

set_option maxRecDepth 100000 in
set_option maxHeartbeats 2000000 in
theorem valid_in (n : Nat) (hn : 3 ≤ n) (A : Option Addr) (len cap : Nat) (f : Nat → Nat) (w : World) (hT : Tabs w) (hS : Sl w w.heap.size A len cap f) :
    CallsIn Fence.wide n Tryd.prog 20 #[.slice A len cap] w fun e w' => e = .returned (.bool ((rest len f 0).all fun x => x.2.2.2)) ∧ Below w.heap.size w w' := by
  refine callsIn_of_wp_marks Tryd.func20 rfl trivial ?_ rfl
  simp only [Tryd.ntmps20, List.size_toArray, List.length_cons, List.length_nil, Nat.reduceAdd, Nat.reduceSub, Array.replicate_succ, Array.replicate_zero, List.push_toArray, List.append_toArray, List.nil_append, List.cons_append]
  gi_wp2_with fail
  refine ⟨trivial, (fun h => by cases h), ?_⟩
  refine (each_in (n - 1) A len cap _).mono ?_
  rintro e w' ⟨rfl, rfl⟩
  gi_wp2_with fail
  have bO := (Boxed.new w 4 (.bool false)).alloc (.cells #[.slice A len cap] 22)
  have bN := Boxed.new (w.alloc (.cells #[.bool false] 4)) 22 (.slice A len cap)
  rw [World.size_alloc] at bN
  have hB0 : Below w.heap.size w ((w.alloc (.cells #[.bool false] 4)).alloc (.cells #[.slice A len cap] 22)) := ((Below.refl _ w).alloc (Nat.le_refl _) _).alloc (by simp) _
  have hT0 := hT.below hB0 hT.2
  have hS0 := hS.below hB0
  refine wpIn_rangeFunc_ownH rfl (by omega) (gf := 76) (lb := #[.pointer (some ⟨w.heap.size + 1, 0, none⟩)]) rfl trivial (enters_of Tryd.func76 (by kernel_rfl) rfl)
    (each_stops (n - 1) (w.heap.size + 1) w.heap.size len cap A f _ (by simp; omega) hT.2 bN hT0 hS0) K78.trans (K78_b (by simp; omega)) (Below.refl _ _) (fun _ => rfl)
    (fun pre W => (AllWhole pre ∧ Boxed W w.heap.size 4 (.bool false)) ∧ Below w.heap.size w W)
    (fun c pre W => (c = .ret ∧ ¬ AllWhole pre ∧ Boxed W w.heap.size 4 (.bool false)) ∧ Below w.heap.size w W)
    (OwnFrom.and (OwnFrom.and (ownFrom_pure _ _) (Own.from (boxed_own w.heap.size 4 (fun _ : List Rec => Value.bool false)) _)) (ownFrom_below (Nat.le_refl _) (by simp; omega)))
    (fun c => OwnFrom.and (OwnFrom.and (ownFrom_pure _ _) (OwnFrom.and (ownFrom_pure _ _) (Own.from (boxed_own w.heap.size 4 (fun _ : List Rec => Value.bool false)) _))) (ownFrom_below (Nat.le_refl _) (by simp; omega)))
    ⟨⟨(fun _ h => by cases h), bO⟩, hB0⟩
    (fun x a' W => ∃ Bx, w.heap.size < Bx ∧ Cells W Bx 78 #[.int .i32 x.1, .int .i64 x.2.1, .int .i64 x.2.2.1, .bool x.2.2.2] ∧ a' = { tmps := #[.slice A len cap, undef, .pointer (some ⟨w.heap.size, 0, none⟩), .pointer (some ⟨Bx, 0, none⟩), .slice A len cap, .func (.func 76) #[] #[.pointer (some ⟨w.heap.size + 1, 0, none⟩)], .agg #[.int .i32 x.1, .int .i64 x.2.1, .int .i64 x.2.2.1, .bool x.2.2.2], undef, undef, undef], defers := [] })
    (fun x a' _ X Y row hs hg hr => by obtain ⟨Bx, h1, h2, h3⟩ := hs; exact ⟨Bx, h1, cells_own Bx 78 _ () X Y row h2 hg (fun r e => (hr r e).2), h3⟩)
    ?assign ?body ?done ?stop
  case assign =>
    rintro l pre x W K ⟨⟨hw, hv⟩, hB⟩ hK
    simp only [encR]
    gi_wp2
    exact hK _ _ ((KeepsOthers.alloc _ _).from _) ((K78.refl _ W).alloc hB.size _) ⟨⟨hw, hv.alloc _⟩, hB.alloc hB.size _⟩ ⟨W.heap.size, hv.lt, World.alloc_heap_new W _, rfl⟩
  case body =>
    rintro l pre x a' W hl ⟨r, hr⟩ ⟨⟨hw, hv⟩, hB⟩ ⟨Bx, hBx, bX, rfl⟩ hlt
    have hx0 := bX.cell 3
    simp at hx0
    have hc := hv.cell
    have hf := hv.frozen
    have hst := K78.store (n₀ := w.heap.size) (.bool false) hv (by decide) (Nat.le_refl _)
    have hst2 := hv.set (.bool false)
    have hB2 := hB.setCell (p := ⟨w.heap.size, 0, none⟩) (Nat.le_refl _) (.bool false)
    obtain ⟨r1, r2, r3, r4⟩ := x
    have HW := Lib.hid hw
    clear hw
    cases r4
    · gi_wp2
      exact ⟨(KeepsOthers.setCell _ _ _).from _, ⟨rfl, fun h => by have := h (r1, r2, r3, false) (by simp); simp at this, hst2⟩, hB2⟩
    · gi_wp2
      exact ⟨KeepsFrom.refl _ _, K78.refl _ _, ⟨fun y hy => by
        rcases List.mem_append.1 hy with h | h
        · exact HW.out y h
        · simp at h; rw [h], hv⟩, hB⟩
  case done =>
    rintro D ys W hD rfl ⟨⟨hw, hv⟩, hB⟩ hK
    have e : ((rest len f 0).all fun x => x.2.2.2) = true := by rw [List.all_eq_true]; exact hw
    have hc := hv.cell
    have hf := hv.frozen
    have hB2 := hB.setCell (p := ⟨w.heap.size, 0, none⟩) (Nat.le_refl _) (.bool true)
    have E := Lib.hid e
    clear hw e
    gi_wp2
    have hK' := (KeepsOthers.setCell W ⟨w.heap.size, 0, none⟩ (.bool true)).same D _ hK rfl
    refine ⟨by simp, .inl ⟨_, _, rfl, run_takeDeferred hK', ?_⟩⟩
    have hc5 := cell_kept (hv.set (.bool true)).cell (grownBy_putObj' _ D (.deferred none)) (fun r e => by cases e; exact ⟨_, hK', rfl⟩)
    refine ⟨.bool true, ?_, by rw [E.out], hB2.trans (belowK_b (w := w) (Nat.le_refl _) _ D _ _ (by simp at hD; omega) hK' rfl rfl)⟩
    simp [results, Tryd.results20, go_sem, hc5]
  case stop =>
    rintro D c pre W hD hpre ⟨⟨rfl, hw, hv⟩, hB⟩ hK
    have e : ((rest len f 0).all fun x => x.2.2.2) = false := by
      rw [Bool.eq_false_iff]
      intro h
      rw [List.all_eq_true] at h
      exact hw (fun x hx => h x (hpre.subset hx))
    have E := Lib.hid e
    clear hw e
    gi_wp2
    refine ⟨by simp, .inl ⟨_, _, rfl, run_takeDeferred hK, ?_⟩⟩
    have hc5 := cell_kept hv.cell (grownBy_putObj' _ D (.deferred none)) (fun r e => by cases e; exact ⟨_, hK, rfl⟩)
    refine ⟨.bool false, ?_, by rw [E.out], hB.trans (belowK_b (w := w) (Nat.le_refl _) W D _ _ (by simp at hD; omega) hK rfl rfl)⟩
    simp [results, Tryd.results20, go_sem, hc5]
end Go.Proofs.YtimiinnnmdcmhaaDoor
