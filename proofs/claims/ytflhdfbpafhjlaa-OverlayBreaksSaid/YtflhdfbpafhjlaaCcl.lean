/-
  Contract: prop.Class.
-/
import Derived.Test.YtflhdfbpafhjlaaCat
namespace Go.Proofs.Ytflhdfbpafhjlaa
open Go.RowKit Go.Shelf Go.Lib Go.Great Go.Sort

/-- In rows that rise: the first row that ends no sooner stands behind all those that end sooner. -/
theorem find_count {b : Int} {l : List Row} (h : rises b l = true) (r : Int) : l.find? (fun x => decide (r ≤ x.2.1)) = l[l.countP fun x => !decide (r ≤ x.2.1)]? := by
  induction l generalizing b with
  | nil => rfl
  | cons y ys ih =>
    simp only [rises, Bool.and_eq_true, decide_eq_true_eq] at h
    obtain ⟨⟨h1, h2⟩, h3⟩ := h
    rw [List.find?_cons, List.countP_cons]
    by_cases c : r ≤ y.2.1
    · have h0 : ys.countP (fun x => !decide (r ≤ x.2.1)) = 0 := by
        rw [List.countP_eq_zero]
        intro x hx
        have := rises_gt h3 x hx
        simp
        omega
      rw [h0]
      simp [c]
    · simp [c, ih h3]
def hiAt (i : Nat) : Int := match rowsP[i]? with | some x => x.2.1 | none => 0
theorem hiAt_of {i : Nat} {x : Row} (h : rowsP[i]? = some x) : hiAt i = x.2.1 := by unfold hiAt; rw [h]
theorem countP_get {α : Type} (f : α → Bool) (l : List α) : ∀ g : Nat → Bool, (∀ i x, l[i]? = some x → g i = f x) → (List.range l.length).countP g = l.countP f := by
  induction l with
  | nil => intro g _; rfl
  | cons y ys ih =>
    intro g h
    rw [List.length_cons, List.range_succ_eq_map, List.countP_cons, List.countP_map, ih (g ∘ Nat.succ) (fun i x hx => h (i + 1) x (by simpa using hx)), List.countP_cons, h 0 y rfl]
theorem hi_mono_from {b : Int} {l : List Row} (h : rises b l = true) : ∀ (i j : Nat) (x y : Row), i ≤ j → l[i]? = some x → l[j]? = some y → x.2.1 ≤ y.2.1 := by
  induction l generalizing b with
  | nil => simp
  | cons z zs ih =>
    simp only [rises, Bool.and_eq_true, decide_eq_true_eq] at h
    intro i j x y hij hx hy
    cases i with
    | zero =>
      simp at hx
      subst hx
      cases j with
      | zero => simp at hy; subst hy; omega
      | succ j =>
        have := rises_gt h.2 y (List.mem_of_getElem? (by simpa using hy))
        omega
    | succ i =>
      cases j with
      | zero => omega
      | succ j => exact ih h.2 i j x y (by omega) (by simpa using hx) (by simpa using hy)
theorem hi_mono (r : Int) (i j : Nat) (hij : i ≤ j) (hj : j < 140) (h : decide (r ≤ hiAt i) = true) : decide (r ≤ hiAt j) = true := by
  have hl := rows_len
  have hx := List.getElem?_eq_getElem (l := rowsP) (i := i) (by omega)
  have hy := List.getElem?_eq_getElem (l := rowsP) (i := j) (by omega)
  rw [hiAt_of hx] at h
  rw [hiAt_of hy]
  have := hi_mono_from rows_rise i j _ _ hij hx hy
  simp only [decide_eq_true_eq] at *
  omega
def cntR (r : Int) : Nat := (List.range 140).countP fun i => !decide (r ≤ hiAt i)
theorem cntR_find (r : Int) : rowsP.find? (fun x => decide (r ≤ x.2.1)) = rowsP[cntR r]? := by
  rw [find_count rows_rise]
  unfold cntR
  rw [← rows_len, countP_get (fun x => !decide (r ≤ x.2.1)) rowsP]
  intro i x hx
  rw [hiAt_of hx]
theorem class_cnt (r : Int) : classR r = match rowsP[cntR r]? with | none => 0 | some x => if r < x.1 then 0 else atRow x r := by
  have h := cntR_find r
  unfold classR
  rw [h]
  rfl
theorem cnt_le (r : Int) : cntR r ≤ 140 := by
  unfold cntR
  have := List.countP_le_length (p := fun i => !decide (r ≤ hiAt i)) (l := List.range 140)
  simpa using this
theorem rows_bounds : (rowsP.all fun x => decide (0 ≤ x.1 ∧ x.1 ≤ 1114111 ∧ 0 ≤ x.2.1 ∧ x.2.1 ≤ 1114111)) = true := by decide +kernel

set_option maxHeartbeats 2000000 in
theorem class_any (r : Int) (w : World) (_hr0 : -2147483648 ≤ r) (hr1 : r ≤ 2147483647) :
    Calls Try.prog 18 #[.int .i32 r] w fun e w' => e = .returned (.int .i64 (classR r : Nat)) ∧ Below w.heap.size w w' := by
  obtain ⟨N, hN⟩ : ∃ N, classR r = N := ⟨_, rfl⟩
  rw [hN]
  have HN := Lib.hid hN
  clear hN
  go_enter Try.func18, Try.ntmps18
  go_wp2_with fail
  refine (rows_any _).mono ?_
  rintro e w1 ⟨rfl, hb1⟩
  have hs1 := hb1.size
  simp at hs1
  have hc1 : w1.cell? ⟨w.heap.size, 0, none⟩ = some (.int .i32 r) := by
    rw [hb1.cell (p := ⟨w.heap.size, 0, none⟩) (by simp)]
    exact cell_new_sl w _ _
  have hb2 := (below_new w (.cells #[.int .i32 r] 21)).trans (hb1.mono (by simp))
  clear hb1
  have hb3 := (hb2.alloc (by omega) (.cells ZNR 51))
  have hb4 := below_setRow hb3 (g := w1.heap.size) (by omega) NR
  have hz := heap_alloc_new w1 (.cells ZNR 51)
  have hrow : TabAt ((w1.alloc (.cells ZNR 51)).setRow w1.heap.size NR) w1.heap.size := setRow_heap _ _ _ NR _ _ hz
  have hc2 : ((w1.alloc (.cells ZNR 51)).setRow w1.heap.size NR).cell? ⟨w.heap.size, 0, none⟩ = some (.int .i32 r) := by
    rw [cell_setRow_other _ _ _ _ (by simp; omega), (below_new w1 _).cell (p := ⟨w.heap.size, 0, none⟩) (by show w.heap.size < w1.heap.size; omega)]
    exact hc1
  have hne : w.heap.size < w1.heap.size := by omega
  go_wp2_with (first
    | refine wpList_allocTo rfl (some 3) rfl (.pointer (some ⟨w1.heap.size, 0, none⟩)) (.cells ZNR 51) (by kernel_rfl) ?_
    | refine wpList_store_row rfl 51 (.tmp 3) (.tmp 5) rfl w1.heap.size NR rfl rfl 51 ZNR hz (by kernel_rfl) (by kernel_rfl) (by kernel_rfl) ?_)
  generalize (w1.alloc (.cells ZNR 51)).setRow w1.heap.size NR = W at *
  have hgl : w1.heap.size < W.heap.size := (Array.getElem?_eq_some_iff.1 hrow).1
  generalize w1.heap.size = g at *
  generalize hbE : w.heap.size = b at *
  have HBE := Lib.hid hbE
  clear hbE
  have hS := Any.sort_Search Try.searchL 24 #[.pointer (some ⟨g, 0, none⟩), .pointer (some ⟨b, 0, none⟩)] 140 (fun i => decide (r ≤ hiAt i)) W (fun _ _ => by kernel_rfl) (by decide)
    (fun m os i hi => by
      have hx := List.getElem?_eq_getElem (l := rowsP) (i := i) (by rw [rows_len]; exact hi)
      have hbw := below_grown_sl W.heap.size W m os (Nat.le_refl _)
      rw [hiAt_of hx]
      exact (cls_any g b r i _ _ hx (hrow.below hbw) (by rw [hbw.cell (p := ⟨b, 0, none⟩) (by show b < W.heap.size; omega)]; exact hc2)).mono fun e w' h => ⟨h.1, by obtain ⟨q, rfl⟩ := h.2; exact ⟨q, #[], (grow_empty _).symm⟩⟩)
    (hi_mono r)
  have hS2 := hS.mono (fun e w' h => (⟨h.1, by obtain ⟨q, os, rfl⟩ := h.2; exact below_grown_sl W.heap.size W q os (Nat.le_refl _)⟩ : e = .returned (.int .i64 (cntR r : Nat)) ∧ Below W.heap.size W w'))
  have HC := Lib.hid (class_cnt r)
  have hk := cnt_le r
  generalize cntR r = k at hS2 HC hk
  have HN2 := Lib.hid (HN.out.symm.trans HC.out)
  clear hS HC HN hz hc1 hb2 hb3
  have HT := Lib.hid hrow
  have HC2 := Lib.hid hc2
  have HB4 := Lib.hid hb4
  have HSz := Lib.hid (And.intro hne hgl)
  clear hrow hc2 hb4 hne hgl hs1
  refine hS2.mono ?_
  rintro e w2 ⟨rfl, hb⟩
  clear hS2
  have hT2 := HT.out.below hb
  have hc3 : w2.cell? ⟨b, 0, none⟩ = some (.int .i32 r) := by rw [hb.cell (p := ⟨b, 0, none⟩) (by have := HSz.out.1; have := HSz.out.2; show b < W.heap.size; omega)]; exact HC2.out
  have hb5 := HB4.out.trans (hb.mono (by have := HSz.out.1; have := HSz.out.2; omega))
  have HB5 := Lib.hid hb5
  clear hb hb5 HT HC2 HB4
  by_cases c : k = 140
  · subst c
    have hn : N = 0 := by have := HN2.out; rwa [List.getElem?_eq_none (by rw [rows_len]; omega)] at this
    have HN3 := Lib.hid hn
    clear hn hT2
    go_wp2_with fail
    go_quiet (fail)
    go_wp2
    go_ret
    exact ⟨by rw [HN3.out]; rfl, by rw [HBE.out]; exact below_drewN HB5.out _⟩
  · have hk2 : k < 140 := by omega
    obtain ⟨x, hx⟩ : ∃ x, rowsP[k]? = some x := ⟨rowsP[k]'(by rw [rows_len]; exact hk2), List.getElem?_eq_getElem _⟩
    have HN3 := HN2.out
    rw [hx] at HN3
    obtain ⟨q1, q2, q3⟩ := hT2.cells hx
    have hxb := List.all_eq_true.1 rows_bounds x (List.mem_of_getElem? hx)
    simp only [decide_eq_true_eq] at hxb
    obtain ⟨b1, b2, b3, b4⟩ := hxb
    obtain ⟨lo, hi', cl⟩ := x
    simp only at q1 q2 q3 b1 b2 b3 b4 HN3
    have i0 : (0 : Int) ≤ (k : Int) := by omega
    have i1 : (k : Int) < 140 := by omega
    have d0 : ((k : Int) == 140) = false := by simp; omega
    clear hT2 hx hk c hk2
    by_cases c : r < lo
    · rw [if_pos c] at HN3
      have HN3 := Lib.hid HN3
      go_wp2_with fail
      go_quiet (fail)
      go_wp2
      go_ret
      exact ⟨by rw [HN3.out]; rfl, by rw [HBE.out]; exact below_drewN HB5.out _⟩
    · rw [if_neg c] at HN3
      have HN3 := Lib.hid HN3
      have d1 : decide (r < lo) = false := by simpa using c
      have C := Lib.hid (fun W => at_any lo hi' cl r W b1 (by omega) hr1)
      clear c
      go_wp2_with fail
      go_quiet (fail)
      rename_i nq _
      have hbq := below_drewN HB5.out nq
      have f0 : (w2.drewN nq).cell? ⟨g, k * 3, none⟩ = some (.int .i32 lo) := q1
      have f1 : (w2.drewN nq).cell? ⟨g, k * 3 + 1, none⟩ = some (.int .i32 hi') := q2
      have f2 : (w2.drewN nq).cell? ⟨g, k * 3 + 2, none⟩ = some (.int .i64 (cl : Int)) := q3
      have f3 : (w2.drewN nq).cell? ⟨b, 0, none⟩ = some (.int .i32 r) := hc3
      generalize w2.drewN nq = W1 at *
      have HBQ := Lib.hid hbq
      have g0 := cell_regrown f0
      have g1 := cell_regrown f1
      have g2 := cell_regrown f2
      have g3 := cell_regrown f3
      have C1 : ∀ d os, Calls Try.prog 25 #[.agg #[.int .i32 lo, .int .i32 hi', .int .i64 (cl : Int)], .int .i32 r] (grow (redrawn W1 d) os) fun e w'' => e = .returned (.int .i64 (atRow (lo, hi', cl) r : Nat)) ∧ ∃ p : Regrown, w'' = grow (redrawn W1 p.d) p.os := fun d os => Calls.regrown_of (C.out _)
      clear f0 f1 f2 f3 q1 q2 q3 hc3 hbq
      generalize atRow (lo, hi', cl) r = V at *
      go_wp2_with fail
      refine wp_region_quiet_below (by kernel_rfl) (by kernel_rfl) ?_
      repeat (go_big_quiet_step (exact C1 _ _))
      refine wpQuiet_nil ?_
      intro _ hw'
      obtain ⟨⟨dq, osq⟩, hw''⟩ := hw'
      subst hw''
      have hbz := HBQ.out.trans ((below_regrown W1 dq osq).mono (by rw [← HBE.out]; exact HBQ.out.size))
      go_wp2
      go_ret
      exact ⟨by rw [HN3.out]; rfl, by rw [HBE.out]; exact hbz⟩
end Go.Proofs.Ytflhdfbpafhjlaa
