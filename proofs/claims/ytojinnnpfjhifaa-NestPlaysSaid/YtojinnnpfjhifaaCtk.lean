/-
  Contract: Nest.Take.
-/
import Derived.BigQuiet
import Derived.Lib.QuietBelow
import Derived.Test.YtojinnnpfjhifaaMix
import Derived.Test.YtojinnnpfjhifaaCta
namespace Go.Proofs.Ytojinnnpfjhifaa
open Go.RowKit Go.Shelf Go.Lib Go.Maps Go.Sort
attribute [local irreducible] nmL ofN

set_option maxRecDepth 100000 in
set_option maxHeartbeats 8000000 in
theorem take_other (kd fr to : Int) (nm : ByteArray) (r : Int) (sg : Bool) (h2 : kd ≠ 2) (h3 : kd ≠ 3) (p : Value) (hp : p = .pointer none ∨ ∃ g, p = .pointer (some ⟨g, 0, none⟩)) (w : World) :
    Calls Try.prog 9 #[p, .agg (tkA kd fr to nm r sg)] w fun e w' => e = .returned (.tuple #[.bool false, .bool false]) ∧ Below w.heap.size w w' := by
  have k2 : (kd != 2) = true := by simpa using h2
  have k3 : (kd != 3) = true := by simpa using h3
  unfold tkA
  obtain ⟨W1, hW1⟩ : ∃ V, w.alloc (.cells #[.int .i64 kd, .int .i64 fr, .int .i64 to, .string nm, .int .i32 r, .bool sg] 33) = V := ⟨_, rfl⟩
  have b1 : Below w.heap.size w W1 := by rw [← hW1]; exact below_new w _
  have o1 : Cells W1 w.heap.size 33 #[.int .i64 kd, .int .i64 fr, .int .i64 to, .string nm, .int .i32 r, .bool sg] := by rw [← hW1]; exact cells_new _ _ _
  have q0 := o1.cell 0
  simp at q0
  have HW := Lib.hid (And.intro hW1 b1)
  clear hW1 b1 o1 h2 h3
  rcases hp with rfl | ⟨g, rfl⟩
  · go_enter Try.func9, Try.ntmps9
    go_wp2_with fail
    rw [HW.out.1]
    go_wp2_with fail
    go_ret2
    exact ⟨rfl, HW.out.2⟩
  · go_enter Try.func9, Try.ntmps9
    go_wp2_with fail
    rw [HW.out.1]
    go_wp2_with fail
    go_ret2
    exact ⟨rfl, HW.out.2⟩
set_option maxRecDepth 100000 in
set_option maxHeartbeats 8000000 in
theorem take_nil (kd fr to : Int) (nm : ByteArray) (r : Int) (sg : Bool) (w : World) :
    Calls Try.prog 9 #[.pointer none, .agg (tkA kd fr to nm r sg)] w fun e w' => e = .returned (.tuple #[.bool false, .bool false]) ∧ Below w.heap.size w w' := by
  unfold tkA
  obtain ⟨W1, hW1⟩ : ∃ V, w.alloc (.cells #[.int .i64 kd, .int .i64 fr, .int .i64 to, .string nm, .int .i32 r, .bool sg] 33) = V := ⟨_, rfl⟩
  have b1 : Below w.heap.size w W1 := by rw [← hW1]; exact below_new w _
  have HW := Lib.hid (And.intro hW1 b1)
  clear hW1 b1
  go_enter Try.func9, Try.ntmps9
  go_wp2_with fail
  rw [HW.out.1]
  go_wp2_with fail
  go_ret2
  exact ⟨rfl, HW.out.2⟩
set_option maxRecDepth 100000 in
set_option maxHeartbeats 8000000 in
theorem take_tag (kd fr to : Int) (nm : ByteArray) (r : Int) (sg : Bool) (hk : kd = 2 ∨ kd = 3) (hl : nm.size ≤ 100) (g : Nat) (c : Ct) (hc : c.ok) (w : World) (h : NeAt w g c) (hM : MX w) :
    Calls Try.prog 9 #[.pointer (some ⟨g, 0, none⟩), .agg (tkA kd fr to nm r sg)] w fun e w' =>
      e = .returned (.tuple #[.bool (decide (c.h = 0) && forcesN (ofN nm.data.toList 7) kd), .bool (decide (kd = 2) && (decide (c.h = 0) && isB (ofN nm.data.toList 7) 6))]) ∧
      NeAt w' g (addN (ofN nm.data.toList 7) (byN (ofN nm.data.toList 7) kd sg) c) ∧ Fz (fun k => k = g) w w' := by
  obtain ⟨W1, hW1⟩ : ∃ V, w.alloc (.cells #[.int .i64 kd, .int .i64 fr, .int .i64 to, .string nm, .int .i32 r, .bool sg] 33) = V := ⟨_, rfl⟩
  have b1 : Below w.heap.size w W1 := by rw [← hW1]; exact below_new w _
  have o1 : Cells W1 w.heap.size 33 #[.int .i64 kd, .int .i64 fr, .int .i64 to, .string nm, .int .i32 r, .bool sg] := by rw [← hW1]; exact cells_new _ _ _
  have h1 : NeAt W1 g c := h.on b1
  have hM1 : MX W1 := hM.on hM.pos b1
  have COF := fun n => of_any nm hl (W1.drewN n) (hM1.on hM1.pos (below_drewN (Below.refl _ _) n))
  have CSH := fun n => shows_any g c (W1.drewN n) (Cells.on h1 (below_drewN (Below.refl _ _) n))
  have hN : ofN nm.data.toList 7 < 128 := ofN_lt _ 7
  obtain ⟨N, hNe⟩ : ∃ N, ofN nm.data.toList 7 = N := ⟨_, rfl⟩
  rw [hNe] at hN ⊢
  simp only [hNe] at COF
  have CST := fun W => step_any N hN kd fr to nm r sg W
  have hby := byN_cases N kd sg
  obtain ⟨by_, hbye⟩ : ∃ b, byN N kd sg = b := ⟨_, rfl⟩
  rw [hbye] at hby ⊢
  simp only [hbye] at CST
  have CAD := fun W (hW : NeAt W g c) => add_any N hN by_ (by omega) g c hc W hW
  have CFO := fun W => forces_any N hN kd W
  have ha64 := and64 N hN
  obtain ⟨H0, hH0⟩ : ∃ d, decide (c.h = 0) = d := ⟨_, rfl⟩
  simp only [hH0] at CSH ⊢
  obtain ⟨FO, hFO⟩ : ∃ d, forcesN N kd = d := ⟨_, rfl⟩
  simp only [hFO] at CFO ⊢
  obtain ⟨C2, hC2⟩ : ∃ d, addN N by_ c = d := ⟨_, rfl⟩
  simp only [hC2] at CAD ⊢
  have q0 := o1.cell 0
  have q1 := o1.cell 1
  have q2 := o1.cell 2
  have q3 := o1.cell 3
  have q4 := o1.cell 4
  have q5 := o1.cell 5
  simp at q0 q1 q2 q3 q4 q5
  unfold tkA at CST ⊢
  have hg : g < w.heap.size := Cells.lt h
  have HW := Lib.hid (And.intro hW1 (And.intro b1 (And.intro h1 (And.intro o1 hg))))
  clear hW1 b1 o1 h1 h hM hM1 hNe hbye hby hH0 hFO hC2 hc hg
  have k23 : (kd == 2) = decide (kd = 2) := by
    by_cases q : kd = 2
    · subst q; rfl
    · rw [decide_eq_false q]; simpa using q
  have CU : ∀ d os, Calls Try.prog 17 #[.agg #[.int .i64 kd, .int .i64 fr, .int .i64 to, .string nm, .int .i32 r, .bool sg], .int .i64 (N : Int)] (grow (redrawn W1 d) os) fun e w'' => e = .returned (.int .i64 by_) ∧ ∃ p : Regrown, w'' = grow (redrawn W1 p.d) p.os :=
    fun d os => Calls.regrown_of (CST _)
  have G0 : ∀ d os, (grow (redrawn W1 d) os).cell? ⟨w.heap.size, 0, none⟩ = some (.int .i64 kd) := fun d os => cell_regrown q0 d os
  have G1 : ∀ d os, (grow (redrawn W1 d) os).cell? ⟨w.heap.size, 1, none⟩ = some (.int .i64 fr) := fun d os => cell_regrown q1 d os
  have G2 : ∀ d os, (grow (redrawn W1 d) os).cell? ⟨w.heap.size, 2, none⟩ = some (.int .i64 to) := fun d os => cell_regrown q2 d os
  have G3 : ∀ d os, (grow (redrawn W1 d) os).cell? ⟨w.heap.size, 3, none⟩ = some (.string nm) := fun d os => cell_regrown q3 d os
  have G4 : ∀ d os, (grow (redrawn W1 d) os).cell? ⟨w.heap.size, 4, none⟩ = some (.int .i32 r) := fun d os => cell_regrown q4 d os
  have G5 : ∀ d os, (grow (redrawn W1 d) os).cell? ⟨w.heap.size, 5, none⟩ = some (.bool sg) := fun d os => cell_regrown q5 d os
  have HU := Lib.hid CU
  clear CU CST
  rcases hk with rfl | rfl
  · have kk : ((2 : Int) = 2) = True := by simp
    simp only [kk, decide_true, decide_false, Bool.true_and, Bool.false_and]
    clear kk k23
    go_enter Try.func9, Try.ntmps9
    go_wp2_with fail
    rw [HW.out.1]
    go_wp2_with go_quiet (first | exact Calls.quiet_of_same (COF _) | exact Calls.quiet_of_same (CSH _))
    refine wp_region_mix (fun i => if i = 6 then 1 else if i = 7 then 3 else 0) [0, 1, 2, 3, 4, 5, 6] [7] (fun w' => ∃ p : Regrown, w' = grow (redrawn W1 p.d) p.os) (by kernel_rfl) (by kernel_rfl) ⟨⟨_, #[]⟩, by rw [grow_empty]; rfl⟩ ?_
    simp only [opsAt, List.filterMap_cons, List.filterMap_nil, List.getElem?_toArray, List.getElem?_cons_zero, List.getElem?_cons_succ]
    change wpQuiet _ _ _ _ [_, _, _, _, _, _, _] _
    repeat (go_big_quiet_step (exact HU.out _ _))
    refine wpQuiet_nil ?_
    intro _ hw'
    obtain ⟨⟨dq, osq⟩, hw''⟩ := hw'
    subst hw''
    have b2 := below_regrown W1 dq osq
    have n2 : NeAt (grow (redrawn W1 dq) osq) g c := Cells.on HW.out.2.2.1 b2
    have x2 : Cells (grow (redrawn W1 dq) osq) w.heap.size 33 #[.int .i64 2, .int .i64 fr, .int .i64 to, .string nm, .int .i32 r, .bool sg] := HW.out.2.2.2.1.on b2
    have b12 : Below w.heap.size w (grow (redrawn W1 dq) osq) := HW.out.2.1.trans (b2.mono HW.out.2.1.size)
    clear G0 G1 G2 G3 G4 G5 COF CSH
    have CA := CAD _ n2
    have HX := Lib.hid (And.intro b12 x2)
    clear b2 n2 x2 b12 CAD
    generalize grow (redrawn W1 dq) osq = w2 at *
    clear q0 q1 q2 q3 q4 q5
    refine wpSeqM_step rfl ?_
    go_wp2_with fail
    refine CA.mono ?_
    rintro e w3 ⟨rfl, hn3, hf3⟩
    have hg := HW.out.2.2.2.2
    have x3 : Cells w3 w.heap.size 33 #[.int .i64 2, .int .i64 fr, .int .i64 to, .string nm, .int .i32 r, .bool sg] := (hf3.block _ HX.out.2.lt (by omega)).trans HX.out.2
    have y0 : w3.cell? ⟨w.heap.size, 0, none⟩ = some (.int .i64 2) := x3.cell 0
    have hz : NeAt w3 g C2 ∧ Fz (fun k => k = g) w w3 := ⟨hn3, (Fz.of_below HX.out.1).trans hf3⟩
    have HZ := Lib.hid hz
    clear CA hn3 hf3 hg x3 hz
    go_wp2_with fail
    unfold wpSeqM
    have CF := fun n => CFO (w3.drewN n)
    clear CFO
    cases H0
    · go_wp2_with fail
      go_ret2
      exact ⟨by simp, HZ.out⟩
    · cases h6 : isB N 6
      all_goals
        rw [h6] at ha64
        simp only [Bool.false_eq_true, if_false, if_true] at ha64
        go_wp2_with go_quiet (exact Calls.quiet_of_same (CF _))
        go_ret2
        exact ⟨by simp [h6], HZ.out.1, HZ.out.2.trans ⟨rfl, rfl, rfl, Nat.le_refl _, fun _ _ _ => rfl⟩⟩
  · have kk : ((3 : Int) = 2) = False := by simp
    simp only [kk, decide_true, decide_false, Bool.true_and, Bool.false_and]
    clear kk k23
    go_enter Try.func9, Try.ntmps9
    go_wp2_with fail
    rw [HW.out.1]
    go_wp2_with go_quiet (first | exact Calls.quiet_of_same (COF _) | exact Calls.quiet_of_same (CSH _))
    refine wp_region_mix (fun i => if i = 6 then 1 else if i = 7 then 3 else 0) [0, 1, 2, 3, 4, 5, 6] [7] (fun w' => ∃ p : Regrown, w' = grow (redrawn W1 p.d) p.os) (by kernel_rfl) (by kernel_rfl) ⟨⟨_, #[]⟩, by rw [grow_empty]; rfl⟩ ?_
    simp only [opsAt, List.filterMap_cons, List.filterMap_nil, List.getElem?_toArray, List.getElem?_cons_zero, List.getElem?_cons_succ]
    change wpQuiet _ _ _ _ [_, _, _, _, _, _, _] _
    repeat (go_big_quiet_step (exact HU.out _ _))
    refine wpQuiet_nil ?_
    intro _ hw'
    obtain ⟨⟨dq, osq⟩, hw''⟩ := hw'
    subst hw''
    have b2 := below_regrown W1 dq osq
    have n2 : NeAt (grow (redrawn W1 dq) osq) g c := Cells.on HW.out.2.2.1 b2
    have x2 : Cells (grow (redrawn W1 dq) osq) w.heap.size 33 #[.int .i64 3, .int .i64 fr, .int .i64 to, .string nm, .int .i32 r, .bool sg] := HW.out.2.2.2.1.on b2
    have b12 : Below w.heap.size w (grow (redrawn W1 dq) osq) := HW.out.2.1.trans (b2.mono HW.out.2.1.size)
    clear G0 G1 G2 G3 G4 G5 COF CSH
    have CA := CAD _ n2
    have HX := Lib.hid (And.intro b12 x2)
    clear b2 n2 x2 b12 CAD
    generalize grow (redrawn W1 dq) osq = w2 at *
    clear q0 q1 q2 q3 q4 q5
    refine wpSeqM_step rfl ?_
    go_wp2_with fail
    refine CA.mono ?_
    rintro e w3 ⟨rfl, hn3, hf3⟩
    have hg := HW.out.2.2.2.2
    have x3 : Cells w3 w.heap.size 33 #[.int .i64 3, .int .i64 fr, .int .i64 to, .string nm, .int .i32 r, .bool sg] := (hf3.block _ HX.out.2.lt (by omega)).trans HX.out.2
    have y0 : w3.cell? ⟨w.heap.size, 0, none⟩ = some (.int .i64 3) := x3.cell 0
    have hz : NeAt w3 g C2 ∧ Fz (fun k => k = g) w w3 := ⟨hn3, (Fz.of_below HX.out.1).trans hf3⟩
    have HZ := Lib.hid hz
    clear CA hn3 hf3 hg x3 hz
    go_wp2_with fail
    unfold wpSeqM
    have CF := fun n => CFO (w3.drewN n)
    clear CFO
    cases H0
    · go_wp2_with fail
      go_ret2
      exact ⟨by simp, HZ.out⟩
    · cases h6 : isB N 6
      all_goals
        rw [h6] at ha64
        simp only [Bool.false_eq_true, if_false, if_true] at ha64
        go_wp2_with go_quiet (exact Calls.quiet_of_same (CF _))
        go_ret2
        exact ⟨by simp [h6], HZ.out.1, HZ.out.2.trans ⟨rfl, rfl, rfl, Nat.le_refl _, fun _ _ _ => rfl⟩⟩
end Go.Proofs.Ytojinnnpfjhifaa
