/-
  Contract of the document: N.Take, of end tags.
-/
import Derived.Deep.CutRange
import Derived.Test.YtojinnnpfjhifaaRtk
namespace Go.Proofs.Ytojinnnpfjhifaa
open Go.RowKit Go.Shelf Go.Lib Go.Maps
attribute [local irreducible] nmL ofN
set_option maxRecDepth 100000 in
set_option maxHeartbeats 8000000 in
theorem refTake_Rtn (sg : Bool) (nm : ByteArray) (ch cp cn : Nat) (hh : ch ≤ 255) (hp : cp ≤ 255) (hn : cn ≤ 255) (N : Nat) (b0 b1 b2 b3 b4 b5 b6 h0 : Bool)
    (t0 : ((N : Int) % 2 == 1) = b0) (t1 : ((N : Int) / 2 % 2 == 1) = b1) (t2 : ((N : Int) / 4 % 2 == 1) = b2) (t3 : ((N : Int) / 8 % 2 == 1) = b3) (t4 : ((N : Int) / 16 % 2 == 1) = b4)
    (t5 : ((N : Int) / 32 % 2 == 1) = b5) (t6 : ((N : Int) / 64 % 2 == 1) = b6) (e0 : ((ch : Int) == 0) = h0) (hN : N < 128) (by_ : Int) (hby : by_ = if b1 then 0 else if true then -1 else if sg then 0 else 1)
    (w : World) (CO : ∀ W, Calls Try.prog 19 #[.string nm] W fun e W' => e = .returned (.int .i64 (N : Int)) ∧ Below W.heap.size W W') :
    Calls Try.prog 10 #[.agg #[.int .i64 (ch : Int), .int .i64 (cp : Int), .int .i64 (cn : Int)], .bool true, .bool sg, .string nm] w fun e w' =>
      e = .returned (.tuple #[.agg #[.int .i64 ((if b2 then clampN ch by_ else ch : Nat) : Int), .int .i64 ((if h0 && b3 then clampN cp by_ else cp : Nat) : Int), .int .i64 ((if h0 && b4 then clampN cn by_ else cn : Nat) : Int)],
        .bool (h0 && (if true then b0 && !b1 else b0 || b5)), .bool (!true && (h0 && b6))]) ∧ Below w.heap.size w w' := by
  have hbyc : by_ = 0 ∨ by_ = 1 ∨ by_ = -1 := by subst hby; (repeat' split) <;> simp
  have CT := fun W => turn_any ch hh b2 by_ hbyc W
  have CT2 := fun W => turn_any cp hp b3 by_ hbyc W
  have CT3 := fun W => turn_any cn hn b4 by_ hbyc W
  obtain ⟨R0, hR0⟩ : ∃ R, (if b2 then clampN ch by_ else ch) = R := ⟨_, rfl⟩
  obtain ⟨R1, hR1⟩ : ∃ R, (if b3 then clampN cp by_ else cp) = R := ⟨_, rfl⟩
  obtain ⟨R2, hR2⟩ : ∃ R, (if b4 then clampN cn by_ else cn) = R := ⟨_, rfl⟩
  have hS1 : (if h0 && b3 then clampN cp by_ else cp) = if h0 then R1 else cp := by rw [← hR1]; cases h0 <;> simp
  have hS2 : (if h0 && b4 then clampN cn by_ else cn) = if h0 then R2 else cn := by rw [← hR2]; cases h0 <;> simp
  rw [hR0, hS1, hS2]
  simp only [hR0] at CT
  simp only [hR1] at CT2
  simp only [hR2] at CT3
  clear hR0 hR1 hR2 hS1 hS2
  obtain ⟨W1, hW1⟩ : ∃ V, w.alloc (.cells #[.int .i64 (ch : Int), .int .i64 (cp : Int), .int .i64 (cn : Int)] 27) = V := ⟨_, rfl⟩
  have p1 : Below w.heap.size w W1 := by rw [← hW1]; exact below_new w _
  have o1 : Cells W1 w.heap.size 27 #[.int .i64 (ch : Int), .int .i64 (cp : Int), .int .i64 (cn : Int)] := by rw [← hW1]; exact cells_new _ _ _
  have s1 : W1.heap.size = w.heap.size + 1 := by rw [← hW1]; simp
  obtain ⟨W2, hW2⟩ : ∃ V, W1.alloc (.cells #[.int .i64 0, .int .i64 0, .int .i64 0] 27) = V := ⟨_, rfl⟩
  have p2 : Below W1.heap.size W1 W2 := by rw [← hW2]; exact below_new W1 _
  have o2 : Cells W2 (w.heap.size + 1) 27 #[.int .i64 0, .int .i64 0, .int .i64 0] := by rw [← s1, ← hW2]; exact cells_new _ _ _
  have s2 : W2.heap.size = w.heap.size + 2 := by rw [← hW2]; simp [s1]
  have HW := Lib.hid (And.intro hW1 (And.intro hW2 (And.intro (p1.trans (p2.mono p1.size)) (And.intro (o1.on p2) (And.intro o2 s2)))))
  have HT := Lib.hid (And.intro CT (And.intro CT2 CT3))
  have HB := Lib.hid hby
  clear hW1 hW2 p1 p2 o1 o2 s1 s2 CT CT2 CT3 hh hp hn hbyc hby
  go_enter Try.func10, Try.ntmps10
  go_wp2_with fail
  rw [HW.out.1, HW.out.2.1]
  refine (CO _).mono ?_
  rintro e w3 ⟨rfl, hb⟩
  have hb3 := HW.out.2.2.1.trans (hb.mono HW.out.2.2.1.size)
  have x1 := HW.out.2.2.2.1.on hb
  have x2 := HW.out.2.2.2.2.1.on hb
  have q0 := x1.cell 0
  have q1 := x1.cell 1
  have q2 := x1.cell 2
  simp at q0 q1 q2
  have H3 := Lib.hid (And.intro hb3 (And.intro x1 x2))
  clear hb hb3 x1 x2 CO
  go_upto_region 4 with fail
  go_cut [15] from 31 to 40 (fun f wx => f = .bool (h0 && (b0 || b5)) ∧ wx = w3)
  case first =>
    cases h0 <;> cases b0
    all_goals
      go_wp2_with fail
      go_meet
      exact ⟨rfl, rfl⟩
  case rest =>
    obtain ⟨rfl, hwc⟩ := hcut
    obtain rfl := hwc.symm
    clear hwc
    go_upto_region 5 with fail
    go_cut [16] from 41 to 47 (fun f wx => f = .bool (h0 && b6) ∧ wx = w3)
    case first =>
      cases h0
      all_goals
        go_wp2_with fail
        go_meet
        exact ⟨rfl, rfl⟩
    case rest =>
      obtain ⟨rfl, hwc⟩ := hcut
      obtain rfl := hwc.symm
      clear hwc
      cases hb1 : b1
      all_goals have hby' := HB.out
      all_goals simp only [hb1, Bool.false_eq_true, if_false, if_true] at hby'
      · cases sg
        · subst hby'
          go_upto_region 8 with fail
          go_cut [15, 16] from 49 to 56 (fun f x wx => f = .bool (h0 && b0) ∧ x = .bool false ∧ wx = w3)
          case first =>
            cases h0 <;> cases b0
            all_goals
              go_wp2_with fail
              go_meet
              exact ⟨rfl, rfl, rfl⟩
          case rest =>
            obtain ⟨rfl, rfl, hwc⟩ := hcut
            obtain rfl := hwc.symm
            clear hwc
            go_upto_region 12 with fail
            have H03 := H3.out.2.2.lt
            go_cut [18] from 65 to 77 (fun v wx => ∃ G, v = .pointer (some ⟨G, 0, none⟩) ∧ R12 w ch cp cn R0 G wx)
            case first =>
              have g0 : ∀ p : Later (fun _ => False) w3, p.W.cell? ⟨w.heap.size, 0, none⟩ = some (.int .i64 (ch : Int)) := fun p => cell_later q0 (fun hf => hf) p
              have g1 : ∀ p : Later (fun _ => False) w3, p.W.cell? ⟨w.heap.size, 1, none⟩ = some (.int .i64 (cp : Int)) := fun p => cell_later q1 (fun hf => hf) p
              have g2 : ∀ p : Later (fun _ => False) w3, p.W.cell? ⟨w.heap.size, 2, none⟩ = some (.int .i64 (cn : Int)) := fun p => cell_later q2 (fun hf => hf) p
              clear q0 q1 q2
              refine wp_region_mixF (fun i => if i = 7 then 2 else if 12 ≤ i then 2 else 0) [0, 1, 2, 3, 4, 5, 6, 8, 9, 10, 11] 4 (fun w' => ∃ p : Later (fun _ => False) w3, w' = p.W) (by kernel_rfl) (by kernel_rfl) ⟨⟨_, Fz.drew w3⟩, rfl⟩ ?_
              simp only [opsAt, List.filterMap_cons, List.filterMap_nil, List.getElem?_toArray, List.getElem?_cons_zero, List.getElem?_cons_succ]
              change wpQuiet _ _ _ _ [_, _, _, _, _, _, _, _, _, _, _] _
              repeat (go_big_quiet_step (fail))
              refine wpQuiet_nil ?_
              clear g0 g1 g2
              have zz : Fz (fun _ => False) w3 { w3 with drawn := w3.drawn + 1 } := Fz.drew w3
              obtain ⟨W4, hW4⟩ : ∃ V, ({ w3 with drawn := w3.drawn + 1 } : World) = V := ⟨_, rfl⟩
              rw [hW4] at zz ⊢
              clear hW4
              have bz := zz.below (Nat.le_refl _) (fun _ _ hf => hf)
              have H4 := Lib.hid (And.intro zz (And.intro (H3.out.1.trans (bz.mono H3.out.1.size)) (And.intro (H3.out.2.1.on bz) (H3.out.2.2.on bz))))
              clear zz bz
              refine wpFreeM_step [7, 13] (by kernel_rfl) ⟨?_, ?_, trivial⟩
              · refine wpOp_of_list rfl ?_
                go_wp2_with fail
                refine (HT.out.1 _).mono ?_
                rintro e W9 ⟨rfl, hw9⟩
                obtain rfl := hw9.symm
                clear hw9
                go_wp2_with fail
                refine ⟨⟨⟨_, H4.out.1⟩, rfl⟩, ?_⟩
                refine wpFreeM_step [12, 13] (by kernel_rfl) ⟨?_, ?_, trivial⟩
                · refine wpOp_of_list rfl ?_
                  go_wp2_with fail
                  refine ⟨⟨⟨_, H4.out.1⟩, rfl⟩, ?_⟩
                  refine wpFreeM_step [13] (by kernel_rfl) ⟨?_, trivial⟩
                  refine wpOp_of_list rfl ?_
                  go_wp2_with fail
                  have x6 : Cells (W4.alloc (.cells #[.int .i64 0, .int .i64 0, .int .i64 0] 27)) W4.heap.size 27 #[.int .i64 0, .int .i64 0, .int .i64 0] := cells_new _ _ _
                  have b6 := below_new W4 (.cells #[.int .i64 0, .int .i64 0, .int .i64 0] 27)
                  obtain ⟨W5, hW5⟩ : ∃ V, W4.alloc (.cells #[.int .i64 0, .int .i64 0, .int .i64 0] 27) = V := ⟨_, rfl⟩
                  rw [hW5] at x6 b6 ⊢
                  clear hW5
                  have hzG := H4.out.1.trans (Fz.of_below b6)
                  have hws : w.heap.size + 1 < W4.heap.size := by have := H4.out.2.2.2.lt; omega
                  have H5 := Lib.hid (And.intro hzG (And.intro (H4.out.2.1.trans (b6.mono H4.out.2.1.size)) (And.intro (H4.out.2.2.1.on b6) (And.intro (H4.out.2.2.2.on b6) (And.intro x6 hws)))))
                  have f0 := x6.froz 0
                  have f1 := x6.froz 1
                  have f2 := x6.froz 2
                  have y0 : W5.cell? ⟨W4.heap.size, 0, none⟩ = some (.int .i64 0) := x6.cell 0
                  have y1 : W5.cell? ⟨W4.heap.size, 1, none⟩ = some (.int .i64 0) := x6.cell 1
                  have y2 : W5.cell? ⟨W4.heap.size, 2, none⟩ = some (.int .i64 0) := x6.cell 2
                  clear x6 b6 hzG hws
                  refine ⟨⟨⟨_, H5.out.1⟩, rfl⟩, ?_⟩
                  refine wpFreeM_step [14] (by kernel_rfl) ⟨?_, trivial⟩
                  refine wpOp_of_list rfl ?_
                  go_wp2_with fail
                  have z7 := ((H5.out.2.2.2.2.1.set 0 (.int .i64 (R0 : Int))).set 1 (.int .i64 (cp : Int))).set 2 (.int .i64 (cn : Int))
                  have hge : w.heap.size ≤ W4.heap.size := by have := H5.out.2.2.2.2.2; omega
                  have b7 := (((H5.out.2.1.setc hge 0 (.int .i64 (R0 : Int))).setc hge 1 (.int .i64 (cp : Int))).setc hge 2 (.int .i64 (cn : Int)))
                  have k7 : Fz (fun k => k = W4.heap.size) W5 (((W5.setCell ⟨W4.heap.size, 0, none⟩ (.int .i64 (R0 : Int))).setCell ⟨W4.heap.size, 1, none⟩ (.int .i64 (cp : Int))).setCell ⟨W4.heap.size, 2, none⟩ (.int .i64 (cn : Int))) := ((Fz.set (X := fun k => k = W4.heap.size) W5 W4.heap.size 0 (.int .i64 (R0 : Int)) rfl).trans (Fz.set (X := fun k => k = W4.heap.size) _ W4.heap.size 1 (.int .i64 (cp : Int)) rfl)).trans (Fz.set (X := fun k => k = W4.heap.size) _ W4.heap.size 2 (.int .i64 (cn : Int)) rfl)
                  have l7 : w3.heap.size ≤ W4.heap.size := H4.out.1.size
                  have c7 : Fz (fun _ => False) w3 (((W5.setCell ⟨W4.heap.size, 0, none⟩ (.int .i64 (R0 : Int))).setCell ⟨W4.heap.size, 1, none⟩ (.int .i64 (cp : Int))).setCell ⟨W4.heap.size, 2, none⟩ (.int .i64 (cn : Int))) := ⟨k7.os.trans H5.out.1.os, k7.tape.trans H5.out.1.tape, k7.output.trans H5.out.1.output, Nat.le_trans H5.out.1.size k7.size, fun k hk hn => (k7.block k (Nat.lt_of_lt_of_le hk H5.out.1.size) (by omega)).trans (H5.out.1.block k hk hn)⟩
                  have n1 := H5.out.2.2.2.2.2
                  have H7 : R12 w ch cp cn R0 W4.heap.size (((W5.setCell ⟨W4.heap.size, 0, none⟩ (.int .i64 (R0 : Int))).setCell ⟨W4.heap.size, 1, none⟩ (.int .i64 (cp : Int))).setCell ⟨W4.heap.size, 2, none⟩ (.int .i64 (cn : Int))) := ⟨b7, k7.cells (by omega) H5.out.2.2.1, k7.cells (by omega) H5.out.2.2.2.1, z7, n1⟩
                  have H7 := Lib.hid (And.intro H7 c7)
                  clear z7 hge b7 k7 l7 c7 n1 f0 f1 f2 y0 y1 y2
                  refine ⟨⟨⟨_, H7.out.2⟩, rfl⟩, ?_⟩
                  unfold wpFreeM
                  go_wp2_with fail
                  go_meet
                  exact ⟨W4.heap.size, rfl, H7.out.1⟩
                · refine wpOp_of_list rfl ?_
                  go_wp2_with fail
                  have x6 : Cells (W4.alloc (.cells #[.int .i64 0, .int .i64 0, .int .i64 0] 27)) W4.heap.size 27 #[.int .i64 0, .int .i64 0, .int .i64 0] := cells_new _ _ _
                  have b6 := below_new W4 (.cells #[.int .i64 0, .int .i64 0, .int .i64 0] 27)
                  obtain ⟨W5, hW5⟩ : ∃ V, W4.alloc (.cells #[.int .i64 0, .int .i64 0, .int .i64 0] 27) = V := ⟨_, rfl⟩
                  rw [hW5] at x6 b6 ⊢
                  clear hW5
                  have hzG := H4.out.1.trans (Fz.of_below b6)
                  have hws : w.heap.size + 1 < W4.heap.size := by have := H4.out.2.2.2.lt; omega
                  have H5 := Lib.hid (And.intro hzG (And.intro (H4.out.2.1.trans (b6.mono H4.out.2.1.size)) (And.intro (H4.out.2.2.1.on b6) (And.intro (H4.out.2.2.2.on b6) (And.intro x6 hws)))))
                  have f0 := x6.froz 0
                  have f1 := x6.froz 1
                  have f2 := x6.froz 2
                  have y0 : W5.cell? ⟨W4.heap.size, 0, none⟩ = some (.int .i64 0) := x6.cell 0
                  have y1 : W5.cell? ⟨W4.heap.size, 1, none⟩ = some (.int .i64 0) := x6.cell 1
                  have y2 : W5.cell? ⟨W4.heap.size, 2, none⟩ = some (.int .i64 0) := x6.cell 2
                  clear x6 b6 hzG hws
                  refine ⟨⟨⟨_, H5.out.1⟩, rfl⟩, ?_⟩
                  refine wpFreeM_step [12] (by kernel_rfl) ⟨?_, trivial⟩
                  refine wpOp_of_list rfl ?_
                  go_wp2_with fail
                  refine ⟨⟨⟨_, H5.out.1⟩, rfl⟩, ?_⟩
                  refine wpFreeM_step [14] (by kernel_rfl) ⟨?_, trivial⟩
                  refine wpOp_of_list rfl ?_
                  go_wp2_with fail
                  have z7 := ((H5.out.2.2.2.2.1.set 0 (.int .i64 (R0 : Int))).set 1 (.int .i64 (cp : Int))).set 2 (.int .i64 (cn : Int))
                  have hge : w.heap.size ≤ W4.heap.size := by have := H5.out.2.2.2.2.2; omega
                  have b7 := (((H5.out.2.1.setc hge 0 (.int .i64 (R0 : Int))).setc hge 1 (.int .i64 (cp : Int))).setc hge 2 (.int .i64 (cn : Int)))
                  have k7 : Fz (fun k => k = W4.heap.size) W5 (((W5.setCell ⟨W4.heap.size, 0, none⟩ (.int .i64 (R0 : Int))).setCell ⟨W4.heap.size, 1, none⟩ (.int .i64 (cp : Int))).setCell ⟨W4.heap.size, 2, none⟩ (.int .i64 (cn : Int))) := ((Fz.set (X := fun k => k = W4.heap.size) W5 W4.heap.size 0 (.int .i64 (R0 : Int)) rfl).trans (Fz.set (X := fun k => k = W4.heap.size) _ W4.heap.size 1 (.int .i64 (cp : Int)) rfl)).trans (Fz.set (X := fun k => k = W4.heap.size) _ W4.heap.size 2 (.int .i64 (cn : Int)) rfl)
                  have l7 : w3.heap.size ≤ W4.heap.size := H4.out.1.size
                  have c7 : Fz (fun _ => False) w3 (((W5.setCell ⟨W4.heap.size, 0, none⟩ (.int .i64 (R0 : Int))).setCell ⟨W4.heap.size, 1, none⟩ (.int .i64 (cp : Int))).setCell ⟨W4.heap.size, 2, none⟩ (.int .i64 (cn : Int))) := ⟨k7.os.trans H5.out.1.os, k7.tape.trans H5.out.1.tape, k7.output.trans H5.out.1.output, Nat.le_trans H5.out.1.size k7.size, fun k hk hn => (k7.block k (Nat.lt_of_lt_of_le hk H5.out.1.size) (by omega)).trans (H5.out.1.block k hk hn)⟩
                  have n1 := H5.out.2.2.2.2.2
                  have H7 : R12 w ch cp cn R0 W4.heap.size (((W5.setCell ⟨W4.heap.size, 0, none⟩ (.int .i64 (R0 : Int))).setCell ⟨W4.heap.size, 1, none⟩ (.int .i64 (cp : Int))).setCell ⟨W4.heap.size, 2, none⟩ (.int .i64 (cn : Int))) := ⟨b7, k7.cells (by omega) H5.out.2.2.1, k7.cells (by omega) H5.out.2.2.2.1, z7, n1⟩
                  have H7 := Lib.hid (And.intro H7 c7)
                  clear z7 hge b7 k7 l7 c7 n1 f0 f1 f2 y0 y1 y2
                  refine ⟨⟨⟨_, H7.out.2⟩, rfl⟩, ?_⟩
                  unfold wpFreeM
                  go_wp2_with fail
                  go_meet
                  exact ⟨W4.heap.size, rfl, H7.out.1⟩
              · refine wpOp_of_list rfl ?_
                go_wp2_with fail
                have x6 : Cells (W4.alloc (.cells #[.int .i64 0, .int .i64 0, .int .i64 0] 27)) W4.heap.size 27 #[.int .i64 0, .int .i64 0, .int .i64 0] := cells_new _ _ _
                have b6 := below_new W4 (.cells #[.int .i64 0, .int .i64 0, .int .i64 0] 27)
                obtain ⟨W5, hW5⟩ : ∃ V, W4.alloc (.cells #[.int .i64 0, .int .i64 0, .int .i64 0] 27) = V := ⟨_, rfl⟩
                rw [hW5] at x6 b6 ⊢
                clear hW5
                have hzG := H4.out.1.trans (Fz.of_below b6)
                have hws : w.heap.size + 1 < W4.heap.size := by have := H4.out.2.2.2.lt; omega
                have H5 := Lib.hid (And.intro hzG (And.intro (H4.out.2.1.trans (b6.mono H4.out.2.1.size)) (And.intro (H4.out.2.2.1.on b6) (And.intro (H4.out.2.2.2.on b6) (And.intro x6 hws)))))
                have f0 := x6.froz 0
                have f1 := x6.froz 1
                have f2 := x6.froz 2
                have y0 : W5.cell? ⟨W4.heap.size, 0, none⟩ = some (.int .i64 0) := x6.cell 0
                have y1 : W5.cell? ⟨W4.heap.size, 1, none⟩ = some (.int .i64 0) := x6.cell 1
                have y2 : W5.cell? ⟨W4.heap.size, 2, none⟩ = some (.int .i64 0) := x6.cell 2
                clear x6 b6 hzG hws
                refine ⟨⟨⟨_, H5.out.1⟩, rfl⟩, ?_⟩
                refine wpFreeM_step [7] (by kernel_rfl) ⟨?_, trivial⟩
                refine wpOp_of_list rfl ?_
                go_wp2_with fail
                refine (HT.out.1 _).mono ?_
                rintro e W9 ⟨rfl, hw9⟩
                obtain rfl := hw9.symm
                clear hw9
                go_wp2_with fail
                refine ⟨⟨⟨_, H5.out.1⟩, rfl⟩, ?_⟩
                refine wpFreeM_step [12] (by kernel_rfl) ⟨?_, trivial⟩
                refine wpOp_of_list rfl ?_
                go_wp2_with fail
                refine ⟨⟨⟨_, H5.out.1⟩, rfl⟩, ?_⟩
                refine wpFreeM_step [14] (by kernel_rfl) ⟨?_, trivial⟩
                refine wpOp_of_list rfl ?_
                go_wp2_with fail
                have z7 := ((H5.out.2.2.2.2.1.set 0 (.int .i64 (R0 : Int))).set 1 (.int .i64 (cp : Int))).set 2 (.int .i64 (cn : Int))
                have hge : w.heap.size ≤ W4.heap.size := by have := H5.out.2.2.2.2.2; omega
                have b7 := (((H5.out.2.1.setc hge 0 (.int .i64 (R0 : Int))).setc hge 1 (.int .i64 (cp : Int))).setc hge 2 (.int .i64 (cn : Int)))
                have k7 : Fz (fun k => k = W4.heap.size) W5 (((W5.setCell ⟨W4.heap.size, 0, none⟩ (.int .i64 (R0 : Int))).setCell ⟨W4.heap.size, 1, none⟩ (.int .i64 (cp : Int))).setCell ⟨W4.heap.size, 2, none⟩ (.int .i64 (cn : Int))) := ((Fz.set (X := fun k => k = W4.heap.size) W5 W4.heap.size 0 (.int .i64 (R0 : Int)) rfl).trans (Fz.set (X := fun k => k = W4.heap.size) _ W4.heap.size 1 (.int .i64 (cp : Int)) rfl)).trans (Fz.set (X := fun k => k = W4.heap.size) _ W4.heap.size 2 (.int .i64 (cn : Int)) rfl)
                have l7 : w3.heap.size ≤ W4.heap.size := H4.out.1.size
                have c7 : Fz (fun _ => False) w3 (((W5.setCell ⟨W4.heap.size, 0, none⟩ (.int .i64 (R0 : Int))).setCell ⟨W4.heap.size, 1, none⟩ (.int .i64 (cp : Int))).setCell ⟨W4.heap.size, 2, none⟩ (.int .i64 (cn : Int))) := ⟨k7.os.trans H5.out.1.os, k7.tape.trans H5.out.1.tape, k7.output.trans H5.out.1.output, Nat.le_trans H5.out.1.size k7.size, fun k hk hn => (k7.block k (Nat.lt_of_lt_of_le hk H5.out.1.size) (by omega)).trans (H5.out.1.block k hk hn)⟩
                have n1 := H5.out.2.2.2.2.2
                have H7 : R12 w ch cp cn R0 W4.heap.size (((W5.setCell ⟨W4.heap.size, 0, none⟩ (.int .i64 (R0 : Int))).setCell ⟨W4.heap.size, 1, none⟩ (.int .i64 (cp : Int))).setCell ⟨W4.heap.size, 2, none⟩ (.int .i64 (cn : Int))) := ⟨b7, k7.cells (by omega) H5.out.2.2.1, k7.cells (by omega) H5.out.2.2.2.1, z7, n1⟩
                have H7 := Lib.hid (And.intro H7 c7)
                clear z7 hge b7 k7 l7 c7 n1 f0 f1 f2 y0 y1 y2
                refine ⟨⟨⟨_, H7.out.2⟩, rfl⟩, ?_⟩
                unfold wpFreeM
                go_wp2_with fail
                go_meet
                exact ⟨W4.heap.size, rfl, H7.out.1⟩
            case rest =>
              obtain ⟨G, rfl, h7⟩ := hcut
              have y0 : wc.cell? ⟨G, 0, none⟩ = some (.int .i64 (R0 : Int)) := h7.y.cell 0
              have y1 : wc.cell? ⟨G, 1, none⟩ = some (.int .i64 (cp : Int)) := h7.y.cell 1
              have y2 : wc.cell? ⟨G, 2, none⟩ = some (.int .i64 (cn : Int)) := h7.y.cell 2
              have f1 := h7.y.froz 1
              have f2 := h7.y.froz 2
              have v0 : wc.cell? ⟨w.heap.size, 0, none⟩ = some (.int .i64 (ch : Int)) := h7.x.cell 0
              have v1 : wc.cell? ⟨w.heap.size, 1, none⟩ = some (.int .i64 (cp : Int)) := h7.x.cell 1
              have v2 : wc.cell? ⟨w.heap.size, 2, none⟩ = some (.int .i64 (cn : Int)) := h7.x.cell 2
              have l0 := h7.r.froz 0
              have l1 := h7.r.froz 1
              have l2 := h7.r.froz 2
              have m0 : wc.cell? ⟨w.heap.size + 1, 0, none⟩ = some (.int .i64 0) := h7.r.cell 0
              have m1 : wc.cell? ⟨w.heap.size + 1, 1, none⟩ = some (.int .i64 0) := h7.r.cell 1
              have m2 : wc.cell? ⟨w.heap.size + 1, 2, none⟩ = some (.int .i64 0) := h7.r.cell 2
              have hg := h7.g
              have C8 := HT.out.2.1
              have C9 := HT.out.2.2
              have H7 := Lib.hid h7
              clear h7 q0 q1 q2
              cases h0
              · go_wp2_with fail
                have z8 := ((H7.out.r.set 0 (.int .i64 (R0 : Int))).set 1 (.int .i64 (cp : Int))).set 2 (.int .i64 (cn : Int))
                have b8 := (((H7.out.b.setc (Nat.le_succ _) 0 (.int .i64 (R0 : Int))).setc (Nat.le_succ _) 1 (.int .i64 (cp : Int))).setc (Nat.le_succ _) 2 (.int .i64 (cn : Int)))
                have u0 := z8.cell 0
                have u1 := z8.cell 1
                have u2 := z8.cell 2
                simp at u0 u1 u2
                refine bodyPost_ret (v := .tuple #[.agg #[.int .i64 (R0 : Int), .int .i64 (cp : Int), .int .i64 (cn : Int)], .bool false, .bool false]) ?_ rfl ⟨by simp, b8⟩
                simp [results, Try.results10, go_sem, u0, u1, u2]
              · go_wp2_with fail
                refine (C8 _).mono ?_
                rintro e W9 ⟨rfl, hw9⟩
                obtain rfl := hw9.symm
                clear hw9 C8
                go_wp2_with fail
                have z8 := H7.out.y.set 1 (.int .i64 (R1 : Int))
                have b8 := H7.out.b.setc (show w.heap.size ≤ G by omega) 1 (.int .i64 (R1 : Int))
                have k8 := Fz.set (X := fun k => k = G) wc G 1 (.int .i64 (R1 : Int)) rfl
                obtain ⟨W8, hW8⟩ : ∃ V, wc.setCell ⟨G, 1, none⟩ (.int .i64 (R1 : Int)) = V := ⟨_, rfl⟩
                rw [hW8] at z8 b8 k8 ⊢
                clear hW8
                have x8 := k8.cells (by omega) H7.out.x
                have r8 := k8.cells (by omega) H7.out.r
                have H8 := Lib.hid (And.intro b8 (And.intro r8 (show Cells W8 G 27 #[.int .i64 (R0 : Int), .int .i64 (R1 : Int), .int .i64 (cn : Int)] from z8)))
                have v2' : W8.cell? ⟨w.heap.size, 2, none⟩ = some (.int .i64 (cn : Int)) := x8.cell 2
                have y2' : W8.cell? ⟨G, 2, none⟩ = some (.int .i64 (cn : Int)) := H8.out.2.2.cell 2
                have f2' := H8.out.2.2.froz 2
                clear z8 b8 k8 x8 r8 y0 y1 y2 f1 f2 v0 v1 v2 l0 l1 l2 m0 m1 m2
                go_wp2_with fail
                refine (C9 _).mono ?_
                rintro e W9 ⟨rfl, hw9⟩
                obtain rfl := hw9.symm
                clear hw9 C9
                go_upto_region 16 with fail
                have z9 := H8.out.2.2.set 2 (.int .i64 (R2 : Int))
                have b9 := H8.out.1.setc (show w.heap.size ≤ G by omega) 2 (.int .i64 (R2 : Int))
                have k9 := Fz.set (X := fun k => k = G) W8 G 2 (.int .i64 (R2 : Int)) rfl
                obtain ⟨W9, hW9⟩ : ∃ V, W8.setCell ⟨G, 2, none⟩ (.int .i64 (R2 : Int)) = V := ⟨_, rfl⟩
                rw [hW9] at z9 b9 k9 ⊢
                clear hW9
                have r9 := k9.cells (by omega) H8.out.2.1
                have z9' : Cells W9 G 27 #[.int .i64 (R0 : Int), .int .i64 (R1 : Int), .int .i64 (R2 : Int)] := z9
                have u0 : W9.cell? ⟨G, 0, none⟩ = some (.int .i64 (R0 : Int)) := z9'.cell 0
                have u1 : W9.cell? ⟨G, 1, none⟩ = some (.int .i64 (R1 : Int)) := z9'.cell 1
                have u2 : W9.cell? ⟨G, 2, none⟩ = some (.int .i64 (R2 : Int)) := z9'.cell 2
                have l0 := r9.froz 0
                have l1 := r9.froz 1
                have l2 := r9.froz 2
                have m0 : W9.cell? ⟨w.heap.size + 1, 0, none⟩ = some (.int .i64 0) := r9.cell 0
                have m1 : W9.cell? ⟨w.heap.size + 1, 1, none⟩ = some (.int .i64 0) := r9.cell 1
                have m2 : W9.cell? ⟨w.heap.size + 1, 2, none⟩ = some (.int .i64 0) := r9.cell 2
                have H9 := Lib.hid (And.intro b9 r9)
                clear z9 b9 k9 r9 z9' v2' y2' f2'
                go_wp2_with fail
                have zA := ((H9.out.2.set 0 (.int .i64 (R0 : Int))).set 1 (.int .i64 (R1 : Int))).set 2 (.int .i64 (R2 : Int))
                have bA := (((H9.out.1.setc (Nat.le_succ _) 0 (.int .i64 (R0 : Int))).setc (Nat.le_succ _) 1 (.int .i64 (R1 : Int))).setc (Nat.le_succ _) 2 (.int .i64 (R2 : Int)))
                have w0 := zA.cell 0
                have w1' := zA.cell 1
                have w2' := zA.cell 2
                simp at w0 w1' w2'
                refine bodyPost_ret (v := .tuple #[.agg #[.int .i64 (R0 : Int), .int .i64 (R1 : Int), .int .i64 (R2 : Int)], .bool (b0), .bool (false)]) ?_ rfl ⟨by simp, bA⟩
                simp [results, Try.results10, go_sem, w0, w1', w2']
        · subst hby'
          go_upto_region 8 with fail
          go_cut [15, 16] from 49 to 56 (fun f x wx => f = .bool (h0 && b0) ∧ x = .bool false ∧ wx = w3)
          case first =>
            cases h0 <;> cases b0
            all_goals
              go_wp2_with fail
              go_meet
              exact ⟨rfl, rfl, rfl⟩
          case rest =>
            obtain ⟨rfl, rfl, hwc⟩ := hcut
            obtain rfl := hwc.symm
            clear hwc
            go_upto_region 12 with fail
            have H03 := H3.out.2.2.lt
            go_cut [18] from 65 to 77 (fun v wx => ∃ G, v = .pointer (some ⟨G, 0, none⟩) ∧ R12 w ch cp cn R0 G wx)
            case first =>
              have g0 : ∀ p : Later (fun _ => False) w3, p.W.cell? ⟨w.heap.size, 0, none⟩ = some (.int .i64 (ch : Int)) := fun p => cell_later q0 (fun hf => hf) p
              have g1 : ∀ p : Later (fun _ => False) w3, p.W.cell? ⟨w.heap.size, 1, none⟩ = some (.int .i64 (cp : Int)) := fun p => cell_later q1 (fun hf => hf) p
              have g2 : ∀ p : Later (fun _ => False) w3, p.W.cell? ⟨w.heap.size, 2, none⟩ = some (.int .i64 (cn : Int)) := fun p => cell_later q2 (fun hf => hf) p
              clear q0 q1 q2
              refine wp_region_mixF (fun i => if i = 7 then 2 else if 12 ≤ i then 2 else 0) [0, 1, 2, 3, 4, 5, 6, 8, 9, 10, 11] 4 (fun w' => ∃ p : Later (fun _ => False) w3, w' = p.W) (by kernel_rfl) (by kernel_rfl) ⟨⟨_, Fz.drew w3⟩, rfl⟩ ?_
              simp only [opsAt, List.filterMap_cons, List.filterMap_nil, List.getElem?_toArray, List.getElem?_cons_zero, List.getElem?_cons_succ]
              change wpQuiet _ _ _ _ [_, _, _, _, _, _, _, _, _, _, _] _
              repeat (go_big_quiet_step (fail))
              refine wpQuiet_nil ?_
              clear g0 g1 g2
              have zz : Fz (fun _ => False) w3 { w3 with drawn := w3.drawn + 1 } := Fz.drew w3
              obtain ⟨W4, hW4⟩ : ∃ V, ({ w3 with drawn := w3.drawn + 1 } : World) = V := ⟨_, rfl⟩
              rw [hW4] at zz ⊢
              clear hW4
              have bz := zz.below (Nat.le_refl _) (fun _ _ hf => hf)
              have H4 := Lib.hid (And.intro zz (And.intro (H3.out.1.trans (bz.mono H3.out.1.size)) (And.intro (H3.out.2.1.on bz) (H3.out.2.2.on bz))))
              clear zz bz
              refine wpFreeM_step [7, 13] (by kernel_rfl) ⟨?_, ?_, trivial⟩
              · refine wpOp_of_list rfl ?_
                go_wp2_with fail
                refine (HT.out.1 _).mono ?_
                rintro e W9 ⟨rfl, hw9⟩
                obtain rfl := hw9.symm
                clear hw9
                go_wp2_with fail
                refine ⟨⟨⟨_, H4.out.1⟩, rfl⟩, ?_⟩
                refine wpFreeM_step [12, 13] (by kernel_rfl) ⟨?_, ?_, trivial⟩
                · refine wpOp_of_list rfl ?_
                  go_wp2_with fail
                  refine ⟨⟨⟨_, H4.out.1⟩, rfl⟩, ?_⟩
                  refine wpFreeM_step [13] (by kernel_rfl) ⟨?_, trivial⟩
                  refine wpOp_of_list rfl ?_
                  go_wp2_with fail
                  have x6 : Cells (W4.alloc (.cells #[.int .i64 0, .int .i64 0, .int .i64 0] 27)) W4.heap.size 27 #[.int .i64 0, .int .i64 0, .int .i64 0] := cells_new _ _ _
                  have b6 := below_new W4 (.cells #[.int .i64 0, .int .i64 0, .int .i64 0] 27)
                  obtain ⟨W5, hW5⟩ : ∃ V, W4.alloc (.cells #[.int .i64 0, .int .i64 0, .int .i64 0] 27) = V := ⟨_, rfl⟩
                  rw [hW5] at x6 b6 ⊢
                  clear hW5
                  have hzG := H4.out.1.trans (Fz.of_below b6)
                  have hws : w.heap.size + 1 < W4.heap.size := by have := H4.out.2.2.2.lt; omega
                  have H5 := Lib.hid (And.intro hzG (And.intro (H4.out.2.1.trans (b6.mono H4.out.2.1.size)) (And.intro (H4.out.2.2.1.on b6) (And.intro (H4.out.2.2.2.on b6) (And.intro x6 hws)))))
                  have f0 := x6.froz 0
                  have f1 := x6.froz 1
                  have f2 := x6.froz 2
                  have y0 : W5.cell? ⟨W4.heap.size, 0, none⟩ = some (.int .i64 0) := x6.cell 0
                  have y1 : W5.cell? ⟨W4.heap.size, 1, none⟩ = some (.int .i64 0) := x6.cell 1
                  have y2 : W5.cell? ⟨W4.heap.size, 2, none⟩ = some (.int .i64 0) := x6.cell 2
                  clear x6 b6 hzG hws
                  refine ⟨⟨⟨_, H5.out.1⟩, rfl⟩, ?_⟩
                  refine wpFreeM_step [14] (by kernel_rfl) ⟨?_, trivial⟩
                  refine wpOp_of_list rfl ?_
                  go_wp2_with fail
                  have z7 := ((H5.out.2.2.2.2.1.set 0 (.int .i64 (R0 : Int))).set 1 (.int .i64 (cp : Int))).set 2 (.int .i64 (cn : Int))
                  have hge : w.heap.size ≤ W4.heap.size := by have := H5.out.2.2.2.2.2; omega
                  have b7 := (((H5.out.2.1.setc hge 0 (.int .i64 (R0 : Int))).setc hge 1 (.int .i64 (cp : Int))).setc hge 2 (.int .i64 (cn : Int)))
                  have k7 : Fz (fun k => k = W4.heap.size) W5 (((W5.setCell ⟨W4.heap.size, 0, none⟩ (.int .i64 (R0 : Int))).setCell ⟨W4.heap.size, 1, none⟩ (.int .i64 (cp : Int))).setCell ⟨W4.heap.size, 2, none⟩ (.int .i64 (cn : Int))) := ((Fz.set (X := fun k => k = W4.heap.size) W5 W4.heap.size 0 (.int .i64 (R0 : Int)) rfl).trans (Fz.set (X := fun k => k = W4.heap.size) _ W4.heap.size 1 (.int .i64 (cp : Int)) rfl)).trans (Fz.set (X := fun k => k = W4.heap.size) _ W4.heap.size 2 (.int .i64 (cn : Int)) rfl)
                  have l7 : w3.heap.size ≤ W4.heap.size := H4.out.1.size
                  have c7 : Fz (fun _ => False) w3 (((W5.setCell ⟨W4.heap.size, 0, none⟩ (.int .i64 (R0 : Int))).setCell ⟨W4.heap.size, 1, none⟩ (.int .i64 (cp : Int))).setCell ⟨W4.heap.size, 2, none⟩ (.int .i64 (cn : Int))) := ⟨k7.os.trans H5.out.1.os, k7.tape.trans H5.out.1.tape, k7.output.trans H5.out.1.output, Nat.le_trans H5.out.1.size k7.size, fun k hk hn => (k7.block k (Nat.lt_of_lt_of_le hk H5.out.1.size) (by omega)).trans (H5.out.1.block k hk hn)⟩
                  have n1 := H5.out.2.2.2.2.2
                  have H7 : R12 w ch cp cn R0 W4.heap.size (((W5.setCell ⟨W4.heap.size, 0, none⟩ (.int .i64 (R0 : Int))).setCell ⟨W4.heap.size, 1, none⟩ (.int .i64 (cp : Int))).setCell ⟨W4.heap.size, 2, none⟩ (.int .i64 (cn : Int))) := ⟨b7, k7.cells (by omega) H5.out.2.2.1, k7.cells (by omega) H5.out.2.2.2.1, z7, n1⟩
                  have H7 := Lib.hid (And.intro H7 c7)
                  clear z7 hge b7 k7 l7 c7 n1 f0 f1 f2 y0 y1 y2
                  refine ⟨⟨⟨_, H7.out.2⟩, rfl⟩, ?_⟩
                  unfold wpFreeM
                  go_wp2_with fail
                  go_meet
                  exact ⟨W4.heap.size, rfl, H7.out.1⟩
                · refine wpOp_of_list rfl ?_
                  go_wp2_with fail
                  have x6 : Cells (W4.alloc (.cells #[.int .i64 0, .int .i64 0, .int .i64 0] 27)) W4.heap.size 27 #[.int .i64 0, .int .i64 0, .int .i64 0] := cells_new _ _ _
                  have b6 := below_new W4 (.cells #[.int .i64 0, .int .i64 0, .int .i64 0] 27)
                  obtain ⟨W5, hW5⟩ : ∃ V, W4.alloc (.cells #[.int .i64 0, .int .i64 0, .int .i64 0] 27) = V := ⟨_, rfl⟩
                  rw [hW5] at x6 b6 ⊢
                  clear hW5
                  have hzG := H4.out.1.trans (Fz.of_below b6)
                  have hws : w.heap.size + 1 < W4.heap.size := by have := H4.out.2.2.2.lt; omega
                  have H5 := Lib.hid (And.intro hzG (And.intro (H4.out.2.1.trans (b6.mono H4.out.2.1.size)) (And.intro (H4.out.2.2.1.on b6) (And.intro (H4.out.2.2.2.on b6) (And.intro x6 hws)))))
                  have f0 := x6.froz 0
                  have f1 := x6.froz 1
                  have f2 := x6.froz 2
                  have y0 : W5.cell? ⟨W4.heap.size, 0, none⟩ = some (.int .i64 0) := x6.cell 0
                  have y1 : W5.cell? ⟨W4.heap.size, 1, none⟩ = some (.int .i64 0) := x6.cell 1
                  have y2 : W5.cell? ⟨W4.heap.size, 2, none⟩ = some (.int .i64 0) := x6.cell 2
                  clear x6 b6 hzG hws
                  refine ⟨⟨⟨_, H5.out.1⟩, rfl⟩, ?_⟩
                  refine wpFreeM_step [12] (by kernel_rfl) ⟨?_, trivial⟩
                  refine wpOp_of_list rfl ?_
                  go_wp2_with fail
                  refine ⟨⟨⟨_, H5.out.1⟩, rfl⟩, ?_⟩
                  refine wpFreeM_step [14] (by kernel_rfl) ⟨?_, trivial⟩
                  refine wpOp_of_list rfl ?_
                  go_wp2_with fail
                  have z7 := ((H5.out.2.2.2.2.1.set 0 (.int .i64 (R0 : Int))).set 1 (.int .i64 (cp : Int))).set 2 (.int .i64 (cn : Int))
                  have hge : w.heap.size ≤ W4.heap.size := by have := H5.out.2.2.2.2.2; omega
                  have b7 := (((H5.out.2.1.setc hge 0 (.int .i64 (R0 : Int))).setc hge 1 (.int .i64 (cp : Int))).setc hge 2 (.int .i64 (cn : Int)))
                  have k7 : Fz (fun k => k = W4.heap.size) W5 (((W5.setCell ⟨W4.heap.size, 0, none⟩ (.int .i64 (R0 : Int))).setCell ⟨W4.heap.size, 1, none⟩ (.int .i64 (cp : Int))).setCell ⟨W4.heap.size, 2, none⟩ (.int .i64 (cn : Int))) := ((Fz.set (X := fun k => k = W4.heap.size) W5 W4.heap.size 0 (.int .i64 (R0 : Int)) rfl).trans (Fz.set (X := fun k => k = W4.heap.size) _ W4.heap.size 1 (.int .i64 (cp : Int)) rfl)).trans (Fz.set (X := fun k => k = W4.heap.size) _ W4.heap.size 2 (.int .i64 (cn : Int)) rfl)
                  have l7 : w3.heap.size ≤ W4.heap.size := H4.out.1.size
                  have c7 : Fz (fun _ => False) w3 (((W5.setCell ⟨W4.heap.size, 0, none⟩ (.int .i64 (R0 : Int))).setCell ⟨W4.heap.size, 1, none⟩ (.int .i64 (cp : Int))).setCell ⟨W4.heap.size, 2, none⟩ (.int .i64 (cn : Int))) := ⟨k7.os.trans H5.out.1.os, k7.tape.trans H5.out.1.tape, k7.output.trans H5.out.1.output, Nat.le_trans H5.out.1.size k7.size, fun k hk hn => (k7.block k (Nat.lt_of_lt_of_le hk H5.out.1.size) (by omega)).trans (H5.out.1.block k hk hn)⟩
                  have n1 := H5.out.2.2.2.2.2
                  have H7 : R12 w ch cp cn R0 W4.heap.size (((W5.setCell ⟨W4.heap.size, 0, none⟩ (.int .i64 (R0 : Int))).setCell ⟨W4.heap.size, 1, none⟩ (.int .i64 (cp : Int))).setCell ⟨W4.heap.size, 2, none⟩ (.int .i64 (cn : Int))) := ⟨b7, k7.cells (by omega) H5.out.2.2.1, k7.cells (by omega) H5.out.2.2.2.1, z7, n1⟩
                  have H7 := Lib.hid (And.intro H7 c7)
                  clear z7 hge b7 k7 l7 c7 n1 f0 f1 f2 y0 y1 y2
                  refine ⟨⟨⟨_, H7.out.2⟩, rfl⟩, ?_⟩
                  unfold wpFreeM
                  go_wp2_with fail
                  go_meet
                  exact ⟨W4.heap.size, rfl, H7.out.1⟩
              · refine wpOp_of_list rfl ?_
                go_wp2_with fail
                have x6 : Cells (W4.alloc (.cells #[.int .i64 0, .int .i64 0, .int .i64 0] 27)) W4.heap.size 27 #[.int .i64 0, .int .i64 0, .int .i64 0] := cells_new _ _ _
                have b6 := below_new W4 (.cells #[.int .i64 0, .int .i64 0, .int .i64 0] 27)
                obtain ⟨W5, hW5⟩ : ∃ V, W4.alloc (.cells #[.int .i64 0, .int .i64 0, .int .i64 0] 27) = V := ⟨_, rfl⟩
                rw [hW5] at x6 b6 ⊢
                clear hW5
                have hzG := H4.out.1.trans (Fz.of_below b6)
                have hws : w.heap.size + 1 < W4.heap.size := by have := H4.out.2.2.2.lt; omega
                have H5 := Lib.hid (And.intro hzG (And.intro (H4.out.2.1.trans (b6.mono H4.out.2.1.size)) (And.intro (H4.out.2.2.1.on b6) (And.intro (H4.out.2.2.2.on b6) (And.intro x6 hws)))))
                have f0 := x6.froz 0
                have f1 := x6.froz 1
                have f2 := x6.froz 2
                have y0 : W5.cell? ⟨W4.heap.size, 0, none⟩ = some (.int .i64 0) := x6.cell 0
                have y1 : W5.cell? ⟨W4.heap.size, 1, none⟩ = some (.int .i64 0) := x6.cell 1
                have y2 : W5.cell? ⟨W4.heap.size, 2, none⟩ = some (.int .i64 0) := x6.cell 2
                clear x6 b6 hzG hws
                refine ⟨⟨⟨_, H5.out.1⟩, rfl⟩, ?_⟩
                refine wpFreeM_step [7] (by kernel_rfl) ⟨?_, trivial⟩
                refine wpOp_of_list rfl ?_
                go_wp2_with fail
                refine (HT.out.1 _).mono ?_
                rintro e W9 ⟨rfl, hw9⟩
                obtain rfl := hw9.symm
                clear hw9
                go_wp2_with fail
                refine ⟨⟨⟨_, H5.out.1⟩, rfl⟩, ?_⟩
                refine wpFreeM_step [12] (by kernel_rfl) ⟨?_, trivial⟩
                refine wpOp_of_list rfl ?_
                go_wp2_with fail
                refine ⟨⟨⟨_, H5.out.1⟩, rfl⟩, ?_⟩
                refine wpFreeM_step [14] (by kernel_rfl) ⟨?_, trivial⟩
                refine wpOp_of_list rfl ?_
                go_wp2_with fail
                have z7 := ((H5.out.2.2.2.2.1.set 0 (.int .i64 (R0 : Int))).set 1 (.int .i64 (cp : Int))).set 2 (.int .i64 (cn : Int))
                have hge : w.heap.size ≤ W4.heap.size := by have := H5.out.2.2.2.2.2; omega
                have b7 := (((H5.out.2.1.setc hge 0 (.int .i64 (R0 : Int))).setc hge 1 (.int .i64 (cp : Int))).setc hge 2 (.int .i64 (cn : Int)))
                have k7 : Fz (fun k => k = W4.heap.size) W5 (((W5.setCell ⟨W4.heap.size, 0, none⟩ (.int .i64 (R0 : Int))).setCell ⟨W4.heap.size, 1, none⟩ (.int .i64 (cp : Int))).setCell ⟨W4.heap.size, 2, none⟩ (.int .i64 (cn : Int))) := ((Fz.set (X := fun k => k = W4.heap.size) W5 W4.heap.size 0 (.int .i64 (R0 : Int)) rfl).trans (Fz.set (X := fun k => k = W4.heap.size) _ W4.heap.size 1 (.int .i64 (cp : Int)) rfl)).trans (Fz.set (X := fun k => k = W4.heap.size) _ W4.heap.size 2 (.int .i64 (cn : Int)) rfl)
                have l7 : w3.heap.size ≤ W4.heap.size := H4.out.1.size
                have c7 : Fz (fun _ => False) w3 (((W5.setCell ⟨W4.heap.size, 0, none⟩ (.int .i64 (R0 : Int))).setCell ⟨W4.heap.size, 1, none⟩ (.int .i64 (cp : Int))).setCell ⟨W4.heap.size, 2, none⟩ (.int .i64 (cn : Int))) := ⟨k7.os.trans H5.out.1.os, k7.tape.trans H5.out.1.tape, k7.output.trans H5.out.1.output, Nat.le_trans H5.out.1.size k7.size, fun k hk hn => (k7.block k (Nat.lt_of_lt_of_le hk H5.out.1.size) (by omega)).trans (H5.out.1.block k hk hn)⟩
                have n1 := H5.out.2.2.2.2.2
                have H7 : R12 w ch cp cn R0 W4.heap.size (((W5.setCell ⟨W4.heap.size, 0, none⟩ (.int .i64 (R0 : Int))).setCell ⟨W4.heap.size, 1, none⟩ (.int .i64 (cp : Int))).setCell ⟨W4.heap.size, 2, none⟩ (.int .i64 (cn : Int))) := ⟨b7, k7.cells (by omega) H5.out.2.2.1, k7.cells (by omega) H5.out.2.2.2.1, z7, n1⟩
                have H7 := Lib.hid (And.intro H7 c7)
                clear z7 hge b7 k7 l7 c7 n1 f0 f1 f2 y0 y1 y2
                refine ⟨⟨⟨_, H7.out.2⟩, rfl⟩, ?_⟩
                unfold wpFreeM
                go_wp2_with fail
                go_meet
                exact ⟨W4.heap.size, rfl, H7.out.1⟩
            case rest =>
              obtain ⟨G, rfl, h7⟩ := hcut
              have y0 : wc.cell? ⟨G, 0, none⟩ = some (.int .i64 (R0 : Int)) := h7.y.cell 0
              have y1 : wc.cell? ⟨G, 1, none⟩ = some (.int .i64 (cp : Int)) := h7.y.cell 1
              have y2 : wc.cell? ⟨G, 2, none⟩ = some (.int .i64 (cn : Int)) := h7.y.cell 2
              have f1 := h7.y.froz 1
              have f2 := h7.y.froz 2
              have v0 : wc.cell? ⟨w.heap.size, 0, none⟩ = some (.int .i64 (ch : Int)) := h7.x.cell 0
              have v1 : wc.cell? ⟨w.heap.size, 1, none⟩ = some (.int .i64 (cp : Int)) := h7.x.cell 1
              have v2 : wc.cell? ⟨w.heap.size, 2, none⟩ = some (.int .i64 (cn : Int)) := h7.x.cell 2
              have l0 := h7.r.froz 0
              have l1 := h7.r.froz 1
              have l2 := h7.r.froz 2
              have m0 : wc.cell? ⟨w.heap.size + 1, 0, none⟩ = some (.int .i64 0) := h7.r.cell 0
              have m1 : wc.cell? ⟨w.heap.size + 1, 1, none⟩ = some (.int .i64 0) := h7.r.cell 1
              have m2 : wc.cell? ⟨w.heap.size + 1, 2, none⟩ = some (.int .i64 0) := h7.r.cell 2
              have hg := h7.g
              have C8 := HT.out.2.1
              have C9 := HT.out.2.2
              have H7 := Lib.hid h7
              clear h7 q0 q1 q2
              cases h0
              · go_wp2_with fail
                have z8 := ((H7.out.r.set 0 (.int .i64 (R0 : Int))).set 1 (.int .i64 (cp : Int))).set 2 (.int .i64 (cn : Int))
                have b8 := (((H7.out.b.setc (Nat.le_succ _) 0 (.int .i64 (R0 : Int))).setc (Nat.le_succ _) 1 (.int .i64 (cp : Int))).setc (Nat.le_succ _) 2 (.int .i64 (cn : Int)))
                have u0 := z8.cell 0
                have u1 := z8.cell 1
                have u2 := z8.cell 2
                simp at u0 u1 u2
                refine bodyPost_ret (v := .tuple #[.agg #[.int .i64 (R0 : Int), .int .i64 (cp : Int), .int .i64 (cn : Int)], .bool false, .bool false]) ?_ rfl ⟨by simp, b8⟩
                simp [results, Try.results10, go_sem, u0, u1, u2]
              · go_wp2_with fail
                refine (C8 _).mono ?_
                rintro e W9 ⟨rfl, hw9⟩
                obtain rfl := hw9.symm
                clear hw9 C8
                go_wp2_with fail
                have z8 := H7.out.y.set 1 (.int .i64 (R1 : Int))
                have b8 := H7.out.b.setc (show w.heap.size ≤ G by omega) 1 (.int .i64 (R1 : Int))
                have k8 := Fz.set (X := fun k => k = G) wc G 1 (.int .i64 (R1 : Int)) rfl
                obtain ⟨W8, hW8⟩ : ∃ V, wc.setCell ⟨G, 1, none⟩ (.int .i64 (R1 : Int)) = V := ⟨_, rfl⟩
                rw [hW8] at z8 b8 k8 ⊢
                clear hW8
                have x8 := k8.cells (by omega) H7.out.x
                have r8 := k8.cells (by omega) H7.out.r
                have H8 := Lib.hid (And.intro b8 (And.intro r8 (show Cells W8 G 27 #[.int .i64 (R0 : Int), .int .i64 (R1 : Int), .int .i64 (cn : Int)] from z8)))
                have v2' : W8.cell? ⟨w.heap.size, 2, none⟩ = some (.int .i64 (cn : Int)) := x8.cell 2
                have y2' : W8.cell? ⟨G, 2, none⟩ = some (.int .i64 (cn : Int)) := H8.out.2.2.cell 2
                have f2' := H8.out.2.2.froz 2
                clear z8 b8 k8 x8 r8 y0 y1 y2 f1 f2 v0 v1 v2 l0 l1 l2 m0 m1 m2
                go_wp2_with fail
                refine (C9 _).mono ?_
                rintro e W9 ⟨rfl, hw9⟩
                obtain rfl := hw9.symm
                clear hw9 C9
                go_upto_region 16 with fail
                have z9 := H8.out.2.2.set 2 (.int .i64 (R2 : Int))
                have b9 := H8.out.1.setc (show w.heap.size ≤ G by omega) 2 (.int .i64 (R2 : Int))
                have k9 := Fz.set (X := fun k => k = G) W8 G 2 (.int .i64 (R2 : Int)) rfl
                obtain ⟨W9, hW9⟩ : ∃ V, W8.setCell ⟨G, 2, none⟩ (.int .i64 (R2 : Int)) = V := ⟨_, rfl⟩
                rw [hW9] at z9 b9 k9 ⊢
                clear hW9
                have r9 := k9.cells (by omega) H8.out.2.1
                have z9' : Cells W9 G 27 #[.int .i64 (R0 : Int), .int .i64 (R1 : Int), .int .i64 (R2 : Int)] := z9
                have u0 : W9.cell? ⟨G, 0, none⟩ = some (.int .i64 (R0 : Int)) := z9'.cell 0
                have u1 : W9.cell? ⟨G, 1, none⟩ = some (.int .i64 (R1 : Int)) := z9'.cell 1
                have u2 : W9.cell? ⟨G, 2, none⟩ = some (.int .i64 (R2 : Int)) := z9'.cell 2
                have l0 := r9.froz 0
                have l1 := r9.froz 1
                have l2 := r9.froz 2
                have m0 : W9.cell? ⟨w.heap.size + 1, 0, none⟩ = some (.int .i64 0) := r9.cell 0
                have m1 : W9.cell? ⟨w.heap.size + 1, 1, none⟩ = some (.int .i64 0) := r9.cell 1
                have m2 : W9.cell? ⟨w.heap.size + 1, 2, none⟩ = some (.int .i64 0) := r9.cell 2
                have H9 := Lib.hid (And.intro b9 r9)
                clear z9 b9 k9 r9 z9' v2' y2' f2'
                go_wp2_with fail
                have zA := ((H9.out.2.set 0 (.int .i64 (R0 : Int))).set 1 (.int .i64 (R1 : Int))).set 2 (.int .i64 (R2 : Int))
                have bA := (((H9.out.1.setc (Nat.le_succ _) 0 (.int .i64 (R0 : Int))).setc (Nat.le_succ _) 1 (.int .i64 (R1 : Int))).setc (Nat.le_succ _) 2 (.int .i64 (R2 : Int)))
                have w0 := zA.cell 0
                have w1' := zA.cell 1
                have w2' := zA.cell 2
                simp at w0 w1' w2'
                refine bodyPost_ret (v := .tuple #[.agg #[.int .i64 (R0 : Int), .int .i64 (R1 : Int), .int .i64 (R2 : Int)], .bool (b0), .bool (false)]) ?_ rfl ⟨by simp, bA⟩
                simp [results, Try.results10, go_sem, w0, w1', w2']
      · cases sg
        · subst hby'
          go_upto_region 8 with fail
          go_cut [15, 16] from 49 to 56 (fun f x wx => f = .bool (false) ∧ x = .bool false ∧ wx = w3)
          case first =>
            cases h0 <;> cases b0
            all_goals
              go_wp2_with fail
              go_meet
              exact ⟨rfl, rfl, rfl⟩
          case rest =>
            obtain ⟨rfl, rfl, hwc⟩ := hcut
            obtain rfl := hwc.symm
            clear hwc
            go_upto_region 12 with fail
            have H03 := H3.out.2.2.lt
            go_cut [18] from 65 to 77 (fun v wx => ∃ G, v = .pointer (some ⟨G, 0, none⟩) ∧ R12 w ch cp cn R0 G wx)
            case first =>
              have g0 : ∀ p : Later (fun _ => False) w3, p.W.cell? ⟨w.heap.size, 0, none⟩ = some (.int .i64 (ch : Int)) := fun p => cell_later q0 (fun hf => hf) p
              have g1 : ∀ p : Later (fun _ => False) w3, p.W.cell? ⟨w.heap.size, 1, none⟩ = some (.int .i64 (cp : Int)) := fun p => cell_later q1 (fun hf => hf) p
              have g2 : ∀ p : Later (fun _ => False) w3, p.W.cell? ⟨w.heap.size, 2, none⟩ = some (.int .i64 (cn : Int)) := fun p => cell_later q2 (fun hf => hf) p
              clear q0 q1 q2
              refine wp_region_mixF (fun i => if i = 7 then 2 else if 12 ≤ i then 2 else 0) [0, 1, 2, 3, 4, 5, 6, 8, 9, 10, 11] 4 (fun w' => ∃ p : Later (fun _ => False) w3, w' = p.W) (by kernel_rfl) (by kernel_rfl) ⟨⟨_, Fz.drew w3⟩, rfl⟩ ?_
              simp only [opsAt, List.filterMap_cons, List.filterMap_nil, List.getElem?_toArray, List.getElem?_cons_zero, List.getElem?_cons_succ]
              change wpQuiet _ _ _ _ [_, _, _, _, _, _, _, _, _, _, _] _
              repeat (go_big_quiet_step (fail))
              refine wpQuiet_nil ?_
              clear g0 g1 g2
              have zz : Fz (fun _ => False) w3 { w3 with drawn := w3.drawn + 1 } := Fz.drew w3
              obtain ⟨W4, hW4⟩ : ∃ V, ({ w3 with drawn := w3.drawn + 1 } : World) = V := ⟨_, rfl⟩
              rw [hW4] at zz ⊢
              clear hW4
              have bz := zz.below (Nat.le_refl _) (fun _ _ hf => hf)
              have H4 := Lib.hid (And.intro zz (And.intro (H3.out.1.trans (bz.mono H3.out.1.size)) (And.intro (H3.out.2.1.on bz) (H3.out.2.2.on bz))))
              clear zz bz
              refine wpFreeM_step [7, 13] (by kernel_rfl) ⟨?_, ?_, trivial⟩
              · refine wpOp_of_list rfl ?_
                go_wp2_with fail
                refine (HT.out.1 _).mono ?_
                rintro e W9 ⟨rfl, hw9⟩
                obtain rfl := hw9.symm
                clear hw9
                go_wp2_with fail
                refine ⟨⟨⟨_, H4.out.1⟩, rfl⟩, ?_⟩
                refine wpFreeM_step [12, 13] (by kernel_rfl) ⟨?_, ?_, trivial⟩
                · refine wpOp_of_list rfl ?_
                  go_wp2_with fail
                  refine ⟨⟨⟨_, H4.out.1⟩, rfl⟩, ?_⟩
                  refine wpFreeM_step [13] (by kernel_rfl) ⟨?_, trivial⟩
                  refine wpOp_of_list rfl ?_
                  go_wp2_with fail
                  have x6 : Cells (W4.alloc (.cells #[.int .i64 0, .int .i64 0, .int .i64 0] 27)) W4.heap.size 27 #[.int .i64 0, .int .i64 0, .int .i64 0] := cells_new _ _ _
                  have b6 := below_new W4 (.cells #[.int .i64 0, .int .i64 0, .int .i64 0] 27)
                  obtain ⟨W5, hW5⟩ : ∃ V, W4.alloc (.cells #[.int .i64 0, .int .i64 0, .int .i64 0] 27) = V := ⟨_, rfl⟩
                  rw [hW5] at x6 b6 ⊢
                  clear hW5
                  have hzG := H4.out.1.trans (Fz.of_below b6)
                  have hws : w.heap.size + 1 < W4.heap.size := by have := H4.out.2.2.2.lt; omega
                  have H5 := Lib.hid (And.intro hzG (And.intro (H4.out.2.1.trans (b6.mono H4.out.2.1.size)) (And.intro (H4.out.2.2.1.on b6) (And.intro (H4.out.2.2.2.on b6) (And.intro x6 hws)))))
                  have f0 := x6.froz 0
                  have f1 := x6.froz 1
                  have f2 := x6.froz 2
                  have y0 : W5.cell? ⟨W4.heap.size, 0, none⟩ = some (.int .i64 0) := x6.cell 0
                  have y1 : W5.cell? ⟨W4.heap.size, 1, none⟩ = some (.int .i64 0) := x6.cell 1
                  have y2 : W5.cell? ⟨W4.heap.size, 2, none⟩ = some (.int .i64 0) := x6.cell 2
                  clear x6 b6 hzG hws
                  refine ⟨⟨⟨_, H5.out.1⟩, rfl⟩, ?_⟩
                  refine wpFreeM_step [14] (by kernel_rfl) ⟨?_, trivial⟩
                  refine wpOp_of_list rfl ?_
                  go_wp2_with fail
                  have z7 := ((H5.out.2.2.2.2.1.set 0 (.int .i64 (R0 : Int))).set 1 (.int .i64 (cp : Int))).set 2 (.int .i64 (cn : Int))
                  have hge : w.heap.size ≤ W4.heap.size := by have := H5.out.2.2.2.2.2; omega
                  have b7 := (((H5.out.2.1.setc hge 0 (.int .i64 (R0 : Int))).setc hge 1 (.int .i64 (cp : Int))).setc hge 2 (.int .i64 (cn : Int)))
                  have k7 : Fz (fun k => k = W4.heap.size) W5 (((W5.setCell ⟨W4.heap.size, 0, none⟩ (.int .i64 (R0 : Int))).setCell ⟨W4.heap.size, 1, none⟩ (.int .i64 (cp : Int))).setCell ⟨W4.heap.size, 2, none⟩ (.int .i64 (cn : Int))) := ((Fz.set (X := fun k => k = W4.heap.size) W5 W4.heap.size 0 (.int .i64 (R0 : Int)) rfl).trans (Fz.set (X := fun k => k = W4.heap.size) _ W4.heap.size 1 (.int .i64 (cp : Int)) rfl)).trans (Fz.set (X := fun k => k = W4.heap.size) _ W4.heap.size 2 (.int .i64 (cn : Int)) rfl)
                  have l7 : w3.heap.size ≤ W4.heap.size := H4.out.1.size
                  have c7 : Fz (fun _ => False) w3 (((W5.setCell ⟨W4.heap.size, 0, none⟩ (.int .i64 (R0 : Int))).setCell ⟨W4.heap.size, 1, none⟩ (.int .i64 (cp : Int))).setCell ⟨W4.heap.size, 2, none⟩ (.int .i64 (cn : Int))) := ⟨k7.os.trans H5.out.1.os, k7.tape.trans H5.out.1.tape, k7.output.trans H5.out.1.output, Nat.le_trans H5.out.1.size k7.size, fun k hk hn => (k7.block k (Nat.lt_of_lt_of_le hk H5.out.1.size) (by omega)).trans (H5.out.1.block k hk hn)⟩
                  have n1 := H5.out.2.2.2.2.2
                  have H7 : R12 w ch cp cn R0 W4.heap.size (((W5.setCell ⟨W4.heap.size, 0, none⟩ (.int .i64 (R0 : Int))).setCell ⟨W4.heap.size, 1, none⟩ (.int .i64 (cp : Int))).setCell ⟨W4.heap.size, 2, none⟩ (.int .i64 (cn : Int))) := ⟨b7, k7.cells (by omega) H5.out.2.2.1, k7.cells (by omega) H5.out.2.2.2.1, z7, n1⟩
                  have H7 := Lib.hid (And.intro H7 c7)
                  clear z7 hge b7 k7 l7 c7 n1 f0 f1 f2 y0 y1 y2
                  refine ⟨⟨⟨_, H7.out.2⟩, rfl⟩, ?_⟩
                  unfold wpFreeM
                  go_wp2_with fail
                  go_meet
                  exact ⟨W4.heap.size, rfl, H7.out.1⟩
                · refine wpOp_of_list rfl ?_
                  go_wp2_with fail
                  have x6 : Cells (W4.alloc (.cells #[.int .i64 0, .int .i64 0, .int .i64 0] 27)) W4.heap.size 27 #[.int .i64 0, .int .i64 0, .int .i64 0] := cells_new _ _ _
                  have b6 := below_new W4 (.cells #[.int .i64 0, .int .i64 0, .int .i64 0] 27)
                  obtain ⟨W5, hW5⟩ : ∃ V, W4.alloc (.cells #[.int .i64 0, .int .i64 0, .int .i64 0] 27) = V := ⟨_, rfl⟩
                  rw [hW5] at x6 b6 ⊢
                  clear hW5
                  have hzG := H4.out.1.trans (Fz.of_below b6)
                  have hws : w.heap.size + 1 < W4.heap.size := by have := H4.out.2.2.2.lt; omega
                  have H5 := Lib.hid (And.intro hzG (And.intro (H4.out.2.1.trans (b6.mono H4.out.2.1.size)) (And.intro (H4.out.2.2.1.on b6) (And.intro (H4.out.2.2.2.on b6) (And.intro x6 hws)))))
                  have f0 := x6.froz 0
                  have f1 := x6.froz 1
                  have f2 := x6.froz 2
                  have y0 : W5.cell? ⟨W4.heap.size, 0, none⟩ = some (.int .i64 0) := x6.cell 0
                  have y1 : W5.cell? ⟨W4.heap.size, 1, none⟩ = some (.int .i64 0) := x6.cell 1
                  have y2 : W5.cell? ⟨W4.heap.size, 2, none⟩ = some (.int .i64 0) := x6.cell 2
                  clear x6 b6 hzG hws
                  refine ⟨⟨⟨_, H5.out.1⟩, rfl⟩, ?_⟩
                  refine wpFreeM_step [12] (by kernel_rfl) ⟨?_, trivial⟩
                  refine wpOp_of_list rfl ?_
                  go_wp2_with fail
                  refine ⟨⟨⟨_, H5.out.1⟩, rfl⟩, ?_⟩
                  refine wpFreeM_step [14] (by kernel_rfl) ⟨?_, trivial⟩
                  refine wpOp_of_list rfl ?_
                  go_wp2_with fail
                  have z7 := ((H5.out.2.2.2.2.1.set 0 (.int .i64 (R0 : Int))).set 1 (.int .i64 (cp : Int))).set 2 (.int .i64 (cn : Int))
                  have hge : w.heap.size ≤ W4.heap.size := by have := H5.out.2.2.2.2.2; omega
                  have b7 := (((H5.out.2.1.setc hge 0 (.int .i64 (R0 : Int))).setc hge 1 (.int .i64 (cp : Int))).setc hge 2 (.int .i64 (cn : Int)))
                  have k7 : Fz (fun k => k = W4.heap.size) W5 (((W5.setCell ⟨W4.heap.size, 0, none⟩ (.int .i64 (R0 : Int))).setCell ⟨W4.heap.size, 1, none⟩ (.int .i64 (cp : Int))).setCell ⟨W4.heap.size, 2, none⟩ (.int .i64 (cn : Int))) := ((Fz.set (X := fun k => k = W4.heap.size) W5 W4.heap.size 0 (.int .i64 (R0 : Int)) rfl).trans (Fz.set (X := fun k => k = W4.heap.size) _ W4.heap.size 1 (.int .i64 (cp : Int)) rfl)).trans (Fz.set (X := fun k => k = W4.heap.size) _ W4.heap.size 2 (.int .i64 (cn : Int)) rfl)
                  have l7 : w3.heap.size ≤ W4.heap.size := H4.out.1.size
                  have c7 : Fz (fun _ => False) w3 (((W5.setCell ⟨W4.heap.size, 0, none⟩ (.int .i64 (R0 : Int))).setCell ⟨W4.heap.size, 1, none⟩ (.int .i64 (cp : Int))).setCell ⟨W4.heap.size, 2, none⟩ (.int .i64 (cn : Int))) := ⟨k7.os.trans H5.out.1.os, k7.tape.trans H5.out.1.tape, k7.output.trans H5.out.1.output, Nat.le_trans H5.out.1.size k7.size, fun k hk hn => (k7.block k (Nat.lt_of_lt_of_le hk H5.out.1.size) (by omega)).trans (H5.out.1.block k hk hn)⟩
                  have n1 := H5.out.2.2.2.2.2
                  have H7 : R12 w ch cp cn R0 W4.heap.size (((W5.setCell ⟨W4.heap.size, 0, none⟩ (.int .i64 (R0 : Int))).setCell ⟨W4.heap.size, 1, none⟩ (.int .i64 (cp : Int))).setCell ⟨W4.heap.size, 2, none⟩ (.int .i64 (cn : Int))) := ⟨b7, k7.cells (by omega) H5.out.2.2.1, k7.cells (by omega) H5.out.2.2.2.1, z7, n1⟩
                  have H7 := Lib.hid (And.intro H7 c7)
                  clear z7 hge b7 k7 l7 c7 n1 f0 f1 f2 y0 y1 y2
                  refine ⟨⟨⟨_, H7.out.2⟩, rfl⟩, ?_⟩
                  unfold wpFreeM
                  go_wp2_with fail
                  go_meet
                  exact ⟨W4.heap.size, rfl, H7.out.1⟩
              · refine wpOp_of_list rfl ?_
                go_wp2_with fail
                have x6 : Cells (W4.alloc (.cells #[.int .i64 0, .int .i64 0, .int .i64 0] 27)) W4.heap.size 27 #[.int .i64 0, .int .i64 0, .int .i64 0] := cells_new _ _ _
                have b6 := below_new W4 (.cells #[.int .i64 0, .int .i64 0, .int .i64 0] 27)
                obtain ⟨W5, hW5⟩ : ∃ V, W4.alloc (.cells #[.int .i64 0, .int .i64 0, .int .i64 0] 27) = V := ⟨_, rfl⟩
                rw [hW5] at x6 b6 ⊢
                clear hW5
                have hzG := H4.out.1.trans (Fz.of_below b6)
                have hws : w.heap.size + 1 < W4.heap.size := by have := H4.out.2.2.2.lt; omega
                have H5 := Lib.hid (And.intro hzG (And.intro (H4.out.2.1.trans (b6.mono H4.out.2.1.size)) (And.intro (H4.out.2.2.1.on b6) (And.intro (H4.out.2.2.2.on b6) (And.intro x6 hws)))))
                have f0 := x6.froz 0
                have f1 := x6.froz 1
                have f2 := x6.froz 2
                have y0 : W5.cell? ⟨W4.heap.size, 0, none⟩ = some (.int .i64 0) := x6.cell 0
                have y1 : W5.cell? ⟨W4.heap.size, 1, none⟩ = some (.int .i64 0) := x6.cell 1
                have y2 : W5.cell? ⟨W4.heap.size, 2, none⟩ = some (.int .i64 0) := x6.cell 2
                clear x6 b6 hzG hws
                refine ⟨⟨⟨_, H5.out.1⟩, rfl⟩, ?_⟩
                refine wpFreeM_step [7] (by kernel_rfl) ⟨?_, trivial⟩
                refine wpOp_of_list rfl ?_
                go_wp2_with fail
                refine (HT.out.1 _).mono ?_
                rintro e W9 ⟨rfl, hw9⟩
                obtain rfl := hw9.symm
                clear hw9
                go_wp2_with fail
                refine ⟨⟨⟨_, H5.out.1⟩, rfl⟩, ?_⟩
                refine wpFreeM_step [12] (by kernel_rfl) ⟨?_, trivial⟩
                refine wpOp_of_list rfl ?_
                go_wp2_with fail
                refine ⟨⟨⟨_, H5.out.1⟩, rfl⟩, ?_⟩
                refine wpFreeM_step [14] (by kernel_rfl) ⟨?_, trivial⟩
                refine wpOp_of_list rfl ?_
                go_wp2_with fail
                have z7 := ((H5.out.2.2.2.2.1.set 0 (.int .i64 (R0 : Int))).set 1 (.int .i64 (cp : Int))).set 2 (.int .i64 (cn : Int))
                have hge : w.heap.size ≤ W4.heap.size := by have := H5.out.2.2.2.2.2; omega
                have b7 := (((H5.out.2.1.setc hge 0 (.int .i64 (R0 : Int))).setc hge 1 (.int .i64 (cp : Int))).setc hge 2 (.int .i64 (cn : Int)))
                have k7 : Fz (fun k => k = W4.heap.size) W5 (((W5.setCell ⟨W4.heap.size, 0, none⟩ (.int .i64 (R0 : Int))).setCell ⟨W4.heap.size, 1, none⟩ (.int .i64 (cp : Int))).setCell ⟨W4.heap.size, 2, none⟩ (.int .i64 (cn : Int))) := ((Fz.set (X := fun k => k = W4.heap.size) W5 W4.heap.size 0 (.int .i64 (R0 : Int)) rfl).trans (Fz.set (X := fun k => k = W4.heap.size) _ W4.heap.size 1 (.int .i64 (cp : Int)) rfl)).trans (Fz.set (X := fun k => k = W4.heap.size) _ W4.heap.size 2 (.int .i64 (cn : Int)) rfl)
                have l7 : w3.heap.size ≤ W4.heap.size := H4.out.1.size
                have c7 : Fz (fun _ => False) w3 (((W5.setCell ⟨W4.heap.size, 0, none⟩ (.int .i64 (R0 : Int))).setCell ⟨W4.heap.size, 1, none⟩ (.int .i64 (cp : Int))).setCell ⟨W4.heap.size, 2, none⟩ (.int .i64 (cn : Int))) := ⟨k7.os.trans H5.out.1.os, k7.tape.trans H5.out.1.tape, k7.output.trans H5.out.1.output, Nat.le_trans H5.out.1.size k7.size, fun k hk hn => (k7.block k (Nat.lt_of_lt_of_le hk H5.out.1.size) (by omega)).trans (H5.out.1.block k hk hn)⟩
                have n1 := H5.out.2.2.2.2.2
                have H7 : R12 w ch cp cn R0 W4.heap.size (((W5.setCell ⟨W4.heap.size, 0, none⟩ (.int .i64 (R0 : Int))).setCell ⟨W4.heap.size, 1, none⟩ (.int .i64 (cp : Int))).setCell ⟨W4.heap.size, 2, none⟩ (.int .i64 (cn : Int))) := ⟨b7, k7.cells (by omega) H5.out.2.2.1, k7.cells (by omega) H5.out.2.2.2.1, z7, n1⟩
                have H7 := Lib.hid (And.intro H7 c7)
                clear z7 hge b7 k7 l7 c7 n1 f0 f1 f2 y0 y1 y2
                refine ⟨⟨⟨_, H7.out.2⟩, rfl⟩, ?_⟩
                unfold wpFreeM
                go_wp2_with fail
                go_meet
                exact ⟨W4.heap.size, rfl, H7.out.1⟩
            case rest =>
              obtain ⟨G, rfl, h7⟩ := hcut
              have y0 : wc.cell? ⟨G, 0, none⟩ = some (.int .i64 (R0 : Int)) := h7.y.cell 0
              have y1 : wc.cell? ⟨G, 1, none⟩ = some (.int .i64 (cp : Int)) := h7.y.cell 1
              have y2 : wc.cell? ⟨G, 2, none⟩ = some (.int .i64 (cn : Int)) := h7.y.cell 2
              have f1 := h7.y.froz 1
              have f2 := h7.y.froz 2
              have v0 : wc.cell? ⟨w.heap.size, 0, none⟩ = some (.int .i64 (ch : Int)) := h7.x.cell 0
              have v1 : wc.cell? ⟨w.heap.size, 1, none⟩ = some (.int .i64 (cp : Int)) := h7.x.cell 1
              have v2 : wc.cell? ⟨w.heap.size, 2, none⟩ = some (.int .i64 (cn : Int)) := h7.x.cell 2
              have l0 := h7.r.froz 0
              have l1 := h7.r.froz 1
              have l2 := h7.r.froz 2
              have m0 : wc.cell? ⟨w.heap.size + 1, 0, none⟩ = some (.int .i64 0) := h7.r.cell 0
              have m1 : wc.cell? ⟨w.heap.size + 1, 1, none⟩ = some (.int .i64 0) := h7.r.cell 1
              have m2 : wc.cell? ⟨w.heap.size + 1, 2, none⟩ = some (.int .i64 0) := h7.r.cell 2
              have hg := h7.g
              have C8 := HT.out.2.1
              have C9 := HT.out.2.2
              have H7 := Lib.hid h7
              clear h7 q0 q1 q2
              cases h0
              · go_wp2_with fail
                have z8 := ((H7.out.r.set 0 (.int .i64 (R0 : Int))).set 1 (.int .i64 (cp : Int))).set 2 (.int .i64 (cn : Int))
                have b8 := (((H7.out.b.setc (Nat.le_succ _) 0 (.int .i64 (R0 : Int))).setc (Nat.le_succ _) 1 (.int .i64 (cp : Int))).setc (Nat.le_succ _) 2 (.int .i64 (cn : Int)))
                have u0 := z8.cell 0
                have u1 := z8.cell 1
                have u2 := z8.cell 2
                simp at u0 u1 u2
                refine bodyPost_ret (v := .tuple #[.agg #[.int .i64 (R0 : Int), .int .i64 (cp : Int), .int .i64 (cn : Int)], .bool false, .bool false]) ?_ rfl ⟨by simp, b8⟩
                simp [results, Try.results10, go_sem, u0, u1, u2]
              · go_wp2_with fail
                refine (C8 _).mono ?_
                rintro e W9 ⟨rfl, hw9⟩
                obtain rfl := hw9.symm
                clear hw9 C8
                go_wp2_with fail
                have z8 := H7.out.y.set 1 (.int .i64 (R1 : Int))
                have b8 := H7.out.b.setc (show w.heap.size ≤ G by omega) 1 (.int .i64 (R1 : Int))
                have k8 := Fz.set (X := fun k => k = G) wc G 1 (.int .i64 (R1 : Int)) rfl
                obtain ⟨W8, hW8⟩ : ∃ V, wc.setCell ⟨G, 1, none⟩ (.int .i64 (R1 : Int)) = V := ⟨_, rfl⟩
                rw [hW8] at z8 b8 k8 ⊢
                clear hW8
                have x8 := k8.cells (by omega) H7.out.x
                have r8 := k8.cells (by omega) H7.out.r
                have H8 := Lib.hid (And.intro b8 (And.intro r8 (show Cells W8 G 27 #[.int .i64 (R0 : Int), .int .i64 (R1 : Int), .int .i64 (cn : Int)] from z8)))
                have v2' : W8.cell? ⟨w.heap.size, 2, none⟩ = some (.int .i64 (cn : Int)) := x8.cell 2
                have y2' : W8.cell? ⟨G, 2, none⟩ = some (.int .i64 (cn : Int)) := H8.out.2.2.cell 2
                have f2' := H8.out.2.2.froz 2
                clear z8 b8 k8 x8 r8 y0 y1 y2 f1 f2 v0 v1 v2 l0 l1 l2 m0 m1 m2
                go_wp2_with fail
                refine (C9 _).mono ?_
                rintro e W9 ⟨rfl, hw9⟩
                obtain rfl := hw9.symm
                clear hw9 C9
                go_upto_region 16 with fail
                have z9 := H8.out.2.2.set 2 (.int .i64 (R2 : Int))
                have b9 := H8.out.1.setc (show w.heap.size ≤ G by omega) 2 (.int .i64 (R2 : Int))
                have k9 := Fz.set (X := fun k => k = G) W8 G 2 (.int .i64 (R2 : Int)) rfl
                obtain ⟨W9, hW9⟩ : ∃ V, W8.setCell ⟨G, 2, none⟩ (.int .i64 (R2 : Int)) = V := ⟨_, rfl⟩
                rw [hW9] at z9 b9 k9 ⊢
                clear hW9
                have r9 := k9.cells (by omega) H8.out.2.1
                have z9' : Cells W9 G 27 #[.int .i64 (R0 : Int), .int .i64 (R1 : Int), .int .i64 (R2 : Int)] := z9
                have u0 : W9.cell? ⟨G, 0, none⟩ = some (.int .i64 (R0 : Int)) := z9'.cell 0
                have u1 : W9.cell? ⟨G, 1, none⟩ = some (.int .i64 (R1 : Int)) := z9'.cell 1
                have u2 : W9.cell? ⟨G, 2, none⟩ = some (.int .i64 (R2 : Int)) := z9'.cell 2
                have l0 := r9.froz 0
                have l1 := r9.froz 1
                have l2 := r9.froz 2
                have m0 : W9.cell? ⟨w.heap.size + 1, 0, none⟩ = some (.int .i64 0) := r9.cell 0
                have m1 : W9.cell? ⟨w.heap.size + 1, 1, none⟩ = some (.int .i64 0) := r9.cell 1
                have m2 : W9.cell? ⟨w.heap.size + 1, 2, none⟩ = some (.int .i64 0) := r9.cell 2
                have H9 := Lib.hid (And.intro b9 r9)
                clear z9 b9 k9 r9 z9' v2' y2' f2'
                go_wp2_with fail
                have zA := ((H9.out.2.set 0 (.int .i64 (R0 : Int))).set 1 (.int .i64 (R1 : Int))).set 2 (.int .i64 (R2 : Int))
                have bA := (((H9.out.1.setc (Nat.le_succ _) 0 (.int .i64 (R0 : Int))).setc (Nat.le_succ _) 1 (.int .i64 (R1 : Int))).setc (Nat.le_succ _) 2 (.int .i64 (R2 : Int)))
                have w0 := zA.cell 0
                have w1' := zA.cell 1
                have w2' := zA.cell 2
                simp at w0 w1' w2'
                refine bodyPost_ret (v := .tuple #[.agg #[.int .i64 (R0 : Int), .int .i64 (R1 : Int), .int .i64 (R2 : Int)], .bool (false), .bool (false)]) ?_ rfl ⟨by simp, bA⟩
                simp [results, Try.results10, go_sem, w0, w1', w2']
        · subst hby'
          go_upto_region 8 with fail
          go_cut [15, 16] from 49 to 56 (fun f x wx => f = .bool (false) ∧ x = .bool false ∧ wx = w3)
          case first =>
            cases h0 <;> cases b0
            all_goals
              go_wp2_with fail
              go_meet
              exact ⟨rfl, rfl, rfl⟩
          case rest =>
            obtain ⟨rfl, rfl, hwc⟩ := hcut
            obtain rfl := hwc.symm
            clear hwc
            go_upto_region 12 with fail
            have H03 := H3.out.2.2.lt
            go_cut [18] from 65 to 77 (fun v wx => ∃ G, v = .pointer (some ⟨G, 0, none⟩) ∧ R12 w ch cp cn R0 G wx)
            case first =>
              have g0 : ∀ p : Later (fun _ => False) w3, p.W.cell? ⟨w.heap.size, 0, none⟩ = some (.int .i64 (ch : Int)) := fun p => cell_later q0 (fun hf => hf) p
              have g1 : ∀ p : Later (fun _ => False) w3, p.W.cell? ⟨w.heap.size, 1, none⟩ = some (.int .i64 (cp : Int)) := fun p => cell_later q1 (fun hf => hf) p
              have g2 : ∀ p : Later (fun _ => False) w3, p.W.cell? ⟨w.heap.size, 2, none⟩ = some (.int .i64 (cn : Int)) := fun p => cell_later q2 (fun hf => hf) p
              clear q0 q1 q2
              refine wp_region_mixF (fun i => if i = 7 then 2 else if 12 ≤ i then 2 else 0) [0, 1, 2, 3, 4, 5, 6, 8, 9, 10, 11] 4 (fun w' => ∃ p : Later (fun _ => False) w3, w' = p.W) (by kernel_rfl) (by kernel_rfl) ⟨⟨_, Fz.drew w3⟩, rfl⟩ ?_
              simp only [opsAt, List.filterMap_cons, List.filterMap_nil, List.getElem?_toArray, List.getElem?_cons_zero, List.getElem?_cons_succ]
              change wpQuiet _ _ _ _ [_, _, _, _, _, _, _, _, _, _, _] _
              repeat (go_big_quiet_step (fail))
              refine wpQuiet_nil ?_
              clear g0 g1 g2
              have zz : Fz (fun _ => False) w3 { w3 with drawn := w3.drawn + 1 } := Fz.drew w3
              obtain ⟨W4, hW4⟩ : ∃ V, ({ w3 with drawn := w3.drawn + 1 } : World) = V := ⟨_, rfl⟩
              rw [hW4] at zz ⊢
              clear hW4
              have bz := zz.below (Nat.le_refl _) (fun _ _ hf => hf)
              have H4 := Lib.hid (And.intro zz (And.intro (H3.out.1.trans (bz.mono H3.out.1.size)) (And.intro (H3.out.2.1.on bz) (H3.out.2.2.on bz))))
              clear zz bz
              refine wpFreeM_step [7, 13] (by kernel_rfl) ⟨?_, ?_, trivial⟩
              · refine wpOp_of_list rfl ?_
                go_wp2_with fail
                refine (HT.out.1 _).mono ?_
                rintro e W9 ⟨rfl, hw9⟩
                obtain rfl := hw9.symm
                clear hw9
                go_wp2_with fail
                refine ⟨⟨⟨_, H4.out.1⟩, rfl⟩, ?_⟩
                refine wpFreeM_step [12, 13] (by kernel_rfl) ⟨?_, ?_, trivial⟩
                · refine wpOp_of_list rfl ?_
                  go_wp2_with fail
                  refine ⟨⟨⟨_, H4.out.1⟩, rfl⟩, ?_⟩
                  refine wpFreeM_step [13] (by kernel_rfl) ⟨?_, trivial⟩
                  refine wpOp_of_list rfl ?_
                  go_wp2_with fail
                  have x6 : Cells (W4.alloc (.cells #[.int .i64 0, .int .i64 0, .int .i64 0] 27)) W4.heap.size 27 #[.int .i64 0, .int .i64 0, .int .i64 0] := cells_new _ _ _
                  have b6 := below_new W4 (.cells #[.int .i64 0, .int .i64 0, .int .i64 0] 27)
                  obtain ⟨W5, hW5⟩ : ∃ V, W4.alloc (.cells #[.int .i64 0, .int .i64 0, .int .i64 0] 27) = V := ⟨_, rfl⟩
                  rw [hW5] at x6 b6 ⊢
                  clear hW5
                  have hzG := H4.out.1.trans (Fz.of_below b6)
                  have hws : w.heap.size + 1 < W4.heap.size := by have := H4.out.2.2.2.lt; omega
                  have H5 := Lib.hid (And.intro hzG (And.intro (H4.out.2.1.trans (b6.mono H4.out.2.1.size)) (And.intro (H4.out.2.2.1.on b6) (And.intro (H4.out.2.2.2.on b6) (And.intro x6 hws)))))
                  have f0 := x6.froz 0
                  have f1 := x6.froz 1
                  have f2 := x6.froz 2
                  have y0 : W5.cell? ⟨W4.heap.size, 0, none⟩ = some (.int .i64 0) := x6.cell 0
                  have y1 : W5.cell? ⟨W4.heap.size, 1, none⟩ = some (.int .i64 0) := x6.cell 1
                  have y2 : W5.cell? ⟨W4.heap.size, 2, none⟩ = some (.int .i64 0) := x6.cell 2
                  clear x6 b6 hzG hws
                  refine ⟨⟨⟨_, H5.out.1⟩, rfl⟩, ?_⟩
                  refine wpFreeM_step [14] (by kernel_rfl) ⟨?_, trivial⟩
                  refine wpOp_of_list rfl ?_
                  go_wp2_with fail
                  have z7 := ((H5.out.2.2.2.2.1.set 0 (.int .i64 (R0 : Int))).set 1 (.int .i64 (cp : Int))).set 2 (.int .i64 (cn : Int))
                  have hge : w.heap.size ≤ W4.heap.size := by have := H5.out.2.2.2.2.2; omega
                  have b7 := (((H5.out.2.1.setc hge 0 (.int .i64 (R0 : Int))).setc hge 1 (.int .i64 (cp : Int))).setc hge 2 (.int .i64 (cn : Int)))
                  have k7 : Fz (fun k => k = W4.heap.size) W5 (((W5.setCell ⟨W4.heap.size, 0, none⟩ (.int .i64 (R0 : Int))).setCell ⟨W4.heap.size, 1, none⟩ (.int .i64 (cp : Int))).setCell ⟨W4.heap.size, 2, none⟩ (.int .i64 (cn : Int))) := ((Fz.set (X := fun k => k = W4.heap.size) W5 W4.heap.size 0 (.int .i64 (R0 : Int)) rfl).trans (Fz.set (X := fun k => k = W4.heap.size) _ W4.heap.size 1 (.int .i64 (cp : Int)) rfl)).trans (Fz.set (X := fun k => k = W4.heap.size) _ W4.heap.size 2 (.int .i64 (cn : Int)) rfl)
                  have l7 : w3.heap.size ≤ W4.heap.size := H4.out.1.size
                  have c7 : Fz (fun _ => False) w3 (((W5.setCell ⟨W4.heap.size, 0, none⟩ (.int .i64 (R0 : Int))).setCell ⟨W4.heap.size, 1, none⟩ (.int .i64 (cp : Int))).setCell ⟨W4.heap.size, 2, none⟩ (.int .i64 (cn : Int))) := ⟨k7.os.trans H5.out.1.os, k7.tape.trans H5.out.1.tape, k7.output.trans H5.out.1.output, Nat.le_trans H5.out.1.size k7.size, fun k hk hn => (k7.block k (Nat.lt_of_lt_of_le hk H5.out.1.size) (by omega)).trans (H5.out.1.block k hk hn)⟩
                  have n1 := H5.out.2.2.2.2.2
                  have H7 : R12 w ch cp cn R0 W4.heap.size (((W5.setCell ⟨W4.heap.size, 0, none⟩ (.int .i64 (R0 : Int))).setCell ⟨W4.heap.size, 1, none⟩ (.int .i64 (cp : Int))).setCell ⟨W4.heap.size, 2, none⟩ (.int .i64 (cn : Int))) := ⟨b7, k7.cells (by omega) H5.out.2.2.1, k7.cells (by omega) H5.out.2.2.2.1, z7, n1⟩
                  have H7 := Lib.hid (And.intro H7 c7)
                  clear z7 hge b7 k7 l7 c7 n1 f0 f1 f2 y0 y1 y2
                  refine ⟨⟨⟨_, H7.out.2⟩, rfl⟩, ?_⟩
                  unfold wpFreeM
                  go_wp2_with fail
                  go_meet
                  exact ⟨W4.heap.size, rfl, H7.out.1⟩
                · refine wpOp_of_list rfl ?_
                  go_wp2_with fail
                  have x6 : Cells (W4.alloc (.cells #[.int .i64 0, .int .i64 0, .int .i64 0] 27)) W4.heap.size 27 #[.int .i64 0, .int .i64 0, .int .i64 0] := cells_new _ _ _
                  have b6 := below_new W4 (.cells #[.int .i64 0, .int .i64 0, .int .i64 0] 27)
                  obtain ⟨W5, hW5⟩ : ∃ V, W4.alloc (.cells #[.int .i64 0, .int .i64 0, .int .i64 0] 27) = V := ⟨_, rfl⟩
                  rw [hW5] at x6 b6 ⊢
                  clear hW5
                  have hzG := H4.out.1.trans (Fz.of_below b6)
                  have hws : w.heap.size + 1 < W4.heap.size := by have := H4.out.2.2.2.lt; omega
                  have H5 := Lib.hid (And.intro hzG (And.intro (H4.out.2.1.trans (b6.mono H4.out.2.1.size)) (And.intro (H4.out.2.2.1.on b6) (And.intro (H4.out.2.2.2.on b6) (And.intro x6 hws)))))
                  have f0 := x6.froz 0
                  have f1 := x6.froz 1
                  have f2 := x6.froz 2
                  have y0 : W5.cell? ⟨W4.heap.size, 0, none⟩ = some (.int .i64 0) := x6.cell 0
                  have y1 : W5.cell? ⟨W4.heap.size, 1, none⟩ = some (.int .i64 0) := x6.cell 1
                  have y2 : W5.cell? ⟨W4.heap.size, 2, none⟩ = some (.int .i64 0) := x6.cell 2
                  clear x6 b6 hzG hws
                  refine ⟨⟨⟨_, H5.out.1⟩, rfl⟩, ?_⟩
                  refine wpFreeM_step [12] (by kernel_rfl) ⟨?_, trivial⟩
                  refine wpOp_of_list rfl ?_
                  go_wp2_with fail
                  refine ⟨⟨⟨_, H5.out.1⟩, rfl⟩, ?_⟩
                  refine wpFreeM_step [14] (by kernel_rfl) ⟨?_, trivial⟩
                  refine wpOp_of_list rfl ?_
                  go_wp2_with fail
                  have z7 := ((H5.out.2.2.2.2.1.set 0 (.int .i64 (R0 : Int))).set 1 (.int .i64 (cp : Int))).set 2 (.int .i64 (cn : Int))
                  have hge : w.heap.size ≤ W4.heap.size := by have := H5.out.2.2.2.2.2; omega
                  have b7 := (((H5.out.2.1.setc hge 0 (.int .i64 (R0 : Int))).setc hge 1 (.int .i64 (cp : Int))).setc hge 2 (.int .i64 (cn : Int)))
                  have k7 : Fz (fun k => k = W4.heap.size) W5 (((W5.setCell ⟨W4.heap.size, 0, none⟩ (.int .i64 (R0 : Int))).setCell ⟨W4.heap.size, 1, none⟩ (.int .i64 (cp : Int))).setCell ⟨W4.heap.size, 2, none⟩ (.int .i64 (cn : Int))) := ((Fz.set (X := fun k => k = W4.heap.size) W5 W4.heap.size 0 (.int .i64 (R0 : Int)) rfl).trans (Fz.set (X := fun k => k = W4.heap.size) _ W4.heap.size 1 (.int .i64 (cp : Int)) rfl)).trans (Fz.set (X := fun k => k = W4.heap.size) _ W4.heap.size 2 (.int .i64 (cn : Int)) rfl)
                  have l7 : w3.heap.size ≤ W4.heap.size := H4.out.1.size
                  have c7 : Fz (fun _ => False) w3 (((W5.setCell ⟨W4.heap.size, 0, none⟩ (.int .i64 (R0 : Int))).setCell ⟨W4.heap.size, 1, none⟩ (.int .i64 (cp : Int))).setCell ⟨W4.heap.size, 2, none⟩ (.int .i64 (cn : Int))) := ⟨k7.os.trans H5.out.1.os, k7.tape.trans H5.out.1.tape, k7.output.trans H5.out.1.output, Nat.le_trans H5.out.1.size k7.size, fun k hk hn => (k7.block k (Nat.lt_of_lt_of_le hk H5.out.1.size) (by omega)).trans (H5.out.1.block k hk hn)⟩
                  have n1 := H5.out.2.2.2.2.2
                  have H7 : R12 w ch cp cn R0 W4.heap.size (((W5.setCell ⟨W4.heap.size, 0, none⟩ (.int .i64 (R0 : Int))).setCell ⟨W4.heap.size, 1, none⟩ (.int .i64 (cp : Int))).setCell ⟨W4.heap.size, 2, none⟩ (.int .i64 (cn : Int))) := ⟨b7, k7.cells (by omega) H5.out.2.2.1, k7.cells (by omega) H5.out.2.2.2.1, z7, n1⟩
                  have H7 := Lib.hid (And.intro H7 c7)
                  clear z7 hge b7 k7 l7 c7 n1 f0 f1 f2 y0 y1 y2
                  refine ⟨⟨⟨_, H7.out.2⟩, rfl⟩, ?_⟩
                  unfold wpFreeM
                  go_wp2_with fail
                  go_meet
                  exact ⟨W4.heap.size, rfl, H7.out.1⟩
              · refine wpOp_of_list rfl ?_
                go_wp2_with fail
                have x6 : Cells (W4.alloc (.cells #[.int .i64 0, .int .i64 0, .int .i64 0] 27)) W4.heap.size 27 #[.int .i64 0, .int .i64 0, .int .i64 0] := cells_new _ _ _
                have b6 := below_new W4 (.cells #[.int .i64 0, .int .i64 0, .int .i64 0] 27)
                obtain ⟨W5, hW5⟩ : ∃ V, W4.alloc (.cells #[.int .i64 0, .int .i64 0, .int .i64 0] 27) = V := ⟨_, rfl⟩
                rw [hW5] at x6 b6 ⊢
                clear hW5
                have hzG := H4.out.1.trans (Fz.of_below b6)
                have hws : w.heap.size + 1 < W4.heap.size := by have := H4.out.2.2.2.lt; omega
                have H5 := Lib.hid (And.intro hzG (And.intro (H4.out.2.1.trans (b6.mono H4.out.2.1.size)) (And.intro (H4.out.2.2.1.on b6) (And.intro (H4.out.2.2.2.on b6) (And.intro x6 hws)))))
                have f0 := x6.froz 0
                have f1 := x6.froz 1
                have f2 := x6.froz 2
                have y0 : W5.cell? ⟨W4.heap.size, 0, none⟩ = some (.int .i64 0) := x6.cell 0
                have y1 : W5.cell? ⟨W4.heap.size, 1, none⟩ = some (.int .i64 0) := x6.cell 1
                have y2 : W5.cell? ⟨W4.heap.size, 2, none⟩ = some (.int .i64 0) := x6.cell 2
                clear x6 b6 hzG hws
                refine ⟨⟨⟨_, H5.out.1⟩, rfl⟩, ?_⟩
                refine wpFreeM_step [7] (by kernel_rfl) ⟨?_, trivial⟩
                refine wpOp_of_list rfl ?_
                go_wp2_with fail
                refine (HT.out.1 _).mono ?_
                rintro e W9 ⟨rfl, hw9⟩
                obtain rfl := hw9.symm
                clear hw9
                go_wp2_with fail
                refine ⟨⟨⟨_, H5.out.1⟩, rfl⟩, ?_⟩
                refine wpFreeM_step [12] (by kernel_rfl) ⟨?_, trivial⟩
                refine wpOp_of_list rfl ?_
                go_wp2_with fail
                refine ⟨⟨⟨_, H5.out.1⟩, rfl⟩, ?_⟩
                refine wpFreeM_step [14] (by kernel_rfl) ⟨?_, trivial⟩
                refine wpOp_of_list rfl ?_
                go_wp2_with fail
                have z7 := ((H5.out.2.2.2.2.1.set 0 (.int .i64 (R0 : Int))).set 1 (.int .i64 (cp : Int))).set 2 (.int .i64 (cn : Int))
                have hge : w.heap.size ≤ W4.heap.size := by have := H5.out.2.2.2.2.2; omega
                have b7 := (((H5.out.2.1.setc hge 0 (.int .i64 (R0 : Int))).setc hge 1 (.int .i64 (cp : Int))).setc hge 2 (.int .i64 (cn : Int)))
                have k7 : Fz (fun k => k = W4.heap.size) W5 (((W5.setCell ⟨W4.heap.size, 0, none⟩ (.int .i64 (R0 : Int))).setCell ⟨W4.heap.size, 1, none⟩ (.int .i64 (cp : Int))).setCell ⟨W4.heap.size, 2, none⟩ (.int .i64 (cn : Int))) := ((Fz.set (X := fun k => k = W4.heap.size) W5 W4.heap.size 0 (.int .i64 (R0 : Int)) rfl).trans (Fz.set (X := fun k => k = W4.heap.size) _ W4.heap.size 1 (.int .i64 (cp : Int)) rfl)).trans (Fz.set (X := fun k => k = W4.heap.size) _ W4.heap.size 2 (.int .i64 (cn : Int)) rfl)
                have l7 : w3.heap.size ≤ W4.heap.size := H4.out.1.size
                have c7 : Fz (fun _ => False) w3 (((W5.setCell ⟨W4.heap.size, 0, none⟩ (.int .i64 (R0 : Int))).setCell ⟨W4.heap.size, 1, none⟩ (.int .i64 (cp : Int))).setCell ⟨W4.heap.size, 2, none⟩ (.int .i64 (cn : Int))) := ⟨k7.os.trans H5.out.1.os, k7.tape.trans H5.out.1.tape, k7.output.trans H5.out.1.output, Nat.le_trans H5.out.1.size k7.size, fun k hk hn => (k7.block k (Nat.lt_of_lt_of_le hk H5.out.1.size) (by omega)).trans (H5.out.1.block k hk hn)⟩
                have n1 := H5.out.2.2.2.2.2
                have H7 : R12 w ch cp cn R0 W4.heap.size (((W5.setCell ⟨W4.heap.size, 0, none⟩ (.int .i64 (R0 : Int))).setCell ⟨W4.heap.size, 1, none⟩ (.int .i64 (cp : Int))).setCell ⟨W4.heap.size, 2, none⟩ (.int .i64 (cn : Int))) := ⟨b7, k7.cells (by omega) H5.out.2.2.1, k7.cells (by omega) H5.out.2.2.2.1, z7, n1⟩
                have H7 := Lib.hid (And.intro H7 c7)
                clear z7 hge b7 k7 l7 c7 n1 f0 f1 f2 y0 y1 y2
                refine ⟨⟨⟨_, H7.out.2⟩, rfl⟩, ?_⟩
                unfold wpFreeM
                go_wp2_with fail
                go_meet
                exact ⟨W4.heap.size, rfl, H7.out.1⟩
            case rest =>
              obtain ⟨G, rfl, h7⟩ := hcut
              have y0 : wc.cell? ⟨G, 0, none⟩ = some (.int .i64 (R0 : Int)) := h7.y.cell 0
              have y1 : wc.cell? ⟨G, 1, none⟩ = some (.int .i64 (cp : Int)) := h7.y.cell 1
              have y2 : wc.cell? ⟨G, 2, none⟩ = some (.int .i64 (cn : Int)) := h7.y.cell 2
              have f1 := h7.y.froz 1
              have f2 := h7.y.froz 2
              have v0 : wc.cell? ⟨w.heap.size, 0, none⟩ = some (.int .i64 (ch : Int)) := h7.x.cell 0
              have v1 : wc.cell? ⟨w.heap.size, 1, none⟩ = some (.int .i64 (cp : Int)) := h7.x.cell 1
              have v2 : wc.cell? ⟨w.heap.size, 2, none⟩ = some (.int .i64 (cn : Int)) := h7.x.cell 2
              have l0 := h7.r.froz 0
              have l1 := h7.r.froz 1
              have l2 := h7.r.froz 2
              have m0 : wc.cell? ⟨w.heap.size + 1, 0, none⟩ = some (.int .i64 0) := h7.r.cell 0
              have m1 : wc.cell? ⟨w.heap.size + 1, 1, none⟩ = some (.int .i64 0) := h7.r.cell 1
              have m2 : wc.cell? ⟨w.heap.size + 1, 2, none⟩ = some (.int .i64 0) := h7.r.cell 2
              have hg := h7.g
              have C8 := HT.out.2.1
              have C9 := HT.out.2.2
              have H7 := Lib.hid h7
              clear h7 q0 q1 q2
              cases h0
              · go_wp2_with fail
                have z8 := ((H7.out.r.set 0 (.int .i64 (R0 : Int))).set 1 (.int .i64 (cp : Int))).set 2 (.int .i64 (cn : Int))
                have b8 := (((H7.out.b.setc (Nat.le_succ _) 0 (.int .i64 (R0 : Int))).setc (Nat.le_succ _) 1 (.int .i64 (cp : Int))).setc (Nat.le_succ _) 2 (.int .i64 (cn : Int)))
                have u0 := z8.cell 0
                have u1 := z8.cell 1
                have u2 := z8.cell 2
                simp at u0 u1 u2
                refine bodyPost_ret (v := .tuple #[.agg #[.int .i64 (R0 : Int), .int .i64 (cp : Int), .int .i64 (cn : Int)], .bool false, .bool false]) ?_ rfl ⟨by simp, b8⟩
                simp [results, Try.results10, go_sem, u0, u1, u2]
              · go_wp2_with fail
                refine (C8 _).mono ?_
                rintro e W9 ⟨rfl, hw9⟩
                obtain rfl := hw9.symm
                clear hw9 C8
                go_wp2_with fail
                have z8 := H7.out.y.set 1 (.int .i64 (R1 : Int))
                have b8 := H7.out.b.setc (show w.heap.size ≤ G by omega) 1 (.int .i64 (R1 : Int))
                have k8 := Fz.set (X := fun k => k = G) wc G 1 (.int .i64 (R1 : Int)) rfl
                obtain ⟨W8, hW8⟩ : ∃ V, wc.setCell ⟨G, 1, none⟩ (.int .i64 (R1 : Int)) = V := ⟨_, rfl⟩
                rw [hW8] at z8 b8 k8 ⊢
                clear hW8
                have x8 := k8.cells (by omega) H7.out.x
                have r8 := k8.cells (by omega) H7.out.r
                have H8 := Lib.hid (And.intro b8 (And.intro r8 (show Cells W8 G 27 #[.int .i64 (R0 : Int), .int .i64 (R1 : Int), .int .i64 (cn : Int)] from z8)))
                have v2' : W8.cell? ⟨w.heap.size, 2, none⟩ = some (.int .i64 (cn : Int)) := x8.cell 2
                have y2' : W8.cell? ⟨G, 2, none⟩ = some (.int .i64 (cn : Int)) := H8.out.2.2.cell 2
                have f2' := H8.out.2.2.froz 2
                clear z8 b8 k8 x8 r8 y0 y1 y2 f1 f2 v0 v1 v2 l0 l1 l2 m0 m1 m2
                go_wp2_with fail
                refine (C9 _).mono ?_
                rintro e W9 ⟨rfl, hw9⟩
                obtain rfl := hw9.symm
                clear hw9 C9
                go_upto_region 16 with fail
                have z9 := H8.out.2.2.set 2 (.int .i64 (R2 : Int))
                have b9 := H8.out.1.setc (show w.heap.size ≤ G by omega) 2 (.int .i64 (R2 : Int))
                have k9 := Fz.set (X := fun k => k = G) W8 G 2 (.int .i64 (R2 : Int)) rfl
                obtain ⟨W9, hW9⟩ : ∃ V, W8.setCell ⟨G, 2, none⟩ (.int .i64 (R2 : Int)) = V := ⟨_, rfl⟩
                rw [hW9] at z9 b9 k9 ⊢
                clear hW9
                have r9 := k9.cells (by omega) H8.out.2.1
                have z9' : Cells W9 G 27 #[.int .i64 (R0 : Int), .int .i64 (R1 : Int), .int .i64 (R2 : Int)] := z9
                have u0 : W9.cell? ⟨G, 0, none⟩ = some (.int .i64 (R0 : Int)) := z9'.cell 0
                have u1 : W9.cell? ⟨G, 1, none⟩ = some (.int .i64 (R1 : Int)) := z9'.cell 1
                have u2 : W9.cell? ⟨G, 2, none⟩ = some (.int .i64 (R2 : Int)) := z9'.cell 2
                have l0 := r9.froz 0
                have l1 := r9.froz 1
                have l2 := r9.froz 2
                have m0 : W9.cell? ⟨w.heap.size + 1, 0, none⟩ = some (.int .i64 0) := r9.cell 0
                have m1 : W9.cell? ⟨w.heap.size + 1, 1, none⟩ = some (.int .i64 0) := r9.cell 1
                have m2 : W9.cell? ⟨w.heap.size + 1, 2, none⟩ = some (.int .i64 0) := r9.cell 2
                have H9 := Lib.hid (And.intro b9 r9)
                clear z9 b9 k9 r9 z9' v2' y2' f2'
                go_wp2_with fail
                have zA := ((H9.out.2.set 0 (.int .i64 (R0 : Int))).set 1 (.int .i64 (R1 : Int))).set 2 (.int .i64 (R2 : Int))
                have bA := (((H9.out.1.setc (Nat.le_succ _) 0 (.int .i64 (R0 : Int))).setc (Nat.le_succ _) 1 (.int .i64 (R1 : Int))).setc (Nat.le_succ _) 2 (.int .i64 (R2 : Int)))
                have w0 := zA.cell 0
                have w1' := zA.cell 1
                have w2' := zA.cell 2
                simp at w0 w1' w2'
                refine bodyPost_ret (v := .tuple #[.agg #[.int .i64 (R0 : Int), .int .i64 (R1 : Int), .int .i64 (R2 : Int)], .bool (false), .bool (false)]) ?_ rfl ⟨by simp, bA⟩
                simp [results, Try.results10, go_sem, w0, w1', w2']
end Go.Proofs.Ytojinnnpfjhifaa
