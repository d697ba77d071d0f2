/-
  What the rows of flat lean on, part q.
-/
import Derived.Deep.CutRange
import Derived.Test.YtfafhbgkmlmmdaaGreatDoorYrp
import Derived.Test.YtfafhbgkmlmmdaaGreatDoorYrn
import Derived.Test.YtfafhbgkmlmmdaaGreatDoorYqk
import Derived.Test.YtfafhbgkmlmmdaaGreatDoorYqe
set_option maxRecDepth 100000
set_option maxHeartbeats 40000000
namespace Go.Proofs.YtfafhbgkmlmmdaaGreatDoor.K
open Go.RowKit Go.Shelf Go.Lib Go.Maps
attribute [local irreducible] nmL ofN
theorem refTake_Rts (sg : Bool) (nm : ByteArray) (ch cp cn : Nat) (hh : ch ≤ 255) (hp : cp ≤ 255) (hn : cn ≤ 255) (N : Nat) (b0 b1 b2 b3 b4 b5 b6 h0 : Bool)
  (t0 : ((N : Int) % 2 == 1) = b0) (t1 : ((N : Int) / 2 % 2 == 1) = b1) (t2 : ((N : Int) / 4 % 2 == 1) = b2) (t3 : ((N : Int) / 8 % 2 == 1) = b3) (t4 : ((N : Int) / 16 % 2 == 1) = b4)
  (t5 : ((N : Int) / 32 % 2 == 1) = b5) (t6 : ((N : Int) / 64 % 2 == 1) = b6) (e0 : ((ch : Int) == 0) = h0) (hN : N < 128) (by_ : Int) (hby : by_ = if b1 then 0 else if false then -1 else if sg then 0 else 1)
  (w : World) (CO : ∀ W, Calls Tryz.prog 85 #[.string nm] W fun e W' => e = .returned (.int .i64 (N : Int)) ∧ Below W.heap.size W W') :
  Calls Tryz.prog 53 #[.agg #[.int .i64 (ch : Int), .int .i64 (cp : Int), .int .i64 (cn : Int)], .bool false, .bool sg, .string nm] w fun e w' =>
   e = .returned (.tuple #[.agg #[.int .i64 ((if b2 then clampN ch by_ else ch : Nat) : Int), .int .i64 ((if h0 && b3 then clampN cp by_ else cp : Nat) : Int), .int .i64 ((if h0 && b4 then clampN cn by_ else cn : Nat) : Int)],
    .bool (h0 && (if false then b0 && !b1 else b0 || b5)), .bool (!false && (h0 && b6))]) ∧ Below w.heap.size w w' := by
 have hbyc : by_ = 0 ∨ by_ = 1 ∨ by_ = -1 := by subst hby; (repeat' split) <;> simp
 have CT := fun W => turn_any ch hh b2 by_ hbyc W
 have CT2 := fun W => turn_any cp hp b3 by_ hbyc W
 have CT3 := fun W => turn_any cn hn b4 by_ hbyc W
 obtain ⟨R0, hR0⟩ : ∃ R, (if b2 then clampN ch by_ else ch) = R := ⟨_, rfl⟩
 obtain ⟨R1, hR1⟩ : ∃ R, (if b3 then clampN cp by_ else cp) = R := ⟨_, rfl⟩
 obtain ⟨R2, hR2⟩ : ∃ R, (if b4 then clampN cn by_ else cn) = R := ⟨_, rfl⟩
 have hS1 : (if h0 && b3 then clampN cp by_ else cp) = if h0 then R1 else cp := by rw [← hR1]; cases h0 <;> simp
 have hS2 : (if h0 && b4 then clampN cn by_ else cn) = if h0 then R2 else cn := by rw [← hR2]; cases h0 <;> simp
 rw [hR0, hS1, hS2]
 simp only [hR0] at CT
 simp only [hR1] at CT2
 simp only [hR2] at CT3
 clear hR0 hR1 hR2 hS1 hS2
 obtain ⟨F1, hF1⟩ : ∃ q, (h0 && (if false then b0 && !b1 else b0 || b5)) = q := ⟨_, rfl⟩
 obtain ⟨X1, hX1⟩ : ∃ q, (!false && (h0 && b6)) = q := ⟨_, rfl⟩
 rw [hF1, hX1]
 have HFX := Lib.hid (And.intro hF1 hX1)
 clear hF1 hX1
 obtain ⟨W1, hW1⟩ : ∃ V, w.alloc (.cells #[.int .i64 (ch : Int), .int .i64 (cp : Int), .int .i64 (cn : Int)] 97) = V := ⟨_, rfl⟩
 have p1 : Below w.heap.size w W1 := by rw [← hW1]; exact below_new w _
 have o1 : Cells W1 w.heap.size 97 #[.int .i64 (ch : Int), .int .i64 (cp : Int), .int .i64 (cn : Int)] := by rw [← hW1]; exact cells_new _ _ _
 have s1 : W1.heap.size = w.heap.size + 1 := by rw [← hW1]; simp
 obtain ⟨W2, hW2⟩ : ∃ V, W1.alloc (.cells #[.int .i64 0, .int .i64 0, .int .i64 0] 97) = V := ⟨_, rfl⟩
 have p2 : Below W1.heap.size W1 W2 := by rw [← hW2]; exact below_new W1 _
 have o2 : Cells W2 (w.heap.size + 1) 97 #[.int .i64 0, .int .i64 0, .int .i64 0] := by rw [← s1, ← hW2]; exact cells_new _ _ _
 have s2 : W2.heap.size = w.heap.size + 2 := by rw [← hW2]; simp [s1]
 have HW := Lib.hid (And.intro hW1 (And.intro hW2 (And.intro (p1.trans (p2.mono p1.size)) (And.intro (o1.on p2) (And.intro o2 s2)))))
 have HT := Lib.hid (And.intro CT (And.intro CT2 CT3))
 have HB := Lib.hid hby
 clear hW1 hW2 p1 p2 o1 o2 s1 s2 CT CT2 CT3 hh hp hn hbyc hby
 go_enter Tryz.func53, Tryz.ntmps53
 go_wp2_with fail
 rw [HW.out.1, HW.out.2.1]
 refine (CO _).mono ?_
 rintro e w3 ⟨rfl, hb⟩
 have hb3 := HW.out.2.2.1.trans (hb.mono HW.out.2.2.1.size)
 have x1 := HW.out.2.2.2.1.on hb
 have x2 := HW.out.2.2.2.2.1.on hb
 have q0 := x1.cell 0
 have q1 := x1.cell 1
 have q2 := x1.cell 2
 simp at q0 q1 q2
 have H3 := Lib.hid (And.intro hb3 (And.intro x1 x2))
 clear hb hb3 x1 x2 CO
 go_upto_region 4 with fail
 go_cut [15] from 31 to 40 (fun f wx => f = .bool (h0 && (b0 || b5)) ∧ wx = w3)
 case first =>
  cases h0 <;> cases b0
  all_goals
   go_wp2_with fail
   go_meet
   exact ⟨rfl, rfl⟩
 case rest =>
  obtain ⟨rfl, hwc⟩ := hcut
  obtain rfl := hwc.symm
  clear hwc
  go_upto_region 5 with fail
  go_cut [16] from 41 to 47 (fun f wx => f = .bool (h0 && b6) ∧ wx = w3)
  case first =>
   cases h0
   all_goals
    go_wp2_with fail
    go_meet
    exact ⟨rfl, rfl⟩
  case rest =>
   obtain ⟨rfl, hwc⟩ := hcut
   obtain rfl := hwc.symm
   clear hwc
   have hf1 : (h0 && (b0 || b5)) = F1 := HFX.out.1
   have hx1 : (h0 && b6) = X1 := HFX.out.2
   rw [hf1, hx1]
   clear hf1 hx1
   cases hb1 : b1 <;> cases sg
   all_goals
    have hby' := HB.out
    simp only [hb1, Bool.false_eq_true, if_false, if_true] at hby'
    subst hby'
    go_upto_region 12 with fail
    have H03 := H3.out.2.2.lt
    go_cut [18] from 65 to 77 (fun v wx => ∃ G, v = .pointer (some ⟨G, 0, none⟩) ∧ R12 w ch cp cn R0 G wx)
    case first =>
     have g0 : ∀ p : Later (fun _ => False) w3, p.W.cell? ⟨w.heap.size, 0, none⟩ = some (.int .i64 (ch : Int)) := fun p => cell_later q0 (fun hf => hf) p
     have g1 : ∀ p : Later (fun _ => False) w3, p.W.cell? ⟨w.heap.size, 1, none⟩ = some (.int .i64 (cp : Int)) := fun p => cell_later q1 (fun hf => hf) p
     have g2 : ∀ p : Later (fun _ => False) w3, p.W.cell? ⟨w.heap.size, 2, none⟩ = some (.int .i64 (cn : Int)) := fun p => cell_later q2 (fun hf => hf) p
     clear q0 q1 q2
     refine wp_region_mixF (fun i => if i = 7 then 2 else if 12 ≤ i then 2 else 0) [0, 1, 2, 3, 4, 5, 6, 8, 9, 10, 11] 4 (fun w' => ∃ p : Later (fun _ => False) w3, w' = p.W) (by kernel_rfl) (by kernel_rfl) ⟨⟨_, Fz.drew w3⟩, rfl⟩ ?_
     simp only [opsAt, List.filterMap_cons, List.filterMap_nil, List.getElem?_toArray, List.getElem?_cons_zero, List.getElem?_cons_succ]
     change wpQuiet _ _ _ _ [_, _, _, _, _, _, _, _, _, _, _] _
     repeat (go_big_quiet_step (fail))
     refine wpQuiet_nil ?_
     clear g0 g1 g2
     have zz : Fz (fun _ => False) w3 { w3 with drawn := w3.drawn + 1 } := Fz.drew w3
     obtain ⟨W4, hW4⟩ : ∃ V, ({ w3 with drawn := w3.drawn + 1 } : World) = V := ⟨_, rfl⟩
     rw [hW4] at zz ⊢
     clear hW4
     have bz := zz.below (Nat.le_refl _) (fun _ _ hf => hf)
     have H4 := Lib.hid (And.intro zz (And.intro (H3.out.1.trans (bz.mono H3.out.1.size)) (And.intro (H3.out.2.1.on bz) (H3.out.2.2.on bz))))
     clear zz bz
     refine wpFreeM_step [7, 13] (by kernel_rfl) ⟨?_, ?_, trivial⟩
     ·refine wpOp_of_list rfl ?_
      go_wp2_with fail
      refine (HT.out.1 _).mono ?_
      rintro e W9 ⟨rfl, hw9⟩
      obtain rfl := hw9.symm
      clear hw9
      go_wp2_with fail
      refine ⟨⟨⟨_, H4.out.1⟩, rfl⟩, ?_⟩
      refine wpFreeM_step [12, 13] (by kernel_rfl) ⟨?_, ?_, trivial⟩
      ·refine wpOp_of_list rfl ?_
       go_wp2_with fail
       refine ⟨⟨⟨_, H4.out.1⟩, rfl⟩, ?_⟩
       refine wpFreeM_step [13] (by kernel_rfl) ⟨?_, trivial⟩
       refine wpOp_of_list rfl ?_
       go_wp2_with fail
       have x6 : Cells (W4.alloc (.cells #[.int .i64 0, .int .i64 0, .int .i64 0] 97)) W4.heap.size 97 #[.int .i64 0, .int .i64 0, .int .i64 0] := cells_new _ _ _
       have b6 := below_new W4 (.cells #[.int .i64 0, .int .i64 0, .int .i64 0] 97)
       obtain ⟨W5, hW5⟩ : ∃ V, W4.alloc (.cells #[.int .i64 0, .int .i64 0, .int .i64 0] 97) = V := ⟨_, rfl⟩
       rw [hW5] at x6 b6 ⊢
       clear hW5
       have hzG := H4.out.1.trans (Fz.of_below b6)
       have hws : w.heap.size + 1 < W4.heap.size := by have := H4.out.2.2.2.lt; omega
       have H5 := Lib.hid (And.intro hzG (And.intro (H4.out.2.1.trans (b6.mono H4.out.2.1.size)) (And.intro (H4.out.2.2.1.on b6) (And.intro (H4.out.2.2.2.on b6) (And.intro x6 hws)))))
       have f0 := x6.froz 0
       have f1 := x6.froz 1
       have f2 := x6.froz 2
       have y0 : W5.cell? ⟨W4.heap.size, 0, none⟩ = some (.int .i64 0) := x6.cell 0
       have y1 : W5.cell? ⟨W4.heap.size, 1, none⟩ = some (.int .i64 0) := x6.cell 1
       have y2 : W5.cell? ⟨W4.heap.size, 2, none⟩ = some (.int .i64 0) := x6.cell 2
       clear x6 b6 hzG hws
       refine ⟨⟨⟨_, H5.out.1⟩, rfl⟩, ?_⟩
       refine wpFreeM_step [14] (by kernel_rfl) ⟨?_, trivial⟩
       refine wpOp_of_list rfl ?_
       go_wp2_with fail
       have z7 := ((H5.out.2.2.2.2.1.set 0 (.int .i64 (R0 : Int))).set 1 (.int .i64 (cp : Int))).set 2 (.int .i64 (cn : Int))
       have hge : w.heap.size ≤ W4.heap.size := by have := H5.out.2.2.2.2.2; omega
       have b7 := (((H5.out.2.1.setc hge 0 (.int .i64 (R0 : Int))).setc hge 1 (.int .i64 (cp : Int))).setc hge 2 (.int .i64 (cn : Int)))
       have k7 : Fz (fun k => k = W4.heap.size) W5 (((W5.setCell ⟨W4.heap.size, 0, none⟩ (.int .i64 (R0 : Int))).setCell ⟨W4.heap.size, 1, none⟩ (.int .i64 (cp : Int))).setCell ⟨W4.heap.size, 2, none⟩ (.int .i64 (cn : Int))) := ((Fz.set (X := fun k => k = W4.heap.size) W5 W4.heap.size 0 (.int .i64 (R0 : Int)) rfl).trans (Fz.set (X := fun k => k = W4.heap.size) _ W4.heap.size 1 (.int .i64 (cp : Int)) rfl)).trans (Fz.set (X := fun k => k = W4.heap.size) _ W4.heap.size 2 (.int .i64 (cn : Int)) rfl)
       have l7 : w3.heap.size ≤ W4.heap.size := H4.out.1.size
       have c7 : Fz (fun _ => False) w3 (((W5.setCell ⟨W4.heap.size, 0, none⟩ (.int .i64 (R0 : Int))).setCell ⟨W4.heap.size, 1, none⟩ (.int .i64 (cp : Int))).setCell ⟨W4.heap.size, 2, none⟩ (.int .i64 (cn : Int))) := ⟨k7.os.trans H5.out.1.os, k7.tape.trans H5.out.1.tape, k7.output.trans H5.out.1.output, Nat.le_trans H5.out.1.size k7.size, fun k hk hn => (k7.block k (Nat.lt_of_lt_of_le hk H5.out.1.size) (by omega)).trans (H5.out.1.block k hk hn)⟩
       have n1 := H5.out.2.2.2.2.2
       have H7 : R12 w ch cp cn R0 W4.heap.size (((W5.setCell ⟨W4.heap.size, 0, none⟩ (.int .i64 (R0 : Int))).setCell ⟨W4.heap.size, 1, none⟩ (.int .i64 (cp : Int))).setCell ⟨W4.heap.size, 2, none⟩ (.int .i64 (cn : Int))) := ⟨b7, k7.cells (by omega) H5.out.2.2.1, k7.cells (by omega) H5.out.2.2.2.1, z7, n1⟩
       have H7 := Lib.hid (And.intro H7 c7)
       clear z7 hge b7 k7 l7 c7 n1 f0 f1 f2 y0 y1 y2
       refine ⟨⟨⟨_, H7.out.2⟩, rfl⟩, ?_⟩
       unfold wpFreeM
       go_wp2_with fail
       go_meet
       exact ⟨W4.heap.size, rfl, H7.out.1⟩
      ·refine wpOp_of_list rfl ?_
       go_wp2_with fail
       have x6 : Cells (W4.alloc (.cells #[.int .i64 0, .int .i64 0, .int .i64 0] 97)) W4.heap.size 97 #[.int .i64 0, .int .i64 0, .int .i64 0] := cells_new _ _ _
       have b6 := below_new W4 (.cells #[.int .i64 0, .int .i64 0, .int .i64 0] 97)
       obtain ⟨W5, hW5⟩ : ∃ V, W4.alloc (.cells #[.int .i64 0, .int .i64 0, .int .i64 0] 97) = V := ⟨_, rfl⟩
       rw [hW5] at x6 b6 ⊢
       clear hW5
       have hzG := H4.out.1.trans (Fz.of_below b6)
       have hws : w.heap.size + 1 < W4.heap.size := by have := H4.out.2.2.2.lt; omega
       have H5 := Lib.hid (And.intro hzG (And.intro (H4.out.2.1.trans (b6.mono H4.out.2.1.size)) (And.intro (H4.out.2.2.1.on b6) (And.intro (H4.out.2.2.2.on b6) (And.intro x6 hws)))))
       have f0 := x6.froz 0
       have f1 := x6.froz 1
       have f2 := x6.froz 2
       have y0 : W5.cell? ⟨W4.heap.size, 0, none⟩ = some (.int .i64 0) := x6.cell 0
       have y1 : W5.cell? ⟨W4.heap.size, 1, none⟩ = some (.int .i64 0) := x6.cell 1
       have y2 : W5.cell? ⟨W4.heap.size, 2, none⟩ = some (.int .i64 0) := x6.cell 2
       clear x6 b6 hzG hws
       refine ⟨⟨⟨_, H5.out.1⟩, rfl⟩, ?_⟩
       refine wpFreeM_step [12] (by kernel_rfl) ⟨?_, trivial⟩
       refine wpOp_of_list rfl ?_
       go_wp2_with fail
       refine ⟨⟨⟨_, H5.out.1⟩, rfl⟩, ?_⟩
       refine wpFreeM_step [14] (by kernel_rfl) ⟨?_, trivial⟩
       refine wpOp_of_list rfl ?_
       go_wp2_with fail
       have z7 := ((H5.out.2.2.2.2.1.set 0 (.int .i64 (R0 : Int))).set 1 (.int .i64 (cp : Int))).set 2 (.int .i64 (cn : Int))
       have hge : w.heap.size ≤ W4.heap.size := by have := H5.out.2.2.2.2.2; omega
       have b7 := (((H5.out.2.1.setc hge 0 (.int .i64 (R0 : Int))).setc hge 1 (.int .i64 (cp : Int))).setc hge 2 (.int .i64 (cn : Int)))
       have k7 : Fz (fun k => k = W4.heap.size) W5 (((W5.setCell ⟨W4.heap.size, 0, none⟩ (.int .i64 (R0 : Int))).setCell ⟨W4.heap.size, 1, none⟩ (.int .i64 (cp : Int))).setCell ⟨W4.heap.size, 2, none⟩ (.int .i64 (cn : Int))) := ((Fz.set (X := fun k => k = W4.heap.size) W5 W4.heap.size 0 (.int .i64 (R0 : Int)) rfl).trans (Fz.set (X := fun k => k = W4.heap.size) _ W4.heap.size 1 (.int .i64 (cp : Int)) rfl)).trans (Fz.set (X := fun k => k = W4.heap.size) _ W4.heap.size 2 (.int .i64 (cn : Int)) rfl)
       have l7 : w3.heap.size ≤ W4.heap.size := H4.out.1.size
       have c7 : Fz (fun _ => False) w3 (((W5.setCell ⟨W4.heap.size, 0, none⟩ (.int .i64 (R0 : Int))).setCell ⟨W4.heap.size, 1, none⟩ (.int .i64 (cp : Int))).setCell ⟨W4.heap.size, 2, none⟩ (.int .i64 (cn : Int))) := ⟨k7.os.trans H5.out.1.os, k7.tape.trans H5.out.1.tape, k7.output.trans H5.out.1.output, Nat.le_trans H5.out.1.size k7.size, fun k hk hn => (k7.block k (Nat.lt_of_lt_of_le hk H5.out.1.size) (by omega)).trans (H5.out.1.block k hk hn)⟩
       have n1 := H5.out.2.2.2.2.2
       have H7 : R12 w ch cp cn R0 W4.heap.size (((W5.setCell ⟨W4.heap.size, 0, none⟩ (.int .i64 (R0 : Int))).setCell ⟨W4.heap.size, 1, none⟩ (.int .i64 (cp : Int))).setCell ⟨W4.heap.size, 2, none⟩ (.int .i64 (cn : Int))) := ⟨b7, k7.cells (by omega) H5.out.2.2.1, k7.cells (by omega) H5.out.2.2.2.1, z7, n1⟩
       have H7 := Lib.hid (And.intro H7 c7)
       clear z7 hge b7 k7 l7 c7 n1 f0 f1 f2 y0 y1 y2
       refine ⟨⟨⟨_, H7.out.2⟩, rfl⟩, ?_⟩
       unfold wpFreeM
       go_wp2_with fail
       go_meet
       exact ⟨W4.heap.size, rfl, H7.out.1⟩
     ·refine wpOp_of_list rfl ?_
      go_wp2_with fail
      have x6 : Cells (W4.alloc (.cells #[.int .i64 0, .int .i64 0, .int .i64 0] 97)) W4.heap.size 97 #[.int .i64 0, .int .i64 0, .int .i64 0] := cells_new _ _ _
      have b6 := below_new W4 (.cells #[.int .i64 0, .int .i64 0, .int .i64 0] 97)
      obtain ⟨W5, hW5⟩ : ∃ V, W4.alloc (.cells #[.int .i64 0, .int .i64 0, .int .i64 0] 97) = V := ⟨_, rfl⟩
      rw [hW5] at x6 b6 ⊢
      clear hW5
      have hzG := H4.out.1.trans (Fz.of_below b6)
      have hws : w.heap.size + 1 < W4.heap.size := by have := H4.out.2.2.2.lt; omega
      have H5 := Lib.hid (And.intro hzG (And.intro (H4.out.2.1.trans (b6.mono H4.out.2.1.size)) (And.intro (H4.out.2.2.1.on b6) (And.intro (H4.out.2.2.2.on b6) (And.intro x6 hws)))))
      have f0 := x6.froz 0
      have f1 := x6.froz 1
      have f2 := x6.froz 2
      have y0 : W5.cell? ⟨W4.heap.size, 0, none⟩ = some (.int .i64 0) := x6.cell 0
      have y1 : W5.cell? ⟨W4.heap.size, 1, none⟩ = some (.int .i64 0) := x6.cell 1
      have y2 : W5.cell? ⟨W4.heap.size, 2, none⟩ = some (.int .i64 0) := x6.cell 2
      clear x6 b6 hzG hws
      refine ⟨⟨⟨_, H5.out.1⟩, rfl⟩, ?_⟩
      refine wpFreeM_step [7] (by kernel_rfl) ⟨?_, trivial⟩
      refine wpOp_of_list rfl ?_
      go_wp2_with fail
      refine (HT.out.1 _).mono ?_
      rintro e W9 ⟨rfl, hw9⟩
      obtain rfl := hw9.symm
      clear hw9
      go_wp2_with fail
      refine ⟨⟨⟨_, H5.out.1⟩, rfl⟩, ?_⟩
      refine wpFreeM_step [12] (by kernel_rfl) ⟨?_, trivial⟩
      refine wpOp_of_list rfl ?_
      go_wp2_with fail
      refine ⟨⟨⟨_, H5.out.1⟩, rfl⟩, ?_⟩
      refine wpFreeM_step [14] (by kernel_rfl) ⟨?_, trivial⟩
      refine wpOp_of_list rfl ?_
      go_wp2_with fail
      have z7 := ((H5.out.2.2.2.2.1.set 0 (.int .i64 (R0 : Int))).set 1 (.int .i64 (cp : Int))).set 2 (.int .i64 (cn : Int))
      have hge : w.heap.size ≤ W4.heap.size := by have := H5.out.2.2.2.2.2; omega
      have b7 := (((H5.out.2.1.setc hge 0 (.int .i64 (R0 : Int))).setc hge 1 (.int .i64 (cp : Int))).setc hge 2 (.int .i64 (cn : Int)))
      have k7 : Fz (fun k => k = W4.heap.size) W5 (((W5.setCell ⟨W4.heap.size, 0, none⟩ (.int .i64 (R0 : Int))).setCell ⟨W4.heap.size, 1, none⟩ (.int .i64 (cp : Int))).setCell ⟨W4.heap.size, 2, none⟩ (.int .i64 (cn : Int))) := ((Fz.set (X := fun k => k = W4.heap.size) W5 W4.heap.size 0 (.int .i64 (R0 : Int)) rfl).trans (Fz.set (X := fun k => k = W4.heap.size) _ W4.heap.size 1 (.int .i64 (cp : Int)) rfl)).trans (Fz.set (X := fun k => k = W4.heap.size) _ W4.heap.size 2 (.int .i64 (cn : Int)) rfl)
      have l7 : w3.heap.size ≤ W4.heap.size := H4.out.1.size
      have c7 : Fz (fun _ => False) w3 (((W5.setCell ⟨W4.heap.size, 0, none⟩ (.int .i64 (R0 : Int))).setCell ⟨W4.heap.size, 1, none⟩ (.int .i64 (cp : Int))).setCell ⟨W4.heap.size, 2, none⟩ (.int .i64 (cn : Int))) := ⟨k7.os.trans H5.out.1.os, k7.tape.trans H5.out.1.tape, k7.output.trans H5.out.1.output, Nat.le_trans H5.out.1.size k7.size, fun k hk hn => (k7.block k (Nat.lt_of_lt_of_le hk H5.out.1.size) (by omega)).trans (H5.out.1.block k hk hn)⟩
      have n1 := H5.out.2.2.2.2.2
      have H7 : R12 w ch cp cn R0 W4.heap.size (((W5.setCell ⟨W4.heap.size, 0, none⟩ (.int .i64 (R0 : Int))).setCell ⟨W4.heap.size, 1, none⟩ (.int .i64 (cp : Int))).setCell ⟨W4.heap.size, 2, none⟩ (.int .i64 (cn : Int))) := ⟨b7, k7.cells (by omega) H5.out.2.2.1, k7.cells (by omega) H5.out.2.2.2.1, z7, n1⟩
      have H7 := Lib.hid (And.intro H7 c7)
      clear z7 hge b7 k7 l7 c7 n1 f0 f1 f2 y0 y1 y2
      refine ⟨⟨⟨_, H7.out.2⟩, rfl⟩, ?_⟩
      unfold wpFreeM
      go_wp2_with fail
      go_meet
      exact ⟨W4.heap.size, rfl, H7.out.1⟩
    case rest =>
     obtain ⟨G, rfl, h7⟩ := hcut
     have y0 : wc.cell? ⟨G, 0, none⟩ = some (.int .i64 (R0 : Int)) := h7.y.cell 0
     have y1 : wc.cell? ⟨G, 1, none⟩ = some (.int .i64 (cp : Int)) := h7.y.cell 1
     have y2 : wc.cell? ⟨G, 2, none⟩ = some (.int .i64 (cn : Int)) := h7.y.cell 2
     have f1 := h7.y.froz 1
     have f2 := h7.y.froz 2
     have v0 : wc.cell? ⟨w.heap.size, 0, none⟩ = some (.int .i64 (ch : Int)) := h7.x.cell 0
     have v1 : wc.cell? ⟨w.heap.size, 1, none⟩ = some (.int .i64 (cp : Int)) := h7.x.cell 1
     have v2 : wc.cell? ⟨w.heap.size, 2, none⟩ = some (.int .i64 (cn : Int)) := h7.x.cell 2
     have l0 := h7.r.froz 0
     have l1 := h7.r.froz 1
     have l2 := h7.r.froz 2
     have m0 : wc.cell? ⟨w.heap.size + 1, 0, none⟩ = some (.int .i64 0) := h7.r.cell 0
     have m1 : wc.cell? ⟨w.heap.size + 1, 1, none⟩ = some (.int .i64 0) := h7.r.cell 1
     have m2 : wc.cell? ⟨w.heap.size + 1, 2, none⟩ = some (.int .i64 0) := h7.r.cell 2
     have hg := h7.g
     have C8 := HT.out.2.1
     have C9 := HT.out.2.2
     have H7 := Lib.hid h7
     clear h7 q0 q1 q2
     cases h0
     ·go_wp2_with fail
      have z8 := ((H7.out.r.set 0 (.int .i64 (R0 : Int))).set 1 (.int .i64 (cp : Int))).set 2 (.int .i64 (cn : Int))
      have b8 := (((H7.out.b.setc (Nat.le_succ _) 0 (.int .i64 (R0 : Int))).setc (Nat.le_succ _) 1 (.int .i64 (cp : Int))).setc (Nat.le_succ _) 2 (.int .i64 (cn : Int)))
      have u0 := z8.cell 0
      have u1 := z8.cell 1
      have u2 := z8.cell 2
      simp at u0 u1 u2
      refine bodyPost_ret (v := .tuple #[.agg #[.int .i64 (R0 : Int), .int .i64 (cp : Int), .int .i64 (cn : Int)], .bool F1, .bool X1]) ?_ rfl ⟨by simp, b8⟩
      simp [results, Tryz.results53, go_sem, u0, u1, u2]
     ·go_wp2_with fail
      refine (C8 _).mono ?_
      rintro e W9 ⟨rfl, hw9⟩
      obtain rfl := hw9.symm
      clear hw9 C8
      go_wp2_with fail
      have z8 := H7.out.y.set 1 (.int .i64 (R1 : Int))
      have b8 := H7.out.b.setc (show w.heap.size ≤ G by omega) 1 (.int .i64 (R1 : Int))
      have k8 := Fz.set (X := fun k => k = G) wc G 1 (.int .i64 (R1 : Int)) rfl
      obtain ⟨W8, hW8⟩ : ∃ V, wc.setCell ⟨G, 1, none⟩ (.int .i64 (R1 : Int)) = V := ⟨_, rfl⟩
      rw [hW8] at z8 b8 k8 ⊢
      clear hW8
      have x8 := k8.cells (by omega) H7.out.x
      have r8 := k8.cells (by omega) H7.out.r
      have H8 := Lib.hid (And.intro b8 (And.intro r8 (show Cells W8 G 97 #[.int .i64 (R0 : Int), .int .i64 (R1 : Int), .int .i64 (cn : Int)] from z8)))
      have v2' : W8.cell? ⟨w.heap.size, 2, none⟩ = some (.int .i64 (cn : Int)) := x8.cell 2
      have y2' : W8.cell? ⟨G, 2, none⟩ = some (.int .i64 (cn : Int)) := H8.out.2.2.cell 2
      have f2' := H8.out.2.2.froz 2
      clear z8 b8 k8 x8 r8 y0 y1 y2 f1 f2 v0 v1 v2 l0 l1 l2 m0 m1 m2
      go_wp2_with fail
      refine (C9 _).mono ?_
      rintro e W9 ⟨rfl, hw9⟩
      obtain rfl := hw9.symm
      clear hw9 C9
      go_upto_region 16 with fail
      have z9 := H8.out.2.2.set 2 (.int .i64 (R2 : Int))
      have b9 := H8.out.1.setc (show w.heap.size ≤ G by omega) 2 (.int .i64 (R2 : Int))
      have k9 := Fz.set (X := fun k => k = G) W8 G 2 (.int .i64 (R2 : Int)) rfl
      obtain ⟨W9, hW9⟩ : ∃ V, W8.setCell ⟨G, 2, none⟩ (.int .i64 (R2 : Int)) = V := ⟨_, rfl⟩
      rw [hW9] at z9 b9 k9 ⊢
      clear hW9
      have r9 := k9.cells (by omega) H8.out.2.1
      have z9' : Cells W9 G 97 #[.int .i64 (R0 : Int), .int .i64 (R1 : Int), .int .i64 (R2 : Int)] := z9
      have u0 : W9.cell? ⟨G, 0, none⟩ = some (.int .i64 (R0 : Int)) := z9'.cell 0
      have u1 : W9.cell? ⟨G, 1, none⟩ = some (.int .i64 (R1 : Int)) := z9'.cell 1
      have u2 : W9.cell? ⟨G, 2, none⟩ = some (.int .i64 (R2 : Int)) := z9'.cell 2
      have l0 := r9.froz 0
      have l1 := r9.froz 1
      have l2 := r9.froz 2
      have m0 : W9.cell? ⟨w.heap.size + 1, 0, none⟩ = some (.int .i64 0) := r9.cell 0
      have m1 : W9.cell? ⟨w.heap.size + 1, 1, none⟩ = some (.int .i64 0) := r9.cell 1
      have m2 : W9.cell? ⟨w.heap.size + 1, 2, none⟩ = some (.int .i64 0) := r9.cell 2
      have H9 := Lib.hid (And.intro b9 r9)
      clear z9 b9 k9 r9 z9' v2' y2' f2'
      go_wp2_with fail
      have zA := ((H9.out.2.set 0 (.int .i64 (R0 : Int))).set 1 (.int .i64 (R1 : Int))).set 2 (.int .i64 (R2 : Int))
      have bA := (((H9.out.1.setc (Nat.le_succ _) 0 (.int .i64 (R0 : Int))).setc (Nat.le_succ _) 1 (.int .i64 (R1 : Int))).setc (Nat.le_succ _) 2 (.int .i64 (R2 : Int)))
      have w0 := zA.cell 0
      have w1' := zA.cell 1
      have w2' := zA.cell 2
      simp at w0 w1' w2'
      refine bodyPost_ret (v := .tuple #[.agg #[.int .i64 (R0 : Int), .int .i64 (R1 : Int), .int .i64 (R2 : Int)], .bool F1, .bool X1]) ?_ rfl ⟨by simp, bA⟩
      simp [results, Tryz.results53, go_sem, w0, w1', w2']
theorem refTake_Rtn (sg : Bool) (nm : ByteArray) (ch cp cn : Nat) (hh : ch ≤ 255) (hp : cp ≤ 255) (hn : cn ≤ 255) (N : Nat) (b0 b1 b2 b3 b4 b5 b6 h0 : Bool)
  (t0 : ((N : Int) % 2 == 1) = b0) (t1 : ((N : Int) / 2 % 2 == 1) = b1) (t2 : ((N : Int) / 4 % 2 == 1) = b2) (t3 : ((N : Int) / 8 % 2 == 1) = b3) (t4 : ((N : Int) / 16 % 2 == 1) = b4)
  (t5 : ((N : Int) / 32 % 2 == 1) = b5) (t6 : ((N : Int) / 64 % 2 == 1) = b6) (e0 : ((ch : Int) == 0) = h0) (hN : N < 128) (by_ : Int) (hby : by_ = if b1 then 0 else if true then -1 else if sg then 0 else 1)
  (w : World) (CO : ∀ W, Calls Tryz.prog 85 #[.string nm] W fun e W' => e = .returned (.int .i64 (N : Int)) ∧ Below W.heap.size W W') :
  Calls Tryz.prog 53 #[.agg #[.int .i64 (ch : Int), .int .i64 (cp : Int), .int .i64 (cn : Int)], .bool true, .bool sg, .string nm] w fun e w' =>
   e = .returned (.tuple #[.agg #[.int .i64 ((if b2 then clampN ch by_ else ch : Nat) : Int), .int .i64 ((if h0 && b3 then clampN cp by_ else cp : Nat) : Int), .int .i64 ((if h0 && b4 then clampN cn by_ else cn : Nat) : Int)],
    .bool (h0 && (if true then b0 && !b1 else b0 || b5)), .bool (!true && (h0 && b6))]) ∧ Below w.heap.size w w' := by
 have hbyc : by_ = 0 ∨ by_ = 1 ∨ by_ = -1 := by subst hby; (repeat' split) <;> simp
 have CT := fun W => turn_any ch hh b2 by_ hbyc W
 have CT2 := fun W => turn_any cp hp b3 by_ hbyc W
 have CT3 := fun W => turn_any cn hn b4 by_ hbyc W
 obtain ⟨R0, hR0⟩ : ∃ R, (if b2 then clampN ch by_ else ch) = R := ⟨_, rfl⟩
 obtain ⟨R1, hR1⟩ : ∃ R, (if b3 then clampN cp by_ else cp) = R := ⟨_, rfl⟩
 obtain ⟨R2, hR2⟩ : ∃ R, (if b4 then clampN cn by_ else cn) = R := ⟨_, rfl⟩
 have hS1 : (if h0 && b3 then clampN cp by_ else cp) = if h0 then R1 else cp := by rw [← hR1]; cases h0 <;> simp
 have hS2 : (if h0 && b4 then clampN cn by_ else cn) = if h0 then R2 else cn := by rw [← hR2]; cases h0 <;> simp
 rw [hR0, hS1, hS2]
 simp only [hR0] at CT
 simp only [hR1] at CT2
 simp only [hR2] at CT3
 clear hR0 hR1 hR2 hS1 hS2
 obtain ⟨F1, hF1⟩ : ∃ q, (h0 && (if true then b0 && !b1 else b0 || b5)) = q := ⟨_, rfl⟩
 obtain ⟨X1, hX1⟩ : ∃ q, (!true && (h0 && b6)) = q := ⟨_, rfl⟩
 rw [hF1, hX1]
 have HFX := Lib.hid (And.intro hF1 hX1)
 clear hF1 hX1
 obtain ⟨W1, hW1⟩ : ∃ V, w.alloc (.cells #[.int .i64 (ch : Int), .int .i64 (cp : Int), .int .i64 (cn : Int)] 97) = V := ⟨_, rfl⟩
 have p1 : Below w.heap.size w W1 := by rw [← hW1]; exact below_new w _
 have o1 : Cells W1 w.heap.size 97 #[.int .i64 (ch : Int), .int .i64 (cp : Int), .int .i64 (cn : Int)] := by rw [← hW1]; exact cells_new _ _ _
 have s1 : W1.heap.size = w.heap.size + 1 := by rw [← hW1]; simp
 obtain ⟨W2, hW2⟩ : ∃ V, W1.alloc (.cells #[.int .i64 0, .int .i64 0, .int .i64 0] 97) = V := ⟨_, rfl⟩
 have p2 : Below W1.heap.size W1 W2 := by rw [← hW2]; exact below_new W1 _
 have o2 : Cells W2 (w.heap.size + 1) 97 #[.int .i64 0, .int .i64 0, .int .i64 0] := by rw [← s1, ← hW2]; exact cells_new _ _ _
 have s2 : W2.heap.size = w.heap.size + 2 := by rw [← hW2]; simp [s1]
 have HW := Lib.hid (And.intro hW1 (And.intro hW2 (And.intro (p1.trans (p2.mono p1.size)) (And.intro (o1.on p2) (And.intro o2 s2)))))
 have HT := Lib.hid (And.intro CT (And.intro CT2 CT3))
 have HB := Lib.hid hby
 clear hW1 hW2 p1 p2 o1 o2 s1 s2 CT CT2 CT3 hh hp hn hbyc hby
 go_enter Tryz.func53, Tryz.ntmps53
 go_wp2_with fail
 rw [HW.out.1, HW.out.2.1]
 refine (CO _).mono ?_
 rintro e w3 ⟨rfl, hb⟩
 have hb3 := HW.out.2.2.1.trans (hb.mono HW.out.2.2.1.size)
 have x1 := HW.out.2.2.2.1.on hb
 have x2 := HW.out.2.2.2.2.1.on hb
 have q0 := x1.cell 0
 have q1 := x1.cell 1
 have q2 := x1.cell 2
 simp at q0 q1 q2
 have H3 := Lib.hid (And.intro hb3 (And.intro x1 x2))
 clear hb hb3 x1 x2 CO
 go_upto_region 4 with fail
 go_cut [15] from 31 to 40 (fun f wx => f = .bool (h0 && (b0 || b5)) ∧ wx = w3)
 case first =>
  cases h0 <;> cases b0
  all_goals
   go_wp2_with fail
   go_meet
   exact ⟨rfl, rfl⟩
 case rest =>
  obtain ⟨rfl, hwc⟩ := hcut
  obtain rfl := hwc.symm
  clear hwc
  go_upto_region 5 with fail
  go_cut [16] from 41 to 47 (fun f wx => f = .bool (h0 && b6) ∧ wx = w3)
  case first =>
   cases h0
   all_goals
    go_wp2_with fail
    go_meet
    exact ⟨rfl, rfl⟩
  case rest =>
   obtain ⟨rfl, hwc⟩ := hcut
   obtain rfl := hwc.symm
   clear hwc
   cases hb1 : b1 <;> cases sg
   all_goals
    have hby' := HB.out
    simp only [hb1, Bool.false_eq_true, if_false, if_true] at hby'
    subst hby'
    go_upto_region 8 with fail
    go_cut [15, 16] from 49 to 56 (fun f x wx => f = .bool F1 ∧ x = .bool X1 ∧ wx = w3)
    case first =>
     have hf := HFX.out.1
     have hx := HFX.out.2
     rw [hb1] at hf
     have HF2 := Lib.hid (And.intro hf hx)
     clear hf hx
     cases h0 <;> cases b0
     all_goals
      go_wp2_with fail
      go_meet
      exact ⟨by rw [← HF2.out.1]; rfl, by rw [← HF2.out.2]; rfl, rfl⟩
    case rest =>
     obtain ⟨rfl, rfl, hwc⟩ := hcut
     obtain rfl := hwc.symm
     clear hwc
     go_upto_region 12 with fail
     have H03 := H3.out.2.2.lt
     go_cut [18] from 65 to 77 (fun v wx => ∃ G, v = .pointer (some ⟨G, 0, none⟩) ∧ R12 w ch cp cn R0 G wx)
     case first =>
      have g0 : ∀ p : Later (fun _ => False) w3, p.W.cell? ⟨w.heap.size, 0, none⟩ = some (.int .i64 (ch : Int)) := fun p => cell_later q0 (fun hf => hf) p
      have g1 : ∀ p : Later (fun _ => False) w3, p.W.cell? ⟨w.heap.size, 1, none⟩ = some (.int .i64 (cp : Int)) := fun p => cell_later q1 (fun hf => hf) p
      have g2 : ∀ p : Later (fun _ => False) w3, p.W.cell? ⟨w.heap.size, 2, none⟩ = some (.int .i64 (cn : Int)) := fun p => cell_later q2 (fun hf => hf) p
      clear q0 q1 q2
      refine wp_region_mixF (fun i => if i = 7 then 2 else if 12 ≤ i then 2 else 0) [0, 1, 2, 3, 4, 5, 6, 8, 9, 10, 11] 4 (fun w' => ∃ p : Later (fun _ => False) w3, w' = p.W) (by kernel_rfl) (by kernel_rfl) ⟨⟨_, Fz.drew w3⟩, rfl⟩ ?_
      simp only [opsAt, List.filterMap_cons, List.filterMap_nil, List.getElem?_toArray, List.getElem?_cons_zero, List.getElem?_cons_succ]
      change wpQuiet _ _ _ _ [_, _, _, _, _, _, _, _, _, _, _] _
      repeat (go_big_quiet_step (fail))
      refine wpQuiet_nil ?_
      clear g0 g1 g2
      have zz : Fz (fun _ => False) w3 { w3 with drawn := w3.drawn + 1 } := Fz.drew w3
      obtain ⟨W4, hW4⟩ : ∃ V, ({ w3 with drawn := w3.drawn + 1 } : World) = V := ⟨_, rfl⟩
      rw [hW4] at zz ⊢
      clear hW4
      have bz := zz.below (Nat.le_refl _) (fun _ _ hf => hf)
      have H4 := Lib.hid (And.intro zz (And.intro (H3.out.1.trans (bz.mono H3.out.1.size)) (And.intro (H3.out.2.1.on bz) (H3.out.2.2.on bz))))
      clear zz bz
      refine wpFreeM_step [7, 13] (by kernel_rfl) ⟨?_, ?_, trivial⟩
      ·refine wpOp_of_list rfl ?_
       go_wp2_with fail
       refine (HT.out.1 _).mono ?_
       rintro e W9 ⟨rfl, hw9⟩
       obtain rfl := hw9.symm
       clear hw9
       go_wp2_with fail
       refine ⟨⟨⟨_, H4.out.1⟩, rfl⟩, ?_⟩
       refine wpFreeM_step [12, 13] (by kernel_rfl) ⟨?_, ?_, trivial⟩
       ·refine wpOp_of_list rfl ?_
        go_wp2_with fail
        refine ⟨⟨⟨_, H4.out.1⟩, rfl⟩, ?_⟩
        refine wpFreeM_step [13] (by kernel_rfl) ⟨?_, trivial⟩
        refine wpOp_of_list rfl ?_
        go_wp2_with fail
        have x6 : Cells (W4.alloc (.cells #[.int .i64 0, .int .i64 0, .int .i64 0] 97)) W4.heap.size 97 #[.int .i64 0, .int .i64 0, .int .i64 0] := cells_new _ _ _
        have b6 := below_new W4 (.cells #[.int .i64 0, .int .i64 0, .int .i64 0] 97)
        obtain ⟨W5, hW5⟩ : ∃ V, W4.alloc (.cells #[.int .i64 0, .int .i64 0, .int .i64 0] 97) = V := ⟨_, rfl⟩
        rw [hW5] at x6 b6 ⊢
        clear hW5
        have hzG := H4.out.1.trans (Fz.of_below b6)
        have hws : w.heap.size + 1 < W4.heap.size := by have := H4.out.2.2.2.lt; omega
        have H5 := Lib.hid (And.intro hzG (And.intro (H4.out.2.1.trans (b6.mono H4.out.2.1.size)) (And.intro (H4.out.2.2.1.on b6) (And.intro (H4.out.2.2.2.on b6) (And.intro x6 hws)))))
        have f0 := x6.froz 0
        have f1 := x6.froz 1
        have f2 := x6.froz 2
        have y0 : W5.cell? ⟨W4.heap.size, 0, none⟩ = some (.int .i64 0) := x6.cell 0
        have y1 : W5.cell? ⟨W4.heap.size, 1, none⟩ = some (.int .i64 0) := x6.cell 1
        have y2 : W5.cell? ⟨W4.heap.size, 2, none⟩ = some (.int .i64 0) := x6.cell 2
        clear x6 b6 hzG hws
        refine ⟨⟨⟨_, H5.out.1⟩, rfl⟩, ?_⟩
        refine wpFreeM_step [14] (by kernel_rfl) ⟨?_, trivial⟩
        refine wpOp_of_list rfl ?_
        go_wp2_with fail
        have z7 := ((H5.out.2.2.2.2.1.set 0 (.int .i64 (R0 : Int))).set 1 (.int .i64 (cp : Int))).set 2 (.int .i64 (cn : Int))
        have hge : w.heap.size ≤ W4.heap.size := by have := H5.out.2.2.2.2.2; omega
        have b7 := (((H5.out.2.1.setc hge 0 (.int .i64 (R0 : Int))).setc hge 1 (.int .i64 (cp : Int))).setc hge 2 (.int .i64 (cn : Int)))
        have k7 : Fz (fun k => k = W4.heap.size) W5 (((W5.setCell ⟨W4.heap.size, 0, none⟩ (.int .i64 (R0 : Int))).setCell ⟨W4.heap.size, 1, none⟩ (.int .i64 (cp : Int))).setCell ⟨W4.heap.size, 2, none⟩ (.int .i64 (cn : Int))) := ((Fz.set (X := fun k => k = W4.heap.size) W5 W4.heap.size 0 (.int .i64 (R0 : Int)) rfl).trans (Fz.set (X := fun k => k = W4.heap.size) _ W4.heap.size 1 (.int .i64 (cp : Int)) rfl)).trans (Fz.set (X := fun k => k = W4.heap.size) _ W4.heap.size 2 (.int .i64 (cn : Int)) rfl)
        have l7 : w3.heap.size ≤ W4.heap.size := H4.out.1.size
        have c7 : Fz (fun _ => False) w3 (((W5.setCell ⟨W4.heap.size, 0, none⟩ (.int .i64 (R0 : Int))).setCell ⟨W4.heap.size, 1, none⟩ (.int .i64 (cp : Int))).setCell ⟨W4.heap.size, 2, none⟩ (.int .i64 (cn : Int))) := ⟨k7.os.trans H5.out.1.os, k7.tape.trans H5.out.1.tape, k7.output.trans H5.out.1.output, Nat.le_trans H5.out.1.size k7.size, fun k hk hn => (k7.block k (Nat.lt_of_lt_of_le hk H5.out.1.size) (by omega)).trans (H5.out.1.block k hk hn)⟩
        have n1 := H5.out.2.2.2.2.2
        have H7 : R12 w ch cp cn R0 W4.heap.size (((W5.setCell ⟨W4.heap.size, 0, none⟩ (.int .i64 (R0 : Int))).setCell ⟨W4.heap.size, 1, none⟩ (.int .i64 (cp : Int))).setCell ⟨W4.heap.size, 2, none⟩ (.int .i64 (cn : Int))) := ⟨b7, k7.cells (by omega) H5.out.2.2.1, k7.cells (by omega) H5.out.2.2.2.1, z7, n1⟩
        have H7 := Lib.hid (And.intro H7 c7)
        clear z7 hge b7 k7 l7 c7 n1 f0 f1 f2 y0 y1 y2
        refine ⟨⟨⟨_, H7.out.2⟩, rfl⟩, ?_⟩
        unfold wpFreeM
        go_wp2_with fail
        go_meet
        exact ⟨W4.heap.size, rfl, H7.out.1⟩
       ·refine wpOp_of_list rfl ?_
        go_wp2_with fail
        have x6 : Cells (W4.alloc (.cells #[.int .i64 0, .int .i64 0, .int .i64 0] 97)) W4.heap.size 97 #[.int .i64 0, .int .i64 0, .int .i64 0] := cells_new _ _ _
        have b6 := below_new W4 (.cells #[.int .i64 0, .int .i64 0, .int .i64 0] 97)
        obtain ⟨W5, hW5⟩ : ∃ V, W4.alloc (.cells #[.int .i64 0, .int .i64 0, .int .i64 0] 97) = V := ⟨_, rfl⟩
        rw [hW5] at x6 b6 ⊢
        clear hW5
        have hzG := H4.out.1.trans (Fz.of_below b6)
        have hws : w.heap.size + 1 < W4.heap.size := by have := H4.out.2.2.2.lt; omega
        have H5 := Lib.hid (And.intro hzG (And.intro (H4.out.2.1.trans (b6.mono H4.out.2.1.size)) (And.intro (H4.out.2.2.1.on b6) (And.intro (H4.out.2.2.2.on b6) (And.intro x6 hws)))))
        have f0 := x6.froz 0
        have f1 := x6.froz 1
        have f2 := x6.froz 2
        have y0 : W5.cell? ⟨W4.heap.size, 0, none⟩ = some (.int .i64 0) := x6.cell 0
        have y1 : W5.cell? ⟨W4.heap.size, 1, none⟩ = some (.int .i64 0) := x6.cell 1
        have y2 : W5.cell? ⟨W4.heap.size, 2, none⟩ = some (.int .i64 0) := x6.cell 2
        clear x6 b6 hzG hws
        refine ⟨⟨⟨_, H5.out.1⟩, rfl⟩, ?_⟩
        refine wpFreeM_step [12] (by kernel_rfl) ⟨?_, trivial⟩
        refine wpOp_of_list rfl ?_
        go_wp2_with fail
        refine ⟨⟨⟨_, H5.out.1⟩, rfl⟩, ?_⟩
        refine wpFreeM_step [14] (by kernel_rfl) ⟨?_, trivial⟩
        refine wpOp_of_list rfl ?_
        go_wp2_with fail
        have z7 := ((H5.out.2.2.2.2.1.set 0 (.int .i64 (R0 : Int))).set 1 (.int .i64 (cp : Int))).set 2 (.int .i64 (cn : Int))
        have hge : w.heap.size ≤ W4.heap.size := by have := H5.out.2.2.2.2.2; omega
        have b7 := (((H5.out.2.1.setc hge 0 (.int .i64 (R0 : Int))).setc hge 1 (.int .i64 (cp : Int))).setc hge 2 (.int .i64 (cn : Int)))
        have k7 : Fz (fun k => k = W4.heap.size) W5 (((W5.setCell ⟨W4.heap.size, 0, none⟩ (.int .i64 (R0 : Int))).setCell ⟨W4.heap.size, 1, none⟩ (.int .i64 (cp : Int))).setCell ⟨W4.heap.size, 2, none⟩ (.int .i64 (cn : Int))) := ((Fz.set (X := fun k => k = W4.heap.size) W5 W4.heap.size 0 (.int .i64 (R0 : Int)) rfl).trans (Fz.set (X := fun k => k = W4.heap.size) _ W4.heap.size 1 (.int .i64 (cp : Int)) rfl)).trans (Fz.set (X := fun k => k = W4.heap.size) _ W4.heap.size 2 (.int .i64 (cn : Int)) rfl)
        have l7 : w3.heap.size ≤ W4.heap.size := H4.out.1.size
        have c7 : Fz (fun _ => False) w3 (((W5.setCell ⟨W4.heap.size, 0, none⟩ (.int .i64 (R0 : Int))).setCell ⟨W4.heap.size, 1, none⟩ (.int .i64 (cp : Int))).setCell ⟨W4.heap.size, 2, none⟩ (.int .i64 (cn : Int))) := ⟨k7.os.trans H5.out.1.os, k7.tape.trans H5.out.1.tape, k7.output.trans H5.out.1.output, Nat.le_trans H5.out.1.size k7.size, fun k hk hn => (k7.block k (Nat.lt_of_lt_of_le hk H5.out.1.size) (by omega)).trans (H5.out.1.block k hk hn)⟩
        have n1 := H5.out.2.2.2.2.2
        have H7 : R12 w ch cp cn R0 W4.heap.size (((W5.setCell ⟨W4.heap.size, 0, none⟩ (.int .i64 (R0 : Int))).setCell ⟨W4.heap.size, 1, none⟩ (.int .i64 (cp : Int))).setCell ⟨W4.heap.size, 2, none⟩ (.int .i64 (cn : Int))) := ⟨b7, k7.cells (by omega) H5.out.2.2.1, k7.cells (by omega) H5.out.2.2.2.1, z7, n1⟩
        have H7 := Lib.hid (And.intro H7 c7)
        clear z7 hge b7 k7 l7 c7 n1 f0 f1 f2 y0 y1 y2
        refine ⟨⟨⟨_, H7.out.2⟩, rfl⟩, ?_⟩
        unfold wpFreeM
        go_wp2_with fail
        go_meet
        exact ⟨W4.heap.size, rfl, H7.out.1⟩
      ·refine wpOp_of_list rfl ?_
       go_wp2_with fail
       have x6 : Cells (W4.alloc (.cells #[.int .i64 0, .int .i64 0, .int .i64 0] 97)) W4.heap.size 97 #[.int .i64 0, .int .i64 0, .int .i64 0] := cells_new _ _ _
       have b6 := below_new W4 (.cells #[.int .i64 0, .int .i64 0, .int .i64 0] 97)
       obtain ⟨W5, hW5⟩ : ∃ V, W4.alloc (.cells #[.int .i64 0, .int .i64 0, .int .i64 0] 97) = V := ⟨_, rfl⟩
       rw [hW5] at x6 b6 ⊢
       clear hW5
       have hzG := H4.out.1.trans (Fz.of_below b6)
       have hws : w.heap.size + 1 < W4.heap.size := by have := H4.out.2.2.2.lt; omega
       have H5 := Lib.hid (And.intro hzG (And.intro (H4.out.2.1.trans (b6.mono H4.out.2.1.size)) (And.intro (H4.out.2.2.1.on b6) (And.intro (H4.out.2.2.2.on b6) (And.intro x6 hws)))))
       have f0 := x6.froz 0
       have f1 := x6.froz 1
       have f2 := x6.froz 2
       have y0 : W5.cell? ⟨W4.heap.size, 0, none⟩ = some (.int .i64 0) := x6.cell 0
       have y1 : W5.cell? ⟨W4.heap.size, 1, none⟩ = some (.int .i64 0) := x6.cell 1
       have y2 : W5.cell? ⟨W4.heap.size, 2, none⟩ = some (.int .i64 0) := x6.cell 2
       clear x6 b6 hzG hws
       refine ⟨⟨⟨_, H5.out.1⟩, rfl⟩, ?_⟩
       refine wpFreeM_step [7] (by kernel_rfl) ⟨?_, trivial⟩
       refine wpOp_of_list rfl ?_
       go_wp2_with fail
       refine (HT.out.1 _).mono ?_
       rintro e W9 ⟨rfl, hw9⟩
       obtain rfl := hw9.symm
       clear hw9
       go_wp2_with fail
       refine ⟨⟨⟨_, H5.out.1⟩, rfl⟩, ?_⟩
       refine wpFreeM_step [12] (by kernel_rfl) ⟨?_, trivial⟩
       refine wpOp_of_list rfl ?_
       go_wp2_with fail
       refine ⟨⟨⟨_, H5.out.1⟩, rfl⟩, ?_⟩
       refine wpFreeM_step [14] (by kernel_rfl) ⟨?_, trivial⟩
       refine wpOp_of_list rfl ?_
       go_wp2_with fail
       have z7 := ((H5.out.2.2.2.2.1.set 0 (.int .i64 (R0 : Int))).set 1 (.int .i64 (cp : Int))).set 2 (.int .i64 (cn : Int))
       have hge : w.heap.size ≤ W4.heap.size := by have := H5.out.2.2.2.2.2; omega
       have b7 := (((H5.out.2.1.setc hge 0 (.int .i64 (R0 : Int))).setc hge 1 (.int .i64 (cp : Int))).setc hge 2 (.int .i64 (cn : Int)))
       have k7 : Fz (fun k => k = W4.heap.size) W5 (((W5.setCell ⟨W4.heap.size, 0, none⟩ (.int .i64 (R0 : Int))).setCell ⟨W4.heap.size, 1, none⟩ (.int .i64 (cp : Int))).setCell ⟨W4.heap.size, 2, none⟩ (.int .i64 (cn : Int))) := ((Fz.set (X := fun k => k = W4.heap.size) W5 W4.heap.size 0 (.int .i64 (R0 : Int)) rfl).trans (Fz.set (X := fun k => k = W4.heap.size) _ W4.heap.size 1 (.int .i64 (cp : Int)) rfl)).trans (Fz.set (X := fun k => k = W4.heap.size) _ W4.heap.size 2 (.int .i64 (cn : Int)) rfl)
       have l7 : w3.heap.size ≤ W4.heap.size := H4.out.1.size
       have c7 : Fz (fun _ => False) w3 (((W5.setCell ⟨W4.heap.size, 0, none⟩ (.int .i64 (R0 : Int))).setCell ⟨W4.heap.size, 1, none⟩ (.int .i64 (cp : Int))).setCell ⟨W4.heap.size, 2, none⟩ (.int .i64 (cn : Int))) := ⟨k7.os.trans H5.out.1.os, k7.tape.trans H5.out.1.tape, k7.output.trans H5.out.1.output, Nat.le_trans H5.out.1.size k7.size, fun k hk hn => (k7.block k (Nat.lt_of_lt_of_le hk H5.out.1.size) (by omega)).trans (H5.out.1.block k hk hn)⟩
       have n1 := H5.out.2.2.2.2.2
       have H7 : R12 w ch cp cn R0 W4.heap.size (((W5.setCell ⟨W4.heap.size, 0, none⟩ (.int .i64 (R0 : Int))).setCell ⟨W4.heap.size, 1, none⟩ (.int .i64 (cp : Int))).setCell ⟨W4.heap.size, 2, none⟩ (.int .i64 (cn : Int))) := ⟨b7, k7.cells (by omega) H5.out.2.2.1, k7.cells (by omega) H5.out.2.2.2.1, z7, n1⟩
       have H7 := Lib.hid (And.intro H7 c7)
       clear z7 hge b7 k7 l7 c7 n1 f0 f1 f2 y0 y1 y2
       refine ⟨⟨⟨_, H7.out.2⟩, rfl⟩, ?_⟩
       unfold wpFreeM
       go_wp2_with fail
       go_meet
       exact ⟨W4.heap.size, rfl, H7.out.1⟩
     case rest =>
      obtain ⟨G, rfl, h7⟩ := hcut
      have y0 : wc.cell? ⟨G, 0, none⟩ = some (.int .i64 (R0 : Int)) := h7.y.cell 0
      have y1 : wc.cell? ⟨G, 1, none⟩ = some (.int .i64 (cp : Int)) := h7.y.cell 1
      have y2 : wc.cell? ⟨G, 2, none⟩ = some (.int .i64 (cn : Int)) := h7.y.cell 2
      have f1 := h7.y.froz 1
      have f2 := h7.y.froz 2
      have v0 : wc.cell? ⟨w.heap.size, 0, none⟩ = some (.int .i64 (ch : Int)) := h7.x.cell 0
      have v1 : wc.cell? ⟨w.heap.size, 1, none⟩ = some (.int .i64 (cp : Int)) := h7.x.cell 1
      have v2 : wc.cell? ⟨w.heap.size, 2, none⟩ = some (.int .i64 (cn : Int)) := h7.x.cell 2
      have l0 := h7.r.froz 0
      have l1 := h7.r.froz 1
      have l2 := h7.r.froz 2
      have m0 : wc.cell? ⟨w.heap.size + 1, 0, none⟩ = some (.int .i64 0) := h7.r.cell 0
      have m1 : wc.cell? ⟨w.heap.size + 1, 1, none⟩ = some (.int .i64 0) := h7.r.cell 1
      have m2 : wc.cell? ⟨w.heap.size + 1, 2, none⟩ = some (.int .i64 0) := h7.r.cell 2
      have hg := h7.g
      have C8 := HT.out.2.1
      have C9 := HT.out.2.2
      have H7 := Lib.hid h7
      clear h7 q0 q1 q2
      cases h0
      ·go_wp2_with fail
       have z8 := ((H7.out.r.set 0 (.int .i64 (R0 : Int))).set 1 (.int .i64 (cp : Int))).set 2 (.int .i64 (cn : Int))
       have b8 := (((H7.out.b.setc (Nat.le_succ _) 0 (.int .i64 (R0 : Int))).setc (Nat.le_succ _) 1 (.int .i64 (cp : Int))).setc (Nat.le_succ _) 2 (.int .i64 (cn : Int)))
       have u0 := z8.cell 0
       have u1 := z8.cell 1
       have u2 := z8.cell 2
       simp at u0 u1 u2
       refine bodyPost_ret (v := .tuple #[.agg #[.int .i64 (R0 : Int), .int .i64 (cp : Int), .int .i64 (cn : Int)], .bool F1, .bool X1]) ?_ rfl ⟨by simp, b8⟩
       simp [results, Tryz.results53, go_sem, u0, u1, u2]
      ·go_wp2_with fail
       refine (C8 _).mono ?_
       rintro e W9 ⟨rfl, hw9⟩
       obtain rfl := hw9.symm
       clear hw9 C8
       go_wp2_with fail
       have z8 := H7.out.y.set 1 (.int .i64 (R1 : Int))
       have b8 := H7.out.b.setc (show w.heap.size ≤ G by omega) 1 (.int .i64 (R1 : Int))
       have k8 := Fz.set (X := fun k => k = G) wc G 1 (.int .i64 (R1 : Int)) rfl
       obtain ⟨W8, hW8⟩ : ∃ V, wc.setCell ⟨G, 1, none⟩ (.int .i64 (R1 : Int)) = V := ⟨_, rfl⟩
       rw [hW8] at z8 b8 k8 ⊢
       clear hW8
       have x8 := k8.cells (by omega) H7.out.x
       have r8 := k8.cells (by omega) H7.out.r
       have H8 := Lib.hid (And.intro b8 (And.intro r8 (show Cells W8 G 97 #[.int .i64 (R0 : Int), .int .i64 (R1 : Int), .int .i64 (cn : Int)] from z8)))
       have v2' : W8.cell? ⟨w.heap.size, 2, none⟩ = some (.int .i64 (cn : Int)) := x8.cell 2
       have y2' : W8.cell? ⟨G, 2, none⟩ = some (.int .i64 (cn : Int)) := H8.out.2.2.cell 2
       have f2' := H8.out.2.2.froz 2
       clear z8 b8 k8 x8 r8 y0 y1 y2 f1 f2 v0 v1 v2 l0 l1 l2 m0 m1 m2
       go_wp2_with fail
       refine (C9 _).mono ?_
       rintro e W9 ⟨rfl, hw9⟩
       obtain rfl := hw9.symm
       clear hw9 C9
       go_upto_region 16 with fail
       have z9 := H8.out.2.2.set 2 (.int .i64 (R2 : Int))
       have b9 := H8.out.1.setc (show w.heap.size ≤ G by omega) 2 (.int .i64 (R2 : Int))
       have k9 := Fz.set (X := fun k => k = G) W8 G 2 (.int .i64 (R2 : Int)) rfl
       obtain ⟨W9, hW9⟩ : ∃ V, W8.setCell ⟨G, 2, none⟩ (.int .i64 (R2 : Int)) = V := ⟨_, rfl⟩
       rw [hW9] at z9 b9 k9 ⊢
       clear hW9
       have r9 := k9.cells (by omega) H8.out.2.1
       have z9' : Cells W9 G 97 #[.int .i64 (R0 : Int), .int .i64 (R1 : Int), .int .i64 (R2 : Int)] := z9
       have u0 : W9.cell? ⟨G, 0, none⟩ = some (.int .i64 (R0 : Int)) := z9'.cell 0
       have u1 : W9.cell? ⟨G, 1, none⟩ = some (.int .i64 (R1 : Int)) := z9'.cell 1
       have u2 : W9.cell? ⟨G, 2, none⟩ = some (.int .i64 (R2 : Int)) := z9'.cell 2
       have l0 := r9.froz 0
       have l1 := r9.froz 1
       have l2 := r9.froz 2
       have m0 : W9.cell? ⟨w.heap.size + 1, 0, none⟩ = some (.int .i64 0) := r9.cell 0
       have m1 : W9.cell? ⟨w.heap.size + 1, 1, none⟩ = some (.int .i64 0) := r9.cell 1
       have m2 : W9.cell? ⟨w.heap.size + 1, 2, none⟩ = some (.int .i64 0) := r9.cell 2
       have H9 := Lib.hid (And.intro b9 r9)
       clear z9 b9 k9 r9 z9' v2' y2' f2'
       go_wp2_with fail
       have zA := ((H9.out.2.set 0 (.int .i64 (R0 : Int))).set 1 (.int .i64 (R1 : Int))).set 2 (.int .i64 (R2 : Int))
       have bA := (((H9.out.1.setc (Nat.le_succ _) 0 (.int .i64 (R0 : Int))).setc (Nat.le_succ _) 1 (.int .i64 (R1 : Int))).setc (Nat.le_succ _) 2 (.int .i64 (R2 : Int)))
       have w0 := zA.cell 0
       have w1' := zA.cell 1
       have w2' := zA.cell 2
       simp at w0 w1' w2'
       refine bodyPost_ret (v := .tuple #[.agg #[.int .i64 (R0 : Int), .int .i64 (R1 : Int), .int .i64 (R2 : Int)], .bool F1, .bool X1]) ?_ rfl ⟨by simp, bA⟩
       simp [results, Tryz.results53, go_sem, w0, w1', w2']
theorem refTake_any (en sg : Bool) (nm : ByteArray) (c : Ct) (hc : c.ok) (w : World) :
  Calls Tryz.prog 53 #[.agg (ctA c), .bool en, .bool sg, .string nm] w fun e w' =>
   e = .returned (.tuple #[.agg (ctA (takeC (nameN nm) (if en then 3 else 2) sg c)), .bool (takeF (nameN nm) (if en then 3 else 2) c), .bool (takeX (nameN nm) (if en then 3 else 2) c)]) ∧ Below w.heap.size w w' := by
 have CO : ∀ W, Calls Tryz.prog 85 #[.string nm] W fun e W' => e = .returned (.int .i64 ((nameN nm : Nat) : Int)) ∧ Below W.heap.size W W' := fun W => refOf_any nm W
 have hN : nameN nm < 128 := ofN_lt _ 7
 obtain ⟨N, hNN⟩ : ∃ N, nameN nm = N := ⟨_, rfl⟩
 simp only [hNN] at CO hN ⊢
 have t0 : ((N : Int) % 2 == 1) = isB N 0 := by have := bitT N 0 _ rfl; simpa using this
 have t1 : ((N : Int) / 2 % 2 == 1) = isB N 1 := bitT N 1 _ rfl
 have t2 : ((N : Int) / 4 % 2 == 1) = isB N 2 := bitT N 2 _ rfl
 have t3 : ((N : Int) / 8 % 2 == 1) = isB N 3 := bitT N 3 _ rfl
 have t4 : ((N : Int) / 16 % 2 == 1) = isB N 4 := bitT N 4 _ rfl
 have t5 : ((N : Int) / 32 % 2 == 1) = isB N 5 := bitT N 5 _ rfl
 have t6 : ((N : Int) / 64 % 2 == 1) = isB N 6 := bitT N 6 _ rfl
 obtain ⟨h1, h2, h3⟩ := hc
 obtain ⟨ch, cp, cn⟩ := c
 simp only at h1 h2 h3
 have e0 : ((ch : Int) == 0) = decide (ch = 0) := by
  by_cases q : ch = 0
  ·rw [q]; rfl
  ·rw [decide_eq_false q]; simpa using q
 have d : ∀ b : Bool, (decide (ch = 0) && b) = true ↔ (ch = 0 ∧ b = true) := fun b => by simp
 cases en
 ·refine (refTake_Rts sg nm ch cp cn h1 h2 h3 N _ _ _ _ _ _ _ _ t0 t1 t2 t3 t4 t5 t6 e0 hN _ rfl w CO).mono ?_
  rintro e w' ⟨rfl, hb⟩
  refine ⟨?_, hb⟩
  simp [takeC, takeF, takeX, addN, byN, forcesN, ctA, d]
 ·refine (refTake_Rtn sg nm ch cp cn h1 h2 h3 N _ _ _ _ _ _ _ _ t0 t1 t2 t3 t4 t5 t6 e0 hN _ rfl w CO).mono ?_
  rintro e w' ⟨rfl, hb⟩
  refine ⟨?_, hb⟩
  simp [takeC, takeF, takeX, addN, byN, forcesN, ctA, d]
end Go.Proofs.YtfafhbgkmlmmdaaGreatDoor.K
namespace Go.Proofs.YtfafhbgkmlmmdaaGreatDoor
open Go.RowKit Go.Shelf Go.Lib Go.Maps Go.Great
attribute [local irreducible] NR ZNR FR nmE
def fromF (xs : List Nat) (k : Nat) : List TK := outF k (marksL xs k) ++ txs (endF k (marksL xs k)) xs.length
theorem fromF_end {xs : List Nat} {k : Nat} (h : ¬ k < xs.length) (_hk : k ≤ xs.length) : fromF xs k = [] := by
 unfold fromF
 rw [marksL_end h]
 show txs k xs.length = []
 unfold txs
 rw [if_neg h]
end Go.Proofs.YtfafhbgkmlmmdaaGreatDoor
namespace Go.Proofs.YtfafhbgkmlmmdaaGreatDoor
open Go.RowKit Go.Shelf Go.Lib Go.Maps Go.Great
def dlm (c : Nat) : Bool := G.blkB c || c == 47 || c == 62
theorem step_keep (s : G.RS) (c : Nat) (h : s.st ≠ 0) : (G.refStep s c).1.tn = s.tn ∧ (G.refStep s c).1.st ≠ 0 := by
 obtain ⟨st, sl, tn, nm, vl, q, al⟩ := s
 unfold G.refStep
 dsimp only at h ⊢
 split
 ·exact absurd rfl h
 all_goals
  repeat' split
  all_goals simp_all
theorem name_keep (N k : Nat) : ∀ (l : List Nat) (s : G.RS), s.st ≠ 0 → (G.refGo N k s l).name = s.tn
 | [], s, _ => rfl
 | c :: t, s, h => by
  obtain ⟨h1, h2⟩ := step_keep s c h
  unfold G.refGo
  split
  ·exact h1
  ·rw [name_keep N k t _ h2, h1]
theorem name_zero (N k : Nat) : ∀ (l : List Nat) (s : G.RS), s.st = 0 → (G.refGo N k s l).name = s.tn ++ G.lowL (l.takeWhile (fun c => !dlm c))
 | [], s, _ => by simp [G.refGo, G.refEnd, G.lowL]
 | c :: t, s, h => by
  obtain ⟨st, sl, tn, nm, vl, q, al⟩ := s
  dsimp only at h
  subst h
  cases hd : dlm c with
  | true =>
   have e : G.refStep ⟨0, sl, tn, nm, vl, q, al⟩ c = (⟨1, c == 47, tn, nm, vl, q, al⟩, c == 62) := by
    show (if G.blkB c || c == 47 || c == 62 then _ else _) = _
    rw [if_pos (by unfold dlm at hd; exact hd)]
   rw [List.takeWhile_cons_of_neg (by simp [hd])]
   unfold G.refGo
   rw [e]
   split
   ·simp [G.lowL]
   ·rw [name_keep N k t _ (by simp)]
    simp [G.lowL]
  | false =>
   have e : G.refStep ⟨0, sl, tn, nm, vl, q, al⟩ c = (⟨0, sl, tn ++ [G.lowN c], nm, vl, q, al⟩, c == 62) := by
    show (if G.blkB c || c == 47 || c == 62 then _ else _) = _
    rw [if_neg (by unfold dlm at hd; simp [hd])]
   have h62 : (c == 62) = false := by unfold dlm at hd; simp at hd; simp [hd.2]
   rw [List.takeWhile_cons_of_pos (by simp [hd])]
   unfold G.refGo
   rw [e, h62]
   simp only [Bool.false_eq_true, if_false]
   rw [name_zero N k t _ rfl]
   simp [G.lowL]
theorem closed_size (N k : Nat) : ∀ (l : List Nat) (s : G.RS), (G.refGo N k s l).closed = false → (G.refGo N k s l).size = N
 | [], s, _ => rfl
 | c :: t, s, h => by
  unfold G.refGo at h ⊢
  split at h
  ·simp at h
  ·rename_i hc
   rw [if_neg hc]
   exact closed_size N k t _ h
theorem rdT_closed {l : List Nat} {T : G.TG} (h : G.rdT l = some T) (hk : T.kind = 0) (hc : T.closed = false) : T.size = l.length := by
 unfold G.rdT at h
 split at h
 ·split at h
  ·cases h
  ·split at h
   ·cases h
    rw [closed_size _ _ _ _ hc]
    simp
   ·split at h
    ·cases h
     rw [refGo_kind] at hk
     cases hk
    ·split at h
     ·cases h
      rw [upGo_kind] at hk
      cases hk
     ·split at h
      ·cases h
       rw [upGo_kind] at hk
       cases hk
      ·cases h
 ·cases h
def endsD (l nm : List Nat) : Bool := decide (nm.length + 2 ≤ l.length) && (G.lowL (l.take (nm.length + 2)) == 60 :: 47 :: nm) && (decide (l.length = nm.length + 2) || dlm (l.getD (nm.length + 2) 0))
theorem low_ltr {c d : Nat} (h : G.lowN c = d) (hd : 97 ≤ d ∧ d ≤ 122) : G.ltrB c = true ∧ dlm c = false := by
 unfold G.lowN at h
 unfold G.ltrB dlm G.blkB
 split at h <;> simp <;> omega
theorem low_id {c d : Nat} (h : G.lowN c = d) (hd : d < 65) : c = d := by
 unfold G.lowN at h
 split at h <;> omega
theorem u8s_eq {a b : List Nat} (ha : ∀ x ∈ a, x < 256) (hb : ∀ x ∈ b, x < 256) (h : G.u8s a = G.u8s b) : a = b := by
 have h2 : (G.u8s a).map UInt8.toNat = (G.u8s b).map UInt8.toNat := by rw [h]
 have e : ∀ l : List Nat, (∀ x ∈ l, x < 256) → (G.u8s l).map UInt8.toNat = l := fun l hl => by
  unfold G.u8s
  rw [List.map_map]
  refine (List.map_congr_left (fun x hx => ?_)).trans (List.map_id l)
  have := hl x hx
  simp
  omega
 rw [e a ha, e b hb] at h2
 exact h2
theorem rdT_one {s : List Nat} {T : G.TG} (h : G.rdT s = some T) (hk : T.kind = 1) : ∃ c r, s = 60 :: 47 :: c :: r ∧ G.ltrB c = true := by
 unfold G.rdT at h
 split at h
 ·rename_i d c t
  split at h
  ·cases h
  ·rename_i hd
   obtain rfl : d = 60 := by omega
   split at h
   ·cases h
    rw [refGo_kind] at hk
    cases hk
   ·split at h
    ·rename_i hc
     obtain ⟨rfl, hh⟩ := hc
     cases t with
     | nil => simp at hh
     | cons x r => exact ⟨x, r, rfl, by simpa using hh⟩
    ·split at h
     ·cases h
      rw [upGo_kind] at hk
      cases hk
     ·split at h
      ·cases h
       rw [upGo_kind] at hk
       cases hk
      ·cases h
 ·cases h
theorem tw_mem {p : Nat → Bool} : ∀ {l : List Nat} {x : Nat}, x ∈ l.takeWhile p → p x = true
 | [], _, h => by simp at h
 | a :: l, x, h => by
  cases ha : p a with
  | true =>
   rw [List.takeWhile_cons_of_pos ha] at h
   rcases List.mem_cons.1 h with rfl | h
   ·exact ha
   ·exact tw_mem h
  | false => rw [List.takeWhile_cons_of_neg (by simp [ha])] at h; simp at h
theorem tw_all {p : Nat → Bool} : ∀ {l : List Nat}, (∀ x ∈ l, p x = true) → l.takeWhile p = l
 | [], _ => rfl
 | a :: l, h => by rw [List.takeWhile_cons_of_pos (h a (by simp)), tw_all (fun x hx => h x (by simp [hx]))]
theorem endR_D {l nm : List Nat} (hl : ∀ x ∈ l, x < 256) (hn : ∀ c ∈ nm, 97 ≤ c ∧ c ≤ 122) (h0 : nm ≠ []) : endR l nm = endsD l nm := by
 by_cases H : ∃ c r, l = 60 :: 47 :: c :: r ∧ G.ltrB c = true
 case neg =>
  have e1 : endR l nm = false := by
   unfold endR
   split
   ·rename_i T hT
    by_cases hk : T.kind = 1
    ·obtain ⟨c, r, e, hc⟩ := rdT_one hT hk
     exfalso
     apply H
     have : l = l.take (nm.length + 3) ++ l.drop (nm.length + 3) := (List.take_append_drop _ _).symm
     rw [e] at this
     exact ⟨c, r ++ l.drop (nm.length + 3), this, hc⟩
    ·simp [hk]
   ·rfl
  have e2 : endsD l nm = false := by
   cases he : endsD l nm with
   | false => rfl
   | true =>
    exfalso
    apply H
    unfold endsD at he
    simp only [Bool.and_eq_true, decide_eq_true_eq, beq_iff_eq] at he
    obtain ⟨⟨h1, h2⟩, _⟩ := he
    cases nm with
    | nil => exact absurd rfl h0
    | cons n0 ns =>
     match l, h1, h2 with
     | a :: b :: c :: r, _, h2 =>
      simp [G.lowL] at h2
      have ha := low_id h2.1 (by omega)
      have hb := low_id h2.2.1 (by omega)
      have hc := (low_ltr h2.2.2.1 (hn n0 (by simp))).1
      exact ⟨c, r, by rw [ha, hb], hc⟩
     | [_, _], h1, _ => simp at h1
     | [_], h1, _ => simp at h1
     | [], h1, _ => simp at h1
  rw [e1, e2]
 case pos =>
  obtain ⟨c, r, rfl, hc⟩ := H
  obtain ⟨t, ht⟩ : ∃ t, c :: r = t := ⟨_, rfl⟩
  have e0 : (60 :: 47 :: c :: r).take (nm.length + 3) = 60 :: 47 :: t.take (nm.length + 1) := by rw [ht]; rfl
  have e1 : G.rdT (60 :: 47 :: t.take (nm.length + 1)) = some (G.refGo ((t.take (nm.length + 1)).length + 2) 1 G.rs0 (t.take (nm.length + 1))) := by
   unfold G.rdT
   dsimp only
   rw [if_neg (by omega), if_neg (by decide), if_pos ⟨rfl, by rw [← ht]; simp [hc]⟩]
  have e2 : endR (60 :: 47 :: c :: r) nm = (G.u8s (G.lowL ((t.take (nm.length + 1)).takeWhile (fun c => !dlm c))) == G.u8s nm) := by
   unfold endR
   rw [e0, e1]
   dsimp only
   rw [refGo_kind, name_zero _ _ _ _ rfl]
   simp [G.rs0]
  rw [e2, ht]
  have ht256 : ∀ x ∈ t, x < 256 := fun x hx => hl x (by rw [ht]; simp [hx])
  have hlo : ∀ x : Nat, x < 256 → G.lowN x < 256 := fun x hx => by unfold G.lowN; split <;> omega
  have hnd : ∀ x ∈ t.take nm.length, G.lowL (t.take nm.length) = nm → dlm x = false := fun x hx e => by
   obtain ⟨i, hi, rfl⟩ := List.getElem_of_mem hx
   have h2 : (G.lowL (t.take nm.length))[i]? = nm[i]? := by rw [e]
   unfold G.lowL at h2
   rw [List.getElem?_map, List.getElem?_eq_getElem hi] at h2
   have h3 : nm[i]? = some (G.lowN (t.take nm.length)[i]) := h2.symm
   exact (low_ltr rfl (hn _ (List.mem_of_getElem? h3))).2
  have key : (G.u8s (G.lowL ((t.take (nm.length + 1)).takeWhile (fun c => !dlm c))) = G.u8s nm) ↔ endsD (60 :: 47 :: t) nm = true := by
   unfold endsD
   simp only [Bool.and_eq_true, decide_eq_true_eq, beq_iff_eq, Bool.or_eq_true, List.length_cons]
   have e5 : (60 :: 47 :: t).take (nm.length + 2) = 60 :: 47 :: t.take nm.length := rfl
   have e6 : (60 :: 47 :: t).getD (nm.length + 2) 0 = t.getD nm.length 0 := rfl
   have e7 : G.lowL (60 :: 47 :: t.take nm.length) = 60 :: 47 :: G.lowL (t.take nm.length) := rfl
   rw [e5, e6, e7]
   constructor
   ·intro h
    have h1 := u8s_eq (fun x hx => by
     unfold G.lowL at hx
     obtain ⟨y, hy, rfl⟩ := List.mem_map.1 hx
     exact hlo y (ht256 y (List.mem_of_mem_take (List.takeWhile_subset _ hy)))) (fun x hx => by have := hn x hx; omega) h
    have hlen : ((t.take (nm.length + 1)).takeWhile (fun c => !dlm c)).length = nm.length := by
     have := congrArg List.length h1
     unfold G.lowL at this
     rwa [List.length_map] at this
    have hpre : (t.take (nm.length + 1)).takeWhile (fun c => !dlm c) = t.take nm.length := by
     have hp := List.takeWhile_prefix (fun c => !dlm c) (l := t.take (nm.length + 1))
     have := List.prefix_iff_eq_take.1 hp
     rw [hlen, List.take_take, Nat.min_eq_left (by omega)] at this
     exact this
    have hn2 : nm.length ≤ t.length := by
     have := congrArg List.length hpre
     rw [hlen, List.length_take] at this
     omega
    refine ⟨⟨by omega, by rw [← hpre, h1]⟩, ?_⟩
    by_cases hq : t.length = nm.length
    ·exact .inl (by omega)
    ·refine .inr ?_
     have hlt : nm.length < t.length := by omega
     have e8 : t.take (nm.length + 1) = t.take nm.length ++ [t[nm.length]] := by rw [List.take_add_one, List.getElem?_eq_getElem hlt]; rfl
     rw [List.getD_eq_getElem?_getD, List.getElem?_eq_getElem hlt]
     show dlm t[nm.length] = true
     cases hdl : dlm t[nm.length] with
     | true => rfl
     | false =>
      exfalso
      rw [e8, List.takeWhile_append_of_pos (fun x hx => by
       rw [← hpre] at hx
       exact tw_mem (p := fun c => !dlm c) hx), List.takeWhile_cons_of_pos (by simp [hdl])] at hlen
      simp at hlen
      omega
   ·rintro ⟨⟨h1, h2⟩, h3⟩
    have h2 : G.lowL (t.take nm.length) = nm := by simpa using h2
    have hall : ∀ x ∈ t.take nm.length, (fun c => !dlm c) x = true := fun x hx => by simp [hnd x hx h2]
    have e9 : (t.take (nm.length + 1)).takeWhile (fun c => !dlm c) = t.take nm.length := by
     by_cases hq : t.length = nm.length
     ·rw [List.take_of_length_le (by omega), List.take_of_length_le (by omega)]
      rw [List.take_of_length_le (by omega)] at hall
      exact tw_all hall
     ·have hlt : nm.length < t.length := by omega
      have e8 : t.take (nm.length + 1) = t.take nm.length ++ [t[nm.length]] := by rw [List.take_add_one, List.getElem?_eq_getElem hlt]; rfl
      have hdl : dlm t[nm.length] = true := by
       rcases h3 with h3 | h3
       ·omega
       ·rwa [List.getD_eq_getElem?_getD, List.getElem?_eq_getElem hlt] at h3
      rw [e8, List.takeWhile_append_of_pos hall, List.takeWhile_cons_of_neg (by simp [hdl])]
      simp
    rw [e9, h2]
  cases hE : endsD (60 :: 47 :: t) nm with
  | true => rw [hE] at key; rw [key.2 rfl]; simp
  | false =>
   rw [hE] at key
   rw [beq_eq_false_iff_ne]
   intro h
   have := key.1 h
   cases this
end Go.Proofs.YtfafhbgkmlmmdaaGreatDoor
namespace Go.Proofs.YtfafhbgkmlmmdaaGreatDoor.G
open Go.RowKit Go.Shelf Go.Lib Go.Maps Go.Sort
theorem app_str (a b : List Nat) : (⟨(u8s a).toArray⟩ ++ ⟨(u8s b).toArray⟩ : ByteArray) = ⟨(u8s (a ++ b)).toArray⟩ := by
 apply ByteArray.ext
 simp [u8s]
theorem by_lit1 (w : World) (y : Nat) (hy : y < 256) : BY (w.alloc (.cells #[.int .u8 (y : Int)] 5)) (w.alloc (.cells #[.int .u8 (y : Int)] 5)).heap.size [y] (some ⟨w.heap.size, 0, none⟩) 1 := by
 refine ⟨Nat.le_refl _, by unfold maxLen; omega, (fun e => nomatch e), (fun x hx => by simp at hx; omega), fun _ => ⟨w.heap.size, 0, rfl, by simp, fun i x hx => ?_⟩⟩
 cases i with
 | zero =>
  simp at hx
  subst hx
  exact (World.cell?_alloc_new ..).trans rfl
 | succ i => simp at hx
theorem index_str {l : List Nat} {k x : Nat} (hx : l[k]? = some x) (h256 : x < 256) (w : World) : (Instr.index 9 (.string ⟨(u8s l).toArray⟩) (.int .i64 (k : Int))).run Tryz.prog w = .ok (.int .u8 (x : Int)) w := by
 have hk : k < (u8s l).length := by rw [u8s_len]; exact (List.getElem?_eq_some_iff.1 hx).1
 rw [run_index_string _ _ _ _ _ Tryz.underlying9, dif_pos ⟨by omega, by show (k : Int) < (((u8s l).length : Nat) : Int); omega⟩]
 have hu : (u8s l)[k]? = some (UInt8.ofNat x) := by unfold u8s; rw [List.getElem?_map, hx]; rfl
 obtain ⟨h1, h2⟩ := List.getElem?_eq_some_iff.1 hu
 have : ((u8s l)[k]'hk).toNat = x := by rw [h2]; simp [Nat.mod_eq_of_lt h256]
 have e : (x : Int) = (((u8s l)[k]'hk).toNat : Int) := by rw [this]
 rw [e]
 rfl
theorem size_str (l : List Nat) : (⟨(u8s l).toArray⟩ : ByteArray).size = l.length := by simp [ByteArray.size, u8s_len]
theorem blank_any (c : Nat) (w : World) : Calls Tryz.prog 74 #[.int .u8 (c : Int)] w fun e w' => e = .returned (.bool (blkB c)) ∧ w' = w := by
 have hb : blkB c = (((c : Int) == 9) || ((c : Int) == 10) || ((c : Int) == 12) || ((c : Int) == 13) || ((c : Int) == 32)) := by
  unfold blkB
  rw [Bool.eq_iff_iff]
  simp only [Bool.or_eq_true, beq_iff_eq]
  omega
 rw [hb]
 generalize (c : Int) = X
 cases e0 : (X == 9) with
 | true =>
  go_enter Tryz.func74, Tryz.ntmps74
  go_wp2_with fail
  go_ret
  exact ⟨rfl, rfl⟩
 | false =>
  cases e1 : (X == 10) with
  | true =>
   go_enter Tryz.func74, Tryz.ntmps74
   go_wp2_with fail
   go_ret
   exact ⟨rfl, rfl⟩
  | false =>
   cases e2 : (X == 12) with
   | true =>
    go_enter Tryz.func74, Tryz.ntmps74
    go_wp2_with fail
    go_ret
    exact ⟨rfl, rfl⟩
   | false =>
    cases e3 : (X == 13) with
    | true =>
     go_enter Tryz.func74, Tryz.ntmps74
     go_wp2_with fail
     go_ret
     exact ⟨rfl, rfl⟩
    | false =>
     cases e4 : (X == 32) with
     | true =>
      go_enter Tryz.func74, Tryz.ntmps74
      go_wp2_with fail
      go_ret
      exact ⟨rfl, rfl⟩
     | false =>
      go_enter Tryz.func74, Tryz.ntmps74
      go_wp2_with fail
      go_ret
      exact ⟨rfl, rfl⟩
theorem letter_any (c : Nat) (w : World) : Calls Tryz.prog 77 #[.int .u8 (c : Int)] w fun e w' => e = .returned (.bool (ltrB c)) ∧ w' = w := by
 have e0 : ltrB c = ((decide (65 ≤ (c : Int)) && decide ((c : Int) ≤ 90)) || (decide (97 ≤ (c : Int)) && decide ((c : Int) ≤ 122))) := by
  unfold ltrB
  rw [Bool.eq_iff_iff]
  simp
  omega
 rw [e0]
 generalize (c : Int) = X
 by_cases h1 : 65 ≤ X
 ·have d1 : decide (65 ≤ X) = true := by simpa using h1
  by_cases h2 : X ≤ 90
  ·have d2 : decide (X ≤ 90) = true := by simpa using h2
   go_enter Tryz.func77, Tryz.ntmps77
   go_wp2_with fail
   go_ret
   exact ⟨by simp [d1, d2], rfl⟩
  ·have d2 : decide (X ≤ 90) = false := by simpa using h2
   by_cases h3 : 97 ≤ X
   ·have d3 : decide (97 ≤ X) = true := by simpa using h3
    go_enter Tryz.func77, Tryz.ntmps77
    go_wp2_with fail
    go_ret
    exact ⟨by simp, rfl⟩
   ·have d3 : decide (97 ≤ X) = false := by simpa using h3
    go_enter Tryz.func77, Tryz.ntmps77
    go_wp2_with fail
    go_ret
    exact ⟨by simp, rfl⟩
 ·have d1 : decide (65 ≤ X) = false := by simpa using h1
  have d3 : decide (97 ≤ X) = false := by simp; omega
  go_enter Tryz.func77, Tryz.ntmps77
  go_wp2_with fail
  go_ret
  exact ⟨by simp, rfl⟩
theorem lowL_snoc {l : List Nat} {k x : Nat} (hx : l[k]? = some x) : lowL (l.take (k + 1)) = lowL (l.take k) ++ [lowN x] := by
 rw [List.take_add_one, hx]
 simp [lowL]
theorem refLower_any (l : List Nat) (h256 : ∀ x ∈ l, x < 256) (hl : l.length ≤ 1000000) (w : World) :
  Calls Tryz.prog 73 #[strV l] w fun e w' => e = .returned (strV (lowL l)) ∧ Below w.heap.size w w' := by
 have hsz := size_str l
 obtain ⟨N, hN⟩ : ∃ N, l.length = N := ⟨_, rfl⟩
 have hix := fun k x (hx : l[k]? = some x) => index_str hx (h256 x (List.mem_of_getElem? hx))
 unfold strV
 rw [hN] at hsz hl
 have HH := Lib.hid (And.intro hN (And.intro h256 hix))
 clear hN h256 hix
 obtain ⟨S, hS⟩ : ∃ S : ByteArray, ⟨(u8s l).toArray⟩ = S := ⟨_, rfl⟩
 rw [hS] at hsz ⊢
 have HS := Lib.hid hS
 clear hS
 go_enter Tryz.func73, Tryz.ntmps73
 go_wp2_with fail
 go_loopw [3, 4, 5] (fun out i _ wr => ∃ k : Nat, i = .int .i64 (k : Int) ∧ k ≤ N ∧ out = strV (lowL (l.take k)) ∧ Below w.heap.size w wr) (fun _ i _ _ => N - (RowKit.intOf i).toNat)
 case atStart => exact ⟨0, by go_num, by omega, rfl, Below.refl _ _⟩
 case round =>
  obtain ⟨k, rfl, hk, rfl, hb⟩ := hrel
  unfold strV
  by_cases hlt : k < N
  case neg =>
   obtain rfl : k = N := by omega
   have HB := Lib.hid hb
   clear hb
   go_wp2_with fail
   go_ret
   refine ⟨?_, HB.out⟩
   have e : l.take k = l := by rw [← HH.out.1]; exact List.take_length
   rw [e]
   rfl
  have i1 : (k : Int) < (N : Int) := by omega
  obtain ⟨x, hx⟩ := at_lt (l := l) (k := k) (by rw [HH.out.1]; exact hlt)
  have hx256 := HH.out.2.1 x (List.mem_of_getElem? hx)
  have hi := HH.out.2.2 k x hx
  rw [HS.out] at hi
  have hsn := lowL_snoc hx
  have hcv : (convert 22 9 (.slice (some ⟨wr.heap.size, 0, none⟩) 1 1)).run Tryz.prog (wr.alloc (.cells #[.int .u8 ((lowN x : Nat) : Int)] 5)) = .ok (.string ⟨(u8s [lowN x]).toArray⟩) (wr.alloc (.cells #[.int .u8 ((lowN x : Nat) : Int)] 5)) := conv_by (by_lit1 wr (lowN x) (lowN_lt hx256))
  have hst := app_str (lowL (l.take k)) [lowN x]
  rw [← hsn] at hst
  have hsa : (⟨(u8s (lowL (l.take k))).toArray⟩ : ByteArray).size = k := by
   rw [size_str]
   have := (List.getElem?_eq_some_iff.1 hx).1
   simp [lowL]
   omega
  have hsb : (⟨(u8s [lowN x]).toArray⟩ : ByteArray).size = 1 := size_str _
  generalize (⟨(u8s (lowL (l.take k))).toArray⟩ : ByteArray) = SA at *
  generalize (⟨(u8s [lowN x]).toArray⟩ : ByteArray) = SB at *
  have hb1 := hb.alloc hb.size (.cells #[.int .u8 ((lowN x : Nat) : Int)] 5)
  by_cases c1 : 65 ≤ x ∧ x ≤ 90
  ·have hlow : ((lowN x : Nat) : Int) = (x : Int) + 32 := by unfold lowN; rw [if_pos c1]; rfl
   rw [hlow] at hcv hb1
   have d1 : decide (65 ≤ (x : Int)) = true := by simp; omega
   have d2 : decide ((x : Int) ≤ 90) = true := by simp; omega
   have e1 : IntKind.u8.wrap ((x : Int) + 32) = (x : Int) + 32 := IntWalk.u8_in _ (by omega)
   have HE := Lib.hid (And.intro hst hb1)
   clear hst hb1 hb hsn c1 hx256 hx hlow
   generalize (x : Int) = X at *
   go_wp2_with fail
   go_roundw
   case rel => exact ⟨k + 1, by go_num, by omega, congrArg Value.string HE.out.1, HE.out.2⟩
   case measure => simp [RowKit.intOf]; omega
  ·have hlow : lowN x = x := by unfold lowN; rw [if_neg c1]
   rw [hlow] at hcv hb1
   by_cases c2 : 65 ≤ x
   ·have d1 : decide (65 ≤ (x : Int)) = true := by simp; omega
    have d2 : decide ((x : Int) ≤ 90) = false := by simp; omega
    have HE := Lib.hid (And.intro hst hb1)
    clear hst hb1 hb hsn c1 hx256 hx hlow
    generalize (x : Int) = X at *
    go_wp2_with fail
    go_roundw
    case rel => exact ⟨k + 1, by go_num, by omega, congrArg Value.string HE.out.1, HE.out.2⟩
    case measure => simp [RowKit.intOf]; omega
   ·have d1 : decide (65 ≤ (x : Int)) = false := by simp; omega
    have HE := Lib.hid (And.intro hst hb1)
    clear hst hb1 hb hsn c1 hx256 hx hlow
    generalize (x : Int) = X at *
    go_wp2_with fail
    go_roundw
    case rel => exact ⟨k + 1, by go_num, by omega, congrArg Value.string HE.out.1, HE.out.2⟩
    case measure => simp [RowKit.intOf]; omega
end Go.Proofs.YtfafhbgkmlmmdaaGreatDoor.G
