/-
  The law OverlayHolds: its walk.
-/
import Derived.Deep.CutRange
import Derived.Test.YtflhdfbpafhjlaaOaw
import Derived.Test.YtflhdfbpafhjlaaMxg
import Derived.Test.YtflhdfbpafhjlaaLtr
namespace Go.Proofs.Ytflhdfbpafhjlaa
open Go.RowKit Go.Shelf Go.Lib Go.Sort Go.Maps

theorem cells_fz {X : Nat → Prop} {w w' : World} {g t : Nat} {cs : Array Value} (h : Fz X w w') (hX : ¬ X g) (hc : Cells w g t cs) : Cells w' g t cs := (h.block _ hc.lt hX).trans hc
/-- A block that is new may turn. -/
theorem fz_new {a b c : World} {g : Nat} (h : Fz (fun _ => False) a b) (k : Fz (fun z => z = g) b c) (hg : a.heap.size ≤ g) : Fz (fun _ => False) a c :=
  ⟨k.os.trans h.os, k.tape.trans h.tape, k.output.trans h.output, Nat.le_trans h.size k.size, fun j hj hn => (k.block j (Nat.lt_of_lt_of_le hj h.size) (fun e => by omega)).trans (h.block j hj hn)⟩
/-- Two items in blocks of their own. -/
structure P2 (w : World) (A B : Array Value) (G1 G2 : Nat) (W : World) : Prop where
  b : Below w.heap.size w W
  x : Cells W G1 26 A
  y : Cells W G2 26 B
  ne : G1 ≠ G2
  g1 : w.heap.size ≤ G1
  g2 : w.heap.size ≤ G2
def holdB (m : Int) (a b : IT) (q : Bool) : Int := betw m { a with n := true } { b with n := true } q
def holdP (m : Int) (a b : IT) (q : Bool) : Int := betw m { a with n := false, p := false } { b with n := false, p := false, x := false } q
theorem hold_math (m : Int) (a b : IT) (q : Bool) : ((m == 3) = true ∧ b.f = true ∧ holdB m a b q = 2) ∨ ((m == 3) = true ∧ b.f = false ∧ holdB m a b q = -1) ∨ ((m == 3) = false ∧ holdB m a b q = holdP m a b q) := by
  unfold holdB holdP betw tog
  cases hm : (m == 3) <;> cases hf : b.f <;> simp

set_option maxHeartbeats 16000000 in
theorem holdsLaw (m : Int) (a b : IT) (q : Bool) (ha : R32 a.r) (w : World) : Calls Try.prog 6 #[.int .i64 m, .agg (itA a), .agg (itA b), .bool q] w fun e w' => e = .returned (.bool true) ∧ Below w.heap.size w w' := by
  have K1 := fun W => betw_any m { a with n := true } { b with n := true } q ha W
  have K2 := fun W => betw_any m { a with n := false, p := false } { b with n := false, p := false, x := false } q ha W
  have M := hold_math m a b q
  unfold holdB holdP at M
  generalize betw m { a with n := true } { b with n := true } q = R1 at K1 M
  generalize betw m { a with n := false, p := false } { b with n := false, p := false, x := false } q = R2 at K2 M
  have T1 := fun W => to_any a W
  have T2 := fun W => to_any b W
  have TB := two_boxes w (itA a) (itA b) 23
  obtain ⟨W0, hW0⟩ : ∃ W, (w.alloc (.cells (itA a) 23)).alloc (.cells (itA b) 23) = W := ⟨_, rfl⟩
  rw [hW0] at TB
  obtain ⟨ar, aat, asz, af, ax, an, ap⟩ := a
  obtain ⟨br, bat, bsz, bf, bx, bn, bp⟩ := b
  unfold itA at *
  simp only at *
  clear ha
  have lat : ∀ P : Later (fun _ => False) W0, Below W0.heap.size W0 P.W := fun P => ⟨P.h.os, P.h.tape, P.h.output, P.h.size, fun k hk => P.h.block k hk (fun h => h)⟩
  have qa0 : ∀ p : Later (fun _ => False) W0, p.W.cell? ⟨w.heap.size, 0, none⟩ = some (.int .i32 ar) := fun p => cell_later (TB.2.1.cell 0) (fun hf => hf) p
  have qa1 : ∀ p : Later (fun _ => False) W0, p.W.cell? ⟨w.heap.size, 1, none⟩ = some (.int .i64 aat) := fun p => cell_later (TB.2.1.cell 1) (fun hf => hf) p
  have qa2 : ∀ p : Later (fun _ => False) W0, p.W.cell? ⟨w.heap.size, 2, none⟩ = some (.int .i64 asz) := fun p => cell_later (TB.2.1.cell 2) (fun hf => hf) p
  have qa3 : ∀ p : Later (fun _ => False) W0, p.W.cell? ⟨w.heap.size, 3, none⟩ = some (.bool af) := fun p => cell_later (TB.2.1.cell 3) (fun hf => hf) p
  have qa4 : ∀ p : Later (fun _ => False) W0, p.W.cell? ⟨w.heap.size, 4, none⟩ = some (.bool ax) := fun p => cell_later (TB.2.1.cell 4) (fun hf => hf) p
  have qa5 : ∀ p : Later (fun _ => False) W0, p.W.cell? ⟨w.heap.size, 5, none⟩ = some (.bool an) := fun p => cell_later (TB.2.1.cell 5) (fun hf => hf) p
  have qa6 : ∀ p : Later (fun _ => False) W0, p.W.cell? ⟨w.heap.size, 6, none⟩ = some (.bool ap) := fun p => cell_later (TB.2.1.cell 6) (fun hf => hf) p
  have qb0 : ∀ p : Later (fun _ => False) W0, p.W.cell? ⟨w.heap.size + 1, 0, none⟩ = some (.int .i32 br) := fun p => cell_later (TB.2.2.cell 0) (fun hf => hf) p
  have qb1 : ∀ p : Later (fun _ => False) W0, p.W.cell? ⟨w.heap.size + 1, 1, none⟩ = some (.int .i64 bat) := fun p => cell_later (TB.2.2.cell 1) (fun hf => hf) p
  have qb2 : ∀ p : Later (fun _ => False) W0, p.W.cell? ⟨w.heap.size + 1, 2, none⟩ = some (.int .i64 bsz) := fun p => cell_later (TB.2.2.cell 2) (fun hf => hf) p
  have qb3 : ∀ p : Later (fun _ => False) W0, p.W.cell? ⟨w.heap.size + 1, 3, none⟩ = some (.bool bf) := fun p => cell_later (TB.2.2.cell 3) (fun hf => hf) p
  have qb4 : ∀ p : Later (fun _ => False) W0, p.W.cell? ⟨w.heap.size + 1, 4, none⟩ = some (.bool bx) := fun p => cell_later (TB.2.2.cell 4) (fun hf => hf) p
  have qb5 : ∀ p : Later (fun _ => False) W0, p.W.cell? ⟨w.heap.size + 1, 5, none⟩ = some (.bool bn) := fun p => cell_later (TB.2.2.cell 5) (fun hf => hf) p
  have qb6 : ∀ p : Later (fun _ => False) W0, p.W.cell? ⟨w.heap.size + 1, 6, none⟩ = some (.bool bp) := fun p => cell_later (TB.2.2.cell 6) (fun hf => hf) p
  have HC := Lib.hid (And.intro K1 K2)
  have HT := Lib.hid (And.intro T1 T2)
  have HM := Lib.hid M
  have HB := Lib.hid (And.intro hW0 TB)
  clear K1 K2 M T1 T2 TB hW0 lat
  go_enter Try.func6, Try.ntmps6
  go_upto_region 1 with fail
  rw [HB.out.1]
  go_cut [9, 10] from 15 to 61 (fun v1 v2 wx => ∃ G1 G2, v1 = .pointer (some ⟨G1, 0, none⟩) ∧ v2 = .pointer (some ⟨G2, 0, none⟩) ∧ P2 W0 #[.int .i32 ar, .int .i64 aat, .int .i64 asz, .bool af, .bool ax, .bool an, .bool ap] #[.int .i32 br, .int .i64 bat, .int .i64 bsz, .bool bf, .bool bx, .bool bn, .bool bp] G1 G2 wx)
  case first =>
    refine wp_region_mixF (fun i => if i = 0 ∨ i = 2 then 0 else 2) [0, 2] 6 (fun w' => ∃ P : Later (fun _ => False) W0, w' = P.W) (by kernel_rfl) (by kernel_rfl) ⟨⟨_, Fz.drew W0⟩, rfl⟩ ?_
    simp only [opsAt, List.filterMap_cons, List.filterMap_nil, List.getElem?_toArray, List.getElem?_cons_zero, List.getElem?_cons_succ]
    change wpQuiet _ _ _ _ [_, _] _
    repeat (go_big_quiet_step (fail))
    refine wpQuiet_nil ?_
    clear qa0 qb0 qa1 qb1 qa2 qb2 qa3 qb3 qa4 qb4 qa5 qb5 qa6 qb6
    have z0 := Fz.drew (X := fun _ => False) W0
    have bd := z0.below (B := W0.heap.size) (Nat.le_refl _) (fun _ _ h => h)
    obtain ⟨W4, hW4⟩ : ∃ V, ({ W0 with drawn := W0.drawn + 1 } : World) = V := ⟨_, rfl⟩
    rw [hW4] at z0 bd ⊢
    clear hW4
    have H4 := Lib.hid (And.intro z0 (And.intro bd (And.intro True.intro True.intro)))
    clear z0 bd
    refine wpFreeM_step [1, 4, 5] (by kernel_rfl) ⟨?_, ?_, ?_, trivial⟩
    ·
      refine wpOp_of_list rfl ?_
      go_wp2_with fail
      refine (HT.out.1 W4).mono ?_
      rintro e V1 ⟨rfl, bn⟩
      have X1 := Lib.hid (And.intro (H4.out.1.trans (Fz.of_below bn)) (And.intro (below_on H4.out.2.1 bn) (And.intro True.intro True.intro)))
      clear bn
      go_wp2_with fail
      refine ⟨⟨⟨_, X1.out.1⟩, rfl⟩, ?_⟩
      refine wpFreeM_step [3, 4, 5] (by kernel_rfl) ⟨?_, ?_, ?_, trivial⟩
      ·
        refine wpOp_of_list rfl ?_
        go_wp2_with fail
        refine (HT.out.2 V1).mono ?_
        rintro e V2 ⟨rfl, bn⟩
        have X2 := Lib.hid (And.intro (X1.out.1.trans (Fz.of_below bn)) (And.intro (below_on X1.out.2.1 bn) (And.intro True.intro True.intro)))
        clear bn
        go_wp2_with fail
        refine ⟨⟨⟨_, X2.out.1⟩, rfl⟩, ?_⟩
        refine wpFreeM_step [4, 5] (by kernel_rfl) ⟨?_, ?_, trivial⟩
        ·
          refine wpOp_of_list rfl ?_
          have c1 := below_new V2 (.cells #[.int .i32 0, .int .i64 0, .int .i64 0, .bool false, .bool false, .bool false, .bool false] 26)
          have y1 := cells_new V2 #[.int .i32 0, .int .i64 0, .int .i64 0, .bool false, .bool false, .bool false, .bool false] 26
          obtain ⟨V3, hW⟩ : ∃ V, V2.alloc (.cells #[.int .i32 0, .int .i64 0, .int .i64 0, .bool false, .bool false, .bool false, .bool false] 26) = V := ⟨_, rfl⟩
          rw [hW] at c1 y1
          have HE := Lib.hid hW
          clear hW
          have sz0 := X2.out.2.1.size
          have X3 := Lib.hid (And.intro (X2.out.1.trans (Fz.of_below c1)) (And.intro (below_on X2.out.2.1 c1) (And.intro y1 True.intro)))
          clear c1 y1
          go_wp2_with fail
          rw [HE.out]
          refine ⟨⟨⟨_, X3.out.1⟩, rfl⟩, ?_⟩
          refine wpFreeM_step [5] (by kernel_rfl) ⟨?_, trivial⟩
          refine wpOp_of_list rfl ?_
          have c1 := below_new V3 (.cells #[.int .i32 0, .int .i64 0, .int .i64 0, .bool false, .bool false, .bool false, .bool false] 26)
          have y1 := cells_new V3 #[.int .i32 0, .int .i64 0, .int .i64 0, .bool false, .bool false, .bool false, .bool false] 26
          obtain ⟨V4, hW⟩ : ∃ V, V3.alloc (.cells #[.int .i32 0, .int .i64 0, .int .i64 0, .bool false, .bool false, .bool false, .bool false] 26) = V := ⟨_, rfl⟩
          rw [hW] at c1 y1
          have HE := Lib.hid hW
          clear hW
          have hlt := X3.out.2.2.1.lt
          have sz := X3.out.2.1.size
          have X4 := Lib.hid (And.intro (X3.out.1.trans (Fz.of_below c1)) (And.intro (below_on X3.out.2.1 c1) (And.intro (X3.out.2.2.1.on c1) y1)))
          clear c1 y1
          go_wp2_with fail
          rw [HE.out]
          refine ⟨⟨⟨_, X4.out.1⟩, rfl⟩, ?_⟩
          refine wpFreeM_step [6] (by kernel_rfl) ⟨?_, trivial⟩
          refine wpOp_of_list rfl ?_
          have sw := X4.out.2.1.size
          have lx := X4.out.2.2.1.lt
          have ly := X4.out.2.2.2.lt
          obtain ⟨f0, f1, f2, f3, f4, f5, f6⟩ := froz7 X4.out.2.2.1
          obtain ⟨c0, c1, c2, c3, c4, c5, c6⟩ := cell7 X4.out.2.2.1
          go_wp2_with fail
          obtain ⟨W7, hW7, z7, k7⟩ := set7 X4.out.2.2.1 (.int .i32 ar) (.int .i64 aat) (.int .i64 asz) (.bool af) (.bool ax) (.bool an) (.bool ap)
          rw [hW7]
          clear hW7 f0 f1 f2 f3 f4 f5 f6 c0 c1 c2 c3 c4 c5 c6
          have n2 := cells_fz k7 (show ¬ V3.heap.size = V2.heap.size by omega) X4.out.2.2.2
          have e7 : Fz (fun _ => False) W0 W7 := fz_new X4.out.1 k7 (by omega)
          have b7 : Below W0.heap.size W0 W7 := X4.out.2.1.trans (k7.below sw (fun k hk e => by omega))
          have H7 := Lib.hid (And.intro e7 (And.intro z7 (And.intro n2 b7)))
          clear e7 z7 n2 b7 k7
          refine ⟨⟨⟨_, H7.out.1⟩, rfl⟩, ?_⟩
          refine wpFreeM_step [7] (by kernel_rfl) ⟨?_, trivial⟩
          refine wpOp_of_list rfl ?_
          obtain ⟨f0, f1, f2, f3, f4, f5, f6⟩ := froz7 H7.out.2.2.1
          obtain ⟨c0, c1, c2, c3, c4, c5, c6⟩ := cell7 H7.out.2.2.1
          go_wp2_with fail
          obtain ⟨W8, hW8, z8, k8⟩ := set7 H7.out.2.2.1 (.int .i32 br) (.int .i64 bat) (.int .i64 bsz) (.bool bf) (.bool bx) (.bool bn) (.bool bp)
          rw [hW8]
          clear hW8 f0 f1 f2 f3 f4 f5 f6 c0 c1 c2 c3 c4 c5 c6
          have n1 := cells_fz k8 (show ¬ V2.heap.size = V3.heap.size by omega) H7.out.2.1
          have e8 : Fz (fun _ => False) W0 W8 := fz_new H7.out.1 k8 (by omega)
          have b8 : Below W0.heap.size W0 W8 := H7.out.2.2.2.trans (k8.below H7.out.2.2.2.size (fun k hk e => by omega))
          have H8 := Lib.hid (And.intro n1 (And.intro z8 b8))
          clear n1 z8 k8
          refine ⟨⟨⟨_, e8⟩, rfl⟩, ?_⟩
          clear e8 b8
          unfold wpFreeM
          go_wp2_with fail
          go_meet
          exact ⟨_, _, rfl, rfl, H8.out.2.2, H8.out.1, H8.out.2.1, by omega, by omega, by omega⟩
        ·
          refine wpOp_of_list rfl ?_
          have c1 := below_new V2 (.cells #[.int .i32 0, .int .i64 0, .int .i64 0, .bool false, .bool false, .bool false, .bool false] 26)
          have y1 := cells_new V2 #[.int .i32 0, .int .i64 0, .int .i64 0, .bool false, .bool false, .bool false, .bool false] 26
          obtain ⟨V5, hW⟩ : ∃ V, V2.alloc (.cells #[.int .i32 0, .int .i64 0, .int .i64 0, .bool false, .bool false, .bool false, .bool false] 26) = V := ⟨_, rfl⟩
          rw [hW] at c1 y1
          have HE := Lib.hid hW
          clear hW
          have sz0 := X2.out.2.1.size
          have X5 := Lib.hid (And.intro (X2.out.1.trans (Fz.of_below c1)) (And.intro (below_on X2.out.2.1 c1) (And.intro True.intro y1)))
          clear c1 y1
          go_wp2_with fail
          rw [HE.out]
          refine ⟨⟨⟨_, X5.out.1⟩, rfl⟩, ?_⟩
          refine wpFreeM_step [4] (by kernel_rfl) ⟨?_, trivial⟩
          refine wpOp_of_list rfl ?_
          have c1 := below_new V5 (.cells #[.int .i32 0, .int .i64 0, .int .i64 0, .bool false, .bool false, .bool false, .bool false] 26)
          have y1 := cells_new V5 #[.int .i32 0, .int .i64 0, .int .i64 0, .bool false, .bool false, .bool false, .bool false] 26
          obtain ⟨V6, hW⟩ : ∃ V, V5.alloc (.cells #[.int .i32 0, .int .i64 0, .int .i64 0, .bool false, .bool false, .bool false, .bool false] 26) = V := ⟨_, rfl⟩
          rw [hW] at c1 y1
          have HE := Lib.hid hW
          clear hW
          have hlt := X5.out.2.2.2.lt
          have sz := X5.out.2.1.size
          have X6 := Lib.hid (And.intro (X5.out.1.trans (Fz.of_below c1)) (And.intro (below_on X5.out.2.1 c1) (And.intro y1 (X5.out.2.2.2.on c1))))
          clear c1 y1
          go_wp2_with fail
          rw [HE.out]
          refine ⟨⟨⟨_, X6.out.1⟩, rfl⟩, ?_⟩
          refine wpFreeM_step [6] (by kernel_rfl) ⟨?_, trivial⟩
          refine wpOp_of_list rfl ?_
          have sw := X6.out.2.1.size
          have lx := X6.out.2.2.1.lt
          have ly := X6.out.2.2.2.lt
          obtain ⟨f0, f1, f2, f3, f4, f5, f6⟩ := froz7 X6.out.2.2.1
          obtain ⟨c0, c1, c2, c3, c4, c5, c6⟩ := cell7 X6.out.2.2.1
          go_wp2_with fail
          obtain ⟨W7, hW7, z7, k7⟩ := set7 X6.out.2.2.1 (.int .i32 ar) (.int .i64 aat) (.int .i64 asz) (.bool af) (.bool ax) (.bool an) (.bool ap)
          rw [hW7]
          clear hW7 f0 f1 f2 f3 f4 f5 f6 c0 c1 c2 c3 c4 c5 c6
          have n2 := cells_fz k7 (show ¬ V2.heap.size = V5.heap.size by omega) X6.out.2.2.2
          have e7 : Fz (fun _ => False) W0 W7 := fz_new X6.out.1 k7 (by omega)
          have b7 : Below W0.heap.size W0 W7 := X6.out.2.1.trans (k7.below sw (fun k hk e => by omega))
          have H7 := Lib.hid (And.intro e7 (And.intro z7 (And.intro n2 b7)))
          clear e7 z7 n2 b7 k7
          refine ⟨⟨⟨_, H7.out.1⟩, rfl⟩, ?_⟩
          refine wpFreeM_step [7] (by kernel_rfl) ⟨?_, trivial⟩
          refine wpOp_of_list rfl ?_
          obtain ⟨f0, f1, f2, f3, f4, f5, f6⟩ := froz7 H7.out.2.2.1
          obtain ⟨c0, c1, c2, c3, c4, c5, c6⟩ := cell7 H7.out.2.2.1
          go_wp2_with fail
          obtain ⟨W8, hW8, z8, k8⟩ := set7 H7.out.2.2.1 (.int .i32 br) (.int .i64 bat) (.int .i64 bsz) (.bool bf) (.bool bx) (.bool bn) (.bool bp)
          rw [hW8]
          clear hW8 f0 f1 f2 f3 f4 f5 f6 c0 c1 c2 c3 c4 c5 c6
          have n1 := cells_fz k8 (show ¬ V5.heap.size = V2.heap.size by omega) H7.out.2.1
          have e8 : Fz (fun _ => False) W0 W8 := fz_new H7.out.1 k8 (by omega)
          have b8 : Below W0.heap.size W0 W8 := H7.out.2.2.2.trans (k8.below H7.out.2.2.2.size (fun k hk e => by omega))
          have H8 := Lib.hid (And.intro n1 (And.intro z8 b8))
          clear n1 z8 k8
          refine ⟨⟨⟨_, e8⟩, rfl⟩, ?_⟩
          clear e8 b8
          unfold wpFreeM
          go_wp2_with fail
          go_meet
          exact ⟨_, _, rfl, rfl, H8.out.2.2, H8.out.1, H8.out.2.1, by omega, by omega, by omega⟩
      ·
        refine wpOp_of_list rfl ?_
        have c1 := below_new V1 (.cells #[.int .i32 0, .int .i64 0, .int .i64 0, .bool false, .bool false, .bool false, .bool false] 26)
        have y1 := cells_new V1 #[.int .i32 0, .int .i64 0, .int .i64 0, .bool false, .bool false, .bool false, .bool false] 26
        obtain ⟨V7, hW⟩ : ∃ V, V1.alloc (.cells #[.int .i32 0, .int .i64 0, .int .i64 0, .bool false, .bool false, .bool false, .bool false] 26) = V := ⟨_, rfl⟩
        rw [hW] at c1 y1
        have HE := Lib.hid hW
        clear hW
        have sz0 := X1.out.2.1.size
        have X7 := Lib.hid (And.intro (X1.out.1.trans (Fz.of_below c1)) (And.intro (below_on X1.out.2.1 c1) (And.intro y1 True.intro)))
        clear c1 y1
        go_wp2_with fail
        rw [HE.out]
        refine ⟨⟨⟨_, X7.out.1⟩, rfl⟩, ?_⟩
        refine wpFreeM_step [3, 5] (by kernel_rfl) ⟨?_, ?_, trivial⟩
        ·
          refine wpOp_of_list rfl ?_
          go_wp2_with fail
          refine (HT.out.2 V7).mono ?_
          rintro e V8 ⟨rfl, bn⟩
          have X8 := Lib.hid (And.intro (X7.out.1.trans (Fz.of_below bn)) (And.intro (below_on X7.out.2.1 bn) (And.intro (X7.out.2.2.1.on bn) True.intro)))
          clear bn
          go_wp2_with fail
          refine ⟨⟨⟨_, X8.out.1⟩, rfl⟩, ?_⟩
          refine wpFreeM_step [5] (by kernel_rfl) ⟨?_, trivial⟩
          refine wpOp_of_list rfl ?_
          have c1 := below_new V8 (.cells #[.int .i32 0, .int .i64 0, .int .i64 0, .bool false, .bool false, .bool false, .bool false] 26)
          have y1 := cells_new V8 #[.int .i32 0, .int .i64 0, .int .i64 0, .bool false, .bool false, .bool false, .bool false] 26
          obtain ⟨V9, hW⟩ : ∃ V, V8.alloc (.cells #[.int .i32 0, .int .i64 0, .int .i64 0, .bool false, .bool false, .bool false, .bool false] 26) = V := ⟨_, rfl⟩
          rw [hW] at c1 y1
          have HE := Lib.hid hW
          clear hW
          have hlt := X8.out.2.2.1.lt
          have sz := X8.out.2.1.size
          have X9 := Lib.hid (And.intro (X8.out.1.trans (Fz.of_below c1)) (And.intro (below_on X8.out.2.1 c1) (And.intro (X8.out.2.2.1.on c1) y1)))
          clear c1 y1
          go_wp2_with fail
          rw [HE.out]
          refine ⟨⟨⟨_, X9.out.1⟩, rfl⟩, ?_⟩
          refine wpFreeM_step [6] (by kernel_rfl) ⟨?_, trivial⟩
          refine wpOp_of_list rfl ?_
          have sw := X9.out.2.1.size
          have lx := X9.out.2.2.1.lt
          have ly := X9.out.2.2.2.lt
          obtain ⟨f0, f1, f2, f3, f4, f5, f6⟩ := froz7 X9.out.2.2.1
          obtain ⟨c0, c1, c2, c3, c4, c5, c6⟩ := cell7 X9.out.2.2.1
          go_wp2_with fail
          obtain ⟨W7, hW7, z7, k7⟩ := set7 X9.out.2.2.1 (.int .i32 ar) (.int .i64 aat) (.int .i64 asz) (.bool af) (.bool ax) (.bool an) (.bool ap)
          rw [hW7]
          clear hW7 f0 f1 f2 f3 f4 f5 f6 c0 c1 c2 c3 c4 c5 c6
          have n2 := cells_fz k7 (show ¬ V8.heap.size = V1.heap.size by omega) X9.out.2.2.2
          have e7 : Fz (fun _ => False) W0 W7 := fz_new X9.out.1 k7 (by omega)
          have b7 : Below W0.heap.size W0 W7 := X9.out.2.1.trans (k7.below sw (fun k hk e => by omega))
          have H7 := Lib.hid (And.intro e7 (And.intro z7 (And.intro n2 b7)))
          clear e7 z7 n2 b7 k7
          refine ⟨⟨⟨_, H7.out.1⟩, rfl⟩, ?_⟩
          refine wpFreeM_step [7] (by kernel_rfl) ⟨?_, trivial⟩
          refine wpOp_of_list rfl ?_
          obtain ⟨f0, f1, f2, f3, f4, f5, f6⟩ := froz7 H7.out.2.2.1
          obtain ⟨c0, c1, c2, c3, c4, c5, c6⟩ := cell7 H7.out.2.2.1
          go_wp2_with fail
          obtain ⟨W8, hW8, z8, k8⟩ := set7 H7.out.2.2.1 (.int .i32 br) (.int .i64 bat) (.int .i64 bsz) (.bool bf) (.bool bx) (.bool bn) (.bool bp)
          rw [hW8]
          clear hW8 f0 f1 f2 f3 f4 f5 f6 c0 c1 c2 c3 c4 c5 c6
          have n1 := cells_fz k8 (show ¬ V1.heap.size = V8.heap.size by omega) H7.out.2.1
          have e8 : Fz (fun _ => False) W0 W8 := fz_new H7.out.1 k8 (by omega)
          have b8 : Below W0.heap.size W0 W8 := H7.out.2.2.2.trans (k8.below H7.out.2.2.2.size (fun k hk e => by omega))
          have H8 := Lib.hid (And.intro n1 (And.intro z8 b8))
          clear n1 z8 k8
          refine ⟨⟨⟨_, e8⟩, rfl⟩, ?_⟩
          clear e8 b8
          unfold wpFreeM
          go_wp2_with fail
          go_meet
          exact ⟨_, _, rfl, rfl, H8.out.2.2, H8.out.1, H8.out.2.1, by omega, by omega, by omega⟩
        ·
          refine wpOp_of_list rfl ?_
          have c1 := below_new V7 (.cells #[.int .i32 0, .int .i64 0, .int .i64 0, .bool false, .bool false, .bool false, .bool false] 26)
          have y1 := cells_new V7 #[.int .i32 0, .int .i64 0, .int .i64 0, .bool false, .bool false, .bool false, .bool false] 26
          obtain ⟨V10, hW⟩ : ∃ V, V7.alloc (.cells #[.int .i32 0, .int .i64 0, .int .i64 0, .bool false, .bool false, .bool false, .bool false] 26) = V := ⟨_, rfl⟩
          rw [hW] at c1 y1
          have HE := Lib.hid hW
          clear hW
          have hlt := X7.out.2.2.1.lt
          have sz := X7.out.2.1.size
          have X10 := Lib.hid (And.intro (X7.out.1.trans (Fz.of_below c1)) (And.intro (below_on X7.out.2.1 c1) (And.intro (X7.out.2.2.1.on c1) y1)))
          clear c1 y1
          go_wp2_with fail
          rw [HE.out]
          refine ⟨⟨⟨_, X10.out.1⟩, rfl⟩, ?_⟩
          refine wpFreeM_step [3] (by kernel_rfl) ⟨?_, trivial⟩
          refine wpOp_of_list rfl ?_
          go_wp2_with fail
          refine (HT.out.2 V10).mono ?_
          rintro e V11 ⟨rfl, bn⟩
          have X11 := Lib.hid (And.intro (X10.out.1.trans (Fz.of_below bn)) (And.intro (below_on X10.out.2.1 bn) (And.intro (X10.out.2.2.1.on bn) (X10.out.2.2.2.on bn))))
          clear bn
          go_wp2_with fail
          refine ⟨⟨⟨_, X11.out.1⟩, rfl⟩, ?_⟩
          refine wpFreeM_step [6] (by kernel_rfl) ⟨?_, trivial⟩
          refine wpOp_of_list rfl ?_
          have sw := X11.out.2.1.size
          have lx := X11.out.2.2.1.lt
          have ly := X11.out.2.2.2.lt
          obtain ⟨f0, f1, f2, f3, f4, f5, f6⟩ := froz7 X11.out.2.2.1
          obtain ⟨c0, c1, c2, c3, c4, c5, c6⟩ := cell7 X11.out.2.2.1
          go_wp2_with fail
          obtain ⟨W7, hW7, z7, k7⟩ := set7 X11.out.2.2.1 (.int .i32 ar) (.int .i64 aat) (.int .i64 asz) (.bool af) (.bool ax) (.bool an) (.bool ap)
          rw [hW7]
          clear hW7 f0 f1 f2 f3 f4 f5 f6 c0 c1 c2 c3 c4 c5 c6
          have n2 := cells_fz k7 (show ¬ V7.heap.size = V1.heap.size by omega) X11.out.2.2.2
          have e7 : Fz (fun _ => False) W0 W7 := fz_new X11.out.1 k7 (by omega)
          have b7 : Below W0.heap.size W0 W7 := X11.out.2.1.trans (k7.below sw (fun k hk e => by omega))
          have H7 := Lib.hid (And.intro e7 (And.intro z7 (And.intro n2 b7)))
          clear e7 z7 n2 b7 k7
          refine ⟨⟨⟨_, H7.out.1⟩, rfl⟩, ?_⟩
          refine wpFreeM_step [7] (by kernel_rfl) ⟨?_, trivial⟩
          refine wpOp_of_list rfl ?_
          obtain ⟨f0, f1, f2, f3, f4, f5, f6⟩ := froz7 H7.out.2.2.1
          obtain ⟨c0, c1, c2, c3, c4, c5, c6⟩ := cell7 H7.out.2.2.1
          go_wp2_with fail
          obtain ⟨W8, hW8, z8, k8⟩ := set7 H7.out.2.2.1 (.int .i32 br) (.int .i64 bat) (.int .i64 bsz) (.bool bf) (.bool bx) (.bool bn) (.bool bp)
          rw [hW8]
          clear hW8 f0 f1 f2 f3 f4 f5 f6 c0 c1 c2 c3 c4 c5 c6
          have n1 := cells_fz k8 (show ¬ V1.heap.size = V7.heap.size by omega) H7.out.2.1
          have e8 : Fz (fun _ => False) W0 W8 := fz_new H7.out.1 k8 (by omega)
          have b8 : Below W0.heap.size W0 W8 := H7.out.2.2.2.trans (k8.below H7.out.2.2.2.size (fun k hk e => by omega))
          have H8 := Lib.hid (And.intro n1 (And.intro z8 b8))
          clear n1 z8 k8
          refine ⟨⟨⟨_, e8⟩, rfl⟩, ?_⟩
          clear e8 b8
          unfold wpFreeM
          go_wp2_with fail
          go_meet
          exact ⟨_, _, rfl, rfl, H8.out.2.2, H8.out.1, H8.out.2.1, by omega, by omega, by omega⟩
      ·
        refine wpOp_of_list rfl ?_
        have c1 := below_new V1 (.cells #[.int .i32 0, .int .i64 0, .int .i64 0, .bool false, .bool false, .bool false, .bool false] 26)
        have y1 := cells_new V1 #[.int .i32 0, .int .i64 0, .int .i64 0, .bool false, .bool false, .bool false, .bool false] 26
        obtain ⟨V12, hW⟩ : ∃ V, V1.alloc (.cells #[.int .i32 0, .int .i64 0, .int .i64 0, .bool false, .bool false, .bool false, .bool false] 26) = V := ⟨_, rfl⟩
        rw [hW] at c1 y1
        have HE := Lib.hid hW
        clear hW
        have sz0 := X1.out.2.1.size
        have X12 := Lib.hid (And.intro (X1.out.1.trans (Fz.of_below c1)) (And.intro (below_on X1.out.2.1 c1) (And.intro True.intro y1)))
        clear c1 y1
        go_wp2_with fail
        rw [HE.out]
        refine ⟨⟨⟨_, X12.out.1⟩, rfl⟩, ?_⟩
        refine wpFreeM_step [3, 4] (by kernel_rfl) ⟨?_, ?_, trivial⟩
        ·
          refine wpOp_of_list rfl ?_
          go_wp2_with fail
          refine (HT.out.2 V12).mono ?_
          rintro e V13 ⟨rfl, bn⟩
          have X13 := Lib.hid (And.intro (X12.out.1.trans (Fz.of_below bn)) (And.intro (below_on X12.out.2.1 bn) (And.intro True.intro (X12.out.2.2.2.on bn))))
          clear bn
          go_wp2_with fail
          refine ⟨⟨⟨_, X13.out.1⟩, rfl⟩, ?_⟩
          refine wpFreeM_step [4] (by kernel_rfl) ⟨?_, trivial⟩
          refine wpOp_of_list rfl ?_
          have c1 := below_new V13 (.cells #[.int .i32 0, .int .i64 0, .int .i64 0, .bool false, .bool false, .bool false, .bool false] 26)
          have y1 := cells_new V13 #[.int .i32 0, .int .i64 0, .int .i64 0, .bool false, .bool false, .bool false, .bool false] 26
          obtain ⟨V14, hW⟩ : ∃ V, V13.alloc (.cells #[.int .i32 0, .int .i64 0, .int .i64 0, .bool false, .bool false, .bool false, .bool false] 26) = V := ⟨_, rfl⟩
          rw [hW] at c1 y1
          have HE := Lib.hid hW
          clear hW
          have hlt := X13.out.2.2.2.lt
          have sz := X13.out.2.1.size
          have X14 := Lib.hid (And.intro (X13.out.1.trans (Fz.of_below c1)) (And.intro (below_on X13.out.2.1 c1) (And.intro y1 (X13.out.2.2.2.on c1))))
          clear c1 y1
          go_wp2_with fail
          rw [HE.out]
          refine ⟨⟨⟨_, X14.out.1⟩, rfl⟩, ?_⟩
          refine wpFreeM_step [6] (by kernel_rfl) ⟨?_, trivial⟩
          refine wpOp_of_list rfl ?_
          have sw := X14.out.2.1.size
          have lx := X14.out.2.2.1.lt
          have ly := X14.out.2.2.2.lt
          obtain ⟨f0, f1, f2, f3, f4, f5, f6⟩ := froz7 X14.out.2.2.1
          obtain ⟨c0, c1, c2, c3, c4, c5, c6⟩ := cell7 X14.out.2.2.1
          go_wp2_with fail
          obtain ⟨W7, hW7, z7, k7⟩ := set7 X14.out.2.2.1 (.int .i32 ar) (.int .i64 aat) (.int .i64 asz) (.bool af) (.bool ax) (.bool an) (.bool ap)
          rw [hW7]
          clear hW7 f0 f1 f2 f3 f4 f5 f6 c0 c1 c2 c3 c4 c5 c6
          have n2 := cells_fz k7 (show ¬ V1.heap.size = V13.heap.size by omega) X14.out.2.2.2
          have e7 : Fz (fun _ => False) W0 W7 := fz_new X14.out.1 k7 (by omega)
          have b7 : Below W0.heap.size W0 W7 := X14.out.2.1.trans (k7.below sw (fun k hk e => by omega))
          have H7 := Lib.hid (And.intro e7 (And.intro z7 (And.intro n2 b7)))
          clear e7 z7 n2 b7 k7
          refine ⟨⟨⟨_, H7.out.1⟩, rfl⟩, ?_⟩
          refine wpFreeM_step [7] (by kernel_rfl) ⟨?_, trivial⟩
          refine wpOp_of_list rfl ?_
          obtain ⟨f0, f1, f2, f3, f4, f5, f6⟩ := froz7 H7.out.2.2.1
          obtain ⟨c0, c1, c2, c3, c4, c5, c6⟩ := cell7 H7.out.2.2.1
          go_wp2_with fail
          obtain ⟨W8, hW8, z8, k8⟩ := set7 H7.out.2.2.1 (.int .i32 br) (.int .i64 bat) (.int .i64 bsz) (.bool bf) (.bool bx) (.bool bn) (.bool bp)
          rw [hW8]
          clear hW8 f0 f1 f2 f3 f4 f5 f6 c0 c1 c2 c3 c4 c5 c6
          have n1 := cells_fz k8 (show ¬ V13.heap.size = V1.heap.size by omega) H7.out.2.1
          have e8 : Fz (fun _ => False) W0 W8 := fz_new H7.out.1 k8 (by omega)
          have b8 : Below W0.heap.size W0 W8 := H7.out.2.2.2.trans (k8.below H7.out.2.2.2.size (fun k hk e => by omega))
          have H8 := Lib.hid (And.intro n1 (And.intro z8 b8))
          clear n1 z8 k8
          refine ⟨⟨⟨_, e8⟩, rfl⟩, ?_⟩
          clear e8 b8
          unfold wpFreeM
          go_wp2_with fail
          go_meet
          exact ⟨_, _, rfl, rfl, H8.out.2.2, H8.out.1, H8.out.2.1, by omega, by omega, by omega⟩
        ·
          refine wpOp_of_list rfl ?_
          have c1 := below_new V12 (.cells #[.int .i32 0, .int .i64 0, .int .i64 0, .bool false, .bool false, .bool false, .bool false] 26)
          have y1 := cells_new V12 #[.int .i32 0, .int .i64 0, .int .i64 0, .bool false, .bool false, .bool false, .bool false] 26
          obtain ⟨V15, hW⟩ : ∃ V, V12.alloc (.cells #[.int .i32 0, .int .i64 0, .int .i64 0, .bool false, .bool false, .bool false, .bool false] 26) = V := ⟨_, rfl⟩
          rw [hW] at c1 y1
          have HE := Lib.hid hW
          clear hW
          have hlt := X12.out.2.2.2.lt
          have sz := X12.out.2.1.size
          have X15 := Lib.hid (And.intro (X12.out.1.trans (Fz.of_below c1)) (And.intro (below_on X12.out.2.1 c1) (And.intro y1 (X12.out.2.2.2.on c1))))
          clear c1 y1
          go_wp2_with fail
          rw [HE.out]
          refine ⟨⟨⟨_, X15.out.1⟩, rfl⟩, ?_⟩
          refine wpFreeM_step [3] (by kernel_rfl) ⟨?_, trivial⟩
          refine wpOp_of_list rfl ?_
          go_wp2_with fail
          refine (HT.out.2 V15).mono ?_
          rintro e V16 ⟨rfl, bn⟩
          have X16 := Lib.hid (And.intro (X15.out.1.trans (Fz.of_below bn)) (And.intro (below_on X15.out.2.1 bn) (And.intro (X15.out.2.2.1.on bn) (X15.out.2.2.2.on bn))))
          clear bn
          go_wp2_with fail
          refine ⟨⟨⟨_, X16.out.1⟩, rfl⟩, ?_⟩
          refine wpFreeM_step [6] (by kernel_rfl) ⟨?_, trivial⟩
          refine wpOp_of_list rfl ?_
          have sw := X16.out.2.1.size
          have lx := X16.out.2.2.1.lt
          have ly := X16.out.2.2.2.lt
          obtain ⟨f0, f1, f2, f3, f4, f5, f6⟩ := froz7 X16.out.2.2.1
          obtain ⟨c0, c1, c2, c3, c4, c5, c6⟩ := cell7 X16.out.2.2.1
          go_wp2_with fail
          obtain ⟨W7, hW7, z7, k7⟩ := set7 X16.out.2.2.1 (.int .i32 ar) (.int .i64 aat) (.int .i64 asz) (.bool af) (.bool ax) (.bool an) (.bool ap)
          rw [hW7]
          clear hW7 f0 f1 f2 f3 f4 f5 f6 c0 c1 c2 c3 c4 c5 c6
          have n2 := cells_fz k7 (show ¬ V1.heap.size = V12.heap.size by omega) X16.out.2.2.2
          have e7 : Fz (fun _ => False) W0 W7 := fz_new X16.out.1 k7 (by omega)
          have b7 : Below W0.heap.size W0 W7 := X16.out.2.1.trans (k7.below sw (fun k hk e => by omega))
          have H7 := Lib.hid (And.intro e7 (And.intro z7 (And.intro n2 b7)))
          clear e7 z7 n2 b7 k7
          refine ⟨⟨⟨_, H7.out.1⟩, rfl⟩, ?_⟩
          refine wpFreeM_step [7] (by kernel_rfl) ⟨?_, trivial⟩
          refine wpOp_of_list rfl ?_
          obtain ⟨f0, f1, f2, f3, f4, f5, f6⟩ := froz7 H7.out.2.2.1
          obtain ⟨c0, c1, c2, c3, c4, c5, c6⟩ := cell7 H7.out.2.2.1
          go_wp2_with fail
          obtain ⟨W8, hW8, z8, k8⟩ := set7 H7.out.2.2.1 (.int .i32 br) (.int .i64 bat) (.int .i64 bsz) (.bool bf) (.bool bx) (.bool bn) (.bool bp)
          rw [hW8]
          clear hW8 f0 f1 f2 f3 f4 f5 f6 c0 c1 c2 c3 c4 c5 c6
          have n1 := cells_fz k8 (show ¬ V12.heap.size = V1.heap.size by omega) H7.out.2.1
          have e8 : Fz (fun _ => False) W0 W8 := fz_new H7.out.1 k8 (by omega)
          have b8 : Below W0.heap.size W0 W8 := H7.out.2.2.2.trans (k8.below H7.out.2.2.2.size (fun k hk e => by omega))
          have H8 := Lib.hid (And.intro n1 (And.intro z8 b8))
          clear n1 z8 k8
          refine ⟨⟨⟨_, e8⟩, rfl⟩, ?_⟩
          clear e8 b8
          unfold wpFreeM
          go_wp2_with fail
          go_meet
          exact ⟨_, _, rfl, rfl, H8.out.2.2, H8.out.1, H8.out.2.1, by omega, by omega, by omega⟩
    ·
      refine wpOp_of_list rfl ?_
      have c1 := below_new W4 (.cells #[.int .i32 0, .int .i64 0, .int .i64 0, .bool false, .bool false, .bool false, .bool false] 26)
      have y1 := cells_new W4 #[.int .i32 0, .int .i64 0, .int .i64 0, .bool false, .bool false, .bool false, .bool false] 26
      obtain ⟨V17, hW⟩ : ∃ V, W4.alloc (.cells #[.int .i32 0, .int .i64 0, .int .i64 0, .bool false, .bool false, .bool false, .bool false] 26) = V := ⟨_, rfl⟩
      rw [hW] at c1 y1
      have HE := Lib.hid hW
      clear hW
      have sz0 := H4.out.2.1.size
      have X17 := Lib.hid (And.intro (H4.out.1.trans (Fz.of_below c1)) (And.intro (below_on H4.out.2.1 c1) (And.intro y1 True.intro)))
      clear c1 y1
      go_wp2_with fail
      rw [HE.out]
      refine ⟨⟨⟨_, X17.out.1⟩, rfl⟩, ?_⟩
      refine wpFreeM_step [1, 5] (by kernel_rfl) ⟨?_, ?_, trivial⟩
      ·
        refine wpOp_of_list rfl ?_
        go_wp2_with fail
        refine (HT.out.1 V17).mono ?_
        rintro e V18 ⟨rfl, bn⟩
        have X18 := Lib.hid (And.intro (X17.out.1.trans (Fz.of_below bn)) (And.intro (below_on X17.out.2.1 bn) (And.intro (X17.out.2.2.1.on bn) True.intro)))
        clear bn
        go_wp2_with fail
        refine ⟨⟨⟨_, X18.out.1⟩, rfl⟩, ?_⟩
        refine wpFreeM_step [3, 5] (by kernel_rfl) ⟨?_, ?_, trivial⟩
        ·
          refine wpOp_of_list rfl ?_
          go_wp2_with fail
          refine (HT.out.2 V18).mono ?_
          rintro e V19 ⟨rfl, bn⟩
          have X19 := Lib.hid (And.intro (X18.out.1.trans (Fz.of_below bn)) (And.intro (below_on X18.out.2.1 bn) (And.intro (X18.out.2.2.1.on bn) True.intro)))
          clear bn
          go_wp2_with fail
          refine ⟨⟨⟨_, X19.out.1⟩, rfl⟩, ?_⟩
          refine wpFreeM_step [5] (by kernel_rfl) ⟨?_, trivial⟩
          refine wpOp_of_list rfl ?_
          have c1 := below_new V19 (.cells #[.int .i32 0, .int .i64 0, .int .i64 0, .bool false, .bool false, .bool false, .bool false] 26)
          have y1 := cells_new V19 #[.int .i32 0, .int .i64 0, .int .i64 0, .bool false, .bool false, .bool false, .bool false] 26
          obtain ⟨V20, hW⟩ : ∃ V, V19.alloc (.cells #[.int .i32 0, .int .i64 0, .int .i64 0, .bool false, .bool false, .bool false, .bool false] 26) = V := ⟨_, rfl⟩
          rw [hW] at c1 y1
          have HE := Lib.hid hW
          clear hW
          have hlt := X19.out.2.2.1.lt
          have sz := X19.out.2.1.size
          have X20 := Lib.hid (And.intro (X19.out.1.trans (Fz.of_below c1)) (And.intro (below_on X19.out.2.1 c1) (And.intro (X19.out.2.2.1.on c1) y1)))
          clear c1 y1
          go_wp2_with fail
          rw [HE.out]
          refine ⟨⟨⟨_, X20.out.1⟩, rfl⟩, ?_⟩
          refine wpFreeM_step [6] (by kernel_rfl) ⟨?_, trivial⟩
          refine wpOp_of_list rfl ?_
          have sw := X20.out.2.1.size
          have lx := X20.out.2.2.1.lt
          have ly := X20.out.2.2.2.lt
          obtain ⟨f0, f1, f2, f3, f4, f5, f6⟩ := froz7 X20.out.2.2.1
          obtain ⟨c0, c1, c2, c3, c4, c5, c6⟩ := cell7 X20.out.2.2.1
          go_wp2_with fail
          obtain ⟨W7, hW7, z7, k7⟩ := set7 X20.out.2.2.1 (.int .i32 ar) (.int .i64 aat) (.int .i64 asz) (.bool af) (.bool ax) (.bool an) (.bool ap)
          rw [hW7]
          clear hW7 f0 f1 f2 f3 f4 f5 f6 c0 c1 c2 c3 c4 c5 c6
          have n2 := cells_fz k7 (show ¬ V19.heap.size = W4.heap.size by omega) X20.out.2.2.2
          have e7 : Fz (fun _ => False) W0 W7 := fz_new X20.out.1 k7 (by omega)
          have b7 : Below W0.heap.size W0 W7 := X20.out.2.1.trans (k7.below sw (fun k hk e => by omega))
          have H7 := Lib.hid (And.intro e7 (And.intro z7 (And.intro n2 b7)))
          clear e7 z7 n2 b7 k7
          refine ⟨⟨⟨_, H7.out.1⟩, rfl⟩, ?_⟩
          refine wpFreeM_step [7] (by kernel_rfl) ⟨?_, trivial⟩
          refine wpOp_of_list rfl ?_
          obtain ⟨f0, f1, f2, f3, f4, f5, f6⟩ := froz7 H7.out.2.2.1
          obtain ⟨c0, c1, c2, c3, c4, c5, c6⟩ := cell7 H7.out.2.2.1
          go_wp2_with fail
          obtain ⟨W8, hW8, z8, k8⟩ := set7 H7.out.2.2.1 (.int .i32 br) (.int .i64 bat) (.int .i64 bsz) (.bool bf) (.bool bx) (.bool bn) (.bool bp)
          rw [hW8]
          clear hW8 f0 f1 f2 f3 f4 f5 f6 c0 c1 c2 c3 c4 c5 c6
          have n1 := cells_fz k8 (show ¬ W4.heap.size = V19.heap.size by omega) H7.out.2.1
          have e8 : Fz (fun _ => False) W0 W8 := fz_new H7.out.1 k8 (by omega)
          have b8 : Below W0.heap.size W0 W8 := H7.out.2.2.2.trans (k8.below H7.out.2.2.2.size (fun k hk e => by omega))
          have H8 := Lib.hid (And.intro n1 (And.intro z8 b8))
          clear n1 z8 k8
          refine ⟨⟨⟨_, e8⟩, rfl⟩, ?_⟩
          clear e8 b8
          unfold wpFreeM
          go_wp2_with fail
          go_meet
          exact ⟨_, _, rfl, rfl, H8.out.2.2, H8.out.1, H8.out.2.1, by omega, by omega, by omega⟩
        ·
          refine wpOp_of_list rfl ?_
          have c1 := below_new V18 (.cells #[.int .i32 0, .int .i64 0, .int .i64 0, .bool false, .bool false, .bool false, .bool false] 26)
          have y1 := cells_new V18 #[.int .i32 0, .int .i64 0, .int .i64 0, .bool false, .bool false, .bool false, .bool false] 26
          obtain ⟨V21, hW⟩ : ∃ V, V18.alloc (.cells #[.int .i32 0, .int .i64 0, .int .i64 0, .bool false, .bool false, .bool false, .bool false] 26) = V := ⟨_, rfl⟩
          rw [hW] at c1 y1
          have HE := Lib.hid hW
          clear hW
          have hlt := X18.out.2.2.1.lt
          have sz := X18.out.2.1.size
          have X21 := Lib.hid (And.intro (X18.out.1.trans (Fz.of_below c1)) (And.intro (below_on X18.out.2.1 c1) (And.intro (X18.out.2.2.1.on c1) y1)))
          clear c1 y1
          go_wp2_with fail
          rw [HE.out]
          refine ⟨⟨⟨_, X21.out.1⟩, rfl⟩, ?_⟩
          refine wpFreeM_step [3] (by kernel_rfl) ⟨?_, trivial⟩
          refine wpOp_of_list rfl ?_
          go_wp2_with fail
          refine (HT.out.2 V21).mono ?_
          rintro e V22 ⟨rfl, bn⟩
          have X22 := Lib.hid (And.intro (X21.out.1.trans (Fz.of_below bn)) (And.intro (below_on X21.out.2.1 bn) (And.intro (X21.out.2.2.1.on bn) (X21.out.2.2.2.on bn))))
          clear bn
          go_wp2_with fail
          refine ⟨⟨⟨_, X22.out.1⟩, rfl⟩, ?_⟩
          refine wpFreeM_step [6] (by kernel_rfl) ⟨?_, trivial⟩
          refine wpOp_of_list rfl ?_
          have sw := X22.out.2.1.size
          have lx := X22.out.2.2.1.lt
          have ly := X22.out.2.2.2.lt
          obtain ⟨f0, f1, f2, f3, f4, f5, f6⟩ := froz7 X22.out.2.2.1
          obtain ⟨c0, c1, c2, c3, c4, c5, c6⟩ := cell7 X22.out.2.2.1
          go_wp2_with fail
          obtain ⟨W7, hW7, z7, k7⟩ := set7 X22.out.2.2.1 (.int .i32 ar) (.int .i64 aat) (.int .i64 asz) (.bool af) (.bool ax) (.bool an) (.bool ap)
          rw [hW7]
          clear hW7 f0 f1 f2 f3 f4 f5 f6 c0 c1 c2 c3 c4 c5 c6
          have n2 := cells_fz k7 (show ¬ V18.heap.size = W4.heap.size by omega) X22.out.2.2.2
          have e7 : Fz (fun _ => False) W0 W7 := fz_new X22.out.1 k7 (by omega)
          have b7 : Below W0.heap.size W0 W7 := X22.out.2.1.trans (k7.below sw (fun k hk e => by omega))
          have H7 := Lib.hid (And.intro e7 (And.intro z7 (And.intro n2 b7)))
          clear e7 z7 n2 b7 k7
          refine ⟨⟨⟨_, H7.out.1⟩, rfl⟩, ?_⟩
          refine wpFreeM_step [7] (by kernel_rfl) ⟨?_, trivial⟩
          refine wpOp_of_list rfl ?_
          obtain ⟨f0, f1, f2, f3, f4, f5, f6⟩ := froz7 H7.out.2.2.1
          obtain ⟨c0, c1, c2, c3, c4, c5, c6⟩ := cell7 H7.out.2.2.1
          go_wp2_with fail
          obtain ⟨W8, hW8, z8, k8⟩ := set7 H7.out.2.2.1 (.int .i32 br) (.int .i64 bat) (.int .i64 bsz) (.bool bf) (.bool bx) (.bool bn) (.bool bp)
          rw [hW8]
          clear hW8 f0 f1 f2 f3 f4 f5 f6 c0 c1 c2 c3 c4 c5 c6
          have n1 := cells_fz k8 (show ¬ W4.heap.size = V18.heap.size by omega) H7.out.2.1
          have e8 : Fz (fun _ => False) W0 W8 := fz_new H7.out.1 k8 (by omega)
          have b8 : Below W0.heap.size W0 W8 := H7.out.2.2.2.trans (k8.below H7.out.2.2.2.size (fun k hk e => by omega))
          have H8 := Lib.hid (And.intro n1 (And.intro z8 b8))
          clear n1 z8 k8
          refine ⟨⟨⟨_, e8⟩, rfl⟩, ?_⟩
          clear e8 b8
          unfold wpFreeM
          go_wp2_with fail
          go_meet
          exact ⟨_, _, rfl, rfl, H8.out.2.2, H8.out.1, H8.out.2.1, by omega, by omega, by omega⟩
      ·
        refine wpOp_of_list rfl ?_
        have c1 := below_new V17 (.cells #[.int .i32 0, .int .i64 0, .int .i64 0, .bool false, .bool false, .bool false, .bool false] 26)
        have y1 := cells_new V17 #[.int .i32 0, .int .i64 0, .int .i64 0, .bool false, .bool false, .bool false, .bool false] 26
        obtain ⟨V23, hW⟩ : ∃ V, V17.alloc (.cells #[.int .i32 0, .int .i64 0, .int .i64 0, .bool false, .bool false, .bool false, .bool false] 26) = V := ⟨_, rfl⟩
        rw [hW] at c1 y1
        have HE := Lib.hid hW
        clear hW
        have hlt := X17.out.2.2.1.lt
        have sz := X17.out.2.1.size
        have X23 := Lib.hid (And.intro (X17.out.1.trans (Fz.of_below c1)) (And.intro (below_on X17.out.2.1 c1) (And.intro (X17.out.2.2.1.on c1) y1)))
        clear c1 y1
        go_wp2_with fail
        rw [HE.out]
        refine ⟨⟨⟨_, X23.out.1⟩, rfl⟩, ?_⟩
        refine wpFreeM_step [1] (by kernel_rfl) ⟨?_, trivial⟩
        refine wpOp_of_list rfl ?_
        go_wp2_with fail
        refine (HT.out.1 V23).mono ?_
        rintro e V24 ⟨rfl, bn⟩
        have X24 := Lib.hid (And.intro (X23.out.1.trans (Fz.of_below bn)) (And.intro (below_on X23.out.2.1 bn) (And.intro (X23.out.2.2.1.on bn) (X23.out.2.2.2.on bn))))
        clear bn
        go_wp2_with fail
        refine ⟨⟨⟨_, X24.out.1⟩, rfl⟩, ?_⟩
        refine wpFreeM_step [3] (by kernel_rfl) ⟨?_, trivial⟩
        refine wpOp_of_list rfl ?_
        go_wp2_with fail
        refine (HT.out.2 V24).mono ?_
        rintro e V25 ⟨rfl, bn⟩
        have X25 := Lib.hid (And.intro (X24.out.1.trans (Fz.of_below bn)) (And.intro (below_on X24.out.2.1 bn) (And.intro (X24.out.2.2.1.on bn) (X24.out.2.2.2.on bn))))
        clear bn
        go_wp2_with fail
        refine ⟨⟨⟨_, X25.out.1⟩, rfl⟩, ?_⟩
        refine wpFreeM_step [6] (by kernel_rfl) ⟨?_, trivial⟩
        refine wpOp_of_list rfl ?_
        have sw := X25.out.2.1.size
        have lx := X25.out.2.2.1.lt
        have ly := X25.out.2.2.2.lt
        obtain ⟨f0, f1, f2, f3, f4, f5, f6⟩ := froz7 X25.out.2.2.1
        obtain ⟨c0, c1, c2, c3, c4, c5, c6⟩ := cell7 X25.out.2.2.1
        go_wp2_with fail
        obtain ⟨W7, hW7, z7, k7⟩ := set7 X25.out.2.2.1 (.int .i32 ar) (.int .i64 aat) (.int .i64 asz) (.bool af) (.bool ax) (.bool an) (.bool ap)
        rw [hW7]
        clear hW7 f0 f1 f2 f3 f4 f5 f6 c0 c1 c2 c3 c4 c5 c6
        have n2 := cells_fz k7 (show ¬ V17.heap.size = W4.heap.size by omega) X25.out.2.2.2
        have e7 : Fz (fun _ => False) W0 W7 := fz_new X25.out.1 k7 (by omega)
        have b7 : Below W0.heap.size W0 W7 := X25.out.2.1.trans (k7.below sw (fun k hk e => by omega))
        have H7 := Lib.hid (And.intro e7 (And.intro z7 (And.intro n2 b7)))
        clear e7 z7 n2 b7 k7
        refine ⟨⟨⟨_, H7.out.1⟩, rfl⟩, ?_⟩
        refine wpFreeM_step [7] (by kernel_rfl) ⟨?_, trivial⟩
        refine wpOp_of_list rfl ?_
        obtain ⟨f0, f1, f2, f3, f4, f5, f6⟩ := froz7 H7.out.2.2.1
        obtain ⟨c0, c1, c2, c3, c4, c5, c6⟩ := cell7 H7.out.2.2.1
        go_wp2_with fail
        obtain ⟨W8, hW8, z8, k8⟩ := set7 H7.out.2.2.1 (.int .i32 br) (.int .i64 bat) (.int .i64 bsz) (.bool bf) (.bool bx) (.bool bn) (.bool bp)
        rw [hW8]
        clear hW8 f0 f1 f2 f3 f4 f5 f6 c0 c1 c2 c3 c4 c5 c6
        have n1 := cells_fz k8 (show ¬ W4.heap.size = V17.heap.size by omega) H7.out.2.1
        have e8 : Fz (fun _ => False) W0 W8 := fz_new H7.out.1 k8 (by omega)
        have b8 : Below W0.heap.size W0 W8 := H7.out.2.2.2.trans (k8.below H7.out.2.2.2.size (fun k hk e => by omega))
        have H8 := Lib.hid (And.intro n1 (And.intro z8 b8))
        clear n1 z8 k8
        refine ⟨⟨⟨_, e8⟩, rfl⟩, ?_⟩
        clear e8 b8
        unfold wpFreeM
        go_wp2_with fail
        go_meet
        exact ⟨_, _, rfl, rfl, H8.out.2.2, H8.out.1, H8.out.2.1, by omega, by omega, by omega⟩
    ·
      refine wpOp_of_list rfl ?_
      have c1 := below_new W4 (.cells #[.int .i32 0, .int .i64 0, .int .i64 0, .bool false, .bool false, .bool false, .bool false] 26)
      have y1 := cells_new W4 #[.int .i32 0, .int .i64 0, .int .i64 0, .bool false, .bool false, .bool false, .bool false] 26
      obtain ⟨V26, hW⟩ : ∃ V, W4.alloc (.cells #[.int .i32 0, .int .i64 0, .int .i64 0, .bool false, .bool false, .bool false, .bool false] 26) = V := ⟨_, rfl⟩
      rw [hW] at c1 y1
      have HE := Lib.hid hW
      clear hW
      have sz0 := H4.out.2.1.size
      have X26 := Lib.hid (And.intro (H4.out.1.trans (Fz.of_below c1)) (And.intro (below_on H4.out.2.1 c1) (And.intro True.intro y1)))
      clear c1 y1
      go_wp2_with fail
      rw [HE.out]
      refine ⟨⟨⟨_, X26.out.1⟩, rfl⟩, ?_⟩
      refine wpFreeM_step [1, 4] (by kernel_rfl) ⟨?_, ?_, trivial⟩
      ·
        refine wpOp_of_list rfl ?_
        go_wp2_with fail
        refine (HT.out.1 V26).mono ?_
        rintro e V27 ⟨rfl, bn⟩
        have X27 := Lib.hid (And.intro (X26.out.1.trans (Fz.of_below bn)) (And.intro (below_on X26.out.2.1 bn) (And.intro True.intro (X26.out.2.2.2.on bn))))
        clear bn
        go_wp2_with fail
        refine ⟨⟨⟨_, X27.out.1⟩, rfl⟩, ?_⟩
        refine wpFreeM_step [3, 4] (by kernel_rfl) ⟨?_, ?_, trivial⟩
        ·
          refine wpOp_of_list rfl ?_
          go_wp2_with fail
          refine (HT.out.2 V27).mono ?_
          rintro e V28 ⟨rfl, bn⟩
          have X28 := Lib.hid (And.intro (X27.out.1.trans (Fz.of_below bn)) (And.intro (below_on X27.out.2.1 bn) (And.intro True.intro (X27.out.2.2.2.on bn))))
          clear bn
          go_wp2_with fail
          refine ⟨⟨⟨_, X28.out.1⟩, rfl⟩, ?_⟩
          refine wpFreeM_step [4] (by kernel_rfl) ⟨?_, trivial⟩
          refine wpOp_of_list rfl ?_
          have c1 := below_new V28 (.cells #[.int .i32 0, .int .i64 0, .int .i64 0, .bool false, .bool false, .bool false, .bool false] 26)
          have y1 := cells_new V28 #[.int .i32 0, .int .i64 0, .int .i64 0, .bool false, .bool false, .bool false, .bool false] 26
          obtain ⟨V29, hW⟩ : ∃ V, V28.alloc (.cells #[.int .i32 0, .int .i64 0, .int .i64 0, .bool false, .bool false, .bool false, .bool false] 26) = V := ⟨_, rfl⟩
          rw [hW] at c1 y1
          have HE := Lib.hid hW
          clear hW
          have hlt := X28.out.2.2.2.lt
          have sz := X28.out.2.1.size
          have X29 := Lib.hid (And.intro (X28.out.1.trans (Fz.of_below c1)) (And.intro (below_on X28.out.2.1 c1) (And.intro y1 (X28.out.2.2.2.on c1))))
          clear c1 y1
          go_wp2_with fail
          rw [HE.out]
          refine ⟨⟨⟨_, X29.out.1⟩, rfl⟩, ?_⟩
          refine wpFreeM_step [6] (by kernel_rfl) ⟨?_, trivial⟩
          refine wpOp_of_list rfl ?_
          have sw := X29.out.2.1.size
          have lx := X29.out.2.2.1.lt
          have ly := X29.out.2.2.2.lt
          obtain ⟨f0, f1, f2, f3, f4, f5, f6⟩ := froz7 X29.out.2.2.1
          obtain ⟨c0, c1, c2, c3, c4, c5, c6⟩ := cell7 X29.out.2.2.1
          go_wp2_with fail
          obtain ⟨W7, hW7, z7, k7⟩ := set7 X29.out.2.2.1 (.int .i32 ar) (.int .i64 aat) (.int .i64 asz) (.bool af) (.bool ax) (.bool an) (.bool ap)
          rw [hW7]
          clear hW7 f0 f1 f2 f3 f4 f5 f6 c0 c1 c2 c3 c4 c5 c6
          have n2 := cells_fz k7 (show ¬ W4.heap.size = V28.heap.size by omega) X29.out.2.2.2
          have e7 : Fz (fun _ => False) W0 W7 := fz_new X29.out.1 k7 (by omega)
          have b7 : Below W0.heap.size W0 W7 := X29.out.2.1.trans (k7.below sw (fun k hk e => by omega))
          have H7 := Lib.hid (And.intro e7 (And.intro z7 (And.intro n2 b7)))
          clear e7 z7 n2 b7 k7
          refine ⟨⟨⟨_, H7.out.1⟩, rfl⟩, ?_⟩
          refine wpFreeM_step [7] (by kernel_rfl) ⟨?_, trivial⟩
          refine wpOp_of_list rfl ?_
          obtain ⟨f0, f1, f2, f3, f4, f5, f6⟩ := froz7 H7.out.2.2.1
          obtain ⟨c0, c1, c2, c3, c4, c5, c6⟩ := cell7 H7.out.2.2.1
          go_wp2_with fail
          obtain ⟨W8, hW8, z8, k8⟩ := set7 H7.out.2.2.1 (.int .i32 br) (.int .i64 bat) (.int .i64 bsz) (.bool bf) (.bool bx) (.bool bn) (.bool bp)
          rw [hW8]
          clear hW8 f0 f1 f2 f3 f4 f5 f6 c0 c1 c2 c3 c4 c5 c6
          have n1 := cells_fz k8 (show ¬ V28.heap.size = W4.heap.size by omega) H7.out.2.1
          have e8 : Fz (fun _ => False) W0 W8 := fz_new H7.out.1 k8 (by omega)
          have b8 : Below W0.heap.size W0 W8 := H7.out.2.2.2.trans (k8.below H7.out.2.2.2.size (fun k hk e => by omega))
          have H8 := Lib.hid (And.intro n1 (And.intro z8 b8))
          clear n1 z8 k8
          refine ⟨⟨⟨_, e8⟩, rfl⟩, ?_⟩
          clear e8 b8
          unfold wpFreeM
          go_wp2_with fail
          go_meet
          exact ⟨_, _, rfl, rfl, H8.out.2.2, H8.out.1, H8.out.2.1, by omega, by omega, by omega⟩
        ·
          refine wpOp_of_list rfl ?_
          have c1 := below_new V27 (.cells #[.int .i32 0, .int .i64 0, .int .i64 0, .bool false, .bool false, .bool false, .bool false] 26)
          have y1 := cells_new V27 #[.int .i32 0, .int .i64 0, .int .i64 0, .bool false, .bool false, .bool false, .bool false] 26
          obtain ⟨V30, hW⟩ : ∃ V, V27.alloc (.cells #[.int .i32 0, .int .i64 0, .int .i64 0, .bool false, .bool false, .bool false, .bool false] 26) = V := ⟨_, rfl⟩
          rw [hW] at c1 y1
          have HE := Lib.hid hW
          clear hW
          have hlt := X27.out.2.2.2.lt
          have sz := X27.out.2.1.size
          have X30 := Lib.hid (And.intro (X27.out.1.trans (Fz.of_below c1)) (And.intro (below_on X27.out.2.1 c1) (And.intro y1 (X27.out.2.2.2.on c1))))
          clear c1 y1
          go_wp2_with fail
          rw [HE.out]
          refine ⟨⟨⟨_, X30.out.1⟩, rfl⟩, ?_⟩
          refine wpFreeM_step [3] (by kernel_rfl) ⟨?_, trivial⟩
          refine wpOp_of_list rfl ?_
          go_wp2_with fail
          refine (HT.out.2 V30).mono ?_
          rintro e V31 ⟨rfl, bn⟩
          have X31 := Lib.hid (And.intro (X30.out.1.trans (Fz.of_below bn)) (And.intro (below_on X30.out.2.1 bn) (And.intro (X30.out.2.2.1.on bn) (X30.out.2.2.2.on bn))))
          clear bn
          go_wp2_with fail
          refine ⟨⟨⟨_, X31.out.1⟩, rfl⟩, ?_⟩
          refine wpFreeM_step [6] (by kernel_rfl) ⟨?_, trivial⟩
          refine wpOp_of_list rfl ?_
          have sw := X31.out.2.1.size
          have lx := X31.out.2.2.1.lt
          have ly := X31.out.2.2.2.lt
          obtain ⟨f0, f1, f2, f3, f4, f5, f6⟩ := froz7 X31.out.2.2.1
          obtain ⟨c0, c1, c2, c3, c4, c5, c6⟩ := cell7 X31.out.2.2.1
          go_wp2_with fail
          obtain ⟨W7, hW7, z7, k7⟩ := set7 X31.out.2.2.1 (.int .i32 ar) (.int .i64 aat) (.int .i64 asz) (.bool af) (.bool ax) (.bool an) (.bool ap)
          rw [hW7]
          clear hW7 f0 f1 f2 f3 f4 f5 f6 c0 c1 c2 c3 c4 c5 c6
          have n2 := cells_fz k7 (show ¬ W4.heap.size = V27.heap.size by omega) X31.out.2.2.2
          have e7 : Fz (fun _ => False) W0 W7 := fz_new X31.out.1 k7 (by omega)
          have b7 : Below W0.heap.size W0 W7 := X31.out.2.1.trans (k7.below sw (fun k hk e => by omega))
          have H7 := Lib.hid (And.intro e7 (And.intro z7 (And.intro n2 b7)))
          clear e7 z7 n2 b7 k7
          refine ⟨⟨⟨_, H7.out.1⟩, rfl⟩, ?_⟩
          refine wpFreeM_step [7] (by kernel_rfl) ⟨?_, trivial⟩
          refine wpOp_of_list rfl ?_
          obtain ⟨f0, f1, f2, f3, f4, f5, f6⟩ := froz7 H7.out.2.2.1
          obtain ⟨c0, c1, c2, c3, c4, c5, c6⟩ := cell7 H7.out.2.2.1
          go_wp2_with fail
          obtain ⟨W8, hW8, z8, k8⟩ := set7 H7.out.2.2.1 (.int .i32 br) (.int .i64 bat) (.int .i64 bsz) (.bool bf) (.bool bx) (.bool bn) (.bool bp)
          rw [hW8]
          clear hW8 f0 f1 f2 f3 f4 f5 f6 c0 c1 c2 c3 c4 c5 c6
          have n1 := cells_fz k8 (show ¬ V27.heap.size = W4.heap.size by omega) H7.out.2.1
          have e8 : Fz (fun _ => False) W0 W8 := fz_new H7.out.1 k8 (by omega)
          have b8 : Below W0.heap.size W0 W8 := H7.out.2.2.2.trans (k8.below H7.out.2.2.2.size (fun k hk e => by omega))
          have H8 := Lib.hid (And.intro n1 (And.intro z8 b8))
          clear n1 z8 k8
          refine ⟨⟨⟨_, e8⟩, rfl⟩, ?_⟩
          clear e8 b8
          unfold wpFreeM
          go_wp2_with fail
          go_meet
          exact ⟨_, _, rfl, rfl, H8.out.2.2, H8.out.1, H8.out.2.1, by omega, by omega, by omega⟩
      ·
        refine wpOp_of_list rfl ?_
        have c1 := below_new V26 (.cells #[.int .i32 0, .int .i64 0, .int .i64 0, .bool false, .bool false, .bool false, .bool false] 26)
        have y1 := cells_new V26 #[.int .i32 0, .int .i64 0, .int .i64 0, .bool false, .bool false, .bool false, .bool false] 26
        obtain ⟨V32, hW⟩ : ∃ V, V26.alloc (.cells #[.int .i32 0, .int .i64 0, .int .i64 0, .bool false, .bool false, .bool false, .bool false] 26) = V := ⟨_, rfl⟩
        rw [hW] at c1 y1
        have HE := Lib.hid hW
        clear hW
        have hlt := X26.out.2.2.2.lt
        have sz := X26.out.2.1.size
        have X32 := Lib.hid (And.intro (X26.out.1.trans (Fz.of_below c1)) (And.intro (below_on X26.out.2.1 c1) (And.intro y1 (X26.out.2.2.2.on c1))))
        clear c1 y1
        go_wp2_with fail
        rw [HE.out]
        refine ⟨⟨⟨_, X32.out.1⟩, rfl⟩, ?_⟩
        refine wpFreeM_step [1] (by kernel_rfl) ⟨?_, trivial⟩
        refine wpOp_of_list rfl ?_
        go_wp2_with fail
        refine (HT.out.1 V32).mono ?_
        rintro e V33 ⟨rfl, bn⟩
        have X33 := Lib.hid (And.intro (X32.out.1.trans (Fz.of_below bn)) (And.intro (below_on X32.out.2.1 bn) (And.intro (X32.out.2.2.1.on bn) (X32.out.2.2.2.on bn))))
        clear bn
        go_wp2_with fail
        refine ⟨⟨⟨_, X33.out.1⟩, rfl⟩, ?_⟩
        refine wpFreeM_step [3] (by kernel_rfl) ⟨?_, trivial⟩
        refine wpOp_of_list rfl ?_
        go_wp2_with fail
        refine (HT.out.2 V33).mono ?_
        rintro e V34 ⟨rfl, bn⟩
        have X34 := Lib.hid (And.intro (X33.out.1.trans (Fz.of_below bn)) (And.intro (below_on X33.out.2.1 bn) (And.intro (X33.out.2.2.1.on bn) (X33.out.2.2.2.on bn))))
        clear bn
        go_wp2_with fail
        refine ⟨⟨⟨_, X34.out.1⟩, rfl⟩, ?_⟩
        refine wpFreeM_step [6] (by kernel_rfl) ⟨?_, trivial⟩
        refine wpOp_of_list rfl ?_
        have sw := X34.out.2.1.size
        have lx := X34.out.2.2.1.lt
        have ly := X34.out.2.2.2.lt
        obtain ⟨f0, f1, f2, f3, f4, f5, f6⟩ := froz7 X34.out.2.2.1
        obtain ⟨c0, c1, c2, c3, c4, c5, c6⟩ := cell7 X34.out.2.2.1
        go_wp2_with fail
        obtain ⟨W7, hW7, z7, k7⟩ := set7 X34.out.2.2.1 (.int .i32 ar) (.int .i64 aat) (.int .i64 asz) (.bool af) (.bool ax) (.bool an) (.bool ap)
        rw [hW7]
        clear hW7 f0 f1 f2 f3 f4 f5 f6 c0 c1 c2 c3 c4 c5 c6
        have n2 := cells_fz k7 (show ¬ W4.heap.size = V26.heap.size by omega) X34.out.2.2.2
        have e7 : Fz (fun _ => False) W0 W7 := fz_new X34.out.1 k7 (by omega)
        have b7 : Below W0.heap.size W0 W7 := X34.out.2.1.trans (k7.below sw (fun k hk e => by omega))
        have H7 := Lib.hid (And.intro e7 (And.intro z7 (And.intro n2 b7)))
        clear e7 z7 n2 b7 k7
        refine ⟨⟨⟨_, H7.out.1⟩, rfl⟩, ?_⟩
        refine wpFreeM_step [7] (by kernel_rfl) ⟨?_, trivial⟩
        refine wpOp_of_list rfl ?_
        obtain ⟨f0, f1, f2, f3, f4, f5, f6⟩ := froz7 H7.out.2.2.1
        obtain ⟨c0, c1, c2, c3, c4, c5, c6⟩ := cell7 H7.out.2.2.1
        go_wp2_with fail
        obtain ⟨W8, hW8, z8, k8⟩ := set7 H7.out.2.2.1 (.int .i32 br) (.int .i64 bat) (.int .i64 bsz) (.bool bf) (.bool bx) (.bool bn) (.bool bp)
        rw [hW8]
        clear hW8 f0 f1 f2 f3 f4 f5 f6 c0 c1 c2 c3 c4 c5 c6
        have n1 := cells_fz k8 (show ¬ V26.heap.size = W4.heap.size by omega) H7.out.2.1
        have e8 : Fz (fun _ => False) W0 W8 := fz_new H7.out.1 k8 (by omega)
        have b8 : Below W0.heap.size W0 W8 := H7.out.2.2.2.trans (k8.below H7.out.2.2.2.size (fun k hk e => by omega))
        have H8 := Lib.hid (And.intro n1 (And.intro z8 b8))
        clear n1 z8 k8
        refine ⟨⟨⟨_, e8⟩, rfl⟩, ?_⟩
        clear e8 b8
        unfold wpFreeM
        go_wp2_with fail
        go_meet
        exact ⟨_, _, rfl, rfl, H8.out.2.2, H8.out.1, H8.out.2.1, by omega, by omega, by omega⟩
  case rest =>
    obtain ⟨G1, G2, rfl, rfl, hP⟩ := hcut
    clear qa0 qb0 qa1 qb1 qa2 qb2 qa3 qb3 qa4 qb4 qa5 qb5 qa6 qb6
    have HN := Lib.hid (And.intro hP.b (And.intro hP.g1 hP.g2))
    obtain ⟨m0, m1, m2, m3, m4, m5, m6⟩ := cell7 hP.x
    obtain ⟨n0, n1, n2, n3, n4, n5, n6⟩ := cell7 hP.y
    obtain ⟨f0, f1, f2, f3, f4, f5, f6⟩ := froz7 hP.x
    obtain ⟨k0, k1, k2, k3, k4, k5, k6⟩ := froz7 hP.y
    have hne := hP.ne
    have x1 : Cells ((wc.setCell ⟨G1, 5, none⟩ (.bool true)).setCell ⟨G2, 5, none⟩ (.bool true)) G1 26 #[.int .i32 ar, .int .i64 aat, .int .i64 asz, .bool af, .bool ax, .bool true, .bool ap] := cells_fz (Fz.set (X := fun z => z = G2) _ G2 5 _ rfl) (fun e => hne e) (hP.x.set 5 (.bool true))
    have y1 : Cells ((wc.setCell ⟨G1, 5, none⟩ (.bool true)).setCell ⟨G2, 5, none⟩ (.bool true)) G2 26 #[.int .i32 br, .int .i64 bat, .int .i64 bsz, .bool bf, .bool bx, .bool true, .bool bp] := (cells_fz (Fz.set (X := fun z => z = G1) wc G1 5 (.bool true) rfl) (fun e => hne e.symm) hP.y).set 5 (.bool true)
    have zz := (Fz.set (X := fun z => z = G1 ∨ z = G2) wc G1 5 (.bool true) (.inl rfl)).trans (Fz.set (X := fun z => z = G1 ∨ z = G2) _ G2 5 (.bool true) (.inr rfl))
    go_upto_region 3 with fail
    obtain ⟨W9, hW9⟩ : ∃ V, (wc.setCell ⟨G1, 5, none⟩ (.bool true)).setCell ⟨G2, 5, none⟩ (.bool true) = V := ⟨_, rfl⟩
    rw [hW9] at x1 y1 zz ⊢
    clear hW9 m0 m1 m2 m3 m4 m5 m6 n0 n1 n2 n3 n4 n5 n6 f0 f1 f2 f3 f4 f5 f6 k0 k1 k2 k3 k4 k5 k6
    have b9 : Below W0.heap.size W0 W9 := HN.out.1.trans (zz.below HN.out.1.size (fun k hk e => by have := HN.out.2.1; have := HN.out.2.2; omega))
    obtain ⟨m0, m1, m2, m3, m4, m5, m6⟩ := cell7 x1
    obtain ⟨n0, n1, n2, n3, n4, n5, n6⟩ := cell7 y1
    have H9 := Lib.hid (And.intro x1 (And.intro y1 (And.intro b9 hne)))
    clear x1 y1 zz b9 hP hne
    go_wp2_with fail
    refine (HC.out.1 _).mono ?_
    rintro e w3 ⟨rfl, b3⟩
    clear m0 m1 m2 m3 m4 m5 m6 n0 n1 n2 n3 n4 n5 n6
    have x3 := H9.out.1.on b3
    have y3 := H9.out.2.1.on b3
    have c3 := below_on H9.out.2.2.1 b3
    go_upto_region 4 with fail
    have qa0 : ∀ p : Later (fun _ => False) w3, p.W.cell? ⟨G1, 0, none⟩ = some (.int .i32 ar) := fun p => cell_later (x3.cell 0) (fun hf => hf) p
    have qa1 : ∀ p : Later (fun _ => False) w3, p.W.cell? ⟨G1, 1, none⟩ = some (.int .i64 aat) := fun p => cell_later (x3.cell 1) (fun hf => hf) p
    have qa2 : ∀ p : Later (fun _ => False) w3, p.W.cell? ⟨G1, 2, none⟩ = some (.int .i64 asz) := fun p => cell_later (x3.cell 2) (fun hf => hf) p
    have qa3 : ∀ p : Later (fun _ => False) w3, p.W.cell? ⟨G1, 3, none⟩ = some (.bool af) := fun p => cell_later (x3.cell 3) (fun hf => hf) p
    have qa4 : ∀ p : Later (fun _ => False) w3, p.W.cell? ⟨G1, 4, none⟩ = some (.bool ax) := fun p => cell_later (x3.cell 4) (fun hf => hf) p
    have qa5 : ∀ p : Later (fun _ => False) w3, p.W.cell? ⟨G1, 5, none⟩ = some (.bool true) := fun p => cell_later (x3.cell 5) (fun hf => hf) p
    have qa6 : ∀ p : Later (fun _ => False) w3, p.W.cell? ⟨G1, 6, none⟩ = some (.bool ap) := fun p => cell_later (x3.cell 6) (fun hf => hf) p
    have qb0 : ∀ p : Later (fun _ => False) w3, p.W.cell? ⟨G2, 0, none⟩ = some (.int .i32 br) := fun p => cell_later (y3.cell 0) (fun hf => hf) p
    have qb1 : ∀ p : Later (fun _ => False) w3, p.W.cell? ⟨G2, 1, none⟩ = some (.int .i64 bat) := fun p => cell_later (y3.cell 1) (fun hf => hf) p
    have qb2 : ∀ p : Later (fun _ => False) w3, p.W.cell? ⟨G2, 2, none⟩ = some (.int .i64 bsz) := fun p => cell_later (y3.cell 2) (fun hf => hf) p
    have qb3 : ∀ p : Later (fun _ => False) w3, p.W.cell? ⟨G2, 3, none⟩ = some (.bool bf) := fun p => cell_later (y3.cell 3) (fun hf => hf) p
    have qb4 : ∀ p : Later (fun _ => False) w3, p.W.cell? ⟨G2, 4, none⟩ = some (.bool bx) := fun p => cell_later (y3.cell 4) (fun hf => hf) p
    have qb5 : ∀ p : Later (fun _ => False) w3, p.W.cell? ⟨G2, 5, none⟩ = some (.bool true) := fun p => cell_later (y3.cell 5) (fun hf => hf) p
    have qb6 : ∀ p : Later (fun _ => False) w3, p.W.cell? ⟨G2, 6, none⟩ = some (.bool bp) := fun p => cell_later (y3.cell 6) (fun hf => hf) p
    have H3 := Lib.hid c3
    clear x3 y3 c3 b3
    go_cut [12, 13] from 15 to 61 (fun v1 v2 wx => ∃ G1 G2, v1 = .pointer (some ⟨G1, 0, none⟩) ∧ v2 = .pointer (some ⟨G2, 0, none⟩) ∧ P2 W0 #[.int .i32 ar, .int .i64 aat, .int .i64 asz, .bool af, .bool ax, .bool true, .bool ap] #[.int .i32 br, .int .i64 bat, .int .i64 bsz, .bool bf, .bool bx, .bool true, .bool bp] G1 G2 wx)
    case first =>
      refine wp_region_mixF (fun i => if 2 ≤ i then 2 else 0) [0, 1] 4 (fun w' => ∃ P : Later (fun _ => False) w3, w' = P.W) (by kernel_rfl) (by kernel_rfl) ⟨⟨_, Fz.drew w3⟩, rfl⟩ ?_
      simp only [opsAt, List.filterMap_cons, List.filterMap_nil, List.getElem?_toArray, List.getElem?_cons_zero, List.getElem?_cons_succ]
      change wpQuiet _ _ _ _ [_, _] _
      repeat (go_big_quiet_step (fail))
      refine wpQuiet_nil ?_
      clear qa0 qb0 qa1 qb1 qa2 qb2 qa3 qb3 qa4 qb4 qa5 qb5 qa6 qb6
      have z0 := Fz.drew (X := fun _ => False) w3
      have bd := z0.below (B := w3.heap.size) (Nat.le_refl _) (fun _ _ h => h)
      obtain ⟨W4, hW4⟩ : ∃ V, ({ w3 with drawn := w3.drawn + 1 } : World) = V := ⟨_, rfl⟩
      rw [hW4] at z0 bd ⊢
      clear hW4
      have H4 := Lib.hid (And.intro z0 (below_on H3.out bd))
      clear z0 bd
      refine wpFreeM_step [2, 3] (by kernel_rfl) ⟨?_, ?_, trivial⟩
      ·
        refine wpOp_of_list rfl ?_
        have y1 := cells_new W4 #[.int .i32 0, .int .i64 0, .int .i64 0, .bool false, .bool false, .bool false, .bool false] 26
        have c1 := below_new W4 (.cells #[.int .i32 0, .int .i64 0, .int .i64 0, .bool false, .bool false, .bool false, .bool false] 26)
        have sz : (W4.alloc (.cells #[.int .i32 0, .int .i64 0, .int .i64 0, .bool false, .bool false, .bool false, .bool false] 26)).heap.size = W4.heap.size + 1 := by simp
        obtain ⟨W5, hW5⟩ : ∃ V, W4.alloc (.cells #[.int .i32 0, .int .i64 0, .int .i64 0, .bool false, .bool false, .bool false, .bool false] 26) = V := ⟨_, rfl⟩
        rw [hW5] at y1 c1 sz
        have y2 := cells_new W5 #[.int .i32 0, .int .i64 0, .int .i64 0, .bool false, .bool false, .bool false, .bool false] 26
        have c2 := below_new W5 (.cells #[.int .i32 0, .int .i64 0, .int .i64 0, .bool false, .bool false, .bool false, .bool false] 26)
        obtain ⟨W6, hW6⟩ : ∃ V, W5.alloc (.cells #[.int .i32 0, .int .i64 0, .int .i64 0, .bool false, .bool false, .bool false, .bool false] 26) = V := ⟨_, rfl⟩
        rw [hW6] at y2 c2
        rw [sz] at y2
        have zf5 := H4.out.1.trans (Fz.of_below c1)
        have zf6 := zf5.trans (Fz.of_below c2)
        have yy1 := y1.on c2
        have bl := below_on H4.out.2 (below_on c1 c2)
        have s0 := H4.out.2.size
        have HW5 := Lib.hid hW5
        have HW6 := Lib.hid hW6
        have HY := Lib.hid (And.intro zf5 (And.intro zf6 (And.intro yy1 (And.intro y2 bl))))
        clear y1 c1 y2 c2 hW5 hW6 zf5 zf6 yy1 bl
        go_wp2_with fail
        rw [HW5.out]
        refine ⟨⟨⟨_, HY.out.1⟩, rfl⟩, ?_⟩
        refine wpFreeM_step [3] (by kernel_rfl) ⟨?_, trivial⟩
        refine wpOp_of_list rfl ?_
        go_wp2_with fail
        rw [HW6.out]
        refine ⟨⟨⟨_, HY.out.2.1⟩, rfl⟩, ?_⟩
        refine wpFreeM_step [4] (by kernel_rfl) ⟨?_, trivial⟩
        refine wpOp_of_list rfl ?_
        obtain ⟨f0, f1, f2, f3, f4, f5, f6⟩ := froz7 HY.out.2.2.1
        obtain ⟨c0, c1, c2, c3, c4, c5, c6⟩ := cell7 HY.out.2.2.1
        go_wp2_with fail
        obtain ⟨W7, hW7, z7, k7⟩ := set7 HY.out.2.2.1 (.int .i32 ar) (.int .i64 aat) (.int .i64 asz) (.bool af) (.bool ax) (.bool true) (.bool ap)
        rw [hW7]
        clear hW7 f0 f1 f2 f3 f4 f5 f6 c0 c1 c2 c3 c4 c5 c6
        have n2 := cells_fz k7 (show ¬ W4.heap.size + 1 = W4.heap.size by omega) HY.out.2.2.2.1
        have e7 : Fz (fun _ => False) w3 W7 := fz_new HY.out.2.1 k7 (by have := H4.out.1.size; omega)
        have b7 : Below W0.heap.size W0 W7 := HY.out.2.2.2.2.trans (k7.below (by have := HY.out.2.2.2.2.size; omega) (fun k hk e => by omega))
        have H7 := Lib.hid (And.intro e7 (And.intro z7 (And.intro n2 b7)))
        clear e7 z7 n2 b7 k7
        refine ⟨⟨⟨_, H7.out.1⟩, rfl⟩, ?_⟩
        refine wpFreeM_step [5] (by kernel_rfl) ⟨?_, trivial⟩
        refine wpOp_of_list rfl ?_
        obtain ⟨f0, f1, f2, f3, f4, f5, f6⟩ := froz7 H7.out.2.2.1
        obtain ⟨c0, c1, c2, c3, c4, c5, c6⟩ := cell7 H7.out.2.2.1
        go_wp2_with fail
        obtain ⟨W8, hW8, z8, k8⟩ := set7 H7.out.2.2.1 (.int .i32 br) (.int .i64 bat) (.int .i64 bsz) (.bool bf) (.bool bx) (.bool true) (.bool bp)
        rw [hW8]
        clear hW8 f0 f1 f2 f3 f4 f5 f6 c0 c1 c2 c3 c4 c5 c6
        have n1 := cells_fz k8 (show ¬ W4.heap.size = W4.heap.size + 1 by omega) H7.out.2.1
        have e8 : Fz (fun _ => False) w3 W8 := fz_new H7.out.1 k8 (by have := H4.out.1.size; omega)
        have b8 : Below W0.heap.size W0 W8 := H7.out.2.2.2.trans (k8.below (by have := H7.out.2.2.2.size; omega) (fun k hk e => by omega))
        have H8 := Lib.hid (And.intro n1 (And.intro z8 b8))
        clear n1 z8 k8
        refine ⟨⟨⟨_, e8⟩, rfl⟩, ?_⟩
        clear e8 b8
        unfold wpFreeM
        go_wp2_with fail
        go_meet
        exact ⟨_, _, rfl, rfl, H8.out.2.2, H8.out.1, H8.out.2.1, by omega, by omega, by omega⟩
      ·
        refine wpOp_of_list rfl ?_
        have y1 := cells_new W4 #[.int .i32 0, .int .i64 0, .int .i64 0, .bool false, .bool false, .bool false, .bool false] 26
        have c1 := below_new W4 (.cells #[.int .i32 0, .int .i64 0, .int .i64 0, .bool false, .bool false, .bool false, .bool false] 26)
        have sz : (W4.alloc (.cells #[.int .i32 0, .int .i64 0, .int .i64 0, .bool false, .bool false, .bool false, .bool false] 26)).heap.size = W4.heap.size + 1 := by simp
        obtain ⟨W5, hW5⟩ : ∃ V, W4.alloc (.cells #[.int .i32 0, .int .i64 0, .int .i64 0, .bool false, .bool false, .bool false, .bool false] 26) = V := ⟨_, rfl⟩
        rw [hW5] at y1 c1 sz
        have y2 := cells_new W5 #[.int .i32 0, .int .i64 0, .int .i64 0, .bool false, .bool false, .bool false, .bool false] 26
        have c2 := below_new W5 (.cells #[.int .i32 0, .int .i64 0, .int .i64 0, .bool false, .bool false, .bool false, .bool false] 26)
        obtain ⟨W6, hW6⟩ : ∃ V, W5.alloc (.cells #[.int .i32 0, .int .i64 0, .int .i64 0, .bool false, .bool false, .bool false, .bool false] 26) = V := ⟨_, rfl⟩
        rw [hW6] at y2 c2
        rw [sz] at y2
        have zf5 := H4.out.1.trans (Fz.of_below c1)
        have zf6 := zf5.trans (Fz.of_below c2)
        have yy1 := y1.on c2
        have bl := below_on H4.out.2 (below_on c1 c2)
        have s0 := H4.out.2.size
        have HW5 := Lib.hid hW5
        have HW6 := Lib.hid hW6
        have HY := Lib.hid (And.intro zf5 (And.intro zf6 (And.intro yy1 (And.intro y2 bl))))
        clear y1 c1 y2 c2 hW5 hW6 zf5 zf6 yy1 bl
        go_wp2_with fail
        rw [HW5.out]
        refine ⟨⟨⟨_, HY.out.1⟩, rfl⟩, ?_⟩
        refine wpFreeM_step [2] (by kernel_rfl) ⟨?_, trivial⟩
        refine wpOp_of_list rfl ?_
        go_wp2_with fail
        rw [HW6.out]
        refine ⟨⟨⟨_, HY.out.2.1⟩, rfl⟩, ?_⟩
        refine wpFreeM_step [4] (by kernel_rfl) ⟨?_, trivial⟩
        refine wpOp_of_list rfl ?_
        obtain ⟨f0, f1, f2, f3, f4, f5, f6⟩ := froz7 HY.out.2.2.2.1
        obtain ⟨c0, c1, c2, c3, c4, c5, c6⟩ := cell7 HY.out.2.2.2.1
        go_wp2_with fail
        obtain ⟨W7, hW7, z7, k7⟩ := set7 HY.out.2.2.2.1 (.int .i32 ar) (.int .i64 aat) (.int .i64 asz) (.bool af) (.bool ax) (.bool true) (.bool ap)
        rw [hW7]
        clear hW7 f0 f1 f2 f3 f4 f5 f6 c0 c1 c2 c3 c4 c5 c6
        have n2 := cells_fz k7 (show ¬ W4.heap.size = W4.heap.size + 1 by omega) HY.out.2.2.1
        have e7 : Fz (fun _ => False) w3 W7 := fz_new HY.out.2.1 k7 (by have := H4.out.1.size; omega)
        have b7 : Below W0.heap.size W0 W7 := HY.out.2.2.2.2.trans (k7.below (by have := HY.out.2.2.2.2.size; omega) (fun k hk e => by omega))
        have H7 := Lib.hid (And.intro e7 (And.intro z7 (And.intro n2 b7)))
        clear e7 z7 n2 b7 k7
        refine ⟨⟨⟨_, H7.out.1⟩, rfl⟩, ?_⟩
        refine wpFreeM_step [5] (by kernel_rfl) ⟨?_, trivial⟩
        refine wpOp_of_list rfl ?_
        obtain ⟨f0, f1, f2, f3, f4, f5, f6⟩ := froz7 H7.out.2.2.1
        obtain ⟨c0, c1, c2, c3, c4, c5, c6⟩ := cell7 H7.out.2.2.1
        go_wp2_with fail
        obtain ⟨W8, hW8, z8, k8⟩ := set7 H7.out.2.2.1 (.int .i32 br) (.int .i64 bat) (.int .i64 bsz) (.bool bf) (.bool bx) (.bool true) (.bool bp)
        rw [hW8]
        clear hW8 f0 f1 f2 f3 f4 f5 f6 c0 c1 c2 c3 c4 c5 c6
        have n1 := cells_fz k8 (show ¬ W4.heap.size + 1 = W4.heap.size by omega) H7.out.2.1
        have e8 : Fz (fun _ => False) w3 W8 := fz_new H7.out.1 k8 (by have := H4.out.1.size; omega)
        have b8 : Below W0.heap.size W0 W8 := H7.out.2.2.2.trans (k8.below (by have := H7.out.2.2.2.size; omega) (fun k hk e => by omega))
        have H8 := Lib.hid (And.intro n1 (And.intro z8 b8))
        clear n1 z8 k8
        refine ⟨⟨⟨_, e8⟩, rfl⟩, ?_⟩
        clear e8 b8
        unfold wpFreeM
        go_wp2_with fail
        go_meet
        exact ⟨_, _, rfl, rfl, H8.out.2.2, H8.out.1, H8.out.2.1, by omega, by omega, by omega⟩
    case rest =>
      obtain ⟨G3, G4, rfl, rfl, hP⟩ := hcut
      clear qa0 qb0 qa1 qb1 qa2 qb2 qa3 qb3 qa4 qb4 qa5 qb5 qa6 qb6
      have HN := Lib.hid (And.intro hP.b (And.intro hP.g1 hP.g2))
      obtain ⟨m0, m1, m2, m3, m4, m5, m6⟩ := cell7 hP.x
      obtain ⟨n0, n1, n2, n3, n4, n5, n6⟩ := cell7 hP.y
      obtain ⟨f0, f1, f2, f3, f4, f5, f6⟩ := froz7 hP.x
      obtain ⟨k0, k1, k2, k3, k4, k5, k6⟩ := froz7 hP.y
      have hne := hP.ne
      have hn1 : ¬ G3 = G4 := hne
      have hn2 : ¬ G4 = G3 := fun e => hne e.symm
      have SA := fun (V : World) (j : Nat) (v : Value) => Fz.set (X := fun z => z = G3) V G3 j v rfl
      have SB := fun (V : World) (j : Nat) (v : Value) => Fz.set (X := fun z => z = G4) V G4 j v rfl
      have x1 : Cells (((((wc.setCell ⟨G3, 5, none⟩ (.bool false)).setCell ⟨G4, 5, none⟩ (.bool false)).setCell ⟨G3, 6, none⟩ (.bool false)).setCell ⟨G4, 6, none⟩ (.bool false)).setCell ⟨G4, 4, none⟩ (.bool false)) G3 26 #[.int .i32 ar, .int .i64 aat, .int .i64 asz, .bool af, .bool ax, .bool false, .bool false] := cells_fz (SB _ 4 _) hn1 (cells_fz (SB _ 6 _) hn1 ((cells_fz (SB _ 5 _) hn1 (hP.x.set 5 (.bool false))).set 6 (.bool false)))
      have y1 : Cells (((((wc.setCell ⟨G3, 5, none⟩ (.bool false)).setCell ⟨G4, 5, none⟩ (.bool false)).setCell ⟨G3, 6, none⟩ (.bool false)).setCell ⟨G4, 6, none⟩ (.bool false)).setCell ⟨G4, 4, none⟩ (.bool false)) G4 26 #[.int .i32 br, .int .i64 bat, .int .i64 bsz, .bool bf, .bool false, .bool false, .bool false] := (((cells_fz (SA _ 6 _) hn2 ((cells_fz (SA _ 5 _) hn2 hP.y).set 5 (.bool false))).set 6 (.bool false))).set 4 (.bool false)
      have TA := fun (V : World) (j : Nat) (v : Value) => Fz.set (X := fun z => z = G3 ∨ z = G4) V G3 j v (.inl rfl)
      have TC := fun (V : World) (j : Nat) (v : Value) => Fz.set (X := fun z => z = G3 ∨ z = G4) V G4 j v (.inr rfl)
      have zz : Fz (fun z => z = G3 ∨ z = G4) wc (((((wc.setCell ⟨G3, 5, none⟩ (.bool false)).setCell ⟨G4, 5, none⟩ (.bool false)).setCell ⟨G3, 6, none⟩ (.bool false)).setCell ⟨G4, 6, none⟩ (.bool false)).setCell ⟨G4, 4, none⟩ (.bool false)) := ((((TA _ 5 _).trans (TC _ 5 _)).trans (TA _ 6 _)).trans (TC _ 6 _)).trans (TC _ 4 _)
      go_upto_region 6 with fail
      obtain ⟨W9, hW9⟩ : ∃ V, (((((wc.setCell ⟨G3, 5, none⟩ (.bool false)).setCell ⟨G4, 5, none⟩ (.bool false)).setCell ⟨G3, 6, none⟩ (.bool false)).setCell ⟨G4, 6, none⟩ (.bool false)).setCell ⟨G4, 4, none⟩ (.bool false)) = V := ⟨_, rfl⟩
      rw [hW9] at x1 y1 zz ⊢
      clear hW9 m0 m1 m2 m3 m4 m5 m6 n0 n1 n2 n3 n4 n5 n6 f0 f1 f2 f3 f4 f5 f6 k0 k1 k2 k3 k4 k5 k6 SA SB TA TC hn1 hn2
      have b9 : Below W0.heap.size W0 W9 := HN.out.1.trans (zz.below HN.out.1.size (fun k hk e => by have := HN.out.2.1; have := HN.out.2.2; omega))
      obtain ⟨m0, m1, m2, m3, m4, m5, m6⟩ := cell7 x1
      obtain ⟨n0, n1, n2, n3, n4, n5, n6⟩ := cell7 y1
      have H9 := Lib.hid b9
      clear x1 y1 zz b9 hP hne
      go_wp2_with fail
      refine (HC.out.2 _).mono ?_
      rintro e w5 ⟨rfl, b3⟩
      clear m0 m1 m2 m3 m4 m5 m6 n0 n1 n2 n3 n4 n5 n6
      have b5 := below_on H9.out b3
      have g3 : w5.cell? ⟨w.heap.size + 1, 3, none⟩ = some (.bool bf) := (HB.out.2.2.2.on b5).cell 3
      have H5 := Lib.hid (below_on HB.out.2.1 b5)
      clear b3 b5
      have A := Lib.hid (awake_any w5)
      rcases HM.out with ⟨d, hf, h1⟩ | ⟨d, hf, h1⟩ | ⟨d, h1⟩
      ·
        subst hf
        subst h1
        go_wp2_with fail
        refine A.out.mono ?_
        rintro e w6 ⟨rfl, b6⟩
        have b7 := below_on H5.out b6
        clear b6
        go_wp2_with fail
        go_ret
        exact ⟨rfl, b7⟩
      ·
        subst hf
        subst h1
        go_wp2_with fail
        refine A.out.mono ?_
        rintro e w6 ⟨rfl, b6⟩
        have b7 := below_on H5.out b6
        clear b6
        go_wp2_with fail
        go_ret
        exact ⟨rfl, b7⟩
      ·
        have hq : (R1 == R2) = true := by simp [h1]
        go_wp2_with fail
        refine A.out.mono ?_
        rintro e w6 ⟨rfl, b6⟩
        have b7 := below_on H5.out b6
        clear b6
        go_wp2_with fail
        go_ret
        exact ⟨rfl, b7⟩
end Go.Proofs.Ytflhdfbpafhjlaa
