/-
  What the rows of flat lean on, part c.
-/
import Derived.Deep.CutRange
import Derived.Test.YtfafhbgkmlmmdaaGreatDoorYqb
import Derived.Deep.MidRow
import Derived.Lib.DecodeNEq
import Derived.Shelf.Small.Utf8
import Derived.Shelf.Spec.DecodeRune
import Derived.WalkKit
import Derived.BigQuiet
import Derived.Deep.QuietTactic
import Derived.Outline
import Derived.Lib.Hide
import Derived.Below
set_option maxRecDepth 100000
set_option maxHeartbeats 40000000
namespace Go.Proofs.YtfafhbgkmlmmdaaGreatDoor.K
open Go.RowKit Go.Shelf Go.Lib Go.Maps
theorem Fz.cellsK {X : Nat → Prop} {w w' : World} {g t : Nat} {cs : Array Value} (h : Fz X w w') (hX : ¬ X g) (hc : Cells w g t cs) : Cells w' g t cs := (h.block _ hc.lt hX).trans hc
structure IT where
 r : Int
 at_ : Int
 sz : Int
 f : Bool
 x : Bool
 n : Bool
 p : Bool
def itA (i : IT) : Array Value := #[.int .i32 i.r, .int .i64 i.at_, .int .i64 i.sz, .bool i.f, .bool i.x, .bool i.n, .bool i.p]
def exA (gn : Nat) (f x : Bool) : Array Value := #[.pointer (some ⟨gn, 0, none⟩), .bool f, .bool x]
structure I1 (w : World) (gn gx : Nat) (f x : Bool) (it : Array Value) (G : Nat) (W : World) : Prop where
 b : Below w.heap.size w W
 r : Cells W w.heap.size 52 #[.int .i32 0, .int .i64 0, .int .i64 0, .bool false, .bool false, .bool false, .bool false]
 y : Cells W G 52 it
 g : w.heap.size < G
theorem shareK {T G : Prop} (tree : T → G) (k : T) : G := tree k
theorem item_any (gn gx : Nat) (c : Ct) (f x : Bool) (r at_ sz : Int) (w : World) (hx : Cells w gx 154 (exA gn f x)) (hn : NeAt w gn c) :
  Calls Tryz.prog 107 #[.pointer (some ⟨gx, 0, none⟩), .int .i32 r, .int .i64 at_, .int .i64 sz] w fun e w' =>
   e = .returned (.agg (itA ⟨r, at_, sz, f, x, decide (0 < c.n), decide (0 < c.p)⟩)) ∧ Cells w' gx 154 (exA gn false false) ∧ Fz (fun k => k = gx) w w' := by
 have CN := fun W (h : Below w.heap.size w W) => nob_any gn c W (Cells.on hn h)
 have CP := fun W (h : Below w.heap.size w W) => pre_any gn c W (Cells.on hn h)
 obtain ⟨cn, hcn⟩ : ∃ q, c.n = q := ⟨_, rfl⟩
 obtain ⟨cp, hcp⟩ : ∃ q, c.p = q := ⟨_, rfl⟩
 rw [hcn, hcp]
 simp only [hcn] at CN
 simp only [hcp] at CP
 clear hcn hcp
 obtain ⟨bn, hbn⟩ : ∃ q, decide (0 < cn) = q := ⟨_, rfl⟩
 obtain ⟨bp, hbp⟩ : ∃ q, decide (0 < cp) = q := ⟨_, rfl⟩
 rw [hbn, hbp]
 unfold itA exA
 unfold exA at hx
 obtain ⟨W1, hW1⟩ : ∃ V, w.alloc (.cells #[.int .i32 0, .int .i64 0, .int .i64 0, .bool false, .bool false, .bool false, .bool false] 52) = V := ⟨_, rfl⟩
 have p1 : Below w.heap.size w W1 := by rw [← hW1]; exact below_new w _
 have o1 : Cells W1 w.heap.size 52 #[.int .i32 0, .int .i64 0, .int .i64 0, .bool false, .bool false, .bool false, .bool false] := by rw [← hW1]; exact cells_new _ _ _
 have x1 := hx.on p1
 have q0 : W1.cell? ⟨gx, 0, none⟩ = some (.pointer (some ⟨gn, 0, none⟩)) := x1.cell 0
 have q1 : W1.cell? ⟨gx, 1, none⟩ = some (.bool f) := x1.cell 1
 have q2 : W1.cell? ⟨gx, 2, none⟩ = some (.bool x) := x1.cell 2
 have hgx := hx.lt
 have HW := Lib.hid (And.intro hW1 (And.intro p1 (And.intro o1 (And.intro x1 (And.intro hgx hx)))))
 have HC := Lib.hid (And.intro CN CP)
 clear hW1 p1 o1 x1 CN CP hx hn hgx
 go_enter Tryz.func107, Tryz.ntmps107
 go_upto_region 1 with fail
 rw [HW.out.1]
 go_cut [9] from 10 to 33 (fun v wx => ∃ G, v = .pointer (some ⟨G, 0, none⟩) ∧ I1 w gn gx f x #[.int .i32 r, .int .i64 at_, .int .i64 sz, .bool f, .bool x, .bool bn, .bool bp] G wx)
 case first =>
  have g0 : ∀ p : Later (fun _ => False) W1, p.W.cell? ⟨gx, 0, none⟩ = some (.pointer (some ⟨gn, 0, none⟩)) := fun p => cell_later q0 (fun hf => hf) p
  have g1 : ∀ p : Later (fun _ => False) W1, p.W.cell? ⟨gx, 1, none⟩ = some (.bool f) := fun p => cell_later q1 (fun hf => hf) p
  have g2 : ∀ p : Later (fun _ => False) W1, p.W.cell? ⟨gx, 2, none⟩ = some (.bool x) := fun p => cell_later q2 (fun hf => hf) p
  clear q0 q1 q2
  refine wp_region_mixF (fun i => if i = 15 then 2 else if i = 16 then 2 else if 21 ≤ i then 2 else 0) [0, 1, 2, 3, 4, 5, 6, 7, 8, 9, 10, 11, 12, 13, 14, 17, 18, 19, 20] 7 (fun w' => ∃ p : Later (fun _ => False) W1, w' = p.W) (by kernel_rfl) (by kernel_rfl) ⟨⟨_, Fz.drew W1⟩, rfl⟩ ?_
  simp only [opsAt, List.filterMap_cons, List.filterMap_nil, List.getElem?_toArray, List.getElem?_cons_zero, List.getElem?_cons_succ]
  change wpQuiet _ _ _ _ [_, _, _, _, _, _, _, _, _, _, _, _, _, _, _, _, _, _, _] _
  repeat (go_big_quiet_step (fail))
  refine wpQuiet_nil ?_
  clear g0 g1 g2
  have zz : Fz (fun _ => False) W1 { W1 with drawn := W1.drawn + 1 } := Fz.drew W1
  obtain ⟨W4, hW4⟩ : ∃ V, ({ W1 with drawn := W1.drawn + 1 } : World) = V := ⟨_, rfl⟩
  rw [hW4] at zz ⊢
  clear hW4
  have bz := zz.below (Nat.le_refl _) (fun _ _ hf => hf)
  have H4 := Lib.hid (And.intro zz (And.intro (HW.out.2.1.trans (bz.mono HW.out.2.1.size)) (HW.out.2.2.1.on bz)))
  clear zz bz
  have x6 : Cells (W4.alloc (.cells #[.int .i32 0, .int .i64 0, .int .i64 0, .bool false, .bool false, .bool false, .bool false] 52)) W4.heap.size 52 #[.int .i32 0, .int .i64 0, .int .i64 0, .bool false, .bool false, .bool false, .bool false] := cells_new _ _ _
  have b6 := below_new W4 (.cells #[.int .i32 0, .int .i64 0, .int .i64 0, .bool false, .bool false, .bool false, .bool false] 52)
  obtain ⟨W5, hW5⟩ : ∃ V, W4.alloc (.cells #[.int .i32 0, .int .i64 0, .int .i64 0, .bool false, .bool false, .bool false, .bool false] 52) = V := ⟨_, rfl⟩
  rw [hW5] at x6 b6
  have hzG := H4.out.1.trans (Fz.of_below b6)
  have hws : w.heap.size < W4.heap.size := H4.out.2.2.lt
  have H5 := Lib.hid (And.intro hzG (And.intro (H4.out.2.1.trans (b6.mono H4.out.2.1.size)) (And.intro (H4.out.2.2.on b6) (And.intro x6 hws))))
  have HW5 := Lib.hid hW5
  clear x6 b6 hzG hws hW5
  apply shareK
  case tree =>
   intro K
   refine wpFreeM_step [15, 24] (by kernel_rfl) ⟨?_, ?_, trivial⟩
   ·refine wpOp_of_list rfl ?_
    go_wp2_with fail
    refine (HC.out.1 _ H4.out.2.1).mono ?_
    rintro e W9 ⟨rfl, hw9⟩
    obtain rfl := hw9.symm
    clear hw9
    go_wp2_with fail
    refine ⟨⟨⟨_, H4.out.1⟩, rfl⟩, ?_⟩
    refine wpFreeM_step [16, 21, 24] (by kernel_rfl) ⟨?_, ?_, ?_, trivial⟩
    ·refine wpOp_of_list rfl ?_
     go_wp2_with fail
     refine ⟨⟨⟨_, H4.out.1⟩, rfl⟩, ?_⟩
     refine wpFreeM_step [21, 24] (by kernel_rfl) ⟨?_, ?_, trivial⟩
     ·refine wpOp_of_list rfl ?_
      go_wp2_with fail
      refine (HC.out.2 _ H4.out.2.1).mono ?_
      rintro e W9 ⟨rfl, hw9⟩
      obtain rfl := hw9.symm
      clear hw9
      go_wp2_with fail
      refine ⟨⟨⟨_, H4.out.1⟩, rfl⟩, ?_⟩
      refine wpFreeM_step [22, 24] (by kernel_rfl) ⟨?_, ?_, trivial⟩
      ·refine wpOp_of_list rfl ?_
       go_wp2_with fail
       refine ⟨⟨⟨_, H4.out.1⟩, rfl⟩, ?_⟩
       refine wpFreeM_step [23, 24] (by kernel_rfl) ⟨?_, ?_, trivial⟩
       ·refine wpOp_of_list rfl ?_
        go_wp2_with fail
        refine ⟨⟨⟨_, H4.out.1⟩, rfl⟩, ?_⟩
        refine wpFreeM_step [24] (by kernel_rfl) ⟨?_, trivial⟩
        refine wpOp_of_list rfl ?_
        go_wp2_with fail
        rw [HW5.out]
        refine ⟨⟨⟨_, H5.out.1⟩, rfl⟩, ?_⟩
        refine wpFreeM_step [25] (by kernel_rfl) ⟨?_, trivial⟩
        refine wpOp_of_list rfl ?_
        unfold wpFreeM
        exact K
       ·refine wpOp_of_list rfl ?_
        go_wp2_with fail
        rw [HW5.out]
        refine ⟨⟨⟨_, H5.out.1⟩, rfl⟩, ?_⟩
        refine wpFreeM_step [23] (by kernel_rfl) ⟨?_, trivial⟩
        refine wpOp_of_list rfl ?_
        go_wp2_with fail
        refine ⟨⟨⟨_, H5.out.1⟩, rfl⟩, ?_⟩
        refine wpFreeM_step [25] (by kernel_rfl) ⟨?_, trivial⟩
        refine wpOp_of_list rfl ?_
        unfold wpFreeM
        exact K
      ·refine wpOp_of_list rfl ?_
       go_wp2_with fail
       rw [HW5.out]
       refine ⟨⟨⟨_, H5.out.1⟩, rfl⟩, ?_⟩
       refine wpFreeM_step [22] (by kernel_rfl) ⟨?_, trivial⟩
       refine wpOp_of_list rfl ?_
       go_wp2_with fail
       refine ⟨⟨⟨_, H5.out.1⟩, rfl⟩, ?_⟩
       refine wpFreeM_step [23] (by kernel_rfl) ⟨?_, trivial⟩
       refine wpOp_of_list rfl ?_
       go_wp2_with fail
       refine ⟨⟨⟨_, H5.out.1⟩, rfl⟩, ?_⟩
       refine wpFreeM_step [25] (by kernel_rfl) ⟨?_, trivial⟩
       refine wpOp_of_list rfl ?_
       unfold wpFreeM
       exact K
     ·refine wpOp_of_list rfl ?_
      go_wp2_with fail
      rw [HW5.out]
      refine ⟨⟨⟨_, H5.out.1⟩, rfl⟩, ?_⟩
      refine wpFreeM_step [21] (by kernel_rfl) ⟨?_, trivial⟩
      refine wpOp_of_list rfl ?_
      go_wp2_with fail
      refine (HC.out.2 _ H5.out.2.1).mono ?_
      rintro e W9 ⟨rfl, hw9⟩
      obtain rfl := hw9.symm
      clear hw9
      go_wp2_with fail
      refine ⟨⟨⟨_, H5.out.1⟩, rfl⟩, ?_⟩
      refine wpFreeM_step [22] (by kernel_rfl) ⟨?_, trivial⟩
      refine wpOp_of_list rfl ?_
      go_wp2_with fail
      refine ⟨⟨⟨_, H5.out.1⟩, rfl⟩, ?_⟩
      refine wpFreeM_step [23] (by kernel_rfl) ⟨?_, trivial⟩
      refine wpOp_of_list rfl ?_
      go_wp2_with fail
      refine ⟨⟨⟨_, H5.out.1⟩, rfl⟩, ?_⟩
      refine wpFreeM_step [25] (by kernel_rfl) ⟨?_, trivial⟩
      refine wpOp_of_list rfl ?_
      unfold wpFreeM
      exact K
    ·refine wpOp_of_list rfl ?_
     go_wp2_with fail
     refine (HC.out.2 _ H4.out.2.1).mono ?_
     rintro e W9 ⟨rfl, hw9⟩
     obtain rfl := hw9.symm
     clear hw9
     go_wp2_with fail
     refine ⟨⟨⟨_, H4.out.1⟩, rfl⟩, ?_⟩
     refine wpFreeM_step [16, 22, 24] (by kernel_rfl) ⟨?_, ?_, ?_, trivial⟩
     ·refine wpOp_of_list rfl ?_
      go_wp2_with fail
      refine ⟨⟨⟨_, H4.out.1⟩, rfl⟩, ?_⟩
      refine wpFreeM_step [22, 24] (by kernel_rfl) ⟨?_, ?_, trivial⟩
      ·refine wpOp_of_list rfl ?_
       go_wp2_with fail
       refine ⟨⟨⟨_, H4.out.1⟩, rfl⟩, ?_⟩
       refine wpFreeM_step [23, 24] (by kernel_rfl) ⟨?_, ?_, trivial⟩
       ·refine wpOp_of_list rfl ?_
        go_wp2_with fail
        refine ⟨⟨⟨_, H4.out.1⟩, rfl⟩, ?_⟩
        refine wpFreeM_step [24] (by kernel_rfl) ⟨?_, trivial⟩
        refine wpOp_of_list rfl ?_
        go_wp2_with fail
        rw [HW5.out]
        refine ⟨⟨⟨_, H5.out.1⟩, rfl⟩, ?_⟩
        refine wpFreeM_step [25] (by kernel_rfl) ⟨?_, trivial⟩
        refine wpOp_of_list rfl ?_
        unfold wpFreeM
        exact K
       ·refine wpOp_of_list rfl ?_
        go_wp2_with fail
        rw [HW5.out]
        refine ⟨⟨⟨_, H5.out.1⟩, rfl⟩, ?_⟩
        refine wpFreeM_step [23] (by kernel_rfl) ⟨?_, trivial⟩
        refine wpOp_of_list rfl ?_
        go_wp2_with fail
        refine ⟨⟨⟨_, H5.out.1⟩, rfl⟩, ?_⟩
        refine wpFreeM_step [25] (by kernel_rfl) ⟨?_, trivial⟩
        refine wpOp_of_list rfl ?_
        unfold wpFreeM
        exact K
      ·refine wpOp_of_list rfl ?_
       go_wp2_with fail
       rw [HW5.out]
       refine ⟨⟨⟨_, H5.out.1⟩, rfl⟩, ?_⟩
       refine wpFreeM_step [22] (by kernel_rfl) ⟨?_, trivial⟩
       refine wpOp_of_list rfl ?_
       go_wp2_with fail
       refine ⟨⟨⟨_, H5.out.1⟩, rfl⟩, ?_⟩
       refine wpFreeM_step [23] (by kernel_rfl) ⟨?_, trivial⟩
       refine wpOp_of_list rfl ?_
       go_wp2_with fail
       refine ⟨⟨⟨_, H5.out.1⟩, rfl⟩, ?_⟩
       refine wpFreeM_step [25] (by kernel_rfl) ⟨?_, trivial⟩
       refine wpOp_of_list rfl ?_
       unfold wpFreeM
       exact K
     ·refine wpOp_of_list rfl ?_
      go_wp2_with fail
      refine ⟨⟨⟨_, H4.out.1⟩, rfl⟩, ?_⟩
      refine wpFreeM_step [16, 24] (by kernel_rfl) ⟨?_, ?_, trivial⟩
      ·refine wpOp_of_list rfl ?_
       go_wp2_with fail
       refine ⟨⟨⟨_, H4.out.1⟩, rfl⟩, ?_⟩
       refine wpFreeM_step [23, 24] (by kernel_rfl) ⟨?_, ?_, trivial⟩
       ·refine wpOp_of_list rfl ?_
        go_wp2_with fail
        refine ⟨⟨⟨_, H4.out.1⟩, rfl⟩, ?_⟩
        refine wpFreeM_step [24] (by kernel_rfl) ⟨?_, trivial⟩
        refine wpOp_of_list rfl ?_
        go_wp2_with fail
        rw [HW5.out]
        refine ⟨⟨⟨_, H5.out.1⟩, rfl⟩, ?_⟩
        refine wpFreeM_step [25] (by kernel_rfl) ⟨?_, trivial⟩
        refine wpOp_of_list rfl ?_
        unfold wpFreeM
        exact K
       ·refine wpOp_of_list rfl ?_
        go_wp2_with fail
        rw [HW5.out]
        refine ⟨⟨⟨_, H5.out.1⟩, rfl⟩, ?_⟩
        refine wpFreeM_step [23] (by kernel_rfl) ⟨?_, trivial⟩
        refine wpOp_of_list rfl ?_
        go_wp2_with fail
        refine ⟨⟨⟨_, H5.out.1⟩, rfl⟩, ?_⟩
        refine wpFreeM_step [25] (by kernel_rfl) ⟨?_, trivial⟩
        refine wpOp_of_list rfl ?_
        unfold wpFreeM
        exact K
      ·refine wpOp_of_list rfl ?_
       go_wp2_with fail
       rw [HW5.out]
       refine ⟨⟨⟨_, H5.out.1⟩, rfl⟩, ?_⟩
       refine wpFreeM_step [16] (by kernel_rfl) ⟨?_, trivial⟩
       refine wpOp_of_list rfl ?_
       go_wp2_with fail
       refine ⟨⟨⟨_, H5.out.1⟩, rfl⟩, ?_⟩
       refine wpFreeM_step [23] (by kernel_rfl) ⟨?_, trivial⟩
       refine wpOp_of_list rfl ?_
       go_wp2_with fail
       refine ⟨⟨⟨_, H5.out.1⟩, rfl⟩, ?_⟩
       refine wpFreeM_step [25] (by kernel_rfl) ⟨?_, trivial⟩
       refine wpOp_of_list rfl ?_
       unfold wpFreeM
       exact K
     ·refine wpOp_of_list rfl ?_
      go_wp2_with fail
      rw [HW5.out]
      refine ⟨⟨⟨_, H5.out.1⟩, rfl⟩, ?_⟩
      refine wpFreeM_step [16, 22] (by kernel_rfl) ⟨?_, ?_, trivial⟩
      ·refine wpOp_of_list rfl ?_
       go_wp2_with fail
       refine ⟨⟨⟨_, H5.out.1⟩, rfl⟩, ?_⟩
       refine wpFreeM_step [22] (by kernel_rfl) ⟨?_, trivial⟩
       refine wpOp_of_list rfl ?_
       go_wp2_with fail
       refine ⟨⟨⟨_, H5.out.1⟩, rfl⟩, ?_⟩
       refine wpFreeM_step [23] (by kernel_rfl) ⟨?_, trivial⟩
       refine wpOp_of_list rfl ?_
       go_wp2_with fail
       refine ⟨⟨⟨_, H5.out.1⟩, rfl⟩, ?_⟩
       refine wpFreeM_step [25] (by kernel_rfl) ⟨?_, trivial⟩
       refine wpOp_of_list rfl ?_
       unfold wpFreeM
       exact K
      ·refine wpOp_of_list rfl ?_
       go_wp2_with fail
       refine ⟨⟨⟨_, H5.out.1⟩, rfl⟩, ?_⟩
       refine wpFreeM_step [16] (by kernel_rfl) ⟨?_, trivial⟩
       refine wpOp_of_list rfl ?_
       go_wp2_with fail
       refine ⟨⟨⟨_, H5.out.1⟩, rfl⟩, ?_⟩
       refine wpFreeM_step [23] (by kernel_rfl) ⟨?_, trivial⟩
       refine wpOp_of_list rfl ?_
       go_wp2_with fail
       refine ⟨⟨⟨_, H5.out.1⟩, rfl⟩, ?_⟩
       refine wpFreeM_step [25] (by kernel_rfl) ⟨?_, trivial⟩
       refine wpOp_of_list rfl ?_
       unfold wpFreeM
       exact K
    ·refine wpOp_of_list rfl ?_
     go_wp2_with fail
     rw [HW5.out]
     refine ⟨⟨⟨_, H5.out.1⟩, rfl⟩, ?_⟩
     refine wpFreeM_step [16, 21] (by kernel_rfl) ⟨?_, ?_, trivial⟩
     ·refine wpOp_of_list rfl ?_
      go_wp2_with fail
      refine ⟨⟨⟨_, H5.out.1⟩, rfl⟩, ?_⟩
      refine wpFreeM_step [21] (by kernel_rfl) ⟨?_, trivial⟩
      refine wpOp_of_list rfl ?_
      go_wp2_with fail
      refine (HC.out.2 _ H5.out.2.1).mono ?_
      rintro e W9 ⟨rfl, hw9⟩
      obtain rfl := hw9.symm
      clear hw9
      go_wp2_with fail
      refine ⟨⟨⟨_, H5.out.1⟩, rfl⟩, ?_⟩
      refine wpFreeM_step [22] (by kernel_rfl) ⟨?_, trivial⟩
      refine wpOp_of_list rfl ?_
      go_wp2_with fail
      refine ⟨⟨⟨_, H5.out.1⟩, rfl⟩, ?_⟩
      refine wpFreeM_step [23] (by kernel_rfl) ⟨?_, trivial⟩
      refine wpOp_of_list rfl ?_
      go_wp2_with fail
      refine ⟨⟨⟨_, H5.out.1⟩, rfl⟩, ?_⟩
      refine wpFreeM_step [25] (by kernel_rfl) ⟨?_, trivial⟩
      refine wpOp_of_list rfl ?_
      unfold wpFreeM
      exact K
     ·refine wpOp_of_list rfl ?_
      go_wp2_with fail
      refine (HC.out.2 _ H5.out.2.1).mono ?_
      rintro e W9 ⟨rfl, hw9⟩
      obtain rfl := hw9.symm
      clear hw9
      go_wp2_with fail
      refine ⟨⟨⟨_, H5.out.1⟩, rfl⟩, ?_⟩
      refine wpFreeM_step [16, 22] (by kernel_rfl) ⟨?_, ?_, trivial⟩
      ·refine wpOp_of_list rfl ?_
       go_wp2_with fail
       refine ⟨⟨⟨_, H5.out.1⟩, rfl⟩, ?_⟩
       refine wpFreeM_step [22] (by kernel_rfl) ⟨?_, trivial⟩
       refine wpOp_of_list rfl ?_
       go_wp2_with fail
       refine ⟨⟨⟨_, H5.out.1⟩, rfl⟩, ?_⟩
       refine wpFreeM_step [23] (by kernel_rfl) ⟨?_, trivial⟩
       refine wpOp_of_list rfl ?_
       go_wp2_with fail
       refine ⟨⟨⟨_, H5.out.1⟩, rfl⟩, ?_⟩
       refine wpFreeM_step [25] (by kernel_rfl) ⟨?_, trivial⟩
       refine wpOp_of_list rfl ?_
       unfold wpFreeM
       exact K
      ·refine wpOp_of_list rfl ?_
       go_wp2_with fail
       refine ⟨⟨⟨_, H5.out.1⟩, rfl⟩, ?_⟩
       refine wpFreeM_step [16] (by kernel_rfl) ⟨?_, trivial⟩
       refine wpOp_of_list rfl ?_
       go_wp2_with fail
       refine ⟨⟨⟨_, H5.out.1⟩, rfl⟩, ?_⟩
       refine wpFreeM_step [23] (by kernel_rfl) ⟨?_, trivial⟩
       refine wpOp_of_list rfl ?_
       go_wp2_with fail
       refine ⟨⟨⟨_, H5.out.1⟩, rfl⟩, ?_⟩
       refine wpFreeM_step [25] (by kernel_rfl) ⟨?_, trivial⟩
       refine wpOp_of_list rfl ?_
       unfold wpFreeM
       exact K
   ·refine wpOp_of_list rfl ?_
    go_wp2_with fail
    rw [HW5.out]
    refine ⟨⟨⟨_, H5.out.1⟩, rfl⟩, ?_⟩
    refine wpFreeM_step [15] (by kernel_rfl) ⟨?_, trivial⟩
    refine wpOp_of_list rfl ?_
    go_wp2_with fail
    refine (HC.out.1 _ H5.out.2.1).mono ?_
    rintro e W9 ⟨rfl, hw9⟩
    obtain rfl := hw9.symm
    clear hw9
    go_wp2_with fail
    refine ⟨⟨⟨_, H5.out.1⟩, rfl⟩, ?_⟩
    refine wpFreeM_step [16, 21] (by kernel_rfl) ⟨?_, ?_, trivial⟩
    ·refine wpOp_of_list rfl ?_
     go_wp2_with fail
     refine ⟨⟨⟨_, H5.out.1⟩, rfl⟩, ?_⟩
     refine wpFreeM_step [21] (by kernel_rfl) ⟨?_, trivial⟩
     refine wpOp_of_list rfl ?_
     go_wp2_with fail
     refine (HC.out.2 _ H5.out.2.1).mono ?_
     rintro e W9 ⟨rfl, hw9⟩
     obtain rfl := hw9.symm
     clear hw9
     go_wp2_with fail
     refine ⟨⟨⟨_, H5.out.1⟩, rfl⟩, ?_⟩
     refine wpFreeM_step [22] (by kernel_rfl) ⟨?_, trivial⟩
     refine wpOp_of_list rfl ?_
     go_wp2_with fail
     refine ⟨⟨⟨_, H5.out.1⟩, rfl⟩, ?_⟩
     refine wpFreeM_step [23] (by kernel_rfl) ⟨?_, trivial⟩
     refine wpOp_of_list rfl ?_
     go_wp2_with fail
     refine ⟨⟨⟨_, H5.out.1⟩, rfl⟩, ?_⟩
     refine wpFreeM_step [25] (by kernel_rfl) ⟨?_, trivial⟩
     refine wpOp_of_list rfl ?_
     unfold wpFreeM
     exact K
    ·refine wpOp_of_list rfl ?_
     go_wp2_with fail
     refine (HC.out.2 _ H5.out.2.1).mono ?_
     rintro e W9 ⟨rfl, hw9⟩
     obtain rfl := hw9.symm
     clear hw9
     go_wp2_with fail
     refine ⟨⟨⟨_, H5.out.1⟩, rfl⟩, ?_⟩
     refine wpFreeM_step [16, 22] (by kernel_rfl) ⟨?_, ?_, trivial⟩
     ·refine wpOp_of_list rfl ?_
      go_wp2_with fail
      refine ⟨⟨⟨_, H5.out.1⟩, rfl⟩, ?_⟩
      refine wpFreeM_step [22] (by kernel_rfl) ⟨?_, trivial⟩
      refine wpOp_of_list rfl ?_
      go_wp2_with fail
      refine ⟨⟨⟨_, H5.out.1⟩, rfl⟩, ?_⟩
      refine wpFreeM_step [23] (by kernel_rfl) ⟨?_, trivial⟩
      refine wpOp_of_list rfl ?_
      go_wp2_with fail
      refine ⟨⟨⟨_, H5.out.1⟩, rfl⟩, ?_⟩
      refine wpFreeM_step [25] (by kernel_rfl) ⟨?_, trivial⟩
      refine wpOp_of_list rfl ?_
      unfold wpFreeM
      exact K
     ·refine wpOp_of_list rfl ?_
      go_wp2_with fail
      refine ⟨⟨⟨_, H5.out.1⟩, rfl⟩, ?_⟩
      refine wpFreeM_step [16] (by kernel_rfl) ⟨?_, trivial⟩
      refine wpOp_of_list rfl ?_
      go_wp2_with fail
      refine ⟨⟨⟨_, H5.out.1⟩, rfl⟩, ?_⟩
      refine wpFreeM_step [23] (by kernel_rfl) ⟨?_, trivial⟩
      refine wpOp_of_list rfl ?_
      go_wp2_with fail
      refine ⟨⟨⟨_, H5.out.1⟩, rfl⟩, ?_⟩
      refine wpFreeM_step [25] (by kernel_rfl) ⟨?_, trivial⟩
      refine wpOp_of_list rfl ?_
      unfold wpFreeM
      exact K
  case k =>
   obtain ⟨f0, f1, f2, f3, f4, f5, f6⟩ := froz7 H5.out.2.2.2.1
   obtain ⟨y0, y1, y2, y3, y4, y5, y6⟩ := cell7 H5.out.2.2.2.1
   go_wp2_with fail
   obtain ⟨W7, hW7, z7, k7⟩ := set7 H5.out.2.2.2.1 (.int .i32 r) (.int .i64 at_) (.int .i64 sz) (.bool f) (.bool x) (.bool bn) (.bool bp)
   rw [hW7]
   clear hW7 f0 f1 f2 f3 f4 f5 f6 y0 y1 y2 y3 y4 y5 y6
   have l7 : W1.heap.size ≤ W4.heap.size := H4.out.1.size
   have n1 := H5.out.2.2.2.2
   have ne1 : w.heap.size ≠ W4.heap.size := Nat.ne_of_lt n1
   have c7 : Fz (fun _ => False) W1 W7 := ⟨k7.os.trans H5.out.1.os, k7.tape.trans H5.out.1.tape, k7.output.trans H5.out.1.output, Nat.le_trans H5.out.1.size k7.size, fun k hk hn => (k7.block k (Nat.lt_of_lt_of_le hk H5.out.1.size) (by omega)).trans (H5.out.1.block k hk hn)⟩
   have b7 : Below w.heap.size w W7 := H5.out.2.1.trans (k7.below H5.out.2.1.size (fun q hq e => by have e' : q = W4.heap.size := e; omega))
   have i7 : I1 w gn gx f x #[.int .i32 r, .int .i64 at_, .int .i64 sz, .bool f, .bool x, .bool bn, .bool bp] W4.heap.size W7 := ⟨b7, k7.cellsK ne1 H5.out.2.2.1, z7, n1⟩
   have H7 := Lib.hid (And.intro i7 c7)
   clear z7 b7 k7 l7 c7 n1 ne1 i7
   refine ⟨⟨⟨_, H7.out.2⟩, rfl⟩, ?_⟩
   go_wp2_with fail
   go_meet
   exact ⟨W4.heap.size, rfl, H7.out.1⟩
 case rest =>
  obtain ⟨G, rfl, h7⟩ := hcut
  have x7 := HW.out.2.2.2.2.2.on h7.b
  have q0 : wc.cell? ⟨gx, 0, none⟩ = some (.pointer (some ⟨gn, 0, none⟩)) := x7.cell 0
  have q1 : wc.cell? ⟨gx, 1, none⟩ = some (.bool f) := x7.cell 1
  have q2 : wc.cell? ⟨gx, 2, none⟩ = some (.bool x) := x7.cell 2
  have k1 := x7.froz 1
  have k2 := x7.froz 2
  have H7 := Lib.hid (And.intro h7 x7)
  clear h7 x7
  have hgx := HW.out.2.2.2.2.1
  have hG := H7.out.1.g
  have s2 : Cells ((wc.setCell ⟨gx, 1, none⟩ (.bool false)).setCell ⟨gx, 2, none⟩ (.bool false)) gx 154 #[.pointer (some ⟨gn, 0, none⟩), .bool false, .bool false] := (H7.out.2.set 1 (.bool false)).set 2 (.bool false)
  have z2 : Fz (fun k => k = gx) wc ((wc.setCell ⟨gx, 1, none⟩ (.bool false)).setCell ⟨gx, 2, none⟩ (.bool false)) := (Fz.set (X := fun k => k = gx) _ gx 1 (.bool false) rfl).trans (Fz.set (X := fun k => k = gx) _ gx 2 (.bool false) rfl)
  go_upto_region 3 with fail
  obtain ⟨W8, hW8⟩ : ∃ V, (wc.setCell ⟨gx, 1, none⟩ (.bool false)).setCell ⟨gx, 2, none⟩ (.bool false) = V := ⟨_, rfl⟩
  rw [hW8] at s2 z2 ⊢
  clear hW8 q0 q1 q2 k1 k2
  have y8 := z2.cellsK (show ¬ G = gx by omega) H7.out.1.y
  have r8 := z2.cellsK (show ¬ w.heap.size = gx by omega) H7.out.1.r
  obtain ⟨y0, y1, y2, y3, y4, y5, y6⟩ := cell7 y8
  obtain ⟨f0, f1, f2, f3, f4, f5, f6⟩ := froz7 r8
  obtain ⟨m0, m1, m2, m3, m4, m5, m6⟩ := cell7 r8
  have H8 := Lib.hid (And.intro s2 (And.intro z2 (And.intro r8 (And.intro hgx hG))))
  clear s2 z2 y8 r8 hgx hG
  go_wp2_with fail
  obtain ⟨W9, hW9, z7, k7⟩ := set7 H8.out.2.2.1 (.int .i32 r) (.int .i64 at_) (.int .i64 sz) (.bool f) (.bool x) (.bool bn) (.bool bp)
  rw [hW9]
  clear hW9 f0 f1 f2 f3 f4 f5 f6 y0 y1 y2 y3 y4 y5 y6 m0 m1 m2 m3 m4 m5 m6
  obtain ⟨t0, t1, t2, t3, t4, t5, t6⟩ := cell7 z7
  have hgx := H8.out.2.2.2.1
  have e1 : Cells W9 gx 154 #[.pointer (some ⟨gn, 0, none⟩), .bool false, .bool false] := k7.cellsK (show ¬ gx = w.heap.size by omega) H8.out.1
  have b9 := H7.out.1.b
  have e2 : Fz (fun k => k = gx) w W9 := ⟨k7.os.trans (H8.out.2.1.os.trans b9.os), k7.tape.trans (H8.out.2.1.tape.trans b9.tape), k7.output.trans (H8.out.2.1.output.trans b9.output), Nat.le_trans b9.size (Nat.le_trans H8.out.2.1.size k7.size), fun k hk hn => (k7.block k (Nat.lt_of_lt_of_le (Nat.lt_of_lt_of_le hk b9.size) H8.out.2.1.size) (by omega)).trans ((H8.out.2.1.block k (Nat.lt_of_lt_of_le hk b9.size) hn).trans (b9.block k hk))⟩
  clear z7 k7 hgx b9
  refine bodyPost_ret (v := .agg #[.int .i32 r, .int .i64 at_, .int .i64 sz, .bool f, .bool x, .bool bn, .bool bp]) ?_ rfl ⟨rfl, e1, e2⟩
  simp [results, Tryz.results107, go_sem, t0, t1, t2, t3, t4, t5, t6]
def rowI : List IT → List Value
 | [] => []
 | x :: r => (itA x).toList ++ rowI r
theorem rowI_app : ∀ l m : List IT, rowI (l ++ m) = rowI l ++ rowI m
 | [], m => by simp [rowI]
 | t :: r, m => by
  show (itA t).toList ++ rowI (r ++ m) = ((itA t).toList ++ rowI r) ++ _
  rw [rowI_app r m]
  simp
theorem rowI_snoc (x : IT) (l : List IT) : rowI (l ++ [x]) = rowI l ++ (itA x).toList := by
 rw [rowI_app]
 simp [rowI]
theorem rowI_len : ∀ l : List IT, (rowI l).length = l.length * 7
 | [] => rfl
 | x :: r => by
  show ((itA x).toList ++ rowI r).length = _
  rw [List.length_append, rowI_len r]
  simp [itA]
  omega
theorem rowI_at : ∀ (l : List IT) (i : Nat) (x : IT), l[i]? = some x → ∀ j, j < 7 → (rowI l)[i * 7 + j]? = (itA x)[j]?
 | [], i, a, h, _, _ => by simp at h
 | x :: l, 0, a, h, j, hj => by
  simp at h
  subst h
  rw [show rowI (x :: l) = (itA x).toList ++ rowI l from rfl, Nat.zero_mul, Nat.zero_add, List.getElem?_append_left (by simpa [itA] using hj)]
  simp
 | x :: l, i + 1, a, h, j, hj => by
  have ih := rowI_at l i a (by simpa using h) j hj
  rw [show rowI (x :: l) = (itA x).toList ++ rowI l from rfl, List.getElem?_append_right (by simp [itA]; omega)]
  rw [← ih]
  congr 1
  simp [itA]
  omega
theorem rowI_one : ∀ (l : List IT), ∀ u ∈ rowI l, u.oneCell' = true
 | [], u, h => by simp [rowI] at h
 | x :: r, u, h => by
  rcases List.mem_append.1 h with h | h
  ·simp [itA] at h
   rcases h with rfl | rfl | rfl | rfl | rfl | rfl | rfl <;> rfl
  ·exact rowI_one r u h
def OwnIt (w : World) (base : Nat) (l : List IT) (v : Value) : Prop := w.ownsRow base 52 7 v l.length (rowI l)
theorem OwnIt.below {w w' : World} {base : Nat} {l : List IT} {v : Value} (h : OwnIt w base l v) (hb : Below w.heap.size w w') : OwnIt w' base l v := ownsRow_below h hb
theorem ownIt_nil (w : World) (base : Nat) : OwnIt w base [] (.slice none 0 0) := ⟨rfl, .inl ⟨rfl, rfl⟩⟩
theorem OwnIt.lower {w : World} {base b2 : Nat} {l : List IT} {v : Value} (h : OwnIt w base l v) (hb : b2 ≤ base) : OwnIt w b2 l v := by
 refine ⟨h.1, ?_⟩
 rcases h.2 with h2 | ⟨g, cap, cur, h1, h2, h3⟩
 ·exact .inl h2
 ·exact .inr ⟨g, cap, cur, h1, by omega, h3⟩
structure IsA (w : World) (B : Nat) (l : List IT) (A : Option Addr) (c : Nat) : Prop where
 le : l.length ≤ c
 mx : c ≤ maxLen
 r : ∀ (i : Nat) (x : IT), l[i]? = some x → ∃ b o, A = some ⟨b, o, none⟩ ∧ b < B ∧ ∀ j u, (itA x)[j]? = some u → w.cell? ⟨b, o + (i * 7 + j), none⟩ = some u
theorem IsA.below {w w' : World} {B : Nat} {l : List IT} {A : Option Addr} {c : Nat} (h : IsA w B l A c) (hb : Below B w w') : IsA w' B l A c :=
 ⟨h.le, h.mx, fun i a ha => by
  obtain ⟨b, o, e, h1, h2⟩ := h.r i a ha
  exact ⟨b, o, e, h1, fun j u hu => (hb.cell (p := ⟨b, _, none⟩) h1).trans (h2 j u hu)⟩⟩
theorem IsA.mono {w : World} {B B' : Nat} {l : List IT} {A : Option Addr} {c : Nat} (h : IsA w B l A c) (hB : B ≤ B') : IsA w B' l A c :=
 ⟨h.le, h.mx, fun i a ha => by
  obtain ⟨b, o, e, h1, h2⟩ := h.r i a ha
  exact ⟨b, o, e, by omega, h2⟩⟩
theorem IsA.on {w w' : World} {l : List IT} {A : Option Addr} {c : Nat} (h : IsA w w.heap.size l A c) (hb : Below w.heap.size w w') : IsA w' w'.heap.size l A c := (h.below hb).mono hb.size
theorem IsA.of_own {w : World} {base : Nat} {l : List IT} {v : Value} (h : OwnIt w base l v) : ∃ A c, v = .slice A l.length c ∧ IsA w w.heap.size l A c := by
 rcases h.2 with ⟨h1, h2⟩ | ⟨g, cap, cur, h1, h2, h3, h4, h5, h6, h7⟩
 ·have hn : l = [] := List.eq_nil_of_length_eq_zero h2
  subst hn
  exact ⟨none, 0, by rw [h1]; rfl, ⟨Nat.le_refl _, by unfold maxLen; omega, fun i a ha => by simp at ha⟩⟩
 ·refine ⟨_, cap, h1, ⟨h4, h5, fun i a ha => ⟨g, 0, rfl, (Array.getElem?_eq_some_iff.1 h3).1, fun j u hu => ?_⟩⟩⟩
  have hj : j < 7 := by
   have := (Array.getElem?_eq_some_iff.1 hu).1
   simpa [itA] using this
  have c := World.ownsRow.cells h (g := g) (by rw [h1]; rfl) (i * 7 + j) u ((rowI_at l i a ha j hj).trans hu)
  rw [add0] at c
  rw [Nat.zero_add]
  exact c
theorem info42 : (Tryz.prog.info? 52).map (fun i => (i.zero.map (fun z => z.cells.size), i.size, i.bytes)) = some (some 7, 7, 32) := by kernel_rfl
theorem info42_parts : ∃ i z, Tryz.prog.info? 52 = some i ∧ i.zero = some z ∧ i.size = 7 ∧ i.bytes = 32 ∧ z.cells.size = 7 := by
 have h := info42
 cases e : Tryz.prog.info? 52 with
 | none => rw [e] at h; simp at h
 | some i =>
  rw [e] at h
  cases e2 : i.zero with
  | none => simp [e2] at h
  | some z =>
   simp [e2] at h
   exact ⟨i, z, rfl, e2, h.2.1, h.2.2, h.1⟩
theorem wpList_appI {ops : Array Oper} {rest : List Oper} {o : Oper} {a : Act} {w : World} {Q : Exit → Act → World → Prop} (hgd : o.guard = none) (s x : Operand)
  (ho : o.op = .call { callee := .builtin .append, args := #[s, x], argTypes := #[55, 55] }) (base : Nat) (v : Value) (l : List IT) (t : IT) (hs : a.eval s = v) (w0 : World) (h0 : OwnIt w0 base l v) (hw0 : w0.alloc (.cells (itA t) 52) = w)
  (hx : a.eval x = .slice (some ⟨w0.heap.size, 0, none⟩) 1 1) (h63 : l.length ≤ 1000000) (hbase : base ≤ w0.heap.size)
  (h : ∀ g cap w', OwnIt w' base (l ++ [t]) (.slice (some ⟨g, 0, none⟩) (l.length + 1) cap) → Below base w0 w' → (∀ k, k < w0.heap.size → v.ownBlock ≠ some k → w'.heap[k]? = w0.heap[k]?) → wpList Tryz.prog ops Q rest (a.put o.dst (.slice (some ⟨g, 0, none⟩) (l.length + 1) cap)) w') :
  wpList Tryz.prog ops Q (o :: rest) a w := by
 obtain ⟨i, z, hi, hz, hs1, hb1, hz1⟩ := info42_parts
 subst hw0
 have al := below_new w0 (.cells (itA t) 52)
 have hown := h0.below al
 have hsz : base ≤ (w0.alloc (.cells (itA t) 52)).heap.size := by rw [World.size_alloc]; omega
 refine wpList_append_lies _ hgd s x 55 ho base 52 i _ 7 32 Tryz.underlying55 hi hz hs1 hb1 hz1 (by decide) v l.length (rowI l) hs hown ⟨w0.heap.size, 0, none⟩ 1 1 (itA t).toList hx rfl (World.news_of_block (by simpa using heap_alloc_new w0 (.cells (itA t) 52))) (fun u hu => ?_) (by decide) (by unfold maxLen; omega) (by omega) hsz _ rfl ?_
 ·simp [itA] at hu
  rcases hu with rfl | rfl | rfl | rfl | rfl | rfl | rfl <;> rfl
 ·intro g cap w' h1 h2 _ _
  refine h g cap w' ?_ ?_ (fun k hk hn => (h2.block k (by rw [World.size_alloc]; omega) (fun e => hn e.symm)).trans (al.block k hk))
  ·unfold OwnIt
   rw [rowI_snoc, List.length_append]
   exact h1
  ·refine (al.mono hbase).trans ⟨h2.os, h2.tape, h2.output, h2.size, fun k hk => h2.block k (by omega) (fun e => by have := (own_block_lt hown k e.symm).1; omega)⟩
theorem wpList_appIs {ops : Array Oper} {rest : List Oper} {o : Oper} {a : Act} {w : World} {Q : Exit → Act → World → Prop} (hgd : o.guard = none) (s x : Operand)
  (ho : o.op = .call { callee := .builtin .append, args := #[s, x], argTypes := #[55, 55] }) (base : Nat) (v : Value) (l m : List IT) (hs : a.eval s = v) (h0 : OwnIt w base l v) (A : Option Addr) (c : Nat) (hm : IsA w w.heap.size m A c) (hne : m ≠ [])
  (hx : a.eval x = .slice A m.length c) (h63 : l.length + m.length ≤ 1000000) (hbase : base ≤ w.heap.size)
  (h : ∀ g cap w', OwnIt w' base (l ++ m) (.slice (some ⟨g, 0, none⟩) (l.length + m.length) cap) → w.grownBy w' v.ownBlock → wpList Tryz.prog ops Q rest (a.put o.dst (.slice (some ⟨g, 0, none⟩) (l.length + m.length) cap)) w') :
  wpList Tryz.prog ops Q (o :: rest) a w := by
 obtain ⟨i, z, hi, hz, hs1, hb1, hz1⟩ := info42_parts
 have hlen : 0 < m.length := List.length_pos_iff.2 hne
 obtain ⟨b, o', rfl, hbl, _⟩ := hm.r 0 m[0] (List.getElem?_eq_getElem hlen)
 refine wpList_append_lies _ hgd s x 55 ho base 52 i _ 7 32 Tryz.underlying55 hi hz hs1 hb1 hz1 (by decide) v l.length (rowI l) hs h0 ⟨b, o', none⟩ m.length c (rowI m) hx (rowI_len m) (fun j u hu => ?_) (rowI_one m) hlen (by unfold maxLen; omega) (by omega) hbase _ rfl ?_
 ·have hj : j < m.length * 7 := by have := (List.getElem?_eq_some_iff.1 hu).1; rwa [rowI_len] at this
  have hd : j / 7 < m.length := by omega
  obtain ⟨b', o2, e, _, hc⟩ := hm.r (j / 7) m[j / 7] (List.getElem?_eq_getElem hd)
  cases e
  have e2 := rowI_at m (j / 7) _ (List.getElem?_eq_getElem hd) (j % 7) (by omega)
  rw [show j / 7 * 7 + j % 7 = j by omega, hu] at e2
  have := hc (j % 7) u e2.symm
  rw [Addr.add_mid, show o' + j = o' + (j / 7 * 7 + j % 7) by omega]
  exact this
 ·intro g cap w' h1 h2 _ _
  refine h g cap w' ?_ h2
  unfold OwnIt
  rw [rowI_app, List.length_append]
  exact h1
end Go.Proofs.YtfafhbgkmlmmdaaGreatDoor.K
namespace Go.Proofs.YtfafhbgkmlmmdaaGreatDoor.S
open Go.Lib
namespace M1
def pieceS (n b0 b1 b2 b3 sz lo hi : Nat) : Nat × Nat × Bool :=
 if 1 < n ∧ lo ≤ b1 ∧ b1 ≤ hi then
  (if sz = 2 then (b0 % 32 * 64 + b1 % 64, 2, true)
   else if 2 < n ∧ 128 ≤ b2 ∧ b2 ≤ 191 then
   (if sz = 3 then (b0 % 16 * 4096 + b1 % 64 * 64 + b2 % 64, 3, true)
    else if 3 < n ∧ 128 ≤ b3 ∧ b3 ≤ 191 then (b0 % 8 * 262144 + b1 % 64 * 4096 + b2 % 64 * 64 + b3 % 64, 4, true)
    else (65533, 3, false))
   else (65533, 2, false))
 else (65533, 1, false)
def pieceB (n b0 b1 b2 b3 : Nat) : Nat × Nat × Bool :=
 if firstT b0 = 240 then (b0, 1, true)
 else if firstT b0 = 241 then (65533, 1, false)
 else pieceS n b0 b1 b2 b3 (firstT b0 % 8) (accLo (firstT b0 / 16)) (accHi (firstT b0 / 16))
def fullS (k b1 b2 sz lo hi : Nat) : Bool :=
 if sz ≤ k then true
 else if 1 < k ∧ (b1 < lo ∨ hi < b1) then true
 else if 2 < k ∧ (b2 < 128 ∨ 191 < b2) then true
 else false
def fullB (k b0 b1 b2 : Nat) : Bool := fullS k b1 b2 (firstT b0 % 8) (accLo (firstT b0 / 16)) (accHi (firstT b0 / 16))
def Brk (n b0 b1 b2 k : Nat) : Prop := 1 ≤ k ∧ k ≤ n ∧ (∀ j, 2 ≤ j → j ≤ k → fullB j b0 b1 b2 = false) ∧ (k < n → fullB (k + 1) b0 b1 b2 = true)
theorem pieceS_size (n b0 b1 b2 b3 sz lo hi : Nat) (hn : 1 ≤ n) : 1 ≤ (pieceS n b0 b1 b2 b3 sz lo hi).2.1 ∧ (pieceS n b0 b1 b2 b3 sz lo hi).2.1 ≤ n ∧ (pieceS n b0 b1 b2 b3 sz lo hi).2.1 ≤ 4 := by
 unfold pieceS
 repeat' split
 all_goals (simp; try omega)
theorem pieceB_size (n b0 b1 b2 b3 : Nat) (hn : 1 ≤ n) : 1 ≤ (pieceB n b0 b1 b2 b3).2.1 ∧ (pieceB n b0 b1 b2 b3).2.1 ≤ n ∧ (pieceB n b0 b1 b2 b3).2.1 ≤ 4 := by
 unfold pieceB
 split
 ·simp; omega
 ·split
  ·simp; omega
  ·exact pieceS_size _ _ _ _ _ _ _ _ hn
theorem firstCases (b : Nat) : firstT b = 240 ∨ firstT b = 241 ∨ firstT b = 2 ∨ firstT b = 19 ∨ firstT b = 3 ∨ firstT b = 35 ∨ firstT b = 52 ∨ firstT b = 4 ∨ firstT b = 68 := by
 unfold firstT
 repeat' split
 all_goals simp
theorem low_of {b0 : Nat} (h1 : ¬ firstT b0 = 240) (h2 : ¬ firstT b0 = 241) : firstT b0 < 240 := by
 rcases firstCases b0 with h | h | h | h | h | h | h | h | h <;> omega
theorem sz_of {b0 : Nat} (h : firstT b0 < 240) : firstT b0 % 8 = 2 ∨ firstT b0 % 8 = 3 ∨ firstT b0 % 8 = 4 := by
 rcases firstCases b0 with h | h | h | h | h | h | h | h | h <;> omega
theorem pieceS_whole (n b0 b1 b2 b3 sz lo hi : Nat) (hs : sz = 2 ∨ sz = 3 ∨ sz = 4) (h : (pieceS n b0 b1 b2 b3 sz lo hi).2.2 = true) :
  slowN n b0 b1 b2 b3 sz lo hi = ((pieceS n b0 b1 b2 b3 sz lo hi).1, (pieceS n b0 b1 b2 b3 sz lo hi).2.1) ∧ 2 ≤ (pieceS n b0 b1 b2 b3 sz lo hi).2.1 := by
 unfold pieceS at *
 by_cases c1 : 1 < n ∧ lo ≤ b1 ∧ b1 ≤ hi
 ·rw [if_pos c1] at h ⊢
  rcases hs with rfl | rfl | rfl
  ·unfold slowN
   rw [if_neg (by omega), if_neg (by omega), if_pos (by omega)]
   simp
  ·by_cases c2 : 2 < n ∧ 128 ≤ b2 ∧ b2 ≤ 191
   ·unfold slowN
    rw [if_neg (by omega), if_neg (by omega), if_neg (by omega), if_neg (by omega), if_pos (by omega), if_neg (by omega), if_pos c2]
    simp
   ·rw [if_neg (by omega), if_neg c2] at h
    simp at h
  ·by_cases c2 : 2 < n ∧ 128 ≤ b2 ∧ b2 ≤ 191
   ·by_cases c3 : 3 < n ∧ 128 ≤ b3 ∧ b3 ≤ 191
    ·unfold slowN
     rw [if_neg (by omega), if_neg (by omega), if_neg (by omega), if_neg (by omega), if_neg (by omega), if_neg (by omega), if_neg (by omega), if_pos c2, if_neg (by omega), if_pos c3]
     simp
    ·rw [if_neg (by omega), if_pos c2, if_neg (by omega), if_neg c3] at h
     simp at h
   ·rw [if_neg (by omega), if_neg c2] at h
    simp at h
 ·rw [if_neg c1] at h
  simp at h
theorem pieceB_whole (n b0 b1 b2 b3 : Nat) (hn : 1 ≤ n) (h1 : b1 < 256) (h2 : b2 < 256) (h3 : b3 < 256) (h : (pieceB n b0 b1 b2 b3).2.2 = true) :
  decodeN n b0 b1 b2 b3 = ((pieceB n b0 b1 b2 b3).1, (pieceB n b0 b1 b2 b3).2.1) ∧ ((pieceB n b0 b1 b2 b3).1 ≠ 65533 ∨ (pieceB n b0 b1 b2 b3).2.1 ≠ 1) := by
 by_cases c0 : firstT b0 = 240
 ·have hb : b0 < 128 := by
   unfold firstT at c0
   repeat' split at c0
   all_goals omega
  rw [ascii_eq n b0 b1 b2 b3 c0]
  unfold pieceB
  rw [if_pos c0]
  exact ⟨rfl, .inl (by show b0 ≠ 65533; omega)⟩
 ·by_cases c1 : firstT b0 = 241
  ·unfold pieceB at h
   rw [if_neg c0, if_pos c1] at h
   simp at h
  ·have hl := low_of c0 c1
   unfold pieceB at h ⊢
   rw [if_neg c0, if_neg c1] at h ⊢
   obtain ⟨e, hsz⟩ := pieceS_whole n b0 b1 b2 b3 _ _ _ (sz_of hl) h
   rw [slow_eq n b0 b1 b2 b3 hn h1 h2 h3 hl] at e
   exact ⟨e, .inr (by omega)⟩
theorem pieceS_broken (n b0 b1 b2 b3 sz lo hi : Nat) (hs : sz = 2 ∨ sz = 3 ∨ sz = 4) (h : (pieceS n b0 b1 b2 b3 sz lo hi).2.2 = false) :
  slowN n b0 b1 b2 b3 sz lo hi = (65533, 1) ∧ (pieceS n b0 b1 b2 b3 sz lo hi).1 = 65533 := by
 unfold pieceS at *
 by_cases c1 : 1 < n ∧ lo ≤ b1 ∧ b1 ≤ hi
 ·rw [if_pos c1] at h ⊢
  rcases hs with rfl | rfl | rfl
  ·simp at h
  ·by_cases c2 : 2 < n ∧ 128 ≤ b2 ∧ b2 ≤ 191
   ·rw [if_neg (by omega), if_pos c2] at h
    simp at h
   ·rw [if_neg (by omega), if_neg c2]
    unfold slowN
    by_cases c4 : n < 3
    ·rw [if_pos c4]; simp
    ·rw [if_neg c4, if_neg (by omega), if_neg (by omega), if_pos (by omega)]; simp
  ·by_cases c2 : 2 < n ∧ 128 ≤ b2 ∧ b2 ≤ 191
   ·by_cases c3 : 3 < n ∧ 128 ≤ b3 ∧ b3 ≤ 191
    ·rw [if_neg (by omega), if_pos c2, if_neg (by omega), if_pos c3] at h
     simp at h
    ·rw [if_neg (by omega), if_pos c2, if_neg (by omega), if_neg c3]
     unfold slowN
     by_cases c4 : n < 4
     ·rw [if_pos c4]; simp
     ·rw [if_neg c4, if_neg (by omega), if_neg (by omega), if_neg (by omega), if_neg (by omega), if_pos (by omega)]; simp
   ·rw [if_neg (by omega), if_neg c2]
    unfold slowN
    by_cases c4 : n < 4
    ·rw [if_pos c4]; simp
    ·rw [if_neg c4, if_neg (by omega), if_neg (by omega), if_pos (by omega)]; simp
 ·rw [if_neg c1]
  unfold slowN
  by_cases c4 : n < sz
  ·rw [if_pos c4]; simp
  ·rw [if_neg c4, if_pos (by omega)]; simp
theorem pieceB_broken (n b0 b1 b2 b3 : Nat) (hn : 1 ≤ n) (h0 : b0 < 256) (h1 : b1 < 256) (h2 : b2 < 256) (h3 : b3 < 256) (h : (pieceB n b0 b1 b2 b3).2.2 = false) :
  decodeN n b0 b1 b2 b3 = (65533, 1) ∧ (pieceB n b0 b1 b2 b3).1 = 65533 := by
 by_cases c0 : firstT b0 = 240
 ·unfold pieceB at h
  rw [if_pos c0] at h
  simp at h
 ·by_cases c1 : firstT b0 = 241
  ·refine ⟨bad_eq n b0 b1 b2 b3 h0 c1, ?_⟩
   unfold pieceB
   rw [if_neg c0, if_pos c1]
  ·have hl := low_of c0 c1
   unfold pieceB at h ⊢
   rw [if_neg c0, if_neg c1] at h ⊢
   obtain ⟨e, hsz⟩ := pieceS_broken n b0 b1 b2 b3 _ _ _ (sz_of hl) h
   rw [slow_eq n b0 b1 b2 b3 hn h1 h2 h3 hl] at e
   exact ⟨e, hsz⟩
theorem brk_size (n b0 b1 b2 b3 k : Nat) (hn : 1 ≤ n) (h : (pieceB n b0 b1 b2 b3).2.2 = false) (hk : Brk n b0 b1 b2 k) : k = (pieceB n b0 b1 b2 b3).2.1 := by
 obtain ⟨k1, kn, kf, kt⟩ := hk
 by_cases c0 : firstT b0 = 240
 ·unfold pieceB at h
  rw [if_pos c0] at h
  simp at h
 ·by_cases c1 : firstT b0 = 241
  ·have e : (pieceB n b0 b1 b2 b3).2.1 = 1 := by unfold pieceB; rw [if_neg c0, if_pos c1]
   rw [e]
   rcases Nat.lt_or_ge 1 k with hk | hk
   ·have := kf 2 (by omega) (by omega)
    unfold fullB fullS at this
    rw [c1, if_pos (by omega)] at this
    simp at this
   ·omega
  ·have hl := low_of c0 c1
   have hs := sz_of hl
   unfold pieceB at h ⊢
   rw [if_neg c0, if_neg c1] at h ⊢
   unfold fullB at kf kt
   generalize firstT b0 % 8 = sz at *
   generalize accLo (firstT b0 / 16) = lo at *
   generalize accHi (firstT b0 / 16) = hi at *
   have f2 : ¬ (2 ≤ k ∧ sz ≤ 2) := fun ⟨a, b⟩ => by
    have := kf 2 (by omega) a
    unfold fullS at this
    rw [if_pos b] at this; simp at this
   have f3 : ¬ (3 ≤ k ∧ sz ≤ 3) := fun ⟨a, b⟩ => by
    have := kf 3 (by omega) a
    unfold fullS at this
    rw [if_pos b] at this; simp at this
   have f4 : ¬ 4 ≤ k := fun a => by
    have := kf 4 (by omega) a
    unfold fullS at this
    rw [if_pos (by omega)] at this; simp at this
   have g1 : 2 ≤ k → lo ≤ b1 ∧ b1 ≤ hi := fun a => by
    have := kf 2 (by omega) a
    unfold fullS at this
    by_cases q : sz ≤ 2
    ·exact (f2 ⟨a, q⟩).elim
    ·rw [if_neg q] at this
     by_cases q2 : 1 < 2 ∧ (b1 < lo ∨ hi < b1)
     ·rw [if_pos q2] at this; simp at this
     ·omega
   have g2 : 3 ≤ k → 128 ≤ b2 ∧ b2 ≤ 191 := fun a => by
    have := kf 3 (by omega) a
    have q1 := g1 (by omega)
    unfold fullS at this
    by_cases q : sz ≤ 3
    ·exact (f3 ⟨a, q⟩).elim
    ·rw [if_neg q, if_neg (by omega)] at this
     by_cases q2 : 2 < 3 ∧ (b2 < 128 ∨ 191 < b2)
     ·rw [if_pos q2] at this; simp at this
     ·omega
   have t1 : k = 1 → 1 < n → sz ≤ 2 ∨ b1 < lo ∨ hi < b1 := fun a b => by
    have := kt (by omega)
    subst a
    unfold fullS at this
    by_cases q : sz ≤ 1 + 1
    ·omega
    ·rw [if_neg q] at this
     by_cases q2 : 1 < 1 + 1 ∧ (b1 < lo ∨ hi < b1)
     ·omega
     ·rw [if_neg q2, if_neg (by omega)] at this; simp at this
   have t2 : k = 2 → 2 < n → sz ≤ 3 ∨ b2 < 128 ∨ 191 < b2 := fun a b => by
    have := kt (by omega)
    have q1 := g1 (by omega)
    subst a
    unfold fullS at this
    by_cases q : sz ≤ 2 + 1
    ·omega
    ·rw [if_neg q, if_neg (by omega)] at this
     by_cases q2 : 2 < 2 + 1 ∧ (b2 < 128 ∨ 191 < b2)
     ·omega
     ·rw [if_neg q2] at this; simp at this
   unfold pieceS at h ⊢
   by_cases c1 : 1 < n ∧ lo ≤ b1 ∧ b1 ≤ hi
   ·rw [if_pos c1] at h ⊢
    rcases hs with rfl | rfl | rfl
    ·simp at h
    ·by_cases c2 : 2 < n ∧ 128 ≤ b2 ∧ b2 ≤ 191
     ·rw [if_neg (by omega), if_pos c2] at h
      simp at h
     ·rw [if_neg (by omega), if_neg c2]
      show k = 2
      omega
    ·by_cases c2 : 2 < n ∧ 128 ≤ b2 ∧ b2 ≤ 191
     ·by_cases c3 : 3 < n ∧ 128 ≤ b3 ∧ b3 ≤ 191
      ·rw [if_neg (by omega), if_pos c2, if_neg (by omega), if_pos c3] at h
       simp at h
      ·rw [if_neg (by omega), if_pos c2, if_neg (by omega), if_neg c3]
       show k = 3
       omega
     ·rw [if_neg (by omega), if_neg c2]
      show k = 2
      omega
   ·rw [if_neg c1]
    show k = 1
    omega
end M1
end Go.Proofs.YtfafhbgkmlmmdaaGreatDoor.S
namespace Go.Proofs
open Go.Shelf
def Tryz.lays32_ren : Go.Shelf.Ren := ⟨fun | 32 => 200 | 49 => 220 | n => n, fun | 30 => 22 | 21 => 21 | 3 => 3 | 0 => 0 | 5 => 5 | 4 => 4 | 33 => 119 | 66 => 251 | 25 => 123 | 69 => 254 | 68 => 253 | n => n, fun | 2 => 3 | 3 => 4 | n => n⟩
theorem Tryz.lays32 : Go.Proofs.Lays7.n32 Tryz.prog Tryz.lays32_ren := {
 mixed := by kernel_rfl
 f32 := Tryz.func200.trans (congrArg some (by kernel_rfl))
 f49 := Tryz.func220.trans (congrArg some (by kernel_rfl))
 t0 := Tryz.underlying0
 a0 := Tryz.isAgg0
 z0 := Tryz.sizeOf0
 v0 := Tryz.zeroValue0
 i0 := by kernel_rfl
 t3 := Tryz.underlying3
 a3 := Tryz.isAgg3
 z3 := Tryz.sizeOf3
 v3 := Tryz.zeroValue3
 i3 := by kernel_rfl
 t4 := Tryz.underlying4
 a4 := Tryz.isAgg4
 z4 := Tryz.sizeOf4
 v4 := Tryz.zeroValue4
 i4 := by kernel_rfl
 t5 := Tryz.underlying5
 a5 := Tryz.isAgg5
 z5 := Tryz.sizeOf5
 v5 := Tryz.zeroValue5
 i5 := by kernel_rfl
 t21 := Tryz.underlying21
 a21 := Tryz.isAgg21
 z21 := Tryz.sizeOf21
 v21 := Tryz.zeroValue21
 i21 := by kernel_rfl
 t25 := Tryz.underlying123
 a25 := Tryz.isAgg123
 z25 := Tryz.sizeOf123
 v25 := Tryz.zeroValue123
 i25 := by kernel_rfl
 t30 := Tryz.underlying22
 a30 := Tryz.isAgg22
 z30 := Tryz.sizeOf22
 v30 := Tryz.zeroValue22
 i30 := by kernel_rfl
 t33 := Tryz.underlying119
 a33 := Tryz.isAgg119
 z33 := Tryz.sizeOf119
 v33 := Tryz.zeroValue119
 i33 := by kernel_rfl
 t66 := Tryz.underlying251
 a66 := Tryz.isAgg251
 z66 := Tryz.sizeOf251
 t68 := Tryz.underlying253
 a68 := Tryz.isAgg253
 z68 := Tryz.sizeOf253
 v68 := Tryz.zeroValue253
 i68 := by kernel_rfl
 t69 := Tryz.underlying254
 a69 := Tryz.isAgg254
 z69 := Tryz.sizeOf254
 v69 := Tryz.zeroValue254
 i69 := by kernel_rfl
 g2 := by kernel_rfl
 g3 := by kernel_rfl }
end Go.Proofs
namespace Go.Proofs.YtfafhbgkmlmmdaaGreatDoor.S
open Go.RowKit Go.Shelf Go.Lib
theorem full_early (b off k cap x0 : Nat) (w : World) (hT : Utf8Tabs 3 4 w) (hx : x0 < 256) (h2 : 2 ≤ k)
  (hs0 : w.cell? ⟨b, off, none⟩ = some (.int .u8 x0)) (hf : firstT x0 % 8 ≤ k) :
  Calls Tryz.prog 221 #[.slice (some ⟨b, off, none⟩) k cap] w fun e w' => e = .returned (.bool true) ∧ w = w' := by
 have hc0 := hT.1 x0 hx
 have k2 : (2 : Int) ≤ (k : Int) := by omega
 have k0 : ((k : Int) == 0) = false := by rw [beq_eq_false_iff_ne]; omega
 have k0' : (0 : Int) < (k : Int) := by omega
 clear hT
 rcases M1.firstCases x0 with hX | hX | hX | hX | hX | hX | hX | hX | hX
 all_goals
  rw [hX] at hc0 hf
  clear hX
  go_enter Tryz.func221, Tryz.ntmps221
  go_wp2
 all_goals
  go_ret
  exact ⟨rfl, rfl⟩
def slowAns (k b1 b2 lo hi : Nat) : Bool := if b1 < lo ∨ hi < b1 then true else if 2 < k ∧ (b2 < 128 ∨ 191 < b2) then true else false
theorem slowAns_1 {k b1 b2 lo hi : Nat} (h : b1 < lo ∨ hi < b1) : true = slowAns k b1 b2 lo hi := by unfold slowAns; rw [if_pos h]
theorem slowAns_2 {k b1 b2 lo hi : Nat} (h : 2 < k ∧ (b2 < 128 ∨ 191 < b2)) (h1 : ¬ (b1 < lo ∨ hi < b1)) : true = slowAns k b1 b2 lo hi := by unfold slowAns; rw [if_neg h1, if_pos h]
theorem slowAns_3 {k b1 b2 lo hi : Nat} (h : ¬ (2 < k ∧ (b2 < 128 ∨ 191 < b2))) (h1 : ¬ (b1 < lo ∨ hi < b1)) : false = slowAns k b1 b2 lo hi := by unfold slowAns; rw [if_neg h1, if_neg h]
theorem below_drewN {B : Nat} {a w : World} (h : Below B a w) (n : Nat) : Below B a (w.drewN n) := ⟨h.os, h.tape, h.output, h.size, h.block⟩
theorem ret_bool {a b : Bool} (h : a = b) : Ending.returned (.bool a) = .returned (.bool b) := by rw [h]
theorem full_slow (b off k cap x0 x1 x2 : Nat) (w : World) (hT : Utf8Tabs 3 4 w) (hx : x0 < 256) (h2 : 2 ≤ k)
  (hs0 : w.cell? ⟨b, off, none⟩ = some (.int .u8 x0)) (hs1 : w.cell? ⟨b, off + 1, none⟩ = some (.int .u8 x1))
  (hs2 : 2 < k → w.cell? ⟨b, off + 2, none⟩ = some (.int .u8 x2)) (hf : k < firstT x0 % 8) :
  Calls Tryz.prog 221 #[.slice (some ⟨b, off, none⟩) k cap] w fun e w' => e = .returned (.bool (slowAns k x1 x2 (accLo (firstT x0 / 16)) (accHi (firstT x0 / 16)))) ∧ Below w.heap.size w w' := by
 have hc0 := hT.1 x0 hx
 have k2 : (2 : Int) ≤ (k : Int) := by omega
 have k0 : ((k : Int) == 0) = false := by rw [beq_eq_false_iff_ne]; omega
 have k0' : (0 : Int) < (k : Int) := by omega
 have k1' : (1 : Int) < (k : Int) := by omega
 have hb : b < w.heap.size := block_lt_of_cell hs0
 rcases M1.firstCases x0 with hX | hX | hX | hX | hX | hX | hX | hX | hX
 all_goals
  rw [hX] at hc0 hf ⊢
  clear hX
 ·omega
 ·omega
 ·omega
 ·-- 19
  have ha0 := (hT.2 1 (by omega)).1
  have ha1 := (hT.2 1 (by omega)).2
  simp only [accLo, accHi, Nat.reduceMul, Nat.reduceAdd, Nat.reduceEqDiff, if_true, if_false, Nat.reduceDiv] at ha0 ha1 ⊢
  clear hT
  obtain rfl : k = 2 := by omega
  clear hs2
  by_cases c1 : x1 < 160
  ·have d1 : decide ((x1 : Int) < 160) = true := by simp; omega
   go_enter Tryz.func221, Tryz.ntmps221
   go_wp2
   go_quiet (fail)
   go_wp2
   go_ret
   exact ⟨ret_bool (slowAns_1 (.inl (by omega))), below_drewN ((Below.refl _ _).alloc (Nat.le_refl _) _) _⟩
  ·by_cases c2 : 191 < x1
   ·have d1 : decide ((x1 : Int) < 160) = false := by simp; omega
    have d2 : decide (191 < (x1 : Int)) = true := by simp; omega
    go_enter Tryz.func221, Tryz.ntmps221
    go_wp2
    go_quiet (fail)
    go_wp2
    go_ret
    exact ⟨ret_bool (slowAns_1 (.inr (by omega))), below_drewN ((Below.refl _ _).alloc (Nat.le_refl _) _) _⟩
   ·have d1 : decide ((x1 : Int) < 160) = false := by simp; omega
    have d2 : decide (191 < (x1 : Int)) = false := by simp; omega
    go_enter Tryz.func221, Tryz.ntmps221
    go_wp2
    go_quiet (fail)
    go_wp2
    go_ret
    exact ⟨ret_bool (slowAns_3 (by omega) (by omega)), below_drewN ((Below.refl _ _).alloc (Nat.le_refl _) _) _⟩
 ·-- 3
  have ha0 := (hT.2 0 (by omega)).1
  have ha1 := (hT.2 0 (by omega)).2
  simp only [accLo, accHi, Nat.reduceMul, Nat.reduceAdd, Nat.reduceEqDiff, if_true, if_false, Nat.reduceDiv] at ha0 ha1 ⊢
  clear hT
  obtain rfl : k = 2 := by omega
  clear hs2
  by_cases c1 : x1 < 128
  ·have d1 : decide ((x1 : Int) < 128) = true := by simp; omega
   go_enter Tryz.func221, Tryz.ntmps221
   go_wp2
   go_quiet (fail)
   go_wp2
   go_ret
   exact ⟨ret_bool (slowAns_1 (.inl (by omega))), below_drewN ((Below.refl _ _).alloc (Nat.le_refl _) _) _⟩
  ·by_cases c2 : 191 < x1
   ·have d1 : decide ((x1 : Int) < 128) = false := by simp; omega
    have d2 : decide (191 < (x1 : Int)) = true := by simp; omega
    go_enter Tryz.func221, Tryz.ntmps221
    go_wp2
    go_quiet (fail)
    go_wp2
    go_ret
    exact ⟨ret_bool (slowAns_1 (.inr (by omega))), below_drewN ((Below.refl _ _).alloc (Nat.le_refl _) _) _⟩
   ·have d1 : decide ((x1 : Int) < 128) = false := by simp; omega
    have d2 : decide (191 < (x1 : Int)) = false := by simp; omega
    go_enter Tryz.func221, Tryz.ntmps221
    go_wp2
    go_quiet (fail)
    go_wp2
    go_ret
    exact ⟨ret_bool (slowAns_3 (by omega) (by omega)), below_drewN ((Below.refl _ _).alloc (Nat.le_refl _) _) _⟩
 ·-- 35
  have ha0 := (hT.2 2 (by omega)).1
  have ha1 := (hT.2 2 (by omega)).2
  simp only [accLo, accHi, Nat.reduceMul, Nat.reduceAdd, Nat.reduceEqDiff, if_true, if_false, Nat.reduceDiv] at ha0 ha1 ⊢
  clear hT
  obtain rfl : k = 2 := by omega
  clear hs2
  by_cases c1 : x1 < 128
  ·have d1 : decide ((x1 : Int) < 128) = true := by simp; omega
   go_enter Tryz.func221, Tryz.ntmps221
   go_wp2
   go_quiet (fail)
   go_wp2
   go_ret
   exact ⟨ret_bool (slowAns_1 (.inl (by omega))), below_drewN ((Below.refl _ _).alloc (Nat.le_refl _) _) _⟩
  ·by_cases c2 : 159 < x1
   ·have d1 : decide ((x1 : Int) < 128) = false := by simp; omega
    have d2 : decide (159 < (x1 : Int)) = true := by simp; omega
    go_enter Tryz.func221, Tryz.ntmps221
    go_wp2
    go_quiet (fail)
    go_wp2
    go_ret
    exact ⟨ret_bool (slowAns_1 (.inr (by omega))), below_drewN ((Below.refl _ _).alloc (Nat.le_refl _) _) _⟩
   ·have d1 : decide ((x1 : Int) < 128) = false := by simp; omega
    have d2 : decide (159 < (x1 : Int)) = false := by simp; omega
    go_enter Tryz.func221, Tryz.ntmps221
    go_wp2
    go_quiet (fail)
    go_wp2
    go_ret
    exact ⟨ret_bool (slowAns_3 (by omega) (by omega)), below_drewN ((Below.refl _ _).alloc (Nat.le_refl _) _) _⟩
 ·-- 52
  have ha0 := (hT.2 3 (by omega)).1
  have ha1 := (hT.2 3 (by omega)).2
  simp only [accLo, accHi, Nat.reduceMul, Nat.reduceAdd, Nat.reduceEqDiff, if_true, if_false, Nat.reduceDiv] at ha0 ha1 ⊢
  clear hT
  obtain rfl | rfl : k = 2 ∨ k = 3 := by omega
  ·clear hs2
   by_cases c1 : x1 < 144
   ·have d1 : decide ((x1 : Int) < 144) = true := by simp; omega
    go_enter Tryz.func221, Tryz.ntmps221
    go_wp2
    go_quiet (fail)
    go_wp2
    go_ret
    exact ⟨ret_bool (slowAns_1 (.inl (by omega))), below_drewN ((Below.refl _ _).alloc (Nat.le_refl _) _) _⟩
   ·by_cases c2 : 191 < x1
    ·have d1 : decide ((x1 : Int) < 144) = false := by simp; omega
     have d2 : decide (191 < (x1 : Int)) = true := by simp; omega
     go_enter Tryz.func221, Tryz.ntmps221
     go_wp2
     go_quiet (fail)
     go_wp2
     go_ret
     exact ⟨ret_bool (slowAns_1 (.inr (by omega))), below_drewN ((Below.refl _ _).alloc (Nat.le_refl _) _) _⟩
    ·have d1 : decide ((x1 : Int) < 144) = false := by simp; omega
     have d2 : decide (191 < (x1 : Int)) = false := by simp; omega
     go_enter Tryz.func221, Tryz.ntmps221
     go_wp2
     go_quiet (fail)
     go_wp2
     go_ret
     exact ⟨ret_bool (slowAns_3 (by omega) (by omega)), below_drewN ((Below.refl _ _).alloc (Nat.le_refl _) _) _⟩
  ·have hs2 := hs2 (by omega)
   by_cases c1 : x1 < 144
   ·have d1 : decide ((x1 : Int) < 144) = true := by simp; omega
    go_enter Tryz.func221, Tryz.ntmps221
    go_wp2
    go_quiet (fail)
    go_wp2
    go_ret
    exact ⟨ret_bool (slowAns_1 (.inl (by omega))), below_drewN ((Below.refl _ _).alloc (Nat.le_refl _) _) _⟩
   ·by_cases c2 : 191 < x1
    ·have d1 : decide ((x1 : Int) < 144) = false := by simp; omega
     have d2 : decide (191 < (x1 : Int)) = true := by simp; omega
     go_enter Tryz.func221, Tryz.ntmps221
     go_wp2
     go_quiet (fail)
     go_wp2
     go_ret
     exact ⟨ret_bool (slowAns_1 (.inr (by omega))), below_drewN ((Below.refl _ _).alloc (Nat.le_refl _) _) _⟩
    ·by_cases c3 : x2 < 128
     ·have d1 : decide ((x1 : Int) < 144) = false := by simp; omega
      have d2 : decide (191 < (x1 : Int)) = false := by simp; omega
      have d3 : decide ((x2 : Int) < 128) = true := by simp; omega
      go_enter Tryz.func221, Tryz.ntmps221
      go_wp2
      go_quiet (fail)
      go_wp2
      go_ret
      exact ⟨ret_bool (slowAns_2 (by omega) (by omega)), below_drewN ((Below.refl _ _).alloc (Nat.le_refl _) _) _⟩
     ·by_cases c4 : 191 < x2
      ·have d1 : decide ((x1 : Int) < 144) = false := by simp; omega
       have d2 : decide (191 < (x1 : Int)) = false := by simp; omega
       have d3 : decide ((x2 : Int) < 128) = false := by simp; omega
       have d4 : decide (191 < (x2 : Int)) = true := by simp; omega
       go_enter Tryz.func221, Tryz.ntmps221
       go_wp2
       go_quiet (fail)
       go_wp2
       go_ret
       exact ⟨ret_bool (slowAns_2 (by omega) (by omega)), below_drewN ((Below.refl _ _).alloc (Nat.le_refl _) _) _⟩
      ·have d1 : decide ((x1 : Int) < 144) = false := by simp; omega
       have d2 : decide (191 < (x1 : Int)) = false := by simp; omega
       have d3 : decide ((x2 : Int) < 128) = false := by simp; omega
       have d4 : decide (191 < (x2 : Int)) = false := by simp; omega
       go_enter Tryz.func221, Tryz.ntmps221
       go_wp2
       go_quiet (fail)
       go_wp2
       go_ret
       exact ⟨ret_bool (slowAns_3 (by omega) (by omega)), below_drewN ((Below.refl _ _).alloc (Nat.le_refl _) _) _⟩
 ·-- 4
  have ha0 := (hT.2 0 (by omega)).1
  have ha1 := (hT.2 0 (by omega)).2
  simp only [accLo, accHi, Nat.reduceMul, Nat.reduceAdd, Nat.reduceEqDiff, if_true, if_false, Nat.reduceDiv] at ha0 ha1 ⊢
  clear hT
  obtain rfl | rfl : k = 2 ∨ k = 3 := by omega
  ·clear hs2
   by_cases c1 : x1 < 128
   ·have d1 : decide ((x1 : Int) < 128) = true := by simp; omega
    go_enter Tryz.func221, Tryz.ntmps221
    go_wp2
    go_quiet (fail)
    go_wp2
    go_ret
    exact ⟨ret_bool (slowAns_1 (.inl (by omega))), below_drewN ((Below.refl _ _).alloc (Nat.le_refl _) _) _⟩
   ·by_cases c2 : 191 < x1
    ·have d1 : decide ((x1 : Int) < 128) = false := by simp; omega
     have d2 : decide (191 < (x1 : Int)) = true := by simp; omega
     go_enter Tryz.func221, Tryz.ntmps221
     go_wp2
     go_quiet (fail)
     go_wp2
     go_ret
     exact ⟨ret_bool (slowAns_1 (.inr (by omega))), below_drewN ((Below.refl _ _).alloc (Nat.le_refl _) _) _⟩
    ·have d1 : decide ((x1 : Int) < 128) = false := by simp; omega
     have d2 : decide (191 < (x1 : Int)) = false := by simp; omega
     go_enter Tryz.func221, Tryz.ntmps221
     go_wp2
     go_quiet (fail)
     go_wp2
     go_ret
     exact ⟨ret_bool (slowAns_3 (by omega) (by omega)), below_drewN ((Below.refl _ _).alloc (Nat.le_refl _) _) _⟩
  ·have hs2 := hs2 (by omega)
   by_cases c1 : x1 < 128
   ·have d1 : decide ((x1 : Int) < 128) = true := by simp; omega
    go_enter Tryz.func221, Tryz.ntmps221
    go_wp2
    go_quiet (fail)
    go_wp2
    go_ret
    exact ⟨ret_bool (slowAns_1 (.inl (by omega))), below_drewN ((Below.refl _ _).alloc (Nat.le_refl _) _) _⟩
   ·by_cases c2 : 191 < x1
    ·have d1 : decide ((x1 : Int) < 128) = false := by simp; omega
     have d2 : decide (191 < (x1 : Int)) = true := by simp; omega
     go_enter Tryz.func221, Tryz.ntmps221
     go_wp2
     go_quiet (fail)
     go_wp2
     go_ret
     exact ⟨ret_bool (slowAns_1 (.inr (by omega))), below_drewN ((Below.refl _ _).alloc (Nat.le_refl _) _) _⟩
    ·by_cases c3 : x2 < 128
     ·have d1 : decide ((x1 : Int) < 128) = false := by simp; omega
      have d2 : decide (191 < (x1 : Int)) = false := by simp; omega
      have d3 : decide ((x2 : Int) < 128) = true := by simp; omega
      go_enter Tryz.func221, Tryz.ntmps221
      go_wp2
      go_quiet (fail)
      go_wp2
      go_ret
      exact ⟨ret_bool (slowAns_2 (by omega) (by omega)), below_drewN ((Below.refl _ _).alloc (Nat.le_refl _) _) _⟩
     ·by_cases c4 : 191 < x2
      ·have d1 : decide ((x1 : Int) < 128) = false := by simp; omega
       have d2 : decide (191 < (x1 : Int)) = false := by simp; omega
       have d3 : decide ((x2 : Int) < 128) = false := by simp; omega
       have d4 : decide (191 < (x2 : Int)) = true := by simp; omega
       go_enter Tryz.func221, Tryz.ntmps221
       go_wp2
       go_quiet (fail)
       go_wp2
       go_ret
       exact ⟨ret_bool (slowAns_2 (by omega) (by omega)), below_drewN ((Below.refl _ _).alloc (Nat.le_refl _) _) _⟩
      ·have d1 : decide ((x1 : Int) < 128) = false := by simp; omega
       have d2 : decide (191 < (x1 : Int)) = false := by simp; omega
       have d3 : decide ((x2 : Int) < 128) = false := by simp; omega
       have d4 : decide (191 < (x2 : Int)) = false := by simp; omega
       go_enter Tryz.func221, Tryz.ntmps221
       go_wp2
       go_quiet (fail)
       go_wp2
       go_ret
       exact ⟨ret_bool (slowAns_3 (by omega) (by omega)), below_drewN ((Below.refl _ _).alloc (Nat.le_refl _) _) _⟩
 ·-- 68
  have ha0 := (hT.2 4 (by omega)).1
  have ha1 := (hT.2 4 (by omega)).2
  simp only [accLo, accHi, Nat.reduceMul, Nat.reduceAdd, Nat.reduceEqDiff, if_true, if_false, Nat.reduceDiv] at ha0 ha1 ⊢
  clear hT
  obtain rfl | rfl : k = 2 ∨ k = 3 := by omega
  ·clear hs2
   by_cases c1 : x1 < 128
   ·have d1 : decide ((x1 : Int) < 128) = true := by simp; omega
    go_enter Tryz.func221, Tryz.ntmps221
    go_wp2
    go_quiet (fail)
    go_wp2
    go_ret
    exact ⟨ret_bool (slowAns_1 (.inl (by omega))), below_drewN ((Below.refl _ _).alloc (Nat.le_refl _) _) _⟩
   ·by_cases c2 : 143 < x1
    ·have d1 : decide ((x1 : Int) < 128) = false := by simp; omega
     have d2 : decide (143 < (x1 : Int)) = true := by simp; omega
     go_enter Tryz.func221, Tryz.ntmps221
     go_wp2
     go_quiet (fail)
     go_wp2
     go_ret
     exact ⟨ret_bool (slowAns_1 (.inr (by omega))), below_drewN ((Below.refl _ _).alloc (Nat.le_refl _) _) _⟩
    ·have d1 : decide ((x1 : Int) < 128) = false := by simp; omega
     have d2 : decide (143 < (x1 : Int)) = false := by simp; omega
     go_enter Tryz.func221, Tryz.ntmps221
     go_wp2
     go_quiet (fail)
     go_wp2
     go_ret
     exact ⟨ret_bool (slowAns_3 (by omega) (by omega)), below_drewN ((Below.refl _ _).alloc (Nat.le_refl _) _) _⟩
  ·have hs2 := hs2 (by omega)
   by_cases c1 : x1 < 128
   ·have d1 : decide ((x1 : Int) < 128) = true := by simp; omega
    go_enter Tryz.func221, Tryz.ntmps221
    go_wp2
    go_quiet (fail)
    go_wp2
    go_ret
    exact ⟨ret_bool (slowAns_1 (.inl (by omega))), below_drewN ((Below.refl _ _).alloc (Nat.le_refl _) _) _⟩
   ·by_cases c2 : 143 < x1
    ·have d1 : decide ((x1 : Int) < 128) = false := by simp; omega
     have d2 : decide (143 < (x1 : Int)) = true := by simp; omega
     go_enter Tryz.func221, Tryz.ntmps221
     go_wp2
     go_quiet (fail)
     go_wp2
     go_ret
     exact ⟨ret_bool (slowAns_1 (.inr (by omega))), below_drewN ((Below.refl _ _).alloc (Nat.le_refl _) _) _⟩
    ·by_cases c3 : x2 < 128
     ·have d1 : decide ((x1 : Int) < 128) = false := by simp; omega
      have d2 : decide (143 < (x1 : Int)) = false := by simp; omega
      have d3 : decide ((x2 : Int) < 128) = true := by simp; omega
      go_enter Tryz.func221, Tryz.ntmps221
      go_wp2
      go_quiet (fail)
      go_wp2
      go_ret
      exact ⟨ret_bool (slowAns_2 (by omega) (by omega)), below_drewN ((Below.refl _ _).alloc (Nat.le_refl _) _) _⟩
     ·by_cases c4 : 191 < x2
      ·have d1 : decide ((x1 : Int) < 128) = false := by simp; omega
       have d2 : decide (143 < (x1 : Int)) = false := by simp; omega
       have d3 : decide ((x2 : Int) < 128) = false := by simp; omega
       have d4 : decide (191 < (x2 : Int)) = true := by simp; omega
       go_enter Tryz.func221, Tryz.ntmps221
       go_wp2
       go_quiet (fail)
       go_wp2
       go_ret
       exact ⟨ret_bool (slowAns_2 (by omega) (by omega)), below_drewN ((Below.refl _ _).alloc (Nat.le_refl _) _) _⟩
      ·have d1 : decide ((x1 : Int) < 128) = false := by simp; omega
       have d2 : decide (143 < (x1 : Int)) = false := by simp; omega
       have d3 : decide ((x2 : Int) < 128) = false := by simp; omega
       have d4 : decide (191 < (x2 : Int)) = false := by simp; omega
       go_enter Tryz.func221, Tryz.ntmps221
       go_wp2
       go_quiet (fail)
       go_wp2
       go_ret
       exact ⟨ret_bool (slowAns_3 (by omega) (by omega)), below_drewN ((Below.refl _ _).alloc (Nat.le_refl _) _) _⟩
end Go.Proofs.YtfafhbgkmlmmdaaGreatDoor.S
namespace Go.Proofs.YtfafhbgkmlmmdaaGreatDoor.S
open Go.RowKit Go.Shelf
open Go.Lib
def Bs (w : World) (b off n : Nat) (f : Nat → Nat) : Prop := ∀ j, j < n → w.cell? ⟨b, off + j, none⟩ = some (.int .u8 (f j : Nat)) ∧ f j < 256
theorem Bs.lt {w : World} {b off n : Nat} {f : Nat → Nat} (h : Bs w b off n f) (hn : 0 < n) : b < w.heap.size := block_lt_of_cell (h 0 hn).1
theorem Bs.below {w w' : World} {b off n B : Nat} {f : Nat → Nat} (h : Bs w b off n f) (hb : Below B w w') (hB : b < B) : Bs w' b off n f :=
 fun j hj => ⟨(hb.cell (p := ⟨b, off + j, none⟩) hB).trans (h j hj).1, (h j hj).2⟩
theorem Bs.drop {w : World} {b off n : Nat} {f : Nat → Nat} (h : Bs w b off n f) (k : Nat) : Bs w b (off + k) (n - k) (fun j => f (k + j)) :=
 fun j hj => by have := h (k + j) (by omega); rw [← Nat.add_assoc] at this; exact this
theorem Bs.take {w : World} {b off n : Nat} {f : Nat → Nat} (h : Bs w b off n f) {k : Nat} (hk : k ≤ n) : Bs w b off k f := fun j hj => h j (by omega)
def Tabs (w : World) : Prop := Utf8Tabs 3 4 w ∧ 5 ≤ w.heap.size
theorem Tabs.below {w w' : World} {B : Nat} (h : Tabs w) (hb : Below B w w') (hB : 5 ≤ B) : Tabs w' := by
 refine ⟨⟨fun c hc => (hb.cell (p := ⟨3, c, none⟩) (by show 3 < B; omega)).trans (h.1.1 c hc), fun i hi => ⟨?_, ?_⟩⟩, ?_⟩
 ·exact (hb.cell (p := ⟨4, 2 * i, none⟩) (by show 4 < B; omega)).trans (h.1.2 i hi).1
 ·exact (hb.cell (p := ⟨4, 2 * i + 1, none⟩) (by show 4 < B; omega)).trans (h.1.2 i hi).2
 ·have := hb.size; have := h.2; omega
theorem full_any (b off k cap n : Nat) (f : Nat → Nat) (w : World) (hT : Tabs w) (hB : Bs w b off n f) (h2 : 2 ≤ k) (hk : k ≤ n) :
  Calls Tryz.prog 221 #[.slice (some ⟨b, off, none⟩) k cap] w fun e w' => e = .returned (.bool (M1.fullB k (f 0) (f 1) (f 2))) ∧ Below w.heap.size w w' := by
 have h0 := hB 0 (by omega)
 have h1 := hB 1 (by omega)
 by_cases hf : firstT (f 0) % 8 ≤ k
 ·have e : M1.fullB k (f 0) (f 1) (f 2) = true := by unfold M1.fullB M1.fullS; rw [if_pos hf]
  rw [e]
  refine (full_early b off k cap (f 0) w hT.1 h0.2 h2 h0.1 hf).mono ?_
  rintro e w' ⟨rfl, rfl⟩
  exact ⟨rfl, Below.refl _ _⟩
 ·have e : M1.fullB k (f 0) (f 1) (f 2) = slowAns k (f 1) (f 2) (accLo (firstT (f 0) / 16)) (accHi (firstT (f 0) / 16)) := by
   unfold M1.fullB M1.fullS slowAns
   rw [if_neg hf]
   by_cases c : f 1 < accLo (firstT (f 0) / 16) ∨ accHi (firstT (f 0) / 16) < f 1
   ·rw [if_pos c, if_pos ⟨by omega, c⟩]
   ·rw [if_neg c, if_neg (fun h => c h.2)]
  rw [e]
  exact full_slow b off k cap (f 0) (f 1) (f 2) w hT.1 h0.2 h2 h0.1 h1.1 (fun h => (hB 2 (by omega)).1) (by omega)
theorem brk_any (b off n cap : Nat) (f : Nat → Nat) (w : World) (hT : Tabs w) (hB : Bs w b off n f) (hn : 1 ≤ n) (hc : n ≤ cap) (hm : cap ≤ maxLen) :
  Calls Tryz.prog 201 #[.slice (some ⟨b, off, none⟩) n cap] w fun e w' => ∃ k : Nat, e = .returned (.int .i64 k) ∧ M1.Brk n (f 0) (f 1) (f 2) k ∧ Below w.heap.size w w' := by
 unfold maxLen at hm
 have hlt := hB.lt (by omega)
 have hn1 : (1 : Int) ≤ (n : Int) := by omega
 have hc1 : (n : Int) ≤ (cap : Int) := by omega
 go_enter Tryz.func201, Tryz.ntmps201
 go_wp2
 go_loopw [3] (fun s wr => ∃ k : Nat, 1 ≤ k ∧ k ≤ n ∧ s = .int .i64 k ∧ (∀ j, 2 ≤ j → j ≤ k → M1.fullB j (f 0) (f 1) (f 2) = false) ∧ Below w.heap.size w wr) (fun s _ => n - (RowKit.intOf s).toNat)
 case atStart => exact ⟨1, by omega, by omega, rfl, fun j a b => by omega, Below.refl _ _⟩
 case round =>
  obtain ⟨k, hk1, hkn, rfl, hfs, hb⟩ := hrel
  have HF := Lib.hid hfs
  clear hfs
  by_cases hlt : k < n
  ·have hki : (k : Int) + 1 ≤ (n : Int) := by omega
   have hT' := Lib.hid (hT.below hb (by have := hT.2; omega))
   have hB' := Lib.hid (hB.below hb (by omega))
   have C := fun W (h1 : Tabs W) (h2 : Bs W b off n f) => full_any b off (k + 1) cap n f W h1 h2 (by omega) (by omega)
   cases hv : M1.fullB (k + 1) (f 0) (f 1) (f 2)
   ·rw [hv] at C
    have C := Lib.hid C
    have HV := Lib.hid hv
    clear hv
    go_wp2_with (go_at_call 221; refine (C.out _ hT'.out hB'.out).mono ?_; rintro e w1 ⟨rfl, hb1⟩)
    go_roundw
    case rel => exact ⟨k + 1, by omega, by omega, by go_num, fun j a c => by
     rcases Nat.lt_or_ge k j with h | h
     ·obtain rfl : j = k + 1 := by omega
      exact HV.out
     ·exact HF.out j a h, hb.trans (hb1.mono hb.size)⟩
    case measure => simp [RowKit.intOf]; omega
   ·rw [hv] at C
    have C := Lib.hid C
    have HV := Lib.hid hv
    clear hv
    go_wp2_with (go_at_call 221; refine (C.out _ hT'.out hB'.out).mono ?_; rintro e w1 ⟨rfl, hb1⟩)
    go_ret
    exact ⟨k, rfl, ⟨hk1, hkn, HF.out, fun _ => HV.out⟩, hb.trans (hb1.mono hb.size)⟩
  ·have hki : (n : Int) ≤ (k : Int) := by omega
   go_wp2
   go_ret
   exact ⟨k, rfl, ⟨hk1, hkn, HF.out, fun h => absurd h hlt⟩, hb⟩
end Go.Proofs.YtfafhbgkmlmmdaaGreatDoor.S
