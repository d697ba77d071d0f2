/-
  Contracts: awake: the document's example holds.
-/
import Derived.Test.YtlbcicoppglgjaaDoorIsw
import Derived.Test.YtlbcicoppglgjaaDoorNew
namespace Go.Proofs.YtlbcicoppglgjaaDoor
open Go.RowKit Go.Shelf Go.Lib Go.Great Go.Maps

theorem ex_fault : faultL [seqEx] = 0 := by decide +kernel
theorem ex_count : (mkN [seqEx]).count = 3 := by decide +kernel
theorem ex_steps : posI (stepM true (mkN [seqEx]) (posI (stepM true (mkN [seqEx]) [0] 11)) 12) = [0, 2] := by decide +kernel
theorem ex_tells : tellsU (mkN [seqEx]) [0, 2] = 1 := by decide +kernel
theorem nd_leaf {w : World} {B : Nat} (k c : Int) (hk : i64 k) (hc : i64 c) : Nd w B (.mk k c []) (.agg #[.int .i64 k, .int .i64 c, .slice none 0 0]) :=
  Nd_iff.2 ⟨hk, hc, none, 0, rfl, ⟨by simp [E.ks], by simp, fun _ => rfl, fun h => absurd rfl h⟩⟩
theorem ex_at (w W1 W2 W3 W4 : World) (hW1 : w.alloc (.cells #[.int .i64 0, .int .i64 12, .slice none 0 0] 52) = W1)
    (hW2 : W1.alloc (.cells #[.int .i64 0, .int .i64 11, .slice none 0 0, .int .i64 6, .int .i64 0, .slice (some ⟨w.heap.size, 0, none⟩) 1 1] 52) = W2)
    (hW3 : W2.alloc (.cells #[.int .i64 4, .int .i64 0, .slice (some ⟨w.heap.size + 1, 0, none⟩) 2 2] 52) = W3)
    (hW4 : W3.alloc (.cells #[.int .i64 4, .int .i64 0, .slice (some ⟨w.heap.size + 1, 0, none⟩) 2 2] 52) = W4) :
    KsAt W4 W4.heap.size [seqEx] (some ⟨w.heap.size + 1 + 1 + 1, 0, none⟩) 1 ∧ Below w.heap.size w W4 := by
  have z1 : W1.heap.size = w.heap.size + 1 := by rw [← hW1]; simp
  have z2 : W2.heap.size = w.heap.size + 1 + 1 := by rw [← hW2]; simp [z1]
  have z3 : W3.heap.size = w.heap.size + 1 + 1 + 1 := by rw [← hW3]; simp [z2]
  have z4 : W4.heap.size = w.heap.size + 1 + 1 + 1 + 1 := by rw [← hW4]; simp [z3]
  have b1 : Below w.heap.size w W1 := by rw [← hW1]; exact below_new _ _
  have b2 : Below W1.heap.size W1 W2 := by rw [← hW2]; exact below_new _ _
  have b3 : Below W2.heap.size W2 W3 := by rw [← hW3]; exact below_new _ _
  have b4 : Below W3.heap.size W3 W4 := by rw [← hW4]; exact below_new _ _
  have y1 : Cells W4 w.heap.size 52 #[.int .i64 0, .int .i64 12, .slice none 0 0] :=
    (b4.block _ (by omega)).trans ((b3.block _ (by omega)).trans ((b2.block _ (by omega)).trans (by rw [← hW1]; exact cells_new _ _ _)))
  have y2 : Cells W4 (w.heap.size + 1) 52 #[.int .i64 0, .int .i64 11, .slice none 0 0, .int .i64 6, .int .i64 0, .slice (some ⟨w.heap.size, 0, none⟩) 1 1] :=
    (b4.block _ (by omega)).trans ((b3.block _ (by omega)).trans (by rw [← hW2, ← z1]; exact cells_new _ _ _))
  have y4 : Cells W4 (w.heap.size + 1 + 1 + 1) 52 #[.int .i64 4, .int .i64 0, .slice (some ⟨w.heap.size + 1, 0, none⟩) 2 2] := by rw [← hW4, ← z3]; exact cells_new _ _ _
  have k1 : KsAt W4 W4.heap.size [.mk 0 12 []] (some ⟨w.heap.size, 0, none⟩) 1 :=
    ⟨by simp, by unfold maxLen; omega, by simp, fun _ => ⟨_, 0, rfl, by omega, ⟨⟨_, _, _, y1.cell 0, y1.cell 1, y1.cell 2, nd_leaf 0 12 (by unfold i64; omega) (by unfold i64; omega)⟩, trivial⟩⟩⟩
  have k2 : KsAt W4 W4.heap.size [.mk 0 11 [], .mk 6 0 [.mk 0 12 []]] (some ⟨w.heap.size + 1, 0, none⟩) 2 :=
    ⟨by simp, by unfold maxLen; omega, by simp, fun _ => ⟨_, 0, rfl, by omega, ⟨⟨_, _, _, y2.cell 0, y2.cell 1, y2.cell 2, nd_leaf 0 11 (by unfold i64; omega) (by unfold i64; omega)⟩,
      ⟨_, _, _, y2.cell 3, y2.cell 4, y2.cell 5, Nd_iff.2 ⟨by unfold i64; simp [E.k], by unfold i64; simp [E.c], _, _, rfl, k1⟩⟩, trivial⟩⟩⟩
  exact ⟨⟨by simp, by unfold maxLen; omega, by simp, fun _ => ⟨_, 0, rfl, by omega, ⟨⟨_, _, _, y4.cell 0, y4.cell 1, y4.cell 2, Nd_iff.2 ⟨show i64 4 from by unfold i64; omega, show i64 0 from by unfold i64; omega, _, _, rfl, k2⟩⟩, trivial⟩⟩⟩,
    b1.trans ((b2.mono (by omega)).trans ((b3.mono (by omega)).trans (b4.mono (by omega))))⟩
theorem news2_cells (w : World) : IS (w.alloc (.cells #[.int .i64 0, .int .i64 2] 3)) (w.alloc (.cells #[.int .i64 0, .int .i64 2] 3)).heap.size [0, 2] (some ⟨w.heap.size, 0, none⟩) 2 :=
  ⟨by simp, by unfold maxLen; omega, fun x hx => by simp at hx; rcases hx with rfl | rfl <;> (unfold i64; omega), fun _ => ⟨_, 0, rfl, by simp, fun i x hx => by
    match i, hx with
    | 0, hx => simp at hx; subst hx; rw [World.cell?_alloc_new]; rfl
    | 1, hx => simp at hx; subst hx; rw [World.cell?_alloc_new]; rfl
    | i + 2, hx => simp at hx⟩⟩
set_option maxHeartbeats 4000000 in
set_option maxRecDepth 100000 in
theorem awake_any (w : World) (hT : TZ w) : Calls Tryd.prog 9 #[] w fun r w' => r = .returned (.bool true) ∧ Below w.heap.size w w' := by
  obtain ⟨W1, hW1⟩ : ∃ W, w.alloc (.cells #[.int .i64 0, .int .i64 12, .slice none 0 0] 52) = W := ⟨_, rfl⟩
  obtain ⟨W2, hW2⟩ : ∃ W, W1.alloc (.cells #[.int .i64 0, .int .i64 11, .slice none 0 0, .int .i64 6, .int .i64 0, .slice (some ⟨w.heap.size, 0, none⟩) 1 1] 52) = W := ⟨_, rfl⟩
  obtain ⟨W3, hW3⟩ : ∃ W, W2.alloc (.cells #[.int .i64 4, .int .i64 0, .slice (some ⟨w.heap.size + 1, 0, none⟩) 2 2] 52) = W := ⟨_, rfl⟩
  obtain ⟨W4, hW4⟩ : ∃ W, W3.alloc (.cells #[.int .i64 4, .int .i64 0, .slice (some ⟨w.heap.size + 1, 0, none⟩) 2 2] 52) = W := ⟨_, rfl⟩
  obtain ⟨hk, hb4⟩ := ex_at w W1 W2 W3 W4 hW1 hW2 hW3 hW4
  have hT4 := hT.below hb4 hT.lt
  have C := Lib.hid (new_any true [seqEx] _ 1 W4 hk ex_fault hT4)
  have HW := Lib.hid (And.intro hW1 (And.intro hW2 (And.intro hW3 hW4)))
  have H4 := Lib.hid (And.intro hb4 (And.intro hT hT4))
  clear hW1 hW2 hW3 hW4 hk hb4 hT hT4
  go_enter Tryd.func9, Tryd.ntmps9
  go_wp2_with fail
  rw [HW.out.1, HW.out.2.1, HW.out.2.2.1, HW.out.2.2.2]
  refine C.out.mono ?_
  rintro r w5 ⟨q, n, rfl, hq, hn5, hb5⟩
  have hbw5 := H4.out.1.trans (hb5.mono H4.out.1.size)
  have hT5 := H4.out.2.1.below hbw5 H4.out.2.1.lt
  have H5 := Lib.hid (And.intro hn5 (And.intro hbw5 hT5))
  clear hq hn5 hb5 hbw5 hT5
  go_wp2_with fail
  refine (begin_any q.b w5).mono ?_
  rintro r w6 ⟨rfl, hw6⟩
  have bb : Below w5.heap.size w5 w6 := by rw [hw6]; exact below_new _ _
  have i6 : IS w6 w6.heap.size [0] (some ⟨w5.heap.size, 0, none⟩) 1 := by rw [hw6]; exact is_begin w5
  have n6 := H5.out.1.below bb
  have b6 := H5.out.2.1.trans (bb.mono H5.out.2.1.size)
  have t6 := H5.out.2.2.below bb H5.out.2.2.lt
  have C6 := Lib.hid (step_any n6 t6 [0] _ 1 i6 11 (by unfold i64; omega))
  have H6 := Lib.hid (And.intro n6 (And.intro b6 t6))
  clear hw6 bb i6 n6 b6 t6
  go_wp2_with fail
  refine C6.out.mono ?_
  rintro r w7 ⟨v7, rfl, ho7, hb7⟩
  obtain ⟨A7, c7, rfl, i7⟩ := ho7.is
  have n7 := H6.out.1.below hb7
  have b7 := H6.out.2.1.trans (hb7.mono H6.out.2.1.size)
  have t7 := H6.out.2.2.below hb7 H6.out.2.2.lt
  have C7 := Lib.hid (step_any n7 t7 _ A7 c7 i7 12 (by unfold i64; omega))
  have H7 := Lib.hid (And.intro n7 (And.intro b7 t7))
  clear i7 n7 b7 t7 hb7 ho7
  go_wp2_with fail
  refine C7.out.mono ?_
  rintro r w8 ⟨v8, rfl, ho8, hb8⟩
  obtain ⟨A8, c8, rfl, i8⟩ := ho8.is
  rw [ex_steps] at i8 ⊢
  have n8 := H7.out.1.below hb8
  have b8 := H7.out.2.1.trans (hb8.mono H7.out.2.1.size)
  have H8 := Lib.hid (And.intro n8 (And.intro b8 i8))
  clear i8 n8 b8 hb8 ho8
  go_wp2_with fail
  refine (count_nfa H8.out.1).mono ?_
  rintro r w9 ⟨rfl, rfl⟩
  rw [ex_count]
  obtain ⟨w10, hw10⟩ : ∃ W, w9.alloc (.cells #[.int .i64 0, .int .i64 2] 3) = W := ⟨_, rfl⟩
  have bb : Below w9.heap.size w9 w10 := by rw [← hw10]; exact below_new _ _
  have i10 : IS w10 w10.heap.size [0, 2] (some ⟨w9.heap.size, 0, none⟩) 2 := by rw [← hw10]; exact news2_cells w9
  have H10 := Lib.hid (And.intro hw10 (And.intro (H8.out.1.below bb) (And.intro (H8.out.2.1.trans (bb.mono H8.out.2.1.size)) (And.intro (H8.out.2.2.on bb) i10))))
  clear hw10 bb i10
  go_wp2_with fail
  rw [H10.out.1]
  refine (is_any [0, 2] [0, 2] A8 _ c8 2 w10 H10.out.2.2.2.1 H10.out.2.2.2.2).mono ?_
  rintro r w11 ⟨rfl, hb11⟩
  have H11 := Lib.hid (And.intro (H10.out.2.1.below hb11) (And.intro (H10.out.2.2.1.trans (hb11.mono H10.out.2.2.1.size)) (H10.out.2.2.2.1.on hb11)))
  clear hb11
  rw [show decide (([0, 2] : List Int) = [0, 2]) = true by decide]
  go_wp2_with fail
  refine (tells_any H11.out.1 [0, 2] A8 c8 H11.out.2.2).mono ?_
  rintro r w12 ⟨rfl, rfl⟩
  rw [ex_tells]
  go_wp2_with fail
  go_ret
  exact ⟨rfl, H11.out.2.1⟩
end Go.Proofs.YtlbcicoppglgjaaDoor
