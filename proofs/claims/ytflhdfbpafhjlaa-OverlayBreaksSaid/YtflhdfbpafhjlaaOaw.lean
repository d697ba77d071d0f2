/-
  Contract: virgulelaw25.awake.
-/
import Derived.Deep.CutRange
import Derived.Test.YtflhdfbpafhjlaaOto
namespace Go.Proofs.Ytflhdfbpafhjlaa
open Go.RowKit Go.Shelf Go.Lib

set_option maxHeartbeats 4000000 in
theorem awake_any (w : World) : Calls Try.prog 10 #[] w fun e w' => e = .returned (.bool true) ∧ Below w.heap.size w w' := by
  have C1 := Lib.hid (fun W => betw_any 3 ⟨32, 0, 0, false, false, true, false⟩ ⟨97, 0, 0, false, false, true, false⟩ true (by unfold R32; simp) W)
  have C2 := Lib.hid (fun W => betw_any 3 ⟨32, 0, 0, false, false, true, false⟩ ⟨97, 0, 0, true, false, true, false⟩ true (by unfold R32; simp) W)
  have C3 := Lib.hid (fun W => betw_any 1 ⟨32, 0, 0, false, false, true, false⟩ ⟨97, 0, 0, false, false, true, false⟩ true (by unfold R32; simp) W)
  have TB := two_boxes w #[.int .i32 32, .int .i64 0, .int .i64 0, .bool false, .bool false, .bool true, .bool false] #[.int .i32 97, .int .i64 0, .int .i64 0, .bool false, .bool false, .bool true, .bool false] 26
  obtain ⟨W2, hW2⟩ : ∃ V, (w.alloc (.cells #[.int .i32 32, .int .i64 0, .int .i64 0, .bool false, .bool false, .bool true, .bool false] 26)).alloc (.cells #[.int .i32 97, .int .i64 0, .int .i64 0, .bool false, .bool false, .bool true, .bool false] 26) = V := ⟨_, rfl⟩
  have hs : W2.heap.size = w.heap.size + 1 + 1 := by rw [← hW2]; simp
  rw [hW2] at TB
  have b3 := below_new W2 (.cells #[.int .i32 97, .int .i64 0, .int .i64 0, .bool true, .bool false, .bool true, .bool false] 26)
  have x3 := cells_new W2 #[.int .i32 97, .int .i64 0, .int .i64 0, .bool true, .bool false, .bool true, .bool false] 26
  rw [hs] at x3
  obtain ⟨W3, hW3⟩ : ∃ V, W2.alloc (.cells #[.int .i32 97, .int .i64 0, .int .i64 0, .bool true, .bool false, .bool true, .bool false] 26) = V := ⟨_, rfl⟩
  rw [hW3] at b3 x3
  have HH := Lib.hid (And.intro hW2 (And.intro hW3 (And.intro (below_on TB.1 b3) (And.intro (TB.2.1.on b3) (And.intro (TB.2.2.on b3) x3)))))
  clear TB hW2 hW3 hs b3 x3
  go_enter Try.func10, Try.ntmps10
  go_wp2_with fail
  rw [HH.out.1, HH.out.2.1]
  refine (C1.out W3).mono ?_
  rintro e w1 ⟨he, hb1⟩
  obtain rfl : e = .returned (.int .i64 (-1)) := he
  have g1 := HH.out.2.2.1
  have y1 := HH.out.2.2.2.1.on hb1
  have y2 := HH.out.2.2.2.2.1.on hb1
  have y3 := HH.out.2.2.2.2.2.on hb1
  have z1 := below_on g1 hb1
  obtain ⟨p0, p1, p2, p3, p4, p5, p6⟩ := cell7 y1
  obtain ⟨r0, r1, r2, r3, r4, r5, r6⟩ := cell7 y3
  have H1 := Lib.hid (And.intro z1 (And.intro y1 y2))
  clear g1 y1 y2 y3 z1 hb1
  go_wp2_with fail
  refine (C2.out w1).mono ?_
  rintro e w2 ⟨he, hb1⟩
  obtain rfl : e = .returned (.int .i64 2) := he
  clear p0 p1 p2 p3 p4 p5 p6 r0 r1 r2 r3 r4 r5 r6
  obtain ⟨p0, p1, p2, p3, p4, p5, p6⟩ := cell7 (H1.out.2.1.on hb1)
  obtain ⟨r0, r1, r2, r3, r4, r5, r6⟩ := cell7 (H1.out.2.2.on hb1)
  have H2 := Lib.hid (below_on H1.out.1 hb1)
  clear hb1
  go_wp2_with fail
  refine (C3.out w2).mono ?_
  rintro e w3 ⟨he, hb1⟩
  obtain rfl : e = .returned (.int .i64 1) := he
  clear p0 p1 p2 p3 p4 p5 p6 r0 r1 r2 r3 r4 r5 r6
  have H3 := Lib.hid (below_on H2.out hb1)
  clear hb1
  go_wp2_with fail
  go_ret
  exact ⟨rfl, H3.out⟩
end Go.Proofs.Ytflhdfbpafhjlaa
