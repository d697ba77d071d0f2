/-
  Contract: virgulelaw25.To; a block of seven cells written anew.
-/
import Derived.Deep.CutRange
import Derived.Test.YtflhdfbpafhjlaaOb
namespace Go.Proofs.Ytflhdfbpafhjlaa
open Go.RowKit Go.Shelf Go.Lib

theorem cell7 {W : World} {g T : Nat} {a0 a1 a2 a3 a4 a5 a6 : Value} (h : Cells W g T #[a0, a1, a2, a3, a4, a5, a6]) : W.cell? ⟨g, 0, none⟩ = some a0 ∧ W.cell? ⟨g, 1, none⟩ = some a1 ∧ W.cell? ⟨g, 2, none⟩ = some a2 ∧ W.cell? ⟨g, 3, none⟩ = some a3 ∧ W.cell? ⟨g, 4, none⟩ = some a4 ∧ W.cell? ⟨g, 5, none⟩ = some a5 ∧ W.cell? ⟨g, 6, none⟩ = some a6 :=
  ⟨h.cell 0, h.cell 1, h.cell 2, h.cell 3, h.cell 4, h.cell 5, h.cell 6⟩
theorem froz7 {W : World} {g T : Nat} {cs : Array Value} (h : Cells W g T cs) : W.frozen? ⟨g, 0, none⟩ = false ∧ W.frozen? ⟨g, 1, none⟩ = false ∧ W.frozen? ⟨g, 2, none⟩ = false ∧ W.frozen? ⟨g, 3, none⟩ = false ∧ W.frozen? ⟨g, 4, none⟩ = false ∧ W.frozen? ⟨g, 5, none⟩ = false ∧ W.frozen? ⟨g, 6, none⟩ = false :=
  ⟨h.froz 0, h.froz 1, h.froz 2, h.froz 3, h.froz 4, h.froz 5, h.froz 6⟩
theorem set7 {W : World} {g T : Nat} {a0 a1 a2 a3 a4 a5 a6 : Value} (h : Cells W g T #[a0, a1, a2, a3, a4, a5, a6]) (v0 v1 v2 v3 v4 v5 v6 : Value) :
    ∃ W', (((((((W.setCell ⟨g, 0, none⟩ v0).setCell ⟨g, 1, none⟩ v1).setCell ⟨g, 2, none⟩ v2).setCell ⟨g, 3, none⟩ v3).setCell ⟨g, 4, none⟩ v4).setCell ⟨g, 5, none⟩ v5).setCell ⟨g, 6, none⟩ v6) = W' ∧ Cells W' g T #[v0, v1, v2, v3, v4, v5, v6] ∧ Fz (fun z => z = g) W W' := by
  have z1 : Cells _ g T #[v0, a1, a2, a3, a4, a5, a6] := h.set 0 v0
  have z2 : Cells _ g T #[v0, v1, a2, a3, a4, a5, a6] := z1.set 1 v1
  have z3 : Cells _ g T #[v0, v1, v2, a3, a4, a5, a6] := z2.set 2 v2
  have z4 : Cells _ g T #[v0, v1, v2, v3, a4, a5, a6] := z3.set 3 v3
  have z5 : Cells _ g T #[v0, v1, v2, v3, v4, a5, a6] := z4.set 4 v4
  have z6 : Cells _ g T #[v0, v1, v2, v3, v4, v5, a6] := z5.set 5 v5
  have z7 : Cells _ g T #[v0, v1, v2, v3, v4, v5, v6] := z6.set 6 v6
  have s := fun (V : World) (i : Nat) (v : Value) => Fz.set (X := fun z => z = g) V g i v rfl
  exact ⟨_, rfl, z7, ((((((s _ 0 _).trans (s _ 1 _)).trans (s _ 2 _)).trans (s _ 3 _)).trans (s _ 4 _)).trans (s _ 5 _)).trans (s _ 6 _)⟩

set_option maxHeartbeats 1000000 in
theorem to_any (a : IT) (w : World) : Calls Try.prog 8 #[.agg (itA a)] w fun e w' => e = .returned (.agg (itA a)) ∧ Below w.heap.size w w' := by
  obtain ⟨ar, aat, asz, af, ax, an, ap⟩ := a
  unfold itA
  simp only
  have b1 := below_new w (.cells #[.int .i32 ar, .int .i64 aat, .int .i64 asz, .bool af, .bool ax, .bool an, .bool ap] 23)
  have x1 := cells_new w #[.int .i32 ar, .int .i64 aat, .int .i64 asz, .bool af, .bool ax, .bool an, .bool ap] 23
  have hs : (w.alloc (.cells #[.int .i32 ar, .int .i64 aat, .int .i64 asz, .bool af, .bool ax, .bool an, .bool ap] 23)).heap.size = w.heap.size + 1 := by simp
  obtain ⟨W1, hW1⟩ : ∃ V, w.alloc (.cells #[.int .i32 ar, .int .i64 aat, .int .i64 asz, .bool af, .bool ax, .bool an, .bool ap] 23) = V := ⟨_, rfl⟩
  rw [hW1] at b1 x1 hs
  have b2 := below_new W1 (.cells #[.int .i32 0, .int .i64 0, .int .i64 0, .bool false, .bool false, .bool false, .bool false] 26)
  have x2 := cells_new W1 #[.int .i32 0, .int .i64 0, .int .i64 0, .bool false, .bool false, .bool false, .bool false] 26
  obtain ⟨W2, hW2⟩ : ∃ V, W1.alloc (.cells #[.int .i32 0, .int .i64 0, .int .i64 0, .bool false, .bool false, .bool false, .bool false] 26) = V := ⟨_, rfl⟩
  rw [hW2] at b2 x2
  rw [hs] at x2
  obtain ⟨q0, q1, q2, q3, q4, q5, q6⟩ := cell7 (x1.on b2)
  obtain ⟨m0, m1, m2, m3, m4, m5, m6⟩ := cell7 x2
  obtain ⟨f0, f1, f2, f3, f4, f5, f6⟩ := froz7 x2
  have HH := Lib.hid (And.intro (below_on b1 b2) (And.intro x2 (And.intro hW1 hW2)))
  clear b1 b2 x1 x2 hW1 hW2 hs
  go_enter Try.func8, Try.ntmps8
  go_upto_region 1 with fail
  rw [HH.out.2.2.1, HH.out.2.2.2]
  go_wp2_with fail
  obtain ⟨W9, hW9, z7, k7⟩ := set7 HH.out.2.1 (.int .i32 ar) (.int .i64 aat) (.int .i64 asz) (.bool af) (.bool ax) (.bool an) (.bool ap)
  rw [hW9]
  clear hW9
  obtain ⟨t0, t1, t2, t3, t4, t5, t6⟩ := cell7 z7
  have b9 : Below w.heap.size w W9 := HH.out.1.trans (k7.below (by have := HH.out.1.size; omega) (fun k hk e => by omega))
  clear z7 k7
  refine bodyPost_ret (v := .agg #[.int .i32 ar, .int .i64 aat, .int .i64 asz, .bool af, .bool ax, .bool an, .bool ap]) ?_ rfl ⟨rfl, b9⟩
  simp [results, Try.results8, go_sem, t0, t1, t2, t3, t4, t5, t6]
end Go.Proofs.Ytflhdfbpafhjlaa
