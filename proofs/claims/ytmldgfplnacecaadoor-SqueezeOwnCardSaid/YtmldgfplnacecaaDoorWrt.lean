/-
  Contracts: squeeze.Right, of.
-/
import Derived.Test.YtmldgfplnacecaaDoorWid
namespace Go.Proofs.YtmldgfplnacecaaDoor
open Go.RowKit Go.Shelf Go.Lib Go.Maps Go.Sort

set_option maxHeartbeats 4000000 in
set_option maxRecDepth 100000 in
theorem of_tab (A A2 : Option Addr) (n c n2 c2 : Nat) (w : World) : Calls Tryd.prog 44 #[.agg #[.slice A n c, .slice A2 n2 c2]] w fun r w' => r = .returned (.agg #[.slice A n c, .slice A2 n2 c2]) ∧ Below w.heap.size w w' := by
  go_enter Tryd.func44, Tryd.ntmps44
  go_wp2_with fail
  refine bodyPost_ret (v := .agg #[.slice A n c, .slice A2 n2 c2]) (by simp [results, Tryd.results44, go_sem]) rfl ⟨rfl, ?_⟩
  exact (below_new w _).trans ((below_new _ _).mono (by simp))
set_option maxHeartbeats 8000000 in
set_option maxRecDepth 100000 in
theorem wright_any {g : List Int} {R : List (List Int)} {T : List Nat} {v : Value} {w : World} (h : NwV w g R T v) (hgl : g.length ≤ 1000) (hTl : T.length ≤ 1000) :
    Calls Tryd.prog 43 #[v] w fun r w' => r = .returned (.bool (wideB g R T)) ∧ Below w.heap.size w w' := by
  obtain ⟨A, c, A1, c1, A2, c2, rfl, hI, hR, hU⟩ := h
  obtain ⟨n, hn⟩ : ∃ n, R.length = n := ⟨_, rfl⟩
  obtain ⟨n2, hn2⟩ : ∃ n, T.length = n := ⟨_, rfl⟩
  obtain ⟨N, hN⟩ : ∃ n, g.length = n := ⟨_, rfl⟩
  obtain ⟨W0, hW0⟩ : ∃ W, w.alloc (.cells #[.slice A N c, .slice A1 n c1, .slice A2 n2 c2] 70) = W := ⟨_, rfl⟩
  have b0 : Below w.heap.size w W0 := by rw [← hW0]; exact below_new _ _
  have x0 : Cells W0 w.heap.size 70 #[.slice A N c, .slice A1 n c1, .slice A2 n2 c2] := by rw [← hW0]; exact cells_new _ _ _
  have C := wide_any (g := g) (R := R) (T := T) (v := .agg #[.slice A N c, .slice A1 n c1, .slice A2 n2 c2]) (w := W0) ⟨A, c, A1, c1, A2, c2, by rw [hn, hn2, hN], hI.on b0, hR.on b0, hU.on b0⟩ hgl hTl
  have e0 := x0.cell 0
  have e1 := x0.cell 1
  have e2 := x0.cell 2
  simp at e0 e1 e2
  obtain ⟨B, hB⟩ : ∃ B, wideB g R T = B := ⟨_, rfl⟩
  have HC := Lib.hid (And.intro C (And.intro b0 hB))
  have HW := Lib.hid hW0
  rw [hn, hn2, hN, hB]
  clear C b0 x0 hW0 hn hn2 hN hI hR hU hgl hTl hB
  go_enter Tryd.func43, Tryd.ntmps43
  go_wp2_with fail
  rw [HW.out]
  refine HC.out.1.mono ?_
  rintro r w2 ⟨hb2, (⟨hq, rfl⟩ | ⟨hq, v, rfl, hT⟩)⟩
  · have HB := Lib.hid (And.intro (HC.out.2.1.trans ((hb2.alloc hb2.size (.cells #[.slice none 0 0, .slice none 0 0] 54)).mono HC.out.2.1.size)) (HC.out.2.2.symm.trans hq))
    unfold nil2
    clear hb2 hq
    go_wp2_with fail
    go_ret
    exact ⟨ret_bool HB.out.2.symm, HB.out.1⟩
  · obtain ⟨B1, d1, B2, d2, rfl, _, _⟩ := hT
    have HB := Lib.hid (And.intro (HC.out.2.1.trans ((hb2.alloc hb2.size (.cells #[.slice B1 (widR R g).length d1, .slice B2 T.length d2] 54)).mono HC.out.2.1.size)) (HC.out.2.2.symm.trans hq))
    clear hb2 hq
    go_wp2_with fail
    go_ret
    exact ⟨ret_bool HB.out.2.symm, HB.out.1⟩
end Go.Proofs.YtmldgfplnacecaaDoor
