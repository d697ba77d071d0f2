/-
  Contracts: Great, To.
-/
import Derived.Test.YtmldgfplnacecaaDoorTbl
import Derived.Test.YtmldgfplnacecaaDoorEqs
namespace Go.Proofs.YtmldgfplnacecaaDoor
open Go.RowKit Go.Shelf Go.Lib Go.Maps Go.Sort


def greatT (R : List (List Int)) (T : List Nat) : Bool := decide (20 < R.length) || decide (20 < T.length) || R.any fun r => decide (60 < r.length)
theorem anyT_take {α : Type} {xs : List α} {k : Nat} {x : α} (p : α → Bool) (h : xs[k]? = some x) : (xs.take (k + 1)).any p = ((xs.take k).any p || p x) := by
  rw [List.take_add_one, h, Option.toList_some, List.any_append]
  simp
set_option maxHeartbeats 4000000 in
set_option maxRecDepth 100000 in
theorem great_tab {R : List (List Int)} {T : List Nat} {v : Value} {w : World} (h : TbV w R T v) : Calls Tryd.prog 31 #[v] w fun r w' => r = .returned (.bool (greatT R T)) ∧ Below w.heap.size w w' := by
  obtain ⟨A, c, A2, c2, rfl, hR, hT⟩ := h
  obtain ⟨W0, hW0⟩ : ∃ W, w.alloc (.cells #[.slice A R.length c, .slice A2 T.length c2] 63) = W := ⟨_, rfl⟩
  have b0 : Below w.heap.size w W0 := by rw [← hW0]; exact below_new _ _
  have z0 : W0.heap.size = w.heap.size + 1 := by rw [← hW0]; simp
  have x0 : Cells W0 w.heap.size 63 #[.slice A R.length c, .slice A2 T.length c2] := by rw [← hW0]; exact cells_new _ _ _
  have n1 : R.length ≤ 9223372036854775807 := by have := hR.l; have := hR.m; unfold maxLen at this; omega
  have n2' : T.length ≤ 9223372036854775807 := by have := hT.l; have := hT.m; unfold maxLen at this; omega
  obtain ⟨X, hX⟩ : ∃ X, greatT R T = X := ⟨_, rfl⟩
  rw [hX]
  have hX1 : 20 < R.length ∨ 20 < T.length → X = true := fun e => by
    rw [← hX]; unfold greatT
    rcases e with e | e <;> simp [e]
  have hX2 : R.length ≤ 20 → T.length ≤ 20 → X = R.any fun r => decide (60 < r.length) := fun e1 e2 => by
    rw [← hX]; unfold greatT
    simp [show ¬ 20 < R.length by omega, show ¬ 20 < T.length by omega]
  obtain ⟨n, hn⟩ : ∃ n, R.length = n := ⟨_, rfl⟩
  obtain ⟨n2, hn2⟩ : ∃ n, T.length = n := ⟨_, rfl⟩
  rw [hn, hn2] at x0 hW0 hX1 hX2 ⊢
  rw [hn] at n1
  rw [hn2] at n2'
  have e0 := x0.cell 0
  have e1 := x0.cell 1
  simp at e0 e1
  have H := Lib.hid (And.intro b0 (And.intro z0 (And.intro x0 (And.intro hR (And.intro hn (And.intro hX1 hX2))))))
  have HW := Lib.hid hW0
  clear b0 z0 x0 hW0 hR hT hn hn2 hX hX1 hX2
  by_cases h1 : 20 < n
  · have i1 : (20 : Int) < n := by omega
    have j1 : decide ((20 : Int) < n) = true := by simpa using i1
    go_enter Tryd.func31, Tryd.ntmps31
    go_wp2_with fail
    rw [HW.out]
    go_ret
    exact ⟨ret_bool (H.out.2.2.2.2.2.1 (.inl h1)).symm, H.out.1⟩
  · have i1 : ¬ (20 : Int) < n := by omega
    have j1 : decide ((20 : Int) < n) = false := by simpa using i1
    by_cases h2 : 20 < n2
    · have i2 : (20 : Int) < n2 := by omega
      have j2 : decide ((20 : Int) < n2) = true := by simpa using i2
      go_enter Tryd.func31, Tryd.ntmps31
      go_wp2_with fail
      rw [HW.out]
      go_ret
      exact ⟨ret_bool (H.out.2.2.2.2.2.1 (.inr h2)).symm, H.out.1⟩
    · have i2 : ¬ (20 : Int) < n2 := by omega
      have j2 : decide ((20 : Int) < n2) = false := by simpa using i2
      have hXX := Lib.hid (H.out.2.2.2.2.2.2 (by omega) (by omega))
      go_enter Tryd.func31, Tryd.ntmps31
      go_wp2_with fail
      rw [HW.out]
      go_loopw [3] (fun i wr => ∃ k : Nat, i = .int .i64 (k : Int) ∧ k ≤ n ∧ ((R.take k).any fun r => decide (60 < r.length)) = false ∧ wr = W0) (fun i _ => n - (RowKit.intOf i).toNat)
      case atStart => exact ⟨0, rfl, by omega, rfl, rfl⟩
      case round =>
        obtain ⟨k, rfl, hk, hno, hw⟩ := hrel
        obtain rfl := hw.symm
        by_cases hlt : k < n
        · have i5 : (k : Int) < (n : Int) := by omega
          obtain ⟨x, hx⟩ : ∃ x, R[k]? = some x := ⟨R[k]'(by rw [H.out.2.2.2.2.1]; exact hlt), List.getElem?_eq_getElem _⟩
          obtain ⟨b, o, rfl, hbl, hc⟩ := H.out.2.2.2.1.r (by rintro rfl; simp at hx)
          obtain ⟨A', c', d0, his, _⟩ := hc k x hx
          have d1 := (H.out.1.cell (p := ⟨b, o + k, none⟩) hbl).trans d0
          have ht := anyT_take (fun r : List Int => decide (60 < r.length)) hx
          have hh : decide (60 < x.length) = true → (R.any fun r => decide (60 < r.length)) = true := fun hp => List.any_eq_true.2 ⟨x, List.mem_of_getElem? hx, hp⟩
          rw [hno] at ht
          have hxl : x.length ≤ 9223372036854775807 := by have := his.l; have := his.m; unfold maxLen at this; omega
          obtain ⟨l, hl⟩ : ∃ l, x.length = l := ⟨_, rfl⟩
          rw [hl] at d1 hxl hh
          have ht : ((R.take (k + 1)).any fun r => decide (60 < r.length)) = (false || decide (60 < l)) := by rw [ht, hl]
          have HK := Lib.hid (And.intro ht hh)
          clear ht hh hno hx hc d0 his hl hw
          by_cases h60 : 60 < l
          · have i6 : (60 : Int) < l := by omega
            go_wp2_with fail
            go_ret
            exact ⟨ret_bool (by rw [hXX.out]; exact (HK.out.2 (by simpa using h60)).symm), H.out.1⟩
          · have i6 : ¬ (60 : Int) < l := by omega
            go_wp2_with fail
            go_roundw
            case rel => exact ⟨k + 1, by go_num, by omega, by rw [HK.out.1]; simpa using h60, trivial⟩
            case measure => simp [RowKit.intOf]; omega
        · obtain rfl : k = n := by omega
          have i5 : ¬ (k : Int) < (k : Int) := by omega
          have e1 : R.take k = R := by rw [← H.out.2.2.2.2.1, List.take_length]
          rw [e1] at hno
          have HB := Lib.hid hno
          clear e1 hno hw
          go_wp2_with fail
          go_ret
          exact ⟨ret_bool (by rw [hXX.out]; exact HB.out.symm), H.out.1⟩
set_option maxHeartbeats 4000000 in
set_option maxRecDepth 100000 in
theorem to_tab (A A2 : Option Addr) (n c n2 c2 : Nat) (w : World) : Calls Tryd.prog 32 #[.agg #[.slice A n c, .slice A2 n2 c2]] w fun r w' => r = .returned (.agg #[.slice A n c, .slice A2 n2 c2]) ∧ Below w.heap.size w w' := by
  go_enter Tryd.func32, Tryd.ntmps32
  go_wp2_with fail
  refine bodyPost_ret (v := .agg #[.slice A n c, .slice A2 n2 c2]) (by simp [results, Tryd.results32, go_sem]) rfl ⟨rfl, ?_⟩
  exact (below_new w _).trans ((below_new _ _).mono (by simp))
end Go.Proofs.YtmldgfplnacecaaDoor
