/-
  Contract: virguleref25.Between.
-/
import Derived.Test.YtflhdfbpafhjlaaOb
namespace Go.Proofs.Ytflhdfbpafhjlaa
open Go.RowKit Go.Shelf Go.Lib

set_option maxHeartbeats 16000000 in
theorem rbetw_any (m : Int) (a b : IT) (q : Bool) (ha : R32 a.r) (w : World) : Calls Try.prog 9 #[.int .i64 m, .agg (itA a), .agg (itA b), .bool q] w fun e w' => e = .returned (.int .i64 (betw m a b q)) ∧ Below w.heap.size w w' := by
  have C := (fun W => rclass_any a.r W ha.1 ha.2)
  rw [← class_eq a.r] at C
  have C := Lib.hid C
  have TB := Lib.hid (two_boxes w (itA a) (itA b) 23)
  obtain ⟨R, hR⟩ : ∃ R, betw m a b q = R := ⟨_, rfl⟩
  rw [hR]
  unfold betw tog endsN at hR
  obtain ⟨ar, aat, asz, af, ax, an, ap⟩ := a
  obtain ⟨br, bat, bsz, bf, bx, bn, bp⟩ := b
  unfold itA at *
  simp only at *
  generalize classR ar = k at C hR
  clear ha
  have HR := Lib.hid hR
  clear hR
  cases bf with
  | false =>
    by_cases h3 : m = 3
    · have d : (m == 3) = true := by simpa using h3
      have d' : (m != 3) = false := by simpa using h3
      have HM := Lib.hid d
      have HD := Lib.hid (rfl : true = true)
      have HK := Lib.hid (rfl : true = true)
      clear h3
      go_enter Try.func9, Try.ntmps9
      go_wp2_with fail
      refine (C.out _).mono ?_
      rintro e w1 ⟨rfl, hb⟩
      have x5 := TB.out.2.1.on hb
      have x6 := TB.out.2.2.on hb
      have g50 : w1.cell? ⟨w.heap.size, 0, none⟩ = some (.int .i32 ar) := x5.cell 0
      have g55 : w1.cell? ⟨w.heap.size, 5, none⟩ = some (.bool an) := x5.cell 5
      have g56 : w1.cell? ⟨w.heap.size, 6, none⟩ = some (.bool ap) := x5.cell 6
      have g64 : w1.cell? ⟨w.heap.size + 1, 4, none⟩ = some (.bool bx) := x6.cell 4
      have g65 : w1.cell? ⟨w.heap.size + 1, 5, none⟩ = some (.bool bn) := x6.cell 5
      have g66 : w1.cell? ⟨w.heap.size + 1, 6, none⟩ = some (.bool bp) := x6.cell 6
      have hb2 := below_on TB.out.1 hb
      clear x5 x6 hb
      cases an with
      | false =>
        cases ap with
        | false =>
          cases q with
          | true =>
            go_wp2_with fail
            go_ret
            exact ⟨by rw [← HR.out]; simp [HM.out], hb2⟩
          | false =>
            cases bx with
            | true =>
              go_wp2_with fail
              go_ret
              exact ⟨by rw [← HR.out]; simp [HM.out], hb2⟩
            | false =>
              by_cases h173 : ar = 173
              · have d : (ar == 173) = true := by simpa using h173
                replace HD := Lib.hid d
                clear h173
                go_wp2_with fail
                go_ret
                exact ⟨by rw [← HR.out]; simp [HM.out, HD.out], hb2⟩
              · have d : (ar == 173) = false := by simpa using h173
                replace HD := Lib.hid d
                clear h173
                go_wp2_with fail
                go_ret
                exact ⟨by rw [← HR.out]; simp [HM.out, HD.out], hb2⟩
        | true =>
          cases bp with
          | false =>
            cases q with
            | true =>
              go_wp2_with fail
              go_ret
              exact ⟨by rw [← HR.out]; simp [HM.out], hb2⟩
            | false =>
              cases bx with
              | true =>
                go_wp2_with fail
                go_ret
                exact ⟨by rw [← HR.out]; simp [HM.out], hb2⟩
              | false =>
                by_cases h173 : ar = 173
                · have d : (ar == 173) = true := by simpa using h173
                  replace HD := Lib.hid d
                  clear h173
                  go_wp2_with fail
                  go_ret
                  exact ⟨by rw [← HR.out]; simp [HM.out, HD.out], hb2⟩
                · have d : (ar == 173) = false := by simpa using h173
                  replace HD := Lib.hid d
                  clear h173
                  go_wp2_with fail
                  go_ret
                  exact ⟨by rw [← HR.out]; simp [HM.out, HD.out], hb2⟩
          | true =>
            rcases (show k = 1 ∨ k = 2 ∨ k = 3 ∨ (k ≠ 1 ∧ k ≠ 2 ∧ k ≠ 3) by omega) with rfl | rfl | rfl | ⟨n1, n2, n3⟩
            ·
              cases q with
              | true =>
                go_wp2_with fail
                go_ret
                exact ⟨by rw [← HR.out]; simp [HM.out], hb2⟩
              | false =>
                cases bx with
                | true =>
                  go_wp2_with fail
                  go_ret
                  exact ⟨by rw [← HR.out]; simp [HM.out], hb2⟩
                | false =>
                  by_cases h173 : ar = 173
                  · have d : (ar == 173) = true := by simpa using h173
                    replace HD := Lib.hid d
                    clear h173
                    go_wp2_with fail
                    go_ret
                    exact ⟨by rw [← HR.out]; simp [HM.out, HD.out], hb2⟩
                  · have d : (ar == 173) = false := by simpa using h173
                    replace HD := Lib.hid d
                    clear h173
                    go_wp2_with fail
                    go_ret
                    exact ⟨by rw [← HR.out]; simp [HM.out, HD.out], hb2⟩
            ·
              cases q with
              | true =>
                go_wp2_with fail
                go_ret
                exact ⟨by rw [← HR.out]; simp [HM.out], hb2⟩
              | false =>
                cases bx with
                | true =>
                  go_wp2_with fail
                  go_ret
                  exact ⟨by rw [← HR.out]; simp [HM.out], hb2⟩
                | false =>
                  by_cases h173 : ar = 173
                  · have d : (ar == 173) = true := by simpa using h173
                    replace HD := Lib.hid d
                    clear h173
                    go_wp2_with fail
                    go_ret
                    exact ⟨by rw [← HR.out]; simp [HM.out, HD.out], hb2⟩
                  · have d : (ar == 173) = false := by simpa using h173
                    replace HD := Lib.hid d
                    clear h173
                    go_wp2_with fail
                    go_ret
                    exact ⟨by rw [← HR.out]; simp [HM.out, HD.out], hb2⟩
            ·
              cases q with
              | true =>
                go_wp2_with fail
                go_ret
                exact ⟨by rw [← HR.out]; simp [HM.out], hb2⟩
              | false =>
                cases bx with
                | true =>
                  go_wp2_with fail
                  go_ret
                  exact ⟨by rw [← HR.out]; simp [HM.out], hb2⟩
                | false =>
                  by_cases h173 : ar = 173
                  · have d : (ar == 173) = true := by simpa using h173
                    replace HD := Lib.hid d
                    clear h173
                    go_wp2_with fail
                    go_ret
                    exact ⟨by rw [← HR.out]; simp [HM.out, HD.out], hb2⟩
                  · have d : (ar == 173) = false := by simpa using h173
                    replace HD := Lib.hid d
                    clear h173
                    go_wp2_with fail
                    go_ret
                    exact ⟨by rw [← HR.out]; simp [HM.out, HD.out], hb2⟩
            · have d1 : (((k : Nat) : Int) != 1) = true := by simp; omega
              have d2 : (((k : Nat) : Int) != 2) = true := by simp; omega
              have d3 : (((k : Nat) : Int) != 3) = true := by simp; omega
              have e1 : ((k == 1) || (k == 2) || (k == 3)) = false := by simp [n1, n2, n3]
              replace HK := Lib.hid e1
              clear n1 n2 n3 e1
              go_wp2_with fail
              go_ret
              exact ⟨by rw [← HR.out]; simp [HM.out, HK.out], hb2⟩
      | true =>
        cases bn with
        | false =>
          cases ap with
          | false =>
            cases q with
            | true =>
              go_wp2_with fail
              go_ret
              exact ⟨by rw [← HR.out]; simp [HM.out], hb2⟩
            | false =>
              cases bx with
              | true =>
                go_wp2_with fail
                go_ret
                exact ⟨by rw [← HR.out]; simp [HM.out], hb2⟩
              | false =>
                by_cases h173 : ar = 173
                · have d : (ar == 173) = true := by simpa using h173
                  replace HD := Lib.hid d
                  clear h173
                  go_wp2_with fail
                  go_ret
                  exact ⟨by rw [← HR.out]; simp [HM.out, HD.out], hb2⟩
                · have d : (ar == 173) = false := by simpa using h173
                  replace HD := Lib.hid d
                  clear h173
                  go_wp2_with fail
                  go_ret
                  exact ⟨by rw [← HR.out]; simp [HM.out, HD.out], hb2⟩
          | true =>
            cases bp with
            | false =>
              cases q with
              | true =>
                go_wp2_with fail
                go_ret
                exact ⟨by rw [← HR.out]; simp [HM.out], hb2⟩
              | false =>
                cases bx with
                | true =>
                  go_wp2_with fail
                  go_ret
                  exact ⟨by rw [← HR.out]; simp [HM.out], hb2⟩
                | false =>
                  by_cases h173 : ar = 173
                  · have d : (ar == 173) = true := by simpa using h173
                    replace HD := Lib.hid d
                    clear h173
                    go_wp2_with fail
                    go_ret
                    exact ⟨by rw [← HR.out]; simp [HM.out, HD.out], hb2⟩
                  · have d : (ar == 173) = false := by simpa using h173
                    replace HD := Lib.hid d
                    clear h173
                    go_wp2_with fail
                    go_ret
                    exact ⟨by rw [← HR.out]; simp [HM.out, HD.out], hb2⟩
            | true =>
              rcases (show k = 1 ∨ k = 2 ∨ k = 3 ∨ (k ≠ 1 ∧ k ≠ 2 ∧ k ≠ 3) by omega) with rfl | rfl | rfl | ⟨n1, n2, n3⟩
              ·
                cases q with
                | true =>
                  go_wp2_with fail
                  go_ret
                  exact ⟨by rw [← HR.out]; simp [HM.out], hb2⟩
                | false =>
                  cases bx with
                  | true =>
                    go_wp2_with fail
                    go_ret
                    exact ⟨by rw [← HR.out]; simp [HM.out], hb2⟩
                  | false =>
                    by_cases h173 : ar = 173
                    · have d : (ar == 173) = true := by simpa using h173
                      replace HD := Lib.hid d
                      clear h173
                      go_wp2_with fail
                      go_ret
                      exact ⟨by rw [← HR.out]; simp [HM.out, HD.out], hb2⟩
                    · have d : (ar == 173) = false := by simpa using h173
                      replace HD := Lib.hid d
                      clear h173
                      go_wp2_with fail
                      go_ret
                      exact ⟨by rw [← HR.out]; simp [HM.out, HD.out], hb2⟩
              ·
                cases q with
                | true =>
                  go_wp2_with fail
                  go_ret
                  exact ⟨by rw [← HR.out]; simp [HM.out], hb2⟩
                | false =>
                  cases bx with
                  | true =>
                    go_wp2_with fail
                    go_ret
                    exact ⟨by rw [← HR.out]; simp [HM.out], hb2⟩
                  | false =>
                    by_cases h173 : ar = 173
                    · have d : (ar == 173) = true := by simpa using h173
                      replace HD := Lib.hid d
                      clear h173
                      go_wp2_with fail
                      go_ret
                      exact ⟨by rw [← HR.out]; simp [HM.out, HD.out], hb2⟩
                    · have d : (ar == 173) = false := by simpa using h173
                      replace HD := Lib.hid d
                      clear h173
                      go_wp2_with fail
                      go_ret
                      exact ⟨by rw [← HR.out]; simp [HM.out, HD.out], hb2⟩
              ·
                cases q with
                | true =>
                  go_wp2_with fail
                  go_ret
                  exact ⟨by rw [← HR.out]; simp [HM.out], hb2⟩
                | false =>
                  cases bx with
                  | true =>
                    go_wp2_with fail
                    go_ret
                    exact ⟨by rw [← HR.out]; simp [HM.out], hb2⟩
                  | false =>
                    by_cases h173 : ar = 173
                    · have d : (ar == 173) = true := by simpa using h173
                      replace HD := Lib.hid d
                      clear h173
                      go_wp2_with fail
                      go_ret
                      exact ⟨by rw [← HR.out]; simp [HM.out, HD.out], hb2⟩
                    · have d : (ar == 173) = false := by simpa using h173
                      replace HD := Lib.hid d
                      clear h173
                      go_wp2_with fail
                      go_ret
                      exact ⟨by rw [← HR.out]; simp [HM.out, HD.out], hb2⟩
              · have d1 : (((k : Nat) : Int) != 1) = true := by simp; omega
                have d2 : (((k : Nat) : Int) != 2) = true := by simp; omega
                have d3 : (((k : Nat) : Int) != 3) = true := by simp; omega
                have e1 : ((k == 1) || (k == 2) || (k == 3)) = false := by simp [n1, n2, n3]
                replace HK := Lib.hid e1
                clear n1 n2 n3 e1
                go_wp2_with fail
                go_ret
                exact ⟨by rw [← HR.out]; simp [HM.out, HK.out], hb2⟩
        | true =>
          go_wp2_with fail
          go_ret
          exact ⟨by rw [← HR.out]; simp [HM.out], hb2⟩
    · have d : (m == 3) = false := by simpa using h3
      have d' : (m != 3) = true := by simpa using h3
      have HM := Lib.hid d
      clear h3
      cases q with
      | false =>
        go_enter Try.func9, Try.ntmps9
        go_wp2_with fail
        go_ret
        exact ⟨by rw [← HR.out]; simp [HM.out], TB.out.1⟩
      | true =>
        go_enter Try.func9, Try.ntmps9
        go_wp2_with fail
        go_ret
        exact ⟨by rw [← HR.out]; simp [HM.out], TB.out.1⟩
  | true =>
    go_enter Try.func9, Try.ntmps9
    go_wp2_with fail
    go_ret
    exact ⟨by rw [← HR.out]; rfl, TB.out.1⟩

end Go.Proofs.Ytflhdfbpafhjlaa
