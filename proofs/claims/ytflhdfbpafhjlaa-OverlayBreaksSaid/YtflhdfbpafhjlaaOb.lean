/-
  Items; contracts of overlay: endsLine, together, Between; of the document's side: Between; of the laws': To, awake.
-/
import Derived.Test.YtflhdfbpafhjlaaCrc
namespace Go.Proofs.Ytflhdfbpafhjlaa
open Go.RowKit Go.Shelf Go.Lib

/-- An item. -/
structure IT where
  r : Int
  at_ : Int
  sz : Int
  f : Bool
  x : Bool
  n : Bool
  p : Bool
def itA (i : IT) : Array Value := #[.int .i32 i.r, .int .i64 i.at_, .int .i64 i.sz, .bool i.f, .bool i.x, .bool i.n, .bool i.p]
def R32 (r : Int) : Prop := -2147483648 ≤ r ∧ r ≤ 2147483647
def endsN (r : Int) : Bool := (classR r == 1) || (classR r == 2) || (classR r == 3)
def tog (a b : IT) : Bool := (a.n && b.n) || ((a.p && b.p) && !endsN a.r)
def betw (m : Int) (a b : IT) (q : Bool) : Int :=
  bif b.f then 2 else bif m == 3 then (bif tog a b then -1 else bif q then 1 else bif b.x || a.r == 173 then 3 else -1) else bif q then 1 else -1
theorem below_on {w W W' : World} (h1 : Below w.heap.size w W) (h2 : Below W.heap.size W W') : Below w.heap.size w W' := h1.trans (h2.mono h1.size)

set_option maxHeartbeats 1000000 in
theorem ends_any (r : Int) (hr : R32 r) (w : World) : Calls Try.prog 19 #[.int .i32 r] w fun e w' => e = .returned (.bool (endsN r)) ∧ Below w.heap.size w w' := by
  have C := Lib.hid (fun W => class_any r W hr.1 hr.2)
  unfold endsN
  generalize classR r = k at C ⊢
  obtain ⟨E, hE⟩ : ∃ E, ((k == 1) || (k == 2) || (k == 3)) = E := ⟨_, rfl⟩
  rw [hE]
  rcases (show k = 1 ∨ k = 2 ∨ k = 3 ∨ (k ≠ 1 ∧ k ≠ 2 ∧ k ≠ 3) by omega) with rfl | rfl | rfl | ⟨n1, n2, n3⟩
  case inr.inr.inr =>
    have d1 : (((k : Nat) : Int) == 1) = false := by simp; omega
    have d2 : (((k : Nat) : Int) == 2) = false := by simp; omega
    have d3 : (((k : Nat) : Int) == 3) = false := by simp; omega
    have hE : E = false := by rw [← hE]; simp [n1, n2, n3]
    subst hE
    clear n1 n2 n3
    go_enter Try.func19, Try.ntmps19
    go_wp2_with fail
    refine (C.out _).mono ?_
    rintro e w1 ⟨rfl, hb⟩
    go_wp2_with fail
    go_ret
    exact ⟨rfl, hb⟩
  all_goals
    subst hE
    go_enter Try.func19, Try.ntmps19
    go_wp2_with fail
    refine (C.out _).mono ?_
    rintro e w1 ⟨rfl, hb⟩
    go_wp2_with fail
    go_ret
    exact ⟨rfl, hb⟩

/-- Two boxes. -/
theorem two_boxes (w : World) (A B : Array Value) (t : Nat) : Below w.heap.size w ((w.alloc (.cells A t)).alloc (.cells B t)) ∧ Cells ((w.alloc (.cells A t)).alloc (.cells B t)) w.heap.size t A ∧ Cells ((w.alloc (.cells A t)).alloc (.cells B t)) (w.heap.size + 1) t B := by
  have b1 := below_new w (.cells A t)
  have b2 := below_new (w.alloc (.cells A t)) (.cells B t)
  have hs : (w.alloc (.cells A t)).heap.size = w.heap.size + 1 := by simp
  have c2 := cells_new (w.alloc (.cells A t)) B t
  rw [hs] at c2
  exact ⟨b1.trans (b2.mono b1.size), (cells_new w A t).on b2, c2⟩

set_option maxHeartbeats 4000000 in
theorem tog_any (a b : IT) (ha : R32 a.r) (w : World) : Calls Try.prog 16 #[.agg (itA a), .agg (itA b)] w fun e w' => e = .returned (.bool (tog a b)) ∧ Below w.heap.size w w' := by
  have C := Lib.hid (fun W => ends_any a.r ha W)
  have TB := Lib.hid (two_boxes w (itA a) (itA b) 26).1
  obtain ⟨ar, aat, asz, af, ax, an, ap⟩ := a
  obtain ⟨br, bat, bsz, bf, bx, bn, bp⟩ := b
  unfold itA at *
  unfold tog
  simp only at *
  generalize endsN ar = E at C ⊢
  clear ha
  cases an with
  | false =>
    cases ap with
    | false =>
      go_enter Try.func16, Try.ntmps16
      go_wp2_with fail
      go_ret
      exact ⟨rfl, TB.out⟩
    | true =>
      cases bp with
      | false =>
        go_enter Try.func16, Try.ntmps16
        go_wp2_with fail
        go_ret
        exact ⟨rfl, TB.out⟩
      | true =>
        go_enter Try.func16, Try.ntmps16
        go_wp2_with fail
        refine (C.out _).mono ?_
        rintro e w1 ⟨rfl, hb⟩
        go_wp2_with fail
        go_ret
        exact ⟨rfl, below_on TB.out hb⟩
  | true =>
    cases bn with
    | false =>
      cases ap with
      | false =>
        go_enter Try.func16, Try.ntmps16
        go_wp2_with fail
        go_ret
        exact ⟨rfl, TB.out⟩
      | true =>
        cases bp with
        | false =>
          go_enter Try.func16, Try.ntmps16
          go_wp2_with fail
          go_ret
          exact ⟨rfl, TB.out⟩
        | true =>
          go_enter Try.func16, Try.ntmps16
          go_wp2_with fail
          refine (C.out _).mono ?_
          rintro e w1 ⟨rfl, hb⟩
          go_wp2_with fail
          go_ret
          exact ⟨rfl, below_on TB.out hb⟩
    | true =>
      go_enter Try.func16, Try.ntmps16
      go_wp2_with fail
      go_ret
      exact ⟨rfl, TB.out⟩

set_option maxHeartbeats 8000000 in
theorem betw_any (m : Int) (a b : IT) (q : Bool) (ha : R32 a.r) (w : World) : Calls Try.prog 7 #[.int .i64 m, .agg (itA a), .agg (itA b), .bool q] w fun e w' => e = .returned (.int .i64 (betw m a b q)) ∧ Below w.heap.size w w' := by
  have C := Lib.hid (fun W => tog_any a b ha W)
  have TB := Lib.hid (two_boxes w (itA a) (itA b) 26)
  obtain ⟨R, hR⟩ : ∃ R, betw m a b q = R := ⟨_, rfl⟩
  rw [hR]
  unfold betw at hR
  generalize tog a b = T at C hR
  obtain ⟨ar, aat, asz, af, ax, an, ap⟩ := a
  obtain ⟨br, bat, bsz, bf, bx, bn, bp⟩ := b
  unfold itA at *
  simp only at *
  clear ha
  have HR := Lib.hid hR
  clear hR
  cases bf with
  | false =>
    by_cases h3 : m = 3
    · have d : (m == 3) = true := by simpa using h3
      have HM := Lib.hid d
      clear h3
      cases T with
      | false =>
        cases q with
        | false =>
          go_enter Try.func7, Try.ntmps7
          go_wp2_with fail
          refine (C.out _).mono ?_
          rintro e w1 ⟨rfl, hb⟩
          have x5 := TB.out.2.1.on hb
          have x6 := TB.out.2.2.on hb
          have g5 : w1.cell? ⟨w.heap.size, 0, none⟩ = some (.int .i32 ar) := x5.cell 0
          have g6 : w1.cell? ⟨w.heap.size + 1, 4, none⟩ = some (.bool bx) := x6.cell 4
          have hb2 := below_on TB.out.1 hb
          clear x5 x6 hb
          cases bx with
          | true =>
            go_wp2_with fail
            go_ret
            exact ⟨by rw [← HR.out]; simp [HM.out], hb2⟩
          | false =>
            by_cases h173 : ar = 173
            · have d : (ar == 173) = true := by simpa using h173
              have HD := Lib.hid d
              clear h173
              go_wp2_with fail
              go_ret
              exact ⟨by rw [← HR.out]; simp [HM.out, HD.out], hb2⟩
            · have d : (ar == 173) = false := by simpa using h173
              have HD := Lib.hid d
              clear h173
              go_wp2_with fail
              go_ret
              exact ⟨by rw [← HR.out]; simp [HM.out, HD.out], hb2⟩
        | true =>
          go_enter Try.func7, Try.ntmps7
          go_wp2_with fail
          refine (C.out _).mono ?_
          rintro e w1 ⟨rfl, hb⟩
          go_wp2_with fail
          go_ret
          exact ⟨by rw [← HR.out]; first | rfl | simp [HM.out], below_on TB.out.1 hb⟩
      | true =>
        go_enter Try.func7, Try.ntmps7
        go_wp2_with fail
        refine (C.out _).mono ?_
        rintro e w1 ⟨rfl, hb⟩
        go_wp2_with fail
        go_ret
        exact ⟨by rw [← HR.out]; first | rfl | simp [HM.out], below_on TB.out.1 hb⟩
    · have d : (m == 3) = false := by simpa using h3
      have HM := Lib.hid d
      clear h3
      cases q with
      | false =>
        go_enter Try.func7, Try.ntmps7
        go_wp2_with fail
        go_ret
        exact ⟨by rw [← HR.out]; first | rfl | simp [HM.out], TB.out.1⟩
      | true =>
        go_enter Try.func7, Try.ntmps7
        go_wp2_with fail
        go_ret
        exact ⟨by rw [← HR.out]; first | rfl | simp [HM.out], TB.out.1⟩
  | true =>
    have HM := Lib.hid (rfl : true = true)
    go_enter Try.func7, Try.ntmps7
    go_wp2_with fail
    go_ret
    exact ⟨by rw [← HR.out]; first | rfl | simp [HM.out], TB.out.1⟩

end Go.Proofs.Ytflhdfbpafhjlaa
