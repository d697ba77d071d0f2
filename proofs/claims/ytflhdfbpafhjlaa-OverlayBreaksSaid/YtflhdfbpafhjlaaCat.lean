/-
  Contracts: prop.row.at, the closure of prop.Class.
-/
import Derived.Test.YtflhdfbpafhjlaaCrw
import Derived.Test.YtflhdfbpafhjlaaLay
namespace Go.Proofs.Ytflhdfbpafhjlaa
open Go.RowKit Go.Shelf Go.Lib Go.Great

set_option maxHeartbeats 1000000 in
theorem at_any (lo hi : Int) (c : Nat) (r : Int) (w : World) (h0 : 0 ≤ lo) (h1 : lo ≤ r) (h2 : r ≤ 2147483647) :
    Calls Try.prog 25 #[.agg #[.int .i32 lo, .int .i32 hi, .int .i64 (c : Int)], .int .i32 r] w fun e w' => e = .returned (.int .i64 (atRow (lo, hi, c) r : Nat)) ∧ Below w.heap.size w w' := by
  have hb := below_new w (.cells #[.int .i32 lo, .int .i32 hi, .int .i64 (c : Int)] 50)
  have HB := Lib.hid hb
  clear hb
  by_cases c14 : c = 14
  · subst c14
    by_cases cm : (r - lo) % 28 = 0
    · have e : atRow (lo, hi, 14) r = 14 := by unfold atRow; rw [if_neg (by simp [cm])]
      rw [e]
      have d : (((r - lo) % 28 : Int) == 0) = true := by simpa using cm
      have d' : (((r - lo) % 28 : Int) != 0) = false := by simpa using cm
      clear cm e
      go_enter Try.func25, Try.ntmps25
      go_wp2
      go_ret
      exact ⟨rfl, HB.out⟩
    · have e : atRow (lo, hi, 14) r = 15 := by unfold atRow; rw [if_pos ⟨rfl, cm⟩]
      rw [e]
      have d : (((r - lo) % 28 : Int) == 0) = false := by simpa using cm
      have d' : (((r - lo) % 28 : Int) != 0) = true := by simpa using cm
      clear cm e
      go_enter Try.func25, Try.ntmps25
      go_wp2
      go_ret
      exact ⟨rfl, HB.out⟩
  · have e : atRow (lo, hi, c) r = c := by unfold atRow; rw [if_neg (by simp [c14])]
    rw [e]
    have d : (((c : Nat) : Int) == 14) = false := by simp; omega
    have d' : ((c : Nat) == 14) = false := by simpa using c14
    clear e c14
    go_enter Try.func25, Try.ntmps25
    go_wp2
    go_ret
    exact ⟨rfl, HB.out⟩

theorem NR_get (l : List Row) (j : Nat) (x : Row) (h : l[j]? = some x) : (l.flatMap rcell)[j * 3]? = some (.int .i32 x.1) ∧ (l.flatMap rcell)[j * 3 + 1]? = some (.int .i32 x.2.1) ∧ (l.flatMap rcell)[j * 3 + 2]? = some (.int .i64 (x.2.2 : Int)) := by
  induction l generalizing j with
  | nil => simp at h
  | cons y ys ih =>
    have e : (y :: ys).flatMap rcell = .int .i32 y.1 :: .int .i32 y.2.1 :: .int .i64 (y.2.2 : Int) :: ys.flatMap rcell := by simp [rcell]
    rw [e]
    cases j with
    | zero => simp at h; subst h; simp
    | succ j =>
      have := ih j (by simpa using h)
      have e1 : (j + 1) * 3 = j * 3 + 1 + 1 + 1 := by omega
      rw [e1]
      simpa using this
/-- The table in a block of its own. -/
def TabAt (w : World) (g : Nat) : Prop := w.heap[g]? = some (.cells NR 51 (0, 0))
theorem TabAt.cells {w : World} {g : Nat} (h : TabAt w g) {j : Nat} {x : Row} (hx : rowsP[j]? = some x) :
    w.cell? ⟨g, j * 3, none⟩ = some (.int .i32 x.1) ∧ w.cell? ⟨g, j * 3 + 1, none⟩ = some (.int .i32 x.2.1) ∧ w.cell? ⟨g, j * 3 + 2, none⟩ = some (.int .i64 (x.2.2 : Int)) := by
  have h3 := NR_get rowsP j x hx
  have hc := fun k => cell_of_row w g k NR 51 (0, 0) h
  unfold NR at hc
  simp only [List.getElem?_toArray] at hc
  exact ⟨(hc _).trans h3.1, (hc _).trans h3.2.1, (hc _).trans h3.2.2⟩
theorem TabAt.below {w w' : World} {g : Nat} (h : TabAt w g) (hb : Below w.heap.size w w') : TabAt w' g := (hb.block g (Array.getElem?_eq_some_iff.1 h).1).trans h
theorem rows_len : rowsP.length = 140 := by decide +kernel

set_option maxHeartbeats 1000000 in
theorem cls_any (g b : Nat) (r : Int) (i : Nat) (x : Row) (W : World) (hx : rowsP[i]? = some x) (ht : TabAt W g) (hc : W.cell? ⟨b, 0, none⟩ = some (.int .i32 r)) :
    Calls Try.prog 24 #[.int .i64 i, .pointer (some ⟨g, 0, none⟩), .pointer (some ⟨b, 0, none⟩)] W fun e w' => e = .returned (.bool (decide (r ≤ x.2.1))) ∧ ∃ q, w' = W.drewN q := by
  obtain ⟨c1, c2, c3⟩ := ht.cells hx
  have hi : i < 140 := by have := (List.getElem?_eq_some_iff.1 hx).1; rw [rows_len] at this; exact this
  have i0 : (0 : Int) ≤ (i : Int) := by omega
  have i1 : (i : Int) < 140 := by omega
  have e : (⟨g, 0 + i * 3, none⟩ : Addr) = ⟨g, i * 3, none⟩ := by rw [Nat.zero_add]
  obtain ⟨lo, hi', c⟩ := x
  simp only at c1 c2 c3 ⊢
  clear ht hx e
  go_enter Try.func24, Try.ntmps24
  go_wp2
  go_quiet (fail)
  go_wp2
  go_ret
  exact ⟨rfl, _, rfl⟩
end Go.Proofs.Ytflhdfbpafhjlaa
