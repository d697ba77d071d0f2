/-
  Contract: slices.Max.
-/
import Derived.Test.YtmldgfplnacecaaDoorArr
namespace Go.Proofs.YtmldgfplnacecaaDoor
open Go.RowKit Go.Shelf Go.Lib Go.Maps Go.Sort

/-- The greatest of a list's first k. -/
def maxP (l : List Int) (k : Nat) : Int := (l.take k).foldl max (l.headD 0)
def maxL (l : List Int) : Int := maxP l l.length
theorem maxP_one {l : List Int} {x : Int} (h : l[0]? = some x) : maxP l 1 = x := by
  cases l with
  | nil => simp at h
  | cons y r => simp at h; subst h; simp [maxP]
theorem maxP_step {l : List Int} {k : Nat} {x : Int} (h : l[k]? = some x) : maxP l (k + 1) = max (maxP l k) x := by
  unfold maxP
  rw [List.take_add_one, h, Option.toList_some, List.foldl_append]
  rfl
theorem maxP_ge {l : List Int} : ∀ k, k ≤ l.length → ∀ x ∈ l.take k, x ≤ maxP l k
  | 0, _, x, hx => by simp at hx
  | k + 1, hk, x, hx => by
    have e : l[k]? = some (l[k]'(by omega)) := List.getElem?_eq_getElem _
    rw [maxP_step e]
    rw [List.take_add_one, e, Option.toList_some, List.mem_append] at hx
    rcases hx with hx | hx
    · exact Int.le_trans (maxP_ge (l := l) k (by omega) x hx) (Int.le_max_left _ _)
    · simp only [List.mem_singleton] at hx; rw [hx]; exact Int.le_max_right _ _
theorem maxP_mem {l : List Int} : ∀ k, 1 ≤ k → k ≤ l.length → maxP l k ∈ l
  | 1, _, hk => by
    have e : l[0]? = some (l[0]'(by omega)) := List.getElem?_eq_getElem _
    rw [maxP_one e]; exact List.getElem_mem _
  | k + 2, _, hk => by
    have e : l[k + 1]? = some (l[k + 1]'(by omega)) := List.getElem?_eq_getElem _
    rw [maxP_step e]
    have h1 := maxP_mem (l := l) (k + 1) (by omega) (by omega)
    rcases Int.le_total (maxP l (k + 1)) (l[k + 1]'(by omega)) with h | h
    · rw [Int.max_eq_right h]; exact List.getElem_mem _
    · rw [Int.max_eq_left h]; exact h1
set_option maxHeartbeats 4000000 in
set_option maxRecDepth 100000 in
theorem max_any (l : List Int) (A : Option Addr) (cap : Nat) (w : World) (h : IS w w.heap.size l A cap) (hl : 1 ≤ l.length) :
    Calls Tryd.prog 70 #[.slice A l.length cap] w fun r w' => r = .returned (.int .i64 (maxL l)) ∧ Below w.heap.size w w' := by
  have h63 : l.length ≤ 9223372036854775807 := by have := h.l; have := h.m; unfold maxLen at this; omega
  obtain ⟨N, hN⟩ : ∃ N, l.length = N := ⟨_, rfl⟩
  obtain ⟨y, hy⟩ := list_at (xs := l) (i := 0) (by omega)
  obtain ⟨b, o, rfl, hbl, hc⟩ := h.r (by rintro rfl; simp at hy)
  have d0 := hc 0 y hy
  rw [Nat.add_zero] at d0
  have h1 := maxP_one hy
  have H := Lib.hid (And.intro h (And.intro hN (And.intro hc h1)))
  unfold maxL
  rw [hN] at h63 hl ⊢
  have j1 : ¬ (N : Int) < 1 := by omega
  have j2 : (0 : Int) < (N : Int) := by omega
  clear h hN hc h1 hy
  go_enter Tryd.func70, Tryd.ntmps70
  go_wp2_with fail
  clear d0
  go_loopw [3, 4] (fun m i wr => ∃ k : Nat, i = .int .i64 (k : Int) ∧ 1 ≤ k ∧ k ≤ N ∧ m = .int .i64 (maxP l k) ∧ wr = w) (fun _ i _ => N - (RowKit.intOf i).toNat)
  case atStart => exact ⟨1, rfl, by omega, by omega, by rw [H.out.2.2.2], rfl⟩
  case round =>
    obtain ⟨k, rfl, hk1, hk, rfl, rfl⟩ := hrel
    by_cases hlt : k < N
    · have i1 : (k : Int) < (N : Int) := by omega
      obtain ⟨x, hx⟩ := list_at (xs := l) (i := k) (by rw [H.out.2.1]; exact hlt)
      have d1 := H.out.2.2.1 k x hx
      have hst := maxP_step hx
      have HS := Lib.hid hst
      clear hst hx
      go_wp2_with fail
      go_roundw
      case rel => exact ⟨k + 1, by go_num, by omega, by omega, by rw [HS.out], trivial⟩
      case measure => simp [RowKit.intOf]; omega
    · obtain rfl : k = N := by omega
      have i1 : ¬ (k : Int) < (k : Int) := by omega
      go_wp2_with fail
      go_ret
      exact ⟨rfl, Below.refl _ _⟩
end Go.Proofs.YtmldgfplnacecaaDoor
