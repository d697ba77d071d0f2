/-
  Contracts: virguleref02.In, (virgulelaw02.Set).Is.
-/
import Derived.Test.YtphhdkffnboboaaGreatDoorRg4
namespace Go.Proofs.YtphhdkffnboboaaGreatDoor
open Go.RowKit Go.Shelf
open Go.Lib

theorem hasR_step (xs : List Rng) (k : Nat) (x : Rng) (r : Int) (h : xs[k]? = some x) : hasR (xs.take (k + 1)) r = (hasR (xs.take k) r || (decide (x.1 ≤ r) && decide (r ≤ x.2))) := by
  rw [List.take_add_one, h, hasR_append]
  simp [hasR]
theorem hasR_take (xs : List Rng) (k : Nat) (r : Int) (h : hasR (xs.take k) r = true) : hasR xs r = true := by
  rw [hasR_iff] at *
  obtain ⟨x, hx, h1⟩ := h
  exact ⟨x, List.mem_of_mem_take hx, h1⟩

theorem take_eq_step (xs ys : List Rng) (k : Nat) (x y : Rng) (hx : xs[k]? = some x) (hy : ys[k]? = some y) (h : xs.take k = ys.take k) : xs.take (k + 1) = ys.take (k + 1) ↔ x = y := by
  rw [List.take_add_one, List.take_add_one, hx, hy, h]
  simp

set_option maxHeartbeats 2000000 in
theorem is_any (A : Option Addr) (cap : Nat) (xs : List Rng) (A' : Option Addr) (cap' : Nat) (ys : List Rng) (w : World) (h : RS w w.heap.size A cap xs) (h' : RS w w.heap.size A' cap' ys) :
    Calls Tryz.prog 10 #[.slice A xs.length cap, .slice A' ys.length cap'] w fun e w' => e = .returned (.bool (decide (xs = ys))) ∧ Below w.heap.size w w' := by
  have H := Lib.hid h
  have H' := Lib.hid h'
  have hm : xs.length ≤ maxLen := by have := h.1; have := h.2.1; omega
  have hm' : ys.length ≤ maxLen := by have := h'.1; have := h'.2.1; omega
  obtain ⟨n, hn⟩ : ∃ n, xs.length = n := ⟨_, rfl⟩
  obtain ⟨m, hn'⟩ : ∃ m, ys.length = m := ⟨_, rfl⟩
  have HN := Lib.hid hn
  have HN' := Lib.hid hn'
  unfold maxLen at hm hm'
  rw [hn] at hm ⊢
  rw [hn'] at hm' ⊢
  clear h hn h' hn'
  by_cases hnm : n = m
  · subst hnm
    go_enter Tryz.func10, Tryz.ntmps10
    go_wp2
    go_loopw [5] (fun i wr => ∃ k q : Nat, i = .int .i64 k ∧ k ≤ n ∧ xs.take k = ys.take k ∧ wr = w.drewN q) (fun i _ => n - (RowKit.intOf i).toNat)
    case atStart => exact ⟨0, 0, rfl, Nat.zero_le _, rfl, rfl⟩
    case round =>
      obtain ⟨k, q, rfl, hk, hF, rfl⟩ := hrel
      have HF := Lib.hid hF
      clear hF
      by_cases hlt : k < n
      · obtain ⟨x, hx⟩ : ∃ x, xs[k]? = some x := ⟨xs[k]'(by have := HN.out; omega), List.getElem?_eq_getElem _⟩
        obtain ⟨y, hy⟩ : ∃ y, ys[k]? = some y := ⟨ys[k]'(by have := HN'.out; omega), List.getElem?_eq_getElem _⟩
        obtain ⟨b, o, rfl, hbl, hRg⟩ := H.out.2.2.2 (by intro e; rw [e] at hx; simp at hx)
        obtain ⟨b', o', rfl, hbl', hRg'⟩ := H'.out.2.2.2 (by intro e; rw [e] at hy; simp at hy)
        obtain ⟨q1, q2⟩ := hRg k x hx
        obtain ⟨q3, q4⟩ := hRg' k y hy
        have HS := Lib.hid (take_eq_step xs ys k x y hx hy HF.out)
        have HE := Lib.hid (show xs = ys → x = y from fun e => by rw [e, hy] at hx; injection hx with hx; exact hx.symm)
        clear hRg hx hRg' hy
        obtain ⟨lo, hi⟩ := x
        obtain ⟨lo', hi'⟩ := y
        have i1 : (k : Int) < (n : Int) := by omega
        have i0 : (0 : Int) ≤ (k : Int) := by omega
        by_cases c1 : lo = lo'
        · subst c1
          by_cases c2 : hi = hi'
          · subst c2
            have HT := Lib.hid (HS.out.2 rfl)
            go_wp2_with fail
            go_quiet (fail)
            go_wp2
            go_roundw
            case rel => exact ⟨k + 1, _, by go_num, by omega, HT.out, rfl⟩
            case measure => simp [RowKit.intOf]; omega
          · have HT := Lib.hid (show decide (xs = ys) = false by simp; intro e; have := HE.out e; simp at this; exact c2 this)
            go_wp2_with fail
            go_quiet (fail)
            go_wp2
            go_ret
            exact ⟨by rw [HT.out]; rfl, below_drewN (below_drewN (Below.refl _ _) _) _⟩
        · have HT := Lib.hid (show decide (xs = ys) = false by simp; intro e; have := HE.out e; simp at this; exact c1 this.1)
          go_wp2_with fail
          go_quiet (fail)
          go_wp2
          go_ret
          exact ⟨by rw [HT.out]; rfl, below_drewN (below_drewN (Below.refl _ _) _) _⟩
      · have hkn : k = n := by omega
        have HT := Lib.hid (show decide (xs = ys) = true by
          have h := HF.out
          rw [List.take_of_length_le (by have := HN.out; omega), List.take_of_length_le (by have := HN'.out; omega)] at h
          simpa using h)
        subst hkn
        go_wp2
        go_ret
        exact ⟨by rw [HT.out]; rfl, below_drewN (Below.refl _ _) _⟩
  · have HT := Lib.hid (show decide (xs = ys) = false by simp; intro e; rw [e, HN'.out] at HN; exact hnm HN.out.symm)
    have i1 : ¬ (n : Int) = (m : Int) := by omega
    go_enter Tryz.func10, Tryz.ntmps10
    go_wp2
    go_ret
    exact ⟨by rw [HT.out]; rfl, Below.refl _ _⟩
end Go.Proofs.YtphhdkffnboboaaGreatDoor
