/-
  Contracts: ranges.Same.
-/
import Derived.Laws.StructEq
import Derived.Test.YtphhdkffnboboaaRg10
namespace Go.Proofs.Ytphhdkffnboboaa
open Go.RowKit Go.Shelf
open Go.Lib

theorem neq74 (a b c d : Int) (w : World) : (binOp .neq 70 (.agg #[.int .i32 a, .int .i32 b]) (.agg #[.int .i32 c, .int .i32 d])).run Try.prog w = .ok (.bool (!(a == c && b == d))) w := by
  have u21 := Try.underlying21
  have a21 := Try.isAgg21
  have z21 := Try.sizeOf21
  have hS : Try.prog.underlying 70 = some (.struct (Try.prog.fieldsOf 70)) := by kernel_rfl
  have hp : Try.prog.stoodInHeld 70 = false := by kernel_rfl
  rw [run_neq_struct, show (10000 : Nat) = 9999 + 1 from rfl, run_equalIn_agg w 9999 70 _ _ hS hp]
  simp only [Program.fieldsOf, Try.underlying70]
  go_simp
  by_cases h1 : a = c <;> by_cases h2 : b = d <;> simp [h1, h2]
theorem guard74 (op : BinOp) (x y : Operand) (xs ys : Array Value) (w : World) : (eqGuard op 70 x y (.agg xs) (.agg ys)).run Try.prog w = .ok () w := run_eqGuard_agg w op 70 x y xs ys (by kernel_rfl)

set_option maxHeartbeats 4000000 in
set_option maxRecDepth 100000 in
theorem same_any2 (A : Option Addr) (cap : Nat) (xs : List Rng) (A' : Option Addr) (cap' : Nat) (ys : List Rng) (w : World) (h : RS w w.heap.size A cap xs) (hF : Fm A cap) (h' : RS w w.heap.size A' cap' ys) (hF' : Fm A' cap') :
    Calls Try.prog 26 #[.slice A xs.length cap, .slice A' ys.length cap'] w fun e w' => e = .returned (.bool (decide (known xs = known ys))) ∧ Below w.heap.size w w' := by
  have C1 := Lib.hid (valid_known A cap xs w h hF)
  have C2 := Lib.hid (fun W (hb : Below w.heap.size w W) => valid_known A' cap' ys W ((h'.below hb).mono hb.size) hF')
  unfold KnownPost at C1 C2
  have hkx : (known xs).length ≤ 9223372036854775807 := by
    have h1 : (known xs).length ≤ xs.length := by unfold known; split <;> simp
    have := h.1; have := h.2.1; unfold maxLen at this; omega
  have hky : (known ys).length ≤ 9223372036854775807 := by
    have h1 : (known ys).length ≤ ys.length := by unfold known; split <;> simp
    have := h'.1; have := h'.2.1; unfold maxLen at this; omega
  generalize xs.length = L at *
  generalize ys.length = L' at *
  generalize known xs = xs at *
  generalize known ys = ys at *
  obtain ⟨n, hn⟩ : ∃ n, xs.length = n := ⟨_, rfl⟩
  obtain ⟨m, hn'⟩ : ∃ m, ys.length = m := ⟨_, rfl⟩
  have HN := Lib.hid hn
  have HN' := Lib.hid hn'
  rw [hn] at hkx C1
  rw [hn'] at hky C2
  clear h hn h' hn' hF hF'
  go_enter Try.func26, Try.ntmps26
  go_wp2_with fail
  refine C1.out.mono ?_
  rintro e w1 ⟨A1, c1, rfl, hR1, _, hb1⟩
  have H := Lib.hid hR1
  clear hR1
  go_wp2_with fail
  refine (C2.out _ hb1).mono ?_
  rintro e w2 ⟨A2, c2, rfl, hR2, _, hb2⟩
  have H' := Lib.hid hR2
  have hb2' := hb1.trans (hb2.mono hb1.size)
  have HR := Lib.hid (H.out.below (hb2.mono hb1.size))
  have HB := Lib.hid hb2'
  clear hR2 H hb1 hb2 hb2'
  by_cases hnm : n = m
  · subst hnm
    go_wp2
    go_loopw [17] (fun i wr => ∃ k q : Nat, i = .int .i64 k ∧ k ≤ n ∧ xs.take k = ys.take k ∧ wr = w2.drewN q) (fun i _ => n - (RowKit.intOf i).toNat)
    case atStart => exact ⟨0, 0, rfl, Nat.zero_le _, rfl, rfl⟩
    case round =>
      obtain ⟨k, q, rfl, hk, hF, rfl⟩ := hrel
      have HF := Lib.hid hF
      clear hF
      by_cases hlt : k < n
      · obtain ⟨x, hx⟩ : ∃ x, xs[k]? = some x := ⟨xs[k]'(by have := HN.out; omega), List.getElem?_eq_getElem _⟩
        obtain ⟨y, hy⟩ : ∃ y, ys[k]? = some y := ⟨ys[k]'(by have := HN'.out; omega), List.getElem?_eq_getElem _⟩
        obtain ⟨b, o, rfl, hbl, hRg⟩ := HR.out.2.2.2 (by intro e; rw [e] at hx; simp at hx)
        obtain ⟨b', o', rfl, hbl', hRg'⟩ := H'.out.2.2.2 (by intro e; rw [e] at hy; simp at hy)
        obtain ⟨q1, q2⟩ := hRg k x hx
        obtain ⟨q3, q4⟩ := hRg' k y hy
        have HS := Lib.hid (take_eq_step xs ys k x y hx hy HF.out)
        have HE := Lib.hid (show xs = ys → x = y from fun e => by rw [e, hy] at hx; injection hx with hx; exact hx.symm)
        clear hRg hx hRg' hy
        obtain ⟨lo, hi⟩ := x
        obtain ⟨lo', hi'⟩ := y
        have i1 : (k : Int) < (n : Int) := by omega
        have i0 : (0 : Int) ≤ (k : Int) := by omega
        have e1 := neq74 lo hi lo' hi'
        have e2 := guard74
        have u21 := Try.underlying21
        by_cases c : lo = lo' ∧ hi = hi'
        · obtain ⟨rfl, rfl⟩ := c
          have HT := Lib.hid (HS.out.2 rfl)
          have hB : (!(lo == lo && hi == hi)) = false := by simp
          rw [hB] at e1
          go_wp2_with fail
          go_quiet (fail)
          go_wp2
          go_roundw
          case rel => exact ⟨k + 1, _, by go_num, by omega, HT.out, rfl⟩
          case measure => simp [RowKit.intOf]; omega
        · have HT := Lib.hid (show decide (xs = ys) = false by simp; intro e; have := HE.out e; simp at this; exact c this)
          have hB : (!(lo == lo' && hi == hi')) = true := by simp; omega
          rw [hB] at e1
          go_wp2_with fail
          go_quiet (fail)
          go_wp2
          go_ret
          exact ⟨by rw [HT.out]; rfl, HB.out.trans ((below_drewN (below_drewN (Below.refl _ _) _) _))⟩
      · have hkn : k = n := by omega
        have HT := Lib.hid (show decide (xs = ys) = true by
          have h := HF.out
          rw [List.take_of_length_le (by have := HN.out; omega), List.take_of_length_le (by have := HN'.out; omega)] at h
          simpa using h)
        subst hkn
        go_wp2
        go_ret
        exact ⟨by rw [HT.out]; rfl, below_drewN HB.out _⟩
  · have HT := Lib.hid (show decide (xs = ys) = false by simp; intro e; rw [e, HN'.out] at HN; exact hnm HN.out.symm)
    have i1 : ¬ (n : Int) = (m : Int) := by omega
    go_wp2
    go_ret
    exact ⟨by rw [HT.out]; rfl, HB.out⟩
end Go.Proofs.Ytphhdkffnboboaa
