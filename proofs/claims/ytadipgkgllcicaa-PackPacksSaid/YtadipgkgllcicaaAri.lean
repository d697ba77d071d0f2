/-
  Contracts: areWithin; the document's in.
-/
import Derived.Test.YtadipgkgllcicaaSml
namespace Go.Proofs.Ytadipgkgllcicaa
open Go.RowKit Go.Shelf Go.Lib Go.Maps

def outB (lo hi n : Int) : Bool := decide (n < lo) || decide (hi < n)
set_option maxHeartbeats 4000000 in
set_option maxRecDepth 100000 in
theorem out_any (lo hi n : Int) (p q : Nat) (w : World) (hp : w.cell? ⟨p, 0, none⟩ = some (.int .i64 lo)) (hq : w.cell? ⟨q, 0, none⟩ = some (.int .i64 hi)) :
    Calls Try.prog 32 #[.int .i64 n, .pointer (some ⟨p, 0, none⟩), .pointer (some ⟨q, 0, none⟩)] w fun r w' => r = .returned (.bool (outB lo hi n)) ∧ w' = w := by
  unfold outB
  by_cases h1 : n < lo
  · rw [show decide (n < lo) = true by simpa using h1]
    go_enter Try.func32, Try.ntmps32
    go_wp2_with fail
    go_ret
    exact ⟨rfl, rfl⟩
  · rw [show decide (n < lo) = false by simpa using h1]
    generalize hR : decide (hi < n) = R
    go_enter Try.func32, Try.ntmps32
    go_wp2_with fail
    go_ret
    exact ⟨rfl, rfl⟩
set_option maxHeartbeats 4000000 in
set_option maxRecDepth 100000 in
theorem index_any (lo hi : Int) (p q : Nat) (xs : List Int) (A' : Option Addr) (c' : Nat) (w : World) (hp : w.cell? ⟨p, 0, none⟩ = some (.int .i64 lo)) (hq : w.cell? ⟨q, 0, none⟩ = some (.int .i64 hi)) (hx : IS w w.heap.size xs A' c') :
    Calls Try.prog 38 #[.slice A' xs.length c', .func (.func 32) #[] #[.pointer (some ⟨p, 0, none⟩), .pointer (some ⟨q, 0, none⟩)]] w (IdxOk w (xs.any (outB lo hi))) := by
  have hln : xs.length ≤ 9223372036854775807 := by have := hx.l; have := hx.m; unfold maxLen at this; omega
  obtain ⟨N, hN⟩ : ∃ N, xs.length = N := ⟨_, rfl⟩
  obtain ⟨R, hR⟩ : ∃ R, xs.any (outB lo hi) = R := ⟨_, rfl⟩
  have H := Lib.hid (And.intro hN (And.intro hR (And.intro hp (And.intro hq hx))))
  rw [hN] at hln ⊢
  rw [hR]
  clear hN hR hp hq hx
  go_enter Try.func38, Try.ntmps38
  go_wp2_with fail
  go_loopw [8] (fun i wr => ∃ k : Nat, i = .int .i64 (k : Int) ∧ k ≤ N ∧ (xs.take k).any (outB lo hi) = false ∧ wr = w) (fun i _ => N - (RowKit.intOf i).toNat)
  case atStart => exact ⟨0, rfl, by omega, rfl, rfl⟩
  case round =>
    obtain ⟨k, rfl, hk, hno, rfl⟩ := hrel
    by_cases hlt : k < N
    · have i1 : (k : Int) < (N : Int) := by omega
      obtain ⟨x, hx⟩ : ∃ x, xs[k]? = some x := ⟨xs[k]'(by rw [H.out.1]; exact hlt), List.getElem?_eq_getElem _⟩
      obtain ⟨b, o, rfl, hbl, hc⟩ := H.out.2.2.2.2.r (by rintro rfl; simp at hx)
      have d0 := hc k x hx
      have C := out_any lo hi x p q wr H.out.2.2.1 H.out.2.2.2.1
      have ht := any_take (outB lo hi) hx
      have hh := fun hp => any_hit (p := outB lo hi) hx hp
      rw [hno] at ht
      generalize outB lo hi x = t at *
      have HC := Lib.hid C
      have HK := Lib.hid (And.intro ht hh)
      clear C ht hh hno hx hc
      cases t
      · go_wp2_with fail
        refine HC.out.mono ?_
        rintro r w2 ⟨rfl, e⟩
        obtain rfl := e.symm
        go_wp2_with fail
        go_roundw
        case rel => exact ⟨k + 1, by go_num, by omega, by rw [HK.out.1]; rfl, trivial⟩
        case measure => simp [RowKit.intOf]; omega
      · go_wp2_with fail
        refine HC.out.mono ?_
        rintro r w2 ⟨rfl, e⟩
        obtain rfl := e.symm
        go_wp2_with fail
        go_ret
        have hRt : R = true := by rw [← H.out.2.1]; exact HK.out.2 (by simp)
        exact ⟨_, rfl, nat64 (by omega), by rw [hRt]; simp, Below.refl _ _⟩
    · obtain rfl : k = N := by omega
      have i1 : ¬ (k : Int) < (k : Int) := by omega
      have e1 : xs.take k = xs := by rw [← H.out.1, List.take_length]
      rw [e1] at hno
      have hRf : R = false := by rw [← H.out.2.1]; exact hno
      have HB := Lib.hid hRf
      clear e1 hno hRf
      go_wp2_with fail
      go_ret
      exact ⟨_, rfl, by unfold i64; omega, by rw [HB.out]; rfl, Below.refl _ _⟩
set_option maxHeartbeats 4000000 in
set_option maxRecDepth 100000 in
theorem contains_any (lo hi : Int) (p q : Nat) (xs : List Int) (A' : Option Addr) (c' : Nat) (w : World) (hp : w.cell? ⟨p, 0, none⟩ = some (.int .i64 lo)) (hq : w.cell? ⟨q, 0, none⟩ = some (.int .i64 hi)) (hx : IS w w.heap.size xs A' c') :
    Calls Try.prog 31 #[.slice A' xs.length c', .func (.func 32) #[] #[.pointer (some ⟨p, 0, none⟩), .pointer (some ⟨q, 0, none⟩)]] w fun r w' => r = .returned (.bool (xs.any (outB lo hi))) ∧ Below w.heap.size w w' := by
  have C := Lib.hid (index_any lo hi p q xs A' c' w hp hq hx)
  clear hp hq hx
  generalize xs.any (outB lo hi) = R at *
  obtain ⟨N, hN⟩ : ∃ N, xs.length = N := ⟨_, rfl⟩
  rw [hN] at C ⊢
  clear hN
  go_enter Try.func31, Try.ntmps31
  go_wp2_with fail
  refine C.out.mono ?_
  rintro r w2 ⟨i, rfl, hi, hd, hb⟩
  have H := Lib.hid (And.intro hd hb)
  unfold i64 at hi
  clear hd hb
  go_wp2_with fail
  go_ret
  exact ⟨ret_bool H.out.1, H.out.2⟩
def inB (lo hi : Int) (xs : List Int) : Bool := !xs.any (outB lo hi)
set_option maxHeartbeats 4000000 in
set_option maxRecDepth 100000 in
theorem within_any (lo hi : Int) (xs : List Int) (A' : Option Addr) (c' : Nat) (w : World) (hx : IS w w.heap.size xs A' c') :
    Calls Try.prog 24 #[.slice A' xs.length c', .int .i64 lo, .int .i64 hi] w fun r w' => r = .returned (.bool (inB lo hi xs)) ∧ Below w.heap.size w w' := by
  obtain ⟨W0, hW0⟩ : ∃ W, (w.alloc (.cells #[.int .i64 lo] 3)).alloc (.cells #[.int .i64 hi] 3) = W := ⟨_, rfl⟩
  have b0 : Below w.heap.size w W0 := by rw [← hW0]; exact (below_new w _).trans ((below_new _ _).mono (by simp))
  have x0 : Cells W0 w.heap.size 3 #[.int .i64 lo] := by rw [← hW0]; exact ((below_new _ _).block _ (by simp)).trans (cells_new _ _ _)
  have x1 : Cells W0 (w.heap.size + 1) 3 #[.int .i64 hi] := by
    rw [← hW0]
    have := cells_new (w.alloc (.cells #[.int .i64 lo] 3)) #[.int .i64 hi] 3
    simpa using this
  have C := contains_any lo hi w.heap.size (w.heap.size + 1) xs A' c' W0 (x0.cell 0) (x1.cell 0) (hx.on b0)
  unfold inB
  generalize xs.any (outB lo hi) = R at *
  obtain ⟨N, hN⟩ : ∃ N, xs.length = N := ⟨_, rfl⟩
  rw [hN] at C ⊢
  have H := Lib.hid (And.intro hW0 (And.intro b0 C))
  clear hN hx hW0 b0 x0 x1 C
  go_enter Try.func24, Try.ntmps24
  go_wp2_with fail
  rw [H.out.1]
  refine H.out.2.2.mono ?_
  rintro r w2 ⟨rfl, hb⟩
  have HB := Lib.hid (H.out.2.1.trans (hb.mono H.out.2.1.size))
  clear hb
  cases R <;> (go_wp2_with fail; go_ret; exact ⟨rfl, HB.out⟩)
set_option maxHeartbeats 4000000 in
set_option maxRecDepth 100000 in
theorem refIn_any (lo hi : Int) (xs : List Int) (A' : Option Addr) (c' : Nat) (w : World) (hx : IS w w.heap.size xs A' c') :
    Calls Try.prog 30 #[.slice A' xs.length c', .int .i64 lo, .int .i64 hi] w fun r w' => r = .returned (.bool (inB lo hi xs)) ∧ w' = w := by
  have hln : xs.length ≤ 9223372036854775807 := by have := hx.l; have := hx.m; unfold maxLen at this; omega
  obtain ⟨N, hN⟩ : ∃ N, xs.length = N := ⟨_, rfl⟩
  obtain ⟨R, hR⟩ : ∃ R, inB lo hi xs = R := ⟨_, rfl⟩
  have H := Lib.hid (And.intro hN (And.intro hR hx))
  rw [hN] at hln ⊢
  rw [hR]
  clear hN hR hx
  go_enter Try.func30, Try.ntmps30
  go_wp2_with fail
  go_loopw [7] (fun i wr => ∃ k : Nat, i = .int .i64 (k : Int) ∧ k ≤ N ∧ (xs.take k).any (outB lo hi) = false ∧ wr = w) (fun i _ => N - (RowKit.intOf i).toNat)
  case atStart => exact ⟨0, rfl, by omega, rfl, rfl⟩
  case round =>
    obtain ⟨k, rfl, hk, hno, rfl⟩ := hrel
    by_cases hlt : k < N
    · have i1 : (k : Int) < (N : Int) := by omega
      obtain ⟨x, hx⟩ : ∃ x, xs[k]? = some x := ⟨xs[k]'(by rw [H.out.1]; exact hlt), List.getElem?_eq_getElem _⟩
      obtain ⟨b, o, rfl, hbl, hc⟩ := H.out.2.2.r (by rintro rfl; simp at hx)
      have d0 := hc k x hx
      have ht := any_take (outB lo hi) hx
      have hh := fun hp => any_hit (p := outB lo hi) hx hp
      rw [hno] at ht
      have HK := Lib.hid (And.intro ht hh)
      clear ht hh hno hx hc
      by_cases h1 : x < lo
      · have : R = false := by
          rw [← H.out.2.1]
          unfold inB
          rw [HK.out.2 (by unfold outB; simp [h1])]
          rfl
        subst this
        go_wp2_with fail
        go_ret
        exact ⟨rfl, rfl⟩
      · by_cases h2 : hi < x
        · have : R = false := by
            rw [← H.out.2.1]
            unfold inB
            rw [HK.out.2 (by unfold outB; simp [h2])]
            rfl
          subst this
          go_wp2_with fail
          go_ret
          exact ⟨rfl, rfl⟩
        · have HE := Lib.hid (show (xs.take (k + 1)).any (outB lo hi) = false by rw [HK.out.1]; unfold outB; simp; omega)
          go_wp2_with fail
          go_roundw
          case rel => exact ⟨k + 1, by go_num, by omega, HE.out, trivial⟩
          case measure => simp [RowKit.intOf]; omega
    · obtain rfl : k = N := by omega
      have i1 : ¬ (k : Int) < (k : Int) := by omega
      have e1 : xs.take k = xs := by rw [← H.out.1, List.take_length]
      rw [e1] at hno
      have : R = true := by rw [← H.out.2.1]; unfold inB; rw [hno]; rfl
      subst this
      clear e1 hno
      go_wp2_with fail
      go_ret
      exact ⟨rfl, rfl⟩
theorem inB_iff {lo hi : Int} {xs : List Int} : inB lo hi xs = true ↔ ∀ x ∈ xs, lo ≤ x ∧ x ≤ hi := by
  unfold inB outB
  rw [Bool.not_eq_true', List.any_eq_false]
  simp only [Bool.or_eq_true, decide_eq_true_eq, not_or]
  constructor
  · intro h x hx; have := h x hx; omega
  · intro h x hx; have := h x hx; omega
end Go.Proofs.Ytadipgkgllcicaa
