/-
  Contracts: To, huge, great, isWidth, areWithin.
-/
import Derived.Test.YtadipgkgllcicaaSam
namespace Go.Proofs.Ytadipgkgllcicaa
open Go.RowKit Go.Shelf Go.Lib Go.Maps

set_option maxHeartbeats 4000000 in
set_option maxRecDepth 100000 in
theorem to_any {p : Pk} {v : Value} {w : World} (h : PkV w p v) : Calls Try.prog 20 #[v] w fun r w' => r = .returned v ∧ Below w.heap.size w w' := by
  obtain ⟨hp, A1, c1, A2, c2, A3, c3, A4, c4, rfl, i1, i2, i3, i4⟩ := h
  obtain ⟨px, us, bs, cs, ns⟩ := p
  dsimp only at *
  obtain ⟨n1, hn1⟩ : ∃ n, us.length = n := ⟨_, rfl⟩
  obtain ⟨n2, hn2⟩ : ∃ n, bs.length = n := ⟨_, rfl⟩
  obtain ⟨n3, hn3⟩ : ∃ n, cs.length = n := ⟨_, rfl⟩
  obtain ⟨n4, hn4⟩ : ∃ n, ns.length = n := ⟨_, rfl⟩
  rw [hn1, hn2, hn3, hn4]
  clear i1 i2 i3 i4 hn1 hn2 hn3 hn4
  go_enter Try.func20, Try.ntmps20
  go_wp2_with fail
  refine bodyPost_ret (v := .agg #[.int .i64 px, .slice A1 n1 c1, .slice A2 n2 c2, .slice A3 n3 c3, .slice A4 n4 c4]) (by simp [results, Try.results20, go_sem]) rfl ⟨rfl, ?_⟩
  exact (below_new w _).trans ((below_new _ _).mono (by simp))
def hugeB (p : Pk) : Bool := decide (60 < p.us.length) || (decide (60 < p.bs.length) || (decide (200 < p.cs.length) || decide (200 < p.ns.length)))
set_option maxHeartbeats 4000000 in
set_option maxRecDepth 100000 in
theorem huge_any {p : Pk} {v : Value} {w : World} (h : PkV w p v) : Calls Try.prog 19 #[v] w fun r w' => r = .returned (.bool (hugeB p)) ∧ Below w.heap.size w w' := by
  obtain ⟨hp, A1, c1, A2, c2, A3, c3, A4, c4, rfl, i1, i2, i3, i4⟩ := h
  obtain ⟨px, us, bs, cs, ns⟩ := p
  dsimp only at *
  unfold hugeB
  dsimp only
  have m1 : us.length ≤ 9223372036854775807 := by have := i1.l; have := i1.m; unfold maxLen at this; omega
  have m2 : bs.length ≤ 9223372036854775807 := by have := i2.l; have := i2.m; unfold maxLen at this; omega
  have m3 : cs.length ≤ 9223372036854775807 := by have := i3.l; have := i3.m; unfold maxLen at this; omega
  have m4 : ns.length ≤ 9223372036854775807 := by have := i4.l; have := i4.m; unfold maxLen at this; omega
  clear i1 i2 i3 i4
  generalize us.length = n1 at *
  generalize bs.length = n2 at *
  generalize cs.length = n3 at *
  generalize ns.length = n4 at *
  have hb := Lib.hid (below_new w (.cells #[.int .i64 px, .slice A1 n1 c1, .slice A2 n2 c2, .slice A3 n3 c3, .slice A4 n4 c4] 34))
  by_cases h1 : 60 < n1
  · rw [show decide (60 < n1) = true by simpa using h1]
    have k1 : (60 : Int) < (n1 : Int) := by omega
    go_enter Try.func19, Try.ntmps19
    go_wp2_with fail
    go_ret
    exact ⟨rfl, hb.out⟩
  rw [show decide (60 < n1) = false by simpa using h1]
  have k1 : ¬ (60 : Int) < (n1 : Int) := by omega
  by_cases h2 : 60 < n2
  · rw [show decide (60 < n2) = true by simpa using h2]
    have k2 : (60 : Int) < (n2 : Int) := by omega
    go_enter Try.func19, Try.ntmps19
    go_wp2_with fail
    go_ret
    exact ⟨rfl, hb.out⟩
  rw [show decide (60 < n2) = false by simpa using h2]
  have k2 : ¬ (60 : Int) < (n2 : Int) := by omega
  by_cases h3 : 200 < n3
  · rw [show decide (200 < n3) = true by simpa using h3]
    have k3 : (200 : Int) < (n3 : Int) := by omega
    go_enter Try.func19, Try.ntmps19
    go_wp2_with fail
    go_ret
    exact ⟨rfl, hb.out⟩
  rw [show decide (200 < n3) = false by simpa using h3]
  have k3 : ¬ (200 : Int) < (n3 : Int) := by omega
  by_cases h4 : 200 < n4
  · rw [show decide (200 < n4) = true by simpa using h4]
    have k4 : (200 : Int) < (n4 : Int) := by omega
    go_enter Try.func19, Try.ntmps19
    go_wp2_with fail
    go_ret
    exact ⟨rfl, hb.out⟩
  rw [show decide (200 < n4) = false by simpa using h4]
  have k4 : ¬ (200 : Int) < (n4 : Int) := by omega
  go_enter Try.func19, Try.ntmps19
  go_wp2_with fail
  go_ret
  exact ⟨rfl, hb.out⟩
def longB (R : List (List Int)) : Bool := R.any fun r => decide (70 < r.length)
def greatB (R : List (List Int)) : Bool := longB (R.take 30) || decide (30 < R.length)
theorem longB_take {R : List (List Int)} {k : Nat} {r : List Int} (h : R[k]? = some r) : longB (R.take (k + 1)) = (longB (R.take k) || decide (70 < r.length)) := by
  unfold longB
  rw [List.take_add_one, h, Option.toList_some, List.any_append]
  simp
theorem longB_hit {R : List (List Int)} {k n : Nat} {r : List Int} (h : R[k]? = some r) (hk : k < n) (hr : 70 < r.length) : longB (R.take n) = true := by
  unfold longB
  refine List.any_eq_true.2 ⟨r, List.mem_of_getElem? (i := k) (by rw [List.getElem?_take, if_pos hk]; exact h), by simpa using hr⟩
set_option maxHeartbeats 4000000 in
set_option maxRecDepth 100000 in
theorem great_any (R : List (List Int)) (A : Option Addr) (cap : Nat) (w : World) (hR : RsAt w w.heap.size R A cap) :
    Calls Try.prog 8 #[.slice A R.length cap] w fun r w' => r = .returned (.bool (greatB R)) ∧ w' = w := by
  have hl : R.length ≤ 9223372036854775807 := by have := hR.l; have := hR.m; unfold maxLen at this; omega
  obtain ⟨N, hN⟩ : ∃ N, R.length = N := ⟨_, rfl⟩
  obtain ⟨G, hG⟩ : ∃ G, greatB R = G := ⟨_, rfl⟩
  have H := Lib.hid (And.intro hR (And.intro hN hG))
  rw [hN] at hl ⊢
  rw [hG]
  clear hR hN hG
  go_enter Try.func8, Try.ntmps8
  go_wp2_with fail
  go_loopw [3] (fun i wr => ∃ k : Nat, i = .int .i64 (k : Int) ∧ k ≤ N ∧ k ≤ 30 ∧ longB (R.take k) = false ∧ wr = w) (fun i _ => 30 - (RowKit.intOf i).toNat)
  case atStart => exact ⟨0, rfl, by omega, by omega, rfl, rfl⟩
  case round =>
    obtain ⟨k, rfl, hk, hk30, hno, rfl⟩ := hrel
    by_cases hlt : k < N
    · have i1 : (k : Int) < (N : Int) := by omega
      by_cases h30 : k < 30
      · have i2 : (k : Int) < 30 := by omega
        obtain ⟨r, hr⟩ : ∃ r, R[k]? = some r := ⟨R[k]'(by rw [H.out.2.1]; exact hlt), List.getElem?_eq_getElem _⟩
        obtain ⟨b, o, rfl, hbl, hc⟩ := H.out.1.r (by rintro rfl; simp at hr)
        obtain ⟨A', c', d0, hi, _⟩ := hc k r hr
        have hlr : r.length ≤ 9223372036854775807 := by have := hi.l; have := hi.m; unfold maxLen at this; omega
        have ht := longB_take hr
        rw [hno] at ht
        have hh := fun (n : Nat) (h1 : k < n) (h2 : 70 < r.length) => longB_hit hr h1 h2
        obtain ⟨nr, hnr⟩ : ∃ n, r.length = n := ⟨_, rfl⟩
        rw [hnr] at d0 ht hlr hh
        have HK := Lib.hid (And.intro ht hh)
        clear ht hh hc hi hr hno
        by_cases h70 : 70 < nr
        · have i3 : (70 : Int) < (nr : Int) := by omega
          have : G = true := by
            rw [← H.out.2.2]
            unfold greatB
            rw [HK.out.2 30 h30 h70]
            rfl
          subst this
          go_wp2_with fail
          go_ret
          exact ⟨rfl, rfl⟩
        · have i3 : ¬ (70 : Int) < (nr : Int) := by omega
          have HE := Lib.hid (show longB (R.take (k + 1)) = false by rw [HK.out.1]; simpa using h70)
          go_wp2_with fail
          go_roundw
          case rel => exact ⟨k + 1, by go_num, by omega, by omega, HE.out, trivial⟩
          case measure => simp [RowKit.intOf]; omega
      · have i2 : ¬ (k : Int) < 30 := by omega
        obtain rfl : k = 30 := by omega
        have HE := Lib.hid (show decide (30 < N) = G by
          rw [← H.out.2.2]
          unfold greatB
          rw [hno, H.out.2.1]
          rfl)
        clear hno
        have i4 : (30 : Int) < (N : Int) := by omega
        have : G = true := by rw [← HE.out]; simpa using hlt
        subst this
        go_wp2_with fail
        go_ret
        exact ⟨rfl, rfl⟩
    · obtain rfl : k = N := by omega
      have i1 : ¬ (k : Int) < (k : Int) := by omega
      have i2 : ¬ (30 : Int) < (k : Int) := by omega
      have : G = false := by
        rw [← H.out.2.2]
        unfold greatB
        have e1 : R.take k = R := by rw [← H.out.2.1, List.take_length]
        have e2 : R.take 30 = R := List.take_of_length_le (by rw [H.out.2.1]; exact hk30)
        rw [e1] at hno
        rw [e2, hno, H.out.2.1]
        simp; exact hk30
      subst this
      clear hno
      go_wp2_with fail
      go_ret
      exact ⟨rfl, rfl⟩
def widthB (n : Int) : Bool := decide (1 ≤ n) && decide (n ≤ 64)
set_option maxHeartbeats 4000000 in
set_option maxRecDepth 100000 in
theorem width_any (n : Int) (w : World) : Calls Try.prog 23 #[.int .i64 n] w fun r w' => r = .returned (.bool (widthB n)) ∧ w' = w := by
  unfold widthB
  by_cases h1 : 1 ≤ n
  · rw [show decide (1 ≤ n) = true by simpa using h1]
    generalize hR : decide (n ≤ 64) = R
    go_enter Try.func23, Try.ntmps23
    go_wp2_with fail
    go_ret
    exact ⟨rfl, rfl⟩
  · rw [show decide (1 ≤ n) = false by simpa using h1]
    go_enter Try.func23, Try.ntmps23
    go_wp2_with fail
    go_ret
    exact ⟨rfl, rfl⟩
end Go.Proofs.Ytadipgkgllcicaa
