/-
  Contracts: Ints.Is.
-/
import Derived.Test.YtflhdfbpafhjlaaBase
namespace Go.Proofs.Ytflhdfbpafhjlaa
open Go.RowKit Go.Shelf Go.Lib Go.Maps

set_option maxHeartbeats 4000000 in
set_option maxRecDepth 100000 in
theorem ints_is (xs ys : List Int) (A A' : Option Addr) (cap cap' : Nat) (w : World) (hx : IS w w.heap.size xs A cap) (hy : IS w w.heap.size ys A' cap') :
    Calls Try.prog 14 #[.slice A xs.length cap, .slice A' ys.length cap'] w fun r w' => r = .returned (.bool (decide (xs = ys))) ∧ Below w.heap.size w w' := by
  have hl1 : xs.length ≤ 9223372036854775807 := by have := hx.l; have := hx.m; unfold maxLen at this; omega
  obtain ⟨R, hR⟩ : ∃ R, decide (xs = ys) = R := ⟨_, rfl⟩
  obtain ⟨N, hN⟩ : ∃ N, xs.length = N := ⟨_, rfl⟩
  obtain ⟨M, hM⟩ : ∃ M, ys.length = M := ⟨_, rfl⟩
  rw [hN] at hl1
  rw [hR, hN, hM]
  have HH := Lib.hid (And.intro hx (And.intro hy (And.intro hR (And.intro hN hM))))
  clear hx hy hR hN hM
  by_cases hlen : N = M
  · subst hlen
    go_enter Try.func14, Try.ntmps14
    go_wp2_with fail
    go_loopw [5] (fun i wr => ∃ k : Nat, i = .int .i64 (k : Int) ∧ k ≤ N ∧ xs.take k = ys.take k ∧ Below w.heap.size w wr) (fun i _ => N - (RowKit.intOf i).toNat)
    case atStart => exact ⟨0, rfl, by omega, by simp, Below.refl _ _⟩
    case round =>
      obtain ⟨k, rfl, hk, htk, hb⟩ := hrel
      by_cases hlt : k < N
      · have i1 : (k : Int) < (N : Int) := by omega
        obtain ⟨x, hx⟩ : ∃ x, xs[k]? = some x := ⟨xs[k]'(by rw [HH.out.2.2.2.1]; exact hlt), List.getElem?_eq_getElem _⟩
        obtain ⟨y, hy⟩ : ∃ y, ys[k]? = some y := ⟨ys[k]'(by rw [HH.out.2.2.2.2]; exact hlt), List.getElem?_eq_getElem _⟩
        obtain ⟨b, o, rfl, hbl, hc⟩ := HH.out.1.r (by rintro rfl; simp at hx)
        obtain ⟨b', o', rfl, hbl', hc'⟩ := HH.out.2.1.r (by rintro rfl; simp at hy)
        have d0 : wr.cell? ⟨b, o + k, none⟩ = some (.int .i64 x) := (hb.cell (p := ⟨b, o + k, none⟩) hbl).trans (hc k x hx)
        have d1 : wr.cell? ⟨b', o' + k, none⟩ = some (.int .i64 y) := (hb.cell (p := ⟨b', o' + k, none⟩) hbl').trans (hc' k y hy)
        have HK := Lib.hid (And.intro htk (And.intro hb (And.intro hx hy)))
        clear htk hb hc hc' hx hy
        by_cases he : x = y
        · have hq : (x == y) = true := by simpa using he
          have HE := Lib.hid he
          clear he
          go_wp2_with fail
          go_region
          go_wp2_with fail
          go_roundw
          case rel => exact ⟨k + 1, by go_num, by omega, take_eq_snoc HK.out.1 HK.out.2.2.1 HK.out.2.2.2 HE.out, HK.out.2.1.drew⟩
          case measure => simp [RowKit.intOf]; omega
        · have hq : (x == y) = false := by simpa using he
          have : R = false := by
            rw [← HH.out.2.2.1]
            simp only [decide_eq_false_iff_not]
            intro e
            have h1 := HK.out.2.2.1
            rw [e, HK.out.2.2.2] at h1
            injection h1 with h1
            exact he h1.symm
          subst this
          clear he
          go_wp2_with fail
          go_region
          go_wp2_with fail
          go_ret
          exact ⟨rfl, HK.out.2.1.drew⟩
      · obtain rfl : k = N := by omega
        have i1 : ¬ (k : Int) < (k : Int) := by omega
        have : R = true := by
          rw [← HH.out.2.2.1]
          have e1 : xs.take k = xs := by rw [← HH.out.2.2.2.1, List.take_length]
          have e2 : ys.take k = ys := by rw [← HH.out.2.2.2.2, List.take_length]
          rw [e1, e2] at htk
          simp [htk]
        subst this
        have HB := Lib.hid hb
        clear hb htk
        go_wp2_with fail
        go_ret
        exact ⟨rfl, HB.out⟩
  · have hq : ((N : Int) == (M : Int)) = false := by simp; omega
    have : R = false := by
      rw [← HH.out.2.2.1]
      simp only [decide_eq_false_iff_not]
      intro e
      have := HH.out.2.2.2
      rw [e] at this
      omega
    subst this
    go_enter Try.func14, Try.ntmps14
    go_wp2_with fail
    go_ret
    exact ⟨rfl, Below.refl _ _⟩
end Go.Proofs.Ytflhdfbpafhjlaa
