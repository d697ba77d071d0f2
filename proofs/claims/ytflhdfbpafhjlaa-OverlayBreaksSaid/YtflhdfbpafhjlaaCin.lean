/-
  Contract: virguleref02.In.
-/
import Derived.Test.YtflhdfbpafhjlaaCrg
namespace Go.Proofs.Ytflhdfbpafhjlaa
open Go.RowKit Go.Shelf Go.Lib
theorem hasR_step (xs : List Rng) (k : Nat) (x : Rng) (r : Int) (h : xs[k]? = some x) : hasR (xs.take (k + 1)) r = (hasR (xs.take k) r || (decide (x.1 ≤ r) && decide (r ≤ x.2))) := by
  rw [List.take_add_one, h, hasR_append]
  simp [hasR]
theorem hasR_take (xs : List Rng) (k : Nat) (r : Int) (h : hasR (xs.take k) r = true) : hasR xs r = true := by
  rw [hasR_iff] at *
  obtain ⟨x, hx, h1⟩ := h
  exact ⟨x, List.mem_of_mem_take hx, h1⟩


set_option maxHeartbeats 2000000 in
theorem in_any (A : Option Addr) (cap : Nat) (xs : List Rng) (r : Int) (_hr0 : -2147483648 ≤ r) (_hr1 : r ≤ 2147483647) (w : World) (h : RS w w.heap.size A cap xs) :
    Calls Try.prog 20 #[.slice A xs.length cap, .int .i32 r] w fun e w' => e = .returned (.bool (hasR xs r)) ∧ w' = w := by
  have H := Lib.hid h
  have hm : xs.length ≤ maxLen := by have := h.1; have := h.2.1; omega
  obtain ⟨n, hn⟩ : ∃ n, xs.length = n := ⟨_, rfl⟩
  have HN := Lib.hid hn
  unfold maxLen at hm
  rw [hn] at hm ⊢
  clear h hn
  go_enter Try.func20, Try.ntmps20
  go_wp2
  go_loopw [5] (fun i wr => ∃ k : Nat, i = .int .i64 k ∧ k ≤ n ∧ hasR (xs.take k) r = false ∧ wr = w) (fun i _ => n - (RowKit.intOf i).toNat)
  case atStart => exact ⟨0, rfl, Nat.zero_le _, rfl, rfl⟩
  case round =>
    obtain ⟨k, rfl, hk, hF, rfl⟩ := hrel
    have HF := Lib.hid hF
    clear hF
    by_cases hlt : k < n
    · obtain ⟨x, hx⟩ : ∃ x, xs[k]? = some x := ⟨xs[k]'(by have := HN.out; omega), List.getElem?_eq_getElem _⟩
      obtain ⟨b, o, rfl, hbl, hRg⟩ := H.out.2.2.2 (by intro e; rw [e] at hx; simp at hx)
      obtain ⟨q1, q2⟩ := hRg k x hx
      have hi := H.out.i32 hx
      have HS := Lib.hid (hasR_step xs k x r hx)
      clear hRg hx
      obtain ⟨lo, hi'⟩ := x
      have i1 : (k : Int) < (n : Int) := by omega
      by_cases c1 : lo ≤ r
      · by_cases c2 : r ≤ hi'
        · have HT := Lib.hid (hasR_take xs (k + 1) r (by rw [HS.out]; simp [c1, c2]))
          go_wp2
          go_ret
          exact ⟨by rw [HT.out]; rfl, rfl⟩
        · have d : decide (r ≤ hi') = false := by simpa using c2
          have HT := Lib.hid (show hasR (xs.take (k + 1)) r = false by rw [HS.out, HF.out]; simp [c2])
          go_wp2
          go_roundw
          case rel => exact ⟨k + 1, by go_num, by omega, HT.out, trivial⟩
          case measure => simp [RowKit.intOf]; omega
      · have d : decide (lo ≤ r) = false := by simpa using c1
        have HT := Lib.hid (show hasR (xs.take (k + 1)) r = false by rw [HS.out, HF.out]; simp [c1])
        go_wp2
        go_roundw
        case rel => exact ⟨k + 1, by go_num, by omega, HT.out, trivial⟩
        case measure => simp [RowKit.intOf]; omega
    · have hkn : k = n := by omega
      have HT := Lib.hid (show hasR xs r = false by have h := HF.out; rwa [hkn, ← HN.out, List.take_length] at h)
      subst hkn
      go_wp2
      go_ret
      exact ⟨by rw [HT.out]; rfl, rfl⟩
end Go.Proofs.Ytflhdfbpafhjlaa
