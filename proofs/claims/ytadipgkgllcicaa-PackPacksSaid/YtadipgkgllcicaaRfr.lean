/-
  Contract: the document's Right of rows.
-/
import Derived.Test.YtadipgkgllcicaaPck
namespace Go.Proofs.Ytadipgkgllcicaa
open Go.RowKit Go.Shelf Go.Lib Go.Maps

theorem inB_take {lo hi : Int} {r : List Int} {k : Nat} {x : Int} (h : r[k]? = some x) : inB lo hi (r.take (k + 1)) = (inB lo hi (r.take k) && (decide (lo ≤ x) && decide (x ≤ hi))) := by
  unfold inB
  rw [any_take _ h]
  unfold outB
  have e1 : decide (lo ≤ x) = !decide (x < lo) := by by_cases q : lo ≤ x <;> simp [q] <;> omega
  have e2 : decide (x ≤ hi) = !decide (hi < x) := by by_cases q : x ≤ hi <;> simp [q] <;> omega
  rw [e1, e2]
  simp
theorem rowsB_less {width : Int} {R : List (List Int)} {k : Nat} (h : rowsB width (R.take k) = false) : rowsB width R = false := by
  unfold rowsB at *
  rw [List.all_eq_false] at *
  obtain ⟨r, hr, h2⟩ := h
  exact ⟨r, List.mem_of_mem_take hr, h2⟩
set_option maxHeartbeats 8000000 in
set_option maxRecDepth 100000 in
theorem refRight_any (width : Int) (_hw : i64 width) (R : List (List Int)) (A : Option Addr) (cap : Nat) (w : World) (hR : RsAt w w.heap.size R A cap) :
    Calls Try.prog 11 #[.int .i64 width, .slice A R.length cap] w fun r w' => r = .returned (.bool (packB width R)) ∧ w' = w := by
  have hl : R.length ≤ 9223372036854775807 := by have := hR.l; have := hR.m; unfold maxLen at this; omega
  obtain ⟨N, hN⟩ : ∃ N, R.length = N := ⟨_, rfl⟩
  obtain ⟨G, hG⟩ : ∃ G, packB width R = G := ⟨_, rfl⟩
  have H := Lib.hid (And.intro hR (And.intro hN hG))
  rw [hN] at hl ⊢
  rw [hG]
  clear hR hN hG
  unfold i64 at _hw
  by_cases q1 : 1 ≤ width
  case neg =>
    obtain rfl : G = false := by rw [← H.out.2.2]; unfold packB widthB; simp [q1]
    go_enter Try.func11, Try.ntmps11
    go_wp2_with fail
    go_loopw [5, 6, 7] (fun o i _ wr => o = .bool false ∧ i = .int .i64 0 ∧ wr = w) (fun _ _ _ _ => 0)
    case atStart => exact ⟨rfl, rfl, rfl⟩
    case round =>
      obtain ⟨rfl, rfl, e⟩ := hrel
      obtain rfl := e
      by_cases z : (0 : Int) < (N : Int)
      · go_wp2_with fail
        go_ret
        exact ⟨rfl, rfl⟩
      · go_wp2_with fail
        go_ret
        exact ⟨rfl, rfl⟩
  by_cases q2 : width ≤ 64
  case neg =>
    obtain rfl : G = false := by rw [← H.out.2.2]; unfold packB widthB; simp [q2]
    go_enter Try.func11, Try.ntmps11
    go_wp2_with fail
    go_loopw [5, 6, 7] (fun o i _ wr => o = .bool false ∧ i = .int .i64 0 ∧ wr = w) (fun _ _ _ _ => 0)
    case atStart => exact ⟨rfl, rfl, rfl⟩
    case round =>
      obtain ⟨rfl, rfl, e⟩ := hrel
      obtain rfl := e
      by_cases z : (0 : Int) < (N : Int)
      · go_wp2_with fail
        go_ret
        exact ⟨rfl, rfl⟩
      · go_wp2_with fail
        go_ret
        exact ⟨rfl, rfl⟩
  by_cases q3 : N ≤ 1000
  case neg =>
    obtain rfl : G = false := by rw [← H.out.2.2]; unfold packB; rw [H.out.2.1]; simp [q3]
    have j3 : (1000 : Int) < (N : Int) := by omega
    go_enter Try.func11, Try.ntmps11
    go_wp2_with fail
    go_loopw [5, 6, 7] (fun o i _ wr => o = .bool false ∧ i = .int .i64 0 ∧ wr = w) (fun _ _ _ _ => 0)
    case atStart => exact ⟨by simp; omega, rfl, rfl⟩
    case round =>
      obtain ⟨rfl, rfl, e⟩ := hrel
      obtain rfl := e
      have z : (0 : Int) < (N : Int) := by omega
      go_wp2_with fail
      go_ret
      exact ⟨rfl, rfl⟩
  have hGr : G = rowsB width R := by rw [← H.out.2.2]; unfold packB widthB; rw [H.out.2.1]; simp [q1, q2, q3]
  have HG := Lib.hid hGr
  clear hGr
  have j3 : ¬ (1000 : Int) < (N : Int) := by omega
  go_enter Try.func11, Try.ntmps11
  go_wp2_with fail
  go_loopw [5, 6, 7] (fun o i _ wr => ∃ (b : Bool) (k : Nat), o = .bool b ∧ i = .int .i64 (k : Int) ∧ k ≤ N ∧ rowsB width (R.take k) = b ∧ wr = w) (fun _ i _ _ => N - (RowKit.intOf i).toNat)
  case atStart => exact ⟨true, 0, rfl, rfl, by omega, rfl, rfl⟩
  case round =>
    obtain ⟨b, k, rfl, rfl, hk, hb, e⟩ := hrel
    obtain rfl := e
    by_cases hlt : k < N
    · have i1 : (k : Int) < (N : Int) := by omega
      cases b
      · obtain rfl : G = false := by rw [HG.out]; exact rowsB_less hb
        clear hb
        go_wp2_with fail
        go_ret
        exact ⟨rfl, rfl⟩
      · obtain ⟨r, hr⟩ : ∃ r, R[k]? = some r := ⟨R[k]'(by rw [H.out.2.1]; exact hlt), List.getElem?_eq_getElem _⟩
        obtain ⟨bb, o, rfl, hbl, hc⟩ := H.out.1.r (by rintro rfl; simp at hr)
        obtain ⟨A', c', d0, hi, _⟩ := hc k r hr
        have hlr : r.length ≤ 9223372036854775807 := by have := hi.l; have := hi.m; unfold maxLen at this; omega
        obtain ⟨n, hn⟩ : ∃ n, r.length = n := ⟨_, rfl⟩
        have ht := rowsB_take (width := width) hr
        rw [hb] at ht
        rw [hn] at d0 hlr
        obtain ⟨e0, he0⟩ : ∃ e, ((n : Int) == width) = e := ⟨_, rfl⟩
        have hrb : rowB width r = (e0 && inB 0 65535 r) := by
          unfold rowB
          rw [hn, ← he0]
          congr 1
        rw [hrb] at ht
        have HK := Lib.hid (And.intro ht (And.intro hi (And.intro hr hn)))
        clear ht hi hr hn hrb hb hc
        go_wp2_with fail
        go_loopw [5, 7] (fun o t ws => ∃ (b : Bool) (j : Nat), o = .bool b ∧ t = .int .i64 (j : Int) ∧ j ≤ n ∧ (e0 && inB 0 65535 (r.take j)) = b ∧ ws = wr) (fun _ t _ => n - (RowKit.intOf t).toNat)
        case atStart => exact ⟨e0, 0, rfl, rfl, by omega, by simp [inB], rfl⟩
        case round =>
          obtain ⟨b, j, rfl, rfl, hj, hb, e⟩ := hrel
          obtain rfl := e
          by_cases hlt2 : j < n
          · have i2 : (j : Int) < (n : Int) := by omega
            obtain ⟨x, hx⟩ := list_at (xs := r) (i := j) (by rw [HK.out.2.2.2]; exact hlt2)
            have ht2 := inB_take (lo := 0) (hi := 65535) hx
            have ht3 : (e0 && inB 0 65535 (r.take (j + 1))) = (b && (decide (0 ≤ x) && decide (x ≤ 65535))) := by rw [ht2, ← Bool.and_assoc, hb]
            obtain ⟨b2, o2, rfl, hbl2, hc2⟩ := HK.out.2.1.r (by rintro rfl; simp at hx)
            have dx := hc2 j x hx
            have HT := Lib.hid ht3
            clear ht2 ht3 hb hx hc2
            cases b
            · go_wp2_with fail
              go_roundw
              case rel => exact ⟨false, j + 1, rfl, by go_num, by omega, by rw [HT.out]; rfl, trivial⟩
              case measure => simp [RowKit.intOf]; omega
            · by_cases z1 : 0 ≤ x
              · by_cases z2 : x ≤ 65535
                · go_wp2_with fail
                  go_roundw
                  case rel => exact ⟨true, j + 1, by simp, by go_num, by omega, by rw [HT.out]; simp [z1, z2], trivial⟩
                  case measure => simp [RowKit.intOf]; omega
                · go_wp2_with fail
                  go_roundw
                  case rel => exact ⟨false, j + 1, by simp, by go_num, by omega, by rw [HT.out]; simp [z1, z2], trivial⟩
                  case measure => simp [RowKit.intOf]; omega
              · go_wp2_with fail
                go_roundw
                case rel => exact ⟨false, j + 1, rfl, by go_num, by omega, by rw [HT.out]; simp [z1], trivial⟩
                case measure => simp [RowKit.intOf]; omega
          · obtain rfl : j = n := by omega
            have i2 : ¬ (j : Int) < (j : Int) := by omega
            have e1 : r.take j = r := by rw [← HK.out.2.2.2, List.take_length]
            rw [e1] at hb
            have HB := Lib.hid hb
            clear hb e1
            go_wp2_with fail
            go_roundw
            case rel => exact ⟨b, k + 1, rfl, by go_num, by omega, by rw [HK.out.1, HB.out]; rfl, trivial⟩
            case measure => simp [RowKit.intOf]; omega
    · obtain rfl : k = N := by omega
      have i1 : ¬ (k : Int) < (k : Int) := by omega
      have e1 : R.take k = R := by rw [← H.out.2.1, List.take_length]
      rw [e1] at hb
      obtain rfl : G = b := by rw [HG.out, hb]
      clear hb e1
      go_wp2_with fail
      go_ret
      exact ⟨rfl, rfl⟩
end Go.Proofs.Ytadipgkgllcicaa
