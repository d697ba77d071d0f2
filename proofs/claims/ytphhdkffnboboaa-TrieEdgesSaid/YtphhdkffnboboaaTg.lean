/-
  Contracts: virguleref03.Get; the law's own great and may.
-/
import Derived.Test.YtphhdkffnboboaaTaw
import Derived.Test.YtphhdkffnboboaaInn
namespace Go.Proofs.Ytphhdkffnboboaa
open Go.RowKit Go.Shelf
open Go.Lib Go.Great Go.Maps

/-- More than is asked of. -/
def greatE (es : List En) : Bool := (es.take 12).any (fun e => decide (12 < e.xs.length)) || decide (12 < es.length)
theorem take_any_snoc {p : En → Bool} (es : List En) (k : Nat) (e : En) (h : es[k]? = some e) : (es.take (k + 1)).any p = ((es.take k).any p || p e) := by
  rw [List.take_add_one, h]
  simp

set_option maxHeartbeats 4000000 in
set_option maxRecDepth 100000 in
theorem great_any (A : Option Addr) (cap : Nat) (es : List En) (w : World) (h : ES w w.heap.size A cap es) : Calls Try.prog 13 #[.slice A es.length cap] w fun e w' => e = .returned (.bool (greatE es)) ∧ w' = w := by
  have H := Lib.hid h
  have hm : es.length ≤ maxLen := by have := h.1; have := h.2.1; omega
  unfold maxLen at hm
  obtain ⟨n, hn⟩ : ∃ n, es.length = n := ⟨_, rfl⟩
  have HN := Lib.hid hn
  obtain ⟨R, hR⟩ : ∃ R, R = greatE es := ⟨_, rfl⟩
  have HR := Lib.hid hR
  rw [← hR, hn]
  rw [hn] at hm
  clear h hn hR
  go_enter Try.func13, Try.ntmps13
  go_wp2_with fail
  go_loopw [3] (fun i wr => ∃ k : Nat, i = .int .i64 (k : Int) ∧ k ≤ n ∧ k ≤ 12 ∧ wr = w ∧ (es.take k).any (fun e => decide (12 < e.xs.length)) = false) (fun i _ => n - (RowKit.intOf i).toNat)
  case atStart => exact ⟨0, rfl, Nat.zero_le _, Nat.zero_le _, rfl, rfl⟩
  case round =>
    obtain ⟨k, rfl, hk, hk2, rfl, hany⟩ := hrel
    have HA := Lib.hid hany
    clear hany
    by_cases hlt : k < n ∧ k < 12
    · obtain ⟨x, hx⟩ : ∃ x, es[k]? = some x := ⟨es[k]'(by rw [HN.out]; exact hlt.1), List.getElem?_eq_getElem _⟩
      obtain ⟨b, o, rfl, hbl, hE⟩ := H.out.2.2.2 (by intro e; rw [e] at hx; simp at hx)
      obtain ⟨q1, q2⟩ := hE k x hx
      have HX := Lib.hid (take_any_snoc (p := fun e => decide (12 < e.xs.length)) es k x hx)
      have HXX := Lib.hid hx
      have i1 : (k : Int) < (n : Int) := by omega
      have i2 : (k : Int) < 12 := by omega
      obtain ⟨A1, cap1, xs1, c1⟩ := x
      simp only at q1 q2
      obtain ⟨n1, hn1⟩ : ∃ n1, xs1.length = n1 := ⟨_, rfl⟩
      rw [hn1] at q1
      have HN1 := Lib.hid hn1
      clear hE hx hn1
      by_cases hgr : 12 < n1
      · have i3 : (12 : Int) < (n1 : Int) := by omega
        have hRt : R = true := by
          rw [HR.out]
          unfold greatE
          rw [Bool.or_eq_true]
          left
          rw [List.any_eq_true]
          refine ⟨⟨A1, cap1, xs1, c1⟩, ?_, by simp only [decide_eq_true_eq]; rw [HN1.out]; exact hgr⟩
          have := HXX.out
          refine List.mem_of_getElem? (i := k) ?_
          rw [List.getElem?_take, if_pos hlt.2]
          exact this
        have HRT := Lib.hid hRt
        clear hRt
        go_wp2_with fail
        go_ret
        exact ⟨HRT.out ▸ rfl, rfl⟩
      · have i3 : ¬ (12 : Int) < (n1 : Int) := by omega
        have d3 : decide ((12 : Int) < (n1 : Int)) = false := by simp; omega
        have hnx : (es.take (k + 1)).any (fun e => decide (12 < e.xs.length)) = false := by
          rw [HX.out, HA.out, Bool.false_or]
          simp only [decide_eq_false_iff_not]
          rw [HN1.out]
          exact hgr
        have HNX := Lib.hid hnx
        clear hnx
        go_wp2_with fail
        go_roundw
        case rel => exact ⟨k + 1, by go_num, by omega, by omega, by trivial, HNX.out⟩
        case measure => simp [RowKit.intOf]; omega
    · have hfin : R = decide ((12 : Int) < (n : Int)) := by
        rw [HR.out]
        unfold greatE
        rw [HN.out]
        by_cases c : 12 < n
        · have hk12 : k = 12 := by omega
          rw [hk12] at HA
          simp [c]
          omega
        · have e : es.take 12 = es.take k := by
            rw [List.take_of_length_le (by rw [HN.out]; omega), List.take_of_length_le (by rw [HN.out]; omega)]
          rw [e, HA.out]
          simp [c]
          omega
      have HFIN := Lib.hid hfin
      clear hfin
      by_cases c1 : k < n
      · have i1 : (k : Int) < (n : Int) := by omega
        have i2 : ¬ (k : Int) < 12 := by omega
        have d2 : decide ((k : Int) < 12) = false := by simp; omega
        go_wp2_with fail
        go_ret
        exact ⟨HFIN.out ▸ rfl, rfl⟩
      · have i1 : ¬ (k : Int) < (n : Int) := by omega
        have d1 : decide ((k : Int) < (n : Int)) = false := by simp; omega
        go_wp2_with fail
        go_ret
        exact ⟨HFIN.out ▸ rfl, rfl⟩
end Go.Proofs.Ytphhdkffnboboaa
