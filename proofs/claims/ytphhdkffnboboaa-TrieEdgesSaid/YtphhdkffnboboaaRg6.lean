/-
  Contracts: ranges.Count, ranges.Has.
-/
import Derived.Shelf.SlicesQ.IndexFunc
import Derived.Test.YtphhdkffnboboaaRg5
import Derived.Test.YtphhdkffnboboaaLayR2
namespace Go.Proofs.Ytphhdkffnboboaa
open Go.RowKit Go.Shelf
open Go.Lib

theorem countR_step (xs : List Rng) (k : Nat) (x : Rng) (h : xs[k]? = some x) : countR (xs.take (k + 1)) = countR (xs.take k) + (x.2 - x.1 + 1) := by
  rw [List.take_add_one, h]
  exact countR_snoc _ _

set_option maxHeartbeats 2000000 in
theorem count_any' (A : Option Addr) (cap : Nat) (xs : List Rng) (w : World) (h : RS w w.heap.size A cap xs) :
    Calls Try.prog 37 #[.slice A xs.length cap] w fun e w' => e = .returned (.int .i64 (countR (known xs))) ∧ Below w.heap.size w w' := by
  have H := Lib.hid h
  have C := valid_any A cap xs w h
  have hm : xs.length ≤ maxLen := by have := h.1; have := h.2.1; omega
  unfold maxLen at hm
  obtain ⟨n, hn⟩ : ∃ n, xs.length = n := ⟨_, rfl⟩
  have HN := Lib.hid hn
  rw [hn] at hm C ⊢
  clear h hn
  by_cases hV : right xs = true
  · rw [if_pos hV] at C
    rw [known_of hV]
    have HV := Lib.hid hV
    have C := Lib.hid C
    clear hV
    have hcb := countR_bound HV.out
    have HCT := Lib.hid fun k => countR_bound (rightFrom_take HV.out k)
    clear hcb
    go_enter Try.func37, Try.ntmps37
    go_wp2_with fail
    refine C.out.mono ?_
    rintro e w1 ⟨rfl, hb⟩
    go_wp2
    go_loopw [3, 9] (fun c i wr => ∃ k : Nat, i = .int .i64 k ∧ c = .int .i64 (countR (xs.take k)) ∧ k ≤ n ∧ Below w.heap.size w wr) (fun _ i _ => n - (RowKit.intOf i).toNat)
    case atStart => exact ⟨0, rfl, rfl, Nat.zero_le _, hb⟩
    case round =>
      obtain ⟨k, rfl, rfl, hk, hb2⟩ := hrel
      by_cases hlt : k < n
      · obtain ⟨x, hx⟩ : ∃ x, xs[k]? = some x := ⟨xs[k]'(by have := HN.out; omega), List.getElem?_eq_getElem _⟩
        obtain ⟨b, o, rfl, hbl, hRg⟩ := H.out.2.2.2 (by intro e; rw [e] at hx; simp at hx)
        obtain ⟨q1, q2⟩ := (hRg.below hbl hb2) k x hx
        have hmy := (may_iff _).1 (right_may (b := -1) HV.out x (List.mem_of_getElem? hx)).1
        have HS := Lib.hid (countR_step xs k x hx)
        have hc := HCT.out k
        have hlk : ((xs.take k).length : Int) = k := by rw [List.length_take, HN.out]; omega
        rw [hlk] at hc
        clear hRg hx hlk
        obtain ⟨lo, hi⟩ := x
        obtain ⟨m1, m2, m3⟩ := hmy
        simp only at m1 m2 m3
        have i1 : (k : Int) < (n : Int) := by omega
        have i0 : (0 : Int) ≤ (k : Int) := by omega
        generalize countR (xs.take k) = c at *
        obtain ⟨c1, c2⟩ := hc
        go_wp2_with fail
        have hb3 : Below w.heap.size w (wr.alloc (.cells #[.int .i32 lo, .int .i32 hi] 70)) := hb2.alloc hb2.size _
        go_wp2
        go_roundw
        case rel => exact ⟨k + 1, by go_num, by rw [HS.out], by omega, hb3⟩
        case measure => simp [RowKit.intOf]; omega
      · have hkn : k = n := by omega
        have e : xs.take k = xs := by rw [hkn, ← HN.out, List.take_length]
        rw [e]
        subst hkn
        clear e
        go_wp2
        go_ret
        exact ⟨rfl, hb2⟩
  · rw [if_neg hV] at C
    have e : known xs = [] := by unfold known; rw [if_neg hV]
    rw [e]
    have C := Lib.hid C
    clear hV e
    go_enter Try.func37, Try.ntmps37
    go_wp2_with fail
    refine C.out.mono ?_
    rintro e w1 ⟨rfl, hb⟩
    go_wp2
    go_loopw [3, 9] (fun c i wr => i = .int .i64 0 ∧ c = .int .i64 0 ∧ wr = w1) (fun _ _ _ => 0)
    case atStart => exact ⟨rfl, rfl, rfl⟩
    case round =>
      obtain ⟨rfl, rfl, rfl⟩ := hrel
      go_wp2
      go_ret
      exact ⟨rfl, hb⟩

/-- ranges.Has's own test of one range. -/
theorem pred70 (r : Int) (B : Nat) (w : World) (hB : B < w.heap.size) (hcell : w.cell? ⟨B, 0, none⟩ = some (.int .i32 r)) :
    PredBelow Try.prog 70 #[.pointer (some ⟨B, 0, none⟩)] (fun x : Rng => .agg (cell2 x).toArray) (fun x => decide (x.1 ≤ r) && decide (r ≤ x.2)) w := fun W x hb => by
  have hc : W.cell? ⟨B, 0, none⟩ = some (.int .i32 r) := (hb.cell (p := ⟨B, 0, none⟩) hB).trans hcell
  have hBW : B < W.heap.size := Nat.lt_of_lt_of_le hB hb.size
  have hne : B ≠ W.heap.size := by omega
  obtain ⟨lo, hi⟩ := x
  show Calls Try.prog 70 #[.agg #[.int .i32 lo, .int .i32 hi], .pointer (some ⟨B, 0, none⟩)] W _
  have hbz := hb.alloc hb.size (.cells #[.int .i32 lo, .int .i32 hi] 70)
  have HB := Lib.hid hbz
  clear hbz hb
  by_cases c1 : lo ≤ r
  · by_cases c2 : r ≤ hi
    · go_enter Try.func70, Try.ntmps70
      go_wp2
      go_ret
      exact ⟨by simp [c1, c2], HB.out⟩
    · have d : decide (r ≤ hi) = false := by simpa using c2
      go_enter Try.func70, Try.ntmps70
      go_wp2
      go_ret
      exact ⟨by simp, HB.out⟩
  · have d : decide (lo ≤ r) = false := by simpa using c1
    go_enter Try.func70, Try.ntmps70
    go_wp2
    go_ret
    exact ⟨by simp, HB.out⟩

theorem index_empty (A : Option Addr) (cap : Nat) (fv : Value) (w : World) : Calls Try.prog 77 #[.slice A 0 cap, fv] w fun e w' => e = .returned (.int .i64 (-1)) ∧ w' = w := by
  go_enter Try.func77, Try.ntmps77
  go_wp2
  go_loopw [8] (fun i wr => i = .int .i64 0 ∧ wr = w) (fun _ _ => 0)
  case atStart => exact ⟨rfl, rfl⟩
  case round =>
    obtain ⟨rfl, rfl⟩ := hrel
    go_wp2
    go_ret
    exact ⟨rfl, rfl⟩
theorem contains_empty (A : Option Addr) (cap : Nat) (fv : Value) (w : World) : Calls Try.prog 69 #[.slice A 0 cap, fv] w fun e w' => e = .returned (.bool false) ∧ w' = w := by
  have C := Lib.hid (index_empty A cap fv w)
  go_enter Try.func69, Try.ntmps69
  go_wp2_with fail
  refine C.out.mono ?_
  rintro e w1 ⟨rfl, rfl⟩
  go_wp2
  go_ret
  exact ⟨rfl, rfl⟩

theorem zs_get (xs : List Rng) (j : Nat) (hj : j < xs.length) : xs[j]? = some xs[j]! := by
  rw [List.getElem?_eq_getElem hj, List.getElem!_eq_getElem?_getD, List.getElem?_eq_getElem hj]
  rfl

set_option maxHeartbeats 2000000 in
theorem has_any (A : Option Addr) (cap : Nat) (xs : List Rng) (r : Int) (_hr0 : -2147483648 ≤ r) (_hr1 : r ≤ 2147483647) (w : World) (h : RS w w.heap.size A cap xs) :
    Calls Try.prog 39 #[.slice A xs.length cap, .int .i32 r] w fun e w' => e = .returned (.bool (hasR (known xs) r)) ∧ Below w.heap.size w w' := by
  have eg : ∀ args w, (callFunc 70 args).run Try.prog w = .ok (.enter 70 args) w := enters_of Try.func70 (by kernel_rfl) rfl
  have hb0 : Below w.heap.size w (w.alloc (.cells #[.int .i32 r] 21)) := below_new _ _
  have C := valid_any A cap xs (w.alloc (.cells #[.int .i32 r] 21)) ((h.below hb0).mono (by simp))
  have hm : xs.length ≤ maxLen := by have := h.1; have := h.2.1; omega
  unfold maxLen at hm
  by_cases hV : right xs = true ∧ xs ≠ []
  · obtain ⟨b, o, rfl, hbl, hRg⟩ := h.2.2.2 hV.2
    rw [if_pos hV.1] at C
    have D : ∀ W, Below w.heap.size w W → w.heap.size < W.heap.size → W.cell? ⟨w.heap.size, 0, none⟩ = some (.int .i32 r) → Calls Try.prog 69 #[.slice (some ⟨b, o, none⟩) xs.length cap, .func (.func 70) #[] #[.pointer (some ⟨w.heap.size, 0, none⟩)]] W fun e w' => e = .returned (.bool (hasR (known xs) r)) ∧ Below W.heap.size W w' := fun W hB hS hc => by
      have hcon := AnyQ.slices_ContainsFunc Try.containsL 2 Try.isAgg70 Try.sizeOf70 cell2 (fun _ => rfl) (fun x : Rng => decide (x.1 ≤ r) && decide (r ≤ x.2)) 70 #[.pointer (some ⟨w.heap.size, 0, none⟩)] eg b o xs.length cap xs W
        (pred70 r w.heap.size W hS hc) (Nat.le_refl _) (by omega) (by have := hB.size; omega) (fun j hj i v hi => by
          obtain ⟨h1, h2⟩ := (hRg.below hbl hB) j _ (zs_get xs j hj)
          generalize xs[j]! = y at hi h1 h2
          match i, hi with
          | 0, hi => simp [cell2] at hi; rw [← hi]; exact h1
          | 1, hi => simp [cell2] at hi; rw [← hi]; exact h2
          | i + 2, hi => simp [cell2] at hi)
      rw [List.take_length] at hcon
      rw [known_of hV.1]
      exact hcon
    have C := Lib.hid C
    have D := Lib.hid D
    have H0 := Lib.hid hb0
    generalize hasR (known xs) r = V at D ⊢
    generalize xs.length = n at *
    clear h hRg hV hb0
    go_enter Try.func39, Try.ntmps39
    go_wp2_with fail
    refine C.out.mono ?_
    rintro e w1 ⟨rfl, hb⟩
    have hs := hb.size
    rw [World.size_alloc] at hs
    have hbz := H0.out.trans (hb.mono (by simp))
    have hc : w1.cell? ⟨w.heap.size, 0, none⟩ = some (.int .i32 r) := (hb.cell (p := ⟨w.heap.size, 0, none⟩) (by simp)).trans (by simp)
    have D2 := Lib.hid (D.out w1 hbz (by omega) hc)
    clear hc hb
    go_wp2_with fail
    refine D2.out.mono ?_
    rintro e w2 ⟨rfl, hb2⟩
    have hbq := hbz.trans (hb2.mono hbz.size)
    go_wp2
    go_ret
    exact ⟨rfl, hbq⟩
  · have e : known xs = [] := by
      by_cases c : right xs = true
      · have : xs = [] := by
          by_cases c2 : xs = []
          · exact c2
          · exact absurd ⟨c, c2⟩ hV
        rw [this]; rfl
      · unfold known; rw [if_neg c]
    have C' : ∃ A' c', Calls Try.prog 53 #[.slice A xs.length cap] (w.alloc (.cells #[.int .i32 r] 21)) fun e w' => e = .returned (.slice A' 0 c') ∧ Below (w.alloc (.cells #[.int .i32 r] 21)).heap.size (w.alloc (.cells #[.int .i32 r] 21)) w' := by
      by_cases c : right xs = true
      · have hx : xs = [] := by
          by_cases c2 : xs = []
          · exact c2
          · exact absurd ⟨c, c2⟩ hV
        subst hx
        rw [if_pos c] at C
        exact ⟨A, cap, C⟩
      · rw [if_neg c] at C
        exact ⟨none, 0, C⟩
    obtain ⟨A', c', C'⟩ := C'
    rw [e, hasR_nil]
    have C' := Lib.hid C'
    have H0 := Lib.hid hb0
    generalize xs.length = n at *
    clear h e hV C hb0
    go_enter Try.func39, Try.ntmps39
    go_wp2_with fail
    refine C'.out.mono ?_
    rintro e w1 ⟨rfl, hb⟩
    have hbz := H0.out.trans (hb.mono (by simp))
    go_wp2_with fail
    refine (contains_empty A' c' _ w1).mono ?_
    rintro e w2 ⟨rfl, rfl⟩
    go_wp2
    go_ret
    exact ⟨rfl, hbz⟩
end Go.Proofs.Ytphhdkffnboboaa
