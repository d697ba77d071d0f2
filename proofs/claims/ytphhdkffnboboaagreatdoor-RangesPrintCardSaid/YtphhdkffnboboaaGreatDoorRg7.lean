/-
  Contracts: cmp.Compare, the comparison that ranges.join sorts by, slices.SortFunc at ranges.
-/
import Derived.Shelf.SlSortCmp.NoneTotal
import Derived.Lib.OwnBridge
import Derived.Test.YtphhdkffnboboaaGreatDoorLayR
import Derived.Test.YtphhdkffnboboaaGreatDoorRg4
namespace Go.Proofs.YtphhdkffnboboaaGreatDoor
open Go.RowKit Go.Shelf
open Go.Lib Go.Sort

theorem nan_any (a : Int) (w : World) : Calls Tryz.prog 51 #[.int .i32 a] w fun e w' => e = .returned (.bool false) ∧ w' = w := by
  go_enter Tryz.func51, Tryz.ntmps51
  go_wp2
  go_ret
  exact ⟨rfl, rfl⟩

set_option maxHeartbeats 1000000 in
theorem cmp_any (a b : Int) (w : World) : Calls Tryz.prog 38 #[.int .i32 a, .int .i32 b] w fun e w' => e = .returned (.int .i64 (compareInt a b)) ∧ w' = w := by
  have N := Lib.hid nan_any
  by_cases c1 : a < b
  · have e : compareInt a b = -1 := by unfold compareInt; rw [if_pos c1]
    rw [e]
    go_enter Tryz.func38, Tryz.ntmps38
    go_wp2_with fail
    refine (N.out a w).mono ?_
    rintro e w1 ⟨rfl, rfl⟩
    go_wp2_with fail
    refine (N.out b _).mono ?_
    rintro e w1 ⟨rfl, rfl⟩
    go_wp2
    go_ret
    exact ⟨rfl, rfl⟩
  · by_cases c2 : b < a
    · have e : compareInt a b = 1 := by unfold compareInt; rw [if_neg c1, if_pos c2]
      rw [e]
      have d1 : decide (a < b) = false := by simpa using c1
      go_enter Tryz.func38, Tryz.ntmps38
      go_wp2_with fail
      refine (N.out a w).mono ?_
      rintro e w1 ⟨rfl, rfl⟩
      go_wp2_with fail
      refine (N.out b _).mono ?_
      rintro e w1 ⟨rfl, rfl⟩
      go_wp2
      go_ret
      exact ⟨rfl, rfl⟩
    · have e : compareInt a b = 0 := by unfold compareInt; rw [if_neg c1, if_neg c2]
      rw [e]
      have d1 : decide (a < b) = false := by simpa using c1
      have d2 : decide (b < a) = false := by simpa using c2
      go_enter Tryz.func38, Tryz.ntmps38
      go_wp2_with fail
      refine (N.out a w).mono ?_
      rintro e w1 ⟨rfl, rfl⟩
      go_wp2_with fail
      refine (N.out b _).mono ?_
      rintro e w1 ⟨rfl, rfl⟩
      go_wp2
      go_ret
      exact ⟨rfl, rfl⟩

theorem closure92 (x y : Rng) (W : World) : Calls Tryz.prog 37 #[.agg #[.int .i32 x.1, .int .i32 x.2], .agg #[.int .i32 y.1, .int .i32 y.2]] W fun e w' => e = .returned (.int .i64 (compareInt x.1 y.1)) ∧ ∃ q os', w' = grow (W.drewN q) os' := by
  have C := Lib.hid fun W' => cmp_any x.1 y.1 W'
  generalize compareInt x.1 y.1 = r at C ⊢
  obtain ⟨x1, x2⟩ := x
  obtain ⟨y1, y2⟩ := y
  simp only at C
  go_enter Tryz.func37, Tryz.ntmps37
  go_wp2_with fail
  refine (C.out _).mono ?_
  rintro e w1 ⟨rfl, rfl⟩
  go_wp2
  go_ret
  exact ⟨rfl, 0, _, by rw [alloc_eq_grow, alloc_eq_grow, grow_grow]; rfl⟩

def cmpLo (x y : Rng) : Int := compareInt x.1 y.1
theorem ltLo (x y : Rng) : ltOf cmpLo x y = decide (x.1 < y.1) := by
  unfold ltOf cmpLo compareInt
  by_cases h1 : x.1 < y.1
  · simp [h1]
  · by_cases h2 : y.1 < x.1 <;> simp [h1, h2]
theorem swoLo : SWO (ltOf cmpLo) where
  irrefl x := by rw [ltLo]; simp
  trans x y z h1 h2 := by rw [ltLo] at *; simp at *; omega
  ntrans x y z h1 h2 := by rw [ltLo] at *; simp at *; omega

theorem cmpLays92 (blk off size : Nat) (w : World) : CmpLays Tryz.prog 37 #[] cell2 2 cmpLo blk off size w :=
  fun _ _ _ _ x y => closure92 x y _

theorem flat_cells2 (xs : List Rng) (t : Nat) (ht : t < xs.length * 2) : (cells2 xs)[t]? = some (flatK cell2 2 xs.toArray)[t]! := by
  rw [get_flatK _ _ _ _ (by simpa using ht)]
  have hj : t / 2 < xs.length := by omega
  obtain ⟨x, hx⟩ : ∃ x, xs[t / 2]? = some x := ⟨xs[t / 2], List.getElem?_eq_getElem _⟩
  have e : xs.toArray[t / 2]! = x := by
    rw [Array.getElem!_eq_getD, Array.getD_eq_getD_getElem?, List.getElem?_toArray, hx]
    rfl
  rw [e]
  obtain ⟨h1, h2⟩ := cells2_get xs (t / 2) x hx
  rcases Nat.mod_two_eq_zero_or_one t with c | c
  · rw [c, show t = t / 2 * 2 by omega]
    simpa [cell2] using h1
  · rw [c, show t = t / 2 * 2 + 1 by omega]
    have e2 : (t / 2 * 2 + 1) / 2 = t / 2 := by omega
    rw [h2]
    rfl

theorem sort_any (B g cap : Nat) (xs : List Rng) (w : World) (hB : B ≤ w.heap.size) (hown : w.ownsRow B 39 2 (.slice (some ⟨g, 0, none⟩) xs.length cap) xs.length (cells2 xs)) (hl : xs.length < 4611686018427387904) :
    Calls Tryz.prog 36 #[.slice (some ⟨g, 0, none⟩) xs.length cap, .func (.func 37) #[] #[]] w fun e w' =>
      e = .returned (.tuple #[]) ∧ ∃ ys : List Rng, ys.Perm xs ∧ ys.Pairwise (fun x y => x.1 ≤ y.1) ∧ RgAt w' g 0 ys ∧ g < w'.heap.size ∧ Below B w w' := by
  have eg : ∀ args w, (callFunc 37 args).run Tryz.prog w = .ok (.enter 37 args) w := enters_of Tryz.func37 (by kernel_rfl) rfl
  obtain ⟨hgB, hgl⟩ := hown.lt g rfl
  have hH : HoldsK cell2 2 w g 0 xs.toArray := fun t ht => by
    have ht' : t < xs.length * 2 := by simpa using ht
    refine ⟨?_, ?_⟩
    · rw [Nat.zero_add, hown.cellAt t ht', flat_cells2 xs t ht']
      rfl
    · rw [Nat.zero_add]
      exact hown.frozenAt t
  have hcon := AnyQ.slices_SortFunc Tryz.sortL 2 Tryz.isAgg39 Tryz.sizeOf39 cell2 (fun _ => rfl) (fun x v hv => by simp [cell2] at hv; rcases hv with rfl | rfl <;> rfl) cmpLo swoLo 37 #[] g 0 cap xs.toArray w eg (cmpLays92 g 0 _ w) hH hgl (by simpa using hl)
  refine Calls.mono hcon ?_
  rintro e w' ⟨rfl, d', n, os, hp, hs, rfl⟩
  refine ⟨rfl, d'.toList, ?_, ?_, ?_, ?_, ?_⟩
  · have h3 := hp.2.2
    have h1 := hp.1
    rw [Array.extract_eq_self_of_le (by omega), Array.extract_eq_self_of_le (by omega)] at h3
    simpa using h3
  · rw [List.pairwise_iff_getElem]
    intro i j hi hj hij
    have h1 := hp.1
    have hs' := hs i j (Nat.zero_le _) hij (by simpa [h1] using hj)
    rw [ltLo] at hs'
    rw [getElem!_pos d' j (by simpa using hj), getElem!_pos d' i (by simpa using hi)] at hs'
    simp at hs'
    simpa using hs'
  · have hK := holdsK_sortWorldK_c cell2 2 w g 0 xs.toArray d' n os hH hgl hp.1
    intro i x hx
    have hi : i < d'.size := by have := (List.getElem?_eq_some_iff.1 hx).1; simpa using this
    have e : d'[i]! = x := by
      rw [getElem!_pos d' i hi]
      rw [Array.getElem?_toList, Array.getElem?_eq_getElem hi] at hx
      injection hx
    have h1 := (hK.cell hi (c := 0) (by omega)).1
    have h2 := (hK.cell hi (c := 1) (by omega)).1
    rw [e] at h1 h2
    exact ⟨h1, h2⟩
  · exact Nat.lt_of_lt_of_le hgl (size_sortWorldK_c cell2 2 w g 0 n d' os)
  · have hb1 := below_putRow (enc := id) (q := n) (d := flatK cell2 2 d') (Below.refl B w) hgB
    have hb2 : Below B (putRow id (Sort.ahead w n) g 0 (flatK cell2 2 d')) (grow (putRow id (Sort.ahead w n) g 0 (flatK cell2 2 d')) os) :=
      ⟨rfl, rfl, rfl, by simp [grow], fun k hk => by
        have : k < (putRow id (Sort.ahead w n) g 0 (flatK cell2 2 d')).heap.size := Nat.lt_of_lt_of_le (Nat.lt_of_lt_of_le hk hB) hb1.size
        exact Array.getElem?_append_left this⟩
    exact hb1.trans hb2
end Go.Proofs.YtphhdkffnboboaaGreatDoor
