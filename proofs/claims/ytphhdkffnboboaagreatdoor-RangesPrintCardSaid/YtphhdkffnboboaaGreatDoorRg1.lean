/-
  Contracts: ranges.inBounds, virguleref02.May, ranges.Right, virguleref02.Right, ranges.valid, virguleref02.Known.
-/
import Derived.BigQuiet
import Derived.Lib.QuietBelow
import Derived.Test.YtphhdkffnboboaaGreatDoorRgMath
import Derived.Test.YtphhdkffnboboaaGreatDoorBase
namespace Go.Proofs.YtphhdkffnboboaaGreatDoor
open Go.RowKit Go.Shelf
open Go.Lib

/-- Ranges that lie one behind the other. -/
def RgAt (w : World) (b o : Nat) (xs : List Rng) : Prop :=
  ∀ i x, xs[i]? = some x → w.cell? ⟨b, o + i * 2, none⟩ = some (.int .i32 x.1) ∧ w.cell? ⟨b, o + i * 2 + 1, none⟩ = some (.int .i32 x.2)
def I32 (x : Rng) : Prop := -2147483648 ≤ x.1 ∧ x.1 ≤ 2147483647 ∧ -2147483648 ≤ x.2 ∧ x.2 ≤ 2147483647
/-- A slice of ranges, below block B. -/
def RS (w : World) (B : Nat) (A : Option Addr) (cap : Nat) (xs : List Rng) : Prop :=
  xs.length ≤ cap ∧ cap ≤ maxLen ∧ (∀ x ∈ xs, I32 x) ∧ (xs ≠ [] → ∃ b o, A = some ⟨b, o, none⟩ ∧ b < B ∧ RgAt w b o xs)

theorem RgAt.below {w w' : World} {b o B : Nat} {xs : List Rng} (h : RgAt w b o xs) (hb : b < B) (hB : Below B w w') : RgAt w' b o xs := fun i x hx => by
  obtain ⟨h1, h2⟩ := h i x hx
  exact ⟨(hB.cell (p := ⟨b, o + i * 2, none⟩) hb).trans h1, (hB.cell (p := ⟨b, o + i * 2 + 1, none⟩) hb).trans h2⟩
theorem RS.below {w w' : World} {B : Nat} {A : Option Addr} {cap : Nat} {xs : List Rng} (h : RS w B A cap xs) (hB : Below B w w') : RS w' B A cap xs :=
  ⟨h.1, h.2.1, h.2.2.1, fun hn => by obtain ⟨b, o, rfl, hb, hR⟩ := h.2.2.2 hn; exact ⟨b, o, rfl, hb, hR.below hb hB⟩⟩
theorem RS.mono {w : World} {B B' : Nat} {A : Option Addr} {cap : Nat} {xs : List Rng} (h : RS w B A cap xs) (hB : B ≤ B') : RS w B' A cap xs :=
  ⟨h.1, h.2.1, h.2.2.1, fun hn => by obtain ⟨b, o, rfl, hb, hR⟩ := h.2.2.2 hn; exact ⟨b, o, rfl, by omega, hR⟩⟩
theorem RS.i32 {w : World} {B : Nat} {A : Option Addr} {cap : Nat} {xs : List Rng} (h : RS w B A cap xs) {k : Nat} {x : Rng} (hx : xs[k]? = some x) : I32 x := h.2.2.1 x (List.mem_of_getElem? hx)

theorem below_new (w : World) (o : Obj) : Below w.heap.size w (w.alloc o) := (Below.refl _ _).alloc (Nat.le_refl _) o

set_option maxHeartbeats 1000000 in
theorem inB_any (lo hi : Int) (h : I32 (lo, hi)) (w : World) : Calls Tryz.prog 22 #[.agg #[.int .i32 lo, .int .i32 hi]] w fun e w' => e = .returned (.bool (may (lo, hi))) ∧ Below w.heap.size w w' := by
  obtain ⟨h1, h2, h3, h4⟩ := h
  by_cases c1 : 0 ≤ lo
  · by_cases c2 : lo ≤ hi
    · by_cases c3 : hi ≤ 1114111
      · have e : may (lo, hi) = true := by simp [may, c1, c2, c3]
        rw [e]
        go_enter Tryz.func22, Tryz.ntmps22
        go_wp2
        go_ret
        exact ⟨rfl, below_new _ _⟩
      · have e : may (lo, hi) = false := by simp [may, c1, c2, c3]
        rw [e]
        have d : decide (hi ≤ 1114111) = false := by simpa using c3
        go_enter Tryz.func22, Tryz.ntmps22
        go_wp2
        go_ret
        exact ⟨rfl, below_new _ _⟩
    · have e : may (lo, hi) = false := by simp [may, c1, c2]
      rw [e]
      have d : decide (lo ≤ hi) = false := by simpa using c2
      go_enter Tryz.func22, Tryz.ntmps22
      go_wp2
      go_ret
      exact ⟨rfl, below_new _ _⟩
  · have e : may (lo, hi) = false := by simp [may, c1]
    rw [e]
    have d : decide (0 ≤ lo) = false := by simpa using c1
    go_enter Tryz.func22, Tryz.ntmps22
    go_wp2
    go_ret
    exact ⟨rfl, below_new _ _⟩

set_option maxHeartbeats 1000000 in
theorem mayr_any (lo hi : Int) (h : I32 (lo, hi)) (w : World) : Calls Tryz.prog 25 #[.agg #[.int .i32 lo, .int .i32 hi]] w fun e w' => e = .returned (.bool (may (lo, hi))) ∧ Below w.heap.size w w' := by
  obtain ⟨h1, h2, h3, h4⟩ := h
  by_cases c1 : 0 ≤ lo
  · by_cases c2 : lo ≤ hi
    · by_cases c3 : hi ≤ 1114111
      · have e : may (lo, hi) = true := by simp [may, c1, c2, c3]
        rw [e]
        go_enter Tryz.func25, Tryz.ntmps25
        go_wp2
        go_ret
        exact ⟨rfl, below_new _ _⟩
      · have e : may (lo, hi) = false := by simp [may, c1, c2, c3]
        rw [e]
        have d : decide (hi ≤ 1114111) = false := by simpa using c3
        go_enter Tryz.func25, Tryz.ntmps25
        go_wp2
        go_ret
        exact ⟨rfl, below_new _ _⟩
    · have e : may (lo, hi) = false := by simp [may, c1, c2]
      rw [e]
      have d : decide (lo ≤ hi) = false := by simpa using c2
      go_enter Tryz.func25, Tryz.ntmps25
      go_wp2
      go_ret
      exact ⟨rfl, below_new _ _⟩
  · have e : may (lo, hi) = false := by simp [may, c1]
    rw [e]
    have d : decide (0 ≤ lo) = false := by simpa using c1
    go_enter Tryz.func25, Tryz.ntmps25
    go_wp2
    go_ret
    exact ⟨rfl, below_new _ _⟩
end Go.Proofs.YtphhdkffnboboaaGreatDoor
