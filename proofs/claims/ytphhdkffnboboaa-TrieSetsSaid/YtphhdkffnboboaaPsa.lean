/-
  Ranges of numbers as lists of pairs: which lists are right, which numbers are in them; a right list is known by its numbers.
  DERIVED: THE SHELF's CONTRACTS AT THIS DUMP, IN PLAIN WORDS (tools/lay-plain.mjs out of 'TrydLayR.lean', which tools/lay-shelf.mjs wrote): THE SAME DECLARATIONS UNDER THE SAME NAMES: 'import', 'namespace', 'open', 'def', 'theorem' AND NOTHING ELSE: no command of the shelf's: FOR A HAND-IN. Each laying: the table of numbers ('.._ren') and one theorem, a field a fact of the dump's own or the kernel's comparison; each contract: ONE APPLICATION.
  
  Contracts: ranges.inBounds, virguleref02.May, ranges.Right, virguleref02.Right, ranges.valid, virguleref02.Known.
  Contracts: ranges.Right, virguleref02.Right, ranges.valid, virguleref02.Known.
  Contracts: virguleref02.Right, ranges.valid, virguleref02.Known.
  Contracts: virgulelaw02.To; own rows of ranges.
  Contracts: cmp.Compare, the comparison that ranges.join sorts by, slices.SortFunc at ranges.
  Contracts: virguleref02.In, (virgulelaw02.Set).Is.
-/
import Derived.Test.YtphhdkffnboboaaProg
import Derived.Shelf.SlSortCmp.WholeK
import Derived.Shelf.SlicesE.Clone
import Derived.Shelf.SlGeneric
import Derived.Ground.SlsfProg
import Derived.Ground.SlgnProg
import Derived.Ground.NamesProg
import Derived.WalkKit
import Derived.BigQuiet
import Derived.Deep.QuietTactic
import Derived.Outline
import Derived.Lib.Hide
import Derived.Below
import Derived.Lib.DecodeNEq
import Derived.Laws.IdiomStrings
import Derived.Laws.OwnMore
import Derived.OwnWalk
import Derived.RangeFuncRecord
import Derived.RangeFuncBox
import Derived.Deep.AppendLies
import Derived.Lib.QuietBelow
import Derived.Deep.RegionLaw
import Derived.BigRegion
import Derived.Shelf.SlSortCmp.NoneTotal
import Derived.Lib.OwnBridge
namespace Go.Proofs.Ytphhdkffnboboaa

abbrev Rng := Int × Int
def may (x : Rng) : Bool := decide (0 ≤ x.1) && decide (x.1 ≤ x.2) && decide (x.2 ≤ 1114111)
theorem may_iff (x : Rng) : may x = true ↔ 0 ≤ x.1 ∧ x.1 ≤ x.2 ∧ x.2 ≤ 1114111 := by simp [may, and_assoc]

/-- Ranges that rise from b on, with something between. -/
def rightFrom : Int → List Rng → Bool
  | _, [] => true
  | b, x :: xs => decide (b < x.1) && may x && rightFrom (x.2 + 1) xs
def right (xs : List Rng) : Bool := rightFrom (-1) xs
def hasR (xs : List Rng) (r : Int) : Bool := xs.any fun x => decide (x.1 ≤ r) && decide (r ≤ x.2)
/-- Behind which number the next range may begin. -/
def hiOf (b : Int) : List Rng → Int
  | [] => b
  | x :: xs => hiOf (x.2 + 1) xs

theorem hasR_nil (r : Int) : hasR [] r = false := rfl
theorem hasR_cons (x : Rng) (xs : List Rng) (r : Int) : hasR (x :: xs) r = ((decide (x.1 ≤ r) && decide (r ≤ x.2)) || hasR xs r) := rfl
theorem hasR_cons_iff (x : Rng) (xs : List Rng) (r : Int) : hasR (x :: xs) r = true ↔ (x.1 ≤ r ∧ r ≤ x.2) ∨ hasR xs r = true := by simp [hasR_cons]
theorem hasR_append (xs ys : List Rng) (r : Int) : hasR (xs ++ ys) r = (hasR xs r || hasR ys r) := by simp [hasR]
theorem hasR_iff (xs : List Rng) (r : Int) : hasR xs r = true ↔ ∃ x ∈ xs, x.1 ≤ r ∧ r ≤ x.2 := by simp [hasR]
theorem hiOf_snoc (b : Int) (xs : List Rng) (x : Rng) : hiOf b (xs ++ [x]) = x.2 + 1 := by
  induction xs generalizing b with
  | nil => rfl
  | cons y ys ih => exact ih _
theorem rightFrom_snoc (b : Int) (xs : List Rng) (x : Rng) : rightFrom b (xs ++ [x]) = (rightFrom b xs && decide (hiOf b xs < x.1) && may x) := by
  induction xs generalizing b with
  | nil =>
    simp only [List.nil_append, rightFrom, hiOf, Bool.and_true, Bool.true_and]
    rfl
  | cons y ys ih =>
    simp only [List.cons_append, rightFrom, ih, hiOf, Bool.and_assoc]
    rfl
theorem rightFrom_mono {b c : Int} {xs : List Rng} (h : rightFrom b xs = true) (hc : c ≤ b) : rightFrom c xs = true := by
  cases xs with
  | nil => rfl
  | cons x xs => simp [rightFrom] at *; exact ⟨⟨by omega, h.1.2⟩, h.2⟩
theorem rightFrom_take {b : Int} {xs : List Rng} (h : rightFrom b xs = true) (k : Nat) : rightFrom b (xs.take k) = true := by
  induction xs generalizing b k with
  | nil => simp [rightFrom]
  | cons x xs ih =>
    cases k with
    | zero => rfl
    | succ k => simp [rightFrom] at *; exact ⟨h.1, ih h.2 k⟩
theorem right_may {b : Int} {xs : List Rng} (h : rightFrom b xs = true) : ∀ x ∈ xs, may x = true ∧ b < x.1 := by
  induction xs generalizing b with
  | nil => simp
  | cons y ys ih =>
    simp [rightFrom] at h
    obtain ⟨⟨h1, h2⟩, h3⟩ := h
    intro x hx
    rcases List.mem_cons.1 hx with rfl | hx
    · exact ⟨h2, h1⟩
    · have := ih h3 x hx
      rw [may_iff] at h2
      exact ⟨this.1, by omega⟩
/-- What a right list holds lies behind b, and is a number. -/
theorem hasR_gt {b : Int} {xs : List Rng} (h : rightFrom b xs = true) {r : Int} (hr : hasR xs r = true) : b < r ∧ 0 ≤ r ∧ r ≤ 1114111 := by
  obtain ⟨x, hx, h1, h2⟩ := (hasR_iff xs r).1 hr
  obtain ⟨hm, hb⟩ := right_may h x hx
  rw [may_iff] at hm
  omega

/-- A right list is known by what it holds. -/
theorem right_ext {b : Int} {xs ys : List Rng} (hx : rightFrom b xs = true) (hy : rightFrom b ys = true) (h : ∀ r, hasR xs r = hasR ys r) : xs = ys := by
  induction xs generalizing b ys with
  | nil =>
    cases ys with
    | nil => rfl
    | cons y ys =>
      simp [rightFrom, may_iff] at hy
      have := (hasR_cons_iff y ys y.1).2 (.inl ⟨by omega, by omega⟩)
      rw [← h y.1] at this
      cases this
  | cons x xs ih =>
    cases ys with
    | nil =>
      simp [rightFrom, may_iff] at hx
      have := (hasR_cons_iff x xs x.1).2 (.inl ⟨by omega, by omega⟩)
      rw [h x.1] at this
      cases this
    | cons y ys =>
      simp [rightFrom, may_iff] at hx hy
      obtain ⟨⟨hx1, hx2, hx3, hx4⟩, hx5⟩ := hx
      obtain ⟨⟨hy1, hy2, hy3, hy4⟩, hy5⟩ := hy
      have nx : ∀ r, r ≤ x.2 + 1 → ¬ hasR xs r = true := fun r hr e => by have := hasR_gt hx5 e; omega
      have ny : ∀ r, r ≤ y.2 + 1 → ¬ hasR ys r = true := fun r hr e => by have := hasR_gt hy5 e; omega
      have H : ∀ r, ((x.1 ≤ r ∧ r ≤ x.2) ∨ hasR xs r = true) ↔ ((y.1 ≤ r ∧ r ≤ y.2) ∨ hasR ys r = true) := fun r => by
        rw [← hasR_cons_iff, ← hasR_cons_iff, h r]
      have e1 : x.1 = y.1 := by
        by_cases c : x.1 < y.1
        · rcases (H x.1).1 (.inl ⟨by omega, by omega⟩) with h1 | h1
          · omega
          · exact absurd h1 (ny _ (by omega))
        · by_cases c' : y.1 < x.1
          · rcases (H y.1).2 (.inl ⟨by omega, by omega⟩) with h1 | h1
            · omega
            · exact absurd h1 (nx _ (by omega))
          · omega
      have e2 : x.2 = y.2 := by
        by_cases c : x.2 < y.2
        · rcases (H (x.2 + 1)).2 (.inl ⟨by omega, by omega⟩) with h1 | h1
          · omega
          · exact absurd h1 (nx _ (by omega))
        · by_cases c' : y.2 < x.2
          · rcases (H (y.2 + 1)).1 (.inl ⟨by omega, by omega⟩) with h1 | h1
            · omega
            · exact absurd h1 (ny _ (by omega))
          · omega
      have exy : x = y := Prod.ext e1 e2
      subst exy
      rw [ih hx5 hy5 fun r => ?_]
      by_cases c : r ≤ x.2
      · rw [Bool.eq_false_iff.2 (nx r (by omega)), Bool.eq_false_iff.2 (ny r (by omega))]
      · have := H r
        rw [Bool.eq_iff_iff]
        constructor
        · intro e
          rcases this.1 (.inr e) with h1 | h1
          · omega
          · exact h1
        · intro e
          rcases this.2 (.inr e) with h1 | h1
          · omega
          · exact h1

/-- How many numbers ranges have, one by one. -/
def countR (xs : List Rng) : Int := (xs.map fun x => x.2 - x.1 + 1).sum
theorem countR_snoc (xs : List Rng) (x : Rng) : countR (xs ++ [x]) = countR xs + (x.2 - x.1 + 1) := by simp [countR]
theorem countR_cons (x : Rng) (xs : List Rng) : countR (x :: xs) = (x.2 - x.1 + 1) + countR xs := by simp [countR]
theorem right_len {b : Int} {xs : List Rng} (h : rightFrom b xs = true) (hb : -1 ≤ b) : (xs.length : Int) ≤ countR xs ∧ (xs ≠ [] → b + 1 + countR xs ≤ 1114112) ∧ 0 ≤ countR xs := by
  induction xs generalizing b with
  | nil => simp [countR]
  | cons x xs ih =>
    simp [rightFrom, may_iff] at h
    obtain ⟨⟨h1, h2, h3, h4⟩, h5⟩ := h
    have := ih h5 (by omega)
    rw [countR_cons]
    refine ⟨by simp; omega, fun _ => ?_, by omega⟩
    by_cases c : xs = []
    · subst c; simp [countR]; omega
    · have := this.2.1 c
      omega
theorem countR_bound {xs : List Rng} (h : right xs = true) : (xs.length : Int) ≤ countR xs ∧ countR xs ≤ 1114112 := by
  have := right_len (b := -1) h (by omega)
  refine ⟨this.1, ?_⟩
  by_cases c : xs = []
  · subst c; simp [countR]
  · have := this.2.1 c; omega

/-- Of a list that is not right nothing is known. -/
def known (xs : List Rng) : List Rng := if right xs then xs else []
theorem known_right (xs : List Rng) : right (known xs) = true := by
  unfold known
  by_cases c : right xs = true
  · rw [if_pos c]; exact c
  · rw [if_neg c]; rfl
theorem known_of {xs : List Rng} (h : right xs = true) : known xs = xs := by unfold known; rw [if_pos h]

/-- One step of 'right': the next range. -/
theorem right_step (xs : List Rng) (k : Nat) (x : Rng) (h : xs[k]? = some x) : right (xs.take (k + 1)) = (right (xs.take k) && decide (hiOf (-1) (xs.take k) < x.1) && may x) := by
  rw [List.take_add_one, h]
  exact rightFrom_snoc _ _ _
theorem hiOf_take (xs : List Rng) (k : Nat) (y : Rng) (h : xs[k]? = some y) : hiOf (-1) (xs.take (k + 1)) = y.2 + 1 := by
  rw [List.take_add_one, h]
  exact hiOf_snoc _ _ _
theorem right_false (xs : List Rng) (k : Nat) (h : right (xs.take k) = false) : right xs = false := by
  cases e : right xs with
  | false => rfl
  | true => rw [show right (xs.take k) = true from rightFrom_take e k] at h; exact h
end Go.Proofs.Ytphhdkffnboboaa

namespace Go.Proofs
open Go.Shelf
def Try.sortL_ren : Go.Shelf.Ren := ⟨fun | 6 => 83 | 15 => 87 | 14 => 86 | 28 => 97 | 29 => 98 | 20 => 89 | 21 => 90 | 22 => 91 | 23 => 92 | 24 => 93 | 25 => 94 | 26 => 95 | 27 => 96 | 46 => 99 | 47 => 100 | 48 => 101 | 49 => 102 | 50 => 103 | 57 => 104 | n => n, fun | 22 => 41 | 24 => 70 | 25 => 125 | 3 => 3 | 39 => 116 | 0 => 0 | 53 => 136 | 55 => 65 | 4 => 4 | 46 => 130 | 45 => 129 | 50 => 58 | 5 => 5 | 9 => 9 | 66 => 138 | 70 => 142 | 76 => 144 | 77 => 145 | n => n, fun | n => n⟩
theorem Try.sortL : Go.Proofs.SlLaysF0.n6 Try.prog Try.sortL_ren := {
  mixed := by kernel_rfl
  f6 := ⟨Try.f83.name, by decide, Try.func83.trans (congrArg some (by kernel_rfl))⟩
  f14 := ⟨Try.f86.name, by decide, Try.func86.trans (congrArg some (by kernel_rfl))⟩
  f15 := Try.func87.trans (congrArg some (by kernel_rfl))
  f20 := ⟨Try.f89.name, by decide, Try.func89.trans (congrArg some (by kernel_rfl))⟩
  f21 := ⟨Try.f90.name, by decide, Try.func90.trans (congrArg some (by kernel_rfl))⟩
  f22 := ⟨Try.f91.name, by decide, Try.func91.trans (congrArg some (by kernel_rfl))⟩
  f23 := ⟨Try.f92.name, by decide, Try.func92.trans (congrArg some (by kernel_rfl))⟩
  f24 := ⟨Try.f93.name, by decide, Try.func93.trans (congrArg some (by kernel_rfl))⟩
  f25 := ⟨Try.f94.name, by decide, Try.func94.trans (congrArg some (by kernel_rfl))⟩
  f26 := ⟨Try.f95.name, by decide, Try.func95.trans (congrArg some (by kernel_rfl))⟩
  f27 := ⟨Try.f96.name, by decide, Try.func96.trans (congrArg some (by kernel_rfl))⟩
  f28 := Try.func97.trans (congrArg some (by kernel_rfl))
  f29 := Try.func98.trans (congrArg some (by kernel_rfl))
  f46 := ⟨Try.f99.name, by decide, Try.func99.trans (congrArg some (by kernel_rfl))⟩
  f47 := Try.func100.trans (congrArg some (by kernel_rfl))
  f48 := Try.func101.trans (congrArg some (by kernel_rfl))
  f49 := ⟨Try.f102.name, by decide, Try.func102.trans (congrArg some (by kernel_rfl))⟩
  f50 := ⟨Try.f103.name, by decide, Try.func103.trans (congrArg some (by kernel_rfl))⟩
  f57 := ⟨Try.f104.name, by decide, Try.func104.trans (congrArg some (by kernel_rfl))⟩
  t0 := Try.underlying0
  a0 := Try.isAgg0
  z0 := Try.sizeOf0
  v0 := Try.zeroValue0
  t3 := Try.underlying3
  a3 := Try.isAgg3
  z3 := Try.sizeOf3
  v3 := Try.zeroValue3
  t4 := Try.underlying4
  a4 := Try.isAgg4
  z4 := Try.sizeOf4
  v4 := Try.zeroValue4
  t5 := Try.underlying5
  a5 := Try.isAgg5
  z5 := Try.sizeOf5
  v5 := Try.zeroValue5
  t9 := Try.underlying9
  a9 := Try.isAgg9
  z9 := Try.sizeOf9
  v9 := Try.zeroValue9
  t22 := Try.underlying41
  a22 := Try.isAgg41
  z22 := Try.sizeOf41
  v22 := Try.zeroValue41
  t25 := Try.underlying125
  a25 := Try.isAgg125
  z25 := Try.sizeOf125
  v25 := Try.zeroValue125
  t39 := Try.underlying116
  a39 := Try.isAgg116
  z39 := Try.sizeOf116
  v39 := Try.zeroValue116
  t45 := Try.underlying129
  a45 := Try.isAgg129
  z45 := Try.sizeOf129
  v45 := Try.zeroValue129
  t46 := Try.underlying130
  a46 := Try.isAgg130
  z46 := Try.sizeOf130
  v46 := Try.zeroValue130
  t50 := Try.underlying58
  a50 := Try.isAgg58
  z50 := Try.sizeOf58
  v50 := Try.zeroValue58
  t53 := Try.underlying136
  a53 := Try.isAgg136
  z53 := Try.sizeOf136
  v53 := Try.zeroValue136
  t55 := Try.underlying65
  a55 := Try.isAgg65
  z55 := Try.sizeOf65
  v55 := Try.zeroValue65
  t66 := Try.underlying138
  a66 := Try.isAgg138
  z66 := Try.sizeOf138
  v66 := Try.zeroValue138
  t70 := Try.underlying142
  a70 := Try.isAgg142
  z70 := Try.sizeOf142
  v70 := Try.zeroValue142
  t76 := Try.underlying144
  a76 := Try.isAgg144
  z76 := Try.sizeOf144
  v76 := Try.zeroValue144
  t77 := Try.underlying145
  a77 := Try.isAgg145
  z77 := Try.sizeOf145
  v77 := Try.zeroValue145 }
def Try.cloneL_ren : Go.Shelf.Ren := ⟨fun | 41 => 81 | n => n, fun | 22 => 41 | 23 => 70 | 4 => 4 | n => n, fun | n => n⟩
theorem Try.cloneL : Go.Proofs.SlLaysE0.n41 Try.prog Try.cloneL_ren := {
  mixed := by kernel_rfl
  f41 := ⟨Try.f81.name, by decide, Try.func81.trans (congrArg some (by kernel_rfl))⟩
  t4 := Try.underlying4
  a4 := Try.isAgg4
  z4 := Try.sizeOf4
  v4 := Try.zeroValue4
  t22 := Try.underlying41
  a22 := Try.isAgg41
  z22 := Try.sizeOf41
  v22 := Try.zeroValue41 }
end Go.Proofs

namespace Go.Proofs.Ytphhdkffnboboaa
open Go.RowKit Go.Shelf Go.Lib
set_option maxHeartbeats 1000000 in
set_option maxRecDepth 100000 in
theorem below_drewN {B : Nat} {a w : World} (h : Below B a w) (n : Nat) : Below B a (w.drewN n) := ⟨h.os, h.tape, h.output, h.size, h.block⟩
theorem ret_bool {a b : Bool} (h : a = b) : Ending.returned (.bool a) = .returned (.bool b) := by rw [h]
theorem add0 (g j : Nat) : (Addr.mk g 0 none).add j = ⟨g, j, none⟩ := by
  unfold Addr.add
  by_cases h : j = 0 <;> simp [h]
/-- A block that is known whole. -/
def Cells (W : World) (g t : Nat) (cs : Array Value) : Prop := W.heap[g]? = some (.cells cs t (0, 0))
theorem Cells.lt {W : World} {g t : Nat} {cs : Array Value} (h : Cells W g t cs) : g < W.heap.size := (Array.getElem?_eq_some_iff.1 h).1
theorem Cells.cell {W : World} {g t : Nat} {cs : Array Value} (h : Cells W g t cs) (i : Nat) : W.cell? ⟨g, i, none⟩ = cs[i]? := by
  simp [World.cell?, show W.heap[g]? = _ from h]
theorem own_block_lt {w : World} {base e size n : Nat} {v : Value} {xs : List Value} (h : w.ownsRow base e size v n xs) : ∀ k, v.ownBlock = some k → base ≤ k ∧ k < w.heap.size := by
  rcases h.2 with ⟨rfl, _⟩ | ⟨g, cap, cur, rfl, hb, hh, _⟩
  · intro k e; simp [Value.ownBlock] at e
  · intro k e
    obtain rfl : g = k := by simpa [Value.ownBlock] using e
    exact ⟨hb, (Array.getElem?_eq_some_iff.1 hh).1⟩

theorem grown_of_below {A B : World} (h : Below A.heap.size A B) : A.grownBy B none := ⟨h.os, h.tape, h.output, h.size, fun k hk _ => h.block k hk⟩
theorem ownsRow_below {w w' : World} {base e size n : Nat} {v : Value} {xs : List Value} (h : w.ownsRow base e size v n xs) (hb : Below w.heap.size w w') : w'.ownsRow base e size v n xs :=
  h.kept (grown_of_below hb) (by cases v.ownBlock <;> simp)

end Go.Proofs.Ytphhdkffnboboaa

namespace Go.Proofs.Ytphhdkffnboboaa
open Go.RowKit Go.Shelf
open Go.Lib

/-- Ranges that lie one behind the other. -/
def RgAt (w : World) (b o : Nat) (xs : List Rng) : Prop :=
  ∀ i x, xs[i]? = some x → w.cell? ⟨b, o + i * 2, none⟩ = some (.int .i32 x.1) ∧ w.cell? ⟨b, o + i * 2 + 1, none⟩ = some (.int .i32 x.2)
def I32 (x : Rng) : Prop := -2147483648 ≤ x.1 ∧ x.1 ≤ 2147483647 ∧ -2147483648 ≤ x.2 ∧ x.2 ≤ 2147483647
/-- A slice of ranges, below block B. -/
def RS (w : World) (B : Nat) (A : Option Addr) (cap : Nat) (xs : List Rng) : Prop :=
  xs.length ≤ cap ∧ cap ≤ maxLen ∧ (∀ x ∈ xs, I32 x) ∧ (xs ≠ [] → ∃ b o, A = some ⟨b, o, none⟩ ∧ b < B ∧ RgAt w b o xs)

theorem RgAt.below {w w' : World} {b o B : Nat} {xs : List Rng} (h : RgAt w b o xs) (hb : b < B) (hB : Below B w w') : RgAt w' b o xs := fun i x hx => by
  obtain ⟨h1, h2⟩ := h i x hx
  exact ⟨(hB.cell (p := ⟨b, o + i * 2, none⟩) hb).trans h1, (hB.cell (p := ⟨b, o + i * 2 + 1, none⟩) hb).trans h2⟩
theorem RS.below {w w' : World} {B : Nat} {A : Option Addr} {cap : Nat} {xs : List Rng} (h : RS w B A cap xs) (hB : Below B w w') : RS w' B A cap xs :=
  ⟨h.1, h.2.1, h.2.2.1, fun hn => by obtain ⟨b, o, rfl, hb, hR⟩ := h.2.2.2 hn; exact ⟨b, o, rfl, hb, hR.below hb hB⟩⟩
theorem RS.mono {w : World} {B B' : Nat} {A : Option Addr} {cap : Nat} {xs : List Rng} (h : RS w B A cap xs) (hB : B ≤ B') : RS w B' A cap xs :=
  ⟨h.1, h.2.1, h.2.2.1, fun hn => by obtain ⟨b, o, rfl, hb, hR⟩ := h.2.2.2 hn; exact ⟨b, o, rfl, by omega, hR⟩⟩
theorem RS.i32 {w : World} {B : Nat} {A : Option Addr} {cap : Nat} {xs : List Rng} (h : RS w B A cap xs) {k : Nat} {x : Rng} (hx : xs[k]? = some x) : I32 x := h.2.2.1 x (List.mem_of_getElem? hx)

theorem below_new (w : World) (o : Obj) : Below w.heap.size w (w.alloc o) := (Below.refl _ _).alloc (Nat.le_refl _) o

set_option maxHeartbeats 1000000 in
theorem inB_any (lo hi : Int) (h : I32 (lo, hi)) (w : World) : Calls Try.prog 78 #[.agg #[.int .i32 lo, .int .i32 hi]] w fun e w' => e = .returned (.bool (may (lo, hi))) ∧ Below w.heap.size w w' := by
  obtain ⟨h1, h2, h3, h4⟩ := h
  by_cases c1 : 0 ≤ lo
  · by_cases c2 : lo ≤ hi
    · by_cases c3 : hi ≤ 1114111
      · have e : may (lo, hi) = true := by simp [may, c1, c2, c3]
        rw [e]
        go_enter Try.func78, Try.ntmps78
        go_wp2
        go_ret
        exact ⟨rfl, below_new _ _⟩
      · have e : may (lo, hi) = false := by simp [may, c1, c2, c3]
        rw [e]
        have d : decide (hi ≤ 1114111) = false := by simpa using c3
        go_enter Try.func78, Try.ntmps78
        go_wp2
        go_ret
        exact ⟨rfl, below_new _ _⟩
    · have e : may (lo, hi) = false := by simp [may, c1, c2]
      rw [e]
      have d : decide (lo ≤ hi) = false := by simpa using c2
      go_enter Try.func78, Try.ntmps78
      go_wp2
      go_ret
      exact ⟨rfl, below_new _ _⟩
  · have e : may (lo, hi) = false := by simp [may, c1]
    rw [e]
    have d : decide (0 ≤ lo) = false := by simpa using c1
    go_enter Try.func78, Try.ntmps78
    go_wp2
    go_ret
    exact ⟨rfl, below_new _ _⟩

set_option maxHeartbeats 1000000 in
theorem mayr_any (lo hi : Int) (h : I32 (lo, hi)) (w : World) : Calls Try.prog 73 #[.agg #[.int .i32 lo, .int .i32 hi]] w fun e w' => e = .returned (.bool (may (lo, hi))) ∧ Below w.heap.size w w' := by
  obtain ⟨h1, h2, h3, h4⟩ := h
  by_cases c1 : 0 ≤ lo
  · by_cases c2 : lo ≤ hi
    · by_cases c3 : hi ≤ 1114111
      · have e : may (lo, hi) = true := by simp [may, c1, c2, c3]
        rw [e]
        go_enter Try.func73, Try.ntmps73
        go_wp2
        go_ret
        exact ⟨rfl, below_new _ _⟩
      · have e : may (lo, hi) = false := by simp [may, c1, c2, c3]
        rw [e]
        have d : decide (hi ≤ 1114111) = false := by simpa using c3
        go_enter Try.func73, Try.ntmps73
        go_wp2
        go_ret
        exact ⟨rfl, below_new _ _⟩
    · have e : may (lo, hi) = false := by simp [may, c1, c2]
      rw [e]
      have d : decide (lo ≤ hi) = false := by simpa using c2
      go_enter Try.func73, Try.ntmps73
      go_wp2
      go_ret
      exact ⟨rfl, below_new _ _⟩
  · have e : may (lo, hi) = false := by simp [may, c1]
    rw [e]
    have d : decide (0 ≤ lo) = false := by simpa using c1
    go_enter Try.func73, Try.ntmps73
    go_wp2
    go_ret
    exact ⟨rfl, below_new _ _⟩
end Go.Proofs.Ytphhdkffnboboaa

namespace Go.Proofs.Ytphhdkffnboboaa
open Go.RowKit Go.Shelf
open Go.Lib Go.BigFrame Go.Sort

set_option maxHeartbeats 2000000 in
theorem right_any (A : Option Addr) (cap : Nat) (xs : List Rng) (w : World) (h : RS w w.heap.size A cap xs) :
    Calls Try.prog 72 #[.slice A xs.length cap] w fun e w' => e = .returned (.bool (right xs)) ∧ Below w.heap.size w w' := by
  have H := Lib.hid h
  have C := Lib.hid inB_any
  have hm : xs.length ≤ maxLen := by have := h.1; have := h.2.1; omega
  obtain ⟨n, hn⟩ : ∃ n, xs.length = n := ⟨_, rfl⟩
  have HN := Lib.hid hn
  unfold maxLen at hm
  rw [hn] at hm ⊢
  clear h hn
  go_enter Try.func72, Try.ntmps72
  go_wp2
  go_loopw [7] (fun i wr => ∃ k : Nat, i = .int .i64 k ∧ k ≤ n ∧ right (xs.take k) = true ∧ Below w.heap.size w wr) (fun i _ => n - (RowKit.intOf i).toNat)
  case atStart => exact ⟨0, rfl, Nat.zero_le _, rfl, Below.refl _ _⟩
  case round =>
    obtain ⟨k, rfl, hk, hr, hb⟩ := hrel
    have HR := Lib.hid hr
    clear hr
    by_cases hlt : k < n
    · obtain ⟨x, hx⟩ : ∃ x, xs[k]? = some x := ⟨xs[k]'(by have := HN.out; omega), List.getElem?_eq_getElem _⟩
      obtain ⟨b, o, rfl, hbl, hRg⟩ := H.out.2.2.2 (by intro e; rw [e] at hx; simp at hx)
      obtain ⟨q1, q2⟩ := (hRg.below hbl hb) k x hx
      have hi := H.out.i32 hx
      have HX := Lib.hid hx
      have HG := Lib.hid hRg
      clear hRg hx
      obtain ⟨lo, hi'⟩ := x
      have i1 : (k : Int) < (n : Int) := by omega
      go_wp2_with fail
      have hb1 : Below w.heap.size w (wr.alloc (.cells #[.int .i32 lo, .int .i32 hi'] 70)) := hb.alloc hb.size _
      have f0 : (wr.alloc (.cells #[.int .i32 lo, .int .i32 hi'] 70)).cell? ⟨wr.heap.size, 0, none⟩ = some (.int .i32 lo) := by simp
      have f1 : (wr.alloc (.cells #[.int .i32 lo, .int .i32 hi'] 70)).cell? ⟨wr.heap.size, 1, none⟩ = some (.int .i32 hi') := by simp
      generalize wr.alloc (.cells #[.int .i32 lo, .int .i32 hi'] 70) = W1 at *
      generalize wr.heap.size = B1 at *
      have HB := Lib.hid hb1
      have g0 := cell_regrown f0
      have g1 := cell_regrown f1
      have C1 : ∀ d os, Calls Try.prog 78 #[.agg #[.int .i32 lo, .int .i32 hi']] (grow (redrawn W1 d) os) fun e w'' => e = .returned (.bool (may (lo, hi'))) ∧ ∃ p : Regrown, w'' = grow (redrawn W1 p.d) p.os := fun d os => Calls.regrown_of (C.out lo hi' hi _)
      have HS := Lib.hid (right_step xs k (lo, hi') HX.out)
      clear f0 f1 hb hb1 q1 q2
      obtain ⟨M, hM⟩ : ∃ M, may (lo, hi') = M := ⟨_, rfl⟩
      rw [hM] at C1
      cases M
      · have HF := Lib.hid (right_false xs (k + 1) (by rw [HS.out, hM, Bool.and_false]))
        refine wp_region_quiet_below (by kernel_rfl) (by kernel_rfl) ?_
        repeat (go_big_quiet_step (exact C1 _ _))
        refine wpQuiet_nil ?_
        intro _ hw'
        obtain ⟨⟨dq, osq⟩, hw''⟩ := hw'
        subst hw''
        have hbz := HB.out.trans ((below_regrown W1 dq osq).mono HB.out.size)
        go_wp2
        go_ret
        exact ⟨by rw [HF.out]; rfl, hbz⟩
      · obtain _ | m := k
        · have HF := Lib.hid (show right (xs.take (0 + 1)) = true by
            rw [HS.out, hM, Bool.and_true]
            have := (may_iff _).1 hM
            simp [right, rightFrom, hiOf]
            omega)
          refine wp_region_quiet_below (by kernel_rfl) (by kernel_rfl) ?_
          repeat (go_big_quiet_step (exact C1 _ _))
          refine wpQuiet_nil ?_
          intro _ hw'
          obtain ⟨⟨dq, osq⟩, hw''⟩ := hw'
          subst hw''
          have hbz := HB.out.trans ((below_regrown W1 dq osq).mono HB.out.size)
          go_wp2
          go_roundw
          case rel => exact ⟨1, by go_num, by omega, HF.out, hbz⟩
          case measure => simp [RowKit.intOf]; omega
        · obtain ⟨y, hy⟩ : ∃ y, xs[m]? = some y := ⟨xs[m]'(by have := HN.out; omega), List.getElem?_eq_getElem _⟩
          have q := (((HG.out.below hbl HB.out) m y hy).2)
          have q3 := cell_regrown q
          have hiy := H.out.i32 hy
          have hmy := (may_iff _).1 (right_may (b := -1) HR.out y (List.mem_iff_getElem?.2 ⟨m, by rw [List.getElem?_take]; simp [hy]⟩)).1
          rw [hiOf_take xs m y hy, hM, HR.out, Bool.true_and, Bool.and_true] at HS
          obtain ⟨lo', hy'⟩ := y
          have p0 : (0 : Int) < (m : Int) + 1 := by omega
          have p1 : (m : Int) < (n : Int) := by omega
          have p2 : (0 : Int) ≤ (m : Int) := by omega
          have p3 : hy' ≤ 1114111 := hmy.2.2
          have p4 : 0 ≤ hy' := by have := hmy.1; have := hmy.2.1; simp at *; omega
          clear hy q hmy
          by_cases c : lo ≤ hy' + 1
          · have HF := Lib.hid (right_false xs (m + 1 + 1) (by rw [HS.out]; simpa using c))
            clear HS
            refine wp_region_quiet_below (by kernel_rfl) (by kernel_rfl) ?_
            repeat (go_big_quiet_step (exact C1 _ _))
            refine wpQuiet_nil ?_
            intro _ hw'
            obtain ⟨⟨dq, osq⟩, hw''⟩ := hw'
            subst hw''
            have hbz := HB.out.trans ((below_regrown W1 dq osq).mono HB.out.size)
            go_wp2
            go_ret
            exact ⟨by rw [HF.out]; rfl, hbz⟩
          · have HF := Lib.hid (show right (xs.take (m + 1 + 1)) = true by rw [HS.out]; simp; omega)
            have d : decide (lo ≤ hy' + 1) = false := by simpa using c
            clear HS
            refine wp_region_quiet_below (by kernel_rfl) (by kernel_rfl) ?_
            repeat (go_big_quiet_step (exact C1 _ _))
            refine wpQuiet_nil ?_
            intro _ hw'
            obtain ⟨⟨dq, osq⟩, hw''⟩ := hw'
            subst hw''
            have hbz := HB.out.trans ((below_regrown W1 dq osq).mono HB.out.size)
            go_wp2
            go_roundw
            case rel => exact ⟨m + 1 + 1, by go_num, by omega, HF.out, hbz⟩
            case measure => simp [RowKit.intOf]; omega
    · have hkn : k = n := by omega
      have HF := Lib.hid (show right xs = true by have h := HR.out; rwa [hkn, ← HN.out, List.take_length] at h)
      subst hkn
      go_wp2
      go_ret
      exact ⟨by rw [HF.out]; rfl, hb⟩
end Go.Proofs.Ytphhdkffnboboaa

namespace Go.Proofs.Ytphhdkffnboboaa
open Go.RowKit Go.Shelf
open Go.Lib Go.BigFrame Go.Sort

set_option maxHeartbeats 2000000 in
theorem rright_any (A : Option Addr) (cap : Nat) (xs : List Rng) (w : World) (h : RS w w.heap.size A cap xs) :
    Calls Try.prog 47 #[.slice A xs.length cap] w fun e w' => e = .returned (.bool (right xs)) ∧ Below w.heap.size w w' := by
  have H := Lib.hid h
  have C := Lib.hid mayr_any
  have hm : xs.length ≤ maxLen := by have := h.1; have := h.2.1; omega
  obtain ⟨n, hn⟩ : ∃ n, xs.length = n := ⟨_, rfl⟩
  have HN := Lib.hid hn
  unfold maxLen at hm
  rw [hn] at hm ⊢
  clear h hn
  go_enter Try.func47, Try.ntmps47
  go_wp2
  go_loopw [3] (fun i wr => ∃ k : Nat, i = .int .i64 k ∧ k ≤ n ∧ right (xs.take k) = true ∧ Below w.heap.size w wr) (fun i _ => n - (RowKit.intOf i).toNat)
  case atStart => exact ⟨0, rfl, Nat.zero_le _, rfl, Below.refl _ _⟩
  case round =>
    obtain ⟨k, rfl, hk, hr, hb⟩ := hrel
    have HR := Lib.hid hr
    clear hr
    by_cases hlt : k < n
    · obtain ⟨x, hx⟩ : ∃ x, xs[k]? = some x := ⟨xs[k]'(by have := HN.out; omega), List.getElem?_eq_getElem _⟩
      obtain ⟨b, o, rfl, hbl, hRg⟩ := H.out.2.2.2 (by intro e; rw [e] at hx; simp at hx)
      obtain ⟨q1, q2⟩ := (hRg.below hbl hb) k x hx
      have hi := H.out.i32 hx
      have HX := Lib.hid hx
      have HG := Lib.hid hRg
      clear hRg hx
      obtain ⟨lo, hi'⟩ := x
      have i1 : (k : Int) < (n : Int) := by omega
      go_wp2_with fail
      have HB := Lib.hid hb
      generalize hW : wr = W1 at *
      have C1 : ∀ d os, Calls Try.prog 73 #[.agg #[.int .i32 lo, .int .i32 hi']] (grow (redrawn W1 d) os) fun e w'' => e = .returned (.bool (may (lo, hi'))) ∧ ∃ p : Regrown, w'' = grow (redrawn W1 p.d) p.os := fun d os => Calls.regrown_of (C.out lo hi' hi _)
      have HS := Lib.hid (right_step xs k (lo, hi') HX.out)
      clear hb
      obtain ⟨M, hM⟩ : ∃ M, may (lo, hi') = M := ⟨_, rfl⟩
      rw [hM] at C1
      cases M
      · have HF := Lib.hid (right_false xs (k + 1) (by rw [HS.out, hM, Bool.and_false]))
        have g0 := cell_regrown q1
        have g1 := cell_regrown q2
        clear q1 q2
        refine wp_region_quiet_below (by kernel_rfl) (by kernel_rfl) ?_
        repeat (go_big_quiet_step (exact C1 _ _))
        refine wpQuiet_nil ?_
        intro _ hw'
        obtain ⟨⟨dq, osq⟩, hw''⟩ := hw'
        subst hw''
        have hbz := HB.out.trans ((below_regrown W1 dq osq).mono HB.out.size)
        go_wp2
        go_ret
        exact ⟨by rw [HF.out]; rfl, hbz⟩
      · obtain _ | m := k
        · simp at q1 q2
          have g0 := cell_regrown q1
          have g1 := cell_regrown q2
          clear q1 q2
          have HF := Lib.hid (show right (xs.take (0 + 1)) = true by
            rw [HS.out, hM, Bool.and_true]
            have := (may_iff _).1 hM
            simp [right, rightFrom, hiOf]
            omega)
          refine wp_region_quiet_below (by kernel_rfl) (by kernel_rfl) ?_
          repeat (go_big_quiet_step (exact C1 _ _))
          refine wpQuiet_nil ?_
          intro _ hw'
          obtain ⟨⟨dq, osq⟩, hw''⟩ := hw'
          subst hw''
          have hbz := HB.out.trans ((below_regrown W1 dq osq).mono HB.out.size)
          go_wp2
          go_roundw
          case rel => exact ⟨1, by go_num, by omega, HF.out, hbz⟩
          case measure => simp [RowKit.intOf]; omega
        · obtain ⟨y, hy⟩ : ∃ y, xs[m]? = some y := ⟨xs[m]'(by have := HN.out; omega), List.getElem?_eq_getElem _⟩
          have q := (((HG.out.below hbl HB.out) m y hy).2)
          have q3 := cell_regrown q
          have hiy := H.out.i32 hy
          have hmy := (may_iff _).1 (right_may (b := -1) HR.out y (List.mem_iff_getElem?.2 ⟨m, by rw [List.getElem?_take]; simp [hy]⟩)).1
          rw [hiOf_take xs m y hy, hM, HR.out, Bool.true_and, Bool.and_true] at HS
          obtain ⟨lo', hy'⟩ := y
          have g0 := cell_regrown q1
          have g1 := cell_regrown q2
          clear q1 q2
          have hmx := (may_iff _).1 hM
          have p5 : 0 ≤ lo := hmx.1
          have p6 : lo ≤ 1114111 := by have := hmx.2.1; have := hmx.2.2; simp at *; omega
          clear hmx
          have p0 : (0 : Int) < (m : Int) + 1 := by omega
          have p1 : (m : Int) < (n : Int) := by omega
          have p2 : (0 : Int) ≤ (m : Int) := by omega
          have p3 : hy' ≤ 1114111 := hmy.2.2
          have p4 : 0 ≤ hy' := by have := hmy.1; have := hmy.2.1; simp at *; omega
          clear hy q hmy
          by_cases c : lo ≤ hy' + 1
          · have HF := Lib.hid (right_false xs (m + 1 + 1) (by rw [HS.out]; simpa using c))
            have d2 : lo - hy' < 2 := by omega
            clear HS
            refine wp_region_quiet_below (by kernel_rfl) (by kernel_rfl) ?_
            repeat (go_big_quiet_step (exact C1 _ _))
            refine wpQuiet_nil ?_
            intro _ hw'
            obtain ⟨⟨dq, osq⟩, hw''⟩ := hw'
            subst hw''
            have hbz := HB.out.trans ((below_regrown W1 dq osq).mono HB.out.size)
            go_wp2
            go_ret
            exact ⟨by rw [HF.out]; rfl, hbz⟩
          · have HF := Lib.hid (show right (xs.take (m + 1 + 1)) = true by rw [HS.out]; simp; omega)
            have d : decide (lo - hy' < 2) = false := by simp; omega
            clear HS
            refine wp_region_quiet_below (by kernel_rfl) (by kernel_rfl) ?_
            repeat (go_big_quiet_step (exact C1 _ _))
            refine wpQuiet_nil ?_
            intro _ hw'
            obtain ⟨⟨dq, osq⟩, hw''⟩ := hw'
            subst hw''
            have hbz := HB.out.trans ((below_regrown W1 dq osq).mono HB.out.size)
            go_wp2
            go_roundw
            case rel => exact ⟨m + 1 + 1, by go_num, by omega, HF.out, hbz⟩
            case measure => simp [RowKit.intOf]; omega
    · have hkn : k = n := by omega
      have HF := Lib.hid (show right xs = true by have h := HR.out; rwa [hkn, ← HN.out, List.take_length] at h)
      subst hkn
      go_wp2
      go_ret
      exact ⟨by rw [HF.out]; rfl, hb⟩

theorem valid_any (A : Option Addr) (cap : Nat) (xs : List Rng) (w : World) (h : RS w w.heap.size A cap xs) :
    Calls Try.prog 53 #[.slice A xs.length cap] w fun e w' => e = .returned (if right xs then .slice A xs.length cap else .slice none 0 0) ∧ Below w.heap.size w w' := by
  have C := right_any A cap xs w h
  obtain ⟨V, hV⟩ : ∃ V, right xs = V := ⟨_, rfl⟩
  rw [hV] at C ⊢
  have C := Lib.hid C
  clear h hV
  go_enter Try.func53, Try.ntmps53
  go_wp2_with fail
  refine C.out.mono ?_
  rintro e w1 ⟨rfl, hb⟩
  cases V
  · go_wp2
    go_ret
    exact ⟨rfl, hb⟩
  · go_wp2
    go_ret
    exact ⟨rfl, hb⟩

end Go.Proofs.Ytphhdkffnboboaa

namespace Go.Proofs.Ytphhdkffnboboaa
open Go.RowKit Go.Shelf
open Go.Lib

def cell2 (x : Rng) : List Value := [.int .i32 x.1, .int .i32 x.2]
def cells2 (xs : List Rng) : List Value := xs.flatMap cell2
theorem cells2_snoc (xs : List Rng) (x : Rng) : cells2 (xs ++ [x]) = cells2 xs ++ cell2 x := by simp [cells2]
theorem cells2_append (xs ys : List Rng) : cells2 (xs ++ ys) = cells2 xs ++ cells2 ys := by simp [cells2]
theorem cells2_length (xs : List Rng) : (cells2 xs).length = xs.length * 2 := by
  induction xs with
  | nil => rfl
  | cons x xs ih => simp [cells2, cell2] at *; omega
theorem cells2_get (xs : List Rng) (j : Nat) (x : Rng) (h : xs[j]? = some x) : (cells2 xs)[j * 2]? = some (.int .i32 x.1) ∧ (cells2 xs)[j * 2 + 1]? = some (.int .i32 x.2) := by
  induction xs generalizing j with
  | nil => simp at h
  | cons y ys ih =>
    have e : cells2 (y :: ys) = .int .i32 y.1 :: .int .i32 y.2 :: cells2 ys := by simp [cells2, cell2]
    rw [e]
    cases j with
    | zero => simp at h; subst h; simp
    | succ j =>
      have := ih j (by simpa using h)
      have e1 : (j + 1) * 2 = j * 2 + 1 + 1 := by omega
      rw [e1]
      simpa using this
theorem cells2_one (xs : List Rng) : ∀ u ∈ cells2 xs, u.oneCell' = true := by
  intro u hu
  simp [cells2, cell2] at hu
  obtain ⟨a, b, _, h | h⟩ := hu <;> subst h <;> rfl

/-- A row of ranges of the call's own. -/
def HoldsR (B T : Nat) (xs : List Rng) (w : World) (e : Ending) (w' : World) : Prop :=
  ∃ v, e = .returned v ∧ w'.ownsRow B T 2 v xs.length (cells2 xs) ∧ Below B w w'

theorem ownsRow_RS {w : World} {B T : Nat} {v : Value} {xs : List Rng} (h : w.ownsRow B T 2 v xs.length (cells2 xs)) (hI : ∀ x ∈ xs, I32 x) : ∃ A cap, v = .slice A xs.length cap ∧ RS w w.heap.size A cap xs := by
  rcases h.2 with ⟨rfl, h0⟩ | ⟨g, cap, cur, rfl, hb, hh, h1, h2, h3, h4⟩
  · exact ⟨none, 0, by rw [h0], by omega, by unfold maxLen; omega, hI, fun hn => absurd (List.length_eq_zero_iff.1 h0) hn⟩
  · refine ⟨_, cap, rfl, h1, h2, hI, fun _ => ⟨g, 0, rfl, (Array.getElem?_eq_some_iff.1 hh).1, fun i x hx => ?_⟩⟩
    have hlt := (List.getElem?_eq_some_iff.1 hx).1
    obtain ⟨c1, c2⟩ := cells2_get xs i x hx
    rw [Nat.zero_add]
    refine ⟨?_, ?_⟩
    · rw [h.cellAt (i * 2) (by omega), c1]
    · rw [h.cellAt (i * 2 + 1) (by omega), c2]

theorem Try.info70 : (Try.prog.info? 70).map (fun i => (i.zero, i.size, i.bytes)) = some (some (.agg #[.int .i32 0, .int .i32 0]), 2, 8) := by kernel_rfl
theorem Try.info40 : (Try.prog.info? 40).map (fun i => (i.zero, i.size, i.bytes)) = some (some (.agg #[.int .i32 0, .int .i32 0]), 2, 8) := by kernel_rfl

theorem news2 (w : World) (T : TypeId) (x y : Value) (_hx : x.oneCell' = true) (_hy : y.oneCell' = true) : ∀ j u, ([x, y] : List Value)[j]? = some u → (w.alloc (.cells #[x, y] T)).cell? ((⟨w.heap.size, 0, none⟩ : Addr).add j) = some u := by
  intro j u hu
  rw [add0]
  have := Cells.cell (show Cells _ _ T _ from World.alloc_heap_new w (.cells #[x, y] T)) j
  rw [this]
  simpa using hu

set_option maxHeartbeats 4000000 in
set_option maxRecDepth 100000 in
theorem to_any (A : Option Addr) (cap : Nat) (xs : List Rng) (w : World) (h : RS w w.heap.size A cap xs) (hl : xs.length ≤ 1000000) :
    Calls Try.prog 46 #[.slice A xs.length cap] w (HoldsR w.heap.size 70 xs w) := by
  obtain ⟨i0, hi, hz0, hz1, hz2⟩ := info_parts Try.info70
  have H := Lib.hid h
  have hm : xs.length ≤ maxLen := by have := h.1; have := h.2.1; omega
  obtain ⟨n, hn⟩ : ∃ n, xs.length = n := ⟨_, rfl⟩
  have HN := Lib.hid hn
  unfold maxLen at hm
  rw [hn] at hm hl ⊢
  clear h hn
  go_enter Try.func46, Try.ntmps46
  go_wp2
  go_loopw [3, 4] (fun v s wr => ∃ k : Nat, s = .int .i64 k ∧ k ≤ n ∧ wr.ownsRow w.heap.size 70 2 v k (cells2 (xs.take k)) ∧ Below w.heap.size w wr) (fun _ s _ => n - (RowKit.intOf s).toNat)
  case atStart => exact ⟨0, rfl, Nat.zero_le _, World.ownsRow_nil _ _ _ _, Below.refl _ _⟩
  case round =>
    obtain ⟨k, rfl, hk, hown, hb⟩ := hrel
    by_cases hlt : k < n
    · obtain ⟨x, hx⟩ : ∃ x, xs[k]? = some x := ⟨xs[k]'(by have := HN.out; omega), List.getElem?_eq_getElem _⟩
      obtain ⟨b, o, rfl, hbl, hRg⟩ := H.out.2.2.2 (by intro e; rw [e] at hx; simp at hx)
      obtain ⟨q1, q2⟩ := (hRg.below hbl hb) k x hx
      have hT : Hid (xs.take (k + 1) = xs.take k ++ [x]) := Lib.hid (by rw [List.take_add_one, hx]; rfl)
      clear hRg hx
      obtain ⟨lo, hi'⟩ := x
      have i1 : (k : Int) < (n : Int) := by omega
      have own1 : wr.drew.ownsRow w.heap.size 70 2 u3 k (cells2 (xs.take k)) := hown
      have hb1 := hb.drew
      have hlt0 := own_block_lt own1
      have hs1 : w.heap.size ≤ wr.drew.heap.size := hb1.size
      have own2 := own1.alloc (.cells #[.int .i32 lo, .int .i32 hi'] 70)
      have hnews := news2 wr.drew 70 (.int .i32 lo) (.int .i32 hi') rfl rfl
      have h1c : ∀ u ∈ ([.int .i32 lo, .int .i32 hi'] : List Value), u.oneCell' = true := by intro u hu; simp at hu; rcases hu with rfl | rfl <;> rfl
      have hml : k + 1 ≤ maxLen := by unfold maxLen; omega
      have hsz : w.heap.size ≤ (wr.drew.alloc (.cells #[.int .i32 lo, .int .i32 hi'] 70)).heap.size := by rw [World.size_alloc]; omega
      have hO := Lib.hid own2
      have hN2 := Lib.hid hnews
      have hQ := Lib.hid (And.intro h1c (And.intro hml (And.intro hsz (And.intro hb1 hlt0))))
      clear hown own1 hb own2 hnews h1c hml hsz hb1 hlt0
      go_wp2_with fail
      go_region_law (refine step_append_lies _ rfl (.tmp 11) (.tmp 23) 43 rfl w.heap.size 70 i0 (.agg #[.int .i32 0, .int .i32 0]) 2 8 Try.underlying43 hi hz0 hz1 hz2 rfl (by decide) u3 k (cells2 (xs.take k)) (by simp [Act.eval]) hO.out ⟨wr.heap.size, 0, none⟩ 1 1 [.int .i32 lo, .int .i32 hi'] (by simp [Act.eval]) rfl hN2.out hQ.out.1 (by omega) hQ.out.2.1 (by omega) hQ.out.2.2.1 _ rfl ?_; intro g cap2 w2 own3 hgrow _ _)
      all_goals
        have hbz : Below w.heap.size w w2 := (hQ.out.2.2.2.1.alloc hs1 _).grown hgrow hQ.out.2.2.1 (fun k e => (hQ.out.2.2.2.2 k e).1)
        have e3 : cells2 (xs.take k) ++ [.int .i32 lo, .int .i32 hi'] = cells2 (xs.take (k + 1)) := by rw [hT.out, cells2_snoc]; rfl
        rw [e3] at own3
        clear e3 hgrow
        go_wp2
        go_roundw
        case rel => exact ⟨k + 1, by go_num, by omega, own3, hbz⟩
        case measure => simp [RowKit.intOf]; omega
    · have hkn : k = n := by omega
      have e : xs.take k = xs := by rw [hkn, ← HN.out, List.take_length]
      rw [e] at hown
      subst hkn
      clear e
      go_wp2
      go_ret
      exact ⟨u3, rfl, by rw [HN.out]; exact hown, hb⟩
end Go.Proofs.Ytphhdkffnboboaa

namespace Go.Proofs.Ytphhdkffnboboaa
open Go.RowKit Go.Shelf
open Go.Lib Go.Sort

theorem nan_any (a : Int) (w : World) : Calls Try.prog 88 #[.int .i32 a] w fun e w' => e = .returned (.bool false) ∧ w' = w := by
  go_enter Try.func88, Try.ntmps88
  go_wp2
  go_ret
  exact ⟨rfl, rfl⟩

set_option maxHeartbeats 1000000 in
theorem cmp_any (a b : Int) (w : World) : Calls Try.prog 85 #[.int .i32 a, .int .i32 b] w fun e w' => e = .returned (.int .i64 (compareInt a b)) ∧ w' = w := by
  have N := Lib.hid nan_any
  by_cases c1 : a < b
  · have e : compareInt a b = -1 := by unfold compareInt; rw [if_pos c1]
    rw [e]
    go_enter Try.func85, Try.ntmps85
    go_wp2_with fail
    refine (N.out a w).mono ?_
    rintro e w1 ⟨rfl, rfl⟩
    go_wp2_with fail
    refine (N.out b _).mono ?_
    rintro e w1 ⟨rfl, rfl⟩
    go_wp2
    go_ret
    exact ⟨rfl, rfl⟩
  · by_cases c2 : b < a
    · have e : compareInt a b = 1 := by unfold compareInt; rw [if_neg c1, if_pos c2]
      rw [e]
      have d1 : decide (a < b) = false := by simpa using c1
      go_enter Try.func85, Try.ntmps85
      go_wp2_with fail
      refine (N.out a w).mono ?_
      rintro e w1 ⟨rfl, rfl⟩
      go_wp2_with fail
      refine (N.out b _).mono ?_
      rintro e w1 ⟨rfl, rfl⟩
      go_wp2
      go_ret
      exact ⟨rfl, rfl⟩
    · have e : compareInt a b = 0 := by unfold compareInt; rw [if_neg c1, if_neg c2]
      rw [e]
      have d1 : decide (a < b) = false := by simpa using c1
      have d2 : decide (b < a) = false := by simpa using c2
      go_enter Try.func85, Try.ntmps85
      go_wp2_with fail
      refine (N.out a w).mono ?_
      rintro e w1 ⟨rfl, rfl⟩
      go_wp2_with fail
      refine (N.out b _).mono ?_
      rintro e w1 ⟨rfl, rfl⟩
      go_wp2
      go_ret
      exact ⟨rfl, rfl⟩

theorem closure92 (x y : Rng) (W : World) : Calls Try.prog 84 #[.agg #[.int .i32 x.1, .int .i32 x.2], .agg #[.int .i32 y.1, .int .i32 y.2]] W fun e w' => e = .returned (.int .i64 (compareInt x.1 y.1)) ∧ ∃ q os', w' = grow (W.drewN q) os' := by
  have C := Lib.hid fun W' => cmp_any x.1 y.1 W'
  generalize compareInt x.1 y.1 = r at C ⊢
  obtain ⟨x1, x2⟩ := x
  obtain ⟨y1, y2⟩ := y
  simp only at C
  go_enter Try.func84, Try.ntmps84
  go_wp2_with fail
  refine (C.out _).mono ?_
  rintro e w1 ⟨rfl, rfl⟩
  go_wp2
  go_ret
  exact ⟨rfl, 0, _, by rw [alloc_eq_grow, alloc_eq_grow, grow_grow]; rfl⟩

def cmpLo (x y : Rng) : Int := compareInt x.1 y.1
theorem ltLo (x y : Rng) : ltOf cmpLo x y = decide (x.1 < y.1) := by
  unfold ltOf cmpLo compareInt
  by_cases h1 : x.1 < y.1
  · simp [h1]
  · by_cases h2 : y.1 < x.1 <;> simp [h1, h2]
theorem swoLo : SWO (ltOf cmpLo) where
  irrefl x := by rw [ltLo]; simp
  trans x y z h1 h2 := by rw [ltLo] at *; simp at *; omega
  ntrans x y z h1 h2 := by rw [ltLo] at *; simp at *; omega

theorem cmpLays92 (blk off size : Nat) (w : World) : CmpLays Try.prog 84 #[] cell2 2 cmpLo blk off size w :=
  fun _ _ _ _ x y => closure92 x y _

theorem flat_cells2 (xs : List Rng) (t : Nat) (ht : t < xs.length * 2) : (cells2 xs)[t]? = some (flatK cell2 2 xs.toArray)[t]! := by
  rw [get_flatK _ _ _ _ (by simpa using ht)]
  have hj : t / 2 < xs.length := by omega
  obtain ⟨x, hx⟩ : ∃ x, xs[t / 2]? = some x := ⟨xs[t / 2], List.getElem?_eq_getElem _⟩
  have e : xs.toArray[t / 2]! = x := by
    rw [Array.getElem!_eq_getD, Array.getD_eq_getD_getElem?, List.getElem?_toArray, hx]
    rfl
  rw [e]
  obtain ⟨h1, h2⟩ := cells2_get xs (t / 2) x hx
  rcases Nat.mod_two_eq_zero_or_one t with c | c
  · rw [c, show t = t / 2 * 2 by omega]
    simpa [cell2] using h1
  · rw [c, show t = t / 2 * 2 + 1 by omega]
    have e2 : (t / 2 * 2 + 1) / 2 = t / 2 := by omega
    rw [h2]
    rfl

theorem sort_any (B g cap : Nat) (xs : List Rng) (w : World) (hB : B ≤ w.heap.size) (hown : w.ownsRow B 70 2 (.slice (some ⟨g, 0, none⟩) xs.length cap) xs.length (cells2 xs)) (hl : xs.length < 4611686018427387904) :
    Calls Try.prog 83 #[.slice (some ⟨g, 0, none⟩) xs.length cap, .func (.func 84) #[] #[]] w fun e w' =>
      e = .returned (.tuple #[]) ∧ ∃ ys : List Rng, ys.Perm xs ∧ ys.Pairwise (fun x y => x.1 ≤ y.1) ∧ RgAt w' g 0 ys ∧ g < w'.heap.size ∧ Below B w w' := by
  have eg : ∀ args w, (callFunc 84 args).run Try.prog w = .ok (.enter 84 args) w := enters_of Try.func84 (by kernel_rfl) rfl
  obtain ⟨hgB, hgl⟩ := hown.lt g rfl
  have hH : HoldsK cell2 2 w g 0 xs.toArray := fun t ht => by
    have ht' : t < xs.length * 2 := by simpa using ht
    refine ⟨?_, ?_⟩
    · rw [Nat.zero_add, hown.cellAt t ht', flat_cells2 xs t ht']
      rfl
    · rw [Nat.zero_add]
      exact hown.frozenAt t
  have hcon := AnyQ.slices_SortFunc Try.sortL 2 Try.isAgg70 Try.sizeOf70 cell2 (fun _ => rfl) (fun x v hv => by simp [cell2] at hv; rcases hv with rfl | rfl <;> rfl) cmpLo swoLo 84 #[] g 0 cap xs.toArray w eg (cmpLays92 g 0 _ w) hH hgl (by simpa using hl)
  refine Calls.mono hcon ?_
  rintro e w' ⟨rfl, d', n, os, hp, hs, rfl⟩
  refine ⟨rfl, d'.toList, ?_, ?_, ?_, ?_, ?_⟩
  · have h3 := hp.2.2
    have h1 := hp.1
    rw [Array.extract_eq_self_of_le (by omega), Array.extract_eq_self_of_le (by omega)] at h3
    simpa using h3
  · rw [List.pairwise_iff_getElem]
    intro i j hi hj hij
    have h1 := hp.1
    have hs' := hs i j (Nat.zero_le _) hij (by simpa [h1] using hj)
    rw [ltLo] at hs'
    rw [getElem!_pos d' j (by simpa using hj), getElem!_pos d' i (by simpa using hi)] at hs'
    simp at hs'
    simpa using hs'
  · have hK := holdsK_sortWorldK_c cell2 2 w g 0 xs.toArray d' n os hH hgl hp.1
    intro i x hx
    have hi : i < d'.size := by have := (List.getElem?_eq_some_iff.1 hx).1; simpa using this
    have e : d'[i]! = x := by
      rw [getElem!_pos d' i hi]
      rw [Array.getElem?_toList, Array.getElem?_eq_getElem hi] at hx
      injection hx
    have h1 := (hK.cell hi (c := 0) (by omega)).1
    have h2 := (hK.cell hi (c := 1) (by omega)).1
    rw [e] at h1 h2
    exact ⟨h1, h2⟩
  · exact Nat.lt_of_lt_of_le hgl (size_sortWorldK_c cell2 2 w g 0 n d' os)
  · have hb1 := below_putRow (enc := id) (q := n) (d := flatK cell2 2 d') (Below.refl B w) hgB
    have hb2 : Below B (putRow id (Sort.ahead w n) g 0 (flatK cell2 2 d')) (grow (putRow id (Sort.ahead w n) g 0 (flatK cell2 2 d')) os) :=
      ⟨rfl, rfl, rfl, by simp [grow], fun k hk => by
        have : k < (putRow id (Sort.ahead w n) g 0 (flatK cell2 2 d')).heap.size := Nat.lt_of_lt_of_le (Nat.lt_of_lt_of_le hk hB) hb1.size
        exact Array.getElem?_append_left this⟩
    exact hb1.trans hb2
end Go.Proofs.Ytphhdkffnboboaa

namespace Go.Proofs.Ytphhdkffnboboaa
open Go.RowKit Go.Shelf
open Go.Lib

theorem hasR_step (xs : List Rng) (k : Nat) (x : Rng) (r : Int) (h : xs[k]? = some x) : hasR (xs.take (k + 1)) r = (hasR (xs.take k) r || (decide (x.1 ≤ r) && decide (r ≤ x.2))) := by
  rw [List.take_add_one, h, hasR_append]
  simp [hasR]
theorem hasR_take (xs : List Rng) (k : Nat) (r : Int) (h : hasR (xs.take k) r = true) : hasR xs r = true := by
  rw [hasR_iff] at *
  obtain ⟨x, hx, h1⟩ := h
  exact ⟨x, List.mem_of_mem_take hx, h1⟩

theorem take_eq_step (xs ys : List Rng) (k : Nat) (x y : Rng) (hx : xs[k]? = some x) (hy : ys[k]? = some y) (h : xs.take k = ys.take k) : xs.take (k + 1) = ys.take (k + 1) ↔ x = y := by
  rw [List.take_add_one, List.take_add_one, hx, hy, h]
  simp

set_option maxHeartbeats 2000000 in
theorem is_any (A : Option Addr) (cap : Nat) (xs : List Rng) (A' : Option Addr) (cap' : Nat) (ys : List Rng) (w : World) (h : RS w w.heap.size A cap xs) (h' : RS w w.heap.size A' cap' ys) :
    Calls Try.prog 21 #[.slice A xs.length cap, .slice A' ys.length cap'] w fun e w' => e = .returned (.bool (decide (xs = ys))) ∧ Below w.heap.size w w' := by
  have H := Lib.hid h
  have H' := Lib.hid h'
  have hm : xs.length ≤ maxLen := by have := h.1; have := h.2.1; omega
  have hm' : ys.length ≤ maxLen := by have := h'.1; have := h'.2.1; omega
  obtain ⟨n, hn⟩ : ∃ n, xs.length = n := ⟨_, rfl⟩
  obtain ⟨m, hn'⟩ : ∃ m, ys.length = m := ⟨_, rfl⟩
  have HN := Lib.hid hn
  have HN' := Lib.hid hn'
  unfold maxLen at hm hm'
  rw [hn] at hm ⊢
  rw [hn'] at hm' ⊢
  clear h hn h' hn'
  by_cases hnm : n = m
  · subst hnm
    go_enter Try.func21, Try.ntmps21
    go_wp2
    go_loopw [5] (fun i wr => ∃ k q : Nat, i = .int .i64 k ∧ k ≤ n ∧ xs.take k = ys.take k ∧ wr = w.drewN q) (fun i _ => n - (RowKit.intOf i).toNat)
    case atStart => exact ⟨0, 0, rfl, Nat.zero_le _, rfl, rfl⟩
    case round =>
      obtain ⟨k, q, rfl, hk, hF, rfl⟩ := hrel
      have HF := Lib.hid hF
      clear hF
      by_cases hlt : k < n
      · obtain ⟨x, hx⟩ : ∃ x, xs[k]? = some x := ⟨xs[k]'(by have := HN.out; omega), List.getElem?_eq_getElem _⟩
        obtain ⟨y, hy⟩ : ∃ y, ys[k]? = some y := ⟨ys[k]'(by have := HN'.out; omega), List.getElem?_eq_getElem _⟩
        obtain ⟨b, o, rfl, hbl, hRg⟩ := H.out.2.2.2 (by intro e; rw [e] at hx; simp at hx)
        obtain ⟨b', o', rfl, hbl', hRg'⟩ := H'.out.2.2.2 (by intro e; rw [e] at hy; simp at hy)
        obtain ⟨q1, q2⟩ := hRg k x hx
        obtain ⟨q3, q4⟩ := hRg' k y hy
        have HS := Lib.hid (take_eq_step xs ys k x y hx hy HF.out)
        have HE := Lib.hid (show xs = ys → x = y from fun e => by rw [e, hy] at hx; injection hx with hx; exact hx.symm)
        clear hRg hx hRg' hy
        obtain ⟨lo, hi⟩ := x
        obtain ⟨lo', hi'⟩ := y
        have i1 : (k : Int) < (n : Int) := by omega
        have i0 : (0 : Int) ≤ (k : Int) := by omega
        by_cases c1 : lo = lo'
        · subst c1
          by_cases c2 : hi = hi'
          · subst c2
            have HT := Lib.hid (HS.out.2 rfl)
            go_wp2_with fail
            go_quiet (fail)
            go_wp2
            go_roundw
            case rel => exact ⟨k + 1, _, by go_num, by omega, HT.out, rfl⟩
            case measure => simp [RowKit.intOf]; omega
          · have HT := Lib.hid (show decide (xs = ys) = false by simp; intro e; have := HE.out e; simp at this; exact c2 this)
            go_wp2_with fail
            go_quiet (fail)
            go_wp2
            go_ret
            exact ⟨by rw [HT.out]; rfl, below_drewN (below_drewN (Below.refl _ _) _) _⟩
        · have HT := Lib.hid (show decide (xs = ys) = false by simp; intro e; have := HE.out e; simp at this; exact c1 this.1)
          go_wp2_with fail
          go_quiet (fail)
          go_wp2
          go_ret
          exact ⟨by rw [HT.out]; rfl, below_drewN (below_drewN (Below.refl _ _) _) _⟩
      · have hkn : k = n := by omega
        have HT := Lib.hid (show decide (xs = ys) = true by
          have h := HF.out
          rw [List.take_of_length_le (by have := HN.out; omega), List.take_of_length_le (by have := HN'.out; omega)] at h
          simpa using h)
        subst hkn
        go_wp2
        go_ret
        exact ⟨by rw [HT.out]; rfl, below_drewN (Below.refl _ _) _⟩
  · have HT := Lib.hid (show decide (xs = ys) = false by simp; intro e; rw [e, HN'.out] at HN; exact hnm HN.out.symm)
    have i1 : ¬ (n : Int) = (m : Int) := by omega
    go_enter Try.func21, Try.ntmps21
    go_wp2
    go_ret
    exact ⟨by rw [HT.out]; rfl, Below.refl _ _⟩
end Go.Proofs.Ytphhdkffnboboaa

