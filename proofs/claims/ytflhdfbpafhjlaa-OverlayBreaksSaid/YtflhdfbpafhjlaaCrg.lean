/-
  Ranges of numbers as lists of pairs, as they lie in memory.
-/
import Derived.BigQuiet
import Derived.Lib.QuietBelow
import Derived.Test.YtflhdfbpafhjlaaBase
namespace Go.Proofs.Ytflhdfbpafhjlaa
open Go.RowKit Go.Shelf Go.Lib
abbrev Rng := Int × Int
def may (x : Rng) : Bool := decide (0 ≤ x.1) && decide (x.1 ≤ x.2) && decide (x.2 ≤ 1114111)
/-- Ranges that rise from b on, with something between. -/
def rightFrom : Int → List Rng → Bool
  | _, [] => true
  | b, x :: xs => decide (b < x.1) && may x && rightFrom (x.2 + 1) xs
def right (xs : List Rng) : Bool := rightFrom (-1) xs
def hasR (xs : List Rng) (r : Int) : Bool := xs.any fun x => decide (x.1 ≤ r) && decide (r ≤ x.2)
theorem hasR_nil (r : Int) : hasR [] r = false := rfl
theorem hasR_cons (x : Rng) (xs : List Rng) (r : Int) : hasR (x :: xs) r = ((decide (x.1 ≤ r) && decide (r ≤ x.2)) || hasR xs r) := rfl
theorem hasR_cons_iff (x : Rng) (xs : List Rng) (r : Int) : hasR (x :: xs) r = true ↔ (x.1 ≤ r ∧ r ≤ x.2) ∨ hasR xs r = true := by simp [hasR_cons]
theorem hasR_append (xs ys : List Rng) (r : Int) : hasR (xs ++ ys) r = (hasR xs r || hasR ys r) := by simp [hasR]
theorem hasR_iff (xs : List Rng) (r : Int) : hasR xs r = true ↔ ∃ x ∈ xs, x.1 ≤ r ∧ r ≤ x.2 := by simp [hasR]
/-- Ranges that lie one behind the other. -/
def RgAt (w : World) (b o : Nat) (xs : List Rng) : Prop :=
  ∀ i x, xs[i]? = some x → w.cell? ⟨b, o + i * 2, none⟩ = some (.int .i32 x.1) ∧ w.cell? ⟨b, o + i * 2 + 1, none⟩ = some (.int .i32 x.2)
def I32 (x : Rng) : Prop := -2147483648 ≤ x.1 ∧ x.1 ≤ 2147483647 ∧ -2147483648 ≤ x.2 ∧ x.2 ≤ 2147483647
/-- A slice of ranges, below block B. -/
def RS (w : World) (B : Nat) (A : Option Addr) (cap : Nat) (xs : List Rng) : Prop :=
  xs.length ≤ cap ∧ cap ≤ maxLen ∧ (∀ x ∈ xs, I32 x) ∧ (xs ≠ [] → ∃ b o, A = some ⟨b, o, none⟩ ∧ b < B ∧ RgAt w b o xs)

theorem RgAt.below {w w' : World} {b o B : Nat} {xs : List Rng} (h : RgAt w b o xs) (hb : b < B) (hB : Below B w w') : RgAt w' b o xs := fun i x hx => by
  obtain ⟨h1, h2⟩ := h i x hx
  exact ⟨(hB.cell (p := ⟨b, o + i * 2, none⟩) hb).trans h1, (hB.cell (p := ⟨b, o + i * 2 + 1, none⟩) hb).trans h2⟩
theorem RS.below {w w' : World} {B : Nat} {A : Option Addr} {cap : Nat} {xs : List Rng} (h : RS w B A cap xs) (hB : Below B w w') : RS w' B A cap xs :=
  ⟨h.1, h.2.1, h.2.2.1, fun hn => by obtain ⟨b, o, rfl, hb, hR⟩ := h.2.2.2 hn; exact ⟨b, o, rfl, hb, hR.below hb hB⟩⟩
theorem RS.mono {w : World} {B B' : Nat} {A : Option Addr} {cap : Nat} {xs : List Rng} (h : RS w B A cap xs) (hB : B ≤ B') : RS w B' A cap xs :=
  ⟨h.1, h.2.1, h.2.2.1, fun hn => by obtain ⟨b, o, rfl, hb, hR⟩ := h.2.2.2 hn; exact ⟨b, o, rfl, by omega, hR⟩⟩
theorem RS.i32 {w : World} {B : Nat} {A : Option Addr} {cap : Nat} {xs : List Rng} (h : RS w B A cap xs) {k : Nat} {x : Rng} (hx : xs[k]? = some x) : I32 x := h.2.2.1 x (List.mem_of_getElem? hx)

def cell2 (x : Rng) : List Value := [.int .i32 x.1, .int .i32 x.2]
def cells2 (xs : List Rng) : List Value := xs.flatMap cell2
theorem cells2_length (xs : List Rng) : (cells2 xs).length = xs.length * 2 := by
  induction xs with
  | nil => rfl
  | cons x xs ih => simp [cells2, cell2] at *; omega
theorem cells2_get (xs : List Rng) (j : Nat) (x : Rng) (h : xs[j]? = some x) : (cells2 xs)[j * 2]? = some (.int .i32 x.1) ∧ (cells2 xs)[j * 2 + 1]? = some (.int .i32 x.2) := by
  induction xs generalizing j with
  | nil => simp at h
  | cons y ys ih =>
    have e : cells2 (y :: ys) = .int .i32 y.1 :: .int .i32 y.2 :: cells2 ys := by simp [cells2, cell2]
    rw [e]
    cases j with
    | zero => simp at h; subst h; simp
    | succ j =>
      have := ih j (by simpa using h)
      have e1 : (j + 1) * 2 = j * 2 + 1 + 1 := by omega
      rw [e1]
      simpa using this
theorem cells2_one (xs : List Rng) : ∀ u ∈ cells2 xs, u.oneCell' = true := by
  intro u hu
  simp [cells2, cell2] at hu
  obtain ⟨a, b, _, h | h⟩ := hu <;> subst h <;> rfl

/-- What a slice's address looks like. -/
def Fm (A : Option Addr) (cap : Nat) : Prop := (A = none ∧ cap = 0) ∨ ∃ b o, A = some ⟨b, o, none⟩
theorem RS_nil (w : World) (B : Nat) : RS w B none 0 [] := ⟨Nat.le_refl _, by unfold maxLen; omega, fun x hx => by simp at hx, fun h => absurd rfl h⟩
/-- A list of ranges in memory, with its address's form. -/
structure SW (w : World) (A : Option Addr) (c : Nat) (xs : List Rng) : Prop where
  r : RS w w.heap.size A c xs
  f : Fm A c
theorem SW.below {w w' : World} {A : Option Addr} {c : Nat} {xs : List Rng} (h : SW w A c xs) (hb : Below w.heap.size w w') : SW w' A c xs := ⟨(h.r.below hb).mono hb.size, h.f⟩
theorem SW.nil (w : World) : SW w none 0 [] := ⟨RS_nil _ _, .inl ⟨rfl, rfl⟩⟩
/-- What a call hands back that makes a list. -/
def SP (xs : List Rng) (w : World) (e : Ending) (w' : World) : Prop := ∃ A c, e = .returned (.slice A xs.length c) ∧ SW w' A c xs ∧ Below w.heap.size w w'
end Go.Proofs.Ytflhdfbpafhjlaa
