/-
  Contracts: ranges.Union.
-/
import Derived.Test.YtphhdkffnboboaaRg10
namespace Go.Proofs.Ytphhdkffnboboaa
open Go.RowKit Go.Shelf
open Go.Lib

abbrev Sl3 := Option Addr × Nat × List Rng
def accOf (ls : List Sl3) : List Rng := ls.flatMap fun s => known s.2.2
theorem known_len (xs : List Rng) : (known xs).length ≤ xs.length := by unfold known; split <;> simp
theorem acc_step (ls : List Sl3) (k : Nat) (s : Sl3) (h : ls[k]? = some s) : accOf (ls.take (k + 1)) = accOf (ls.take k) ++ known s.2.2 := by
  rw [List.take_add_one, h]
  simp [accOf]
theorem acc_len (ls : List Sl3) (M : Nat) (h : ∀ s ∈ ls, s.2.2.length ≤ M) : (accOf ls).length ≤ ls.length * M := by
  induction ls with
  | nil => simp [accOf]
  | cons s ls ih =>
    have h1 := ih fun t ht => h t (List.mem_cons_of_mem _ ht)
    have h2 := h s List.mem_cons_self
    have h3 := known_len s.2.2
    simp only [accOf, List.flatMap_cons, List.length_append, List.length_cons] at *
    rw [Nat.add_mul]
    omega
theorem acc_may (ls : List Sl3) : ∀ x ∈ accOf ls, may x = true := fun x hx => by
  obtain ⟨s, _, hs⟩ := List.mem_flatMap.1 hx
  exact (right_may (b := -1) (known_right s.2.2) x hs).1
theorem acc_has (ls : List Sl3) (r : Int) : hasR (accOf ls) r = ls.any fun s => hasR (known s.2.2) r := by
  induction ls with
  | nil => rfl
  | cons s ls ih =>
    show hasR (known s.2.2 ++ accOf ls) r = _
    rw [hasR_append, ih]
    rfl
/-- A list of sets. -/
def SetsAt (w : World) (A : Option Addr) (ls : List Sl3) : Prop :=
  (ls ≠ [] → ∃ b o, A = some ⟨b, o, none⟩ ∧ b < w.heap.size ∧ ∀ i s, ls[i]? = some s → w.cell? ⟨b, o + i, none⟩ = some (.slice s.1 s.2.2.length s.2.1)) ∧
  ∀ s ∈ ls, RS w w.heap.size s.1 s.2.1 s.2.2 ∧ Fm s.1 s.2.1 ∧ s.2.2.length ≤ 100000

end Go.Proofs.Ytphhdkffnboboaa
