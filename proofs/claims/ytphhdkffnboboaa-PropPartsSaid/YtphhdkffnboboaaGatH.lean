/-
  The document's gather, in plain words: between two places where something may change, nothing changes.
  Contracts: virguleref02.gather, at each of its four kinds.
-/
import Derived.Test.YtphhdkffnboboaaRg15
import Derived.Deep.QuietTactic
import Derived.IntWalk
import Derived.Test.YtphhdkffnboboaaRg11
import Derived.Test.YtphhdkffnboboaaRg12
namespace Go.Proofs.Ytphhdkffnboboaa

/-- What is wanted of a number, by how. -/
def wantR (how : Int) (x y : Bool) : Bool := if how = 1 then x && y else if how = 2 then x && !y else if how = 3 then !x else x || y
def gatF (how : Int) (xs ys : List Rng) (r : Int) : Bool := wantR how (hasR xs r) (hasR ys r)

theorem pw_gap {l : List Int} (h : l.Pairwise (· < ·)) {i : Nat} {p q : Int} (hp : l[i]? = some p) (hq : l[i + 1]? = some q) : p < q ∧ ∀ x ∈ l, x ≤ p ∨ q ≤ x := by
  obtain ⟨h1, rfl⟩ := List.getElem?_eq_some_iff.1 hp
  obtain ⟨h2, rfl⟩ := List.getElem?_eq_some_iff.1 hq
  have H := List.pairwise_iff_getElem.1 h
  refine ⟨H i (i + 1) h1 h2 (by omega), fun x hx => ?_⟩
  obtain ⟨j, hj⟩ := List.mem_iff_getElem?.1 hx
  obtain ⟨h3, rfl⟩ := List.getElem?_eq_some_iff.1 hj
  rcases Nat.lt_trichotomy j i with c | c | c
  · exact .inl (Int.le_of_lt (H j i h3 h1 c))
  · subst c; exact .inl (Int.le_refl _)
  · rcases Nat.lt_or_ge (i + 1) j with c2 | c2
    · exact .inr (Int.le_of_lt (H (i + 1) j h2 h3 c2))
    · obtain rfl : j = i + 1 := by omega
      exact .inr (Int.le_refl _)
theorem pts_bounds {xs : List Rng} {l : List Int} (h : PtsAll xs l) (hm : ∀ x ∈ xs, may x = true) : ∀ x ∈ l, 0 ≤ x ∧ x ≤ 1114112 := by
  intro x hx
  rcases (h.m x).1 hx with e | e | ⟨y, hy, e⟩
  · omega
  · omega
  · have := (may_iff y).1 (hm y hy)
    omega
theorem pts_first {xs : List Rng} {l : List Int} (h : PtsAll xs l) (hm : ∀ x ∈ xs, may x = true) : l[0]? = some 0 := by
  obtain ⟨j, hj⟩ := List.mem_iff_getElem?.1 ((h.m 0).2 (.inl rfl))
  obtain ⟨h3, e⟩ := List.getElem?_eq_some_iff.1 hj
  have h0 : 0 < l.length := by omega
  rw [List.getElem?_eq_getElem h0]
  have hb := (pts_bounds h hm l[0] (List.getElem_mem h0)).1
  rcases Nat.eq_zero_or_pos j with c | c
  · subst c; rw [e]
  · have := List.pairwise_iff_getElem.1 h.s 0 j h0 h3 c
    omega
theorem pts_last {xs : List Rng} {l : List Int} (h : PtsAll xs l) (hm : ∀ x ∈ xs, may x = true) {i : Nat} {p : Int} (hp : l[i]? = some p) (hi : l.length ≤ i + 1) : p = 1114112 := by
  obtain ⟨j, hj⟩ := List.mem_iff_getElem?.1 ((h.m 1114112).2 (.inr (.inl rfl)))
  obtain ⟨h3, e⟩ := List.getElem?_eq_some_iff.1 hj
  obtain ⟨h1, e1⟩ := List.getElem?_eq_some_iff.1 hp
  have hb := (pts_bounds h hm l[i] (List.getElem_mem h1)).2
  rcases Nat.lt_or_ge j i with c | c
  · have := List.pairwise_iff_getElem.1 h.s j i h3 h1 c
    omega
  · obtain rfl : j = i := by omega
    rw [← e1, e]
theorem pts_len {xs : List Rng} {l : List Int} (h : PtsAll xs l) : 0 < l.length := by
  obtain ⟨j, hj⟩ := List.mem_iff_getElem?.1 ((h.m 0).2 (.inl rfl))
  have := (List.getElem?_eq_some_iff.1 hj).1
  omega
theorem has_const {zs : List Rng} {l : List Int} (hz : ∀ y ∈ zs, y.1 ∈ l ∧ y.2 + 1 ∈ l) {p q : Int} (hg : ∀ x ∈ l, x ≤ p ∨ q ≤ x) {r : Int} (h1 : p ≤ r) (h2 : r < q) : hasR zs r = hasR zs p := by
  rw [Bool.eq_iff_iff, hasR_iff, hasR_iff]
  constructor
  · rintro ⟨y, hy, a, b⟩
    obtain ⟨u, v⟩ := hz y hy
    have := hg _ u
    have := hg _ v
    exact ⟨y, hy, by omega, by omega⟩
  · rintro ⟨y, hy, a, b⟩
    obtain ⟨u, v⟩ := hz y hy
    have := hg _ u
    have := hg _ v
    exact ⟨y, hy, by omega, by omega⟩
theorem gat_const {xs ys : List Rng} {l : List Int} (how : Int) (h : PtsAll (xs ++ ys) l) {p q : Int} (hg : ∀ x ∈ l, x ≤ p ∨ q ≤ x) {r : Int} (h1 : p ≤ r) (h2 : r < q) : gatF how xs ys r = gatF how xs ys p := by
  have e : ∀ y ∈ xs ++ ys, y.1 ∈ l ∧ y.2 + 1 ∈ l := fun y hy => ⟨(h.m _).2 (.inr (.inr ⟨y, hy, .inl rfl⟩)), (h.m _).2 (.inr (.inr ⟨y, hy, .inr rfl⟩))⟩
  unfold gatF
  rw [has_const (fun y hy => e y (List.mem_append_left _ hy)) hg h1 h2, has_const (fun y hy => e y (List.mem_append_right _ hy)) hg h1 h2]

/-- What gather's loop holds: the right list of what is wanted below a place. -/
structure GatInv (f : Int → Bool) (out : List Rng) (N : Int) : Prop where
  r : right out = true
  m : ∀ r, hasR out r = true ↔ 0 ≤ r ∧ r < N ∧ f r = true
theorem gat_start (f : Int → Bool) : GatInv f [] 0 := ⟨rfl, fun r => by simp [hasR]; omega⟩
theorem gat_skip {f : Int → Bool} {out : List Rng} {p q : Int} (I : GatInv f out p) (hp : p < q) (hc : ∀ r, p ≤ r → r < q → f r = f p) (hf : f p = false) : GatInv f out q := by
  refine ⟨I.r, fun r => ?_⟩
  rw [I.m r]
  constructor
  · rintro ⟨a, b, c⟩; exact ⟨a, by omega, c⟩
  · rintro ⟨a, b, c⟩
    refine ⟨a, ?_, c⟩
    rcases Int.lt_or_le r p with d | d
    · exact d
    · rw [hc r d b, hf] at c; cases c
theorem gat_hi {f : Int → Bool} {out : List Rng} {p : Int} (I : GatInv f out p) {pre : List Rng} {z : Rng} (e : out = pre ++ [z]) : z.2 < p ∧ may z = true := by
  subst e
  have hz := (right_may (b := -1) I.r z (by simp)).1
  have h3 := (may_iff z).1 hz
  have := (I.m z.2).1 (by rw [hasR_append, Bool.or_eq_true]; exact .inr ((hasR_cons_iff z [] z.2).2 (.inl ⟨by omega, by omega⟩)))
  exact ⟨this.2.1, hz⟩
theorem gat_merge {f : Int → Bool} {pre : List Rng} {z : Rng} {p q : Int} (I : GatInv f (pre ++ [z]) p) (hp : p < q) (h0 : 0 ≤ p) (hq : q ≤ 1114112) (hc : ∀ r, p ≤ r → r < q → f r = f p) (hf : f p = true) (he : z.2 + 1 = p) : GatInv f (pre ++ [(z.1, q - 1)]) q := by
  have hz := (may_iff z).1 (gat_hi I rfl).2
  have J := join_merge pre z (p, q - 1) I.r ((may_iff _).2 ⟨by dsimp only; omega, by dsimp only; omega, by dsimp only; omega⟩) (by dsimp only; omega) (by dsimp only; omega)
  have em : max z.2 (p, q - 1).2 = q - 1 := by dsimp only; omega
  rw [em] at J
  refine ⟨J.1, fun r => ?_⟩
  rw [J.2 r, Bool.or_eq_true, I.m r]
  simp only [Bool.and_eq_true, decide_eq_true_eq]
  constructor
  · rintro (⟨a, b, c⟩ | ⟨a, b⟩)
    · exact ⟨a, by omega, c⟩
    · exact ⟨by omega, by omega, by rw [hc r a (by omega)]; exact hf⟩
  · rintro ⟨a, b, c⟩
    rcases Int.lt_or_le r p with d | d
    · exact .inl ⟨a, d, c⟩
    · exact .inr ⟨d, by omega⟩
theorem gat_push {f : Int → Bool} {out : List Rng} {p q : Int} (I : GatInv f out p) (hp : p < q) (h0 : 0 ≤ p) (hq : q ≤ 1114112) (hc : ∀ r, p ≤ r → r < q → f r = f p) (hf : f p = true) (he : hiOf (-1) out < p) : GatInv f (out ++ [(p, q - 1)]) q := by
  have J := join_push out (p, q - 1) I.r ((may_iff _).2 ⟨by dsimp only; omega, by dsimp only; omega, by dsimp only; omega⟩) he
  refine ⟨J.1, fun r => ?_⟩
  rw [J.2 r, Bool.or_eq_true, I.m r]
  simp only [Bool.and_eq_true, decide_eq_true_eq]
  constructor
  · rintro (⟨a, b, c⟩ | ⟨a, b⟩)
    · exact ⟨a, by omega, c⟩
    · exact ⟨by omega, by omega, by rw [hc r a (by omega)]; exact hf⟩
  · rintro ⟨a, b, c⟩
    rcases Int.lt_or_le r p with d | d
    · exact .inl ⟨a, d, c⟩
    · exact .inr ⟨d, by omega⟩
theorem gat_push1 {f : Int → Bool} {pre : List Rng} {z : Rng} {p q : Int} (I : GatInv f (pre ++ [z]) p) (hp : p < q) (h0 : 0 ≤ p) (hq : q ≤ 1114112) (hc : ∀ r, p ≤ r → r < q → f r = f p) (hf : f p = true) (he : ¬ z.2 + 1 = p) : GatInv f (pre ++ [z] ++ [(p, q - 1)]) q :=
  gat_push I hp h0 hq hc hf (by have := (gat_hi I rfl).1; rw [hiOf_snoc]; omega)
theorem gat_push0 {f : Int → Bool} {p q : Int} (I : GatInv f [] p) (hp : p < q) (h0 : 0 ≤ p) (hq : q ≤ 1114112) (hc : ∀ r, p ≤ r → r < q → f r = f p) (hf : f p = true) : GatInv f ([] ++ [(p, q - 1)]) q :=
  gat_push I hp h0 hq hc hf (by simp [hiOf]; omega)
end Go.Proofs.Ytphhdkffnboboaa

namespace Go.Proofs.Ytphhdkffnboboaa
open Go.RowKit Go.Shelf
open Go.Lib

theorem own_empty2 (w : World) (base e : Nat) (hb : base ≤ w.heap.size) : (w.alloc (.cells #[] e)).ownsRow base e 2 (.slice (some ⟨w.heap.size, 0, none⟩) 0 0) 0 (cells2 []) :=
  ⟨rfl, .inr ⟨w.heap.size, 0, #[], rfl, hb, World.alloc_heap_new w _, Nat.le_refl _, Nat.zero_le _, rfl, rfl⟩⟩
theorem may_i32 {xs : List Rng} (h : ∀ x ∈ xs, may x = true) : ∀ x ∈ xs, I32 x := fun x hx => by
  have := (may_iff _).1 (h x hx)
  exact ⟨by omega, by omega, by omega, by omega⟩
/-- What gather hands back: the right list of what is wanted. -/
def GatPost (how : Int) (xs ys : List Rng) (w : World) (e : Ending) (w' : World) : Prop :=
  ∃ out : List Rng, right out = true ∧ (∀ r, hasR out r = true ↔ 0 ≤ r ∧ r < 1114112 ∧ gatF how xs ys r = true) ∧ out.length ≤ 2 * (xs.length + ys.length) + 2 ∧ HoldsR w.heap.size 40 out w e w'
end Go.Proofs.Ytphhdkffnboboaa
