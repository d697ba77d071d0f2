/-
  The right list of a set of numbers; how many numbers it has.
  Contracts: the calls that make sets, told by the one right list of the numbers that are wanted.
-/
import Derived.Test.YtphhdkffnboboaaGreatDoorRgMath
import Derived.Test.YtphhdkffnboboaaGreatDoorRg9
namespace Go.Proofs.YtphhdkffnboboaaGreatDoor

/-- The right list of the numbers that f wants, if there is one. -/
noncomputable def norm (f : Int → Bool) : List Rng := open Classical in if h : ∃ out : List Rng, right out = true ∧ ∀ r, hasR out r = f r then h.choose else []
theorem norm_right (f : Int → Bool) : right (norm f) = true := by
  unfold norm
  split
  · rename_i h; exact h.choose_spec.1
  · rfl
theorem norm_eq {f : Int → Bool} {out : List Rng} (hr : right out = true) (h : ∀ r, hasR out r = f r) : out = norm f := by
  have hx : ∃ out : List Rng, right out = true ∧ ∀ r, hasR out r = f r := ⟨out, hr, h⟩
  unfold norm
  rw [dif_pos hx]
  exact right_ext (b := -1) hr hx.choose_spec.1 fun r => by rw [h r, hx.choose_spec.2 r]
theorem norm_has {f : Int → Bool} {out : List Rng} (hr : right out = true) (h : ∀ r, hasR out r = f r) (r : Int) : hasR (norm f) r = f r := by rw [← norm_eq hr h, h r]
theorem norm_self {xs : List Rng} (h : right xs = true) : norm (hasR xs) = xs := (norm_eq h fun _ => rfl).symm

def cardN (N : Nat) (f : Int → Bool) : Nat := (List.range N).countP fun n : Nat => f (n : Int)
def card (f : Int → Bool) : Nat := cardN 1114112 f
theorem countP_or_disj {α : Type} (p q : α → Bool) (l : List α) (h : ∀ x ∈ l, ¬ (p x = true ∧ q x = true)) : l.countP (fun x => p x || q x) = l.countP p + l.countP q := by
  induction l with
  | nil => rfl
  | cons x l ih =>
    have h1 := ih fun y hy => h y (List.mem_cons_of_mem _ hy)
    have h2 := h x List.mem_cons_self
    simp only [List.countP_cons, h1]
    cases hp : p x <;> cases hq : q x <;> simp [hp, hq] at h2 ⊢ <;> omega
theorem countP_interval (lo hi : Int) (N : Nat) (h0 : 0 ≤ lo) (h1 : lo ≤ hi) : ((List.range N).countP fun n : Nat => decide (lo ≤ (n : Int)) && decide ((n : Int) ≤ hi) : Int) = if (N : Int) ≤ lo then 0 else if (N : Int) ≤ hi + 1 then N - lo else hi - lo + 1 := by
  induction N with
  | zero => simp; omega
  | succ N ih =>
    rw [List.range_succ, List.countP_append, Int.natCast_add, ih]
    simp only [List.countP_cons, List.countP_nil, Nat.zero_add, Int.natCast_succ]
    by_cases a : lo ≤ (N : Int)
    · by_cases b : (N : Int) ≤ hi
      · simp only [a, b, decide_true, Bool.and_self, if_true]
        split <;> split <;> (try split) <;> omega
      · simp only [a, b, decide_true, decide_false, Bool.and_false, Bool.false_eq_true, if_false]
        split <;> split <;> (try split) <;> omega
    · simp only [a, decide_false, Bool.false_and, Bool.false_eq_true, if_false]
      split <;> split <;> (try split) <;> omega
theorem card_range (x : Rng) (h : may x = true) : (card (fun r => decide (x.1 ≤ r) && decide (r ≤ x.2)) : Int) = x.2 - x.1 + 1 := by
  obtain ⟨h1, h2, h3⟩ := (may_iff x).1 h
  have := countP_interval x.1 x.2 1114112 h1 h2
  unfold card cardN
  rw [this]
  split
  · omega
  · split <;> omega
theorem card_or {f g : Int → Bool} (h : ∀ r, ¬ (f r = true ∧ g r = true)) : card (fun r => f r || g r) = card f + card g := countP_or_disj _ _ _ fun x _ => h x
theorem countR_card_from {b : Int} {xs : List Rng} (h : rightFrom b xs = true) : countR xs = card (hasR xs) := by
  induction xs generalizing b with
  | nil =>
    have : card (hasR []) = 0 := by unfold card cardN; rw [List.countP_eq_zero]; intro n _; simp [hasR]
    rw [this]
    rfl
  | cons x xs ih =>
    simp only [rightFrom, Bool.and_eq_true, decide_eq_true_eq] at h
    have e : card (hasR (x :: xs)) = card (fun r => decide (x.1 ≤ r) && decide (r ≤ x.2)) + card (hasR xs) := by
      rw [← card_or (f := fun r => decide (x.1 ≤ r) && decide (r ≤ x.2)) (g := hasR xs)]
      · rfl
      · rintro r ⟨a, c⟩
        have := (hasR_gt h.2 c).1
        simp at a
        omega
    rw [countR_cons, ih h.2, e, Int.natCast_add, card_range x h.1.2]
theorem countR_card {xs : List Rng} (h : right xs = true) : countR xs = card (hasR xs) := countR_card_from h
theorem cardN_not (N : Nat) (f : Int → Bool) : cardN N f + cardN N (fun r => !f r) = N := by
  have := List.length_eq_countP_add_countP (fun n : Nat => f n) (l := List.range N)
  rw [List.length_range] at this
  unfold cardN
  rw [show (List.range N).countP (fun n : Nat => !f n) = (List.range N).countP (fun n : Nat => ¬ f n = true) from List.countP_congr fun n _ => by simp]
  exact this.symm
theorem card_not (f : Int → Bool) : card f + card (fun r => !f r) = 1114112 := cardN_not _ f
theorem cardN_congr {N : Nat} {f g : Int → Bool} (h : ∀ n : Nat, n < N → f n = g n) : cardN N f = cardN N g := by
  unfold cardN
  apply List.countP_congr
  intro n hn
  rw [h n (List.mem_range.1 hn)]
theorem card_congr {f g : Int → Bool} (h : ∀ r : Int, 0 ≤ r → r ≤ 1114111 → f r = g r) : card f = card g := cardN_congr fun n hn => h n (by omega) (by omega)
end Go.Proofs.YtphhdkffnboboaaGreatDoor

namespace Go.Proofs.YtphhdkffnboboaaGreatDoor
open Go.RowKit Go.Shelf
open Go.Lib

theorem RS_nil (w : World) (B : Nat) : RS w B none 0 [] := ⟨Nat.le_refl _, by unfold maxLen; omega, fun x hx => by simp at hx, fun h => absurd rfl h⟩
theorem i32_of_right {xs : List Rng} (h : right xs = true) : ∀ x ∈ xs, I32 x := fun x hx => by
  have := (may_iff x).1 (right_may (b := -1) h x hx).1
  unfold I32
  omega
/-- A list of ranges in memory, with its address's form. -/
structure SW (w : World) (A : Option Addr) (c : Nat) (xs : List Rng) : Prop where
  r : RS w w.heap.size A c xs
  f : Fm A c
theorem SW.below {w w' : World} {A : Option Addr} {c : Nat} {xs : List Rng} (h : SW w A c xs) (hb : Below w.heap.size w w') : SW w' A c xs := ⟨(h.r.below hb).mono hb.size, h.f⟩
theorem SW.nil (w : World) : SW w none 0 [] := ⟨RS_nil _ _, .inl ⟨rfl, rfl⟩⟩
theorem sw_own {B T : Nat} {w : World} {v : Value} {xs : List Rng} (h : w.ownsRow B T 2 v xs.length (cells2 xs)) (hI : ∀ x ∈ xs, I32 x) : ∃ A c, v = .slice A xs.length c ∧ SW w A c xs := by
  obtain ⟨A, c, rfl, hR⟩ := ownsRow_RS h hI
  exact ⟨A, c, rfl, hR, ownsRow_Fm h⟩

/-- What a call hands back that makes a list. -/
def SP (xs : List Rng) (w : World) (e : Ending) (w' : World) : Prop := ∃ A c, e = .returned (.slice A xs.length c) ∧ SW w' A c xs ∧ Below w.heap.size w w'
theorem sp_of {T : Nat} {xs : List Rng} {w : World} {e : Ending} {w' : World} (h : HoldsR w.heap.size T xs w e w') (hI : ∀ x ∈ xs, I32 x) : SP xs w e w' := by
  obtain ⟨v, rfl, hown, hb⟩ := h
  obtain ⟨A, c, rfl, hS⟩ := sw_own hown hI
  exact ⟨A, c, rfl, hS, hb⟩
theorem sp_norm {T : Nat} {f : Int → Bool} {out : List Rng} {w : World} {e : Ending} {w' : World} (h : HoldsR w.heap.size T out w e w') (hr : right out = true) (hf : ∀ r, hasR out r = f r) : SP (norm f) w e w' := by
  rw [← norm_eq hr hf]
  exact sp_of h (i32_of_right hr)

theorem make_ok (A : Option Addr) (c : Nat) (xs : List Rng) (w : World) (h : SW w A c xs) (hl : xs.length ≤ 1000) (hm : xs.all may = true) :
    Calls Tryz.prog 12 #[.slice A xs.length c] w fun e w' => ∃ A' c', e = .returned (.tuple #[.slice A' (norm (hasR xs)).length c', .int .i64 0]) ∧ SW w' A' c' (norm (hasR xs)) ∧ (norm (hasR xs)).length ≤ xs.length ∧ (∀ r, hasR (norm (hasR xs)) r = hasR xs r) ∧ Below w.heap.size w w' := by
  refine (make_any A c xs w h.r h.f (by omega)).mono ?_
  rintro e w' ⟨hb, h2⟩
  rw [if_neg (by omega), if_pos hm] at h2
  obtain ⟨v, out, rfl, hr, hh, hol, hown⟩ := h2
  have hn := norm_eq hr hh
  subst hn
  obtain ⟨A', c', rfl, hS⟩ := sw_own hown (i32_of_right hr)
  exact ⟨A', c', rfl, hS, hol, hh, hb⟩
theorem make_bad (A : Option Addr) (c : Nat) (xs : List Rng) (w : World) (h : SW w A c xs) (hl : xs.length ≤ 1000) (hm : xs.all may = false) :
    Calls Tryz.prog 12 #[.slice A xs.length c] w fun e w' => e = .returned (.tuple #[.slice none 0 0, .int .i64 1]) ∧ Below w.heap.size w w' := by
  refine (make_any A c xs w h.r h.f (by omega)).mono ?_
  rintro e w' ⟨hb, h2⟩
  rw [if_neg (by omega), hm, if_neg (by simp)] at h2
  exact ⟨h2, hb⟩
theorem make_long (A : Option Addr) (c : Nat) (xs : List Rng) (w : World) (h : SW w A c xs) (hl : 1000 < xs.length) (hl2 : xs.length ≤ 1000000) :
    Calls Tryz.prog 12 #[.slice A xs.length c] w fun e w' => e = .returned (.tuple #[.slice none 0 0, .int .i64 3]) ∧ Below w.heap.size w w' := by
  refine (make_any A c xs w h.r h.f hl2).mono ?_
  rintro e w' ⟨hb, h2⟩
  rw [if_pos hl] at h2
  exact ⟨h2, hb⟩
/-- An argument. -/
structure AW (w : World) (A : Option Addr) (c : Nat) (xs : List Rng) : Prop where
  r : RS w w.heap.size A c xs
  f : Fw A c
theorem AW.below {w w' : World} {A : Option Addr} {c : Nat} {xs : List Rng} (h : AW w A c xs) (hb : Below w.heap.size w w') : AW w' A c xs := ⟨(h.r.below hb).mono hb.size, h.f⟩
theorem AW.nil (w : World) : AW w none 0 [] := ⟨RS_nil _ _, fun _ => rfl⟩
/-- What Known hands back of an argument. -/
def AP (xs : List Rng) (w : World) (e : Ending) (w' : World) : Prop := ∃ A c, e = .returned (.slice A xs.length c) ∧ AW w' A c xs ∧ Below w.heap.size w w'
theorem to_sp (A : Option Addr) (c : Nat) (xs : List Rng) (w : World) (h : AW w A c xs) (hl : xs.length ≤ 1000000) : Calls Tryz.prog 7 #[.slice A xs.length c] w (SP xs w) := by
  refine (to_any A c xs w h.r hl).mono ?_
  rintro e w' hH
  exact sp_of hH h.r.2.2.1
theorem known_sp (A : Option Addr) (c : Nat) (xs : List Rng) (w : World) (h : AW w A c xs) : Calls Tryz.prog 5 #[.slice A xs.length c] w (AP (known xs) w) := by
  refine (known_any A c xs w h.r).mono ?_
  rintro e w' ⟨rfl, hb⟩
  by_cases hc : right xs = true
  · rw [if_pos hc]
    exact ⟨A, c, by rw [known_of hc], by rw [known_of hc]; exact h.below hb, hb⟩
  · rw [if_neg hc]
    have e : known xs = [] := by unfold known; rw [if_neg hc]
    exact ⟨none, 0, by rw [e]; rfl, by rw [e]; exact AW.nil _, hb⟩

def orR (xs ys : List Rng) (r : Int) : Bool := hasR xs r || hasR ys r
end Go.Proofs.YtphhdkffnboboaaGreatDoor
