/-
  The right list of a set of numbers; how many numbers it has.
  Contracts: the calls that make sets, told by the one right list of the numbers that are wanted.
  Plain: a list of ranges that grows by ranges behind it; the ranges of a class.
  Contracts: trie.extend; the ranges of a block.
  Contracts: trie.fill.
  Blocks as keys of a map; blocks that are alike.
-/
import Derived.Test.YtphhdkffnboboaaPaa
import Derived.Test.YtphhdkffnboboaaPac
import Derived.BigQuiet
import Derived.Deep.QuietTactic
import Derived.Deep.AppendLies
import Derived.Laws.OwnMore
import Derived.IntWalk
import Derived.BigRegion
import Derived.RegionTactic
import Derived.Great.Walk
import Derived.Laws.Rows
import Derived.Laws.Tables
import Derived.Maps.OwnSet
import Derived.Maps.Views
import Derived.DeepKeys4
namespace Go.Proofs.Ytphhdkffnboboaa

/-- The right list of the numbers that f wants, if there is one. -/
noncomputable def norm (f : Int → Bool) : List Rng := open Classical in if h : ∃ out : List Rng, right out = true ∧ ∀ r, hasR out r = f r then h.choose else []
theorem norm_right (f : Int → Bool) : right (norm f) = true := by
  unfold norm
  split
  · rename_i h; exact h.choose_spec.1
  · rfl
theorem norm_eq {f : Int → Bool} {out : List Rng} (hr : right out = true) (h : ∀ r, hasR out r = f r) : out = norm f := by
  have hx : ∃ out : List Rng, right out = true ∧ ∀ r, hasR out r = f r := ⟨out, hr, h⟩
  unfold norm
  rw [dif_pos hx]
  exact right_ext (b := -1) hr hx.choose_spec.1 fun r => by rw [h r, hx.choose_spec.2 r]
theorem norm_has {f : Int → Bool} {out : List Rng} (hr : right out = true) (h : ∀ r, hasR out r = f r) (r : Int) : hasR (norm f) r = f r := by rw [← norm_eq hr h, h r]
theorem norm_self {xs : List Rng} (h : right xs = true) : norm (hasR xs) = xs := (norm_eq h fun _ => rfl).symm

def cardN (N : Nat) (f : Int → Bool) : Nat := (List.range N).countP fun n : Nat => f (n : Int)
def card (f : Int → Bool) : Nat := cardN 1114112 f
theorem countP_or_disj {α : Type} (p q : α → Bool) (l : List α) (h : ∀ x ∈ l, ¬ (p x = true ∧ q x = true)) : l.countP (fun x => p x || q x) = l.countP p + l.countP q := by
  induction l with
  | nil => rfl
  | cons x l ih =>
    have h1 := ih fun y hy => h y (List.mem_cons_of_mem _ hy)
    have h2 := h x List.mem_cons_self
    simp only [List.countP_cons, h1]
    cases hp : p x <;> cases hq : q x <;> simp [hp, hq] at h2 ⊢ <;> omega
theorem countP_interval (lo hi : Int) (N : Nat) (h0 : 0 ≤ lo) (h1 : lo ≤ hi) : ((List.range N).countP fun n : Nat => decide (lo ≤ (n : Int)) && decide ((n : Int) ≤ hi) : Int) = if (N : Int) ≤ lo then 0 else if (N : Int) ≤ hi + 1 then N - lo else hi - lo + 1 := by
  induction N with
  | zero => simp; omega
  | succ N ih =>
    rw [List.range_succ, List.countP_append, Int.natCast_add, ih]
    simp only [List.countP_cons, List.countP_nil, Nat.zero_add, Int.natCast_succ]
    by_cases a : lo ≤ (N : Int)
    · by_cases b : (N : Int) ≤ hi
      · simp only [a, b, decide_true, Bool.and_self, if_true]
        split <;> split <;> (try split) <;> omega
      · simp only [a, b, decide_true, decide_false, Bool.and_false, Bool.false_eq_true, if_false]
        split <;> split <;> (try split) <;> omega
    · simp only [a, decide_false, Bool.false_and, Bool.false_eq_true, if_false]
      split <;> split <;> (try split) <;> omega
theorem card_range (x : Rng) (h : may x = true) : (card (fun r => decide (x.1 ≤ r) && decide (r ≤ x.2)) : Int) = x.2 - x.1 + 1 := by
  obtain ⟨h1, h2, h3⟩ := (may_iff x).1 h
  have := countP_interval x.1 x.2 1114112 h1 h2
  unfold card cardN
  rw [this]
  split
  · omega
  · split <;> omega
theorem card_or {f g : Int → Bool} (h : ∀ r, ¬ (f r = true ∧ g r = true)) : card (fun r => f r || g r) = card f + card g := countP_or_disj _ _ _ fun x _ => h x
theorem countR_card_from {b : Int} {xs : List Rng} (h : rightFrom b xs = true) : countR xs = card (hasR xs) := by
  induction xs generalizing b with
  | nil =>
    have : card (hasR []) = 0 := by unfold card cardN; rw [List.countP_eq_zero]; intro n _; simp [hasR]
    rw [this]
    rfl
  | cons x xs ih =>
    simp only [rightFrom, Bool.and_eq_true, decide_eq_true_eq] at h
    have e : card (hasR (x :: xs)) = card (fun r => decide (x.1 ≤ r) && decide (r ≤ x.2)) + card (hasR xs) := by
      rw [← card_or (f := fun r => decide (x.1 ≤ r) && decide (r ≤ x.2)) (g := hasR xs)]
      · rfl
      · rintro r ⟨a, c⟩
        have := (hasR_gt h.2 c).1
        simp at a
        omega
    rw [countR_cons, ih h.2, e, Int.natCast_add, card_range x h.1.2]
theorem countR_card {xs : List Rng} (h : right xs = true) : countR xs = card (hasR xs) := countR_card_from h
theorem cardN_not (N : Nat) (f : Int → Bool) : cardN N f + cardN N (fun r => !f r) = N := by
  have := List.length_eq_countP_add_countP (fun n : Nat => f n) (l := List.range N)
  rw [List.length_range] at this
  unfold cardN
  rw [show (List.range N).countP (fun n : Nat => !f n) = (List.range N).countP (fun n : Nat => ¬ f n = true) from List.countP_congr fun n _ => by simp]
  exact this.symm
theorem card_not (f : Int → Bool) : card f + card (fun r => !f r) = 1114112 := cardN_not _ f
theorem cardN_congr {N : Nat} {f g : Int → Bool} (h : ∀ n : Nat, n < N → f n = g n) : cardN N f = cardN N g := by
  unfold cardN
  apply List.countP_congr
  intro n hn
  rw [h n (List.mem_range.1 hn)]
theorem card_congr {f g : Int → Bool} (h : ∀ r : Int, 0 ≤ r → r ≤ 1114111 → f r = g r) : card f = card g := cardN_congr fun n hn => h n (by omega) (by omega)
end Go.Proofs.Ytphhdkffnboboaa

namespace Go.Proofs.Ytphhdkffnboboaa
open Go.RowKit Go.Shelf
open Go.Lib

/-- A list of ranges in memory, with its address's form. -/
structure SW (w : World) (A : Option Addr) (c : Nat) (xs : List Rng) : Prop where
  r : RS w w.heap.size A c xs
  f : Fm A c
theorem SW.below {w w' : World} {A : Option Addr} {c : Nat} {xs : List Rng} (h : SW w A c xs) (hb : Below w.heap.size w w') : SW w' A c xs := ⟨(h.r.below hb).mono hb.size, h.f⟩
theorem SW.nil (w : World) : SW w none 0 [] := ⟨RS_nil _ _, .inl ⟨rfl, rfl⟩⟩
theorem sw_own {B T : Nat} {w : World} {v : Value} {xs : List Rng} (h : w.ownsRow B T 2 v xs.length (cells2 xs)) (hI : ∀ x ∈ xs, I32 x) : ∃ A c, v = .slice A xs.length c ∧ SW w A c xs := by
  obtain ⟨A, c, rfl, hR⟩ := ownsRow_RS h hI
  exact ⟨A, c, rfl, hR, ownsRow_Fm h⟩

/-- What a call hands back that makes a list. -/
def SP (xs : List Rng) (w : World) (e : Ending) (w' : World) : Prop := ∃ A c, e = .returned (.slice A xs.length c) ∧ SW w' A c xs ∧ Below w.heap.size w w'
theorem sp_of {T : Nat} {xs : List Rng} {w : World} {e : Ending} {w' : World} (h : HoldsR w.heap.size T xs w e w') (hI : ∀ x ∈ xs, I32 x) : SP xs w e w' := by
  obtain ⟨v, rfl, hown, hb⟩ := h
  obtain ⟨A, c, rfl, hS⟩ := sw_own hown hI
  exact ⟨A, c, rfl, hS, hb⟩
theorem sp_norm {T : Nat} {f : Int → Bool} {out : List Rng} {w : World} {e : Ending} {w' : World} (h : HoldsR w.heap.size T out w e w') (hr : right out = true) (hf : ∀ r, hasR out r = f r) : SP (norm f) w e w' := by
  rw [← norm_eq hr hf]
  exact sp_of h (i32_of_right hr)

theorem make_ok (A : Option Addr) (c : Nat) (xs : List Rng) (w : World) (h : SW w A c xs) (hl : xs.length ≤ 1000) (hm : xs.all may = true) :
    Calls Try.prog 75 #[.slice A xs.length c] w fun e w' => ∃ A' c', e = .returned (.tuple #[.slice A' (norm (hasR xs)).length c', .int .i64 0]) ∧ SW w' A' c' (norm (hasR xs)) ∧ (norm (hasR xs)).length ≤ xs.length ∧ (∀ r, hasR (norm (hasR xs)) r = hasR xs r) ∧ Below w.heap.size w w' := by
  refine (make_any A c xs w h.r h.f (by omega)).mono ?_
  rintro e w' ⟨hb, h2⟩
  rw [if_neg (by omega), if_pos hm] at h2
  obtain ⟨v, out, rfl, hr, hh, hol, hown⟩ := h2
  have hn := norm_eq hr hh
  subst hn
  obtain ⟨A', c', rfl, hS⟩ := sw_own hown (i32_of_right hr)
  exact ⟨A', c', rfl, hS, hol, hh, hb⟩
theorem make_bad (A : Option Addr) (c : Nat) (xs : List Rng) (w : World) (h : SW w A c xs) (hl : xs.length ≤ 1000) (hm : xs.all may = false) :
    Calls Try.prog 75 #[.slice A xs.length c] w fun e w' => e = .returned (.tuple #[.slice none 0 0, .int .i64 1]) ∧ Below w.heap.size w w' := by
  refine (make_any A c xs w h.r h.f (by omega)).mono ?_
  rintro e w' ⟨hb, h2⟩
  rw [if_neg (by omega), hm, if_neg (by simp)] at h2
  exact ⟨h2, hb⟩
theorem make_long (A : Option Addr) (c : Nat) (xs : List Rng) (w : World) (h : SW w A c xs) (hl : 1000 < xs.length) (hl2 : xs.length ≤ 1000000) :
    Calls Try.prog 75 #[.slice A xs.length c] w fun e w' => e = .returned (.tuple #[.slice none 0 0, .int .i64 3]) ∧ Below w.heap.size w w' := by
  refine (make_any A c xs w h.r h.f hl2).mono ?_
  rintro e w' ⟨hb, h2⟩
  rw [if_pos hl] at h2
  exact ⟨h2, hb⟩
/-- An argument. -/
structure AW (w : World) (A : Option Addr) (c : Nat) (xs : List Rng) : Prop where
  r : RS w w.heap.size A c xs
  f : Fw A c
theorem AW.below {w w' : World} {A : Option Addr} {c : Nat} {xs : List Rng} (h : AW w A c xs) (hb : Below w.heap.size w w') : AW w' A c xs := ⟨(h.r.below hb).mono hb.size, h.f⟩
theorem AW.nil (w : World) : AW w none 0 [] := ⟨RS_nil _ _, fun _ => rfl⟩
/-- What Known hands back of an argument. -/
def AP (xs : List Rng) (w : World) (e : Ending) (w' : World) : Prop := ∃ A c, e = .returned (.slice A xs.length c) ∧ AW w' A c xs ∧ Below w.heap.size w w'
theorem to_sp (A : Option Addr) (c : Nat) (xs : List Rng) (w : World) (h : AW w A c xs) (hl : xs.length ≤ 1000000) : Calls Try.prog 46 #[.slice A xs.length c] w (SP xs w) := by
  refine (to_any A c xs w h.r hl).mono ?_
  rintro e w' hH
  exact sp_of hH h.r.2.2.1
theorem not_sp (A : Option Addr) (c : Nat) (xs : List Rng) (w : World) (h : SW w A c xs) (hr : right xs = true) (hl : xs.length ≤ 1000000) :
    Calls Try.prog 63 #[.slice A xs.length c] w fun e w' => SP (norm (notR xs)) w e w' ∧ (∀ r, hasR (norm (notR xs)) r = notR xs r) ∧ (norm (notR xs)).length ≤ xs.length + 1 := by
  refine (not_any A c xs w h.r h.f hl).mono ?_
  rintro e w' ⟨out, ho, hh, hol, hH⟩
  rw [known_of hr] at hh
  refine ⟨sp_norm hH ho hh, norm_has ho hh, ?_⟩
  rw [← norm_eq ho hh]
  exact hol
theorem cut_sp (A : Option Addr) (c : Nat) (xs : List Rng) (A' : Option Addr) (c' : Nat) (ys : List Rng) (w : World) (h : SW w A c xs) (h' : SW w A' c' ys) (hr : right xs = true) (hr' : right ys = true) (hl : xs.length ≤ 1000000) (hl' : ys.length ≤ 1000000) :
    Calls Try.prog 38 #[.slice A xs.length c, .slice A' ys.length c'] w fun e w' => SP (norm (cutR xs ys)) w e w' ∧ (∀ r, hasR (norm (cutR xs ys)) r = cutR xs ys r) ∧ (norm (cutR xs ys)).length ≤ xs.length + ys.length := by
  refine (cut_any A c xs A' c' ys w h.r h.f h'.r h'.f hl hl').mono ?_
  rintro e w' ⟨out, ho, hh, hol, hH⟩
  rw [known_of hr, known_of hr'] at hh
  refine ⟨sp_norm hH ho hh, norm_has ho hh, ?_⟩
  rw [← norm_eq ho hh]
  exact hol
def orR (xs ys : List Rng) (r : Int) : Bool := hasR xs r || hasR ys r
theorem same_sp (A : Option Addr) (c : Nat) (xs : List Rng) (A' : Option Addr) (c' : Nat) (ys : List Rng) (w : World) (h : SW w A c xs) (h' : SW w A' c' ys) (_hr : right xs = true) (e : xs = ys) :
    Calls Try.prog 26 #[.slice A xs.length c, .slice A' ys.length c'] w fun e w' => e = .returned (.bool true) ∧ Below w.heap.size w w' := by
  subst e
  refine (same_any2 A c xs A' c' xs w h.r h.f h'.r h'.f).mono ?_
  rintro e w' ⟨rfl, hb⟩
  exact ⟨by simp, hb⟩
theorem count_sp (A : Option Addr) (c : Nat) (xs : List Rng) (w : World) (h : SW w A c xs) (hr : right xs = true) :
    Calls Try.prog 37 #[.slice A xs.length c] w fun e w' => e = .returned (.int .i64 (countR xs)) ∧ Below w.heap.size w w' := by
  have := count_any' A c xs w h.r
  rwa [known_of hr] at this
end Go.Proofs.Ytphhdkffnboboaa

namespace Go.Proofs.Ytphhdkffnboboaa

def extP (xs : List Rng) (x : Rng) : List Rng := match xs.getLast? with
  | some y => if y.2 + 1 = x.1 then xs.dropLast ++ [(y.1, x.2)] else xs ++ [x]
  | none => xs ++ [x]
theorem extP_nil (x : Rng) : extP [] x = [x] := rfl
theorem extP_snoc (ys : List Rng) (y x : Rng) : extP (ys ++ [y]) x = if y.2 + 1 = x.1 then ys ++ [(y.1, x.2)] else (ys ++ [y]) ++ [x] := by
  unfold extP
  rw [List.getLast?_append]
  simp
theorem extP_len (xs : List Rng) (x : Rng) : (extP xs x).length ≤ xs.length + 1 := by
  rcases List.eq_nil_or_concat xs with rfl | ⟨ys, y, rfl⟩
  · simp [extP_nil]
  · rw [List.concat_eq_append, extP_snoc]
    split <;> simp
theorem hasR_hi {b : Int} {xs : List Rng} (h : rightFrom b xs = true) {r : Int} (hr : hasR xs r = true) : r < hiOf b xs := by
  induction xs generalizing b r with
  | nil => simp [hasR] at hr
  | cons x xs ih =>
    simp only [rightFrom, Bool.and_eq_true, decide_eq_true_eq] at h
    obtain ⟨⟨h1, h2⟩, h3⟩ := h
    show r < hiOf (x.2 + 1) xs
    rcases (hasR_cons_iff x xs r).1 hr with h4 | h4
    · cases xs with
      | nil => show r < x.2 + 1; omega
      | cons y ys =>
        have h5 := h3
        simp only [rightFrom, Bool.and_eq_true, decide_eq_true_eq, may_iff] at h5
        have : hasR (y :: ys) y.1 = true := (hasR_cons_iff _ _ _).2 (.inl ⟨by omega, by omega⟩)
        have := ih h3 this
        omega
    · exact ih h3 h4
theorem hiOf_bd {b : Int} {xs : List Rng} (h : rightFrom b xs = true) (hb : b ≤ 1114112) : (xs.length : Int) + b ≤ hiOf b xs ∧ hiOf b xs ≤ 1114112 := by
  induction xs generalizing b with
  | nil => exact ⟨by simp [hiOf], hb⟩
  | cons x xs ih =>
    simp only [rightFrom, Bool.and_eq_true, decide_eq_true_eq, may_iff] at h
    obtain ⟨⟨h1, h2⟩, h3⟩ := h
    have := ih h3 (by omega)
    show _ ≤ hiOf (x.2 + 1) xs ∧ hiOf (x.2 + 1) xs ≤ _
    simp only [List.length_cons]
    omega
theorem right_len2 {xs : List Rng} (h : right xs = true) : xs.length ≤ 1114113 := by
  have := hiOf_bd h (by omega)
  omega
theorem extP_ok {xs : List Rng} {x : Rng} (h : right xs = true) (hx : may x = true) (hb : ∀ r, hasR xs r = true → r < x.1) :
    right (extP xs x) = true ∧ ∀ r, hasR (extP xs x) r = (hasR xs r || (decide (x.1 ≤ r) && decide (r ≤ x.2))) := by
  have hx' := (may_iff x).1 hx
  rcases List.eq_nil_or_concat xs with rfl | ⟨ys, y, rfl⟩
  · rw [extP_nil]
    refine ⟨?_, fun r => by simp [hasR]⟩
    simp only [right, rightFrom, hx, Bool.and_true, decide_eq_true_eq]
    omega
  · rw [List.concat_eq_append] at *
    have h' := h
    unfold right at h'
    rw [rightFrom_snoc] at h'
    simp only [Bool.and_eq_true, decide_eq_true_eq, may_iff] at h'
    obtain ⟨⟨h1, h2⟩, h3⟩ := h'
    have hy : hasR (ys ++ [y]) y.2 = true := by
      rw [hasR_append]
      have : hasR [y] y.2 = true := (hasR_cons_iff _ _ _).2 (.inl ⟨by omega, by omega⟩)
      rw [this, Bool.or_true]
    have hlt := hb _ hy
    rw [extP_snoc]
    split
    · rename_i c
      refine ⟨?_, fun r => ?_⟩
      · unfold right
        rw [rightFrom_snoc]
        simp only [Bool.and_eq_true, decide_eq_true_eq, may_iff]
        exact ⟨⟨h1, h2⟩, by omega, by omega, by omega⟩
      · rw [hasR_append, hasR_append, Bool.eq_iff_iff]
        simp only [hasR_cons, hasR_nil, Bool.or_false, Bool.or_eq_true, Bool.and_eq_true, decide_eq_true_eq]
        constructor
        · rintro (h4 | h4)
          · exact .inl (.inl h4)
          · by_cases c2 : r ≤ y.2
            · exact .inl (.inr ⟨h4.1, c2⟩)
            · exact .inr ⟨by omega, h4.2⟩
        · rintro ((h4 | h4) | h4)
          · exact .inl h4
          · exact .inr ⟨h4.1, by omega⟩
          · exact .inr ⟨by omega, h4.2⟩
    · refine ⟨?_, fun r => ?_⟩
      · unfold right
        rw [rightFrom_snoc, hiOf_snoc]
        simp only [Bool.and_eq_true, decide_eq_true_eq]
        exact ⟨⟨h, by omega⟩, hx⟩
      · rw [hasR_append, hasR_cons, hasR_nil, Bool.or_false]
theorem i32_ext {xs : List Rng} {x : Rng} (h : ∀ y ∈ xs, I32 y) (hx : I32 x) : ∀ y ∈ extP xs x, I32 y := by
  rcases List.eq_nil_or_concat xs with rfl | ⟨ys, z, rfl⟩
  · rw [extP_nil]; intro y hy; simp at hy; subst hy; exact hx
  · rw [List.concat_eq_append] at *
    rw [extP_snoc]
    have hz := h z (by simp)
    split
    · intro y hy
      rcases List.mem_append.1 hy with hy | hy
      · exact h y (by simp [hy])
      · simp at hy; subst hy; unfold I32 at *; exact ⟨hz.1, hz.2.1, hx.2.2.1, hx.2.2.2⟩
    · intro y hy
      rcases List.mem_append.1 hy with hy | hy
      · exact h y hy
      · simp at hy; subst hy; exact hx

/-- Of the first k numbers those of a class. -/
def clsTo (f : Nat → Int) (c : Int) (k : Nat) (r : Int) : Bool := decide (0 ≤ r) && decide (r < k) && decide (f r.toNat = c)
theorem clsTo_iff (f : Nat → Int) (c : Int) (k : Nat) (r : Int) : clsTo f c k r = true ↔ 0 ≤ r ∧ r < k ∧ f r.toNat = c := by simp [clsTo, and_assoc]
theorem clsTo_yes {f : Nat → Int} {c : Int} {k : Nat} (h : f k = c) (r : Int) : clsTo f c (k + 1) r = (clsTo f c k r || (decide ((k : Int) ≤ r) && decide (r ≤ (k : Int)))) := by
  rw [Bool.eq_iff_iff]
  simp only [Bool.or_eq_true, clsTo_iff, Bool.and_eq_true, decide_eq_true_eq]
  constructor
  · rintro ⟨h1, h2, h3⟩
    by_cases e : r = k
    · exact .inr ⟨by omega, by omega⟩
    · exact .inl ⟨h1, by omega, h3⟩
  · rintro (⟨h1, h2, h3⟩ | h1)
    · exact ⟨h1, by omega, h3⟩
    · have e : r = k := by omega
      subst e
      exact ⟨by omega, by omega, by simpa using h⟩
theorem clsTo_no {f : Nat → Int} {c : Int} {k : Nat} (h : f k ≠ c) (r : Int) : clsTo f c (k + 1) r = clsTo f c k r := by
  rw [Bool.eq_iff_iff]
  simp only [clsTo_iff]
  constructor
  · rintro ⟨h1, h2, h3⟩
    refine ⟨h1, ?_, h3⟩
    by_cases e : r = k
    · subst e; exact absurd (by simpa using h3) h
    · omega
  · rintro ⟨h1, h2, h3⟩
    exact ⟨h1, by omega, h3⟩
/-- A list that is right and holds just what is told. -/
def Tells (xs : List Rng) (P : Int → Bool) : Prop := right xs = true ∧ ∀ r, hasR xs r = P r
theorem Tells.eq {xs : List Rng} {P : Int → Bool} (h : Tells xs P) : xs = norm P := norm_eq h.1 h.2
theorem Tells.congr {xs : List Rng} {P Q : Int → Bool} (h : Tells xs P) (e : ∀ r, P r = Q r) : Tells xs Q := ⟨h.1, fun r => (h.2 r).trans (e r)⟩
theorem tells_zero (f : Nat → Int) (c : Int) : Tells [] (clsTo f c 0) := ⟨rfl, fun r => by
  rw [hasR_nil]
  symm
  rw [Bool.eq_false_iff]
  intro h
  have := (clsTo_iff _ _ _ _).1 h
  omega⟩
theorem tells_yes {f : Nat → Int} {c : Int} {k : Nat} {xs : List Rng} (h : Tells xs (clsTo f c k)) (hk : k < 1114112) (e : f k = c) : Tells (extP xs ((k : Int), (k : Int))) (clsTo f c (k + 1)) := by
  have := extP_ok (x := ((k : Int), (k : Int))) h.1 ((may_iff _).2 ⟨by simp, by simp, by simp; omega⟩) (fun r hr => by
    rw [h.2] at hr
    have := (clsTo_iff _ _ _ _).1 hr
    simp; omega)
  exact ⟨this.1, fun r => by rw [this.2, clsTo_yes e, h.2]⟩
theorem tells_no {f : Nat → Int} {c : Int} {k : Nat} {xs : List Rng} (h : Tells xs (clsTo f c k)) (e : f k ≠ c) : Tells xs (clsTo f c (k + 1)) := h.congr fun r => (clsTo_no e r).symm

/-- Of the blocks ahead of t all numbers of a class, and of block t those in some first ranges. -/
def inBlk (F : Nat → Int) (c : Int) (t : Nat) (ws : List Rng) (r : Int) : Bool := clsTo F c (256 * t) r || hasR ws (r - 256 * (t : Int))
theorem inBlk_nil (F : Nat → Int) (c : Int) (t : Nat) (r : Int) : inBlk F c t [] r = clsTo F c (256 * t) r := by simp [inBlk, hasR]
theorem tells_blk {F : Nat → Int} {c : Int} {t : Nat} {out ws : List Rng} {j : Nat} {x : Rng} (ht : t < 4352) (h : Tells out (inBlk F c t (ws.take j))) (hw : Tells ws (clsTo (fun i => F (256 * t + i)) c 256)) (hx : ws[j]? = some x) :
    Tells (extP out (256 * (t : Int) + x.1, 256 * (t : Int) + x.2)) (inBlk F c t (ws.take (j + 1))) ∧ 0 ≤ x.1 ∧ x.1 ≤ x.2 ∧ x.2 ≤ 255 := by
  have hr := hw.1
  have hmem := List.mem_of_getElem? hx
  have hm := (may_iff x).1 (right_may hr x hmem).1
  have hin : hasR ws x.2 = true := (hasR_iff _ _).2 ⟨x, hmem, by omega, by omega⟩
  rw [hw.2] at hin
  have h255 := ((clsTo_iff _ _ _ _).1 hin).2.1
  have htk : ws.take (j + 1) = ws.take j ++ [x] := by rw [List.take_add_one, hx]; rfl
  have hr2 : rightFrom (-1) (ws.take (j + 1)) = true := rightFrom_take hr _
  rw [htk, rightFrom_snoc] at hr2
  simp only [Bool.and_eq_true, decide_eq_true_eq] at hr2
  refine ⟨?_, by omega, by omega, by omega⟩
  have hk := extP_ok (x := (256 * (t : Int) + x.1, 256 * (t : Int) + x.2)) h.1 ((may_iff _).2 ⟨by simp; omega, by simp; omega, by simp; omega⟩) (fun r hr => by
    rw [h.2] at hr
    simp only [inBlk, Bool.or_eq_true, clsTo_iff] at hr
    rcases hr with hr | hr
    · simp; omega
    · have := hasR_hi (rightFrom_take hr2.1.1 j) (xs := (ws.take j).take j) (by rw [List.take_take, Nat.min_self]; exact hr)
      rw [List.take_take, Nat.min_self] at this
      simp; omega)
  refine ⟨hk.1, fun r => ?_⟩
  rw [hk.2, h.2]
  unfold inBlk
  rw [htk, hasR_append, hasR_cons, hasR_nil, Bool.or_false, Bool.or_assoc]
  congr 2
  rw [Bool.eq_iff_iff]
  simp only [Bool.and_eq_true, decide_eq_true_eq]
  constructor <;> (rintro ⟨h1, h2⟩; constructor <;> omega)
theorem tells_next {F : Nat → Int} {c : Int} {t : Nat} {out ws : List Rng} (h : Tells out (inBlk F c t ws)) (hw : Tells ws (clsTo (fun i => F (256 * t + i)) c 256)) : Tells out (clsTo F c (256 * (t + 1))) := by
  refine h.congr fun r => ?_
  unfold inBlk
  rw [hw.2, Bool.eq_iff_iff]
  simp only [Bool.or_eq_true, clsTo_iff]
  constructor
  · rintro (⟨h1, h2, h3⟩ | ⟨h1, h2, h3⟩)
    · exact ⟨h1, by omega, h3⟩
    · refine ⟨by omega, by omega, ?_⟩
      rw [← h3]
      congr 1
      omega
  · rintro ⟨h1, h2, h3⟩
    by_cases e : r < ((256 * t : Nat) : Int)
    · exact .inl ⟨h1, e, h3⟩
    · refine .inr ⟨by omega, by omega, ?_⟩
      rw [← h3]
      congr 1
      omega
end Go.Proofs.Ytphhdkffnboboaa

namespace Go.Proofs.Ytphhdkffnboboaa
open Go.RowKit Go.Shelf
open Go.Lib

theorem own_form {w : World} {base : Nat} {e : TypeId} {size : Nat} {v : Value} {n : Nat} {xs : List Value} (h : w.ownsRow base e size v n xs) : ∃ A cap, v = .slice A n cap := by
  rcases h.2 with ⟨h1, h2⟩ | ⟨g, cap, _, h1, _⟩
  · exact ⟨none, 0, by rw [h1, h2]⟩
  · exact ⟨_, cap, h1⟩

theorem cell_lt0 {w : World} {p : Addr} {v : Value} (h : w.cell? p = some v) : p.block < w.heap.size := by
  rcases Nat.lt_or_ge p.block w.heap.size with c | c
  · exact c
  · unfold World.cell? at h
    rw [Array.getElem?_eq_none c] at h
    cases h
set_option maxHeartbeats 2000000 in
set_option maxRecDepth 100000 in
theorem ext_more (base : Nat) (v : Value) (xs : List Rng) (x : Rng) (w : World) (h : w.ownsRow base 70 2 v xs.length (cells2 xs)) (hb : base ≤ w.heap.size) (hl : xs.length ≤ 2000000)
    (hq : xs = [] ∨ ∃ y ys, xs = ys ++ [y] ∧ -2147483648 ≤ y.2 ∧ y.2 ≤ 1114111 ∧ y.2 + 1 ≠ x.1) :
    Calls Try.prog 50 #[v, .agg #[.int .i32 x.1, .int .i32 x.2]] w (HoldsR base 70 (xs ++ [x]) w) := by
  obtain ⟨i70, hi70, hzz⟩ := Option.map_eq_some_iff.1 Try.info70
  simp only [Prod.mk.injEq] at hzz
  have HI := Lib.hid (And.intro hi70 hzz)
  have H1 := Lib.hid (h.alloc (.cells #[.int .i32 x.1, .int .i32 x.2] 70))
  have hB1 := Lib.hid ((Below.refl base w).alloc hb (.cells #[.int .i32 x.1, .int .i32 x.2] 70))
  have HX := Lib.hid (cells2_snoc xs x)
  have HL := Lib.hid (show (xs ++ [x]).length = xs.length + 1 by simp)
  unfold HoldsR
  rw [HX.out, HL.out]
  obtain ⟨x1, x2⟩ := x
  simp only at *
  rcases hq with rfl | ⟨y, ys, rfl, y0, y1, hne⟩
  · obtain ⟨A, cap, rfl⟩ := own_form h
    simp only [List.length_nil] at *
    clear h hi70 hzz
    go_enter Try.func50, Try.ntmps50
    go_wp2_with fail
    go_quiet (fail)
    have H2 := Lib.hid ((show ((w.alloc (.cells #[.int .i32 x1, .int .i32 x2] 70)).drewN nq).ownsRow base 70 2 (.slice A 0 cap) 0 (cells2 []) from H1.out).alloc (.cells #[.int .i32 x1, .int .i32 x2] 70))
    have nb := World.news_of_block (heap_alloc_new ((w.alloc (.cells #[.int .i32 x1, .int .i32 x2] 70)).drewN nq) (.cells #[.int .i32 x1, .int .i32 x2] 70))
    rw [show ((w.alloc (.cells #[.int .i32 x1, .int .i32 x2] 70)).drewN nq).heap.size = w.heap.size + 1 by simp] at nb
    have NB := Lib.hid nb
    clear nb
    have HB2 := Lib.hid ((below_drewN hB1.out nq).alloc (by simp; omega) (.cells #[.int .i32 x1, .int .i32 x2] 70))
    go_wp2_with (at_builtin; refine wpList_append_lies _ (by rfl) (.tmp 30) (.tmp 32) 43 (by rfl) base 70 i70 _ 2 8 Try.underlying43 HI.out.1 HI.out.2.1 HI.out.2.2.1 HI.out.2.2.2 rfl (by omega) _ 0 (cells2 []) (by rfl) H2.out _ 1 1 [.int .i32 x1, .int .i32 x2] (by rfl) (by rfl) NB.out (by simp [Value.oneCell']) (by omega) (by unfold maxLen; omega) (by omega) (by simp; omega) (w.heap.size + 2) (by simp) ?_)
    intro g1 cap1 w7 hown7 hgrow7 hat7 hlt7
    have HB7 := Lib.hid (HB2.out.grown hgrow7 (by simp; omega) (fun k e' => (own_block_lt H2.out k e').1))
    have HO7 := Lib.hid hown7
    clear hown7 hgrow7 hat7 hlt7
    go_wp2_with fail
    go_ret
    exact ⟨_, rfl, HO7.out, HB7.out⟩
  · obtain ⟨g, cap, hv, hg, _⟩ := h.form (by simp)
    subst hv
    have hla : (ys ++ [y])[ys.length]? = some y := by rw [List.getElem?_append_right (Nat.le_refl _)]; simp
    have hyc := cells2_get _ _ _ hla
    have hc := h.cellAt (ys.length * 2 + 1) (by simp; omega)
    rw [hyc.2] at hc
    have hglt := cell_lt0 hc
    have hlen : (ys ++ [y]).length = ys.length + 1 := by simp
    rw [hlen] at hl H1 h
    simp only at hglt
    rw [hlen]
    generalize ys.length = m at *
    have i1 : (0 : Int) < (m : Int) + 1 := by omega
    have i3 : (m : Int) < (m : Int) + 1 := by omega
    have i4 : (0 : Int) ≤ (m : Int) := by omega
    have i5 : IntKind.i64.wrap (m : Int) = (m : Int) := IntWalk.i64_in _ (by omega)
    have i6 : (m : Int).toNat = m := by omega
    have hne' : ((y.2 + 1) == x1) = false := by simpa using hne
    obtain ⟨yl, yh⟩ := y
    simp only at *
    clear h hi70 hzz hla hyc hlen hne
    go_enter Try.func50, Try.ntmps50
    go_wp2_with fail
    go_quiet (fail)
    have H2 := Lib.hid ((show ((w.alloc (.cells #[.int .i32 x1, .int .i32 x2] 70)).drewN nq).ownsRow base 70 2 (.slice (some ⟨g, 0, none⟩) (m + 1) cap) (m + 1) (cells2 (ys ++ [(yl, yh)])) from H1.out).alloc (.cells #[.int .i32 x1, .int .i32 x2] 70))
    have nb := World.news_of_block (heap_alloc_new ((w.alloc (.cells #[.int .i32 x1, .int .i32 x2] 70)).drewN nq) (.cells #[.int .i32 x1, .int .i32 x2] 70))
    rw [show ((w.alloc (.cells #[.int .i32 x1, .int .i32 x2] 70)).drewN nq).heap.size = w.heap.size + 1 by simp] at nb
    have NB := Lib.hid nb
    clear nb
    have HB2 := Lib.hid ((below_drewN hB1.out nq).alloc (by simp; omega) (.cells #[.int .i32 x1, .int .i32 x2] 70))
    go_wp2_with (at_builtin; refine wpList_append_lies _ (by rfl) (.tmp 30) (.tmp 32) 43 (by rfl) base 70 i70 _ 2 8 Try.underlying43 HI.out.1 HI.out.2.1 HI.out.2.2.1 HI.out.2.2.2 rfl (by omega) _ (m + 1) (cells2 (ys ++ [(yl, yh)])) (by rfl) H2.out _ 1 1 [.int .i32 x1, .int .i32 x2] (by rfl) (by rfl) NB.out (by simp [Value.oneCell']) (by omega) (by unfold maxLen; omega) (by omega) (by simp; omega) (w.heap.size + 2) (by simp) ?_)
    intro g1 cap1 w7 hown7 hgrow7 hat7 hlt7
    have HB7 := Lib.hid (HB2.out.grown hgrow7 (by simp; omega) (fun k e' => (own_block_lt H2.out k e').1))
    have HO7 := Lib.hid hown7
    clear hown7 hgrow7 hat7 hlt7
    go_wp2_with fail
    go_ret
    exact ⟨_, rfl, HO7.out, HB7.out⟩

theorem list_set_last (l m : List Value) (u u' : Value) (n : Nat) (hn : l.length + 1 = n) : (l ++ [u] ++ m).set (n - 1) u' = l ++ [u'] ++ m := by
  subst hn
  rw [List.append_assoc, List.append_assoc, List.set_append_right _ _ (by omega)]
  simp
set_option maxHeartbeats 2000000 in
set_option maxRecDepth 100000 in
theorem ext_join (base : Nat) (v : Value) (ys : List Rng) (y : Rng) (x : Rng) (w : World) (h : w.ownsRow base 70 2 v (ys.length + 1) (cells2 (ys ++ [y]))) (hb : base ≤ w.heap.size) (hl : ys.length + 1 ≤ 2000000)
    (y0 : -2147483648 ≤ y.2) (y1 : y.2 ≤ 1114111) (he : y.2 + 1 = x.1) :
    Calls Try.prog 50 #[v, .agg #[.int .i32 x.1, .int .i32 x.2]] w (HoldsR base 70 (ys ++ [(y.1, x.2)]) w) := by
  have H1 := Lib.hid (h.alloc (.cells #[.int .i32 x.1, .int .i32 x.2] 70))
  have hB1 := Lib.hid ((Below.refl base w).alloc hb (.cells #[.int .i32 x.1, .int .i32 x.2] 70))
  have HL := Lib.hid (show (ys ++ [(y.1, x.2)]).length = ys.length + 1 by simp)
  have HX : Hid ((cells2 (ys ++ [y])).set (ys.length * 2 + 1) (.int .i32 x.2) = cells2 (ys ++ [(y.1, x.2)])) := Lib.hid (by
    rw [cells2_snoc, cells2_snoc, List.set_append_right _ _ (by rw [cells2_length]; omega), cells2_length]
    simp [cell2])
  obtain ⟨x1, x2⟩ := x
  simp only at *
  obtain ⟨g, cap, hv, hg, _⟩ := h.form (by simp)
  subst hv
  have hla : (ys ++ [y])[ys.length]? = some y := by rw [List.getElem?_append_right (Nat.le_refl _)]; simp
  have hyc := cells2_get _ _ _ hla
  have hc := h.cellAt (ys.length * 2 + 1) (by omega)
  rw [hyc.2] at hc
  have hf := h.frozenAt (ys.length * 2 + 1)
  have hglt := cell_lt0 hc
  simp only at hglt
  have hst := fun (W : World) (hW : W.ownsRow base 70 2 (.slice (some ⟨g, 0, none⟩) (ys.length + 1) cap) (ys.length + 1) (cells2 (ys ++ [y]))) => World.ownsRow.stored hW (ys.length * 2 + 1) (.int .i32 x2)
  rw [HX.out] at hst
  have HST := Lib.hid hst
  unfold HoldsR
  rw [HL.out]
  generalize ys.length = m at *
  have i1 : (0 : Int) < (m : Int) + 1 := by omega
  have i3 : (m : Int) < (m : Int) + 1 := by omega
  have i4 : (0 : Int) ≤ (m : Int) := by omega
  have i5 : IntKind.i64.wrap (m : Int) = (m : Int) := IntWalk.i64_in _ (by omega)
  have i6 : (m : Int).toNat = m := by omega
  obtain ⟨yl, yh⟩ := y
  simp only at *
  have he' : ((yh + 1) == x1) = true := by simpa using he
  clear h hla hyc hst HX HL he
  go_enter Try.func50, Try.ntmps50
  go_wp2_with fail
  go_quiet (fail)
  go_wp2_with fail
  go_ret
  refine ⟨_, rfl, (HST.out _ ?_).1, ?_⟩
  · exact H1.out
  · exact (below_drewN hB1.out nq).setCell hg _

set_option maxHeartbeats 400000 in
theorem extend_any (base : Nat) (v : Value) (xs : List Rng) (x : Rng) (w : World) (h : w.ownsRow base 70 2 v xs.length (cells2 xs)) (hb : base ≤ w.heap.size) (hr : right xs = true) (hl : xs.length ≤ 2000000) :
    Calls Try.prog 50 #[v, .agg #[.int .i32 x.1, .int .i32 x.2]] w (HoldsR base 70 (extP xs x) w) := by
  rcases List.eq_nil_or_concat xs with rfl | ⟨ys, y, rfl⟩
  · exact ext_more base v [] x w h hb hl (.inl rfl)
  · rw [List.concat_eq_append] at *
    have hy := (may_iff y).1 (right_may hr y (by simp)).1
    rw [extP_snoc]
    split
    · rename_i c
      exact ext_join base v ys y x w (by simpa using h) hb (by simpa using hl) (by omega) (by omega) c
    · rename_i c
      exact ext_more base v _ x w h hb hl (.inr ⟨y, ys, rfl, by omega, by omega, c⟩)
end Go.Proofs.Ytphhdkffnboboaa

namespace Go.Proofs.Ytphhdkffnboboaa
open Go.RowKit Go.Shelf
open Go.Lib Go.Great

/-- All blocks: a row of bytes, told by a function. -/
def U8B (w : World) (B : Nat) (f : Nat → Int) : Prop := ∃ cs : Array Value, w.heap[B]? = some (.cells cs 84 (0, 0)) ∧ cs.size = 1114112 ∧ ∀ i, i < 1114112 → cs[i]? = some (.int .u8 (f i))
theorem U8B.lt {w : World} {B : Nat} {f : Nat → Int} (h : U8B w B f) : B < w.heap.size := by obtain ⟨_, h, _⟩ := h; exact (Array.getElem?_eq_some_iff.1 h).1
theorem U8B.cell {w : World} {B : Nat} {f : Nat → Int} (h : U8B w B f) {i : Nat} (hi : i < 1114112) : w.cell? ⟨B, i, none⟩ = some (.int .u8 (f i)) ∧ w.frozen? ⟨B, i, none⟩ = false := by
  obtain ⟨cs, h1, h2, h3⟩ := h
  exact ⟨(cell_of_row w B i cs 84 (0, 0) h1).trans (h3 i hi), frozen_of_row w B i cs 84 h1⟩
theorem U8B.kept {w w' : World} {B : Nat} {f : Nat → Int} (h : U8B w B f) (he : w'.heap[B]? = w.heap[B]?) : U8B w' B f := by
  obtain ⟨cs, h1, h2⟩ := h
  exact ⟨cs, he.trans h1, h2⟩
theorem U8B.below {w w' : World} {B : Nat} {f : Nat → Int} (h : U8B w B f) (hb : Below w.heap.size w w') : U8B w' B f := h.kept (hb.block B h.lt)
theorem U8B.setCell {w : World} {B : Nat} {f : Nat → Int} (h : U8B w B f) {j : Nat} (_hj : j < 1114112) (v : Int) : U8B (w.setCell ⟨B, j, none⟩ (.int .u8 v)) B (fun i => if i = j then v else f i) := by
  obtain ⟨cs, h1, h2, h3⟩ := h
  refine ⟨cs.setIfInBounds j (.int .u8 v), heap_setCell_same w B j cs 84 _ h1, by simpa using h2, fun i hi => ?_⟩
  rw [Array.getElem?_setIfInBounds]
  by_cases c : j = i
  · subst c
    simp [h2, hi]
  · rw [if_neg c]
    show cs[i]? = some (.int .u8 (if i = j then v else f i))
    rw [if_neg (fun e => c e.symm)]
    exact h3 i hi
theorem U8B.congr {w : World} {B : Nat} {f g : Nat → Int} (h : U8B w B f) (e : ∀ i, i < 1114112 → f i = g i) : U8B w B g := by
  obtain ⟨cs, h1, h2, h3⟩ := h
  exact ⟨cs, h1, h2, fun i hi => by rw [h3 i hi, e i hi]⟩
/-- Ranges lie in another block. -/
theorem U8B.apart {w : World} {B b o : Nat} {f : Nat → Int} {xs : List Rng} (h : U8B w B f) (hR : RgAt w b o xs) (hn : xs ≠ []) : b ≠ B := by
  rintro rfl
  obtain ⟨cs, h1, h2, h3⟩ := h
  obtain ⟨x, hx⟩ : ∃ x, xs[0]? = some x := ⟨xs[0]'(List.length_pos_iff.2 hn), List.getElem?_eq_getElem _⟩
  have hc := (hR 0 x hx).1
  rw [cell_of_row w b _ cs 84 (0, 0) h1] at hc
  have hlt := (Array.getElem?_eq_some_iff.1 hc).1
  rw [h3 _ (by omega)] at hc
  cases hc

/-- What was there stays, but for one block. -/
structure But (B : Nat) (w w' : World) : Prop where
  os : w'.os = w.os
  tape : w'.tape = w.tape
  output : w'.output = w.output
  size : w.heap.size ≤ w'.heap.size
  block : ∀ k, k < w.heap.size → k ≠ B → w'.heap[k]? = w.heap[k]?
theorem But.refl (B : Nat) (w : World) : But B w w := ⟨rfl, rfl, rfl, Nat.le_refl _, fun _ _ _ => rfl⟩
theorem But.trans {B : Nat} {a b c : World} (h : But B a b) (k : But B b c) : But B a c :=
  ⟨k.os.trans h.os, k.tape.trans h.tape, k.output.trans h.output, Nat.le_trans h.size k.size, fun i hi hn => (k.block i (Nat.lt_of_lt_of_le hi h.size) hn).trans (h.block i hi hn)⟩
theorem But.of_below {B : Nat} {w w' : World} (h : Below w.heap.size w w') : But B w w' := ⟨h.os, h.tape, h.output, h.size, fun k hk _ => h.block k hk⟩
theorem But.drew {B : Nat} {a w : World} (h : But B a w) : But B a w.drew := ⟨h.os, h.tape, h.output, h.size, h.block⟩
theorem But.setCell {B : Nat} (w : World) (j : Nat) (v : Value) : But B w (w.setCell ⟨B, j, none⟩ v) :=
  ⟨rfl, rfl, rfl, by simp [World.setCell], fun k _ hn => Below.heap_setCell _ _ _ _ hn⟩
theorem But.cell {B : Nat} {w w' : World} (h : But B w w') {p : Addr} (hp : p.block < w.heap.size) (hn : p.block ≠ B) : w'.cell? p = w.cell? p := World.cell?_of_block (w := w) (h.block p.block hp hn)

set_option maxHeartbeats 4000000 in
set_option maxRecDepth 100000 in
theorem fill_any (B : Nat) (f : Nat → Int) (A : Option Addr) (cap : Nat) (xs : List Rng) (c : Int) (w : World) (hU : U8B w B f) (h : RS w w.heap.size A cap xs) (hm : ∀ x ∈ xs, may x = true) (c0 : 0 ≤ c) (c1 : c ≤ 255) (hl : xs.length ≤ 1000000) :
    Calls Try.prog 44 #[.slice (some ⟨B, 0, none⟩) 4352 4352, .agg #[.slice A xs.length cap, .int .i64 c]] w fun e w' => e = .returned (.tuple #[]) ∧ U8B w' B (fun i => if hasR xs i then c else f i) ∧ But B w w' := by
  have H := Lib.hid h
  have HM := Lib.hid hm
  have HU := Lib.hid hU
  obtain ⟨n, hn⟩ : ∃ n, xs.length = n := ⟨_, rfl⟩
  have HN := Lib.hid hn
  rw [hn] at hl ⊢
  have hlt := hU.lt
  have hb0 := below_new w (.cells #[.slice A n cap, .int .i64 c] 72)
  have f1 : (w.alloc (.cells #[.slice A n cap, .int .i64 c] 72)).cell? ⟨w.heap.size, 1, none⟩ = some (.int .i64 c) := by simp
  have f0 : (w.alloc (.cells #[.slice A n cap, .int .i64 c] 72)).cell? ⟨w.heap.size, 0, none⟩ = some (.slice A n cap) := by simp
  have hz : w.heap.size < (w.alloc (.cells #[.slice A n cap, .int .i64 c] 72)).heap.size := by simp
  generalize hW : w.alloc (.cells #[.slice A n cap, .int .i64 c] 72) = W0 at *
  generalize hE : w.heap.size = E at *
  have HW := Lib.hid hW
  have HE := Lib.hid hE
  have HB := Lib.hid (And.intro hb0 (And.intro f1 (And.intro hz hlt)))
  clear h hm hU hn hb0 f1 hz hW hE hlt
  go_enter Try.func44, Try.ntmps44
  go_wp2_with fail
  rw [HE.out, HW.out]
  go_wp2_with fail
  go_loopw [10] (fun i wr => ∃ k : Nat, i = .int .i64 k ∧ k ≤ n ∧ U8B wr B (fun i => if hasR (xs.take k) i then c else f i) ∧ But B W0 wr) (fun i _ => n - (RowKit.intOf i).toNat)
  case atStart => exact ⟨0, rfl, Nat.zero_le _, (HU.out.below (by rw [HE.out]; exact HB.out.1)).congr (fun i _ => rfl), But.refl _ _⟩
  case round =>
    obtain ⟨k, rfl, hk, hU, hb⟩ := hrel
    by_cases hlt : k < n
    · obtain ⟨x, hx⟩ : ∃ x, xs[k]? = some x := ⟨xs[k]'(by have := HN.out; omega), List.getElem?_eq_getElem _⟩
      obtain ⟨b, o, rfl, hbl, hRg⟩ := H.out.2.2.2 (by intro e; rw [e] at hx; simp at hx)
      have hbB := HU.out.apart hRg (by rintro rfl; simp at hx)
      obtain ⟨q1, q2⟩ := hRg k x hx
      have hm := (may_iff _).1 (HM.out x (List.mem_of_getElem? hx))
      have HX := Lib.hid hx
      have cellW : ∀ o' v, w.cell? ⟨b, o', none⟩ = some v → wr.cell? ⟨b, o', none⟩ = some v := fun o' v hv => by
        have hbE : b < E := hbl
        rw [hb.cell (p := ⟨b, o', none⟩) (by show b < W0.heap.size; have := HB.out.2.2.1; omega) hbB, HB.out.1.cell (p := ⟨b, o', none⟩) hbE]
        exact hv
      have p1 := cellW _ _ q1
      have p2 := cellW _ _ q2
      have hEc : wr.cell? ⟨E, 1, none⟩ = some (.int .i64 c) := by
        rw [hb.cell (p := ⟨E, 1, none⟩) HB.out.2.2.1 (by show E ≠ B; have := HB.out.2.2.2; omega)]
        exact HB.out.2.1
      clear cellW q1 q2 hRg hx
      obtain ⟨lo, hi⟩ := x
      obtain ⟨m1, m2, m3⟩ := hm
      simp only at m1 m2 m3 p1 p2
      obtain ⟨a, rfl⟩ := Int.eq_ofNat_of_zero_le m1
      obtain ⟨z, rfl⟩ := Int.eq_ofNat_of_zero_le (show 0 ≤ hi by omega)
      have i1 : (k : Int) < (n : Int) := by omega
      have hEl : E < wr.heap.size := by have := hb.size; have := HB.out.2.2.1; omega
      have hBl := hU.lt
      have hbx := below_new wr (.cells #[.int .i32 (a : Int), .int .i32 (z : Int)] 70)
      have r1 : (wr.alloc (.cells #[.int .i32 (a : Int), .int .i32 (z : Int)] 70)).cell? ⟨wr.heap.size, 1, none⟩ = some (.int .i32 (z : Int)) := by simp
      have r0 : (wr.alloc (.cells #[.int .i32 (a : Int), .int .i32 (z : Int)] 70)).cell? ⟨wr.heap.size, 0, none⟩ = some (.int .i32 (a : Int)) := by simp
      have rz : wr.heap.size < (wr.alloc (.cells #[.int .i32 (a : Int), .int .i32 (z : Int)] 70)).heap.size := by simp
      have hU2 := hU.below hbx
      have hE2 : (wr.alloc (.cells #[.int .i32 (a : Int), .int .i32 (z : Int)] 70)).cell? ⟨E, 1, none⟩ = some (.int .i64 c) := (hbx.cell (p := ⟨E, 1, none⟩) hEl).trans hEc
      have hbb := hb.trans (But.of_below (B := B) hbx)
      go_wp2_with fail
      generalize wr.alloc (.cells #[.int .i32 (a : Int), .int .i32 (z : Int)] 70) = W2 at *
      generalize wr.heap.size = R at *
      have HH := Lib.hid (And.intro hU2 (And.intro hE2 (And.intro r1 (And.intro rz (And.intro hbb (And.intro hEl hBl))))))
      clear hU hb p1 p2 hEc hbx hU2 hE2 hbb r1 rz hEl hBl
      go_wp2_with fail
      go_loopw [6] (fun i wr => ∃ r : Nat, i = .int .i32 (r : Int) ∧ a ≤ r ∧ r ≤ z + 1 ∧ U8B wr B (fun i => if a ≤ i ∧ i < r then c else if hasR (xs.take k) i then c else f i) ∧ But B W2 wr) (fun i _ => z + 1 - (RowKit.intOf i).toNat)
      case atStart => exact ⟨a, rfl, Nat.le_refl _, by omega, HH.out.1.congr (fun i _ => (if_neg (by omega)).symm), But.refl _ _⟩
      case round =>
        obtain ⟨r, rfl, ra, rz, hU, hb⟩ := hrel
        have g1 : wr.cell? ⟨R, 1, none⟩ = some (.int .i32 (z : Int)) := (hb.cell (p := ⟨R, 1, none⟩) HH.out.2.2.2.1 (by show R ≠ B; have := HH.out.2.2.2.2.2.2; omega)).trans HH.out.2.2.1
        have g2 : wr.cell? ⟨E, 1, none⟩ = some (.int .i64 c) := (hb.cell (p := ⟨E, 1, none⟩) (by show E < W2.heap.size; have := HH.out.2.2.2.2.2.1; have := HH.out.2.2.2.1; omega) (by show E ≠ B; have := HB.out.2.2.2; omega)).trans HH.out.2.1
        by_cases hrz : r ≤ z
        · have i2 : (r : Int) ≤ (z : Int) := by omega
          have i3 : (z : Int) ≤ 1114111 := m3
          have hrN : r < 1114112 := by omega
          obtain ⟨u1, u2⟩ := hU.cell hrN
          have e1 : r / 256 * 256 + r % 256 = r := by omega
          have j1 : (0 : Int) ≤ (r : Int) / 256 := by omega
          have j2 : (r : Int) / 256 < 4352 := by omega
          have j3 : (0 : Int) ≤ (r : Int) % 256 := by omega
          have j4 : (r : Int) % 256 < 256 := by omega
          have v1 : wr.cell? ⟨B, r / 256 * 256 + r % 256, none⟩ = some (.int .u8 (if a ≤ r ∧ r < r then c else if hasR (xs.take k) r then c else f r)) := by rw [e1]; exact u1
          have v2 : wr.frozen? ⟨B, r / 256 * 256 + r % 256, none⟩ = false := by rw [e1]; exact u2
          generalize (if a ≤ r ∧ r < r then c else if hasR (xs.take k) r then c else f r) = ov at v1
          have HUr := Lib.hid hU
          have HBr := Lib.hid hb
          have HE1 := Lib.hid e1
          clear u1 u2 e1 hU hb
          go_wp2_with fail
          go_region
          rw [HE1.out]
          have hU3 : U8B ((wr.setCell ⟨B, r, none⟩ (.int .u8 c)).drew) B (fun i => if a ≤ i ∧ i < r + 1 then c else if hasR (xs.take k) i then c else f i) :=
            (HUr.out.setCell hrN c).congr (fun i _ => by
              by_cases e : i = r
              · subst e
                rw [if_pos rfl, if_pos (by omega)]
              · rw [if_neg e]
                by_cases e2 : a ≤ i ∧ i < r
                · rw [if_pos e2, if_pos (by omega)]
                · have e3 : ¬ (a ≤ i ∧ i < r + 1) := by omega
                  rw [if_neg e2, if_neg e3])
          have hB3 := (HBr.out.trans (But.setCell wr r (.int .u8 c))).drew
          go_wp2
          go_roundw
          case rel => exact ⟨r + 1, by go_num, by omega, by omega, hU3, hB3⟩
          case measure => simp [RowKit.intOf]; omega
        · have hrz2 : r = z + 1 := by omega
          have i2 : (z : Int) < (r : Int) := by omega
          have d2 : decide ((r : Int) ≤ (z : Int)) = false := by simp; omega
          have hU3 : U8B wr B (fun i => if hasR (xs.take (k + 1)) i then c else f i) := hU.congr (fun i _ => by
            have e : hasR (xs.take (k + 1)) (i : Int) = (hasR (xs.take k) i || (decide ((a : Int) ≤ i) && decide ((i : Int) ≤ z))) := by
              rw [List.take_add_one, HX.out]
              simp [hasR]
            rw [e]
            by_cases c1 : a ≤ i ∧ i < r
            · rw [if_pos c1, if_pos (by simp; omega)]
            · rw [if_neg c1]
              have e2 : (decide ((a : Int) ≤ i) && decide ((i : Int) ≤ z)) = false := by
                rw [Bool.eq_false_iff]
                intro h
                simp at h
                omega
              rw [e2, Bool.or_false])
          have hB3 := HH.out.2.2.2.2.1.trans hb
          have HK := Lib.hid (And.intro hU3 hB3)
          clear hU hb hU3 hB3 hrz2 g2
          go_wp2
          go_roundw
          case rel => exact ⟨k + 1, by go_num, by omega, HK.out.1, HK.out.2⟩
          case measure => simp [RowKit.intOf]; omega
    · have hkn : k = n := by omega
      have e : xs.take k = xs := by rw [hkn, ← HN.out, List.take_length]
      rw [e] at hU
      have hBz : But B w wr := (But.of_below (by rw [HE.out]; exact HB.out.1)).trans hb
      have HK := Lib.hid (And.intro hU hBz)
      have i1 : (n : Int) ≤ (k : Int) := by omega
      have d1 : decide ((k : Int) < (n : Int)) = false := by simp; omega
      clear hU hb e hBz hkn hlt
      go_wp2
      go_end0
      exact ⟨rfl, HK.out.1, HK.out.2⟩
end Go.Proofs.Ytphhdkffnboboaa

namespace Go.Proofs.Ytphhdkffnboboaa
open Go.RowKit Go.Shelf
open Go.Lib Go.Great Go.Maps

theorem laidOut : laidOutB Try.prog = true := by kernel_rfl
theorem law84 : Keyed Try.prog 84 := Keyed.of_law (deep_law_laid laidOut (m := 3) (by decide) (of_decide_eq_true (by kernel_rfl)) (by kernel_rfl) (by kernel_rfl))

theorem mapM_some {α β : Type} (f : α → Option β) (g : α → β) : ∀ l : List α, (∀ x ∈ l, f x = some (g x)) → l.mapM f = some (l.map g) := by
  intro l
  induction l with
  | nil => intro _; rfl
  | cons x xs ih =>
    intro h
    rw [List.mapM_cons, h x List.mem_cons_self, ih fun y hy => h y (List.mem_cons_of_mem _ hy)]
    rfl
/-- A block's cells. -/
def blc (F : Nat → Int) (k : Nat) : List Value := (List.range 256).map fun j => Value.int .u8 (F (256 * k + j))
theorem blc_len (F : Nat → Int) (k : Nat) : (blc F k).length = 256 := by simp [blc]
theorem blc_get (F : Nat → Int) (k j : Nat) (hj : j < 256) : (blc F k)[j]? = some (.int .u8 (F (256 * k + j))) := by
  simp only [blc, List.getElem?_map, List.getElem?_range hj, Option.map_some]
def U8 (F : Nat → Int) : Prop := ∀ i, 0 ≤ F i ∧ F i ≤ 255
theorem key84 (F : Nat → Int) (hF : U8 F) (k : Nat) : ∃ kl, keyOf Try.prog 84 (.agg (blc F k).toArray) = some kl := by
  have hk : Try.prog.keyType 84 = true := by kernel_rfl
  have hc : Try.prog.cellsOf 84 = 256 := by kernel_rfl
  have hc5 : Try.prog.cellsOf 5 = 1 := by kernel_rfl
  have hs : ∃ d, Try.prog.types.size + 1 = d + 1 + 1 := ⟨161, by kernel_rfl⟩
  obtain ⟨d, hd⟩ := hs
  have hf : (Value.agg (blc F k).toArray).formed Try.prog 84 = true := by
    simp [Value.formed, Try.underlying84, hc, blc_len]
  have hl : Try.prog.keyLits (d + 1 + 1) 84 (blc F k) = some (((List.range 256).map fun i => [Lit.int .u8 (F (256 * k + i))]).flatten) := by
    unfold Program.keyLits
    simp only [Try.underlying84]
    rw [if_pos (by rw [blc_len, hc]), mapM_some _ (fun i => [Lit.int .u8 (F (256 * k + i))])]
    · rfl
    · intro i hi
      have hi := List.mem_range.1 hi
      have e : ((blc F k).drop (i * Try.prog.cellsOf 5)).take (Try.prog.cellsOf 5) = [.int .u8 (F (256 * k + i))] := by
        rw [hc5, Nat.mul_one]
        have := blc_get F k i hi
        rw [List.take_one, List.head?_drop, this]
        rfl
      have hw : (Lit.int .u8 (F (256 * k + i))).wf = true := by
        have := hF (256 * k + i)
        simp [Lit.wf, IntKind.min, IntKind.max, IntKind.signed, IntKind.bits]
        omega
      rw [e]
      unfold Program.keyLits
      simp only [Try.underlying5]
      rw [if_pos ⟨trivial, hw⟩]
  refine ⟨.string (keyBytes (((List.range 256).map fun i => [Lit.int .u8 (F (256 * k + i))]).flatten)), ?_⟩
  unfold keyOf
  simp only [Try.underlying84]
  rw [hk, hf, hd]
  simp only [Bool.and_self, if_true]
  show (Try.prog.keyLits (d + 1 + 1) 84 (blc F k)).map _ = _
  rw [hl]
  rfl
end Go.Proofs.Ytphhdkffnboboaa

