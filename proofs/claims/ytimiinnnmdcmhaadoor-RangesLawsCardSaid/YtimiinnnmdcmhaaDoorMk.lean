/-
  Contracts: the calls that make sets, told by the one right list of the numbers that are wanted.
-/
import Derived.Test.YtimiinnnmdcmhaaDoorRg12
import Derived.Test.YtimiinnnmdcmhaaDoorRg13
import Derived.Test.YtimiinnnmdcmhaaDoorRg11
import Derived.Test.YtimiinnnmdcmhaaDoorNm
namespace Go.Proofs.YtimiinnnmdcmhaaDoor
open Go.RowKit Go.Shelf
open Go.Lib

/-- A list of ranges in memory, with its address's form. -/
structure SW (w : World) (A : Option Addr) (c : Nat) (xs : List Rng) : Prop where
  r : RS w w.heap.size A c xs
  f : Fm A c
theorem SW.below {w w' : World} {A : Option Addr} {c : Nat} {xs : List Rng} (h : SW w A c xs) (hb : Below w.heap.size w w') : SW w' A c xs := ⟨(h.r.below hb).mono hb.size, h.f⟩
theorem SW.nil (w : World) : SW w none 0 [] := ⟨RS_nil _ _, .inl ⟨rfl, rfl⟩⟩
theorem sw_own {B T : Nat} {w : World} {v : Value} {xs : List Rng} (h : w.ownsRow B T 2 v xs.length (cells2 xs)) (hI : ∀ x ∈ xs, I32 x) : ∃ A c, v = .slice A xs.length c ∧ SW w A c xs := by
  obtain ⟨A, c, rfl, hR⟩ := ownsRow_RS h hI
  exact ⟨A, c, rfl, hR, ownsRow_Fm h⟩

/-- What a call hands back that makes a list. -/
def SP (xs : List Rng) (w : World) (e : Ending) (w' : World) : Prop := ∃ A c, e = .returned (.slice A xs.length c) ∧ SW w' A c xs ∧ Below w.heap.size w w'
theorem sp_of {T : Nat} {xs : List Rng} {w : World} {e : Ending} {w' : World} (h : HoldsR w.heap.size T xs w e w') (hI : ∀ x ∈ xs, I32 x) : SP xs w e w' := by
  obtain ⟨v, rfl, hown, hb⟩ := h
  obtain ⟨A, c, rfl, hS⟩ := sw_own hown hI
  exact ⟨A, c, rfl, hS, hb⟩
theorem sp_norm {T : Nat} {f : Int → Bool} {out : List Rng} {w : World} {e : Ending} {w' : World} (h : HoldsR w.heap.size T out w e w') (hr : right out = true) (hf : ∀ r, hasR out r = f r) : SP (norm f) w e w' := by
  rw [← norm_eq hr hf]
  exact sp_of h (i32_of_right hr)

theorem make_ok (A : Option Addr) (c : Nat) (xs : List Rng) (w : World) (h : SW w A c xs) (hl : xs.length ≤ 1000) (hm : xs.all may = true) :
    Calls Tryd.prog 31 #[.slice A xs.length c] w fun e w' => ∃ A' c', e = .returned (.tuple #[.slice A' (norm (hasR xs)).length c', .int .i64 0]) ∧ SW w' A' c' (norm (hasR xs)) ∧ (norm (hasR xs)).length ≤ xs.length ∧ (∀ r, hasR (norm (hasR xs)) r = hasR xs r) ∧ Below w.heap.size w w' := by
  refine (make_any A c xs w h.r h.f (by omega)).mono ?_
  rintro e w' ⟨hb, h2⟩
  rw [if_neg (by omega), if_pos hm] at h2
  obtain ⟨v, out, rfl, hr, hh, hol, hown⟩ := h2
  have hn := norm_eq hr hh
  subst hn
  obtain ⟨A', c', rfl, hS⟩ := sw_own hown (i32_of_right hr)
  exact ⟨A', c', rfl, hS, hol, hh, hb⟩
theorem make_bad (A : Option Addr) (c : Nat) (xs : List Rng) (w : World) (h : SW w A c xs) (hl : xs.length ≤ 1000) (hm : xs.all may = false) :
    Calls Tryd.prog 31 #[.slice A xs.length c] w fun e w' => e = .returned (.tuple #[.slice none 0 0, .int .i64 1]) ∧ Below w.heap.size w w' := by
  refine (make_any A c xs w h.r h.f (by omega)).mono ?_
  rintro e w' ⟨hb, h2⟩
  rw [if_neg (by omega), hm, if_neg (by simp)] at h2
  exact ⟨h2, hb⟩
theorem make_long (A : Option Addr) (c : Nat) (xs : List Rng) (w : World) (h : SW w A c xs) (hl : 1000 < xs.length) (hl2 : xs.length ≤ 1000000) :
    Calls Tryd.prog 31 #[.slice A xs.length c] w fun e w' => e = .returned (.tuple #[.slice none 0 0, .int .i64 3]) ∧ Below w.heap.size w w' := by
  refine (make_any A c xs w h.r h.f hl2).mono ?_
  rintro e w' ⟨hb, h2⟩
  rw [if_pos hl] at h2
  exact ⟨h2, hb⟩
/-- An argument. -/
structure AW (w : World) (A : Option Addr) (c : Nat) (xs : List Rng) : Prop where
  r : RS w w.heap.size A c xs
  f : Fw A c
theorem AW.below {w w' : World} {A : Option Addr} {c : Nat} {xs : List Rng} (h : AW w A c xs) (hb : Below w.heap.size w w') : AW w' A c xs := ⟨(h.r.below hb).mono hb.size, h.f⟩
theorem AW.nil (w : World) : AW w none 0 [] := ⟨RS_nil _ _, fun _ => rfl⟩
/-- What Known hands back of an argument. -/
def AP (xs : List Rng) (w : World) (e : Ending) (w' : World) : Prop := ∃ A c, e = .returned (.slice A xs.length c) ∧ AW w' A c xs ∧ Below w.heap.size w w'
theorem to_sp (A : Option Addr) (c : Nat) (xs : List Rng) (w : World) (h : AW w A c xs) (hl : xs.length ≤ 1000000) : Calls Tryd.prog 32 #[.slice A xs.length c] w (SP xs w) := by
  refine (to_any A c xs w h.r hl).mono ?_
  rintro e w' hH
  exact sp_of hH h.r.2.2.1
theorem known_sp (A : Option Addr) (c : Nat) (xs : List Rng) (w : World) (h : AW w A c xs) : Calls Tryd.prog 40 #[.slice A xs.length c] w (AP (known xs) w) := by
  refine (known_any A c xs w h.r).mono ?_
  rintro e w' ⟨rfl, hb⟩
  by_cases hc : right xs = true
  · rw [if_pos hc]
    exact ⟨A, c, by rw [known_of hc], by rw [known_of hc]; exact h.below hb, hb⟩
  · rw [if_neg hc]
    have e : known xs = [] := by unfold known; rw [if_neg hc]
    exact ⟨none, 0, by rw [e]; rfl, by rw [e]; exact AW.nil _, hb⟩

theorem not_sp (A : Option Addr) (c : Nat) (xs : List Rng) (w : World) (h : SW w A c xs) (hr : right xs = true) (hl : xs.length ≤ 1000000) :
    Calls Tryd.prog 50 #[.slice A xs.length c] w fun e w' => SP (norm (notR xs)) w e w' ∧ (∀ r, hasR (norm (notR xs)) r = notR xs r) ∧ (norm (notR xs)).length ≤ xs.length + 1 := by
  refine (not_any A c xs w h.r h.f hl).mono ?_
  rintro e w' ⟨out, ho, hh, hol, hH⟩
  rw [known_of hr] at hh
  refine ⟨sp_norm hH ho hh, norm_has ho hh, ?_⟩
  rw [← norm_eq ho hh]
  exact hol
theorem cut_sp (A : Option Addr) (c : Nat) (xs : List Rng) (A' : Option Addr) (c' : Nat) (ys : List Rng) (w : World) (h : SW w A c xs) (h' : SW w A' c' ys) (hr : right xs = true) (hr' : right ys = true) (hl : xs.length ≤ 1000000) (hl' : ys.length ≤ 1000000) :
    Calls Tryd.prog 46 #[.slice A xs.length c, .slice A' ys.length c'] w fun e w' => SP (norm (cutR xs ys)) w e w' ∧ (∀ r, hasR (norm (cutR xs ys)) r = cutR xs ys r) ∧ (norm (cutR xs ys)).length ≤ xs.length + ys.length := by
  refine (cut_any A c xs A' c' ys w h.r h.f h'.r h'.f hl hl').mono ?_
  rintro e w' ⟨out, ho, hh, hol, hH⟩
  rw [known_of hr, known_of hr'] at hh
  refine ⟨sp_norm hH ho hh, norm_has ho hh, ?_⟩
  rw [← norm_eq ho hh]
  exact hol
theorem minus_sp (A : Option Addr) (c : Nat) (xs : List Rng) (A' : Option Addr) (c' : Nat) (ys : List Rng) (w : World) (h : SW w A c xs) (h' : SW w A' c' ys) (hr : right xs = true) (hr' : right ys = true) (hl : xs.length ≤ 500000) (hl' : ys.length ≤ 500000) :
    Calls Tryd.prog 48 #[.slice A xs.length c, .slice A' ys.length c'] w fun e w' => SP (norm (minusR xs ys)) w e w' ∧ (∀ r, hasR (norm (minusR xs ys)) r = minusR xs ys r) ∧ (norm (minusR xs ys)).length ≤ xs.length + ys.length + 1 := by
  refine (minus_any A c xs A' c' ys w h.r h.f h'.r h'.f hl hl').mono ?_
  rintro e w' ⟨out, ho, hh, hol, hH⟩
  rw [known_of hr, known_of hr'] at hh
  refine ⟨sp_norm hH ho hh, norm_has ho hh, ?_⟩
  rw [← norm_eq ho hh]
  exact hol
def orR (xs ys : List Rng) (r : Int) : Bool := hasR xs r || hasR ys r
/-- Two sets in an array of their own, united. -/
theorem union2_sp (b : Nat) (A : Option Addr) (c : Nat) (xs : List Rng) (A' : Option Addr) (c' : Nat) (ys : List Rng) (w : World) (hb : b < w.heap.size) (h0 : w.cell? ⟨b, 0, none⟩ = some (.slice A xs.length c)) (h1 : w.cell? ⟨b, 1, none⟩ = some (.slice A' ys.length c'))
    (h : SW w A c xs) (h' : SW w A' c' ys) (hr : right xs = true) (hr' : right ys = true) (hl : xs.length ≤ 100000) (hl' : ys.length ≤ 100000) :
    Calls Tryd.prog 44 #[.slice (some ⟨b, 0, none⟩) 2 2] w fun e w' => SP (norm (orR xs ys)) w e w' ∧ (∀ r, hasR (norm (orR xs ys)) r = orR xs ys r) ∧ (norm (orR xs ys)).length ≤ 500000 := by
  have C : Calls Tryd.prog 44 #[.slice (some ⟨b, 0, none⟩) 2 2] w _ := union_any (some ⟨b, 0, none⟩) 2 [(A, c, xs), (A', c', ys)] w ⟨fun _ => ⟨b, 0, rfl, hb, fun i s hs => by
    match i, hs with
    | 0, hs => simp at hs; subst hs; exact h0
    | 1, hs => simp at hs; subst hs; exact h1
    | i + 2, hs => simp at hs⟩, fun s hs => by
      simp at hs
      rcases hs with rfl | rfl
      · exact ⟨h.r, h.f, hl⟩
      · exact ⟨h'.r, h'.f, hl'⟩⟩ (by simp)
  refine C.mono ?_
  rintro e w' ⟨out, ho, hh, hol, hH⟩
  have hh' : ∀ r, hasR out r = orR xs ys r := fun r => by
    rw [hh r]
    simp [known_of hr, known_of hr', orR]
  refine ⟨sp_norm hH ho hh', norm_has ho hh', ?_⟩
  rw [← norm_eq ho hh']
  exact hol
/-- One set in an array of its own: as it is. -/
theorem union1_sp (b : Nat) (A : Option Addr) (c : Nat) (xs : List Rng) (w : World) (hb : b < w.heap.size) (h0 : w.cell? ⟨b, 0, none⟩ = some (.slice A xs.length c))
    (h : SW w A c xs) (hr : right xs = true) (hl : xs.length ≤ 100000) :
    Calls Tryd.prog 44 #[.slice (some ⟨b, 0, none⟩) 1 1] w (SP xs w) := by
  have C : Calls Tryd.prog 44 #[.slice (some ⟨b, 0, none⟩) 1 1] w _ := union_any (some ⟨b, 0, none⟩) 1 [(A, c, xs)] w ⟨fun _ => ⟨b, 0, rfl, hb, fun i s hs => by
    match i, hs with
    | 0, hs => simp at hs; subst hs; exact h0
    | i + 1, hs => simp at hs⟩, fun s hs => by
      simp at hs
      subst hs
      exact ⟨h.r, h.f, hl⟩⟩ (by simp)
  refine C.mono ?_
  rintro e w' ⟨out, ho, hh, hol, hH⟩
  have hh' : ∀ r, hasR out r = hasR xs r := fun r => by
    rw [hh r]
    simp [known_of hr]
  have := sp_norm hH ho hh'
  rw [norm_self hr] at this
  exact this
theorem same_sp (A : Option Addr) (c : Nat) (xs : List Rng) (A' : Option Addr) (c' : Nat) (ys : List Rng) (w : World) (h : SW w A c xs) (h' : SW w A' c' ys) (_hr : right xs = true) (e : xs = ys) :
    Calls Tryd.prog 42 #[.slice A xs.length c, .slice A' ys.length c'] w fun e w' => e = .returned (.bool true) ∧ Below w.heap.size w w' := by
  subst e
  refine (same_any2 A c xs A' c' xs w h.r h.f h'.r h'.f).mono ?_
  rintro e w' ⟨rfl, hb⟩
  exact ⟨by simp, hb⟩
theorem count_sp (A : Option Addr) (c : Nat) (xs : List Rng) (w : World) (h : SW w A c xs) (hr : right xs = true) :
    Calls Tryd.prog 39 #[.slice A xs.length c] w fun e w' => e = .returned (.int .i64 (countR xs)) ∧ Below w.heap.size w w' := by
  have := count_any' A c xs w h.r
  rwa [known_of hr] at this
end Go.Proofs.YtimiinnnmdcmhaaDoor
