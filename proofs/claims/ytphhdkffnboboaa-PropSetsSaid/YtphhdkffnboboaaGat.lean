/-
  Contracts: virguleref02.Make, Union, Cut, Minus, Not.
-/
import Derived.Test.YtphhdkffnboboaaGat0
import Derived.Test.YtphhdkffnboboaaGat3
import Derived.Test.YtphhdkffnboboaaMk
namespace Go.Proofs.Ytphhdkffnboboaa
open Go.RowKit Go.Shelf
open Go.Lib

theorem gat_sp {how : Int} {xs ys : List Rng} {f : Int → Bool} {w : World} {e : Ending} {w' : World} (hf : ∀ r, f r = (decide (0 ≤ r) && decide (r < 1114112) && gatF how xs ys r)) (h : GatPost how xs ys w e w') :
    SP (norm f) w e w' ∧ (norm f).length ≤ 2 * (xs.length + ys.length) + 2 := by
  obtain ⟨out, ho, hh, hol, hH⟩ := h
  have hh' : ∀ r, hasR out r = f r := fun r => by
    rw [hf, Bool.eq_iff_iff, hh r]
    simp [and_assoc]
  refine ⟨sp_norm hH ho hh', ?_⟩
  rw [← norm_eq ho hh']
  exact hol
theorem may_in {xs : List Rng} (h : ∀ x ∈ xs, may x = true) {r : Int} (hr : hasR xs r = true) : 0 ≤ r ∧ r < 1114112 := by
  obtain ⟨x, hx, h1, h2⟩ := (hasR_iff xs r).1 hr
  have := (may_iff x).1 (h x hx)
  omega
theorem right_mays {xs : List Rng} (h : right xs = true) : ∀ x ∈ xs, may x = true := fun x hx => (right_may (b := -1) h x hx).1

theorem in_or {xs ys : List Rng} (h : ∀ x ∈ xs, may x = true) (h' : ∀ x ∈ ys, may x = true) (r : Int) : (hasR xs r || hasR ys r) = (decide (0 ≤ r) && decide (r < 1114112) && gatF 0 xs ys r) := by
  have a := fun e => may_in h (r := r) e
  have b := fun e => may_in h' (r := r) e
  have e : gatF 0 xs ys r = (hasR xs r || hasR ys r) := rfl
  rw [e]
  cases hx : hasR xs r <;> cases hy : hasR ys r <;> simp [hx, hy] at a b ⊢ <;> omega
theorem in_cut {xs ys : List Rng} (h : ∀ x ∈ xs, may x = true) (r : Int) : cutR xs ys r = (decide (0 ≤ r) && decide (r < 1114112) && gatF 1 xs ys r) := by
  have a := fun e => may_in h (r := r) e
  have e : gatF 1 xs ys r = (hasR xs r && hasR ys r) := rfl
  rw [e, cutR]
  cases hx : hasR xs r <;> cases hy : hasR ys r <;> simp [hx] at a ⊢ <;> omega
theorem in_minus {xs ys : List Rng} (h : ∀ x ∈ xs, may x = true) (r : Int) : minusR xs ys r = (decide (0 ≤ r) && decide (r < 1114112) && gatF 2 xs ys r) := by
  have a := fun e => may_in h (r := r) e
  have e : gatF 2 xs ys r = (hasR xs r && !hasR ys r) := rfl
  rw [e, minusR]
  cases hx : hasR xs r <;> cases hy : hasR ys r <;> simp [hx] at a ⊢ <;> omega
theorem in_not {xs : List Rng} (r : Int) : notR xs r = (decide (0 ≤ r) && decide (r < 1114112) && gatF 3 xs [] r) := by
  have e : gatF 3 xs [] r = !hasR xs r := rfl
  rw [e, notR]
  have e2 : decide (r ≤ 1114111) = decide (r < 1114112) := by rw [decide_eq_decide]; omega
  rw [e2]

/-- virguleref02.Make. -/
theorem rmake_sp (A : Option Addr) (c : Nat) (xs : List Rng) (w : World) (h : AW w A c xs) (hm : ∀ x ∈ xs, may x = true) (hl : xs.length ≤ 2000) :
    Calls Try.prog 52 #[.slice A xs.length c] w fun e w' => SP (norm (hasR xs)) w e w' ∧ (norm (hasR xs)).length ≤ 2 * xs.length + 2 := by
  have C := (gather0_any A c xs none 0 [] w h.r h.f (RS_nil _ _) (fun _ => rfl) hm (by simp) hl (by simp)).mono fun e w' hh => gat_sp (f := hasR xs) (fun r => by rw [← in_or hm (by simp) r]; simp [hasR_nil]) hh
  have C := Lib.hid C
  have hf := Lib.hid h.f
  clear h
  go_enter Try.func52, Try.ntmps52
  go_wp2_with fail
  refine C.out.mono ?_
  rintro e w1 ⟨⟨A1, c1, rfl, hS, hb⟩, hol⟩
  have H := Lib.hid (And.intro hS (And.intro hb hol))
  clear hS hb hol
  go_wp2
  go_ret
  exact ⟨⟨A1, c1, rfl, H.out.1, H.out.2.1⟩, by have := H.out.2.2; simpa using this⟩
/-- virguleref02.Not. -/
theorem rnot_sp (A : Option Addr) (c : Nat) (xs : List Rng) (w : World) (h : AW w A c xs) (hr : right xs = true) (hl : xs.length ≤ 2000) :
    Calls Try.prog 68 #[.slice A xs.length c] w (SP (norm (notR xs)) w) := by
  have C := Lib.hid ((gather3_any A c xs none 0 [] w h.r h.f (RS_nil _ _) (fun _ => rfl) (right_mays hr) (by simp) hl (by simp)).mono fun e w' hh => (gat_sp (f := notR xs) in_not hh).1)
  clear h hr hl
  go_enter Try.func68, Try.ntmps68
  go_wp2_with fail
  refine C.out.mono ?_
  rintro e w1 ⟨A1, c1, rfl, hS, hb⟩
  have H := Lib.hid (And.intro hS hb)
  clear hS hb
  go_wp2
  go_ret
  exact ⟨A1, c1, rfl, H.out.1, H.out.2⟩
end Go.Proofs.Ytphhdkffnboboaa
