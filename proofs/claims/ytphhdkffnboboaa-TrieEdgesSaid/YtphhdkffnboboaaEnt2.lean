/-
  Contracts: whether any entry is wrong; the set of all numbers.
-/
import Derived.Test.YtphhdkffnboboaaEnt
namespace Go.Proofs.Ytphhdkffnboboaa
open Go.RowKit Go.Shelf
open Go.Lib Go.Great Go.Maps

theorem indexE_empty (A : Option Addr) (cap : Nat) (fv : Value) (w : World) : Calls Try.prog 71 #[.slice A 0 cap, fv] w fun e w' => e = .returned (.int .i64 (-1)) ∧ w' = w := by
  go_enter Try.func71, Try.ntmps71
  go_wp2
  go_loopw [8] (fun i wr => i = .int .i64 0 ∧ wr = w) (fun _ _ => 0)
  case atStart => exact ⟨rfl, rfl⟩
  case round =>
    obtain ⟨rfl, rfl⟩ := hrel
    go_wp2
    go_ret
    exact ⟨rfl, rfl⟩
theorem containsE_empty (A : Option Addr) (cap : Nat) (fv : Value) (w : World) : Calls Try.prog 41 #[.slice A 0 cap, fv] w fun e w' => e = .returned (.bool false) ∧ w' = w := by
  have C := Lib.hid (indexE_empty A cap fv w)
  go_enter Try.func41, Try.ntmps41
  go_wp2_with fail
  refine C.out.mono ?_
  rintro e w1 ⟨rfl, rfl⟩
  go_wp2
  go_ret
  exact ⟨rfl, rfl⟩
theorem containsE_any (A : Option Addr) (cap : Nat) (es : List En) (w : World) (h : ES w w.heap.size A cap es) :
    Calls Try.prog 41 #[.slice A es.length cap, .func (.func 42) #[] #[]] w fun e w' => e = .returned (.bool (es.any wrongE)) ∧ Below w.heap.size w w' := by
  have eg : ∀ args w, (callFunc 42 args).run Try.prog w = .ok (.enter 42 args) w := enters_of Try.func42 (by kernel_rfl) rfl
  by_cases hn : es = []
  · subst hn
    exact (containsE_empty A cap _ w).mono fun e w' h => ⟨h.1, by rw [h.2]; exact Below.refl _ _⟩
  · obtain ⟨b, o, rfl, hb, hE⟩ := h.2.2.2 hn
    have hm : es.length ≤ maxLen := by have := h.1; have := h.2.1; omega
    unfold maxLen at hm
    let α := {e : En // RS w w.heap.size e.A e.cap e.xs}
    have : Inhabited α := ⟨⟨⟨none, 0, [], 0⟩, ⟨Nat.le_refl _, Nat.zero_le _, by simp, by simp⟩⟩⟩
    let zs : List α := es.attachWith _ h.2.2.1
    have hz1 : zs.map Subtype.val = es := List.attachWith_map_subtype_val _ 
    have hzl : zs.length = es.length := by rw [← hz1, List.length_map]
    have hcon := AnyQ.slices_ContainsFunc Try.containsE 2 Try.isAgg72 Try.sizeOf72 (fun x : α => cellE x.1) (fun _ => rfl) (fun x => wrongE x.1) 42 #[] eg b o zs.length cap zs w
      (fun W x hb' => (isWrong_any x.1 W ((x.2.below hb').mono hb'.size)).mono fun e w' hh => ⟨hh.1, hb'.trans (hh.2.mono hb'.size)⟩) (Nat.le_refl _) (by omega) hb (fun j hj i v hi => by
        have hx : zs[j]? = some zs[j]! := by
          rw [List.getElem?_eq_getElem hj, List.getElem!_eq_getElem?_getD, List.getElem?_eq_getElem hj]; rfl
        have hx2 : es[j]? = some (zs[j]!).1 := by rw [← hz1, List.getElem?_map, hx]; rfl
        obtain ⟨h1, h2⟩ := hE j _ hx2
        generalize (zs[j]!).1 = y at hi h1 h2
        match i, hi with
        | 0, hi => simp [cellE] at hi; rw [← hi]; exact h1
        | 1, hi => simp [cellE] at hi; rw [← hi]; exact h2
        | i + 2, hi => simp [cellE] at hi)
    rw [List.take_length, hzl] at hcon
    have hany : zs.any (fun x => wrongE x.1) = es.any wrongE := by rw [← hz1, List.any_map]; rfl
    rw [hany] at hcon
    exact hcon
theorem everything_any (w : World) : Calls Try.prog 43 #[] w fun e w' => ∃ out : List Rng, right out = true ∧ (∀ r : Int, hasR out r = (decide (0 ≤ r) && decide (r ≤ 1114111))) ∧ out.length ≤ 1 ∧ HoldsR w.heap.size 70 out w e w' := by
  have C := Lib.hid (not_any none 0 [] w ⟨by simp, by unfold maxLen; omega, by simp, by simp⟩ (.inl ⟨rfl, rfl⟩) (by simp))
  go_enter Try.func43, Try.ntmps43
  go_wp2_with fail
  refine C.out.mono ?_
  rintro e w1 ⟨out, h1, h2, h3, v, rfl, h4, h5⟩
  have H := Lib.hid (And.intro h1 (And.intro h2 (And.intro h3 (And.intro h4 h5))))
  clear h1 h2 h3 h4 h5
  go_wp2_with fail
  go_ret
  refine ⟨out, H.out.1, fun r => ?_, by have := H.out.2.2.1; simpa using this, _, rfl, H.out.2.2.2.1, H.out.2.2.2.2⟩
  rw [H.out.2.1]
  have e : known [] = [] := by unfold known; split <;> rfl
  rw [e]
  simp [notR, hasR]
end Go.Proofs.Ytphhdkffnboboaa
