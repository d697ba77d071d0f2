/-
  Contracts: virgulelaw04.awake.
  PropSets: any class's numbers. The walk of the law. Which numbers the sets have.
  What the entries of prop.Trie tell.
-/
import Derived.Test.YtphhdkffnboboaaPan
import Derived.Test.YtphhdkffnboboaaPar
import Derived.Test.YtphhdkffnboboaaPag
namespace Go.Proofs.Ytphhdkffnboboaa
open Go.RowKit Go.Shelf
open Go.Lib

theorem cls65 : classR 65 = 17 := by decide +kernel
theorem cls44032 : classR 44032 = 14 := by decide +kernel
theorem cls44033 : classR 44033 = 15 := by decide +kernel
theorem nm17 : nmOf 17 = { data := #[85, 112, 112, 101, 114] } := by kernel_rfl
theorem no17 : noOf { data := #[85, 112, 112, 101, 114] } = 17 := by kernel_rfl
theorem okOf17 : okOf 17 = .tuple #[.int .i64 17, .bool true] := by kernel_rfl
set_option maxHeartbeats 1000000 in
theorem awake_any (w : World) : Calls Try.prog 30 #[] w fun e w' => e = .returned (.bool true) ∧ Below w.heap.size w w' := by
  have C1 := Lib.hid (fun W => number_any { data := #[85, 112, 112, 101, 114] } W)
  rw [no17, okOf17] at C1
  have C2 := Lib.hid (fun W => class_any 65 W (by decide) (by decide))
  rw [cls65] at C2
  have C3 := Lib.hid (fun W => name_any 17 W)
  rw [nm17] at C3
  have C4 := Lib.hid (fun W => class_any 44032 W (by decide) (by decide))
  rw [cls44032] at C4
  have C5 := Lib.hid (fun W => class_any 44033 W (by decide) (by decide))
  rw [cls44033] at C5
  go_enter Try.func30, Try.ntmps30
  go_wp2_with fail
  refine (C1.out _).mono ?_
  rintro e w1 ⟨rfl, hb1⟩
  go_wp2_with fail
  refine (C2.out _).mono ?_
  rintro e w2 ⟨rfl, hb⟩
  have hb2 := hb1.trans (hb.mono hb1.size)
  clear hb hb1
  go_wp2_with fail
  refine (C3.out _).mono ?_
  rintro e w3 ⟨rfl, hb⟩
  have hb3 := hb2.trans (hb.mono hb2.size)
  clear hb hb2
  go_wp2_with fail
  refine (C4.out _).mono ?_
  rintro e w4 ⟨rfl, hb⟩
  have hb4 := hb3.trans (hb.mono hb3.size)
  clear hb hb3
  go_wp2_with fail
  refine (C5.out _).mono ?_
  rintro e w5 ⟨rfl, hb⟩
  have hb5 := hb4.trans (hb.mono hb4.size)
  clear hb hb4
  go_wp2
  go_ret
  exact ⟨rfl, hb5⟩
end Go.Proofs.Ytphhdkffnboboaa

namespace Go.Proofs.Ytphhdkffnboboaa
open Go.RowKit Go.Shelf
open Go.Lib

/-! ### the plain part -/
def gaps : Int → List Rng → List Rng
  | b, [] => if b ≤ 1114111 then [(b, 1114111)] else []
  | b, x :: xs => if b < x.1 then (b, x.1 - 1) :: gaps (x.2 + 1) xs else gaps (x.2 + 1) xs
def risesP : Int → List Rng → Bool
  | _, [] => true
  | b, x :: xs => decide (b ≤ x.1) && decide (x.1 ≤ x.2) && decide (x.2 ≤ 1114111) && risesP (x.2 + 1) xs
theorem risesP_ge {b : Int} {l : List Rng} (h : risesP b l = true) {r : Int} (hr : hasR l r = true) : b ≤ r := by
  induction l generalizing b with
  | nil => simp [hasR] at hr
  | cons x xs ih =>
    simp only [risesP, Bool.and_eq_true, decide_eq_true_eq] at h
    rcases (hasR_cons_iff x xs r).1 hr with h1 | h1
    · omega
    · have := ih h.2 h1
      omega
theorem gaps_has {b : Int} {l : List Rng} (h : risesP b l = true) (r : Int) : hasR (gaps b l) r = true ↔ b ≤ r ∧ r ≤ 1114111 ∧ ¬ hasR l r = true := by
  induction l generalizing b with
  | nil =>
    unfold gaps
    split
    · simp [hasR]
    · simp [hasR]
      omega
  | cons x xs ih =>
    simp only [risesP, Bool.and_eq_true, decide_eq_true_eq] at h
    obtain ⟨⟨⟨h1, h2⟩, h3⟩, h4⟩ := h
    have hi := ih h4
    have hg := @risesP_ge _ _ h4 r
    have hc := hasR_cons_iff x xs r
    unfold gaps
    split
    · rw [hasR_cons_iff, hi, hc]
      simp only
      constructor
      · rintro (h5 | h5)
        · refine ⟨by omega, by omega, ?_⟩
          rintro (h6 | h6)
          · omega
          · have := hg h6; omega
        · refine ⟨by omega, by omega, ?_⟩
          rintro (h6 | h6)
          · omega
          · exact h5.2.2 h6
      · rintro ⟨h5, h6, h7⟩
        by_cases c : r < x.1
        · left; omega
        · right
          refine ⟨?_, h6, fun h8 => h7 (.inr h8)⟩
          apply Classical.byContradiction
          intro h9
          exact h7 (.inl (by omega))
    · rw [hi, hc]
      constructor
      · rintro h5
        refine ⟨by omega, by omega, ?_⟩
        rintro (h6 | h6)
        · omega
        · exact h5.2.2 h6
      · rintro ⟨h5, h6, h7⟩
        refine ⟨?_, h6, fun h8 => h7 (.inr h8)⟩
        apply Classical.byContradiction
        intro h9
        exact h7 (.inl (by omega))
def wholes : List Rng := rowsP.flatMap wholeP
def others : List Rng := gaps 0 wholes
def inners : List Rng := gaps 0 others
theorem wholes_rise : risesP 0 wholes = true := by decide +kernel
theorem others_right : right others = true := by decide +kernel
theorem others_rise : risesP 0 others = true := by decide +kernel
theorem inners_right : right inners = true := by decide +kernel
theorem wholes_may (r : Int) (h : hasR wholes r = true) : 0 ≤ r ∧ r ≤ 1114111 := by
  obtain ⟨x, hx, h1, h2⟩ := (hasR_iff _ _).1 h
  have := (may_iff x).1 (List.all_eq_true.1 whole_may x hx)
  omega
theorem inners_has (r : Int) : hasR inners r = hasR wholes r := by
  rw [Bool.eq_iff_iff]
  unfold inners
  rw [gaps_has others_rise]
  unfold others
  rw [gaps_has wholes_rise]
  constructor
  · rintro ⟨h1, h2, h3⟩
    apply Classical.byContradiction
    exact fun h4 => h3 ⟨h1, h2, h4⟩
  · intro h
    have := wholes_may r h
    exact ⟨this.1, this.2, fun h2 => h2.2.2 h⟩
theorem setP_zero : setP 0 = others := by
  unfold setP
  rw [if_pos rfl]
  have e1 : norm (hasR (rowsP.flatMap wholeP)) = inners := (norm_eq inners_right inners_has).symm
  rw [e1]
  refine (norm_eq others_right fun r => ?_).symm
  rw [Bool.eq_iff_iff, notR_iff, inners_has]
  unfold others
  exact gaps_has wholes_rise r
theorem setP_pos {c : Nat} (h0 : 0 < c) (h : c < 36) : setP (c : Int) = refS c := by
  unfold setP
  rw [if_neg (by omega), (part_right h0 h).1, norm_self (part_right h0 h).2]
theorem setP_out {c : Int} (h : c < 0 ∨ 35 < c) : setP c = [] := by
  unfold setP
  rw [if_neg (by omega), part_out h]
  exact norm_self (xs := []) rfl
theorem setP_ref {c : Nat} (h : c < 36) : setP (c : Int) = refSet c := by
  unfold refSet
  by_cases h0 : c = 0
  · subst h0
    rw [if_pos rfl]
    show setP 0 = _
    unfold setP
    rw [if_pos rfl]
    have e : hasR (allP 35) = hasR (rowsP.flatMap wholeP) := funext has_all
    rw [e]
  · rw [if_neg h0, setP_pos (by omega) h]
/-- Which numbers a class's set has. -/
theorem setP_has {c : Nat} (h : c < 36) (r : Int) : hasR (setP (c : Int)) r = true ↔ 0 ≤ r ∧ r ≤ 1114111 ∧ classR r = c := by
  by_cases h0 : c = 0
  · subst h0
    show hasR (setP 0) r = true ↔ _
    rw [setP_zero]
    unfold others
    rw [gaps_has wholes_rise]
    unfold wholes
    rw [has_other]
    simp
  · rw [setP_pos (by omega) h, ← (part_right (by omega) h).1, has_class (by omega)]
    constructor
    · intro hc
      have h1 : hasR wholes r = true := (has_other r).2 (by omega)
      have := wholes_may r h1
      exact ⟨this.1, this.2, hc⟩
    · exact fun hh => hh.2.2
theorem classR_out {r : Int} (h : r < 0 ∨ 1114111 < r) : classR r = 0 := by
  apply Classical.byContradiction
  intro h0
  have := wholes_may r ((has_other r).2 h0)
  omega

set_option maxHeartbeats 2000000 in
theorem sets_walk (c : Int) (_c0 : -9223372036854775808 ≤ c) (_c1 : c ≤ 9223372036854775807) (w : World) : Calls Try.prog 10 #[.int .i64 c] w fun e w' => e = .returned (.bool true) ∧ Below w.heap.size w w' := by
  have C1 := Lib.hid (set_any c)
  by_cases h : c < 0 ∨ 35 < c
  · have e := setP_out h
    rw [e] at C1
    rcases (show c < 0 ∨ (0 ≤ c ∧ 35 < c) by omega) with h1 | ⟨h1, h2⟩
    all_goals
      clear h e
      go_enter Try.func10, Try.ntmps10
      go_wp2_with fail
      refine (C1.out _).mono ?_
      rintro e w1 ⟨⟨A1, c1, rfl, hS, hb1⟩, _, _⟩
      clear hS
      go_wp2_with fail
      refine (awake_any _).mono ?_
      rintro e w2 ⟨rfl, hb⟩
      have hb2 := hb1.trans (hb.mono hb1.size)
      clear hb hb1
      go_wp2
      go_ret
      exact ⟨rfl, hb2⟩
  · have h1 : 0 ≤ c := by omega
    have h2 : c ≤ 35 := by omega
    obtain ⟨n, rfl⟩ := Int.eq_ofNat_of_zero_le h1
    rw [setP_ref (by omega)] at C1
    have C2 := Lib.hid (rset_any n (by omega))
    generalize refSet n = S at C1 C2
    have d1 : decide ((n : Int) < 0) = false := by simp
    have d2 : decide ((35 : Int) < (n : Int)) = false := by simpa using h2
    clear h
    go_enter Try.func10, Try.ntmps10
    go_wp2_with fail
    refine (C1.out _).mono ?_
    rintro e w1 ⟨⟨A1, c1, rfl, hS, hb1⟩, _, _⟩
    have HS := Lib.hid hS
    clear hS
    go_wp2_with fail
    refine (C2.out _).mono ?_
    rintro e w2 ⟨A2, c2, rfl, hS2, hb⟩
    have hb2 := hb1.trans (hb.mono hb1.size)
    have C3 := is_any A1 c1 S A2 c2 S w2 (HS.out.below hb).r hS2.r
    rw [show decide (S = S) = true by simp] at C3
    have C3 := Lib.hid C3
    clear hb hb1 hS2
    go_wp2_with fail
    refine C3.out.mono ?_
    rintro e w3 ⟨rfl, hb⟩
    have hb3 := hb2.trans (hb.mono hb2.size)
    clear hb hb2
    go_wp2_with fail
    refine (awake_any _).mono ?_
    rintro e w4 ⟨rfl, hb⟩
    have hb4 := hb3.trans (hb.mono hb3.size)
    clear hb hb3
    go_wp2
    go_ret
    exact ⟨rfl, hb4⟩
end Go.Proofs.Ytphhdkffnboboaa

namespace Go.Proofs.Ytphhdkffnboboaa
open Go.RowKit Go.Shelf
open Go.Lib Go.Great Go.Maps

theorem ES_of_own {w : World} {base n : Nat} {v : Value} {es : List En} (h : w.ownsRow base 72 2 v n (es.flatMap cellE)) (hl : es.length = n) (hR : ∀ e ∈ es, RS w w.heap.size e.A e.cap e.xs) :
    ∃ A cap, v = .slice A n cap ∧ ES w w.heap.size A cap es ∧ Fw A cap := by
  rcases h.2 with ⟨h1, h2⟩ | ⟨g, cp, cur, h1, h2, h3, h4, h5, h6, h7⟩
  · refine ⟨none, 0, by rw [h1, h2], ⟨by omega, Nat.zero_le _, hR, fun hn => absurd (List.length_eq_zero_iff.1 (by omega)) hn⟩, fun _ => rfl⟩
  · subst h1
    refine ⟨_, cp, rfl, ⟨by omega, h5, hR, fun _ => ⟨g, 0, rfl, (Array.getElem?_eq_some_iff.1 h3).1, fun i e he => ?_⟩⟩, fun h => by cases h⟩
    obtain ⟨c1, c2⟩ := flat2_get es i e he
    have hi := (List.getElem?_eq_some_iff.1 he).1
    rw [Nat.zero_add]
    have b1 : i * 2 < n * 2 := by omega
    have b2 : i * 2 + 1 < n * 2 := by omega
    rw [h.cellAt _ b1, h.cellAt _ b2]
    exact ⟨c1, c2⟩
theorem fold_one (es : List En) (i : Nat) (C : Int) (h : ∀ e ∈ es, (hasR e.xs i = true ↔ e.c = C)) : ∀ v : Int, es.foldl (fun v e => if hasR e.xs i then e.c else v) v = if es.any (fun e => decide (e.c = C)) then C else v := by
  induction es with
  | nil => intro v; rfl
  | cons x xs ih =>
    intro v
    rw [List.foldl_cons, ih (fun e he => h e (List.mem_cons_of_mem _ he)), List.any_cons]
    by_cases c : x.c = C
    · have hx := (h x List.mem_cons_self).2 c
      simp [hx, c]
    · have hx : ¬ hasR x.xs i = true := fun hh => c ((h x List.mem_cons_self).1 hh)
      simp [hx, c]
/-- The entries of the properties' trie: class and set, but not where they lie. -/
noncomputable def ptK (n : Nat) : List (List Rng × Int) := (List.range n).map fun j => (setP ((j + 1 : Nat) : Int), ((j + 1 : Nat) : Int))
theorem pt_snoc (n : Nat) : ptK (n + 1) = ptK n ++ [(setP ((n + 1 : Nat) : Int), ((n + 1 : Nat) : Int))] := by
  unfold ptK
  rw [List.range_succ, List.map_append]
  rfl
theorem pt_mem {es : List En} {n : Nat} (h : es.map (fun e => (e.xs, e.c)) = ptK n) {e : En} (he : e ∈ es) : ∃ j, j < n ∧ e.xs = setP ((j + 1 : Nat) : Int) ∧ e.c = ((j + 1 : Nat) : Int) := by
  have : (e.xs, e.c) ∈ ptK n := by rw [← h]; exact List.mem_map.2 ⟨e, he, rfl⟩
  obtain ⟨j, hj, hje⟩ := List.mem_map.1 this
  simp only [Prod.mk.injEq] at hje
  exact ⟨j, List.mem_range.1 hj, hje.1.symm, hje.2.symm⟩
theorem pt_fold {es : List En} (h : es.map (fun e => (e.xs, e.c)) = ptK 35) (i : Nat) (hi : i < 1114112) (hc : classR (i : Int) < 36) : es.foldl (fun v e => if hasR e.xs i then e.c else v) 0 = ((classR (i : Int) : Nat) : Int) := by
  rw [fold_one es i (classR (i : Int) : Nat) (fun e he => by
    obtain ⟨j, hj, h1, h2⟩ := pt_mem h he
    rw [h1, h2, setP_has (by omega)]
    constructor
    · intro hh; rw [hh.2.2]
    · intro hh; exact ⟨by omega, by omega, by omega⟩)]
  by_cases c0 : classR (i : Int) = 0
  · rw [c0]; split <;> rfl
  · rw [if_pos]
    rw [List.any_eq_true]
    have : (setP ((classR (i : Int) - 1 + 1 : Nat) : Int), ((classR (i : Int) - 1 + 1 : Nat) : Int)) ∈ es.map (fun e => (e.xs, e.c)) := by
      rw [h]
      exact List.mem_map.2 ⟨classR (i : Int) - 1, List.mem_range.2 (by omega), rfl⟩
    obtain ⟨e, he, hee⟩ := List.mem_map.1 this
    simp only [Prod.mk.injEq] at hee
    refine ⟨e, he, ?_⟩
    rw [hee.2]
    simp
    omega

theorem ptr_entry {w w' : World} {A : Option Addr} {c : Nat} {xs : List Rng} {k : Int} (h : RS w w.heap.size A c xs) (e : w' = w.alloc (.cells #[.slice A xs.length c, .int .i64 k] 72)) : ES w' w'.heap.size (some ⟨w.heap.size, 0, none⟩) 1 [⟨A, c, xs, k⟩] := by
  subst e
  have hh := heap_alloc_new w (.cells #[.slice A xs.length c, .int .i64 k] 72)
  refine ⟨Nat.le_refl _, by unfold maxLen; omega, fun e he => ?_, fun _ => ⟨_, 0, rfl, by simp, fun j e he => ?_⟩⟩
  · simp only [List.mem_cons, List.not_mem_nil, or_false] at he
    subst he
    exact (h.below (below_new w _)).mono (by simp)
  · match j, he with
    | 0, he => simp at he; subst he; exact ⟨cell_of_row _ _ 0 _ _ _ hh, cell_of_row _ _ 1 _ _ _ hh⟩
    | j + 1, he => simp at he
end Go.Proofs.Ytphhdkffnboboaa

