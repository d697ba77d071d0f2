/-
  Contracts: virgulelaw04.awake.
  PropSets: any class's numbers. The walk of the law. Which numbers the sets have.
  What the entries of prop.Trie tell.
  prop.Set hands back ranges that lie in memory of its own.
  The first run of layer 3: the document's example.
  Contracts: virguleref03.Get; the law's own great and may.
-/
import Derived.Test.YtphhdkffnboboaaPth
import Derived.Test.YtphhdkffnboboaaPtk
import Derived.Test.YtphhdkffnboboaaPtf
import Derived.Test.YtphhdkffnboboaaPtj
namespace Go.Proofs.Ytphhdkffnboboaa
open Go.RowKit Go.Shelf
open Go.Lib

theorem cls65 : classR 65 = 17 := by decide +kernel
theorem cls44032 : classR 44032 = 14 := by decide +kernel
theorem cls44033 : classR 44033 = 15 := by decide +kernel
theorem nm17 : nmOf 17 = { data := #[85, 112, 112, 101, 114] } := by kernel_rfl
theorem no17 : noOf { data := #[85, 112, 112, 101, 114] } = 17 := by kernel_rfl
theorem okOf17 : okOf 17 = .tuple #[.int .i64 17, .bool true] := by kernel_rfl
set_option maxHeartbeats 1000000 in
theorem awake_any (w : World) : Calls Try.prog 30 #[] w fun e w' => e = .returned (.bool true) ∧ Below w.heap.size w w' := by
  have C1 := Lib.hid (fun W => number_any { data := #[85, 112, 112, 101, 114] } W)
  rw [no17, okOf17] at C1
  have C2 := Lib.hid (fun W => class_any 65 W (by decide) (by decide))
  rw [cls65] at C2
  have C3 := Lib.hid (fun W => name_any 17 W)
  rw [nm17] at C3
  have C4 := Lib.hid (fun W => class_any 44032 W (by decide) (by decide))
  rw [cls44032] at C4
  have C5 := Lib.hid (fun W => class_any 44033 W (by decide) (by decide))
  rw [cls44033] at C5
  go_enter Try.func30, Try.ntmps30
  go_wp2_with fail
  refine (C1.out _).mono ?_
  rintro e w1 ⟨rfl, hb1⟩
  go_wp2_with fail
  refine (C2.out _).mono ?_
  rintro e w2 ⟨rfl, hb⟩
  have hb2 := hb1.trans (hb.mono hb1.size)
  clear hb hb1
  go_wp2_with fail
  refine (C3.out _).mono ?_
  rintro e w3 ⟨rfl, hb⟩
  have hb3 := hb2.trans (hb.mono hb2.size)
  clear hb hb2
  go_wp2_with fail
  refine (C4.out _).mono ?_
  rintro e w4 ⟨rfl, hb⟩
  have hb4 := hb3.trans (hb.mono hb3.size)
  clear hb hb3
  go_wp2_with fail
  refine (C5.out _).mono ?_
  rintro e w5 ⟨rfl, hb⟩
  have hb5 := hb4.trans (hb.mono hb4.size)
  clear hb hb4
  go_wp2
  go_ret
  exact ⟨rfl, hb5⟩
end Go.Proofs.Ytphhdkffnboboaa

namespace Go.Proofs.Ytphhdkffnboboaa
open Go.RowKit Go.Shelf
open Go.Lib

/-! ### the plain part -/
def gaps : Int → List Rng → List Rng
  | b, [] => if b ≤ 1114111 then [(b, 1114111)] else []
  | b, x :: xs => if b < x.1 then (b, x.1 - 1) :: gaps (x.2 + 1) xs else gaps (x.2 + 1) xs
def risesP : Int → List Rng → Bool
  | _, [] => true
  | b, x :: xs => decide (b ≤ x.1) && decide (x.1 ≤ x.2) && decide (x.2 ≤ 1114111) && risesP (x.2 + 1) xs
theorem risesP_ge {b : Int} {l : List Rng} (h : risesP b l = true) {r : Int} (hr : hasR l r = true) : b ≤ r := by
  induction l generalizing b with
  | nil => simp [hasR] at hr
  | cons x xs ih =>
    simp only [risesP, Bool.and_eq_true, decide_eq_true_eq] at h
    rcases (hasR_cons_iff x xs r).1 hr with h1 | h1
    · omega
    · have := ih h.2 h1
      omega
theorem gaps_has {b : Int} {l : List Rng} (h : risesP b l = true) (r : Int) : hasR (gaps b l) r = true ↔ b ≤ r ∧ r ≤ 1114111 ∧ ¬ hasR l r = true := by
  induction l generalizing b with
  | nil =>
    unfold gaps
    split
    · simp [hasR]
    · simp [hasR]
      omega
  | cons x xs ih =>
    simp only [risesP, Bool.and_eq_true, decide_eq_true_eq] at h
    obtain ⟨⟨⟨h1, h2⟩, h3⟩, h4⟩ := h
    have hi := ih h4
    have hg := @risesP_ge _ _ h4 r
    have hc := hasR_cons_iff x xs r
    unfold gaps
    split
    · rw [hasR_cons_iff, hi, hc]
      simp only
      constructor
      · rintro (h5 | h5)
        · refine ⟨by omega, by omega, ?_⟩
          rintro (h6 | h6)
          · omega
          · have := hg h6; omega
        · refine ⟨by omega, by omega, ?_⟩
          rintro (h6 | h6)
          · omega
          · exact h5.2.2 h6
      · rintro ⟨h5, h6, h7⟩
        by_cases c : r < x.1
        · left; omega
        · right
          refine ⟨?_, h6, fun h8 => h7 (.inr h8)⟩
          apply Classical.byContradiction
          intro h9
          exact h7 (.inl (by omega))
    · rw [hi, hc]
      constructor
      · rintro h5
        refine ⟨by omega, by omega, ?_⟩
        rintro (h6 | h6)
        · omega
        · exact h5.2.2 h6
      · rintro ⟨h5, h6, h7⟩
        refine ⟨?_, h6, fun h8 => h7 (.inr h8)⟩
        apply Classical.byContradiction
        intro h9
        exact h7 (.inl (by omega))
def wholes : List Rng := rowsP.flatMap wholeP
def others : List Rng := gaps 0 wholes
def inners : List Rng := gaps 0 others
theorem wholes_rise : risesP 0 wholes = true := by decide +kernel
theorem others_right : right others = true := by decide +kernel
theorem others_rise : risesP 0 others = true := by decide +kernel
theorem inners_right : right inners = true := by decide +kernel
theorem wholes_may (r : Int) (h : hasR wholes r = true) : 0 ≤ r ∧ r ≤ 1114111 := by
  obtain ⟨x, hx, h1, h2⟩ := (hasR_iff _ _).1 h
  have := (may_iff x).1 (List.all_eq_true.1 whole_may x hx)
  omega
theorem inners_has (r : Int) : hasR inners r = hasR wholes r := by
  rw [Bool.eq_iff_iff]
  unfold inners
  rw [gaps_has others_rise]
  unfold others
  rw [gaps_has wholes_rise]
  constructor
  · rintro ⟨h1, h2, h3⟩
    apply Classical.byContradiction
    exact fun h4 => h3 ⟨h1, h2, h4⟩
  · intro h
    have := wholes_may r h
    exact ⟨this.1, this.2, fun h2 => h2.2.2 h⟩
theorem setP_zero : setP 0 = others := by
  unfold setP
  rw [if_pos rfl]
  have e1 : norm (hasR (rowsP.flatMap wholeP)) = inners := (norm_eq inners_right inners_has).symm
  rw [e1]
  refine (norm_eq others_right fun r => ?_).symm
  rw [Bool.eq_iff_iff, notR_iff, inners_has]
  unfold others
  exact gaps_has wholes_rise r
theorem setP_pos {c : Nat} (h0 : 0 < c) (h : c < 36) : setP (c : Int) = refS c := by
  unfold setP
  rw [if_neg (by omega), (part_right h0 h).1, norm_self (part_right h0 h).2]
theorem setP_out {c : Int} (h : c < 0 ∨ 35 < c) : setP c = [] := by
  unfold setP
  rw [if_neg (by omega), part_out h]
  exact norm_self (xs := []) rfl
theorem setP_ref {c : Nat} (h : c < 36) : setP (c : Int) = refSet c := by
  unfold refSet
  by_cases h0 : c = 0
  · subst h0
    rw [if_pos rfl]
    show setP 0 = _
    unfold setP
    rw [if_pos rfl]
    have e : hasR (allP 35) = hasR (rowsP.flatMap wholeP) := funext has_all
    rw [e]
  · rw [if_neg h0, setP_pos (by omega) h]
/-- Which numbers a class's set has. -/
theorem setP_has {c : Nat} (h : c < 36) (r : Int) : hasR (setP (c : Int)) r = true ↔ 0 ≤ r ∧ r ≤ 1114111 ∧ classR r = c := by
  by_cases h0 : c = 0
  · subst h0
    show hasR (setP 0) r = true ↔ _
    rw [setP_zero]
    unfold others
    rw [gaps_has wholes_rise]
    unfold wholes
    rw [has_other]
    simp
  · rw [setP_pos (by omega) h, ← (part_right (by omega) h).1, has_class (by omega)]
    constructor
    · intro hc
      have h1 : hasR wholes r = true := (has_other r).2 (by omega)
      have := wholes_may r h1
      exact ⟨this.1, this.2, hc⟩
    · exact fun hh => hh.2.2
theorem classR_out {r : Int} (h : r < 0 ∨ 1114111 < r) : classR r = 0 := by
  apply Classical.byContradiction
  intro h0
  have := wholes_may r ((has_other r).2 h0)
  omega

set_option maxHeartbeats 2000000 in
theorem sets_walk (c : Int) (_c0 : -9223372036854775808 ≤ c) (_c1 : c ≤ 9223372036854775807) (w : World) : Calls Try.prog 10 #[.int .i64 c] w fun e w' => e = .returned (.bool true) ∧ Below w.heap.size w w' := by
  have C1 := Lib.hid (set_any c)
  by_cases h : c < 0 ∨ 35 < c
  · have e := setP_out h
    rw [e] at C1
    rcases (show c < 0 ∨ (0 ≤ c ∧ 35 < c) by omega) with h1 | ⟨h1, h2⟩
    all_goals
      clear h e
      go_enter Try.func10, Try.ntmps10
      go_wp2_with fail
      refine (C1.out _).mono ?_
      rintro e w1 ⟨⟨A1, c1, rfl, hS, hb1⟩, _, _⟩
      clear hS
      go_wp2_with fail
      refine (awake_any _).mono ?_
      rintro e w2 ⟨rfl, hb⟩
      have hb2 := hb1.trans (hb.mono hb1.size)
      clear hb hb1
      go_wp2
      go_ret
      exact ⟨rfl, hb2⟩
  · have h1 : 0 ≤ c := by omega
    have h2 : c ≤ 35 := by omega
    obtain ⟨n, rfl⟩ := Int.eq_ofNat_of_zero_le h1
    rw [setP_ref (by omega)] at C1
    have C2 := Lib.hid (rset_any n (by omega))
    generalize refSet n = S at C1 C2
    have d1 : decide ((n : Int) < 0) = false := by simp
    have d2 : decide ((35 : Int) < (n : Int)) = false := by simpa using h2
    clear h
    go_enter Try.func10, Try.ntmps10
    go_wp2_with fail
    refine (C1.out _).mono ?_
    rintro e w1 ⟨⟨A1, c1, rfl, hS, hb1⟩, _, _⟩
    have HS := Lib.hid hS
    clear hS
    go_wp2_with fail
    refine (C2.out _).mono ?_
    rintro e w2 ⟨A2, c2, rfl, hS2, hb⟩
    have hb2 := hb1.trans (hb.mono hb1.size)
    have C3 := is_any A1 c1 S A2 c2 S w2 (HS.out.below hb).r hS2.r
    rw [show decide (S = S) = true by simp] at C3
    have C3 := Lib.hid C3
    clear hb hb1 hS2
    go_wp2_with fail
    refine C3.out.mono ?_
    rintro e w3 ⟨rfl, hb⟩
    have hb3 := hb2.trans (hb.mono hb2.size)
    clear hb hb2
    go_wp2_with fail
    refine (awake_any _).mono ?_
    rintro e w4 ⟨rfl, hb⟩
    have hb4 := hb3.trans (hb.mono hb3.size)
    clear hb hb3
    go_wp2
    go_ret
    exact ⟨rfl, hb4⟩
end Go.Proofs.Ytphhdkffnboboaa

namespace Go.Proofs.Ytphhdkffnboboaa
open Go.RowKit Go.Shelf
open Go.Lib Go.Great Go.Maps

theorem ES_of_own {w : World} {base n : Nat} {v : Value} {es : List En} (h : w.ownsRow base 72 2 v n (es.flatMap cellE)) (hl : es.length = n) (hR : ∀ e ∈ es, RS w w.heap.size e.A e.cap e.xs) :
    ∃ A cap, v = .slice A n cap ∧ ES w w.heap.size A cap es ∧ Fw A cap := by
  rcases h.2 with ⟨h1, h2⟩ | ⟨g, cp, cur, h1, h2, h3, h4, h5, h6, h7⟩
  · refine ⟨none, 0, by rw [h1, h2], ⟨by omega, Nat.zero_le _, hR, fun hn => absurd (List.length_eq_zero_iff.1 (by omega)) hn⟩, fun _ => rfl⟩
  · subst h1
    refine ⟨_, cp, rfl, ⟨by omega, h5, hR, fun _ => ⟨g, 0, rfl, (Array.getElem?_eq_some_iff.1 h3).1, fun i e he => ?_⟩⟩, fun h => by cases h⟩
    obtain ⟨c1, c2⟩ := flat2_get es i e he
    have hi := (List.getElem?_eq_some_iff.1 he).1
    rw [Nat.zero_add]
    have b1 : i * 2 < n * 2 := by omega
    have b2 : i * 2 + 1 < n * 2 := by omega
    rw [h.cellAt _ b1, h.cellAt _ b2]
    exact ⟨c1, c2⟩
theorem fold_one (es : List En) (i : Nat) (C : Int) (h : ∀ e ∈ es, (hasR e.xs i = true ↔ e.c = C)) : ∀ v : Int, es.foldl (fun v e => if hasR e.xs i then e.c else v) v = if es.any (fun e => decide (e.c = C)) then C else v := by
  induction es with
  | nil => intro v; rfl
  | cons x xs ih =>
    intro v
    rw [List.foldl_cons, ih (fun e he => h e (List.mem_cons_of_mem _ he)), List.any_cons]
    by_cases c : x.c = C
    · have hx := (h x List.mem_cons_self).2 c
      simp [hx, c]
    · have hx : ¬ hasR x.xs i = true := fun hh => c ((h x List.mem_cons_self).1 hh)
      simp [hx, c]
/-- The entries of the properties' trie: class and set, but not where they lie. -/
noncomputable def ptK (n : Nat) : List (List Rng × Int) := (List.range n).map fun j => (setP ((j + 1 : Nat) : Int), ((j + 1 : Nat) : Int))
theorem pt_snoc (n : Nat) : ptK (n + 1) = ptK n ++ [(setP ((n + 1 : Nat) : Int), ((n + 1 : Nat) : Int))] := by
  unfold ptK
  rw [List.range_succ, List.map_append]
  rfl
theorem pt_mem {es : List En} {n : Nat} (h : es.map (fun e => (e.xs, e.c)) = ptK n) {e : En} (he : e ∈ es) : ∃ j, j < n ∧ e.xs = setP ((j + 1 : Nat) : Int) ∧ e.c = ((j + 1 : Nat) : Int) := by
  have : (e.xs, e.c) ∈ ptK n := by rw [← h]; exact List.mem_map.2 ⟨e, he, rfl⟩
  obtain ⟨j, hj, hje⟩ := List.mem_map.1 this
  simp only [Prod.mk.injEq] at hje
  exact ⟨j, List.mem_range.1 hj, hje.1.symm, hje.2.symm⟩
theorem pt_fold {es : List En} (h : es.map (fun e => (e.xs, e.c)) = ptK 35) (i : Nat) (hi : i < 1114112) (hc : classR (i : Int) < 36) : es.foldl (fun v e => if hasR e.xs i then e.c else v) 0 = ((classR (i : Int) : Nat) : Int) := by
  rw [fold_one es i (classR (i : Int) : Nat) (fun e he => by
    obtain ⟨j, hj, h1, h2⟩ := pt_mem h he
    rw [h1, h2, setP_has (by omega)]
    constructor
    · intro hh; rw [hh.2.2]
    · intro hh; exact ⟨by omega, by omega, by omega⟩)]
  by_cases c0 : classR (i : Int) = 0
  · rw [c0]; split <;> rfl
  · rw [if_pos]
    rw [List.any_eq_true]
    have : (setP ((classR (i : Int) - 1 + 1 : Nat) : Int), ((classR (i : Int) - 1 + 1 : Nat) : Int)) ∈ es.map (fun e => (e.xs, e.c)) := by
      rw [h]
      exact List.mem_map.2 ⟨classR (i : Int) - 1, List.mem_range.2 (by omega), rfl⟩
    obtain ⟨e, he, hee⟩ := List.mem_map.1 this
    simp only [Prod.mk.injEq] at hee
    refine ⟨e, he, ?_⟩
    rw [hee.2]
    simp
    omega

theorem ptr_entry {w w' : World} {A : Option Addr} {c : Nat} {xs : List Rng} {k : Int} (h : RS w w.heap.size A c xs) (e : w' = w.alloc (.cells #[.slice A xs.length c, .int .i64 k] 72)) : ES w' w'.heap.size (some ⟨w.heap.size, 0, none⟩) 1 [⟨A, c, xs, k⟩] := by
  subst e
  have hh := heap_alloc_new w (.cells #[.slice A xs.length c, .int .i64 k] 72)
  refine ⟨Nat.le_refl _, by unfold maxLen; omega, fun e he => ?_, fun _ => ⟨_, 0, rfl, by simp, fun j e he => ?_⟩⟩
  · simp only [List.mem_cons, List.not_mem_nil, or_false] at he
    subst he
    exact (h.below (below_new w _)).mono (by simp)
  · match j, he with
    | 0, he => simp at he; subst he; exact ⟨cell_of_row _ _ 0 _ _ _ hh, cell_of_row _ _ 1 _ _ _ hh⟩
    | j + 1, he => simp at he
end Go.Proofs.Ytphhdkffnboboaa

namespace Go.Proofs.Ytphhdkffnboboaa
open Go.RowKit Go.Shelf
open Go.Lib Go.Great

/-- What a call hands back that makes a list in memory of its own. -/
def SPn (xs : List Rng) (w : World) (e : Ending) (w' : World) : Prop := ∃ A c, e = .returned (.slice A xs.length c) ∧ SW w' A c xs ∧ Below w.heap.size w w' ∧ ∀ p, A = some p → w.heap.size ≤ p.block
theorem own_fresh {B T n cap : Nat} {w : World} {A : Option Addr} {m sz : Nat} {xs : List Value} (h : w.ownsRow B T sz (.slice A n cap) m xs) : ∀ p, A = some p → B ≤ p.block := fun p hp => (own_block_lt h p.block (by rw [hp]; rfl)).1
theorem spn_norm {T : Nat} {f : Int → Bool} {out : List Rng} {w : World} {e : Ending} {w' : World} (h : HoldsR w.heap.size T out w e w') (hr : right out = true) (hf : ∀ r, hasR out r = f r) : SPn (norm f) w e w' := by
  rw [← norm_eq hr hf]
  obtain ⟨v, rfl, hown, hb⟩ := h
  obtain ⟨A, c, rfl, hS⟩ := sw_own hown (i32_of_right hr)
  exact ⟨A, c, rfl, hS, hb, own_fresh hown⟩
theorem make_okn (A : Option Addr) (c : Nat) (xs : List Rng) (w : World) (h : SW w A c xs) (hl : xs.length ≤ 1000) (hm : xs.all may = true) :
    Calls Try.prog 75 #[.slice A xs.length c] w fun e w' => ∃ A' c', e = .returned (.tuple #[.slice A' (norm (hasR xs)).length c', .int .i64 0]) ∧ SW w' A' c' (norm (hasR xs)) ∧ (norm (hasR xs)).length ≤ xs.length ∧ (∀ r, hasR (norm (hasR xs)) r = hasR xs r) ∧ Below w.heap.size w w' ∧ ∀ p, A' = some p → w.heap.size ≤ p.block := by
  refine (make_any A c xs w h.r h.f (by omega)).mono ?_
  rintro e w' ⟨hb, h2⟩
  rw [if_neg (by omega), if_pos hm] at h2
  obtain ⟨v, out, rfl, hr, hh, hol, hown⟩ := h2
  have hn := norm_eq hr hh
  subst hn
  obtain ⟨A', c', rfl, hS⟩ := sw_own hown (i32_of_right hr)
  exact ⟨A', c', rfl, hS, hol, hh, hb, own_fresh hown⟩
theorem not_spn (A : Option Addr) (c : Nat) (xs : List Rng) (w : World) (h : SW w A c xs) (hr : right xs = true) (hl : xs.length ≤ 1000000) :
    Calls Try.prog 63 #[.slice A xs.length c] w fun e w' => SPn (norm (notR xs)) w e w' ∧ (∀ r, hasR (norm (notR xs)) r = notR xs r) ∧ (norm (notR xs)).length ≤ xs.length + 1 := by
  refine (not_any A c xs w h.r h.f hl).mono ?_
  rintro e w' ⟨out, ho, hh, hol, hH⟩
  rw [known_of hr] at hh
  refine ⟨spn_norm hH ho hh, norm_has ho hh, ?_⟩
  rw [← norm_eq ho hh]
  exact hol

set_option maxHeartbeats 4000000 in
set_option maxRecDepth 100000 in
theorem setOf_fr (g : Nat) (cb : Array Value) (eg : ∀ args w, (callFunc g args).run Try.prog w = .ok (.enter g args) w) (pick : Row → List Rng) (w : World)
    (hp : ∀ x, x ∈ rowsP → ∀ W, Below w.heap.size w W → Calls Try.prog g (#[.agg #[.int .i32 x.1, .int .i32 x.2.1, .int .i64 (x.2.2 : Int)]] ++ cb) W (SP (pick x) W))
    (hm : ((rowsP.flatMap pick).all may) = true) (hl : (rowsP.flatMap pick).length ≤ 1000) :
    Calls Try.prog 64 #[.func (.func g) #[] cb] w fun e w' => SPn (norm (hasR (rowsP.flatMap pick))) w e w' ∧ (∀ r, hasR (norm (hasR (rowsP.flatMap pick))) r = hasR (rowsP.flatMap pick) r) ∧ (norm (hasR (rowsP.flatMap pick))).length ≤ 1000 := by
  obtain ⟨i0, hi, hz0, hz1, hz2⟩ := info_parts Try.info70
  obtain ⟨F, hF⟩ : ∃ F : Nat → List Rng, ∀ k, F k = (rowsP.take k).flatMap pick := ⟨_, fun _ => rfl⟩
  have HF0 : Hid (F 0 = []) := Lib.hid (by rw [hF]; rfl)
  have HFs : Hid (∀ k x, rowsP[k]? = some x → F (k + 1) = F k ++ pick x) := Lib.hid (fun k x hx => by rw [hF, hF]; exact flat_take pick k x hx)
  have HFl : Hid (∀ k, (F k).length ≤ (rowsP.flatMap pick).length) := Lib.hid (fun k => by rw [hF]; exact flat_len pick k)
  have HFT : Hid (∀ k, 140 ≤ k → F k = rowsP.flatMap pick) := Lib.hid (fun k hk => by rw [hF, List.take_of_length_le (by rw [rows_len]; exact hk)])
  clear hF
  generalize rowsP.flatMap pick = T at *
  have HP := Lib.hid hp
  have HM := Lib.hid hm
  have HL := Lib.hid hl
  have EG := Lib.hid eg
  clear hp hm hl eg
  go_enter Try.func64, Try.ntmps64
  go_wp2_with fail
  refine (rows_any _).mono ?_
  rintro e w1 ⟨rfl, hb1⟩
  have HB1 := Lib.hid hb1
  clear hb1
  go_wp2_with fail
  go_loopw [3, 9] (fun v i wr => ∃ k : Nat, i = .int .i64 k ∧ k ≤ 140 ∧ wr.ownsRow w1.heap.size 70 2 v (F k).length (cells2 (F k)) ∧ Below w1.heap.size w1 wr) (fun _ i _ => 140 - (RowKit.intOf i).toNat)
  case atStart => exact ⟨0, rfl, by omega, by rw [HF0.out]; exact World.ownsRow_nil _ _ _ _, Below.refl _ _⟩
  case round =>
    obtain ⟨k, rfl, hk, hown, hb⟩ := hrel
    by_cases hlt : k < 140
    · obtain ⟨x, hx⟩ : ∃ x, rowsP[k]? = some x := ⟨rowsP[k]'(by rw [rows_len]; exact hlt), List.getElem?_eq_getElem _⟩
      have HX := Lib.hid (row_index hx)
      have HF := Lib.hid (HFs.out k x hx)
      have HLk1 := Lib.hid (HFl.out (k + 1))
      have hmem := List.mem_of_getElem? hx
      have C := Lib.hid (HP.out x hmem)
      clear hx hmem
      obtain ⟨lo, hi', cl⟩ := x
      have i1 : (k : Int) < 140 := by omega
      have hX := HX.out wr
      simp only at hX
      have hbx := hb.alloc hb.size (.cells #[.int .i32 lo, .int .i32 hi', .int .i64 (cl : Int)] 97)
      have own1 := hown.alloc (.cells #[.int .i32 lo, .int .i32 hi', .int .i64 (cl : Int)] 97)
      have hC := C.out _ (HB1.out.trans (hbx.mono HB1.out.size))
      simp only at hC
      generalize hP : pick (lo, hi', cl) = Pk at hC HF
      clear hP hown
      have hEG := EG.out
      go_wp2_with fail
      refine hC.mono ?_
      rintro e w2 ⟨A1, c1, rfl, hS, hb2⟩
      have own2 := ownsRow_below own1 hb2
      have hbz := hbx.trans (hb2.mono hbx.size)
      have HO := Lib.hid own2
      have HS := Lib.hid hS
      have HZ := Lib.hid hbz
      have hlen : (F k).length + Pk.length ≤ 1000 := by
        have h1 := HLk1.out
        have h2 := HL.out
        rw [HF.out, List.length_append] at h1
        omega
      have HLN := Lib.hid hlen
      clear hC own1 own2 hb hb2 hbx hbz hS hlen hEG
      go_wp2_with (refine wpList_append_rg rfl (.tmp 12) (.tmp 15) 41 41 rfl w1.heap.size 70 i0 (.agg #[.int .i32 0, .int .i32 0]) Try.underlying41 Try.underlying41 hi hz0 hz1 hz2 rfl _ (F k) rfl HO.out A1 c1 Pk rfl HS.out.r HS.out.f.w (by have := HLN.out; omega) HZ.out.size ?_; intro v2 w3 own3 hb3)
      rw [← HF.out] at own3
      have hbq := HZ.out.trans hb3
      clear hb3
      go_wp2
      go_roundw
      case rel => exact ⟨k + 1, by go_num, by omega, own3, hbq⟩
      case measure => simp [RowKit.intOf]; omega
    · have hkn : k = 140 := by omega
      have e : F k = T := HFT.out k (by omega)
      rw [e] at hown
      have i1 : (140 : Int) ≤ (k : Int) := by omega
      clear hkn hlt
      obtain ⟨A1, c1, hv, hS⟩ := sw_own hown (fun x hx => may_i32 (List.all_eq_true.1 HM.out) x hx)
      subst hv
      have C := make_okn A1 c1 T wr hS (by exact HL.out) HM.out
      have C := Lib.hid C
      have hbz := HB1.out.trans (hb.mono HB1.out.size)
      have HZ := Lib.hid hbz
      clear hown e hS hb hbz
      go_wp2_with fail
      refine C.out.mono ?_
      rintro e w2 ⟨A2, c2, rfl, hS, hle, hh, hb2, hfr⟩
      have H := Lib.hid (And.intro hS (And.intro (HZ.out.trans (hb2.mono HZ.out.size)) (And.intro hh (And.intro (show (norm (hasR T)).length ≤ 1000 by have := HL.out; omega) (show ∀ p, A2 = some p → w.heap.size ≤ p.block from fun p hp => Nat.le_trans HZ.out.size (hfr p hp))))))
      clear hS hle hh hb2 hfr
      go_wp2
      go_ret
      exact ⟨⟨_, _, rfl, H.out.1, H.out.2.1, H.out.2.2.2.2⟩, H.out.2.2.1, H.out.2.2.2.1⟩
set_option maxHeartbeats 2000000 in
theorem set_fr (c : Int) (w : World) : Calls Try.prog 34 #[.int .i64 c] w fun e w' => SPn (setP c) w e w' ∧ right (setP c) = true ∧ (setP c).length ≤ 1001 := by
  have hb := below_new w (.cells #[.int .i64 c] 3)
  have hc := cell_new_sl w (.int .i64 c) 3
  have hz : w.heap.size < (w.alloc (.cells #[.int .i64 c] 3)).heap.size := by simp
  generalize hW : w.alloc (.cells #[.int .i64 c] 3) = W0 at *
  have HW := Lib.hid hW
  clear hW
  by_cases h0 : c = 0
  · subst h0
    have e : setP 0 = norm (notR (norm (hasR (rowsP.flatMap wholeP)))) := by unfold setP; rw [if_pos rfl]
    rw [e]
    have C := setOf_fr 65 #[] (fun _ _ => by kernel_rfl) wholeP W0 (fun x hx W _ => by
      have := whole_any x.1 x.2.1 x.2.2 (row_i32 hx) W
      exact this) whole_may (by rw [whole_len]; omega)
    generalize rowsP.flatMap wholeP = T at *
    have hr := norm_right (hasR T)
    generalize norm (hasR T) = S at *
    have C2f := fun A c W (hS : SW W A c S) (hl : S.length ≤ 1000) => not_spn A c S W hS hr (by omega)
    have hr2 := norm_right (notR S)
    generalize norm (notR S) = S2 at *
    have C2f := Lib.hid C2f
    have HR2 := Lib.hid hr2
    have C := Lib.hid C
    have HB := Lib.hid hb
    clear e hr hb hz hr2
    go_enter Try.func34, Try.ntmps34
    go_wp2_with fail
    rw [HW.out]
    go_wp2_with fail
    refine C.out.mono ?_
    rintro e w1 ⟨⟨A1, c1, rfl, hS, hb1, _⟩, _, hl⟩
    have C2 := C2f.out A1 c1 w1 hS hl
    have HL := Lib.hid hl
    have C2 := Lib.hid C2
    have hb2 := HB.out.trans (hb1.mono HB.out.size)
    have HB2 := Lib.hid hb2
    clear hS hb1 hb2 hl
    go_wp2_with fail
    refine C2.out.mono ?_
    rintro e w2 ⟨⟨A2, c2, rfl, hS, hb1, hfr⟩, _, hl⟩
    have H := Lib.hid (And.intro hS (And.intro (HB2.out.trans (hb1.mono HB2.out.size)) (And.intro (show S2.length ≤ 1001 by have := HL.out; omega) (show ∀ p, A2 = some p → w.heap.size ≤ p.block from fun p hp => Nat.le_trans HB2.out.size (hfr p hp)))))
    clear hS hb1 hl hfr
    go_wp2
    go_ret
    exact ⟨⟨_, _, rfl, H.out.1, H.out.2.1, H.out.2.2.2⟩, HR2.out, H.out.2.2.1⟩
  · have e : setP c = norm (hasR (rowsP.flatMap (partP c))) := by unfold setP; rw [if_neg h0]
    rw [e]
    have hp := parts_ok c h0
    have C := setOf_fr 66 #[.pointer (some ⟨w.heap.size, 0, none⟩)] (fun _ _ => by kernel_rfl) (partP c) W0 (fun x hx W hbW => by
      have := pick_any x hx c w.heap.size W (by have := hbW.size; omega) ((hbW.cell (p := ⟨w.heap.size, 0, none⟩) hz).trans hc)
      exact this) hp.1 hp.2
    generalize rowsP.flatMap (partP c) = T at *
    have hr := norm_right (hasR T)
    generalize norm (hasR T) = S at *
    have C := Lib.hid C
    have HR := Lib.hid hr
    have HB := Lib.hid hb
    have d : (c == 0) = false := by simpa using h0
    clear e hr hb hz hp h0
    go_enter Try.func34, Try.ntmps34
    go_wp2_with fail
    rw [HW.out]
    go_wp2_with fail
    refine C.out.mono ?_
    rintro e w1 ⟨⟨A1, c1, rfl, hS, hb1, hfr⟩, _, hl⟩
    have H := Lib.hid (And.intro hS (And.intro (HB.out.trans (hb1.mono HB.out.size)) (And.intro hl (show ∀ p, A1 = some p → w.heap.size ≤ p.block from fun p hp => Nat.le_trans HB.out.size (hfr p hp)))))
    clear hS hb1 hl hfr
    go_wp2
    go_ret
    exact ⟨⟨_, _, rfl, H.out.1, H.out.2.1, H.out.2.2.2⟩, HR.out, by have := H.out.2.2.1; omega⟩
end Go.Proofs.Ytphhdkffnboboaa

namespace Go.Proofs.Ytphhdkffnboboaa
open Go.RowKit Go.Shelf
open Go.Lib Go.Great Go.Maps

theorem dd_first (F : Nat → Int) : dd F 1 = [0] := by rw [dd_succ]; rfl
theorem dd_one (F : Nat → Int) (h : ∀ i, 1 ≤ i → i < 4352 → sameB F 0 i = true) : ∀ m, m + 1 ≤ 4352 → dd F (m + 1) = [0] := by
  intro m
  induction m with
  | zero => intro _; exact dd_first F
  | succ m ih =>
    intro hm
    rw [dd_succ, ih (by omega), if_pos (by simp [h (m + 1) (by omega) (by omega)])]
theorem dd_two (F : Nat → Int) (h0 : sameB F 0 1 = false) (h : ∀ i, 1 ≤ i → i < 4352 → sameB F 1 i = true) : ∀ m, m + 2 ≤ 4352 → dd F (m + 2) = [0, 1] := by
  intro m
  induction m with
  | zero => intro _; rw [dd_succ, dd_first, if_neg (by simp [h0])]; rfl
  | succ m ih =>
    intro hm
    rw [dd_succ, ih (by omega), if_pos (by simp [h (m + 2) (by omega) (by omega)])]
theorem sameB_of (F : Nat → Int) (k i : Nat) (h : ∀ j, j < 256 → F (256 * k + j) = F (256 * i + j)) : sameB F k i = true := by
  unfold sameB
  rw [List.all_eq_true]
  intro j hj
  rw [h j (List.mem_range.1 hj)]
  simp
theorem sameB_not (F : Nat → Int) (k i j : Nat) (hj : j < 256) (h : F (256 * k + j) ≠ F (256 * i + j)) : sameB F k i = false := by
  rw [Bool.eq_false_iff]
  intro hs
  unfold sameB at hs
  have := List.all_eq_true.1 hs j (List.mem_range.2 hj)
  exact h (eq_of_beq this)

def awEs (N : Nat) : List En := [⟨some ⟨N, 0, none⟩, 1, [(97, 99)], 5⟩, ⟨some ⟨N + 1, 0, none⟩, 1, [(99, 99)], 7⟩]
def awF (i : Nat) : Int := if i = 99 then 7 else if i = 97 ∨ i = 98 then 5 else 0
theorem aw_fold (N : Nat) (i : Nat) : (awEs N).foldl (fun v e => if hasR e.xs i then e.c else v) 0 = awF i := by
  simp only [awEs, List.foldl_cons, List.foldl_nil, hasR, List.any_cons, List.any_nil, Bool.or_false, Bool.and_eq_true, decide_eq_true_eq, awF]
  by_cases c : i = 99
  · subst c; rfl
  · rw [if_neg (by omega), if_neg c]
    by_cases c2 : i = 97 ∨ i = 98
    · rw [if_pos (by omega), if_pos c2]
    · rw [if_neg (by omega), if_neg c2]
theorem aw_dd (F : Nat → Int) (h : ∀ i : Nat, i < 1114112 → F i = awF i) : (dd F 4352).length = 2 := by
  have := dd_two F (sameB_not F 0 1 97 (by omega) (by rw [h _ (by omega), h _ (by omega)]; decide)) (fun i h1 h2 => sameB_of F 1 i fun j hj => by
    rw [h _ (by omega), h _ (by omega)]
    unfold awF
    rw [if_neg (by omega), if_neg (by omega), if_neg (by omega), if_neg (by omega)]) 4350 (by omega)
  rw [this]
  rfl
theorem aw_heap (w : World) (a b c : Obj) : (((w.alloc a).alloc b).alloc c).heap[w.heap.size]? = some a ∧ (((w.alloc a).alloc b).alloc c).heap[w.heap.size + 1]? = some b ∧ (((w.alloc a).alloc b).alloc c).heap[w.heap.size + 1 + 1]? = some c ∧ (((w.alloc a).alloc b).alloc c).heap.size = w.heap.size + 1 + 1 + 1 := by
  have s1 : (w.alloc a).heap.size = w.heap.size + 1 := by simp
  have s2 : ((w.alloc a).alloc b).heap.size = w.heap.size + 1 + 1 := by simp
  have s3 : (((w.alloc a).alloc b).alloc c).heap.size = w.heap.size + 1 + 1 + 1 := by simp
  have k2 := (below_new ((w.alloc a).alloc b) c).block
  have k1 := (below_new (w.alloc a) b).block
  have n3 := heap_alloc_new ((w.alloc a).alloc b) c
  have n2 := heap_alloc_new (w.alloc a) b
  have n1 := heap_alloc_new w a
  rw [s2] at n3 k2
  rw [s1] at n2 k1
  exact ⟨(k2 _ (by omega)).trans ((k1 _ (by omega)).trans n1), (k2 _ (by omega)).trans n2, n3, s3⟩
theorem aw_ES (w : World) : ES (((w.alloc (.cells #[.int .i32 97, .int .i32 99] 70)).alloc (.cells #[.int .i32 99, .int .i32 99] 70)).alloc (.cells #[.slice (some ⟨w.heap.size, 0, none⟩) 1 1, .int .i64 5, .slice (some ⟨w.heap.size + 1, 0, none⟩) 1 1, .int .i64 7] 72))
    (((w.alloc (.cells #[.int .i32 97, .int .i32 99] 70)).alloc (.cells #[.int .i32 99, .int .i32 99] 70)).alloc (.cells #[.slice (some ⟨w.heap.size, 0, none⟩) 1 1, .int .i64 5, .slice (some ⟨w.heap.size + 1, 0, none⟩) 1 1, .int .i64 7] 72)).heap.size (some ⟨w.heap.size + 1 + 1, 0, none⟩) 2 (awEs w.heap.size) := by
  obtain ⟨h0, h1, h2, h3⟩ := aw_heap w (.cells #[.int .i32 97, .int .i32 99] 70) (.cells #[.int .i32 99, .int .i32 99] 70) (.cells #[.slice (some ⟨w.heap.size, 0, none⟩) 1 1, .int .i64 5, .slice (some ⟨w.heap.size + 1, 0, none⟩) 1 1, .int .i64 7] 72)
  generalize ((w.alloc (.cells #[.int .i32 97, .int .i32 99] 70)).alloc (.cells #[.int .i32 99, .int .i32 99] 70)).alloc (.cells #[.slice (some ⟨w.heap.size, 0, none⟩) 1 1, .int .i64 5, .slice (some ⟨w.heap.size + 1, 0, none⟩) 1 1, .int .i64 7] 72) = W at *
  generalize w.heap.size = N at *
  have one : ∀ (x y : Int), I32 (x, y) → ∀ b : Nat, W.cell? ⟨b, 0, none⟩ = some (.int .i32 x) → W.cell? ⟨b, 1, none⟩ = some (.int .i32 y) → b < W.heap.size → RS W W.heap.size (some ⟨b, 0, none⟩) 1 [(x, y)] := fun x y hI b h1 h2 h3 =>
    ⟨Nat.le_refl _, by unfold maxLen; omega, by simpa using hI, fun _ => ⟨b, 0, rfl, h3, fun i z hz => by
      match i, hz with
      | 0, hz => simp at hz; subst hz; exact ⟨h1, h2⟩
      | i + 1, hz => simp at hz⟩⟩
  refine ⟨Nat.le_refl _, by unfold maxLen; omega, fun e he => ?_, fun _ => ⟨_, 0, rfl, by omega, fun i z hz => ?_⟩⟩
  · simp only [awEs, List.mem_cons, List.not_mem_nil, or_false] at he
    rcases he with rfl | rfl
    · exact one 97 99 (by unfold I32; omega) _ (cell_of_row W _ 0 _ _ _ h0) (cell_of_row W _ 1 _ _ _ h0) (by omega)
    · exact one 99 99 (by unfold I32; omega) _ (cell_of_row W _ 0 _ _ _ h1) (cell_of_row W _ 1 _ _ _ h1) (by omega)
  · match i, hz with
    | 0, hz => simp [awEs] at hz; subst hz; exact ⟨cell_of_row W _ 0 _ _ _ h2, cell_of_row W _ 1 _ _ _ h2⟩
    | 1, hz => simp [awEs] at hz; subst hz; exact ⟨cell_of_row W _ 2 _ _ _ h2, cell_of_row W _ 3 _ _ _ h2⟩
    | i + 2, hz => simp [awEs] at hz

set_option maxHeartbeats 4000000 in
set_option maxRecDepth 100000 in
theorem taw_any (w : World) : Calls Try.prog 14 #[] w fun e w' => e = .returned (.bool true) ∧ Below w.heap.size w w' := by
  have C := Lib.hid (new_any 0 _ 2 (awEs w.heap.size) _ (aw_ES w) (fun h => by cases h) (by simp [awEs]) (by simp [awEs]))
  have hbw : Below w.heap.size w (((w.alloc (.cells #[.int .i32 97, .int .i32 99] 70)).alloc (.cells #[.int .i32 99, .int .i32 99] 70)).alloc (.cells #[.slice (some ⟨w.heap.size, 0, none⟩) 1 1, .int .i64 5, .slice (some ⟨w.heap.size + 1, 0, none⟩) 1 1, .int .i64 7] 72)) :=
    ((below_new w _).alloc (by simp) _).alloc (by simp; omega) _
  have HB := Lib.hid hbw
  have G := Lib.hid get_any
  have D := Lib.hid blocks_any
  clear hbw
  go_enter Try.func14, Try.ntmps14
  go_wp2_with fail
  refine C.out.mono ?_
  rintro e w1 ⟨hb1, hp⟩
  have hok : (cls 0 && !(awEs w.heap.size).any wrongE) = true := by rfl
  rw [if_pos hok] at hp
  obtain ⟨T, F, rfl, hF, hFi, hT⟩ := hp
  have hFa : ∀ i : Nat, i < 1114112 → F i = awF i := fun i hi => (hFi i hi).trans (aw_fold _ i)
  have hbz := HB.out.trans (hb1.mono HB.out.size)
  have H := Lib.hid (And.intro hT (And.intro hF (And.intro hFa hbz)))
  clear hb1 hok hF hFi hT hFa hbz
  go_wp2_with fail
  refine (G.out T 0 F 98 w1 H.out.1 H.out.2.1 (by omega) (by omega)).mono ?_
  rintro e w2 ⟨rfl, hb2⟩
  have e2 : (if (98 : Int) < 0 ∨ (1114111 : Int) < 98 then 0 else F (98 : Int).toNat) = 5 := by rw [if_neg (by omega)]; exact H.out.2.2.1 98 (by omega)
  rw [e2]
  have hT2 := H.out.1.below hb2
  have hbz2 := H.out.2.2.2.trans (hb2.mono H.out.2.2.2.size)
  have H2 := Lib.hid (And.intro hT2 hbz2)
  clear hT2 hbz2 hb2 e2
  go_wp2_with fail
  refine (G.out T 0 F 99 w2 H2.out.1 H.out.2.1 (by omega) (by omega)).mono ?_
  rintro e w3 ⟨rfl, hb3⟩
  have e2 : (if (99 : Int) < 0 ∨ (1114111 : Int) < 99 then 0 else F (99 : Int).toNat) = 7 := by rw [if_neg (by omega)]; exact H.out.2.2.1 99 (by omega)
  rw [e2]
  have hT2 := H2.out.1.below hb3
  have hbz2 := H2.out.2.trans (hb3.mono H2.out.2.size)
  have H3 := Lib.hid (And.intro hT2 hbz2)
  clear hT2 hbz2 hb3 e2
  go_wp2_with fail
  refine (G.out T 0 F 100 w3 H3.out.1 H.out.2.1 (by omega) (by omega)).mono ?_
  rintro e w4 ⟨rfl, hb4⟩
  have e2 : (if (100 : Int) < 0 ∨ (1114111 : Int) < 100 then 0 else F (100 : Int).toNat) = 0 := by rw [if_neg (by omega)]; exact H.out.2.2.1 100 (by omega)
  rw [e2]
  have hT2 := H3.out.1.below hb4
  have hbz2 := H3.out.2.trans (hb4.mono H3.out.2.size)
  have H4 := Lib.hid (And.intro hT2 hbz2)
  clear hT2 hbz2 hb4 e2
  go_wp2_with fail
  refine (D.out T 0 F w4 H4.out.1).mono ?_
  rintro e w5 ⟨rfl, hb5⟩
  rw [aw_dd F H.out.2.2.1]
  have hbz5 := H4.out.2.trans (hb5.mono H4.out.2.size)
  go_wp2_with fail
  go_ret
  exact ⟨rfl, hbz5⟩
end Go.Proofs.Ytphhdkffnboboaa

namespace Go.Proofs.Ytphhdkffnboboaa
open Go.RowKit Go.Shelf
open Go.Lib Go.Great Go.Maps

/-- More than is asked of. -/
def greatE (es : List En) : Bool := (es.take 12).any (fun e => decide (12 < e.xs.length)) || decide (12 < es.length)
theorem take_any_snoc {p : En → Bool} (es : List En) (k : Nat) (e : En) (h : es[k]? = some e) : (es.take (k + 1)).any p = ((es.take k).any p || p e) := by
  rw [List.take_add_one, h]
  simp

set_option maxHeartbeats 4000000 in
set_option maxRecDepth 100000 in
theorem great_any (A : Option Addr) (cap : Nat) (es : List En) (w : World) (h : ES w w.heap.size A cap es) : Calls Try.prog 13 #[.slice A es.length cap] w fun e w' => e = .returned (.bool (greatE es)) ∧ w' = w := by
  have H := Lib.hid h
  have hm : es.length ≤ maxLen := by have := h.1; have := h.2.1; omega
  unfold maxLen at hm
  obtain ⟨n, hn⟩ : ∃ n, es.length = n := ⟨_, rfl⟩
  have HN := Lib.hid hn
  obtain ⟨R, hR⟩ : ∃ R, R = greatE es := ⟨_, rfl⟩
  have HR := Lib.hid hR
  rw [← hR, hn]
  rw [hn] at hm
  clear h hn hR
  go_enter Try.func13, Try.ntmps13
  go_wp2_with fail
  go_loopw [3] (fun i wr => ∃ k : Nat, i = .int .i64 (k : Int) ∧ k ≤ n ∧ k ≤ 12 ∧ wr = w ∧ (es.take k).any (fun e => decide (12 < e.xs.length)) = false) (fun i _ => n - (RowKit.intOf i).toNat)
  case atStart => exact ⟨0, rfl, Nat.zero_le _, Nat.zero_le _, rfl, rfl⟩
  case round =>
    obtain ⟨k, rfl, hk, hk2, rfl, hany⟩ := hrel
    have HA := Lib.hid hany
    clear hany
    by_cases hlt : k < n ∧ k < 12
    · obtain ⟨x, hx⟩ : ∃ x, es[k]? = some x := ⟨es[k]'(by rw [HN.out]; exact hlt.1), List.getElem?_eq_getElem _⟩
      obtain ⟨b, o, rfl, hbl, hE⟩ := H.out.2.2.2 (by intro e; rw [e] at hx; simp at hx)
      obtain ⟨q1, q2⟩ := hE k x hx
      have HX := Lib.hid (take_any_snoc (p := fun e => decide (12 < e.xs.length)) es k x hx)
      have HXX := Lib.hid hx
      have i1 : (k : Int) < (n : Int) := by omega
      have i2 : (k : Int) < 12 := by omega
      obtain ⟨A1, cap1, xs1, c1⟩ := x
      simp only at q1 q2
      obtain ⟨n1, hn1⟩ : ∃ n1, xs1.length = n1 := ⟨_, rfl⟩
      rw [hn1] at q1
      have HN1 := Lib.hid hn1
      clear hE hx hn1
      by_cases hgr : 12 < n1
      · have i3 : (12 : Int) < (n1 : Int) := by omega
        have hRt : R = true := by
          rw [HR.out]
          unfold greatE
          rw [Bool.or_eq_true]
          left
          rw [List.any_eq_true]
          refine ⟨⟨A1, cap1, xs1, c1⟩, ?_, by simp only [decide_eq_true_eq]; rw [HN1.out]; exact hgr⟩
          have := HXX.out
          refine List.mem_of_getElem? (i := k) ?_
          rw [List.getElem?_take, if_pos hlt.2]
          exact this
        have HRT := Lib.hid hRt
        clear hRt
        go_wp2_with fail
        go_ret
        exact ⟨HRT.out ▸ rfl, rfl⟩
      · have i3 : ¬ (12 : Int) < (n1 : Int) := by omega
        have d3 : decide ((12 : Int) < (n1 : Int)) = false := by simp; omega
        have hnx : (es.take (k + 1)).any (fun e => decide (12 < e.xs.length)) = false := by
          rw [HX.out, HA.out, Bool.false_or]
          simp only [decide_eq_false_iff_not]
          rw [HN1.out]
          exact hgr
        have HNX := Lib.hid hnx
        clear hnx
        go_wp2_with fail
        go_roundw
        case rel => exact ⟨k + 1, by go_num, by omega, by omega, by trivial, HNX.out⟩
        case measure => simp [RowKit.intOf]; omega
    · have hfin : R = decide ((12 : Int) < (n : Int)) := by
        rw [HR.out]
        unfold greatE
        rw [HN.out]
        by_cases c : 12 < n
        · have hk12 : k = 12 := by omega
          rw [hk12] at HA
          simp [c]
          omega
        · have e : es.take 12 = es.take k := by
            rw [List.take_of_length_le (by rw [HN.out]; omega), List.take_of_length_le (by rw [HN.out]; omega)]
          rw [e, HA.out]
          simp [c]
          omega
      have HFIN := Lib.hid hfin
      clear hfin
      by_cases c1 : k < n
      · have i1 : (k : Int) < (n : Int) := by omega
        have i2 : ¬ (k : Int) < 12 := by omega
        have d2 : decide ((k : Int) < 12) = false := by simp; omega
        go_wp2_with fail
        go_ret
        exact ⟨HFIN.out ▸ rfl, rfl⟩
      · have i1 : ¬ (k : Int) < (n : Int) := by omega
        have d1 : decide ((k : Int) < (n : Int)) = false := by simp; omega
        go_wp2_with fail
        go_ret
        exact ⟨HFIN.out ▸ rfl, rfl⟩
end Go.Proofs.Ytphhdkffnboboaa

