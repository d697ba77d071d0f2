/-
  The document's steps and tellings are those of the masks. No program.
  The document's automaton, expression by expression. No program.
  Memory of the document's automaton while expressions are looked through.
  Memory while the document looks expressions through: what may turn, and what stays.
  The inner loop of build: a row, mark by mark.
  Contracts: build.
-/
import Derived.Test.YtmldgfplnacecaaDoorXqf
import Derived.Laws.Rows
import Derived.Test.YtmldgfplnacecaaDoorXqe
import Derived.Laws.MakeOwn
namespace Go.Proofs.YtmldgfplnacecaaDoor
open Go.RowKit Go.Shelf Go.Lib

/-- A set as it comes: places up to a bound. -/
def Plc (xs : List Int) (N : Nat) : Prop := ∀ x ∈ xs, 0 ≤ x ∧ x ≤ (N : Int)
theorem may_next {a : Mka} {t : St} {i : Nat} {se : Bool} (h : MkaOk a t i) (xs : List Int) {N : Nat} (hx : Plc xs N) (q : Nat) : mayR (raOf se a) xs (q : Int) = true ↔ (nextU t xs).testBit q = true := by
  rw [nextU_bit]
  unfold mayR firstR
  show (decide ((0 : Int) ∈ xs) && decide ((q : Int) ∈ a.fi) || a.l.pr.any (pairR xs (q : Int))) = true ↔ _
  rw [Bool.or_eq_true, Bool.and_eq_true, decide_eq_true_eq, decide_eq_true_eq, List.any_eq_true]
  constructor
  · rintro (⟨h1, h2⟩ | ⟨⟨x, y⟩, h1, h2⟩)
    · exact ⟨0, h1, Int.le_refl _, (h.k.n 0 q).2 (.inr ⟨rfl, h2⟩)⟩
    · unfold pairR at h2
      simp only [Bool.and_eq_true, beq_iff_eq, decide_eq_true_eq] at h2
      obtain ⟨rfl, h3⟩ := h2
      have h4 := (hx x h3).1
      refine ⟨x, h3, h4, (h.k.n _ q).2 (.inl ?_)⟩
      rw [Int.toNat_of_nonneg h4]; exact h1
  · rintro ⟨x, h1, h2, h3⟩
    rcases (h.k.n _ q).1 h3 with e | ⟨e1, e2⟩
    · rw [Int.toNat_of_nonneg h2] at e
      refine .inr ⟨(x, (q : Int)), e, ?_⟩
      unfold pairR
      simp only [beq_self_eq_true, Bool.true_and, decide_eq_true_eq]
      exact h1
    · have : x = 0 := by omega
      subst this
      exact .inl ⟨h1, e2⟩
theorem takes_at {a : Mka} {t : St} {i : Nat} {se : Bool} (h : MkaOk a t i) (m : Int) (j : Nat) : takesAt (raOf se a) j m = true ↔ (takersI t m).testBit (j + 1) = true := by
  unfold takesAt takersI
  show (match a.l.lv[j]? with | some e => takesI e.k e.c m | none => false) = true ↔ _
  by_cases hm : 0 ≤ m
  · rw [if_pos hm, h.k.k, Int.toNat_of_nonneg hm]
    constructor
    · intro e
      cases hj : a.l.lv[j]? with
      | none => rw [hj] at e; cases e
      | some x => rw [hj] at e; exact ⟨j, x, rfl, hj, e⟩
    · rintro ⟨j', x, h1, h2, h3⟩
      obtain rfl : j = j' := by omega
      rw [h2]; exact h3
  · rw [if_neg hm]
    simp only [Nat.zero_testBit, Bool.false_eq_true, iff_false]
    cases a.l.lv[j]? with
    | none => simp
    | some x =>
      show ¬ takesI x.k x.c m = true
      unfold takesI
      split
      · simp; omega
      · rw [decide_eq_false hm]; simp
theorem takers_0 {a : Mka} {t : St} {i : Nat} (h : MkaOk a t i) (m : Int) : (takersI t m).testBit 0 = false := by
  unfold takersI
  split
  · cases hb : (t.takers m.toNat).testBit 0 with
    | false => rfl
    | true => obtain ⟨j, e, h1, _⟩ := (h.k.k m.toNat 0).1 hb; omega
  · simp
theorem takers_far {a : Mka} {t : St} {i : Nat} (h : MkaOk a t i) (m : Int) (q : Nat) (hq : a.l.lv.length < q) : (takersI t m).testBit q = false := by
  unfold takersI
  split
  · cases hb : (t.takers m.toNat).testBit q with
    | false => rfl
    | true =>
      obtain ⟨j, e, h1, h2, _⟩ := (h.k.k m.toNat q).1 hb
      have := (List.getElem?_eq_some_iff.1 h2).1
      omega
  · simp
theorem step_bit {a : Mka} {t : St} {i : Nat} {se : Bool} (h : MkaOk a t i) (xs : List Int) (m : Int) {N : Nat} (hx : Plc xs N) :
    (stepM se t xs m).testBit 0 = se ∧ (∀ j, (stepM se t xs m).testBit (j + 1) = (mayR (raOf se a) xs ((j + 1 : Nat) : Int) && takesAt (raOf se a) j m)) ∧ ∀ q, a.l.lv.length < q → (stepM se t xs m).testBit q = false := by
  have h1 : ∀ q, (nextU t xs &&& takersI t m).testBit q = ((nextU t xs).testBit q && (takersI t m).testBit q) := fun q => Nat.testBit_and _ _ _
  have hs : ∀ q, (stepM se t xs m).testBit q = ((nextU t xs).testBit q && (takersI t m).testBit q || (se && decide (q = 0))) := fun q => by
    unfold stepM
    dsimp only
    cases se with
    | true =>
      rw [if_pos rfl, Nat.testBit_or, h1, show (1 : Nat) = 2 ^ 0 from rfl, Nat.testBit_two_pow]
      congr 1
      rw [Bool.true_and]
      exact decide_eq_decide.2 eq_comm
    | false => rw [if_neg (by simp), h1]; simp
  refine ⟨?_, fun j => ?_, fun q hq => ?_⟩
  · rw [hs, takers_0 h]; simp
  · rw [hs, decide_eq_false (show ¬ j + 1 = 0 by omega), Bool.and_false, Bool.or_false]
    have e1 := may_next (se := se) h xs hx (j + 1)
    have e2 := takes_at (se := se) h m j
    rw [Bool.eq_iff_iff.2 e1, Bool.eq_iff_iff.2 e2]
  · rw [hs, takers_far h m q hq, decide_eq_false (show ¬ q = 0 by omega)]; simp
theorem stepF_pos {a : Mka} {t : St} {i : Nat} {se : Bool} (h : MkaOk a t i) (xs : List Int) (m : Int) {N : Nat} (hx : Plc xs N) : ∀ j, j + 1 ≤ 1024 → stepF (raOf se a) xs m j = (posN (stepM se t xs m) (j + 1)).map (fun (n : Nat) => (n : Int))
  | 0, _ => by
    have hb := (step_bit (se := se) h xs m hx).1
    rw [posN_succ, inM_lt (by omega), hb]
    unfold stepF
    show (if se then [0] else []) = _
    cases se <;> rfl
  | j + 1, hj => by
    have hb := (step_bit (se := se) h xs m hx).2.1 j
    rw [posN_succ, inM_lt (by omega), hb, List.map_append, ← stepF_pos h xs m hx j (by omega)]
    conv => lhs; unfold stepF
    generalize (mayR (raOf se a) xs ((j + 1 : Nat) : Int) && takesAt (raOf se a) j m) = z
    cases z with
    | true => rfl
    | false => simp
/-- A step. -/
theorem stepR_pos {a : Mka} {t : St} {i : Nat} {se : Bool} (h : MkaOk a t i) (hl : a.l.lv.length ≤ 1000) (xs : List Int) (m : Int) {N : Nat} (hx : Plc xs N) : stepR (raOf se a) xs m = posI (stepM se t xs m) := by
  unfold stepR
  show stepF (raOf se a) xs m a.l.lv.length = _
  rw [stepF_pos h xs m hx _ (by omega)]
  unfold posI
  rw [posL_eq]
  rw [posN_skip (a := a.l.lv.length + 1) (b := 1024) (by omega) fun j h1 h2 => by
    rw [inM_lt h2]; exact (step_bit (se := se) h xs m hx).2.2 j (by omega)]
theorem step_plc {a : Mka} {t : St} {i : Nat} {se : Bool} (h : MkaOk a t i) (xs : List Int) (m : Int) {N : Nat} (hx : Plc xs N) : Plc (posI (stepM se t xs m)) a.l.lv.length := fun x hm => by
  obtain ⟨p, rfl, hp⟩ := mem_posI.1 hm
  refine ⟨by omega, ?_⟩
  rcases Nat.lt_or_ge a.l.lv.length p with e | e
  · have := (step_bit (se := se) h xs m hx).2.2 p e
    unfold inM at hp
    rw [this] at hp
    simp at hp
  · omega
theorem tellsU_bit (s : St) (l : List Int) (j : Nat) : (tellsU s l).testBit j = true ↔ ∃ p ∈ l, 0 ≤ p ∧ (s.tells p.toNat).testBit j = true := by
  induction l with
  | nil => simp [tellsU]
  | cons p r ih =>
    simp only [tellsU, Nat.testBit_or, Bool.or_eq_true, ih, List.mem_cons]
    constructor
    · rintro (h | ⟨q, hq, h1, h2⟩)
      · by_cases hp : 0 ≤ p
        · rw [if_pos hp] at h; exact ⟨p, Or.inl rfl, hp, h⟩
        · rw [if_neg hp] at h; simp at h
      · exact ⟨q, Or.inr hq, h1, h2⟩
    · rintro ⟨q, rfl | hq, h1, h2⟩
      · rw [if_pos h1]; exact Or.inl h2
      · exact Or.inr ⟨q, hq, h1, h2⟩
theorem tellsR_bit (a : RA) (xs : List Int) (b : Nat) : ∀ t, t ≤ xs.length → ((tellsR a xs t).testBit b = true ↔ ((0 : Int) ∈ xs ∧ a.em.testBit b = true) ∨ ∃ x ∈ xs.take t, (bitR a x).testBit b = true)
  | 0, _ => by
    unfold tellsR
    by_cases h : (0 : Int) ∈ xs
    · rw [if_pos h]; simp [h]
    · rw [if_neg h]; simp [h]
  | t + 1, ht => by
    have e1 : xs[t]? = some (xs[t]'(by omega)) := List.getElem?_eq_getElem _
    unfold tellsR
    rw [e1]
    dsimp only
    rw [Nat.testBit_or, Bool.or_eq_true, tellsR_bit a xs b t (by omega), List.take_add_one, e1, Option.toList_some]
    simp only [List.mem_append, List.mem_singleton]
    constructor
    · rintro ((e | ⟨x, h1, h2⟩) | e)
      · exact .inl e
      · exact .inr ⟨x, .inl h1, h2⟩
      · exact .inr ⟨_, .inr rfl, e⟩
    · rintro (e | ⟨x, h1 | rfl, h2⟩)
      · exact .inl (.inl e)
      · exact .inl (.inr ⟨x, h1, h2⟩)
      · exact .inr h2
/-- What a set tells. -/
theorem tellsR_tells {a : Mka} {t : St} {i : Nat} {se : Bool} (h : MkaOk a t i) (xs : List Int) {N : Nat} (hx : Plc xs N) : tellsR (raOf se a) xs xs.length = tellsU t xs := by
  apply bit_ext
  intro b
  rw [tellsR_bit _ _ _ _ (Nat.le_refl _), List.take_length, tellsU_bit]
  have hbit : ∀ x : Int, 0 ≤ x → ((bitR (raOf se a) x).testBit b = true ↔ x ∈ a.la ∧ a.l.of[x.toNat - 1]? = some (b : Int)) := fun x h0 => by
    unfold bitR
    show ((if x ∈ a.la then 2 ^ ((a.l.of[(x - 1).toNat]?.getD 0).toNat) else 0) : Nat).testBit b = true ↔ _
    by_cases hm : x ∈ a.la
    · rw [if_pos hm, Nat.testBit_two_pow, decide_eq_true_eq]
      have h1 := h.ha x hm
      have e0 : (x - 1).toNat = x.toNat - 1 := by omega
      have hlt : x.toNat - 1 < a.l.of.length := by rw [h.k.o]; omega
      obtain ⟨c, hc, _⟩ := h.ho (x.toNat - 1) _ (List.getElem?_eq_getElem hlt)
      rw [e0, List.getElem?_eq_getElem hlt, hc]
      simp only [Option.getD_some, Int.toNat_natCast, hm, true_and, Option.some.injEq]
      omega
    · rw [if_neg hm]; simp [hm]
  constructor
  · rintro (⟨h1, h2⟩ | ⟨x, h1, h2⟩)
    · exact ⟨0, h1, Int.le_refl _, (h.ht 0 b).2 (.inl ⟨rfl, h2⟩)⟩
    · have h0 := (hx x h1).1
      obtain ⟨h3, h4⟩ := (hbit x h0).1 h2
      refine ⟨x, h1, h0, (h.ht _ b).2 (.inr ⟨?_, h4⟩)⟩
      rw [Int.toNat_of_nonneg h0]; exact h3
  · rintro ⟨x, h1, h0, h2⟩
    rcases (h.ht _ b).1 h2 with ⟨e1, e2⟩ | ⟨e1, e2⟩
    · have : x = 0 := by omega
      subst this
      exact .inl ⟨h1, e2⟩
    · rw [Int.toNat_of_nonneg h0] at e1
      exact .inr ⟨x, h1, (hbit x h0).2 ⟨e1, e2⟩⟩
end Go.Proofs.YtmldgfplnacecaaDoor

namespace Go.Proofs.YtmldgfplnacecaaDoor
open Go.RowKit Go.Shelf Go.Lib

def addA (e : E) (i : Nat) (a : Mka) : Mka :=
  ⟨(lookE e (i : Int) a.l).1, a.fi ++ (lookE e (i : Int) a.l).2.first, a.la ++ (lookE e (i : Int) a.l).2.last, if (lookE e (i : Int) a.l).2.empty then a.em ||| 2 ^ i else a.em⟩
theorem makeL_append (a b : List E) : ∀ i s, makeL (a ++ b) i s = makeL b (i + a.length) (makeL a i s) := by
  induction a with
  | nil => intro i s; simp [makeL]
  | cons e r ih => intro i s; simp only [List.cons_append, makeL, List.length_cons] at *; rw [ih]; congr 1; omega
theorem makeL_take {ks : List E} {i : Nat} {f : E} (h : ks[i]? = some f) (a : Mka) : makeL (ks.take (i + 1)) 0 a = addA f i (makeL (ks.take i) 0 a) := by
  have hi : i < ks.length := (List.getElem?_eq_some_iff.1 h).1
  rw [List.take_add_one, h, Option.toList_some, makeL_append]
  have : (ks.take i).length = i := by rw [List.length_take]; omega
  rw [this, Nat.zero_add]
  rfl
theorem look9 {e : E} (h9 : e.k = 9) (o : Int) (s : Lk) : lookE e o s = (s, ⟨true, [], []⟩) := by
  obtain ⟨k, c, ks⟩ := e
  simp only [E.k] at h9
  subst h9
  unfold lookE
  rw [if_pos rfl]
theorem look_len_right {e : E} (hr : rightE e = true) (o : Int) (s : Lk) {L : Nat} (hL : leavesE e ≤ L) :
    (lookE e o s).2.first.length ≤ leavesE e ∧ (lookE e o s).2.last.length ≤ leavesE e ∧ (lookE e o s).1.pr.length ≤ s.pr.length + 2 * szE e * (L * L) := by
  by_cases h9 : e.k = 9
  · rw [look9 h9]
    exact ⟨Nat.zero_le _, Nat.zero_le _, Nat.le_add_right _ _⟩
  · rw [rightE_good h9] at hr
    simp only [Bool.and_eq_true] at hr
    obtain ⟨h1, h2, h3⟩ := look_len e o s L hr.1 hL
    exact ⟨h1, h2, by omega⟩
theorem makeL_len : ∀ (l : List E) (i : Nat) (a : Mka) (L : Nat), l.all rightE = true → leavesE.lvL l ≤ L →
    (makeL l i a).fi.length ≤ a.fi.length + leavesE.lvL l ∧ (makeL l i a).la.length ≤ a.la.length + leavesE.lvL l ∧ (makeL l i a).l.pr.length ≤ a.l.pr.length + 2 * szE.szL l * (L * L)
  | [], _, _, _, _, _ => ⟨Nat.le_add_right _ _, Nat.le_add_right _ _, Nat.le_add_right _ _⟩
  | e :: r, i, a, L, hr, hL => by
    simp only [List.all_cons, Bool.and_eq_true] at hr
    rw [lvL_cons] at hL ⊢
    rw [szL_consN, Nat.mul_add, Nat.add_mul]
    obtain ⟨q1, q2, q3⟩ := look_len_right hr.1 (i : Int) a.l (L := L) (by omega)
    obtain ⟨w1, w2, w3⟩ := makeL_len r (i + 1) (addA e i a) L hr.2 (by omega)
    have f1 : (addA e i a).fi.length = a.fi.length + (lookE e (i : Int) a.l).2.first.length := List.length_append
    have f2 : (addA e i a).la.length = a.la.length + (lookE e (i : Int) a.l).2.last.length := List.length_append
    have f3 : (addA e i a).l.pr.length = (lookE e (i : Int) a.l).1.pr.length := rfl
    have e1 : makeL (e :: r) i a = makeL r (i + 1) (addA e i a) := rfl
    rw [e1]
    rw [f1] at w1; rw [f2] at w2; rw [f3] at w3
    exact ⟨by omega, by omega, by omega⟩
theorem makeN_count (l : List E) (hr : l.all rightE = true) (hc : leavesE.lvL l < 1000) : (makeL l 0 mka0).l.lv.length = leavesE.lvL l ∧ (mkN l).count = leavesE.lvL l + 1 := by
  have h1 := (makeN_ok l hr hc).k.c
  have h2 : (mkN l).count = 1 + leavesE.lvL l := mkL_count l 0 st0 hr
  omega
/-- What both sides hold behind any marks: the sets are the same, and so is what they tell. -/
theorem walk_same {a : Mka} {t : St} {i : Nat} (se : Bool) (h : MkaOk a t i) (hl : a.l.lv.length ≤ 1000) (xs : List Int) (m : Int) {N : Nat} (hx : Plc xs N) :
    stepR (raOf se a) xs m = posI (stepM se t xs m) ∧ Plc (stepR (raOf se a) xs m) a.l.lv.length ∧ tellsR (raOf se a) xs xs.length = tellsU t xs := by
  have h1 := stepR_pos (se := se) h hl xs m hx
  exact ⟨h1, by rw [h1]; exact step_plc h xs m hx, tellsR_tells h xs hx⟩
end Go.Proofs.YtmldgfplnacecaaDoor

namespace Go.Proofs.YtmldgfplnacecaaDoor
open Go.RowKit Go.Shelf Go.Lib Go.Great Go.Maps

theorem set_snoc3 (cl : List Value) (a b c x y z : Value) (i : Nat) (hi : cl.length = i) : (((cl ++ [a, b, c]).set i x).set (i + 1) y).set (i + 2) z = cl ++ [x, y, z] := by
  subst hi
  rw [List.set_append_right _ _ (Nat.le_refl _), Nat.sub_self, List.set_cons_zero, List.set_append_right _ _ (by omega), show cl.length + 1 - cl.length = 1 by omega, List.set_append_right _ _ (by omega), show cl.length + 2 - cl.length = 2 by omega]
  rfl
/-- A row's last element of three cells is written. -/
theorem own_store3 {w : World} {B n g cap e : Nat} {cl : List Value} {a b c x y z : Value} (h : w.ownsRow B e 3 (.slice (some ⟨g, 0, none⟩) (n + 1) cap) (n + 1) (cl ++ [a, b, c])) (hl : cl.length = n * 3) :
    (((w.setCell ⟨g, n * 3, none⟩ x).setCell ⟨g, n * 3 + 1, none⟩ y).setCell ⟨g, n * 3 + 2, none⟩ z).ownsRow B e 3 (.slice (some ⟨g, 0, none⟩) (n + 1) cap) (n + 1) (cl ++ [x, y, z]) := by
  rcases h.2 with ⟨h1, h2⟩ | ⟨g', cap', cur, h1, h2, h3, h4, h5, h6, h7⟩
  · exact absurd h2 (by omega)
  · have e1 : g = g' := by injection h1 with h1 _ _; injection h1 with h1; injection h1
    have e2 : cap = cap' := by injection h1
    subst e1; subst e2
    have hc : Cells w g e cur := h3
    have hc3 := ((hc.set (n * 3) x).set (n * 3 + 1) y).set (n * 3 + 2) z
    refine ⟨by simp; omega, .inr ⟨g, cap, _, rfl, h2, hc3, h4, h5, by simpa using h6, ?_⟩⟩
    rw [Array.toList_setIfInBounds, Array.toList_setIfInBounds, Array.toList_setIfInBounds, List.take_set, List.take_set, List.take_set, h7]
    exact set_snoc3 cl a b c x y z (n * 3) hl
/-- A slice without elements, as it may lie. -/
def CapOk (A : Option Addr) (cap : Nat) : Prop := cap ≤ maxLen ∧ (A = none → cap = 0)
/-- What lies in the struct while its lists grow. -/
structure LkAt (w : World) (b : Nat) (c0 c3 c4 c6 : Value) (s : Lk) (v1 v2 v5 : Value) : Prop where
  cs : Cells w b 39 #[c0, v1, v2, c3, c4, v5, c6]
  lo : ∃ cl, w.ownsRow (b + 1) 48 3 v1 s.lv.length cl ∧ (∀ (i : Nat) e, s.lv[i]? = some e → i64 e.k ∧ i64 e.c ∧ e.ks = [] ∧ cl[i * 3]? = some (.int .i64 e.k) ∧ cl[i * 3 + 1]? = some (.int .i64 e.c) ∧ ∃ A cap, cl[i * 3 + 2]? = some (.slice A 0 cap) ∧ CapOk A cap)
  oo : OwnI w (b + 1) s.of v2
  oi : ∀ x ∈ s.of, i64 x
  po : w.ownsRow (b + 1) 109 2 v5 s.pr.length (pairsC s.pr)
  pi : ∀ p ∈ s.pr, i64 p.1 ∧ i64 p.2
/-- Rows of different types lie in different blocks. -/
theorem own_types {w : World} {B B' e e' z z' n n' : Nat} {v v' : Value} {xs ys : List Value} (h : w.ownsRow B e z v n xs) (h' : w.ownsRow B' e' z' v' n' ys) (hne : e ≠ e') : ∀ g, v.ownBlock = some g → v'.ownBlock ≠ some g := by
  intro g hg hg'
  rcases h.2 with ⟨h1, _⟩ | ⟨g1, c1, cur1, h1, _, h3, _⟩
  · rw [h1] at hg; simp [Value.ownBlock] at hg
  · rcases h'.2 with ⟨k1, _⟩ | ⟨g2, c2, cur2, k1, _, k3, _⟩
    · rw [k1] at hg'; simp [Value.ownBlock] at hg'
    · rw [h1] at hg; rw [k1] at hg'
      simp [Value.ownBlock] at hg hg'
      subst hg; subst hg'
      rw [h3] at k3
      injection k3 with k3
      injection k3 with _ k3
      exact hne k3
/-- New blocks, and others than its own, change nothing. -/
theorem LkAt.move {w w' : World} {b : Nat} {c0 c3 c4 c6 v1 v2 v5 : Value} {s : Lk} {X : Nat → Prop} (h : LkAt w b c0 c3 c4 c6 s v1 v2 v5) (hf : Fz X w w') (hX : ∀ k, X k → k ≠ b ∧ v1.ownBlock ≠ some k ∧ v2.ownBlock ≠ some k ∧ v5.ownBlock ≠ some k) : LkAt w' b c0 c3 c4 c6 s v1 v2 v5 := by
  have own : ∀ {e z n : Nat} {u : Value} {xs : List Value}, w.ownsRow (b + 1) e z u n xs → (∀ k, X k → u.ownBlock ≠ some k) → w'.ownsRow (b + 1) e z u n xs := fun {e z n u xs} ho hn => by
    refine ⟨ho.1, ?_⟩
    rcases ho.2 with h0 | ⟨g, cap, cur, h1, h2, h3, rest⟩
    · exact .inl h0
    · exact .inr ⟨g, cap, cur, h1, h2, (hf.block g (Array.getElem?_eq_some_iff.1 h3).1 (fun hx => hn g hx (by rw [h1]; rfl))).trans h3, rest⟩
  obtain ⟨cl, l1, l2⟩ := h.lo
  exact ⟨(hf.block b h.cs.lt (fun hx => (hX b hx).1 rfl)).trans h.cs, ⟨cl, own l1 (fun k hk => (hX k hk).2.1), l2⟩, own h.oo (fun k hk => (hX k hk).2.2.1), h.oi, own h.po (fun k hk => (hX k hk).2.2.2), h.pi⟩
theorem own_fz {w w' : World} {X : Nat → Prop} {B e z n : Nat} {u : Value} {xs : List Value} (hf : Fz X w w') (ho : w.ownsRow B e z u n xs) (hn : ∀ k, X k → u.ownBlock ≠ some k) : w'.ownsRow B e z u n xs := by
  refine ⟨ho.1, ?_⟩
  rcases ho.2 with h0 | ⟨g, cap, cur, h1, h2, h3, rest⟩
  · exact .inl h0
  · exact .inr ⟨g, cap, cur, h1, h2, (hf.block g (Array.getElem?_eq_some_iff.1 h3).1 (fun hx => hn g hx (by rw [h1]; rfl))).trans h3, rest⟩
/-- Behind the first statement of a leaf. -/
theorem LkAt.leafed {w w3 : World} {b g cp n : Nat} {c0 c3 c4 c6 v1 v2 v5 : Value} {s : Lk} {cl : List Value} {k c : Int} {A : Option Addr} {cap : Nat} {ob : Obj} (h : LkAt w b c0 c3 c4 c6 s v1 v2 v5) (hn : s.lv.length = n) (l1 : w.ownsRow (b + 1) 48 3 v1 n cl)
    (l2 : ∀ (i : Nat) e, s.lv[i]? = some e → i64 e.k ∧ i64 e.c ∧ e.ks = [] ∧ cl[i * 3]? = some (.int .i64 e.k) ∧ cl[i * 3 + 1]? = some (.int .i64 e.c) ∧ ∃ A cap, cl[i * 3 + 2]? = some (.slice A 0 cap) ∧ CapOk A cap)
    (hk : i64 k) (hc : i64 c) (hcap : CapOk A cap) (ho : w3.ownsRow (b + 1) 48 3 (.slice (some ⟨g, 0, none⟩) (n + 1) cp) (n + 1) (cl ++ [.int .i64 0, .int .i64 0, .slice none 0 0])) (hg : (w.alloc ob).grownBy w3 v1.ownBlock) (hat : v1.ownBlock = some g ∨ g = w.heap.size + 1) :
    Cells w3 b 39 #[c0, v1, v2, c3, c4, v5, c6] ∧ (∃ cur, Cells w3 g 48 cur ∧ cur[n * 3]? = some (.int .i64 0) ∧ cur[n * 3 + 1]? = some (.int .i64 0) ∧ cur[n * 3 + 2]? = some (.slice none 0 0)) ∧ g ≠ b ∧
    LkAt ((((w3.setCell ⟨g, n * 3, none⟩ (.int .i64 k)).setCell ⟨g, n * 3 + 1, none⟩ (.int .i64 c)).setCell ⟨g, n * 3 + 2, none⟩ (.slice A 0 cap)).setCell ⟨b, 1, none⟩ (.slice (some ⟨g, 0, none⟩) (n + 1) cp)) b c0 c3 c4 c6 ⟨s.lv ++ [.mk k c []], s.of, s.pr⟩ (.slice (some ⟨g, 0, none⟩) (n + 1) cp) v2 v5 ∧
    Fz (fun k => k = b ∨ v1.ownBlock = some k) w ((((w3.setCell ⟨g, n * 3, none⟩ (.int .i64 k)).setCell ⟨g, n * 3 + 1, none⟩ (.int .i64 c)).setCell ⟨g, n * 3 + 2, none⟩ (.slice A 0 cap)).setCell ⟨b, 1, none⟩ (.slice (some ⟨g, 0, none⟩) (n + 1) cp)) := by
  have hvb : ∀ k, v1.ownBlock = some k → b + 1 ≤ k := fun k e => (own_block_lt l1 k e).1
  have hbl := h.cs.lt
  have hgb := (own_block_lt ho g rfl).1
  have hne : g ≠ b := by omega
  have hcl : cl.length = n * 3 := l1.1
  have al : ∀ j, j < w.heap.size → (w.alloc ob).heap[j]? = w.heap[j]? := fun j hj => ((Below.refl w.heap.size w).alloc (Nat.le_refl _) ob).block j hj
  have hs0 : (w.alloc ob).heap.size = w.heap.size + 1 := by simp
  have f3 : Fz (fun k => v1.ownBlock = some k) w w3 := ⟨hg.os, hg.tape, hg.output, by have := hg.size; omega, fun j hj hn => (hg.block j (by omega) (fun e => hn e.symm)).trans (al j hj)⟩
  have hc3 : Cells w3 b 39 #[c0, v1, v2, c3, c4, v5, c6] := (f3.block b hbl (fun e => by have := hvb b e; omega)).trans h.cs
  have hcur : ∃ cur, Cells w3 g 48 cur ∧ cur[n * 3]? = some (.int .i64 0) ∧ cur[n * 3 + 1]? = some (.int .i64 0) ∧ cur[n * 3 + 2]? = some (.slice none 0 0) := by
    have cc := fun j u hu => World.ownsRow.cells ho (g := g) rfl j u hu
    rcases ho.2 with ⟨_, h2⟩ | ⟨g', cap', cur, h1, _, h3, _⟩
    · exact absurd h2 (by omega)
    · have e1 : g = g' := by injection h1 with h1 _ _; injection h1 with h1; injection h1
      subst e1
      have hcc : Cells w3 g 48 cur := h3
      have get : ∀ j u, (cl ++ [Value.int .i64 0, .int .i64 0, .slice none 0 0])[j]? = some u → cur[j]? = some u := fun j u hu => by
        have := cc j u hu
        rw [add0] at this
        rw [← hcc.cell j]; exact this
      refine ⟨cur, hcc, get _ _ ?_, get _ _ ?_, get _ _ ?_⟩
      · rw [List.getElem?_append_right (by omega), hcl]; simp
      · rw [List.getElem?_append_right (by omega), hcl, show n * 3 + 1 - n * 3 = 1 by omega]; rfl
      · rw [List.getElem?_append_right (by omega), hcl, show n * 3 + 2 - n * 3 = 2 by omega]; rfl
  have hw3 : w.heap.size ≤ w3.heap.size := f3.size
  -- the three stores into the node, and the one into the struct
  have fz : Fz (fun k => k = b ∨ v1.ownBlock = some k) w ((((w3.setCell ⟨g, n * 3, none⟩ (.int .i64 k)).setCell ⟨g, n * 3 + 1, none⟩ (.int .i64 c)).setCell ⟨g, n * 3 + 2, none⟩ (.slice A 0 cap)).setCell ⟨b, 1, none⟩ (.slice (some ⟨g, 0, none⟩) (n + 1) cp)) := by
    refine ⟨f3.os, f3.tape, f3.output, by simpa using hw3, fun j hj hn => ?_⟩
    have hjb : b ≠ j := fun e => hn (.inl e.symm)
    have hjg : g ≠ j := fun e => by
      rcases hat with e2 | e2
      · exact hn (.inr (by rw [e2, e]))
      · omega
    rw [Below.heap_setCell _ _ _ _ (by first | exact hjb | exact hjb.symm), Below.heap_setCell _ _ _ _ (by first | exact hjg | exact hjg.symm), Below.heap_setCell _ _ _ _ (by first | exact hjg | exact hjg.symm), Below.heap_setCell _ _ _ _ (by first | exact hjg | exact hjg.symm)]
    exact f3.block j hj (fun e => hn (.inr e))
  refine ⟨hc3, hcur, hne, ⟨?_, ⟨cl ++ [.int .i64 k, .int .i64 c, .slice A 0 cap], ?_, fun i e he => ?_⟩, ?_, h.oi, ?_, h.pi⟩, fz⟩
  · have gb : ∀ (W : World) (j : Nat) (u : Value), Cells W b 39 #[c0, v1, v2, c3, c4, v5, c6] → Cells (W.setCell ⟨g, j, none⟩ u) b 39 #[c0, v1, v2, c3, c4, v5, c6] := fun W j u hh => (Below.heap_setCell _ _ _ _ (by first | exact hne | exact hne.symm)).trans hh
    exact (gb _ _ _ (gb _ _ _ (gb _ _ _ hc3))).set 1 _
  · have := own_store3 (x := .int .i64 k) (y := .int .i64 c) (z := .slice A 0 cap) ho hcl
    rw [List.length_append, hn]
    exact this.kept (grown_setc _ _ _ _) (.inr (by show some g ≠ some b; intro e; injection e with e; exact hne e))
  · rcases Nat.lt_or_ge i n with hi | hi
    · rw [List.getElem?_append_left (by omega)] at he
      obtain ⟨e1, e2, e3, e4, e5, A', cap', e6, e7⟩ := l2 i e he
      exact ⟨e1, e2, e3, by rw [List.getElem?_append_left (by omega)]; exact e4, by rw [List.getElem?_append_left (by omega)]; exact e5, A', cap', by rw [List.getElem?_append_left (by omega)]; exact e6, e7⟩
    · have hi2 := (List.getElem?_eq_some_iff.1 he).1
      simp at hi2
      obtain rfl : i = n := by omega
      rw [List.getElem?_append_right (by omega), hn] at he
      simp at he
      subst he
      refine ⟨hk, hc, rfl, ?_, ?_, A, cap, ?_, hcap⟩
      · rw [List.getElem?_append_right (by omega), hcl]; simp [E.k]
      · rw [List.getElem?_append_right (by omega), hcl, show i * 3 + 1 - i * 3 = 1 by omega]; rfl
      · rw [List.getElem?_append_right (by omega), hcl, show i * 3 + 2 - i * 3 = 2 by omega]; rfl
  · exact own_fz fz h.oo (fun k hk => by
      rcases hk with rfl | hk
      · intro e; have := (own_block_lt h.oo k e).1; omega
      · exact own_types l1 h.oo (by decide) k hk)
  · exact own_fz fz h.po (fun k hk => by
      rcases hk with rfl | hk
      · intro e; have := (own_block_lt h.po k e).1; omega
      · exact own_types l1 h.po (by decide) k hk)
/-- Behind the second statement of a leaf. -/
theorem LkAt.ofed {w w3 : World} {b g cp m : Nat} {c0 c3 c4 c6 v1 v2 v5 : Value} {s : Lk} {o : Int} {ob : Obj} (h : LkAt w b c0 c3 c4 c6 s v1 v2 v5) (hm : s.of.length = m) (hi : i64 o)
    (ho : w3.ownsRow (b + 1) 3 1 (.slice (some ⟨g, 0, none⟩) (m + 1) cp) (m + 1) (intsC s.of ++ [.int .i64 o])) (hg : (w.alloc ob).grownBy w3 v2.ownBlock) (_hat : v2.ownBlock = some g ∨ g = w.heap.size + 1) :
    Cells w3 b 39 #[c0, v1, v2, c3, c4, v5, c6] ∧ LkAt (w3.setCell ⟨b, 2, none⟩ (.slice (some ⟨g, 0, none⟩) (m + 1) cp)) b c0 c3 c4 c6 ⟨s.lv, s.of ++ [o], s.pr⟩ v1 (.slice (some ⟨g, 0, none⟩) (m + 1) cp) v5 ∧
    Fz (fun k => k = b ∨ v2.ownBlock = some k) w (w3.setCell ⟨b, 2, none⟩ (.slice (some ⟨g, 0, none⟩) (m + 1) cp)) := by
  have hvb : ∀ k, v2.ownBlock = some k → b + 1 ≤ k := fun k e => (own_block_lt h.oo k e).1
  have hbl := h.cs.lt
  have hgb := (own_block_lt ho g rfl).1
  have hne : g ≠ b := by omega
  have al : ∀ j, j < w.heap.size → (w.alloc ob).heap[j]? = w.heap[j]? := fun j hj => ((Below.refl w.heap.size w).alloc (Nat.le_refl _) ob).block j hj
  have hs0 : (w.alloc ob).heap.size = w.heap.size + 1 := by simp
  have f3 : Fz (fun k => v2.ownBlock = some k) w w3 := ⟨hg.os, hg.tape, hg.output, by have := hg.size; omega, fun j hj hn => (hg.block j (by omega) (fun e => hn e.symm)).trans (al j hj)⟩
  have hc3 : Cells w3 b 39 #[c0, v1, v2, c3, c4, v5, c6] := (f3.block b hbl (fun e => by have := hvb b e; omega)).trans h.cs
  have fz : Fz (fun k => k = b ∨ v2.ownBlock = some k) w (w3.setCell ⟨b, 2, none⟩ (.slice (some ⟨g, 0, none⟩) (m + 1) cp)) :=
    (f3.mono (fun k hk => .inr hk)).trans (Fz.set _ _ _ _ (.inl rfl))
  obtain ⟨cl, l1, l2⟩ := h.lo
  refine ⟨hc3, ⟨hc3.set 2 _, ⟨cl, own_fz fz l1 (fun k hk => ?_), l2⟩, ?_, fun x hx => ?_, own_fz fz h.po (fun k hk => ?_), h.pi⟩, fz⟩
  · rcases hk with rfl | hk
    · intro e; have := (own_block_lt l1 k e).1; omega
    · exact own_types h.oo l1 (by decide) k hk
  · show World.ownsRow _ _ _ _ _ (s.of ++ [o]).length _
    rw [List.length_append, hm, intsC_append]
    exact ho.kept (grown_setc _ _ _ _) (.inr (by show some g ≠ some b; intro e; injection e with e; exact hne e))
  · rcases List.mem_append.1 hx with e | e
    · exact h.oi x e
    · simp at e; subst e; exact hi
  · rcases hk with rfl | hk
    · intro e; have := (own_block_lt h.po k e).1; omega
    · exact own_types h.oo h.po (by decide) k hk
end Go.Proofs.YtmldgfplnacecaaDoor

namespace Go.Proofs.YtmldgfplnacecaaDoor
open Go.RowKit Go.Shelf Go.Lib Go.Great Go.Maps

theorem Cells.on {W W' : World} {g t : Nat} {cs : Array Value} (h : Cells W g t cs) (hb : Below W.heap.size W W') : Cells W' g t cs := (hb.block _ h.lt).trans h
/-- Where the struct and its growing lists lie. -/
def Vl (b : Nat) (v1 v2 v5 : Value) (k : Nat) : Prop := k = b ∨ v1.ownBlock = some k ∨ v2.ownBlock = some k ∨ v5.ownBlock = some k
/-- Nothing else turns, and what they come to lie in is theirs or new. -/
structure LkMv (b : Nat) (w w' : World) (v1 v2 v5 u1 u2 u5 : Value) : Prop where
  fz : Fz (Vl b v1 v2 v5) w w'
  nw : ∀ k, Vl b u1 u2 u5 k → Vl b v1 v2 v5 k ∨ w.heap.size ≤ k
theorem LkMv.keep {b : Nat} {w w' : World} {v1 v2 v5 u1 u2 u5 : Value} (h : LkMv b w w' v1 v2 v5 u1 u2 u5) {q : Nat} (hq : q < w.heap.size) (hn : ¬ Vl b v1 v2 v5 q) : w'.heap[q]? = w.heap[q]? ∧ ¬ Vl b u1 u2 u5 q :=
  ⟨h.fz.block q hq hn, fun hu => by rcases h.nw q hu with e | e; exact hn e; omega⟩
theorem LkMv.refl (b : Nat) (w : World) (v1 v2 v5 : Value) : LkMv b w w v1 v2 v5 v1 v2 v5 := ⟨Fz.refl _ _, fun _ h => .inl h⟩
theorem LkMv.of_below {b : Nat} {w w' : World} (v1 v2 v5 : Value) (h : Below w.heap.size w w') : LkMv b w w' v1 v2 v5 v1 v2 v5 := ⟨Fz.of_below h, fun _ h => .inl h⟩
theorem LkMv.trans {b : Nat} {w w' w'' : World} {v1 v2 v5 u1 u2 u5 x1 x2 x5 : Value} (h : LkMv b w w' v1 v2 v5 u1 u2 u5) (g : LkMv b w' w'' u1 u2 u5 x1 x2 x5) : LkMv b w w'' v1 v2 v5 x1 x2 x5 := by
  have hs := h.fz.size
  refine ⟨⟨g.fz.os.trans h.fz.os, g.fz.tape.trans h.fz.tape, g.fz.output.trans h.fz.output, Nat.le_trans hs g.fz.size, fun k hk hn => ?_⟩, fun k hk => ?_⟩
  · obtain ⟨e1, e2⟩ := h.keep hk hn
    exact (g.fz.block k (by omega) e2).trans e1
  · rcases g.nw k hk with e | e
    · exact h.nw k e
    · exact .inr (by omega)
theorem LkMv.set {b : Nat} {w w' : World} {v1 v2 v5 u1 u2 u5 : Value} (h : LkMv b w w' v1 v2 v5 u1 u2 u5) {q : Nat} (hq : w.heap.size ≤ q) (i : Nat) (x : Value) : LkMv b w (w'.setCell ⟨q, i, none⟩ x) v1 v2 v5 u1 u2 u5 :=
  ⟨⟨h.fz.os, h.fz.tape, h.fz.output, by simpa using h.fz.size, fun k hk hn => by rw [Below.heap_setCell _ _ _ _ (by intro e; first | omega | (subst e; omega))]; exact h.fz.block k hk hn⟩, h.nw⟩
theorem LkMv.below {b : Nat} {w w' w'' : World} {v1 v2 v5 u1 u2 u5 : Value} (h : LkMv b w w' v1 v2 v5 u1 u2 u5) (g : Below w'.heap.size w' w'') : LkMv b w w'' v1 v2 v5 u1 u2 u5 := h.trans (LkMv.of_below _ _ _ g)
/-- Where lists of a part lie. -/
def Xs (b : Nat) (v1 v2 v5 : Value) (n k : Nat) : Prop := n ≤ k ∧ ¬ Vl b v1 v2 v5 k
theorem SlX.mv {b n : Nat} {w w' : World} {v1 v2 v5 u1 u2 u5 x : Value} {l : List Int} (h : SlX w (Xs b v1 v2 v5 n) l x) (m : LkMv b w w' v1 v2 v5 u1 u2 u5) : SlX w' (Xs b u1 u2 u5 n) l x :=
  h.move m.fz.size fun _ hk hlt => ⟨⟨hk.1, (m.keep hlt hk.2).2⟩, (m.keep hlt hk.2).1⟩
theorem SlX.lower {b n n' : Nat} {w : World} {v1 v2 v5 x : Value} {l : List Int} (h : SlX w (Xs b v1 v2 v5 n) l x) (hn : n' ≤ n) : SlX w (Xs b v1 v2 v5 n') l x :=
  h.move (Nat.le_refl _) fun _ hk _ => ⟨⟨Nat.le_trans hn hk.1, hk.2⟩, rfl⟩
/-- A store into a block before all of them. -/
theorem SlX.set {b n q : Nat} {w : World} {v1 v2 v5 x : Value} {l : List Int} (h : SlX w (Xs b v1 v2 v5 n) l x) (hq : q < n) (i : Nat) (y : Value) : SlX (w.setCell ⟨q, i, none⟩ y) (Xs b v1 v2 v5 n) l x :=
  h.move (by simp) fun k hk _ => ⟨hk, Below.heap_setCell _ _ _ _ (by intro e; have := hk.1; first | omega | (subst e; omega))⟩
theorem LkAt.mv {b : Nat} {w w' : World} {c0 c3 c4 c6 v1 v2 v5 : Value} {s : Lk} (h : LkAt w b c0 c3 c4 c6 s v1 v2 v5) (hb : Below w.heap.size w w') : LkAt w' b c0 c3 c4 c6 s v1 v2 v5 :=
  h.move (X := fun _ => False) (Fz.of_below hb) (fun _ hk => hk.elim)
theorem LkAt.set {b q i : Nat} {w : World} {c0 c3 c4 c6 v1 v2 v5 : Value} {s : Lk} (h : LkAt w b c0 c3 c4 c6 s v1 v2 v5) (hq : ¬ Vl b v1 v2 v5 q) (x : Value) : LkAt (w.setCell ⟨q, i, none⟩ x) b c0 c3 c4 c6 s v1 v2 v5 :=
  h.move (X := fun k => k = q) (Fz.set w q i x rfl) (fun k hk => by subst hk; exact ⟨fun e => hq (.inl e), fun e => hq (.inr (.inl e)), fun e => hq (.inr (.inr (.inl e))), fun e => hq (.inr (.inr (.inr e)))⟩)
/-- New blocks are none of theirs. -/
theorem LkAt.fresh {b q : Nat} {w : World} {c0 c3 c4 c6 v1 v2 v5 : Value} {s : Lk} (h : LkAt w b c0 c3 c4 c6 s v1 v2 v5) (hq : w.heap.size ≤ q) : ¬ Vl b v1 v2 v5 q := by
  obtain ⟨cl, l1, _⟩ := h.lo
  rintro (rfl | e | e | e)
  · have := h.cs.lt; omega
  · have := (own_block_lt l1 q e).2; omega
  · have := (own_block_lt h.oo q e).2; omega
  · have := (own_block_lt h.po q e).2; omega
/-- All of theirs are from the struct on. -/
theorem LkAt.from_b {b q : Nat} {w : World} {c0 c3 c4 c6 v1 v2 v5 : Value} {s : Lk} (h : LkAt w b c0 c3 c4 c6 s v1 v2 v5) (hq : Vl b v1 v2 v5 q) : b ≤ q := by
  obtain ⟨cl, l1, _⟩ := h.lo
  rcases hq with rfl | e | e | e
  · exact Nat.le_refl _
  · have := (own_block_lt l1 q e).1; omega
  · have := (own_block_lt h.oo q e).1; omega
  · have := (own_block_lt h.po q e).1; omega
theorem LkMv.under {b : Nat} {w w' : World} {c0 c3 c4 c6 v1 v2 v5 u1 u2 u5 : Value} {s : Lk} (m : LkMv b w w' v1 v2 v5 u1 u2 u5) (h : LkAt w b c0 c3 c4 c6 s v1 v2 v5) : Below b w w' :=
  m.fz.below (Nat.le_of_lt h.cs.lt) (fun k hk hv => by have := h.from_b hv; omega)
/-- A block that is known, and none of theirs. -/
structure Kept (w : World) (b : Nat) (v1 v2 v5 : Value) (q t : Nat) (cs : Array Value) : Prop where
  c : Cells w q t cs
  n : ¬ Vl b v1 v2 v5 q
theorem Kept.mv {b q t : Nat} {w w' : World} {v1 v2 v5 u1 u2 u5 : Value} {cs : Array Value} (h : Kept w b v1 v2 v5 q t cs) (m : LkMv b w w' v1 v2 v5 u1 u2 u5) : Kept w' b u1 u2 u5 q t cs :=
  ⟨(m.keep h.c.lt h.n).1.trans h.c, (m.keep h.c.lt h.n).2⟩
theorem Kept.set_ne {b q t p i : Nat} {w : World} {v1 v2 v5 : Value} {cs : Array Value} (h : Kept w b v1 v2 v5 q t cs) (hp : p ≠ q) (x : Value) : Kept (w.setCell ⟨p, i, none⟩ x) b v1 v2 v5 q t cs :=
  ⟨(Below.heap_setCell _ _ _ _ (by first | exact hp | exact hp.symm)).trans h.c, h.n⟩
theorem Kept.set_eq {b q t i : Nat} {w : World} {v1 v2 v5 : Value} {cs : Array Value} (h : Kept w b v1 v2 v5 q t cs) (x : Value) : Kept (w.setCell ⟨q, i, none⟩ x) b v1 v2 v5 q t (cs.setIfInBounds i x) :=
  ⟨h.c.set i x, h.n⟩
/-- The list of a call's own. -/
theorem slx_ofI {b n : Nat} {w : World} {v1 v2 v5 v : Value} {l : List Int} (h : OwnI w n l v) (hl : ∀ x ∈ l, i64 x) (hn : ∀ k, n ≤ k → ¬ Vl b v1 v2 v5 k) : SlX w (Xs b v1 v2 v5 n) l v := by
  rcases h.2 with ⟨h1, h2⟩ | ⟨g, cap, cur, h1, h2, h3, h4, h5, h6, h7⟩
  · have hz : l = [] := List.eq_nil_of_length_eq_zero h2
    subst hz
    exact ⟨none, 0, by rw [h1]; rfl, Nat.le_refl _, by unfold maxLen; omega, fun x hx => absurd hx (by simp), fun _ => rfl, fun h => absurd rfl h⟩
  · refine ⟨_, cap, h1, h4, h5, hl, fun e => (by cases e), fun _ => ⟨g, rfl, ⟨h2, hn g h2⟩, (Array.getElem?_eq_some_iff.1 h3).1, fun i x hx => ?_⟩⟩
    have hc := World.ownsRow.cells h (g := g) (by rw [h1]; rfl) i (.int .i64 x) (by simp [intsC, hx])
    rw [add0] at hc
    exact hc
/-- What looking at an expression answers. -/
def LkPost (w : World) (b : Nat) (c0 c3 c4 c6 v1 v2 v5 : Value) (s' : Lk) (p : Pt) (r : Ending) (w' : World) : Prop :=
  ∃ u1 u2 u5 vf vl, r = .returned (.agg #[.bool p.empty, vf, vl]) ∧ LkAt w' b c0 c3 c4 c6 s' u1 u2 u5 ∧ LkMv b w w' v1 v2 v5 u1 u2 u5 ∧ SlX w' (Xs b u1 u2 u5 w.heap.size) p.first vf ∧ SlX w' (Xs b u1 u2 u5 w.heap.size) p.last vl
theorem results_one {fn : Func} {p : Tmp} (h : fn.results = #[.cell p 101]) (tmps : Array Value) (w : World) (g : Nat) (cs : Array Value)
    (hp : tmps.getD p undef = .pointer (some ⟨g, 0, none⟩)) (hg : Cells w g 101 cs) (hi : (Tryd.prog.info? 101).map (·.size) = some cs.size) : (results fn tmps).run Tryd.prog w = .ok (.agg cs) w := by
  have := run_loadVar_row (P := Tryd.prog) w g 101 101 cs (0, 0) _ hg Tryd.underlying101 rfl hi
  have e : (results fn tmps).run Tryd.prog w = ((asAddr (tmps.getD p undef)).run Tryd.prog w).andThen fun a w₁ => (loadVar 101 a).run Tryd.prog w₁ := by
    simp only [results, h]
    simp [Sem.run_bind, Result.andThen]
  rw [e, hp]
  simp [asAddr, this, Result.andThen]
end Go.Proofs.YtmldgfplnacecaaDoor

namespace Go.Proofs.YtmldgfplnacecaaDoor
open Go.RowKit Go.Shelf Go.Lib Go.Great Go.Maps

/-- A row's block while it is filled. -/
def rowC (r : List Int) : Array Value := ((r.map fun x => Value.int .i64 x) ++ List.replicate (37 - r.length) (Value.int .i64 0)).toArray
theorem make37 (w : World) : (Instr.makeSlice 23 (.int .i64 37) (.int .i64 37)).run Tryd.prog w = .ok (.slice (some ⟨w.heap.size, 0, none⟩) 37 37) (w.alloc (.cells (rowC []) 3)) := by kernel_rfl
theorem rowC_set (r : List Int) (v : Int) (h : r.length < 37) : (rowC r).setIfInBounds r.length (.int .i64 v) = rowC (r ++ [v]) := by
  unfold rowC
  obtain ⟨d, hd⟩ : ∃ d, 37 - r.length = d + 1 := ⟨36 - r.length, by omega⟩
  have e2 : 37 - (r ++ [v]).length = d := by simp; omega
  rw [hd, e2, List.replicate_succ]
  simp
theorem rowC_get (r : List Int) (i : Nat) (h : i < 37) : ∃ u, (rowC r)[i]? = some u := by
  have : i < (rowC r).size := by unfold rowC; simp; omega
  exact ⟨_, Array.getElem?_eq_getElem this⟩
theorem rowC_full {r : List Int} (h : r.length = 37) : rowC r = (r.map fun x => Value.int .i64 x).toArray := by
  unfold rowC
  rw [h]; simp
def Xi (G : Nat) (vN vT : Value) (ρ b : Nat) : Prop := Xo G vN vT b ∧ b ≠ ρ
def InRel (w0 : World) (se : Bool) (s : St) (S : List (List Int)) (x : List Int) (v : Value) (R : List (List Int)) (T : List Nat) (vN vT : Value) (k ρ m : Nat) (w : World) : Prop :=
  ∃ S' r, r.length = m ∧ Ext S S' ∧ Sv se s S' ∧ S'.length ≤ S.length + m ∧ RowOk se s S' x r ∧ Bd w0 w w0.heap.size (k + 1) (Xi w0.heap.size vN vT ρ) S' R T vN vT ∧ Cells w ρ 3 (rowC r) ∧ SlX w (Xi w0.heap.size vN vT ρ) x v
theorem in_start {w0 w : World} {se : Bool} {s : St} {S : List (List Int)} {x : List Int} {v : Value} {R : List (List Int)} {T : List Nat} {vN vT : Value} {k : Nat} (hs : Sv se s S) (hD : Bd w0 w w0.heap.size (k + 1) (Xo w0.heap.size vN vT) S R T vN vT)
    (hv : SlX w (Xo w0.heap.size vN vT) x v) : InRel w0 se s S x v R T vN vT k w.heap.size 0 (w.alloc (.cells (rowC []) 3)) ∧ Xo w0.heap.size vN vT w.heap.size := by
  have bb := below_new w (.cells (rowC []) 3)
  refine ⟨⟨S, [], rfl, Ext.refl S, hs, by omega, fun m v hm => by simp at hm, (hD.congr (fun b hb hl => ⟨hb, by omega⟩)).below bb, cells_new w _ _, hv.move bb.size (fun b hb hl => ⟨⟨hb, by omega⟩, bb.block b hl⟩)⟩, ?_⟩
  exact ⟨hD.sz, fun e => by have := (hD.rn.lt _ e).2; omega, fun e => by have := (own_block_lt hD.rt _ e).2; omega⟩
/-- What has been looked at has been found. -/
theorem found_all {se : Bool} {s : St} {S S' R : List (List Int)} {T : List Nat} {x r : List Int} {i0 : Nat} (hB : Bf se s S R T) (hRk : R.length = i0) (he : Ext S S') (hx : S[i0]? = some x) (ho : RowOk se s S' x r) :
    ∀ i' m' x', (i' < i0 ∨ i' = i0 ∧ m' < r.length) → m' < 37 → S'[i']? = some x' → nxt se s x' m' ∈ S' := by
  intro i' m' x' hh h37 hx'
  rcases hh with hh | ⟨rfl, hh⟩
  · obtain ⟨q, hq⟩ : ∃ q, R[i']? = some q := ⟨R[i']'(by omega), List.getElem?_eq_getElem _⟩
    obtain ⟨hl, y, hy, hr⟩ := hB.r i' q hq
    have := he.get hy
    rw [hx'] at this
    injection this with this
    subst this
    obtain ⟨j, _, hj⟩ := hr m' _ (List.getElem?_eq_getElem (show m' < q.length by omega))
    exact List.mem_of_getElem? (he.get hj)
  · have := he.get hx
    rw [hx'] at this
    injection this with this
    subst this
    obtain ⟨j, _, hj⟩ := ho m' _ (List.getElem?_eq_getElem hh)
    exact List.mem_of_getElem? hj
theorem in_step {w0 wr w3 w4 : World} {se : Bool} {s : St} {S S' : List (List Int)} {x r : List Int} {v v' : Value} {R : List (List Int)} {T : List Nat} {vN vT : Value} {k ρ i0 : Nat} {f' : Int → Value} {e : Ending} (hB : Bf se s S R T) (hRk : R.length = i0) (hm : r.length < 37) (he : Ext S S') (hs : Sv se s S') (hl : S'.length ≤ S.length + r.length)
    (ho : RowOk se s S' x r) (hx : S[i0]? = some x) (hD : Bd w0 wr w0.heap.size (k + 1) (Xi w0.heap.size vN vT ρ) S' R T vN vT) (hc : Cells wr ρ 3 (rowC r)) (hv : SlX wr (Xi w0.heap.size vN vT ρ) x v) (hρ : Xo w0.heap.size vN vT ρ)
    (hb3 : Below wr.heap.size wr w3) (hv' : SlX w3 (Xi w0.heap.size vN vT ρ) (nxt se s x r.length) v') (hfs : ∀ (i : Nat) y, k + 1 ≤ i → S'[i]? = some y → SlX w3 (Xi w0.heap.size vN vT ρ) y (f' i))
    (hst : StOk w3 (w0.heap.size + 2) (w0.heap.size + 3) S' f' (nxt se s x r.length) v' e w4) :
    ∃ j : Nat, e = .returned (.int .i64 (j : Int)) ∧ (∃ old, w4.cell? ⟨ρ, r.length, none⟩ = some old) ∧ w4.frozen? ⟨ρ, r.length, none⟩ = false ∧ InRel w0 se s S x v R T vN vT k ρ (r.length + 1) (w4.setCell ⟨ρ, r.length, none⟩ (.int .i64 (j : Int))) := by
  have d3 := hD.below hb3
  have c3 : Cells w3 ρ 3 (rowC r) := (hb3.block _ hc.lt).trans hc
  have v3 := hv.move hb3.size (fun b hb hl => ⟨hb, hb3.block b hl⟩)
  have fin : ∀ (S'' : List (List Int)) (j : Nat) (w4 : World), Ext S' S'' → Sv se s S'' → S''.length ≤ S'.length + 1 → S''[j]? = some (nxt se s x r.length) → Bd w0 w4 w0.heap.size (k + 1) (Xi w0.heap.size vN vT ρ) S'' R T vN vT → Cells w4 ρ 3 (rowC r) → SlX w4 (Xi w0.heap.size vN vT ρ) x v →
      (∃ old, w4.cell? ⟨ρ, r.length, none⟩ = some old) ∧ w4.frozen? ⟨ρ, r.length, none⟩ = false ∧ InRel w0 se s S x v R T vN vT k ρ (r.length + 1) (w4.setCell ⟨ρ, r.length, none⟩ (.int .i64 (j : Int))) := by
    intro S'' j w4 e2 s2 l2 j2 d4 c4 v4
    obtain ⟨u, hu⟩ := rowC_get r r.length hm
    have hg := grown_setc w4 ρ r.length (.int .i64 (j : Int))
    refine ⟨⟨u, by rw [c4.cell]; exact hu⟩, c4.froz _, S'', r ++ [(j : Int)], by simp, he.trans e2, s2, by omega, (ho.ext e2).snoc j2, d4.grown hg hρ (fun b hb => hb.2), ?_, v4.move hg.size (fun b hb hl => ⟨hb, hg.block b hl (fun e => by injection e with e; exact hb.2 e)⟩)⟩
    have := c4.set r.length (.int .i64 (j : Int))
    rw [rowC_set r _ hm] at this
    exact this
  rcases hst with ⟨j, hj, rfl, hb4⟩ | ⟨hn, rfl, hnm, hmf, hg⟩
  · exact ⟨j, rfl, fin S' j w4 (Ext.refl _) hs (by omega) hj (d3.below hb4) ((hb4.block _ c3.lt).trans c3) (v3.move hb4.size (fun b hb hl => ⟨hb, hb4.block b hl⟩))⟩
  · have d4 := d3.found (fun b hb => hb.1.1) hfs hv' hnm hmf hg
    have hk := hρ.1
    exact ⟨S'.length, rfl, fin (S' ++ [nxt se s x r.length]) S'.length w4 ⟨_, rfl⟩ (hs.snoc (he.get hx) hm hn (found_all hB hRk he hx ho)) (by simp) (by simp) d4 ((hg.block _ c3.lt (by omega)).trans c3)
      (v3.move hg.size (fun b hb hl => ⟨hb, hg.block b hl (by have := hb.1.1; omega)⟩))⟩
end Go.Proofs.YtmldgfplnacecaaDoor

namespace Go.Proofs.YtmldgfplnacecaaDoor
open Go.RowKit Go.Shelf Go.Lib Go.Great Go.Maps

/-- What is handed back: a table in memory. -/
structure TbO (w0 w : World) (G : Nat) (R : List (List Int)) (T : List Nat) (vN vT : Value) : Prop where
  rn : Rn w (G + 5) (fun b => G + 5 ≤ b) R vN
  rt : w.ownsRow (G + 5) 37 1 vT T.length (u64C T)
  low : Below G w0 w
def BuOk (w0 : World) (se : Bool) (s : St) (r : Ending) (w' : World) : Prop :=
  (∃ S, Sv se s S ∧ 1000 < S.length ∧ r = .returned (.tuple #[.agg #[.slice none 0 0, .slice none 0 0], .int .i64 7]) ∧ Below w0.heap.size w0 w') ∨
  (∃ S R T vN vT, Bf se s S R T ∧ R.length = S.length ∧ S.length ≤ 1000 ∧ r = .returned (.tuple #[.agg #[vN, vT], .int .i64 0]) ∧ TbO w0 w' w0.heap.size R T vN vT)
def OutRel (w0 : World) (se : Bool) (s : St) (k : Nat) (wr : World) : Prop :=
  k ≤ 1000 ∧ ∃ S R T vN vT, R.length = k ∧ Bf se s S R T ∧ S.length ≤ 1037 ∧ Bd w0 wr w0.heap.size k (Xo w0.heap.size vN vT) S R T vN vT
theorem nxt_eq (se : Bool) (s : St) (x : List Int) (m : Nat) : posI (stepM se s x m) = nxt se s x m := by unfold nxt; rfl
theorem posL_len (m : Nat) : (posL m).length ≤ 1024 := by
  unfold posL
  have := List.length_filter_le (inM m) (List.range 1024)
  rw [List.length_range] at this
  exact this
theorem nxt_len (se : Bool) (s : St) (x : List Int) (m : Nat) : (nxt se s x m).length ≤ 1024 := by
  rw [← nxt_eq]
  unfold posI
  rw [List.length_map]
  exact posL_len _
theorem sv_len {se : Bool} {s : St} {S : List (List Int)} (h : Sv se s S) {i : Nat} {x : List Int} (hx : S[i]? = some x) : x.length ≤ 1024 := by
  rcases Nat.eq_zero_or_pos i with rfl | h0
  · rw [h.z] at hx
    injection hx with hx
    rw [← hx]
    simp
  · obtain ⟨_, _, y, _, m, _, he⟩ := h.j i x h0 hx
    rw [he]
    exact nxt_len _ _ _ _
set_option maxHeartbeats 4000000 in
set_option maxRecDepth 100000 in
/-- Before the loop. -/
def W5of (w : World) : World := ((((w.alloc (.cells #[.slice none 0 0, .slice none 0 0] 54)).alloc (.cells #[.slice none 0 0, .slice none 0 0] 54)).alloc (.map #[] 0)).alloc (.map #[] 0)).alloc (.cells #[.map (some (w.heap.size + 1 + 1)), .map (some (w.heap.size + 1 + 1 + 1))] 134)
structure S5 (w W5 : World) : Prop where
  z : W5.heap.size = w.heap.size + 5
  res : Cells W5 w.heap.size 54 #[.slice none 0 0, .slice none 0 0]
  d : Cells W5 (w.heap.size + 1) 54 #[.slice none 0 0, .slice none 0 0]
  nm : Nm W5 (w.heap.size + 1 + 1) []
  wt : MapF W5 (w.heap.size + 1 + 1 + 1) 0 (.slice none 0 0) (fun _ => .slice none 0 0)
  b : Cells W5 (w.heap.size + 1 + 1 + 1 + 1) 134 #[.map (some (w.heap.size + 1 + 1)), .map (some (w.heap.size + 1 + 1 + 1))]
  low : Below w.heap.size w W5
theorem s5 {w W5 : World} (h5 : W5of w = W5) : S5 w W5 := by
  unfold W5of at h5
  have x1 := cells_new w #[.slice none 0 0, .slice none 0 0] 54
  have b1 := below_new w (.cells #[.slice none 0 0, .slice none 0 0] 54)
  have z1 : (w.alloc (.cells #[.slice none 0 0, .slice none 0 0] 54)).heap.size = w.heap.size + 1 := by simp
  generalize w.alloc (.cells #[.slice none 0 0, .slice none 0 0] 54) = W1 at *
  have x2 := cells_new W1 #[.slice none 0 0, .slice none 0 0] 54
  have b2 := below_new W1 (.cells #[.slice none 0 0, .slice none 0 0] 54)
  have z2 : (W1.alloc (.cells #[.slice none 0 0, .slice none 0 0] 54)).heap.size = W1.heap.size + 1 := by simp
  generalize W1.alloc (.cells #[.slice none 0 0, .slice none 0 0] 54) = W2 at *
  have x3 := Nm.made W2
  have b3 := below_new W2 (.map #[] 0)
  have z3 : (W2.alloc (.map #[] 0)).heap.size = W2.heap.size + 1 := by simp
  generalize W2.alloc (.map #[] 0) = W3 at *
  have x4 := MapF.made W3 (.slice none 0 0)
  have b4 := below_new W3 (.map #[] 0)
  have z4 : (W3.alloc (.map #[] 0)).heap.size = W3.heap.size + 1 := by simp
  generalize W3.alloc (.map #[] 0) = W4 at *
  have x5 := cells_new W4 #[.map (some (w.heap.size + 1 + 1)), .map (some (w.heap.size + 1 + 1 + 1))] 134
  have b5 := below_new W4 (.cells #[.map (some (w.heap.size + 1 + 1)), .map (some (w.heap.size + 1 + 1 + 1))] 134)
  have z5 : (W4.alloc (.cells #[.map (some (w.heap.size + 1 + 1)), .map (some (w.heap.size + 1 + 1 + 1))] 134)).heap.size = W4.heap.size + 1 := by simp
  rw [h5] at x5 b5 z5
  have y4 : W4.heap.size = w.heap.size + 1 + 1 + 1 + 1 := by omega
  have y3 : W3.heap.size = w.heap.size + 1 + 1 + 1 := by omega
  have y2 : W2.heap.size = w.heap.size + 1 + 1 := by omega
  rw [y4] at x5
  rw [y3] at x4
  rw [y2] at x3
  rw [z1] at x2
  exact ⟨by omega, (b5.block _ (by omega)).trans ((b4.block _ (by omega)).trans ((b3.block _ (by omega)).trans ((b2.block _ (by omega)).trans x1))), (b5.block _ (by omega)).trans ((b4.block _ (by omega)).trans ((b3.block _ (by omega)).trans x2)),
    x3.block ((b5.block _ (by omega)).trans (b4.block _ (by omega))), x4.block (b5.block _ (by omega)), x5, b1.trans ((b2.mono (by omega)).trans ((b3.mono (by omega)).trans ((b4.mono (by omega)).trans (b5.mono (by omega)))))⟩
theorem start_facts {w W5 W6 : World} (hh : 1 < w.heap.size) (h5 : W5of w = W5) (h6 : W5.alloc (.cells #[.int .i64 0] 3) = W6) :
    Cells W6 (w.heap.size + 1 + 1 + 1 + 1) 134 #[.map (some (w.heap.size + 1 + 1)), .map (some (w.heap.size + 1 + 1 + 1))] ∧ Nm W6 (w.heap.size + 1 + 1) [] ∧ MapF W6 (w.heap.size + 1 + 1 + 1) 0 (.slice none 0 0) (fun _ => .slice none 0 0) ∧ (PW w → PW W6) := by
  have h := s5 h5
  have b6 := below_new W5 (.cells #[.int .i64 0] 3)
  rw [h6] at b6
  have z := h.z
  exact ⟨(b6.block _ (by omega)).trans h.b, h.nm.block (b6.block _ (by omega)), h.wt.block (b6.block _ (by omega)), fun hp => (hp.below h.low hh).below b6 (by omega)⟩
theorem bd_start {w W5 W6 W7 : World} (_hh : 1 < w.heap.size) (h5 : W5of w = W5) (h6 : W5.alloc (.cells #[.int .i64 0] 3) = W6) {f : Int → Value} {r : Ending}
    (hr : StOk W6 (w.heap.size + 1 + 1) (w.heap.size + 1 + 1 + 1) [] f [0] (.slice (some ⟨W5.heap.size, 0, none⟩) 1 1) r W7) (se : Bool) (s : St) : r = .returned (.int .i64 0) ∧ OutRel w se s 0 W7 := by
  have h := s5 h5
  have b6 := below_new W5 (.cells #[.int .i64 0] 3)
  have x6 := slx_begin W5
  have z6 : (W5.alloc (.cells #[.int .i64 0] 3)).heap.size = W5.heap.size + 1 := by simp
  rw [h6] at b6 x6 z6
  have z := h.z
  rcases hr with ⟨i, hi, _⟩ | ⟨_, rfl, hn, hm, hg⟩
  · simp at hi
  · refine ⟨by simp, by omega, [[0]], [], [], .slice none 0 0, .slice none 0 0, rfl, Bf.begin se s, by simp, ?_⟩
    have nb : ∀ b, b < w.heap.size + 5 → b ≠ w.heap.size + 2 → b ≠ w.heap.size + 3 → W7.heap[b]? = W5.heap[b]? := fun b hb h2 h3 => (hg.block b (by omega) (by omega)).trans (b6.block b (by omega))
    refine ⟨by have := hg.size; omega, (nb _ (by omega) (by omega) (by omega)).trans h.res, (nb _ (by omega) (by omega) (by omega)).trans h.d, (nb _ (by omega) (by omega) (by omega)).trans h.b, hn, ⟨_, hm, fun i x _ hx => ?_⟩, ⟨[], ⟨rfl, .inl ⟨rfl, rfl⟩⟩, fun i r hr => by simp at hr⟩, ⟨rfl, .inl ⟨rfl, rfl⟩⟩, (fun g e => by cases e), ?_⟩
    · have hl := (List.getElem?_eq_some_iff.1 hx).1
      simp at hl
      subst hl
      simp at hx
      subst hx
      refine SlX.move (X := fun b => W5.heap.size ≤ b) (w := W6) ?_ hg.size (fun b hb hl => ⟨⟨by omega, by simp [Value.ownBlock], by simp [Value.ownBlock]⟩, hg.block b hl (by omega)⟩)
      exact x6
    · refine h.low.trans ⟨hg.os.trans b6.os, hg.tape.trans b6.tape, hg.output.trans b6.output, by have := hg.size; omega, fun j hj => nb j (by omega) (by omega) (by omega)⟩
theorem set_below {B : Nat} (w : World) (b i : Nat) (v : Value) (h : B ≤ b) : Below B w (w.setCell ⟨b, i, none⟩ v) :=
  ⟨rfl, rfl, rfl, by simp, fun k hk => Below.heap_setCell _ _ _ _ (by simp; omega)⟩
theorem done_bd {w0 w : World} {k : Nat} {S R : List (List Int)} {T : List Nat} {vN vT : Value} (h : Bd w0 w w0.heap.size k (Xo w0.heap.size vN vT) S R T vN vT) :
    TbO w0 ((w.setCell ⟨w0.heap.size, 0, none⟩ vN).setCell ⟨w0.heap.size, 1, none⟩ vT) w0.heap.size R T vN vT := by
  have g1 := grown_setc w w0.heap.size 0 vN
  have g2 := grown_setc (w.setCell ⟨w0.heap.size, 0, none⟩ vN) w0.heap.size 1 vT
  have hn : vN.ownBlock ≠ some w0.heap.size := fun e => by have := (h.rn.lt _ e).1; omega
  have ht : vT.ownBlock ≠ some w0.heap.size := fun e => by have := (own_block_lt h.rt _ e).1; omega
  exact ⟨(h.rn.move (X' := fun b => w0.heap.size + 5 ≤ b) g1 (.inr hn) (fun b hb _ => ⟨hb.1, fun e => by injection e with e; have := hb.1; omega⟩)).move g2 (.inr hn) (fun b hb _ => ⟨hb, fun e => by injection e with e; omega⟩), (h.rt.kept g1 (.inr ht)).kept g2 (.inr ht),
    (h.low.trans (set_below _ _ _ _ (Nat.le_refl _))).trans (set_below _ _ _ _ (Nat.le_refl _))⟩
theorem owns_form1 {w : World} {base e size n : Nat} {v : Value} {xs : List Value} (h : w.ownsRow base e size v n xs) : ∃ A cap, v = .slice A n cap := by
  rcases h.2 with ⟨h1, h2⟩ | ⟨g, c, _, h1, _⟩
  · exact ⟨none, 0, by rw [h1, h2]⟩
  · exact ⟨_, c, h1⟩
theorem step_slx {q : Np} {n : Nat} {se : Bool} {s : St} {w : World} (h : NfaAt w q n se s) (hT : TZ w) {X : Nat → Prop} {x : List Int} {V : Value} (hv : SlX w X x V) (m : Nat) (hm : m < 37) :
    Calls Tryd.prog 22 #[.pointer (some ⟨q.b, 0, none⟩), V, .int .i64 (m : Int)] w fun r w' => ∃ v', r = .returned v' ∧ SlX w' (fun b => w.heap.size ≤ b) (nxt se s x m) v' ∧ Below w.heap.size w w' := by
  obtain ⟨A, cap, rfl, his, _⟩ := hv.is
  refine (step_any h hT x A cap his (m : Int) (nat64 (by omega))).mono ?_
  rintro r w' ⟨v', rfl, ho, hb⟩
  refine ⟨v', rfl, ?_, hb⟩
  rw [← nxt_eq]
  exact slx_own ho
theorem tells_slx {q : Np} {n : Nat} {se : Bool} {s : St} {w : World} (h : NfaAt w q n se s) {X : Nat → Prop} {x : List Int} {V : Value} (hv : SlX w X x V) :
    Calls Tryd.prog 20 #[.pointer (some ⟨q.b, 0, none⟩), V] w fun r w' => r = .returned (.int .u64 (tellsU s x : Nat)) ∧ w' = w := by
  obtain ⟨A, cap, rfl, his, _⟩ := hv.is
  exact tells_any h x A cap his
theorem row_slx {w : World} {X : Nat → Prop} {ρ : Nat} {r : List Int} (h37 : r.length = 37) (hc : Cells w ρ 3 (rowC r)) (hi : ∀ y ∈ r, i64 y) (hX : X ρ) : SlX w X r (.slice (some ⟨ρ, 0, none⟩) 37 37) := by
  refine ⟨some ⟨ρ, 0, none⟩, 37, by rw [h37], by omega, by unfold maxLen; omega, hi, fun e => (by cases e), fun _ => ⟨ρ, rfl, hX, hc.lt, fun i x hx => ?_⟩⟩
  rw [hc.cell, rowC_full h37]
  simp [hx]
theorem row_i64 {se : Bool} {s : St} {S : List (List Int)} {x r : List Int} (h : RowOk se s S x r) (hS : S.length ≤ 100000) : ∀ y ∈ r, i64 y := by
  intro y hy
  obtain ⟨m, hm⟩ := List.getElem?_of_mem hy
  obtain ⟨j, rfl, hj⟩ := h m y hm
  exact nat64 (by have := (List.getElem?_eq_some_iff.1 hj).1; omega)
theorem out_step {w0 w w' : World} {se : Bool} {s : St} {S S' R : List (List Int)} {T : List Nat} {vN vT : Value} {x r : List Int} {k g cap : Nat} (hk : k + 1 ≤ 1000) (hR : R.length = k) (hB : Bf se s S R T) (hx : S[k]? = some x) (he : Ext S S') (hs : Sv se s S') (hl : S'.length ≤ 1037) (ho : RowOk se s S' x r) (h37 : r.length = 37)
    (hD : Bd w0 w w0.heap.size (k + 1) (Xo w0.heap.size vN vT) S' (R ++ [r]) T vN vT) (ho2 : w'.ownsRow (w0.heap.size + 5) 37 1 (.slice (some ⟨g, 0, none⟩) (T.length + 1) cap) (T.length + 1) (u64C T ++ [.int .u64 (tellsU s x : Nat)])) (hg : w.grownBy w' vT.ownBlock) (hat : vT.ownBlock = some g ∨ g = w.heap.size) :
    OutRel w0 se s (k + 1) (w'.setCell ⟨w0.heap.size + 1, 1, none⟩ (.slice (some ⟨g, 0, none⟩) (T.length + 1) cap)) :=
  ⟨hk, S', R ++ [r], T ++ [tellsU s x], vN, _, by simp [hR], hB.snoc he hs (by rw [hR]; exact hx) h37 ho, hl, hD.tell (fun b hb => hb) ho2 hg hat⟩
set_option maxHeartbeats 16000000 in
set_option maxRecDepth 100000 in
theorem build_any {q : Np} {n : Nat} {se : Bool} {s : St} {w : World} (h : NfaAt w q n se s) (hT : TZ w) (hP : PW w) : Calls Tryd.prog 64 #[.pointer (some ⟨q.b, 0, none⟩)] w (BuOk w se s) := by
  obtain ⟨W5, h5⟩ : ∃ W, W5of w = W := ⟨_, rfl⟩
  have H := Lib.hid (And.intro h (And.intro hT (And.intro hP (And.intro trivial h5))))
  clear h hT hP h5
  obtain ⟨ia, hi1⟩ : ∃ i, Tryd.prog.info? 23 = some i ∧ i.zero = some (.slice none 0 0) ∧ i.size = 1 ∧ i.bytes = 24 := ⟨_, rfl, rfl, rfl, rfl⟩
  obtain ⟨ib, hi2⟩ : ∃ i, Tryd.prog.info? 37 = some i ∧ i.zero = some (.int .u64 0) ∧ i.size = 1 ∧ i.bytes = 8 := ⟨_, rfl, rfl, rfl, rfl⟩
  have J := Lib.hid (And.intro hi1 hi2)
  clear hi1 hi2
  have mk2 := make37
  have mk1 : ∀ t (W : World), (Instr.makeMap t none).run Tryd.prog W = .ok (.map (some W.heap.size)) (W.alloc (.map #[] 0)) := fun t W => run_makeMap t W
  go_enter Tryd.func64, Tryd.ntmps64
  go_wp2_with fail
  rw [show ((((w.alloc (.cells #[.slice none 0 0, .slice none 0 0] 54)).alloc (.cells #[.slice none 0 0, .slice none 0 0] 54)).alloc (.map #[] 0)).alloc (.map #[] 0)).alloc (.cells #[.map (some (w.heap.size + 1 + 1)), .map (some (w.heap.size + 1 + 1 + 1))] 134) = W5 from H.out.2.2.2.2]
  refine (begin_any q.b W5).mono ?_
  rintro r W6 ⟨rfl, hW6⟩
  have hs6 := start_facts H.out.2.2.1.lt H.out.2.2.2.2 hW6.symm
  have C := state_any (w.heap.size + 1 + 1 + 1 + 1) (w.heap.size + 1 + 1) (w.heap.size + 1 + 1 + 1) [] _ [0] (.slice (some ⟨W5.heap.size, 0, none⟩) 1 1) _ W6 hs6.1 hs6.2.1 (by simp) (by simp) hs6.2.2.1 (by rw [hW6]; exact slx_begin W5) (by simp) (by simp) (hs6.2.2.2 H.out.2.2.1) (by omega) (by omega)
  have HC := Lib.hid C
  have H6 := Lib.hid hW6
  clear C hs6 hW6
  go_wp2_with fail
  refine HC.out.mono ?_
  intro r W7 hr
  obtain ⟨rfl, hO⟩ := bd_start H.out.2.2.1.lt H.out.2.2.2.2 H6.out.symm hr se s
  have HO := Lib.hid hO
  clear hr hO
  go_wp2_with fail
  go_loopw [6] (fun i wr => ∃ k : Nat, i = .int .i64 (k : Int) ∧ OutRel w se s k wr) (fun i _ => 2000 - (RowKit.intOf i).toNat)
  case atStart => exact ⟨0, rfl, HO.out⟩
  case round =>
    obtain ⟨k, rfl, hk1000, S, R, T, vN, vT, hR, hB, hS, hD⟩ := hrel
    have c5 : wr.cell? ⟨w.heap.size + 1 + 1 + 1 + 1, 0, none⟩ = some (.map (some (w.heap.size + 1 + 1))) := hD.b.cell 0
    have c6 : wr.cell? ⟨w.heap.size + 1 + 1 + 1 + 1, 1, none⟩ = some (.map (some (w.heap.size + 1 + 1 + 1))) := hD.b.cell 1
    obtain ⟨N, hN⟩ : ∃ N, S.length = N := ⟨_, rfl⟩
    have hkN : k ≤ N := by have := hB.le; omega
    have hN37 : N ≤ 1037 := by omega
    have HH := Lib.hid (And.intro hR (And.intro hB (And.intro hN hD)))
    clear hR hB hS hD hN
    by_cases hlt : k < N
    · have i1 : (k : Int) < (N : Int) := by omega
      by_cases hbig : 1000 < N
      · have i2 : (1000 : Int) < (N : Int) := by omega
        have r0 : wr.cell? ⟨w.heap.size, 0, none⟩ = some (.slice none 0 0) := HH.out.2.2.2.res.cell 0
        have r1 : wr.cell? ⟨w.heap.size, 1, none⟩ = some (.slice none 0 0) := HH.out.2.2.2.res.cell 1
        have f0 := HH.out.2.2.2.res.froz 0
        have f1 := HH.out.2.2.2.res.froz 1
        go_wp2_with (first
          | (refine wpList_lenNm rfl (.tmp 18) rfl (w.heap.size + 1 + 1) S HH.out.2.2.2.nm rfl ?_; rw [HH.out.2.2.1])
          | (refine wpList_lenNm rfl (.tmp 24) rfl (w.heap.size + 1 + 1) S HH.out.2.2.2.nm rfl ?_; rw [HH.out.2.2.1])
          | fail)
        have xx := (HH.out.2.2.2.res.set 0 (.slice none 0 0)).set 1 (.slice none 0 0)
        have e0 := xx.cell 0
        have e1 := xx.cell 1
        simp at e0 e1
        refine bodyPost_ret (v := .tuple #[.agg #[.slice none 0 0, .slice none 0 0], .int .i64 7]) (by simp [results, Tryd.results64, go_sem, e0, e1]) rfl ?_
        exact .inl ⟨S, HH.out.2.1.sv, by rw [HH.out.2.2.1]; exact hbig, rfl, ((HH.out.2.2.2.low).trans (set_below _ _ _ _ (Nat.le_refl _))).trans (set_below _ _ _ _ (Nat.le_refl _))⟩
      · have i2 : ¬ (1000 : Int) < (N : Int) := by omega
        obtain ⟨f, hmf, hfs⟩ := HH.out.2.2.2.wt
        obtain ⟨x, hx⟩ : ∃ x, S[k]? = some x := ⟨S[k]'(by rw [HH.out.2.2.1]; exact hlt), List.getElem?_eq_getElem _⟩
        have hv0 := hfs k x (Nat.le_refl _) hx
        obtain ⟨V, hV⟩ : ∃ V, f (k : Int) = V := ⟨_, rfl⟩
        rw [hV] at hv0
        have HM := Lib.hid (And.intro hmf (And.intro hfs (And.intro hx (And.intro hV hv0))))
        clear hmf hfs hx hV hv0
        go_wp2_with (first
          | (refine wpList_lenNm rfl (.tmp 18) rfl (w.heap.size + 1 + 1) S HH.out.2.2.2.nm rfl ?_; rw [HH.out.2.2.1])
          | (refine wpList_lenNm rfl (.tmp 24) rfl (w.heap.size + 1 + 1) S HH.out.2.2.2.nm rfl ?_; rw [HH.out.2.2.1])
          | (refine wpList_lookupF rfl (.tmp 29) (.tmp 30) 132 23 rfl Tryd.underlying132 (w.heap.size + 1 + 1 + 1) S.length (.slice none 0 0) f HM.out.1 (zero23 wr) (k : Int) (nat64 (by omega)) rfl rfl ?_; rw [HM.out.2.2.2.1])
          | (refine wpList_delF rfl (.tmp 33) (.tmp 34) 132 23 rfl Tryd.underlying132 (w.heap.size + 1 + 1 + 1) S.length (.slice none 0 0) f HM.out.1 (k : Int) (nat64 (by omega)) rfl rfl ?_
             intro w1 hm1 hg1
             have d1 := HH.out.2.2.2.deleted (fun b hb => hb.1) HM.out.2.1 hm1 hg1
             have v1 := HM.out.2.2.2.2.move hg1.size (fun b hb hl => ⟨hb, hg1.block b hl (fun e => by injection e with e; have := hb.1; omega)⟩)
             have HI := Lib.hid (in_start (k := k) HH.out.2.1.sv d1 v1)
             clear hm1 hg1 d1 v1)
          | fail)
        go_loopw [36] (fun i wr2 => ∃ m : Nat, i = .int .i64 (m : Int) ∧ m ≤ 37 ∧ InRel w se s S x V R T vN vT k w1.heap.size m wr2) (fun i _ => 37 - (RowKit.intOf i).toNat)
        case atStart => exact ⟨0, rfl, by omega, HI.out.1⟩
        case round =>
          rename_i wr2
          obtain ⟨m, rfl, hm, S', r, hr, he, hs', hl', ho', hD', hc', hv'⟩ := hrel
          obtain ⟨ρ, hρ⟩ : ∃ ρ, w1.heap.size = ρ := ⟨_, rfl⟩
          by_cases hmlt : m < 37
          · have i3 : (m : Int) < 37 := by omega
            have C1 := step_slx (H.out.1.below hD'.low) (H.out.2.1.below hD'.low H.out.2.1.lt) hv' m hmlt
            have HC1 := Lib.hid C1
            have HK := Lib.hid (And.intro hr (And.intro he (And.intro hs' (And.intro hl' (And.intro ho' (And.intro hD' (And.intro hc' hv')))))))
            clear C1 hr he hs' hl' ho' hD' hc' hv' hρ
            go_wp2_with fail
            refine HC1.out.mono ?_
            rintro e w3 ⟨v', rfl, hsl, hb3⟩
            have hD3 := HK.out.2.2.2.2.2.1.below hb3
            have hsl' : SlX w3 (Xi w.heap.size vN vT w1.heap.size) (nxt se s x m) v' := hsl.move (Nat.le_refl _) (fun b hb hl => ⟨⟨⟨by have := HK.out.2.2.2.2.2.1.sz; omega, fun e => by have := (HK.out.2.2.2.2.2.1.rn.lt _ e).2; omega, fun e => by have := (own_block_lt HK.out.2.2.2.2.2.1.rt _ e).2; omega⟩, by have := HK.out.2.2.2.2.2.2.1.lt; omega⟩, rfl⟩)
            obtain ⟨f', hmf', hfs'⟩ := hD3.wt
            have hS' : S'.length ≤ 5000 := by have := HK.out.2.2.2.1; have := HH.out.2.2.1; omega
            have C2 := state_any (w.heap.size + 1 + 1 + 1 + 1) (w.heap.size + 1 + 1) (w.heap.size + 1 + 1 + 1) S' f' (nxt se s x m) v' _ w3 hD3.b hD3.nm hS' (fun y hy p hp => by obtain ⟨i, hi⟩ := List.getElem?_of_mem hy; exact (HK.out.2.2.1.nn hi p hp).1) hmf' hsl' nxt_nn (nxt_len _ _ _ _) ((H.out.2.2.1.below hD3.low H.out.2.2.1.lt)) (by omega) (by omega)
            have HC2 := Lib.hid C2
            have HF := Lib.hid (And.intro hb3 (And.intro hsl' (And.intro hmf' hfs')))
            clear C2 hD3 hsl hb3 hsl' hmf' hfs'
            go_wp2_with fail
            refine HC2.out.mono ?_
            intro e w4 hst
            have hrm := HK.out.1
            subst hrm
            obtain ⟨j, rfl, ⟨old, hold⟩, hfz, hin⟩ := in_step (i0 := k) HH.out.2.1 HH.out.1 hmlt HK.out.2.1 HK.out.2.2.1 HK.out.2.2.2.1 HK.out.2.2.2.2.1 HM.out.2.2.1 HK.out.2.2.2.2.2.1 HK.out.2.2.2.2.2.2.1 HK.out.2.2.2.2.2.2.2 HI.out.2 HF.out.1 HF.out.2.1 HF.out.2.2.2 hst
            have HIN := Lib.hid hin
            clear hin hst
            go_wp2_with fail
            go_roundw
            case rel => exact ⟨r.length + 1, by go_num, by omega, HIN.out⟩
            case measure => simp [RowKit.intOf]; omega
          · have i3 : ¬ (m : Int) < 37 := by omega
            have hr37 : r.length = 37 := by omega
            have hDo := hD'.congr (X' := Xo w.heap.size vN vT) (fun b hb _ => hb.1)
            have hvo := hv'.move (X' := Xo w.heap.size vN vT) (Nat.le_refl _) (fun b hb _ => ⟨hb.1, rfl⟩)
            have hu := row_slx hr37 hc' (fun y hy => row_i64 ho' (by have := HH.out.2.2.1; omega) y hy) HI.out.2
            obtain ⟨gs, hown, hgs⟩ := hDo.rn
            have hgl : gs.length = R.length := by have := hown.1; simpa using this
            have y0 : wr.cell? ⟨w.heap.size + 1, 0, none⟩ = some vN := hDo.d.cell 0
            have hb8 := below_new wr (.cells #[.slice (some ⟨w1.heap.size, 0, none⟩) 37 37] 23)
            have hD8 := hDo.below hb8
            have o8 := hown.alloc (.cells #[.slice (some ⟨w1.heap.size, 0, none⟩) 37 37] 23)
            have u8' := hu.move hb8.size (fun b hb hl => ⟨hb, hb8.block b hl⟩)
            have g8 : ∀ (i : Nat) r, R[i]? = some r → ∃ u, gs[i]? = some u ∧ SlX (wr.alloc (.cells #[.slice (some ⟨w1.heap.size, 0, none⟩) 37 37] 23)) (Xo w.heap.size vN vT) r u := fun i r hr => by
              obtain ⟨u, h3, h4⟩ := hgs i r hr
              exact ⟨u, h3, h4.move hb8.size (fun b hb hl => ⟨hb, hb8.block b hl⟩)⟩
            have v8 := hvo.move hb8.size (fun b hb hl => ⟨hb, hb8.block b hl⟩)
            have c8 : (wr.alloc (.cells #[.slice (some ⟨w1.heap.size, 0, none⟩) 37 37] 23)).cell? ⟨wr.heap.size, 0, none⟩ = some (.slice (some ⟨w1.heap.size, 0, none⟩) 37 37) := by rw [World.cell?_alloc_new]; rfl
            have z8 := hDo.sz
            have bR : R.length ≤ 1000 := by have := HH.out.1; omega
            have HQ := Lib.hid (And.intro he (And.intro hs' (And.intro hl' (And.intro ho' (And.intro hr37 (And.intro z8 bR))))))
            have H8 := Lib.hid (And.intro hD8 (And.intro o8 (And.intro u8' (And.intro g8 (And.intro v8 (And.intro c8 hgl))))))
            clear hb8 hD8 o8 u8' g8 v8 c8 z8 bR he hs' hl' ho' hr37 hr hD' hc' hv' hDo hvo hu hown hgs hgl hρ
            go_wp2_with (first
              | (at_builtin
                 refine wpList_append_one rfl (.tmp 49) (.tmp 51) 51 rfl (w.heap.size + 5) 23 ia (.slice none 0 0) 24 Tryd.underlying51 J.out.1.1 J.out.1.2.1 J.out.1.2.2.1 J.out.1.2.2.2 (by decide) rfl _ R.length gs rfl H8.out.2.1 ⟨wr.heap.size, 0, none⟩ (.slice (some ⟨w1.heap.size, 0, none⟩) 37 37) rfl H8.out.2.2.2.2.2.1 rfl (by have := HQ.out.2.2.2.2.2.2; omega) (by have := HQ.out.2.2.2.2.2.1; simp; omega) _ rfl ?_)
              | fail)
            intro g cp w10 ho10 hg10 hat10 hl10
            have hg10' : (wr.alloc (.cells #[.slice (some ⟨w1.heap.size, 0, none⟩) 37 37] 23)).grownBy w10 vN.ownBlock := hg10
            have d10 : Cells w10 (w.heap.size + 1) 54 #[vN, vT] := (hg10'.block _ H8.out.1.d.lt (fun e => by have := (H8.out.1.rn.lt _ e.symm).1; omega)).trans H8.out.1.d
            have hat10' : vN.ownBlock = some g ∨ g = (wr.alloc (.cells #[.slice (some ⟨w1.heap.size, 0, none⟩) 37 37] 23)).heap.size := by simpa using hat10
            have D10 := H8.out.1.row (fun b hb => hb) H8.out.2.2.1 ho10 H8.out.2.2.2.1 H8.out.2.2.2.2.2.2 hg10' hat10'
            have V10 := H8.out.2.2.2.2.1.move (w' := w10.setCell ⟨w.heap.size + 1, 0, none⟩ (.slice (some ⟨g, 0, none⟩) (R.length + 1) cp)) (X' := fun _ => True) (by have := hg10'.size; simp at this ⊢; omega) (fun b hb hl => ⟨trivial, by
              rw [Below.heap_setCell _ _ _ _ (by have := hb.1; simp; omega)]
              exact hg10'.block b hl (fun e => hb.2.1 e.symm)⟩)
            have c10 := d10.cell 0
            have f10 := d10.froz 0
            simp at c10
            obtain ⟨w11, hw11⟩ : ∃ W, w10.setCell ⟨w.heap.size + 1, 0, none⟩ (.slice (some ⟨g, 0, none⟩) (R.length + 1) cp) = W := ⟨_, rfl⟩
            rw [hw11] at D10 V10
            have HW := Lib.hid hw11
            have H11 := Lib.hid (And.intro D10 V10)
            clear hw11 D10 V10 hat10 hat10' hg10 hg10' ho10 d10
            go_wp2_with fail
            rw [HW.out]
            have bd := (Below.refl w11.heap.size w11).drew
            obtain ⟨wd, hwd⟩ : ∃ W, w11.drew = W := ⟨_, rfl⟩
            rw [hwd] at bd
            have Dd := H11.out.1.below bd
            have Vd := H11.out.2.move bd.size (fun b hb hl => ⟨hb, bd.block b hl⟩)
            have C := tells_slx (H.out.1.below Dd.low) Vd
            have HC := Lib.hid C
            have nb := below_new wd (.cells #[.int .u64 (tellsU s x : Nat)] 37)
            have De := Dd.below nb
            have HL := Lib.hid (And.intro (show wd.cell? ⟨w.heap.size + 1, 1, none⟩ = some vT from Dd.d.cell 1) (show (wd.alloc (.cells #[.int .u64 (tellsU s x : Nat)] 37)).cell? ⟨w.heap.size + 1, 1, none⟩ = some vT from De.d.cell 1))
            have HE := Lib.hid (And.intro De (And.intro (World.news_of_block (heap_alloc_new wd (.cells #[.int .u64 (tellsU s x : Nat)] 37))) (show T.length ≤ 100000 from by have := HH.out.2.1.tl; have := HH.out.1; omega)))
            have HWD := Lib.hid hwd
            clear bd hwd Dd Vd C nb De
            refine wp_region_noPanic ?_
            refine wp_region_held_drew (S := fun _ => True) (by kernel_rfl) trivial (fun hH => ?_)
            rw [HWD.out]
            refine wpAnyH_take (i := 0) (oi := { dst := some 54, op := Op.fieldAddr 54 (Operand.tmp 4) 1, type := 0, pos := "build.go:32", after := #[], guard := none }) (v := ?_) rfl (by kernel_rfl) (by kernel_rfl) (by kernel_rfl) (fun _ _ _ h => h) (Or.inl ⟨by rfl, ?_⟩) (by exact hH) ?_
            rotate_left
            · intro W hSw
              go_simp
              try with_reducible rfl
            try simp only [Act.put, List.setIfInBounds_toArray, List.set_cons_zero, List.set_cons_succ]
            refine wpAnyH_take (i := 2) (oi := { dst := some 56, op := Op.move (Operand.tmp 0), type := 26, pos := "build.go:32", after := #[], guard := none }) (v := ?_) rfl (by kernel_rfl) (by kernel_rfl) (by kernel_rfl) (fun _ _ _ h => h) (Or.inl ⟨by rfl, ?_⟩) (by exact hH) ?_
            rotate_left
            · intro W hSw
              go_simp
              try with_reducible rfl
            try simp only [Act.put, List.setIfInBounds_toArray, List.set_cons_zero, List.set_cons_succ]
            refine wpAnyH_take (i := 3) (oi := { dst := some 57, op := Op.move (Operand.tmp 7), type := 23, pos := "build.go:32", after := #[], guard := none }) (v := ?_) rfl (by kernel_rfl) (by kernel_rfl) (by kernel_rfl) (fun _ _ _ h => h) (Or.inl ⟨by rfl, ?_⟩) (by exact hH) ?_
            rotate_left
            · intro W hSw
              go_simp
              try with_reducible rfl
            try simp only [Act.put, List.setIfInBounds_toArray, List.set_cons_zero, List.set_cons_succ]
            refine wpAnyH_ready (rs := [1, 4]) (by kernel_rfl) (by simp) ?_
            refine (AllReadyH.cons (o := { dst := some 55, op := Op.load 52 (Operand.tmp 54), type := 52, pos := "build.go:32", after := #[{ on := 0, ground := Ground.data }], guard := none }) rfl (fun K hK => ?_) (AllReadyH.cons (o := { dst := some 58, op := Op.call { callee := Callee.value (Operand.func 20), args := #[Operand.tmp 56, Operand.tmp 57], argTypes := #[26, 23] }, type := 37, pos := "build.go:32", after := #[{ on := 2, ground := Ground.data }, { on := 3, ground := Ground.data }], guard := none }) rfl (fun K hK => ?_) AllReadyH.nil))
            · have pl : wd.cell? ⟨w.heap.size + 1, 1, none⟩ = some vT := HL.out.1
              go_simp
              refine hK.out _ _ trivial (fun hH => ?_)
              clear hK K pl
              try simp only [Act.put, List.setIfInBounds_toArray, List.set_cons_zero, List.set_cons_succ]
              refine wpAnyH_ready (rs := [4]) (by kernel_rfl) (by simp) ?_
              refine (AllReadyH.cons (o := { dst := some 58, op := Op.call { callee := Callee.value (Operand.func 20), args := #[Operand.tmp 56, Operand.tmp 57], argTypes := #[26, 23] }, type := 37, pos := "build.go:32", after := #[{ on := 2, ground := Ground.data }, { on := 3, ground := Ground.data }], guard := none }) rfl (fun K hK => ?_) AllReadyH.nil)
              go_simp
              go_at_call 20
              refine HC.out.mono ?_
              rintro e w' ⟨rfl, he⟩
              obtain rfl := he.symm
              try go_wp2_with fail
              refine hK.out _ _ trivial (fun hH => ?_)
              clear hK K he
              try simp only [Act.put, List.setIfInBounds_toArray, List.set_cons_zero, List.set_cons_succ]
              refine wpAnyH_ready (rs := [5]) (by kernel_rfl) (by simp) ?_
              refine (AllReadyH.cons (o := { dst := some 59, op := Op.buildSlice 52 1 #[(0, Operand.tmp 58)], type := 52, pos := "build.go:32", after := #[{ on := 4, ground := Ground.data }], guard := none }) rfl (fun K hK => ?_) AllReadyH.nil)
              go_simp
              refine hK.out _ _ trivial (fun hH => ?_)
              clear hK K
              try simp only [Act.put, List.setIfInBounds_toArray, List.set_cons_zero, List.set_cons_succ]
              refine wpAnyH_ready (rs := [6]) (by kernel_rfl) (by simp) ?_
              refine (AllReadyH.cons (o := { dst := some 60, op := Op.call { callee := Callee.builtin Builtin.append, args := #[Operand.tmp 55, Operand.tmp 59], argTypes := #[52, 52] }, type := 52, pos := "build.go:32", after := #[{ on := 1, ground := Ground.data }, { on := 5, ground := Ground.data }, { on := 4, ground := Ground.chain }], guard := none }) rfl (fun K hK => ?_) AllReadyH.nil)
              refine step_append_lies _ rfl (.tmp 55) (.tmp 59) 52 rfl (w.heap.size + 5) 37 ib _ 1 8 Tryd.underlying52 J.out.2.1 J.out.2.2.1 J.out.2.2.2.1 J.out.2.2.2.2 rfl (by omega) vT T.length (u64C T) rfl HE.out.1.rt ⟨wd.heap.size, 0, none⟩ 1 1 [.int .u64 (tellsU s x : Nat)] rfl rfl HE.out.2.1 (by simp [Value.oneCell']) (by omega) (by have := HE.out.2.2; unfold maxLen; omega) (by have := HE.out.2.2; omega) (by have := HE.out.1.sz; exact Nat.le_of_lt_succ (by omega)) (wd.alloc (.cells #[.int .u64 (tellsU s x : Nat)] 37)).heap.size rfl ?_
              intro g2 cp2 w12 ho12 hg12 hat12 hl12
              have hend : OutRel w se s (k + 1) (w12.setCell ⟨w.heap.size + 1, 1, none⟩ (.slice (some ⟨g2, 0, none⟩) (T.length + 1) cp2)) := out_step (by omega) HH.out.1 HH.out.2.1 HM.out.2.2.1 HQ.out.1 HQ.out.2.1 (by have := HQ.out.2.2.1; have := HH.out.2.2.1; omega) HQ.out.2.2.2.1 HQ.out.2.2.2.2.1 HE.out.1 ho12 hg12 hat12
              have d12 : Cells w12 (w.heap.size + 1) 54 #[(.slice (some ⟨g, 0, none⟩) (R.length + 1) cp), vT] := (hg12.block _ HE.out.1.d.lt (fun e => by have := (own_block_lt HE.out.1.rt _ e.symm).1; omega)).trans HE.out.1.d
              have c12 := d12.cell 1
              have f12 := d12.froz 1
              simp at c12
              have HEND := Lib.hid hend
              clear hend ho12 hg12 hat12 hl12 d12
              refine hK.out _ _ trivial (fun hH => ?_)
              clear hK K
              try simp only [Act.put, List.setIfInBounds_toArray, List.set_cons_zero, List.set_cons_succ]
              refine wpAnyH_take (i := 7) (oi := { dst := some 61, op := Op.fieldAddr 54 (Operand.tmp 4) 1, type := 0, pos := "build.go:32", after := #[{ on := 0, ground := Ground.phase }, { on := 1, ground := Ground.phase }, { on := 2, ground := Ground.phase }, { on := 3, ground := Ground.phase }, { on := 4, ground := Ground.phase }, { on := 5, ground := Ground.phase }, { on := 6, ground := Ground.phase }], guard := none }) (v := ?_) rfl (by kernel_rfl) (by kernel_rfl) (by kernel_rfl) (fun _ _ _ h => h) (Or.inl ⟨by rfl, ?_⟩) (by exact hH) ?_
              rotate_left
              · intro W hSw
                go_simp
                try with_reducible rfl
              try simp only [Act.put, List.setIfInBounds_toArray, List.set_cons_zero, List.set_cons_succ]
              refine wpAnyH_ready (rs := [8]) (by kernel_rfl) (by simp) ?_
              refine (AllReadyH.cons (o := { dst := none, op := Op.store 52 (Operand.tmp 61) (Operand.tmp 60), type := 0, pos := "build.go:32", after := #[{ on := 7, ground := Ground.data }, { on := 6, ground := Ground.data }, { on := 6, ground := Ground.chain }, { on := 0, ground := Ground.phase }, { on := 1, ground := Ground.phase }, { on := 2, ground := Ground.phase }, { on := 3, ground := Ground.phase }, { on := 4, ground := Ground.phase }, { on := 5, ground := Ground.phase }, { on := 6, ground := Ground.phase }], guard := none }) rfl (fun K hK => ?_) AllReadyH.nil)
              go_simp
              refine hK.out _ _ trivial (fun hH => ?_)
              clear hK K
              try simp only [Act.put, List.setIfInBounds_toArray, List.set_cons_zero, List.set_cons_succ]
              refine wpAnyH_done (by kernel_rfl) ?_ _
              refine NoPanic.normal ?_
              go_wp2_with fail
              go_roundw
              case rel => exact ⟨k + 1, by go_num, HEND.out⟩
              case measure => simp [RowKit.intOf]; omega
            · go_simp
              go_at_call 20
              refine HC.out.mono ?_
              rintro e w' ⟨rfl, he⟩
              obtain rfl := he.symm
              try go_wp2_with fail
              refine hK.out _ _ trivial (fun hH => ?_)
              clear hK K he
              try simp only [Act.put, List.setIfInBounds_toArray, List.set_cons_zero, List.set_cons_succ]
              refine wpAnyH_ready (rs := [1, 5]) (by kernel_rfl) (by simp) ?_
              refine (AllReadyH.cons (o := { dst := some 55, op := Op.load 52 (Operand.tmp 54), type := 52, pos := "build.go:32", after := #[{ on := 0, ground := Ground.data }], guard := none }) rfl (fun K hK => ?_) (AllReadyH.cons (o := { dst := some 59, op := Op.buildSlice 52 1 #[(0, Operand.tmp 58)], type := 52, pos := "build.go:32", after := #[{ on := 4, ground := Ground.data }], guard := none }) rfl (fun K hK => ?_) AllReadyH.nil))
              · have pl : wd.cell? ⟨w.heap.size + 1, 1, none⟩ = some vT := HL.out.1
                go_simp
                refine hK.out _ _ trivial (fun hH => ?_)
                clear hK K pl
                try simp only [Act.put, List.setIfInBounds_toArray, List.set_cons_zero, List.set_cons_succ]
                refine wpAnyH_ready (rs := [5]) (by kernel_rfl) (by simp) ?_
                refine (AllReadyH.cons (o := { dst := some 59, op := Op.buildSlice 52 1 #[(0, Operand.tmp 58)], type := 52, pos := "build.go:32", after := #[{ on := 4, ground := Ground.data }], guard := none }) rfl (fun K hK => ?_) AllReadyH.nil)
                go_simp
                refine hK.out _ _ trivial (fun hH => ?_)
                clear hK K
                try simp only [Act.put, List.setIfInBounds_toArray, List.set_cons_zero, List.set_cons_succ]
                refine wpAnyH_ready (rs := [6]) (by kernel_rfl) (by simp) ?_
                refine (AllReadyH.cons (o := { dst := some 60, op := Op.call { callee := Callee.builtin Builtin.append, args := #[Operand.tmp 55, Operand.tmp 59], argTypes := #[52, 52] }, type := 52, pos := "build.go:32", after := #[{ on := 1, ground := Ground.data }, { on := 5, ground := Ground.data }, { on := 4, ground := Ground.chain }], guard := none }) rfl (fun K hK => ?_) AllReadyH.nil)
                refine step_append_lies _ rfl (.tmp 55) (.tmp 59) 52 rfl (w.heap.size + 5) 37 ib _ 1 8 Tryd.underlying52 J.out.2.1 J.out.2.2.1 J.out.2.2.2.1 J.out.2.2.2.2 rfl (by omega) vT T.length (u64C T) rfl HE.out.1.rt ⟨wd.heap.size, 0, none⟩ 1 1 [.int .u64 (tellsU s x : Nat)] rfl rfl HE.out.2.1 (by simp [Value.oneCell']) (by omega) (by have := HE.out.2.2; unfold maxLen; omega) (by have := HE.out.2.2; omega) (by have := HE.out.1.sz; exact Nat.le_of_lt_succ (by omega)) (wd.alloc (.cells #[.int .u64 (tellsU s x : Nat)] 37)).heap.size rfl ?_
                intro g2 cp2 w12 ho12 hg12 hat12 hl12
                have hend : OutRel w se s (k + 1) (w12.setCell ⟨w.heap.size + 1, 1, none⟩ (.slice (some ⟨g2, 0, none⟩) (T.length + 1) cp2)) := out_step (by omega) HH.out.1 HH.out.2.1 HM.out.2.2.1 HQ.out.1 HQ.out.2.1 (by have := HQ.out.2.2.1; have := HH.out.2.2.1; omega) HQ.out.2.2.2.1 HQ.out.2.2.2.2.1 HE.out.1 ho12 hg12 hat12
                have d12 : Cells w12 (w.heap.size + 1) 54 #[(.slice (some ⟨g, 0, none⟩) (R.length + 1) cp), vT] := (hg12.block _ HE.out.1.d.lt (fun e => by have := (own_block_lt HE.out.1.rt _ e.symm).1; omega)).trans HE.out.1.d
                have c12 := d12.cell 1
                have f12 := d12.froz 1
                simp at c12
                have HEND := Lib.hid hend
                clear hend ho12 hg12 hat12 hl12 d12
                refine hK.out _ _ trivial (fun hH => ?_)
                clear hK K
                try simp only [Act.put, List.setIfInBounds_toArray, List.set_cons_zero, List.set_cons_succ]
                refine wpAnyH_take (i := 7) (oi := { dst := some 61, op := Op.fieldAddr 54 (Operand.tmp 4) 1, type := 0, pos := "build.go:32", after := #[{ on := 0, ground := Ground.phase }, { on := 1, ground := Ground.phase }, { on := 2, ground := Ground.phase }, { on := 3, ground := Ground.phase }, { on := 4, ground := Ground.phase }, { on := 5, ground := Ground.phase }, { on := 6, ground := Ground.phase }], guard := none }) (v := ?_) rfl (by kernel_rfl) (by kernel_rfl) (by kernel_rfl) (fun _ _ _ h => h) (Or.inl ⟨by rfl, ?_⟩) (by exact hH) ?_
                rotate_left
                · intro W hSw
                  go_simp
                  try with_reducible rfl
                try simp only [Act.put, List.setIfInBounds_toArray, List.set_cons_zero, List.set_cons_succ]
                refine wpAnyH_ready (rs := [8]) (by kernel_rfl) (by simp) ?_
                refine (AllReadyH.cons (o := { dst := none, op := Op.store 52 (Operand.tmp 61) (Operand.tmp 60), type := 0, pos := "build.go:32", after := #[{ on := 7, ground := Ground.data }, { on := 6, ground := Ground.data }, { on := 6, ground := Ground.chain }, { on := 0, ground := Ground.phase }, { on := 1, ground := Ground.phase }, { on := 2, ground := Ground.phase }, { on := 3, ground := Ground.phase }, { on := 4, ground := Ground.phase }, { on := 5, ground := Ground.phase }, { on := 6, ground := Ground.phase }], guard := none }) rfl (fun K hK => ?_) AllReadyH.nil)
                go_simp
                refine hK.out _ _ trivial (fun hH => ?_)
                clear hK K
                try simp only [Act.put, List.setIfInBounds_toArray, List.set_cons_zero, List.set_cons_succ]
                refine wpAnyH_done (by kernel_rfl) ?_ _
                refine NoPanic.normal ?_
                go_wp2_with fail
                go_roundw
                case rel => exact ⟨k + 1, by go_num, HEND.out⟩
                case measure => simp [RowKit.intOf]; omega
              · go_simp
                refine hK.out _ _ trivial (fun hH => ?_)
                clear hK K
                try simp only [Act.put, List.setIfInBounds_toArray, List.set_cons_zero, List.set_cons_succ]
                refine wpAnyH_ready (rs := [1]) (by kernel_rfl) (by simp) ?_
                refine (AllReadyH.cons (o := { dst := some 55, op := Op.load 52 (Operand.tmp 54), type := 52, pos := "build.go:32", after := #[{ on := 0, ground := Ground.data }], guard := none }) rfl (fun K hK => ?_) AllReadyH.nil)
                have pl : (wd.alloc (.cells #[.int .u64 (tellsU s x : Nat)] 37)).cell? ⟨w.heap.size + 1, 1, none⟩ = some vT := HL.out.2
                go_simp
                refine hK.out _ _ trivial (fun hH => ?_)
                clear hK K pl
                try simp only [Act.put, List.setIfInBounds_toArray, List.set_cons_zero, List.set_cons_succ]
                refine wpAnyH_ready (rs := [6]) (by kernel_rfl) (by simp) ?_
                refine (AllReadyH.cons (o := { dst := some 60, op := Op.call { callee := Callee.builtin Builtin.append, args := #[Operand.tmp 55, Operand.tmp 59], argTypes := #[52, 52] }, type := 52, pos := "build.go:32", after := #[{ on := 1, ground := Ground.data }, { on := 5, ground := Ground.data }, { on := 4, ground := Ground.chain }], guard := none }) rfl (fun K hK => ?_) AllReadyH.nil)
                refine step_append_lies _ rfl (.tmp 55) (.tmp 59) 52 rfl (w.heap.size + 5) 37 ib _ 1 8 Tryd.underlying52 J.out.2.1 J.out.2.2.1 J.out.2.2.2.1 J.out.2.2.2.2 rfl (by omega) vT T.length (u64C T) rfl HE.out.1.rt ⟨wd.heap.size, 0, none⟩ 1 1 [.int .u64 (tellsU s x : Nat)] rfl rfl HE.out.2.1 (by simp [Value.oneCell']) (by omega) (by have := HE.out.2.2; unfold maxLen; omega) (by have := HE.out.2.2; omega) (by have := HE.out.1.sz; exact Nat.le_of_lt_succ (by omega)) (wd.alloc (.cells #[.int .u64 (tellsU s x : Nat)] 37)).heap.size rfl ?_
                intro g2 cp2 w12 ho12 hg12 hat12 hl12
                have hend : OutRel w se s (k + 1) (w12.setCell ⟨w.heap.size + 1, 1, none⟩ (.slice (some ⟨g2, 0, none⟩) (T.length + 1) cp2)) := out_step (by omega) HH.out.1 HH.out.2.1 HM.out.2.2.1 HQ.out.1 HQ.out.2.1 (by have := HQ.out.2.2.1; have := HH.out.2.2.1; omega) HQ.out.2.2.2.1 HQ.out.2.2.2.2.1 HE.out.1 ho12 hg12 hat12
                have d12 : Cells w12 (w.heap.size + 1) 54 #[(.slice (some ⟨g, 0, none⟩) (R.length + 1) cp), vT] := (hg12.block _ HE.out.1.d.lt (fun e => by have := (own_block_lt HE.out.1.rt _ e.symm).1; omega)).trans HE.out.1.d
                have c12 := d12.cell 1
                have f12 := d12.froz 1
                simp at c12
                have HEND := Lib.hid hend
                clear hend ho12 hg12 hat12 hl12 d12
                refine hK.out _ _ trivial (fun hH => ?_)
                clear hK K
                try simp only [Act.put, List.setIfInBounds_toArray, List.set_cons_zero, List.set_cons_succ]
                refine wpAnyH_take (i := 7) (oi := { dst := some 61, op := Op.fieldAddr 54 (Operand.tmp 4) 1, type := 0, pos := "build.go:32", after := #[{ on := 0, ground := Ground.phase }, { on := 1, ground := Ground.phase }, { on := 2, ground := Ground.phase }, { on := 3, ground := Ground.phase }, { on := 4, ground := Ground.phase }, { on := 5, ground := Ground.phase }, { on := 6, ground := Ground.phase }], guard := none }) (v := ?_) rfl (by kernel_rfl) (by kernel_rfl) (by kernel_rfl) (fun _ _ _ h => h) (Or.inl ⟨by rfl, ?_⟩) (by exact hH) ?_
                rotate_left
                · intro W hSw
                  go_simp
                  try with_reducible rfl
                try simp only [Act.put, List.setIfInBounds_toArray, List.set_cons_zero, List.set_cons_succ]
                refine wpAnyH_ready (rs := [8]) (by kernel_rfl) (by simp) ?_
                refine (AllReadyH.cons (o := { dst := none, op := Op.store 52 (Operand.tmp 61) (Operand.tmp 60), type := 0, pos := "build.go:32", after := #[{ on := 7, ground := Ground.data }, { on := 6, ground := Ground.data }, { on := 6, ground := Ground.chain }, { on := 0, ground := Ground.phase }, { on := 1, ground := Ground.phase }, { on := 2, ground := Ground.phase }, { on := 3, ground := Ground.phase }, { on := 4, ground := Ground.phase }, { on := 5, ground := Ground.phase }, { on := 6, ground := Ground.phase }], guard := none }) rfl (fun K hK => ?_) AllReadyH.nil)
                go_simp
                refine hK.out _ _ trivial (fun hH => ?_)
                clear hK K
                try simp only [Act.put, List.setIfInBounds_toArray, List.set_cons_zero, List.set_cons_succ]
                refine wpAnyH_done (by kernel_rfl) ?_ _
                refine NoPanic.normal ?_
                go_wp2_with fail
                go_roundw
                case rel => exact ⟨k + 1, by go_num, HEND.out⟩
                case measure => simp [RowKit.intOf]; omega
    · obtain rfl : k = N := by omega
      have i1 : ¬ (k : Int) < (k : Int) := by omega
      obtain ⟨gs, hown, _⟩ := HH.out.2.2.2.rn
      obtain ⟨A1, c1, e1⟩ := owns_form1 hown
      obtain ⟨A2, c2, e2⟩ := owns_form1 HH.out.2.2.2.rt
      subst e1 e2
      clear hown
      obtain ⟨nR, hnR⟩ : ∃ n, R.length = n := ⟨_, rfl⟩
      obtain ⟨nT, hnT⟩ : ∃ n, T.length = n := ⟨_, rfl⟩
      have HN := Lib.hid (And.intro hnR hnT)
      have d0 : wr.cell? ⟨w.heap.size + 1, 0, none⟩ = some (.slice A1 nR c1) := by rw [← hnR]; exact HH.out.2.2.2.d.cell 0
      have d1 : wr.cell? ⟨w.heap.size + 1, 1, none⟩ = some (.slice A2 nT c2) := by rw [← hnT]; exact HH.out.2.2.2.d.cell 1
      have r0 : wr.cell? ⟨w.heap.size, 0, none⟩ = some (.slice none 0 0) := HH.out.2.2.2.res.cell 0
      have r1 : wr.cell? ⟨w.heap.size, 1, none⟩ = some (.slice none 0 0) := HH.out.2.2.2.res.cell 1
      have f0 := HH.out.2.2.2.res.froz 0
      have f1 := HH.out.2.2.2.res.froz 1
      clear hnR hnT
      go_wp2_with (first
        | (refine wpList_lenNm rfl (.tmp 18) rfl (w.heap.size + 1 + 1) S HH.out.2.2.2.nm rfl ?_; rw [HH.out.2.2.1])
        | fail)
      have xx := (HH.out.2.2.2.res.set 0 (.slice A1 nR c1)).set 1 (.slice A2 nT c2)
      have e0 := xx.cell 0
      have e1 := xx.cell 1
      simp at e0 e1
      refine bodyPost_ret (v := .tuple #[.agg #[.slice A1 nR c1, .slice A2 nT c2], .int .i64 0]) (by simp [results, Tryd.results64, go_sem, e0, e1]) rfl ?_
      rw [← HN.out.1, ← HN.out.2]
      exact .inr ⟨S, R, T, _, _, HH.out.2.1, by rw [HH.out.1, HH.out.2.2.1], by rw [HH.out.2.2.1]; exact hk1000, rfl, done_bd HH.out.2.2.2⟩
end Go.Proofs.YtmldgfplnacecaaDoor

