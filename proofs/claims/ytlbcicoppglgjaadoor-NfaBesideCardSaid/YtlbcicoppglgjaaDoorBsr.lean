/-
  Two automata side by side: what they become behind symbols, and what they tell. No program.
-/
import Derived.Test.YtlbcicoppglgjaaDoorBes
namespace Go.Proofs.YtlbcicoppglgjaaDoor
open Go.RowKit Go.Shelf Go.Lib

/-- What follows a place, and takes a symbol, are places of leaves; beyond the places nothing is known. -/
structure Nxt (s : St) : Prop where
  pos : 1 ≤ s.count
  n : ∀ p, Rg s.count (s.next p)
  t : ∀ m, Rg s.count (s.takers m)
  f : ∀ p, s.count ≤ p → s.next p = 0
  g : ∀ p, s.count ≤ p → s.tells p = 0
theorem nxt_st0 : Nxt st0 := ⟨Nat.le_refl _, fun _ => rg_zero _, fun _ => rg_zero _, fun _ _ => rfl, fun _ _ => rfl⟩
theorem Rg.inM {n x p : Nat} (h : Rg n x) (hp : n ≤ p) : inM x p = false := by
  refine inM_not ?_
  cases hb : x.testBit p with
  | false => rfl
  | true => have := h p hb; omega
theorem Nxt.link {s : St} (h : Nxt s) {x y : Nat} (hx : ∀ p, s.count ≤ p → inM x p = false) (hy : Rg s.count y) : Nxt (s.link x y) where
  pos := h.pos
  n p := by
    simp only [St.link]
    cases inM x p with
    | false => exact h.n p
    | true => exact (h.n p).or hy
  t := h.t
  f p hp := by simp only [St.link, hx p hp]; exact h.f p hp
  g := h.g
theorem Nxt.tell {s : St} (h : Nxt s) {x : Nat} (y : Nat) (hx : ∀ p, s.count ≤ p → inM x p = false) : Nxt (s.tell x y) where
  pos := h.pos
  n := h.n
  t := h.t
  f := h.f
  g p hp := by simp only [St.tell, hx p hp]; exact h.g p hp
theorem Nxt.leaf {s : St} (h : Nxt s) (k c : Int) : Nxt (s.leaf k c) where
  pos := Nat.le_add_left _ _
  n p := (h.n p).mono (Nat.le_succ _)
  t m := by
    simp only [St.leaf]
    cases (decide (m ≤ 36) && takesE k c m) with
    | false => exact (h.t m).mono (Nat.le_succ _)
    | true => exact ((h.t m).mono (Nat.le_succ _)).or (rg_pow h.pos)
  f p hp := h.f p (Nat.le_trans (Nat.le_succ _) hp)
  g p hp := h.g p (Nat.le_trans (Nat.le_succ _) hp)
mutual
theorem nxt_readE : ∀ (e : E) (s : St), Nxt s → Nxt (readE e s).1
  | .mk k c ks, s, h => by
    unfold readE
    split
    · exact h
    · split
      · exact nxt_seqL ks s _ h ⟨rg_zero _, rg_zero _⟩
      · split
        · exact nxt_altL ks s _ h
        · split
          · exact (nxt_headL ks s h).link (fun p hp => (rg_headL ks s h.pos).2.inM hp) (rg_headL ks s h.pos).1
          · split
            · exact (nxt_headL ks s h).link (fun p hp => (rg_headL ks s h.pos).2.inM hp) (rg_headL ks s h.pos).1
            · split
              · exact nxt_headL ks s h
              · exact h.leaf k c
theorem nxt_headL : ∀ (ks : List E) (s : St), Nxt s → Nxt (readE.headL ks s).1
  | [], _, h => h
  | e :: _, s, h => nxt_readE e s h
theorem nxt_seqL : ∀ (ks : List E) (s : St) (a : Sp), Nxt s → a.Rg s.count → Nxt (readE.seqL ks s a).1
  | [], _, _, h, _ => h
  | e :: r, s, a, h, ha => by
    unfold readE.seqL
    dsimp only
    have hm := mono_readE e s
    have hq := rg_readE e s h.pos
    have ha' := ha.mono hm
    refine nxt_seqL r _ _ ((nxt_readE e s h).link (fun p hp => ha'.2.inM hp) hq.1) ⟨?_, ?_⟩
    · dsimp only
      split
      · exact ha'.1.or hq.1
      · exact ha'.1
    · dsimp only
      split
      · exact hq.2.or ha'.2
      · exact hq.2
theorem nxt_altL : ∀ (ks : List E) (s : St) (a : Sp), Nxt s → Nxt (readE.altL ks s a).1
  | [], _, _, h => h
  | e :: r, s, a, h => by
    unfold readE.altL
    exact nxt_altL r _ _ (nxt_readE e s h)
end
theorem one_far {s : St} (h : Nxt s) : ∀ p, s.count ≤ p → inM 1 p = false := fun p hp => by
  rw [inM_one]; have := h.pos; simp; omega
theorem nxt_addE (e : E) {s : St} (b : Nat) (h : Nxt s) : Nxt (addE s e b) := by
  have hq := rg_readE e s h.pos
  have h1 := nxt_readE e s h
  unfold addE
  dsimp only
  have h3 : Nxt (((readE e s).1.link 1 (readE e s).2.first).tell (readE e s).2.last b) := (h1.link (one_far h1) hq.1).tell _ (fun p hp => hq.2.inM hp)
  cases (readE e s).2.empty with
  | false => exact h3
  | true => exact h3.tell _ (one_far h3)
theorem nxt_mkL : ∀ (l : List E) (i : Nat) (s : St), Nxt s → Nxt (mkL l i s)
  | [], _, _, h => h
  | e :: r, i, _s, h => nxt_mkL r (i + 1) _ (nxt_addE e _ h)
theorem nxt_mkN (l : List E) : Nxt (mkN l) := nxt_mkL l 0 _ nxt_st0
/-! what is told is small -/
mutual
theorem tells_readE : ∀ (e : E) (s : St), (readE e s).1.tells = s.tells
  | .mk k c ks, s => by
    unfold readE
    split
    · rfl
    · split
      · exact tells_seqL ks s _
      · split
        · exact tells_altL ks s _
        · split
          · exact tells_headL ks s
          · split
            · exact tells_headL ks s
            · split
              · exact tells_headL ks s
              · rfl
theorem tells_headL : ∀ (ks : List E) (s : St), (readE.headL ks s).1.tells = s.tells
  | [], _ => rfl
  | e :: _, s => tells_readE e s
theorem tells_seqL : ∀ (ks : List E) (s : St) (a : Sp), (readE.seqL ks s a).1.tells = s.tells
  | [], _, _ => rfl
  | e :: r, s, a => by
    unfold readE.seqL
    dsimp only
    exact (tells_seqL r ((readE e s).1.link a.last (readE e s).2.first) _).trans (tells_readE e s)
theorem tells_altL : ∀ (ks : List E) (s : St) (a : Sp), (readE.altL ks s a).1.tells = s.tells
  | [], _, _ => rfl
  | e :: r, s, a => by
    unfold readE.altL
    exact (tells_altL r _ _).trans (tells_readE e s)
end
theorem tell_small {s : St} {n : Nat} (h : ∀ p, s.tells p < 2 ^ n) (x : Nat) {y : Nat} (hy : y < 2 ^ n) : ∀ p, (s.tell x y).tells p < 2 ^ n := fun p => by
  simp only [St.tell]
  cases inM x p with
  | false => exact h p
  | true => exact Nat.or_lt_two_pow (h p) hy
theorem addE_small {s : St} {n : Nat} (e : E) (h : ∀ p, s.tells p < 2 ^ n) {i : Nat} (hi : i < n) : ∀ p, (addE s e (2 ^ i)).tells p < 2 ^ n := by
  have hp : 2 ^ i < 2 ^ n := Nat.pow_lt_pow_right (by omega) hi
  have h1 : ∀ p, ((readE e s).1.link 1 (readE e s).2.first).tells p < 2 ^ n := fun p => by
    show (readE e s).1.tells p < _
    rw [tells_readE]; exact h p
  unfold addE
  dsimp only
  cases (readE e s).2.empty with
  | false => exact tell_small h1 _ hp
  | true => exact tell_small (tell_small h1 _ hp) _ hp
theorem mkL_small {n : Nat} : ∀ (l : List E) (i : Nat) (s : St), (∀ p, s.tells p < 2 ^ n) → i + l.length ≤ n → ∀ p, (mkL l i s).tells p < 2 ^ n
  | [], _, _, h, _ => h
  | e :: r, i, s, h, hn => by
    simp only [List.length_cons] at hn
    exact mkL_small r (i + 1) _ (addE_small e h (by omega)) (by omega)
theorem tellsU_small {s : St} {n : Nat} (h : ∀ p, s.tells p < 2 ^ n) : ∀ l : List Int, tellsU s l < 2 ^ n
  | [] => Nat.two_pow_pos n
  | p :: r => by
    simp only [tellsU]
    refine Nat.or_lt_two_pow ?_ (tellsU_small h r)
    split
    · exact h _
    · exact Nat.two_pow_pos n
theorem mkN_small (l : List E) (xs : List Int) : tellsU (mkN l) xs < 2 ^ l.length := tellsU_small (mkL_small l 0 st0 (fun _ => Nat.two_pow_pos _) (by omega)) xs
theorem tellsU_bit (s : St) (l : List Int) (j : Nat) : (tellsU s l).testBit j = true ↔ ∃ p ∈ l, 0 ≤ p ∧ (s.tells p.toNat).testBit j = true := by
  induction l with
  | nil => simp [tellsU]
  | cons p r ih =>
    simp only [tellsU, Nat.testBit_or, Bool.or_eq_true, ih, List.mem_cons]
    constructor
    · rintro (h | ⟨q, hq, h1, h2⟩)
      · by_cases hp : 0 ≤ p
        · rw [if_pos hp] at h; exact ⟨p, Or.inl rfl, hp, h⟩
        · rw [if_neg hp] at h; simp at h
      · exact ⟨q, Or.inr hq, h1, h2⟩
    · rintro ⟨q, rfl | hq, h1, h2⟩
      · rw [if_pos h1]; exact Or.inl h2
      · exact Or.inr ⟨q, hq, h1, h2⟩
/-! side by side -/
theorem bes_mkN (l m : List E) (hm : m.all rightE = true) {d : Nat} (hd : (mkN l).count = d + 1) (hn : lvL m + d + 1 ≤ 1024) : Bes d l.length (mkN l) (mkN m) (mkN (l ++ m)) := by
  have hN := nxt_mkN l
  have h0 : Bes d l.length (mkN l) st0 (mkN l) :=
    ⟨by rw [hd]; show d + 1 = 1 + d; omega, Nat.le_refl _, by show _ = _ ||| 0 <<< d; rw [zero_shl, Nat.or_zero], fun _ _ _ => rfl,
      fun p hp => by rw [hN.f _ (by omega)]; exact (zero_shl d).symm, fun m => by show _ = _ ||| 0 <<< d; rw [zero_shl, Nat.or_zero],
      by show _ = _ ||| 0 <<< l.length; rw [zero_shl, Nat.or_zero], fun _ _ _ => rfl, fun p hp => by rw [hN.g _ (by omega)]; exact (zero_shl _).symm⟩
  have := bes_mkL m 0 st0 (mkN l) h0 hm (by show 1 + lvL m + d ≤ 1024; omega)
  have e : mkN (l ++ m) = mkL m (0 + l.length) (mkN l) := mkL_append l m 0 st0
  rw [e]; exact this
/-- The places of the two, and of both. -/
structure Tri (d : Nat) (X Y Z : List Int) : Prop where
  z1 : (0 : Int) ∈ Z ↔ (0 : Int) ∈ X
  z2 : (0 : Int) ∈ Z ↔ (0 : Int) ∈ Y
  low : ∀ p : Nat, 1 ≤ p → p ≤ d → ((p : Int) ∈ Z ↔ (p : Int) ∈ X)
  up : ∀ p : Nat, 1 ≤ p → (((p + d : Nat) : Int) ∈ Z ↔ (p : Int) ∈ Y)
  nx : ∀ p : Nat, (p : Int) ∈ X → p ≤ d
theorem tri_start (d : Nat) : Tri d [0] [0] [0] :=
  ⟨Iff.rfl, Iff.rfl, fun p _ _ => Iff.rfl, fun p h => by simp; omega, fun p h => by simp at h; omega⟩
/-- By what follows of a shared mask: `F` of a place. -/
theorem tri_ex {d : Nat} {X Y Z : List Int} (h : Tri d X Y Z) (F G H : Nat → Bool) (h0 : H 0 = (F 0 || G 0)) (hl : ∀ p, 1 ≤ p → p ≤ d → H p = F p) (hu : ∀ p, 1 ≤ p → H (p + d) = G p) :
    (∃ v ∈ Z, 0 ≤ v ∧ H v.toNat = true) ↔ ((∃ v ∈ X, 0 ≤ v ∧ F v.toNat = true) ∨ ∃ v ∈ Y, 0 ≤ v ∧ G v.toNat = true) := by
  constructor
  · rintro ⟨v, hv, hp, hH⟩
    obtain ⟨p, rfl⟩ := Int.eq_ofNat_of_zero_le hp
    simp only [Int.toNat_natCast] at hH
    by_cases e0 : p = 0
    · subst e0
      rw [h0, Bool.or_eq_true] at hH
      rcases hH with hH | hH
      · exact .inl ⟨0, h.z1.1 hv, Int.le_refl _, hH⟩
      · exact .inr ⟨0, h.z2.1 hv, Int.le_refl _, hH⟩
    · by_cases e1 : p ≤ d
      · rw [hl p (by omega) e1] at hH
        exact .inl ⟨(p : Int), (h.low p (by omega) e1).1 hv, Int.natCast_nonneg _, by simpa using hH⟩
      · obtain ⟨q, rfl⟩ : ∃ q, p = q + d := ⟨p - d, by omega⟩
        rw [hu q (by omega)] at hH
        exact .inr ⟨(q : Int), (h.up q (by omega)).1 hv, Int.natCast_nonneg _, by simpa using hH⟩
  · rintro (⟨v, hv, hp, hF⟩ | ⟨v, hv, hp, hF⟩)
    · obtain ⟨p, rfl⟩ := Int.eq_ofNat_of_zero_le hp
      simp only [Int.toNat_natCast] at hF
      have hd := h.nx p hv
      by_cases e0 : p = 0
      · subst e0
        exact ⟨0, h.z1.2 hv, Int.le_refl _, by show H 0 = true; rw [h0, hF]; rfl⟩
      · exact ⟨(p : Int), (h.low p (by omega) hd).2 hv, Int.natCast_nonneg _, by simp only [Int.toNat_natCast]; rw [hl p (by omega) hd]; exact hF⟩
    · obtain ⟨p, rfl⟩ := Int.eq_ofNat_of_zero_le hp
      simp only [Int.toNat_natCast] at hF
      by_cases e0 : p = 0
      · subst e0
        exact ⟨0, h.z2.2 hv, Int.le_refl _, by show H 0 = true; rw [h0, hF]; simp⟩
      · exact ⟨((p + d : Nat) : Int), (h.up p (by omega)).2 hv, Int.natCast_nonneg _, by simp only [Int.toNat_natCast]; rw [hu p (by omega)]; exact hF⟩
theorem shl_bit (x d j : Nat) : (x <<< d).testBit (j + d) = x.testBit j := by
  rw [Nat.testBit_shiftLeft, Nat.add_sub_cancel]
  simp
theorem shl_bit_low {n x d j : Nat} (h : Rg n x) (hj : j ≤ d) : (x <<< d).testBit j = false := by
  rw [Nat.testBit_shiftLeft]
  by_cases e : j = d
  · subst e; simp [h.not0]
  · have : ¬ d ≤ j := by omega
    simp [this]
theorem Rg.far {n x j : Nat} (h : Rg n x) (hj : n ≤ j) : x.testBit j = false := by
  cases hb : x.testBit j with
  | false => rfl
  | true => have := h j hb; omega
theorem tri_tells {d b : Nat} {a s t : St} (h : Bes d b a s t) {X Y Z : List Int} (hT : Tri d X Y Z) : tellsU t Z = tellsU a X ||| tellsU s Y <<< b := by
  apply bit_ext
  intro j
  rw [Nat.testBit_or, Bool.or_eq_true, tellsU_bit, tellsU_bit]
  rw [tri_ex hT (fun p => (a.tells p).testBit j) (fun p => (s.tells p <<< b).testBit j) (fun p => (t.tells p).testBit j) (by simp only [h.l0, Nat.testBit_or]) (fun p h1 h2 => by simp only [h.tlow p h1 h2]) (fun p h1 => by simp only [h.tup p h1])]
  refine or_congr Iff.rfl ?_
  by_cases hj : b ≤ j
  · obtain ⟨i, rfl⟩ : ∃ i, j = i + b := ⟨j - b, by omega⟩
    simp only [shl_bit]
    rw [tellsU_bit]
  · simp [Nat.testBit_shiftLeft, hj]
theorem step_bit (se : Bool) (s : St) (x : List Int) (m : Int) (j : Nat) : (stepM se s x m).testBit j = (((nextU s x).testBit j && (takersI s m).testBit j) || (se && decide (j = 0))) := by
  unfold stepM
  have e1 : Nat.testBit 1 j = decide (j = 0) := by
    cases j with
    | zero => rfl
    | succ j => simp [Nat.testBit_succ]
  cases se <;> simp [Nat.testBit_or, Nat.testBit_and, e1]
theorem next_low {s : St} (h : Nxt s) (x : List Int) {j : Nat} (hj : (nextU s x).testBit j = true) : 1 ≤ j ∧ j < s.count := by
  obtain ⟨p, _, _, h2⟩ := (nextU_bit s x j).1 hj
  exact h.n _ j h2
theorem bool_iff {a b : Bool} (h : a = true ↔ b = true) : a = b := by cases a <;> cases b <;> simp_all
theorem tri_step {d b : Nat} {a s t : St} (h : Bes d b a s t) (ha : Nxt a) (hs : Nxt s) (ht : Nxt t) (hc : a.count = d + 1) (hn : s.count + d ≤ 1024) {X Y Z : List Int} (hT : Tri d X Y Z) (se : Bool) (m : Int) :
    Tri d (posI (stepM se a X m)) (posI (stepM se s Y m)) (posI (stepM se t Z m)) := by
  have mem : ∀ (s : St) (x : List Int) (p : Nat), (p : Int) ∈ posI (stepM se s x m) ↔ inM (stepM se s x m) p = true := by
    intro s x p
    rw [mem_posI]
    constructor
    · rintro ⟨q, e, h⟩; obtain rfl : p = q := by omega
      exact h
    · intro h; exact ⟨p, rfl, h⟩
  have hz : ∀ (s : St), Nxt s → ∀ x : List Int, (0 : Int) ∈ posI (stepM se s x m) ↔ se = true := by
    intro s hs x
    have := mem s x 0
    rw [show ((0 : Nat) : Int) = 0 from rfl] at this
    rw [this]
    unfold inM
    rw [step_bit]
    have e : (nextU s x).testBit 0 = false := by
      cases hb : (nextU s x).testBit 0 with
      | false => rfl
      | true => have := (next_low hs x hb).1; omega
    simp [e]
  have hlow : ∀ j, 1 ≤ j → j ≤ d → (nextU t Z).testBit j = (nextU a X).testBit j := by
    intro j h1 h2
    apply bool_iff
    rw [nextU_bit, nextU_bit]
    rw [tri_ex hT (fun p => (a.next p).testBit j) (fun p => (s.next p <<< d).testBit j) (fun p => (t.next p).testBit j) (by simp only [h.n0, Nat.testBit_or]) (fun p h1 h2 => by simp only [h.low p h1 h2]) (fun p h1 => by simp only [h.up p h1])]
    constructor
    · rintro (h | ⟨v, _, _, h⟩)
      · exact h
      · rw [shl_bit_low (hs.n _) h2] at h; cases h
    · exact .inl
  have hup : ∀ j, 1 ≤ j → (nextU t Z).testBit (j + d) = (nextU s Y).testBit j := by
    intro j h1
    apply bool_iff
    rw [nextU_bit, nextU_bit]
    rw [tri_ex hT (fun p => (a.next p).testBit (j + d)) (fun p => (s.next p <<< d).testBit (j + d)) (fun p => (t.next p).testBit (j + d)) (by simp only [h.n0, Nat.testBit_or]) (fun p h1 h2 => by simp only [h.low p h1 h2]) (fun p h1 => by simp only [h.up p h1])]
    simp only [shl_bit]
    constructor
    · rintro (⟨v, _, _, h⟩ | h)
      · rw [(ha.n _).far (by omega)] at h; cases h
      · exact h
    · exact .inr
  have tk : ∀ (s : St), Nxt s → Rg s.count (takersI s m) := by
    intro s hs
    unfold takersI
    split
    · exact hs.t _
    · exact rg_zero _
  have te : takersI t m = takersI a m ||| takersI s m <<< d := by
    unfold takersI
    split
    · exact h.tk _
    · rw [zero_shl]; rfl
  have tlow : ∀ j, 1 ≤ j → j ≤ d → (takersI t m).testBit j = (takersI a m).testBit j := by
    intro j _ h2
    rw [te, Nat.testBit_or, shl_bit_low (tk s hs) h2, Bool.or_false]
  have tup : ∀ j, 1 ≤ j → (takersI t m).testBit (j + d) = (takersI s m).testBit j := by
    intro j h1
    rw [te, Nat.testBit_or, shl_bit, (tk a ha).far (by omega), Bool.false_or]
  refine ⟨(hz t ht Z).trans (hz a ha X).symm, (hz t ht Z).trans (hz s hs Y).symm, fun p h1 h2 => ?_, fun p h1 => ?_, fun p hp => ?_⟩
  · rw [mem, mem]
    unfold inM
    rw [step_bit, step_bit, hlow p h1 h2, tlow p h1 h2]
  · rw [mem, mem]
    unfold inM
    rw [step_bit, step_bit, hup p h1, tup p h1]
    have e1 : decide (p + d = 0) = false := by simp; omega
    have e2 : decide (p = 0) = false := by simp; omega
    rw [e1, e2]
    simp only [Bool.and_false, Bool.or_false]
    cases hb : (nextU s Y).testBit p with
    | false => simp
    | true =>
      have := (next_low hs Y hb).2
      have a1 : p + d < 1024 := by omega
      have a2 : p < 1024 := by omega
      simp [a1, a2]
  · rw [mem] at hp
    unfold inM at hp
    rw [step_bit] at hp
    simp only [Bool.and_eq_true, Bool.or_eq_true, decide_eq_true_eq] at hp
    rcases hp.2 with ⟨h1, _⟩ | ⟨_, h1⟩
    · have := (next_low ha X h1).2; omega
    · omega
/-- The set behind symbols. -/
def runI (se : Bool) (s : St) (zs : List Int) : List Int := zs.foldl (fun x m => posI (stepM se s x m)) [0]
theorem run_take (se : Bool) (s : St) {zs : List Int} {i : Nat} {m : Int} (h : zs[i]? = some m) : runI se s (zs.take (i + 1)) = posI (stepM se s (runI se s (zs.take i)) m) := by
  unfold runI
  rw [List.take_add_one, h, Option.toList_some, List.foldl_append]
  simp only [List.foldl_cons, List.foldl_nil]
theorem run_len (se : Bool) (s : St) (zs : List Int) : (runI se s zs).length ≤ 1024 := by
  unfold runI
  rcases List.eq_nil_or_concat zs with rfl | ⟨r, m, rfl⟩
  · simp only [List.foldl_nil, List.length_cons, List.length_nil]; omega
  · rw [List.concat_eq_append, List.foldl_append]
    simp only [List.foldl_cons, List.foldl_nil]
    exact posI_len _
/-- Both together, behind any symbols. -/
theorem tri_run {d b : Nat} {a s t : St} (h : Bes d b a s t) (ha : Nxt a) (hs : Nxt s) (ht : Nxt t) (hc : a.count = d + 1) (hn : s.count + d ≤ 1024) (se : Bool) : ∀ (zs : List Int) (X Y Z : List Int), Tri d X Y Z →
    Tri d (zs.foldl (fun x m => posI (stepM se a x m)) X) (zs.foldl (fun x m => posI (stepM se s x m)) Y) (zs.foldl (fun x m => posI (stepM se t x m)) Z)
  | [], _, _, _, hT => by simp only [List.foldl_nil]; exact hT
  | m :: r, X, Y, Z, hT => by
    have h1 := tri_step h ha hs ht hc hn hT se m
    simp only [List.foldl_cons]
    exact tri_run h ha hs ht hc hn se r _ _ _ h1
structure BFact (se : Bool) (l m : List E) (zs : List Int) : Prop where
  tells : tellsU (mkN (l ++ m)) (runI se (mkN (l ++ m)) zs) = tellsU (mkN l) (runI se (mkN l) zs) ||| tellsU (mkN m) (runI se (mkN m) zs) <<< l.length
  count : (mkN (l ++ m)).count + 1 = (mkN l).count + (mkN m).count
  s1 : tellsU (mkN l) (runI se (mkN l) zs) < 2 ^ l.length
  s2 : tellsU (mkN m) (runI se (mkN m) zs) < 2 ^ m.length
  c1 : (mkN l).count ≤ 100
  c2 : (mkN m).count ≤ 100
theorem bfact (se : Bool) (l m : List E) (zs : List Int) (hl : l.all rightE = true) (hm : m.all rightE = true) (hl80 : lvL l ≤ 80) (hm80 : lvL m ≤ 80) : BFact se l m zs := by
  have c1 : (mkN l).count = 1 + lvL l := mkL_count l 0 st0 hl
  have c2 : (mkN m).count = 1 + lvL m := mkL_count m 0 st0 hm
  have hb := bes_mkN l m hm (d := lvL l) (by omega) (by omega)
  have ht := tri_run hb (nxt_mkN l) (nxt_mkN m) (nxt_mkN (l ++ m)) (by omega) (by omega) se zs _ _ _ (tri_start _)
  exact ⟨tri_tells hb ht, by have := hb.cnt; omega, mkN_small l _, mkN_small m _, by omega, by omega⟩
end Go.Proofs.YtlbcicoppglgjaaDoor
