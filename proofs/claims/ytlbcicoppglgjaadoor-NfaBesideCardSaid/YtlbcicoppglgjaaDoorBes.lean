/-
  Two automata side by side: the second's places lie shifted behind the first's. No program.
-/
import Derived.Test.YtlbcicoppglgjaaDoorNew
namespace Go.Proofs.YtlbcicoppglgjaaDoor
open Go.RowKit Go.Shelf Go.Lib

/-- `t` is `s`, shifted by `d` places, beside `a`, whose expressions come before bit `b`. -/
structure Bes (d b : Nat) (a s t : St) : Prop where
  cnt : t.count = s.count + d
  pos : 1 ≤ s.count
  n0 : t.next 0 = a.next 0 ||| s.next 0 <<< d
  low : ∀ p, 1 ≤ p → p ≤ d → t.next p = a.next p
  up : ∀ p, 1 ≤ p → t.next (p + d) = s.next p <<< d
  tk : ∀ m, t.takers m = a.takers m ||| s.takers m <<< d
  l0 : t.tells 0 = a.tells 0 ||| s.tells 0 <<< b
  tlow : ∀ p, 1 ≤ p → p ≤ d → t.tells p = a.tells p
  tup : ∀ p, 1 ≤ p → t.tells (p + d) = s.tells p <<< b
/-- The places of a mask lie from 1 to below a bound. -/
def Rg (n x : Nat) : Prop := ∀ j, x.testBit j = true → 1 ≤ j ∧ j < n
theorem rg_zero (n : Nat) : Rg n 0 := fun j h => by simp at h
theorem Rg.or {n x y : Nat} (hx : Rg n x) (hy : Rg n y) : Rg n (x ||| y) := fun j h => by
  rw [Nat.testBit_or, Bool.or_eq_true] at h
  exact h.elim (hx j) (hy j)
theorem Rg.mono {n m x : Nat} (h : Rg n x) (hm : n ≤ m) : Rg m x := fun j hj => ⟨(h j hj).1, Nat.lt_of_lt_of_le (h j hj).2 hm⟩
theorem Rg.not0 {n x : Nat} (h : Rg n x) : x.testBit 0 = false := by
  cases h0 : x.testBit 0 with
  | false => rfl
  | true => have := (h 0 h0).1; omega
theorem inM_not {x p : Nat} (h : x.testBit p = false) : inM x p = false := by unfold inM; simp [h]
theorem inM_shl0 {n d x : Nat} (h : Rg n x) : inM (x <<< d) 0 = false := by
  refine inM_not ?_
  rw [Nat.testBit_shiftLeft]
  cases d with
  | zero => simp [h.not0]
  | succ d => simp
theorem inM_shl_low {n d x p : Nat} (h : Rg n x) (hp : p ≤ d) : inM (x <<< d) p = false := by
  refine inM_not ?_
  rw [Nat.testBit_shiftLeft]
  by_cases e : p = d
  · subst e; simp [h.not0]
  · have : ¬ d ≤ p := by omega
    simp [this]
theorem inM_shl_up {n d x p : Nat} (h : Rg n x) (hn : n + d ≤ 1024) : inM (x <<< d) (p + d) = inM x p := by
  unfold inM
  rw [Nat.testBit_shiftLeft]
  have e1 : decide (d ≤ p + d) = true := by simp
  rw [e1, Nat.add_sub_cancel, Bool.true_and]
  cases hb : x.testBit p with
  | false => simp
  | true =>
    have := h p hb
    have a1 : p + d < 1024 := by omega
    have a2 : p < 1024 := by omega
    simp [a1, a2]
theorem Bes.link {d b n : Nat} {a s t : St} (h : Bes d b a s t) {x : Nat} (y : Nat) (hx : Rg n x) (hn : n + d ≤ 1024) : Bes d b a (s.link x y) (t.link (x <<< d) (y <<< d)) where
  cnt := h.cnt
  pos := h.pos
  n0 := by simp only [St.link, inM_shl0 hx, inM_not hx.not0]; exact h.n0
  low p h1 h2 := by simp only [St.link, inM_shl_low hx h2]; exact h.low p h1 h2
  up p h1 := by
    simp only [St.link, inM_shl_up hx hn]
    cases inM x p with
    | false => exact h.up p h1
    | true => simp only [if_true]; rw [h.up p h1, Nat.shiftLeft_or_distrib]
  tk := h.tk
  l0 := h.l0
  tlow := h.tlow
  tup := h.tup
theorem Bes.link1 {d b : Nat} {a s t : St} (h : Bes d b a s t) (y : Nat) : Bes d b a (s.link 1 y) (t.link 1 (y <<< d)) where
  cnt := h.cnt
  pos := h.pos
  n0 := by
    simp only [St.link, inM_one, decide_true, if_true]
    rw [h.n0, Nat.shiftLeft_or_distrib, Nat.or_assoc]
  low p h1 h2 := by
    have : decide (p = 0) = false := by simp; omega
    simp only [St.link, inM_one, this]; exact h.low p h1 h2
  up p h1 := by
    have e1 : decide (p = 0) = false := by simp; omega
    have e2 : decide (p + d = 0) = false := by simp; omega
    simp only [St.link, inM_one, e1, e2]; exact h.up p h1
  tk := h.tk
  l0 := h.l0
  tlow := h.tlow
  tup := h.tup
theorem Bes.tell {d b n : Nat} {a s t : St} (h : Bes d b a s t) {x : Nat} (y : Nat) (hx : Rg n x) (hn : n + d ≤ 1024) : Bes d b a (s.tell x y) (t.tell (x <<< d) (y <<< b)) where
  cnt := h.cnt
  pos := h.pos
  n0 := h.n0
  low := h.low
  up := h.up
  tk := h.tk
  l0 := by simp only [St.tell, inM_shl0 hx, inM_not hx.not0]; exact h.l0
  tlow p h1 h2 := by simp only [St.tell, inM_shl_low hx h2]; exact h.tlow p h1 h2
  tup p h1 := by
    simp only [St.tell, inM_shl_up hx hn]
    cases inM x p with
    | false => exact h.tup p h1
    | true => simp only [if_true]; rw [h.tup p h1, Nat.shiftLeft_or_distrib]
theorem Bes.tell1 {d b : Nat} {a s t : St} (h : Bes d b a s t) (y : Nat) : Bes d b a (s.tell 1 y) (t.tell 1 (y <<< b)) where
  cnt := h.cnt
  pos := h.pos
  n0 := h.n0
  low := h.low
  up := h.up
  tk := h.tk
  l0 := by
    simp only [St.tell, inM_one, decide_true, if_true]
    rw [h.l0, Nat.shiftLeft_or_distrib, Nat.or_assoc]
  tlow p h1 h2 := by
    have : decide (p = 0) = false := by simp; omega
    simp only [St.tell, inM_one, this]; exact h.tlow p h1 h2
  tup p h1 := by
    have e1 : decide (p = 0) = false := by simp; omega
    have e2 : decide (p + d = 0) = false := by simp; omega
    simp only [St.tell, inM_one, e1, e2]; exact h.tup p h1
theorem pow_shl (n d : Nat) : 2 ^ (n + d) = 2 ^ n <<< d := by rw [Nat.shiftLeft_eq, Nat.pow_add]
theorem Bes.leaf {d b : Nat} {a s t : St} (h : Bes d b a s t) (k c : Int) : Bes d b a (s.leaf k c) (t.leaf k c) where
  cnt := by simp only [St.leaf]; rw [h.cnt]; omega
  pos := by simp only [St.leaf]; omega
  n0 := h.n0
  low := h.low
  up := h.up
  tk m := by
    simp only [St.leaf]
    cases (decide (m ≤ 36) && takesE k c m) with
    | false => exact h.tk m
    | true => simp only [if_true]; rw [h.tk, h.cnt, pow_shl, Nat.shiftLeft_or_distrib, Nat.or_assoc]
  l0 := h.l0
  tlow := h.tlow
  tup := h.tup
/-- What a part is known for, shifted. -/
def Sp.shl (a : Sp) (d : Nat) : Sp := ⟨a.first <<< d, a.last <<< d, a.empty⟩
def Sp.Rg (n : Nat) (a : Sp) : Prop := YtlbcicoppglgjaaDoor.Rg n a.first ∧ YtlbcicoppglgjaaDoor.Rg n a.last
theorem Sp.Rg.mono {n m : Nat} {a : Sp} (h : a.Rg n) (hm : n ≤ m) : a.Rg m := ⟨YtlbcicoppglgjaaDoor.Rg.mono h.1 hm, YtlbcicoppglgjaaDoor.Rg.mono h.2 hm⟩
theorem rg_pow {n : Nat} (hn : 1 ≤ n) : Rg (n + 1) (2 ^ n) := fun j h => by
  rw [Nat.testBit_two_pow] at h
  simp at h
  omega
mutual
theorem mono_readE : ∀ (e : E) (s : St), s.count ≤ (readE e s).1.count
  | .mk k c ks, s => by
    unfold readE
    split
    · exact Nat.le_refl _
    · split
      · exact mono_seqL ks s _
      · split
        · exact mono_altL ks s _
        · split
          · exact mono_headL ks s
          · split
            · exact mono_headL ks s
            · split
              · exact mono_headL ks s
              · exact Nat.le_succ _
theorem mono_headL : ∀ (ks : List E) (s : St), s.count ≤ (readE.headL ks s).1.count
  | [], _ => Nat.le_refl _
  | e :: _, s => mono_readE e s
theorem mono_seqL : ∀ (ks : List E) (s : St) (a : Sp), s.count ≤ (readE.seqL ks s a).1.count
  | [], _, _ => Nat.le_refl _
  | e :: r, s, a => by
    unfold readE.seqL
    dsimp only
    exact Nat.le_trans (mono_readE e s) (mono_seqL r ((readE e s).1.link a.last (readE e s).2.first) _)
theorem mono_altL : ∀ (ks : List E) (s : St) (a : Sp), s.count ≤ (readE.altL ks s a).1.count
  | [], _, _ => Nat.le_refl _
  | e :: r, s, a => by
    unfold readE.altL
    exact Nat.le_trans (mono_readE e s) (mono_altL r _ _)
end
mutual
theorem rg_readE : ∀ (e : E) (s : St), 1 ≤ s.count → (readE e s).2.Rg (readE e s).1.count
  | .mk k c ks, s, h => by
    unfold readE
    split
    · exact ⟨rg_zero _, rg_zero _⟩
    · split
      · exact rg_seqL ks s _ h ⟨rg_zero _, rg_zero _⟩
      · split
        · exact rg_altL ks s _ h ⟨rg_zero _, rg_zero _⟩
        · split
          · exact rg_headL ks s h
          · split
            · exact rg_headL ks s h
            · split
              · exact rg_headL ks s h
              · exact ⟨rg_pow h, rg_pow h⟩
theorem rg_headL : ∀ (ks : List E) (s : St), 1 ≤ s.count → (readE.headL ks s).2.Rg (readE.headL ks s).1.count
  | [], _, _ => ⟨rg_zero _, rg_zero _⟩
  | e :: _, s, h => rg_readE e s h
theorem rg_seqL : ∀ (ks : List E) (s : St) (a : Sp), 1 ≤ s.count → a.Rg s.count → (readE.seqL ks s a).2.Rg (readE.seqL ks s a).1.count
  | [], _, _, _, ha => ha
  | e :: r, s, a, h, ha => by
    unfold readE.seqL
    have hm := mono_readE e s
    have hq := rg_readE e s h
    have ha' := ha.mono hm
    refine rg_seqL r _ _ (Nat.le_trans h hm) ⟨?_, ?_⟩
    · dsimp only
      split
      · exact ha'.1.or hq.1
      · exact ha'.1
    · dsimp only
      split
      · exact hq.2.or ha'.2
      · exact hq.2
theorem rg_altL : ∀ (ks : List E) (s : St) (a : Sp), 1 ≤ s.count → a.Rg s.count → (readE.altL ks s a).2.Rg (readE.altL ks s a).1.count
  | [], _, _, _, ha => ha
  | e :: r, s, a, h, ha => by
    unfold readE.altL
    have hm := mono_readE e s
    have hq := rg_readE e s h
    have ha' := ha.mono hm
    exact rg_altL r _ _ (Nat.le_trans h hm) ⟨ha'.1.or hq.1, ha'.2.or hq.2⟩
end
theorem zero_shl (d : Nat) : 0 <<< d = 0 := Nat.zero_shiftLeft d
mutual
theorem bes_readE {d b : Nat} {a : St} : ∀ (e : E) (s t : St), Bes d b a s t → (readE e s).1.count + d ≤ 1024 → Bes d b a (readE e s).1 (readE e t).1 ∧ (readE e t).2 = (readE e s).2.shl d
  | .mk k c ks, s, t, h => by
    unfold readE
    split
    · exact fun _ => ⟨h, by simp [Sp.shl]⟩
    · split
      · exact fun hn => by
          have := bes_seqL ks s t ⟨0, 0, true⟩ h ⟨rg_zero _, rg_zero _⟩ hn
          simpa [Sp.shl, zero_shl] using this
      · split
        · exact fun hn => by
            have := bes_altL ks s t ⟨0, 0, false⟩ h ⟨rg_zero _, rg_zero _⟩ hn
            simpa [Sp.shl, zero_shl] using this
        · split
          · exact fun hn => by
              obtain ⟨h1, h2⟩ := bes_headL ks s t h hn
              dsimp only
              rw [h2]
              exact ⟨h1.link _ (rg_headL ks s h.pos).2 hn, rfl⟩
          · split
            · exact fun hn => by
                obtain ⟨h1, h2⟩ := bes_headL ks s t h hn
                dsimp only
                rw [h2]
                exact ⟨h1.link _ (rg_headL ks s h.pos).2 hn, rfl⟩
            · split
              · exact fun hn => by
                  obtain ⟨h1, h2⟩ := bes_headL ks s t h hn
                  dsimp only
                  rw [h2]
                  exact ⟨h1, rfl⟩
              · exact fun _ => ⟨h.leaf k c, by rw [h.cnt, pow_shl]; rfl⟩
theorem bes_headL {d b : Nat} {a : St} : ∀ (ks : List E) (s t : St), Bes d b a s t → (readE.headL ks s).1.count + d ≤ 1024 → Bes d b a (readE.headL ks s).1 (readE.headL ks t).1 ∧ (readE.headL ks t).2 = (readE.headL ks s).2.shl d
  | [], _, _, h, _ => ⟨h, by simp [readE.headL, Sp.shl]⟩
  | e :: _, s, t, h, hn => bes_readE e s t h hn
theorem bes_seqL {d b : Nat} {a : St} : ∀ (ks : List E) (s t : St) (p : Sp), Bes d b a s t → p.Rg s.count → (readE.seqL ks s p).1.count + d ≤ 1024 →
    Bes d b a (readE.seqL ks s p).1 (readE.seqL ks t (p.shl d)).1 ∧ (readE.seqL ks t (p.shl d)).2 = (readE.seqL ks s p).2.shl d
  | [], _, _, _, h, _, _ => ⟨h, rfl⟩
  | e :: r, s, t, p, h, hp, hn => by
    unfold readE.seqL at hn ⊢
    dsimp only at hn ⊢
    have hm := mono_readE e s
    have hm2 := mono_seqL r ((readE e s).1.link p.last (readE e s).2.first) ⟨if p.empty then p.first ||| (readE e s).2.first else p.first, if (readE e s).2.empty then (readE e s).2.last ||| p.last else (readE e s).2.last, p.empty && (readE e s).2.empty⟩
    have hc : ((readE e s).1.link p.last (readE e s).2.first).count = (readE e s).1.count := rfl
    have hq := rg_readE e s h.pos
    have hp' := hp.mono hm
    obtain ⟨h1, h2⟩ := bes_readE e s t h (by omega)
    rw [h2]
    have e1 : (⟨if (p.shl d).empty then (p.shl d).first ||| ((readE e s).2.shl d).first else (p.shl d).first, if ((readE e s).2.shl d).empty then ((readE e s).2.shl d).last ||| (p.shl d).last else ((readE e s).2.shl d).last, (p.shl d).empty && ((readE e s).2.shl d).empty⟩ : Sp)
        = Sp.shl ⟨if p.empty then p.first ||| (readE e s).2.first else p.first, if (readE e s).2.empty then (readE e s).2.last ||| p.last else (readE e s).2.last, p.empty && (readE e s).2.empty⟩ d := by
      unfold Sp.shl
      dsimp only
      cases p.empty <;> cases (readE e s).2.empty <;> simp [Nat.shiftLeft_or_distrib]
    rw [e1]
    refine bes_seqL r _ _ _ (h1.link _ hp'.2 (by omega)) ⟨?_, ?_⟩ hn
    · dsimp only
      split
      · exact hp'.1.or hq.1
      · exact hp'.1
    · dsimp only
      split
      · exact hq.2.or hp'.2
      · exact hq.2
theorem bes_altL {d b : Nat} {a : St} : ∀ (ks : List E) (s t : St) (p : Sp), Bes d b a s t → p.Rg s.count → (readE.altL ks s p).1.count + d ≤ 1024 →
    Bes d b a (readE.altL ks s p).1 (readE.altL ks t (p.shl d)).1 ∧ (readE.altL ks t (p.shl d)).2 = (readE.altL ks s p).2.shl d
  | [], _, _, _, h, _, _ => ⟨h, rfl⟩
  | e :: r, s, t, p, h, hp, hn => by
    unfold readE.altL at hn ⊢
    dsimp only at hn ⊢
    have hm := mono_readE e s
    have hm2 := mono_altL r (readE e s).1 ⟨p.first ||| (readE e s).2.first, p.last ||| (readE e s).2.last, p.empty || (readE e s).2.empty⟩
    have hq := rg_readE e s h.pos
    have hp' := hp.mono hm
    obtain ⟨h1, h2⟩ := bes_readE e s t h (by omega)
    rw [h2]
    have e1 : (⟨(p.shl d).first ||| ((readE e s).2.shl d).first, (p.shl d).last ||| ((readE e s).2.shl d).last, (p.shl d).empty || ((readE e s).2.shl d).empty⟩ : Sp)
        = Sp.shl ⟨p.first ||| (readE e s).2.first, p.last ||| (readE e s).2.last, p.empty || (readE e s).2.empty⟩ d := by
      unfold Sp.shl
      simp [Nat.shiftLeft_or_distrib]
    rw [e1]
    exact bes_altL r _ _ _ h1 ⟨hp'.1.or hq.1, hp'.2.or hq.2⟩ hn
end
theorem bes_addE {d b : Nat} {a s t : St} (e : E) (i : Nat) (h : Bes d b a s t) (hn : (readE e s).1.count + d ≤ 1024) : Bes d b a (addE s e (2 ^ i)) (addE t e (2 ^ (i + b))) := by
  obtain ⟨h1, h2⟩ := bes_readE e s t h hn
  have hq := rg_readE e s h.pos
  unfold addE
  dsimp only
  rw [h2, pow_shl]
  have h3 : Bes d b a (((readE e s).1.link 1 (readE e s).2.first).tell (readE e s).2.last (2 ^ i)) (((readE e t).1.link 1 ((readE e s).2.shl d).first).tell ((readE e s).2.shl d).last (2 ^ i <<< b)) := (h1.link1 _).tell _ hq.2 hn
  have e1 : ((readE e s).2.shl d).empty = (readE e s).2.empty := rfl
  rw [e1]
  cases (readE e s).2.empty with
  | false => exact h3
  | true => exact h3.tell1 _
theorem bes_mkL {d b : Nat} {a : St} : ∀ (l : List E) (i : Nat) (s t : St), Bes d b a s t → l.all rightE = true → s.count + lvL l + d ≤ 1024 → Bes d b a (mkL l i s) (mkL l (i + b) t)
  | [], _, _, _, h, _, _ => h
  | e :: r, i, s, t, h, ha, hn => by
    simp only [List.all_cons, Bool.and_eq_true] at ha
    have e2 : lvL (e :: r) = leavesE e + lvL r := rfl
    have hc := leaves_right ha.1 s
    have hc2 := addE_count ha.1 s (2 ^ i)
    have := bes_mkL r (i + 1) _ _ (bes_addE e i h (by omega)) ha.2 (by omega)
    rw [show i + 1 + b = i + b + 1 by omega] at this
    exact this
end Go.Proofs.YtlbcicoppglgjaaDoor
