/-
  What is written is read again, whatever follows.
-/
import Derived.Test.YtplnkmojkdbbnaaWri
import Derived.Test.YtplnkmojkdbbnaaBgn
namespace Go.Proofs.Ytplnkmojkdbbnaa
open Go.RowKit Go.Shelf Go.Lib Go.Maps

theorem pOk_facts {j x : Nat} (h : pOk j x = true) : blkB x = false ∧ x ≠ 47 ∧ x ≠ 62 ∧ x ≠ 61 ∧ lowN x = x := by
  have hx : (97 ≤ x ∧ x ≤ 122) ∨ (48 ≤ x ∧ x ≤ 57) := by
    unfold pOk smB diB at h
    simp at h
    omega
  refine ⟨?_, by omega, by omega, by omega, ?_⟩
  · simp [blkB]
    omega
  · unfold lowN
    rw [if_neg (by omega)]
theorem pOk_first {x : Nat} (h : pOk 0 x = true) : 97 ≤ x ∧ x ≤ 122 := by
  unfold pOk smB at h
  simpa using h
def plainC (x : Nat) : Prop := blkB x = false ∧ x ≠ 47 ∧ x ≠ 62 ∧ x ≠ 61 ∧ lowN x = x
theorem run_st0 (N k : Nat) : ∀ (r tn t : List Nat), (∀ x ∈ r, plainC x) → refGo N k ⟨0, false, tn, [], [], 0, []⟩ (r ++ t) = refGo N k ⟨0, false, tn ++ r, [], [], 0, []⟩ t
  | [], tn, t, _ => by simp
  | x :: r, tn, t, h => by
    obtain ⟨h1, h2, h3, _, h5⟩ := h x (List.mem_cons_self ..)
    rw [List.cons_append, ref_on (u := ⟨0, false, tn ++ [x], [], [], 0, []⟩) (by simp [refStep, h1, h2, h3, h5]), run_st0 N k r _ t (fun y hy => h y (List.mem_cons_of_mem _ hy))]
    simp
theorem run_st2 (N k : Nat) (tn vl : List Nat) (q : Nat) (l0 : List AT) : ∀ (r nm t : List Nat), (∀ x ∈ r, plainC x) → refGo N k ⟨2, false, tn, nm, vl, q, l0⟩ (r ++ t) = refGo N k ⟨2, false, tn, nm ++ r, vl, q, l0⟩ t
  | [], nm, t, _ => by simp
  | x :: r, nm, t, h => by
    obtain ⟨h1, h2, h3, h4, h5⟩ := h x (List.mem_cons_self ..)
    rw [List.cons_append, ref_on (u := ⟨2, false, tn, nm ++ [x], vl, q, l0⟩) (by simp [refStep, h1, h2, h3, h4, h5]), run_st2 N k tn vl q l0 r _ t (fun y hy => h y (List.mem_cons_of_mem _ hy))]
    simp
theorem run_st6 (N k : Nat) (tn nm : List Nat) (l0 : List AT) : ∀ (r vl t : List Nat), (∀ x ∈ r, x ≠ 34) → refGo N k ⟨6, false, tn, nm, vl, 34, l0⟩ (r ++ t) = refGo N k ⟨6, false, tn, nm, vl ++ r, 34, l0⟩ t
  | [], vl, t, _ => by simp
  | x :: r, vl, t, h => by
    have h1 := h x (List.mem_cons_self ..)
    rw [List.cons_append, ref_on (u := ⟨6, false, tn, nm, vl ++ [x], 34, l0⟩) (by simp [refStep, h1]), run_st6 N k tn nm l0 r _ t (fun y hy => h y (List.mem_cons_of_mem _ hy))]
    simp
theorem pln_cons {l : List Nat} (h : plnB l = true) : ∃ x r, l = x :: r ∧ (97 ≤ x ∧ x ≤ 122) ∧ ∀ y ∈ l, plainC y := by
  obtain ⟨h0, h1⟩ := pln_at h
  cases l with
  | nil => simp at h0
  | cons x r =>
    refine ⟨x, r, rfl, pOk_first (h1 0 x rfl), fun y hy => ?_⟩
    obtain ⟨j, hj, e⟩ := List.getElem_of_mem hy
    exact pOk_facts (h1 j y (by rw [List.getElem?_eq_getElem hj, e]))
theorem run_attr (N k st : Nat) (hst : st = 0 ∨ st = 1) (tn nm0 vl0 : List Nat) (q0 : Nat) (l0 : List AT) (a : AT) (ha : okA a = true) (t : List Nat) :
    refGo N k ⟨st, false, tn, nm0, vl0, q0, l0⟩ (wrA1 a ++ t) = refGo N k ⟨1, false, tn, a.1, a.2, 34, l0 ++ [a]⟩ t := by
  obtain ⟨n, v⟩ := a
  unfold okA at ha
  rw [Bool.and_eq_true] at ha
  obtain ⟨x, r, hn, hx, hp⟩ := pln_cons ha.1
  have hv : ∀ y ∈ v, y ≠ 34 := fun y hy e => by
    subst e
    have := ha.2
    simp [hy] at this
  dsimp only at hn hp
  subst hn
  obtain ⟨h1, h2, h3, _, h5⟩ := hp x (List.mem_cons_self ..)
  have e : wrA1 (x :: r, v) ++ t = 32 :: x :: (r ++ (61 :: 34 :: (v ++ (34 :: t)))) := by
    unfold wrA1
    simp
  rw [e, ref_on (u := ⟨1, false, tn, nm0, vl0, q0, l0⟩) (by rcases hst with rfl | rfl <;> rfl),
    ref_on (u := ⟨2, false, tn, [x], [], q0, l0⟩) (by simp [refStep, h1, h2, h3, h5]),
    run_st2 N k tn [] q0 l0 r [x] _ (fun y hy => hp y (List.mem_cons_of_mem _ hy)),
    ref_on (u := ⟨4, false, tn, [x] ++ r, [], q0, l0⟩) rfl,
    ref_on (u := ⟨6, false, tn, [x] ++ r, [], 34, l0⟩) rfl,
    run_st6 N k tn _ l0 v [] _ hv,
    ref_on (u := ⟨1, false, tn, [x] ++ r, [] ++ v, 34, l0 ++ [([x] ++ r, [] ++ v)]⟩) rfl]
  rfl
theorem run_tail (N k : Nat) (tn : List Nat) (sg : Bool) (t : List Nat) : ∀ (L : List AT) (st : Nat) (nm0 vl0 : List Nat) (q0 : Nat) (l0 : List AT), (st = 0 ∨ st = 1) → (∀ a ∈ L, okA a = true) →
    refGo N k ⟨st, false, tn, nm0, vl0, q0, l0⟩ (wrA L ++ ((if sg then [32, 47] else []) ++ (62 :: t))) = ⟨k, N - t.length, tn, l0 ++ L, sg, true⟩
  | [], st, nm0, vl0, q0, l0, hst, _ => by
    rw [List.append_nil]
    cases sg with
    | true =>
      show refGo N k _ (32 :: 47 :: 62 :: t) = _
      rw [ref_on (u := ⟨1, false, tn, nm0, vl0, q0, l0⟩) (by rcases hst with rfl | rfl <;> rfl), ref_on (u := ⟨1, true, tn, nm0, vl0, q0, l0⟩) rfl]
      exact ref_end (u := ⟨1, true, tn, nm0, vl0, q0, l0⟩) rfl
    | false =>
      show refGo N k _ (62 :: t) = _
      exact ref_end (u := ⟨1, false, tn, nm0, vl0, q0, l0⟩) (by rcases hst with rfl | rfl <;> rfl)
  | a :: L, st, nm0, vl0, q0, l0, hst, h => by
    have e : wrA (a :: L) ++ ((if sg then [32, 47] else []) ++ (62 :: t)) = wrA1 a ++ (wrA L ++ ((if sg then [32, 47] else []) ++ (62 :: t))) := by
      unfold wrA
      simp
    rw [e, run_attr N k st hst tn nm0 vl0 q0 l0 a (h a (List.mem_cons_self ..)), run_tail N k tn sg t L 1 a.1 a.2 34 (l0 ++ [a]) (.inr rfl) (fun b hb => h b (List.mem_cons_of_mem _ hb))]
    simp
/-- What is written is read again. -/
theorem read_written (kd : Nat) (nm : List Nat) (L : List AT) (sg : Bool) (t : List Nat) (hk : kd = 0 ∨ kd = 1) (hn : plnB nm = true) (hL : ∀ a ∈ L, okA a = true) :
    rdT (wrL (kd : Int) nm L sg ++ t) = some ⟨kd, (wrL (kd : Int) nm L sg).length, nm, L, sg, true⟩ := by
  obtain ⟨x, r, e, hx, hp⟩ := pln_cons hn
  have hlt : ltrB x = true := by
    simp [ltrB]
    omega
  have hgo : ∀ N, refGo N kd rs0 (nm ++ (wrA L ++ ((if sg then [32, 47] else []) ++ (62 :: t)))) = ⟨kd, N - t.length, nm, L, sg, true⟩ := fun N => by
    unfold rs0
    rw [run_st0 N kd nm [] _ hp, List.nil_append, run_tail N kd nm sg t L 0 [] [] 0 [] (.inl rfl) hL, List.nil_append]
  obtain ⟨z, hz⟩ : ∃ z, wrA L ++ ((if sg then [32, 47] else []) ++ (62 :: t)) = z := ⟨_, rfl⟩
  have hzl : z.length = (wrA L).length + (if sg then [32, 47] else []).length + 1 + t.length := by
    rw [← hz]
    simp
    omega
  rw [hz] at hgo
  have hw : wrL (kd : Int) nm L sg ++ t = headL (kd : Int) ++ (nm ++ z) := by
    rw [← hz]
    unfold wrL
    simp
  have hlen : (wrL (kd : Int) nm L sg).length = (headL (kd : Int)).length + nm.length + z.length - t.length := by
    rw [hzl]
    unfold wrL
    simp
    omega
  rw [hw, hlen]
  rcases hk with rfl | rfl
  · have hh : headL ((0 : Nat) : Int) = [60] := rfl
    rw [hh]
    have e2 : [60] ++ (nm ++ z) = 60 :: x :: (r ++ z) := by rw [e]; rfl
    have h1 : rdT (60 :: x :: (r ++ z)) = some (refGo ((r ++ z).length + 2) 0 rs0 (x :: (r ++ z))) := by simp [rdT, hlt]
    rw [e2, h1, show x :: (r ++ z) = nm ++ z by rw [e]; rfl, hgo]
    rw [e]
    simp
    omega
  · have hh : headL ((1 : Nat) : Int) = [60, 47] := rfl
    rw [hh]
    have e2 : [60, 47] ++ (nm ++ z) = 60 :: 47 :: (x :: (r ++ z)) := by rw [e]; rfl
    have h1 : rdT (60 :: 47 :: (x :: (r ++ z))) = some (refGo ((x :: (r ++ z)).length + 2) 1 rs0 (x :: (r ++ z))) := by
      have h47 : ltrB 47 = false := rfl
      simp [rdT, hlt, h47]
    rw [e2, h1, show x :: (r ++ z) = nm ++ z by rw [e]; rfl, hgo]
    simp
    omega
end Go.Proofs.Ytplnkmojkdbbnaa
