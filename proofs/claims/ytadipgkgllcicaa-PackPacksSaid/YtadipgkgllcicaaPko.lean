/-
  What packed rows hold: no program.
-/
import Derived.Test.YtadipgkgllcicaaPkn
import Derived.Test.YtadipgkgllcicaaGts
namespace Go.Proofs.Ytadipgkgllcicaa
open Go.RowKit Go.Shelf Go.Lib Go.Maps

def othersN (R : List (List Int)) : Nat := (R.map fun r => r.countP fun x => decide (x ≠ usualR r)).sum
theorem othersN_take {R : List (List Int)} {k : Nat} {r : List Int} (h : R[k]? = some r) : othersN (R.take (k + 1)) = othersN (R.take k) + r.countP fun x => decide (x ≠ usualR r) := by
  unfold othersN
  rw [List.take_add_one, h, Option.toList_some, List.map_append, List.sum_append]
  simp
theorem pick_in {row : List Int} (P : Int → Prop) : ∀ (l : List Int) (u : Int), P u → (∀ x ∈ l, P x) → P (l.foldl (pickR row) u) := by
  intro l
  induction l with
  | nil => intro u hu _; exact hu
  | cons x r ih =>
    intro u hu h
    refine ih _ ?_ (fun y hy => h y (by simp [hy]))
    unfold pickR
    split
    · exact h x (by simp)
    · exact hu
theorem usual_in {row : List Int} {P : Int → Prop} (h : ∀ x ∈ row, P x) (h0 : P 0) : P (usualR row) := by
  unfold usualR
  refine pick_in P row _ ?_ h
  rw [List.getD_eq_getElem?_getD]
  cases e : row[0]? with
  | none => exact h0
  | some x => exact h x (List.mem_of_getElem? e)
/-- Of a row, what is where. -/
structure Rw (p : Pk) (i : Nat) (r : List Int) (b : Nat) : Prop where
  u : p.us[i]? = some (usualR r)
  bb : p.bs[i]? = some (b : Int)
  t : ∀ c, otherB (usualR r) r c = true → p.cs[b + c]? = some (i : Int) ∧ p.ns[b + c]? = r[c]?
  x : ∀ j, p.cs[j]? = some (i : Int) → b ≤ j ∧ otherB (usualR r) r (j - b) = true
structure Pv (R : List (List Int)) (k : Nat) (p : Pk) : Prop where
  d : Pd p k
  r : ∀ (i : Nat) (r : List Int), i < k → R[i]? = some r → ∃ b : Nat, b ≤ 64 * k ∧ Rw p i r b
  c : ∀ x ∈ p.cs, -1 ≤ x ∧ x < (k : Int)
  n : ∀ x ∈ p.ns, 0 ≤ x ∧ x ≤ 65535
  u : ∀ x ∈ p.us, 0 ≤ x ∧ x ≤ 65535
  b : ∀ x ∈ p.bs, 0 ≤ x ∧ x ≤ 64 * (k : Int)
  l : p.cs.length = 0 ∨ ∃ x, p.cs[p.cs.length - 1]? = some x ∧ 0 ≤ x
  q : cntU p.cs = othersN (R.take k)
theorem pv_all (w : Int) (R : List (List Int)) (hl : ∀ r ∈ R, r.length ≤ 64) (hx : ∀ r ∈ R, ∀ x ∈ r, 0 ≤ x ∧ x ≤ 65535) : ∀ k, k ≤ R.length → Pv R k (packR w (R.take k)) := by
  intro k
  induction k with
  | zero =>
    intro _
    exact ⟨⟨rfl, rfl, rfl, by simp [packR]⟩, fun i r h => absurd h (by omega), fun x h => by simp [packR] at h, fun x h => by simp [packR] at h, fun x h => by simp [packR] at h, fun x h => by simp [packR] at h, .inl rfl, rfl⟩
  | succ k ih =>
    intro hk
    have h := ih (by omega)
    obtain ⟨row, hr⟩ : ∃ r, R[k]? = some r := ⟨_, List.getElem?_eq_getElem (show k < R.length by omega)⟩
    have hmem := List.mem_of_getElem? hr
    rw [packR_take w hr]
    obtain ⟨p, hp⟩ : ∃ p, packR w (R.take k) = p := ⟨_, rfl⟩
    rw [hp] at h ⊢
    obtain ⟨U, hU⟩ : ∃ U, usualR row = U := ⟨_, rfl⟩
    obtain ⟨b, hb⟩ : ∃ b, baseR p.cs row U = b := ⟨_, rfl⟩
    have hbs := baseR_spec p.cs row U
    rw [hb] at hbs
    have hF := fi_take U b (k : Int) (by omega) (p.cs, p.ns) h.d.c row (fun c hc => freeR_iff.1 hbs.1 c hc) row.length (Nat.le_refl _)
    rw [List.take_length] at hF
    have hadd : addR p row = ⟨p.w, p.us ++ [U], p.bs ++ [(b : Int)], (fillsR U b (k : Int) (p.cs, p.ns) row).1, (fillsR U b (k : Int) (p.cs, p.ns) row).2⟩ := by
      unfold addR; rw [hU, hb, h.d.u]
    have hpd := (h.d.add (row := row) (hl row hmem)).1
    rw [hadd] at hpd ⊢
    obtain ⟨t, ht⟩ : ∃ t, fillsR U b (k : Int) (p.cs, p.ns) row = t := ⟨_, rfl⟩
    rw [ht] at hF hpd ⊢
    have hul := h.d.u
    have hbl := h.d.b
    have hcl := h.d.l
    have hoth : ∀ j, otherB U row (j - b) = true → b ≤ j → j < b + row.length := fun j h1 h2 => by
      rcases Nat.lt_or_ge j (b + row.length) with q | q
      · exact q
      · simp [otherB, List.getElem?_eq_none (show row.length ≤ j - b by omega)] at h1
    have hUr : 0 ≤ U ∧ U ≤ 65535 := by rw [← hU]; exact usual_in (P := fun x => 0 ≤ x ∧ x ≤ 65535) (hx row hmem) (by omega)
    refine ⟨hpd, fun i r hi hr' => ?_, fun x hx' => ?_, fun x hx' => ?_, fun x hx' => ?_, fun x hx' => ?_, ?_, ?_⟩
    · by_cases e : i = k
      · subst e
        obtain rfl : r = row := by rw [hr] at hr'; injection hr' with hr'; exact hr'.symm
        refine ⟨b, by omega, ?_, ?_, fun c hc => ?_, fun j hj => ?_⟩
        · show (p.us ++ [U])[i]? = _
          rw [List.getElem?_append_right (by omega), hul, hU]; simp
        · show (p.bs ++ [(b : Int)])[i]? = _
          rw [List.getElem?_append_right (by omega), hbl]; simp
        · rw [hU] at hc
          have hcl2 : b + c < b + r.length := hoth (b + c) (by rw [show b + c - b = c by omega]; exact hc) (by omega)
          have cond : b ≤ b + c ∧ b + c < b + r.length ∧ otherB U r (b + c - b) = true := ⟨by omega, hcl2, by rw [show b + c - b = c by omega]; exact hc⟩
          refine ⟨?_, ?_⟩
          · show t.1[b + c]? = _
            rw [hF.c, if_pos cond]
          · show t.2[b + c]? = _
            rw [hF.n, if_pos cond, show b + c - b = c by omega]
        · have hj : t.1[j]? = some (i : Int) := hj
          rw [hU]
          rw [hF.c j] at hj
          by_cases q : b ≤ j ∧ j < b + r.length ∧ otherB U r (j - b) = true
          · exact ⟨q.1, q.2.2⟩
          · rw [if_neg q] at hj
            exfalso
            by_cases q2 : j < p.cs.length
            · rw [if_pos q2] at hj
              have := h.c _ (List.mem_of_getElem? hj)
              omega
            · rw [if_neg q2] at hj
              split at hj
              · injection hj with hj; omega
              · cases hj
      · obtain ⟨b', hb', hw⟩ := h.r i r (by omega) hr'
        refine ⟨b', by omega, ?_, ?_, fun c hc => ?_, fun j hj => ?_⟩
        · show (p.us ++ [U])[i]? = _
          rw [List.getElem?_append_left (by omega)]; exact hw.u
        · show (p.bs ++ [(b : Int)])[i]? = _
          rw [List.getElem?_append_left (by omega)]; exact hw.bb
        · obtain ⟨h1, h2⟩ := hw.t c hc
          have hlt : b' + c < p.cs.length := (List.getElem?_eq_some_iff.1 h1).1
          have ncond : ¬ (b ≤ b' + c ∧ b' + c < b + row.length ∧ otherB U row (b' + c - b) = true) := by
            rintro ⟨z1, z2, z3⟩
            have := freeR_iff.1 hbs.1 (b' + c - b) z3
            rw [show b + (b' + c - b) = b' + c by omega] at this
            unfold chkB at this
            rw [h1] at this
            simp at this
          refine ⟨?_, ?_⟩
          · show t.1[b' + c]? = _
            rw [hF.c, if_neg ncond, if_pos hlt]; exact h1
          · show t.2[b' + c]? = _
            rw [hF.n, if_neg ncond, if_pos hlt]; exact h2
        · have hj : t.1[j]? = some (i : Int) := hj
          rw [hF.c j] at hj
          split at hj
          · injection hj with hj; omega
          · split at hj
            · exact hw.x j hj
            · split at hj
              · injection hj with hj; omega
              · cases hj
    · obtain ⟨j, hj⟩ := List.getElem?_of_mem hx'
      have hj : t.1[j]? = some x := hj
      rw [hF.c j] at hj
      split at hj
      · injection hj with hj; omega
      · split at hj
        · have := h.c x (List.mem_of_getElem? hj); omega
        · split at hj
          · injection hj with hj; omega
          · cases hj
    · obtain ⟨j, hj⟩ := List.getElem?_of_mem hx'
      have hj : t.2[j]? = some x := hj
      rw [hF.n j] at hj
      split at hj
      · exact hx row hmem x (List.mem_of_getElem? hj)
      · split at hj
        · exact h.n x (List.mem_of_getElem? hj)
        · split at hj
          · injection hj with hj; omega
          · cases hj
    · have hx' : x ∈ p.us ++ [U] := hx'
      rcases List.mem_append.1 hx' with q | q
      · exact h.u x q
      · simp at q; subst q; exact hUr
    · have hx' : x ∈ p.bs ++ [(b : Int)] := hx'
      rcases List.mem_append.1 hx' with q | q
      · have := h.b x q; omega
      · simp at q; subst q; have := hbs.2.1; omega
    · rcases hF.l with q | ⟨j, h1, h2, h3, h4⟩
      · rcases h.l with z | ⟨x, z1, z2⟩
        · left; show t.1.length = 0; rw [q]; exact z
        · by_cases z0 : p.cs.length = 0
          · left; show t.1.length = 0; rw [q]; exact z0
          · right
            show ∃ x, t.1[t.1.length - 1]? = some x ∧ 0 ≤ x
            have q' : t.1.length = p.cs.length := q
            rw [q', hF.c]
            by_cases c0 : b ≤ p.cs.length - 1 ∧ p.cs.length - 1 < b + row.length ∧ otherB U row (p.cs.length - 1 - b) = true
            · rw [if_pos c0]; exact ⟨_, rfl, by omega⟩
            · rw [if_neg c0, if_pos (by show p.cs.length - 1 < p.cs.length; omega)]; exact ⟨x, z1, z2⟩
      · right
        show ∃ x, t.1[t.1.length - 1]? = some x ∧ 0 ≤ x
        rw [h1, show j + 1 - 1 = j by omega, hF.c, if_pos ⟨h2, h3, h4⟩]
        exact ⟨_, rfl, by omega⟩
    · show cntU t.1 = _
      rw [othersN_take hr, hF.q, List.take_length, ← h.q, hU]
/-- Packed rows are right, and tell the rows. -/
theorem packed_ok {w : Int} {R : List (List Int)} (h : packB w R = true) : OkP (packR w R) ∧ rowsR (packR w R) = R ∧ (∀ (i : Nat) (r : List Int), R[i]? = some r → (r.length : Int) = w) ∧ 1 ≤ w ∧ w ≤ 64 := by
  unfold packB widthB at h
  simp only [Bool.and_eq_true, decide_eq_true_eq] at h
  obtain ⟨⟨h1, h2⟩, h3, h4⟩ := h
  have hrow : ∀ r ∈ R, (r.length : Int) = w ∧ ∀ x ∈ r, 0 ≤ x ∧ x ≤ 65535 := fun r hr => by
    have := List.all_eq_true.1 h4 r hr
    unfold rowB at this
    simp only [Bool.and_eq_true, decide_eq_true_eq, inB_iff] at this
    exact this
  have hpv := pv_all w R (fun r hr => by have := (hrow r hr).1; omega) (fun r hr => (hrow r hr).2) R.length (Nat.le_refl _)
  rw [List.take_length] at hpv
  have hw : (packR w R).w = w := packR_w w R _ rfl
  have hok : OkP (packR w R) := ⟨by rw [hw]; exact h1, by rw [hw]; exact h2, by rw [hpv.d.u]; exact h3, by rw [hpv.d.b, hpv.d.u], by have := hpv.d.l; omega, hpv.d.c, hpv.u, fun x hx => by have := hpv.b x hx; omega, hpv.n, fun x hx => by have := hpv.c x hx; rw [hpv.d.u]; omega⟩
  refine ⟨hok, ?_, fun i r hr => (hrow r (List.mem_of_getElem? hr)).1, h1, h2⟩
  apply List.ext_getElem?
  intro i
  by_cases hi : i < R.length
  · obtain ⟨r, hr⟩ : ∃ r, R[i]? = some r := ⟨_, List.getElem?_eq_getElem hi⟩
    obtain ⟨b, hb, hw2⟩ := hpv.r i r hi hr
    rw [hr]
    unfold rowsR
    rw [List.getElem?_map, List.getElem?_range (by rw [hpv.d.u]; exact hi)]
    simp only [Option.map_some, Option.some.injEq]
    have hrl := (hrow r (List.mem_of_getElem? hr)).1
    apply List.ext_getElem?
    intro c
    by_cases hc : c < r.length
    · rw [List.getElem?_map, List.getElem?_range (by rw [hw]; omega)]
      obtain ⟨x, hx⟩ := list_at hc
      rw [hx]
      simp only [Option.map_some, Option.some.injEq]
      unfold getR
      rw [getD_get hw2.bb, Int.toNat_natCast, getD_get hw2.u]
      by_cases ho : otherB (usualR r) r c = true
      · obtain ⟨z1, z2⟩ := hw2.t c ho
        rw [if_pos z1, getD_get (z2.trans hx)]
      · have : ¬ (packR w R).cs[b + c]? = some (i : Int) := fun z => by
          obtain ⟨_, z2⟩ := hw2.x _ z
          rw [show b + c - b = c by omega] at z2
          exact ho z2
        rw [if_neg this]
        simp [otherB, hx] at ho
        exact ho.symm
    · rw [List.getElem?_eq_none (by simp; rw [hw]; omega), List.getElem?_eq_none (by omega)]
  · rw [List.getElem?_eq_none (by rw [rowsR_len, hpv.d.u]; omega), List.getElem?_eq_none (by omega)]
theorem packed_fit {w : Int} {R : List (List Int)} (h : packB w R = true) : cntU (packR w R).cs = othersN R ∧ ((packR w R).cs.length = 0 ∨ ∃ x, (packR w R).cs[(packR w R).cs.length - 1]? = some x ∧ 0 ≤ x) ∧ Pd (packR w R) R.length ∧ ∀ (i : Nat) (r : List Int), R[i]? = some r → (packR w R).us[i]? = some (usualR r) := by
  unfold packB widthB at h
  simp only [Bool.and_eq_true, decide_eq_true_eq] at h
  obtain ⟨⟨h1, h2⟩, h3, h4⟩ := h
  have hrow : ∀ r ∈ R, (r.length : Int) = w ∧ ∀ x ∈ r, 0 ≤ x ∧ x ≤ 65535 := fun r hr => by
    have := List.all_eq_true.1 h4 r hr
    unfold rowB at this
    simp only [Bool.and_eq_true, decide_eq_true_eq, inB_iff] at this
    exact this
  have hpv := pv_all w R (fun r hr => by have := (hrow r hr).1; omega) (fun r hr => (hrow r hr).2) R.length (Nat.le_refl _)
  rw [List.take_length] at hpv
  refine ⟨by rw [hpv.q, List.take_length], hpv.l, hpv.d, fun i r hr => ?_⟩
  obtain ⟨b, _, hw⟩ := hpv.r i r (List.getElem?_eq_some_iff.1 hr).1 hr
  exact hw.u
end Go.Proofs.Ytadipgkgllcicaa
