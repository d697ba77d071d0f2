/-
  A list without its hidden places: what is read of it.
  Helpers for the states of an expression.
  The states of an expression while marks are read, as they lie.
  Contracts: stepAll, stepSeq, of parts whose step has one.
  Contract: stepSeq, of parts whose step has one.
  Contract: step.
  Contract: newState.
-/
import Derived.Test.YtegkogadceodlaaXsh
import Derived.Deep.AppendLies
import Derived.Test.YtegkogadceodlaaXsc
import Derived.Test.YtegkogadceodlaaXse
import Derived.Deep.CutRange
import Derived.Test.YtegkogadceodlaaXsf
namespace Go.Proofs.Ytegkogadceodlaa
open Go.RowKit Go.Shelf Go.Lib Go.Sort

theorem rdS_ext (ig kp : List Int) : ∀ (b : List Int) (s : List Bool × List Int × List Int), ∃ x y, (b.foldl (rdS ig kp) s).1 = s.1 ++ x ∧ (b.foldl (rdS ig kp) s).2.2 = s.2.2 ++ y
  | [], s => ⟨[], [], by simp, by simp⟩
  | id :: r, s => by
    obtain ⟨x, y, h1, h2⟩ := rdS_ext ig kp r (rdS ig kp s id)
    rw [List.foldl_cons]
    have a1 : ∃ q, (rdS ig kp s id).1 = s.1 ++ q := ⟨_, rfl⟩
    have a2 : ∃ q, (rdS ig kp s id).2.2 = s.2.2 ++ q := ⟨_, rfl⟩
    obtain ⟨q1, a1⟩ := a1
    obtain ⟨q2, a2⟩ := a2
    exact ⟨q1 ++ x, q2 ++ y, by rw [h1, a1, List.append_assoc], by rw [h2, a2, List.append_assoc]⟩
theorem rdF_pre (ig kp ids : List Int) (k : Nat) (hk : k ≤ ids.length) : (rdF ig kp (ids.take k)).1 = (rdF ig kp ids).1.take k ∧ (rdF ig kp (ids.take k)).2.2 = (rdF ig kp ids).2.2.take k := by
  obtain ⟨x, y, h1, h2⟩ := rdS_ext ig kp (ids.drop k) (rdF ig kp (ids.take k))
  have e : (ids.drop k).foldl (rdS ig kp) (rdF ig kp (ids.take k)) = rdF ig kp ids := by
    unfold rdF
    rw [← List.foldl_append, List.take_append_drop]
  have r1 := rdI ig kp (ids.take k)
  have hl : (ids.take k).length = k := by simp; omega
  rw [e] at h1 h2
  constructor
  · rw [h1, List.take_left' (by rw [r1.h, hl])]
  · rw [h2, List.take_left' (by rw [r1.p, hl])]
/-- The hidden flag of a place, by what is read ahead of it. -/
theorem rdF_at (ig kp ids : List Int) {k : Nat} {id : Int} (h : ids[k]? = some id) :
    (rdF ig kp ids).1[k]? = some (ig.contains (clsI id) && (decide (0 < k) && !kp.contains ((rdF ig kp (ids.take k)).2.1.getLast?.getD 0))) ∧ (rdF ig kp ids).2.2[k]? = some (((rdF ig kp (ids.take k)).2.1.length : Nat) : Int) := by
  have hk := (List.getElem?_eq_some_iff.1 h).1
  have p1 := rdF_pre ig kp ids (k + 1) (by omega)
  rw [rdF_take ig kp ids k id h] at p1
  have r := rdI ig kp (ids.take k)
  have hl : (ids.take k).length = k := by simp; omega
  have g : ∀ {α : Type} (l : List α), (l.take (k + 1))[k]? = l[k]? := fun l => by rw [List.getElem?_take, if_pos (by omega)]
  constructor
  · rw [← g, ← p1.1]
    unfold rdS
    dsimp only
    rw [List.getElem?_append_right (by rw [r.h, hl]; exact Nat.le_refl _), r.h, hl, Nat.sub_self]
    rfl
  · rw [← g, ← p1.2]
    unfold rdS
    dsimp only
    rw [List.getElem?_append_right (by rw [r.p, hl]; exact Nat.le_refl _), r.p, hl, Nat.sub_self]
    rfl
/-- The places that aren't hidden, of the first ones. -/
def unH (s : List Bool × List Int × List Int) (k : Nat) : List Nat := (List.range k).filter fun i => s.1[i]? == some false
theorem unH_next (s : List Bool × List Int × List Int) (k : Nat) : unH s (k + 1) = unH s k ++ if s.1[k]? == some false then [k] else [] := by
  unfold unH
  rw [List.range_succ, List.filter_append]
  congr 1
  rw [List.filter_cons]
  split <;> rfl
theorem unH_mem {s : List Bool × List Int × List Int} {k i : Nat} (h : i ∈ unH s k) : i < k ∧ s.1[i]? = some false := by
  unfold unH at h
  rw [List.mem_filter, List.mem_range] at h
  exact ⟨h.1, by simpa using h.2⟩
/-- Without its hidden places a list is read as it was. -/
theorem seen_read (ig kp ids : List Int) : ∀ k, k ≤ ids.length → rdF ig kp ((unH (rdF ig kp ids) k).map fun i => ids.getD i 0) = ((unH (rdF ig kp ids) k).map fun _ => false, (rdF ig kp (ids.take k)).2.1, (unH (rdF ig kp ids) k).map fun i => (rdF ig kp ids).2.2.getD i 0)
  | 0, _ => rfl
  | k + 1, hk => by
    have ih := seen_read ig kp ids k (by omega)
    obtain ⟨id, hid⟩ : ∃ id, ids[k]? = some id := ⟨_, List.getElem?_eq_getElem (by omega)⟩
    obtain ⟨h1, h2⟩ := rdF_at ig kp ids hid
    have ht := rdF_take ig kp ids k id hid
    have hd : ids.getD k 0 = id := by rw [List.getD_eq_getElem?_getD, hid]; rfl
    have hp : (rdF ig kp ids).2.2.getD k 0 = (((rdF ig kp (ids.take k)).2.1.length : Nat) : Int) := by rw [List.getD_eq_getElem?_getD, h2]; rfl
    have r := rdI ig kp (ids.take k)
    have hl : (ids.take k).length = k := by simp; omega
    rw [unH_next, h1]
    obtain ⟨H, hH⟩ : ∃ H, (ig.contains (clsI id) && (decide (0 < k) && !kp.contains ((rdF ig kp (ids.take k)).2.1.getLast?.getD 0))) = H := ⟨_, rfl⟩
    have hm : (rdF ig kp (ids.take (k + 1))).2.1 = if H then (rdF ig kp (ids.take k)).2.1 else (rdF ig kp (ids.take k)).2.1 ++ [clsI id] := by
      rw [ht]
      unfold rdS
      dsimp only
      rw [r.h, hl, hH]
    rw [hH, hm]
    cases H with
    | true =>
      rw [if_neg (by simp : ¬ ((some true == some false) = true)), List.append_nil, if_pos rfl]
      exact ih
    | false =>
      rw [if_pos (by simp), if_neg (by simp), List.map_append, List.map_append, List.map_append]
      simp only [List.map_cons, List.map_nil]
      rw [rdF_snoc, ih, hd, hp]
      unfold rdS
      dsimp only
      have hf : (ig.contains (clsI id) && (decide (0 < ((unH (rdF ig kp ids) k).map fun _ => false).length) && !kp.contains ((rdF ig kp (ids.take k)).2.1.getLast?.getD 0))) = false := by
        cases hc : ig.contains (clsI id)
        · rfl
        · rw [hc] at hH
          cases hq : kp.contains ((rdF ig kp (ids.take k)).2.1.getLast?.getD 0)
          · rw [hq] at hH
            have h0 : k = 0 := by
              simp at hH
              omega
            subst h0
            simp [unH]
          · simp
      rw [hf]
      rfl
/-- Where there is a break. -/
def allB (mt : E → List Int → Bool) (t : Tx) (ids : List Int) (i : Nat) : Bool := if i = 0 then true else breakR mt t ids i
theorem unH_zero (ig kp ids : List Int) {k : Nat} (hk : 1 ≤ k) (hn : k ≤ ids.length) : ∃ r, unH (rdF ig kp ids) k = 0 :: r ∧ ∀ i ∈ r, 1 ≤ i ∧ i < k ∧ (rdF ig kp ids).1[i]? = some false := by
  induction k with
  | zero => omega
  | succ k ih =>
    by_cases h0 : k = 0
    · subst h0
      obtain ⟨id, hid⟩ : ∃ id, ids[0]? = some id := ⟨_, List.getElem?_eq_getElem (by omega)⟩
      obtain ⟨h1, _⟩ := rdF_at ig kp ids hid
      refine ⟨[], ?_, fun i hi => by simp at hi⟩
      rw [unH_next, h1]
      simp [unH]
    · obtain ⟨r, h1, h2⟩ := ih (by omega) (by omega)
      rw [unH_next, h1]
      refine ⟨r ++ if (rdF ig kp ids).1[k]? == some false then [k] else [], by rw [List.cons_append], fun i hi => ?_⟩
      rcases List.mem_append.1 hi with hi | hi
      · have := h2 i hi
        exact ⟨this.1, by omega, this.2.2⟩
      · split at hi
        · rename_i h
          simp at hi
          subst hi
          exact ⟨by omega, by omega, by simpa using h⟩
        · simp at hi
theorem break_seen (mt : E → List Int → Bool) (t : Tx) (ids : List Int) {i j : Nat} (hi : 1 ≤ i) (hj : 1 ≤ j) (h : (rdF t.ig t.kp ids).1[i]? = some false) (hu : (unH (rdF t.ig t.kp ids) ids.length)[j]? = some i) :
    breakR mt t ((unH (rdF t.ig t.kp ids) ids.length).map fun i => ids.getD i 0) j = breakR mt t ids i := by
  have sr := seen_read t.ig t.kp ids ids.length (Nat.le_refl _)
  rw [List.take_length] at sr
  obtain ⟨P, hP, _⟩ := (rdI t.ig t.kp ids).a i false h
  obtain ⟨SN, hSN⟩ : ∃ q, (unH (rdF t.ig t.kp ids) ids.length).map (fun i => ids.getD i 0) = q := ⟨_, rfl⟩
  rw [hSN] at sr ⊢
  have e1 : (rdF t.ig t.kp SN).1[j]? = some false := by
    rw [sr, List.getElem?_map, hu]
    rfl
  have e2 : (rdF t.ig t.kp SN).2.2[j]? = some (P : Int) := by
    rw [sr, List.getElem?_map, hu, Option.map_some, List.getD_eq_getElem?_getD, hP]
    rfl
  have w1 := whichR_at mt t SN (i := j) hj e1 e2
  have w2 := whichR_at mt t ids (i := i) hi h hP
  have e3 : (rdF t.ig t.kp SN).2.1 = (rdF t.ig t.kp ids).2.1 := by rw [sr]
  rw [e3] at w1
  unfold breakR
  rw [e1, h, w1, w2]
/-- The breaks of what is seen are those of the list. -/
theorem seen_breaks (mt : E → List Int → Bool) (t : Tx) (ids : List Int) (h0 : ids.length ≠ 0) :
    breaksR mt t ((unH (rdF (knownT t).ig (knownT t).kp ids) ids.length).map fun i => ids.getD i 0) = ((unH (rdF (knownT t).ig (knownT t).kp ids) ids.length).map (allB mt (knownT t) ids)) ++ [true] := by
  obtain ⟨K, hK⟩ : ∃ K, knownT t = K := ⟨_, rfl⟩
  rw [hK]
  obtain ⟨r, h1, h2⟩ := unH_zero K.ig K.kp ids (k := ids.length) (by omega) (Nat.le_refl _)
  have hb := fun i j hi hj h hu => break_seen mt K ids (i := i) (j := j) hi hj h hu
  obtain ⟨U, hU⟩ : ∃ q, unH (rdF K.ig K.kp ids) ids.length = q := ⟨_, rfl⟩
  rw [hU] at h1 hb ⊢
  unfold breaksR
  rw [if_neg (by rw [List.length_map, h1]; simp), hK]
  congr 1
  apply List.ext_getElem?
  intro j
  unfold brL
  rw [List.length_map, List.getElem?_map]
  cases j with
  | zero => rw [h1]; rfl
  | succ j =>
    rw [List.getElem?_cons_succ, List.getElem?_map]
    by_cases hj : j + 1 < U.length
    · obtain ⟨i, hi⟩ : ∃ i, U[j + 1]? = some i := ⟨_, List.getElem?_eq_getElem hj⟩
      have hir : i ∈ r := by
        rw [h1, List.getElem?_cons_succ] at hi
        exact List.mem_of_getElem? hi
      have hp := h2 i hir
      rw [List.getElem?_range' (by omega), hi, Option.map_some, Option.map_some]
      rw [show 1 + 1 * j = j + 1 by omega, hb i (j + 1) hp.1 (by omega) hp.2.2 hi]
      unfold allB
      rw [if_neg (by omega)]
    · rw [List.getElem?_eq_none (by simp; omega), List.getElem?_eq_none (by omega)]
      rfl
end Go.Proofs.Ytegkogadceodlaa

namespace Go.Proofs.Ytegkogadceodlaa
open Go.RowKit Go.Shelf Go.Lib Go.Maps

theorem add_none (ad : Addr) : ad.add 0 = ad := by
  unfold Addr.add
  simp
/-- One cell more at a row of the call's own. -/
theorem wpList_append_one {ops : Array Oper} {rest : List Oper} {o : Oper} {a : Act} {w : World} {Q : Exit → Act → World → Prop} (hgd : o.guard = none) (s x : Operand) (t : TypeId)
    (ho : o.op = .call { callee := .builtin .append, args := #[s, x], argTypes := #[t, t] }) (base : Nat) (e : TypeId) (i : TypeInfo) (z : Value) (bytes : Nat) (ht : Try.prog.underlying t = some (.slice e)) (hi : Try.prog.info? e = some i)
    (hz : i.zero = some z) (hsize : i.size = 1) (hby : i.bytes = bytes) (hb24 : bytes ≤ 24) (hzs : z.cells.size = 1) (v : Value) (n : Nat) (xs : List Value) (hs : a.eval s = v) (hown : w.ownsRow base e 1 v n xs) (ad : Addr) (u : Value)
    (hx : a.eval x = .slice (some ad) 1 1) (hu : w.cell? ad = some u) (h1 : u.oneCell' = true) (h63 : n ≤ 1000000) (hbase : base ≤ w.heap.size) (H : Nat) (hH : w.heap.size = H)
    (h : ∀ g cap w', w'.ownsRow base e 1 (.slice (some ⟨g, 0, none⟩) (n + 1) cap) (n + 1) (xs ++ [u]) → w.grownBy w' v.ownBlock → (v.ownBlock = some g ∨ g = H) → g < w'.heap.size →
      wpList Try.prog ops Q rest (a.put o.dst (.slice (some ⟨g, 0, none⟩) (n + 1) cap)) w') : wpList Try.prog ops Q (o :: rest) a w := by
  refine wpList_append_lies _ hgd s x t ho base e i z 1 bytes ht hi hz hsize hby hzs (by decide) v n xs hs hown ad 1 1 [u] hx rfl (fun j q hj => ?_) (fun q hq => by simp at hq; subst hq; exact h1) (by decide) (by unfold maxLen; omega) ?_ hbase H hH h
  · cases j with
    | zero => simp at hj; subst hj; rw [add_none ad]; exact hu
    | succ j => simp at hj
  · have : (n + 1) * bytes ≤ (n + 1) * 24 := Nat.mul_le_mul_left _ hb24
    omega
theorem below_grown' {w w' : World} {B e n : Nat} {v : Value} {xs : List Value} (hg : w.grownBy w' v.ownBlock) (ho : w.ownsRow B e 1 v n xs) (hB : B ≤ w.heap.size) : Below B w w' :=
  ⟨hg.os, hg.tape, hg.output, hg.size, fun k hk => hg.block k (by omega) (fun h => by have := (own_block_lt ho k h.symm).1; omega)⟩
theorem len_le_szL : ∀ l : List E, l.length ≤ szL l := by
  intro l
  induction l with
  | nil => simp
  | cons a r ih2 => have := szE_pos a; simp only [szL, szE.szL, List.length_cons] at *; omega
theorem cells_apart {w : World} {k k' t t' : Nat} {cs cs' : Array Value} (h : Cells w k t cs) (h' : Cells w k' t' cs') (hne : t ≠ t') : k ≠ k' := by
  rintro rfl
  unfold Cells at h h'
  rw [h] at h'
  simp at h'
  exact hne h'.2
end Go.Proofs.Ytegkogadceodlaa

namespace Go.Proofs.Ytegkogadceodlaa
open Go.RowKit Go.Shelf Go.Lib Go.Maps

/-- A node's state: its block, its node, its parts' slice; may it be empty; does it end; is it live; its parts. -/
inductive SB where
  | mk (p : Nat) (k c : Int) (kv pv : Value) (em en lv : Bool) (ps : List SB)
def SB.p : SB → Nat | .mk p _ _ _ _ _ _ _ _ => p
def SB.em : SB → Bool | .mk _ _ _ _ _ em _ _ _ => em
def SB.en : SB → Bool | .mk _ _ _ _ _ _ en _ _ => en
def SB.lv : SB → Bool | .mk _ _ _ _ _ _ _ lv _ => lv
def sbC (k c : Int) (kv pv : Value) (em en lv : Bool) : Array Value := #[.int .i64 k, .int .i64 c, kv, pv, .bool em, .bool en, .bool lv]
def SB.cs : SB → Array Value | .mk _ k c kv pv em en lv _ => sbC k c kv pv em en lv
/-- A slice of pointers. -/
def PRow (w : World) (kv pv : Value) (qs : List Nat) : Prop := (∃ A n c, kv = .slice A n c) ∧ ∃ A cap, pv = .slice A qs.length cap ∧ qs.length ≤ 100000 ∧ (qs ≠ [] → ∃ g cs, A = some ⟨g, 0, none⟩ ∧ Cells w g 72 cs ∧ ∀ (i : Nat) q, qs[i]? = some q → cs[i]? = some (.pointer (some ⟨q, 0, none⟩)))
def SB.At (w : World) : SB → Prop
  | .mk p k c kv pv em en lv ps => Cells w p 76 (sbC k c kv pv em en lv) ∧ PRow w kv pv (ps.map SB.p) ∧ AtL ps
where
  AtL : List SB → Prop
    | [] => True
    | s :: r => SB.At w s ∧ AtL r
def SB.ids : SB → List Nat
  | .mk p _ _ _ _ _ _ _ ps => p :: idsL ps
where
  idsL : List SB → List Nat
    | [] => []
    | s :: r => SB.ids s ++ idsL r
theorem at_mk {w : World} {p : Nat} {k c : Int} {kv pv : Value} {em en lv : Bool} {ps : List SB} : SB.At w (.mk p k c kv pv em en lv ps) ↔ Cells w p 76 (sbC k c kv pv em en lv) ∧ PRow w kv pv (ps.map SB.p) ∧ SB.At.AtL w ps := by
  conv => lhs; unfold SB.At
theorem atL_cons {w : World} {s : SB} {r : List SB} : SB.At.AtL w (s :: r) ↔ SB.At w s ∧ SB.At.AtL w r := by conv => lhs; unfold SB.At.AtL
theorem ids_mk {p : Nat} {k c : Int} {kv pv : Value} {em en lv : Bool} {ps : List SB} : SB.ids (.mk p k c kv pv em en lv ps) = p :: SB.ids.idsL ps := by conv => lhs; unfold SB.ids
theorem idsL_cons {s : SB} {r : List SB} : SB.ids.idsL (s :: r) = SB.ids s ++ SB.ids.idsL r := by conv => lhs; unfold SB.ids.idsL
theorem p_mem (s : SB) : s.p ∈ s.ids := by
  cases s
  rw [ids_mk]
  exact List.mem_cons_self
theorem idsL_mem {ps : List SB} {i : Nat} {q : SB} (h : ps[i]? = some q) {k : Nat} (hk : k ∈ q.ids) : k ∈ SB.ids.idsL ps := by
  induction ps generalizing i with
  | nil => simp at h
  | cons s r ih =>
    rw [idsL_cons, List.mem_append]
    cases i with
    | zero => simp at h; subst h; exact .inl hk
    | succ i => rw [List.getElem?_cons_succ] at h; exact .inr (ih h)
theorem idsL_inv {ps : List SB} {k : Nat} (h : k ∈ SB.ids.idsL ps) : ∃ (i : Nat) (q : SB), ps[i]? = some q ∧ k ∈ q.ids := by
  induction ps with
  | nil => simp [SB.ids.idsL] at h
  | cons s r ih =>
    rw [idsL_cons, List.mem_append] at h
    rcases h with h | h
    · exact ⟨0, s, rfl, h⟩
    · obtain ⟨i, q, h1, h2⟩ := ih h
      exact ⟨i + 1, q, by simpa using h1, h2⟩
theorem idsL_apart {ps : List SB} (hn : (SB.ids.idsL ps).Nodup) {i j : Nat} {q r : SB} (hi : ps[i]? = some q) (hj : ps[j]? = some r) (hij : i ≠ j) {k : Nat} (hk : k ∈ q.ids) : k ∉ r.ids := by
  induction ps generalizing i j with
  | nil => simp at hi
  | cons s t ih =>
    rw [idsL_cons, List.nodup_append] at hn
    obtain ⟨_, h2, h3⟩ := hn
    cases i with
    | zero =>
      cases j with
      | zero => exact absurd rfl hij
      | succ j =>
        simp at hi
        subst hi
        rw [List.getElem?_cons_succ] at hj
        intro hr
        exact h3 k hk k (idsL_mem hj hr) rfl
    | succ i =>
      rw [List.getElem?_cons_succ] at hi
      cases j with
      | zero =>
        simp at hj
        subst hj
        intro hr
        exact h3 k hr k (idsL_mem hi hk) rfl
      | succ j =>
        rw [List.getElem?_cons_succ] at hj
        exact ih h2 hi hj (by omega)
theorem idsL_nodup {ps : List SB} (hn : (SB.ids.idsL ps).Nodup) {i : Nat} {q : SB} (hi : ps[i]? = some q) : q.ids.Nodup := by
  induction ps generalizing i with
  | nil => simp at hi
  | cons s t ih =>
    rw [idsL_cons, List.nodup_append] at hn
    cases i with
    | zero => simp at hi; subst hi; exact hn.1
    | succ i => rw [List.getElem?_cons_succ] at hi; exact ih hn.2.1 hi
theorem atL_iff {w : World} {ps : List SB} : SB.At.AtL w ps ↔ ∀ (i : Nat) (q : SB), ps[i]? = some q → q.At w := by
  induction ps with
  | nil => simp [SB.At.AtL]
  | cons s r ih =>
    rw [atL_cons, ih]
    constructor
    · rintro ⟨h1, h2⟩ i q hq
      cases i with
      | zero => simp at hq; subst hq; exact h1
      | succ i => rw [List.getElem?_cons_succ] at hq; exact h2 i q hq
    · intro h
      exact ⟨h 0 s rfl, fun i q hq => h (i + 1) q (by simpa using hq)⟩
mutual
theorem at_ids {w : World} : ∀ (s : SB), s.At w → ∀ k ∈ s.ids, ∃ cs, Cells w k 76 cs
  | .mk p k c kv pv em en lv ps, h, x, hx => by
    rw [ids_mk] at hx
    obtain ⟨h1, _, h3⟩ := at_mk.1 h
    rcases List.mem_cons.1 hx with rfl | hx
    · exact ⟨_, h1⟩
    · exact atL_ids ps h3 x hx
theorem atL_ids {w : World} : ∀ (ps : List SB), SB.At.AtL w ps → ∀ k ∈ SB.ids.idsL ps, ∃ cs, Cells w k 76 cs
  | [], _, x, hx => by simp [SB.ids.idsL] at hx
  | s :: r, h, x, hx => by
    rw [idsL_cons] at hx
    obtain ⟨h1, h2⟩ := atL_cons.1 h
    rcases List.mem_append.1 hx with hx | hx
    · exact at_ids s h1 x hx
    · exact atL_ids r h2 x hx
end
theorem prow_fz {w w' : World} {X : Nat → Prop} {kv pv : Value} {qs : List Nat} (h : PRow w kv pv qs) (F : Fz X w w') (hX : ∀ k, X k → ∃ cs, Cells w k 76 cs) : PRow w' kv pv qs := by
  obtain ⟨hkv, A, cap, e, hl, hr⟩ := h
  refine ⟨hkv, A, cap, e, hl, fun hne => ?_⟩
  obtain ⟨g, cs, e1, hc, hq⟩ := hr hne
  exact ⟨g, cs, e1, (F.block g hc.lt (fun hx => by obtain ⟨cs', hc'⟩ := hX g hx; exact cells_apart hc hc' (by decide) rfl)).trans hc, hq⟩
mutual
theorem at_fz {w w' : World} {X : Nat → Prop} (F : Fz X w w') (hX : ∀ k, X k → ∃ cs, Cells w k 76 cs) : ∀ (s : SB), s.At w → (∀ k, X k → k ∉ s.ids) → s.At w'
  | .mk p k c kv pv em en lv ps, h, hn => by
    obtain ⟨h1, h2, h3⟩ := at_mk.1 h
    refine at_mk.2 ⟨(F.block p h1.lt (fun hx => hn p hx (by rw [ids_mk]; exact List.mem_cons_self))).trans h1, prow_fz h2 F hX, atL_fz F hX ps h3 (fun k hk hx => hn k hk (by rw [ids_mk]; exact List.mem_cons_of_mem _ hx))⟩
theorem atL_fz {w w' : World} {X : Nat → Prop} (F : Fz X w w') (hX : ∀ k, X k → ∃ cs, Cells w k 76 cs) : ∀ (ps : List SB), SB.At.AtL w ps → (∀ k, X k → k ∉ SB.ids.idsL ps) → SB.At.AtL w' ps
  | [], _, _ => by unfold SB.At.AtL; trivial
  | s :: r, h, hn => by
    obtain ⟨h1, h2⟩ := atL_cons.1 h
    exact atL_cons.2 ⟨at_fz F hX s h1 (fun k hk hx => hn k hk (by rw [idsL_cons]; exact List.mem_append.2 (.inl hx))), atL_fz F hX r h2 (fun k hk hx => hn k hk (by rw [idsL_cons]; exact List.mem_append.2 (.inr hx)))⟩
end
/-- A mark is read. -/
def stepS (m : Int) : SB → Bool → SB
  | .mk p k c kv pv em en lv ps, b =>
    if (!b && !lv) = true then .mk p k c kv pv em en lv ps
    else if k = 4 then .mk p k c kv pv em ((seqS ps b).foldl (fun a q => q.en || (a && q.em)) false) ((seqS ps b).any SB.lv) (seqS ps b)
    else if k = 6 ∨ k = 7 then .mk p k c kv pv em ((allS ps (b || en)).any SB.en) ((allS ps (b || en)).any SB.lv) (allS ps (b || en))
    else if k = 5 ∨ k = 8 then .mk p k c kv pv em ((allS ps b).any SB.en) ((allS ps b).any SB.lv) (allS ps b)
    else .mk p k c kv pv em (b && takesG k c m) (b && takesG k c m) ps
where
  allS : List SB → Bool → List SB
    | [], _ => []
    | q :: r, b => stepS m q b :: allS r b
  seqS : List SB → Bool → List SB
    | [], _ => []
    | q :: r, b => stepS m q b :: seqS r (q.en || (b && q.em))
theorem allS_cons {m : Int} {q : SB} {r : List SB} {b : Bool} : stepS.allS m (q :: r) b = stepS m q b :: stepS.allS m r b := by conv => lhs; unfold stepS.allS
theorem seqS_cons {m : Int} {q : SB} {r : List SB} {b : Bool} : stepS.seqS m (q :: r) b = stepS m q b :: stepS.seqS m r (q.en || (b && q.em)) := by conv => lhs; unfold stepS.seqS
theorem allS_map (m : Int) (b : Bool) : ∀ ps, stepS.allS m ps b = ps.map (fun q => stepS m q b)
  | [] => by simp [stepS.allS]
  | q :: r => by rw [allS_cons, allS_map m b r]; rfl
/-- With what each part begins. -/
def bgn (ps : List SB) (b : Bool) : Nat → Bool
  | 0 => b
  | i + 1 => match ps[i]? with | some q => q.en || (bgn ps b i && q.em) | none => false
theorem bgn_cons (q : SB) (r : List SB) (b : Bool) : ∀ i, bgn (q :: r) b (i + 1) = bgn r (q.en || (b && q.em)) i
  | 0 => rfl
  | i + 1 => by
    show (match (q :: r)[i + 1]? with | some x => x.en || (bgn (q :: r) b (i + 1) && x.em) | none => false) = _
    rw [List.getElem?_cons_succ, bgn_cons q r b i]
    rfl
theorem seqS_get (m : Int) : ∀ (ps : List SB) (b : Bool) (i : Nat) (q : SB), ps[i]? = some q → (stepS.seqS m ps b)[i]? = some (stepS m q (bgn ps b i))
  | [], b, i, q, h => by simp at h
  | s :: r, b, i, q, h => by
    rw [seqS_cons]
    cases i with
    | zero => simp at h; subst h; rfl
    | succ i =>
      rw [List.getElem?_cons_succ] at h ⊢
      rw [seqS_get m r _ i q h, bgn_cons]
theorem seqS_len (m : Int) : ∀ (ps : List SB) (b : Bool), (stepS.seqS m ps b).length = ps.length
  | [], b => by simp [stepS.seqS]
  | s :: r, b => by rw [seqS_cons, List.length_cons, List.length_cons, seqS_len m r]
mutual
theorem step_ids (m : Int) : ∀ (s : SB) (b : Bool), (stepS m s b).ids = s.ids ∧ (stepS m s b).p = s.p ∧ (stepS m s b).em = s.em
  | .mk p k c kv pv em en lv ps, b => by
    unfold stepS
    split
    · exact ⟨rfl, rfl, rfl⟩
    · split
      · exact ⟨by rw [ids_mk, ids_mk, seq_ids m ps b], rfl, rfl⟩
      · split
        · exact ⟨by rw [ids_mk, ids_mk, all_ids m ps _], rfl, rfl⟩
        · split
          · exact ⟨by rw [ids_mk, ids_mk, all_ids m ps _], rfl, rfl⟩
          · exact ⟨by rw [ids_mk, ids_mk], rfl, rfl⟩
theorem all_ids (m : Int) : ∀ (ps : List SB) (b : Bool), SB.ids.idsL (stepS.allS m ps b) = SB.ids.idsL ps
  | [], b => by simp [stepS.allS]
  | s :: r, b => by rw [allS_cons, idsL_cons, idsL_cons, (step_ids m s b).1, all_ids m r b]
theorem seq_ids (m : Int) : ∀ (ps : List SB) (b : Bool), SB.ids.idsL (stepS.seqS m ps b) = SB.ids.idsL ps
  | [], b => by simp [stepS.seqS]
  | s :: r, b => by rw [seqS_cons, idsL_cons, idsL_cons, (step_ids m s b).1, seq_ids m r _]
end
theorem all_ps (m : Int) (b : Bool) (ps : List SB) : (stepS.allS m ps b).map SB.p = ps.map SB.p := by
  rw [allS_map, List.map_map]
  exact List.map_congr_left fun q _ => (step_ids m q b).2.1
theorem seq_ps (m : Int) : ∀ (ps : List SB) (b : Bool), (stepS.seqS m ps b).map SB.p = ps.map SB.p
  | [], b => by simp [stepS.seqS]
  | s :: r, b => by rw [seqS_cons, List.map_cons, List.map_cons, (step_ids m s b).2.1, seq_ps m r]
/-- Reading a mark, in memory. -/
def StepOk (w : World) (s : SB) (b : Bool) (m : Int) (r : Ending) (w' : World) : Prop := r = .returned (.tuple #[]) ∧ (stepS m s b).At w' ∧ Fz (fun k => k ∈ s.ids) w w'
end Go.Proofs.Ytegkogadceodlaa

namespace Go.Proofs.Ytegkogadceodlaa
open Go.RowKit Go.Shelf Go.Lib Go.Maps

/-- The step of the parts. -/
def PartsOk (m : Int) (ps : List SB) : Prop := ∀ (i : Nat) (q : SB), ps[i]? = some q → ∀ (w : World) (b : Bool), q.At w → q.ids.Nodup → Calls Try.prog 39 #[.pointer (some ⟨q.p, 0, none⟩), .bool b, .int .i64 m] w (StepOk w q b m)
/-- The own cells of a part. -/
theorem at_own {w : World} (s : SB) (h : s.At w) : w.cell? ⟨s.p, 4, none⟩ = some (.bool s.em) ∧ w.cell? ⟨s.p, 5, none⟩ = some (.bool s.en) ∧ w.cell? ⟨s.p, 6, none⟩ = some (.bool s.lv) ∧ s.p < w.heap.size := by
  cases s
  obtain ⟨h1, _, _⟩ := at_mk.1 h
  exact ⟨h1.cell 4, h1.cell 5, h1.cell 6, h1.lt⟩
/-- While the parts are gone through: those before i have read the mark. -/
structure PrL (w0 wr : World) (p : Nat) (k c : Int) (kv pv : Value) (em en lv : Bool) (ids : List Nat) (ps : List SB) (F : Nat → SB → SB) (i : Nat) : Prop where
  c : Cells wr p 76 (sbC k c kv pv em en lv)
  a : ∀ (j : Nat) (q : SB), ps[j]? = some q → (if j < i then F j q else q).At wr
  f : Fz (fun x => x ∈ ids) w0 wr
section
variable {w0 w w' : World} {p : Nat} {k c : Int} {kv pv : Value} {em en lv : Bool} {ps : List SB} {F : Nat → SB → SB} {i : Nat} {q : SB}
/-- A part has read it. -/
theorem PrL.next (h : PrL w0 w p k c kv pv em en lv (p :: SB.ids.idsL ps) ps F i) (hn : (p :: SB.ids.idsL ps).Nodup) (hq : ps[i]? = some q) (hF : ∀ j (r : SB), (F j r).ids = r.ids) (hat : (F i q).At w') (hf : Fz (fun x => x ∈ q.ids) w w') : PrL w0 w' p k c kv pv em en lv (p :: SB.ids.idsL ps) ps F (i + 1) := by
  rw [List.nodup_cons] at hn
  have hqa := h.a i q hq
  rw [if_neg (by omega)] at hqa
  have hc7 : ∀ x, x ∈ q.ids → ∃ cs, Cells w x 76 cs := fun x hx => at_ids q hqa x hx
  refine ⟨(hf.block p h.c.lt (fun hx => hn.1 (idsL_mem hq hx))).trans h.c, fun j r hj => ?_, h.f.trans (hf.mono fun x hx => List.mem_cons_of_mem _ (idsL_mem hq hx))⟩
  by_cases e : j = i
  · subst e
    rw [hq] at hj
    injection hj with hj
    subst hj
    rw [if_pos (by omega)]
    exact hat
  · have hr := h.a j r hj
    have hid : (if j < i + 1 then F j r else r) = (if j < i then F j r else r) := by
      by_cases l : j < i
      · rw [if_pos l, if_pos (by omega)]
      · rw [if_neg l, if_neg (by omega)]
    rw [hid]
    refine at_fz hf hc7 _ hr (fun x hx hx2 => ?_)
    have : x ∈ r.ids := by
      split at hx2
      · rw [hF] at hx2; exact hx2
      · exact hx2
    exact idsL_apart hn.2 hq hj (fun e2 => e e2.symm) hx this
/-- Its own cells are set. -/
theorem PrL.put (h : PrL w0 w p k c kv pv em en lv (p :: SB.ids.idsL ps) ps F i) (hn : (p :: SB.ids.idsL ps).Nodup) (hF : ∀ j (r : SB), (F j r).ids = r.ids) (e l : Bool) : PrL w0 ((w.setCell ⟨p, 5, none⟩ (.bool e)).setCell ⟨p, 6, none⟩ (.bool l)) p k c kv pv em e l (p :: SB.ids.idsL ps) ps F i := by
  rw [List.nodup_cons] at hn
  have F1 : Fz (fun x => x = p) w ((w.setCell ⟨p, 5, none⟩ (.bool e)).setCell ⟨p, 6, none⟩ (.bool l)) := (Fz.set (X := fun x => x = p) w p 5 _ rfl).trans (Fz.set (X := fun x => x = p) _ p 6 _ rfl)
  have hc := (h.c.set 5 (.bool e)).set 6 (.bool l)
  refine ⟨hc, fun j r hj => ?_, h.f.trans (F1.mono fun x hx => by rw [hx]; exact List.mem_cons_self)⟩
  refine at_fz F1 (fun x hx => by obtain rfl : x = p := hx; exact ⟨_, h.c⟩) _ (h.a j r hj) (fun x hx hx2 => ?_)
  have : x ∈ r.ids := by
    split at hx2
    · rw [hF] at hx2; exact hx2
    · exact hx2
  rw [hx] at this
  exact hn.1 (idsL_mem hj this)
end
theorem any_take_succ {l : List SB} {i : Nat} {x : SB} (f : SB → Bool) (h : l[i]? = some x) : (l.take (i + 1)).any f = ((l.take i).any f || f x) := by
  rw [List.take_add_one, h, Option.toList_some, List.any_append]
  simp
theorem fold_take_succ {l : List SB} {i : Nat} {x : SB} (h : l[i]? = some x) : (l.take (i + 1)).foldl (fun a q => q.en || (a && q.em)) false = (x.en || ((l.take i).foldl (fun a q => q.en || (a && q.em)) false && x.em)) := by
  rw [List.take_add_one, h, Option.toList_some, List.foldl_append]
  rfl
set_option maxHeartbeats 8000000 in
set_option maxRecDepth 100000 in
theorem all_any (m : Int) (b : Bool) (p : Nat) (k c : Int) (kv pv : Value) (em en lv : Bool) (ps : List SB) (w : World) (h : SB.At w (.mk p k c kv pv em en lv ps)) (hnd : (SB.ids (.mk p k c kv pv em en lv ps)).Nodup) (hps : PartsOk m ps) :
    Calls Try.prog 62 #[.pointer (some ⟨p, 0, none⟩), .bool b, .int .i64 m] w fun r w' => r = .returned (.tuple #[]) ∧ SB.At w' (.mk p k c kv pv em ((stepS.allS m ps b).any SB.en) ((stepS.allS m ps b).any SB.lv) (stepS.allS m ps b)) ∧ Fz (fun x => x ∈ SB.ids (.mk p k c kv pv em en lv ps)) w w' := by
  obtain ⟨h1, h2, h3⟩ := at_mk.1 h
  have hids := at_ids _ h
  rw [ids_mk] at hnd hids ⊢
  obtain ⟨hkv, A, cap, rfl, hn5, hrow⟩ := h2
  have hget : ∀ (i : Nat) (q : SB), ps[i]? = some q → (stepS.allS m ps b)[i]? = some (stepS m q b) := fun i q hq => by rw [allS_map, List.getElem?_map, hq]; rfl
  have hlen : (stepS.allS m ps b).length = ps.length := by rw [allS_map, List.length_map]
  have hpsm : (stepS.allS m ps b).map SB.p = ps.map SB.p := all_ps m b ps
  obtain ⟨LS, hLS⟩ : ∃ l, stepS.allS m ps b = l := ⟨_, rfl⟩
  rw [hLS] at hget hlen hpsm ⊢
  obtain ⟨FF, hFF⟩ : ∃ F : Nat → SB → SB, (fun i q => stepS m q b) = F := ⟨_, rfl⟩
  have hFd : ∀ i q, FF i q = stepS m q b := fun i q => by rw [← hFF]
  have hFi : ∀ j (r : SB), (FF j r).ids = r.ids := fun j r => by rw [hFd]; exact (step_ids m r _).1
  obtain ⟨EN, hEN⟩ : ∃ F : Nat → Bool, (fun i => (LS.take i).any SB.en) = F := ⟨_, rfl⟩
  obtain ⟨LV, hLV⟩ : ∃ F : Nat → Bool, (fun i => (LS.take i).any SB.lv) = F := ⟨_, rfl⟩
  have hE0 : EN 0 = false := by rw [← hEN]; simp
  have hL0 : LV 0 = false := by rw [← hLV]; simp
  have hEs : ∀ (i : Nat) (q : SB), ps[i]? = some q → EN (i + 1) = (EN i || (FF i q).en) := fun i q hq => by
    have hg := hget i q hq
    rw [hFd, ← hEN]
    exact any_take_succ SB.en hg
  have hLs : ∀ (i : Nat) (q : SB), ps[i]? = some q → LV (i + 1) = (LV i || (FF i q).lv) := fun i q hq => by
    have hg := hget i q hq
    rw [hFd, ← hLV]
    exact any_take_succ SB.lv hg
  obtain ⟨n, hn⟩ : ∃ n, ps.length = n := ⟨_, rfl⟩
  have htk : LS.take n = LS := List.take_of_length_le (by omega)
  have hEn : EN n = LS.any SB.en := by rw [← hEN]; show (LS.take n).any SB.en = _; rw [htk]
  have hLn : LV n = LS.any SB.lv := by rw [← hLV]; show (LS.take n).any SB.lv = _; rw [htk]
  rw [← hEn, ← hLn]
  have hst : PrL w ((w.setCell ⟨p, 5, none⟩ (.bool false)).setCell ⟨p, 6, none⟩ (.bool false)) p k c kv (.slice A (ps.map SB.p).length cap) em (EN 0) (LV 0) (p :: SB.ids.idsL ps) ps FF 0 := by
    have hb : PrL w w p k c kv (.slice A (ps.map SB.p).length cap) em en lv (p :: SB.ids.idsL ps) ps FF 0 := ⟨h1, fun j q hj => by rw [if_neg (by omega)]; exact atL_iff.1 h3 j q hj, Fz.refl _ _⟩
    rw [hE0, hL0]
    exact hb.put hnd hFi false false
  have d5 : w.cell? ⟨p, 5, none⟩ = some (.bool en) := h1.cell 5
  have d6 : w.cell? ⟨p, 6, none⟩ = some (.bool lv) := h1.cell 6
  have f5 := h1.froz 5
  have f6 := h1.froz 6
  have hmap : (ps.map SB.p).length = n := by rw [List.length_map]; exact hn
  have hrow2 : ∀ (i : Nat) (q : SB), ps[i]? = some q → ∃ g cs, A = some ⟨g, 0, none⟩ ∧ Cells w g 72 cs ∧ cs[i]? = some (.pointer (some ⟨q.p, 0, none⟩)) := fun i q hq => by
    obtain ⟨g, cs, e, hc, hx⟩ := hrow (by intro e; rw [List.map_eq_nil_iff] at e; rw [e] at hq; simp at hq)
    exact ⟨g, cs, e, hc, hx i q.p (by rw [List.getElem?_map, hq]; rfl)⟩
  have hn1 : n ≤ 100000 := by omega
  have hprow : ∀ W, PrL w W p k c kv (.slice A n cap) em (EN n) (LV n) (p :: SB.ids.idsL ps) ps FF n → SB.At W (.mk p k c kv (.slice A n cap) em (EN n) (LV n) LS) := fun W hW => by
    refine at_mk.2 ⟨hW.c, ?_, atL_iff.2 fun j q hq => ?_⟩
    · rw [hpsm, ← hmap]
      exact prow_fz (w := w) ⟨hkv, A, cap, rfl, hn5, hrow⟩ hW.f hids
    · have hj : j < ps.length := by rw [← hlen]; exact (List.getElem?_eq_some_iff.1 hq).1
      obtain ⟨r, hr⟩ : ∃ r, ps[j]? = some r := ⟨_, List.getElem?_eq_getElem hj⟩
      have h6 := hget j r hr
      rw [hq] at h6
      injection h6 with h6
      have h7 := hW.a j r hr
      rw [if_pos (by omega), hFd, ← h6] at h7
      exact h7
  rw [hmap] at hst ⊢
  obtain ⟨W0, hW0⟩ : ∃ W, (w.setCell ⟨p, 5, none⟩ (.bool false)).setCell ⟨p, 6, none⟩ (.bool false) = W := ⟨_, rfl⟩
  rw [hW0] at hst
  have HW := Lib.hid hW0
  have hpp : p < W0.heap.size := hst.c.lt
  have H := Lib.hid (And.intro hrow2 (And.intro hnd (And.intro hps (And.intro hFi (And.intro hEs (And.intro hLs (And.intro hids (And.intro hn (And.intro hprow (And.intro hst hFd))))))))))
  clear h h1 h3 hrow hrow2 hnd hps hget hlen hFi hst hpsm hW0 hn5 hE0 hL0 hEs hLs hEn hLn hprow hids hLS hFF hEN hLV hFd hmap htk hn hkv
  go_enter Try.func62, Try.ntmps62
  go_upto_region 1 with fail
  rw [HW.out]
  clear d5 d6 f5 f6
  have d3 : W0.cell? ⟨p, 3, none⟩ = some (.slice A n cap) := H.out.2.2.2.2.2.2.2.2.2.1.c.cell 3
  go_wp2_with fail
  clear d3
  go_loopw [19] (fun u wr => ∃ i : Nat, u = .int .i64 (i : Int) ∧ i ≤ n ∧  PrL w wr p k c kv (.slice A n cap) em (EN i) (LV i) (p :: SB.ids.idsL ps) ps FF i) (fun u _ => n - (RowKit.intOf u).toNat)
  case atStart => exact ⟨0, rfl, by omega,  H.out.2.2.2.2.2.2.2.2.2.1⟩
  case round =>
    obtain ⟨i, rfl, hi,  hP⟩ := hrel
    by_cases hlt : i < n
    · have i1 : (i : Int) < (n : Int) := by omega
      obtain ⟨q, hq⟩ : ∃ q, ps[i]? = some q := ⟨ps[i]'(by rw [H.out.2.2.2.2.2.2.2.1]; exact hlt), List.getElem?_eq_getElem _⟩
      obtain ⟨g, cs, rfl, hg1, hg2⟩ := H.out.1 i q hq
      have hqa := hP.a i q hq
      rw [if_neg (by omega)] at hqa
      have hgw : g ∉ p :: SB.ids.idsL ps := fun hx => by
        obtain ⟨cs', hc'⟩ := H.out.2.2.2.2.2.2.1 g hx
        exact cells_apart hg1 hc' (by decide) rfl
      have c0 : wr.cell? ⟨g, i, none⟩ = some (.pointer (some ⟨q.p, 0, none⟩)) := by
        have hgr : Cells wr g 72 cs := (hP.f.block g hg1.lt hgw).trans hg1
        rw [hgr.cell i]; exact hg2
      obtain ⟨o4, o5, _, o7⟩ := at_own q hqa
      have hne : p ≠ q.p := fun e => (List.nodup_cons.1 H.out.2.1).1 (idsL_mem hq (by rw [e]; exact p_mem q))
      have hes := H.out.2.2.2.2.1 i q hq
      have hls := H.out.2.2.2.2.2.1 i q hq
      obtain ⟨E, hE⟩ : ∃ E, EN i = E := ⟨_, rfl⟩
      obtain ⟨L, hL⟩ : ∃ L, LV i = L := ⟨_, rfl⟩
      obtain ⟨X, hX⟩ : ∃ X, (FF i q).en = X := ⟨_, rfl⟩
      obtain ⟨Y, hY⟩ : ∃ Y, (FF i q).lv = Y := ⟨_, rfl⟩
      have hfd := H.out.2.2.2.2.2.2.2.2.2.2 i q
      obtain ⟨M, hM⟩ : ∃ M, q.em = M := ⟨_, rfl⟩
      have hem : (FF i q).em = M := by rw [hfd, (step_ids m q _).2.2]; exact hM
      rw [hE, hX] at hes
      rw [hL, hY] at hls
      have hBB : b = b := rfl
      skip
      have C := H.out.2.2.1 i q hq wr b hqa (idsL_nodup (List.nodup_cons.1 H.out.2.1).2 hq)
      have HC := Lib.hid C
      have hst : ∀ w4, (stepS m q b).At w4 → Fz (fun x => x ∈ q.ids) wr w4 → PrL w w4 p k c kv (.slice (some ⟨g, 0, none⟩) n cap) em E L (p :: SB.ids.idsL ps) ps FF (i + 1) := fun w4 k1 k2 => by
        rw [← hE, ← hL]
        exact hP.next H.out.2.1 hq H.out.2.2.2.1 (by rw [hfd]; exact k1) k2
      have hown : ∀ w4, (stepS m q b).At w4 → w4.cell? ⟨q.p, 4, none⟩ = some (.bool M) ∧ w4.cell? ⟨q.p, 5, none⟩ = some (.bool X) ∧ w4.cell? ⟨q.p, 6, none⟩ = some (.bool Y) ∧ q.p < w4.heap.size := fun w4 k1 => by
        have := at_own _ k1
        rw [(step_ids m q b).2.1, (step_ids m q b).2.2, hM] at this
        rw [← hX, ← hY, hfd]
        exact this

      have hend : ∀ w4, (stepS m q b).At w4 → Fz (fun x => x ∈ q.ids) wr w4 → ∀ e' l', e' = EN (i + 1) → l' = LV (i + 1) → ∃ i2 : Nat, Value.int .i64 ((i : Int) + 1) = .int .i64 (i2 : Int) ∧ i2 ≤ n ∧  PrL w ((w4.setCell ⟨p, 5, none⟩ (.bool e')).setCell ⟨p, 6, none⟩ (.bool l')) p k c kv (.slice (some ⟨g, 0, none⟩) n cap) em (EN i2) (LV i2) (p :: SB.ids.idsL ps) ps FF i2 := fun w4 k1 k2 e' l' he hl => by
        subst he hl
        exact ⟨i + 1, by simp, by omega,  (hst w4 k1 k2).put H.out.2.1 H.out.2.2.2.1 _ _⟩
      have HS := Lib.hid (And.intro hst (And.intro hown (And.intro hes (And.intro hls hend))))
      rw [hM] at o4

      clear C hP hq hqa hg1 hg2 hgw hst hown hes hls hE hL hX hY hend hfd hem hM
      clear hBB
      go_wp2_with fail
      refine HC.out.mono ?_
      rintro rr w4 ⟨rfl, ha4, hf4⟩
      have hP4 := HS.out.1 w4 ha4 hf4
      obtain ⟨u4, u5, u6, u7⟩ := HS.out.2.1 w4 ha4
      have e5 : w4.cell? ⟨p, 5, none⟩ = some (.bool E) := hP4.c.cell 5
      have e6 : w4.cell? ⟨p, 6, none⟩ = some (.bool L) := hP4.c.cell 6
      have g5 := hP4.c.froz 5
      have g6 := hP4.c.froz 6
      have gp := hP4.c.lt
      have HEND := Lib.hid (HS.out.2.2.2.2 w4 ha4 hf4)
      clear hP4 ha4 hf4 o4 o5 o7 c0
      cases E with
      | true =>
        cases L with
        | true =>
          have HF := Lib.hid (HEND.out true true (by rw [HS.out.2.2.1]; rfl) (by rw [HS.out.2.2.2.1]; rfl))
          go_wp2_with fail
          go_roundw
          case rel => exact HF.out
          case measure => simp [RowKit.intOf]; omega
        | false =>
          have HF := Lib.hid (HEND.out true Y (by rw [HS.out.2.2.1]; rfl) (by rw [HS.out.2.2.2.1]; rfl))
          go_wp2_with fail
          go_roundw
          case rel => exact HF.out
          case measure => simp [RowKit.intOf]; omega
      | false =>
        cases L with
        | true =>
          have HF := Lib.hid (HEND.out X true (by rw [HS.out.2.2.1]; rfl) (by rw [HS.out.2.2.2.1]; rfl))
          go_wp2_with fail
          go_roundw
          case rel => exact HF.out
          case measure => simp [RowKit.intOf]; omega
        | false =>
          have HF := Lib.hid (HEND.out X Y (by rw [HS.out.2.2.1]; rfl) (by rw [HS.out.2.2.2.1]; rfl))
          go_wp2_with fail
          go_roundw
          case rel => exact HF.out
          case measure => simp [RowKit.intOf]; omega
    · obtain rfl : i = n := by omega
      have i1 : ¬ (i : Int) < (i : Int) := by omega
      have i1' : decide ((i : Int) < (i : Int)) = false := by simp
      have HE := Lib.hid (And.intro (H.out.2.2.2.2.2.2.2.2.1 wr hP) hP.f)
      clear hP
      go_wp2_with fail
      go_end0
      exact ⟨rfl, HE.out.1, HE.out.2.mono fun x hx => List.mem_cons.1 hx⟩
end Go.Proofs.Ytegkogadceodlaa

namespace Go.Proofs.Ytegkogadceodlaa
open Go.RowKit Go.Shelf Go.Lib Go.Maps

set_option maxHeartbeats 8000000 in
set_option maxRecDepth 100000 in
theorem seqP_any (m : Int) (b : Bool) (p : Nat) (k c : Int) (kv pv : Value) (em en lv : Bool) (ps : List SB) (w : World) (h : SB.At w (.mk p k c kv pv em en lv ps)) (hnd : (SB.ids (.mk p k c kv pv em en lv ps)).Nodup) (hps : PartsOk m ps) :
    Calls Try.prog 61 #[.pointer (some ⟨p, 0, none⟩), .bool b, .int .i64 m] w fun r w' => r = .returned (.tuple #[]) ∧ SB.At w' (.mk p k c kv pv em ((stepS.seqS m ps b).foldl (fun a q => q.en || (a && q.em)) false) ((stepS.seqS m ps b).any SB.lv) (stepS.seqS m ps b)) ∧ Fz (fun x => x ∈ SB.ids (.mk p k c kv pv em en lv ps)) w w' := by
  obtain ⟨h1, h2, h3⟩ := at_mk.1 h
  have hids := at_ids _ h
  rw [ids_mk] at hnd hids ⊢
  obtain ⟨hkv, A, cap, rfl, hn5, hrow⟩ := h2
  have hget : ∀ (i : Nat) (q : SB), ps[i]? = some q → (stepS.seqS m ps b)[i]? = some (stepS m q (bgn ps b i)) := fun i q hq => seqS_get m ps b i q hq
  have hlen : (stepS.seqS m ps b).length = ps.length := seqS_len m ps b
  have hpsm : (stepS.seqS m ps b).map SB.p = ps.map SB.p := seq_ps m ps b
  obtain ⟨LS, hLS⟩ : ∃ l, stepS.seqS m ps b = l := ⟨_, rfl⟩
  rw [hLS] at hget hlen hpsm ⊢
  obtain ⟨FF, hFF⟩ : ∃ F : Nat → SB → SB, (fun i q => stepS m q (bgn ps b i)) = F := ⟨_, rfl⟩
  have hFd : ∀ i q, FF i q = stepS m q (bgn ps b i) := fun i q => by rw [← hFF]
  have hFi : ∀ j (r : SB), (FF j r).ids = r.ids := fun j r => by rw [hFd]; exact (step_ids m r _).1
  obtain ⟨EN, hEN⟩ : ∃ F : Nat → Bool, (fun i => (LS.take i).foldl (fun a q => q.en || (a && q.em)) false) = F := ⟨_, rfl⟩
  obtain ⟨LV, hLV⟩ : ∃ F : Nat → Bool, (fun i => (LS.take i).any SB.lv) = F := ⟨_, rfl⟩
  have hE0 : EN 0 = false := by rw [← hEN]; simp
  have hL0 : LV 0 = false := by rw [← hLV]; simp
  have hEs : ∀ (i : Nat) (q : SB), ps[i]? = some q → EN (i + 1) = ((FF i q).en || (EN i && (FF i q).em)) := fun i q hq => by
    have hg := hget i q hq
    rw [hFd, ← hEN]
    exact fold_take_succ hg
  have hLs : ∀ (i : Nat) (q : SB), ps[i]? = some q → LV (i + 1) = (LV i || (FF i q).lv) := fun i q hq => by
    have hg := hget i q hq
    rw [hFd, ← hLV]
    exact any_take_succ SB.lv hg
  obtain ⟨n, hn⟩ : ∃ n, ps.length = n := ⟨_, rfl⟩
  have htk : LS.take n = LS := List.take_of_length_le (by omega)
  have hEn : EN n = LS.foldl (fun a q => q.en || (a && q.em)) false := by rw [← hEN]; show (LS.take n).foldl (fun a q => q.en || (a && q.em)) false = _; rw [htk]
  have hLn : LV n = LS.any SB.lv := by rw [← hLV]; show (LS.take n).any SB.lv = _; rw [htk]
  rw [← hEn, ← hLn]
  have hst : PrL w ((w.setCell ⟨p, 5, none⟩ (.bool false)).setCell ⟨p, 6, none⟩ (.bool false)) p k c kv (.slice A (ps.map SB.p).length cap) em (EN 0) (LV 0) (p :: SB.ids.idsL ps) ps FF 0 := by
    have hb : PrL w w p k c kv (.slice A (ps.map SB.p).length cap) em en lv (p :: SB.ids.idsL ps) ps FF 0 := ⟨h1, fun j q hj => by rw [if_neg (by omega)]; exact atL_iff.1 h3 j q hj, Fz.refl _ _⟩
    rw [hE0, hL0]
    exact hb.put hnd hFi false false
  have d5 : w.cell? ⟨p, 5, none⟩ = some (.bool en) := h1.cell 5
  have d6 : w.cell? ⟨p, 6, none⟩ = some (.bool lv) := h1.cell 6
  have f5 := h1.froz 5
  have f6 := h1.froz 6
  have hmap : (ps.map SB.p).length = n := by rw [List.length_map]; exact hn
  have hrow2 : ∀ (i : Nat) (q : SB), ps[i]? = some q → ∃ g cs, A = some ⟨g, 0, none⟩ ∧ Cells w g 72 cs ∧ cs[i]? = some (.pointer (some ⟨q.p, 0, none⟩)) := fun i q hq => by
    obtain ⟨g, cs, e, hc, hx⟩ := hrow (by intro e; rw [List.map_eq_nil_iff] at e; rw [e] at hq; simp at hq)
    exact ⟨g, cs, e, hc, hx i q.p (by rw [List.getElem?_map, hq]; rfl)⟩
  have hn1 : n ≤ 100000 := by omega
  have hprow : ∀ W, PrL w W p k c kv (.slice A n cap) em (EN n) (LV n) (p :: SB.ids.idsL ps) ps FF n → SB.At W (.mk p k c kv (.slice A n cap) em (EN n) (LV n) LS) := fun W hW => by
    refine at_mk.2 ⟨hW.c, ?_, atL_iff.2 fun j q hq => ?_⟩
    · rw [hpsm, ← hmap]
      exact prow_fz (w := w) ⟨hkv, A, cap, rfl, hn5, hrow⟩ hW.f hids
    · have hj : j < ps.length := by rw [← hlen]; exact (List.getElem?_eq_some_iff.1 hq).1
      obtain ⟨r, hr⟩ : ∃ r, ps[j]? = some r := ⟨_, List.getElem?_eq_getElem hj⟩
      have h6 := hget j r hr
      rw [hq] at h6
      injection h6 with h6
      have h7 := hW.a j r hr
      rw [if_pos (by omega), hFd, ← h6] at h7
      exact h7
  rw [hmap] at hst ⊢
  obtain ⟨W0, hW0⟩ : ∃ W, (w.setCell ⟨p, 5, none⟩ (.bool false)).setCell ⟨p, 6, none⟩ (.bool false) = W := ⟨_, rfl⟩
  rw [hW0] at hst
  have HW := Lib.hid hW0
  have hpp : p < W0.heap.size := hst.c.lt
  have H := Lib.hid (And.intro hrow2 (And.intro hnd (And.intro hps (And.intro hFi (And.intro hEs (And.intro hLs (And.intro hids (And.intro hn (And.intro hprow (And.intro hst hFd))))))))))
  clear h h1 h3 hrow hrow2 hnd hps hget hlen hFi hst hpsm hW0 hn5 hE0 hL0 hEs hLs hEn hLn hprow hids hLS hFF hEN hLV hFd hmap htk hn hkv
  go_enter Try.func61, Try.ntmps61
  go_upto_region 1 with fail
  rw [HW.out]
  clear d5 d6 f5 f6
  have d3 : W0.cell? ⟨p, 3, none⟩ = some (.slice A n cap) := H.out.2.2.2.2.2.2.2.2.2.1.c.cell 3
  go_wp2_with fail
  clear d3
  go_loopw [1, 20] (fun u1 u wr => ∃ i : Nat, u = .int .i64 (i : Int) ∧ i ≤ n ∧ u1 = .bool (bgn ps b i) ∧ PrL w wr p k c kv (.slice A n cap) em (EN i) (LV i) (p :: SB.ids.idsL ps) ps FF i) (fun _ u _ => n - (RowKit.intOf u).toNat)
  case atStart => exact ⟨0, rfl, by omega, rfl, H.out.2.2.2.2.2.2.2.2.2.1⟩
  case round =>
    obtain ⟨i, rfl, hi, rfl, hP⟩ := hrel
    by_cases hlt : i < n
    · have i1 : (i : Int) < (n : Int) := by omega
      obtain ⟨q, hq⟩ : ∃ q, ps[i]? = some q := ⟨ps[i]'(by rw [H.out.2.2.2.2.2.2.2.1]; exact hlt), List.getElem?_eq_getElem _⟩
      obtain ⟨g, cs, rfl, hg1, hg2⟩ := H.out.1 i q hq
      have hqa := hP.a i q hq
      rw [if_neg (by omega)] at hqa
      have hgw : g ∉ p :: SB.ids.idsL ps := fun hx => by
        obtain ⟨cs', hc'⟩ := H.out.2.2.2.2.2.2.1 g hx
        exact cells_apart hg1 hc' (by decide) rfl
      have c0 : wr.cell? ⟨g, i, none⟩ = some (.pointer (some ⟨q.p, 0, none⟩)) := by
        have hgr : Cells wr g 72 cs := (hP.f.block g hg1.lt hgw).trans hg1
        rw [hgr.cell i]; exact hg2
      obtain ⟨o4, o5, _, o7⟩ := at_own q hqa
      have hne : p ≠ q.p := fun e => (List.nodup_cons.1 H.out.2.1).1 (idsL_mem hq (by rw [e]; exact p_mem q))
      have hes := H.out.2.2.2.2.1 i q hq
      have hls := H.out.2.2.2.2.2.1 i q hq
      obtain ⟨E, hE⟩ : ∃ E, EN i = E := ⟨_, rfl⟩
      obtain ⟨L, hL⟩ : ∃ L, LV i = L := ⟨_, rfl⟩
      obtain ⟨X, hX⟩ : ∃ X, (FF i q).en = X := ⟨_, rfl⟩
      obtain ⟨Y, hY⟩ : ∃ Y, (FF i q).lv = Y := ⟨_, rfl⟩
      have hfd := H.out.2.2.2.2.2.2.2.2.2.2 i q
      obtain ⟨M, hM⟩ : ∃ M, q.em = M := ⟨_, rfl⟩
      have hem : (FF i q).em = M := by rw [hfd, (step_ids m q _).2.2]; exact hM
      rw [hE, hX, hem] at hes
      rw [hL, hY] at hls
      obtain ⟨BB, hBB⟩ : ∃ BB, (bgn ps b i) = BB := ⟨_, rfl⟩
      rw [hBB] at hfd
      have C := H.out.2.2.1 i q hq wr BB hqa (idsL_nodup (List.nodup_cons.1 H.out.2.1).2 hq)
      have HC := Lib.hid C
      have hst : ∀ w4, (stepS m q BB).At w4 → Fz (fun x => x ∈ q.ids) wr w4 → PrL w w4 p k c kv (.slice (some ⟨g, 0, none⟩) n cap) em E L (p :: SB.ids.idsL ps) ps FF (i + 1) := fun w4 k1 k2 => by
        rw [← hE, ← hL]
        exact hP.next H.out.2.1 hq H.out.2.2.2.1 (by rw [hfd]; exact k1) k2
      have hown : ∀ w4, (stepS m q BB).At w4 → w4.cell? ⟨q.p, 4, none⟩ = some (.bool M) ∧ w4.cell? ⟨q.p, 5, none⟩ = some (.bool X) ∧ w4.cell? ⟨q.p, 6, none⟩ = some (.bool Y) ∧ q.p < w4.heap.size := fun w4 k1 => by
        have := at_own _ k1
        rw [(step_ids m q BB).2.1, (step_ids m q BB).2.2, hM] at this
        rw [← hX, ← hY, hfd]
        exact this
      obtain ⟨NX, hNX⟩ : ∃ NX, bgn ps b (i + 1) = NX := ⟨_, rfl⟩
      have hnx : NX = (q.en || (BB && M)) := by
        rw [← hNX, ← hBB, ← hM]
        show (match ps[i]? with | some q => q.en || (bgn ps b i && q.em) | none => false) = _
        rw [hq]
      have hend : ∀ w4, (stepS m q BB).At w4 → Fz (fun x => x ∈ q.ids) wr w4 → ∀ e' l', e' = EN (i + 1) → l' = LV (i + 1) → ∃ i2 : Nat, Value.int .i64 ((i : Int) + 1) = .int .i64 (i2 : Int) ∧ i2 ≤ n ∧ Value.bool NX = .bool (bgn ps b i2) ∧ PrL w ((w4.setCell ⟨p, 5, none⟩ (.bool e')).setCell ⟨p, 6, none⟩ (.bool l')) p k c kv (.slice (some ⟨g, 0, none⟩) n cap) em (EN i2) (LV i2) (p :: SB.ids.idsL ps) ps FF i2 := fun w4 k1 k2 e' l' he hl => by
        subst he hl
        exact ⟨i + 1, by simp, by omega, by rw [hNX], (hst w4 k1 k2).put H.out.2.1 H.out.2.2.2.1 _ _⟩
      have HS := Lib.hid (And.intro hst (And.intro hown (And.intro hes (And.intro hls hend))))
      rw [hM] at o4
      obtain ⟨QE, hQE⟩ : ∃ QE, q.en = QE := ⟨_, rfl⟩
      rw [hQE] at o5 hnx
      have HNX := Lib.hid hnx
      rw [hBB]
      clear C hP hq hqa hg1 hg2 hgw hst hown hes hls hE hL hX hY hend hfd hem hM
      clear hQE hnx hBB hNX
      cases QE with
      | true =>
        obtain rfl : NX = true := HNX.out
        go_wp2_with fail
        refine HC.out.mono ?_
        rintro rr w4 ⟨rfl, ha4, hf4⟩
        have hP4 := HS.out.1 w4 ha4 hf4
        obtain ⟨u4, u5, u6, u7⟩ := HS.out.2.1 w4 ha4
        have e5 : w4.cell? ⟨p, 5, none⟩ = some (.bool E) := hP4.c.cell 5
        have e6 : w4.cell? ⟨p, 6, none⟩ = some (.bool L) := hP4.c.cell 6
        have g5 := hP4.c.froz 5
        have g6 := hP4.c.froz 6
        have gp := hP4.c.lt
        have HEND := Lib.hid (HS.out.2.2.2.2 w4 ha4 hf4)
        clear hP4 ha4 hf4 o4 o5 o7 c0
        cases X with
        | true =>
          cases L with
          | true =>
            have HF := Lib.hid (HEND.out true true (by rw [HS.out.2.2.1]; rfl) (by rw [HS.out.2.2.2.1]; rfl))
            go_wp2_with fail
            go_roundw
            case rel => exact HF.out
            case measure => simp [RowKit.intOf]; omega
          | false =>
            have HF := Lib.hid (HEND.out true Y (by rw [HS.out.2.2.1]; rfl) (by rw [HS.out.2.2.2.1]; rfl))
            go_wp2_with fail
            go_roundw
            case rel => exact HF.out
            case measure => simp [RowKit.intOf]; omega
        | false =>
          cases E with
          | true =>
            cases L with
            | true =>
              have HF := Lib.hid (HEND.out M true (by rw [HS.out.2.2.1]; rfl) (by rw [HS.out.2.2.2.1]; rfl))
              go_wp2_with fail
              go_roundw
              case rel => exact HF.out
              case measure => simp [RowKit.intOf]; omega
            | false =>
              have HF := Lib.hid (HEND.out M Y (by rw [HS.out.2.2.1]; rfl) (by rw [HS.out.2.2.2.1]; rfl))
              go_wp2_with fail
              go_roundw
              case rel => exact HF.out
              case measure => simp [RowKit.intOf]; omega
          | false =>
            cases L with
            | true =>
              have HF := Lib.hid (HEND.out false true (by rw [HS.out.2.2.1]; rfl) (by rw [HS.out.2.2.2.1]; rfl))
              go_wp2_with fail
              go_roundw
              case rel => exact HF.out
              case measure => simp [RowKit.intOf]; omega
            | false =>
              have HF := Lib.hid (HEND.out false Y (by rw [HS.out.2.2.1]; rfl) (by rw [HS.out.2.2.2.1]; rfl))
              go_wp2_with fail
              go_roundw
              case rel => exact HF.out
              case measure => simp [RowKit.intOf]; omega
      | false =>
        cases BB with
        | true =>
          obtain rfl : M = NX := by rw [HNX.out]; rfl
          go_wp2_with fail
          refine HC.out.mono ?_
          rintro rr w4 ⟨rfl, ha4, hf4⟩
          have hP4 := HS.out.1 w4 ha4 hf4
          obtain ⟨u4, u5, u6, u7⟩ := HS.out.2.1 w4 ha4
          have e5 : w4.cell? ⟨p, 5, none⟩ = some (.bool E) := hP4.c.cell 5
          have e6 : w4.cell? ⟨p, 6, none⟩ = some (.bool L) := hP4.c.cell 6
          have g5 := hP4.c.froz 5
          have g6 := hP4.c.froz 6
          have gp := hP4.c.lt
          have HEND := Lib.hid (HS.out.2.2.2.2 w4 ha4 hf4)
          clear hP4 ha4 hf4 o4 o5 o7 c0
          cases X with
          | true =>
            cases L with
            | true =>
              have HF := Lib.hid (HEND.out true true (by rw [HS.out.2.2.1]; rfl) (by rw [HS.out.2.2.2.1]; rfl))
              go_wp2_with fail
              go_roundw
              case rel => exact HF.out
              case measure => simp [RowKit.intOf]; omega
            | false =>
              have HF := Lib.hid (HEND.out true Y (by rw [HS.out.2.2.1]; rfl) (by rw [HS.out.2.2.2.1]; rfl))
              go_wp2_with fail
              go_roundw
              case rel => exact HF.out
              case measure => simp [RowKit.intOf]; omega
          | false =>
            cases E with
            | true =>
              cases L with
              | true =>
                have HF := Lib.hid (HEND.out M true (by rw [HS.out.2.2.1]; rfl) (by rw [HS.out.2.2.2.1]; rfl))
                go_wp2_with fail
                go_roundw
                case rel => exact HF.out
                case measure => simp [RowKit.intOf]; omega
              | false =>
                have HF := Lib.hid (HEND.out M Y (by rw [HS.out.2.2.1]; rfl) (by rw [HS.out.2.2.2.1]; rfl))
                go_wp2_with fail
                go_roundw
                case rel => exact HF.out
                case measure => simp [RowKit.intOf]; omega
            | false =>
              cases L with
              | true =>
                have HF := Lib.hid (HEND.out false true (by rw [HS.out.2.2.1]; rfl) (by rw [HS.out.2.2.2.1]; rfl))
                go_wp2_with fail
                go_roundw
                case rel => exact HF.out
                case measure => simp [RowKit.intOf]; omega
              | false =>
                have HF := Lib.hid (HEND.out false Y (by rw [HS.out.2.2.1]; rfl) (by rw [HS.out.2.2.2.1]; rfl))
                go_wp2_with fail
                go_roundw
                case rel => exact HF.out
                case measure => simp [RowKit.intOf]; omega
        | false =>
          obtain rfl : NX = false := HNX.out
          go_wp2_with fail
          refine HC.out.mono ?_
          rintro rr w4 ⟨rfl, ha4, hf4⟩
          have hP4 := HS.out.1 w4 ha4 hf4
          obtain ⟨u4, u5, u6, u7⟩ := HS.out.2.1 w4 ha4
          have e5 : w4.cell? ⟨p, 5, none⟩ = some (.bool E) := hP4.c.cell 5
          have e6 : w4.cell? ⟨p, 6, none⟩ = some (.bool L) := hP4.c.cell 6
          have g5 := hP4.c.froz 5
          have g6 := hP4.c.froz 6
          have gp := hP4.c.lt
          have HEND := Lib.hid (HS.out.2.2.2.2 w4 ha4 hf4)
          clear hP4 ha4 hf4 o4 o5 o7 c0
          cases X with
          | true =>
            cases L with
            | true =>
              have HF := Lib.hid (HEND.out true true (by rw [HS.out.2.2.1]; rfl) (by rw [HS.out.2.2.2.1]; rfl))
              go_wp2_with fail
              go_roundw
              case rel => exact HF.out
              case measure => simp [RowKit.intOf]; omega
            | false =>
              have HF := Lib.hid (HEND.out true Y (by rw [HS.out.2.2.1]; rfl) (by rw [HS.out.2.2.2.1]; rfl))
              go_wp2_with fail
              go_roundw
              case rel => exact HF.out
              case measure => simp [RowKit.intOf]; omega
          | false =>
            cases E with
            | true =>
              cases L with
              | true =>
                have HF := Lib.hid (HEND.out M true (by rw [HS.out.2.2.1]; rfl) (by rw [HS.out.2.2.2.1]; rfl))
                go_wp2_with fail
                go_roundw
                case rel => exact HF.out
                case measure => simp [RowKit.intOf]; omega
              | false =>
                have HF := Lib.hid (HEND.out M Y (by rw [HS.out.2.2.1]; rfl) (by rw [HS.out.2.2.2.1]; rfl))
                go_wp2_with fail
                go_roundw
                case rel => exact HF.out
                case measure => simp [RowKit.intOf]; omega
            | false =>
              cases L with
              | true =>
                have HF := Lib.hid (HEND.out false true (by rw [HS.out.2.2.1]; rfl) (by rw [HS.out.2.2.2.1]; rfl))
                go_wp2_with fail
                go_roundw
                case rel => exact HF.out
                case measure => simp [RowKit.intOf]; omega
              | false =>
                have HF := Lib.hid (HEND.out false Y (by rw [HS.out.2.2.1]; rfl) (by rw [HS.out.2.2.2.1]; rfl))
                go_wp2_with fail
                go_roundw
                case rel => exact HF.out
                case measure => simp [RowKit.intOf]; omega
    · obtain rfl : i = n := by omega
      have i1 : ¬ (i : Int) < (i : Int) := by omega
      have i1' : decide ((i : Int) < (i : Int)) = false := by simp
      have HE := Lib.hid (And.intro (H.out.2.2.2.2.2.2.2.2.1 wr hP) hP.f)
      clear hP
      go_wp2_with fail
      go_end0
      exact ⟨rfl, HE.out.1, HE.out.2.mono fun x hx => List.mem_cons.1 hx⟩
end Go.Proofs.Ytegkogadceodlaa

namespace Go.Proofs.Ytegkogadceodlaa
open Go.RowKit Go.Shelf Go.Lib Go.Maps

theorem idsL_len {ps : List SB} {i : Nat} {q : SB} (h : ps[i]? = some q) : q.ids.length ≤ (SB.ids.idsL ps).length := by
  induction ps generalizing i with
  | nil => simp at h
  | cons s r ih =>
    rw [idsL_cons, List.length_append]
    cases i with
    | zero => simp at h; subst h; omega
    | succ i => rw [List.getElem?_cons_succ] at h; have := ih h; omega
theorem step_dead {m : Int} {p : Nat} {k c : Int} {kv pv : Value} {em en : Bool} {ps : List SB} : stepS m (.mk p k c kv pv em en false ps) false = .mk p k c kv pv em en false ps := by
  conv => lhs; unfold stepS
  exact if_pos (by decide)
theorem step_at {m : Int} {p : Nat} {k c : Int} {kv pv : Value} {em en lv b : Bool} {ps : List SB} (h : (!b && !lv) = false) : stepS m (.mk p k c kv pv em en lv ps) b = (if k = 4 then .mk p k c kv pv em ((stepS.seqS m ps b).foldl (fun a q => q.en || (a && q.em)) false) ((stepS.seqS m ps b).any SB.lv) (stepS.seqS m ps b)
    else if k = 6 ∨ k = 7 then .mk p k c kv pv em ((stepS.allS m ps (b || en)).any SB.en) ((stepS.allS m ps (b || en)).any SB.lv) (stepS.allS m ps (b || en))
    else if k = 5 ∨ k = 8 then .mk p k c kv pv em ((stepS.allS m ps b).any SB.en) ((stepS.allS m ps b).any SB.lv) (stepS.allS m ps b)
    else .mk p k c kv pv em (b && takesG k c m) (b && takesG k c m) ps) := by
  conv => lhs; unfold stepS
  rw [if_neg (by rw [h]; decide)]
set_option maxHeartbeats 8000000 in
set_option maxRecDepth 100000 in
theorem stepP_any (m : Int) : ∀ N (s : SB), s.ids.length ≤ N → ∀ (w : World) (b : Bool), s.At w → s.ids.Nodup → Calls Try.prog 39 #[.pointer (some ⟨s.p, 0, none⟩), .bool b, .int .i64 m] w (StepOk w s b m) := by
  intro N
  induction N with
  | zero =>
    intro s hs
    have := List.length_pos_of_mem (p_mem s)
    omega
  | succ N ih =>
    intro s hs w b hat hnd
    obtain ⟨p, k, c, kv, pv, em, en, lv, ps⟩ := s
    have hps : PartsOk m ps := fun i q hq w b h1 h2 => ih q (by
      have := idsL_len hq
      rw [ids_mk, List.length_cons] at hs
      omega) w b h1 h2
    have h1 := (at_mk.1 hat).1
    have d0 : w.cell? ⟨p, 0, none⟩ = some (.int .i64 k) := h1.cell 0
    have d1 : w.cell? ⟨p, 1, none⟩ = some (.int .i64 c) := h1.cell 1
    have d2 : w.cell? ⟨p, 2, none⟩ = some kv := h1.cell 2
    have d5 : w.cell? ⟨p, 5, none⟩ = some (.bool en) := h1.cell 5
    have d6 : w.cell? ⟨p, 6, none⟩ = some (.bool lv) := h1.cell 6
    have f5 := h1.froz 5
    have f6 := h1.froz 6
    have hpw := h1.lt
    have HA := Lib.hid (fun b' => all_any m b' p k c kv pv em en lv ps w hat hnd hps)
    have HS := Lib.hid (seqP_any m b p k c kv pv em en lv ps w hat hnd hps)
    have HH := Lib.hid hat
    have HN := Lib.hid hnd
    have H1 := Lib.hid h1
    show Calls Try.prog 39 #[.pointer (some ⟨p, 0, none⟩), .bool b, .int .i64 m] w _
    clear ih hs hps h1 hat hnd
    by_cases hd : (!b && !lv) = true
    · obtain ⟨rfl, rfl⟩ : b = false ∧ lv = false := by cases b <;> cases lv <;> simp_all
      have HF := Lib.hid (show StepOk w (.mk p k c kv pv em en false ps) false m (.returned (.tuple #[])) w from ⟨rfl, by rw [step_dead]; exact HH.out, Fz.refl _ _⟩)
      clear hd
      go_enter Try.func39, Try.ntmps39
      go_wp2_with fail
      go_end0
      exact HF.out
    · have hd' : (!b && !lv) = false := by simpa using hd
      have HST := Lib.hid (step_at (m := m) (p := p) (k := k) (c := c) (kv := kv) (pv := pv) (em := em) (en := en) (ps := ps) hd')
      obtain ⟨R, hR⟩ : ∃ R, stepS m (.mk p k c kv pv em en lv ps) b = R := ⟨_, rfl⟩
      rw [hR] at HST
      have hgoal : ∀ w', R.At w' → Fz (fun x => x ∈ SB.ids (.mk p k c kv pv em en lv ps)) w w' → StepOk w (.mk p k c kv pv em en lv ps) b m (.returned (.tuple #[])) w' := fun w' k1 k2 => ⟨rfl, by rw [hR]; exact k1, k2⟩
      have HG := Lib.hid hgoal
      clear hgoal hR hd
      by_cases h4 : k = 4
      · have q4 : (k == 4) = true := by simpa using h4
        have HK := Lib.hid (HST.out.trans (if_pos h4))
        clear h4
        cases b with
        | true =>
          go_enter Try.func39, Try.ntmps39
          go_wp2_with fail
          refine HS.out.mono ?_
          rintro r w2 ⟨rfl, ha, hf⟩
          have HF := Lib.hid (HG.out w2 (by rw [HK.out]; exact ha) hf)
          clear ha hf
          go_wp2_with fail
          go_end0
          exact HF.out
        | false =>
          obtain rfl : lv = true := by cases lv <;> simp_all
          go_enter Try.func39, Try.ntmps39
          go_wp2_with fail
          refine HS.out.mono ?_
          rintro r w2 ⟨rfl, ha, hf⟩
          have HF := Lib.hid (HG.out w2 (by rw [HK.out]; exact ha) hf)
          clear ha hf
          go_wp2_with fail
          go_end0
          exact HF.out
      · have q4 : (k == 4) = false := by simpa using h4
        have hst4 := HST.out.trans (if_neg h4)
        by_cases h67 : k = 6 ∨ k = 7
        · have HK := Lib.hid (hst4.trans (if_pos h67))
          clear hst4
          by_cases h6 : k = 6
          · have q6 : (k == 6) = true := by simpa using h6
            clear h4 h67 h6
            cases b with
            | true =>
              go_enter Try.func39, Try.ntmps39
              go_wp2_with fail
              refine (HA.out true).mono ?_
              rintro r w2 ⟨rfl, ha, hf⟩
              have HF := Lib.hid (HG.out w2 (by rw [HK.out]; exact ha) hf)
              clear ha hf
              go_wp2_with fail
              go_end0
              exact HF.out
            | false =>
              obtain rfl : lv = true := by cases lv <;> simp_all
              go_enter Try.func39, Try.ntmps39
              go_wp2_with fail
              refine (HA.out en).mono ?_
              rintro r w2 ⟨rfl, ha, hf⟩
              have HF := Lib.hid (HG.out w2 (by rw [HK.out]; exact ha) hf)
              clear ha hf
              go_wp2_with fail
              go_end0
              exact HF.out
          · have q6 : (k == 6) = false := by simpa using h6
            have q7 : (k == 7) = true := by simp; omega
            clear h4 h67 h6
            cases b with
            | true =>
              go_enter Try.func39, Try.ntmps39
              go_wp2_with fail
              refine (HA.out true).mono ?_
              rintro r w2 ⟨rfl, ha, hf⟩
              have HF := Lib.hid (HG.out w2 (by rw [HK.out]; exact ha) hf)
              clear ha hf
              go_wp2_with fail
              go_end0
              exact HF.out
            | false =>
              obtain rfl : lv = true := by cases lv <;> simp_all
              go_enter Try.func39, Try.ntmps39
              go_wp2_with fail
              refine (HA.out en).mono ?_
              rintro r w2 ⟨rfl, ha, hf⟩
              have HF := Lib.hid (HG.out w2 (by rw [HK.out]; exact ha) hf)
              clear ha hf
              go_wp2_with fail
              go_end0
              exact HF.out
        · have hst6 := hst4.trans (if_neg h67)
          have q6 : (k == 6) = false := by simp; omega
          have q7 : (k == 7) = false := by simp; omega
          by_cases h58 : k = 5 ∨ k = 8
          · have HK := Lib.hid (hst6.trans (if_pos h58))
            clear hst4 hst6
            by_cases h5 : k = 5
            · have q5 : (k == 5) = true := by simpa using h5
              clear h4 h67 h58 h5
              cases b with
              | true =>
                go_enter Try.func39, Try.ntmps39
                go_wp2_with fail
                refine (HA.out true).mono ?_
                rintro r w2 ⟨rfl, ha, hf⟩
                have HF := Lib.hid (HG.out w2 (by rw [HK.out]; exact ha) hf)
                clear ha hf
                go_wp2_with fail
                go_end0
                exact HF.out
              | false =>
                obtain rfl : lv = true := by cases lv <;> simp_all
                go_enter Try.func39, Try.ntmps39
                go_wp2_with fail
                refine (HA.out false).mono ?_
                rintro r w2 ⟨rfl, ha, hf⟩
                have HF := Lib.hid (HG.out w2 (by rw [HK.out]; exact ha) hf)
                clear ha hf
                go_wp2_with fail
                go_end0
                exact HF.out
            · have q5 : (k == 5) = false := by simpa using h5
              have q8 : (k == 8) = true := by simp; omega
              clear h4 h67 h58 h5
              cases b with
              | true =>
                go_enter Try.func39, Try.ntmps39
                go_wp2_with fail
                refine (HA.out true).mono ?_
                rintro r w2 ⟨rfl, ha, hf⟩
                have HF := Lib.hid (HG.out w2 (by rw [HK.out]; exact ha) hf)
                clear ha hf
                go_wp2_with fail
                go_end0
                exact HF.out
              | false =>
                obtain rfl : lv = true := by cases lv <;> simp_all
                go_enter Try.func39, Try.ntmps39
                go_wp2_with fail
                refine (HA.out false).mono ?_
                rintro r w2 ⟨rfl, ha, hf⟩
                have HF := Lib.hid (HG.out w2 (by rw [HK.out]; exact ha) hf)
                clear ha hf
                go_wp2_with fail
                go_end0
                exact HF.out
          · have q5 : (k == 5) = false := by simp; omega
            have q8 : (k == 8) = false := by simp; omega
            have HK := Lib.hid (hst6.trans (if_neg h58))
            clear hst4 hst6 h4 h67 h58
            obtain ⟨_, ⟨⟨A, n, cp, rfl⟩, _⟩, _⟩ := at_mk.1 HH.out
            have hfin : ∀ (w2 : World) (v : Bool), Fz (fun _ => False) w w2 → SB.At ((w2.setCell ⟨p, 5, none⟩ (.bool v)).setCell ⟨p, 6, none⟩ (.bool v)) (.mk p k c (.slice A n cp) pv em v v ps) ∧ Fz (fun x => x ∈ SB.ids (.mk p k c (.slice A n cp) pv em en lv ps)) w ((w2.setCell ⟨p, 5, none⟩ (.bool v)).setCell ⟨p, 6, none⟩ (.bool v)) ∧ Cells w2 p 76 (sbC k c (.slice A n cp) pv em en lv) := fun w2 v hF => by
              have h2 := at_fz hF (fun x hx => hx.elim) _ HH.out (fun x hx => hx.elim)
              obtain ⟨a1, a2, a3⟩ := at_mk.1 h2
              have hn := HN.out
              rw [ids_mk, List.nodup_cons] at hn
              have F1 : Fz (fun x => x = p) w2 ((w2.setCell ⟨p, 5, none⟩ (.bool v)).setCell ⟨p, 6, none⟩ (.bool v)) := (Fz.set (X := fun x => x = p) w2 p 5 _ rfl).trans (Fz.set (X := fun x => x = p) _ p 6 _ rfl)
              have hX : ∀ x, x = p → ∃ cs, Cells w2 x 76 cs := fun x hx => by subst hx; exact ⟨_, a1⟩
              exact ⟨at_mk.2 ⟨(a1.set 5 (.bool v)).set 6 (.bool v), prow_fz a2 F1 hX, atL_fz F1 hX ps a3 (fun x hx hx2 => by subst hx; exact hn.1 hx2)⟩, (hF.mono fun x hx => hx.elim).trans (F1.mono fun x hx => by subst hx; rw [ids_mk]; exact List.mem_cons_self), a1⟩
            have HFI := Lib.hid hfin
            clear hfin
            cases b with
            | true =>
              have HC := Lib.hid (fun W => takes_any k c m A n cp W)
              go_enter Try.func39, Try.ntmps39
              go_wp2_with fail
              refine (HC.out _).mono ?_
              rintro r w2 ⟨rfl, hb2⟩
              have hF := HFI.out w2 (takesG k c m) (Fz.of_below hb2)
              have e5 : w2.cell? ⟨p, 5, none⟩ = some (.bool en) := hF.2.2.cell 5
              have e6 : w2.cell? ⟨p, 6, none⟩ = some (.bool lv) := hF.2.2.cell 6
              have g5 := hF.2.2.froz 5
              have g6 := hF.2.2.froz 6
              have gp := hF.2.2.lt
              have HF := Lib.hid (HG.out _ (by rw [HK.out]; exact hF.1) hF.2.1)
              clear hF hb2 d0 d1 d2 d5 d6 f5 f6
              go_wp2_with fail
              go_end0
              exact HF.out
            | false =>
              obtain rfl : lv = true := by cases lv <;> simp_all
              have hF := HFI.out w false (Fz.refl _ _)
              have HF := Lib.hid (HG.out _ (by rw [HK.out]; exact hF.1) hF.2.1)
              clear hF
              go_enter Try.func39, Try.ntmps39
              go_wp2_with fail
              go_end0
              exact HF.out
end Go.Proofs.Ytegkogadceodlaa

namespace Go.Proofs.Ytegkogadceodlaa
open Go.RowKit Go.Shelf Go.Lib Go.Maps

def SB.rows : SB → List Nat
  | .mk _ _ _ _ pv _ _ _ ps => (match pv.ownBlock with | some g => [g] | none => []) ++ rowsL ps
where
  rowsL : List SB → List Nat
    | [] => []
    | s :: r => SB.rows s ++ rowsL r
theorem rows_mk {p : Nat} {k c : Int} {kv pv : Value} {em en lv : Bool} {ps : List SB} : SB.rows (.mk p k c kv pv em en lv ps) = (match pv.ownBlock with | some g => [g] | none => []) ++ SB.rows.rowsL ps := by conv => lhs; unfold SB.rows
theorem rowsL_cons {s : SB} {r : List SB} : SB.rows.rowsL (s :: r) = SB.rows s ++ SB.rows.rowsL r := by conv => lhs; unfold SB.rows.rowsL
theorem rowsL_app : ∀ (a b : List SB), SB.rows.rowsL (a ++ b) = SB.rows.rowsL a ++ SB.rows.rowsL b
  | [], b => by simp [SB.rows.rowsL]
  | s :: r, b => by rw [List.cons_append, rowsL_cons, rowsL_cons, rowsL_app r b, List.append_assoc]
theorem idsL_app : ∀ (a b : List SB), SB.ids.idsL (a ++ b) = SB.ids.idsL a ++ SB.ids.idsL b
  | [], b => by simp [SB.ids.idsL]
  | s :: r, b => by rw [List.cons_append, idsL_cons, idsL_cons, idsL_app r b, List.append_assoc]
theorem idsL_one (s : SB) : SB.ids.idsL [s] = s.ids := by rw [idsL_cons]; simp [SB.ids.idsL]
theorem rowsL_one (s : SB) : SB.rows.rowsL [s] = s.rows := by rw [rowsL_cons]; simp [SB.rows.rowsL]
theorem prow_fz2 {w w' : World} {X : Nat → Prop} {kv pv : Value} {qs : List Nat} (h : PRow w kv pv qs) (F : Fz X w w') (hX : ∀ k, X k → pv.ownBlock ≠ some k) : PRow w' kv pv qs := by
  obtain ⟨hkv, A, cap, rfl, hl, hr⟩ := h
  refine ⟨hkv, A, cap, rfl, hl, fun hne => ?_⟩
  obtain ⟨g, cs, rfl, hc, hq⟩ := hr hne
  exact ⟨g, cs, rfl, (F.block g hc.lt (fun hx => hX g hx rfl)).trans hc, hq⟩
mutual
theorem at_fz2 {w w' : World} {X : Nat → Prop} (F : Fz X w w') : ∀ (s : SB), s.At w → (∀ k, X k → k ∉ s.ids ∧ k ∉ s.rows) → s.At w'
  | .mk p k c kv pv em en lv ps, h, hn => by
    obtain ⟨h1, h2, h3⟩ := at_mk.1 h
    refine at_mk.2 ⟨(F.block p h1.lt (fun hx => (hn p hx).1 (by rw [ids_mk]; exact List.mem_cons_self))).trans h1, prow_fz2 h2 F (fun k hk e => (hn k hk).2 (by rw [rows_mk, e]; simp)), atL_fz2 F ps h3 (fun k hk => ⟨fun hx => (hn k hk).1 (by rw [ids_mk]; exact List.mem_cons_of_mem _ hx), fun hx => (hn k hk).2 (by rw [rows_mk]; exact List.mem_append.2 (.inr hx))⟩)⟩
theorem atL_fz2 {w w' : World} {X : Nat → Prop} (F : Fz X w w') : ∀ (ps : List SB), SB.At.AtL w ps → (∀ k, X k → k ∉ SB.ids.idsL ps ∧ k ∉ SB.rows.rowsL ps) → SB.At.AtL w' ps
  | [], _, _ => by unfold SB.At.AtL; trivial
  | s :: r, h, hn => by
    obtain ⟨h1, h2⟩ := atL_cons.1 h
    exact atL_cons.2 ⟨at_fz2 F s h1 (fun k hk => ⟨fun hx => (hn k hk).1 (by rw [idsL_cons]; exact List.mem_append.2 (.inl hx)), fun hx => (hn k hk).2 (by rw [rowsL_cons]; exact List.mem_append.2 (.inl hx))⟩), atL_fz2 F r h2 (fun k hk => ⟨fun hx => (hn k hk).1 (by rw [idsL_cons]; exact List.mem_append.2 (.inr hx)), fun hx => (hn k hk).2 (by rw [rowsL_cons]; exact List.mem_append.2 (.inr hx))⟩)⟩
end
theorem atL_app {w : World} {a b : List SB} (h1 : SB.At.AtL w a) (h2 : SB.At.AtL w b) : SB.At.AtL w (a ++ b) := by
  induction a with
  | nil => exact h2
  | cons s r ih =>
    obtain ⟨k1, k2⟩ := atL_cons.1 h1
    exact atL_cons.2 ⟨k1, ih k2⟩
theorem atL_one {w : World} {s : SB} (h : s.At w) : SB.At.AtL w [s] := atL_cons.2 ⟨h, by unfold SB.At.AtL; trivial⟩
def cntE (ss : List SB) : Nat := (ss.filter SB.em).length
theorem cntE_snoc (ss : List SB) (s : SB) : cntE (ss ++ [s]) = cntE ss + if s.em then 1 else 0 := by
  unfold cntE
  rw [List.filter_append, List.length_append]
  cases h : s.em <;> simp [h]
theorem cntE_le (ss : List SB) : cntE ss ≤ ss.length := List.length_filter_le _ _
def emK (k : Int) (ps : List SB) : Bool := if k = 6 ∨ k = 8 ∨ k = 9 then true else if k = 5 then decide (0 < cntE ps) else if k = 4 ∨ k = 7 then decide (cntE ps = ps.length) else false
/-- The state of an expression ahead of all marks. -/
def FreshS : E → SB → Prop
  | .mk k c ks, .mk _ k' c' _ _ em en lv ps => k' = k ∧ c' = c ∧ en = false ∧ lv = false ∧ em = emK k ps ∧ FreshL ks ps
where
  FreshL : List E → List SB → Prop
    | [], [] => True
    | e :: r, s :: t => FreshS e s ∧ FreshL r t
    | [], _ :: _ => False
    | _ :: _, [] => False
theorem freshL_snoc : ∀ {a : List E} {b : List SB} {e : E} {s : SB}, FreshS.FreshL a b → FreshS e s → FreshS.FreshL (a ++ [e]) (b ++ [s])
  | [], [], e, s, _, h => by simp only [List.nil_append]; unfold FreshS.FreshL; exact ⟨h, by unfold FreshS.FreshL; trivial⟩
  | x :: r, y :: t, e, s, h, hs => by
    simp only [List.cons_append]
    unfold FreshS.FreshL at h ⊢
    exact ⟨h.1, freshL_snoc h.2 hs⟩
  | [], y :: t, e, s, h, _ => by unfold FreshS.FreshL at h; exact h.elim
  | x :: r, [], e, s, h, _ => by unfold FreshS.FreshL at h; exact h.elim
def ptrs (ss : List SB) : List Value := ss.map fun s => .pointer (some ⟨s.p, 0, none⟩)
def NewS (w : World) (e : E) (r : Ending) (w' : World) : Prop := ∃ s : SB, r = .returned (.pointer (some ⟨s.p, 0, none⟩)) ∧ FreshS e s ∧ s.At w' ∧ s.ids.Nodup ∧ (∀ x ∈ s.ids, w.heap.size ≤ x) ∧ (∀ x ∈ s.rows, w.heap.size ≤ x ∧ x < w'.heap.size) ∧ Below w.heap.size w w'
/-- While the parts are made. -/
structure NwL (w wr : World) (p : Nat) (k c : Int) (kv pv : Value) (ks : List E) (ss : List SB) (i : Nat) : Prop where
  c : Cells wr p 76 (sbC k c kv pv false false false)
  o : wr.ownsRow (p + 1) 72 1 pv i (ptrs ss)
  l : ss.length = i
  f : FreshS.FreshL (ks.take i) ss
  a : SB.At.AtL wr ss
  n : (SB.ids.idsL ss).Nodup
  g : ∀ x ∈ SB.ids.idsL ss, p < x
  r : ∀ x ∈ SB.rows.rowsL ss, p < x ∧ x < wr.heap.size ∧ pv.ownBlock ≠ some x
  b : Below w.heap.size w wr
section
variable {w wr w2 w3 : World} {p : Nat} {k c : Int} {kv pv : Value} {ks : List E} {ss : List SB} {i : Nat}
theorem NwL.on (h : NwL w wr p k c kv pv ks ss i) (hw : w.heap.size ≤ wr.heap.size) (hb : Below wr.heap.size wr w2) : NwL w w2 p k c kv pv ks ss i :=
  ⟨h.c.on hb, ownsRow_below h.o hb, h.l, h.f, atL_fz (Fz.of_below hb (X := fun _ => False)) (fun _ hx => hx.elim) ss h.a (fun _ hx => hx.elim), h.n, h.g, fun x hx => by have := h.r x hx; have := hb.size; exact ⟨by omega, by omega, (h.r x hx).2.2⟩, h.b.trans (hb.mono hw)⟩
theorem own_not_cellsS {w : World} {B e z n k t : Nat} {v : Value} {xs : List Value} {cs : Array Value} (h : w.ownsRow B e z v n xs) (hc : Cells w k t cs) (hne : t ≠ e) : v.ownBlock ≠ some k := by
  intro hk
  rcases h.2 with ⟨h1, _⟩ | ⟨g1, c1, cur1, h1, _, h3, _⟩
  · rw [h1] at hk; simp [Value.ownBlock] at hk
  · rw [h1] at hk
    simp [Value.ownBlock] at hk
    subst hk
    unfold Cells at hc
    rw [hc] at h3
    simp at h3
    exact hne h3.2
theorem NwL.add (h : NwL w wr p k c kv pv ks ss i) (hpw : w.heap.size ≤ p) (hb2 : Below wr.heap.size wr w2) {e : E} {s : SB} (he : ks[i]? = some e) (hf : FreshS e s) (hat : s.At w2) (hnd : s.ids.Nodup) (hids : ∀ x ∈ s.ids, wr.heap.size ≤ x)
    (hrows : ∀ x ∈ s.rows, wr.heap.size ≤ x ∧ x < w2.heap.size) {g cp : Nat} (ho : w3.ownsRow (p + 1) 72 1 (.slice (some ⟨g, 0, none⟩) (i + 1) cp) (i + 1) (ptrs ss ++ [.pointer (some ⟨s.p, 0, none⟩)]))
    (hg : (w2.alloc (.cells #[.pointer (some ⟨s.p, 0, none⟩)] 72)).grownBy w3 pv.ownBlock) (hga : pv.ownBlock = some g ∨ g = w2.heap.size + 1) :
    Cells w3 p 76 (sbC k c kv pv false false false) ∧ (w3.cell? ⟨s.p, 4, none⟩ = some (.bool s.em) ∧ s.p < w3.heap.size ∧ s.p ≠ p) ∧ NwL w (w3.setCell ⟨p, 3, none⟩ (.slice (some ⟨g, 0, none⟩) (i + 1) cp)) p k c kv (.slice (some ⟨g, 0, none⟩) (i + 1) cp) ks (ss ++ [s]) (i + 1) := by
  have hpl := h.c.lt
  have hw : w.heap.size ≤ wr.heap.size := by omega
  have nb := below_new w2 (.cells #[.pointer (some ⟨s.p, 0, none⟩)] 72)
  have hs2 := hb2.size
  have h1 := h.on hw hb2
  have h2 := h1.on (by omega) nb
  have hs := at_fz (Fz.of_below nb (X := fun _ => False)) (fun _ hx => hx.elim) s hat (fun _ hx => hx.elim)
  have hsz : (w2.alloc (.cells #[.pointer (some ⟨s.p, 0, none⟩)] 72)).heap.size = w2.heap.size + 1 := by simp
  obtain ⟨wa, hwa⟩ : ∃ W, w2.alloc (.cells #[.pointer (some ⟨s.p, 0, none⟩)] 72) = W := ⟨_, rfl⟩
  rw [hwa] at h2 hs hg hsz
  have s1 : Cells w3 p 76 (sbC k c kv pv false false false) := (hg.block p h2.c.lt (fun e => own_not_cellsS h2.o h2.c (by decide) e.symm)).trans h2.c
  have F1 : Fz (fun x => pv.ownBlock = some x ∨ x = p) wa w3 := Fz.of_grown hg (fun k e => .inl e)
  have F := F1.trans (Fz.set (X := fun x => pv.ownBlock = some x ∨ x = p) w3 p 3 (.slice (some ⟨g, 0, none⟩) (i + 1) cp) (.inr rfl))
  have own : ∀ x, pv.ownBlock = some x → x < wr.heap.size := fun x e => (own_block_lt h.o x e).2
  have idl : ∀ x ∈ SB.ids.idsL ss, x < wr.heap.size := fun x hx => by obtain ⟨cs, hc⟩ := atL_ids ss h.a x hx; exact hc.lt
  have X1 : ∀ x, (pv.ownBlock = some x ∨ x = p) → x ∉ SB.ids.idsL ss ∧ x ∉ SB.rows.rowsL ss := by
    rintro x (e | rfl)
    · exact ⟨fun hx => by obtain ⟨cs, hc⟩ := atL_ids ss h2.a x hx; exact own_not_cellsS h2.o hc (by decide) e, fun hx => (h2.r x hx).2.2 e⟩
    · exact ⟨fun hx => by have := h.g x hx; omega, fun hx => by have := (h.r x hx).1; omega⟩
  have X2 : ∀ x, (pv.ownBlock = some x ∨ x = p) → x ∉ s.ids ∧ x ∉ s.rows := by
    rintro x (e | rfl)
    · have := own x e
      exact ⟨fun hx => by have := hids x hx; omega, fun hx => by have := (hrows x hx).1; omega⟩
    · exact ⟨fun hx => by have := hids x hx; omega, fun hx => by have := (hrows x hx).1; omega⟩
  have hF := F.size
  have h4 := at_own s (at_fz2 F1 s hs X2)
  refine ⟨s1, ⟨h4.1, h4.2.2.2, fun e => by have := hids _ (p_mem s); omega⟩, s1.set 3 _, ?_, by rw [List.length_append, h.l]; rfl, ?_, atL_app (atL_fz2 F ss h2.a X1) (atL_one (at_fz2 F s hs X2)), ?_, ?_, ?_, ?_⟩
  · rw [show ptrs (ss ++ [s]) = ptrs ss ++ [.pointer (some ⟨s.p, 0, none⟩)] by simp [ptrs]]
    exact own_fz ho (Fz.set (X := fun x => x = p) w3 p 3 _ rfl) (fun x e hx => by subst hx; exact own_not_cellsS ho s1 (by decide) e)
  · rw [List.take_add_one, he]
    exact freshL_snoc h.f hf
  · rw [idsL_app, idsL_one, List.nodup_append]
    exact ⟨h.n, hnd, fun a ha b hb e => by have := idl a ha; have := hids b hb; omega⟩
  · intro x hx
    rw [idsL_app, idsL_one] at hx
    rcases List.mem_append.1 hx with hx | hx
    · exact h.g x hx
    · have := hids x hx; omega
  · intro x hx
    rw [rowsL_app, rowsL_one] at hx
    rcases List.mem_append.1 hx with hx | hx
    · have hr := h.r x hx
      refine ⟨hr.1, by omega, fun e => ?_⟩
      have e : g = x := by injection e
      subst e
      rcases hga with hga | hga
      · exact hr.2.2 hga
      · omega
    · have hr := hrows x hx
      refine ⟨by omega, by omega, fun e => ?_⟩
      have e : g = x := by injection e
      subst e
      rcases hga with hga | hga
      · have := own g hga; omega
      · omega
  · exact h2.b.trans (F.below (by omega) (fun x hx hX => by
      rcases hX with e | rfl
      · have := (own_block_lt h.o x e).1; omega
      · omega))
/-- All parts are made. -/
theorem NwL.done (h : NwL w wr p k c kv pv ks ss ks.length) (hpw : w.heap.size ≤ p) (hkv : ∃ A n c, kv = .slice A n c) (hn : ks.length ≤ 100000) {W : World} (F : Fz (fun x => x = p) wr W) (hcW : Cells W p 76 (sbC k c kv pv (emK k ss) false false)) : NewS w (.mk k c ks) (.returned (.pointer (some ⟨p, 0, none⟩))) W := by
  have hFs := F.size
  have hX : ∀ x, x = p → ∃ cs, Cells wr x 76 cs := fun x hx => by subst hx; exact ⟨_, h.c⟩
  have hp : PRow wr kv pv (ss.map SB.p) := by
    refine ⟨hkv, ?_⟩
    have hl : (ss.map SB.p).length = ks.length := by rw [List.length_map, h.l]
    rcases h.o.2 with ⟨e1, e2⟩ | ⟨g, cap, cur, e1, _, hc, _⟩
    · exact ⟨none, 0, by rw [e1, hl, e2], by omega, fun hne => by
        rw [e2] at hl
        exact absurd (List.eq_nil_of_length_eq_zero hl) hne⟩
    · refine ⟨_, cap, by rw [hl]; exact e1, by omega, fun _ => ⟨g, cur, rfl, hc, fun j q hq => ?_⟩⟩
      have := World.ownsRow.cells h.o (g := g) (by rw [e1]; rfl) j (.pointer (some ⟨q, 0, none⟩)) (by
        rw [List.getElem?_map] at hq
        unfold ptrs
        rw [List.getElem?_map]
        cases hs : ss[j]? with
        | none => rw [hs] at hq; simp at hq
        | some s => rw [hs] at hq; simp at hq; simp [hq])
      rw [add0] at this
      have hcc : Cells wr g 72 cur := hc
      rw [← hcc.cell j]
      exact this
  refine ⟨.mk p k c kv pv (emK k ss) false false ss, rfl, ?_, at_mk.2 ⟨hcW, prow_fz hp F hX, atL_fz F hX ss h.a (fun x hx hx2 => by subst hx; have := h.g _ hx2; omega)⟩, ?_, ?_, ?_, ?_⟩
  · unfold FreshS
    have := h.f
    rw [List.take_length] at this
    exact ⟨rfl, rfl, rfl, rfl, rfl, this⟩
  · rw [ids_mk, List.nodup_cons]
    exact ⟨fun hx => by have := h.g _ hx; omega, h.n⟩
  · intro x hx
    rw [ids_mk] at hx
    rcases List.mem_cons.1 hx with rfl | hx
    · exact hpw
    · have := h.g x hx; omega
  · intro x hx
    rw [rows_mk] at hx
    rcases List.mem_append.1 hx with hx | hx
    · cases e : pv.ownBlock with
      | none => rw [e] at hx; simp at hx
      | some g =>
        rw [e] at hx
        simp at hx
        subst hx
        have := own_block_lt h.o x e
        omega
    · have := h.r x hx; omega
  · exact h.b.trans (F.below (by have := h.b.size; omega) (fun x hx hX => by subst hX; omega))
end
end Go.Proofs.Ytegkogadceodlaa

