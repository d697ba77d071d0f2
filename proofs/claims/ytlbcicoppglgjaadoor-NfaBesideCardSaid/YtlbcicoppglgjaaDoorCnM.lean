/-
  The automaton of so many leaves side by side. No program.
-/
import Derived.Test.YtlbcicoppglgjaaDoorNew
namespace Go.Proofs.YtlbcicoppglgjaaDoor
open Go.RowKit Go.Shelf Go.Lib Go.Great Go.Maps

def anyE : E := .mk 1 0 []
def exK (k : Nat) : E := .mk 5 0 (List.replicate k anyE)
def bitsF : Nat → Nat → Nat
  | _, 0 => 0
  | c, j + 1 => 2 ^ c ||| bitsF (c + 1) j
theorem rep_alt : ∀ (j : Nat) (s : St) (a : Sp), (altL (List.replicate j anyE) s a).1.next = s.next ∧ (altL (List.replicate j anyE) s a).1.takers 3 = s.takers 3 ||| bitsF s.count j ∧ (altL (List.replicate j anyE) s a).2.first = a.first ||| bitsF s.count j
  | 0, s, a => by simp [altL, readE.altL, bitsF]
  | j + 1, s, a => by
    rw [List.replicate_succ]
    have e : altL (anyE :: List.replicate j anyE) s a = altL (List.replicate j anyE) (s.leaf 1 0) ⟨a.first ||| 2 ^ s.count, a.last ||| 2 ^ s.count, a.empty || false⟩ := rfl
    rw [e]
    obtain ⟨h1, h2, h3⟩ := rep_alt j (s.leaf 1 0) ⟨a.first ||| 2 ^ s.count, a.last ||| 2 ^ s.count, a.empty || false⟩
    refine ⟨h1, ?_, ?_⟩
    · rw [h2]
      have e2 : (s.leaf 1 0).takers 3 = s.takers 3 ||| 2 ^ s.count := rfl
      have e3 : (s.leaf 1 0).count = s.count + 1 := rfl
      rw [e2, e3, Nat.or_assoc]; rfl
    · rw [h3]
      have e3 : (s.leaf 1 0).count = s.count + 1 := rfl
      rw [e3]
      show (a.first ||| 2 ^ s.count) ||| _ = _
      rw [Nat.or_assoc]; rfl
theorem bitsF_bit : ∀ (j c p : Nat), (bitsF c j).testBit p = decide (c ≤ p ∧ p < c + j)
  | 0, c, p => by simp [bitsF]
  | j + 1, c, p => by
    unfold bitsF
    rw [Nat.testBit_or, Nat.testBit_two_pow, bitsF_bit j (c + 1) p]
    by_cases h1 : c = p
    · simp [h1]
    · simp only [h1, decide_false, Bool.false_or]
      congr 1
      apply propext
      omega
theorem posN_bits (k : Nat) : ∀ t, t ≤ 1024 → (posN (bitsF 1 k) t).length = min (t - 1) k
  | 0, _ => by simp [posN]
  | t + 1, h => by
    rw [posN_succ, List.length_append, posN_bits k t (by omega)]
    unfold inM
    rw [bitsF_bit]
    by_cases h1 : 1 ≤ t ∧ t < 1 + k
    · simp only [h1, show t < 1024 by omega, decide_true, Bool.and_self, and_self, if_true, List.length_singleton]
      omega
    · simp only [h1, decide_false, Bool.and_false, Bool.false_eq_true, if_false, List.length_nil]
      omega
theorem mk_exK (k : Nat) : mkN [exK k] = addE st0 (exK k) 1 := rfl
theorem step_exK (k : Nat) : stepM false (mkN [exK k]) [0] 3 = bitsF 1 k := by
  obtain ⟨h1, h2, h3⟩ := rep_alt k st0 ⟨0, 0, false⟩
  have hr : readE (exK k) st0 = altL (List.replicate k anyE) st0 ⟨0, 0, false⟩ := by unfold exK; rw [readE]; simp
  have hn : (addE st0 (exK k) 1).next 0 = bitsF 1 k := by
    have : (addE st0 (exK k) 1).next 0 = ((readE (exK k) st0).1.link 1 (readE (exK k) st0).2.first).next 0 := by
      unfold addE; dsimp only; split <;> rfl
    rw [this, hr]
    unfold St.link
    dsimp only
    rw [h1, h3]
    simp [inM, st0]
  have ht : (addE st0 (exK k) 1).takers 3 = bitsF 1 k := by
    have : (addE st0 (exK k) 1).takers 3 = (readE (exK k) st0).1.takers 3 := by
      unfold addE; dsimp only; split <;> rfl
    rw [this, hr, h2]
    simp [st0]
  unfold stepM
  rw [mk_exK]
  simp only [Bool.false_eq_true, if_false]
  have e1 : nextU (addE st0 (exK k) 1) [0] = bitsF 1 k := by
    unfold nextU nextU
    rw [if_pos (by omega)]
    show (addE st0 (exK k) 1).next 0 ||| 0 = _
    rw [hn]; simp
  have e2 : takersI (addE st0 (exK k) 1) 3 = bitsF 1 k := by
    unfold takersI
    rw [if_pos (by omega)]
    exact ht
  rw [e1, e2, Nat.and_self]
theorem len_exK {k : Nat} (hk : k ≤ 1000) : (posI (stepM false (mkN [exK k]) [0] 3)).length = k := by
  rw [step_exK]
  unfold posI
  rw [List.length_map, posL_eq, posN_bits k 1024 (by omega)]
  omega
theorem good_rep : ∀ k, goodE.all (List.replicate k anyE) = true
  | 0 => rfl
  | k + 1 => by
    rw [List.replicate_succ]
    have e : goodE.all (anyE :: List.replicate k anyE) = (goodE anyE && goodE.all (List.replicate k anyE)) := rfl
    rw [e, good_rep k]
    rfl
theorem sz_rep : ∀ k, szL (List.replicate k anyE) = k
  | 0 => rfl
  | k + 1 => by
    rw [List.replicate_succ]
    have e : szL (anyE :: List.replicate k anyE) = szE anyE + szL (List.replicate k anyE) := rfl
    have e2 : szE anyE = 1 := rfl
    rw [e, sz_rep k, e2]; omega
theorem lv_rep : ∀ k, lvL (List.replicate k anyE) = k
  | 0 => rfl
  | k + 1 => by
    rw [List.replicate_succ]
    have e : lvL (anyE :: List.replicate k anyE) = leavesE anyE + lvL (List.replicate k anyE) := rfl
    have e2 : leavesE anyE = 1 := rfl
    rw [e, lv_rep k, e2]; omega
theorem right_exK {k : Nat} (h2 : 2 ≤ k) (hk : k ≤ 1999) : rightE (exK k) = true := by
  have hs : szE (exK k) = 1 + k := by unfold exK; rw [szE_eq]; simp only [E.ks]; rw [sz_rep]
  have hg : goodE (exK k) = true := by
    unfold exK
    rw [goodE_eq]
    simp only [E.k, E.c, E.ks, List.length_replicate]
    rw [good_rep]
    have : shapedK 5 0 k = true := by unfold shapedK; simp; omega
    rw [this]
    rfl
  rw [rightE_good (e := exK k) (by show (5 : Int) ≠ 9; omega), hg, hs]
  simp; omega
theorem leaves_exK {k : Nat} (h2 : 2 ≤ k) : leavesE (exK k) = k := by
  unfold exK
  rw [leaves_kids (by intro e; have := congrArg List.length e; simp at this; omega), lv_rep]
theorem fault_exK {k : Nat} (h2 : 2 ≤ k) (hk : k ≤ 1999) : faultL [exK k] = if 1000 < 1 + k then 7 else 0 := by
  unfold faultL
  rw [if_neg (by simp), if_neg (by simp [right_exK h2 hk])]
  have : lvL [exK k] = k := by
    have e : lvL [exK k] = leavesE (exK k) + 0 := rfl
    rw [e, leaves_exK h2]; rfl
  rw [this]
theorem count_exK {k : Nat} (h2 : 2 ≤ k) (hk : k ≤ 1999) : (mkN [exK k]).count = k + 1 := by
  have h := mkL_count [exK k] 0 st0 (by simp [right_exK h2 hk])
  have e : lvL [exK k] = leavesE (exK k) + 0 := rfl
  rw [e, leaves_exK h2] at h
  have e2 : st0.count = 1 := rfl
  unfold mkN
  omega
end Go.Proofs.YtlbcicoppglgjaaDoor
