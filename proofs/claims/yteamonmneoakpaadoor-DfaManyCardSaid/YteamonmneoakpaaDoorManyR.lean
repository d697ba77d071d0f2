/-
  DfaMany: of a class, and so many any behind it, looked for anywhere, there are as many states as there are ways in which it may have stood there; more than may be are none: for all inputs, in whatever memory.
  The walk of DfaMany.
  DfaMany's automaton: a class and so many any behind it, looked for anywhere: which sets come, and how many. No program.
-/
import Derived.Lay
import Derived.LaidOnce
import Derived.LaidMore
import Derived.ChangeOld
import Derived.SevenTiedAt
import Derived.Test.YteamonmneoakpaaDoorXqa
import Derived.Test.YteamonmneoakpaaDoorXqb
import Derived.Test.YteamonmneoakpaaDoorXqc
import Derived.Test.YteamonmneoakpaaDoorXqd
import Derived.Test.YteamonmneoakpaaDoorXqe
import Derived.Test.YteamonmneoakpaaDoorXqf
import Derived.Test.YteamonmneoakpaaDoorXqg
import Derived.Test.YteamonmneoakpaaDoorXqh
import Derived.Test.YteamonmneoakpaaDoorXqi
import Derived.Test.YteamonmneoakpaaDoorXqj
import Derived.Test.YteamonmneoakpaaDoorXqk
import Derived.Test.YteamonmneoakpaaDoorXql
import Derived.Test.YteamonmneoakpaaDoorXqm
import Derived.Test.YteamonmneoakpaaDoorXqn
import Derived.Test.YteamonmneoakpaaDoorXqo
import Derived.Test.YteamonmneoakpaaDoorTie
import Derived.Test.YteamonmneoakpaaDoorCards
import Derived.Test.YteamonmneoakpaaDoorChecked
namespace Go.Proofs.YteamonmneoakpaaDoor
open Go.RowKit Go.Shelf Go.Lib Go.Great Go.Maps

def anyV : E := .mk 1 0 []
def eM (k : Nat) : E := .mk 4 0 (.mk 0 5 [] :: List.replicate (k + 1) anyV)
def tkM (K m : Nat) : Nat := if m = 5 then 2 ^ (K + 1) - 2 else if m = 36 then 0 else 2 ^ (K + 1) - 4
theorem fault_eM : ∀ k, k < 12 → faultL [eM k] = 0 := by decide +kernel
theorem next_eM : ∀ k, k < 12 → ∀ p, p < 14 → (mkN [eM k]).next p = if p < k + 2 then 2 ^ (p + 1) else 0 := by decide +kernel
theorem takers_eM : ∀ k, k < 12 → ∀ m, m < 37 → (mkN [eM k]).takers m = tkM (k + 2) m := by decide +kernel
theorem nextU_bitM (s : St) (q : Nat) : ∀ l : List Int, (nextU s l).testBit q = l.any fun p => decide (0 ≤ p) && (s.next p.toNat).testBit q
  | [] => by simp [nextU]
  | p :: r => by
    unfold nextU
    rw [Nat.testBit_or, nextU_bitM s q r, List.any_cons]
    congr 1
    by_cases h : 0 ≤ p <;> simp [h]
theorem mem_posM {M : Nat} {p : Int} : p ∈ posI M ↔ ∃ n : Nat, p = (n : Int) ∧ n < 1024 ∧ M.testBit n = true := by
  unfold posI posL
  rw [List.mem_map]
  constructor
  · rintro ⟨n, hn, rfl⟩
    rw [List.mem_filter, List.mem_range] at hn
    unfold inM at hn
    simp only [Bool.and_eq_true, decide_eq_true_eq] at hn
    exact ⟨n, rfl, hn.1, hn.2.2⟩
  · rintro ⟨n, rfl, h1, h2⟩
    exact ⟨n, List.mem_filter.2 ⟨List.mem_range.2 h1, by unfold inM; simp [h1, h2]⟩, rfl⟩
theorem posI_inj {M N : Nat} (hM : M < 2 ^ 30) (hN : N < 2 ^ 30) (h : posI M = posI N) : M = N := by
  apply Nat.eq_of_testBit_eq
  intro i
  rcases Nat.lt_or_ge i 1024 with hi | hi
  · have e : ((i : Int) ∈ posI M) ↔ ((i : Int) ∈ posI N) := by rw [h]
    rw [mem_posM, mem_posM] at e
    rw [Bool.eq_iff_iff]
    constructor
    · intro h1
      obtain ⟨n, e1, _, h2⟩ := e.1 ⟨i, rfl, hi, h1⟩
      obtain rfl : i = n := by omega
      exact h2
    · intro h1
      obtain ⟨n, e1, _, h2⟩ := e.2 ⟨i, rfl, hi, h1⟩
      obtain rfl : i = n := by omega
      exact h2
  · rw [Nat.testBit_lt_two_pow (Nat.lt_of_lt_of_le hM (Nat.pow_le_pow_right (by omega) (show 30 ≤ i by omega))), Nat.testBit_lt_two_pow (Nat.lt_of_lt_of_le hN (Nat.pow_le_pow_right (by omega) (show 30 ≤ i by omega)))]
/-- A step, bit by bit. -/
theorem step_bit {k m M q : Nat} (hk : k < 12) (hm : m < 37) (hM : M < 2 ^ (k + 3)) : (stepM true (mkN [eM k]) (posI M) (m : Int)).testBit q = (decide (q = 0) || (decide (1 ≤ q) && decide (q ≤ k + 2) && M.testBit (q - 1) && (tkM (k + 2) m).testBit q)) := by
  unfold stepM
  simp only [if_true]
  rw [Nat.testBit_or, Nat.testBit_and, nextU_bitM]
  have ht : takersI (mkN [eM k]) (m : Int) = tkM (k + 2) m := by
    unfold takersI
    rw [if_pos (by omega), Int.toNat_natCast, takers_eM k hk m hm]
  have h1 : Nat.testBit 1 q = decide (q = 0) := by
    have := Nat.testBit_two_pow (n := 0) (m := q)
    rw [Nat.pow_zero] at this
    rw [this]
    by_cases hq : q = 0 <;> simp [hq, eq_comm]
  rw [ht, h1]
  have ha : ((posI M).any fun p => decide (0 ≤ p) && ((mkN [eM k]).next p.toNat).testBit q) = (decide (1 ≤ q) && decide (q ≤ k + 2) && M.testBit (q - 1)) := by
    rw [Bool.eq_iff_iff, List.any_eq_true]
    simp only [Bool.and_eq_true, decide_eq_true_eq]
    have lim : ∀ n, M.testBit n = true → n < k + 3 := fun n h => by
      rcases Nat.lt_or_ge n (k + 3) with h1 | h1
      · exact h1
      · rw [Nat.testBit_lt_two_pow (Nat.lt_of_lt_of_le hM (Nat.pow_le_pow_right (by omega) h1))] at h
        cases h
    constructor
    · rintro ⟨p, hp, _, hb⟩
      obtain ⟨n, rfl, _, hn⟩ := mem_posM.1 hp
      have h1 := lim n hn
      rw [Int.toNat_natCast, next_eM k hk n (by omega)] at hb
      split at hb
      · rw [Nat.testBit_two_pow] at hb
        simp at hb
        subst hb
        exact ⟨⟨by omega, by omega⟩, by simpa using hn⟩
      · simp at hb
    · rintro ⟨⟨h1, h2⟩, h3⟩
      have h4 := lim _ h3
      refine ⟨((q - 1 : Nat) : Int), mem_posM.2 ⟨q - 1, rfl, by omega, h3⟩, by omega, ?_⟩
      rw [Int.toNat_natCast, next_eM k hk (q - 1) (by omega), if_pos (by omega), Nat.testBit_two_pow]
      simp
      omega
  rw [ha, Bool.or_comm]
theorem tk_bit {K m q : Nat} (hK : 2 ≤ K) : (tkM K m).testBit q = (decide (q ≤ K) && (if m = 5 then decide (1 ≤ q) else if m = 36 then false else decide (2 ≤ q))) := by
  unfold tkM
  split
  · have e : 2 ^ (K + 1) - 2 = 2 * (2 ^ K - 1) := by rw [Nat.pow_succ]; omega
    rw [e]
    cases q with
    | zero => simp [Nat.testBit_zero]
    | succ q =>
      rw [Nat.testBit_succ, Nat.mul_div_cancel_left _ (by omega), Nat.testBit_two_pow_sub_one]
      simp; omega
  · split
    · simp
    · have e : 2 ^ (K + 1) - 4 = 2 * (2 * (2 ^ (K - 1) - 1)) := by
        obtain ⟨j, rfl⟩ : ∃ j, K = j + 1 := ⟨K - 1, by omega⟩
        simp only [Nat.add_sub_cancel]
        rw [Nat.pow_succ, Nat.pow_succ]; omega
      rw [e]
      cases q with
      | zero => simp [Nat.testBit_zero]
      | succ q =>
        rw [Nat.testBit_succ, Nat.mul_div_cancel_left _ (by omega)]
        cases q with
        | zero => simp [Nat.testBit_zero]
        | succ q =>
          rw [Nat.testBit_succ, Nat.mul_div_cancel_left _ (by omega), Nat.testBit_two_pow_sub_one]
          simp; omega
/-- The set that says where the class has stood. -/
def Qy (y : Nat) : List Int := posI (1 + 2 * y)
theorem odd_bit (y q : Nat) : (1 + 2 * y).testBit q = if q = 0 then true else y.testBit (q - 1) := by
  cases q with
  | zero => simp [Nat.testBit_zero] <;> omega
  | succ q => rw [Nat.testBit_succ, show (1 + 2 * y) / 2 = y by omega]; simp
theorem q_zero : Qy 0 = [0] := by decide +kernel
theorem q_inj {K y z : Nat} (hK : K ≤ 20) (hy : y < 2 ^ K) (hz : z < 2 ^ K) (h : Qy y = Qy z) : y = z := by
  have hp : 2 ^ K ≤ 2 ^ 20 := Nat.pow_le_pow_right (by omega) hK
  have h20 : (2 : Nat) ^ 30 = 1024 * 2 ^ 20 := by decide
  have := posI_inj (M := 1 + 2 * y) (N := 1 + 2 * z) (by omega) (by omega) h
  omega
/-- Each step leads to such a set. -/
theorem q_step {k m y : Nat} (hk : k < 12) (hm : m < 37) (hy : y < 2 ^ (k + 2)) : ∃ z, z < 2 ^ (k + 2) ∧ nxt true (mkN [eM k]) (Qy y) m = Qy z := by
  have hM : 1 + 2 * y < 2 ^ (k + 3) := by rw [Nat.pow_succ]; omega
  obtain ⟨N, hN⟩ : ∃ N, stepM true (mkN [eM k]) (posI (1 + 2 * y)) (m : Int) = N := ⟨_, rfl⟩
  have hb := fun q => step_bit (q := q) hk hm hM
  rw [hN] at hb
  have hlt : N < 2 ^ (k + 3) := Nat.lt_pow_two_of_testBit N (fun i hi => by
    rw [hb i]
    simp; omega)
  have h0 : N.testBit 0 = true := by rw [hb 0]; simp
  have hodd : N % 2 = 1 := by rw [Nat.testBit_zero] at h0; simpa using h0
  refine ⟨N / 2, by rw [Nat.pow_succ] at hlt; omega, ?_⟩
  rw [← nxt_eq]
  unfold Qy
  rw [hN]
  congr 1
  omega
/-- Each number is made, digit by digit. -/
theorem q_make {k x b : Nat} (hk : k < 12) (hx : 2 * x + b < 2 ^ (k + 2)) (hb1 : b < 2) : nxt true (mkN [eM k]) (Qy x) (if b = 1 then 5 else 0) = Qy (2 * x + b) := by
  have hx2 : x < 2 ^ (k + 1) := by rw [Nat.pow_succ] at hx; omega
  have hM : 1 + 2 * x < 2 ^ (k + 3) := by rw [Nat.pow_succ, Nat.pow_succ]; omega
  rw [← nxt_eq]
  unfold Qy
  congr 1
  apply Nat.eq_of_testBit_eq
  intro q
  rw [step_bit hk (by split <;> omega) hM, tk_bit (by omega), odd_bit, odd_bit]
  rcases Nat.eq_zero_or_pos q with rfl | hq
  · simp
  · have hq0 : q ≠ 0 := by omega
    simp only [hq0, decide_false, Bool.false_or, if_false]
    rcases Nat.eq_zero_or_pos (q - 1) with h1 | h1
    · obtain rfl : q = 1 := by omega
      have hbb : b = 0 ∨ b = 1 := by omega
      rcases hbb with rfl | rfl
      · simp
      · simp [Nat.testBit_zero]
    · rw [if_neg (by omega)]
      obtain ⟨j, rfl⟩ : ∃ j, q = j + 2 := ⟨q - 2, by omega⟩
      have e2 : (2 * x + b).testBit (j + 2 - 1) = x.testBit j := by
        rw [show j + 2 - 1 = j + 1 by omega, Nat.testBit_succ, show (2 * x + b) / 2 = x by omega]
      rw [e2, show j + 2 - 1 - 1 = j by omega]
      by_cases hj : j + 2 ≤ k + 2
      · have hbb : b = 0 ∨ b = 1 := by omega
        rcases hbb with rfl | rfl <;> simp [hj]
      · have : x.testBit j = false := Nat.testBit_lt_two_pow (Nat.lt_of_lt_of_le hx2 (Nat.pow_le_pow_right (by omega) (by omega)))
        simp [hj, this]
attribute [irreducible] Qy
theorem sv_sub {k : Nat} (hk : k < 12) {S : List (List Int)} (h : Sv true (mkN [eM k]) S) : ∀ (i : Nat) (x : List Int), S[i]? = some x → ∃ y, y < 2 ^ (k + 2) ∧ x = Qy y := by
  intro i
  induction i using Nat.strongRecOn with
  | ind i ih =>
    intro x hx
    rcases Nat.eq_zero_or_pos i with rfl | h0
    · rw [h.z] at hx
      injection hx with hx
      exact ⟨0, Nat.two_pow_pos _, by rw [q_zero, hx]⟩
    · obtain ⟨j, hj, x', hx', m, hm, rfl⟩ := h.j i x h0 hx
      obtain ⟨y, hy, rfl⟩ := ih j hj x' hx'
      obtain ⟨z, hz, e⟩ := q_step hk hm hy
      exact ⟨z, hz, e⟩
theorem sv_most {k : Nat} (hk : k < 12) {S : List (List Int)} (h : Sv true (mkN [eM k]) S) : S.length ≤ 2 ^ (k + 2) := by
  have hs : ∀ x ∈ S, x ∈ (List.range (2 ^ (k + 2))).map Qy := fun x hx => by
    obtain ⟨i, hi⟩ := List.getElem?_of_mem hx
    obtain ⟨y, hy, rfl⟩ := sv_sub hk h i x hi
    exact List.mem_map.2 ⟨y, List.mem_range.2 hy, rfl⟩
  have := h.nd.length_le_of_subset hs
  simpa using this
theorem bf_many {k : Nat} (hk : k < 12) {S R : List (List Int)} {T : List Nat} (h : Bf true (mkN [eM k]) S R T) (hl : R.length = S.length) : S.length = 2 ^ (k + 2) := by
  have hall : ∀ j, j ≤ k + 2 → ∀ y, y < 2 ^ j → Qy y ∈ S := by
    intro j
    induction j with
    | zero => intro _ y hy; simp at hy; subst hy; rw [q_zero]; exact List.mem_of_getElem? h.sv.z
    | succ j ih =>
      intro hj y hy
      have hx := ih (by omega) (y / 2) (by rw [Nat.pow_succ] at hy; omega)
      obtain ⟨i, hi⟩ := List.getElem?_of_mem hx
      have hi' := (List.getElem?_eq_some_iff.1 hi).1
      have hp : 2 ^ (j + 1) ≤ 2 ^ (k + 2) := Nat.pow_le_pow_right (by omega) hj
      have hmk := q_make (k := k) (x := y / 2) (b := y % 2) hk (by omega) (by omega)
      rw [show 2 * (y / 2) + y % 2 = y by omega] at hmk
      obtain ⟨q, _, hq⟩ := bf_get h hi (m := if y % 2 = 1 then 5 else 0) (by omega) (by split <;> omega)
      rw [hmk] at hq
      exact List.mem_of_getElem? hq
  have h1 := sv_most hk h.sv
  have hnd : ((List.range (2 ^ (k + 2))).map Qy).Nodup := by
    rw [List.nodup_iff_pairwise_ne, List.pairwise_map]
    refine (List.Pairwise.and_mem.1 List.nodup_range).imp ?_
    rintro a b ⟨ha, hb, hne⟩ e
    exact hne (q_inj (K := k + 2) (by omega) (List.mem_range.1 ha) (List.mem_range.1 hb) e)
  have h2 := hnd.length_le_of_subset (l₂ := S) (fun x hx => by
    obtain ⟨y, hy, rfl⟩ := List.mem_map.1 hx
    exact hall (k + 2) (Nat.le_refl _) y (List.mem_range.1 hy))
  simp at h2
  omega
end Go.Proofs.YteamonmneoakpaaDoor

namespace Go.Proofs.YteamonmneoakpaaDoor
open Go.RowKit Go.Shelf Go.Lib Go.Great Go.Maps

def anyN : List Value := [.int .i64 1, .int .i64 0, .slice none 0 0]
def cellsV : Nat → List Value
  | 0 => []
  | j + 1 => cellsV j ++ anyN
theorem cellsV_len : ∀ j, (cellsV j).length = 3 * j
  | 0 => rfl
  | j + 1 => by unfold cellsV; rw [List.length_append, cellsV_len j]; simp [anyN]; omega
theorem cellsV_get : ∀ (j i : Nat), i < j → (cellsV j)[i * 3]? = some (.int .i64 1) ∧ (cellsV j)[i * 3 + 1]? = some (.int .i64 0) ∧ (cellsV j)[i * 3 + 2]? = some (.slice none 0 0)
  | 0, i, h => by omega
  | j + 1, i, h => by
    have hl := cellsV_len j
    unfold cellsV
    by_cases e : i = j
    · subst e
      refine ⟨?_, ?_, ?_⟩
      · rw [List.getElem?_append_right (by omega), hl, show i * 3 - 3 * i = 0 by omega]; rfl
      · rw [List.getElem?_append_right (by omega), hl, show i * 3 + 1 - 3 * i = 1 by omega]; rfl
      · rw [List.getElem?_append_right (by omega), hl, show i * 3 + 2 - 3 * i = 2 by omega]; rfl
    · obtain ⟨h1, h2, h3⟩ := cellsV_get j i (by omega)
      exact ⟨by rw [List.getElem?_append_left (by omega)]; exact h1, by rw [List.getElem?_append_left (by omega)]; exact h2, by rw [List.getElem?_append_left (by omega)]; exact h3⟩
def cM (j : Nat) : List Value := .int .i64 0 :: .int .i64 5 :: .slice none 0 0 :: cellsV (j + 1)
theorem cM_succ (j : Nat) : cM (j + 1) = cM j ++ anyN := rfl
theorem nd_leafV {w : World} {B : Nat} (k c : Int) (hk : i64 k) (hc : i64 c) : Nd w B (.mk k c []) (.agg #[.int .i64 k, .int .i64 c, .slice none 0 0]) :=
  Nd_iff.2 ⟨hk, hc, none, 0, rfl, ⟨by simp [E.ks], by simp, fun _ => rfl, fun h => absurd rfl h⟩⟩
/-- The row of parts, and the node about it. -/
theorem eM_at {w : World} {base k : Nat} {v : Value} (h : w.ownsRow base 71 3 v (k + 2) (cM k)) (W : World) (hW : w.alloc (.cells #[.int .i64 4, .int .i64 0, v] 71) = W) :
    KsAt W W.heap.size [eM k] (some ⟨w.heap.size, 0, none⟩) 1 := by
  have bb : Below w.heap.size w W := by rw [← hW]; exact below_new _ _
  have hz : W.heap.size = w.heap.size + 1 := by rw [← hW]; simp
  have y : Cells W w.heap.size 71 #[.int .i64 4, .int .i64 0, v] := by rw [← hW]; exact cells_new _ _ _
  have hrow : ∃ A cap, v = .slice A (k + 2) cap ∧ KsAt W W.heap.size (.mk 0 5 [] :: List.replicate (k + 1) anyV) A cap := by
    rcases h.2 with ⟨h1, h3⟩ | ⟨g, cap, cur, h1, h3, h4, h5, h6, h7, h8⟩
    · omega
    · refine ⟨_, cap, h1, ⟨by simp; exact h5, h6, by simp, fun _ => ⟨g, 0, rfl, by have := (Array.getElem?_eq_some_iff.1 h4).1; omega, row_of fun i e he => ?_⟩⟩⟩
      have cc := fun j u hj => World.ownsRow.cells h (g := g) (by rw [h1]; rfl) j u hj
      have d : ∀ (j : Nat) (u : Value), (cM k)[j]? = some u → W.cell? ⟨g, j, none⟩ = some u := fun j u hj =>
        (bb.cell (p := ⟨g, j, none⟩) (Array.getElem?_eq_some_iff.1 h4).1).trans (by have := cc j u hj; rwa [add0] at this)
      cases i with
      | zero =>
        simp at he
        subst he
        exact ⟨_, _, _, by rw [Nat.zero_add]; exact d 0 _ rfl, by rw [Nat.zero_add]; exact d 1 _ rfl, by rw [Nat.zero_add]; exact d 2 _ rfl, nd_leafV 0 5 (by unfold i64; omega) (by unfold i64; omega)⟩
      | succ i =>
        have hi : i < k + 1 := by have := (List.getElem?_eq_some_iff.1 he).1; simpa using this
        have hee : e = anyV := by simp [hi] at he; exact he.symm
        subst hee
        obtain ⟨c1, c2, c3⟩ := cellsV_get (k + 1) i hi
        have t : ∀ q, (cM k)[q + 3]? = (cellsV (k + 1))[q]? := fun q => rfl
        refine ⟨_, _, _, ?_, ?_, ?_, nd_leafV 1 0 (by unfold i64; omega) (by unfold i64; omega)⟩
        · rw [Nat.zero_add]; exact d _ _ (by rw [show (i + 1) * 3 = i * 3 + 3 by omega, t]; exact c1)
        · rw [Nat.zero_add]; exact d _ _ (by rw [show (i + 1) * 3 + 1 = (i * 3 + 1) + 3 by omega, t]; exact c2)
        · rw [Nat.zero_add]; exact d _ _ (by rw [show (i + 1) * 3 + 2 = (i * 3 + 2) + 3 by omega, t]; exact c3)
  obtain ⟨A, cap, rfl, hk⟩ := hrow
  refine ⟨by simp, by unfold maxLen; omega, by simp, fun _ => ⟨_, 0, rfl, by omega, ⟨⟨_, _, _, y.cell 0, y.cell 1, y.cell 2, Nd_iff.2 ⟨show i64 4 from by unfold i64; omega, show i64 0 from by unfold i64; omega, A, cap, ?_, hk⟩⟩, trivial⟩⟩⟩
  simp [eM, E.k, E.c, E.ks]
set_option maxRecDepth 100000 in
theorem info71 : ∃ i, Tryd.prog.info? 71 = some i ∧ i.zero = some (.agg #[.int .i64 0, .int .i64 0, .slice none 0 0]) ∧ i.size = 3 ∧ i.bytes = 40 := ⟨_, rfl, rfl, rfl, rfl⟩
set_option maxHeartbeats 16000000 in
set_option maxRecDepth 100000 in
theorem many_any (n : Nat) (hn : n ≤ 255) (w : World) (hT : TZ w) (hP : PW w) : Calls Tryd.prog 8 #[.int .u8 (n : Int)] w fun r w' => r = .returned (.bool true) ∧ Below w.heap.size w w' := by
  obtain ⟨i0, hi, hz0, hz1, hz2⟩ := info71
  have C := Lib.hid (awake9_any w hT hP)
  have H := Lib.hid (And.intro hT hP)
  clear hT hP
  go_enter Tryd.func8, Tryd.ntmps8
  go_wp2_with fail
  refine C.out.mono ?_
  rintro r w2 ⟨rfl, hb2⟩
  obtain ⟨w3, hw3⟩ : ∃ W, w2.alloc (.cells #[.int .i64 0, .int .i64 5, .slice none 0 0, .int .i64 1, .int .i64 0, .slice none 0 0] 71) = W := ⟨_, rfl⟩
  have b3 : Below w.heap.size w w3 := by rw [← hw3]; exact hb2.trans ((below_new w2 _).mono hb2.size)
  have o3 : w3.ownsRow w2.heap.size 71 3 (.slice (some ⟨w2.heap.size, 0, none⟩) 2 2) 2 (cM 0) := by
    rw [← hw3]
    exact ⟨by simp [cM, cellsV, anyN], .inr ⟨w2.heap.size, 2, _, rfl, Nat.le_refl _, heap_alloc_new w2 _, Nat.le_refl _, by unfold maxLen; omega, by simp, by simp [cM, cellsV, anyN]⟩⟩
  have HW3 := Lib.hid hw3
  have H2 := Lib.hid (And.intro hb2 (And.intro b3 o3))
  clear hb2 hw3 b3 o3
  obtain ⟨K, hK⟩ : ∃ K : Nat, n % 12 = K := ⟨_, rfl⟩
  have hKi : (n : Int) % 12 = (K : Int) := by omega
  have hK12 : K < 12 := by omega
  go_wp2_with fail
  rw [HW3.out]
  clear hK hKi
  go_loopw [4, 5] (fun u4 u5 wr => ∃ j : Nat, u5 = .int .i64 (j : Int) ∧ j ≤ K ∧ wr.ownsRow w2.heap.size 71 3 u4 (j + 2) (cM j) ∧ Below w.heap.size w wr ∧ w2.heap.size ≤ wr.heap.size) (fun _ u5 _ => K - (RowKit.intOf u5).toNat)
  case atStart => exact ⟨0, rfl, by omega, H2.out.2.2, H2.out.2.1, by rw [← HW3.out]; simp⟩
  case round =>
    obtain ⟨j, rfl, hj, hown, hb, hz⟩ := hrel
    by_cases hlt : j < K
    · have i1 : (j : Int) < (K : Int) := by omega
      have HK := Lib.hid (And.intro hown (And.intro hb hz))
      have HNW := Lib.hid (World.news_of_block (heap_alloc_new wr (.cells #[.int .i64 1, .int .i64 0, .slice none 0 0] 71)))
      clear hown hb hz
      go_wp2_with (first
        | (at_builtin; refine wpList_append_own _ rfl _ _ 30 rfl w2.heap.size 71 i0 (.agg #[.int .i64 0, .int .i64 0, .slice none 0 0]) 3 40 Tryd.underlying30 hi hz0 hz1 hz2 rfl (by decide) _ _ _ rfl (HK.out.1.alloc _) ⟨wr.heap.size, 0, none⟩ 1 1 anyN rfl rfl HNW.out (by simp [anyN, Value.oneCell']) ?c2 ?c3 ?c4 ?_)
        | fail)
      case c2 => unfold maxLen; omega
      case c3 => omega
      case c4 => have := HK.out.2.2; first | omega | (simp; omega)
      intro v5 w5 hown5 hgrow5 _
      have hb5 : Below w.heap.size w w5 := (HK.out.2.1.alloc HK.out.2.1.size _).grown hgrow5 (by have := HK.out.2.1.size; simp; omega) (fun x hx => by have := (HK.out.1.lt x hx).1; have := H2.out.1.size; omega)
      have hend : ∃ i : Nat, Value.int .i64 ((j : Int) + 1) = .int .i64 (i : Int) ∧ i ≤ K ∧ w5.ownsRow w2.heap.size 71 3 v5 (i + 2) (cM i) ∧ Below w.heap.size w w5 ∧ w2.heap.size ≤ w5.heap.size :=
        ⟨j + 1, by simp, by omega, by rw [cM_succ]; exact hown5, hb5, by have h1 := hgrow5.size; have h2 := HK.out.2.2; simp at h1; omega⟩
      have HEND := Lib.hid hend
      clear hown5 hgrow5 hb5 hend
      go_wp2_with fail
      go_roundw
      case rel => exact HEND.out
      case measure => simp [RowKit.intOf]; omega
    · obtain rfl : j = K := by omega
      have i1 : ¬ (j : Int) < (j : Int) := by omega
      obtain ⟨A4, c4, e4⟩ : ∃ A cap, u4 = .slice A (j + 2) cap := by
        rcases hown.2 with ⟨h1, h2⟩ | ⟨g, c, _, h1, _⟩
        · omega
        · exact ⟨_, c, h1⟩
      subst e4
      obtain ⟨W5, hW5⟩ : ∃ W, wr.alloc (.cells #[.int .i64 4, .int .i64 0, .slice A4 (j + 2) c4] 71) = W := ⟨_, rfl⟩
      have hk5 := eM_at hown W5 hW5
      have b5 : Below w.heap.size w W5 := by rw [← hW5]; exact hb.alloc hb.size _
      have C5 := Lib.hid (new_any true [eM j] _ 1 W5 hk5 (fault_eM j hK12) (H.out.1.below b5 H.out.1.lt))
      have HW5 := Lib.hid hW5
      have H5 := Lib.hid b5
      clear hk5 b5 hW5 hown hb hz
      go_wp2_with fail
      rw [HW5.out]
      refine C5.out.mono ?_
      rintro r w6 ⟨q, nn, rfl, _, hn6, hb6⟩
      have b6 := H5.out.trans (hb6.mono H5.out.size)
      have C6 := Lib.hid (newD_any hn6 (H.out.1.below b6 H.out.1.lt) (H.out.2.below b6 H.out.2.lt))
      have H6 := Lib.hid b6
      clear hn6 hb6 b6
      go_wp2_with fail
      refine C6.out.mono ?_
      rintro r w7 ⟨R, T, v7, e7, rfl, hv7, hb7, hcase⟩
      have b7 := H6.out.trans (hb7.mono H6.out.size)
      obtain ⟨A, c, A2, c2, rfl, hR, hT⟩ := hv7
      have hfin : (e7 = 7 ∧ R.length = 0 ∧ T.length = 0 ∧ 10 ≤ j + 2) ∨ (e7 = 0 ∧ R.length = 2 ^ (j + 2) ∧ j + 2 ≤ 9) := by
        rcases hcase with ⟨rfl, rfl, rfl, S, hS, h1000⟩ | ⟨rfl, S, hB, hl, hs⟩
        · refine .inl ⟨rfl, rfl, rfl, ?_⟩
          have h1 := sv_most hK12 hS
          rcases Nat.lt_or_ge (j + 2) 10 with h2 | h2
          · have h3 : 2 ^ (j + 2) ≤ 2 ^ 9 := Nat.pow_le_pow_right (by omega) (by omega)
            have h4 : (2 : Nat) ^ 9 = 512 := by decide
            omega
          · exact h2
        · refine .inr ⟨rfl, by rw [hl]; exact bf_many hK12 hB hl, ?_⟩
          have h1 := bf_many hK12 hB hl
          rcases Nat.lt_or_ge (j + 2) 10 with h2 | h2
          · omega
          · have h3 : 2 ^ 10 ≤ 2 ^ (j + 2) := Nat.pow_le_pow_right (by omega) h2
            have h4 : (2 : Nat) ^ 10 = 1024 := by decide
            omega
      obtain ⟨n1, hn1⟩ : ∃ n, R.length = n := ⟨_, rfl⟩
      obtain ⟨n2, hn2⟩ : ∃ n, T.length = n := ⟨_, rfl⟩
      rw [hn1, hn2] at hfin
      rw [hn1, hn2]
      have HFIN := Lib.hid hfin
      obtain ⟨W8, hW8⟩ : ∃ W, w7.alloc (.cells #[.slice A n1 c, .slice A2 n2 c2] 54) = W := ⟨_, rfl⟩
      have b8' : Below w7.heap.size w7 W8 := by rw [← hW8]; exact below_new _ _
      have b8 := b7.trans (b8'.mono b7.size)
      have x8 : Cells W8 w7.heap.size 54 #[.slice A n1 c, .slice A2 n2 c2] := by rw [← hW8]; exact cells_new _ _ _
      have HW8 := Lib.hid hW8
      have H8 := Lib.hid (And.intro b8 x8)
      clear hW8 b8' b8 x8 b7 hb7 hR hT hcase hfin hn1 hn2
      go_wp2_with fail
      rw [HW8.out]
      refine (newD_nil W8).mono ?_
      rintro r w9 ⟨rfl, hb9⟩
      have x9 : Cells w9 w7.heap.size 54 #[.slice A n1 c, .slice A2 n2 c2] := (hb9.block _ H8.out.2.lt).trans H8.out.2
      have e0 := x9.cell 0
      have e1 := x9.cell 1
      simp at e0 e1
      have z9 : w7.heap.size < w9.heap.size := x9.lt
      have H9 := Lib.hid ((H8.out.1.trans (hb9.mono H8.out.1.size)).trans ((below_new w9 (.cells #[.slice none 0 0, .slice none 0 0] 54)).mono (H8.out.1.trans (hb9.mono H8.out.1.size)).size))
      clear hb9 x9
      rcases HFIN.out with ⟨rfl, h1, h2, h3⟩ | ⟨rfl, h1, h3⟩
      · subst h1 h2
        have i5 : (10 : Int) ≤ (j : Int) + 2 := by omega
        have j5 : decide ((10 : Int) ≤ (j : Int) + 2) = true := by simpa using i5
        go_wp2_with fail
        go_ret
        exact ⟨rfl, H9.out⟩
      · have HN := Lib.hid h1
        clear h1
        have i5 : ¬ (10 : Int) ≤ (j : Int) + 2 := by omega
        have j5 : decide ((10 : Int) ≤ (j : Int) + 2) = false := by simpa using i5
        obtain ⟨w10, hw10⟩ : ∃ W, w9.alloc (.cells #[.slice none 0 0, .slice none 0 0] 54) = W := ⟨_, rfl⟩
        have d0 : w10.cell? ⟨w7.heap.size, 0, none⟩ = some (.slice A n1 c) := by rw [← hw10, World.cell?_alloc_lt _ _ _ (by simpa using z9)]; exact e0
        have HW10 := Lib.hid hw10
        rw [hw10] at H9
        clear hw10
        go_wp2_with fail
        rw [HW10.out]
        clear e0 e1
        have hjw : IntKind.i64.wrap ((j : Int) + 2) = (j : Int) + 2 := IntWalk.i64_in _ (by omega)
        go_quiet (fail)
        rename_i nq _
        have hw64 : wrap64 ((2 : Int) ^ (j + 2)) = (2 : Int) ^ (j + 2) := by
          have h4 : (2 : Nat) ^ (j + 2) ≤ 2 ^ 9 := Nat.pow_le_pow_right (by omega) h3
          have h5 : ((2 ^ (j + 2) : Nat) : Int) = (2 : Int) ^ (j + 2) := by simp
          have h6 : (2 : Nat) ^ 9 = 512 := by decide
          rw [← h5]
          generalize (2 : Nat) ^ (j + 2) = P at *
          unfold wrap64
          omega
        have hres : ((n1 : Int) == wrap64 ((2 : Int) ^ (j + 2))) = true := by
          rw [hw64, HN.out]
          simp
        have HF := Lib.hid (below_drewN H9.out nq)
        have HRES := Lib.hid hres
        clear hw64 d0 hjw hres
        go_wp2_with fail
        go_ret
        exact ⟨ret_bool HRES.out, HF.out⟩
end Go.Proofs.YteamonmneoakpaaDoor

namespace Go.Proofs.YteamonmneoakpaaDoor
open Go.ChangeShapes Go.WideShapes Go.ChangeAt Go.RowKit Go.Shelf
open Go.Lib

set_option maxRecDepth 100000 in
theorem dfaMany_lifted (os : Os) (started : os.Started) (H : Type) (enc : TypeId × Value → H) :
    ReturnsInHanded {} Tryd.checked os 8 .any (fun w args => (Rows.dfaManySpec.pre enc Tryd.prog Tryd.f8 [] false w args ∧ laidMetH Tryd.prog laid3 w) ∧ sizedMet enc Tryd.prog Tryd.f8 (OpenSpec.ofChange Rows.dfaManySpec) false w args)
      (Rows.dfaManySpec.post enc Tryd.prog Tryd.f8 false true false false) := by
  refine returnsInHanded_of_change_and (C := Tryd.checked) (X := fun w _ => laidMetH Tryd.prog laid3 w) (fun _ _ _ hh h => h.of_heap hh) own started (by kernel_rfl) Tryd.func8
    (ChangeSpec.witness_shaped (enc := enc) (C := Tryd.checked) (os := os) (X := fun w _ => laidMetH Tryd.prog laid3 w) false (World.laidAll Tryd.prog os laid3) #[.int .u8 0] 8 (World.laidAll_os _ _ _)
      (World.shaped_of_ZipB (by kernel_rfl) (by kernel_rfl)) (by kernel_rfl) (by kernel_rfl) (by kernel_rfl)
      (by rw [MakeChecks.laidMetH_plain _ _ _ (by kernel_rfl)]; exact laidMet_laidAll _ (by kernel_rfl) (by kernel_rfl))) ?_
  intro W base args ds gs before hval0 hW _ _ hL _
  have hval : ∀ (j : Nat) t v, Tryd.f8.params[j]? = some t → args[j]? = some v → Value.okWide Tryd.prog W .any base t v := hval0
  have hW' := hW
  obtain ⟨p, q, hA0, hV, rfl, _, _⟩ := hW
  have hA : DataW.TrodAll enc Tryd.prog W 0 (fun _ => true) true Tryd.f8.params.toList args.toList ds p := hA0
  rw [Tryd.params8] at hA hval
  obtain ⟨v0, vs0, d0, ds0, p0, q0, hargs, rfl, rfl, h0, r0⟩ := trodAll_cons hA
  obtain ⟨rfl, rfl, rfl⟩ := trodAll_nil r0
  obtain rfl : args = #[v0] := by cases args; simp_all
  obtain ⟨rfl, rfl⟩ := trodVars_none hV
  obtain ⟨a0, rfl, rfl, rfl, w0⟩ := open_int Tryd.underlying5 (hval 0 5 v0 rfl rfl) h0
  have b0 : 0 ≤ a0 ∧ a0 ≤ 255 := by simpa [Lit.wf, IntKind.min, IntKind.max, IntKind.signed, IntKind.bits] using w0
  obtain ⟨n, rfl⟩ := Int.eq_ofNat_of_zero_le b0.1
  rw [MakeChecks.laidMetH_plain _ _ _ (by kernel_rfl)] at hL
  have hZ : TZ W := tz_of_reads (Lib.laidMet.reads hL (.tail _ (.head _)))
  have hPw : PW W := pw_of_reads (Lib.laidMet.reads hL (.tail _ (.tail _ (.head _))))
  clear hA0 hval0
  refine (many_any n (by omega) W hZ hPw).mono fun e W' ⟨he, bel⟩ => ?_
  subst he
  exact ⟨_, rfl, _, _, _, [], _, [], hW', trodAll_mk1 (shut_bool Tryd.underlying4 _), (trodAll_cons_mk (shut_int Tryd.underlying5 w0) trodAll_mk0), rfl, bel.frame _, fun h => by cases h⟩

theorem dfaMany_row : Rows.DfaManySaid :=
  OpenClaim.holds_of_wide 8 Tryd.f8 rfl rfl rfl rfl rfl rfl rfl ⟨rfl, rfl, rfl, rfl, rfl⟩ rfl rfl rfl rfl rfl (by kernel_rfl) Tryd.func8 (by kernel_rfl)
    (of_decide_eq_true (by kernel_rfl)) (by unfold Func.isWrapper; first | (rw [if_pos (by decide +kernel)]; kernel_rfl) | (rw [if_neg (by decide +kernel)]; exact ⟨rfl, rfl⟩))
    (fun os started H enc _ => dfaMany_lifted os started H enc)

/-- THE STATEMENT. -/
theorem dfaMany_holds : Rows.DfaManyCardSaid :=
  Claim7.holds_tied_plain_at .later [] [.data, .data, .data] true (true, "ce949b5f571b8c1e328b4fea5526353e7f726185cc188170a27722b370ed44f0") false
    dfaMany_row (fun _ h => by cases h) (by kernel_rfl) (fun _ h => by cases h) dfaMany_row_tie rfl ⟨rfl, rfl⟩ (by kernel_rfl) rfl
    (fun f fn hf hfn => by
      obtain rfl : f = 8 := Option.some.inj ((show Tryd.prog.funcNamed Rows.dfaManyRow.func = some 8 by kernel_rfl).symm.trans hf) |>.symm
      obtain rfl : fn = Tryd.f8 := (Option.some.inj (Tryd.func8.symm.trans hfn)).symm
      exact ⟨by kernel_rfl, fun j t ht => by
        rw [Tryd.params8] at ht
        have hm : t ∈ [5] := by simpa using Array.mem_of_getElem? ht
        have hall : ([5].all fun u => !Tryd.prog.wantsStandIn u) = true := by kernel_rfl
        exact (show Tryd.prog.wantsStandIn t = false by simpa using List.all_eq_true.1 hall t hm)⟩)
    (by kernel_rfl)
#print axioms dfaMany_holds
end Go.Proofs.YteamonmneoakpaaDoor

