/-
  Mathematics: what is written is read again.
-/
import Derived.Test.YtpimadgcojgjaaaDoorErw
import Derived.Test.YtpimadgcojgjaaaDoorMtc
namespace Go.Proofs.YtpimadgcojgjaaaDoor
open Go.RowKit Go.Shelf Go.Lib Go.Maps Go.Great

theorem nats_app (a b : List UInt8) : nats (a ++ b) = nats a ++ nats b := by simp [nats]
theorem nats_cons (a : UInt8) (b : List UInt8) : nats (a :: b) = a.toNat :: nats b := rfl
theorem nats_256 (l : List UInt8) : ∀ x ∈ nats l, x < 256 := nats_lt l
/-- A reference of what lies within, whatever follows. -/
def refB (l : List UInt8) : List UInt8 := 38 :: (l ++ [59])
theorem refB_len (l : List UInt8) : (refB l).length = l.length + 2 := by simp [refB]
theorem good_ref (l : List UInt8) (ys : List Nat) (h1 : 1 ≤ l.length) (hi : 0 ≤ innZ l) : Good (nats (refB l) ++ ys) (l.length + 2) ∧ innZ (u8s (inner (nats (refB l) ++ ys) (l.length + 2))) = innZ l ∧ (nats (refB l) ++ ys).getD 0 0 = 38 := by
  have e : nats (refB l) ++ ys = 38 :: (nats l ++ (59 :: ys)) := by
    rw [refB, nats_cons, nats_app]
    show 38 :: ((nats l ++ [59]) ++ ys) = _
    simp
  have hl : (nats l).length = l.length := nats_length l
  have hin : inner (nats (refB l) ++ ys) (l.length + 2) = nats l := by
    rw [e, inner]
    show (List.take (l.length + 1) (38 :: (nats l ++ (59 :: ys)))).drop 1 = nats l
    rw [List.take_succ_cons, List.drop_succ_cons, List.drop_zero, List.take_append_of_le_length (by omega), List.take_of_length_le (by omega)]
  have hu : u8s (nats l) = l := by
    unfold u8s nats
    rw [List.map_map]
    conv => rhs; rw [← List.map_id l]
    refine List.map_congr_left fun x _ => ?_
    simp
  refine ⟨⟨by omega, ?_, ?_, ?_⟩, by rw [hin, hu], by rw [e]; rfl⟩
  · rw [e]
    simp [hl] <;> omega
  · rw [e]
    show (38 :: (nats l ++ (59 :: ys)))[l.length + 1]? = some 59
    rw [List.getElem?_cons_succ, List.getElem?_append_right (by omega), hl, Nat.sub_self]
    try rfl
  · rw [hin, hu]
    exact hi
theorem read_ref (l : List UInt8) (ys : List Nat) (hy : ∀ x ∈ ys, x < 256) (h1 : 1 ≤ l.length) (hi : 0 ≤ innZ l) : readE (nats (refB l) ++ ys) 0 = (innZ l, (refB l).length) ∧ (refB l).length ≤ 10 := by
  have h256 : ∀ x ∈ nats (refB l) ++ ys, x < 256 := fun x hx => by
    rcases List.mem_append.1 hx with hx | hx
    · exact nats_256 _ x hx
    · exact hy x hx
  obtain ⟨hg, he, h0⟩ := good_ref l ys h1 hi
  have hlen : 0 < (nats (refB l) ++ ys).length := by have := hg.hn; omega
  have hs := read_same _ h256 0 hlen
  have hr := ref_good (xs := nats (refB l) ++ ys) (k := 0) (n := l.length + 2) (by rw [List.drop_zero]; exact h256) hlen (by rw [List.drop_zero]; exact h0) (by rw [List.drop_zero]; exact hg)
  rw [List.drop_zero, he] at hr
  refine ⟨?_, ?_⟩
  · rw [refB_len, ← hr, ← hs]
    rfl
  · rw [refB_len]
    exact (good_10 hg).1
theorem nm_inner : ∀ x ∈ nmE, innZ x.1 = x.2 ∧ 1 ≤ x.1.length ∧ 0 ≤ x.2 := by decide +kernel
theorem hexC_dg : ∀ d, d < 16 → dv (S.hexC d).toNat = d ∧ dgB 16 (S.hexC d).toNat = true ∧ (S.hexC d).toNat < 256 := by decide +kernel
theorem hexD_dg (n : Nat) : (∀ x ∈ nats (S.hexD n), dgB 16 x = true) ∧ nbV 16 (nats (S.hexD n)) 0 = n := by
  induction n using Nat.strongRecOn with
  | _ n ih =>
    by_cases c : n < 16
    · rw [S.hexD_lt c]
      have h := hexC_dg n c
      refine ⟨fun x hx => ?_, ?_⟩
      · obtain rfl : x = (S.hexC n).toNat := by simpa [nats] using hx
        exact h.2.1
      · have := nbV_snoc 16 [] (S.hexC n).toNat 0
        simp only [List.nil_append] at this
        show nbV 16 [(S.hexC n).toNat] 0 = n
        rw [this, h.1]
        simp [nbV]
    · rw [S.hexD_ge c]
      have h := hexC_dg (n % 16) (by omega)
      have hi := ih (n / 16) (by omega)
      rw [nats_app]
      refine ⟨fun x hx => ?_, ?_⟩
      · rcases List.mem_append.1 hx with hx | hx
        · exact hi.1 x hx
        · obtain rfl : x = (S.hexC (n % 16)).toNat := by simpa [nats] using hx
          exact h.2.1
      · show nbV 16 (nats (S.hexD (n / 16)) ++ [(S.hexC (n % 16)).toNat]) 0 = n
        rw [nbV_snoc, hi.2, h.1]
        omega
theorem hexD_pos (n : Nat) : 1 ≤ (S.hexD n).length := by
  by_cases c : n < 16
  · rw [S.hexD_lt c]; simp
  · rw [S.hexD_ge c]; simp
/-- What is written: nothing, or a reference that stands for it. -/
theorem wr_ref {r : Int} (h0 : r ≠ 0) (hv : Lib.validRune r = true) : ∃ l, wrS r = refB l ∧ 1 ≤ l.length ∧ innZ l = r ∧ 0 ≤ r := by
  have hvi := (valid_iff r).1 hv
  cases hf : nmE.find? (isRu r) with
  | some x =>
    have hm := List.mem_of_find?_eq_some hf
    have hp : x.2 = r := by simpa [isRu] using List.find?_some hf
    have h := nm_inner x hm
    exact ⟨x.1, by rw [wrS_name hf, refB], h.2.1, h.1.trans hp, hvi.1⟩
  | none =>
    obtain ⟨n, rfl⟩ : ∃ n : Nat, r = (n : Int) := ⟨r.toNat, by omega⟩
    have hd := hexD_dg n
    have hl := hexD_len n 5 (by omega)
    have hp := hexD_pos n
    refine ⟨35 :: 120 :: S.hexD n, by rw [wrS_hex hf h0 hv, refB]; rfl, by simp, ?_, hvi.1⟩
    rw [innZ_hex (l := 35 :: 120 :: S.hexD n) (X := 120) (ds := nats (S.hexD n)) rfl (.inl rfl) (by intro e; have h9 := congrArg List.length e; rw [nats_length] at h9; rw [h9] at hp; exact absurd hp (by decide)) (by rw [nats_length]; exact hl) hd.1, hd.2]
    unfold mnR scR
    rw [if_neg (by omega), hv]
    simp
theorem wr_empty {r : Int} (h : r = 0 ∨ Lib.validRune r = false) : wrS r = [] := wrS_none (ru_none h) h
end Go.Proofs.YtpimadgcojgjaaaDoor
