/-
  Mathematics of references: what lies within one, both ways.
-/
import Derived.Test.YtpimadgcojgjaaaDoorMth
namespace Go.Proofs.YtpimadgcojgjaaaDoor
open Go.RowKit Go.Shelf Go.Lib Go.Maps Go.Great

theorem scR_pos (r : Int) : 0 ≤ scR r := by
  have := (valid_iff (scR r)).1 (scR_valid r)
  omega
theorem mnR_pos (n : Nat) : 0 ≤ mnR n := by
  unfold mnR
  split
  · decide
  · exact scR_pos _
theorem numZ_eq {b most : Nat} {u : List Nat} (h0 : u ≠ []) (hm : u.length ≤ most) (hd : ∀ x ∈ u, dgB b x = true) : numZ b most u = mnR (nbV b u 0) := by
  rw [numZ, if_neg (fun e => e.elim h0 (fun e => absurd hm (by omega))), if_pos (List.all_eq_true.2 hd)]
theorem find_hash {l : List UInt8} (h : (nats l).getD 0 0 = 35) : nmE.find? (isNm l) = none := by
  rw [List.find?_eq_none]
  intro x hx e
  have h1 : x.1 = l := by simpa [isNm] using e
  exact (nm_inn x hx).2.2.2.2 (by rw [h1]; exact h)
theorem nats_drop (l : List UInt8) (k : Nat) : nats (l.drop k) = (nats l).drop k := by simp [nats]
theorem nats_length (l : List UInt8) : (nats l).length = l.length := by simp [nats]
theorem innZ_hex {l : List UInt8} {X : Nat} {ds : List Nat} (hl : nats l = 35 :: X :: ds) (hX : X = 120 ∨ X = 88) (h0 : ds ≠ []) (hm : ds.length ≤ 6) (hd : ∀ x ∈ ds, dgB 16 x = true) : innZ l = mnR (nbV 16 ds 0) := by
  have hf := find_hash (l := l) (by rw [hl]; rfl)
  have hlen : l.length = ds.length + 2 := by rw [← nats_length, hl]; rfl
  rw [innZ, hf]
  simp only
  rw [if_neg (by rw [hl]; simp), if_pos ⟨by omega, by rw [hl]; exact hX⟩, nats_drop, hl]
  exact numZ_eq h0 hm hd
theorem dg10_x {c : Nat} (h : dgB 10 c = true) : c ≠ 120 ∧ c ≠ 88 ∧ c ≠ 59 := by
  refine ⟨?_, ?_, ?_⟩ <;> (rintro rfl; revert h; decide)
theorem dg16_x {c : Nat} (h : dgB 16 c = true) : c ≠ 59 := by
  rintro rfl
  revert h
  decide
theorem innZ_dec {l : List UInt8} {ds : List Nat} (hl : nats l = 35 :: ds) (h0 : ds ≠ []) (hm : ds.length ≤ 7) (hd : ∀ x ∈ ds, dgB 10 x = true) : innZ l = mnR (nbV 10 ds 0) := by
  have hf := find_hash (l := l) (by rw [hl]; rfl)
  have hd0 : ¬ (1 < l.length ∧ ((nats l).getD 1 0 = 120 ∨ (nats l).getD 1 0 = 88)) := by
    rintro ⟨_, e⟩
    rw [hl] at e
    cases ds with
    | nil => exact h0 rfl
    | cons d r =>
      have := dg10_x (hd d (by simp))
      simp at e
      omega
  rw [innZ, hf]
  simp only
  rw [if_neg (by rw [hl]; simp), if_neg hd0, nats_drop, hl]
  exact numZ_eq h0 hm hd
/-- What lies within a reference. -/
theorem innZ_ok {l : List UInt8} (h : 0 ≤ innZ l) : (∃ x, x ∈ nmE ∧ nmE.find? (isNm l) = some x ∧ x.1 = l) ∨ (∃ X ds, nats l = 35 :: X :: ds ∧ (X = 120 ∨ X = 88) ∧ ds ≠ [] ∧ ds.length ≤ 6 ∧ ∀ x ∈ ds, dgB 16 x = true) ∨ (∃ ds, nats l = 35 :: ds ∧ ds ≠ [] ∧ ds.length ≤ 7 ∧ ∀ x ∈ ds, dgB 10 x = true) := by
  unfold innZ at h
  cases hf : nmE.find? (isNm l) with
  | some x => exact Or.inl ⟨x, List.mem_of_find?_eq_some hf, rfl, by simpa [isNm] using List.find?_some hf⟩
  | none =>
    rw [hf] at h
    simp only at h
    split at h
    · omega
    · rename_i h35
      have h35 : (nats l).getD 0 0 = 35 := by omega
      cases hl : nats l with
      | nil => rw [hl] at h35; simp at h35
      | cons c u =>
        obtain rfl : c = 35 := by rw [hl] at h35; simpa using h35
        split at h
        · rename_i hx
          cases u with
          | nil =>
            have := nats_length l
            rw [hl] at this
            simp at this
            omega
          | cons X ds =>
            rw [nats_drop, hl] at h
            obtain ⟨a1, a2, a3, _⟩ := numZ_ok h
            exact Or.inr (Or.inl ⟨X, ds, rfl, by have := hx.2; rw [hl] at this; simpa using this, a1, a2, a3⟩)
        · rw [nats_drop, hl] at h
          obtain ⟨a1, a2, a3, _⟩ := numZ_ok h
          exact Or.inr (Or.inr ⟨u, rfl, a1, a2, a3⟩)
theorem innZ_len {l : List UInt8} (h : 0 ≤ innZ l) : 59 ∉ nats l ∧ 2 ≤ l.length ∧ l.length ≤ 8 := by
  rcases innZ_ok h with ⟨x, hx, _, rfl⟩ | ⟨X, ds, hl, hX, h0, hm, hd⟩ | ⟨ds, hl, h0, hm, hd⟩
  · have := nm_inn x hx
    exact ⟨this.1, this.2.1, this.2.2.1⟩
  · have hlen := nats_length l
    rw [hl] at hlen ⊢
    have h1 : 0 < ds.length := List.length_pos_iff.2 h0
    simp at hlen
    refine ⟨?_, by omega, by omega⟩
    intro hm
    simp only [List.mem_cons] at hm
    rcases hm with e | e | e
    · omega
    · omega
    · exact dg16_x (hd 59 e) rfl
  · have hlen := nats_length l
    rw [hl] at hlen ⊢
    have h1 : 0 < ds.length := List.length_pos_iff.2 h0
    simp at hlen
    refine ⟨?_, by omega, by omega⟩
    intro hm
    simp only [List.mem_cons] at hm
    rcases hm with e | e
    · omega
    · exact (dg10_x (hd 59 e)).2.2 rfl
end Go.Proofs.YtpimadgcojgjaaaDoor
