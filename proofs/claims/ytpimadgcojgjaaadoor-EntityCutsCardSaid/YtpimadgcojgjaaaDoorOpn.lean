/-
  Mathematics: a reference, cut off anywhere, is open.
-/
import Derived.Test.YtpimadgcojgjaaaDoorOpm
namespace Go.Proofs.YtpimadgcojgjaaaDoor
open Go.RowKit Go.Shelf Go.Lib Go.Maps Go.Great

theorem all_no59 {b : Nat} (hb : b = 10 ∨ b = 16) {d : List Nat} (h : d.all (dgB b) = true) : 59 ∉ d := fun hm => by
  have := List.all_eq_true.1 h 59 hm
  rw [no59 hb] at this
  cases this
theorem open_no59 : ∀ (ys : List Nat), openZ ys = true → 59 ∉ ys
  | [], h => by simp
  | a :: t, h => by
    unfold openZ at h
    split at h
    · rename_i t' e
      injection e with e1 e2
      subst e1 e2
      rw [Bool.or_eq_true] at h
      have ht : 59 ∉ t := by
        rcases h with h | h
        · unfold nmPre at h
          rw [List.any_eq_true] at h
          obtain ⟨x, hx, hp⟩ := h
          rw [List.isPrefixOf_iff_prefix] at hp
          exact fun hm => nm_no59 x hx (hp.subset hm)
        · unfold opN at h
          split at h
          · rename_i d
            rw [Bool.or_eq_true] at h
            have hd : 59 ∉ d := by
              rcases h with h | h
              · unfold opD at h
                rw [Bool.and_eq_true] at h
                exact all_no59 (.inl rfl) h.1
              · unfold opH at h
                split at h
                · rename_i X e
                  simp only [Bool.and_eq_true, Bool.or_eq_true, beq_iff_eq] at h
                  have he := all_no59 (.inr rfl) h.2.1
                  intro hm
                  rcases List.mem_cons.1 hm with hm | hm
                  · rcases h.1 with h1 | h1 <;> omega
                  · exact he hm
                · cases h
            intro hm
            rcases List.mem_cons.1 hm with hm | hm
            · cases hm
            · exact hd hm
          · cases h
      intro hm
      rcases List.mem_cons.1 hm with hm | hm
      · cases hm
      · exact ht hm
    · cases h
theorem read_no59 {ys : List Nat} (h256 : ∀ x ∈ ys, x < 256) (h : 59 ∉ ys) : readE ys 0 = (0, 0) := by
  rcases Nat.eq_zero_or_pos ys.length with e | e
  · rw [readE, if_pos (Or.inr (by omega))]
  · have hs := read_same ys h256 0 e
    have hr := ref_none (xs := ys) (k := 0) (by rw [List.drop_zero]; exact h256) e (fun n _ hg => by
      rw [List.drop_zero] at hg
      exact h (List.mem_of_getElem? hg.he))
    rw [← hr, ← hs]
    rfl
theorem open_read {ys : List Nat} (h256 : ∀ x ∈ ys, x < 256) (h : openZ ys = true) : readE ys 0 = (0, 0) := read_no59 h256 (open_no59 ys h)
theorem all_take {b : Nat} {d : List Nat} (h : ∀ x ∈ d, dgB b x = true) (k : Nat) : (d.take k).all (dgB b) = true := List.all_eq_true.2 fun x hx => h x (List.mem_of_mem_take hx)
/-- A reference, cut off anywhere. -/
theorem cut_open {l : List UInt8} (hi : 0 ≤ innZ l) {k : Nat} (hk : k ≤ l.length + 1) : openZ ((nats (refB l)).take k) = decide (0 < k) ∧ readE ((nats (refB l)).take k) 0 = (0, 0) := by
  have hl := nats_length l
  have h59 := (innZ_len hi).1
  have e : nats (refB l) = 38 :: (nats l ++ [59]) := by rw [refB, nats_cons, nats_app]; rfl
  cases k with
  | zero =>
    rw [List.take_zero]
    exact ⟨by simp [openZ], by decide⟩
  | succ k =>
    have ht : (nats (refB l)).take (k + 1) = 38 :: (nats l).take k := by
      rw [e, List.take_succ_cons, List.take_append_of_le_length (by omega)]
    rw [ht]
    refine ⟨?_, read_no59 (fun x hx => ?_) (fun hm => ?_)⟩
    · have hg : openZ (38 :: (nats l).take k) = true := by
        show (nmPre ((nats l).take k) || opN ((nats l).take k)) = true
        rcases innZ_ok hi with ⟨x, hx, _, he⟩ | ⟨X, ds, he, hX, _, hm, hd⟩ | ⟨ds, he, _, hm, hd⟩
        · have : nmPre ((nats l).take k) = true := by
            unfold nmPre
            rw [List.any_eq_true]
            exact ⟨x, hx, by rw [List.isPrefixOf_iff_prefix, he]; exact List.take_prefix _ _⟩
          rw [this]
          rfl
        · rw [he]
          rcases k with _ | _ | k
          · show (nmPre [] || opN []) = true
            decide
          · simp [opN, opD]
          · have h1 : List.take (k + 1 + 1) (35 :: X :: ds) = 35 :: X :: ds.take k := rfl
            rw [h1]
            have h2 : opH (X :: ds.take k) = true := by
              show ((X == 120 || X == 88) && ((ds.take k).all (dgB 16) && decide ((ds.take k).length ≤ 6))) = true
              rw [all_take hd]
              rcases hX with rfl | rfl <;> simp <;> omega
            simp [opN, h2]
        · rw [he]
          cases k with
          | zero =>
            show (nmPre [] || opN []) = true
            decide
          | succ k =>
            have h1 : List.take (k + 1) (35 :: ds) = 35 :: ds.take k := rfl
            rw [h1]
            have h2 : opD (ds.take k) = true := by
              unfold opD
              rw [all_take hd]
              simp
              omega
            simp [opN, h2]
      rw [hg]
      simp
    · rcases List.mem_cons.1 hx with rfl | hx
      · omega
      · exact nats_256 l x (List.mem_of_mem_take hx)
    · rcases List.mem_cons.1 hm with hm | hm
      · cases hm
      · exact h59 (List.mem_of_mem_take hm)
theorem whole_shut (l : List UInt8) : openZ (nats (refB l)) = false := by
  cases h : openZ (nats (refB l)) with
  | false => rfl
  | true =>
    refine absurd ?_ (open_no59 _ h)
    rw [refB, nats_cons, nats_app]
    simp [nats]
end Go.Proofs.YtpimadgcojgjaaaDoor
