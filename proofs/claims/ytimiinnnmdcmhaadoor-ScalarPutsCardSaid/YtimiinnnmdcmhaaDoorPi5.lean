/-
  Texts of scalars, in plain words: which text is a scalar's, by the program's way and by the document's.
-/
import Derived.Test.YtimiinnnmdcmhaaDoorPi4
namespace Go.Proofs.YtimiinnnmdcmhaaDoor
open Go.Lib

/-- A great digit. -/
def ud (c : Nat) : Nat := if 48 ≤ c ∧ c ≤ 57 then c - 48 else if 65 ≤ c ∧ c ≤ 70 then c - 55 else 99
def udF (m : Nat) (l : List UInt8) : Nat := l.foldl (fun a c => 16 * a + ud c.toNat) m
def Ups (l : List UInt8) : Prop := ∀ c ∈ l, ud c.toNat < 16
theorem ud_pd : ∀ c : Nat, c < 256 → ud c < 16 → pd c = ud c := by decide +kernel
theorem ud_up : ∀ d, d < 16 → ud (upperB (hexC d)).toNat = d := by decide +kernel
theorem ud_ne : ∀ c : Nat, c < 256 → ud c < 16 → c ≠ 43 ∧ c ≠ 45 := by decide +kernel
theorem ud_48 : ∀ c : Nat, c < 256 → (ud c = 0 ↔ c = 48) := by decide +kernel
theorem hexU_lt {n : Nat} (h : n < 16) : hexU n = [upperB (hexC n)] := by unfold hexU toUpperA; rw [hexD_lt h]; rfl
theorem hexU_ge {n : Nat} (h : ¬ n < 16) : hexU n = hexU (n / 16) ++ [upperB (hexC (n % 16))] := by
  unfold hexU toUpperA
  rw [hexD_ge h, List.map_append]
  rfl
theorem udF_snoc (m : Nat) (l : List UInt8) (c : UInt8) : udF m (l ++ [c]) = 16 * udF m l + ud c.toNat := by simp [udF]
theorem udF_cons (m : Nat) (c : UInt8) (l : List UInt8) : udF m (c :: l) = udF (16 * m + ud c.toNat) l := rfl
theorem hexU_ups (n : Nat) : Ups (hexU n) := by
  induction n using Nat.strongRecOn with
  | ind n ih =>
    intro c hc
    by_cases h : n < 16
    · rw [hexU_lt h] at hc
      rw [List.mem_singleton.1 hc, ud_up n h]
      exact h
    · rw [hexU_ge h] at hc
      rcases List.mem_append.1 hc with hc | hc
      · exact ih _ (by omega) c hc
      · rw [List.mem_singleton.1 hc, ud_up _ (by omega)]
        omega
theorem hexU_val (n : Nat) : udF 0 (hexU n) = n := by
  induction n using Nat.strongRecOn with
  | ind n ih =>
    by_cases h : n < 16
    · rw [hexU_lt h]
      show 16 * 0 + ud _ = n
      rw [ud_up n h]
      omega
    · rw [hexU_ge h, udF_snoc, ih _ (by omega), ud_up _ (by omega)]
      omega
theorem zeros_val (k : Nat) (l : List UInt8) : udF 0 (List.replicate k 48 ++ l) = udF 0 l := by
  induction k with
  | zero => rfl
  | succ k ih => rw [List.replicate_succ, List.cons_append, ← ih]; rfl
theorem pad_ups (n : Nat) : Ups (pad4 (hexU n)) := by
  intro c hc
  rcases List.mem_append.1 (show c ∈ List.replicate (4 - (hexU n).length) 48 ++ hexU n from hc) with hc | hc
  · rw [List.eq_of_mem_replicate hc]; decide
  · exact hexU_ups n c hc
theorem pad_val (n : Nat) : udF 0 (pad4 (hexU n)) = n := by
  unfold pad4
  rw [zeros_val, hexU_val]
theorem pad_len (n : Nat) : (pad4 (hexU n)).length = max 4 (hexD n).length := by
  unfold pad4
  rw [List.length_append, List.length_replicate, hexU_len]
  omega
theorem hexD_more (n : Nat) : ∀ k, 16 ^ k ≤ n → k + 1 ≤ (hexD n).length := by
  induction n using Nat.strongRecOn with
  | ind n ih =>
    intro k hk
    cases k with
    | zero => exact (hexD_len n).1
    | succ k =>
      have h16 : 16 ≤ n := Nat.le_trans (by rw [Nat.pow_succ]; have : 0 < 16 ^ k := Nat.pow_pos (by omega); omega) hk
      rw [hexD_ge (by omega)]
      have := ih (n / 16) (by omega) k (by rw [Nat.le_div_iff_mul_le (by omega), ← Nat.pow_succ]; exact hk)
      simp
      omega

theorem udF_le (l : List UInt8) : ∀ m, m ≤ udF m l := by
  induction l with
  | nil => exact fun m => Nat.le_refl _
  | cons c l ih => intro m; rw [udF_cons]; exact Nat.le_trans (by omega) (ih _)
theorem udF_bound (l : List UInt8) (h : Ups l) : ∀ m, udF m l < 16 ^ l.length * (m + 1) := by
  induction l with
  | nil => intro m; show m < 16 ^ 0 * (m + 1); omega
  | cons c l ih =>
    intro m
    rw [udF_cons, List.length_cons, Nat.pow_succ, Nat.mul_assoc]
    have h1 := ih (fun x hx => h x (List.mem_cons_of_mem _ hx)) (16 * m + ud c.toNat)
    have h2 := h c List.mem_cons_self
    refine Nat.lt_of_lt_of_le h1 (Nat.mul_le_mul_left _ (by omega))
theorem udF_low (l : List UInt8) : ∀ m, 16 ^ l.length * m ≤ udF m l := by
  induction l with
  | nil => intro m; show 16 ^ 0 * m ≤ m; omega
  | cons c l ih =>
    intro m
    rw [udF_cons, List.length_cons, Nat.pow_succ, Nat.mul_assoc]
    exact Nat.le_trans (Nat.mul_le_mul_left _ (by omega)) (ih (16 * m + ud c.toNat))
/-- Digits of one length that have one number are the same. -/
theorem ups_eq (n : Nat) : ∀ {a b : List UInt8}, a.length = n → b.length = n → Ups a → Ups b → udF 0 a = udF 0 b → a.map (fun c => ud c.toNat) = b.map (fun c => ud c.toNat) := by
  induction n with
  | zero =>
    intro a b ha hb _ _ _
    rw [List.length_eq_zero_iff.1 ha, List.length_eq_zero_iff.1 hb]
  | succ n ih =>
    intro a b ha hb ua ub h
    rcases List.eq_nil_or_concat a with rfl | ⟨a', x, rfl⟩
    · simp at ha
    · rcases List.eq_nil_or_concat b with rfl | ⟨b', y, rfl⟩
      · simp at hb
      · simp only [List.concat_eq_append] at *
        rw [udF_snoc, udF_snoc] at h
        have hx := ua x (by simp)
        have hy := ub y (by simp)
        have e1 : udF 0 a' = udF 0 b' := by omega
        have e2 : ud x.toNat = ud y.toNat := by omega
        have := ih (by simpa using ha) (by simpa using hb) (fun c hc => ua c (by simp [hc])) (fun c hc => ub c (by simp [hc])) e1
        rw [List.map_append, List.map_append, this]
        simp [e2]
theorem ud_back : ∀ c : Nat, c < 256 → ud c < 16 → (if ud c < 10 then ud c + 48 else ud c + 55) = c := by decide +kernel
theorem ud_inj (a : Nat) (ha : a < 256) (b : Nat) (hb : b < 256) (h : ud a < 16) (e : ud a = ud b) : a = b := by
  rw [← ud_back a ha h, ← ud_back b hb (by omega), e]
theorem ups_eq' {a b : List UInt8} (hl : a.length = b.length) (ua : Ups a) (ub : Ups b) (h : udF 0 a = udF 0 b) : a = b := by
  have hm := ups_eq a.length rfl hl.symm ua ub h
  apply List.ext_getElem hl
  intro i h1 h2
  have := congrArg (·[i]?) hm
  simp [h1, h2] at this
  exact UInt8.toNat_inj.1 (ud_inj _ (UInt8.toNat_lt _) _ (UInt8.toNat_lt _) (ua _ (List.getElem_mem h1)) this)

theorem pu_ups (l : List UInt8) (h : Ups l) : ∀ m, udF m l ≤ 4294967295 → pu l m = .ok (udF m l) := by
  induction l with
  | nil => intro m _; rfl
  | cons c l ih =>
    intro m hm
    have hc := h c List.mem_cons_self
    have hp := ud_pd c.toNat (UInt8.toNat_lt c) hc
    rw [udF_cons] at hm ⊢
    have := udF_le l (16 * m + ud c.toNat)
    unfold pu
    rw [hp, if_pos hc, if_pos (by omega)]
    exact ih (fun x hx => h x (List.mem_cons_of_mem _ hx)) _ hm
theorem valid_iff (r : Int) : Lib.validRune r = true ↔ 0 ≤ r ∧ r ≤ 1114111 ∧ ¬ (55296 ≤ r ∧ r ≤ 57343) := by
  unfold Lib.validRune
  rw [decide_eq_true_eq]
  omega
theorem piE_pad (n : Nat) (h : n ≤ 1114111) : piE (pad4 (hexU n)) = .ok (n : Int) := by
  have hu := pad_ups n
  have hv := pad_val n
  have hl := pad_len n
  generalize pad4 (hexU n) = D at *
  cases D with
  | nil => simp at hl; omega
  | cons c r =>
    obtain ⟨n1, n2⟩ := ud_ne c.toNat (UInt8.toNat_lt c) (hu c List.mem_cons_self)
    have e1 : c ≠ 43 := fun e => n1 (by rw [e]; rfl)
    have e2 : c ≠ 45 := fun e => n2 (by rw [e]; rfl)
    show (if c = 43 then _ else if c = 45 then _ else _) = _
    rw [if_neg e1, if_neg e2]
    have : puE (c :: r) = .ok n := by
      unfold puE
      rw [if_neg (by simp), pu_ups _ hu 0 (by omega), hv]
    rw [this]
    show (if n < 2147483648 then _ else _) = _
    rw [if_pos (by omega)]
theorem scT_pos {r : Int} (h : 0 ≤ r) : scT r = 85 :: 43 :: pad4 (hexU r.toNat) := by
  unfold scT
  rw [if_neg (by omega), show r.natAbs = r.toNat by omega]
  rfl
theorem scP_some {L : List UInt8} {n : Int} (h : scP L = some n) : Lib.validRune n = true ∧ scT n = L := by
  unfold scP at h
  split at h
  · split at h
    · split at h
      · split at h
        · injection h with h
          subst h
          exact ⟨by assumption, by assumption⟩
        · cases h
      · cases h
    · cases h
  · cases h
theorem scP_of {n : Int} (h : Lib.validRune n = true) : scP (scT n) = some n := by
  obtain ⟨h0, h1, _⟩ := (valid_iff n).1 h
  unfold scP
  have e := scT_pos h0
  have hp : Lib.hasPrefix (scT n) [85, 43] = true := by rw [e]; rfl
  have ht : Lib.trimPrefix (scT n) [85, 43] = pad4 (hexU n.toNat) := by
    unfold Lib.trimPrefix
    rw [hp, if_pos rfl, e]
    rfl
  rw [hp, if_pos rfl, ht, piE_pad _ (by omega)]
  have e3 : ((n.toNat : Nat) : Int) = n := by omega
  show (if Lib.validRune (n.toNat : Nat) then (if scT (n.toNat : Nat) = scT n then some ((n.toNat : Nat) : Int) else none) else none) = some n
  rw [e3, if_pos h, if_pos rfl]

/-! ### The document's way -/
def rv : List UInt8 → Nat → Option Nat
  | [], m => some m
  | c :: r, m => if ud c.toNat < 16 then rv r (16 * m + ud c.toNat) else none
theorem rv_ups (l : List UInt8) (h : Ups l) : ∀ m, rv l m = some (udF m l) := by
  induction l with
  | nil => exact fun m => rfl
  | cons c l ih =>
    intro m
    unfold rv
    rw [if_pos (h c List.mem_cons_self)]
    exact ih (fun x hx => h x (List.mem_cons_of_mem _ hx)) _
theorem rv_some (l : List UInt8) : ∀ m n, rv l m = some n → Ups l ∧ udF m l = n := by
  induction l with
  | nil => intro m n h; exact ⟨fun c hc => by simp at hc, by show m = n; simpa [rv] using h⟩
  | cons c l ih =>
    intro m n h
    unfold rv at h
    split at h
    · obtain ⟨h1, h2⟩ := ih _ _ h
      exact ⟨fun x hx => by rcases List.mem_cons.1 hx with rfl | hx; assumption; exact h1 x hx, h2⟩
    · cases h
/-- The document's answer. -/
def rfP (L : List UInt8) : Int :=
  if 6 ≤ L.length ∧ L.length ≤ 8 ∧ L.take 2 = [85, 43] ∧ ¬ (6 < L.length ∧ L[2]? = some 48) then
    (match rv (L.drop 2) 0 with
      | some m => if Lib.validRune m then (m : Int) else -1
      | none => -1) else -1
theorem rfP_of {n : Int} (h : Lib.validRune n = true) : rfP (scT n) = n := by
  obtain ⟨h0, h1, _⟩ := (valid_iff n).1 h
  have e := scT_pos h0
  have hl := pad_len n.toNat
  have hu := pad_ups n.toNat
  have hv := pad_val n.toNat
  have h6 := (hexD_len n.toNat).2 5 (by omega)
  have hmore := hexD_len n.toNat
  rw [e]
  generalize pad4 (hexU n.toNat) = D at *
  have hz : ¬ (6 < (85 :: 43 :: D).length ∧ (85 :: 43 :: D)[2]? = some 48) := by
    rintro ⟨a, b⟩
    cases D with
    | nil => simp at a
    | cons c r =>
      simp at a b
      subst b
      have hb := udF_bound r (fun x hx => hu x (List.mem_cons_of_mem _ hx)) 0
      have hv' : udF 0 r = n.toNat := by rw [← hv]; rfl
      rw [hv'] at hb
      obtain ⟨k, hk⟩ : ∃ k, r.length = k + 1 := ⟨r.length - 1, by simp at hl; omega⟩
      rw [hk] at hb
      have := hmore.2 k (by simpa using hb)
      simp at hl
      omega
  unfold rfP
  rw [if_pos ⟨by simp; omega, by simp; omega, rfl, hz⟩]
  show (match rv D 0 with | some m => if Lib.validRune m then (m : Int) else -1 | none => -1) = n
  rw [rv_ups D hu, hv]
  show (if Lib.validRune (n.toNat : Nat) then ((n.toNat : Nat) : Int) else -1) = n
  rw [show ((n.toNat : Nat) : Int) = n by omega, if_pos h]
theorem rfP_pos {L : List UInt8} (h : rfP L ≠ -1) : Lib.validRune (rfP L) = true ∧ scT (rfP L) = L := by
  unfold rfP at h ⊢
  split at h
  · rename_i hc
    rw [if_pos hc]
    cases hr : rv (L.drop 2) 0 with
    | none => rw [hr] at h; exact absurd rfl h
    | some m =>
      rw [hr] at h
      dsimp only at h ⊢
      split at h
      · rename_i hv
        rw [if_pos hv]
        refine ⟨hv, ?_⟩
        obtain ⟨hu, hm⟩ := rv_some _ _ _ hr
        obtain ⟨c1, c2, c3, c4⟩ := hc
        obtain ⟨v0, v1, _⟩ := (valid_iff _).1 hv
        rw [scT_pos v0]
        have eL : L = 85 :: 43 :: L.drop 2 := by
          conv => lhs; rw [← List.take_append_drop 2 L, c3]
          rfl
        have hdl : (L.drop 2).length = L.length - 2 := by simp
        conv => rhs; rw [eL]
        have hm' : ((m : Nat) : Int).toNat = m := by omega
        rw [hm']
        suffices ee : pad4 (hexU m) = L.drop 2 by rw [ee]
        refine ups_eq' ?_ (pad_ups m) hu (by rw [pad_val, hm])
        rw [pad_len, hdl]
        have hb := udF_bound _ hu 0
        rw [hm, hdl] at hb
        obtain ⟨k, hk⟩ : ∃ k, L.length - 2 = k + 1 := ⟨L.length - 3, by omega⟩
        rw [hk] at hb ⊢
        have hle := (hexD_len m).2 k (by simpa using hb)
        by_cases c5 : L.length = 6
        · omega
        · have hne : L[2]? ≠ some 48 := fun e => c4 ⟨by omega, e⟩
          cases hD : L.drop 2 with
          | nil => rw [hD] at hdl; simp at hdl; omega
          | cons c r =>
            have hc2 : L[2]? = some c := by
              have := congrArg (·[0]?) hD
              simpa using this
            have hc48 : c.toNat ≠ 48 := fun e => hne (by rw [hc2]; exact congrArg some (UInt8.toNat_inj.1 (by rw [e]; rfl)))
            have hd1 : ud c.toNat ≠ 0 := fun e => hc48 ((ud_48 _ (UInt8.toNat_lt c)).1 e)
            rw [hD] at hm hdl
            rw [udF_cons] at hm
            have hlow := udF_low r (16 * 0 + ud c.toNat)
            rw [hm] at hlow
            have hrl : r.length = k := by simp at hdl; omega
            rw [hrl] at hlow
            have := hexD_more m k (Nat.le_trans (Nat.le_mul_of_pos_right _ (by omega)) hlow)
            omega
      · exact absurd rfl h
  · exact absurd rfl h
theorem scP_rfP (L : List UInt8) : scP L = if rfP L = -1 then none else some (rfP L) := by
  by_cases h : rfP L = -1
  · rw [if_pos h]
    cases hs : scP L with
    | none => rfl
    | some n =>
      obtain ⟨a, b⟩ := scP_some hs
      rw [← b, rfP_of a] at h
      have := (valid_iff n).1 a
      omega
  · rw [if_neg h]
    obtain ⟨a, b⟩ := rfP_pos h
    conv => lhs; rw [← b]
    exact scP_of a
end Go.Proofs.YtimiinnnmdcmhaaDoor
