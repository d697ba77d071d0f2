/-
  The text of a list of states is no other's.
-/
import Derived.Test.YtmldgfplnacecaaDoorNml
import Derived.Lib.ItoaNum
namespace Go.Proofs.YtmldgfplnacecaaDoor
open Go.RowKit Go.Shelf Go.Lib Go.Maps Go.Sort

/-- The text of a set. -/
def txt : List Int → List UInt8
  | [] => []
  | p :: r => itoa p ++ 44 :: txt r
theorem txt_append (a b : List Int) : txt (a ++ b) = txt a ++ txt b := by
  induction a with
  | nil => rfl
  | cons p r ih => simp [txt, ih]
theorem txt_take {xs : List Int} {i : Nat} {x : Int} (h : xs[i]? = some x) : txt (xs.take (i + 1)) = txt (xs.take i) ++ itoa x ++ [44] := by
  rw [List.take_add_one, h, Option.toList_some, txt_append]
  simp [txt]
def decB (l : List UInt8) : Nat := l.foldl (fun a d => a * 10 + (d.toNat - 48)) 0
theorem digits_ok : ∀ u, ∀ d ∈ decDigits u, 48 ≤ d.toNat ∧ d.toNat ≤ 57 := by
  intro u
  induction u using Nat.strongRecOn with
  | ind u ih =>
    rw [decDigits]
    split
    · intro d hd
      simp only [List.mem_singleton] at hd
      subst hd
      rw [UInt8.toNat_ofNat']; omega
    · intro d hd
      rcases List.mem_append.1 hd with hd | hd
      · exact ih _ (by omega) d hd
      · simp only [List.mem_singleton] at hd
        subst hd
        rw [UInt8.toNat_ofNat']; omega
theorem dec_digits : ∀ u, decB (decDigits u) = u := by
  intro u
  induction u using Nat.strongRecOn with
  | ind u ih =>
    rw [decDigits]
    split
    · simp only [decB, List.foldl_cons, List.foldl_nil]
      rw [UInt8.toNat_ofNat']; omega
    · have := ih (u / 10) (by omega)
      unfold decB at *
      rw [List.foldl_append, this]
      simp only [List.foldl_cons, List.foldl_nil]
      rw [UInt8.toNat_ofNat']; omega
theorem digits_len : ∀ u, u < 10000 → (decDigits u).length ≤ 4 := by
  intro u hu
  rw [decDigits]
  split
  · simp
  · rw [decDigits]
    split
    · simp
    · rw [decDigits]
      split
      · simp
      · rw [decDigits, dif_pos (by omega)]; simp
theorem cut44 {a b r s : List UInt8} (ha : ∀ d ∈ a, d ≠ 44) (hb : ∀ d ∈ b, d ≠ 44) (h : a ++ 44 :: r = b ++ 44 :: s) : a = b ∧ r = s := by
  induction a generalizing b with
  | nil =>
    cases b with
    | nil => simp at h; exact ⟨rfl, h⟩
    | cons y t => simp at h; exact absurd h.1.symm (hb y (by simp))
  | cons x t ih =>
    cases b with
    | nil => simp at h; exact absurd h.1 (ha x (by simp))
    | cons y u =>
      simp at h
      obtain ⟨h1, h2⟩ := ih (fun d hd => ha d (by simp [hd])) (fun d hd => hb d (by simp [hd])) h.2
      exact ⟨by rw [h.1, h1], h2⟩
theorem itoa_pos {p : Int} (h : 0 ≤ p) : itoa p = decDigits p.toNat := by unfold itoa; rw [if_neg (by omega)]
theorem itoa_no44 {p : Int} (h : 0 ≤ p) : ∀ d ∈ itoa p, d ≠ 44 := by
  rw [itoa_pos h]
  intro d hd e
  have := digits_ok _ d hd
  subst e
  simp at this
theorem itoa_inj {p q : Int} (hp : 0 ≤ p) (hq : 0 ≤ q) (h : itoa p = itoa q) : p = q := by
  rw [itoa_pos hp, itoa_pos hq] at h
  have := congrArg decB h
  rw [dec_digits, dec_digits] at this
  omega
theorem txt_inj : ∀ x y : List Int, (∀ p ∈ x, 0 ≤ p) → (∀ p ∈ y, 0 ≤ p) → txt x = txt y → x = y
  | [], [], _, _, _ => rfl
  | [], q :: s, _, _, h => by simp [txt] at h
  | p :: r, [], _, _, h => by simp [txt] at h
  | p :: r, q :: s, hx, hy, h => by
    unfold txt at h
    obtain ⟨h1, h2⟩ := cut44 (itoa_no44 (hx p (by simp))) (itoa_no44 (hy q (by simp))) h
    rw [itoa_inj (hx p (by simp)) (hy q (by simp)) h1, txt_inj r s (fun a ha => hx a (by simp [ha])) (fun a ha => hy a (by simp [ha])) h2]

end Go.Proofs.YtmldgfplnacecaaDoor
