/-
  A scalar's bytes, read again; contracts: virguleref01.Put, virguleref01.Hex.
-/
import Derived.Test.YtimiinnnmdcmhaaDoorPi7
namespace Go.Proofs.YtimiinnnmdcmhaaDoor
open Go.RowKit Go.Shelf
open Go.Lib

/-- What is read of a number's bytes. -/
def scR (r : Int) : Int := if Lib.validRune r then r else 65533
theorem scR_valid (r : Int) : Lib.validRune (scR r) = true := by
  unfold scR
  split
  · assumption
  · decide
theorem encZ_scR (r : Int) : encodeRuneZ r = encodeRuneZ (scR r) := by
  unfold scR
  split
  · rfl
  · rename_i h
    have h1 : r < 0 ∨ (55296 ≤ r ∧ r ≤ 57343) ∨ 1114111 < r := by
      have h3 : ¬ (0 ≤ r ∧ r ≤ 1114111 ∧ ¬ (55296 ≤ r ∧ r ≤ 57343)) := fun e => h ((valid_iff r).2 e)
      omega
    rw [encodeRuneZ_bad h1]
    decide
def zb (zs : List Int) (j : Nat) : Nat := (zs.getD j 0).toNat
theorem enc_f (r : Int) (j : Nat) : ((encodeRune r).getD j 0).toNat = zb (encodeRuneZ r) j := by
  unfold zb encodeRune
  by_cases h : j < (encodeRuneZ r).length
  · have hb := encodeRuneZ_byte r _ (List.getElem_mem h)
    simp [List.getD_eq_getElem?_getD, h]
    omega
  · simp [List.getD_eq_getElem?_getD, h]
theorem enc_len (r : Int) : (encodeRune r).length = (encodeRuneZ r).length := by simp [encodeRune]

theorem piece_enc (v : Int) (h : Lib.validRune v = true) : M1.pieceB (encodeRuneZ v).length (zb (encodeRuneZ v) 0) (zb (encodeRuneZ v) 1) (zb (encodeRuneZ v) 2) (zb (encodeRuneZ v) 3) = (v.toNat, (encodeRuneZ v).length, true) := by
  obtain ⟨h0, h1, h2⟩ := (valid_iff v).1 h
  obtain ⟨n, rfl⟩ : ∃ n : Nat, v = n := ⟨v.toNat, by omega⟩
  by_cases c1 : (n : Int) ≤ 127
  · rw [encodeRuneZ_one h0 c1]
    have e : zb [(n : Int)] 0 = n := by simp [zb]
    show M1.pieceB 1 (zb [(n : Int)] 0) 0 0 0 = _
    rw [e]
    unfold M1.pieceB
    rw [if_pos (by unfold firstT; rw [if_pos (by omega)])]
    simp
  · by_cases c2 : (n : Int) ≤ 2047
    · rw [encodeRuneZ_two (by omega) c2]
      have e0 : zb [192 + (n : Int) / 64, 128 + (n : Int) % 64] 0 = 192 + n / 64 := by simp [zb]; omega
      have e1 : zb [192 + (n : Int) / 64, 128 + (n : Int) % 64] 1 = 128 + n % 64 := by simp [zb]; omega
      show M1.pieceB 2 (zb [192 + (n : Int) / 64, 128 + (n : Int) % 64] 0) (zb [192 + (n : Int) / 64, 128 + (n : Int) % 64] 1) 0 0 = _
      rw [e0, e1]
      have ft : firstT (192 + n / 64) = 2 := by
        unfold firstT
        rw [if_neg (by omega), if_neg (by omega), if_pos (by omega)]
      unfold M1.pieceB
      rw [ft, if_neg (by omega), if_neg (by omega)]
      unfold M1.pieceS
      rw [if_pos ⟨by omega, by show 128 ≤ _; omega, by show _ ≤ 191; omega⟩, if_pos (by decide)]
      simp
      omega
    · by_cases c3 : (n : Int) ≤ 65535
      · rw [encodeRuneZ_three (by omega)]
        have e0 : zb [224 + (n : Int) / 4096, 128 + (n : Int) / 64 % 64, 128 + (n : Int) % 64] 0 = 224 + n / 4096 := by simp [zb]; omega
        have e1 : zb [224 + (n : Int) / 4096, 128 + (n : Int) / 64 % 64, 128 + (n : Int) % 64] 1 = 128 + n / 64 % 64 := by simp [zb]; omega
        have e2 : zb [224 + (n : Int) / 4096, 128 + (n : Int) / 64 % 64, 128 + (n : Int) % 64] 2 = 128 + n % 64 := by simp [zb]; omega
        show M1.pieceB 3 (zb [224 + (n : Int) / 4096, 128 + (n : Int) / 64 % 64, 128 + (n : Int) % 64] 0) (zb [224 + (n : Int) / 4096, 128 + (n : Int) / 64 % 64, 128 + (n : Int) % 64] 1) (zb [224 + (n : Int) / 4096, 128 + (n : Int) / 64 % 64, 128 + (n : Int) % 64] 2) 0 = _
        rw [e0, e1, e2]
        have key : ∀ f lo hi, firstT (224 + n / 4096) = f → f % 8 = 3 → f ≠ 240 → f ≠ 241 → accLo (f / 16) = lo → accHi (f / 16) = hi → lo ≤ 128 + n / 64 % 64 → 128 + n / 64 % 64 ≤ hi → M1.pieceB 3 (224 + n / 4096) (128 + n / 64 % 64) (128 + n % 64) 0 = ((n : Int).toNat, 3, true) := by
          intro f lo hi hf h8 n0 n1 hlo hhi g1 g2
          unfold M1.pieceB
          rw [hf, if_neg n0, if_neg n1, h8, hlo, hhi]
          unfold M1.pieceS
          rw [if_pos ⟨by omega, g1, g2⟩, if_neg (by decide), if_pos ⟨by omega, by omega, by omega⟩, if_pos rfl]
          simp
          omega
        by_cases d1 : n / 4096 = 0
        · exact key 19 160 191 (by unfold firstT; rw [if_neg (by omega), if_neg (by omega), if_neg (by omega), if_pos (by omega)]) (by decide) (by decide) (by decide) (by decide) (by decide) (by omega) (by omega)
        · by_cases d2 : n / 4096 = 13
          · exact key 35 128 159 (by unfold firstT; rw [if_neg (by omega), if_neg (by omega), if_neg (by omega), if_neg (by omega), if_neg (by omega), if_pos (by omega)]) (by decide) (by decide) (by decide) (by decide) (by decide) (by omega) (by omega)
          · by_cases d3 : n / 4096 < 13
            · exact key 3 128 191 (by unfold firstT; rw [if_neg (by omega), if_neg (by omega), if_neg (by omega), if_neg (by omega), if_pos (by omega)]) (by decide) (by decide) (by decide) (by decide) (by decide) (by omega) (by omega)
            · exact key 3 128 191 (by unfold firstT; rw [if_neg (by omega), if_neg (by omega), if_neg (by omega), if_neg (by omega), if_neg (by omega), if_neg (by omega), if_pos (by omega)]) (by decide) (by decide) (by decide) (by decide) (by decide) (by omega) (by omega)
      · rw [encodeRuneZ_four (by omega) (by omega)]
        have e0 : zb [240 + (n : Int) / 262144, 128 + (n : Int) / 4096 % 64, 128 + (n : Int) / 64 % 64, 128 + (n : Int) % 64] 0 = 240 + n / 262144 := by simp [zb]; omega
        have e1 : zb [240 + (n : Int) / 262144, 128 + (n : Int) / 4096 % 64, 128 + (n : Int) / 64 % 64, 128 + (n : Int) % 64] 1 = 128 + n / 4096 % 64 := by simp [zb]; omega
        have e2 : zb [240 + (n : Int) / 262144, 128 + (n : Int) / 4096 % 64, 128 + (n : Int) / 64 % 64, 128 + (n : Int) % 64] 2 = 128 + n / 64 % 64 := by simp [zb]; omega
        have e3 : zb [240 + (n : Int) / 262144, 128 + (n : Int) / 4096 % 64, 128 + (n : Int) / 64 % 64, 128 + (n : Int) % 64] 3 = 128 + n % 64 := by simp [zb]; omega
        rw [e0, e1, e2, e3]
        have key : ∀ f lo hi, firstT (240 + n / 262144) = f → f % 8 = 4 → f ≠ 240 → f ≠ 241 → accLo (f / 16) = lo → accHi (f / 16) = hi → lo ≤ 128 + n / 4096 % 64 → 128 + n / 4096 % 64 ≤ hi → M1.pieceB 4 (240 + n / 262144) (128 + n / 4096 % 64) (128 + n / 64 % 64) (128 + n % 64) = ((n : Int).toNat, 4, true) := by
          intro f lo hi hf h8 n0 n1 hlo hhi g1 g2
          unfold M1.pieceB
          rw [hf, if_neg n0, if_neg n1, h8, hlo, hhi]
          unfold M1.pieceS
          rw [if_pos ⟨by omega, g1, g2⟩, if_neg (by decide), if_pos ⟨by omega, by omega, by omega⟩, if_neg (by decide), if_pos ⟨by omega, by omega, by omega⟩]
          simp
          omega
        by_cases d1 : n / 262144 = 0
        · exact key 52 144 191 (by unfold firstT; rw [if_neg (by omega), if_neg (by omega), if_neg (by omega), if_neg (by omega), if_neg (by omega), if_neg (by omega), if_neg (by omega), if_pos (by omega)]) (by decide) (by decide) (by decide) (by decide) (by decide) (by omega) (by omega)
        · by_cases d2 : n / 262144 = 4
          · exact key 68 128 143 (by unfold firstT; rw [if_neg (by omega), if_neg (by omega), if_neg (by omega), if_neg (by omega), if_neg (by omega), if_neg (by omega), if_neg (by omega), if_neg (by omega), if_neg (by omega), if_pos (by omega)]) (by decide) (by decide) (by decide) (by decide) (by decide) (by omega) (by omega)
          · exact key 4 128 191 (by unfold firstT; rw [if_neg (by omega), if_neg (by omega), if_neg (by omega), if_neg (by omega), if_neg (by omega), if_neg (by omega), if_neg (by omega), if_neg (by omega), if_pos (by omega)]) (by decide) (by decide) (by decide) (by decide) (by decide) (by omega) (by omega)

theorem zb_out (zs : List Int) (j : Nat) (h : zs.length ≤ j) : zb zs j = 0 := by simp [zb, List.getD_eq_getElem?_getD, h]
theorem rest_enc (r : Int) : rest (encodeRune r).length (fun j => ((encodeRune r).getD j 0).toNat) 0 = [((scR r).toNat, 0, (encodeRune r).length, true)] := by
  have hl := (encodeRuneZ_length r).1
  have hl' := enc_len r
  have hf : (fun j => ((encodeRune r).getD j 0).toNat) = zb (encodeRuneZ r) := funext fun j => enc_f r j
  rw [hf, hl']
  have hp : pc (encodeRuneZ r).length (zb (encodeRuneZ r)) = ((scR r).toNat, (encodeRuneZ r).length, true) := by
    have hb : ∀ j, bt (encodeRuneZ r).length (zb (encodeRuneZ r)) j = zb (encodeRuneZ r) j := fun j => by
      unfold bt
      split
      · rfl
      · rw [zb_out _ _ (by omega)]
    unfold pc
    rw [hb, hb, hb, hb, encZ_scR]
    exact piece_enc _ (scR_valid r)
  have hr : rd (encodeRuneZ r).length (zb (encodeRuneZ r)) 0 = ((scR r).toNat, 0, (encodeRuneZ r).length, true) := by
    unfold rd
    have e : (fun j => zb (encodeRuneZ r) (0 + j)) = zb (encodeRuneZ r) := funext fun j => by rw [Nat.zero_add]
    rw [e, Nat.sub_zero, hp]
  rw [rest_cons _ _ (by omega), hr]
  simp only [Nat.zero_add]
  rw [rest_end _ _ (Nat.le_refl _)]
end Go.Proofs.YtimiinnnmdcmhaaDoor
