/-
  Contract: entity.nearest.
-/
import Derived.Test.YtpimadgcojgjaaaDoorSNx
import Derived.Test.YtpimadgcojgjaaaDoorPut
namespace Go.Proofs.YtpimadgcojgjaaaDoor
open Go.RowKit Go.Shelf Go.Lib Go.Maps
open S

def zb (zs : List Int) (j : Nat) : Nat := (zs.getD j 0).toNat
theorem enc_f (r : Int) (j : Nat) : ((encodeRune r).getD j 0).toNat = zb (encodeRuneZ r) j := by
  unfold zb encodeRune
  by_cases h : j < (encodeRuneZ r).length
  · have hb := encodeRuneZ_byte r _ (List.getElem_mem h)
    simp [List.getD_eq_getElem?_getD, h]
    omega
  · simp [List.getD_eq_getElem?_getD, h]
theorem enc_len2 (r : Int) : (encodeRune r).length = (encodeRuneZ r).length := by simp [encodeRune]

theorem piece_enc (v : Int) (h : Lib.validRune v = true) : M1.pieceB (encodeRuneZ v).length (zb (encodeRuneZ v) 0) (zb (encodeRuneZ v) 1) (zb (encodeRuneZ v) 2) (zb (encodeRuneZ v) 3) = (v.toNat, (encodeRuneZ v).length, true) := by
  obtain ⟨h0, h1, h2⟩ := (valid_iff v).1 h
  obtain ⟨n, rfl⟩ : ∃ n : Nat, v = n := ⟨v.toNat, by omega⟩
  by_cases c1 : (n : Int) ≤ 127
  · rw [encodeRuneZ_one h0 c1]
    have e : zb [(n : Int)] 0 = n := by simp [zb]
    show M1.pieceB 1 (zb [(n : Int)] 0) 0 0 0 = _
    rw [e]
    unfold M1.pieceB
    rw [if_pos (by unfold firstT; rw [if_pos (by omega)])]
    simp
  · by_cases c2 : (n : Int) ≤ 2047
    · rw [encodeRuneZ_two (by omega) c2]
      have e0 : zb [192 + (n : Int) / 64, 128 + (n : Int) % 64] 0 = 192 + n / 64 := by simp [zb]; omega
      have e1 : zb [192 + (n : Int) / 64, 128 + (n : Int) % 64] 1 = 128 + n % 64 := by simp [zb]; omega
      show M1.pieceB 2 (zb [192 + (n : Int) / 64, 128 + (n : Int) % 64] 0) (zb [192 + (n : Int) / 64, 128 + (n : Int) % 64] 1) 0 0 = _
      rw [e0, e1]
      have ft : firstT (192 + n / 64) = 2 := by
        unfold firstT
        rw [if_neg (by omega), if_neg (by omega), if_pos (by omega)]
      unfold M1.pieceB
      rw [ft, if_neg (by omega), if_neg (by omega)]
      unfold M1.pieceS
      rw [if_pos ⟨by omega, by show 128 ≤ _; omega, by show _ ≤ 191; omega⟩, if_pos (by decide)]
      simp
      omega
    · by_cases c3 : (n : Int) ≤ 65535
      · rw [encodeRuneZ_three (by omega)]
        have e0 : zb [224 + (n : Int) / 4096, 128 + (n : Int) / 64 % 64, 128 + (n : Int) % 64] 0 = 224 + n / 4096 := by simp [zb]; omega
        have e1 : zb [224 + (n : Int) / 4096, 128 + (n : Int) / 64 % 64, 128 + (n : Int) % 64] 1 = 128 + n / 64 % 64 := by simp [zb]; omega
        have e2 : zb [224 + (n : Int) / 4096, 128 + (n : Int) / 64 % 64, 128 + (n : Int) % 64] 2 = 128 + n % 64 := by simp [zb]; omega
        show M1.pieceB 3 (zb [224 + (n : Int) / 4096, 128 + (n : Int) / 64 % 64, 128 + (n : Int) % 64] 0) (zb [224 + (n : Int) / 4096, 128 + (n : Int) / 64 % 64, 128 + (n : Int) % 64] 1) (zb [224 + (n : Int) / 4096, 128 + (n : Int) / 64 % 64, 128 + (n : Int) % 64] 2) 0 = _
        rw [e0, e1, e2]
        have key : ∀ f lo hi, firstT (224 + n / 4096) = f → f % 8 = 3 → f ≠ 240 → f ≠ 241 → accLo (f / 16) = lo → accHi (f / 16) = hi → lo ≤ 128 + n / 64 % 64 → 128 + n / 64 % 64 ≤ hi → M1.pieceB 3 (224 + n / 4096) (128 + n / 64 % 64) (128 + n % 64) 0 = ((n : Int).toNat, 3, true) := by
          intro f lo hi hf h8 n0 n1 hlo hhi g1 g2
          unfold M1.pieceB
          rw [hf, if_neg n0, if_neg n1, h8, hlo, hhi]
          unfold M1.pieceS
          rw [if_pos ⟨by omega, g1, g2⟩, if_neg (by decide), if_pos ⟨by omega, by omega, by omega⟩, if_pos rfl]
          simp
          omega
        by_cases d1 : n / 4096 = 0
        · exact key 19 160 191 (by unfold firstT; rw [if_neg (by omega), if_neg (by omega), if_neg (by omega), if_pos (by omega)]) (by decide) (by decide) (by decide) (by decide) (by decide) (by omega) (by omega)
        · by_cases d2 : n / 4096 = 13
          · exact key 35 128 159 (by unfold firstT; rw [if_neg (by omega), if_neg (by omega), if_neg (by omega), if_neg (by omega), if_neg (by omega), if_pos (by omega)]) (by decide) (by decide) (by decide) (by decide) (by decide) (by omega) (by omega)
          · by_cases d3 : n / 4096 < 13
            · exact key 3 128 191 (by unfold firstT; rw [if_neg (by omega), if_neg (by omega), if_neg (by omega), if_neg (by omega), if_pos (by omega)]) (by decide) (by decide) (by decide) (by decide) (by decide) (by omega) (by omega)
            · exact key 3 128 191 (by unfold firstT; rw [if_neg (by omega), if_neg (by omega), if_neg (by omega), if_neg (by omega), if_neg (by omega), if_neg (by omega), if_pos (by omega)]) (by decide) (by decide) (by decide) (by decide) (by decide) (by omega) (by omega)
      · rw [encodeRuneZ_four (by omega) (by omega)]
        have e0 : zb [240 + (n : Int) / 262144, 128 + (n : Int) / 4096 % 64, 128 + (n : Int) / 64 % 64, 128 + (n : Int) % 64] 0 = 240 + n / 262144 := by simp [zb]; omega
        have e1 : zb [240 + (n : Int) / 262144, 128 + (n : Int) / 4096 % 64, 128 + (n : Int) / 64 % 64, 128 + (n : Int) % 64] 1 = 128 + n / 4096 % 64 := by simp [zb]; omega
        have e2 : zb [240 + (n : Int) / 262144, 128 + (n : Int) / 4096 % 64, 128 + (n : Int) / 64 % 64, 128 + (n : Int) % 64] 2 = 128 + n / 64 % 64 := by simp [zb]; omega
        have e3 : zb [240 + (n : Int) / 262144, 128 + (n : Int) / 4096 % 64, 128 + (n : Int) / 64 % 64, 128 + (n : Int) % 64] 3 = 128 + n % 64 := by simp [zb]; omega
        rw [e0, e1, e2, e3]
        have key : ∀ f lo hi, firstT (240 + n / 262144) = f → f % 8 = 4 → f ≠ 240 → f ≠ 241 → accLo (f / 16) = lo → accHi (f / 16) = hi → lo ≤ 128 + n / 4096 % 64 → 128 + n / 4096 % 64 ≤ hi → M1.pieceB 4 (240 + n / 262144) (128 + n / 4096 % 64) (128 + n / 64 % 64) (128 + n % 64) = ((n : Int).toNat, 4, true) := by
          intro f lo hi hf h8 n0 n1 hlo hhi g1 g2
          unfold M1.pieceB
          rw [hf, if_neg n0, if_neg n1, h8, hlo, hhi]
          unfold M1.pieceS
          rw [if_pos ⟨by omega, g1, g2⟩, if_neg (by decide), if_pos ⟨by omega, by omega, by omega⟩, if_neg (by decide), if_pos ⟨by omega, by omega, by omega⟩]
          simp
          omega
        by_cases d1 : n / 262144 = 0
        · exact key 52 144 191 (by unfold firstT; rw [if_neg (by omega), if_neg (by omega), if_neg (by omega), if_neg (by omega), if_neg (by omega), if_neg (by omega), if_neg (by omega), if_pos (by omega)]) (by decide) (by decide) (by decide) (by decide) (by decide) (by omega) (by omega)
        · by_cases d2 : n / 262144 = 4
          · exact key 68 128 143 (by unfold firstT; rw [if_neg (by omega), if_neg (by omega), if_neg (by omega), if_neg (by omega), if_neg (by omega), if_neg (by omega), if_neg (by omega), if_neg (by omega), if_neg (by omega), if_pos (by omega)]) (by decide) (by decide) (by decide) (by decide) (by decide) (by omega) (by omega)
          · exact key 4 128 191 (by unfold firstT; rw [if_neg (by omega), if_neg (by omega), if_neg (by omega), if_neg (by omega), if_neg (by omega), if_neg (by omega), if_neg (by omega), if_neg (by omega), if_pos (by omega)]) (by decide) (by decide) (by decide) (by decide) (by decide) (by omega) (by omega)

theorem zb_out (zs : List Int) (j : Nat) (h : zs.length ≤ j) : zb zs j = 0 := by simp [zb, List.getD_eq_getElem?_getD, h]

theorem pc_enc (r : Int) : S.pc (encodeRuneZ r).length (zb (encodeRuneZ r)) = ((scR r).toNat, (encodeRuneZ r).length, true) := by
  have h := piece_enc (scR r) (scR_valid r)
  rw [← encZ_scR] at h
  unfold S.pc
  have e : ∀ j, S.bt (encodeRuneZ r).length (zb (encodeRuneZ r)) j = zb (encodeRuneZ r) j := fun j => by
    unfold S.bt
    split
    · rfl
    · exact (zb_out _ _ (by omega)).symm
  rw [e, e, e, e]
  exact h
theorem scR_nat (r : Int) : (((scR r).toNat : Nat) : Int) = scR r := by
  have := (valid_iff (scR r)).1 (scR_valid r)
  omega
set_option maxHeartbeats 4000000 in
set_option maxRecDepth 100000 in
theorem nearest_any (r : Int) (h0 : -2147483648 ≤ r) (h1 : r ≤ 2147483647) (w : World) (hT : S.Tabs w) : Calls Tryd.prog 41 #[.int .i32 r] w fun e w' => e = .returned (.int .i32 (scR r)) ∧ Below w.heap.size w w' := by
  have KP := S.put_any r h0 h1 w
  have KN : ∀ e W, S.PutPost (encodeRune r) w e W → ∃ g cap, e = .returned (.slice (some ⟨g, 0, none⟩) (encodeRuneZ r).length cap) ∧ Below w.heap.size w W ∧ Calls Tryd.prog 57 #[.slice (some ⟨g, 0, none⟩) (encodeRuneZ r).length cap, .int .i64 0] W fun e w' => (∃ n : Int, e = .returned (.tuple #[.int .i32 (scR r), .int .i64 n])) ∧ Below W.heap.size W w' := fun e W h => by
    obtain ⟨g, cap, rfl, hc, hl, hm, hg, hb⟩ := h
    rw [enc_len2] at hl ⊢
    refine ⟨g, cap, rfl, hb, ?_⟩
    have hTW : S.Tabs W := hT.below hb hT.2
    have hB : S.Bs W g 0 (encodeRuneZ r).length (zb (encodeRuneZ r)) := fun j hj => by
      have hj' : j < (encodeRune r).length := by rw [enc_len2]; exact hj
      have e1 := enc_f r j
      have e2 : (encodeRune r).getD j 0 = (encodeRune r)[j] := by simp [List.getD_eq_getElem?_getD, hj']
      rw [e2] at e1
      refine ⟨?_, ?_⟩
      · rw [Nat.zero_add, hc j hj', e1]
      · rw [← e1]; exact UInt8.toNat_lt _
    have C := S.next_in g 0 (encodeRuneZ r).length cap 0 (zb (encodeRuneZ r)) W hTW hB (by have := (encodeRuneZ_length r).1; omega) hl hm
    refine C.mono ?_
    rintro e w' ⟨rfl, hb2⟩
    refine ⟨⟨((S.pc ((encodeRuneZ r).length - 0) (fun j => zb (encodeRuneZ r) (0 + j))).2.1 : Int), ?_⟩, hb2⟩
    · rw [Nat.sub_zero]
      simp only [Nat.zero_add]
      rw [show (fun j => zb (encodeRuneZ r) j) = zb (encodeRuneZ r) from rfl, pc_enc, scR_nat]
  have HK := Lib.hid (And.intro KP KN)
  clear KP KN
  generalize (encodeRuneZ r).length = n at *
  generalize scR r = R at *
  go_enter Tryd.func41, Tryd.ntmps41
  go_wp2_with fail
  refine HK.out.1.mono ?_
  intro e w1 h1
  obtain ⟨g, cap, rfl, hb1, C1⟩ := HK.out.2 _ _ h1
  have H1 := Lib.hid (And.intro hb1 C1)
  clear hb1 C1 h1
  go_wp2_with fail
  refine H1.out.2.mono ?_
  rintro e w2 ⟨⟨q, rfl⟩, hb2⟩
  have H2 := Lib.hid (H1.out.1.trans (hb2.mono H1.out.1.size))
  clear hb2
  go_wp2_with fail
  go_ret
  exact ⟨rfl, H2.out⟩
end Go.Proofs.YtpimadgcojgjaaaDoor
