/-
  Contracts: virguleref01.begins: are bytes the beginning of a whole sequence?
-/
import Derived.Test.YtimiinnnmdcmhaaDoorDec
namespace Go.Proofs.YtimiinnnmdcmhaaDoor
open Go.RowKit Go.Shelf
open Go.Lib

/-- The value behind m more bytes. -/
def va (v0 : Nat) (f : Nat → Nat) : Nat → Nat
  | 0 => v0
  | m + 1 => 64 * va v0 f m + f (m + 1) - 128
def Good (k : Nat) (f : Nat → Nat) : Prop := ∀ j, 1 ≤ j → j < k → 128 ≤ f j ∧ f j ≤ 191
theorem va_le {v0 C : Nat} {f : Nat → Nat} (h : v0 + 1 ≤ C) (m : Nat) : Good (m + 1) f → va v0 f m + 1 ≤ C * 64 ^ m := by
  induction m with
  | zero =>
    intro _
    have e : va v0 f 0 = v0 := rfl
    rw [e, Nat.pow_zero, Nat.mul_one]
    exact h
  | succ m ih =>
    intro hg
    have hr := ih (fun j a b => hg j a (by omega))
    have h1 := hg (m + 1) (by omega) (by omega)
    rw [Nat.pow_succ, ← Nat.mul_assoc]
    generalize C * 64 ^ m = X at *
    have e : va v0 f (m + 1) = 64 * va v0 f m + f (m + 1) - 128 := rfl
    rw [e]
    omega
def sLo (V k m : Nat) : Nat := V * 64 ^ (m - k)
def sHi (V k m : Nat) : Nat := (V + 1) * 64 ^ (m - k) - 1
theorem sLo_self (V k : Nat) : sLo V k k = V := by simp [sLo]
theorem sHi_self (V k : Nat) : sHi V k k = V := by simp [sHi]
theorem sLo_succ (V k m : Nat) (h : k ≤ m) : sLo V k (m + 1) = 64 * sLo V k m := by
  unfold sLo
  rw [show m + 1 - k = (m - k) + 1 from by omega, Nat.pow_succ, ← Nat.mul_assoc, Nat.mul_comm]
theorem sHi_succ (V k m : Nat) (h : k ≤ m) : sHi V k (m + 1) = 64 * sHi V k m + 63 := by
  unfold sHi
  rw [show m + 1 - k = (m - k) + 1 from by omega, Nat.pow_succ, ← Nat.mul_assoc]
  have : 1 ≤ (V + 1) * 64 ^ (m - k) := Nat.mul_pos (by omega) (Nat.pos_of_ne_zero (by simp))
  omega
theorem sLo_le (V k m : Nat) : sLo V k m ≤ sHi V k m := by
  unfold sLo sHi
  have : 1 ≤ 64 ^ (m - k) := Nat.pos_of_ne_zero (by simp)
  rw [Nat.add_mul]
  omega
theorem sHi_le {V C k N m : Nat} (hV : V + 1 ≤ C * 64 ^ (k - 1)) (hk : 1 ≤ k) (hm : k ≤ m) (hN : m ≤ N) (hC : C * 64 ^ (N - 1) ≤ 2097152) : sHi V k m ≤ 2097151 := by
  unfold sHi
  have h1 : (V + 1) * 64 ^ (m - k) ≤ C * 64 ^ (k - 1) * 64 ^ (m - k) := Nat.mul_le_mul_right _ hV
  rw [Nat.mul_assoc, ← Nat.pow_add] at h1
  have h2 : 64 ^ (k - 1 + (m - k)) ≤ 64 ^ (N - 1) := Nat.pow_le_pow_right (by omega) (by omega)
  have h3 := Nat.mul_le_mul_left C h2
  omega

open Classical in
/-- What 'begins' answers of k bytes whose first one opens a sequence of N bytes. -/
noncomputable def begC (N v0 least most k : Nat) (f : Nat → Nat) : Nat × Nat :=
  if Good k f then
    (if sHi (va v0 f (k - 1)) k N < least then (0, 0)
     else if most < sLo (va v0 f (k - 1)) k N then (0, 0)
     else if 55296 ≤ sLo (va v0 f (k - 1)) k N ∧ sHi (va v0 f (k - 1)) k N ≤ 57343 then (0, 0)
     else (sLo (va v0 f (k - 1)) k N, N))
  else (0, 0)
theorem begC_bad {N v0 least most k : Nat} {f : Nat → Nat} (h : ¬ Good k f) : begC N v0 least most k f = (0, 0) := by unfold begC; rw [if_neg h]
theorem ret2 {a b c d : Int} (h : a = c) (h' : b = d) : Ending.returned (.tuple #[.int .i32 a, .int .i64 b]) = .returned (.tuple #[.int .i32 c, .int .i64 d]) := by rw [h, h']

set_option maxHeartbeats 1000000 in
set_option maxRecDepth 100000 in
/-- ASCII. -/
theorem beg_1 (b off k cap : Nat) (f : Nat → Nat) (w : World) (hB : Bs w b off k f) (hk : 1 ≤ k) (h0 : f 0 < 128) :
    Calls Tryd.prog 54 #[.slice (some ⟨b, off, none⟩) k cap] w fun e w' => e = .returned (.tuple #[.int .i32 (f 0), .int .i64 1]) ∧ w = w' := by
  have hc := (hB 0 (by omega)).1
  simp only [Nat.add_zero] at hc
  have k0 : (0 : Int) < (k : Int) := by omega
  have d0 : ((f 0 : Nat) : Int) < 128 := by omega
  clear hB
  generalize f 0 = c at *
  go_enter Tryd.func54, Tryd.ntmps54
  go_wp2
  go_ret2
  exact ⟨rfl, rfl⟩

set_option maxHeartbeats 1000000 in
set_option maxRecDepth 100000 in
/-- No beginning at all. -/
theorem beg_0 (b off k cap : Nat) (f : Nat → Nat) (w : World) (hB : Bs w b off k f) (hk : 1 ≤ k) (h0 : (128 ≤ f 0 ∧ f 0 < 192) ∨ 248 ≤ f 0) :
    Calls Tryd.prog 54 #[.slice (some ⟨b, off, none⟩) k cap] w fun e w' => e = .returned (.tuple #[.int .i32 0, .int .i64 0]) ∧ w = w' := by
  have hc := (hB 0 (by omega)).1
  simp only [Nat.add_zero] at hc
  have k0 : (0 : Int) < (k : Int) := by omega
  have hb8 := (hB 0 (by omega)).2
  clear hB
  generalize f 0 = c at *
  have hb9 : (c : Int) < 256 := by omega
  have hb7 : (0 : Int) ≤ (c : Int) := by omega
  rcases h0 with ⟨h1, h2⟩ | h1
  · have d0 : ¬ ((c : Nat) : Int) < 128 := by omega
    have d1 : ((c : Nat) : Int) < 192 := by omega
    go_enter Tryd.func54, Tryd.ntmps54
    go_wp2
    go_ret2
    exact ⟨rfl, rfl⟩
  · have d0 : 248 ≤ ((c : Nat) : Int) := by omega
    go_enter Tryd.func54, Tryd.ntmps54
    go_wp2
    go_ret2
    exact ⟨rfl, rfl⟩

set_option maxHeartbeats 4000000 in
set_option maxRecDepth 100000 in
theorem beg_2 (b off k cap : Nat) (f : Nat → Nat) (w : World) (hB : Bs w b off k f) (hk : 1 ≤ k) (hkN : k ≤ 2) (h0 : 192 ≤ f 0 ∧ f 0 < 224) :
    Calls Tryd.prog 54 #[.slice (some ⟨b, off, none⟩) k cap] w fun e w' => e = .returned (.tuple #[.int .i32 (begC 2 (f 0 - 192) 128 2047 k f).1, .int .i64 (begC 2 (f 0 - 192) 128 2047 k f).2]) ∧ w = w' := by
  have hc := (hB 0 (by omega)).1
  simp only [Nat.add_zero] at hc
  have k0 : (0 : Int) < (k : Int) := by omega
  have kN : ¬ ((2 : Int) < (k : Int)) := by omega
  have hVle : ∀ m, Good (m + 1) f → va (f 0 - 192) f m + 1 ≤ 32 * 64 ^ m := fun m => va_le (by omega) m
  obtain ⟨c, hcc⟩ : ∃ c, f 0 = c := ⟨_, rfl⟩
  rw [hcc] at hc h0 hVle ⊢
  clear hcc
  obtain ⟨d0, d1⟩ : (192 : Int) ≤ (c : Int) ∧ (c : Int) < 224 := by omega
  have e0 : ((c : Int) - 192) = ((c - 192 : Nat) : Int) := by omega
  have E0 := Lib.hid e0
  clear e0
  have HB := Lib.hid hB
  have HV := Lib.hid hVle
  clear hB hVle
  go_enter Tryd.func54, Tryd.ntmps54
  go_wp2
  go_loop [5, 9] (fun v i => ∃ m : Nat, m + 1 ≤ k ∧ i = .int .i64 ((m + 1 : Nat) : Int) ∧ v = .int .i32 (va (c - 192) f m) ∧ Good (m + 1) f) (fun _ i => k - (RowKit.intOf i).toNat)
  case atStart => exact ⟨0, by omega, rfl, by rw [E0.out]; rfl, fun j a b => by omega⟩
  case round =>
    obtain ⟨m, hmk, rfl, rfl, hg⟩ := hrel
    have HG := Lib.hid hg
    have hvb := HV.out m hg
    clear hg
    by_cases hlt : m + 1 < k
    · have hcm := (HB.out (m + 1) hlt).1
      have hb8 := (HB.out (m + 1) hlt).2
      have hm2 : m ≤ 2 := by omega
      have hvb' : va (c - 192) f m ≤ 8388607 := by
        have : 64 ^ m ≤ 64 ^ 2 := Nat.pow_le_pow_right (by omega) hm2
        omega
      obtain ⟨x, hx⟩ : ∃ x, f (m + 1) = x := ⟨_, rfl⟩
      rw [hx] at hcm hb8
      have HX := Lib.hid hx
      have hva : va (c - 192) f (m + 1) = 64 * va (c - 192) f m + x - 128 := by rw [← hx]; rfl
      have HA := Lib.hid hva
      clear hx hva
      obtain ⟨V, hV⟩ : ∃ V, va (c - 192) f m = V := ⟨_, rfl⟩
      rw [hV] at hvb' hvb ⊢
      have HW := Lib.hid hV
      clear hV hvb
      have b0 : (0 : Int) ≤ (V : Int) := by omega
      have b1 : (V : Int) ≤ 8388607 := by omega
      have b2 : (0 : Int) ≤ (m : Int) := by omega
      have b3 : (m : Int) + 1 < (k : Int) := by omega
      by_cases c1 : x < 128
      · have t1 : decide ((x : Int) < 128) = true := by simp; omega
        go_wp2
        go_ret2
        exact ⟨by rw [begC_bad (fun h => by have := (h (m + 1) (by omega) hlt).1; have := HX.out; omega)]; rfl, rfl⟩
      · by_cases c2 : 192 ≤ x
        · have t1 : decide ((x : Int) < 128) = false := by simp; omega
          have t2 : (192 : Int) ≤ (x : Int) := by omega
          go_wp2
          go_ret2
          exact ⟨by rw [begC_bad (fun h => by have := (h (m + 1) (by omega) hlt).2; have := HX.out; omega)]; rfl, rfl⟩
        · have t1 : decide ((x : Int) < 128) = false := by simp; omega
          have t2 : (x : Int) < 192 := by omega
          have t3 : (128 : Int) ≤ (x : Int) := by omega
          go_wp2
          go_round
          case rel => exact ⟨m + 1, by omega, by go_num, by
            rw [HA.out, HW.out]
            congr 1
            omega, fun j a bj => by
            rcases Nat.lt_or_ge m j with q | q
            · obtain rfl : j = m + 1 := by omega
              have := HX.out
              omega
            · exact HG.out j a (by omega)⟩
          case measure => simp [RowKit.intOf]; omega
    · obtain rfl : k = m + 1 := by omega
      have kk : ((m : Int) + 1 < (m : Int) + 1) = False := by simp
      obtain ⟨V, hV⟩ : ∃ V, va (c - 192) f m = V := ⟨_, rfl⟩
      rw [hV] at hvb ⊢
      have HW := Lib.hid hV
      clear hV
      have HS := fun q (h1 : m + 1 ≤ q) (h2 : q ≤ 2) => sHi_le (V := V) (C := 32) (k := m + 1) (N := 2) (m := q) (by simpa using hvb) (by omega) h1 h2 (by omega)
      have HS := Lib.hid HS
      clear hvb
      go_wp2
      go_loop [10, 11, 12] (fun lo hi i => ∃ q : Nat, m + 1 ≤ q ∧ q ≤ 2 ∧ i = .int .i64 (q : Int) ∧ lo = .int .i32 (sLo V (m + 1) q) ∧ hi = .int .i32 (sHi V (m + 1) q)) (fun _ _ i => 2 - (RowKit.intOf i).toNat)
      case atStart => exact ⟨m + 1, by omega, by omega, by go_num, by rw [sLo_self], by rw [sHi_self]⟩
      case round =>
        obtain ⟨q, hq1, hq2, rfl, rfl, rfl⟩ := hrel
        by_cases hqN : q < 2
        · have w1 := HS.out (q + 1) (by omega) (by omega)
          have w2 := sLo_le V (m + 1) (q + 1)
          have s1 := sLo_succ V (m + 1) q hq1
          have s2 := sHi_succ V (m + 1) q hq1
          rw [s2] at w1 w2
          rw [s1] at w2
          have S1 := Lib.hid s1
          have S2 := Lib.hid s2
          clear s1 s2
          generalize sLo V (m + 1) q = L at *
          generalize sHi V (m + 1) q = H at *
          have b0 : (0 : Int) ≤ (L : Int) := by omega
          have b1 : (L : Int) ≤ 8388607 := by omega
          have b2 : (0 : Int) ≤ (H : Int) := by omega
          have b3 : (H : Int) ≤ 8388607 := by omega
          have b4 : (q : Int) < 2 := by omega
          go_wp2
          go_round
          case rel => exact ⟨q + 1, by omega, by omega, by go_num, by rw [S1.out]; go_num, by rw [S2.out]; go_num⟩
          case measure => simp [RowKit.intOf]; omega
        · obtain rfl : q = 2 := by omega
          have hgk := HG.out
          have res : begC 2 (c - 192) 128 2047 (m + 1) f = (if sHi V (m + 1) 2 < 128 then (0, 0) else if 2047 < sLo V (m + 1) 2 then (0, 0) else if 55296 ≤ sLo V (m + 1) 2 ∧ sHi V (m + 1) 2 ≤ 57343 then (0, 0) else (sLo V (m + 1) 2, 2)) := by
            unfold begC
            rw [if_pos hgk, Nat.add_sub_cancel, HW.out]
          clear hgk
          have w1 := HS.out 2 (by omega) (by omega)
          have w2 := sLo_le V (m + 1) 2
          generalize sLo V (m + 1) 2 = L at *
          generalize sHi V (m + 1) 2 = H at *
          by_cases c1 : H < 128
          · have t1 : decide ((H : Int) < 128) = true := by simp; omega
            rw [if_pos c1] at res
            have HF := Lib.hid res
            clear res
            go_wp2
            go_ret2
            exact ⟨by rw [HF.out]; rfl, rfl⟩
          · have t1 : decide ((H : Int) < 128) = false := by simp; omega
            rw [if_neg c1] at res
            by_cases c2 : 2047 < L
            · have t2 : decide ((2047 : Int) < (L : Int)) = true := by simp; omega
              rw [if_pos c2] at res
              have HF := Lib.hid res
              clear res
              go_wp2
              go_ret2
              exact ⟨by rw [HF.out]; rfl, rfl⟩
            · have t2 : decide ((2047 : Int) < (L : Int)) = false := by simp; omega
              rw [if_neg c2] at res
              by_cases c3 : 55296 ≤ L
              · have t3 : decide ((55296 : Int) ≤ (L : Int)) = true := by simp; omega
                by_cases c4 : H ≤ 57343
                · have t4 : decide ((H : Int) ≤ 57343) = true := by simp; omega
                  rw [if_pos ⟨c3, c4⟩] at res
                  have HF := Lib.hid res
                  clear res
                  go_wp2
                  go_ret2
                  exact ⟨by rw [HF.out]; rfl, rfl⟩
                · have t4 : decide ((H : Int) ≤ 57343) = false := by simp; omega
                  rw [if_neg (fun h => c4 h.2)] at res
                  have HF := Lib.hid res
                  clear res
                  go_wp2
                  go_ret2
                  exact ⟨by rw [HF.out]; rfl, rfl⟩
              · have t3 : decide ((55296 : Int) ≤ (L : Int)) = false := by simp; omega
                rw [if_neg (fun h => c3 h.1)] at res
                have HF := Lib.hid res
                clear res
                go_wp2
                go_ret2
                exact ⟨by rw [HF.out]; rfl, rfl⟩

set_option maxHeartbeats 4000000 in
set_option maxRecDepth 100000 in
theorem beg_3 (b off k cap : Nat) (f : Nat → Nat) (w : World) (hB : Bs w b off k f) (hk : 1 ≤ k) (hkN : k ≤ 3) (h0 : 224 ≤ f 0 ∧ f 0 < 240) :
    Calls Tryd.prog 54 #[.slice (some ⟨b, off, none⟩) k cap] w fun e w' => e = .returned (.tuple #[.int .i32 (begC 3 (f 0 - 224) 2048 65535 k f).1, .int .i64 (begC 3 (f 0 - 224) 2048 65535 k f).2]) ∧ w = w' := by
  have hc := (hB 0 (by omega)).1
  simp only [Nat.add_zero] at hc
  have k0 : (0 : Int) < (k : Int) := by omega
  have kN : ¬ ((3 : Int) < (k : Int)) := by omega
  have hVle : ∀ m, Good (m + 1) f → va (f 0 - 224) f m + 1 ≤ 16 * 64 ^ m := fun m => va_le (by omega) m
  obtain ⟨c, hcc⟩ : ∃ c, f 0 = c := ⟨_, rfl⟩
  rw [hcc] at hc h0 hVle ⊢
  clear hcc
  obtain ⟨d0, d1⟩ : (224 : Int) ≤ (c : Int) ∧ (c : Int) < 240 := by omega
  have e0 : ((c : Int) - 224) = ((c - 224 : Nat) : Int) := by omega
  have E0 := Lib.hid e0
  clear e0
  have HB := Lib.hid hB
  have HV := Lib.hid hVle
  clear hB hVle
  go_enter Tryd.func54, Tryd.ntmps54
  go_wp2
  go_loop [5, 9] (fun v i => ∃ m : Nat, m + 1 ≤ k ∧ i = .int .i64 ((m + 1 : Nat) : Int) ∧ v = .int .i32 (va (c - 224) f m) ∧ Good (m + 1) f) (fun _ i => k - (RowKit.intOf i).toNat)
  case atStart => exact ⟨0, by omega, rfl, by rw [E0.out]; rfl, fun j a b => by omega⟩
  case round =>
    obtain ⟨m, hmk, rfl, rfl, hg⟩ := hrel
    have HG := Lib.hid hg
    have hvb := HV.out m hg
    clear hg
    by_cases hlt : m + 1 < k
    · have hcm := (HB.out (m + 1) hlt).1
      have hb8 := (HB.out (m + 1) hlt).2
      have hm2 : m ≤ 2 := by omega
      have hvb' : va (c - 224) f m ≤ 8388607 := by
        have : 64 ^ m ≤ 64 ^ 2 := Nat.pow_le_pow_right (by omega) hm2
        omega
      obtain ⟨x, hx⟩ : ∃ x, f (m + 1) = x := ⟨_, rfl⟩
      rw [hx] at hcm hb8
      have HX := Lib.hid hx
      have hva : va (c - 224) f (m + 1) = 64 * va (c - 224) f m + x - 128 := by rw [← hx]; rfl
      have HA := Lib.hid hva
      clear hx hva
      obtain ⟨V, hV⟩ : ∃ V, va (c - 224) f m = V := ⟨_, rfl⟩
      rw [hV] at hvb' hvb ⊢
      have HW := Lib.hid hV
      clear hV hvb
      have b0 : (0 : Int) ≤ (V : Int) := by omega
      have b1 : (V : Int) ≤ 8388607 := by omega
      have b2 : (0 : Int) ≤ (m : Int) := by omega
      have b3 : (m : Int) + 1 < (k : Int) := by omega
      by_cases c1 : x < 128
      · have t1 : decide ((x : Int) < 128) = true := by simp; omega
        go_wp2
        go_ret2
        exact ⟨by rw [begC_bad (fun h => by have := (h (m + 1) (by omega) hlt).1; have := HX.out; omega)]; rfl, rfl⟩
      · by_cases c2 : 192 ≤ x
        · have t1 : decide ((x : Int) < 128) = false := by simp; omega
          have t2 : (192 : Int) ≤ (x : Int) := by omega
          go_wp2
          go_ret2
          exact ⟨by rw [begC_bad (fun h => by have := (h (m + 1) (by omega) hlt).2; have := HX.out; omega)]; rfl, rfl⟩
        · have t1 : decide ((x : Int) < 128) = false := by simp; omega
          have t2 : (x : Int) < 192 := by omega
          have t3 : (128 : Int) ≤ (x : Int) := by omega
          go_wp2
          go_round
          case rel => exact ⟨m + 1, by omega, by go_num, by
            rw [HA.out, HW.out]
            congr 1
            omega, fun j a bj => by
            rcases Nat.lt_or_ge m j with q | q
            · obtain rfl : j = m + 1 := by omega
              have := HX.out
              omega
            · exact HG.out j a (by omega)⟩
          case measure => simp [RowKit.intOf]; omega
    · obtain rfl : k = m + 1 := by omega
      have kk : ((m : Int) + 1 < (m : Int) + 1) = False := by simp
      obtain ⟨V, hV⟩ : ∃ V, va (c - 224) f m = V := ⟨_, rfl⟩
      rw [hV] at hvb ⊢
      have HW := Lib.hid hV
      clear hV
      have HS := fun q (h1 : m + 1 ≤ q) (h2 : q ≤ 3) => sHi_le (V := V) (C := 16) (k := m + 1) (N := 3) (m := q) (by simpa using hvb) (by omega) h1 h2 (by omega)
      have HS := Lib.hid HS
      clear hvb
      go_wp2
      go_loop [10, 11, 12] (fun lo hi i => ∃ q : Nat, m + 1 ≤ q ∧ q ≤ 3 ∧ i = .int .i64 (q : Int) ∧ lo = .int .i32 (sLo V (m + 1) q) ∧ hi = .int .i32 (sHi V (m + 1) q)) (fun _ _ i => 3 - (RowKit.intOf i).toNat)
      case atStart => exact ⟨m + 1, by omega, by omega, by go_num, by rw [sLo_self], by rw [sHi_self]⟩
      case round =>
        obtain ⟨q, hq1, hq2, rfl, rfl, rfl⟩ := hrel
        by_cases hqN : q < 3
        · have w1 := HS.out (q + 1) (by omega) (by omega)
          have w2 := sLo_le V (m + 1) (q + 1)
          have s1 := sLo_succ V (m + 1) q hq1
          have s2 := sHi_succ V (m + 1) q hq1
          rw [s2] at w1 w2
          rw [s1] at w2
          have S1 := Lib.hid s1
          have S2 := Lib.hid s2
          clear s1 s2
          generalize sLo V (m + 1) q = L at *
          generalize sHi V (m + 1) q = H at *
          have b0 : (0 : Int) ≤ (L : Int) := by omega
          have b1 : (L : Int) ≤ 8388607 := by omega
          have b2 : (0 : Int) ≤ (H : Int) := by omega
          have b3 : (H : Int) ≤ 8388607 := by omega
          have b4 : (q : Int) < 3 := by omega
          go_wp2
          go_round
          case rel => exact ⟨q + 1, by omega, by omega, by go_num, by rw [S1.out]; go_num, by rw [S2.out]; go_num⟩
          case measure => simp [RowKit.intOf]; omega
        · obtain rfl : q = 3 := by omega
          have hgk := HG.out
          have res : begC 3 (c - 224) 2048 65535 (m + 1) f = (if sHi V (m + 1) 3 < 2048 then (0, 0) else if 65535 < sLo V (m + 1) 3 then (0, 0) else if 55296 ≤ sLo V (m + 1) 3 ∧ sHi V (m + 1) 3 ≤ 57343 then (0, 0) else (sLo V (m + 1) 3, 3)) := by
            unfold begC
            rw [if_pos hgk, Nat.add_sub_cancel, HW.out]
          clear hgk
          have w1 := HS.out 3 (by omega) (by omega)
          have w2 := sLo_le V (m + 1) 3
          generalize sLo V (m + 1) 3 = L at *
          generalize sHi V (m + 1) 3 = H at *
          by_cases c1 : H < 2048
          · have t1 : decide ((H : Int) < 2048) = true := by simp; omega
            rw [if_pos c1] at res
            have HF := Lib.hid res
            clear res
            go_wp2
            go_ret2
            exact ⟨by rw [HF.out]; rfl, rfl⟩
          · have t1 : decide ((H : Int) < 2048) = false := by simp; omega
            rw [if_neg c1] at res
            by_cases c2 : 65535 < L
            · have t2 : decide ((65535 : Int) < (L : Int)) = true := by simp; omega
              rw [if_pos c2] at res
              have HF := Lib.hid res
              clear res
              go_wp2
              go_ret2
              exact ⟨by rw [HF.out]; rfl, rfl⟩
            · have t2 : decide ((65535 : Int) < (L : Int)) = false := by simp; omega
              rw [if_neg c2] at res
              by_cases c3 : 55296 ≤ L
              · have t3 : decide ((55296 : Int) ≤ (L : Int)) = true := by simp; omega
                by_cases c4 : H ≤ 57343
                · have t4 : decide ((H : Int) ≤ 57343) = true := by simp; omega
                  rw [if_pos ⟨c3, c4⟩] at res
                  have HF := Lib.hid res
                  clear res
                  go_wp2
                  go_ret2
                  exact ⟨by rw [HF.out]; rfl, rfl⟩
                · have t4 : decide ((H : Int) ≤ 57343) = false := by simp; omega
                  rw [if_neg (fun h => c4 h.2)] at res
                  have HF := Lib.hid res
                  clear res
                  go_wp2
                  go_ret2
                  exact ⟨by rw [HF.out]; rfl, rfl⟩
              · have t3 : decide ((55296 : Int) ≤ (L : Int)) = false := by simp; omega
                rw [if_neg (fun h => c3 h.1)] at res
                have HF := Lib.hid res
                clear res
                go_wp2
                go_ret2
                exact ⟨by rw [HF.out]; rfl, rfl⟩

set_option maxHeartbeats 4000000 in
set_option maxRecDepth 100000 in
theorem beg_4 (b off k cap : Nat) (f : Nat → Nat) (w : World) (hB : Bs w b off k f) (hk : 1 ≤ k) (hkN : k ≤ 4) (h0 : 240 ≤ f 0 ∧ f 0 < 248) :
    Calls Tryd.prog 54 #[.slice (some ⟨b, off, none⟩) k cap] w fun e w' => e = .returned (.tuple #[.int .i32 (begC 4 (f 0 - 240) 65536 1114111 k f).1, .int .i64 (begC 4 (f 0 - 240) 65536 1114111 k f).2]) ∧ w = w' := by
  have hc := (hB 0 (by omega)).1
  simp only [Nat.add_zero] at hc
  have k0 : (0 : Int) < (k : Int) := by omega
  have kN : ¬ ((4 : Int) < (k : Int)) := by omega
  have hVle : ∀ m, Good (m + 1) f → va (f 0 - 240) f m + 1 ≤ 8 * 64 ^ m := fun m => va_le (by omega) m
  obtain ⟨c, hcc⟩ : ∃ c, f 0 = c := ⟨_, rfl⟩
  rw [hcc] at hc h0 hVle ⊢
  clear hcc
  obtain ⟨d0, d1⟩ : (240 : Int) ≤ (c : Int) ∧ (c : Int) < 248 := by omega
  have e0 : ((c : Int) - 240) = ((c - 240 : Nat) : Int) := by omega
  have E0 := Lib.hid e0
  clear e0
  have HB := Lib.hid hB
  have HV := Lib.hid hVle
  clear hB hVle
  go_enter Tryd.func54, Tryd.ntmps54
  go_wp2
  go_loop [5, 9] (fun v i => ∃ m : Nat, m + 1 ≤ k ∧ i = .int .i64 ((m + 1 : Nat) : Int) ∧ v = .int .i32 (va (c - 240) f m) ∧ Good (m + 1) f) (fun _ i => k - (RowKit.intOf i).toNat)
  case atStart => exact ⟨0, by omega, rfl, by rw [E0.out]; rfl, fun j a b => by omega⟩
  case round =>
    obtain ⟨m, hmk, rfl, rfl, hg⟩ := hrel
    have HG := Lib.hid hg
    have hvb := HV.out m hg
    clear hg
    by_cases hlt : m + 1 < k
    · have hcm := (HB.out (m + 1) hlt).1
      have hb8 := (HB.out (m + 1) hlt).2
      have hm2 : m ≤ 2 := by omega
      have hvb' : va (c - 240) f m ≤ 8388607 := by
        have : 64 ^ m ≤ 64 ^ 2 := Nat.pow_le_pow_right (by omega) hm2
        omega
      obtain ⟨x, hx⟩ : ∃ x, f (m + 1) = x := ⟨_, rfl⟩
      rw [hx] at hcm hb8
      have HX := Lib.hid hx
      have hva : va (c - 240) f (m + 1) = 64 * va (c - 240) f m + x - 128 := by rw [← hx]; rfl
      have HA := Lib.hid hva
      clear hx hva
      obtain ⟨V, hV⟩ : ∃ V, va (c - 240) f m = V := ⟨_, rfl⟩
      rw [hV] at hvb' hvb ⊢
      have HW := Lib.hid hV
      clear hV hvb
      have b0 : (0 : Int) ≤ (V : Int) := by omega
      have b1 : (V : Int) ≤ 8388607 := by omega
      have b2 : (0 : Int) ≤ (m : Int) := by omega
      have b3 : (m : Int) + 1 < (k : Int) := by omega
      by_cases c1 : x < 128
      · have t1 : decide ((x : Int) < 128) = true := by simp; omega
        go_wp2
        go_ret2
        exact ⟨by rw [begC_bad (fun h => by have := (h (m + 1) (by omega) hlt).1; have := HX.out; omega)]; rfl, rfl⟩
      · by_cases c2 : 192 ≤ x
        · have t1 : decide ((x : Int) < 128) = false := by simp; omega
          have t2 : (192 : Int) ≤ (x : Int) := by omega
          go_wp2
          go_ret2
          exact ⟨by rw [begC_bad (fun h => by have := (h (m + 1) (by omega) hlt).2; have := HX.out; omega)]; rfl, rfl⟩
        · have t1 : decide ((x : Int) < 128) = false := by simp; omega
          have t2 : (x : Int) < 192 := by omega
          have t3 : (128 : Int) ≤ (x : Int) := by omega
          go_wp2
          go_round
          case rel => exact ⟨m + 1, by omega, by go_num, by
            rw [HA.out, HW.out]
            congr 1
            omega, fun j a bj => by
            rcases Nat.lt_or_ge m j with q | q
            · obtain rfl : j = m + 1 := by omega
              have := HX.out
              omega
            · exact HG.out j a (by omega)⟩
          case measure => simp [RowKit.intOf]; omega
    · obtain rfl : k = m + 1 := by omega
      have kk : ((m : Int) + 1 < (m : Int) + 1) = False := by simp
      obtain ⟨V, hV⟩ : ∃ V, va (c - 240) f m = V := ⟨_, rfl⟩
      rw [hV] at hvb ⊢
      have HW := Lib.hid hV
      clear hV
      have HS := fun q (h1 : m + 1 ≤ q) (h2 : q ≤ 4) => sHi_le (V := V) (C := 8) (k := m + 1) (N := 4) (m := q) (by simpa using hvb) (by omega) h1 h2 (by omega)
      have HS := Lib.hid HS
      clear hvb
      go_wp2
      go_loop [10, 11, 12] (fun lo hi i => ∃ q : Nat, m + 1 ≤ q ∧ q ≤ 4 ∧ i = .int .i64 (q : Int) ∧ lo = .int .i32 (sLo V (m + 1) q) ∧ hi = .int .i32 (sHi V (m + 1) q)) (fun _ _ i => 4 - (RowKit.intOf i).toNat)
      case atStart => exact ⟨m + 1, by omega, by omega, by go_num, by rw [sLo_self], by rw [sHi_self]⟩
      case round =>
        obtain ⟨q, hq1, hq2, rfl, rfl, rfl⟩ := hrel
        by_cases hqN : q < 4
        · have w1 := HS.out (q + 1) (by omega) (by omega)
          have w2 := sLo_le V (m + 1) (q + 1)
          have s1 := sLo_succ V (m + 1) q hq1
          have s2 := sHi_succ V (m + 1) q hq1
          rw [s2] at w1 w2
          rw [s1] at w2
          have S1 := Lib.hid s1
          have S2 := Lib.hid s2
          clear s1 s2
          generalize sLo V (m + 1) q = L at *
          generalize sHi V (m + 1) q = H at *
          have b0 : (0 : Int) ≤ (L : Int) := by omega
          have b1 : (L : Int) ≤ 8388607 := by omega
          have b2 : (0 : Int) ≤ (H : Int) := by omega
          have b3 : (H : Int) ≤ 8388607 := by omega
          have b4 : (q : Int) < 4 := by omega
          go_wp2
          go_round
          case rel => exact ⟨q + 1, by omega, by omega, by go_num, by rw [S1.out]; go_num, by rw [S2.out]; go_num⟩
          case measure => simp [RowKit.intOf]; omega
        · obtain rfl : q = 4 := by omega
          have hgk := HG.out
          have res : begC 4 (c - 240) 65536 1114111 (m + 1) f = (if sHi V (m + 1) 4 < 65536 then (0, 0) else if 1114111 < sLo V (m + 1) 4 then (0, 0) else if 55296 ≤ sLo V (m + 1) 4 ∧ sHi V (m + 1) 4 ≤ 57343 then (0, 0) else (sLo V (m + 1) 4, 4)) := by
            unfold begC
            rw [if_pos hgk, Nat.add_sub_cancel, HW.out]
          clear hgk
          have w1 := HS.out 4 (by omega) (by omega)
          have w2 := sLo_le V (m + 1) 4
          generalize sLo V (m + 1) 4 = L at *
          generalize sHi V (m + 1) 4 = H at *
          by_cases c1 : H < 65536
          · have t1 : decide ((H : Int) < 65536) = true := by simp; omega
            rw [if_pos c1] at res
            have HF := Lib.hid res
            clear res
            go_wp2
            go_ret2
            exact ⟨by rw [HF.out]; rfl, rfl⟩
          · have t1 : decide ((H : Int) < 65536) = false := by simp; omega
            rw [if_neg c1] at res
            by_cases c2 : 1114111 < L
            · have t2 : decide ((1114111 : Int) < (L : Int)) = true := by simp; omega
              rw [if_pos c2] at res
              have HF := Lib.hid res
              clear res
              go_wp2
              go_ret2
              exact ⟨by rw [HF.out]; rfl, rfl⟩
            · have t2 : decide ((1114111 : Int) < (L : Int)) = false := by simp; omega
              rw [if_neg c2] at res
              by_cases c3 : 55296 ≤ L
              · have t3 : decide ((55296 : Int) ≤ (L : Int)) = true := by simp; omega
                by_cases c4 : H ≤ 57343
                · have t4 : decide ((H : Int) ≤ 57343) = true := by simp; omega
                  rw [if_pos ⟨c3, c4⟩] at res
                  have HF := Lib.hid res
                  clear res
                  go_wp2
                  go_ret2
                  exact ⟨by rw [HF.out]; rfl, rfl⟩
                · have t4 : decide ((H : Int) ≤ 57343) = false := by simp; omega
                  rw [if_neg (fun h => c4 h.2)] at res
                  have HF := Lib.hid res
                  clear res
                  go_wp2
                  go_ret2
                  exact ⟨by rw [HF.out]; rfl, rfl⟩
              · have t3 : decide ((55296 : Int) ≤ (L : Int)) = false := by simp; omega
                rw [if_neg (fun h => c3 h.1)] at res
                have HF := Lib.hid res
                clear res
                go_wp2
                go_ret2
                exact ⟨by rw [HF.out]; rfl, rfl⟩

end Go.Proofs.YtimiinnnmdcmhaaDoor
