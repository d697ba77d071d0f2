/-
  PLAIN LEAN over the contracts' words: the document's search for the longest beginning comes to the piece.
-/
import Derived.Test.YtimiinnnmdcmhaaDoorBeg
namespace Go.Proofs.YtimiinnnmdcmhaaDoor
open Go.RowKit Go.Shelf
open Go.Lib

/-- What 'begins' answers of k bytes. -/
noncomputable def begAll (k : Nat) (f : Nat → Nat) : Nat × Nat :=
  if f 0 < 128 then (f 0, 1) else if f 0 < 192 then (0, 0) else if f 0 < 224 then begC 2 (f 0 - 192) 128 2047 k f
  else if f 0 < 240 then begC 3 (f 0 - 224) 2048 65535 k f else if f 0 < 248 then begC 4 (f 0 - 240) 65536 1114111 k f else (0, 0)

theorem pr {a b n : Nat} (h : a = b) : (a, n) = (b, n) := by rw [h]
theorem ite_no {p : Prop} [Decidable p] {a b c : Nat} (h : (if p then a else b) = c) (ha : a ≠ c) (hb : b ≠ c) : False := by split at h <;> omega
theorem begC_n (N v0 least most k : Nat) (f : Nat → Nat) : (begC N v0 least most k f).2 = 0 ∨ (begC N v0 least most k f).2 = N := by
  unfold begC
  repeat' split
  all_goals simp

theorem good1 (f : Nat → Nat) : Good 1 f := fun j a b => by omega
theorem good2 (f : Nat → Nat) : Good 2 f ↔ 128 ≤ f 1 ∧ f 1 ≤ 191 :=
  ⟨fun h => h 1 (by omega) (by omega), fun h j a b => by
    have e : j = 1 := by omega
    rw [e]
    exact h⟩
theorem good3 (f : Nat → Nat) : Good 3 f ↔ (128 ≤ f 1 ∧ f 1 ≤ 191) ∧ 128 ≤ f 2 ∧ f 2 ≤ 191 :=
  ⟨fun h => ⟨h 1 (by omega) (by omega), h 2 (by omega) (by omega)⟩, fun h j a b => by
    obtain rfl | rfl : j = 1 ∨ j = 2 := by omega
    · exact h.1
    · exact h.2⟩
theorem good4 (f : Nat → Nat) : Good 4 f ↔ (128 ≤ f 1 ∧ f 1 ≤ 191) ∧ (128 ≤ f 2 ∧ f 2 ≤ 191) ∧ 128 ≤ f 3 ∧ f 3 ≤ 191 :=
  ⟨fun h => ⟨h 1 (by omega) (by omega), h 2 (by omega) (by omega), h 3 (by omega) (by omega)⟩, fun h j a b => by
    obtain rfl | rfl | rfl : j = 1 ∨ j = 2 ∨ j = 3 := by omega
    · exact h.1
    · exact h.2.1
    · exact h.2.2⟩

theorem va1 (v0 : Nat) (f : Nat → Nat) : va v0 f (1 - 1) = v0 := rfl
theorem va2 (v0 : Nat) (f : Nat → Nat) : va v0 f (2 - 1) = 64 * v0 + f 1 - 128 := rfl
theorem va3 (v0 : Nat) (f : Nat → Nat) : va v0 f (3 - 1) = 64 * (64 * v0 + f 1 - 128) + f 2 - 128 := rfl
theorem va4 (v0 : Nat) (f : Nat → Nat) : va v0 f (4 - 1) = 64 * (64 * (64 * v0 + f 1 - 128) + f 2 - 128) + f 3 - 128 := rfl

/-! ### class by class, step by step -/
theorem c2_1 {c : Nat} {f : Nat → Nat} (h : 192 ≤ c ∧ c < 224) : begC 2 (c - 192) 128 2047 1 f = if c < 194 then (0, 0) else (64 * (c - 192), 2) := by
  unfold begC sHi sLo
  rw [if_pos (good1 f), va1]
  simp only [Nat.reduceSub, Nat.reducePow]
  by_cases a : c < 194
  · rw [if_pos (by omega), if_pos a]
  · rw [if_neg (by omega), if_neg (by omega), if_neg (by omega), if_neg a, Nat.mul_comm]
theorem c2_2 {c : Nat} {f : Nat → Nat} (h : 194 ≤ c ∧ c < 224) : begC 2 (c - 192) 128 2047 2 f = if 128 ≤ f 1 ∧ f 1 ≤ 191 then (c % 32 * 64 + f 1 % 64, 2) else (0, 0) := by
  unfold begC sHi sLo
  rw [va2]
  simp only [Nat.reduceSub, Nat.reducePow, good2]
  by_cases a : 128 ≤ f 1 ∧ f 1 ≤ 191
  · rw [if_pos a, if_neg (by omega), if_neg (by omega), if_neg (by omega), if_pos a]
    exact pr (by omega)
  · rw [if_neg a, if_neg a]
theorem c3_1 {c : Nat} {f : Nat → Nat} (h : 224 ≤ c ∧ c < 240) : (begC 3 (c - 224) 2048 65535 1 f).2 = 3 := by
  unfold begC sHi sLo
  rw [if_pos (good1 f), va1]
  simp only [Nat.reduceSub, Nat.reducePow]
  rw [if_neg (by omega), if_neg (by omega), if_neg (by omega)]
theorem c3_2 {c : Nat} {f : Nat → Nat} (h : 224 ≤ c ∧ c < 240) :
    (begC 3 (c - 224) 2048 65535 2 f).2 = if (if c = 224 then 160 else 128) ≤ f 1 ∧ f 1 ≤ (if c = 237 then 159 else 191) then 3 else 0 := by
  unfold begC sHi sLo
  rw [va2]
  simp only [Nat.reduceSub, Nat.reducePow, good2]
  by_cases a : 128 ≤ f 1 ∧ f 1 ≤ 191
  · rw [if_pos a]
    by_cases b : (if c = 224 then 160 else 128) ≤ f 1 ∧ f 1 ≤ (if c = 237 then 159 else 191)
    · rw [if_pos b]
      split at b <;> split at b
      all_goals rw [if_neg (by omega), if_neg (by omega), if_neg (by omega)]
    · rw [if_neg b]
      by_cases e1 : c = 224
      · rw [if_pos (by rw [if_pos e1, if_neg (by omega)] at b; omega)]
      · by_cases e2 : c = 237
        · rw [if_neg (by omega), if_neg (by omega), if_pos (by rw [if_neg e1, if_pos e2] at b; omega)]
        · rw [if_neg e1, if_neg e2] at b
          exact absurd a b
  · rw [if_neg a, if_neg]
    intro b
    apply a
    split at b <;> split at b <;> omega
theorem c3_3 {c : Nat} {f : Nat → Nat} (h : 224 ≤ c ∧ c < 240) (h1 : (if c = 224 then 160 else 128) ≤ f 1 ∧ f 1 ≤ (if c = 237 then 159 else 191)) :
    begC 3 (c - 224) 2048 65535 3 f = if 128 ≤ f 2 ∧ f 2 ≤ 191 then (c % 16 * 4096 + f 1 % 64 * 64 + f 2 % 64, 3) else (0, 0) := by
  unfold begC sHi sLo
  rw [va3]
  simp only [Nat.reduceSub, Nat.reducePow, good3]
  by_cases a : 128 ≤ f 2 ∧ f 2 ≤ 191
  · have h1' : (128 ≤ f 1 ∧ f 1 ≤ 191) ∧ (c = 224 → 160 ≤ f 1) ∧ (c = 237 → f 1 ≤ 159) := by
      split at h1 <;> split at h1 <;> refine ⟨by omega, fun e => by omega, fun e => by omega⟩
    obtain ⟨g1, g2, g3⟩ := h1'
    rw [if_pos ⟨g1, a⟩, if_pos a]
    rw [if_neg (by omega), if_neg (by omega), if_neg (by omega)]
    exact pr (by omega)
  · rw [if_neg (fun b => a b.2), if_neg a]
theorem c4_1 {c : Nat} {f : Nat → Nat} (h : 240 ≤ c ∧ c < 248) : (begC 4 (c - 240) 65536 1114111 1 f).2 = if c < 245 then 4 else 0 := by
  unfold begC sHi sLo
  rw [if_pos (good1 f), va1]
  simp only [Nat.reduceSub, Nat.reducePow]
  by_cases a : c < 245
  · rw [if_neg (by omega), if_neg (by omega), if_neg (by omega), if_pos a]
  · rw [if_neg (by omega), if_pos (by omega), if_neg a]
theorem c4_2 {c : Nat} {f : Nat → Nat} (h : 240 ≤ c ∧ c < 245) :
    (begC 4 (c - 240) 65536 1114111 2 f).2 = if (if c = 240 then 144 else 128) ≤ f 1 ∧ f 1 ≤ (if c = 244 then 143 else 191) then 4 else 0 := by
  unfold begC sHi sLo
  rw [va2]
  simp only [Nat.reduceSub, Nat.reducePow, good2]
  by_cases a : 128 ≤ f 1 ∧ f 1 ≤ 191
  · rw [if_pos a]
    by_cases b : (if c = 240 then 144 else 128) ≤ f 1 ∧ f 1 ≤ (if c = 244 then 143 else 191)
    · rw [if_pos b]
      split at b <;> split at b
      all_goals rw [if_neg (by omega), if_neg (by omega), if_neg (by omega)]
    · rw [if_neg b]
      by_cases e1 : c = 240
      · rw [if_pos (by rw [if_pos e1, if_neg (by omega)] at b; omega)]
      · by_cases e2 : c = 244
        · rw [if_neg (by omega), if_pos (by rw [if_neg e1, if_pos e2] at b; omega)]
        · rw [if_neg e1, if_neg e2] at b
          exact absurd a b
  · rw [if_neg a, if_neg]
    intro b
    apply a
    split at b <;> split at b <;> omega
theorem c4_3 {c : Nat} {f : Nat → Nat} (h : 240 ≤ c ∧ c < 245) (h1 : (if c = 240 then 144 else 128) ≤ f 1 ∧ f 1 ≤ (if c = 244 then 143 else 191)) :
    (begC 4 (c - 240) 65536 1114111 3 f).2 = if 128 ≤ f 2 ∧ f 2 ≤ 191 then 4 else 0 := by
  unfold begC sHi sLo
  rw [va3]
  simp only [Nat.reduceSub, Nat.reducePow, good3]
  by_cases a : 128 ≤ f 2 ∧ f 2 ≤ 191
  · have h1' : (128 ≤ f 1 ∧ f 1 ≤ 191) ∧ (c = 240 → 144 ≤ f 1) ∧ (c = 244 → f 1 ≤ 143) := by
      split at h1 <;> split at h1 <;> refine ⟨by omega, fun e => by omega, fun e => by omega⟩
    obtain ⟨g1, g2, g3⟩ := h1'
    rw [if_pos ⟨g1, a⟩, if_pos a]
    rw [if_neg (by omega), if_neg (by omega), if_neg (by omega)]
  · rw [if_neg (fun b => a b.2), if_neg a]
theorem c4_4 {c : Nat} {f : Nat → Nat} (h : 240 ≤ c ∧ c < 245) (h1 : (if c = 240 then 144 else 128) ≤ f 1 ∧ f 1 ≤ (if c = 244 then 143 else 191)) (h2 : 128 ≤ f 2 ∧ f 2 ≤ 191) :
    begC 4 (c - 240) 65536 1114111 4 f = if 128 ≤ f 3 ∧ f 3 ≤ 191 then (c % 8 * 262144 + f 1 % 64 * 4096 + f 2 % 64 * 64 + f 3 % 64, 4) else (0, 0) := by
  unfold begC sHi sLo
  rw [va4]
  simp only [Nat.reduceSub, Nat.reducePow, good4]
  by_cases a : 128 ≤ f 3 ∧ f 3 ≤ 191
  · have h1' : (128 ≤ f 1 ∧ f 1 ≤ 191) ∧ (c = 240 → 144 ≤ f 1) ∧ (c = 244 → f 1 ≤ 143) := by
      split at h1 <;> split at h1 <;> refine ⟨by omega, fun e => by omega, fun e => by omega⟩
    obtain ⟨g1, g2, g3⟩ := h1'
    rw [if_pos ⟨g1, h2, a⟩, if_pos a]
    rw [if_neg (by omega), if_neg (by omega), if_neg (by omega)]
    exact pr (by omega)
  · rw [if_neg (fun b => a b.2.2), if_neg a]

/-! ### the search -/
def Cont (f : Nat → Nat) (k : Nat) : Prop := ∀ j, 1 ≤ j → j < k → (begAll j f).2 ≠ 0 ∧ (begAll j f).2 ≠ j
/-- What the search of n bytes ends with. -/
def AtRes (n : Nat) (f : Nat → Nat) (R S : Nat) (W : Bool) : Prop :=
  (∃ k, 1 ≤ k ∧ k ≤ 4 ∧ k ≤ n ∧ Cont f k ∧ (begAll k f).2 = 0 ∧ R = 65533 ∧ S = max 1 (k - 1) ∧ W = false) ∨
  (∃ k, 1 ≤ k ∧ k ≤ 4 ∧ k ≤ n ∧ Cont f k ∧ (begAll k f).2 = k ∧ R = (begAll k f).1 ∧ k = S ∧ W = true) ∨
  (∃ k, 1 ≤ k ∧ k ≤ 5 ∧ k ≤ n + 1 ∧ (k = 5 ∨ k = n + 1) ∧ Cont f k ∧ R = 65533 ∧ S = max 1 (k - 1) ∧ W = false)

def cls (c : Nat) : Nat := if c < 224 then 2 else if c < 240 then 3 else 4
theorem cls2 (c : Nat) : 2 ≤ cls c := by unfold cls; split <;> (try split) <;> omega
theorem begAll_n (k : Nat) (f : Nat → Nat) (h1 : 192 ≤ f 0) (h2 : f 0 < 248) : (begAll k f).2 = 0 ∨ (begAll k f).2 = cls (f 0) := by
  unfold begAll cls
  rw [if_neg (by omega), if_neg (by omega)]
  by_cases a : f 0 < 224
  · rw [if_pos a, if_pos a]; exact begC_n _ _ _ _ _ _
  · rw [if_neg a, if_neg a]
    by_cases b : f 0 < 240
    · rw [if_pos b, if_pos b]; exact begC_n _ _ _ _ _ _
    · rw [if_neg b, if_neg b, if_pos h2]; exact begC_n _ _ _ _ _ _
/-- While the search goes on the sequence may be as long. -/
theorem cont_le {f : Nat → Nat} {k : Nat} (h : Cont f k) (h1 : 192 ≤ f 0) (h2 : f 0 < 248) : k ≤ cls (f 0) := by
  rcases Nat.lt_or_ge (cls (f 0)) k with q | q
  · have h3 := h _ (by have := cls2 (f 0); omega) q
    rcases begAll_n (cls (f 0)) f h1 h2 with e | e
    · exact absurd e h3.1
    · exact absurd e h3.2
  · exact q

theorem bt_eq {n : Nat} (f : Nat → Nat) {j : Nat} (h : j < n) : bt n f j = f j := by unfold bt; rw [if_pos h]
theorem pcA {n : Nat} {f : Nat → Nat} (hn : 1 ≤ n) (h : f 0 < 128) : pc n f = (f 0, 1, true) := by
  unfold pc M1.pieceB
  rw [bt_eq f (by omega), if_pos (by unfold firstT; rw [if_pos h])]
theorem pcX {n : Nat} {f : Nat → Nat} (hn : 1 ≤ n) (h : (128 ≤ f 0 ∧ f 0 < 194) ∨ 245 ≤ f 0) : pc n f = (65533, 1, false) := by
  have e : firstT (f 0) = 241 := by
    unfold firstT
    repeat' split
    all_goals omega
  unfold pc M1.pieceB
  rw [bt_eq f (by omega), e, if_neg (by omega), if_pos rfl]
theorem pc2 {n : Nat} {f : Nat → Nat} (hn : 1 ≤ n) (h : 194 ≤ f 0 ∧ f 0 < 224) : pc n f = if 1 < n ∧ 128 ≤ f 1 ∧ f 1 ≤ 191 then (f 0 % 32 * 64 + f 1 % 64, 2, true) else (65533, 1, false) := by
  unfold pc M1.pieceB M1.pieceS
  rw [bt_eq f (by omega), firstT_C2 h, if_neg (by omega), if_neg (by omega)]
  simp only [accLo, accHi, Nat.reduceMod, Nat.reduceDiv, if_true]
  by_cases c : 1 < n
  · rw [bt_eq f c]
  · rw [if_neg (fun a => c a.1), if_neg (fun a => c a.1)]
theorem first3 {c : Nat} (h : 224 ≤ c ∧ c < 240) : firstT c ≠ 240 ∧ firstT c ≠ 241 ∧ firstT c % 8 = 3 ∧ accLo (firstT c / 16) = (if c = 224 then 160 else 128) ∧ accHi (firstT c / 16) = (if c = 237 then 159 else 191) := by
  by_cases e1 : c = 224
  · rw [firstT_E0 e1, if_pos e1, if_neg (by omega)]; simp [accLo, accHi]
  · by_cases e2 : c = 237
    · rw [firstT_ED e2, if_neg e1, if_pos e2]; simp [accLo, accHi]
    · rw [firstT_E1 (by omega), if_neg e1, if_neg e2]; simp [accLo, accHi]
theorem first4 {c : Nat} (h : 240 ≤ c ∧ c < 245) : firstT c ≠ 240 ∧ firstT c ≠ 241 ∧ firstT c % 8 = 4 ∧ accLo (firstT c / 16) = (if c = 240 then 144 else 128) ∧ accHi (firstT c / 16) = (if c = 244 then 143 else 191) := by
  by_cases e1 : c = 240
  · rw [firstT_F0 e1, if_pos e1, if_neg (by omega)]; simp [accLo, accHi]
  · by_cases e2 : c = 244
    · rw [firstT_F4 e2, if_neg e1, if_pos e2]; simp [accLo, accHi]
    · rw [firstT_F1 (by omega), if_neg e1, if_neg e2]; simp [accLo, accHi]
theorem pc3 {n : Nat} {f : Nat → Nat} (hn : 1 ≤ n) (h : 224 ≤ f 0 ∧ f 0 < 240) :
    pc n f = if 1 < n ∧ (if f 0 = 224 then 160 else 128) ≤ f 1 ∧ f 1 ≤ (if f 0 = 237 then 159 else 191) then
      (if 2 < n ∧ 128 ≤ f 2 ∧ f 2 ≤ 191 then (f 0 % 16 * 4096 + f 1 % 64 * 64 + f 2 % 64, 3, true) else (65533, 2, false)) else (65533, 1, false) := by
  obtain ⟨e1, e2, e3, e4, e5⟩ := first3 h
  unfold pc M1.pieceB M1.pieceS
  rw [bt_eq f (by omega), if_neg e1, if_neg e2, e3, e4, e5]
  by_cases c : 1 < n
  · rw [bt_eq f c]
    by_cases d : 2 < n
    · rw [bt_eq f d]; simp
    · rw [if_neg (c := 2 < n ∧ 128 ≤ f 2 ∧ f 2 ≤ 191) (fun a => d a.1), if_neg (c := 2 < n ∧ 128 ≤ bt n f 2 ∧ bt n f 2 ≤ 191) (fun a => d a.1)]; simp
  · rw [if_neg (fun a => c a.1), if_neg (fun a => c a.1)]
theorem pc4 {n : Nat} {f : Nat → Nat} (hn : 1 ≤ n) (h : 240 ≤ f 0 ∧ f 0 < 245) :
    pc n f = if 1 < n ∧ (if f 0 = 240 then 144 else 128) ≤ f 1 ∧ f 1 ≤ (if f 0 = 244 then 143 else 191) then
      (if 2 < n ∧ 128 ≤ f 2 ∧ f 2 ≤ 191 then
        (if 3 < n ∧ 128 ≤ f 3 ∧ f 3 ≤ 191 then (f 0 % 8 * 262144 + f 1 % 64 * 4096 + f 2 % 64 * 64 + f 3 % 64, 4, true) else (65533, 3, false)) else (65533, 2, false)) else (65533, 1, false) := by
  obtain ⟨e1, e2, e3, e4, e5⟩ := first4 h
  unfold pc M1.pieceB M1.pieceS
  rw [bt_eq f (by omega), if_neg e1, if_neg e2, e3, e4, e5]
  by_cases c : 1 < n
  · rw [bt_eq f c]
    by_cases d : 2 < n
    · rw [bt_eq f d]
      by_cases g : 3 < n
      · rw [bt_eq f g]; simp
      · rw [if_neg (c := 3 < n ∧ 128 ≤ f 3 ∧ f 3 ≤ 191) (fun a => g a.1), if_neg (c := 3 < n ∧ 128 ≤ bt n f 3 ∧ bt n f 3 ≤ 191) (fun a => g a.1)]; simp
    · rw [if_neg (c := 2 < n ∧ 128 ≤ f 2 ∧ f 2 ≤ 191) (fun a => d a.1), if_neg (c := 2 < n ∧ 128 ≤ bt n f 2 ∧ bt n f 2 ≤ 191) (fun a => d a.1)]; simp
  · rw [if_neg (fun a => c a.1), if_neg (fun a => c a.1)]

/-- THE DOCUMENT's SEARCH ENDS WITH THE PIECE. -/
theorem atRes_pc {n : Nat} {f : Nat → Nat} {R S : Nat} {W : Bool} (hn : 1 ≤ n) (h8 : f 0 < 256) (h : AtRes n f R S W) : (R, S, W) = pc n f := by
  by_cases a1 : f 0 < 128
  · have e : ∀ k, begAll k f = (f 0, 1) := fun k => by unfold begAll; rw [if_pos a1]
    rw [pcA hn a1]
    rcases h with ⟨k, k1, k4, kn, hc, h0, _⟩ | ⟨k, k1, k4, kn, hc, h0, rfl, rfl, rfl⟩ | ⟨k, k1, k4, kn, ho, hc, _⟩
    · rw [e] at h0; simp at h0
    · rw [e] at h0
      have : k = 1 := h0.symm
      subst this
      rw [e]
    · have := (hc 1 (by omega) (by omega)).2
      rw [e] at this; simp at this
  · by_cases a2 : f 0 < 192 ∨ 248 ≤ f 0
    · have e : ∀ k, begAll k f = (0, 0) := fun k => by
        unfold begAll
        rw [if_neg a1]
        rcases a2 with a2 | a2
        · rw [if_pos a2]
        · rw [if_neg (by omega), if_neg (by omega), if_neg (by omega), if_neg (by omega)]
      rw [pcX hn (by omega)]
      rcases h with ⟨k, k1, k4, kn, hc, h0, rfl, rfl, rfl⟩ | ⟨k, k1, k4, kn, hc, h0, rfl, rfl, rfl⟩ | ⟨k, k1, k4, kn, ho, hc, rfl, rfl, rfl⟩
      · rcases Nat.lt_or_ge 1 k with q | q
        · have := (hc 1 (by omega) q).1
          rw [e] at this; simp at this
        · obtain rfl : k = 1 := by omega
          rfl
      · rw [e] at h0; simp at h0; omega
      · have := (hc 1 (by omega) (by omega)).1
        rw [e] at this; simp at this
    · by_cases b2 : f 0 < 224
      · have e : ∀ k, begAll k f = begC 2 (f 0 - 192) 128 2047 k f := fun k => by unfold begAll; rw [if_neg a1, if_neg (by omega), if_pos b2]
        have s1 := c2_1 (f := f) (c := f 0) (by omega)
        by_cases b3 : f 0 < 194
        · rw [if_pos b3] at s1
          rw [pcX hn (by omega)]
          rcases h with ⟨k, k1, k4, kn, hc, h0, rfl, rfl, rfl⟩ | ⟨k, k1, k4, kn, hc, h0, rfl, rfl, rfl⟩ | ⟨k, k1, k4, kn, ho, hc, rfl, rfl, rfl⟩
          · rcases Nat.lt_or_ge 1 k with q | q
            · have := (hc 1 (by omega) q).1
              rw [e, s1] at this; simp at this
            · obtain rfl : k = 1 := by omega
              rfl
          · rcases Nat.lt_or_ge 1 k with q | q
            · have := (hc 1 (by omega) q).1
              rw [e, s1] at this; simp at this
            · obtain rfl : k = 1 := by omega
              rw [e, s1] at h0; simp at h0
          · have := (hc 1 (by omega) (by omega)).1
            rw [e, s1] at this; simp at this
        · rw [if_neg b3] at s1
          have s2 := c2_2 (f := f) (c := f 0) (by omega)
          rw [pc2 hn (by omega)]
          have hk : ∀ k, Cont f k → k ≤ 2 := fun k hc => by
            have := cont_le hc (by omega) (by omega)
            unfold cls at this
            rw [if_pos b2] at this
            exact this
          rcases h with ⟨k, k1, k4, kn, hc, h0, rfl, rfl, rfl⟩ | ⟨k, k1, k4, kn, hc, h0, rfl, rfl, rfl⟩ | ⟨k, k1, k4, kn, ho, hc, rfl, rfl, rfl⟩
          · obtain rfl | rfl : k = 1 ∨ k = 2 := by have := hk k hc; omega
            · rw [e, s1] at h0; simp at h0
            · rw [e, s2] at h0
              rw [if_neg]
              · rfl
              · intro q
                rw [if_pos q.2] at h0
                simp at h0
          · obtain rfl | rfl : k = 1 ∨ k = 2 := by have := hk k hc; omega
            · rw [e, s1] at h0; simp at h0
            · rw [e, s2] at h0 ⊢
              by_cases q : 128 ≤ f 1 ∧ f 1 ≤ 191
              · rw [if_pos q, if_pos ⟨by omega, q⟩]
              · rw [if_neg q] at h0; simp at h0
          · have h2 := hk k hc
            obtain rfl : k = 2 := by omega
            rw [if_neg (by omega)]
            rfl
      · by_cases b3 : f 0 < 240
        · have e : ∀ k, begAll k f = begC 3 (f 0 - 224) 2048 65535 k f := fun k => by unfold begAll; rw [if_neg a1, if_neg (by omega), if_neg b2, if_pos b3]
          have s1 := c3_1 (f := f) (c := f 0) (by omega)
          have s2 := c3_2 (f := f) (c := f 0) (by omega)
          have s3 := fun q => c3_3 (f := f) (c := f 0) (by omega) q
          rw [pc3 hn (by omega)]
          have hk : ∀ k, Cont f k → k ≤ 3 := fun k hc => by
            have := cont_le hc (by omega) (by omega)
            unfold cls at this
            rw [if_neg b2, if_pos b3] at this
            exact this
          have r2 : ∀ k, Cont f k → 3 ≤ k → (if f 0 = 224 then 160 else 128) ≤ f 1 ∧ f 1 ≤ (if f 0 = 237 then 159 else 191) := fun k hc h3 => by
            have := (hc 2 (by omega) (by omega)).1
            rw [e, s2] at this
            by_cases q : (if f 0 = 224 then 160 else 128) ≤ f 1 ∧ f 1 ≤ (if f 0 = 237 then 159 else 191)
            · exact q
            · rw [if_neg q] at this; simp at this
          rcases h with ⟨k, k1, k4, kn, hc, h0, rfl, rfl, rfl⟩ | ⟨k, k1, k4, kn, hc, h0, rfl, rfl, rfl⟩ | ⟨k, k1, k4, kn, ho, hc, rfl, rfl, rfl⟩
          · obtain rfl | rfl | rfl : k = 1 ∨ k = 2 ∨ k = 3 := by have := hk k hc; omega
            · rw [e, s1] at h0; simp at h0
            · rw [e, s2] at h0
              rw [if_neg]
              · rfl
              · intro q
                rw [if_pos q.2] at h0
                simp at h0
            · have q2 := r2 3 hc (by omega)
              rw [e, s3 q2] at h0
              rw [if_pos ⟨by omega, q2⟩, if_neg]
              · rfl
              · intro q
                rw [if_pos q.2] at h0
                simp at h0
          · obtain rfl | rfl | rfl : k = 1 ∨ k = 2 ∨ k = 3 := by have := hk k hc; omega
            · rw [e, s1] at h0; simp at h0
            · rw [e, s2] at h0
              exact (ite_no h0 (by omega) (by omega)).elim
            · have q2 := r2 3 hc (by omega)
              rw [e, s3 q2] at h0 ⊢
              by_cases q : 128 ≤ f 2 ∧ f 2 ≤ 191
              · rw [if_pos q, if_pos ⟨by omega, q2⟩, if_pos ⟨by omega, q⟩]
              · rw [if_neg q] at h0; simp at h0
          · have h2 := hk k hc
            obtain rfl | rfl : k = 2 ∨ k = 3 := by omega
            · rw [if_neg (by omega)]; rfl
            · have q2 := r2 3 hc (by omega)
              rw [if_pos ⟨by omega, q2⟩, if_neg (by omega)]; rfl
        · have e : ∀ k, begAll k f = begC 4 (f 0 - 240) 65536 1114111 k f := fun k => by unfold begAll; rw [if_neg a1, if_neg (by omega), if_neg b2, if_neg b3, if_pos (by omega)]
          have s1 := c4_1 (f := f) (c := f 0) (by omega)
          by_cases b5 : f 0 < 245
          · rw [if_pos b5] at s1
            have s2 := c4_2 (f := f) (c := f 0) (by omega)
            have s3 := fun q => c4_3 (f := f) (c := f 0) (by omega) q
            have s4 := fun q q' => c4_4 (f := f) (c := f 0) (by omega) q q'
            rw [pc4 hn (by omega)]
            have hk : ∀ k, Cont f k → k ≤ 4 := fun k hc => by
              have := cont_le hc (by omega) (by omega)
              unfold cls at this
              rw [if_neg b2, if_neg b3] at this
              exact this
            have r2 : ∀ k, Cont f k → 3 ≤ k → (if f 0 = 240 then 144 else 128) ≤ f 1 ∧ f 1 ≤ (if f 0 = 244 then 143 else 191) := fun k hc h3 => by
              have := (hc 2 (by omega) (by omega)).1
              rw [e, s2] at this
              by_cases q : (if f 0 = 240 then 144 else 128) ≤ f 1 ∧ f 1 ≤ (if f 0 = 244 then 143 else 191)
              · exact q
              · rw [if_neg q] at this; simp at this
            have r3 : ∀ k, Cont f k → 4 ≤ k → 128 ≤ f 2 ∧ f 2 ≤ 191 := fun k hc h4 => by
              have h5 := (hc 3 (by omega) (by omega)).1
              rw [e, s3 (r2 k hc (by omega))] at h5
              by_cases q : 128 ≤ f 2 ∧ f 2 ≤ 191
              · exact q
              · rw [if_neg q] at h5; simp at h5
            rcases h with ⟨k, k1, k4, kn, hc, h0, rfl, rfl, rfl⟩ | ⟨k, k1, k4, kn, hc, h0, rfl, rfl, rfl⟩ | ⟨k, k1, k4, kn, ho, hc, rfl, rfl, rfl⟩
            · obtain rfl | rfl | rfl | rfl : k = 1 ∨ k = 2 ∨ k = 3 ∨ k = 4 := by have := hk k hc; omega
              · rw [e, s1] at h0; simp at h0
              · rw [e, s2] at h0
                rw [if_neg]
                · rfl
                · intro q
                  rw [if_pos q.2] at h0
                  simp at h0
              · have q2 := r2 3 hc (by omega)
                rw [e, s3 q2] at h0
                rw [if_pos ⟨by omega, q2⟩, if_neg]
                · rfl
                · intro q
                  rw [if_pos q.2] at h0
                  simp at h0
              · have q2 := r2 4 hc (by omega)
                have q3 := r3 4 hc (by omega)
                rw [e, s4 q2 q3] at h0
                rw [if_pos ⟨by omega, q2⟩, if_pos ⟨by omega, q3⟩, if_neg]
                · rfl
                · intro q
                  rw [if_pos q.2] at h0
                  simp at h0
            · obtain rfl | rfl | rfl | rfl : k = 1 ∨ k = 2 ∨ k = 3 ∨ k = 4 := by have := hk k hc; omega
              · rw [e, s1] at h0; simp at h0
              · rw [e, s2] at h0
                exact (ite_no h0 (by omega) (by omega)).elim
              · rw [e, s3 (r2 3 hc (by omega))] at h0
                exact (ite_no h0 (by omega) (by omega)).elim
              · have q2 := r2 4 hc (by omega)
                have q3 := r3 4 hc (by omega)
                rw [e, s4 q2 q3] at h0 ⊢
                by_cases q : 128 ≤ f 3 ∧ f 3 ≤ 191
                · rw [if_pos q, if_pos ⟨by omega, q2⟩, if_pos ⟨by omega, q3⟩, if_pos ⟨by omega, q⟩]
                · rw [if_neg q] at h0; simp at h0
            · have h2 := hk k hc
              obtain rfl | rfl | rfl : k = 2 ∨ k = 3 ∨ k = 4 := by omega
              · rw [if_neg (by omega)]; rfl
              · have q2 := r2 3 hc (by omega)
                rw [if_pos ⟨by omega, q2⟩, if_neg (by omega)]; rfl
              · have q2 := r2 4 hc (by omega)
                have q3 := r3 4 hc (by omega)
                rw [if_pos ⟨by omega, q2⟩, if_pos ⟨by omega, q3⟩, if_neg (by omega)]; rfl
          · rw [if_neg b5] at s1
            rw [pcX hn (by omega)]
            rcases h with ⟨k, k1, k4, kn, hc, h0, rfl, rfl, rfl⟩ | ⟨k, k1, k4, kn, hc, h0, rfl, rfl, rfl⟩ | ⟨k, k1, k4, kn, ho, hc, rfl, rfl, rfl⟩
            · rcases Nat.lt_or_ge 1 k with q | q
              · have := (hc 1 (by omega) q).1
                rw [e, s1] at this; simp at this
              · obtain rfl : k = 1 := by omega
                rfl
            · rcases Nat.lt_or_ge 1 k with q | q
              · have := (hc 1 (by omega) q).1
                rw [e, s1] at this; simp at this
              · obtain rfl : k = 1 := by omega
                rw [e, s1] at h0; simp at h0
            · have := (hc 1 (by omega) (by omega)).1
              rw [e, s1] at this; simp at this
end Go.Proofs.YtimiinnnmdcmhaaDoor
