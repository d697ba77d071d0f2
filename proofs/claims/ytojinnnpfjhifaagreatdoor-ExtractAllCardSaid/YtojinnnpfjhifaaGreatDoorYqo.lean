/-
  
  
  
  
  
  
-/
import Derived.Test.YtojinnnpfjhifaaGreatDoorYqn
import Derived.Deep.AppendLies
import Derived.Test.YtojinnnpfjhifaaGreatDoorYqd
import Derived.Test.YtojinnnpfjhifaaGreatDoorYqm
import Derived.Deep.CutRange
import Derived.Test.YtojinnnpfjhifaaGreatDoorYqb
import Derived.Test.YtojinnnpfjhifaaGreatDoorYqa
namespace Go.Proofs.YtojinnnpfjhifaaGreatDoor.S
open Go.RowKit Go.Shelf
open Go.Lib
noncomputable def begAll (k : Nat) (f : Nat → Nat) : Nat × Nat :=
 if f 0 < 128 then (f 0, 1) else if f 0 < 192 then (0, 0) else if f 0 < 224 then begC 2 (f 0 - 192) 128 2047 k f
 else if f 0 < 240 then begC 3 (f 0 - 224) 2048 65535 k f else if f 0 < 248 then begC 4 (f 0 - 240) 65536 1114111 k f else (0, 0)
theorem pr {a b n : Nat} (h : a = b) : (a, n) = (b, n) := by rw [h]
theorem ite_no {p : Prop} [Decidable p] {a b c : Nat} (h : (if p then a else b) = c) (ha : a ≠ c) (hb : b ≠ c) : False := by split at h <;> omega
theorem begC_n (N v0 least most k : Nat) (f : Nat → Nat) : (begC N v0 least most k f).2 = 0 ∨ (begC N v0 least most k f).2 = N := by
 unfold begC
 repeat' split
 all_goals simp
theorem good1 (f : Nat → Nat) : Good 1 f := fun j a b => by omega
theorem good2 (f : Nat → Nat) : Good 2 f ↔ 128 ≤ f 1 ∧ f 1 ≤ 191 :=
 ⟨fun h => h 1 (by omega) (by omega), fun h j a b => by
  have e : j = 1 := by omega
  rw [e]
  exact h⟩
theorem good3 (f : Nat → Nat) : Good 3 f ↔ (128 ≤ f 1 ∧ f 1 ≤ 191) ∧ 128 ≤ f 2 ∧ f 2 ≤ 191 :=
 ⟨fun h => ⟨h 1 (by omega) (by omega), h 2 (by omega) (by omega)⟩, fun h j a b => by
  obtain rfl | rfl : j = 1 ∨ j = 2 := by omega
  ·exact h.1
  ·exact h.2⟩
theorem good4 (f : Nat → Nat) : Good 4 f ↔ (128 ≤ f 1 ∧ f 1 ≤ 191) ∧ (128 ≤ f 2 ∧ f 2 ≤ 191) ∧ 128 ≤ f 3 ∧ f 3 ≤ 191 :=
 ⟨fun h => ⟨h 1 (by omega) (by omega), h 2 (by omega) (by omega), h 3 (by omega) (by omega)⟩, fun h j a b => by
  obtain rfl | rfl | rfl : j = 1 ∨ j = 2 ∨ j = 3 := by omega
  ·exact h.1
  ·exact h.2.1
  ·exact h.2.2⟩
theorem va1 (v0 : Nat) (f : Nat → Nat) : va v0 f (1 - 1) = v0 := rfl
theorem va2 (v0 : Nat) (f : Nat → Nat) : va v0 f (2 - 1) = 64 * v0 + f 1 - 128 := rfl
theorem va3 (v0 : Nat) (f : Nat → Nat) : va v0 f (3 - 1) = 64 * (64 * v0 + f 1 - 128) + f 2 - 128 := rfl
theorem va4 (v0 : Nat) (f : Nat → Nat) : va v0 f (4 - 1) = 64 * (64 * (64 * v0 + f 1 - 128) + f 2 - 128) + f 3 - 128 := rfl
theorem c2_1 {c : Nat} {f : Nat → Nat} (h : 192 ≤ c ∧ c < 224) : begC 2 (c - 192) 128 2047 1 f = if c < 194 then (0, 0) else (64 * (c - 192), 2) := by
 unfold begC sHi sLo
 rw [if_pos (good1 f), va1]
 simp only [Nat.reduceSub, Nat.reducePow]
 by_cases a : c < 194
 ·rw [if_pos (by omega), if_pos a]
 ·rw [if_neg (by omega), if_neg (by omega), if_neg (by omega), if_neg a, Nat.mul_comm]
theorem c2_2 {c : Nat} {f : Nat → Nat} (h : 194 ≤ c ∧ c < 224) : begC 2 (c - 192) 128 2047 2 f = if 128 ≤ f 1 ∧ f 1 ≤ 191 then (c % 32 * 64 + f 1 % 64, 2) else (0, 0) := by
 unfold begC sHi sLo
 rw [va2]
 simp only [Nat.reduceSub, Nat.reducePow, good2]
 by_cases a : 128 ≤ f 1 ∧ f 1 ≤ 191
 ·rw [if_pos a, if_neg (by omega), if_neg (by omega), if_neg (by omega), if_pos a]
  exact pr (by omega)
 ·rw [if_neg a, if_neg a]
theorem c3_1 {c : Nat} {f : Nat → Nat} (h : 224 ≤ c ∧ c < 240) : (begC 3 (c - 224) 2048 65535 1 f).2 = 3 := by
 unfold begC sHi sLo
 rw [if_pos (good1 f), va1]
 simp only [Nat.reduceSub, Nat.reducePow]
 rw [if_neg (by omega), if_neg (by omega), if_neg (by omega)]
theorem c3_2 {c : Nat} {f : Nat → Nat} (h : 224 ≤ c ∧ c < 240) :
  (begC 3 (c - 224) 2048 65535 2 f).2 = if (if c = 224 then 160 else 128) ≤ f 1 ∧ f 1 ≤ (if c = 237 then 159 else 191) then 3 else 0 := by
 unfold begC sHi sLo
 rw [va2]
 simp only [Nat.reduceSub, Nat.reducePow, good2]
 by_cases a : 128 ≤ f 1 ∧ f 1 ≤ 191
 ·rw [if_pos a]
  by_cases b : (if c = 224 then 160 else 128) ≤ f 1 ∧ f 1 ≤ (if c = 237 then 159 else 191)
  ·rw [if_pos b]
   split at b <;> split at b
   all_goals rw [if_neg (by omega), if_neg (by omega), if_neg (by omega)]
  ·rw [if_neg b]
   by_cases e1 : c = 224
   ·rw [if_pos (by rw [if_pos e1, if_neg (by omega)] at b; omega)]
   ·by_cases e2 : c = 237
    ·rw [if_neg (by omega), if_neg (by omega), if_pos (by rw [if_neg e1, if_pos e2] at b; omega)]
    ·rw [if_neg e1, if_neg e2] at b
     exact absurd a b
 ·rw [if_neg a, if_neg]
  intro b
  apply a
  split at b <;> split at b <;> omega
theorem c3_3 {c : Nat} {f : Nat → Nat} (h : 224 ≤ c ∧ c < 240) (h1 : (if c = 224 then 160 else 128) ≤ f 1 ∧ f 1 ≤ (if c = 237 then 159 else 191)) :
  begC 3 (c - 224) 2048 65535 3 f = if 128 ≤ f 2 ∧ f 2 ≤ 191 then (c % 16 * 4096 + f 1 % 64 * 64 + f 2 % 64, 3) else (0, 0) := by
 unfold begC sHi sLo
 rw [va3]
 simp only [Nat.reduceSub, Nat.reducePow, good3]
 by_cases a : 128 ≤ f 2 ∧ f 2 ≤ 191
 ·have h1' : (128 ≤ f 1 ∧ f 1 ≤ 191) ∧ (c = 224 → 160 ≤ f 1) ∧ (c = 237 → f 1 ≤ 159) := by
   split at h1 <;> split at h1 <;> refine ⟨by omega, fun e => by omega, fun e => by omega⟩
  obtain ⟨g1, g2, g3⟩ := h1'
  rw [if_pos ⟨g1, a⟩, if_pos a]
  rw [if_neg (by omega), if_neg (by omega), if_neg (by omega)]
  exact pr (by omega)
 ·rw [if_neg (fun b => a b.2), if_neg a]
theorem c4_1 {c : Nat} {f : Nat → Nat} (h : 240 ≤ c ∧ c < 248) : (begC 4 (c - 240) 65536 1114111 1 f).2 = if c < 245 then 4 else 0 := by
 unfold begC sHi sLo
 rw [if_pos (good1 f), va1]
 simp only [Nat.reduceSub, Nat.reducePow]
 by_cases a : c < 245
 ·rw [if_neg (by omega), if_neg (by omega), if_neg (by omega), if_pos a]
 ·rw [if_neg (by omega), if_pos (by omega), if_neg a]
theorem c4_2 {c : Nat} {f : Nat → Nat} (h : 240 ≤ c ∧ c < 245) :
  (begC 4 (c - 240) 65536 1114111 2 f).2 = if (if c = 240 then 144 else 128) ≤ f 1 ∧ f 1 ≤ (if c = 244 then 143 else 191) then 4 else 0 := by
 unfold begC sHi sLo
 rw [va2]
 simp only [Nat.reduceSub, Nat.reducePow, good2]
 by_cases a : 128 ≤ f 1 ∧ f 1 ≤ 191
 ·rw [if_pos a]
  by_cases b : (if c = 240 then 144 else 128) ≤ f 1 ∧ f 1 ≤ (if c = 244 then 143 else 191)
  ·rw [if_pos b]
   split at b <;> split at b
   all_goals rw [if_neg (by omega), if_neg (by omega), if_neg (by omega)]
  ·rw [if_neg b]
   by_cases e1 : c = 240
   ·rw [if_pos (by rw [if_pos e1, if_neg (by omega)] at b; omega)]
   ·by_cases e2 : c = 244
    ·rw [if_neg (by omega), if_pos (by rw [if_neg e1, if_pos e2] at b; omega)]
    ·rw [if_neg e1, if_neg e2] at b
     exact absurd a b
 ·rw [if_neg a, if_neg]
  intro b
  apply a
  split at b <;> split at b <;> omega
theorem c4_3 {c : Nat} {f : Nat → Nat} (h : 240 ≤ c ∧ c < 245) (h1 : (if c = 240 then 144 else 128) ≤ f 1 ∧ f 1 ≤ (if c = 244 then 143 else 191)) :
  (begC 4 (c - 240) 65536 1114111 3 f).2 = if 128 ≤ f 2 ∧ f 2 ≤ 191 then 4 else 0 := by
 unfold begC sHi sLo
 rw [va3]
 simp only [Nat.reduceSub, Nat.reducePow, good3]
 by_cases a : 128 ≤ f 2 ∧ f 2 ≤ 191
 ·have h1' : (128 ≤ f 1 ∧ f 1 ≤ 191) ∧ (c = 240 → 144 ≤ f 1) ∧ (c = 244 → f 1 ≤ 143) := by
   split at h1 <;> split at h1 <;> refine ⟨by omega, fun e => by omega, fun e => by omega⟩
  obtain ⟨g1, g2, g3⟩ := h1'
  rw [if_pos ⟨g1, a⟩, if_pos a]
  rw [if_neg (by omega), if_neg (by omega), if_neg (by omega)]
 ·rw [if_neg (fun b => a b.2), if_neg a]
theorem c4_4 {c : Nat} {f : Nat → Nat} (h : 240 ≤ c ∧ c < 245) (h1 : (if c = 240 then 144 else 128) ≤ f 1 ∧ f 1 ≤ (if c = 244 then 143 else 191)) (h2 : 128 ≤ f 2 ∧ f 2 ≤ 191) :
  begC 4 (c - 240) 65536 1114111 4 f = if 128 ≤ f 3 ∧ f 3 ≤ 191 then (c % 8 * 262144 + f 1 % 64 * 4096 + f 2 % 64 * 64 + f 3 % 64, 4) else (0, 0) := by
 unfold begC sHi sLo
 rw [va4]
 simp only [Nat.reduceSub, Nat.reducePow, good4]
 by_cases a : 128 ≤ f 3 ∧ f 3 ≤ 191
 ·have h1' : (128 ≤ f 1 ∧ f 1 ≤ 191) ∧ (c = 240 → 144 ≤ f 1) ∧ (c = 244 → f 1 ≤ 143) := by
   split at h1 <;> split at h1 <;> refine ⟨by omega, fun e => by omega, fun e => by omega⟩
  obtain ⟨g1, g2, g3⟩ := h1'
  rw [if_pos ⟨g1, h2, a⟩, if_pos a]
  rw [if_neg (by omega), if_neg (by omega), if_neg (by omega)]
  exact pr (by omega)
 ·rw [if_neg (fun b => a b.2.2), if_neg a]
def Cont (f : Nat → Nat) (k : Nat) : Prop := ∀ j, 1 ≤ j → j < k → (begAll j f).2 ≠ 0 ∧ (begAll j f).2 ≠ j
def AtRes (n : Nat) (f : Nat → Nat) (R S : Nat) (W : Bool) : Prop :=
 (∃ k, 1 ≤ k ∧ k ≤ 4 ∧ k ≤ n ∧ Cont f k ∧ (begAll k f).2 = 0 ∧ R = 65533 ∧ S = max 1 (k - 1) ∧ W = false) ∨
 (∃ k, 1 ≤ k ∧ k ≤ 4 ∧ k ≤ n ∧ Cont f k ∧ (begAll k f).2 = k ∧ R = (begAll k f).1 ∧ k = S ∧ W = true) ∨
 (∃ k, 1 ≤ k ∧ k ≤ 5 ∧ k ≤ n + 1 ∧ (k = 5 ∨ k = n + 1) ∧ Cont f k ∧ R = 65533 ∧ S = max 1 (k - 1) ∧ W = false)
def cls (c : Nat) : Nat := if c < 224 then 2 else if c < 240 then 3 else 4
theorem cls2 (c : Nat) : 2 ≤ cls c := by unfold cls; split <;> (try split) <;> omega
theorem begAll_n (k : Nat) (f : Nat → Nat) (h1 : 192 ≤ f 0) (h2 : f 0 < 248) : (begAll k f).2 = 0 ∨ (begAll k f).2 = cls (f 0) := by
 unfold begAll cls
 rw [if_neg (by omega), if_neg (by omega)]
 by_cases a : f 0 < 224
 ·rw [if_pos a, if_pos a]; exact begC_n _ _ _ _ _ _
 ·rw [if_neg a, if_neg a]
  by_cases b : f 0 < 240
  ·rw [if_pos b, if_pos b]; exact begC_n _ _ _ _ _ _
  ·rw [if_neg b, if_neg b, if_pos h2]; exact begC_n _ _ _ _ _ _
theorem cont_le {f : Nat → Nat} {k : Nat} (h : Cont f k) (h1 : 192 ≤ f 0) (h2 : f 0 < 248) : k ≤ cls (f 0) := by
 rcases Nat.lt_or_ge (cls (f 0)) k with q | q
 ·have h3 := h _ (by have := cls2 (f 0); omega) q
  rcases begAll_n (cls (f 0)) f h1 h2 with e | e
  ·exact absurd e h3.1
  ·exact absurd e h3.2
 ·exact q
theorem bt_eq {n : Nat} (f : Nat → Nat) {j : Nat} (h : j < n) : bt n f j = f j := by unfold bt; rw [if_pos h]
theorem pcA {n : Nat} {f : Nat → Nat} (hn : 1 ≤ n) (h : f 0 < 128) : pc n f = (f 0, 1, true) := by
 unfold pc M1.pieceB
 rw [bt_eq f (by omega), if_pos (by unfold firstT; rw [if_pos h])]
theorem pcX {n : Nat} {f : Nat → Nat} (hn : 1 ≤ n) (h : (128 ≤ f 0 ∧ f 0 < 194) ∨ 245 ≤ f 0) : pc n f = (65533, 1, false) := by
 have e : firstT (f 0) = 241 := by
  unfold firstT
  repeat' split
  all_goals omega
 unfold pc M1.pieceB
 rw [bt_eq f (by omega), e, if_neg (by omega), if_pos rfl]
theorem pc2 {n : Nat} {f : Nat → Nat} (hn : 1 ≤ n) (h : 194 ≤ f 0 ∧ f 0 < 224) : pc n f = if 1 < n ∧ 128 ≤ f 1 ∧ f 1 ≤ 191 then (f 0 % 32 * 64 + f 1 % 64, 2, true) else (65533, 1, false) := by
 unfold pc M1.pieceB M1.pieceS
 rw [bt_eq f (by omega), firstT_C2 h, if_neg (by omega), if_neg (by omega)]
 simp only [accLo, accHi, Nat.reduceMod, Nat.reduceDiv, if_true]
 by_cases c : 1 < n
 ·rw [bt_eq f c]
 ·rw [if_neg (fun a => c a.1), if_neg (fun a => c a.1)]
theorem first3 {c : Nat} (h : 224 ≤ c ∧ c < 240) : firstT c ≠ 240 ∧ firstT c ≠ 241 ∧ firstT c % 8 = 3 ∧ accLo (firstT c / 16) = (if c = 224 then 160 else 128) ∧ accHi (firstT c / 16) = (if c = 237 then 159 else 191) := by
 by_cases e1 : c = 224
 ·rw [firstT_E0 e1, if_pos e1, if_neg (by omega)]; simp [accLo, accHi]
 ·by_cases e2 : c = 237
  ·rw [firstT_ED e2, if_neg e1, if_pos e2]; simp [accLo, accHi]
  ·rw [firstT_E1 (by omega), if_neg e1, if_neg e2]; simp [accLo, accHi]
theorem first4 {c : Nat} (h : 240 ≤ c ∧ c < 245) : firstT c ≠ 240 ∧ firstT c ≠ 241 ∧ firstT c % 8 = 4 ∧ accLo (firstT c / 16) = (if c = 240 then 144 else 128) ∧ accHi (firstT c / 16) = (if c = 244 then 143 else 191) := by
 by_cases e1 : c = 240
 ·rw [firstT_F0 e1, if_pos e1, if_neg (by omega)]; simp [accLo, accHi]
 ·by_cases e2 : c = 244
  ·rw [firstT_F4 e2, if_neg e1, if_pos e2]; simp [accLo, accHi]
  ·rw [firstT_F1 (by omega), if_neg e1, if_neg e2]; simp [accLo, accHi]
theorem pc3 {n : Nat} {f : Nat → Nat} (hn : 1 ≤ n) (h : 224 ≤ f 0 ∧ f 0 < 240) :
  pc n f = if 1 < n ∧ (if f 0 = 224 then 160 else 128) ≤ f 1 ∧ f 1 ≤ (if f 0 = 237 then 159 else 191) then
   (if 2 < n ∧ 128 ≤ f 2 ∧ f 2 ≤ 191 then (f 0 % 16 * 4096 + f 1 % 64 * 64 + f 2 % 64, 3, true) else (65533, 2, false)) else (65533, 1, false) := by
 obtain ⟨e1, e2, e3, e4, e5⟩ := first3 h
 unfold pc M1.pieceB M1.pieceS
 rw [bt_eq f (by omega), if_neg e1, if_neg e2, e3, e4, e5]
 by_cases c : 1 < n
 ·rw [bt_eq f c]
  by_cases d : 2 < n
  ·rw [bt_eq f d]; simp
  ·rw [if_neg (c := 2 < n ∧ 128 ≤ f 2 ∧ f 2 ≤ 191) (fun a => d a.1), if_neg (c := 2 < n ∧ 128 ≤ bt n f 2 ∧ bt n f 2 ≤ 191) (fun a => d a.1)]; simp
 ·rw [if_neg (fun a => c a.1), if_neg (fun a => c a.1)]
theorem pc4 {n : Nat} {f : Nat → Nat} (hn : 1 ≤ n) (h : 240 ≤ f 0 ∧ f 0 < 245) :
  pc n f = if 1 < n ∧ (if f 0 = 240 then 144 else 128) ≤ f 1 ∧ f 1 ≤ (if f 0 = 244 then 143 else 191) then
   (if 2 < n ∧ 128 ≤ f 2 ∧ f 2 ≤ 191 then
    (if 3 < n ∧ 128 ≤ f 3 ∧ f 3 ≤ 191 then (f 0 % 8 * 262144 + f 1 % 64 * 4096 + f 2 % 64 * 64 + f 3 % 64, 4, true) else (65533, 3, false)) else (65533, 2, false)) else (65533, 1, false) := by
 obtain ⟨e1, e2, e3, e4, e5⟩ := first4 h
 unfold pc M1.pieceB M1.pieceS
 rw [bt_eq f (by omega), if_neg e1, if_neg e2, e3, e4, e5]
 by_cases c : 1 < n
 ·rw [bt_eq f c]
  by_cases d : 2 < n
  ·rw [bt_eq f d]
   by_cases g : 3 < n
   ·rw [bt_eq f g]; simp
   ·rw [if_neg (c := 3 < n ∧ 128 ≤ f 3 ∧ f 3 ≤ 191) (fun a => g a.1), if_neg (c := 3 < n ∧ 128 ≤ bt n f 3 ∧ bt n f 3 ≤ 191) (fun a => g a.1)]; simp
  ·rw [if_neg (c := 2 < n ∧ 128 ≤ f 2 ∧ f 2 ≤ 191) (fun a => d a.1), if_neg (c := 2 < n ∧ 128 ≤ bt n f 2 ∧ bt n f 2 ≤ 191) (fun a => d a.1)]; simp
 ·rw [if_neg (fun a => c a.1), if_neg (fun a => c a.1)]
theorem atRes_pc {n : Nat} {f : Nat → Nat} {R S : Nat} {W : Bool} (hn : 1 ≤ n) (h8 : f 0 < 256) (h : AtRes n f R S W) : (R, S, W) = pc n f := by
 by_cases a1 : f 0 < 128
 ·have e : ∀ k, begAll k f = (f 0, 1) := fun k => by unfold begAll; rw [if_pos a1]
  rw [pcA hn a1]
  rcases h with ⟨k, k1, k4, kn, hc, h0, _⟩ | ⟨k, k1, k4, kn, hc, h0, rfl, rfl, rfl⟩ | ⟨k, k1, k4, kn, ho, hc, _⟩
  ·rw [e] at h0; simp at h0
  ·rw [e] at h0
   have : k = 1 := h0.symm
   subst this
   rw [e]
  ·have := (hc 1 (by omega) (by omega)).2
   rw [e] at this; simp at this
 ·by_cases a2 : f 0 < 192 ∨ 248 ≤ f 0
  ·have e : ∀ k, begAll k f = (0, 0) := fun k => by
    unfold begAll
    rw [if_neg a1]
    rcases a2 with a2 | a2
    ·rw [if_pos a2]
    ·rw [if_neg (by omega), if_neg (by omega), if_neg (by omega), if_neg (by omega)]
   rw [pcX hn (by omega)]
   rcases h with ⟨k, k1, k4, kn, hc, h0, rfl, rfl, rfl⟩ | ⟨k, k1, k4, kn, hc, h0, rfl, rfl, rfl⟩ | ⟨k, k1, k4, kn, ho, hc, rfl, rfl, rfl⟩
   ·rcases Nat.lt_or_ge 1 k with q | q
    ·have := (hc 1 (by omega) q).1
     rw [e] at this; simp at this
    ·obtain rfl : k = 1 := by omega
     rfl
   ·rw [e] at h0; simp at h0; omega
   ·have := (hc 1 (by omega) (by omega)).1
    rw [e] at this; simp at this
  ·by_cases b2 : f 0 < 224
   ·have e : ∀ k, begAll k f = begC 2 (f 0 - 192) 128 2047 k f := fun k => by unfold begAll; rw [if_neg a1, if_neg (by omega), if_pos b2]
    have s1 := c2_1 (f := f) (c := f 0) (by omega)
    by_cases b3 : f 0 < 194
    ·rw [if_pos b3] at s1
     rw [pcX hn (by omega)]
     rcases h with ⟨k, k1, k4, kn, hc, h0, rfl, rfl, rfl⟩ | ⟨k, k1, k4, kn, hc, h0, rfl, rfl, rfl⟩ | ⟨k, k1, k4, kn, ho, hc, rfl, rfl, rfl⟩
     ·rcases Nat.lt_or_ge 1 k with q | q
      ·have := (hc 1 (by omega) q).1
       rw [e, s1] at this; simp at this
      ·obtain rfl : k = 1 := by omega
       rfl
     ·rcases Nat.lt_or_ge 1 k with q | q
      ·have := (hc 1 (by omega) q).1
       rw [e, s1] at this; simp at this
      ·obtain rfl : k = 1 := by omega
       rw [e, s1] at h0; simp at h0
     ·have := (hc 1 (by omega) (by omega)).1
      rw [e, s1] at this; simp at this
    ·rw [if_neg b3] at s1
     have s2 := c2_2 (f := f) (c := f 0) (by omega)
     rw [pc2 hn (by omega)]
     have hk : ∀ k, Cont f k → k ≤ 2 := fun k hc => by
      have := cont_le hc (by omega) (by omega)
      unfold cls at this
      rw [if_pos b2] at this
      exact this
     rcases h with ⟨k, k1, k4, kn, hc, h0, rfl, rfl, rfl⟩ | ⟨k, k1, k4, kn, hc, h0, rfl, rfl, rfl⟩ | ⟨k, k1, k4, kn, ho, hc, rfl, rfl, rfl⟩
     ·obtain rfl | rfl : k = 1 ∨ k = 2 := by have := hk k hc; omega
      ·rw [e, s1] at h0; simp at h0
      ·rw [e, s2] at h0
       rw [if_neg]
       ·rfl
       ·intro q
        rw [if_pos q.2] at h0
        simp at h0
     ·obtain rfl | rfl : k = 1 ∨ k = 2 := by have := hk k hc; omega
      ·rw [e, s1] at h0; simp at h0
      ·rw [e, s2] at h0 ⊢
       by_cases q : 128 ≤ f 1 ∧ f 1 ≤ 191
       ·rw [if_pos q, if_pos ⟨by omega, q⟩]
       ·rw [if_neg q] at h0; simp at h0
     ·have h2 := hk k hc
      obtain rfl : k = 2 := by omega
      rw [if_neg (by omega)]
      rfl
   ·by_cases b3 : f 0 < 240
    ·have e : ∀ k, begAll k f = begC 3 (f 0 - 224) 2048 65535 k f := fun k => by unfold begAll; rw [if_neg a1, if_neg (by omega), if_neg b2, if_pos b3]
     have s1 := c3_1 (f := f) (c := f 0) (by omega)
     have s2 := c3_2 (f := f) (c := f 0) (by omega)
     have s3 := fun q => c3_3 (f := f) (c := f 0) (by omega) q
     rw [pc3 hn (by omega)]
     have hk : ∀ k, Cont f k → k ≤ 3 := fun k hc => by
      have := cont_le hc (by omega) (by omega)
      unfold cls at this
      rw [if_neg b2, if_pos b3] at this
      exact this
     have r2 : ∀ k, Cont f k → 3 ≤ k → (if f 0 = 224 then 160 else 128) ≤ f 1 ∧ f 1 ≤ (if f 0 = 237 then 159 else 191) := fun k hc h3 => by
      have := (hc 2 (by omega) (by omega)).1
      rw [e, s2] at this
      by_cases q : (if f 0 = 224 then 160 else 128) ≤ f 1 ∧ f 1 ≤ (if f 0 = 237 then 159 else 191)
      ·exact q
      ·rw [if_neg q] at this; simp at this
     rcases h with ⟨k, k1, k4, kn, hc, h0, rfl, rfl, rfl⟩ | ⟨k, k1, k4, kn, hc, h0, rfl, rfl, rfl⟩ | ⟨k, k1, k4, kn, ho, hc, rfl, rfl, rfl⟩
     ·obtain rfl | rfl | rfl : k = 1 ∨ k = 2 ∨ k = 3 := by have := hk k hc; omega
      ·rw [e, s1] at h0; simp at h0
      ·rw [e, s2] at h0
       rw [if_neg]
       ·rfl
       ·intro q
        rw [if_pos q.2] at h0
        simp at h0
      ·have q2 := r2 3 hc (by omega)
       rw [e, s3 q2] at h0
       rw [if_pos ⟨by omega, q2⟩, if_neg]
       ·rfl
       ·intro q
        rw [if_pos q.2] at h0
        simp at h0
     ·obtain rfl | rfl | rfl : k = 1 ∨ k = 2 ∨ k = 3 := by have := hk k hc; omega
      ·rw [e, s1] at h0; simp at h0
      ·rw [e, s2] at h0
       exact (ite_no h0 (by omega) (by omega)).elim
      ·have q2 := r2 3 hc (by omega)
       rw [e, s3 q2] at h0 ⊢
       by_cases q : 128 ≤ f 2 ∧ f 2 ≤ 191
       ·rw [if_pos q, if_pos ⟨by omega, q2⟩, if_pos ⟨by omega, q⟩]
       ·rw [if_neg q] at h0; simp at h0
     ·have h2 := hk k hc
      obtain rfl | rfl : k = 2 ∨ k = 3 := by omega
      ·rw [if_neg (by omega)]; rfl
      ·have q2 := r2 3 hc (by omega)
       rw [if_pos ⟨by omega, q2⟩, if_neg (by omega)]; rfl
    ·have e : ∀ k, begAll k f = begC 4 (f 0 - 240) 65536 1114111 k f := fun k => by unfold begAll; rw [if_neg a1, if_neg (by omega), if_neg b2, if_neg b3, if_pos (by omega)]
     have s1 := c4_1 (f := f) (c := f 0) (by omega)
     by_cases b5 : f 0 < 245
     ·rw [if_pos b5] at s1
      have s2 := c4_2 (f := f) (c := f 0) (by omega)
      have s3 := fun q => c4_3 (f := f) (c := f 0) (by omega) q
      have s4 := fun q q' => c4_4 (f := f) (c := f 0) (by omega) q q'
      rw [pc4 hn (by omega)]
      have hk : ∀ k, Cont f k → k ≤ 4 := fun k hc => by
       have := cont_le hc (by omega) (by omega)
       unfold cls at this
       rw [if_neg b2, if_neg b3] at this
       exact this
      have r2 : ∀ k, Cont f k → 3 ≤ k → (if f 0 = 240 then 144 else 128) ≤ f 1 ∧ f 1 ≤ (if f 0 = 244 then 143 else 191) := fun k hc h3 => by
       have := (hc 2 (by omega) (by omega)).1
       rw [e, s2] at this
       by_cases q : (if f 0 = 240 then 144 else 128) ≤ f 1 ∧ f 1 ≤ (if f 0 = 244 then 143 else 191)
       ·exact q
       ·rw [if_neg q] at this; simp at this
      have r3 : ∀ k, Cont f k → 4 ≤ k → 128 ≤ f 2 ∧ f 2 ≤ 191 := fun k hc h4 => by
       have h5 := (hc 3 (by omega) (by omega)).1
       rw [e, s3 (r2 k hc (by omega))] at h5
       by_cases q : 128 ≤ f 2 ∧ f 2 ≤ 191
       ·exact q
       ·rw [if_neg q] at h5; simp at h5
      rcases h with ⟨k, k1, k4, kn, hc, h0, rfl, rfl, rfl⟩ | ⟨k, k1, k4, kn, hc, h0, rfl, rfl, rfl⟩ | ⟨k, k1, k4, kn, ho, hc, rfl, rfl, rfl⟩
      ·obtain rfl | rfl | rfl | rfl : k = 1 ∨ k = 2 ∨ k = 3 ∨ k = 4 := by have := hk k hc; omega
       ·rw [e, s1] at h0; simp at h0
       ·rw [e, s2] at h0
        rw [if_neg]
        ·rfl
        ·intro q
         rw [if_pos q.2] at h0
         simp at h0
       ·have q2 := r2 3 hc (by omega)
        rw [e, s3 q2] at h0
        rw [if_pos ⟨by omega, q2⟩, if_neg]
        ·rfl
        ·intro q
         rw [if_pos q.2] at h0
         simp at h0
       ·have q2 := r2 4 hc (by omega)
        have q3 := r3 4 hc (by omega)
        rw [e, s4 q2 q3] at h0
        rw [if_pos ⟨by omega, q2⟩, if_pos ⟨by omega, q3⟩, if_neg]
        ·rfl
        ·intro q
         rw [if_pos q.2] at h0
         simp at h0
      ·obtain rfl | rfl | rfl | rfl : k = 1 ∨ k = 2 ∨ k = 3 ∨ k = 4 := by have := hk k hc; omega
       ·rw [e, s1] at h0; simp at h0
       ·rw [e, s2] at h0
        exact (ite_no h0 (by omega) (by omega)).elim
       ·rw [e, s3 (r2 3 hc (by omega))] at h0
        exact (ite_no h0 (by omega) (by omega)).elim
       ·have q2 := r2 4 hc (by omega)
        have q3 := r3 4 hc (by omega)
        rw [e, s4 q2 q3] at h0 ⊢
        by_cases q : 128 ≤ f 3 ∧ f 3 ≤ 191
        ·rw [if_pos q, if_pos ⟨by omega, q2⟩, if_pos ⟨by omega, q3⟩, if_pos ⟨by omega, q⟩]
        ·rw [if_neg q] at h0; simp at h0
      ·have h2 := hk k hc
       obtain rfl | rfl | rfl : k = 2 ∨ k = 3 ∨ k = 4 := by omega
       ·rw [if_neg (by omega)]; rfl
       ·have q2 := r2 3 hc (by omega)
        rw [if_pos ⟨by omega, q2⟩, if_neg (by omega)]; rfl
       ·have q2 := r2 4 hc (by omega)
        have q3 := r3 4 hc (by omega)
        rw [if_pos ⟨by omega, q2⟩, if_pos ⟨by omega, q3⟩, if_neg (by omega)]; rfl
     ·rw [if_neg b5] at s1
      rw [pcX hn (by omega)]
      rcases h with ⟨k, k1, k4, kn, hc, h0, rfl, rfl, rfl⟩ | ⟨k, k1, k4, kn, hc, h0, rfl, rfl, rfl⟩ | ⟨k, k1, k4, kn, ho, hc, rfl, rfl, rfl⟩
      ·rcases Nat.lt_or_ge 1 k with q | q
       ·have := (hc 1 (by omega) q).1
        rw [e, s1] at this; simp at this
       ·obtain rfl : k = 1 := by omega
        rfl
      ·rcases Nat.lt_or_ge 1 k with q | q
       ·have := (hc 1 (by omega) q).1
        rw [e, s1] at this; simp at this
       ·obtain rfl : k = 1 := by omega
        rw [e, s1] at h0; simp at h0
      ·have := (hc 1 (by omega) (by omega)).1
       rw [e, s1] at this; simp at this
end Go.Proofs.YtojinnnpfjhifaaGreatDoor.S

namespace Go.Proofs.YtojinnnpfjhifaaGreatDoor.S
open Go.RowKit Go.Shelf
open Go.Lib
theorem beg_any (b off k n cap : Nat) (f : Nat → Nat) (w : World) (hB : Bs w b off n f) (hk : 1 ≤ k) (hkn : k ≤ n) (hc : Cont f k) :
  Calls Tryz.prog 52 #[.slice (some ⟨b, off, none⟩) k cap] w fun e w' => e = .returned (.tuple #[.int .i32 (begAll k f).1, .int .i64 (begAll k f).2]) ∧ w = w' := by
 have hB' := hB.take hkn
 have h8 := (hB 0 (by omega)).2
 by_cases a1 : f 0 < 128
 ·have e : begAll k f = (f 0, 1) := by unfold begAll; rw [if_pos a1]
  rw [e]
  exact beg_1 b off k cap f w hB' hk a1
 ·by_cases a2 : f 0 < 192 ∨ 248 ≤ f 0
  ·have e : begAll k f = (0, 0) := by
    unfold begAll
    rw [if_neg a1]
    rcases a2 with a2 | a2
    ·rw [if_pos a2]
    ·rw [if_neg (by omega), if_neg (by omega), if_neg (by omega), if_neg (by omega)]
   rw [e]
   exact beg_0 b off k cap f w hB' hk (by omega)
  ·have hl := cont_le hc (by omega) (by omega)
   unfold cls at hl
   by_cases b2 : f 0 < 224
   ·have e : begAll k f = begC 2 (f 0 - 192) 128 2047 k f := by unfold begAll; rw [if_neg a1, if_neg (by omega), if_pos b2]
    rw [if_pos b2] at hl
    rw [e]
    exact beg_2 b off k cap f w hB' hk hl (by omega)
   ·by_cases b3 : f 0 < 240
    ·have e : begAll k f = begC 3 (f 0 - 224) 2048 65535 k f := by unfold begAll; rw [if_neg a1, if_neg (by omega), if_neg b2, if_pos b3]
     rw [if_neg b2, if_pos b3] at hl
     rw [e]
     exact beg_3 b off k cap f w hB' hk hl (by omega)
    ·have e : begAll k f = begC 4 (f 0 - 240) 65536 1114111 k f := by unfold begAll; rw [if_neg a1, if_neg (by omega), if_neg b2, if_neg b3, if_pos (by omega)]
     rw [if_neg b2, if_neg b3] at hl
     rw [e]
     exact beg_4 b off k cap f w hB' hk hl (by omega)
def AtPost (n : Nat) (g : Nat → Nat) (w : World) (e : Ending) (w' : World) : Prop :=
 ∃ (R S : Nat) (W : Bool), e = .returned (.agg #[.int .i32 R, .int .i64 S, .bool W]) ∧ AtRes n g R S W ∧ Below w.heap.size w w'
set_option maxHeartbeats 1000000 in
set_option maxRecDepth 100000 in
theorem at_res (b off n cap i : Nat) (f : Nat → Nat) (w : World) (hB : Bs w b off n f) (hi : i < n) (hc : n ≤ cap) (hm : cap ≤ maxLen) :
  Calls Tryz.prog 32 #[.slice (some ⟨b, off, none⟩) n cap, .int .i64 i] w (AtPost (n - i) (fun j => f (i + j)) w) := by
 unfold maxLen at hm
 have hlt := hB.lt (by omega)
 have hi0 : (0 : Int) ≤ (i : Int) := by omega
 have hi1 : (i : Int) < (n : Int) := by omega
 have hc1 : (n : Int) ≤ (cap : Int) := by omega
 have hB' := (hB.drop i).alloc (by omega) (.cells #[.int .i32 0, .int .i64 0, .bool false] 59)
 have hD := fun k h1 h2 h3 => beg_any b (off + i) k (n - i) (cap - i) _ _ hB' h1 h2 h3
 generalize hg : (fun j => f (i + j)) = g at *
 have HD := Lib.hid hD
 clear hD hB' hg hB
 go_enter Tryz.func32, Tryz.ntmps32
 go_wp2
 go_loop [5, 6] (fun s k => ∃ q : Nat, 1 ≤ q ∧ q ≤ 5 ∧ q ≤ n - i + 1 ∧ Cont g q ∧ k = .int .i64 q ∧ s = .int .i64 ((max 1 (q - 1) : Nat) : Int)) (fun _ k => 5 - (RowKit.intOf k).toNat)
 case atStart => exact ⟨1, by omega, by omega, by omega, fun j a b => by omega, rfl, rfl⟩
 case round =>
  obtain ⟨q, q1, q5, qn, hct, rfl, rfl⟩ := hrel
  obtain ⟨S, hS⟩ : ∃ S, max 1 (q - 1) = S := ⟨_, rfl⟩
  rw [hS]
  have HS := Lib.hid hS
  clear hS
  have HC := Lib.hid hct
  clear hct
  by_cases hq : q ≤ 4 ∧ q ≤ n - i
  ·have C := HD.out q q1 hq.2 HC.out
   have b1 : (1 : Int) ≤ (q : Int) := by omega
   have b2 : (q : Int) ≤ 4 := by omega
   have b3 : (i : Int) + (q : Int) ≤ (n : Int) := by omega
   have d2 : decide ((q : Int) ≤ (n : Int) - (i : Int)) = true := by simp; omega
   obtain ⟨E, hE⟩ : ∃ E, begAll q g = E := ⟨_, rfl⟩
   rw [hE] at C
   have HE := Lib.hid hE
   clear hE
   obtain ⟨E1, E2⟩ := E
   have C := Lib.hid C
   by_cases z : E2 = 0
   ·have t1 : ((E2 : Int) == 0) = true := by rw [beq_iff_eq]; omega
    have Z := Lib.hid z
    clear z
    go_wp2_with fail
    refine C.out.mono ?_
    rintro e w1 ⟨rfl, rfl⟩
    go_wp2
    refine bodyPost_ret (v := .agg #[.int .i32 65533, .int .i64 S, .bool false]) ?_ rfl ⟨65533, S, false, rfl, .inl ⟨q, q1, hq.1, hq.2, HC.out, by rw [HE.out]; exact Z.out, rfl, HS.out.symm, rfl⟩, ?_⟩
    ·simp [results, Tryz.results32, go_sem]
    ·exact (Below.refl _ _).alloc (Nat.le_refl _) _
   ·have t1 : ((E2 : Int) == 0) = false := by rw [beq_eq_false_iff_ne]; omega
    by_cases y : E2 = q
    ·have t2 : ((E2 : Int) == (q : Int)) = true := by rw [beq_iff_eq]; omega
     have t3 : (E2 == q) = true := by rw [beq_iff_eq]; omega
     have Y := Lib.hid y
     clear z y
     go_wp2_with fail
     refine C.out.mono ?_
     rintro e w1 ⟨rfl, rfl⟩
     go_wp2
     refine bodyPost_ret (v := .agg #[.int .i32 E1, .int .i64 E2, .bool true]) ?_ rfl ⟨E1, E2, true, rfl, .inr (.inl ⟨q, q1, hq.1, hq.2, HC.out, by rw [HE.out]; exact Y.out, by rw [HE.out], Y.out.symm, rfl⟩), ?_⟩
     ·simp [results, Tryz.results32, go_sem]
     ·exact (Below.refl _ _).alloc (Nat.le_refl _) _
    ·have t2 : ((E2 : Int) == (q : Int)) = false := by rw [beq_eq_false_iff_ne]; omega
     have t3 : (E2 == q) = false := by rw [beq_eq_false_iff_ne]; omega
     have Y := Lib.hid (And.intro z y)
     clear z y
     go_wp2_with fail
     refine C.out.mono ?_
     rintro e w1 ⟨rfl, rfl⟩
     go_wp2
     go_round
     case rel => exact ⟨q + 1, by omega, by omega, by omega, fun j a c => by
      rcases Nat.lt_or_ge j q with h | h
      ·exact HC.out j a h
      ·obtain rfl : j = q := by omega
       rw [HE.out]
       exact Y.out, by go_num, by
      rw [show max 1 (q + 1 - 1) = q from by omega]⟩
     case measure => simp [RowKit.intOf]; omega
  ·by_cases h4 : q ≤ 4
   ·have b2 : (q : Int) ≤ 4 := by omega
    have b3 : (n : Int) - (i : Int) < (q : Int) := by omega
    have d2 : decide ((q : Int) ≤ (n : Int) - (i : Int)) = false := by simp; omega
    go_wp2
    refine bodyPost_ret (v := .agg #[.int .i32 65533, .int .i64 S, .bool false]) ?_ rfl ⟨65533, S, false, rfl, .inr (.inr ⟨q, q1, q5, qn, by omega, HC.out, rfl, HS.out.symm, rfl⟩), ?_⟩
    ·simp [results, Tryz.results32, go_sem]
    ·exact (Below.refl _ _).alloc (Nat.le_refl _) _
   ·have b2 : (4 : Int) < (q : Int) := by omega
    have d1 : decide ((q : Int) ≤ 4) = false := by simp; omega
    go_wp2
    refine bodyPost_ret (v := .agg #[.int .i32 65533, .int .i64 S, .bool false]) ?_ rfl ⟨65533, S, false, rfl, .inr (.inr ⟨q, q1, q5, qn, by omega, HC.out, rfl, HS.out.symm, rfl⟩), ?_⟩
    ·simp [results, Tryz.results32, go_sem]
    ·exact (Below.refl _ _).alloc (Nat.le_refl _) _
theorem at_any (b off n cap i : Nat) (f : Nat → Nat) (w : World) (hB : Bs w b off n f) (hi : i < n) (hc : n ≤ cap) (hm : cap ≤ maxLen) :
  Calls Tryz.prog 32 #[.slice (some ⟨b, off, none⟩) n cap, .int .i64 i] w fun e w' =>
   e = .returned (.agg #[.int .i32 (pc (n - i) (fun j => f (i + j))).1, .int .i64 (pc (n - i) (fun j => f (i + j))).2.1, .bool (pc (n - i) (fun j => f (i + j))).2.2]) ∧ Below w.heap.size w w' := by
 refine (at_res b off n cap i f w hB hi hc hm).mono ?_
 rintro e w' ⟨R, S, W, rfl, h, hb⟩
 rw [← atRes_pc (by omega) (by have := (hB i hi).2; simpa using this) h]
 exact ⟨rfl, hb⟩
end Go.Proofs.YtojinnnpfjhifaaGreatDoor.S

namespace Go.Proofs.YtojinnnpfjhifaaGreatDoor.K
open Go.RowKit Go.Shelf Go.Lib Go.Maps
structure PC where
 r : Int
 s : Int
 b : Bool
def pcA (p : PC) : Array Value := #[.int .i32 p.r, .int .i64 p.s, .bool p.b]
def pcX (q : Nat × Nat × Bool) : PC := ⟨(q.1 : Int), (q.2.1 : Int), q.2.2⟩
def pcs (n : Nat) (f : Nat → Nat) : Nat → Nat → List PC
 | 0, _ => []
 | d + 1, k => if k < n then pcX (nxS n f k) :: pcs n f d (k + (nxS n f k).2.1) else []
theorem pcs_fuel (n : Nat) (f : Nat → Nat) : ∀ (d e k : Nat), n - k ≤ d → n - k ≤ e → pcs n f d k = pcs n f e k
 | 0, 0, k, _, _ => rfl
 | 0, e + 1, k, h, _ => by
  unfold pcs
  rw [if_neg (by omega)]
 | d + 1, 0, k, _, h => by
  unfold pcs
  rw [if_neg (by omega)]
 | d + 1, e + 1, k, hd, he => by
  unfold pcs
  by_cases h : k < n
  ·have := nxS_size n f k h
   rw [if_pos h, if_pos h, pcs_fuel n f d e (k + (nxS n f k).2.1) (by omega) (by omega)]
  ·rw [if_neg h, if_neg h]
theorem pcs_next (n : Nat) (f : Nat → Nat) (k : Nat) (h : k < n) : pcs n f (n - k) k = pcX (nxS n f k) :: pcs n f (n - (k + (nxS n f k).2.1)) (k + (nxS n f k).2.1) := by
 have hs := nxS_size n f k h
 obtain ⟨d, hd⟩ : ∃ d, n - k = d + 1 := ⟨n - k - 1, by omega⟩
 rw [hd]
 conv => lhs; unfold pcs
 rw [if_pos h, pcs_fuel n f d (n - (k + (nxS n f k).2.1)) _ (by omega) (Nat.le_refl _)]
theorem pcs_end (n : Nat) (f : Nat → Nat) (k : Nat) (h : ¬ k < n) : ∀ d, pcs n f d k = []
 | 0 => rfl
 | d + 1 => by
  unfold pcs
  rw [if_neg h]
theorem pcs_len (n : Nat) (f : Nat → Nat) : ∀ (d k : Nat), (pcs n f d k).length ≤ n - k
 | 0, k => Nat.zero_le _
 | d + 1, k => by
  unfold pcs
  by_cases h : k < n
  ·have := nxS_size n f k h
   have := pcs_len n f d (k + (nxS n f k).2.1)
   rw [if_pos h, List.length_cons]
   omega
  ·rw [if_neg h]
   exact Nat.zero_le _
def itemsQ (nb pb : Bool) : Int → Bool → Bool → List PC → List IT
 | _, _, _, [] => []
 | a, f, x, p :: r => ⟨p.r, a, p.s, f, x, nb, pb⟩ :: itemsQ nb pb (a + p.s) false false r
theorem text_pcs (n : Nat) (f : Nat → Nat) (fr : Nat) (nb pb : Bool) : ∀ (d k : Nat) (fo x : Bool), textF n f fr nb pb d k fo x = itemsQ nb pb ((fr : Int) + (k : Int)) fo x (pcs n f d k)
 | 0, k, fo, x => rfl
 | d + 1, k, fo, x => by
  unfold textF pcs
  by_cases h : k < n
  ·rw [if_pos h, if_pos h, text_pcs n f fr nb pb d (k + (nxS n f k).2.1) false false]
   show _ = (⟨((nxS n f k).1 : Int), (fr : Int) + (k : Int), ((nxS n f k).2.1 : Int), fo, x, nb, pb⟩ : IT) :: itemsQ nb pb ((fr : Int) + (k : Int) + ((nxS n f k).2.1 : Int)) false false _
   rw [Int.natCast_add, Int.add_assoc]
  ·rw [if_neg h, if_neg h]
   rfl
def rowP : List PC → List Value
 | [] => []
 | x :: r => (pcA x).toList ++ rowP r
theorem rowP_app : ∀ l m : List PC, rowP (l ++ m) = rowP l ++ rowP m
 | [], m => by simp [rowP]
 | t :: r, m => by
  show (pcA t).toList ++ rowP (r ++ m) = ((pcA t).toList ++ rowP r) ++ _
  rw [rowP_app r m]
  simp
theorem rowP_snoc (x : PC) (l : List PC) : rowP (l ++ [x]) = rowP l ++ (pcA x).toList := by
 rw [rowP_app]
 simp [rowP]
theorem rowP_at : ∀ (l : List PC) (i : Nat) (x : PC), l[i]? = some x → ∀ j, j < 3 → (rowP l)[i * 3 + j]? = (pcA x)[j]?
 | [], i, a, h, _, _ => by simp at h
 | x :: l, 0, a, h, j, hj => by
  simp at h
  subst h
  rw [show rowP (x :: l) = (pcA x).toList ++ rowP l from rfl, Nat.zero_mul, Nat.zero_add, List.getElem?_append_left (by simpa [pcA] using hj)]
  simp
 | x :: l, i + 1, a, h, j, hj => by
  have ih := rowP_at l i a (by simpa using h) j hj
  rw [show rowP (x :: l) = (pcA x).toList ++ rowP l from rfl, List.getElem?_append_right (by simp [pcA]; omega)]
  rw [← ih]
  congr 1
  simp [pcA]
  omega
def OwnP (w : World) (base : Nat) (l : List PC) (v : Value) : Prop := w.ownsRow base 59 3 v l.length (rowP l)
theorem OwnP.below {w w' : World} {base : Nat} {l : List PC} {v : Value} (h : OwnP w base l v) (hb : Below w.heap.size w w') : OwnP w' base l v := ownsRow_below h hb
theorem ownP_nil (w : World) (base : Nat) : OwnP w base [] (.slice none 0 0) := ⟨rfl, .inl ⟨rfl, rfl⟩⟩
theorem ownP_lit (w : World) (t : PC) : OwnP (w.alloc (.cells (pcA t) 59)) w.heap.size [t] (.slice (some ⟨w.heap.size, 0, none⟩) 1 1) := by
 have h := World.ownsRow_lit (base := w.heap.size) (e := 59) (size := 3) w (pcA t) 1 (Nat.le_refl _) (by unfold maxLen; omega) rfl
 have e : rowP [t] = (pcA t).toList := by simp [rowP]
 unfold OwnP
 rw [e]
 exact h
structure PsA (w : World) (B : Nat) (l : List PC) (A : Option Addr) (c : Nat) : Prop where
 le : l.length ≤ c
 mx : c ≤ maxLen
 r : ∀ (i : Nat) (x : PC), l[i]? = some x → ∃ b o, A = some ⟨b, o, none⟩ ∧ b < B ∧ w.cell? ⟨b, o + i * 3, none⟩ = some (.int .i32 x.r) ∧ w.cell? ⟨b, o + i * 3 + 1, none⟩ = some (.int .i64 x.s) ∧ w.cell? ⟨b, o + i * 3 + 2, none⟩ = some (.bool x.b)
theorem PsA.below {w w' : World} {B : Nat} {l : List PC} {A : Option Addr} {c : Nat} (h : PsA w B l A c) (hb : Below B w w') : PsA w' B l A c :=
 ⟨h.le, h.mx, fun i a ha => by
  obtain ⟨b, o, e, h1, h2, h3, h4⟩ := h.r i a ha
  exact ⟨b, o, e, h1, (hb.cell (p := ⟨b, _, none⟩) h1).trans h2, (hb.cell (p := ⟨b, _, none⟩) h1).trans h3, (hb.cell (p := ⟨b, _, none⟩) h1).trans h4⟩⟩
theorem PsA.nil (w : World) (B : Nat) : PsA w B [] none 0 := ⟨Nat.le_refl _, Nat.zero_le _, fun i a ha => by simp at ha⟩
theorem PsA.of_own {w : World} {base : Nat} {l : List PC} {v : Value} (h : OwnP w base l v) : ∃ A c, v = .slice A l.length c ∧ PsA w w.heap.size l A c := by
 rcases h.2 with ⟨h1, h2⟩ | ⟨g, cap, cur, h1, h2, h3, h4, h5, h6, h7⟩
 ·have hn : l = [] := List.eq_nil_of_length_eq_zero h2
  subst hn
  exact ⟨none, 0, by rw [h1]; rfl, PsA.nil _ _⟩
 ·refine ⟨_, cap, h1, ⟨h4, h5, fun i a ha => ⟨g, 0, rfl, (Array.getElem?_eq_some_iff.1 h3).1, ?_⟩⟩⟩
  have c := fun j hj u (hu : (pcA a)[j]? = some u) => World.ownsRow.cells h (g := g) (by rw [h1]; rfl) (i * 3 + j) u ((rowP_at l i a ha j hj).trans hu)
  have d0 := c 0 (by omega) _ rfl
  have d1 := c 1 (by omega) _ rfl
  have d2 := c 2 (by omega) _ rfl
  rw [add0] at d0 d1 d2
  simp only [Nat.zero_add]
  exact ⟨d0, d1, d2⟩
theorem info59 : (Tryz.prog.info? 59).map (fun i => (i.zero.map (fun z => z.cells.size), i.size, i.bytes)) = some (some 3, 3, 24) := by kernel_rfl
theorem info59_parts : ∃ i z, Tryz.prog.info? 59 = some i ∧ i.zero = some z ∧ i.size = 3 ∧ i.bytes = 24 ∧ z.cells.size = 3 := by
 have h := info59
 cases e : Tryz.prog.info? 59 with
 | none => rw [e] at h; simp at h
 | some i =>
  rw [e] at h
  cases e2 : i.zero with
  | none => simp [e2] at h
  | some z =>
   simp [e2] at h
   exact ⟨i, z, rfl, e2, h.2.1, h.2.2, h.1⟩
theorem wpList_appP {ops : Array Oper} {rest : List Oper} {o : Oper} {a : Act} {w : World} {Q : Exit → Act → World → Prop} (hgd : o.guard = none) (s x : Operand)
  (ho : o.op = .call { callee := .builtin .append, args := #[s, x], argTypes := #[56, 56] }) (base : Nat) (v : Value) (l : List PC) (t : PC) (hs : a.eval s = v) (w0 : World) (h0 : OwnP w0 base l v) (hw0 : w0.alloc (.cells (pcA t) 59) = w)
  (hx : a.eval x = .slice (some ⟨w0.heap.size, 0, none⟩) 1 1) (h63 : l.length ≤ 1000000) (hbase : base ≤ w0.heap.size)
  (h : ∀ g cap w', OwnP w' base (l ++ [t]) (.slice (some ⟨g, 0, none⟩) (l.length + 1) cap) → Below base w0 w' → (∀ k, k < w0.heap.size → v.ownBlock ≠ some k → w'.heap[k]? = w0.heap[k]?) → wpList Tryz.prog ops Q rest (a.put o.dst (.slice (some ⟨g, 0, none⟩) (l.length + 1) cap)) w') :
  wpList Tryz.prog ops Q (o :: rest) a w := by
 obtain ⟨i, z, hi, hz, hs1, hb1, hz1⟩ := info59_parts
 subst hw0
 have al := below_new w0 (.cells (pcA t) 59)
 have hown := h0.below al
 have hsz : base ≤ (w0.alloc (.cells (pcA t) 59)).heap.size := by rw [World.size_alloc]; omega
 refine wpList_append_lies _ hgd s x 56 ho base 59 i _ 3 24 Tryz.underlying56 hi hz hs1 hb1 hz1 (by decide) v l.length (rowP l) hs hown ⟨w0.heap.size, 0, none⟩ 1 1 (pcA t).toList hx rfl (World.news_of_block (by simpa using heap_alloc_new w0 (.cells (pcA t) 59))) (fun u hu => ?_) (by decide) (by unfold maxLen; omega) (by omega) hsz _ rfl ?_
 ·simp [pcA] at hu
  rcases hu with rfl | rfl | rfl <;> rfl
 ·intro g cap w' h1 h2 _ _
  refine h g cap w' ?_ ?_ (fun k hk hn => (h2.block k (by rw [World.size_alloc]; omega) (fun e => hn e.symm)).trans (al.block k hk))
  ·unfold OwnP
   rw [rowP_snoc, List.length_append]
   exact h1
  ·refine (al.mono hbase).trans ⟨h2.os, h2.tape, h2.output, h2.size, fun k hk => h2.block k (by omega) (fun e => by have := (own_block_lt hown k e.symm).1; omega)⟩
set_option maxRecDepth 100000 in
set_option maxHeartbeats 8000000 in
theorem rall_any (b off n cap : Nat) (f : Nat → Nat) (hn0 : n ≤ 100000) (hc : n ≤ cap) (hm : cap ≤ maxLen) (w : World) (hB : S.Bs w b off n f) (hbw : b < w.heap.size) :
  Calls Tryz.prog 20 #[.slice (some ⟨b, off, none⟩) n cap] w fun e w' => ∃ v, e = .returned v ∧ OwnP w' w.heap.size (pcs n f n 0) v ∧ Below w.heap.size w w' := by
 have CX : ∀ (k : Nat) (W : World), k < n → Below w.heap.size w W → Calls Tryz.prog 32 #[.slice (some ⟨b, off, none⟩) n cap, .int .i64 k] W fun e w' =>
   e = .returned (.agg #[.int .i32 ((nxS n f k).1 : Int), .int .i64 ((nxS n f k).2.1 : Int), .bool (nxS n f k).2.2]) ∧ Below W.heap.size W w' := fun k W hk h2 => S.at_any b off n cap k f W (hB.below h2 hbw) hk hc hm
 obtain ⟨ALL, hALL⟩ : ∃ L, pcs n f n 0 = L := ⟨_, rfl⟩
 rw [hALL]
 have HC := Lib.hid CX
 have HL := Lib.hid hALL
 clear CX hALL hB hbw
 go_enter Tryz.func20, Tryz.ntmps20
 go_wp2_with fail
 go_loopw [3, 4, 5] (fun o i _ wr => ∃ (k : Nat) (pre : List PC), k ≤ n ∧ i = .int .i64 (k : Int) ∧ pre.length ≤ k ∧ OwnP wr w.heap.size pre o ∧ pre ++ pcs n f (n - k) k = ALL ∧ Below w.heap.size w wr) (fun _ i _ _ => n - (RowKit.intOf i).toNat)
 case atStart => exact ⟨0, [], Nat.zero_le _, rfl, Nat.zero_le _, ownP_nil _ _, by simpa using HL.out, Below.refl _ _⟩
 case round =>
  obtain ⟨k, pre, hk, rfl, hpl, ho, hall, hb⟩ := hrel
  by_cases hkn : k < n
  case pos =>
   have C1 := HC.out k _ hkn hb
   have hs := nxS_size n f k hkn
   have hnx := pcs_next n f k hkn
   obtain ⟨P, hP⟩ : ∃ P, nxS n f k = P := ⟨_, rfl⟩
   rw [hP] at C1 hs hnx
   obtain ⟨r, sz, bk⟩ := P
   simp only at C1 hs hnx
   rw [hnx] at hall
   have hs1 := hs.1
   have hs2 : k + sz ≤ n := by omega
   have i1 : (k : Int) < (n : Int) := by omega
   have i2 : (k : Int) ≤ 100000 := by omega
   have i4 : (sz : Int) ≤ 100000 := by omega
   have H1 := Lib.hid (And.intro ho (And.intro hall (And.intro hb (And.intro hpl (And.intro hs1 hs2)))))
   clear ho hall hb hpl hs hnx hs1 hs2 hP
   go_wp2_with fail
   refine C1.mono ?_
   rintro e w2 ⟨rfl, b2⟩
   clear C1
   have hs12 := b2.size
   have t3 := cells_new w2 #[.int .i32 (r : Int), .int .i64 (sz : Int), .bool bk] 59
   have b3 := below_new w2 (.cells #[.int .i32 (r : Int), .int .i64 (sz : Int), .bool bk] 59)
   obtain ⟨w3, hw3⟩ : ∃ V, w2.alloc (.cells #[.int .i32 (r : Int), .int .i64 (sz : Int), .bool bk] 59) = V := ⟨_, rfl⟩
   rw [hw3] at t3 b3
   have b23 : Below w.heap.size w w3 := (H1.out.2.2.1.trans (b2.mono H1.out.2.2.1.size)).trans (b3.mono (H1.out.2.2.1.trans (b2.mono H1.out.2.2.1.size)).size)
   have o3 := (H1.out.1.below b2).below b3
   have y0 : w3.cell? ⟨w2.heap.size, 0, none⟩ = some (.int .i32 (r : Int)) := t3.cell 0
   have y1 : w3.cell? ⟨w2.heap.size, 1, none⟩ = some (.int .i64 (sz : Int)) := t3.cell 1
   have y2 : w3.cell? ⟨w2.heap.size, 2, none⟩ = some (.bool bk) := t3.cell 2
   have HW3 := Lib.hid hw3
   have H3 := Lib.hid (And.intro o3 (And.intro b23 t3))
   have hbase : w.heap.size ≤ w3.heap.size := b23.size
   have hpre : pre.length ≤ 1000000 := by have := H1.out.2.2.2.1; omega
   have hlt3 : w2.heap.size < w3.heap.size := t3.lt
   clear t3 b3 hw3 b23 o3 b2
   go_upto_region 5 with fail
   rw [HW3.out]
   go_wp2_with (at_builtin; refine wpList_appP rfl (.tmp 13) (.tmp 15) rfl w.heap.size _ pre ⟨(r : Int), (sz : Int), bk⟩ rfl w3 H3.out.1 rfl rfl hpre hbase ?_)
   intro g cp w4 o4 b4 u4
   have hend : ∃ (k' : Nat) (pre' : List PC), k' ≤ n ∧ Value.int .i64 ((k : Int) + (sz : Int)) = .int .i64 (k' : Int) ∧ pre'.length ≤ k' ∧ OwnP w4 w.heap.size pre' (.slice (some ⟨g, 0, none⟩) (pre.length + 1) cp) ∧ pre' ++ pcs n f (n - k') k' = ALL ∧ Below w.heap.size w w4 := by
    refine ⟨k + sz, pre ++ [⟨(r : Int), (sz : Int), bk⟩], H1.out.2.2.2.2.2, by simp, by have := H1.out.2.2.2.1; have := H1.out.2.2.2.2.1; simp; omega, o4, ?_, H3.out.2.1.trans b4⟩
    rw [List.append_assoc]
    exact H1.out.2.1
   have z1 : w4.cell? ⟨w2.heap.size, 1, none⟩ = some (.int .i64 (sz : Int)) := by
    refine (World.cell?_of_block (a := ⟨w2.heap.size, 1, none⟩) (u4 _ hlt3 (fun e => ?_))).trans y1
    have h9 : w2.heap.size < wr.heap.size := (own_block_lt H1.out.1 _ e).2
    omega
   have HEND := Lib.hid hend
   clear hend o4 b4 u4 hbase hpre y0 y1 y2
   go_wp2_with fail
   go_roundw
   case rel => exact HEND.out
   case measure =>
    have h1 := H1.out.2.2.2.2.1
    have h2 := H1.out.2.2.2.2.2
    have e3 : ((k : Int) + (sz : Int)).toNat = k + sz := by omega
    simp [RowKit.intOf]
    omega
  case neg =>
   obtain rfl : k = n := by omega
   have i1 : ¬ (k : Int) < (k : Int) := by omega
   rw [pcs_end _ _ _ hkn, List.append_nil] at hall
   subst hall
   have H1 := Lib.hid (And.intro ho hb)
   clear ho hb hpl hkn hk
   go_wp2_with fail
   go_ret
   exact ⟨_, rfl, H1.out.1, H1.out.2⟩
end Go.Proofs.YtojinnnpfjhifaaGreatDoor.K

namespace Go.Proofs.YtojinnnpfjhifaaGreatDoor.K
open Go.RowKit Go.Shelf Go.Lib Go.Maps
attribute [local irreducible] nmL ofN
theorem items_none (s : ES) (B : Nat → Nat) (t : TK) (h0 : t.kind ≠ 0) (h1 : t.kind ≠ 1) : s.items B t = [] := by
 unfold ES.items tkI
 rw [if_neg h0, if_neg h1]
 split <;> rfl
theorem cs_plain (s : ES) (t : TK) (h2 : t.kind ≠ 2) (h3 : t.kind ≠ 3) : s.cs t = s.c := by
 unfold ES.cs takeC
 rw [if_neg (by omega)]
theorem fs_plain (s : ES) (t : TK) (h2 : t.kind ≠ 2) (h3 : t.kind ≠ 3) : s.fs t = s.f := by
 unfold ES.fs takeF
 rw [decide_eq_false (by omega), Bool.false_and, Bool.or_false]
theorem xs_plain (s : ES) (t : TK) (h2 : t.kind ≠ 2) : s.xs t = s.x := by
 unfold ES.xs takeX
 rw [decide_eq_false (by omega), Bool.false_and, Bool.or_false]
theorem tkG_keep (kd : Nat) (c : Ct) (f : Bool) (h0 : kd ≠ 0) (h1 : kd ≠ 1) : tkG kd c f = f := by
 unfold tkG
 rw [if_neg (show ¬ (kd = 0 ∨ kd = 1) by omega)]
 split <;> rfl
theorem turn_tag (s : ES) (t : TK) (h0 : t.kind ≠ 0) (h1 : t.kind ≠ 1) : s.turn t = ⟨s.cs t, s.fs t, s.xs t⟩ := by
 unfold ES.turn
 rw [tkG_keep _ _ _ h0 h1, tkG_keep _ _ _ h0 h1]
theorem turn_other (s : ES) (t : TK) (h0 : t.kind ≠ 0) (h1 : t.kind ≠ 1) (h2 : t.kind ≠ 2) (h3 : t.kind ≠ 3) : s.turn t = s := by
 rw [turn_tag s t h0 h1, cs_plain s t h2 h3, fs_plain s t h2 h3, xs_plain s t h2]
theorem turn_text (s : ES) (t : TK) (h : t.kind = 0 ∨ t.kind = 1) : s.turn t = ⟨s.c, if 0 < s.c.h then s.f else false, if 0 < s.c.h then s.x else false⟩ := by
 unfold ES.turn tkG
 rw [cs_plain s t (by omega) (by omega), fs_plain s t (by omega) (by omega), xs_plain s t (by omega), if_pos h]
 simp only [if_pos h]
theorem items_text (s : ES) (B : Nat → Nat) (t : TK) (h : t.kind = 0) : s.items B t = if 0 < s.c.h then [] else itemsQ (decide (0 < s.c.n)) (decide (0 < s.c.p)) (t.fr : Int) s.f s.x (pcs (t.to - t.fr) (fun j => B (t.fr + j)) (t.to - t.fr) 0) := by
 unfold ES.items tkI
 rw [cs_plain s t (by omega) (by omega), fs_plain s t (by omega) (by omega), xs_plain s t (by omega), if_pos h, text_pcs, show (t.fr : Int) + ((0 : Nat) : Int) = (t.fr : Int) by omega]
theorem items_ref (s : ES) (B : Nat → Nat) (t : TK) (h : t.kind = 1) : s.items B t = if 0 < s.c.h then [] else itemsQ (decide (0 < s.c.n)) (decide (0 < s.c.p)) (t.fr : Int) s.f s.x [⟨t.r, (t.to : Int) - (t.fr : Int), false⟩] := by
 unfold ES.items tkI
 rw [cs_plain s t (by omega) (by omega), fs_plain s t (by omega) (by omega), xs_plain s t (by omega), if_neg (show ¬ t.kind = 0 by omega), if_pos h]
 rfl
theorem pcs_small (n : Nat) (f : Nat → Nat) : ∀ (d k : Nat), ∀ q ∈ pcs n f d k, 0 ≤ q.s ∧ q.s ≤ 1000
 | 0, k, q, h => by simp [pcs] at h
 | d + 1, k, q, h => by
  unfold pcs at h
  by_cases hk : k < n
  ·have hs := nxS_size n f k hk
   rw [if_pos hk] at h
   rcases List.mem_cons.1 h with rfl | h
   ·refine ⟨?_, ?_⟩
    ·show (0 : Int) ≤ ((nxS n f k).2.1 : Int)
     omega
    ·show ((nxS n f k).2.1 : Int) ≤ 1000
     omega
   ·exact pcs_small n f d _ q h
  ·rw [if_neg hk] at h
   simp at h
end Go.Proofs.YtojinnnpfjhifaaGreatDoor.K

namespace Go.Proofs.YtojinnnpfjhifaaGreatDoor.K
open Go.RowKit Go.Shelf Go.Lib Go.Maps
attribute [local irreducible] nmL ofN
set_option maxRecDepth 100000 in
set_option maxHeartbeats 4000000 in
theorem turn_any (n : Nat) (hn : n ≤ 255) (b : Bool) (by_ : Int) (hb : by_ = 0 ∨ by_ = 1 ∨ by_ = -1) (w : World) :
  Calls Tryz.prog 31 #[.int .i64 (n : Int), .bool b, .int .i64 by_] w fun e w' => e = .returned (.int .i64 ((if b then clampN n by_ else n : Nat) : Int)) ∧ w' = w := by
 cases b
 ·simp only [Bool.false_eq_true, if_false]
  go_enter Tryz.func31, Tryz.ntmps31
  go_wp2_with fail
  go_ret
  exact ⟨rfl, rfl⟩
 ·simp only [if_true]
  rcases hb with rfl | rfl | rfl
  ·rw [clampN_zero n hn]
   go_enter Tryz.func31, Tryz.ntmps31
   go_wp2_with fail
   go_ret
   exact ⟨rfl, rfl⟩
  ·by_cases h : n < 255
   ·rw [clampN_up n h]
    have i1 : (n : Int) < 255 := by omega
    go_enter Tryz.func31, Tryz.ntmps31
    go_wp2_with fail
    go_ret
    exact ⟨by simp, rfl⟩
   ·have e : clampN n 1 = n := by unfold clampN; omega
    rw [e]
    have i1 : ¬ (n : Int) < 255 := by omega
    go_enter Tryz.func31, Tryz.ntmps31
    go_wp2_with fail
    go_ret
    exact ⟨rfl, rfl⟩
  ·cases n with
   | zero =>
    have e : clampN 0 (-1) = 0 := by decide
    rw [e]
    go_enter Tryz.func31, Tryz.ntmps31
    go_wp2_with fail
    go_ret
    exact ⟨rfl, rfl⟩
   | succ m =>
    have e : clampN (m + 1) (-1) = m := by unfold clampN; omega
    rw [e]
    obtain ⟨q, hq⟩ : ∃ q, m + 1 = q := ⟨_, rfl⟩
    have i1 : (0 : Int) < (q : Int) := by omega
    have i3 : (q : Int) - 1 = (m : Int) := by omega
    have i4 : wrap64 (m : Int) = (m : Int) := IntWalk.wrap64_in _ ⟨by omega, by omega⟩
    rw [hq]
    clear hn hq
    go_enter Tryz.func31, Tryz.ntmps31
    go_wp2_with fail
    go_ret
    exact ⟨by simp [i4], rfl⟩
theorem Fz.cells {X : Nat → Prop} {w w' : World} {g t : Nat} {cs : Array Value} (h : Fz X w w') (hX : ¬ X g) (hc : Cells w g t cs) : Cells w' g t cs := (h.block _ hc.lt hX).trans hc
theorem bitT (N k : Nat) (b : Bool) (h : isB N k = b) : ((N : Int) / ((2 ^ k : Nat) : Int) % 2 == 1) = b := by
 subst h
 unfold isB
 have e : (N : Int) / ((2 ^ k : Nat) : Int) % 2 = ((N / 2 ^ k % 2 : Nat) : Int) := by omega
 rw [e]
 by_cases q : N / 2 ^ k % 2 = 1
 ·rw [q]; rfl
 ·have q2 : N / 2 ^ k % 2 = 0 := by omega
  rw [q2]; rfl
structure R12 (w : World) (ch cp cn R0 G : Nat) (W : World) : Prop where
 b : Below w.heap.size w W
 x : Cells W w.heap.size 51 #[.int .i64 (ch : Int), .int .i64 (cp : Int), .int .i64 (cn : Int)]
 r : Cells W (w.heap.size + 1) 51 #[.int .i64 0, .int .i64 0, .int .i64 0]
 y : Cells W G 51 #[.int .i64 (R0 : Int), .int .i64 (cp : Int), .int .i64 (cn : Int)]
 g : w.heap.size + 1 < G
end Go.Proofs.YtojinnnpfjhifaaGreatDoor.K

namespace Go.Proofs.YtojinnnpfjhifaaGreatDoor.K
open Go.RowKit Go.Shelf Go.Lib Go.Maps
attribute [local irreducible] nmL ofN
set_option maxRecDepth 100000 in
set_option maxHeartbeats 8000000 in
theorem refTake_Rts (sg : Bool) (nm : ByteArray) (ch cp cn : Nat) (hh : ch ≤ 255) (hp : cp ≤ 255) (hn : cn ≤ 255) (N : Nat) (b0 b1 b2 b3 b4 b5 b6 h0 : Bool)
  (t0 : ((N : Int) % 2 == 1) = b0) (t1 : ((N : Int) / 2 % 2 == 1) = b1) (t2 : ((N : Int) / 4 % 2 == 1) = b2) (t3 : ((N : Int) / 8 % 2 == 1) = b3) (t4 : ((N : Int) / 16 % 2 == 1) = b4)
  (t5 : ((N : Int) / 32 % 2 == 1) = b5) (t6 : ((N : Int) / 64 % 2 == 1) = b6) (e0 : ((ch : Int) == 0) = h0) (hN : N < 128) (by_ : Int) (hby : by_ = if b1 then 0 else if false then -1 else if sg then 0 else 1)
  (w : World) (CO : ∀ W, Calls Tryz.prog 30 #[.string nm] W fun e W' => e = .returned (.int .i64 (N : Int)) ∧ Below W.heap.size W W') :
  Calls Tryz.prog 19 #[.agg #[.int .i64 (ch : Int), .int .i64 (cp : Int), .int .i64 (cn : Int)], .bool false, .bool sg, .string nm] w fun e w' =>
   e = .returned (.tuple #[.agg #[.int .i64 ((if b2 then clampN ch by_ else ch : Nat) : Int), .int .i64 ((if h0 && b3 then clampN cp by_ else cp : Nat) : Int), .int .i64 ((if h0 && b4 then clampN cn by_ else cn : Nat) : Int)],
    .bool (h0 && (if false then b0 && !b1 else b0 || b5)), .bool (!false && (h0 && b6))]) ∧ Below w.heap.size w w' := by
 have hbyc : by_ = 0 ∨ by_ = 1 ∨ by_ = -1 := by subst hby; (repeat' split) <;> simp
 have CT := fun W => turn_any ch hh b2 by_ hbyc W
 have CT2 := fun W => turn_any cp hp b3 by_ hbyc W
 have CT3 := fun W => turn_any cn hn b4 by_ hbyc W
 obtain ⟨R0, hR0⟩ : ∃ R, (if b2 then clampN ch by_ else ch) = R := ⟨_, rfl⟩
 obtain ⟨R1, hR1⟩ : ∃ R, (if b3 then clampN cp by_ else cp) = R := ⟨_, rfl⟩
 obtain ⟨R2, hR2⟩ : ∃ R, (if b4 then clampN cn by_ else cn) = R := ⟨_, rfl⟩
 have hS1 : (if h0 && b3 then clampN cp by_ else cp) = if h0 then R1 else cp := by rw [← hR1]; cases h0 <;> simp
 have hS2 : (if h0 && b4 then clampN cn by_ else cn) = if h0 then R2 else cn := by rw [← hR2]; cases h0 <;> simp
 rw [hR0, hS1, hS2]
 simp only [hR0] at CT
 simp only [hR1] at CT2
 simp only [hR2] at CT3
 clear hR0 hR1 hR2 hS1 hS2
 obtain ⟨F1, hF1⟩ : ∃ q, (h0 && (if false then b0 && !b1 else b0 || b5)) = q := ⟨_, rfl⟩
 obtain ⟨X1, hX1⟩ : ∃ q, (!false && (h0 && b6)) = q := ⟨_, rfl⟩
 rw [hF1, hX1]
 have HFX := Lib.hid (And.intro hF1 hX1)
 clear hF1 hX1
 obtain ⟨W1, hW1⟩ : ∃ V, w.alloc (.cells #[.int .i64 (ch : Int), .int .i64 (cp : Int), .int .i64 (cn : Int)] 51) = V := ⟨_, rfl⟩
 have p1 : Below w.heap.size w W1 := by rw [← hW1]; exact below_new w _
 have o1 : Cells W1 w.heap.size 51 #[.int .i64 (ch : Int), .int .i64 (cp : Int), .int .i64 (cn : Int)] := by rw [← hW1]; exact cells_new _ _ _
 have s1 : W1.heap.size = w.heap.size + 1 := by rw [← hW1]; simp
 obtain ⟨W2, hW2⟩ : ∃ V, W1.alloc (.cells #[.int .i64 0, .int .i64 0, .int .i64 0] 51) = V := ⟨_, rfl⟩
 have p2 : Below W1.heap.size W1 W2 := by rw [← hW2]; exact below_new W1 _
 have o2 : Cells W2 (w.heap.size + 1) 51 #[.int .i64 0, .int .i64 0, .int .i64 0] := by rw [← s1, ← hW2]; exact cells_new _ _ _
 have s2 : W2.heap.size = w.heap.size + 2 := by rw [← hW2]; simp [s1]
 have HW := Lib.hid (And.intro hW1 (And.intro hW2 (And.intro (p1.trans (p2.mono p1.size)) (And.intro (o1.on p2) (And.intro o2 s2)))))
 have HT := Lib.hid (And.intro CT (And.intro CT2 CT3))
 have HB := Lib.hid hby
 clear hW1 hW2 p1 p2 o1 o2 s1 s2 CT CT2 CT3 hh hp hn hbyc hby
 go_enter Tryz.func19, Tryz.ntmps19
 go_wp2_with fail
 rw [HW.out.1, HW.out.2.1]
 refine (CO _).mono ?_
 rintro e w3 ⟨rfl, hb⟩
 have hb3 := HW.out.2.2.1.trans (hb.mono HW.out.2.2.1.size)
 have x1 := HW.out.2.2.2.1.on hb
 have x2 := HW.out.2.2.2.2.1.on hb
 have q0 := x1.cell 0
 have q1 := x1.cell 1
 have q2 := x1.cell 2
 simp at q0 q1 q2
 have H3 := Lib.hid (And.intro hb3 (And.intro x1 x2))
 clear hb hb3 x1 x2 CO
 go_upto_region 4 with fail
 go_cut [15] from 31 to 40 (fun f wx => f = .bool (h0 && (b0 || b5)) ∧ wx = w3)
 case first =>
  cases h0 <;> cases b0
  all_goals
   go_wp2_with fail
   go_meet
   exact ⟨rfl, rfl⟩
 case rest =>
  obtain ⟨rfl, hwc⟩ := hcut
  obtain rfl := hwc.symm
  clear hwc
  go_upto_region 5 with fail
  go_cut [16] from 41 to 47 (fun f wx => f = .bool (h0 && b6) ∧ wx = w3)
  case first =>
   cases h0
   all_goals
    go_wp2_with fail
    go_meet
    exact ⟨rfl, rfl⟩
  case rest =>
   obtain ⟨rfl, hwc⟩ := hcut
   obtain rfl := hwc.symm
   clear hwc
   have hf1 : (h0 && (b0 || b5)) = F1 := HFX.out.1
   have hx1 : (h0 && b6) = X1 := HFX.out.2
   rw [hf1, hx1]
   clear hf1 hx1
   cases hb1 : b1 <;> cases sg
   all_goals
    have hby' := HB.out
    simp only [hb1, Bool.false_eq_true, if_false, if_true] at hby'
    subst hby'
    go_upto_region 12 with fail
    have H03 := H3.out.2.2.lt
    go_cut [18] from 65 to 77 (fun v wx => ∃ G, v = .pointer (some ⟨G, 0, none⟩) ∧ R12 w ch cp cn R0 G wx)
    case first =>
     have g0 : ∀ p : Later (fun _ => False) w3, p.W.cell? ⟨w.heap.size, 0, none⟩ = some (.int .i64 (ch : Int)) := fun p => cell_later q0 (fun hf => hf) p
     have g1 : ∀ p : Later (fun _ => False) w3, p.W.cell? ⟨w.heap.size, 1, none⟩ = some (.int .i64 (cp : Int)) := fun p => cell_later q1 (fun hf => hf) p
     have g2 : ∀ p : Later (fun _ => False) w3, p.W.cell? ⟨w.heap.size, 2, none⟩ = some (.int .i64 (cn : Int)) := fun p => cell_later q2 (fun hf => hf) p
     clear q0 q1 q2
     refine wp_region_mixF (fun i => if i = 7 then 2 else if 12 ≤ i then 2 else 0) [0, 1, 2, 3, 4, 5, 6, 8, 9, 10, 11] 4 (fun w' => ∃ p : Later (fun _ => False) w3, w' = p.W) (by kernel_rfl) (by kernel_rfl) ⟨⟨_, Fz.drew w3⟩, rfl⟩ ?_
     simp only [opsAt, List.filterMap_cons, List.filterMap_nil, List.getElem?_toArray, List.getElem?_cons_zero, List.getElem?_cons_succ]
     change wpQuiet _ _ _ _ [_, _, _, _, _, _, _, _, _, _, _] _
     repeat (go_big_quiet_step (fail))
     refine wpQuiet_nil ?_
     clear g0 g1 g2
     have zz : Fz (fun _ => False) w3 { w3 with drawn := w3.drawn + 1 } := Fz.drew w3
     obtain ⟨W4, hW4⟩ : ∃ V, ({ w3 with drawn := w3.drawn + 1 } : World) = V := ⟨_, rfl⟩
     rw [hW4] at zz ⊢
     clear hW4
     have bz := zz.below (Nat.le_refl _) (fun _ _ hf => hf)
     have H4 := Lib.hid (And.intro zz (And.intro (H3.out.1.trans (bz.mono H3.out.1.size)) (And.intro (H3.out.2.1.on bz) (H3.out.2.2.on bz))))
     clear zz bz
     refine wpFreeM_step [7, 13] (by kernel_rfl) ⟨?_, ?_, trivial⟩
     ·refine wpOp_of_list rfl ?_
      go_wp2_with fail
      refine (HT.out.1 _).mono ?_
      rintro e W9 ⟨rfl, hw9⟩
      obtain rfl := hw9.symm
      clear hw9
      go_wp2_with fail
      refine ⟨⟨⟨_, H4.out.1⟩, rfl⟩, ?_⟩
      refine wpFreeM_step [12, 13] (by kernel_rfl) ⟨?_, ?_, trivial⟩
      ·refine wpOp_of_list rfl ?_
       go_wp2_with fail
       refine ⟨⟨⟨_, H4.out.1⟩, rfl⟩, ?_⟩
       refine wpFreeM_step [13] (by kernel_rfl) ⟨?_, trivial⟩
       refine wpOp_of_list rfl ?_
       go_wp2_with fail
       have x6 : Cells (W4.alloc (.cells #[.int .i64 0, .int .i64 0, .int .i64 0] 51)) W4.heap.size 51 #[.int .i64 0, .int .i64 0, .int .i64 0] := cells_new _ _ _
       have b6 := below_new W4 (.cells #[.int .i64 0, .int .i64 0, .int .i64 0] 51)
       obtain ⟨W5, hW5⟩ : ∃ V, W4.alloc (.cells #[.int .i64 0, .int .i64 0, .int .i64 0] 51) = V := ⟨_, rfl⟩
       rw [hW5] at x6 b6 ⊢
       clear hW5
       have hzG := H4.out.1.trans (Fz.of_below b6)
       have hws : w.heap.size + 1 < W4.heap.size := by have := H4.out.2.2.2.lt; omega
       have H5 := Lib.hid (And.intro hzG (And.intro (H4.out.2.1.trans (b6.mono H4.out.2.1.size)) (And.intro (H4.out.2.2.1.on b6) (And.intro (H4.out.2.2.2.on b6) (And.intro x6 hws)))))
       have f0 := x6.froz 0
       have f1 := x6.froz 1
       have f2 := x6.froz 2
       have y0 : W5.cell? ⟨W4.heap.size, 0, none⟩ = some (.int .i64 0) := x6.cell 0
       have y1 : W5.cell? ⟨W4.heap.size, 1, none⟩ = some (.int .i64 0) := x6.cell 1
       have y2 : W5.cell? ⟨W4.heap.size, 2, none⟩ = some (.int .i64 0) := x6.cell 2
       clear x6 b6 hzG hws
       refine ⟨⟨⟨_, H5.out.1⟩, rfl⟩, ?_⟩
       refine wpFreeM_step [14] (by kernel_rfl) ⟨?_, trivial⟩
       refine wpOp_of_list rfl ?_
       go_wp2_with fail
       have z7 := ((H5.out.2.2.2.2.1.set 0 (.int .i64 (R0 : Int))).set 1 (.int .i64 (cp : Int))).set 2 (.int .i64 (cn : Int))
       have hge : w.heap.size ≤ W4.heap.size := by have := H5.out.2.2.2.2.2; omega
       have b7 := (((H5.out.2.1.setc hge 0 (.int .i64 (R0 : Int))).setc hge 1 (.int .i64 (cp : Int))).setc hge 2 (.int .i64 (cn : Int)))
       have k7 : Fz (fun k => k = W4.heap.size) W5 (((W5.setCell ⟨W4.heap.size, 0, none⟩ (.int .i64 (R0 : Int))).setCell ⟨W4.heap.size, 1, none⟩ (.int .i64 (cp : Int))).setCell ⟨W4.heap.size, 2, none⟩ (.int .i64 (cn : Int))) := ((Fz.set (X := fun k => k = W4.heap.size) W5 W4.heap.size 0 (.int .i64 (R0 : Int)) rfl).trans (Fz.set (X := fun k => k = W4.heap.size) _ W4.heap.size 1 (.int .i64 (cp : Int)) rfl)).trans (Fz.set (X := fun k => k = W4.heap.size) _ W4.heap.size 2 (.int .i64 (cn : Int)) rfl)
       have l7 : w3.heap.size ≤ W4.heap.size := H4.out.1.size
       have c7 : Fz (fun _ => False) w3 (((W5.setCell ⟨W4.heap.size, 0, none⟩ (.int .i64 (R0 : Int))).setCell ⟨W4.heap.size, 1, none⟩ (.int .i64 (cp : Int))).setCell ⟨W4.heap.size, 2, none⟩ (.int .i64 (cn : Int))) := ⟨k7.os.trans H5.out.1.os, k7.tape.trans H5.out.1.tape, k7.output.trans H5.out.1.output, Nat.le_trans H5.out.1.size k7.size, fun k hk hn => (k7.block k (Nat.lt_of_lt_of_le hk H5.out.1.size) (by omega)).trans (H5.out.1.block k hk hn)⟩
       have n1 := H5.out.2.2.2.2.2
       have H7 : R12 w ch cp cn R0 W4.heap.size (((W5.setCell ⟨W4.heap.size, 0, none⟩ (.int .i64 (R0 : Int))).setCell ⟨W4.heap.size, 1, none⟩ (.int .i64 (cp : Int))).setCell ⟨W4.heap.size, 2, none⟩ (.int .i64 (cn : Int))) := ⟨b7, k7.cells (by omega) H5.out.2.2.1, k7.cells (by omega) H5.out.2.2.2.1, z7, n1⟩
       have H7 := Lib.hid (And.intro H7 c7)
       clear z7 hge b7 k7 l7 c7 n1 f0 f1 f2 y0 y1 y2
       refine ⟨⟨⟨_, H7.out.2⟩, rfl⟩, ?_⟩
       unfold wpFreeM
       go_wp2_with fail
       go_meet
       exact ⟨W4.heap.size, rfl, H7.out.1⟩
      ·refine wpOp_of_list rfl ?_
       go_wp2_with fail
       have x6 : Cells (W4.alloc (.cells #[.int .i64 0, .int .i64 0, .int .i64 0] 51)) W4.heap.size 51 #[.int .i64 0, .int .i64 0, .int .i64 0] := cells_new _ _ _
       have b6 := below_new W4 (.cells #[.int .i64 0, .int .i64 0, .int .i64 0] 51)
       obtain ⟨W5, hW5⟩ : ∃ V, W4.alloc (.cells #[.int .i64 0, .int .i64 0, .int .i64 0] 51) = V := ⟨_, rfl⟩
       rw [hW5] at x6 b6 ⊢
       clear hW5
       have hzG := H4.out.1.trans (Fz.of_below b6)
       have hws : w.heap.size + 1 < W4.heap.size := by have := H4.out.2.2.2.lt; omega
       have H5 := Lib.hid (And.intro hzG (And.intro (H4.out.2.1.trans (b6.mono H4.out.2.1.size)) (And.intro (H4.out.2.2.1.on b6) (And.intro (H4.out.2.2.2.on b6) (And.intro x6 hws)))))
       have f0 := x6.froz 0
       have f1 := x6.froz 1
       have f2 := x6.froz 2
       have y0 : W5.cell? ⟨W4.heap.size, 0, none⟩ = some (.int .i64 0) := x6.cell 0
       have y1 : W5.cell? ⟨W4.heap.size, 1, none⟩ = some (.int .i64 0) := x6.cell 1
       have y2 : W5.cell? ⟨W4.heap.size, 2, none⟩ = some (.int .i64 0) := x6.cell 2
       clear x6 b6 hzG hws
       refine ⟨⟨⟨_, H5.out.1⟩, rfl⟩, ?_⟩
       refine wpFreeM_step [12] (by kernel_rfl) ⟨?_, trivial⟩
       refine wpOp_of_list rfl ?_
       go_wp2_with fail
       refine ⟨⟨⟨_, H5.out.1⟩, rfl⟩, ?_⟩
       refine wpFreeM_step [14] (by kernel_rfl) ⟨?_, trivial⟩
       refine wpOp_of_list rfl ?_
       go_wp2_with fail
       have z7 := ((H5.out.2.2.2.2.1.set 0 (.int .i64 (R0 : Int))).set 1 (.int .i64 (cp : Int))).set 2 (.int .i64 (cn : Int))
       have hge : w.heap.size ≤ W4.heap.size := by have := H5.out.2.2.2.2.2; omega
       have b7 := (((H5.out.2.1.setc hge 0 (.int .i64 (R0 : Int))).setc hge 1 (.int .i64 (cp : Int))).setc hge 2 (.int .i64 (cn : Int)))
       have k7 : Fz (fun k => k = W4.heap.size) W5 (((W5.setCell ⟨W4.heap.size, 0, none⟩ (.int .i64 (R0 : Int))).setCell ⟨W4.heap.size, 1, none⟩ (.int .i64 (cp : Int))).setCell ⟨W4.heap.size, 2, none⟩ (.int .i64 (cn : Int))) := ((Fz.set (X := fun k => k = W4.heap.size) W5 W4.heap.size 0 (.int .i64 (R0 : Int)) rfl).trans (Fz.set (X := fun k => k = W4.heap.size) _ W4.heap.size 1 (.int .i64 (cp : Int)) rfl)).trans (Fz.set (X := fun k => k = W4.heap.size) _ W4.heap.size 2 (.int .i64 (cn : Int)) rfl)
       have l7 : w3.heap.size ≤ W4.heap.size := H4.out.1.size
       have c7 : Fz (fun _ => False) w3 (((W5.setCell ⟨W4.heap.size, 0, none⟩ (.int .i64 (R0 : Int))).setCell ⟨W4.heap.size, 1, none⟩ (.int .i64 (cp : Int))).setCell ⟨W4.heap.size, 2, none⟩ (.int .i64 (cn : Int))) := ⟨k7.os.trans H5.out.1.os, k7.tape.trans H5.out.1.tape, k7.output.trans H5.out.1.output, Nat.le_trans H5.out.1.size k7.size, fun k hk hn => (k7.block k (Nat.lt_of_lt_of_le hk H5.out.1.size) (by omega)).trans (H5.out.1.block k hk hn)⟩
       have n1 := H5.out.2.2.2.2.2
       have H7 : R12 w ch cp cn R0 W4.heap.size (((W5.setCell ⟨W4.heap.size, 0, none⟩ (.int .i64 (R0 : Int))).setCell ⟨W4.heap.size, 1, none⟩ (.int .i64 (cp : Int))).setCell ⟨W4.heap.size, 2, none⟩ (.int .i64 (cn : Int))) := ⟨b7, k7.cells (by omega) H5.out.2.2.1, k7.cells (by omega) H5.out.2.2.2.1, z7, n1⟩
       have H7 := Lib.hid (And.intro H7 c7)
       clear z7 hge b7 k7 l7 c7 n1 f0 f1 f2 y0 y1 y2
       refine ⟨⟨⟨_, H7.out.2⟩, rfl⟩, ?_⟩
       unfold wpFreeM
       go_wp2_with fail
       go_meet
       exact ⟨W4.heap.size, rfl, H7.out.1⟩
     ·refine wpOp_of_list rfl ?_
      go_wp2_with fail
      have x6 : Cells (W4.alloc (.cells #[.int .i64 0, .int .i64 0, .int .i64 0] 51)) W4.heap.size 51 #[.int .i64 0, .int .i64 0, .int .i64 0] := cells_new _ _ _
      have b6 := below_new W4 (.cells #[.int .i64 0, .int .i64 0, .int .i64 0] 51)
      obtain ⟨W5, hW5⟩ : ∃ V, W4.alloc (.cells #[.int .i64 0, .int .i64 0, .int .i64 0] 51) = V := ⟨_, rfl⟩
      rw [hW5] at x6 b6 ⊢
      clear hW5
      have hzG := H4.out.1.trans (Fz.of_below b6)
      have hws : w.heap.size + 1 < W4.heap.size := by have := H4.out.2.2.2.lt; omega
      have H5 := Lib.hid (And.intro hzG (And.intro (H4.out.2.1.trans (b6.mono H4.out.2.1.size)) (And.intro (H4.out.2.2.1.on b6) (And.intro (H4.out.2.2.2.on b6) (And.intro x6 hws)))))
      have f0 := x6.froz 0
      have f1 := x6.froz 1
      have f2 := x6.froz 2
      have y0 : W5.cell? ⟨W4.heap.size, 0, none⟩ = some (.int .i64 0) := x6.cell 0
      have y1 : W5.cell? ⟨W4.heap.size, 1, none⟩ = some (.int .i64 0) := x6.cell 1
      have y2 : W5.cell? ⟨W4.heap.size, 2, none⟩ = some (.int .i64 0) := x6.cell 2
      clear x6 b6 hzG hws
      refine ⟨⟨⟨_, H5.out.1⟩, rfl⟩, ?_⟩
      refine wpFreeM_step [7] (by kernel_rfl) ⟨?_, trivial⟩
      refine wpOp_of_list rfl ?_
      go_wp2_with fail
      refine (HT.out.1 _).mono ?_
      rintro e W9 ⟨rfl, hw9⟩
      obtain rfl := hw9.symm
      clear hw9
      go_wp2_with fail
      refine ⟨⟨⟨_, H5.out.1⟩, rfl⟩, ?_⟩
      refine wpFreeM_step [12] (by kernel_rfl) ⟨?_, trivial⟩
      refine wpOp_of_list rfl ?_
      go_wp2_with fail
      refine ⟨⟨⟨_, H5.out.1⟩, rfl⟩, ?_⟩
      refine wpFreeM_step [14] (by kernel_rfl) ⟨?_, trivial⟩
      refine wpOp_of_list rfl ?_
      go_wp2_with fail
      have z7 := ((H5.out.2.2.2.2.1.set 0 (.int .i64 (R0 : Int))).set 1 (.int .i64 (cp : Int))).set 2 (.int .i64 (cn : Int))
      have hge : w.heap.size ≤ W4.heap.size := by have := H5.out.2.2.2.2.2; omega
      have b7 := (((H5.out.2.1.setc hge 0 (.int .i64 (R0 : Int))).setc hge 1 (.int .i64 (cp : Int))).setc hge 2 (.int .i64 (cn : Int)))
      have k7 : Fz (fun k => k = W4.heap.size) W5 (((W5.setCell ⟨W4.heap.size, 0, none⟩ (.int .i64 (R0 : Int))).setCell ⟨W4.heap.size, 1, none⟩ (.int .i64 (cp : Int))).setCell ⟨W4.heap.size, 2, none⟩ (.int .i64 (cn : Int))) := ((Fz.set (X := fun k => k = W4.heap.size) W5 W4.heap.size 0 (.int .i64 (R0 : Int)) rfl).trans (Fz.set (X := fun k => k = W4.heap.size) _ W4.heap.size 1 (.int .i64 (cp : Int)) rfl)).trans (Fz.set (X := fun k => k = W4.heap.size) _ W4.heap.size 2 (.int .i64 (cn : Int)) rfl)
      have l7 : w3.heap.size ≤ W4.heap.size := H4.out.1.size
      have c7 : Fz (fun _ => False) w3 (((W5.setCell ⟨W4.heap.size, 0, none⟩ (.int .i64 (R0 : Int))).setCell ⟨W4.heap.size, 1, none⟩ (.int .i64 (cp : Int))).setCell ⟨W4.heap.size, 2, none⟩ (.int .i64 (cn : Int))) := ⟨k7.os.trans H5.out.1.os, k7.tape.trans H5.out.1.tape, k7.output.trans H5.out.1.output, Nat.le_trans H5.out.1.size k7.size, fun k hk hn => (k7.block k (Nat.lt_of_lt_of_le hk H5.out.1.size) (by omega)).trans (H5.out.1.block k hk hn)⟩
      have n1 := H5.out.2.2.2.2.2
      have H7 : R12 w ch cp cn R0 W4.heap.size (((W5.setCell ⟨W4.heap.size, 0, none⟩ (.int .i64 (R0 : Int))).setCell ⟨W4.heap.size, 1, none⟩ (.int .i64 (cp : Int))).setCell ⟨W4.heap.size, 2, none⟩ (.int .i64 (cn : Int))) := ⟨b7, k7.cells (by omega) H5.out.2.2.1, k7.cells (by omega) H5.out.2.2.2.1, z7, n1⟩
      have H7 := Lib.hid (And.intro H7 c7)
      clear z7 hge b7 k7 l7 c7 n1 f0 f1 f2 y0 y1 y2
      refine ⟨⟨⟨_, H7.out.2⟩, rfl⟩, ?_⟩
      unfold wpFreeM
      go_wp2_with fail
      go_meet
      exact ⟨W4.heap.size, rfl, H7.out.1⟩
    case rest =>
     obtain ⟨G, rfl, h7⟩ := hcut
     have y0 : wc.cell? ⟨G, 0, none⟩ = some (.int .i64 (R0 : Int)) := h7.y.cell 0
     have y1 : wc.cell? ⟨G, 1, none⟩ = some (.int .i64 (cp : Int)) := h7.y.cell 1
     have y2 : wc.cell? ⟨G, 2, none⟩ = some (.int .i64 (cn : Int)) := h7.y.cell 2
     have f1 := h7.y.froz 1
     have f2 := h7.y.froz 2
     have v0 : wc.cell? ⟨w.heap.size, 0, none⟩ = some (.int .i64 (ch : Int)) := h7.x.cell 0
     have v1 : wc.cell? ⟨w.heap.size, 1, none⟩ = some (.int .i64 (cp : Int)) := h7.x.cell 1
     have v2 : wc.cell? ⟨w.heap.size, 2, none⟩ = some (.int .i64 (cn : Int)) := h7.x.cell 2
     have l0 := h7.r.froz 0
     have l1 := h7.r.froz 1
     have l2 := h7.r.froz 2
     have m0 : wc.cell? ⟨w.heap.size + 1, 0, none⟩ = some (.int .i64 0) := h7.r.cell 0
     have m1 : wc.cell? ⟨w.heap.size + 1, 1, none⟩ = some (.int .i64 0) := h7.r.cell 1
     have m2 : wc.cell? ⟨w.heap.size + 1, 2, none⟩ = some (.int .i64 0) := h7.r.cell 2
     have hg := h7.g
     have C8 := HT.out.2.1
     have C9 := HT.out.2.2
     have H7 := Lib.hid h7
     clear h7 q0 q1 q2
     cases h0
     ·go_wp2_with fail
      have z8 := ((H7.out.r.set 0 (.int .i64 (R0 : Int))).set 1 (.int .i64 (cp : Int))).set 2 (.int .i64 (cn : Int))
      have b8 := (((H7.out.b.setc (Nat.le_succ _) 0 (.int .i64 (R0 : Int))).setc (Nat.le_succ _) 1 (.int .i64 (cp : Int))).setc (Nat.le_succ _) 2 (.int .i64 (cn : Int)))
      have u0 := z8.cell 0
      have u1 := z8.cell 1
      have u2 := z8.cell 2
      simp at u0 u1 u2
      refine bodyPost_ret (v := .tuple #[.agg #[.int .i64 (R0 : Int), .int .i64 (cp : Int), .int .i64 (cn : Int)], .bool F1, .bool X1]) ?_ rfl ⟨by simp, b8⟩
      simp [results, Tryz.results19, go_sem, u0, u1, u2]
     ·go_wp2_with fail
      refine (C8 _).mono ?_
      rintro e W9 ⟨rfl, hw9⟩
      obtain rfl := hw9.symm
      clear hw9 C8
      go_wp2_with fail
      have z8 := H7.out.y.set 1 (.int .i64 (R1 : Int))
      have b8 := H7.out.b.setc (show w.heap.size ≤ G by omega) 1 (.int .i64 (R1 : Int))
      have k8 := Fz.set (X := fun k => k = G) wc G 1 (.int .i64 (R1 : Int)) rfl
      obtain ⟨W8, hW8⟩ : ∃ V, wc.setCell ⟨G, 1, none⟩ (.int .i64 (R1 : Int)) = V := ⟨_, rfl⟩
      rw [hW8] at z8 b8 k8 ⊢
      clear hW8
      have x8 := k8.cells (by omega) H7.out.x
      have r8 := k8.cells (by omega) H7.out.r
      have H8 := Lib.hid (And.intro b8 (And.intro r8 (show Cells W8 G 51 #[.int .i64 (R0 : Int), .int .i64 (R1 : Int), .int .i64 (cn : Int)] from z8)))
      have v2' : W8.cell? ⟨w.heap.size, 2, none⟩ = some (.int .i64 (cn : Int)) := x8.cell 2
      have y2' : W8.cell? ⟨G, 2, none⟩ = some (.int .i64 (cn : Int)) := H8.out.2.2.cell 2
      have f2' := H8.out.2.2.froz 2
      clear z8 b8 k8 x8 r8 y0 y1 y2 f1 f2 v0 v1 v2 l0 l1 l2 m0 m1 m2
      go_wp2_with fail
      refine (C9 _).mono ?_
      rintro e W9 ⟨rfl, hw9⟩
      obtain rfl := hw9.symm
      clear hw9 C9
      go_upto_region 16 with fail
      have z9 := H8.out.2.2.set 2 (.int .i64 (R2 : Int))
      have b9 := H8.out.1.setc (show w.heap.size ≤ G by omega) 2 (.int .i64 (R2 : Int))
      have k9 := Fz.set (X := fun k => k = G) W8 G 2 (.int .i64 (R2 : Int)) rfl
      obtain ⟨W9, hW9⟩ : ∃ V, W8.setCell ⟨G, 2, none⟩ (.int .i64 (R2 : Int)) = V := ⟨_, rfl⟩
      rw [hW9] at z9 b9 k9 ⊢
      clear hW9
      have r9 := k9.cells (by omega) H8.out.2.1
      have z9' : Cells W9 G 51 #[.int .i64 (R0 : Int), .int .i64 (R1 : Int), .int .i64 (R2 : Int)] := z9
      have u0 : W9.cell? ⟨G, 0, none⟩ = some (.int .i64 (R0 : Int)) := z9'.cell 0
      have u1 : W9.cell? ⟨G, 1, none⟩ = some (.int .i64 (R1 : Int)) := z9'.cell 1
      have u2 : W9.cell? ⟨G, 2, none⟩ = some (.int .i64 (R2 : Int)) := z9'.cell 2
      have l0 := r9.froz 0
      have l1 := r9.froz 1
      have l2 := r9.froz 2
      have m0 : W9.cell? ⟨w.heap.size + 1, 0, none⟩ = some (.int .i64 0) := r9.cell 0
      have m1 : W9.cell? ⟨w.heap.size + 1, 1, none⟩ = some (.int .i64 0) := r9.cell 1
      have m2 : W9.cell? ⟨w.heap.size + 1, 2, none⟩ = some (.int .i64 0) := r9.cell 2
      have H9 := Lib.hid (And.intro b9 r9)
      clear z9 b9 k9 r9 z9' v2' y2' f2'
      go_wp2_with fail
      have zA := ((H9.out.2.set 0 (.int .i64 (R0 : Int))).set 1 (.int .i64 (R1 : Int))).set 2 (.int .i64 (R2 : Int))
      have bA := (((H9.out.1.setc (Nat.le_succ _) 0 (.int .i64 (R0 : Int))).setc (Nat.le_succ _) 1 (.int .i64 (R1 : Int))).setc (Nat.le_succ _) 2 (.int .i64 (R2 : Int)))
      have w0 := zA.cell 0
      have w1' := zA.cell 1
      have w2' := zA.cell 2
      simp at w0 w1' w2'
      refine bodyPost_ret (v := .tuple #[.agg #[.int .i64 (R0 : Int), .int .i64 (R1 : Int), .int .i64 (R2 : Int)], .bool F1, .bool X1]) ?_ rfl ⟨by simp, bA⟩
      simp [results, Tryz.results19, go_sem, w0, w1', w2']
end Go.Proofs.YtojinnnpfjhifaaGreatDoor.K

