/-
  What the rows of flat lean on, part p.
-/
import Derived.Test.YtfafhbgkmlmmdaaGreatDoorYro
import Derived.Deep.AppendLies
import Derived.Test.YtfafhbgkmlmmdaaGreatDoorYqd
import Derived.Test.YtfafhbgkmlmmdaaGreatDoorYrn
import Derived.Deep.CutRange
import Derived.Test.YtfafhbgkmlmmdaaGreatDoorYqb
import Derived.Test.YtfafhbgkmlmmdaaGreatDoorYqa
set_option maxRecDepth 100000
set_option maxHeartbeats 40000000
namespace Go.Proofs.YtfafhbgkmlmmdaaGreatDoor.S
open Go.RowKit Go.Shelf
open Go.Lib
noncomputable def begAll (k : Nat) (f : Nat → Nat) : Nat × Nat :=
 if f 0 < 128 then (f 0, 1) else if f 0 < 192 then (0, 0) else if f 0 < 224 then begC 2 (f 0 - 192) 128 2047 k f
 else if f 0 < 240 then begC 3 (f 0 - 224) 2048 65535 k f else if f 0 < 248 then begC 4 (f 0 - 240) 65536 1114111 k f else (0, 0)
theorem pr {a b n : Nat} (h : a = b) : (a, n) = (b, n) := by rw [h]
theorem ite_no {p : Prop} [Decidable p] {a b c : Nat} (h : (if p then a else b) = c) (ha : a ≠ c) (hb : b ≠ c) : False := by split at h <;> omega
theorem begC_n (N v0 least most k : Nat) (f : Nat → Nat) : (begC N v0 least most k f).2 = 0 ∨ (begC N v0 least most k f).2 = N := by
 unfold begC
 repeat' split
 all_goals simp
theorem good1 (f : Nat → Nat) : Good 1 f := fun j a b => by omega
theorem good2 (f : Nat → Nat) : Good 2 f ↔ 128 ≤ f 1 ∧ f 1 ≤ 191 :=
 ⟨fun h => h 1 (by omega) (by omega), fun h j a b => by
  have e : j = 1 := by omega
  rw [e]
  exact h⟩
theorem good3 (f : Nat → Nat) : Good 3 f ↔ (128 ≤ f 1 ∧ f 1 ≤ 191) ∧ 128 ≤ f 2 ∧ f 2 ≤ 191 :=
 ⟨fun h => ⟨h 1 (by omega) (by omega), h 2 (by omega) (by omega)⟩, fun h j a b => by
  obtain rfl | rfl : j = 1 ∨ j = 2 := by omega
  ·exact h.1
  ·exact h.2⟩
theorem good4 (f : Nat → Nat) : Good 4 f ↔ (128 ≤ f 1 ∧ f 1 ≤ 191) ∧ (128 ≤ f 2 ∧ f 2 ≤ 191) ∧ 128 ≤ f 3 ∧ f 3 ≤ 191 :=
 ⟨fun h => ⟨h 1 (by omega) (by omega), h 2 (by omega) (by omega), h 3 (by omega) (by omega)⟩, fun h j a b => by
  obtain rfl | rfl | rfl : j = 1 ∨ j = 2 ∨ j = 3 := by omega
  ·exact h.1
  ·exact h.2.1
  ·exact h.2.2⟩
theorem va1 (v0 : Nat) (f : Nat → Nat) : va v0 f (1 - 1) = v0 := rfl
theorem va2 (v0 : Nat) (f : Nat → Nat) : va v0 f (2 - 1) = 64 * v0 + f 1 - 128 := rfl
theorem va3 (v0 : Nat) (f : Nat → Nat) : va v0 f (3 - 1) = 64 * (64 * v0 + f 1 - 128) + f 2 - 128 := rfl
theorem va4 (v0 : Nat) (f : Nat → Nat) : va v0 f (4 - 1) = 64 * (64 * (64 * v0 + f 1 - 128) + f 2 - 128) + f 3 - 128 := rfl
theorem c2_1 {c : Nat} {f : Nat → Nat} (h : 192 ≤ c ∧ c < 224) : begC 2 (c - 192) 128 2047 1 f = if c < 194 then (0, 0) else (64 * (c - 192), 2) := by
 unfold begC sHi sLo
 rw [if_pos (good1 f), va1]
 simp only [Nat.reduceSub, Nat.reducePow]
 by_cases a : c < 194
 ·rw [if_pos (by omega), if_pos a]
 ·rw [if_neg (by omega), if_neg (by omega), if_neg (by omega), if_neg a, Nat.mul_comm]
theorem c2_2 {c : Nat} {f : Nat → Nat} (h : 194 ≤ c ∧ c < 224) : begC 2 (c - 192) 128 2047 2 f = if 128 ≤ f 1 ∧ f 1 ≤ 191 then (c % 32 * 64 + f 1 % 64, 2) else (0, 0) := by
 unfold begC sHi sLo
 rw [va2]
 simp only [Nat.reduceSub, Nat.reducePow, good2]
 by_cases a : 128 ≤ f 1 ∧ f 1 ≤ 191
 ·rw [if_pos a, if_neg (by omega), if_neg (by omega), if_neg (by omega), if_pos a]
  exact pr (by omega)
 ·rw [if_neg a, if_neg a]
theorem c3_1 {c : Nat} {f : Nat → Nat} (h : 224 ≤ c ∧ c < 240) : (begC 3 (c - 224) 2048 65535 1 f).2 = 3 := by
 unfold begC sHi sLo
 rw [if_pos (good1 f), va1]
 simp only [Nat.reduceSub, Nat.reducePow]
 rw [if_neg (by omega), if_neg (by omega), if_neg (by omega)]
theorem c3_2 {c : Nat} {f : Nat → Nat} (h : 224 ≤ c ∧ c < 240) :
  (begC 3 (c - 224) 2048 65535 2 f).2 = if (if c = 224 then 160 else 128) ≤ f 1 ∧ f 1 ≤ (if c = 237 then 159 else 191) then 3 else 0 := by
 unfold begC sHi sLo
 rw [va2]
 simp only [Nat.reduceSub, Nat.reducePow, good2]
 by_cases a : 128 ≤ f 1 ∧ f 1 ≤ 191
 ·rw [if_pos a]
  by_cases b : (if c = 224 then 160 else 128) ≤ f 1 ∧ f 1 ≤ (if c = 237 then 159 else 191)
  ·rw [if_pos b]
   split at b <;> split at b
   all_goals rw [if_neg (by omega), if_neg (by omega), if_neg (by omega)]
  ·rw [if_neg b]
   by_cases e1 : c = 224
   ·rw [if_pos (by rw [if_pos e1, if_neg (by omega)] at b; omega)]
   ·by_cases e2 : c = 237
    ·rw [if_neg (by omega), if_neg (by omega), if_pos (by rw [if_neg e1, if_pos e2] at b; omega)]
    ·rw [if_neg e1, if_neg e2] at b
     exact absurd a b
 ·rw [if_neg a, if_neg]
  intro b
  apply a
  split at b <;> split at b <;> omega
theorem c3_3 {c : Nat} {f : Nat → Nat} (h : 224 ≤ c ∧ c < 240) (h1 : (if c = 224 then 160 else 128) ≤ f 1 ∧ f 1 ≤ (if c = 237 then 159 else 191)) :
  begC 3 (c - 224) 2048 65535 3 f = if 128 ≤ f 2 ∧ f 2 ≤ 191 then (c % 16 * 4096 + f 1 % 64 * 64 + f 2 % 64, 3) else (0, 0) := by
 unfold begC sHi sLo
 rw [va3]
 simp only [Nat.reduceSub, Nat.reducePow, good3]
 by_cases a : 128 ≤ f 2 ∧ f 2 ≤ 191
 ·have h1' : (128 ≤ f 1 ∧ f 1 ≤ 191) ∧ (c = 224 → 160 ≤ f 1) ∧ (c = 237 → f 1 ≤ 159) := by
   split at h1 <;> split at h1 <;> refine ⟨by omega, fun e => by omega, fun e => by omega⟩
  obtain ⟨g1, g2, g3⟩ := h1'
  rw [if_pos ⟨g1, a⟩, if_pos a]
  rw [if_neg (by omega), if_neg (by omega), if_neg (by omega)]
  exact pr (by omega)
 ·rw [if_neg (fun b => a b.2), if_neg a]
theorem c4_1 {c : Nat} {f : Nat → Nat} (h : 240 ≤ c ∧ c < 248) : (begC 4 (c - 240) 65536 1114111 1 f).2 = if c < 245 then 4 else 0 := by
 unfold begC sHi sLo
 rw [if_pos (good1 f), va1]
 simp only [Nat.reduceSub, Nat.reducePow]
 by_cases a : c < 245
 ·rw [if_neg (by omega), if_neg (by omega), if_neg (by omega), if_pos a]
 ·rw [if_neg (by omega), if_pos (by omega), if_neg a]
theorem c4_2 {c : Nat} {f : Nat → Nat} (h : 240 ≤ c ∧ c < 245) :
  (begC 4 (c - 240) 65536 1114111 2 f).2 = if (if c = 240 then 144 else 128) ≤ f 1 ∧ f 1 ≤ (if c = 244 then 143 else 191) then 4 else 0 := by
 unfold begC sHi sLo
 rw [va2]
 simp only [Nat.reduceSub, Nat.reducePow, good2]
 by_cases a : 128 ≤ f 1 ∧ f 1 ≤ 191
 ·rw [if_pos a]
  by_cases b : (if c = 240 then 144 else 128) ≤ f 1 ∧ f 1 ≤ (if c = 244 then 143 else 191)
  ·rw [if_pos b]
   split at b <;> split at b
   all_goals rw [if_neg (by omega), if_neg (by omega), if_neg (by omega)]
  ·rw [if_neg b]
   by_cases e1 : c = 240
   ·rw [if_pos (by rw [if_pos e1, if_neg (by omega)] at b; omega)]
   ·by_cases e2 : c = 244
    ·rw [if_neg (by omega), if_pos (by rw [if_neg e1, if_pos e2] at b; omega)]
    ·rw [if_neg e1, if_neg e2] at b
     exact absurd a b
 ·rw [if_neg a, if_neg]
  intro b
  apply a
  split at b <;> split at b <;> omega
theorem c4_3 {c : Nat} {f : Nat → Nat} (h : 240 ≤ c ∧ c < 245) (h1 : (if c = 240 then 144 else 128) ≤ f 1 ∧ f 1 ≤ (if c = 244 then 143 else 191)) :
  (begC 4 (c - 240) 65536 1114111 3 f).2 = if 128 ≤ f 2 ∧ f 2 ≤ 191 then 4 else 0 := by
 unfold begC sHi sLo
 rw [va3]
 simp only [Nat.reduceSub, Nat.reducePow, good3]
 by_cases a : 128 ≤ f 2 ∧ f 2 ≤ 191
 ·have h1' : (128 ≤ f 1 ∧ f 1 ≤ 191) ∧ (c = 240 → 144 ≤ f 1) ∧ (c = 244 → f 1 ≤ 143) := by
   split at h1 <;> split at h1 <;> refine ⟨by omega, fun e => by omega, fun e => by omega⟩
  obtain ⟨g1, g2, g3⟩ := h1'
  rw [if_pos ⟨g1, a⟩, if_pos a]
  rw [if_neg (by omega), if_neg (by omega), if_neg (by omega)]
 ·rw [if_neg (fun b => a b.2), if_neg a]
theorem c4_4 {c : Nat} {f : Nat → Nat} (h : 240 ≤ c ∧ c < 245) (h1 : (if c = 240 then 144 else 128) ≤ f 1 ∧ f 1 ≤ (if c = 244 then 143 else 191)) (h2 : 128 ≤ f 2 ∧ f 2 ≤ 191) :
  begC 4 (c - 240) 65536 1114111 4 f = if 128 ≤ f 3 ∧ f 3 ≤ 191 then (c % 8 * 262144 + f 1 % 64 * 4096 + f 2 % 64 * 64 + f 3 % 64, 4) else (0, 0) := by
 unfold begC sHi sLo
 rw [va4]
 simp only [Nat.reduceSub, Nat.reducePow, good4]
 by_cases a : 128 ≤ f 3 ∧ f 3 ≤ 191
 ·have h1' : (128 ≤ f 1 ∧ f 1 ≤ 191) ∧ (c = 240 → 144 ≤ f 1) ∧ (c = 244 → f 1 ≤ 143) := by
   split at h1 <;> split at h1 <;> refine ⟨by omega, fun e => by omega, fun e => by omega⟩
  obtain ⟨g1, g2, g3⟩ := h1'
  rw [if_pos ⟨g1, h2, a⟩, if_pos a]
  rw [if_neg (by omega), if_neg (by omega), if_neg (by omega)]
  exact pr (by omega)
 ·rw [if_neg (fun b => a b.2.2), if_neg a]
def Cont (f : Nat → Nat) (k : Nat) : Prop := ∀ j, 1 ≤ j → j < k → (begAll j f).2 ≠ 0 ∧ (begAll j f).2 ≠ j
def AtRes (n : Nat) (f : Nat → Nat) (R S : Nat) (W : Bool) : Prop :=
 (∃ k, 1 ≤ k ∧ k ≤ 4 ∧ k ≤ n ∧ Cont f k ∧ (begAll k f).2 = 0 ∧ R = 65533 ∧ S = max 1 (k - 1) ∧ W = false) ∨
 (∃ k, 1 ≤ k ∧ k ≤ 4 ∧ k ≤ n ∧ Cont f k ∧ (begAll k f).2 = k ∧ R = (begAll k f).1 ∧ k = S ∧ W = true) ∨
 (∃ k, 1 ≤ k ∧ k ≤ 5 ∧ k ≤ n + 1 ∧ (k = 5 ∨ k = n + 1) ∧ Cont f k ∧ R = 65533 ∧ S = max 1 (k - 1) ∧ W = false)
def cls (c : Nat) : Nat := if c < 224 then 2 else if c < 240 then 3 else 4
theorem cls2 (c : Nat) : 2 ≤ cls c := by unfold cls; split <;> (try split) <;> omega
theorem begAll_n (k : Nat) (f : Nat → Nat) (h1 : 192 ≤ f 0) (h2 : f 0 < 248) : (begAll k f).2 = 0 ∨ (begAll k f).2 = cls (f 0) := by
 unfold begAll cls
 rw [if_neg (by omega), if_neg (by omega)]
 by_cases a : f 0 < 224
 ·rw [if_pos a, if_pos a]; exact begC_n _ _ _ _ _ _
 ·rw [if_neg a, if_neg a]
  by_cases b : f 0 < 240
  ·rw [if_pos b, if_pos b]; exact begC_n _ _ _ _ _ _
  ·rw [if_neg b, if_neg b, if_pos h2]; exact begC_n _ _ _ _ _ _
theorem cont_le {f : Nat → Nat} {k : Nat} (h : Cont f k) (h1 : 192 ≤ f 0) (h2 : f 0 < 248) : k ≤ cls (f 0) := by
 rcases Nat.lt_or_ge (cls (f 0)) k with q | q
 ·have h3 := h _ (by have := cls2 (f 0); omega) q
  rcases begAll_n (cls (f 0)) f h1 h2 with e | e
  ·exact absurd e h3.1
  ·exact absurd e h3.2
 ·exact q
theorem bt_eq {n : Nat} (f : Nat → Nat) {j : Nat} (h : j < n) : bt n f j = f j := by unfold bt; rw [if_pos h]
theorem pcA {n : Nat} {f : Nat → Nat} (hn : 1 ≤ n) (h : f 0 < 128) : pc n f = (f 0, 1, true) := by
 unfold pc M1.pieceB
 rw [bt_eq f (by omega), if_pos (by unfold firstT; rw [if_pos h])]
theorem pcX {n : Nat} {f : Nat → Nat} (hn : 1 ≤ n) (h : (128 ≤ f 0 ∧ f 0 < 194) ∨ 245 ≤ f 0) : pc n f = (65533, 1, false) := by
 have e : firstT (f 0) = 241 := by
  unfold firstT
  repeat' split
  all_goals omega
 unfold pc M1.pieceB
 rw [bt_eq f (by omega), e, if_neg (by omega), if_pos rfl]
theorem pc2 {n : Nat} {f : Nat → Nat} (hn : 1 ≤ n) (h : 194 ≤ f 0 ∧ f 0 < 224) : pc n f = if 1 < n ∧ 128 ≤ f 1 ∧ f 1 ≤ 191 then (f 0 % 32 * 64 + f 1 % 64, 2, true) else (65533, 1, false) := by
 unfold pc M1.pieceB M1.pieceS
 rw [bt_eq f (by omega), firstT_C2 h, if_neg (by omega), if_neg (by omega)]
 simp only [accLo, accHi, Nat.reduceMod, Nat.reduceDiv, if_true]
 by_cases c : 1 < n
 ·rw [bt_eq f c]
 ·rw [if_neg (fun a => c a.1), if_neg (fun a => c a.1)]
theorem first3 {c : Nat} (h : 224 ≤ c ∧ c < 240) : firstT c ≠ 240 ∧ firstT c ≠ 241 ∧ firstT c % 8 = 3 ∧ accLo (firstT c / 16) = (if c = 224 then 160 else 128) ∧ accHi (firstT c / 16) = (if c = 237 then 159 else 191) := by
 by_cases e1 : c = 224
 ·rw [firstT_E0 e1, if_pos e1, if_neg (by omega)]; simp [accLo, accHi]
 ·by_cases e2 : c = 237
  ·rw [firstT_ED e2, if_neg e1, if_pos e2]; simp [accLo, accHi]
  ·rw [firstT_E1 (by omega), if_neg e1, if_neg e2]; simp [accLo, accHi]
theorem first4 {c : Nat} (h : 240 ≤ c ∧ c < 245) : firstT c ≠ 240 ∧ firstT c ≠ 241 ∧ firstT c % 8 = 4 ∧ accLo (firstT c / 16) = (if c = 240 then 144 else 128) ∧ accHi (firstT c / 16) = (if c = 244 then 143 else 191) := by
 by_cases e1 : c = 240
 ·rw [firstT_F0 e1, if_pos e1, if_neg (by omega)]; simp [accLo, accHi]
 ·by_cases e2 : c = 244
  ·rw [firstT_F4 e2, if_neg e1, if_pos e2]; simp [accLo, accHi]
  ·rw [firstT_F1 (by omega), if_neg e1, if_neg e2]; simp [accLo, accHi]
theorem pc3 {n : Nat} {f : Nat → Nat} (hn : 1 ≤ n) (h : 224 ≤ f 0 ∧ f 0 < 240) :
  pc n f = if 1 < n ∧ (if f 0 = 224 then 160 else 128) ≤ f 1 ∧ f 1 ≤ (if f 0 = 237 then 159 else 191) then
   (if 2 < n ∧ 128 ≤ f 2 ∧ f 2 ≤ 191 then (f 0 % 16 * 4096 + f 1 % 64 * 64 + f 2 % 64, 3, true) else (65533, 2, false)) else (65533, 1, false) := by
 obtain ⟨e1, e2, e3, e4, e5⟩ := first3 h
 unfold pc M1.pieceB M1.pieceS
 rw [bt_eq f (by omega), if_neg e1, if_neg e2, e3, e4, e5]
 by_cases c : 1 < n
 ·rw [bt_eq f c]
  by_cases d : 2 < n
  ·rw [bt_eq f d]; simp
  ·rw [if_neg (c := 2 < n ∧ 128 ≤ f 2 ∧ f 2 ≤ 191) (fun a => d a.1), if_neg (c := 2 < n ∧ 128 ≤ bt n f 2 ∧ bt n f 2 ≤ 191) (fun a => d a.1)]; simp
 ·rw [if_neg (fun a => c a.1), if_neg (fun a => c a.1)]
theorem pc4 {n : Nat} {f : Nat → Nat} (hn : 1 ≤ n) (h : 240 ≤ f 0 ∧ f 0 < 245) :
  pc n f = if 1 < n ∧ (if f 0 = 240 then 144 else 128) ≤ f 1 ∧ f 1 ≤ (if f 0 = 244 then 143 else 191) then
   (if 2 < n ∧ 128 ≤ f 2 ∧ f 2 ≤ 191 then
    (if 3 < n ∧ 128 ≤ f 3 ∧ f 3 ≤ 191 then (f 0 % 8 * 262144 + f 1 % 64 * 4096 + f 2 % 64 * 64 + f 3 % 64, 4, true) else (65533, 3, false)) else (65533, 2, false)) else (65533, 1, false) := by
 obtain ⟨e1, e2, e3, e4, e5⟩ := first4 h
 unfold pc M1.pieceB M1.pieceS
 rw [bt_eq f (by omega), if_neg e1, if_neg e2, e3, e4, e5]
 by_cases c : 1 < n
 ·rw [bt_eq f c]
  by_cases d : 2 < n
  ·rw [bt_eq f d]
   by_cases g : 3 < n
   ·rw [bt_eq f g]; simp
   ·rw [if_neg (c := 3 < n ∧ 128 ≤ f 3 ∧ f 3 ≤ 191) (fun a => g a.1), if_neg (c := 3 < n ∧ 128 ≤ bt n f 3 ∧ bt n f 3 ≤ 191) (fun a => g a.1)]; simp
  ·rw [if_neg (c := 2 < n ∧ 128 ≤ f 2 ∧ f 2 ≤ 191) (fun a => d a.1), if_neg (c := 2 < n ∧ 128 ≤ bt n f 2 ∧ bt n f 2 ≤ 191) (fun a => d a.1)]; simp
 ·rw [if_neg (fun a => c a.1), if_neg (fun a => c a.1)]
theorem atRes_pc {n : Nat} {f : Nat → Nat} {R S : Nat} {W : Bool} (hn : 1 ≤ n) (h8 : f 0 < 256) (h : AtRes n f R S W) : (R, S, W) = pc n f := by
 by_cases a1 : f 0 < 128
 ·have e : ∀ k, begAll k f = (f 0, 1) := fun k => by unfold begAll; rw [if_pos a1]
  rw [pcA hn a1]
  rcases h with ⟨k, k1, k4, kn, hc, h0, _⟩ | ⟨k, k1, k4, kn, hc, h0, rfl, rfl, rfl⟩ | ⟨k, k1, k4, kn, ho, hc, _⟩
  ·rw [e] at h0; simp at h0
  ·rw [e] at h0
   have : k = 1 := h0.symm
   subst this
   rw [e]
  ·have := (hc 1 (by omega) (by omega)).2
   rw [e] at this; simp at this
 ·by_cases a2 : f 0 < 192 ∨ 248 ≤ f 0
  ·have e : ∀ k, begAll k f = (0, 0) := fun k => by
    unfold begAll
    rw [if_neg a1]
    rcases a2 with a2 | a2
    ·rw [if_pos a2]
    ·rw [if_neg (by omega), if_neg (by omega), if_neg (by omega), if_neg (by omega)]
   rw [pcX hn (by omega)]
   rcases h with ⟨k, k1, k4, kn, hc, h0, rfl, rfl, rfl⟩ | ⟨k, k1, k4, kn, hc, h0, rfl, rfl, rfl⟩ | ⟨k, k1, k4, kn, ho, hc, rfl, rfl, rfl⟩
   ·rcases Nat.lt_or_ge 1 k with q | q
    ·have := (hc 1 (by omega) q).1
     rw [e] at this; simp at this
    ·obtain rfl : k = 1 := by omega
     rfl
   ·rw [e] at h0; simp at h0; omega
   ·have := (hc 1 (by omega) (by omega)).1
    rw [e] at this; simp at this
  ·by_cases b2 : f 0 < 224
   ·have e : ∀ k, begAll k f = begC 2 (f 0 - 192) 128 2047 k f := fun k => by unfold begAll; rw [if_neg a1, if_neg (by omega), if_pos b2]
    have s1 := c2_1 (f := f) (c := f 0) (by omega)
    by_cases b3 : f 0 < 194
    ·rw [if_pos b3] at s1
     rw [pcX hn (by omega)]
     rcases h with ⟨k, k1, k4, kn, hc, h0, rfl, rfl, rfl⟩ | ⟨k, k1, k4, kn, hc, h0, rfl, rfl, rfl⟩ | ⟨k, k1, k4, kn, ho, hc, rfl, rfl, rfl⟩
     ·rcases Nat.lt_or_ge 1 k with q | q
      ·have := (hc 1 (by omega) q).1
       rw [e, s1] at this; simp at this
      ·obtain rfl : k = 1 := by omega
       rfl
     ·rcases Nat.lt_or_ge 1 k with q | q
      ·have := (hc 1 (by omega) q).1
       rw [e, s1] at this; simp at this
      ·obtain rfl : k = 1 := by omega
       rw [e, s1] at h0; simp at h0
     ·have := (hc 1 (by omega) (by omega)).1
      rw [e, s1] at this; simp at this
    ·rw [if_neg b3] at s1
     have s2 := c2_2 (f := f) (c := f 0) (by omega)
     rw [pc2 hn (by omega)]
     have hk : ∀ k, Cont f k → k ≤ 2 := fun k hc => by
      have := cont_le hc (by omega) (by omega)
      unfold cls at this
      rw [if_pos b2] at this
      exact this
     rcases h with ⟨k, k1, k4, kn, hc, h0, rfl, rfl, rfl⟩ | ⟨k, k1, k4, kn, hc, h0, rfl, rfl, rfl⟩ | ⟨k, k1, k4, kn, ho, hc, rfl, rfl, rfl⟩
     ·obtain rfl | rfl : k = 1 ∨ k = 2 := by have := hk k hc; omega
      ·rw [e, s1] at h0; simp at h0
      ·rw [e, s2] at h0
       rw [if_neg]
       ·rfl
       ·intro q
        rw [if_pos q.2] at h0
        simp at h0
     ·obtain rfl | rfl : k = 1 ∨ k = 2 := by have := hk k hc; omega
      ·rw [e, s1] at h0; simp at h0
      ·rw [e, s2] at h0 ⊢
       by_cases q : 128 ≤ f 1 ∧ f 1 ≤ 191
       ·rw [if_pos q, if_pos ⟨by omega, q⟩]
       ·rw [if_neg q] at h0; simp at h0
     ·have h2 := hk k hc
      obtain rfl : k = 2 := by omega
      rw [if_neg (by omega)]
      rfl
   ·by_cases b3 : f 0 < 240
    ·have e : ∀ k, begAll k f = begC 3 (f 0 - 224) 2048 65535 k f := fun k => by unfold begAll; rw [if_neg a1, if_neg (by omega), if_neg b2, if_pos b3]
     have s1 := c3_1 (f := f) (c := f 0) (by omega)
     have s2 := c3_2 (f := f) (c := f 0) (by omega)
     have s3 := fun q => c3_3 (f := f) (c := f 0) (by omega) q
     rw [pc3 hn (by omega)]
     have hk : ∀ k, Cont f k → k ≤ 3 := fun k hc => by
      have := cont_le hc (by omega) (by omega)
      unfold cls at this
      rw [if_neg b2, if_pos b3] at this
      exact this
     have r2 : ∀ k, Cont f k → 3 ≤ k → (if f 0 = 224 then 160 else 128) ≤ f 1 ∧ f 1 ≤ (if f 0 = 237 then 159 else 191) := fun k hc h3 => by
      have := (hc 2 (by omega) (by omega)).1
      rw [e, s2] at this
      by_cases q : (if f 0 = 224 then 160 else 128) ≤ f 1 ∧ f 1 ≤ (if f 0 = 237 then 159 else 191)
      ·exact q
      ·rw [if_neg q] at this; simp at this
     rcases h with ⟨k, k1, k4, kn, hc, h0, rfl, rfl, rfl⟩ | ⟨k, k1, k4, kn, hc, h0, rfl, rfl, rfl⟩ | ⟨k, k1, k4, kn, ho, hc, rfl, rfl, rfl⟩
     ·obtain rfl | rfl | rfl : k = 1 ∨ k = 2 ∨ k = 3 := by have := hk k hc; omega
      ·rw [e, s1] at h0; simp at h0
      ·rw [e, s2] at h0
       rw [if_neg]
       ·rfl
       ·intro q
        rw [if_pos q.2] at h0
        simp at h0
      ·have q2 := r2 3 hc (by omega)
       rw [e, s3 q2] at h0
       rw [if_pos ⟨by omega, q2⟩, if_neg]
       ·rfl
       ·intro q
        rw [if_pos q.2] at h0
        simp at h0
     ·obtain rfl | rfl | rfl : k = 1 ∨ k = 2 ∨ k = 3 := by have := hk k hc; omega
      ·rw [e, s1] at h0; simp at h0
      ·rw [e, s2] at h0
       exact (ite_no h0 (by omega) (by omega)).elim
      ·have q2 := r2 3 hc (by omega)
       rw [e, s3 q2] at h0 ⊢
       by_cases q : 128 ≤ f 2 ∧ f 2 ≤ 191
       ·rw [if_pos q, if_pos ⟨by omega, q2⟩, if_pos ⟨by omega, q⟩]
       ·rw [if_neg q] at h0; simp at h0
     ·have h2 := hk k hc
      obtain rfl | rfl : k = 2 ∨ k = 3 := by omega
      ·rw [if_neg (by omega)]; rfl
      ·have q2 := r2 3 hc (by omega)
       rw [if_pos ⟨by omega, q2⟩, if_neg (by omega)]; rfl
    ·have e : ∀ k, begAll k f = begC 4 (f 0 - 240) 65536 1114111 k f := fun k => by unfold begAll; rw [if_neg a1, if_neg (by omega), if_neg b2, if_neg b3, if_pos (by omega)]
     have s1 := c4_1 (f := f) (c := f 0) (by omega)
     by_cases b5 : f 0 < 245
     ·rw [if_pos b5] at s1
      have s2 := c4_2 (f := f) (c := f 0) (by omega)
      have s3 := fun q => c4_3 (f := f) (c := f 0) (by omega) q
      have s4 := fun q q' => c4_4 (f := f) (c := f 0) (by omega) q q'
      rw [pc4 hn (by omega)]
      have hk : ∀ k, Cont f k → k ≤ 4 := fun k hc => by
       have := cont_le hc (by omega) (by omega)
       unfold cls at this
       rw [if_neg b2, if_neg b3] at this
       exact this
      have r2 : ∀ k, Cont f k → 3 ≤ k → (if f 0 = 240 then 144 else 128) ≤ f 1 ∧ f 1 ≤ (if f 0 = 244 then 143 else 191) := fun k hc h3 => by
       have := (hc 2 (by omega) (by omega)).1
       rw [e, s2] at this
       by_cases q : (if f 0 = 240 then 144 else 128) ≤ f 1 ∧ f 1 ≤ (if f 0 = 244 then 143 else 191)
       ·exact q
       ·rw [if_neg q] at this; simp at this
      have r3 : ∀ k, Cont f k → 4 ≤ k → 128 ≤ f 2 ∧ f 2 ≤ 191 := fun k hc h4 => by
       have h5 := (hc 3 (by omega) (by omega)).1
       rw [e, s3 (r2 k hc (by omega))] at h5
       by_cases q : 128 ≤ f 2 ∧ f 2 ≤ 191
       ·exact q
       ·rw [if_neg q] at h5; simp at h5
      rcases h with ⟨k, k1, k4, kn, hc, h0, rfl, rfl, rfl⟩ | ⟨k, k1, k4, kn, hc, h0, rfl, rfl, rfl⟩ | ⟨k, k1, k4, kn, ho, hc, rfl, rfl, rfl⟩
      ·obtain rfl | rfl | rfl | rfl : k = 1 ∨ k = 2 ∨ k = 3 ∨ k = 4 := by have := hk k hc; omega
       ·rw [e, s1] at h0; simp at h0
       ·rw [e, s2] at h0
        rw [if_neg]
        ·rfl
        ·intro q
         rw [if_pos q.2] at h0
         simp at h0
       ·have q2 := r2 3 hc (by omega)
        rw [e, s3 q2] at h0
        rw [if_pos ⟨by omega, q2⟩, if_neg]
        ·rfl
        ·intro q
         rw [if_pos q.2] at h0
         simp at h0
       ·have q2 := r2 4 hc (by omega)
        have q3 := r3 4 hc (by omega)
        rw [e, s4 q2 q3] at h0
        rw [if_pos ⟨by omega, q2⟩, if_pos ⟨by omega, q3⟩, if_neg]
        ·rfl
        ·intro q
         rw [if_pos q.2] at h0
         simp at h0
      ·obtain rfl | rfl | rfl | rfl : k = 1 ∨ k = 2 ∨ k = 3 ∨ k = 4 := by have := hk k hc; omega
       ·rw [e, s1] at h0; simp at h0
       ·rw [e, s2] at h0
        exact (ite_no h0 (by omega) (by omega)).elim
       ·rw [e, s3 (r2 3 hc (by omega))] at h0
        exact (ite_no h0 (by omega) (by omega)).elim
       ·have q2 := r2 4 hc (by omega)
        have q3 := r3 4 hc (by omega)
        rw [e, s4 q2 q3] at h0 ⊢
        by_cases q : 128 ≤ f 3 ∧ f 3 ≤ 191
        ·rw [if_pos q, if_pos ⟨by omega, q2⟩, if_pos ⟨by omega, q3⟩, if_pos ⟨by omega, q⟩]
        ·rw [if_neg q] at h0; simp at h0
      ·have h2 := hk k hc
       obtain rfl | rfl | rfl : k = 2 ∨ k = 3 ∨ k = 4 := by omega
       ·rw [if_neg (by omega)]; rfl
       ·have q2 := r2 3 hc (by omega)
        rw [if_pos ⟨by omega, q2⟩, if_neg (by omega)]; rfl
       ·have q2 := r2 4 hc (by omega)
        have q3 := r3 4 hc (by omega)
        rw [if_pos ⟨by omega, q2⟩, if_pos ⟨by omega, q3⟩, if_neg (by omega)]; rfl
     ·rw [if_neg b5] at s1
      rw [pcX hn (by omega)]
      rcases h with ⟨k, k1, k4, kn, hc, h0, rfl, rfl, rfl⟩ | ⟨k, k1, k4, kn, hc, h0, rfl, rfl, rfl⟩ | ⟨k, k1, k4, kn, ho, hc, rfl, rfl, rfl⟩
      ·rcases Nat.lt_or_ge 1 k with q | q
       ·have := (hc 1 (by omega) q).1
        rw [e, s1] at this; simp at this
       ·obtain rfl : k = 1 := by omega
        rfl
      ·rcases Nat.lt_or_ge 1 k with q | q
       ·have := (hc 1 (by omega) q).1
        rw [e, s1] at this; simp at this
       ·obtain rfl : k = 1 := by omega
        rw [e, s1] at h0; simp at h0
      ·have := (hc 1 (by omega) (by omega)).1
       rw [e, s1] at this; simp at this
theorem beg_any (b off k n cap : Nat) (f : Nat → Nat) (w : World) (hB : Bs w b off n f) (hk : 1 ≤ k) (hkn : k ≤ n) (hc : Cont f k) :
  Calls Tryz.prog 109 #[.slice (some ⟨b, off, none⟩) k cap] w fun e w' => e = .returned (.tuple #[.int .i32 (begAll k f).1, .int .i64 (begAll k f).2]) ∧ w = w' := by
 have hB' := hB.take hkn
 have h8 := (hB 0 (by omega)).2
 by_cases a1 : f 0 < 128
 ·have e : begAll k f = (f 0, 1) := by unfold begAll; rw [if_pos a1]
  rw [e]
  exact beg_1 b off k cap f w hB' hk a1
 ·by_cases a2 : f 0 < 192 ∨ 248 ≤ f 0
  ·have e : begAll k f = (0, 0) := by
    unfold begAll
    rw [if_neg a1]
    rcases a2 with a2 | a2
    ·rw [if_pos a2]
    ·rw [if_neg (by omega), if_neg (by omega), if_neg (by omega), if_neg (by omega)]
   rw [e]
   exact beg_0 b off k cap f w hB' hk (by omega)
  ·have hl := cont_le hc (by omega) (by omega)
   unfold cls at hl
   by_cases b2 : f 0 < 224
   ·have e : begAll k f = begC 2 (f 0 - 192) 128 2047 k f := by unfold begAll; rw [if_neg a1, if_neg (by omega), if_pos b2]
    rw [if_pos b2] at hl
    rw [e]
    exact beg_2 b off k cap f w hB' hk hl (by omega)
   ·by_cases b3 : f 0 < 240
    ·have e : begAll k f = begC 3 (f 0 - 224) 2048 65535 k f := by unfold begAll; rw [if_neg a1, if_neg (by omega), if_neg b2, if_pos b3]
     rw [if_neg b2, if_pos b3] at hl
     rw [e]
     exact beg_3 b off k cap f w hB' hk hl (by omega)
    ·have e : begAll k f = begC 4 (f 0 - 240) 65536 1114111 k f := by unfold begAll; rw [if_neg a1, if_neg (by omega), if_neg b2, if_neg b3, if_pos (by omega)]
     rw [if_neg b2, if_neg b3] at hl
     rw [e]
     exact beg_4 b off k cap f w hB' hk hl (by omega)
def AtPost (n : Nat) (g : Nat → Nat) (w : World) (e : Ending) (w' : World) : Prop :=
 ∃ (R S : Nat) (W : Bool), e = .returned (.agg #[.int .i32 R, .int .i64 S, .bool W]) ∧ AtRes n g R S W ∧ Below w.heap.size w w'
theorem at_res (b off n cap i : Nat) (f : Nat → Nat) (w : World) (hB : Bs w b off n f) (hi : i < n) (hc : n ≤ cap) (hm : cap ≤ maxLen) :
  Calls Tryz.prog 87 #[.slice (some ⟨b, off, none⟩) n cap, .int .i64 i] w (AtPost (n - i) (fun j => f (i + j)) w) := by
 unfold maxLen at hm
 have hlt := hB.lt (by omega)
 have hi0 : (0 : Int) ≤ (i : Int) := by omega
 have hi1 : (i : Int) < (n : Int) := by omega
 have hc1 : (n : Int) ≤ (cap : Int) := by omega
 have hB' := (hB.drop i).alloc (by omega) (.cells #[.int .i32 0, .int .i64 0, .bool false] 103)
 have hD := fun k h1 h2 h3 => beg_any b (off + i) k (n - i) (cap - i) _ _ hB' h1 h2 h3
 generalize hg : (fun j => f (i + j)) = g at *
 have HD := Lib.hid hD
 clear hD hB' hg hB
 go_enter Tryz.func87, Tryz.ntmps87
 go_wp2
 go_loop [5, 6] (fun s k => ∃ q : Nat, 1 ≤ q ∧ q ≤ 5 ∧ q ≤ n - i + 1 ∧ Cont g q ∧ k = .int .i64 q ∧ s = .int .i64 ((max 1 (q - 1) : Nat) : Int)) (fun _ k => 5 - (RowKit.intOf k).toNat)
 case atStart => exact ⟨1, by omega, by omega, by omega, fun j a b => by omega, rfl, rfl⟩
 case round =>
  obtain ⟨q, q1, q5, qn, hct, rfl, rfl⟩ := hrel
  obtain ⟨S, hS⟩ : ∃ S, max 1 (q - 1) = S := ⟨_, rfl⟩
  rw [hS]
  have HS := Lib.hid hS
  clear hS
  have HC := Lib.hid hct
  clear hct
  by_cases hq : q ≤ 4 ∧ q ≤ n - i
  ·have C := HD.out q q1 hq.2 HC.out
   have b1 : (1 : Int) ≤ (q : Int) := by omega
   have b2 : (q : Int) ≤ 4 := by omega
   have b3 : (i : Int) + (q : Int) ≤ (n : Int) := by omega
   have d2 : decide ((q : Int) ≤ (n : Int) - (i : Int)) = true := by simp; omega
   obtain ⟨E, hE⟩ : ∃ E, begAll q g = E := ⟨_, rfl⟩
   rw [hE] at C
   have HE := Lib.hid hE
   clear hE
   obtain ⟨E1, E2⟩ := E
   have C := Lib.hid C
   by_cases z : E2 = 0
   ·have t1 : ((E2 : Int) == 0) = true := by rw [beq_iff_eq]; omega
    have Z := Lib.hid z
    clear z
    go_wp2_with fail
    refine C.out.mono ?_
    rintro e w1 ⟨rfl, rfl⟩
    go_wp2
    refine bodyPost_ret (v := .agg #[.int .i32 65533, .int .i64 S, .bool false]) ?_ rfl ⟨65533, S, false, rfl, .inl ⟨q, q1, hq.1, hq.2, HC.out, by rw [HE.out]; exact Z.out, rfl, HS.out.symm, rfl⟩, ?_⟩
    ·simp [results, Tryz.results87, go_sem]
    ·exact (Below.refl _ _).alloc (Nat.le_refl _) _
   ·have t1 : ((E2 : Int) == 0) = false := by rw [beq_eq_false_iff_ne]; omega
    by_cases y : E2 = q
    ·have t2 : ((E2 : Int) == (q : Int)) = true := by rw [beq_iff_eq]; omega
     have t3 : (E2 == q) = true := by rw [beq_iff_eq]; omega
     have Y := Lib.hid y
     clear z y
     go_wp2_with fail
     refine C.out.mono ?_
     rintro e w1 ⟨rfl, rfl⟩
     go_wp2
     refine bodyPost_ret (v := .agg #[.int .i32 E1, .int .i64 E2, .bool true]) ?_ rfl ⟨E1, E2, true, rfl, .inr (.inl ⟨q, q1, hq.1, hq.2, HC.out, by rw [HE.out]; exact Y.out, by rw [HE.out], Y.out.symm, rfl⟩), ?_⟩
     ·simp [results, Tryz.results87, go_sem]
     ·exact (Below.refl _ _).alloc (Nat.le_refl _) _
    ·have t2 : ((E2 : Int) == (q : Int)) = false := by rw [beq_eq_false_iff_ne]; omega
     have t3 : (E2 == q) = false := by rw [beq_eq_false_iff_ne]; omega
     have Y := Lib.hid (And.intro z y)
     clear z y
     go_wp2_with fail
     refine C.out.mono ?_
     rintro e w1 ⟨rfl, rfl⟩
     go_wp2
     go_round
     case rel => exact ⟨q + 1, by omega, by omega, by omega, fun j a c => by
      rcases Nat.lt_or_ge j q with h | h
      ·exact HC.out j a h
      ·obtain rfl : j = q := by omega
       rw [HE.out]
       exact Y.out, by go_num, by
      rw [show max 1 (q + 1 - 1) = q from by omega]⟩
     case measure => simp [RowKit.intOf]; omega
  ·by_cases h4 : q ≤ 4
   ·have b2 : (q : Int) ≤ 4 := by omega
    have b3 : (n : Int) - (i : Int) < (q : Int) := by omega
    have d2 : decide ((q : Int) ≤ (n : Int) - (i : Int)) = false := by simp; omega
    go_wp2
    refine bodyPost_ret (v := .agg #[.int .i32 65533, .int .i64 S, .bool false]) ?_ rfl ⟨65533, S, false, rfl, .inr (.inr ⟨q, q1, q5, qn, by omega, HC.out, rfl, HS.out.symm, rfl⟩), ?_⟩
    ·simp [results, Tryz.results87, go_sem]
    ·exact (Below.refl _ _).alloc (Nat.le_refl _) _
   ·have b2 : (4 : Int) < (q : Int) := by omega
    have d1 : decide ((q : Int) ≤ 4) = false := by simp; omega
    go_wp2
    refine bodyPost_ret (v := .agg #[.int .i32 65533, .int .i64 S, .bool false]) ?_ rfl ⟨65533, S, false, rfl, .inr (.inr ⟨q, q1, q5, qn, by omega, HC.out, rfl, HS.out.symm, rfl⟩), ?_⟩
    ·simp [results, Tryz.results87, go_sem]
    ·exact (Below.refl _ _).alloc (Nat.le_refl _) _
theorem at_any (b off n cap i : Nat) (f : Nat → Nat) (w : World) (hB : Bs w b off n f) (hi : i < n) (hc : n ≤ cap) (hm : cap ≤ maxLen) :
  Calls Tryz.prog 87 #[.slice (some ⟨b, off, none⟩) n cap, .int .i64 i] w fun e w' =>
   e = .returned (.agg #[.int .i32 (pc (n - i) (fun j => f (i + j))).1, .int .i64 (pc (n - i) (fun j => f (i + j))).2.1, .bool (pc (n - i) (fun j => f (i + j))).2.2]) ∧ Below w.heap.size w w' := by
 refine (at_res b off n cap i f w hB hi hc hm).mono ?_
 rintro e w' ⟨R, S, W, rfl, h, hb⟩
 rw [← atRes_pc (by omega) (by have := (hB i hi).2; simpa using this) h]
 exact ⟨rfl, hb⟩
end Go.Proofs.YtfafhbgkmlmmdaaGreatDoor.S
namespace Go.Proofs.YtfafhbgkmlmmdaaGreatDoor.K
open Go.RowKit Go.Shelf Go.Lib Go.Maps
structure PC where
 r : Int
 s : Int
 b : Bool
def pcA (p : PC) : Array Value := #[.int .i32 p.r, .int .i64 p.s, .bool p.b]
def pcX (q : Nat × Nat × Bool) : PC := ⟨(q.1 : Int), (q.2.1 : Int), q.2.2⟩
def pcs (n : Nat) (f : Nat → Nat) : Nat → Nat → List PC
 | 0, _ => []
 | d + 1, k => if k < n then pcX (nxS n f k) :: pcs n f d (k + (nxS n f k).2.1) else []
theorem pcs_fuel (n : Nat) (f : Nat → Nat) : ∀ (d e k : Nat), n - k ≤ d → n - k ≤ e → pcs n f d k = pcs n f e k
 | 0, 0, k, _, _ => rfl
 | 0, e + 1, k, h, _ => by
  unfold pcs
  rw [if_neg (by omega)]
 | d + 1, 0, k, _, h => by
  unfold pcs
  rw [if_neg (by omega)]
 | d + 1, e + 1, k, hd, he => by
  unfold pcs
  by_cases h : k < n
  ·have := nxS_size n f k h
   rw [if_pos h, if_pos h, pcs_fuel n f d e (k + (nxS n f k).2.1) (by omega) (by omega)]
  ·rw [if_neg h, if_neg h]
theorem pcs_next (n : Nat) (f : Nat → Nat) (k : Nat) (h : k < n) : pcs n f (n - k) k = pcX (nxS n f k) :: pcs n f (n - (k + (nxS n f k).2.1)) (k + (nxS n f k).2.1) := by
 have hs := nxS_size n f k h
 obtain ⟨d, hd⟩ : ∃ d, n - k = d + 1 := ⟨n - k - 1, by omega⟩
 rw [hd]
 conv => lhs; unfold pcs
 rw [if_pos h, pcs_fuel n f d (n - (k + (nxS n f k).2.1)) _ (by omega) (Nat.le_refl _)]
theorem pcs_end (n : Nat) (f : Nat → Nat) (k : Nat) (h : ¬ k < n) : ∀ d, pcs n f d k = []
 | 0 => rfl
 | d + 1 => by
  unfold pcs
  rw [if_neg h]
theorem pcs_len (n : Nat) (f : Nat → Nat) : ∀ (d k : Nat), (pcs n f d k).length ≤ n - k
 | 0, k => Nat.zero_le _
 | d + 1, k => by
  unfold pcs
  by_cases h : k < n
  ·have := nxS_size n f k h
   have := pcs_len n f d (k + (nxS n f k).2.1)
   rw [if_pos h, List.length_cons]
   omega
  ·rw [if_neg h]
   exact Nat.zero_le _
def itemsQ (nb pb : Bool) : Int → Bool → Bool → List PC → List IT
 | _, _, _, [] => []
 | a, f, x, p :: r => ⟨p.r, a, p.s, f, x, nb, pb⟩ :: itemsQ nb pb (a + p.s) false false r
theorem text_pcs (n : Nat) (f : Nat → Nat) (fr : Nat) (nb pb : Bool) : ∀ (d k : Nat) (fo x : Bool), textF n f fr nb pb d k fo x = itemsQ nb pb ((fr : Int) + (k : Int)) fo x (pcs n f d k)
 | 0, k, fo, x => rfl
 | d + 1, k, fo, x => by
  unfold textF pcs
  by_cases h : k < n
  ·rw [if_pos h, if_pos h, text_pcs n f fr nb pb d (k + (nxS n f k).2.1) false false]
   show _ = (⟨((nxS n f k).1 : Int), (fr : Int) + (k : Int), ((nxS n f k).2.1 : Int), fo, x, nb, pb⟩ : IT) :: itemsQ nb pb ((fr : Int) + (k : Int) + ((nxS n f k).2.1 : Int)) false false _
   rw [Int.natCast_add, Int.add_assoc]
  ·rw [if_neg h, if_neg h]
   rfl
def rowP : List PC → List Value
 | [] => []
 | x :: r => (pcA x).toList ++ rowP r
theorem rowP_app : ∀ l m : List PC, rowP (l ++ m) = rowP l ++ rowP m
 | [], m => by simp [rowP]
 | t :: r, m => by
  show (pcA t).toList ++ rowP (r ++ m) = ((pcA t).toList ++ rowP r) ++ _
  rw [rowP_app r m]
  simp
theorem rowP_snoc (x : PC) (l : List PC) : rowP (l ++ [x]) = rowP l ++ (pcA x).toList := by
 rw [rowP_app]
 simp [rowP]
theorem rowP_at : ∀ (l : List PC) (i : Nat) (x : PC), l[i]? = some x → ∀ j, j < 3 → (rowP l)[i * 3 + j]? = (pcA x)[j]?
 | [], i, a, h, _, _ => by simp at h
 | x :: l, 0, a, h, j, hj => by
  simp at h
  subst h
  rw [show rowP (x :: l) = (pcA x).toList ++ rowP l from rfl, Nat.zero_mul, Nat.zero_add, List.getElem?_append_left (by simpa [pcA] using hj)]
  simp
 | x :: l, i + 1, a, h, j, hj => by
  have ih := rowP_at l i a (by simpa using h) j hj
  rw [show rowP (x :: l) = (pcA x).toList ++ rowP l from rfl, List.getElem?_append_right (by simp [pcA]; omega)]
  rw [← ih]
  congr 1
  simp [pcA]
  omega
def OwnP (w : World) (base : Nat) (l : List PC) (v : Value) : Prop := w.ownsRow base 103 3 v l.length (rowP l)
theorem OwnP.below {w w' : World} {base : Nat} {l : List PC} {v : Value} (h : OwnP w base l v) (hb : Below w.heap.size w w') : OwnP w' base l v := ownsRow_below h hb
theorem ownP_nil (w : World) (base : Nat) : OwnP w base [] (.slice none 0 0) := ⟨rfl, .inl ⟨rfl, rfl⟩⟩
theorem ownP_lit (w : World) (t : PC) : OwnP (w.alloc (.cells (pcA t) 103)) w.heap.size [t] (.slice (some ⟨w.heap.size, 0, none⟩) 1 1) := by
 have h := World.ownsRow_lit (base := w.heap.size) (e := 103) (size := 3) w (pcA t) 1 (Nat.le_refl _) (by unfold maxLen; omega) rfl
 have e : rowP [t] = (pcA t).toList := by simp [rowP]
 unfold OwnP
 rw [e]
 exact h
structure PsA (w : World) (B : Nat) (l : List PC) (A : Option Addr) (c : Nat) : Prop where
 le : l.length ≤ c
 mx : c ≤ maxLen
 r : ∀ (i : Nat) (x : PC), l[i]? = some x → ∃ b o, A = some ⟨b, o, none⟩ ∧ b < B ∧ w.cell? ⟨b, o + i * 3, none⟩ = some (.int .i32 x.r) ∧ w.cell? ⟨b, o + i * 3 + 1, none⟩ = some (.int .i64 x.s) ∧ w.cell? ⟨b, o + i * 3 + 2, none⟩ = some (.bool x.b)
theorem PsA.below {w w' : World} {B : Nat} {l : List PC} {A : Option Addr} {c : Nat} (h : PsA w B l A c) (hb : Below B w w') : PsA w' B l A c :=
 ⟨h.le, h.mx, fun i a ha => by
  obtain ⟨b, o, e, h1, h2, h3, h4⟩ := h.r i a ha
  exact ⟨b, o, e, h1, (hb.cell (p := ⟨b, _, none⟩) h1).trans h2, (hb.cell (p := ⟨b, _, none⟩) h1).trans h3, (hb.cell (p := ⟨b, _, none⟩) h1).trans h4⟩⟩
theorem PsA.nil (w : World) (B : Nat) : PsA w B [] none 0 := ⟨Nat.le_refl _, Nat.zero_le _, fun i a ha => by simp at ha⟩
theorem PsA.of_own {w : World} {base : Nat} {l : List PC} {v : Value} (h : OwnP w base l v) : ∃ A c, v = .slice A l.length c ∧ PsA w w.heap.size l A c := by
 rcases h.2 with ⟨h1, h2⟩ | ⟨g, cap, cur, h1, h2, h3, h4, h5, h6, h7⟩
 ·have hn : l = [] := List.eq_nil_of_length_eq_zero h2
  subst hn
  exact ⟨none, 0, by rw [h1]; rfl, PsA.nil _ _⟩
 ·refine ⟨_, cap, h1, ⟨h4, h5, fun i a ha => ⟨g, 0, rfl, (Array.getElem?_eq_some_iff.1 h3).1, ?_⟩⟩⟩
  have c := fun j hj u (hu : (pcA a)[j]? = some u) => World.ownsRow.cells h (g := g) (by rw [h1]; rfl) (i * 3 + j) u ((rowP_at l i a ha j hj).trans hu)
  have d0 := c 0 (by omega) _ rfl
  have d1 := c 1 (by omega) _ rfl
  have d2 := c 2 (by omega) _ rfl
  rw [add0] at d0 d1 d2
  simp only [Nat.zero_add]
  exact ⟨d0, d1, d2⟩
theorem info59 : (Tryz.prog.info? 103).map (fun i => (i.zero.map (fun z => z.cells.size), i.size, i.bytes)) = some (some 3, 3, 24) := by kernel_rfl
theorem info59_parts : ∃ i z, Tryz.prog.info? 103 = some i ∧ i.zero = some z ∧ i.size = 3 ∧ i.bytes = 24 ∧ z.cells.size = 3 := by
 have h := info59
 cases e : Tryz.prog.info? 103 with
 | none => rw [e] at h; simp at h
 | some i =>
  rw [e] at h
  cases e2 : i.zero with
  | none => simp [e2] at h
  | some z =>
   simp [e2] at h
   exact ⟨i, z, rfl, e2, h.2.1, h.2.2, h.1⟩
theorem wpList_appP {ops : Array Oper} {rest : List Oper} {o : Oper} {a : Act} {w : World} {Q : Exit → Act → World → Prop} (hgd : o.guard = none) (s x : Operand)
  (ho : o.op = .call { callee := .builtin .append, args := #[s, x], argTypes := #[100, 100] }) (base : Nat) (v : Value) (l : List PC) (t : PC) (hs : a.eval s = v) (w0 : World) (h0 : OwnP w0 base l v) (hw0 : w0.alloc (.cells (pcA t) 103) = w)
  (hx : a.eval x = .slice (some ⟨w0.heap.size, 0, none⟩) 1 1) (h63 : l.length ≤ 1000000) (hbase : base ≤ w0.heap.size)
  (h : ∀ g cap w', OwnP w' base (l ++ [t]) (.slice (some ⟨g, 0, none⟩) (l.length + 1) cap) → Below base w0 w' → (∀ k, k < w0.heap.size → v.ownBlock ≠ some k → w'.heap[k]? = w0.heap[k]?) → wpList Tryz.prog ops Q rest (a.put o.dst (.slice (some ⟨g, 0, none⟩) (l.length + 1) cap)) w') :
  wpList Tryz.prog ops Q (o :: rest) a w := by
 obtain ⟨i, z, hi, hz, hs1, hb1, hz1⟩ := info59_parts
 subst hw0
 have al := below_new w0 (.cells (pcA t) 103)
 have hown := h0.below al
 have hsz : base ≤ (w0.alloc (.cells (pcA t) 103)).heap.size := by rw [World.size_alloc]; omega
 refine wpList_append_lies _ hgd s x 100 ho base 103 i _ 3 24 Tryz.underlying100 hi hz hs1 hb1 hz1 (by decide) v l.length (rowP l) hs hown ⟨w0.heap.size, 0, none⟩ 1 1 (pcA t).toList hx rfl (World.news_of_block (by simpa using heap_alloc_new w0 (.cells (pcA t) 103))) (fun u hu => ?_) (by decide) (by unfold maxLen; omega) (by omega) hsz _ rfl ?_
 ·simp [pcA] at hu
  rcases hu with rfl | rfl | rfl <;> rfl
 ·intro g cap w' h1 h2 _ _
  refine h g cap w' ?_ ?_ (fun k hk hn => (h2.block k (by rw [World.size_alloc]; omega) (fun e => hn e.symm)).trans (al.block k hk))
  ·unfold OwnP
   rw [rowP_snoc, List.length_append]
   exact h1
  ·refine (al.mono hbase).trans ⟨h2.os, h2.tape, h2.output, h2.size, fun k hk => h2.block k (by omega) (fun e => by have := (own_block_lt hown k e.symm).1; omega)⟩
theorem rall_any (b off n cap : Nat) (f : Nat → Nat) (hn0 : n ≤ 100000) (hc : n ≤ cap) (hm : cap ≤ maxLen) (w : World) (hB : S.Bs w b off n f) (hbw : b < w.heap.size) :
  Calls Tryz.prog 54 #[.slice (some ⟨b, off, none⟩) n cap] w fun e w' => ∃ v, e = .returned v ∧ OwnP w' w.heap.size (pcs n f n 0) v ∧ Below w.heap.size w w' := by
 have CX : ∀ (k : Nat) (W : World), k < n → Below w.heap.size w W → Calls Tryz.prog 87 #[.slice (some ⟨b, off, none⟩) n cap, .int .i64 k] W fun e w' =>
   e = .returned (.agg #[.int .i32 ((nxS n f k).1 : Int), .int .i64 ((nxS n f k).2.1 : Int), .bool (nxS n f k).2.2]) ∧ Below W.heap.size W w' := fun k W hk h2 => S.at_any b off n cap k f W (hB.below h2 hbw) hk hc hm
 obtain ⟨ALL, hALL⟩ : ∃ L, pcs n f n 0 = L := ⟨_, rfl⟩
 rw [hALL]
 have HC := Lib.hid CX
 have HL := Lib.hid hALL
 clear CX hALL hB hbw
 go_enter Tryz.func54, Tryz.ntmps54
 go_wp2_with fail
 go_loopw [3, 4, 5] (fun o i _ wr => ∃ (k : Nat) (pre : List PC), k ≤ n ∧ i = .int .i64 (k : Int) ∧ pre.length ≤ k ∧ OwnP wr w.heap.size pre o ∧ pre ++ pcs n f (n - k) k = ALL ∧ Below w.heap.size w wr) (fun _ i _ _ => n - (RowKit.intOf i).toNat)
 case atStart => exact ⟨0, [], Nat.zero_le _, rfl, Nat.zero_le _, ownP_nil _ _, by simpa using HL.out, Below.refl _ _⟩
 case round =>
  obtain ⟨k, pre, hk, rfl, hpl, ho, hall, hb⟩ := hrel
  by_cases hkn : k < n
  case pos =>
   have C1 := HC.out k _ hkn hb
   have hs := nxS_size n f k hkn
   have hnx := pcs_next n f k hkn
   obtain ⟨P, hP⟩ : ∃ P, nxS n f k = P := ⟨_, rfl⟩
   rw [hP] at C1 hs hnx
   obtain ⟨r, sz, bk⟩ := P
   simp only at C1 hs hnx
   rw [hnx] at hall
   have hs1 := hs.1
   have hs2 : k + sz ≤ n := by omega
   have i1 : (k : Int) < (n : Int) := by omega
   have i2 : (k : Int) ≤ 100000 := by omega
   have i4 : (sz : Int) ≤ 100000 := by omega
   have H1 := Lib.hid (And.intro ho (And.intro hall (And.intro hb (And.intro hpl (And.intro hs1 hs2)))))
   clear ho hall hb hpl hs hnx hs1 hs2 hP
   go_wp2_with fail
   refine C1.mono ?_
   rintro e w2 ⟨rfl, b2⟩
   clear C1
   have hs12 := b2.size
   have t3 := cells_new w2 #[.int .i32 (r : Int), .int .i64 (sz : Int), .bool bk] 103
   have b3 := below_new w2 (.cells #[.int .i32 (r : Int), .int .i64 (sz : Int), .bool bk] 103)
   obtain ⟨w3, hw3⟩ : ∃ V, w2.alloc (.cells #[.int .i32 (r : Int), .int .i64 (sz : Int), .bool bk] 103) = V := ⟨_, rfl⟩
   rw [hw3] at t3 b3
   have b23 : Below w.heap.size w w3 := (H1.out.2.2.1.trans (b2.mono H1.out.2.2.1.size)).trans (b3.mono (H1.out.2.2.1.trans (b2.mono H1.out.2.2.1.size)).size)
   have o3 := (H1.out.1.below b2).below b3
   have y0 : w3.cell? ⟨w2.heap.size, 0, none⟩ = some (.int .i32 (r : Int)) := t3.cell 0
   have y1 : w3.cell? ⟨w2.heap.size, 1, none⟩ = some (.int .i64 (sz : Int)) := t3.cell 1
   have y2 : w3.cell? ⟨w2.heap.size, 2, none⟩ = some (.bool bk) := t3.cell 2
   have HW3 := Lib.hid hw3
   have H3 := Lib.hid (And.intro o3 (And.intro b23 t3))
   have hbase : w.heap.size ≤ w3.heap.size := b23.size
   have hpre : pre.length ≤ 1000000 := by have := H1.out.2.2.2.1; omega
   have hlt3 : w2.heap.size < w3.heap.size := t3.lt
   clear t3 b3 hw3 b23 o3 b2
   go_upto_region 5 with fail
   rw [HW3.out]
   go_wp2_with (at_builtin; refine wpList_appP rfl (.tmp 13) (.tmp 15) rfl w.heap.size _ pre ⟨(r : Int), (sz : Int), bk⟩ rfl w3 H3.out.1 rfl rfl hpre hbase ?_)
   intro g cp w4 o4 b4 u4
   have hend : ∃ (k' : Nat) (pre' : List PC), k' ≤ n ∧ Value.int .i64 ((k : Int) + (sz : Int)) = .int .i64 (k' : Int) ∧ pre'.length ≤ k' ∧ OwnP w4 w.heap.size pre' (.slice (some ⟨g, 0, none⟩) (pre.length + 1) cp) ∧ pre' ++ pcs n f (n - k') k' = ALL ∧ Below w.heap.size w w4 := by
    refine ⟨k + sz, pre ++ [⟨(r : Int), (sz : Int), bk⟩], H1.out.2.2.2.2.2, by simp, by have := H1.out.2.2.2.1; have := H1.out.2.2.2.2.1; simp; omega, o4, ?_, H3.out.2.1.trans b4⟩
    rw [List.append_assoc]
    exact H1.out.2.1
   have z1 : w4.cell? ⟨w2.heap.size, 1, none⟩ = some (.int .i64 (sz : Int)) := by
    refine (World.cell?_of_block (a := ⟨w2.heap.size, 1, none⟩) (u4 _ hlt3 (fun e => ?_))).trans y1
    have h9 : w2.heap.size < wr.heap.size := (own_block_lt H1.out.1 _ e).2
    omega
   have HEND := Lib.hid hend
   clear hend o4 b4 u4 hbase hpre y0 y1 y2
   go_wp2_with fail
   go_roundw
   case rel => exact HEND.out
   case measure =>
    have h1 := H1.out.2.2.2.2.1
    have h2 := H1.out.2.2.2.2.2
    have e3 : ((k : Int) + (sz : Int)).toNat = k + sz := by omega
    simp [RowKit.intOf]
    omega
  case neg =>
   obtain rfl : k = n := by omega
   have i1 : ¬ (k : Int) < (k : Int) := by omega
   rw [pcs_end _ _ _ hkn, List.append_nil] at hall
   subst hall
   have H1 := Lib.hid (And.intro ho hb)
   clear ho hb hpl hkn hk
   go_wp2_with fail
   go_ret
   exact ⟨_, rfl, H1.out.1, H1.out.2⟩
end Go.Proofs.YtfafhbgkmlmmdaaGreatDoor.K
namespace Go.Proofs.YtfafhbgkmlmmdaaGreatDoor.K
open Go.RowKit Go.Shelf Go.Lib Go.Maps
attribute [local irreducible] nmL ofN
theorem items_none (s : ES) (B : Nat → Nat) (t : TK) (h0 : t.kind ≠ 0) (h1 : t.kind ≠ 1) : s.items B t = [] := by
 unfold ES.items tkI
 rw [if_neg h0, if_neg h1]
 split <;> rfl
theorem cs_plain (s : ES) (t : TK) (h2 : t.kind ≠ 2) (h3 : t.kind ≠ 3) : s.cs t = s.c := by
 unfold ES.cs takeC
 rw [if_neg (by omega)]
theorem fs_plain (s : ES) (t : TK) (h2 : t.kind ≠ 2) (h3 : t.kind ≠ 3) : s.fs t = s.f := by
 unfold ES.fs takeF
 rw [decide_eq_false (by omega), Bool.false_and, Bool.or_false]
theorem xs_plain (s : ES) (t : TK) (h2 : t.kind ≠ 2) : s.xs t = s.x := by
 unfold ES.xs takeX
 rw [decide_eq_false (by omega), Bool.false_and, Bool.or_false]
theorem tkG_keep (kd : Nat) (c : Ct) (f : Bool) (h0 : kd ≠ 0) (h1 : kd ≠ 1) : tkG kd c f = f := by
 unfold tkG
 rw [if_neg (show ¬ (kd = 0 ∨ kd = 1) by omega)]
 split <;> rfl
theorem turn_tag (s : ES) (t : TK) (h0 : t.kind ≠ 0) (h1 : t.kind ≠ 1) : s.turn t = ⟨s.cs t, s.fs t, s.xs t⟩ := by
 unfold ES.turn
 rw [tkG_keep _ _ _ h0 h1, tkG_keep _ _ _ h0 h1]
theorem turn_other (s : ES) (t : TK) (h0 : t.kind ≠ 0) (h1 : t.kind ≠ 1) (h2 : t.kind ≠ 2) (h3 : t.kind ≠ 3) : s.turn t = s := by
 rw [turn_tag s t h0 h1, cs_plain s t h2 h3, fs_plain s t h2 h3, xs_plain s t h2]
theorem turn_text (s : ES) (t : TK) (h : t.kind = 0 ∨ t.kind = 1) : s.turn t = ⟨s.c, if 0 < s.c.h then s.f else false, if 0 < s.c.h then s.x else false⟩ := by
 unfold ES.turn tkG
 rw [cs_plain s t (by omega) (by omega), fs_plain s t (by omega) (by omega), xs_plain s t (by omega), if_pos h]
 simp only [if_pos h]
theorem items_text (s : ES) (B : Nat → Nat) (t : TK) (h : t.kind = 0) : s.items B t = if 0 < s.c.h then [] else itemsQ (decide (0 < s.c.n)) (decide (0 < s.c.p)) (t.fr : Int) s.f s.x (pcs (t.to - t.fr) (fun j => B (t.fr + j)) (t.to - t.fr) 0) := by
 unfold ES.items tkI
 rw [cs_plain s t (by omega) (by omega), fs_plain s t (by omega) (by omega), xs_plain s t (by omega), if_pos h, text_pcs, show (t.fr : Int) + ((0 : Nat) : Int) = (t.fr : Int) by omega]
theorem items_ref (s : ES) (B : Nat → Nat) (t : TK) (h : t.kind = 1) : s.items B t = if 0 < s.c.h then [] else itemsQ (decide (0 < s.c.n)) (decide (0 < s.c.p)) (t.fr : Int) s.f s.x [⟨t.r, (t.to : Int) - (t.fr : Int), false⟩] := by
 unfold ES.items tkI
 rw [cs_plain s t (by omega) (by omega), fs_plain s t (by omega) (by omega), xs_plain s t (by omega), if_neg (show ¬ t.kind = 0 by omega), if_pos h]
 rfl
theorem pcs_small (n : Nat) (f : Nat → Nat) : ∀ (d k : Nat), ∀ q ∈ pcs n f d k, 0 ≤ q.s ∧ q.s ≤ 1000
 | 0, k, q, h => by simp [pcs] at h
 | d + 1, k, q, h => by
  unfold pcs at h
  by_cases hk : k < n
  ·have hs := nxS_size n f k hk
   rw [if_pos hk] at h
   rcases List.mem_cons.1 h with rfl | h
   ·refine ⟨?_, ?_⟩
    ·show (0 : Int) ≤ ((nxS n f k).2.1 : Int)
     omega
    ·show ((nxS n f k).2.1 : Int) ≤ 1000
     omega
   ·exact pcs_small n f d _ q h
  ·rw [if_neg hk] at h
   simp at h
theorem turn_any (n : Nat) (hn : n ≤ 255) (b : Bool) (by_ : Int) (hb : by_ = 0 ∨ by_ = 1 ∨ by_ = -1) (w : World) :
  Calls Tryz.prog 86 #[.int .i64 (n : Int), .bool b, .int .i64 by_] w fun e w' => e = .returned (.int .i64 ((if b then clampN n by_ else n : Nat) : Int)) ∧ w' = w := by
 cases b
 ·simp only [Bool.false_eq_true, if_false]
  go_enter Tryz.func86, Tryz.ntmps86
  go_wp2_with fail
  go_ret
  exact ⟨rfl, rfl⟩
 ·simp only [if_true]
  rcases hb with rfl | rfl | rfl
  ·rw [clampN_zero n hn]
   go_enter Tryz.func86, Tryz.ntmps86
   go_wp2_with fail
   go_ret
   exact ⟨rfl, rfl⟩
  ·by_cases h : n < 255
   ·rw [clampN_up n h]
    have i1 : (n : Int) < 255 := by omega
    go_enter Tryz.func86, Tryz.ntmps86
    go_wp2_with fail
    go_ret
    exact ⟨by simp, rfl⟩
   ·have e : clampN n 1 = n := by unfold clampN; omega
    rw [e]
    have i1 : ¬ (n : Int) < 255 := by omega
    go_enter Tryz.func86, Tryz.ntmps86
    go_wp2_with fail
    go_ret
    exact ⟨rfl, rfl⟩
  ·cases n with
   | zero =>
    have e : clampN 0 (-1) = 0 := by decide
    rw [e]
    go_enter Tryz.func86, Tryz.ntmps86
    go_wp2_with fail
    go_ret
    exact ⟨rfl, rfl⟩
   | succ m =>
    have e : clampN (m + 1) (-1) = m := by unfold clampN; omega
    rw [e]
    obtain ⟨q, hq⟩ : ∃ q, m + 1 = q := ⟨_, rfl⟩
    have i1 : (0 : Int) < (q : Int) := by omega
    have i3 : (q : Int) - 1 = (m : Int) := by omega
    have i4 : wrap64 (m : Int) = (m : Int) := IntWalk.wrap64_in _ ⟨by omega, by omega⟩
    rw [hq]
    clear hn hq
    go_enter Tryz.func86, Tryz.ntmps86
    go_wp2_with fail
    go_ret
    exact ⟨by simp [i4], rfl⟩
theorem Fz.cells {X : Nat → Prop} {w w' : World} {g t : Nat} {cs : Array Value} (h : Fz X w w') (hX : ¬ X g) (hc : Cells w g t cs) : Cells w' g t cs := (h.block _ hc.lt hX).trans hc
theorem bitT (N k : Nat) (b : Bool) (h : isB N k = b) : ((N : Int) / ((2 ^ k : Nat) : Int) % 2 == 1) = b := by
 subst h
 unfold isB
 have e : (N : Int) / ((2 ^ k : Nat) : Int) % 2 = ((N / 2 ^ k % 2 : Nat) : Int) := by omega
 rw [e]
 by_cases q : N / 2 ^ k % 2 = 1
 ·rw [q]; rfl
 ·have q2 : N / 2 ^ k % 2 = 0 := by omega
  rw [q2]; rfl
structure R12 (w : World) (ch cp cn R0 G : Nat) (W : World) : Prop where
 b : Below w.heap.size w W
 x : Cells W w.heap.size 97 #[.int .i64 (ch : Int), .int .i64 (cp : Int), .int .i64 (cn : Int)]
 r : Cells W (w.heap.size + 1) 97 #[.int .i64 0, .int .i64 0, .int .i64 0]
 y : Cells W G 97 #[.int .i64 (R0 : Int), .int .i64 (cp : Int), .int .i64 (cn : Int)]
 g : w.heap.size + 1 < G
end Go.Proofs.YtfafhbgkmlmmdaaGreatDoor.K
