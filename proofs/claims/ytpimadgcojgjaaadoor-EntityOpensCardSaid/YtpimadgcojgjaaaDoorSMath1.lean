/-
  PLAIN LEAN, no program in it: what is read at a place of some bytes (a scalar, how many bytes it has, whether it is whole), by classes of the first byte; that the library's decoding with the search for the broken size comes to it; that the document's own 'beginning of a sequence' comes to it.
-/
import Derived.Lib.DecodeNEq
namespace Go.Proofs.YtpimadgcojgjaaaDoor.S
open Go.Lib
namespace M1

/-- What is read where the first byte begins a sequence of sz bytes, the second one between lo and hi. -/
def pieceS (n b0 b1 b2 b3 sz lo hi : Nat) : Nat × Nat × Bool :=
  if 1 < n ∧ lo ≤ b1 ∧ b1 ≤ hi then
    (if sz = 2 then (b0 % 32 * 64 + b1 % 64, 2, true)
     else if 2 < n ∧ 128 ≤ b2 ∧ b2 ≤ 191 then
      (if sz = 3 then (b0 % 16 * 4096 + b1 % 64 * 64 + b2 % 64, 3, true)
       else if 3 < n ∧ 128 ≤ b3 ∧ b3 ≤ 191 then (b0 % 8 * 262144 + b1 % 64 * 4096 + b2 % 64 * 64 + b3 % 64, 4, true)
       else (65533, 3, false))
     else (65533, 2, false))
  else (65533, 1, false)

/-- What is read of n bytes (n at least 1) that begin b0, b1, b2, b3. -/
def pieceB (n b0 b1 b2 b3 : Nat) : Nat × Nat × Bool :=
  if firstT b0 = 240 then (b0, 1, true)
  else if firstT b0 = 241 then (65533, 1, false)
  else pieceS n b0 b1 b2 b3 (firstT b0 % 8) (accLo (firstT b0 / 16)) (accHi (firstT b0 / 16))

/-- utf8.FullRune of k bytes (k at least 1) that begin b0, b1, b2. -/
def fullS (k b1 b2 sz lo hi : Nat) : Bool :=
  if sz ≤ k then true
  else if 1 < k ∧ (b1 < lo ∨ hi < b1) then true
  else if 2 < k ∧ (b2 < 128 ∨ 191 < b2) then true
  else false
def fullB (k b0 b1 b2 : Nat) : Bool := fullS k b1 b2 (firstT b0 % 8) (accLo (firstT b0 / 16)) (accHi (firstT b0 / 16))

/-- What the search for the broken size ends with. -/
def Brk (n b0 b1 b2 k : Nat) : Prop := 1 ≤ k ∧ k ≤ n ∧ (∀ j, 2 ≤ j → j ≤ k → fullB j b0 b1 b2 = false) ∧ (k < n → fullB (k + 1) b0 b1 b2 = true)

theorem pieceS_size (n b0 b1 b2 b3 sz lo hi : Nat) (hn : 1 ≤ n) : 1 ≤ (pieceS n b0 b1 b2 b3 sz lo hi).2.1 ∧ (pieceS n b0 b1 b2 b3 sz lo hi).2.1 ≤ n ∧ (pieceS n b0 b1 b2 b3 sz lo hi).2.1 ≤ 4 := by
  unfold pieceS
  repeat' split
  all_goals (simp; try omega)
theorem pieceB_size (n b0 b1 b2 b3 : Nat) (hn : 1 ≤ n) : 1 ≤ (pieceB n b0 b1 b2 b3).2.1 ∧ (pieceB n b0 b1 b2 b3).2.1 ≤ n ∧ (pieceB n b0 b1 b2 b3).2.1 ≤ 4 := by
  unfold pieceB
  split
  · simp; omega
  · split
    · simp; omega
    · exact pieceS_size _ _ _ _ _ _ _ _ hn

theorem firstCases (b : Nat) : firstT b = 240 ∨ firstT b = 241 ∨ firstT b = 2 ∨ firstT b = 19 ∨ firstT b = 3 ∨ firstT b = 35 ∨ firstT b = 52 ∨ firstT b = 4 ∨ firstT b = 68 := by
  unfold firstT
  repeat' split
  all_goals simp

theorem low_of {b0 : Nat} (h1 : ¬ firstT b0 = 240) (h2 : ¬ firstT b0 = 241) : firstT b0 < 240 := by
  rcases firstCases b0 with h | h | h | h | h | h | h | h | h <;> omega

theorem sz_of {b0 : Nat} (h : firstT b0 < 240) : firstT b0 % 8 = 2 ∨ firstT b0 % 8 = 3 ∨ firstT b0 % 8 = 4 := by
  rcases firstCases b0 with h | h | h | h | h | h | h | h | h <;> omega

theorem pieceS_whole (n b0 b1 b2 b3 sz lo hi : Nat) (hs : sz = 2 ∨ sz = 3 ∨ sz = 4) (h : (pieceS n b0 b1 b2 b3 sz lo hi).2.2 = true) :
    slowN n b0 b1 b2 b3 sz lo hi = ((pieceS n b0 b1 b2 b3 sz lo hi).1, (pieceS n b0 b1 b2 b3 sz lo hi).2.1) ∧ 2 ≤ (pieceS n b0 b1 b2 b3 sz lo hi).2.1 := by
  unfold pieceS at *
  by_cases c1 : 1 < n ∧ lo ≤ b1 ∧ b1 ≤ hi
  · rw [if_pos c1] at h ⊢
    rcases hs with rfl | rfl | rfl
    · unfold slowN
      rw [if_neg (by omega), if_neg (by omega), if_pos (by omega)]
      simp
    · by_cases c2 : 2 < n ∧ 128 ≤ b2 ∧ b2 ≤ 191
      · unfold slowN
        rw [if_neg (by omega), if_neg (by omega), if_neg (by omega), if_neg (by omega), if_pos (by omega), if_neg (by omega), if_pos c2]
        simp
      · rw [if_neg (by omega), if_neg c2] at h
        simp at h
    · by_cases c2 : 2 < n ∧ 128 ≤ b2 ∧ b2 ≤ 191
      · by_cases c3 : 3 < n ∧ 128 ≤ b3 ∧ b3 ≤ 191
        · unfold slowN
          rw [if_neg (by omega), if_neg (by omega), if_neg (by omega), if_neg (by omega), if_neg (by omega), if_neg (by omega), if_neg (by omega), if_pos c2, if_neg (by omega), if_pos c3]
          simp
        · rw [if_neg (by omega), if_pos c2, if_neg (by omega), if_neg c3] at h
          simp at h
      · rw [if_neg (by omega), if_neg c2] at h
        simp at h
  · rw [if_neg c1] at h
    simp at h

theorem pieceB_whole (n b0 b1 b2 b3 : Nat) (hn : 1 ≤ n) (h1 : b1 < 256) (h2 : b2 < 256) (h3 : b3 < 256) (h : (pieceB n b0 b1 b2 b3).2.2 = true) :
    decodeN n b0 b1 b2 b3 = ((pieceB n b0 b1 b2 b3).1, (pieceB n b0 b1 b2 b3).2.1) ∧ ((pieceB n b0 b1 b2 b3).1 ≠ 65533 ∨ (pieceB n b0 b1 b2 b3).2.1 ≠ 1) := by
  by_cases c0 : firstT b0 = 240
  · have hb : b0 < 128 := by
      unfold firstT at c0
      repeat' split at c0
      all_goals omega
    rw [ascii_eq n b0 b1 b2 b3 c0]
    unfold pieceB
    rw [if_pos c0]
    exact ⟨rfl, .inl (by show b0 ≠ 65533; omega)⟩
  · by_cases c1 : firstT b0 = 241
    · unfold pieceB at h
      rw [if_neg c0, if_pos c1] at h
      simp at h
    · have hl := low_of c0 c1
      unfold pieceB at h ⊢
      rw [if_neg c0, if_neg c1] at h ⊢
      obtain ⟨e, hsz⟩ := pieceS_whole n b0 b1 b2 b3 _ _ _ (sz_of hl) h
      rw [slow_eq n b0 b1 b2 b3 hn h1 h2 h3 hl] at e
      exact ⟨e, .inr (by omega)⟩

theorem pieceS_broken (n b0 b1 b2 b3 sz lo hi : Nat) (hs : sz = 2 ∨ sz = 3 ∨ sz = 4) (h : (pieceS n b0 b1 b2 b3 sz lo hi).2.2 = false) :
    slowN n b0 b1 b2 b3 sz lo hi = (65533, 1) ∧ (pieceS n b0 b1 b2 b3 sz lo hi).1 = 65533 := by
  unfold pieceS at *
  by_cases c1 : 1 < n ∧ lo ≤ b1 ∧ b1 ≤ hi
  · rw [if_pos c1] at h ⊢
    rcases hs with rfl | rfl | rfl
    · simp at h
    · by_cases c2 : 2 < n ∧ 128 ≤ b2 ∧ b2 ≤ 191
      · rw [if_neg (by omega), if_pos c2] at h
        simp at h
      · rw [if_neg (by omega), if_neg c2]
        unfold slowN
        by_cases c4 : n < 3
        · rw [if_pos c4]; simp
        · rw [if_neg c4, if_neg (by omega), if_neg (by omega), if_pos (by omega)]; simp
    · by_cases c2 : 2 < n ∧ 128 ≤ b2 ∧ b2 ≤ 191
      · by_cases c3 : 3 < n ∧ 128 ≤ b3 ∧ b3 ≤ 191
        · rw [if_neg (by omega), if_pos c2, if_neg (by omega), if_pos c3] at h
          simp at h
        · rw [if_neg (by omega), if_pos c2, if_neg (by omega), if_neg c3]
          unfold slowN
          by_cases c4 : n < 4
          · rw [if_pos c4]; simp
          · rw [if_neg c4, if_neg (by omega), if_neg (by omega), if_neg (by omega), if_neg (by omega), if_pos (by omega)]; simp
      · rw [if_neg (by omega), if_neg c2]
        unfold slowN
        by_cases c4 : n < 4
        · rw [if_pos c4]; simp
        · rw [if_neg c4, if_neg (by omega), if_neg (by omega), if_pos (by omega)]; simp
  · rw [if_neg c1]
    unfold slowN
    by_cases c4 : n < sz
    · rw [if_pos c4]; simp
    · rw [if_neg c4, if_pos (by omega)]; simp

theorem pieceB_broken (n b0 b1 b2 b3 : Nat) (hn : 1 ≤ n) (h0 : b0 < 256) (h1 : b1 < 256) (h2 : b2 < 256) (h3 : b3 < 256) (h : (pieceB n b0 b1 b2 b3).2.2 = false) :
    decodeN n b0 b1 b2 b3 = (65533, 1) ∧ (pieceB n b0 b1 b2 b3).1 = 65533 := by
  by_cases c0 : firstT b0 = 240
  · unfold pieceB at h
    rw [if_pos c0] at h
    simp at h
  · by_cases c1 : firstT b0 = 241
    · refine ⟨bad_eq n b0 b1 b2 b3 h0 c1, ?_⟩
      unfold pieceB
      rw [if_neg c0, if_pos c1]
    · have hl := low_of c0 c1
      unfold pieceB at h ⊢
      rw [if_neg c0, if_neg c1] at h ⊢
      obtain ⟨e, hsz⟩ := pieceS_broken n b0 b1 b2 b3 _ _ _ (sz_of hl) h
      rw [slow_eq n b0 b1 b2 b3 hn h1 h2 h3 hl] at e
      exact ⟨e, hsz⟩

/-- THE SEARCH FOR THE BROKEN SIZE ENDS WITH THE PIECE's SIZE. -/
theorem brk_size (n b0 b1 b2 b3 k : Nat) (hn : 1 ≤ n) (h : (pieceB n b0 b1 b2 b3).2.2 = false) (hk : Brk n b0 b1 b2 k) : k = (pieceB n b0 b1 b2 b3).2.1 := by
  obtain ⟨k1, kn, kf, kt⟩ := hk
  by_cases c0 : firstT b0 = 240
  · unfold pieceB at h
    rw [if_pos c0] at h
    simp at h
  · by_cases c1 : firstT b0 = 241
    · have e : (pieceB n b0 b1 b2 b3).2.1 = 1 := by unfold pieceB; rw [if_neg c0, if_pos c1]
      rw [e]
      rcases Nat.lt_or_ge 1 k with hk | hk
      · have := kf 2 (by omega) (by omega)
        unfold fullB fullS at this
        rw [c1, if_pos (by omega)] at this
        simp at this
      · omega
    · have hl := low_of c0 c1
      have hs := sz_of hl
      unfold pieceB at h ⊢
      rw [if_neg c0, if_neg c1] at h ⊢
      unfold fullB at kf kt
      generalize firstT b0 % 8 = sz at *
      generalize accLo (firstT b0 / 16) = lo at *
      generalize accHi (firstT b0 / 16) = hi at *
      have f2 : ¬ (2 ≤ k ∧ sz ≤ 2) := fun ⟨a, b⟩ => by
        have := kf 2 (by omega) a
        unfold fullS at this
        rw [if_pos b] at this; simp at this
      have f3 : ¬ (3 ≤ k ∧ sz ≤ 3) := fun ⟨a, b⟩ => by
        have := kf 3 (by omega) a
        unfold fullS at this
        rw [if_pos b] at this; simp at this
      have f4 : ¬ 4 ≤ k := fun a => by
        have := kf 4 (by omega) a
        unfold fullS at this
        rw [if_pos (by omega)] at this; simp at this
      have g1 : 2 ≤ k → lo ≤ b1 ∧ b1 ≤ hi := fun a => by
        have := kf 2 (by omega) a
        unfold fullS at this
        by_cases q : sz ≤ 2
        · exact (f2 ⟨a, q⟩).elim
        · rw [if_neg q] at this
          by_cases q2 : 1 < 2 ∧ (b1 < lo ∨ hi < b1)
          · rw [if_pos q2] at this; simp at this
          · omega
      have g2 : 3 ≤ k → 128 ≤ b2 ∧ b2 ≤ 191 := fun a => by
        have := kf 3 (by omega) a
        have q1 := g1 (by omega)
        unfold fullS at this
        by_cases q : sz ≤ 3
        · exact (f3 ⟨a, q⟩).elim
        · rw [if_neg q, if_neg (by omega)] at this
          by_cases q2 : 2 < 3 ∧ (b2 < 128 ∨ 191 < b2)
          · rw [if_pos q2] at this; simp at this
          · omega
      have t1 : k = 1 → 1 < n → sz ≤ 2 ∨ b1 < lo ∨ hi < b1 := fun a b => by
        have := kt (by omega)
        subst a
        unfold fullS at this
        by_cases q : sz ≤ 1 + 1
        · omega
        · rw [if_neg q] at this
          by_cases q2 : 1 < 1 + 1 ∧ (b1 < lo ∨ hi < b1)
          · omega
          · rw [if_neg q2, if_neg (by omega)] at this; simp at this
      have t2 : k = 2 → 2 < n → sz ≤ 3 ∨ b2 < 128 ∨ 191 < b2 := fun a b => by
        have := kt (by omega)
        have q1 := g1 (by omega)
        subst a
        unfold fullS at this
        by_cases q : sz ≤ 2 + 1
        · omega
        · rw [if_neg q, if_neg (by omega)] at this
          by_cases q2 : 2 < 2 + 1 ∧ (b2 < 128 ∨ 191 < b2)
          · omega
          · rw [if_neg q2] at this; simp at this
      unfold pieceS at h ⊢
      by_cases c1 : 1 < n ∧ lo ≤ b1 ∧ b1 ≤ hi
      · rw [if_pos c1] at h ⊢
        rcases hs with rfl | rfl | rfl
        · simp at h
        · by_cases c2 : 2 < n ∧ 128 ≤ b2 ∧ b2 ≤ 191
          · rw [if_neg (by omega), if_pos c2] at h
            simp at h
          · rw [if_neg (by omega), if_neg c2]
            show k = 2
            omega
        · by_cases c2 : 2 < n ∧ 128 ≤ b2 ∧ b2 ≤ 191
          · by_cases c3 : 3 < n ∧ 128 ≤ b3 ∧ b3 ≤ 191
            · rw [if_neg (by omega), if_pos c2, if_neg (by omega), if_pos c3] at h
              simp at h
            · rw [if_neg (by omega), if_pos c2, if_neg (by omega), if_neg c3]
              show k = 3
              omega
          · rw [if_neg (by omega), if_neg c2]
            show k = 2
            omega
      · rw [if_neg c1]
        show k = 1
        omega

end M1
end Go.Proofs.YtpimadgcojgjaaaDoor.S
