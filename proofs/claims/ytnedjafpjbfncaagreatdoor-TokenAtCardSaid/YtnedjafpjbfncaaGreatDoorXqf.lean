/-
  PLAIN LEAN, no program in it: what is read at a place of some bytes (a scalar, how many bytes it has, whether it is whole), by classes of the first byte; that the library's decoding with the search for the broken size comes to it; that the document's own 'beginning of a sequence' comes to it.
  A contract of the library's at this program: unicode/utf8.DecodeRune.
  Contracts of unicode/utf8.FullRune, at two bytes and more.
  Contracts: unicode/utf8.FullRune at two bytes and more, in one; scalar.brokenSize.
  Contracts: unicode/utf8.DecodeRune at bytes that are there; scalar.decode.
  Contracts: scalar.Next, scalar.Put.
  Contracts: internal/strconv's lower, ParseUint at base 16 and 32 bits: of any text.
  Contracts: internal/strconv.ParseInt and strconv.ParseInt at base 16 and 32 bits, strconv.toError: of any text.
  Contract: entity.nearest.
  Contracts: entity.isDigit, entity.ofNumber, what is asked of a number's bytes, entity.numeric, entity.styles.
-/
import Derived.Lib.DecodeNEq
import Derived.Shelf.Small.Utf8
import Derived.Shelf.Spec.DecodeRune
import Derived.Test.YtnedjafpjbfncaaGreatDoorXqb
import Derived.WalkKit
import Derived.BigQuiet
import Derived.Deep.QuietTactic
import Derived.Outline
import Derived.Lib.Hide
import Derived.Below
import Derived.Laws.IdiomStrings
import Derived.Laws.OwnMore
import Derived.Lib.RuneBytes
import Derived.Maps.AppendAt
import Derived.IntWalk
import Derived.Test.YtnedjafpjbfncaaGreatDoorXqe
import Derived.Lib.ParseIntBCases
namespace Go.Proofs.YtnedjafpjbfncaaGreatDoor.S
open Go.Lib
namespace M1

/-- What is read where the first byte begins a sequence of sz bytes, the second one between lo and hi. -/
def pieceS (n b0 b1 b2 b3 sz lo hi : Nat) : Nat × Nat × Bool :=
  if 1 < n ∧ lo ≤ b1 ∧ b1 ≤ hi then
    (if sz = 2 then (b0 % 32 * 64 + b1 % 64, 2, true)
     else if 2 < n ∧ 128 ≤ b2 ∧ b2 ≤ 191 then
      (if sz = 3 then (b0 % 16 * 4096 + b1 % 64 * 64 + b2 % 64, 3, true)
       else if 3 < n ∧ 128 ≤ b3 ∧ b3 ≤ 191 then (b0 % 8 * 262144 + b1 % 64 * 4096 + b2 % 64 * 64 + b3 % 64, 4, true)
       else (65533, 3, false))
     else (65533, 2, false))
  else (65533, 1, false)

/-- What is read of n bytes (n at least 1) that begin b0, b1, b2, b3. -/
def pieceB (n b0 b1 b2 b3 : Nat) : Nat × Nat × Bool :=
  if firstT b0 = 240 then (b0, 1, true)
  else if firstT b0 = 241 then (65533, 1, false)
  else pieceS n b0 b1 b2 b3 (firstT b0 % 8) (accLo (firstT b0 / 16)) (accHi (firstT b0 / 16))

/-- utf8.FullRune of k bytes (k at least 1) that begin b0, b1, b2. -/
def fullS (k b1 b2 sz lo hi : Nat) : Bool :=
  if sz ≤ k then true
  else if 1 < k ∧ (b1 < lo ∨ hi < b1) then true
  else if 2 < k ∧ (b2 < 128 ∨ 191 < b2) then true
  else false
def fullB (k b0 b1 b2 : Nat) : Bool := fullS k b1 b2 (firstT b0 % 8) (accLo (firstT b0 / 16)) (accHi (firstT b0 / 16))

/-- What the search for the broken size ends with. -/
def Brk (n b0 b1 b2 k : Nat) : Prop := 1 ≤ k ∧ k ≤ n ∧ (∀ j, 2 ≤ j → j ≤ k → fullB j b0 b1 b2 = false) ∧ (k < n → fullB (k + 1) b0 b1 b2 = true)

theorem pieceS_size (n b0 b1 b2 b3 sz lo hi : Nat) (hn : 1 ≤ n) : 1 ≤ (pieceS n b0 b1 b2 b3 sz lo hi).2.1 ∧ (pieceS n b0 b1 b2 b3 sz lo hi).2.1 ≤ n ∧ (pieceS n b0 b1 b2 b3 sz lo hi).2.1 ≤ 4 := by
  unfold pieceS
  repeat' split
  all_goals (simp; try omega)
theorem pieceB_size (n b0 b1 b2 b3 : Nat) (hn : 1 ≤ n) : 1 ≤ (pieceB n b0 b1 b2 b3).2.1 ∧ (pieceB n b0 b1 b2 b3).2.1 ≤ n ∧ (pieceB n b0 b1 b2 b3).2.1 ≤ 4 := by
  unfold pieceB
  split
  · simp; omega
  · split
    · simp; omega
    · exact pieceS_size _ _ _ _ _ _ _ _ hn

theorem firstCases (b : Nat) : firstT b = 240 ∨ firstT b = 241 ∨ firstT b = 2 ∨ firstT b = 19 ∨ firstT b = 3 ∨ firstT b = 35 ∨ firstT b = 52 ∨ firstT b = 4 ∨ firstT b = 68 := by
  unfold firstT
  repeat' split
  all_goals simp

theorem low_of {b0 : Nat} (h1 : ¬ firstT b0 = 240) (h2 : ¬ firstT b0 = 241) : firstT b0 < 240 := by
  rcases firstCases b0 with h | h | h | h | h | h | h | h | h <;> omega

theorem sz_of {b0 : Nat} (h : firstT b0 < 240) : firstT b0 % 8 = 2 ∨ firstT b0 % 8 = 3 ∨ firstT b0 % 8 = 4 := by
  rcases firstCases b0 with h | h | h | h | h | h | h | h | h <;> omega

theorem pieceS_whole (n b0 b1 b2 b3 sz lo hi : Nat) (hs : sz = 2 ∨ sz = 3 ∨ sz = 4) (h : (pieceS n b0 b1 b2 b3 sz lo hi).2.2 = true) :
    slowN n b0 b1 b2 b3 sz lo hi = ((pieceS n b0 b1 b2 b3 sz lo hi).1, (pieceS n b0 b1 b2 b3 sz lo hi).2.1) ∧ 2 ≤ (pieceS n b0 b1 b2 b3 sz lo hi).2.1 := by
  unfold pieceS at *
  by_cases c1 : 1 < n ∧ lo ≤ b1 ∧ b1 ≤ hi
  · rw [if_pos c1] at h ⊢
    rcases hs with rfl | rfl | rfl
    · unfold slowN
      rw [if_neg (by omega), if_neg (by omega), if_pos (by omega)]
      simp
    · by_cases c2 : 2 < n ∧ 128 ≤ b2 ∧ b2 ≤ 191
      · unfold slowN
        rw [if_neg (by omega), if_neg (by omega), if_neg (by omega), if_neg (by omega), if_pos (by omega), if_neg (by omega), if_pos c2]
        simp
      · rw [if_neg (by omega), if_neg c2] at h
        simp at h
    · by_cases c2 : 2 < n ∧ 128 ≤ b2 ∧ b2 ≤ 191
      · by_cases c3 : 3 < n ∧ 128 ≤ b3 ∧ b3 ≤ 191
        · unfold slowN
          rw [if_neg (by omega), if_neg (by omega), if_neg (by omega), if_neg (by omega), if_neg (by omega), if_neg (by omega), if_neg (by omega), if_pos c2, if_neg (by omega), if_pos c3]
          simp
        · rw [if_neg (by omega), if_pos c2, if_neg (by omega), if_neg c3] at h
          simp at h
      · rw [if_neg (by omega), if_neg c2] at h
        simp at h
  · rw [if_neg c1] at h
    simp at h

theorem pieceB_whole (n b0 b1 b2 b3 : Nat) (hn : 1 ≤ n) (h1 : b1 < 256) (h2 : b2 < 256) (h3 : b3 < 256) (h : (pieceB n b0 b1 b2 b3).2.2 = true) :
    decodeN n b0 b1 b2 b3 = ((pieceB n b0 b1 b2 b3).1, (pieceB n b0 b1 b2 b3).2.1) ∧ ((pieceB n b0 b1 b2 b3).1 ≠ 65533 ∨ (pieceB n b0 b1 b2 b3).2.1 ≠ 1) := by
  by_cases c0 : firstT b0 = 240
  · have hb : b0 < 128 := by
      unfold firstT at c0
      repeat' split at c0
      all_goals omega
    rw [ascii_eq n b0 b1 b2 b3 c0]
    unfold pieceB
    rw [if_pos c0]
    exact ⟨rfl, .inl (by show b0 ≠ 65533; omega)⟩
  · by_cases c1 : firstT b0 = 241
    · unfold pieceB at h
      rw [if_neg c0, if_pos c1] at h
      simp at h
    · have hl := low_of c0 c1
      unfold pieceB at h ⊢
      rw [if_neg c0, if_neg c1] at h ⊢
      obtain ⟨e, hsz⟩ := pieceS_whole n b0 b1 b2 b3 _ _ _ (sz_of hl) h
      rw [slow_eq n b0 b1 b2 b3 hn h1 h2 h3 hl] at e
      exact ⟨e, .inr (by omega)⟩

theorem pieceS_broken (n b0 b1 b2 b3 sz lo hi : Nat) (hs : sz = 2 ∨ sz = 3 ∨ sz = 4) (h : (pieceS n b0 b1 b2 b3 sz lo hi).2.2 = false) :
    slowN n b0 b1 b2 b3 sz lo hi = (65533, 1) ∧ (pieceS n b0 b1 b2 b3 sz lo hi).1 = 65533 := by
  unfold pieceS at *
  by_cases c1 : 1 < n ∧ lo ≤ b1 ∧ b1 ≤ hi
  · rw [if_pos c1] at h ⊢
    rcases hs with rfl | rfl | rfl
    · simp at h
    · by_cases c2 : 2 < n ∧ 128 ≤ b2 ∧ b2 ≤ 191
      · rw [if_neg (by omega), if_pos c2] at h
        simp at h
      · rw [if_neg (by omega), if_neg c2]
        unfold slowN
        by_cases c4 : n < 3
        · rw [if_pos c4]; simp
        · rw [if_neg c4, if_neg (by omega), if_neg (by omega), if_pos (by omega)]; simp
    · by_cases c2 : 2 < n ∧ 128 ≤ b2 ∧ b2 ≤ 191
      · by_cases c3 : 3 < n ∧ 128 ≤ b3 ∧ b3 ≤ 191
        · rw [if_neg (by omega), if_pos c2, if_neg (by omega), if_pos c3] at h
          simp at h
        · rw [if_neg (by omega), if_pos c2, if_neg (by omega), if_neg c3]
          unfold slowN
          by_cases c4 : n < 4
          · rw [if_pos c4]; simp
          · rw [if_neg c4, if_neg (by omega), if_neg (by omega), if_neg (by omega), if_neg (by omega), if_pos (by omega)]; simp
      · rw [if_neg (by omega), if_neg c2]
        unfold slowN
        by_cases c4 : n < 4
        · rw [if_pos c4]; simp
        · rw [if_neg c4, if_neg (by omega), if_neg (by omega), if_pos (by omega)]; simp
  · rw [if_neg c1]
    unfold slowN
    by_cases c4 : n < sz
    · rw [if_pos c4]; simp
    · rw [if_neg c4, if_pos (by omega)]; simp

theorem pieceB_broken (n b0 b1 b2 b3 : Nat) (hn : 1 ≤ n) (h0 : b0 < 256) (h1 : b1 < 256) (h2 : b2 < 256) (h3 : b3 < 256) (h : (pieceB n b0 b1 b2 b3).2.2 = false) :
    decodeN n b0 b1 b2 b3 = (65533, 1) ∧ (pieceB n b0 b1 b2 b3).1 = 65533 := by
  by_cases c0 : firstT b0 = 240
  · unfold pieceB at h
    rw [if_pos c0] at h
    simp at h
  · by_cases c1 : firstT b0 = 241
    · refine ⟨bad_eq n b0 b1 b2 b3 h0 c1, ?_⟩
      unfold pieceB
      rw [if_neg c0, if_pos c1]
    · have hl := low_of c0 c1
      unfold pieceB at h ⊢
      rw [if_neg c0, if_neg c1] at h ⊢
      obtain ⟨e, hsz⟩ := pieceS_broken n b0 b1 b2 b3 _ _ _ (sz_of hl) h
      rw [slow_eq n b0 b1 b2 b3 hn h1 h2 h3 hl] at e
      exact ⟨e, hsz⟩

/-- THE SEARCH FOR THE BROKEN SIZE ENDS WITH THE PIECE's SIZE. -/
theorem brk_size (n b0 b1 b2 b3 k : Nat) (hn : 1 ≤ n) (h : (pieceB n b0 b1 b2 b3).2.2 = false) (hk : Brk n b0 b1 b2 k) : k = (pieceB n b0 b1 b2 b3).2.1 := by
  obtain ⟨k1, kn, kf, kt⟩ := hk
  by_cases c0 : firstT b0 = 240
  · unfold pieceB at h
    rw [if_pos c0] at h
    simp at h
  · by_cases c1 : firstT b0 = 241
    · have e : (pieceB n b0 b1 b2 b3).2.1 = 1 := by unfold pieceB; rw [if_neg c0, if_pos c1]
      rw [e]
      rcases Nat.lt_or_ge 1 k with hk | hk
      · have := kf 2 (by omega) (by omega)
        unfold fullB fullS at this
        rw [c1, if_pos (by omega)] at this
        simp at this
      · omega
    · have hl := low_of c0 c1
      have hs := sz_of hl
      unfold pieceB at h ⊢
      rw [if_neg c0, if_neg c1] at h ⊢
      unfold fullB at kf kt
      generalize firstT b0 % 8 = sz at *
      generalize accLo (firstT b0 / 16) = lo at *
      generalize accHi (firstT b0 / 16) = hi at *
      have f2 : ¬ (2 ≤ k ∧ sz ≤ 2) := fun ⟨a, b⟩ => by
        have := kf 2 (by omega) a
        unfold fullS at this
        rw [if_pos b] at this; simp at this
      have f3 : ¬ (3 ≤ k ∧ sz ≤ 3) := fun ⟨a, b⟩ => by
        have := kf 3 (by omega) a
        unfold fullS at this
        rw [if_pos b] at this; simp at this
      have f4 : ¬ 4 ≤ k := fun a => by
        have := kf 4 (by omega) a
        unfold fullS at this
        rw [if_pos (by omega)] at this; simp at this
      have g1 : 2 ≤ k → lo ≤ b1 ∧ b1 ≤ hi := fun a => by
        have := kf 2 (by omega) a
        unfold fullS at this
        by_cases q : sz ≤ 2
        · exact (f2 ⟨a, q⟩).elim
        · rw [if_neg q] at this
          by_cases q2 : 1 < 2 ∧ (b1 < lo ∨ hi < b1)
          · rw [if_pos q2] at this; simp at this
          · omega
      have g2 : 3 ≤ k → 128 ≤ b2 ∧ b2 ≤ 191 := fun a => by
        have := kf 3 (by omega) a
        have q1 := g1 (by omega)
        unfold fullS at this
        by_cases q : sz ≤ 3
        · exact (f3 ⟨a, q⟩).elim
        · rw [if_neg q, if_neg (by omega)] at this
          by_cases q2 : 2 < 3 ∧ (b2 < 128 ∨ 191 < b2)
          · rw [if_pos q2] at this; simp at this
          · omega
      have t1 : k = 1 → 1 < n → sz ≤ 2 ∨ b1 < lo ∨ hi < b1 := fun a b => by
        have := kt (by omega)
        subst a
        unfold fullS at this
        by_cases q : sz ≤ 1 + 1
        · omega
        · rw [if_neg q] at this
          by_cases q2 : 1 < 1 + 1 ∧ (b1 < lo ∨ hi < b1)
          · omega
          · rw [if_neg q2, if_neg (by omega)] at this; simp at this
      have t2 : k = 2 → 2 < n → sz ≤ 3 ∨ b2 < 128 ∨ 191 < b2 := fun a b => by
        have := kt (by omega)
        have q1 := g1 (by omega)
        subst a
        unfold fullS at this
        by_cases q : sz ≤ 2 + 1
        · omega
        · rw [if_neg q, if_neg (by omega)] at this
          by_cases q2 : 2 < 2 + 1 ∧ (b2 < 128 ∨ 191 < b2)
          · omega
          · rw [if_neg q2] at this; simp at this
      unfold pieceS at h ⊢
      by_cases c1 : 1 < n ∧ lo ≤ b1 ∧ b1 ≤ hi
      · rw [if_pos c1] at h ⊢
        rcases hs with rfl | rfl | rfl
        · simp at h
        · by_cases c2 : 2 < n ∧ 128 ≤ b2 ∧ b2 ≤ 191
          · rw [if_neg (by omega), if_pos c2] at h
            simp at h
          · rw [if_neg (by omega), if_neg c2]
            show k = 2
            omega
        · by_cases c2 : 2 < n ∧ 128 ≤ b2 ∧ b2 ≤ 191
          · by_cases c3 : 3 < n ∧ 128 ≤ b3 ∧ b3 ≤ 191
            · rw [if_neg (by omega), if_pos c2, if_neg (by omega), if_pos c3] at h
              simp at h
            · rw [if_neg (by omega), if_pos c2, if_neg (by omega), if_neg c3]
              show k = 3
              omega
          · rw [if_neg (by omega), if_neg c2]
            show k = 2
            omega
      · rw [if_neg c1]
        show k = 1
        omega

end M1
end Go.Proofs.YtnedjafpjbfncaaGreatDoor.S

namespace Go.Proofs
open Go.Shelf
def Tryz.lays32_ren : Go.Shelf.Ren := ⟨fun | 32 => 154 | 49 => 156 | n => n, fun | 30 => 22 | 21 => 21 | 3 => 3 | 0 => 0 | 5 => 5 | 4 => 4 | 33 => 59 | 66 => 159 | 25 => 81 | 69 => 162 | 68 => 161 | n => n, fun | 2 => 3 | 3 => 4 | n => n⟩
theorem Tryz.lays32 : Go.Proofs.Lays7.n32 Tryz.prog Tryz.lays32_ren := {
  mixed := by kernel_rfl
  f32 := Tryz.func154.trans (congrArg some (by kernel_rfl))
  f49 := Tryz.func156.trans (congrArg some (by kernel_rfl))
  t0 := Tryz.underlying0
  a0 := Tryz.isAgg0
  z0 := Tryz.sizeOf0
  v0 := Tryz.zeroValue0
  i0 := by kernel_rfl
  t3 := Tryz.underlying3
  a3 := Tryz.isAgg3
  z3 := Tryz.sizeOf3
  v3 := Tryz.zeroValue3
  i3 := by kernel_rfl
  t4 := Tryz.underlying4
  a4 := Tryz.isAgg4
  z4 := Tryz.sizeOf4
  v4 := Tryz.zeroValue4
  i4 := by kernel_rfl
  t5 := Tryz.underlying5
  a5 := Tryz.isAgg5
  z5 := Tryz.sizeOf5
  v5 := Tryz.zeroValue5
  i5 := by kernel_rfl
  t21 := Tryz.underlying21
  a21 := Tryz.isAgg21
  z21 := Tryz.sizeOf21
  v21 := Tryz.zeroValue21
  i21 := by kernel_rfl
  t25 := Tryz.underlying81
  a25 := Tryz.isAgg81
  z25 := Tryz.sizeOf81
  v25 := Tryz.zeroValue81
  i25 := by kernel_rfl
  t30 := Tryz.underlying22
  a30 := Tryz.isAgg22
  z30 := Tryz.sizeOf22
  v30 := Tryz.zeroValue22
  i30 := by kernel_rfl
  t33 := Tryz.underlying59
  a33 := Tryz.isAgg59
  z33 := Tryz.sizeOf59
  v33 := Tryz.zeroValue59
  i33 := by kernel_rfl
  t66 := Tryz.underlying159
  a66 := Tryz.isAgg159
  z66 := Tryz.sizeOf159
  t68 := Tryz.underlying161
  a68 := Tryz.isAgg161
  z68 := Tryz.sizeOf161
  v68 := Tryz.zeroValue161
  i68 := by kernel_rfl
  t69 := Tryz.underlying162
  a69 := Tryz.isAgg162
  z69 := Tryz.sizeOf162
  v69 := Tryz.zeroValue162
  i69 := by kernel_rfl
  g2 := by kernel_rfl
  g3 := by kernel_rfl }
end Go.Proofs

namespace Go.Proofs.YtnedjafpjbfncaaGreatDoor.S
open Go.RowKit Go.Shelf Go.Lib

set_option maxHeartbeats 1000000 in
set_option maxRecDepth 100000 in
/-- FullRune, the early road. -/
theorem full_early (b off k cap x0 : Nat) (w : World) (hT : Utf8Tabs 3 4 w) (hx : x0 < 256) (h2 : 2 ≤ k)
    (hs0 : w.cell? ⟨b, off, none⟩ = some (.int .u8 x0)) (hf : firstT x0 % 8 ≤ k) :
    Calls Tryz.prog 157 #[.slice (some ⟨b, off, none⟩) k cap] w fun e w' => e = .returned (.bool true) ∧ w = w' := by
  have hc0 := hT.1 x0 hx
  have k2 : (2 : Int) ≤ (k : Int) := by omega
  have k0 : ((k : Int) == 0) = false := by rw [beq_eq_false_iff_ne]; omega
  have k0' : (0 : Int) < (k : Int) := by omega
  clear hT
  rcases M1.firstCases x0 with hX | hX | hX | hX | hX | hX | hX | hX | hX
  all_goals
    rw [hX] at hc0 hf
    clear hX
    go_enter Tryz.func157, Tryz.ntmps157
    go_wp2
  all_goals
    go_ret
    exact ⟨rfl, rfl⟩

/-- What the slow road of FullRune answers. -/
def slowAns (k b1 b2 lo hi : Nat) : Bool := if b1 < lo ∨ hi < b1 then true else if 2 < k ∧ (b2 < 128 ∨ 191 < b2) then true else false
theorem slowAns_1 {k b1 b2 lo hi : Nat} (h : b1 < lo ∨ hi < b1) : true = slowAns k b1 b2 lo hi := by unfold slowAns; rw [if_pos h]
theorem slowAns_2 {k b1 b2 lo hi : Nat} (h : 2 < k ∧ (b2 < 128 ∨ 191 < b2)) (h1 : ¬ (b1 < lo ∨ hi < b1)) : true = slowAns k b1 b2 lo hi := by unfold slowAns; rw [if_neg h1, if_pos h]
theorem slowAns_3 {k b1 b2 lo hi : Nat} (h : ¬ (2 < k ∧ (b2 < 128 ∨ 191 < b2))) (h1 : ¬ (b1 < lo ∨ hi < b1)) : false = slowAns k b1 b2 lo hi := by unfold slowAns; rw [if_neg h1, if_neg h]
theorem below_drewN {B : Nat} {a w : World} (h : Below B a w) (n : Nat) : Below B a (w.drewN n) := ⟨h.os, h.tape, h.output, h.size, h.block⟩
theorem ret_bool {a b : Bool} (h : a = b) : Ending.returned (.bool a) = .returned (.bool b) := by rw [h]

set_option maxHeartbeats 4000000 in
set_option maxRecDepth 100000 in
/-- FullRune, the slow road. -/
theorem full_slow (b off k cap x0 x1 x2 : Nat) (w : World) (hT : Utf8Tabs 3 4 w) (hx : x0 < 256) (h2 : 2 ≤ k)
    (hs0 : w.cell? ⟨b, off, none⟩ = some (.int .u8 x0)) (hs1 : w.cell? ⟨b, off + 1, none⟩ = some (.int .u8 x1))
    (hs2 : 2 < k → w.cell? ⟨b, off + 2, none⟩ = some (.int .u8 x2)) (hf : k < firstT x0 % 8) :
    Calls Tryz.prog 157 #[.slice (some ⟨b, off, none⟩) k cap] w fun e w' => e = .returned (.bool (slowAns k x1 x2 (accLo (firstT x0 / 16)) (accHi (firstT x0 / 16)))) ∧ Below w.heap.size w w' := by
  have hc0 := hT.1 x0 hx
  have k2 : (2 : Int) ≤ (k : Int) := by omega
  have k0 : ((k : Int) == 0) = false := by rw [beq_eq_false_iff_ne]; omega
  have k0' : (0 : Int) < (k : Int) := by omega
  have k1' : (1 : Int) < (k : Int) := by omega
  have hb : b < w.heap.size := block_lt_of_cell hs0
  rcases M1.firstCases x0 with hX | hX | hX | hX | hX | hX | hX | hX | hX
  all_goals
    rw [hX] at hc0 hf ⊢
    clear hX
  · omega
  · omega
  · omega
  · -- 19
    have ha0 := (hT.2 1 (by omega)).1
    have ha1 := (hT.2 1 (by omega)).2
    simp only [accLo, accHi, Nat.reduceMul, Nat.reduceAdd, Nat.reduceEqDiff, if_true, if_false, Nat.reduceDiv] at ha0 ha1 ⊢
    clear hT
    obtain rfl : k = 2 := by omega
    clear hs2
    by_cases c1 : x1 < 160
    · have d1 : decide ((x1 : Int) < 160) = true := by simp; omega
      go_enter Tryz.func157, Tryz.ntmps157
      go_wp2
      go_quiet (fail)
      go_wp2
      go_ret
      exact ⟨ret_bool (slowAns_1 (.inl (by omega))), below_drewN ((Below.refl _ _).alloc (Nat.le_refl _) _) _⟩
    · by_cases c2 : 191 < x1
      · have d1 : decide ((x1 : Int) < 160) = false := by simp; omega
        have d2 : decide (191 < (x1 : Int)) = true := by simp; omega
        go_enter Tryz.func157, Tryz.ntmps157
        go_wp2
        go_quiet (fail)
        go_wp2
        go_ret
        exact ⟨ret_bool (slowAns_1 (.inr (by omega))), below_drewN ((Below.refl _ _).alloc (Nat.le_refl _) _) _⟩
      · have d1 : decide ((x1 : Int) < 160) = false := by simp; omega
        have d2 : decide (191 < (x1 : Int)) = false := by simp; omega
        go_enter Tryz.func157, Tryz.ntmps157
        go_wp2
        go_quiet (fail)
        go_wp2
        go_ret
        exact ⟨ret_bool (slowAns_3 (by omega) (by omega)), below_drewN ((Below.refl _ _).alloc (Nat.le_refl _) _) _⟩
  · -- 3
    have ha0 := (hT.2 0 (by omega)).1
    have ha1 := (hT.2 0 (by omega)).2
    simp only [accLo, accHi, Nat.reduceMul, Nat.reduceAdd, Nat.reduceEqDiff, if_true, if_false, Nat.reduceDiv] at ha0 ha1 ⊢
    clear hT
    obtain rfl : k = 2 := by omega
    clear hs2
    by_cases c1 : x1 < 128
    · have d1 : decide ((x1 : Int) < 128) = true := by simp; omega
      go_enter Tryz.func157, Tryz.ntmps157
      go_wp2
      go_quiet (fail)
      go_wp2
      go_ret
      exact ⟨ret_bool (slowAns_1 (.inl (by omega))), below_drewN ((Below.refl _ _).alloc (Nat.le_refl _) _) _⟩
    · by_cases c2 : 191 < x1
      · have d1 : decide ((x1 : Int) < 128) = false := by simp; omega
        have d2 : decide (191 < (x1 : Int)) = true := by simp; omega
        go_enter Tryz.func157, Tryz.ntmps157
        go_wp2
        go_quiet (fail)
        go_wp2
        go_ret
        exact ⟨ret_bool (slowAns_1 (.inr (by omega))), below_drewN ((Below.refl _ _).alloc (Nat.le_refl _) _) _⟩
      · have d1 : decide ((x1 : Int) < 128) = false := by simp; omega
        have d2 : decide (191 < (x1 : Int)) = false := by simp; omega
        go_enter Tryz.func157, Tryz.ntmps157
        go_wp2
        go_quiet (fail)
        go_wp2
        go_ret
        exact ⟨ret_bool (slowAns_3 (by omega) (by omega)), below_drewN ((Below.refl _ _).alloc (Nat.le_refl _) _) _⟩
  · -- 35
    have ha0 := (hT.2 2 (by omega)).1
    have ha1 := (hT.2 2 (by omega)).2
    simp only [accLo, accHi, Nat.reduceMul, Nat.reduceAdd, Nat.reduceEqDiff, if_true, if_false, Nat.reduceDiv] at ha0 ha1 ⊢
    clear hT
    obtain rfl : k = 2 := by omega
    clear hs2
    by_cases c1 : x1 < 128
    · have d1 : decide ((x1 : Int) < 128) = true := by simp; omega
      go_enter Tryz.func157, Tryz.ntmps157
      go_wp2
      go_quiet (fail)
      go_wp2
      go_ret
      exact ⟨ret_bool (slowAns_1 (.inl (by omega))), below_drewN ((Below.refl _ _).alloc (Nat.le_refl _) _) _⟩
    · by_cases c2 : 159 < x1
      · have d1 : decide ((x1 : Int) < 128) = false := by simp; omega
        have d2 : decide (159 < (x1 : Int)) = true := by simp; omega
        go_enter Tryz.func157, Tryz.ntmps157
        go_wp2
        go_quiet (fail)
        go_wp2
        go_ret
        exact ⟨ret_bool (slowAns_1 (.inr (by omega))), below_drewN ((Below.refl _ _).alloc (Nat.le_refl _) _) _⟩
      · have d1 : decide ((x1 : Int) < 128) = false := by simp; omega
        have d2 : decide (159 < (x1 : Int)) = false := by simp; omega
        go_enter Tryz.func157, Tryz.ntmps157
        go_wp2
        go_quiet (fail)
        go_wp2
        go_ret
        exact ⟨ret_bool (slowAns_3 (by omega) (by omega)), below_drewN ((Below.refl _ _).alloc (Nat.le_refl _) _) _⟩
  · -- 52
    have ha0 := (hT.2 3 (by omega)).1
    have ha1 := (hT.2 3 (by omega)).2
    simp only [accLo, accHi, Nat.reduceMul, Nat.reduceAdd, Nat.reduceEqDiff, if_true, if_false, Nat.reduceDiv] at ha0 ha1 ⊢
    clear hT
    obtain rfl | rfl : k = 2 ∨ k = 3 := by omega
    · clear hs2
      by_cases c1 : x1 < 144
      · have d1 : decide ((x1 : Int) < 144) = true := by simp; omega
        go_enter Tryz.func157, Tryz.ntmps157
        go_wp2
        go_quiet (fail)
        go_wp2
        go_ret
        exact ⟨ret_bool (slowAns_1 (.inl (by omega))), below_drewN ((Below.refl _ _).alloc (Nat.le_refl _) _) _⟩
      · by_cases c2 : 191 < x1
        · have d1 : decide ((x1 : Int) < 144) = false := by simp; omega
          have d2 : decide (191 < (x1 : Int)) = true := by simp; omega
          go_enter Tryz.func157, Tryz.ntmps157
          go_wp2
          go_quiet (fail)
          go_wp2
          go_ret
          exact ⟨ret_bool (slowAns_1 (.inr (by omega))), below_drewN ((Below.refl _ _).alloc (Nat.le_refl _) _) _⟩
        · have d1 : decide ((x1 : Int) < 144) = false := by simp; omega
          have d2 : decide (191 < (x1 : Int)) = false := by simp; omega
          go_enter Tryz.func157, Tryz.ntmps157
          go_wp2
          go_quiet (fail)
          go_wp2
          go_ret
          exact ⟨ret_bool (slowAns_3 (by omega) (by omega)), below_drewN ((Below.refl _ _).alloc (Nat.le_refl _) _) _⟩
    · have hs2 := hs2 (by omega)
      by_cases c1 : x1 < 144
      · have d1 : decide ((x1 : Int) < 144) = true := by simp; omega
        go_enter Tryz.func157, Tryz.ntmps157
        go_wp2
        go_quiet (fail)
        go_wp2
        go_ret
        exact ⟨ret_bool (slowAns_1 (.inl (by omega))), below_drewN ((Below.refl _ _).alloc (Nat.le_refl _) _) _⟩
      · by_cases c2 : 191 < x1
        · have d1 : decide ((x1 : Int) < 144) = false := by simp; omega
          have d2 : decide (191 < (x1 : Int)) = true := by simp; omega
          go_enter Tryz.func157, Tryz.ntmps157
          go_wp2
          go_quiet (fail)
          go_wp2
          go_ret
          exact ⟨ret_bool (slowAns_1 (.inr (by omega))), below_drewN ((Below.refl _ _).alloc (Nat.le_refl _) _) _⟩
        · by_cases c3 : x2 < 128
          · have d1 : decide ((x1 : Int) < 144) = false := by simp; omega
            have d2 : decide (191 < (x1 : Int)) = false := by simp; omega
            have d3 : decide ((x2 : Int) < 128) = true := by simp; omega
            go_enter Tryz.func157, Tryz.ntmps157
            go_wp2
            go_quiet (fail)
            go_wp2
            go_ret
            exact ⟨ret_bool (slowAns_2 (by omega) (by omega)), below_drewN ((Below.refl _ _).alloc (Nat.le_refl _) _) _⟩
          · by_cases c4 : 191 < x2
            · have d1 : decide ((x1 : Int) < 144) = false := by simp; omega
              have d2 : decide (191 < (x1 : Int)) = false := by simp; omega
              have d3 : decide ((x2 : Int) < 128) = false := by simp; omega
              have d4 : decide (191 < (x2 : Int)) = true := by simp; omega
              go_enter Tryz.func157, Tryz.ntmps157
              go_wp2
              go_quiet (fail)
              go_wp2
              go_ret
              exact ⟨ret_bool (slowAns_2 (by omega) (by omega)), below_drewN ((Below.refl _ _).alloc (Nat.le_refl _) _) _⟩
            · have d1 : decide ((x1 : Int) < 144) = false := by simp; omega
              have d2 : decide (191 < (x1 : Int)) = false := by simp; omega
              have d3 : decide ((x2 : Int) < 128) = false := by simp; omega
              have d4 : decide (191 < (x2 : Int)) = false := by simp; omega
              go_enter Tryz.func157, Tryz.ntmps157
              go_wp2
              go_quiet (fail)
              go_wp2
              go_ret
              exact ⟨ret_bool (slowAns_3 (by omega) (by omega)), below_drewN ((Below.refl _ _).alloc (Nat.le_refl _) _) _⟩
  · -- 4
    have ha0 := (hT.2 0 (by omega)).1
    have ha1 := (hT.2 0 (by omega)).2
    simp only [accLo, accHi, Nat.reduceMul, Nat.reduceAdd, Nat.reduceEqDiff, if_true, if_false, Nat.reduceDiv] at ha0 ha1 ⊢
    clear hT
    obtain rfl | rfl : k = 2 ∨ k = 3 := by omega
    · clear hs2
      by_cases c1 : x1 < 128
      · have d1 : decide ((x1 : Int) < 128) = true := by simp; omega
        go_enter Tryz.func157, Tryz.ntmps157
        go_wp2
        go_quiet (fail)
        go_wp2
        go_ret
        exact ⟨ret_bool (slowAns_1 (.inl (by omega))), below_drewN ((Below.refl _ _).alloc (Nat.le_refl _) _) _⟩
      · by_cases c2 : 191 < x1
        · have d1 : decide ((x1 : Int) < 128) = false := by simp; omega
          have d2 : decide (191 < (x1 : Int)) = true := by simp; omega
          go_enter Tryz.func157, Tryz.ntmps157
          go_wp2
          go_quiet (fail)
          go_wp2
          go_ret
          exact ⟨ret_bool (slowAns_1 (.inr (by omega))), below_drewN ((Below.refl _ _).alloc (Nat.le_refl _) _) _⟩
        · have d1 : decide ((x1 : Int) < 128) = false := by simp; omega
          have d2 : decide (191 < (x1 : Int)) = false := by simp; omega
          go_enter Tryz.func157, Tryz.ntmps157
          go_wp2
          go_quiet (fail)
          go_wp2
          go_ret
          exact ⟨ret_bool (slowAns_3 (by omega) (by omega)), below_drewN ((Below.refl _ _).alloc (Nat.le_refl _) _) _⟩
    · have hs2 := hs2 (by omega)
      by_cases c1 : x1 < 128
      · have d1 : decide ((x1 : Int) < 128) = true := by simp; omega
        go_enter Tryz.func157, Tryz.ntmps157
        go_wp2
        go_quiet (fail)
        go_wp2
        go_ret
        exact ⟨ret_bool (slowAns_1 (.inl (by omega))), below_drewN ((Below.refl _ _).alloc (Nat.le_refl _) _) _⟩
      · by_cases c2 : 191 < x1
        · have d1 : decide ((x1 : Int) < 128) = false := by simp; omega
          have d2 : decide (191 < (x1 : Int)) = true := by simp; omega
          go_enter Tryz.func157, Tryz.ntmps157
          go_wp2
          go_quiet (fail)
          go_wp2
          go_ret
          exact ⟨ret_bool (slowAns_1 (.inr (by omega))), below_drewN ((Below.refl _ _).alloc (Nat.le_refl _) _) _⟩
        · by_cases c3 : x2 < 128
          · have d1 : decide ((x1 : Int) < 128) = false := by simp; omega
            have d2 : decide (191 < (x1 : Int)) = false := by simp; omega
            have d3 : decide ((x2 : Int) < 128) = true := by simp; omega
            go_enter Tryz.func157, Tryz.ntmps157
            go_wp2
            go_quiet (fail)
            go_wp2
            go_ret
            exact ⟨ret_bool (slowAns_2 (by omega) (by omega)), below_drewN ((Below.refl _ _).alloc (Nat.le_refl _) _) _⟩
          · by_cases c4 : 191 < x2
            · have d1 : decide ((x1 : Int) < 128) = false := by simp; omega
              have d2 : decide (191 < (x1 : Int)) = false := by simp; omega
              have d3 : decide ((x2 : Int) < 128) = false := by simp; omega
              have d4 : decide (191 < (x2 : Int)) = true := by simp; omega
              go_enter Tryz.func157, Tryz.ntmps157
              go_wp2
              go_quiet (fail)
              go_wp2
              go_ret
              exact ⟨ret_bool (slowAns_2 (by omega) (by omega)), below_drewN ((Below.refl _ _).alloc (Nat.le_refl _) _) _⟩
            · have d1 : decide ((x1 : Int) < 128) = false := by simp; omega
              have d2 : decide (191 < (x1 : Int)) = false := by simp; omega
              have d3 : decide ((x2 : Int) < 128) = false := by simp; omega
              have d4 : decide (191 < (x2 : Int)) = false := by simp; omega
              go_enter Tryz.func157, Tryz.ntmps157
              go_wp2
              go_quiet (fail)
              go_wp2
              go_ret
              exact ⟨ret_bool (slowAns_3 (by omega) (by omega)), below_drewN ((Below.refl _ _).alloc (Nat.le_refl _) _) _⟩
  · -- 68
    have ha0 := (hT.2 4 (by omega)).1
    have ha1 := (hT.2 4 (by omega)).2
    simp only [accLo, accHi, Nat.reduceMul, Nat.reduceAdd, Nat.reduceEqDiff, if_true, if_false, Nat.reduceDiv] at ha0 ha1 ⊢
    clear hT
    obtain rfl | rfl : k = 2 ∨ k = 3 := by omega
    · clear hs2
      by_cases c1 : x1 < 128
      · have d1 : decide ((x1 : Int) < 128) = true := by simp; omega
        go_enter Tryz.func157, Tryz.ntmps157
        go_wp2
        go_quiet (fail)
        go_wp2
        go_ret
        exact ⟨ret_bool (slowAns_1 (.inl (by omega))), below_drewN ((Below.refl _ _).alloc (Nat.le_refl _) _) _⟩
      · by_cases c2 : 143 < x1
        · have d1 : decide ((x1 : Int) < 128) = false := by simp; omega
          have d2 : decide (143 < (x1 : Int)) = true := by simp; omega
          go_enter Tryz.func157, Tryz.ntmps157
          go_wp2
          go_quiet (fail)
          go_wp2
          go_ret
          exact ⟨ret_bool (slowAns_1 (.inr (by omega))), below_drewN ((Below.refl _ _).alloc (Nat.le_refl _) _) _⟩
        · have d1 : decide ((x1 : Int) < 128) = false := by simp; omega
          have d2 : decide (143 < (x1 : Int)) = false := by simp; omega
          go_enter Tryz.func157, Tryz.ntmps157
          go_wp2
          go_quiet (fail)
          go_wp2
          go_ret
          exact ⟨ret_bool (slowAns_3 (by omega) (by omega)), below_drewN ((Below.refl _ _).alloc (Nat.le_refl _) _) _⟩
    · have hs2 := hs2 (by omega)
      by_cases c1 : x1 < 128
      · have d1 : decide ((x1 : Int) < 128) = true := by simp; omega
        go_enter Tryz.func157, Tryz.ntmps157
        go_wp2
        go_quiet (fail)
        go_wp2
        go_ret
        exact ⟨ret_bool (slowAns_1 (.inl (by omega))), below_drewN ((Below.refl _ _).alloc (Nat.le_refl _) _) _⟩
      · by_cases c2 : 143 < x1
        · have d1 : decide ((x1 : Int) < 128) = false := by simp; omega
          have d2 : decide (143 < (x1 : Int)) = true := by simp; omega
          go_enter Tryz.func157, Tryz.ntmps157
          go_wp2
          go_quiet (fail)
          go_wp2
          go_ret
          exact ⟨ret_bool (slowAns_1 (.inr (by omega))), below_drewN ((Below.refl _ _).alloc (Nat.le_refl _) _) _⟩
        · by_cases c3 : x2 < 128
          · have d1 : decide ((x1 : Int) < 128) = false := by simp; omega
            have d2 : decide (143 < (x1 : Int)) = false := by simp; omega
            have d3 : decide ((x2 : Int) < 128) = true := by simp; omega
            go_enter Tryz.func157, Tryz.ntmps157
            go_wp2
            go_quiet (fail)
            go_wp2
            go_ret
            exact ⟨ret_bool (slowAns_2 (by omega) (by omega)), below_drewN ((Below.refl _ _).alloc (Nat.le_refl _) _) _⟩
          · by_cases c4 : 191 < x2
            · have d1 : decide ((x1 : Int) < 128) = false := by simp; omega
              have d2 : decide (143 < (x1 : Int)) = false := by simp; omega
              have d3 : decide ((x2 : Int) < 128) = false := by simp; omega
              have d4 : decide (191 < (x2 : Int)) = true := by simp; omega
              go_enter Tryz.func157, Tryz.ntmps157
              go_wp2
              go_quiet (fail)
              go_wp2
              go_ret
              exact ⟨ret_bool (slowAns_2 (by omega) (by omega)), below_drewN ((Below.refl _ _).alloc (Nat.le_refl _) _) _⟩
            · have d1 : decide ((x1 : Int) < 128) = false := by simp; omega
              have d2 : decide (143 < (x1 : Int)) = false := by simp; omega
              have d3 : decide ((x2 : Int) < 128) = false := by simp; omega
              have d4 : decide (191 < (x2 : Int)) = false := by simp; omega
              go_enter Tryz.func157, Tryz.ntmps157
              go_wp2
              go_quiet (fail)
              go_wp2
              go_ret
              exact ⟨ret_bool (slowAns_3 (by omega) (by omega)), below_drewN ((Below.refl _ _).alloc (Nat.le_refl _) _) _⟩
end Go.Proofs.YtnedjafpjbfncaaGreatDoor.S

namespace Go.Proofs.YtnedjafpjbfncaaGreatDoor.S
open Go.RowKit Go.Shelf
open Go.Lib

/-- n bytes lie from a place on. -/
def Bs (w : World) (b off n : Nat) (f : Nat → Nat) : Prop := ∀ j, j < n → w.cell? ⟨b, off + j, none⟩ = some (.int .u8 (f j : Nat)) ∧ f j < 256

theorem Bs.lt {w : World} {b off n : Nat} {f : Nat → Nat} (h : Bs w b off n f) (hn : 0 < n) : b < w.heap.size := block_lt_of_cell (h 0 hn).1
theorem Bs.below {w w' : World} {b off n B : Nat} {f : Nat → Nat} (h : Bs w b off n f) (hb : Below B w w') (hB : b < B) : Bs w' b off n f :=
  fun j hj => ⟨(hb.cell (p := ⟨b, off + j, none⟩) hB).trans (h j hj).1, (h j hj).2⟩
theorem Bs.drop {w : World} {b off n : Nat} {f : Nat → Nat} (h : Bs w b off n f) (k : Nat) : Bs w b (off + k) (n - k) (fun j => f (k + j)) :=
  fun j hj => by have := h (k + j) (by omega); rw [← Nat.add_assoc] at this; exact this
theorem Bs.take {w : World} {b off n : Nat} {f : Nat → Nat} (h : Bs w b off n f) {k : Nat} (hk : k ≤ n) : Bs w b off k f := fun j hj => h j (by omega)
/-- The two tables lie below. -/
def Tabs (w : World) : Prop := Utf8Tabs 3 4 w ∧ 5 ≤ w.heap.size
theorem Tabs.below {w w' : World} {B : Nat} (h : Tabs w) (hb : Below B w w') (hB : 5 ≤ B) : Tabs w' := by
  refine ⟨⟨fun c hc => (hb.cell (p := ⟨3, c, none⟩) (by show 3 < B; omega)).trans (h.1.1 c hc), fun i hi => ⟨?_, ?_⟩⟩, ?_⟩
  · exact (hb.cell (p := ⟨4, 2 * i, none⟩) (by show 4 < B; omega)).trans (h.1.2 i hi).1
  · exact (hb.cell (p := ⟨4, 2 * i + 1, none⟩) (by show 4 < B; omega)).trans (h.1.2 i hi).2
  · have := hb.size; have := h.2; omega

/-- FullRune at two bytes and more. -/
theorem full_any (b off k cap n : Nat) (f : Nat → Nat) (w : World) (hT : Tabs w) (hB : Bs w b off n f) (h2 : 2 ≤ k) (hk : k ≤ n) :
    Calls Tryz.prog 157 #[.slice (some ⟨b, off, none⟩) k cap] w fun e w' => e = .returned (.bool (M1.fullB k (f 0) (f 1) (f 2))) ∧ Below w.heap.size w w' := by
  have h0 := hB 0 (by omega)
  have h1 := hB 1 (by omega)
  by_cases hf : firstT (f 0) % 8 ≤ k
  · have e : M1.fullB k (f 0) (f 1) (f 2) = true := by unfold M1.fullB M1.fullS; rw [if_pos hf]
    rw [e]
    refine (full_early b off k cap (f 0) w hT.1 h0.2 h2 h0.1 hf).mono ?_
    rintro e w' ⟨rfl, rfl⟩
    exact ⟨rfl, Below.refl _ _⟩
  · have e : M1.fullB k (f 0) (f 1) (f 2) = slowAns k (f 1) (f 2) (accLo (firstT (f 0) / 16)) (accHi (firstT (f 0) / 16)) := by
      unfold M1.fullB M1.fullS slowAns
      rw [if_neg hf]
      by_cases c : f 1 < accLo (firstT (f 0) / 16) ∨ accHi (firstT (f 0) / 16) < f 1
      · rw [if_pos c, if_pos ⟨by omega, c⟩]
      · rw [if_neg c, if_neg (fun h => c h.2)]
    rw [e]
    exact full_slow b off k cap (f 0) (f 1) (f 2) w hT.1 h0.2 h2 h0.1 h1.1 (fun h => (hB 2 (by omega)).1) (by omega)

set_option maxHeartbeats 1000000 in
/-- scalar.brokenSize. -/
theorem brk_any (b off n cap : Nat) (f : Nat → Nat) (w : World) (hT : Tabs w) (hB : Bs w b off n f) (hn : 1 ≤ n) (hc : n ≤ cap) (hm : cap ≤ maxLen) :
    Calls Tryz.prog 155 #[.slice (some ⟨b, off, none⟩) n cap] w fun e w' => ∃ k : Nat, e = .returned (.int .i64 k) ∧ M1.Brk n (f 0) (f 1) (f 2) k ∧ Below w.heap.size w w' := by
  unfold maxLen at hm
  have hlt := hB.lt (by omega)
  have hn1 : (1 : Int) ≤ (n : Int) := by omega
  have hc1 : (n : Int) ≤ (cap : Int) := by omega
  go_enter Tryz.func155, Tryz.ntmps155
  go_wp2
  go_loopw [3] (fun s wr => ∃ k : Nat, 1 ≤ k ∧ k ≤ n ∧ s = .int .i64 k ∧ (∀ j, 2 ≤ j → j ≤ k → M1.fullB j (f 0) (f 1) (f 2) = false) ∧ Below w.heap.size w wr) (fun s _ => n - (RowKit.intOf s).toNat)
  case atStart => exact ⟨1, by omega, by omega, rfl, fun j a b => by omega, Below.refl _ _⟩
  case round =>
    obtain ⟨k, hk1, hkn, rfl, hfs, hb⟩ := hrel
    have HF := Lib.hid hfs
    clear hfs
    by_cases hlt : k < n
    · have hki : (k : Int) + 1 ≤ (n : Int) := by omega
      have hT' := Lib.hid (hT.below hb (by have := hT.2; omega))
      have hB' := Lib.hid (hB.below hb (by omega))
      have C := fun W (h1 : Tabs W) (h2 : Bs W b off n f) => full_any b off (k + 1) cap n f W h1 h2 (by omega) (by omega)
      cases hv : M1.fullB (k + 1) (f 0) (f 1) (f 2)
      · rw [hv] at C
        have C := Lib.hid C
        have HV := Lib.hid hv
        clear hv
        go_wp2_with (go_at_call 157; refine (C.out _ hT'.out hB'.out).mono ?_; rintro e w1 ⟨rfl, hb1⟩)
        go_roundw
        case rel => exact ⟨k + 1, by omega, by omega, by go_num, fun j a c => by
          rcases Nat.lt_or_ge k j with h | h
          · obtain rfl : j = k + 1 := by omega
            exact HV.out
          · exact HF.out j a h, hb.trans (hb1.mono hb.size)⟩
        case measure => simp [RowKit.intOf]; omega
      · rw [hv] at C
        have C := Lib.hid C
        have HV := Lib.hid hv
        clear hv
        go_wp2_with (go_at_call 157; refine (C.out _ hT'.out hB'.out).mono ?_; rintro e w1 ⟨rfl, hb1⟩)
        go_ret
        exact ⟨k, rfl, ⟨hk1, hkn, HF.out, fun _ => HV.out⟩, hb.trans (hb1.mono hb.size)⟩
    · have hki : (n : Int) ≤ (k : Int) := by omega
      go_wp2
      go_ret
      exact ⟨k, rfl, ⟨hk1, hkn, HF.out, fun h => absurd h hlt⟩, hb⟩

end Go.Proofs.YtnedjafpjbfncaaGreatDoor.S

namespace Go.Proofs.YtnedjafpjbfncaaGreatDoor.S
open Go.RowKit Go.Shelf
open Go.Lib

/-- The byte at a place; 0 behind the end. -/
def bt (n : Nat) (f : Nat → Nat) (j : Nat) : Nat := if j < n then f j else 0
/-- What is read of n bytes. -/
def pc (n : Nat) (f : Nat → Nat) : Nat × Nat × Bool := M1.pieceB n (bt n f 0) (bt n f 1) (bt n f 2) (bt n f 3)
theorem pc_size (n : Nat) (f : Nat → Nat) (hn : 1 ≤ n) : 1 ≤ (pc n f).2.1 ∧ (pc n f).2.1 ≤ n ∧ (pc n f).2.1 ≤ 4 := M1.pieceB_size _ _ _ _ _ hn
theorem Bs.norm {w : World} {b off n : Nat} {f : Nat → Nat} (h : Bs w b off n f) : Bs w b off n (bt n f) := fun j hj => by
  unfold bt
  rw [if_pos hj]
  exact h j hj
theorem bt_lt {w : World} {b off n : Nat} {f : Nat → Nat} (h : Bs w b off n f) (j : Nat) : bt n f j < 256 := by
  unfold bt
  split
  · exact (h j (by assumption)).2
  · omega

theorem bytesOf (n : Nat) (f : Nat → Nat) (hf : ∀ j, j < n → f j < 256) : ∃ s : ByteArray, s.size = n ∧ ∀ j, (s.get! j).toNat = bt n f j := by
  refine ⟨⟨((List.range n).map fun j => (f j).toUInt8).toArray⟩, by simp [ByteArray.size], fun j => ?_⟩
  unfold bt
  by_cases h : j < n
  · rw [if_pos h]
    have := hf j h
    simp [ByteArray.get!, h]
    omega
  · rw [if_neg h]
    simp [ByteArray.get!, h]
    rfl

/-- unicode/utf8.DecodeRune. -/
theorem dr_any (b off n cap : Nat) (f : Nat → Nat) (w : World) (hT : Tabs w) (hB : Bs w b off n f) (hn : 1 ≤ n) :
    Calls Tryz.prog 154 #[.slice (some ⟨b, off, none⟩) n cap] w fun e w' => e = .returned (.tuple #[.int .i32 (decodeN n (bt n f 0) (bt n f 1) (bt n f 2) (bt n f 3)).1, .int .i64 (decodeN n (bt n f 0) (bt n f 1) (bt n f 2) (bt n f 3)).2]) ∧ Below w.heap.size w w' := by
  obtain ⟨s, hs, hg⟩ := bytesOf n f (fun j hj => (hB j hj).2)
  have e : decodeGo s = decodeN n (bt n f 0) (bt n f 1) (bt n f 2) (bt n f 3) := by
    unfold decodeGo
    rw [if_neg (by omega), decode_at, hs, hg, hg, hg, hg]
    rfl
  have c := Any7.utf8_DecodeRune Tryz.lays32 s b off cap w hT.1 (fun j hj => by
    have := (hB.norm j (by omega)).1
    rw [← hg j] at this
    exact this)
  rw [e, hs] at c
  exact c

theorem Bs.alloc {w : World} {b off n : Nat} {f : Nat → Nat} (h : Bs w b off n f) (hn : 0 < n) (o : Obj) : Bs (w.alloc o) b off n f :=
  h.below (B := w.heap.size) ((Below.refl _ w).alloc (Nat.le_refl _) o) (h.lt hn)
theorem Tabs.alloc {w : World} (h : Tabs w) (o : Obj) : Tabs (w.alloc o) := h.below ((Below.refl _ w).alloc (Nat.le_refl _) o) h.2
theorem Tryz.cells200 : Tryz.prog.cellsOf 200 = 4 := by kernel_rfl

set_option maxHeartbeats 1000000 in
/-- scalar.decode: the scalar that is read at a place. -/
theorem dec_any (b off n cap i : Nat) (f : Nat → Nat) (w : World) (hT : Tabs w) (hB : Bs w b off n f) (hi : i < n) (hc : n ≤ cap) (hm : cap ≤ maxLen) :
    Calls Tryz.prog 149 #[.slice (some ⟨b, off, none⟩) n cap, .int .i64 i] w fun e w' =>
      e = .returned (.agg #[.int .i32 (pc (n - i) (fun j => f (i + j))).1, .int .i64 i, .int .i64 (pc (n - i) (fun j => f (i + j))).2.1, .bool (pc (n - i) (fun j => f (i + j))).2.2]) ∧ Below w.heap.size w w' := by
  unfold maxLen at hm
  have hlt := hB.lt (by omega)
  have hi0 : (0 : Int) ≤ (i : Int) := by omega
  have hi1 : (i : Int) < (n : Int) := by omega
  have hc1 : (n : Int) ≤ (cap : Int) := by omega
  have hB' := hB.drop i
  have hD := fun W (h1 : Tabs W) (h2 : Bs W b (off + i) (n - i) (fun j => f (i + j))) => dr_any b (off + i) (n - i) (cap - i) _ W h1 h2 (by omega)
  have hK := fun W (h1 : Tabs W) (h2 : Bs W b (off + i) (n - i) (bt (n - i) fun j => f (i + j))) => brk_any b (off + i) (n - i) (cap - i) _ W h1 h2 (by omega) (by omega) (by unfold maxLen; omega)
  have hl := bt_lt hB'
  generalize hg : (fun j => f (i + j)) = g at *
  have HT := Lib.hid hT
  have HB := Lib.hid hB'
  cases hw : (pc (n - i) g).2.2
  · obtain ⟨e1, e2⟩ := M1.pieceB_broken (n - i) _ _ _ _ (by omega) (hl 0) (hl 1) (hl 2) (hl 3) hw
    have hk := fun k => M1.brk_size (n - i) _ _ _ _ k (by omega) hw
    rw [e1] at hD
    have e2' : (pc (n - i) g).1 = 65533 := e2
    have hk' : ∀ k, M1.Brk (n - i) (bt (n - i) g 0) (bt (n - i) g 1) (bt (n - i) g 2) k → k = (pc (n - i) g).2.1 := hk
    rw [e2']
    clear e1 e2 e2' hk hw hB hB' hT hl hg
    have HD := Lib.hid hD
    have HK := Lib.hid hK
    have HQ := Lib.hid hk'
    clear hD hK hk'
    go_enter Tryz.func149, Tryz.ntmps149
    go_wp2_with fail
    refine (HD.out _ (HT.out.alloc _) (HB.out.alloc (by omega) _)).mono ?_
    rintro e w1 ⟨rfl, hb1⟩
    have hs1 := hb1.size
    rw [World.size_alloc] at hs1 hb1
    have q0 : w1.cell? ⟨w.heap.size, 0, none⟩ = some (.int .i32 0) := (hb1.cell (p := ⟨w.heap.size, 0, none⟩) (by simp)).trans (by simp)
    have q1 : w1.cell? ⟨w.heap.size, 1, none⟩ = some (.int .i64 0) := (hb1.cell (p := ⟨w.heap.size, 1, none⟩) (by simp)).trans (by simp)
    have q2 : w1.cell? ⟨w.heap.size, 2, none⟩ = some (.int .i64 0) := (hb1.cell (p := ⟨w.heap.size, 2, none⟩) (by simp)).trans (by simp)
    have q3 : w1.cell? ⟨w.heap.size, 3, none⟩ = some (.bool false) := (hb1.cell (p := ⟨w.heap.size, 3, none⟩) (by simp)).trans (by simp)
    have hbw : Below w.heap.size w w1 := ((Below.refl _ w).alloc (Nat.le_refl _) _).trans (hb1.mono (by omega))
    go_wp2_with fail
    refine (HK.out _ (HT.out.below hbw HT.out.2) (HB.out.below hbw hlt).norm).mono ?_
    rintro e w2 ⟨k, rfl, hkk, hb2⟩
    have hkq := HQ.out k hkk
    clear hkk
    subst hkq
    have hs2 := hb2.size
    have r0 := (hb2.cell (p := ⟨w.heap.size, 0, none⟩) (by show w.heap.size < _; omega)).trans q0
    have r1 := (hb2.cell (p := ⟨w.heap.size, 1, none⟩) (by show w.heap.size < _; omega)).trans q1
    have r2 := (hb2.cell (p := ⟨w.heap.size, 2, none⟩) (by show w.heap.size < _; omega)).trans q2
    have r3 := (hb2.cell (p := ⟨w.heap.size, 3, none⟩) (by show w.heap.size < _; omega)).trans q3
    have fz : ∀ j, w2.frozen? ⟨w.heap.size, j, none⟩ = false := fun j => (hb2.frozen (p := ⟨w.heap.size, j, none⟩) (by show w.heap.size < _; omega)).trans ((hb1.frozen (p := ⟨w.heap.size, j, none⟩) (by simp)).trans (by simp))
    have f0 := fz 0; have f1 := fz 1; have f2 := fz 2; have f3 := fz 3
    have hbz := hbw.trans (hb2.mono (by omega))
    clear q0 q1 q2 q3 fz
    go_wp2
    refine bodyPost_ret (v := .agg #[.int .i32 65533, .int .i64 i, .int .i64 (pc (n - i) g).2.1, .bool false]) ?_ rfl ⟨rfl, ?_⟩
    · simp [results, Tryz.results149, go_sem, r0, r1, r2, r3]
    · exact (((hbz.setCell (p := ⟨_, 0, none⟩) (Nat.le_refl _) _).setCell (p := ⟨_, 1, none⟩) (Nat.le_refl _) _).setCell (p := ⟨_, 2, none⟩) (Nat.le_refl _) _).setCell (p := ⟨_, 3, none⟩) (Nat.le_refl _) _
  · obtain ⟨e1, e2⟩ := M1.pieceB_whole (n - i) _ _ _ _ (by omega) (hl 1) (hl 2) (hl 3) hw
    have e1' : decodeN (n - i) (bt (n - i) g 0) (bt (n - i) g 1) (bt (n - i) g 2) (bt (n - i) g 3) = ((pc (n - i) g).1, (pc (n - i) g).2.1) := e1
    have e2' : (pc (n - i) g).1 ≠ 65533 ∨ (pc (n - i) g).2.1 ≠ 1 := e2
    rw [e1'] at hD
    clear e1 e1' e2 hK hw hB hB' hT hl hg
    generalize (pc (n - i) g).1 = R at *
    generalize (pc (n - i) g).2.1 = S at *
    have HD := Lib.hid hD
    clear hD
    by_cases c : R = 65533
    · have c1 : ((R : Int) == 65533) = true := by rw [beq_iff_eq]; omega
      have c2 : ((S : Int) == 1) = false := by rw [beq_eq_false_iff_ne]; omega
      clear e2' c1
      subst c
      have c2' : ((65533 : Int) == 65533) = true := rfl
      go_enter Tryz.func149, Tryz.ntmps149
      go_wp2_with fail
      refine (HD.out _ (HT.out.alloc _) (HB.out.alloc (by omega) _)).mono ?_
      rintro e w1 ⟨rfl, hb1⟩
      have hs1 := hb1.size
      rw [World.size_alloc] at hs1 hb1
      have q0 : w1.cell? ⟨w.heap.size, 0, none⟩ = some (.int .i32 0) := (hb1.cell (p := ⟨w.heap.size, 0, none⟩) (by simp)).trans (by simp)
      have q1 : w1.cell? ⟨w.heap.size, 1, none⟩ = some (.int .i64 0) := (hb1.cell (p := ⟨w.heap.size, 1, none⟩) (by simp)).trans (by simp)
      have q2 : w1.cell? ⟨w.heap.size, 2, none⟩ = some (.int .i64 0) := (hb1.cell (p := ⟨w.heap.size, 2, none⟩) (by simp)).trans (by simp)
      have q3 : w1.cell? ⟨w.heap.size, 3, none⟩ = some (.bool false) := (hb1.cell (p := ⟨w.heap.size, 3, none⟩) (by simp)).trans (by simp)
      have fz : ∀ j, w1.frozen? ⟨w.heap.size, j, none⟩ = false := fun j => (hb1.frozen (p := ⟨w.heap.size, j, none⟩) (by simp)).trans (by simp)
      have f0 := fz 0; have f1 := fz 1; have f2 := fz 2; have f3 := fz 3
      have hbw : Below w.heap.size w w1 := ((Below.refl _ w).alloc (Nat.le_refl _) _).trans (hb1.mono (by omega))
      clear fz
      go_wp2
      refine bodyPost_ret (v := .agg #[.int .i32 65533, .int .i64 i, .int .i64 S, .bool true]) ?_ rfl ⟨rfl, ?_⟩
      · simp [results, Tryz.results149, go_sem, q0, q1, q2, q3]
      · exact (((hbw.setCell (p := ⟨_, 0, none⟩) (Nat.le_refl _) _).setCell (p := ⟨_, 1, none⟩) (Nat.le_refl _) _).setCell (p := ⟨_, 2, none⟩) (Nat.le_refl _) _).setCell (p := ⟨_, 3, none⟩) (Nat.le_refl _) _
    · have c1 : ((R : Int) == 65533) = false := by rw [beq_eq_false_iff_ne]; omega
      clear c e2'
      go_enter Tryz.func149, Tryz.ntmps149
      go_wp2_with fail
      refine (HD.out _ (HT.out.alloc _) (HB.out.alloc (by omega) _)).mono ?_
      rintro e w1 ⟨rfl, hb1⟩
      have hs1 := hb1.size
      rw [World.size_alloc] at hs1 hb1
      have q0 : w1.cell? ⟨w.heap.size, 0, none⟩ = some (.int .i32 0) := (hb1.cell (p := ⟨w.heap.size, 0, none⟩) (by simp)).trans (by simp)
      have q1 : w1.cell? ⟨w.heap.size, 1, none⟩ = some (.int .i64 0) := (hb1.cell (p := ⟨w.heap.size, 1, none⟩) (by simp)).trans (by simp)
      have q2 : w1.cell? ⟨w.heap.size, 2, none⟩ = some (.int .i64 0) := (hb1.cell (p := ⟨w.heap.size, 2, none⟩) (by simp)).trans (by simp)
      have q3 : w1.cell? ⟨w.heap.size, 3, none⟩ = some (.bool false) := (hb1.cell (p := ⟨w.heap.size, 3, none⟩) (by simp)).trans (by simp)
      have fz : ∀ j, w1.frozen? ⟨w.heap.size, j, none⟩ = false := fun j => (hb1.frozen (p := ⟨w.heap.size, j, none⟩) (by simp)).trans (by simp)
      have f0 := fz 0; have f1 := fz 1; have f2 := fz 2; have f3 := fz 3
      have hbw : Below w.heap.size w w1 := ((Below.refl _ w).alloc (Nat.le_refl _) _).trans (hb1.mono (by omega))
      clear fz
      go_wp2
      refine bodyPost_ret (v := .agg #[.int .i32 R, .int .i64 i, .int .i64 S, .bool true]) ?_ rfl ⟨rfl, ?_⟩
      · simp [results, Tryz.results149, go_sem, q0, q1, q2, q3]
      · exact (((hbw.setCell (p := ⟨_, 0, none⟩) (Nat.le_refl _) _).setCell (p := ⟨_, 1, none⟩) (Nat.le_refl _) _).setCell (p := ⟨_, 2, none⟩) (Nat.le_refl _) _).setCell (p := ⟨_, 3, none⟩) (Nat.le_refl _) _
end Go.Proofs.YtnedjafpjbfncaaGreatDoor.S

namespace Go.Proofs.YtnedjafpjbfncaaGreatDoor.S
open Go.RowKit Go.Shelf
open Go.Lib

set_option maxHeartbeats 1000000 in
/-- scalar.Next, inside. -/
theorem next_in (b off n cap i : Nat) (f : Nat → Nat) (w : World) (hT : Tabs w) (hB : Bs w b off n f) (hi : i < n) (hc : n ≤ cap) (hm : cap ≤ maxLen) :
    Calls Tryz.prog 142 #[.slice (some ⟨b, off, none⟩) n cap, .int .i64 i] w fun e w' =>
      e = .returned (.tuple #[.int .i32 (pc (n - i) (fun j => f (i + j))).1, .int .i64 (pc (n - i) (fun j => f (i + j))).2.1]) ∧ Below w.heap.size w w' := by
  have C := dec_any b off n cap i f w hT hB hi hc hm
  generalize pc (n - i) (fun j => f (i + j)) = P at *
  obtain ⟨R, S, W⟩ := P
  have C := Lib.hid C
  have i0 : ¬ ((i : Int) < 0) := by omega
  have i1 : (i : Int) < (n : Int) := by omega
  have d1 : decide ((i : Int) < 0) = false := by simp
  have d2 : decide ((n : Int) ≤ (i : Int)) = false := by simp; omega
  clear hT hB
  go_enter Tryz.func142, Tryz.ntmps142
  go_wp2_with fail
  refine C.out.mono ?_
  rintro e w1 ⟨rfl, hb1⟩
  have hs := hb1.size
  go_wp2
  go_quiet (fail)
  go_wp2
  go_ret2
  exact ⟨rfl, below_drewN (hb1.alloc hs _) _⟩

/-- Bytes of the call's own. -/
def PutPost (l : List UInt8) (w : World) (e : Ending) (w' : World) : Prop :=
  ∃ g cap : Nat, e = .returned (.slice (some ⟨g, 0, none⟩) l.length cap) ∧ (∀ j (hj : j < l.length), w'.cell? ⟨g, j, none⟩ = some (.int .u8 (l[j].toNat : Int))) ∧ l.length ≤ cap ∧ cap ≤ maxLen ∧ g < w'.heap.size ∧ Below w.heap.size w w'

theorem ar_any (r : Int) (hr0 : -2147483648 ≤ r) (hr1 : r ≤ 2147483647) (w : World) : Calls Tryz.prog 91 #[.slice none 0 0, .int .i32 r] w (PutPost (encodeRune r) w) := by
  have c := Any.utf8_AppendRune_plain Tryz.lays242 (by kernel_rfl) w.heap.size (.slice none 0 0) 0 [] r hr0 hr1 w (World.ownsRow_nil _ _ _ _) (by omega) (Nat.le_refl _)
  refine Calls.mono c ?_
  rintro e w' ⟨v, rfl, hown, o, hg⟩
  have hl := encodeRuneZ_length r
  have hlen : (runeCells r).length = (encodeRune r).length := runeCells_length r
  have hl1 : 1 ≤ (encodeRune r).length := by unfold encodeRune; simpa using hl.1
  rw [List.nil_append, Nat.zero_add, hlen, ← byteCells_encodeRune] at hown
  have hb : Below w.heap.size w w' := ((Below.refl _ w).alloc (Nat.le_refl _) o).grown hg (by simp) (fun k e => by simp [Value.ownBlock] at e)
  rcases hown.2 with ⟨_, h0⟩ | ⟨g, cap, cur, rfl, hgb, hh, hnc, hcm, _⟩
  · omega
  · refine ⟨g, cap, rfl, fun j hj => ?_, hnc, ?_, (Array.getElem?_eq_some_iff.1 hh).1, hb⟩
    · have := hown.cellAt j (by omega)
      rw [this]
      simp [byteCells, hj]
    · exact hcm

set_option maxHeartbeats 1000000 in
/-- scalar.Put. -/
theorem put_any (r : Int) (hr0 : -2147483648 ≤ r) (hr1 : r ≤ 2147483647) (w : World) : Calls Tryz.prog 143 #[.int .i32 r] w (PutPost (encodeRune r) w) := by
  have C := Lib.hid (ar_any r hr0 hr1 w)
  go_enter Tryz.func143, Tryz.ntmps143
  go_wp2_with fail
  refine C.out.mono ?_
  rintro e w' ⟨g, cap, rfl, hc, h1, h2, h3, hb⟩
  have H := Lib.hid (And.intro hc (And.intro h1 (And.intro h2 (And.intro h3 hb))))
  clear hc h1 h2 h3 hb
  go_wp2
  go_ret
  exact ⟨g, cap, rfl, H.out.1, H.out.2.1, H.out.2.2.1, H.out.2.2.2.1, H.out.2.2.2.2⟩

end Go.Proofs.YtnedjafpjbfncaaGreatDoor.S

namespace Go.Proofs.YtnedjafpjbfncaaGreatDoor.S
open Go.RowKit Go.Shelf
open Go.Lib

/-- A letter, small. -/
def low (c : Nat) : Nat := c ||| 32
theorem low_lt (c : Nat) (h : c < 256) : low c < 256 := Nat.or_lt_two_pow (n := 8) h (by decide)
theorem lower_any (c : Nat) (h : c < 256) (w : World) : Calls Tryz.prog 150 #[.int .u8 c] w fun e w' => e = .returned (.int .u8 (low c)) ∧ w' = w := by
  have hb : bits .or .u8 (c : Int) 32 = (low c : Int) := by
    revert c
    decide +kernel
  go_enter Tryz.func150, Tryz.ntmps150
  go_wp2
  go_ret
  exact ⟨rfl, rfl⟩
theorem low_48 : ∀ c, c < 48 → low c < 97 := by decide +kernel
theorem low_95 : ∀ c, c = 95 → low c = 127 := by rintro c rfl; decide
/-- A sign's digit; 99: it is none. -/
def pd (c : Nat) : Nat := if 48 ≤ c ∧ c ≤ 57 then c - 48 else if 97 ≤ low c ∧ low c ≤ 122 then low c - 87 else 99
/-- Digits, read at base 16 in 32 bits: their number, or why there is none (true: no digit; false: too great). -/
def pu : List UInt8 → Nat → Except Bool Nat
  | [], n => .ok n
  | c :: r, n => if pd c.toNat < 16 then (if 16 * n + pd c.toNat ≤ 4294967295 then pu r (16 * n + pd c.toNat) else .error false) else .error true
def puE (l : List UInt8) : Except Bool Nat := if l = [] then .error true else pu l 0
def puV : Except Bool Nat → Value
  | .ok n => .tuple #[.int .u64 n, .nilIface]
  | .error true => .tuple #[.int .u64 0, .iface 193 (.int .i64 2)]
  | .error false => .tuple #[.int .u64 4294967295, .iface 193 (.int .i64 1)]

theorem bytes_new (w : World) (s : ByteArray) : ∃ W cap, (convert 9 22 (.string s)).run Tryz.prog w = .ok (.slice (some ⟨w.heap.size, 0, none⟩) s.size cap) W ∧ (∀ j (hj : j < s.data.toList.length), W.cell? ⟨w.heap.size, j, none⟩ = some (.int .u8 ((s.data.toList[j]'hj).toNat : Int))) ∧ Below w.heap.size w W := by
  refine ⟨_, _, run_bytes_of_string (P := Tryz.prog) w 9 22 5 s Tryz.underlying9 Tryz.underlying22 Tryz.underlying5, fun j hj => ?_, (Below.refl _ _).drew.alloc (Nat.le_refl _) _⟩
  have hj' : j < s.size := by simpa using hj
  have e : (w.drew.alloc (.cells (bytesRow s (grownCap w s.size 0 5)) 5 ((bytesRow s (grownCap w s.size 0 5)).size, (bytesRow s (grownCap w s.size 0 5)).size + 1))).heap[w.heap.size]? = some (.cells (bytesRow s (grownCap w s.size 0 5)) 5 ((bytesRow s (grownCap w s.size 0 5)).size, (bytesRow s (grownCap w s.size 0 5)).size + 1)) := by
    show (w.heap.push _)[w.heap.size]? = _
    simp
  unfold World.cell?
  dsimp only
  rw [e]
  show (bytesRow s _)[j]? = _
  unfold bytesRow
  rw [Array.getElem?_append_left (by simpa using hj')]
  simp [hj']

set_option maxHeartbeats 4000000 in
set_option maxRecDepth 100000 in
theorem pui_any (s : ByteArray) (w : World) (hs : s.size ≤ 1000000) :
    Calls Tryz.prog 144 #[.string s, .int .i64 16, .int .i64 32] w fun e w' => e = .returned (puV (puE s.data.toList)) ∧ Below w.heap.size w w' := by
  by_cases h0 : s.size = 0
  · have e : s.data.toList = [] := List.length_eq_zero_iff.1 (by simpa using h0)
    rw [e]
    have e1 : s.toList = [] := by rw [ByteArray.toList_eq]; exact e
    go_enter Tryz.func144, Tryz.ntmps144
    go_wp2
    go_ret2
    exact ⟨rfl, Below.refl _ _⟩
  · have hne : s.data.toList ≠ [] := fun e => h0 (by rw [← ByteArray.size_data, ← Array.length_toList, e]; rfl)
    have hR : puE s.data.toList = pu s.data.toList 0 := if_neg hne
    have hl : s.data.toList.length = s.size := by simp
    rw [hR]
    have e1 : s.toList.isEmpty = false := by rw [ByteArray.toList_eq]; cases h : s.data.toList <;> simp_all
    have CL := Lib.hid lower_any
    obtain ⟨W, cap, hconv, hcell, hb⟩ := bytes_new w s
    have HC := Lib.hid hcell
    have HB := Lib.hid hb
    have HL := Lib.hid hl
    generalize s.data.toList = L at *
    generalize s.size = n at *
    clear hne hR hcell hb hl
    go_enter Tryz.func144, Tryz.ntmps144
    go_wp2_with fail
    clear hconv
    obtain ⟨R, hRR⟩ : ∃ R, pu L 0 = R := ⟨_, rfl⟩
    have HR0 := Lib.hid hRR
    go_loopw [12, 13, 101] (fun us v i wr => ∃ k m : Nat, i = .int .i64 k ∧ k ≤ n ∧ v = .int .u64 m ∧ m ≤ 4294967295 ∧ pu (L.drop k) m = R ∧ us = .bool false ∧ wr = W) (fun _ _ i _ => n - (RowKit.intOf i).toNat)
    case atStart => exact ⟨0, 0, rfl, Nat.zero_le _, rfl, by omega, HR0.out, rfl, rfl⟩
    case round =>
      obtain ⟨k, m, rfl, hk, rfl, hm, hP, rfl, rfl⟩ := hrel
      have HP := Lib.hid hP
      clear hP
      by_cases hlt : k < n
      · have hcell := HC.out k (by have := HL.out; omega)
        have hdrop := List.drop_eq_getElem_cons (l := L) (i := k) (by have := HL.out; omega)
        have hc256 := (L[k]'(by have := HL.out; omega)).toNat_lt
        generalize hcc : L[k]'(by have := HL.out; omega) = c8 at *
        have HS : Hid (R = if pd c8.toNat < 16 then (if 16 * m + pd c8.toNat ≤ 4294967295 then pu (L.drop (k + 1)) (16 * m + pd c8.toNat) else .error false) else .error true) := Lib.hid (by rw [← HP.out, hdrop]; rfl)
        generalize hcn : c8.toNat = c at *
        clear hcn hcc hdrop HP
        have i1 : (k : Int) < (n : Int) := by omega
        have c0 : (0 : Int) ≤ (c : Int) := by omega
        have c1 : (c : Int) ≤ 255 := by omega
        have m1 : (m : Int) ≤ 4294967295 := by omega
        have m2 : decide ((1152921504606846976 : Int) ≤ (m : Int)) = false := by simp; omega
        have l0 := low_lt c hc256
        by_cases a : 48 ≤ c ∧ c ≤ 57
        · have e : pd c = c - 48 := if_pos a
          rw [e, if_pos (by omega)] at HS
          have a1 : (48 : Int) ≤ (c : Int) := by omega
          have a2 : (c : Int) ≤ 57 := by omega
          have a3 : decide ((16 : Int) ≤ (c : Int) - 48) = false := by simp; omega
          by_cases o : 16 * m + (c - 48) ≤ 4294967295
          · rw [if_pos o] at HS
            have o1 : decide ((m : Int) * 16 + ((c : Int) - 48) < (m : Int) * 16) = false := by simp; omega
            have o2 : decide ((4294967295 : Int) < (m : Int) * 16 + ((c : Int) - 48)) = false := by simp; omega
            have o3 : (m : Int) * 16 + ((c : Int) - 48) ≤ 4294967295 := by omega
            clear a e
            go_wp2
            go_roundw
            case rel => exact ⟨k + 1, 16 * m + (c - 48), by go_num, by omega, by go_num, o, HS.out.symm, rfl, trivial⟩
            case measure => simp [RowKit.intOf]; omega
          · rw [if_neg o] at HS
            have o1 : decide ((m : Int) * 16 + ((c : Int) - 48) < (m : Int) * 16) = false := by simp; omega
            have o2 : (4294967295 : Int) < (m : Int) * 16 + ((c : Int) - 48) := by omega
            clear a e
            go_wp2
            go_ret2
            exact ⟨by rw [HR0.out, HS.out]; rfl, HB.out⟩
        · have ep : pd c = if 97 ≤ low c ∧ low c ≤ 122 then low c - 87 else 99 := if_neg a
          have l1 : (low c : Int) ≤ 255 := by omega
          have l2 : (0 : Int) ≤ (low c : Int) := by omega
          have CL1 := Lib.hid (fun W => CL.out c hc256 W)
          have n48 := low_48 c
          have n95 := low_95 c
          generalize low c = l at *
          by_cases g : 48 ≤ c
          · have g1 : (48 : Int) ≤ (c : Int) := by omega
            have g2 : decide ((c : Int) ≤ 57) = false := by simp; omega
            by_cases u : c = 95
            · have u1 : ((c : Int) == 95) = true := by simp; omega
              have n127 := n95 u
              rw [if_neg (by omega)] at ep
              have b1 : (97 : Int) ≤ (l : Int) := by omega
              have b2 : decide ((l : Int) ≤ 122) = false := by simp; omega
              rw [ep, if_neg (by omega)] at HS
              clear ep a u n48 n95 n127
              go_wp2_with (first | (go_at_call 150; refine (CL1.out _).mono ?_; rintro e w' ⟨rfl, rfl⟩))
              go_ret2
              exact ⟨by rw [HR0.out, HS.out]; rfl, HB.out⟩
            · have u1 : ((c : Int) == 95) = false := by simp; omega
              clear u n48 n95
              by_cases q1 : 97 ≤ l
              · by_cases q2 : l ≤ 122
                · rw [if_pos ⟨q1, q2⟩] at ep
                  have b1 : (97 : Int) ≤ (l : Int) := by omega
                  have b2 : (l : Int) ≤ 122 := by omega
                  by_cases q3 : l ≤ 102
                  · have b3 : decide ((16 : Int) ≤ (l : Int) - 97 + 10) = false := by simp; omega
                    rw [ep, if_pos (by omega)] at HS
                    by_cases o : 16 * m + (l - 87) ≤ 4294967295
                    · rw [if_pos o] at HS
                      have o1 : decide ((m : Int) * 16 + ((l : Int) - 97 + 10) < (m : Int) * 16) = false := by simp; omega
                      have o2 : decide ((4294967295 : Int) < (m : Int) * 16 + ((l : Int) - 97 + 10)) = false := by simp; omega
                      have o3 : (m : Int) * 16 + ((l : Int) - 97 + 10) ≤ 4294967295 := by omega
                      clear a ep
                      go_wp2_with (first | (go_at_call 150; refine (CL1.out _).mono ?_; rintro e w' ⟨rfl, rfl⟩))
                      go_roundw
                      case rel => exact ⟨k + 1, 16 * m + (l - 87), by go_num, by omega, by go_num, o, HS.out.symm, rfl, trivial⟩
                      case measure => simp [RowKit.intOf]; omega
                    · rw [if_neg o] at HS
                      have o1 : decide ((m : Int) * 16 + ((l : Int) - 97 + 10) < (m : Int) * 16) = false := by simp; omega
                      have o2 : (4294967295 : Int) < (m : Int) * 16 + ((l : Int) - 97 + 10) := by omega
                      clear a ep
                      go_wp2_with (first | (go_at_call 150; refine (CL1.out _).mono ?_; rintro e w' ⟨rfl, rfl⟩))
                      go_ret2
                      exact ⟨by rw [HR0.out, HS.out]; rfl, HB.out⟩
                  · have b3 : (16 : Int) ≤ (l : Int) - 97 + 10 := by omega
                    rw [ep, if_neg (by omega)] at HS
                    clear ep a
                    go_wp2_with (first | (go_at_call 150; refine (CL1.out _).mono ?_; rintro e w' ⟨rfl, rfl⟩))
                    go_ret2
                    exact ⟨by rw [HR0.out, HS.out]; rfl, HB.out⟩
                · rw [if_neg (by omega)] at ep
                  have b1 : (97 : Int) ≤ (l : Int) := by omega
                  have b2 : decide ((l : Int) ≤ 122) = false := by simp; omega
                  rw [ep, if_neg (by omega)] at HS
                  clear ep a
                  go_wp2_with (first | (go_at_call 150; refine (CL1.out _).mono ?_; rintro e w' ⟨rfl, rfl⟩))
                  go_ret2
                  exact ⟨by rw [HR0.out, HS.out]; rfl, HB.out⟩
              · rw [if_neg (by omega)] at ep
                have b1 : decide ((97 : Int) ≤ (l : Int)) = false := by simp; omega
                rw [ep, if_neg (by omega)] at HS
                clear ep a
                go_wp2_with (first | (go_at_call 150; refine (CL1.out _).mono ?_; rintro e w' ⟨rfl, rfl⟩))
                go_ret2
                exact ⟨by rw [HR0.out, HS.out]; rfl, HB.out⟩
          · have g1 : decide ((48 : Int) ≤ (c : Int)) = false := by simp; omega
            have nl := n48 (by omega)
            rw [if_neg (by omega)] at ep
            have b1 : decide ((97 : Int) ≤ (l : Int)) = false := by simp; omega
            rw [ep, if_neg (by omega)] at HS
            clear ep a n48 n95 nl
            go_wp2_with (first | (go_at_call 150; refine (CL1.out _).mono ?_; rintro e w' ⟨rfl, rfl⟩))
            go_ret2
            exact ⟨by rw [HR0.out, HS.out]; rfl, HB.out⟩
      · have hkn : k = n := by omega
        have e : pu (L.drop k) m = .ok m := by rw [List.drop_eq_nil_of_le (by have := HL.out; omega)]; rfl
        have HE := Lib.hid (show R = .ok m by rw [← HP.out, e])
        subst hkn
        clear e
        go_wp2
        go_ret2
        exact ⟨by rw [HR0.out, HE.out]; rfl, HB.out⟩
end Go.Proofs.YtnedjafpjbfncaaGreatDoor.S

namespace Go.Proofs.YtnedjafpjbfncaaGreatDoor.S
open Go.RowKit Go.Shelf
open Go.Lib

def piR (neg : Bool) : Except Bool Nat → Except Bool Int
  | .error b => .error b
  | .ok n => if neg then (if n ≤ 2147483648 then .ok (-n) else .error false) else (if n < 2147483648 then .ok n else .error false)
/-- A number's text at base 16, in 32 bits: its number, or why there is none. -/
def piE : List UInt8 → Except Bool Int
  | [] => .error true
  | c :: r => if c = 43 then piR false (puE r) else if c = 45 then piR true (puE r) else piR false (puE (c :: r))
/-- What is handed back beside it. -/
def PiRes (R : Except Bool Int) (v : Int) (ev : Value) : Prop :=
  -2147483648 ≤ v ∧ v ≤ 2147483647 ∧ match R with
    | .ok n => v = n ∧ ev = .nilIface
    | .error true => ev = .iface 193 (.int .i64 2)
    | .error false => ev = .iface 193 (.int .i64 1)
def PiPost (R : Except Bool Int) (w : World) (e : Ending) (w' : World) : Prop := ∃ v ev, e = .returned (.tuple #[.int .i64 v, ev]) ∧ PiRes R v ev ∧ Below w.heap.size w w'

theorem pu_le : ∀ (l : List UInt8) (m n : Nat), m ≤ 4294967295 → pu l m = .ok n → n ≤ 4294967295
  | [], m, n, hm, h => by
    have e : m = n := by simpa [pu] using h
    omega
  | c :: r, m, n, hm, h => by
    unfold pu at h
    split at h
    · split at h
      · exact pu_le r _ n (by assumption) h
      · cases h
    · cases h
theorem puE_le {l : List UInt8} {n : Nat} (h : puE l = .ok n) : n ≤ 4294967295 := by
  unfold puE at h
  split at h
  · cases h
  · exact pu_le l 0 n (by omega) h
theorem tail_str (s : ByteArray) : (s.extract 1 s.size).data.toList = s.data.toList.drop 1 := by
  simp [ByteArray.data_extract]
  exact List.take_of_length_le (by simp)

set_option maxHeartbeats 4000000 in
set_option maxRecDepth 100000 in
/-- Behind the sign: what ParseInt does with ParseUint's answer. -/
theorem pii_any (s : ByteArray) (w : World) (hs : s.size ≤ 1000000) :
    Calls Tryz.prog 140 #[.string s, .int .i64 16, .int .i64 32] w (PiPost (piE s.data.toList) w) := by
  have q1 : ∀ w, (binOp .neq 74 (.iface 193 (.int .i64 2)) (.iface 193 (.int .i64 1))).run Tryz.prog w = .ok (.bool true) w := fun _ => by kernel_rfl
  have q2 : ∀ w, (binOp .neq 74 (.iface 193 (.int .i64 1)) (.iface 193 (.int .i64 1))).run Tryz.prog w = .ok (.bool false) w := fun _ => by kernel_rfl
  have q3 : ∀ w (n : Int), (binOp .neq 74 (.iface 193 (.int .i64 n)) .nilIface).run Tryz.prog w = .ok (.bool true) w := fun _ _ => by kernel_rfl
  by_cases h0 : s.size = 0
  · have e : s.data.toList = [] := List.length_eq_zero_iff.1 (by simpa using h0)
    rw [e]
    have e1 : s.toList = [] := by rw [ByteArray.toList_eq]; exact e
    go_enter Tryz.func140, Tryz.ntmps140
    go_wp2
    go_ret2
    exact ⟨_, _, rfl, ⟨by omega, by omega, rfl⟩, Below.refl _ _⟩
  · have e1 : s.toList.isEmpty = false := by
      rw [ByteArray.toList_eq]
      cases h : s.data.toList with
      | nil => exact absurd (by simpa using congrArg List.length h) h0
      | cons _ _ => rfl
    have hs0 : 0 < s.size := by omega
    obtain ⟨c, hc⟩ : ∃ c : UInt8, s[0]'hs0 = c := ⟨_, rfl⟩
    have hL : s.data.toList = c :: s.data.toList.drop 1 := by
      have : s.data.toList[0]'(by simpa using hs0) = c := by rw [← hc]; rfl
      rw [← this]
      exact List.drop_eq_getElem_cons (l := s.data.toList) (i := 0) (by simpa using hs0)
    have C1 := Lib.hid (fun W => pui_any (s.extract 1 s.size) W (by simp; omega))
    have C2 := Lib.hid (fun W => pui_any s W hs)
    rw [tail_str] at C1
    rw [hL]
    have HL := Lib.hid hL
    rw [HL.out] at C2
    generalize s.data.toList.drop 1 = r at *
    clear hL
    by_cases p1 : c = 43
    · subst p1
      have E : piE (43 :: r) = piR false (puE r) := rfl
      rw [E]
      have hRn := fun n (h : puE r = .ok n) => puE_le h
      generalize puE r = R at *
      have CC := C1
      clear E C2
      have HB := Lib.hid (fun n (h : R = .ok n) => (show n ≤ 4294967295 from hRn n h))
      clear hRn
      go_enter Tryz.func140, Tryz.ntmps140
      go_wp2_with fail
      refine (CC.out _).mono ?_
      rintro e w1 ⟨rfl, hb⟩
      rcases R with (_ | _) | n
      · unfold puV
        go_wp2
        go_ret2
        exact ⟨_, _, rfl, ⟨by omega, by omega, rfl⟩, hb⟩
      · unfold puV
        go_wp2
        go_ret2
        exact ⟨_, _, rfl, ⟨by omega, by omega, rfl⟩, hb⟩
      · have hn := HB.out n rfl
        clear HB
        by_cases b : n < 2147483648
        · have b1 : decide ((2147483648 : Int) ≤ (n : Int)) = false := by simp; omega
          have b2 : (n : Int) < 2147483648 := by omega
          have E : piR false (.ok n) = .ok (n : Int) := by show (if n < 2147483648 then _ else _) = _; rw [if_pos b]
          have HE := Lib.hid E
          clear b E
          unfold puV
          go_wp2
          go_ret2
          exact ⟨_, _, rfl, by rw [HE.out]; exact ⟨by omega, by omega, rfl, rfl⟩, hb⟩
        · have b1 : (2147483648 : Int) ≤ (n : Int) := by omega
          have E : piR false (.ok n) = .error false := by show (if n < 2147483648 then _ else _) = _; rw [if_neg b]
          have HE := Lib.hid E
          clear b E
          unfold puV
          go_wp2
          go_ret2
          exact ⟨_, _, rfl, by rw [HE.out]; exact ⟨by omega, by omega, rfl⟩, hb⟩
    · by_cases p2 : c = 45
      · subst p2
        have E : piE (45 :: r) = piR true (puE r) := rfl
        rw [E]
        have hRn := fun n (h : puE r = .ok n) => puE_le h
        generalize puE r = R at *
        have CC := C1
        clear E C2
        have HB := Lib.hid (fun n (h : R = .ok n) => (show n ≤ 4294967295 from hRn n h))
        clear hRn
        go_enter Tryz.func140, Tryz.ntmps140
        go_wp2_with fail
        refine (CC.out _).mono ?_
        rintro e w1 ⟨rfl, hb⟩
        rcases R with (_ | _) | n
        · unfold puV
          go_wp2
          go_ret2
          exact ⟨_, _, rfl, ⟨by omega, by omega, rfl⟩, hb⟩
        · unfold puV
          go_wp2
          go_ret2
          exact ⟨_, _, rfl, ⟨by omega, by omega, rfl⟩, hb⟩
        · have hn := HB.out n rfl
          clear HB
          by_cases b : n ≤ 2147483648
          · have b1 : decide ((2147483648 : Int) < (n : Int)) = false := by simp; omega
            have b2 : (n : Int) ≤ 2147483648 := by omega
            have E : piR true (.ok n) = .ok (-(n : Int)) := by show (if n ≤ 2147483648 then _ else _) = _; rw [if_pos b]
            have HE := Lib.hid E
            clear b E
            unfold puV
            go_wp2
            go_ret2
            exact ⟨_, _, rfl, by rw [HE.out]; exact ⟨by omega, by omega, rfl, rfl⟩, hb⟩
          · have b1 : (2147483648 : Int) < (n : Int) := by omega
            have E : piR true (.ok n) = .error false := by show (if n ≤ 2147483648 then _ else _) = _; rw [if_neg b]
            have HE := Lib.hid E
            clear b E
            unfold puV
            go_wp2
            go_ret2
            exact ⟨_, _, rfl, by rw [HE.out]; exact ⟨by omega, by omega, rfl⟩, hb⟩
      · have E : piE (c :: r) = piR false (puE (c :: r)) := by show (if c = 43 then _ else if c = 45 then _ else _) = _; rw [if_neg p1, if_neg p2]
        rw [E]
        have hRn := fun n (h : puE (c :: r) = .ok n) => puE_le h
        have d1 : ((c.toNat : Int) == 43) = false := by
          simp only [beq_eq_false_iff_ne]
          intro h
          exact p1 (UInt8.toNat_inj.1 (by have : c.toNat = 43 := by omega
                                          rw [this]; rfl))
        have d2 : ((c.toNat : Int) == 45) = false := by
          simp only [beq_eq_false_iff_ne]
          intro h
          exact p2 (UInt8.toNat_inj.1 (by have : c.toNat = 45 := by omega
                                          rw [this]; rfl))
        generalize puE (c :: r) = R at *
        have CC := C2
        clear E C1 p1 p2
        have HB := Lib.hid (fun n (h : R = .ok n) => (show n ≤ 4294967295 from hRn n h))
        clear hRn
        go_enter Tryz.func140, Tryz.ntmps140
        go_wp2_with fail
        refine (CC.out _).mono ?_
        rintro e w1 ⟨rfl, hb⟩
        rcases R with (_ | _) | n
        · unfold puV
          go_wp2
          go_ret2
          exact ⟨_, _, rfl, ⟨by omega, by omega, rfl⟩, hb⟩
        · unfold puV
          go_wp2
          go_ret2
          exact ⟨_, _, rfl, ⟨by omega, by omega, rfl⟩, hb⟩
        · have hn := HB.out n rfl
          clear HB
          by_cases b : n < 2147483648
          · have b1 : decide ((2147483648 : Int) ≤ (n : Int)) = false := by simp; omega
            have b2 : (n : Int) < 2147483648 := by omega
            have E : piR false (.ok n) = .ok (n : Int) := by show (if n < 2147483648 then _ else _) = _; rw [if_pos b]
            have HE := Lib.hid E
            clear b E
            unfold puV
            go_wp2
            go_ret2
            exact ⟨_, _, rfl, by rw [HE.out]; exact ⟨by omega, by omega, rfl, rfl⟩, hb⟩
          · have b1 : (2147483648 : Int) ≤ (n : Int) := by omega
            have E : piR false (.ok n) = .error false := by show (if n < 2147483648 then _ else _) = _; rw [if_neg b]
            have HE := Lib.hid E
            clear b E
            unfold puV
            go_wp2
            go_ret2
            exact ⟨_, _, rfl, by rw [HE.out]; exact ⟨by omega, by omega, rfl⟩, hb⟩
end Go.Proofs.YtnedjafpjbfncaaGreatDoor.S

namespace Go.Proofs.YtnedjafpjbfncaaGreatDoor
open Go.RowKit Go.Shelf Go.Lib Go.Maps
open S

def zb (zs : List Int) (j : Nat) : Nat := (zs.getD j 0).toNat
theorem enc_f (r : Int) (j : Nat) : ((encodeRune r).getD j 0).toNat = zb (encodeRuneZ r) j := by
  unfold zb encodeRune
  by_cases h : j < (encodeRuneZ r).length
  · have hb := encodeRuneZ_byte r _ (List.getElem_mem h)
    simp [List.getD_eq_getElem?_getD, h]
    omega
  · simp [List.getD_eq_getElem?_getD, h]
theorem enc_len2 (r : Int) : (encodeRune r).length = (encodeRuneZ r).length := by simp [encodeRune]

theorem piece_enc (v : Int) (h : Lib.validRune v = true) : M1.pieceB (encodeRuneZ v).length (zb (encodeRuneZ v) 0) (zb (encodeRuneZ v) 1) (zb (encodeRuneZ v) 2) (zb (encodeRuneZ v) 3) = (v.toNat, (encodeRuneZ v).length, true) := by
  obtain ⟨h0, h1, h2⟩ := (valid_iff v).1 h
  obtain ⟨n, rfl⟩ : ∃ n : Nat, v = n := ⟨v.toNat, by omega⟩
  by_cases c1 : (n : Int) ≤ 127
  · rw [encodeRuneZ_one h0 c1]
    have e : zb [(n : Int)] 0 = n := by simp [zb]
    show M1.pieceB 1 (zb [(n : Int)] 0) 0 0 0 = _
    rw [e]
    unfold M1.pieceB
    rw [if_pos (by unfold firstT; rw [if_pos (by omega)])]
    simp
  · by_cases c2 : (n : Int) ≤ 2047
    · rw [encodeRuneZ_two (by omega) c2]
      have e0 : zb [192 + (n : Int) / 64, 128 + (n : Int) % 64] 0 = 192 + n / 64 := by simp [zb]; omega
      have e1 : zb [192 + (n : Int) / 64, 128 + (n : Int) % 64] 1 = 128 + n % 64 := by simp [zb]; omega
      show M1.pieceB 2 (zb [192 + (n : Int) / 64, 128 + (n : Int) % 64] 0) (zb [192 + (n : Int) / 64, 128 + (n : Int) % 64] 1) 0 0 = _
      rw [e0, e1]
      have ft : firstT (192 + n / 64) = 2 := by
        unfold firstT
        rw [if_neg (by omega), if_neg (by omega), if_pos (by omega)]
      unfold M1.pieceB
      rw [ft, if_neg (by omega), if_neg (by omega)]
      unfold M1.pieceS
      rw [if_pos ⟨by omega, by show 128 ≤ _; omega, by show _ ≤ 191; omega⟩, if_pos (by decide)]
      simp
      omega
    · by_cases c3 : (n : Int) ≤ 65535
      · rw [encodeRuneZ_three (by omega)]
        have e0 : zb [224 + (n : Int) / 4096, 128 + (n : Int) / 64 % 64, 128 + (n : Int) % 64] 0 = 224 + n / 4096 := by simp [zb]; omega
        have e1 : zb [224 + (n : Int) / 4096, 128 + (n : Int) / 64 % 64, 128 + (n : Int) % 64] 1 = 128 + n / 64 % 64 := by simp [zb]; omega
        have e2 : zb [224 + (n : Int) / 4096, 128 + (n : Int) / 64 % 64, 128 + (n : Int) % 64] 2 = 128 + n % 64 := by simp [zb]; omega
        show M1.pieceB 3 (zb [224 + (n : Int) / 4096, 128 + (n : Int) / 64 % 64, 128 + (n : Int) % 64] 0) (zb [224 + (n : Int) / 4096, 128 + (n : Int) / 64 % 64, 128 + (n : Int) % 64] 1) (zb [224 + (n : Int) / 4096, 128 + (n : Int) / 64 % 64, 128 + (n : Int) % 64] 2) 0 = _
        rw [e0, e1, e2]
        have key : ∀ f lo hi, firstT (224 + n / 4096) = f → f % 8 = 3 → f ≠ 240 → f ≠ 241 → accLo (f / 16) = lo → accHi (f / 16) = hi → lo ≤ 128 + n / 64 % 64 → 128 + n / 64 % 64 ≤ hi → M1.pieceB 3 (224 + n / 4096) (128 + n / 64 % 64) (128 + n % 64) 0 = ((n : Int).toNat, 3, true) := by
          intro f lo hi hf h8 n0 n1 hlo hhi g1 g2
          unfold M1.pieceB
          rw [hf, if_neg n0, if_neg n1, h8, hlo, hhi]
          unfold M1.pieceS
          rw [if_pos ⟨by omega, g1, g2⟩, if_neg (by decide), if_pos ⟨by omega, by omega, by omega⟩, if_pos rfl]
          simp
          omega
        by_cases d1 : n / 4096 = 0
        · exact key 19 160 191 (by unfold firstT; rw [if_neg (by omega), if_neg (by omega), if_neg (by omega), if_pos (by omega)]) (by decide) (by decide) (by decide) (by decide) (by decide) (by omega) (by omega)
        · by_cases d2 : n / 4096 = 13
          · exact key 35 128 159 (by unfold firstT; rw [if_neg (by omega), if_neg (by omega), if_neg (by omega), if_neg (by omega), if_neg (by omega), if_pos (by omega)]) (by decide) (by decide) (by decide) (by decide) (by decide) (by omega) (by omega)
          · by_cases d3 : n / 4096 < 13
            · exact key 3 128 191 (by unfold firstT; rw [if_neg (by omega), if_neg (by omega), if_neg (by omega), if_neg (by omega), if_pos (by omega)]) (by decide) (by decide) (by decide) (by decide) (by decide) (by omega) (by omega)
            · exact key 3 128 191 (by unfold firstT; rw [if_neg (by omega), if_neg (by omega), if_neg (by omega), if_neg (by omega), if_neg (by omega), if_neg (by omega), if_pos (by omega)]) (by decide) (by decide) (by decide) (by decide) (by decide) (by omega) (by omega)
      · rw [encodeRuneZ_four (by omega) (by omega)]
        have e0 : zb [240 + (n : Int) / 262144, 128 + (n : Int) / 4096 % 64, 128 + (n : Int) / 64 % 64, 128 + (n : Int) % 64] 0 = 240 + n / 262144 := by simp [zb]; omega
        have e1 : zb [240 + (n : Int) / 262144, 128 + (n : Int) / 4096 % 64, 128 + (n : Int) / 64 % 64, 128 + (n : Int) % 64] 1 = 128 + n / 4096 % 64 := by simp [zb]; omega
        have e2 : zb [240 + (n : Int) / 262144, 128 + (n : Int) / 4096 % 64, 128 + (n : Int) / 64 % 64, 128 + (n : Int) % 64] 2 = 128 + n / 64 % 64 := by simp [zb]; omega
        have e3 : zb [240 + (n : Int) / 262144, 128 + (n : Int) / 4096 % 64, 128 + (n : Int) / 64 % 64, 128 + (n : Int) % 64] 3 = 128 + n % 64 := by simp [zb]; omega
        rw [e0, e1, e2, e3]
        have key : ∀ f lo hi, firstT (240 + n / 262144) = f → f % 8 = 4 → f ≠ 240 → f ≠ 241 → accLo (f / 16) = lo → accHi (f / 16) = hi → lo ≤ 128 + n / 4096 % 64 → 128 + n / 4096 % 64 ≤ hi → M1.pieceB 4 (240 + n / 262144) (128 + n / 4096 % 64) (128 + n / 64 % 64) (128 + n % 64) = ((n : Int).toNat, 4, true) := by
          intro f lo hi hf h8 n0 n1 hlo hhi g1 g2
          unfold M1.pieceB
          rw [hf, if_neg n0, if_neg n1, h8, hlo, hhi]
          unfold M1.pieceS
          rw [if_pos ⟨by omega, g1, g2⟩, if_neg (by decide), if_pos ⟨by omega, by omega, by omega⟩, if_neg (by decide), if_pos ⟨by omega, by omega, by omega⟩]
          simp
          omega
        by_cases d1 : n / 262144 = 0
        · exact key 52 144 191 (by unfold firstT; rw [if_neg (by omega), if_neg (by omega), if_neg (by omega), if_neg (by omega), if_neg (by omega), if_neg (by omega), if_neg (by omega), if_pos (by omega)]) (by decide) (by decide) (by decide) (by decide) (by decide) (by omega) (by omega)
        · by_cases d2 : n / 262144 = 4
          · exact key 68 128 143 (by unfold firstT; rw [if_neg (by omega), if_neg (by omega), if_neg (by omega), if_neg (by omega), if_neg (by omega), if_neg (by omega), if_neg (by omega), if_neg (by omega), if_neg (by omega), if_pos (by omega)]) (by decide) (by decide) (by decide) (by decide) (by decide) (by omega) (by omega)
          · exact key 4 128 191 (by unfold firstT; rw [if_neg (by omega), if_neg (by omega), if_neg (by omega), if_neg (by omega), if_neg (by omega), if_neg (by omega), if_neg (by omega), if_neg (by omega), if_pos (by omega)]) (by decide) (by decide) (by decide) (by decide) (by decide) (by omega) (by omega)

theorem zb_out (zs : List Int) (j : Nat) (h : zs.length ≤ j) : zb zs j = 0 := by simp [zb, List.getD_eq_getElem?_getD, h]

theorem pc_enc (r : Int) : S.pc (encodeRuneZ r).length (zb (encodeRuneZ r)) = ((scR r).toNat, (encodeRuneZ r).length, true) := by
  have h := piece_enc (scR r) (scR_valid r)
  rw [← encZ_scR] at h
  unfold S.pc
  have e : ∀ j, S.bt (encodeRuneZ r).length (zb (encodeRuneZ r)) j = zb (encodeRuneZ r) j := fun j => by
    unfold S.bt
    split
    · rfl
    · exact (zb_out _ _ (by omega)).symm
  rw [e, e, e, e]
  exact h
theorem scR_nat (r : Int) : (((scR r).toNat : Nat) : Int) = scR r := by
  have := (valid_iff (scR r)).1 (scR_valid r)
  omega
set_option maxHeartbeats 4000000 in
set_option maxRecDepth 100000 in
theorem nearest_any (r : Int) (h0 : -2147483648 ≤ r) (h1 : r ≤ 2147483647) (w : World) (hT : S.Tabs w) : Calls Tryz.prog 139 #[.int .i32 r] w fun e w' => e = .returned (.int .i32 (scR r)) ∧ Below w.heap.size w w' := by
  have KP := S.put_any r h0 h1 w
  have KN : ∀ e W, S.PutPost (encodeRune r) w e W → ∃ g cap, e = .returned (.slice (some ⟨g, 0, none⟩) (encodeRuneZ r).length cap) ∧ Below w.heap.size w W ∧ Calls Tryz.prog 142 #[.slice (some ⟨g, 0, none⟩) (encodeRuneZ r).length cap, .int .i64 0] W fun e w' => (∃ n : Int, e = .returned (.tuple #[.int .i32 (scR r), .int .i64 n])) ∧ Below W.heap.size W w' := fun e W h => by
    obtain ⟨g, cap, rfl, hc, hl, hm, hg, hb⟩ := h
    rw [enc_len2] at hl ⊢
    refine ⟨g, cap, rfl, hb, ?_⟩
    have hTW : S.Tabs W := hT.below hb hT.2
    have hB : S.Bs W g 0 (encodeRuneZ r).length (zb (encodeRuneZ r)) := fun j hj => by
      have hj' : j < (encodeRune r).length := by rw [enc_len2]; exact hj
      have e1 := enc_f r j
      have e2 : (encodeRune r).getD j 0 = (encodeRune r)[j] := by simp [List.getD_eq_getElem?_getD, hj']
      rw [e2] at e1
      refine ⟨?_, ?_⟩
      · rw [Nat.zero_add, hc j hj', e1]
      · rw [← e1]; exact UInt8.toNat_lt _
    have C := S.next_in g 0 (encodeRuneZ r).length cap 0 (zb (encodeRuneZ r)) W hTW hB (by have := (encodeRuneZ_length r).1; omega) hl hm
    refine C.mono ?_
    rintro e w' ⟨rfl, hb2⟩
    refine ⟨⟨((S.pc ((encodeRuneZ r).length - 0) (fun j => zb (encodeRuneZ r) (0 + j))).2.1 : Int), ?_⟩, hb2⟩
    · rw [Nat.sub_zero]
      simp only [Nat.zero_add]
      rw [show (fun j => zb (encodeRuneZ r) j) = zb (encodeRuneZ r) from rfl, pc_enc, scR_nat]
  have HK := Lib.hid (And.intro KP KN)
  clear KP KN
  generalize (encodeRuneZ r).length = n at *
  generalize scR r = R at *
  go_enter Tryz.func139, Tryz.ntmps139
  go_wp2_with fail
  refine HK.out.1.mono ?_
  intro e w1 h1
  obtain ⟨g, cap, rfl, hb1, C1⟩ := HK.out.2 _ _ h1
  have H1 := Lib.hid (And.intro hb1 C1)
  clear hb1 C1 h1
  go_wp2_with fail
  refine H1.out.2.mono ?_
  rintro e w2 ⟨⟨q, rfl⟩, hb2⟩
  have H2 := Lib.hid (H1.out.1.trans (hb2.mono H1.out.1.size))
  clear hb2
  go_wp2_with fail
  go_ret
  exact ⟨rfl, H2.out⟩
end Go.Proofs.YtnedjafpjbfncaaGreatDoor

namespace Go.Proofs.YtnedjafpjbfncaaGreatDoor
open Go.RowKit Go.Shelf Go.Lib Go.Maps Go.Great
attribute [local irreducible] NR ZNR FR nmE

/-- Is a byte a digit of a base? -/
def dgB (base c : Nat) : Bool := decide (48 ≤ c) && decide (c ≤ 57) || decide (base = 16) && (decide (97 ≤ c) && decide (c ≤ 102) || decide (65 ≤ c) && decide (c ≤ 70))
def dv (c : Nat) : Nat := if c ≤ 57 then c - 48 else if c ≤ 70 then c - 55 else c - 87
def nbV (base : Nat) : List Nat → Nat → Nat
  | [], n => n
  | c :: r, n => nbV base r (base * n + dv c)
/-- What a number means. -/
def mnR (n : Nat) : Int := if n = 0 then 65533 else scR n
theorem dv_16 : ∀ c, c < 256 → dgB 16 c = true → S.pd c = dv c ∧ dv c < 16 ∧ c ≠ 43 ∧ c ≠ 45 := by decide +kernel
theorem dv_10 : ∀ c, c < 256 → dgB 10 c = true → 48 ≤ c ∧ c ≤ 57 ∧ dv c = c - 48 ∧ dv c < 10 := by decide +kernel
theorem dv_lt {b c : Nat} (hb : b = 10 ∨ b = 16) (hc : c < 256) (h : dgB b c = true) : dv c < b := by
  rcases hb with rfl | rfl
  · exact (dv_10 c hc h).2.2.2
  · exact (dv_16 c hc h).2.1
theorem nbV_lt {b : Nat} (hb : b = 10 ∨ b = 16) : ∀ (l : List Nat) (n m : Nat), (∀ x ∈ l, x < 256 ∧ dgB b x = true) → n < b ^ m → nbV b l n < b ^ (m + l.length)
  | [], n, m, _, h => by simpa [nbV] using h
  | c :: r, n, m, hd, h => by
    have h1 := dv_lt hb (hd c (by simp)).1 (hd c (by simp)).2
    have h2 : b * n + dv c < b ^ (m + 1) := by
      rw [Nat.pow_succ, Nat.mul_comm (b ^ m) b]
      calc b * n + dv c < b * n + b := by omega
        _ = b * (n + 1) := by rw [Nat.mul_add, Nat.mul_one]
        _ ≤ b * b ^ m := Nat.mul_le_mul_left _ h
    have := nbV_lt hb r _ (m + 1) (fun x hx => hd x (by simp [hx])) h2
    rw [nbV, List.length_cons, show m + (r.length + 1) = m + 1 + r.length by omega]
    exact this
theorem pu_num : ∀ (l : List UInt8) (n m : Nat), (∀ x ∈ nats l, x < 256 ∧ dgB 16 x = true) → n < 16 ^ m → m + l.length ≤ 7 → S.pu l n = .ok (nbV 16 (nats l) n)
  | [], n, m, _, _, _ => rfl
  | c :: r, n, m, hd, h, hm => by
    have h1 := dv_16 c.toNat (UInt8.toNat_lt _) (hd c.toNat (by simp [nats])).2
    have h2 : 16 * n + dv c.toNat < 16 ^ (m + 1) := by rw [Nat.pow_succ]; omega
    have h3 : 16 ^ (m + 1) ≤ 16 ^ 7 := Nat.pow_le_pow_right (by decide) (by simp at hm; omega)
    have h4 : (16 : Nat) ^ 7 = 268435456 := by decide
    rw [S.pu, h1.1, if_pos h1.2.1, if_pos (by omega), pu_num r _ (m + 1) (fun x hx => hd x (by simp [nats] at hx ⊢; exact Or.inr hx)) h2 (by simp at hm; omega)]
    rfl
theorem piE_num (l : List UInt8) (hd : ∀ x ∈ nats l, x < 256 ∧ dgB 16 x = true) (h0 : l ≠ []) (hm : l.length ≤ 6) : S.piE l = .ok (nbV 16 (nats l) 0 : Nat) := by
  cases l with
  | nil => exact absurd rfl h0
  | cons c r =>
    have h1 := dv_16 c.toNat (UInt8.toNat_lt _) (hd c.toNat (by simp [nats])).2
    have hu := pu_num (c :: r) 0 0 hd (by decide) (by omega)
    have n1 : c ≠ 43 := by rintro rfl; exact h1.2.2.1 rfl
    have n2 : c ≠ 45 := by rintro rfl; exact h1.2.2.2 rfl
    have hb := nbV_lt (Or.inr rfl) (nats (c :: r)) 0 0 hd (by decide)
    have h3 : 16 ^ (0 + (nats (c :: r)).length) ≤ 16 ^ 6 := Nat.pow_le_pow_right (by decide) (by rw [nats, List.length_map]; omega)
    have h4 : (16 : Nat) ^ 6 = 16777216 := by decide
    rw [S.piE, if_neg n1, if_neg n2, S.puE, if_neg h0, hu, S.piR]
    simp only [Bool.false_eq_true, if_false]
    rw [if_pos (by omega)]
theorem pum_num : ∀ (l : List UInt8) (n m : Nat), (∀ x ∈ nats l, x < 256 ∧ dgB 10 x = true) → n < 10 ^ m → m + l.length ≤ 7 → Lib.parseUintM (2 ^ 32 - 1) n l = .ok (nbV 10 (nats l) n)
  | [], n, m, _, _, _ => rfl
  | c :: r, n, m, hd, h, hm => by
    have h1 := dv_10 c.toNat (UInt8.toNat_lt _) (hd c.toNat (by simp [nats])).2
    have h2 : 10 * n + dv c.toNat < 10 ^ (m + 1) := by rw [Nat.pow_succ]; omega
    have h3 : 10 ^ (m + 1) ≤ 10 ^ 7 := Nat.pow_le_pow_right (by decide) (by simp at hm; omega)
    have h4 : (10 : Nat) ^ 7 = 10000000 := by decide
    have e : n * 10 + (c.toNat - 48) = 10 * n + dv c.toNat := by omega
    rw [Lib.parseUintM, if_pos ⟨h1.1, h1.2.1⟩, if_neg (by omega), if_neg (by omega), e, pum_num r _ (m + 1) (fun x hx => hd x (by simp [nats] at hx ⊢; exact Or.inr hx)) h2 (by simp at hm; omega)]
    rfl
theorem piB_num (l : List UInt8) (hd : ∀ x ∈ nats l, x < 256 ∧ dgB 10 x = true) (h0 : l ≠ []) (hm : l.length ≤ 7) : Lib.parseIntB 32 l = .ok (nbV 10 (nats l) 0 : Nat) := by
  cases l with
  | nil => exact absurd rfl h0
  | cons c r =>
    have h1 := dv_10 c.toNat (UInt8.toNat_lt _) (hd c.toNat (by simp [nats])).2
    have hu := pum_num (c :: r) 0 0 hd (by decide) (by omega)
    have hb := nbV_lt (Or.inl rfl) (nats (c :: r)) 0 0 hd (by decide)
    have h3 : 10 ^ (0 + (nats (c :: r)).length) ≤ 10 ^ 7 := Nat.pow_le_pow_right (by decide) (by rw [nats, List.length_map]; omega)
    have h4 : (10 : Nat) ^ 7 = 10000000 := by decide
    rw [Lib.parseIntB_plain 32 c r (by omega) (by omega), Lib.parseUintB, if_neg h0, hu, Lib.signlessC]
    rw [if_neg (by have : (2 : Nat) ^ (32 - 1) = 2147483648 := by decide
                   omega)]

set_option maxHeartbeats 4000000 in
set_option maxRecDepth 100000 in
theorem isDigit_any (c base : Nat) (_hb : base = 10 ∨ base = 16) (w : World) :
    Calls Tryz.prog 126 #[.int .u8 (c : Int), .int .i64 (base : Int)] w fun e w' => e = .returned (.bool (dgB base c)) ∧ w' = w := by
  go_enter Tryz.func126, Tryz.ntmps126
  have fin : ∀ (b : Bool), dgB base c = b → dgB base c = b := fun _ h => h
  by_cases h1 : (48 : Int) ≤ (c : Int)
  all_goals by_cases h2 : (c : Int) ≤ 57
  all_goals by_cases h3 : (base : Int) = 16
  all_goals by_cases h4 : (97 : Int) ≤ (c : Int)
  all_goals by_cases h5 : (c : Int) ≤ 102
  all_goals by_cases h6 : (65 : Int) ≤ (c : Int)
  all_goals by_cases h7 : (c : Int) ≤ 70
  all_goals first
    | (exfalso; omega)
    | skip
  all_goals go_wp2_with fail
  all_goals go_ret
  all_goals refine ⟨?_, rfl⟩
  all_goals simp [dgB]
  all_goals omega
end Go.Proofs.YtnedjafpjbfncaaGreatDoor

