/-
  Contracts: virguleref01.begins in one, virguleref01.At, scalar.Next.
-/
import Derived.Test.YtimiinnnmdcmhaaDoorBegM
namespace Go.Proofs.YtimiinnnmdcmhaaDoor
open Go.RowKit Go.Shelf
open Go.Lib

/-- begins, while the search goes on. -/
theorem beg_any (b off k n cap : Nat) (f : Nat → Nat) (w : World) (hB : Bs w b off n f) (hk : 1 ≤ k) (hkn : k ≤ n) (hc : Cont f k) :
    Calls Tryd.prog 54 #[.slice (some ⟨b, off, none⟩) k cap] w fun e w' => e = .returned (.tuple #[.int .i32 (begAll k f).1, .int .i64 (begAll k f).2]) ∧ w = w' := by
  have hB' := hB.take hkn
  have h8 := (hB 0 (by omega)).2
  by_cases a1 : f 0 < 128
  · have e : begAll k f = (f 0, 1) := by unfold begAll; rw [if_pos a1]
    rw [e]
    exact beg_1 b off k cap f w hB' hk a1
  · by_cases a2 : f 0 < 192 ∨ 248 ≤ f 0
    · have e : begAll k f = (0, 0) := by
        unfold begAll
        rw [if_neg a1]
        rcases a2 with a2 | a2
        · rw [if_pos a2]
        · rw [if_neg (by omega), if_neg (by omega), if_neg (by omega), if_neg (by omega)]
      rw [e]
      exact beg_0 b off k cap f w hB' hk (by omega)
    · have hl := cont_le hc (by omega) (by omega)
      unfold cls at hl
      by_cases b2 : f 0 < 224
      · have e : begAll k f = begC 2 (f 0 - 192) 128 2047 k f := by unfold begAll; rw [if_neg a1, if_neg (by omega), if_pos b2]
        rw [if_pos b2] at hl
        rw [e]
        exact beg_2 b off k cap f w hB' hk hl (by omega)
      · by_cases b3 : f 0 < 240
        · have e : begAll k f = begC 3 (f 0 - 224) 2048 65535 k f := by unfold begAll; rw [if_neg a1, if_neg (by omega), if_neg b2, if_pos b3]
          rw [if_neg b2, if_pos b3] at hl
          rw [e]
          exact beg_3 b off k cap f w hB' hk hl (by omega)
        · have e : begAll k f = begC 4 (f 0 - 240) 65536 1114111 k f := by unfold begAll; rw [if_neg a1, if_neg (by omega), if_neg b2, if_neg b3, if_pos (by omega)]
          rw [if_neg b2, if_neg b3] at hl
          rw [e]
          exact beg_4 b off k cap f w hB' hk hl (by omega)

def AtPost (n : Nat) (g : Nat → Nat) (w : World) (e : Ending) (w' : World) : Prop :=
  ∃ (R S : Nat) (W : Bool), e = .returned (.agg #[.int .i32 R, .int .i64 S, .bool W]) ∧ AtRes n g R S W ∧ Below w.heap.size w w'
set_option maxHeartbeats 1000000 in
set_option maxRecDepth 100000 in
/-- At: the piece. -/
theorem at_res (b off n cap i : Nat) (f : Nat → Nat) (w : World) (hB : Bs w b off n f) (hi : i < n) (hc : n ≤ cap) (hm : cap ≤ maxLen) :
    Calls Tryd.prog 15 #[.slice (some ⟨b, off, none⟩) n cap, .int .i64 i] w (AtPost (n - i) (fun j => f (i + j)) w) := by
  unfold maxLen at hm
  have hlt := hB.lt (by omega)
  have hi0 : (0 : Int) ≤ (i : Int) := by omega
  have hi1 : (i : Int) < (n : Int) := by omega
  have hc1 : (n : Int) ≤ (cap : Int) := by omega
  have hB' := (hB.drop i).alloc (by omega) (.cells #[.int .i32 0, .int .i64 0, .bool false] 27)
  have hD := fun k h1 h2 h3 => beg_any b (off + i) k (n - i) (cap - i) _ _ hB' h1 h2 h3
  generalize hg : (fun j => f (i + j)) = g at *
  have HD := Lib.hid hD
  clear hD hB' hg hB
  go_enter Tryd.func15, Tryd.ntmps15
  go_wp2
  go_loop [5, 6] (fun s k => ∃ q : Nat, 1 ≤ q ∧ q ≤ 5 ∧ q ≤ n - i + 1 ∧ Cont g q ∧ k = .int .i64 q ∧ s = .int .i64 ((max 1 (q - 1) : Nat) : Int)) (fun _ k => 5 - (RowKit.intOf k).toNat)
  case atStart => exact ⟨1, by omega, by omega, by omega, fun j a b => by omega, rfl, rfl⟩
  case round =>
    obtain ⟨q, q1, q5, qn, hct, rfl, rfl⟩ := hrel
    obtain ⟨S, hS⟩ : ∃ S, max 1 (q - 1) = S := ⟨_, rfl⟩
    rw [hS]
    have HS := Lib.hid hS
    clear hS
    have HC := Lib.hid hct
    clear hct
    by_cases hq : q ≤ 4 ∧ q ≤ n - i
    · have C := HD.out q q1 hq.2 HC.out
      have b1 : (1 : Int) ≤ (q : Int) := by omega
      have b2 : (q : Int) ≤ 4 := by omega
      have b3 : (i : Int) + (q : Int) ≤ (n : Int) := by omega
      have d2 : decide ((q : Int) ≤ (n : Int) - (i : Int)) = true := by simp; omega
      obtain ⟨E, hE⟩ : ∃ E, begAll q g = E := ⟨_, rfl⟩
      rw [hE] at C
      have HE := Lib.hid hE
      clear hE
      obtain ⟨E1, E2⟩ := E
      have C := Lib.hid C
      by_cases z : E2 = 0
      · have t1 : ((E2 : Int) == 0) = true := by rw [beq_iff_eq]; omega
        have Z := Lib.hid z
        clear z
        go_wp2_with fail
        refine C.out.mono ?_
        rintro e w1 ⟨rfl, rfl⟩
        go_wp2
        refine bodyPost_ret (v := .agg #[.int .i32 65533, .int .i64 S, .bool false]) ?_ rfl ⟨65533, S, false, rfl, .inl ⟨q, q1, hq.1, hq.2, HC.out, by rw [HE.out]; exact Z.out, rfl, HS.out.symm, rfl⟩, ?_⟩
        · simp [results, Tryd.results15, go_sem]
        · exact (Below.refl _ _).alloc (Nat.le_refl _) _
      · have t1 : ((E2 : Int) == 0) = false := by rw [beq_eq_false_iff_ne]; omega
        by_cases y : E2 = q
        · have t2 : ((E2 : Int) == (q : Int)) = true := by rw [beq_iff_eq]; omega
          have t3 : (E2 == q) = true := by rw [beq_iff_eq]; omega
          have Y := Lib.hid y
          clear z y
          go_wp2_with fail
          refine C.out.mono ?_
          rintro e w1 ⟨rfl, rfl⟩
          go_wp2
          refine bodyPost_ret (v := .agg #[.int .i32 E1, .int .i64 E2, .bool true]) ?_ rfl ⟨E1, E2, true, rfl, .inr (.inl ⟨q, q1, hq.1, hq.2, HC.out, by rw [HE.out]; exact Y.out, by rw [HE.out], Y.out.symm, rfl⟩), ?_⟩
          · simp [results, Tryd.results15, go_sem]
          · exact (Below.refl _ _).alloc (Nat.le_refl _) _
        · have t2 : ((E2 : Int) == (q : Int)) = false := by rw [beq_eq_false_iff_ne]; omega
          have t3 : (E2 == q) = false := by rw [beq_eq_false_iff_ne]; omega
          have Y := Lib.hid (And.intro z y)
          clear z y
          go_wp2_with fail
          refine C.out.mono ?_
          rintro e w1 ⟨rfl, rfl⟩
          go_wp2
          go_round
          case rel => exact ⟨q + 1, by omega, by omega, by omega, fun j a c => by
            rcases Nat.lt_or_ge j q with h | h
            · exact HC.out j a h
            · obtain rfl : j = q := by omega
              rw [HE.out]
              exact Y.out, by go_num, by
            rw [show max 1 (q + 1 - 1) = q from by omega]⟩
          case measure => simp [RowKit.intOf]; omega
    · by_cases h4 : q ≤ 4
      · have b2 : (q : Int) ≤ 4 := by omega
        have b3 : (n : Int) - (i : Int) < (q : Int) := by omega
        have d2 : decide ((q : Int) ≤ (n : Int) - (i : Int)) = false := by simp; omega
        go_wp2
        refine bodyPost_ret (v := .agg #[.int .i32 65533, .int .i64 S, .bool false]) ?_ rfl ⟨65533, S, false, rfl, .inr (.inr ⟨q, q1, q5, qn, by omega, HC.out, rfl, HS.out.symm, rfl⟩), ?_⟩
        · simp [results, Tryd.results15, go_sem]
        · exact (Below.refl _ _).alloc (Nat.le_refl _) _
      · have b2 : (4 : Int) < (q : Int) := by omega
        have d1 : decide ((q : Int) ≤ 4) = false := by simp; omega
        go_wp2
        refine bodyPost_ret (v := .agg #[.int .i32 65533, .int .i64 S, .bool false]) ?_ rfl ⟨65533, S, false, rfl, .inr (.inr ⟨q, q1, q5, qn, by omega, HC.out, rfl, HS.out.symm, rfl⟩), ?_⟩
        · simp [results, Tryd.results15, go_sem]
        · exact (Below.refl _ _).alloc (Nat.le_refl _) _

/-- virguleref01.At. -/
theorem at_any (b off n cap i : Nat) (f : Nat → Nat) (w : World) (hB : Bs w b off n f) (hi : i < n) (hc : n ≤ cap) (hm : cap ≤ maxLen) :
    Calls Tryd.prog 15 #[.slice (some ⟨b, off, none⟩) n cap, .int .i64 i] w fun e w' =>
      e = .returned (.agg #[.int .i32 (pc (n - i) (fun j => f (i + j))).1, .int .i64 (pc (n - i) (fun j => f (i + j))).2.1, .bool (pc (n - i) (fun j => f (i + j))).2.2]) ∧ Below w.heap.size w w' := by
  refine (at_res b off n cap i f w hB hi hc hm).mono ?_
  rintro e w' ⟨R, S, W, rfl, h, hb⟩
  rw [← atRes_pc (by omega) (by have := (hB i hi).2; simpa using this) h]
  exact ⟨rfl, hb⟩

set_option maxHeartbeats 1000000 in
/-- scalar.Next, outside. -/
theorem next_out (A : Option Addr) (n cap : Nat) (i : Int) (w : World) (h : i < 0 ∨ (n : Int) ≤ i) :
    Calls Tryd.prog 14 #[.slice A n cap, .int .i64 i] w fun e w' => e = .returned (.tuple #[.int .i32 0, .int .i64 0]) ∧ w = w' := by
  by_cases h1 : i < 0
  · have d1 : decide (i < 0) = true := by simpa using h1
    clear h
    go_enter Tryd.func14, Tryd.ntmps14
    go_wp2
    go_ret2
    exact ⟨rfl, rfl⟩
  · have d1 : decide (i < 0) = false := by simpa using h1
    have h2 : (n : Int) ≤ i := by omega
    clear h
    go_enter Tryd.func14, Tryd.ntmps14
    go_wp2
    go_ret2
    exact ⟨rfl, rfl⟩

set_option maxHeartbeats 1000000 in
/-- scalar.Next, inside. -/
theorem next_in (b off n cap i : Nat) (f : Nat → Nat) (w : World) (hT : Tabs w) (hB : Bs w b off n f) (hi : i < n) (hc : n ≤ cap) (hm : cap ≤ maxLen) :
    Calls Tryd.prog 14 #[.slice (some ⟨b, off, none⟩) n cap, .int .i64 i] w fun e w' =>
      e = .returned (.tuple #[.int .i32 (pc (n - i) (fun j => f (i + j))).1, .int .i64 (pc (n - i) (fun j => f (i + j))).2.1]) ∧ Below w.heap.size w w' := by
  have C := dec_any b off n cap i f w hT hB hi hc hm
  generalize pc (n - i) (fun j => f (i + j)) = P at *
  obtain ⟨R, S, W⟩ := P
  have C := Lib.hid C
  have i0 : ¬ ((i : Int) < 0) := by omega
  have i1 : (i : Int) < (n : Int) := by omega
  have d1 : decide ((i : Int) < 0) = false := by simp
  have d2 : decide ((n : Int) ≤ (i : Int)) = false := by simp; omega
  clear hT hB
  go_enter Tryd.func14, Tryd.ntmps14
  go_wp2_with fail
  refine C.out.mono ?_
  rintro e w1 ⟨rfl, hb1⟩
  have hs := hb1.size
  go_wp2
  go_quiet (fail)
  go_wp2
  go_ret2
  exact ⟨rfl, below_drewN (hb1.alloc hs _) _⟩

end Go.Proofs.YtimiinnnmdcmhaaDoor
