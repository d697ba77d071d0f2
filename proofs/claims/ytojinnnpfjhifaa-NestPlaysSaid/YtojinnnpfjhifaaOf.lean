/-
  Contract: element.Of.
-/
import Derived.Test.YtojinnnpfjhifaaNam
import Derived.Test.YtojinnnpfjhifaaRof
import Derived.Test.YtojinnnpfjhifaaLay
namespace Go.Proofs.Ytojinnnpfjhifaa
open Go.RowKit Go.Shelf Go.Lib Go.Maps
attribute [local irreducible] nmL ofN

def MX (w : World) : Prop := ∃ m : Int, w.cell? ⟨0, 0, none⟩ = some (.int .i64 m)
theorem MX.on {w w' : World} {B : Nat} (h : MX w) (hB : 0 < B) (hb : Below B w w') : MX w' := by
  obtain ⟨m, hm⟩ := h
  exact ⟨m, (hb.cell (p := ⟨0, 0, none⟩) hB).trans hm⟩
theorem MX.pos {w : World} (h : MX w) : 0 < w.heap.size := by
  obtain ⟨m, hm⟩ := h
  exact block_lt_of_cell hm
theorem or0 : ∀ a : Nat, a < 1 → bits BinOp.or IntKind.i64 (a : Int) 1 = ((a + 1 : Nat) : Int) := by decide +kernel
theorem or1 : ∀ a : Nat, a < 2 → bits BinOp.or IntKind.i64 (a : Int) 2 = ((a + 2 : Nat) : Int) := by decide +kernel
theorem or2 : ∀ a : Nat, a < 4 → bits BinOp.or IntKind.i64 (a : Int) 4 = ((a + 4 : Nat) : Int) := by decide +kernel
theorem or3 : ∀ a : Nat, a < 8 → bits BinOp.or IntKind.i64 (a : Int) 8 = ((a + 8 : Nat) : Int) := by decide +kernel
theorem or4 : ∀ a : Nat, a < 16 → bits BinOp.or IntKind.i64 (a : Int) 16 = ((a + 16 : Nat) : Int) := by decide +kernel
theorem or5 : ∀ a : Nat, a < 32 → bits BinOp.or IntKind.i64 (a : Int) 32 = ((a + 32 : Nat) : Int) := by decide +kernel
theorem or6 : ∀ a : Nat, a < 64 → bits BinOp.or IntKind.i64 (a : Int) 64 = ((a + 64 : Nat) : Int) := by decide +kernel
theorem nameS_small (j : Nat) (hj : j < 7) : (nameS j).size < 4294967281 := by
  obtain rfl | rfl | rfl | rfl | rfl | rfl | rfl : j = 0 ∨ j = 1 ∨ j = 2 ∨ j = 3 ∨ j = 4 ∨ j = 5 ∨ j = 6 := by omega
  all_goals with_unfolding_all decide +kernel
set_option maxRecDepth 100000 in
set_option maxHeartbeats 8000000 in
theorem of_any (s : ByteArray) (hl : s.size ≤ 100) (w : World) (hM : MX w) : Calls Try.prog 14 #[.string s] w fun e w' => e = .returned (.int .i64 ((ofN s.data.toList 7 : Nat) : Int)) ∧ w' = w := by
  obtain ⟨m, hm⟩ := hM
  have CB := fun (a b : ByteArray) (h : a.size < 4294967281) => Try.strings_Contains a b m w h hm
  have C0 := CB s ⟨#[32]⟩ (by omega)
  obtain ⟨n, hn⟩ : ∃ n, s.data.toList = n := ⟨_, rfl⟩
  rw [hn, show (⟨#[32]⟩ : ByteArray).data.toList = [32] from rfl, contains_blank] at C0
  rw [hn]
  by_cases hb : 32 ∈ n
  case pos =>
    rw [decide_eq_true hb] at C0
    rw [ofN_blank hb]
    clear CB hm
    go_enter Try.func14, Try.ntmps14
    go_wp2_with fail
    refine C0.mono ?_
    rintro e w' ⟨rfl, rfl⟩
    go_wp2_with fail
    go_ret
    exact ⟨rfl, rfl⟩
  case neg =>
    rw [decide_eq_false hb] at C0
    obtain ⟨WS, hWS⟩ : ∃ S : ByteArray, (⟨#[32]⟩ ++ s : ByteArray) ++ ⟨#[32]⟩ = S := ⟨_, rfl⟩
    have hWd : WS.data.toList = wordB n := by
      rw [← hWS, ← hn]
      simp [wordB]
    have CR : ∀ k, k < 7 → Calls Try.prog 22 #[.string (nameS k), .string WS] w fun e w' => e = .returned (.bool (decide (n ∈ nmL k))) ∧ w' = w := fun k hk => by
      have := CB (nameS k) WS (nameS_small k hk)
      rw [hWd, show (nameS k).data.toList = joinB (nmL k) from rfl, contains_nm hb] at this
      exact this
    have HC := Lib.hid CR
    clear CB CR hm hWd hb hn
    go_enter Try.func14, Try.ntmps14
    go_wp2_with fail
    refine C0.mono ?_
    rintro e w' ⟨rfl, rfl⟩
    go_wp2_with fail
    clear C0 hWS
    go_loopw [3, 5] (fun o b wr => ∃ k : Nat, k ≤ 7 ∧ o = .int .i64 ((ofN n k : Nat) : Int) ∧ b = .int .i64 ((2 ^ k : Nat) : Int) ∧ wr = w') (fun _ b _ => 128 - (RowKit.intOf b).toNat)
    case atStart => exact ⟨0, by omega, by rw [ofN_zero]; rfl, rfl, rfl⟩
    case round =>
      obtain ⟨k, hk, rfl, rfl, rfl⟩ := hrel
      obtain rfl | rfl | rfl | rfl | rfl | rfl | rfl | rfl : k = 0 ∨ k = 1 ∨ k = 2 ∨ k = 3 ∨ k = 4 ∨ k = 5 ∨ k = 6 ∨ k = 7 := by omega
      · have C1 := names_any 0 (by omega) wr
        have C2 := HC.out 0 (by omega)
        have hs := ofN_succ n 0
        have hlt : ofN n 0 < 2 ^ 0 := ofN_lt n 0
        simp only [Nat.reducePow] at C1 hlt hs ⊢
        obtain ⟨a, ha⟩ : ∃ a, ofN n 0 = a := ⟨_, rfl⟩
        rw [ha] at hs hlt ⊢
        have HO := Lib.hid (or0 a hlt)
        clear ha hlt
        go_wp2_with fail
        refine C1.mono ?_
        rintro e _ ⟨rfl, rfl⟩
        go_wp2_with fail
        refine C2.mono ?_
        rintro e _ ⟨rfl, rfl⟩
        by_cases hi : n ∈ nmL 0
        · rw [decide_eq_true hi]
          rw [if_pos hi] at hs
          have HR := Lib.hid hs
          clear hs hi C1 C2
          go_wp2_with fail
          exact ⟨⟨1, by omega, by rw [HO.out, HR.out], rfl, trivial⟩, by simp [RowKit.intOf]⟩
        · rw [decide_eq_false hi]
          rw [if_neg hi] at hs
          have HR := Lib.hid hs
          clear hs hi C1 C2
          go_wp2_with fail
          exact ⟨⟨1, by omega, by rw [HR.out]; rfl, rfl, trivial⟩, by simp [RowKit.intOf]⟩
      · have C1 := names_any 1 (by omega) wr
        have C2 := HC.out 1 (by omega)
        have hs := ofN_succ n 1
        have hlt : ofN n 1 < 2 ^ 1 := ofN_lt n 1
        simp only [Nat.reducePow] at C1 hlt hs ⊢
        obtain ⟨a, ha⟩ : ∃ a, ofN n 1 = a := ⟨_, rfl⟩
        rw [ha] at hs hlt ⊢
        have HO := Lib.hid (or1 a hlt)
        clear ha hlt
        go_wp2_with fail
        refine C1.mono ?_
        rintro e _ ⟨rfl, rfl⟩
        go_wp2_with fail
        refine C2.mono ?_
        rintro e _ ⟨rfl, rfl⟩
        by_cases hi : n ∈ nmL 1
        · rw [decide_eq_true hi]
          rw [if_pos hi] at hs
          have HR := Lib.hid hs
          clear hs hi C1 C2
          go_wp2_with fail
          exact ⟨⟨2, by omega, by rw [HO.out, HR.out], rfl, trivial⟩, by simp [RowKit.intOf]⟩
        · rw [decide_eq_false hi]
          rw [if_neg hi] at hs
          have HR := Lib.hid hs
          clear hs hi C1 C2
          go_wp2_with fail
          exact ⟨⟨2, by omega, by rw [HR.out]; rfl, rfl, trivial⟩, by simp [RowKit.intOf]⟩
      · have C1 := names_any 2 (by omega) wr
        have C2 := HC.out 2 (by omega)
        have hs := ofN_succ n 2
        have hlt : ofN n 2 < 2 ^ 2 := ofN_lt n 2
        simp only [Nat.reducePow] at C1 hlt hs ⊢
        obtain ⟨a, ha⟩ : ∃ a, ofN n 2 = a := ⟨_, rfl⟩
        rw [ha] at hs hlt ⊢
        have HO := Lib.hid (or2 a hlt)
        clear ha hlt
        go_wp2_with fail
        refine C1.mono ?_
        rintro e _ ⟨rfl, rfl⟩
        go_wp2_with fail
        refine C2.mono ?_
        rintro e _ ⟨rfl, rfl⟩
        by_cases hi : n ∈ nmL 2
        · rw [decide_eq_true hi]
          rw [if_pos hi] at hs
          have HR := Lib.hid hs
          clear hs hi C1 C2
          go_wp2_with fail
          exact ⟨⟨3, by omega, by rw [HO.out, HR.out], rfl, trivial⟩, by simp [RowKit.intOf]⟩
        · rw [decide_eq_false hi]
          rw [if_neg hi] at hs
          have HR := Lib.hid hs
          clear hs hi C1 C2
          go_wp2_with fail
          exact ⟨⟨3, by omega, by rw [HR.out]; rfl, rfl, trivial⟩, by simp [RowKit.intOf]⟩
      · have C1 := names_any 3 (by omega) wr
        have C2 := HC.out 3 (by omega)
        have hs := ofN_succ n 3
        have hlt : ofN n 3 < 2 ^ 3 := ofN_lt n 3
        simp only [Nat.reducePow] at C1 hlt hs ⊢
        obtain ⟨a, ha⟩ : ∃ a, ofN n 3 = a := ⟨_, rfl⟩
        rw [ha] at hs hlt ⊢
        have HO := Lib.hid (or3 a hlt)
        clear ha hlt
        go_wp2_with fail
        refine C1.mono ?_
        rintro e _ ⟨rfl, rfl⟩
        go_wp2_with fail
        refine C2.mono ?_
        rintro e _ ⟨rfl, rfl⟩
        by_cases hi : n ∈ nmL 3
        · rw [decide_eq_true hi]
          rw [if_pos hi] at hs
          have HR := Lib.hid hs
          clear hs hi C1 C2
          go_wp2_with fail
          exact ⟨⟨4, by omega, by rw [HO.out, HR.out], rfl, trivial⟩, by simp [RowKit.intOf]⟩
        · rw [decide_eq_false hi]
          rw [if_neg hi] at hs
          have HR := Lib.hid hs
          clear hs hi C1 C2
          go_wp2_with fail
          exact ⟨⟨4, by omega, by rw [HR.out]; rfl, rfl, trivial⟩, by simp [RowKit.intOf]⟩
      · have C1 := names_any 4 (by omega) wr
        have C2 := HC.out 4 (by omega)
        have hs := ofN_succ n 4
        have hlt : ofN n 4 < 2 ^ 4 := ofN_lt n 4
        simp only [Nat.reducePow] at C1 hlt hs ⊢
        obtain ⟨a, ha⟩ : ∃ a, ofN n 4 = a := ⟨_, rfl⟩
        rw [ha] at hs hlt ⊢
        have HO := Lib.hid (or4 a hlt)
        clear ha hlt
        go_wp2_with fail
        refine C1.mono ?_
        rintro e _ ⟨rfl, rfl⟩
        go_wp2_with fail
        refine C2.mono ?_
        rintro e _ ⟨rfl, rfl⟩
        by_cases hi : n ∈ nmL 4
        · rw [decide_eq_true hi]
          rw [if_pos hi] at hs
          have HR := Lib.hid hs
          clear hs hi C1 C2
          go_wp2_with fail
          exact ⟨⟨5, by omega, by rw [HO.out, HR.out], rfl, trivial⟩, by simp [RowKit.intOf]⟩
        · rw [decide_eq_false hi]
          rw [if_neg hi] at hs
          have HR := Lib.hid hs
          clear hs hi C1 C2
          go_wp2_with fail
          exact ⟨⟨5, by omega, by rw [HR.out]; rfl, rfl, trivial⟩, by simp [RowKit.intOf]⟩
      · have C1 := names_any 5 (by omega) wr
        have C2 := HC.out 5 (by omega)
        have hs := ofN_succ n 5
        have hlt : ofN n 5 < 2 ^ 5 := ofN_lt n 5
        simp only [Nat.reducePow] at C1 hlt hs ⊢
        obtain ⟨a, ha⟩ : ∃ a, ofN n 5 = a := ⟨_, rfl⟩
        rw [ha] at hs hlt ⊢
        have HO := Lib.hid (or5 a hlt)
        clear ha hlt
        go_wp2_with fail
        refine C1.mono ?_
        rintro e _ ⟨rfl, rfl⟩
        go_wp2_with fail
        refine C2.mono ?_
        rintro e _ ⟨rfl, rfl⟩
        by_cases hi : n ∈ nmL 5
        · rw [decide_eq_true hi]
          rw [if_pos hi] at hs
          have HR := Lib.hid hs
          clear hs hi C1 C2
          go_wp2_with fail
          exact ⟨⟨6, by omega, by rw [HO.out, HR.out], rfl, trivial⟩, by simp [RowKit.intOf]⟩
        · rw [decide_eq_false hi]
          rw [if_neg hi] at hs
          have HR := Lib.hid hs
          clear hs hi C1 C2
          go_wp2_with fail
          exact ⟨⟨6, by omega, by rw [HR.out]; rfl, rfl, trivial⟩, by simp [RowKit.intOf]⟩
      · have C1 := names_any 6 (by omega) wr
        have C2 := HC.out 6 (by omega)
        have hs := ofN_succ n 6
        have hlt : ofN n 6 < 2 ^ 6 := ofN_lt n 6
        simp only [Nat.reducePow] at C1 hlt hs ⊢
        obtain ⟨a, ha⟩ : ∃ a, ofN n 6 = a := ⟨_, rfl⟩
        rw [ha] at hs hlt ⊢
        have HO := Lib.hid (or6 a hlt)
        clear ha hlt
        go_wp2_with fail
        refine C1.mono ?_
        rintro e _ ⟨rfl, rfl⟩
        go_wp2_with fail
        refine C2.mono ?_
        rintro e _ ⟨rfl, rfl⟩
        by_cases hi : n ∈ nmL 6
        · rw [decide_eq_true hi]
          rw [if_pos hi] at hs
          have HR := Lib.hid hs
          clear hs hi C1 C2
          go_wp2_with fail
          exact ⟨⟨7, by omega, by rw [HO.out, HR.out], rfl, trivial⟩, by simp [RowKit.intOf]⟩
        · rw [decide_eq_false hi]
          rw [if_neg hi] at hs
          have HR := Lib.hid hs
          clear hs hi C1 C2
          go_wp2_with fail
          exact ⟨⟨7, by omega, by rw [HR.out]; rfl, rfl, trivial⟩, by simp [RowKit.intOf]⟩
      · go_wp2_with fail
        go_ret
        exact ⟨rfl, rfl⟩
end Go.Proofs.Ytojinnnpfjhifaa
