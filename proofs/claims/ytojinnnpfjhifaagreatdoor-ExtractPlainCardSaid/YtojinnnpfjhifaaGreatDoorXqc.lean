/-
  Contract: element.Of.
  Contracts: what reads a nest: shows, count, Hidden, Pre, NoBreak, step, forces.
  Contract: counts.add.
  Contract: Nest.Take.
  Contracts: nest.New, Nest.Take of any token, awake; NestNone's walk.
  Later worlds, in which only some blocks may have turned.
  Contract: Extractor.item.
-/
import Derived.Test.YtojinnnpfjhifaaGreatDoorXqa
import Derived.Test.YtojinnnpfjhifaaGreatDoorXqb
import Derived.BigQuiet
import Derived.BigRegion
import Derived.StillTailTactics
import Derived.Lib.QuietBelow
import Derived.Deep.CutRange
namespace Go.Proofs.YtojinnnpfjhifaaGreatDoor.K
open Go.RowKit Go.Shelf Go.Lib Go.Maps
attribute [local irreducible] nmL ofN

def MX (w : World) : Prop := ∃ m : Int, w.cell? ⟨0, 0, none⟩ = some (.int .i64 m)
theorem MX.on {w w' : World} {B : Nat} (h : MX w) (hB : 0 < B) (hb : Below B w w') : MX w' := by
  obtain ⟨m, hm⟩ := h
  exact ⟨m, (hb.cell (p := ⟨0, 0, none⟩) hB).trans hm⟩
theorem MX.pos {w : World} (h : MX w) : 0 < w.heap.size := by
  obtain ⟨m, hm⟩ := h
  exact block_lt_of_cell hm
theorem or0 : ∀ a : Nat, a < 1 → bits BinOp.or IntKind.i64 (a : Int) 1 = ((a + 1 : Nat) : Int) := by decide +kernel
theorem or1 : ∀ a : Nat, a < 2 → bits BinOp.or IntKind.i64 (a : Int) 2 = ((a + 2 : Nat) : Int) := by decide +kernel
theorem or2 : ∀ a : Nat, a < 4 → bits BinOp.or IntKind.i64 (a : Int) 4 = ((a + 4 : Nat) : Int) := by decide +kernel
theorem or3 : ∀ a : Nat, a < 8 → bits BinOp.or IntKind.i64 (a : Int) 8 = ((a + 8 : Nat) : Int) := by decide +kernel
theorem or4 : ∀ a : Nat, a < 16 → bits BinOp.or IntKind.i64 (a : Int) 16 = ((a + 16 : Nat) : Int) := by decide +kernel
theorem or5 : ∀ a : Nat, a < 32 → bits BinOp.or IntKind.i64 (a : Int) 32 = ((a + 32 : Nat) : Int) := by decide +kernel
theorem or6 : ∀ a : Nat, a < 64 → bits BinOp.or IntKind.i64 (a : Int) 64 = ((a + 64 : Nat) : Int) := by decide +kernel
theorem nameS_small (j : Nat) (hj : j < 7) : (nameS j).size < 4294967281 := by
  obtain rfl | rfl | rfl | rfl | rfl | rfl | rfl : j = 0 ∨ j = 1 ∨ j = 2 ∨ j = 3 ∨ j = 4 ∨ j = 5 ∨ j = 6 := by omega
  all_goals with_unfolding_all decide +kernel
set_option maxRecDepth 100000 in
set_option maxHeartbeats 8000000 in
theorem of_any (s : ByteArray) (hl : s.size ≤ 1000000) (w : World) (hM : MX w) : Calls Tryz.prog 37 #[.string s] w fun e w' => e = .returned (.int .i64 ((ofN s.data.toList 7 : Nat) : Int)) ∧ w' = w := by
  obtain ⟨m, hm⟩ := hM
  have CB := fun (a b : ByteArray) (h : a.size < 4294967281) => Tryz.strings_Contains a b m w h hm
  have C0 := CB s ⟨#[32]⟩ (by omega)
  obtain ⟨n, hn⟩ : ∃ n, s.data.toList = n := ⟨_, rfl⟩
  rw [hn, show (⟨#[32]⟩ : ByteArray).data.toList = [32] from rfl, contains_blank] at C0
  rw [hn]
  by_cases hb : 32 ∈ n
  case pos =>
    rw [decide_eq_true hb] at C0
    rw [ofN_blank hb]
    clear CB hm
    go_enter Tryz.func37, Tryz.ntmps37
    go_wp2_with fail
    refine C0.mono ?_
    rintro e w' ⟨rfl, rfl⟩
    go_wp2_with fail
    go_ret
    exact ⟨rfl, rfl⟩
  case neg =>
    rw [decide_eq_false hb] at C0
    obtain ⟨WS, hWS⟩ : ∃ S : ByteArray, (⟨#[32]⟩ ++ s : ByteArray) ++ ⟨#[32]⟩ = S := ⟨_, rfl⟩
    have hWd : WS.data.toList = wordB n := by
      rw [← hWS, ← hn]
      simp [wordB]
    have CR : ∀ k, k < 7 → Calls Tryz.prog 57 #[.string (nameS k), .string WS] w fun e w' => e = .returned (.bool (decide (n ∈ nmL k))) ∧ w' = w := fun k hk => by
      have := CB (nameS k) WS (nameS_small k hk)
      rw [hWd, show (nameS k).data.toList = joinB (nmL k) from rfl, contains_nm hb] at this
      exact this
    have HC := Lib.hid CR
    clear CB CR hm hWd hb hn
    go_enter Tryz.func37, Tryz.ntmps37
    go_wp2_with fail
    refine C0.mono ?_
    rintro e w' ⟨rfl, rfl⟩
    go_wp2_with fail
    clear C0 hWS
    go_loopw [3, 5] (fun o b wr => ∃ k : Nat, k ≤ 7 ∧ o = .int .i64 ((ofN n k : Nat) : Int) ∧ b = .int .i64 ((2 ^ k : Nat) : Int) ∧ wr = w') (fun _ b _ => 128 - (RowKit.intOf b).toNat)
    case atStart => exact ⟨0, by omega, by rw [ofN_zero]; rfl, rfl, rfl⟩
    case round =>
      obtain ⟨k, hk, rfl, rfl, rfl⟩ := hrel
      obtain rfl | rfl | rfl | rfl | rfl | rfl | rfl | rfl : k = 0 ∨ k = 1 ∨ k = 2 ∨ k = 3 ∨ k = 4 ∨ k = 5 ∨ k = 6 ∨ k = 7 := by omega
      · have C1 := names_any 0 (by omega) wr
        have C2 := HC.out 0 (by omega)
        have hs := ofN_succ n 0
        have hlt : ofN n 0 < 2 ^ 0 := ofN_lt n 0
        simp only [Nat.reducePow] at C1 hlt hs ⊢
        obtain ⟨a, ha⟩ : ∃ a, ofN n 0 = a := ⟨_, rfl⟩
        rw [ha] at hs hlt ⊢
        have HO := Lib.hid (or0 a hlt)
        clear ha hlt
        go_wp2_with fail
        refine C1.mono ?_
        rintro e _ ⟨rfl, rfl⟩
        go_wp2_with fail
        refine C2.mono ?_
        rintro e _ ⟨rfl, rfl⟩
        by_cases hi : n ∈ nmL 0
        · rw [decide_eq_true hi]
          rw [if_pos hi] at hs
          have HR := Lib.hid hs
          clear hs hi C1 C2
          go_wp2_with fail
          exact ⟨⟨1, by omega, by rw [HO.out, HR.out], rfl, trivial⟩, by simp [RowKit.intOf]⟩
        · rw [decide_eq_false hi]
          rw [if_neg hi] at hs
          have HR := Lib.hid hs
          clear hs hi C1 C2
          go_wp2_with fail
          exact ⟨⟨1, by omega, by rw [HR.out]; rfl, rfl, trivial⟩, by simp [RowKit.intOf]⟩
      · have C1 := names_any 1 (by omega) wr
        have C2 := HC.out 1 (by omega)
        have hs := ofN_succ n 1
        have hlt : ofN n 1 < 2 ^ 1 := ofN_lt n 1
        simp only [Nat.reducePow] at C1 hlt hs ⊢
        obtain ⟨a, ha⟩ : ∃ a, ofN n 1 = a := ⟨_, rfl⟩
        rw [ha] at hs hlt ⊢
        have HO := Lib.hid (or1 a hlt)
        clear ha hlt
        go_wp2_with fail
        refine C1.mono ?_
        rintro e _ ⟨rfl, rfl⟩
        go_wp2_with fail
        refine C2.mono ?_
        rintro e _ ⟨rfl, rfl⟩
        by_cases hi : n ∈ nmL 1
        · rw [decide_eq_true hi]
          rw [if_pos hi] at hs
          have HR := Lib.hid hs
          clear hs hi C1 C2
          go_wp2_with fail
          exact ⟨⟨2, by omega, by rw [HO.out, HR.out], rfl, trivial⟩, by simp [RowKit.intOf]⟩
        · rw [decide_eq_false hi]
          rw [if_neg hi] at hs
          have HR := Lib.hid hs
          clear hs hi C1 C2
          go_wp2_with fail
          exact ⟨⟨2, by omega, by rw [HR.out]; rfl, rfl, trivial⟩, by simp [RowKit.intOf]⟩
      · have C1 := names_any 2 (by omega) wr
        have C2 := HC.out 2 (by omega)
        have hs := ofN_succ n 2
        have hlt : ofN n 2 < 2 ^ 2 := ofN_lt n 2
        simp only [Nat.reducePow] at C1 hlt hs ⊢
        obtain ⟨a, ha⟩ : ∃ a, ofN n 2 = a := ⟨_, rfl⟩
        rw [ha] at hs hlt ⊢
        have HO := Lib.hid (or2 a hlt)
        clear ha hlt
        go_wp2_with fail
        refine C1.mono ?_
        rintro e _ ⟨rfl, rfl⟩
        go_wp2_with fail
        refine C2.mono ?_
        rintro e _ ⟨rfl, rfl⟩
        by_cases hi : n ∈ nmL 2
        · rw [decide_eq_true hi]
          rw [if_pos hi] at hs
          have HR := Lib.hid hs
          clear hs hi C1 C2
          go_wp2_with fail
          exact ⟨⟨3, by omega, by rw [HO.out, HR.out], rfl, trivial⟩, by simp [RowKit.intOf]⟩
        · rw [decide_eq_false hi]
          rw [if_neg hi] at hs
          have HR := Lib.hid hs
          clear hs hi C1 C2
          go_wp2_with fail
          exact ⟨⟨3, by omega, by rw [HR.out]; rfl, rfl, trivial⟩, by simp [RowKit.intOf]⟩
      · have C1 := names_any 3 (by omega) wr
        have C2 := HC.out 3 (by omega)
        have hs := ofN_succ n 3
        have hlt : ofN n 3 < 2 ^ 3 := ofN_lt n 3
        simp only [Nat.reducePow] at C1 hlt hs ⊢
        obtain ⟨a, ha⟩ : ∃ a, ofN n 3 = a := ⟨_, rfl⟩
        rw [ha] at hs hlt ⊢
        have HO := Lib.hid (or3 a hlt)
        clear ha hlt
        go_wp2_with fail
        refine C1.mono ?_
        rintro e _ ⟨rfl, rfl⟩
        go_wp2_with fail
        refine C2.mono ?_
        rintro e _ ⟨rfl, rfl⟩
        by_cases hi : n ∈ nmL 3
        · rw [decide_eq_true hi]
          rw [if_pos hi] at hs
          have HR := Lib.hid hs
          clear hs hi C1 C2
          go_wp2_with fail
          exact ⟨⟨4, by omega, by rw [HO.out, HR.out], rfl, trivial⟩, by simp [RowKit.intOf]⟩
        · rw [decide_eq_false hi]
          rw [if_neg hi] at hs
          have HR := Lib.hid hs
          clear hs hi C1 C2
          go_wp2_with fail
          exact ⟨⟨4, by omega, by rw [HR.out]; rfl, rfl, trivial⟩, by simp [RowKit.intOf]⟩
      · have C1 := names_any 4 (by omega) wr
        have C2 := HC.out 4 (by omega)
        have hs := ofN_succ n 4
        have hlt : ofN n 4 < 2 ^ 4 := ofN_lt n 4
        simp only [Nat.reducePow] at C1 hlt hs ⊢
        obtain ⟨a, ha⟩ : ∃ a, ofN n 4 = a := ⟨_, rfl⟩
        rw [ha] at hs hlt ⊢
        have HO := Lib.hid (or4 a hlt)
        clear ha hlt
        go_wp2_with fail
        refine C1.mono ?_
        rintro e _ ⟨rfl, rfl⟩
        go_wp2_with fail
        refine C2.mono ?_
        rintro e _ ⟨rfl, rfl⟩
        by_cases hi : n ∈ nmL 4
        · rw [decide_eq_true hi]
          rw [if_pos hi] at hs
          have HR := Lib.hid hs
          clear hs hi C1 C2
          go_wp2_with fail
          exact ⟨⟨5, by omega, by rw [HO.out, HR.out], rfl, trivial⟩, by simp [RowKit.intOf]⟩
        · rw [decide_eq_false hi]
          rw [if_neg hi] at hs
          have HR := Lib.hid hs
          clear hs hi C1 C2
          go_wp2_with fail
          exact ⟨⟨5, by omega, by rw [HR.out]; rfl, rfl, trivial⟩, by simp [RowKit.intOf]⟩
      · have C1 := names_any 5 (by omega) wr
        have C2 := HC.out 5 (by omega)
        have hs := ofN_succ n 5
        have hlt : ofN n 5 < 2 ^ 5 := ofN_lt n 5
        simp only [Nat.reducePow] at C1 hlt hs ⊢
        obtain ⟨a, ha⟩ : ∃ a, ofN n 5 = a := ⟨_, rfl⟩
        rw [ha] at hs hlt ⊢
        have HO := Lib.hid (or5 a hlt)
        clear ha hlt
        go_wp2_with fail
        refine C1.mono ?_
        rintro e _ ⟨rfl, rfl⟩
        go_wp2_with fail
        refine C2.mono ?_
        rintro e _ ⟨rfl, rfl⟩
        by_cases hi : n ∈ nmL 5
        · rw [decide_eq_true hi]
          rw [if_pos hi] at hs
          have HR := Lib.hid hs
          clear hs hi C1 C2
          go_wp2_with fail
          exact ⟨⟨6, by omega, by rw [HO.out, HR.out], rfl, trivial⟩, by simp [RowKit.intOf]⟩
        · rw [decide_eq_false hi]
          rw [if_neg hi] at hs
          have HR := Lib.hid hs
          clear hs hi C1 C2
          go_wp2_with fail
          exact ⟨⟨6, by omega, by rw [HR.out]; rfl, rfl, trivial⟩, by simp [RowKit.intOf]⟩
      · have C1 := names_any 6 (by omega) wr
        have C2 := HC.out 6 (by omega)
        have hs := ofN_succ n 6
        have hlt : ofN n 6 < 2 ^ 6 := ofN_lt n 6
        simp only [Nat.reducePow] at C1 hlt hs ⊢
        obtain ⟨a, ha⟩ : ∃ a, ofN n 6 = a := ⟨_, rfl⟩
        rw [ha] at hs hlt ⊢
        have HO := Lib.hid (or6 a hlt)
        clear ha hlt
        go_wp2_with fail
        refine C1.mono ?_
        rintro e _ ⟨rfl, rfl⟩
        go_wp2_with fail
        refine C2.mono ?_
        rintro e _ ⟨rfl, rfl⟩
        by_cases hi : n ∈ nmL 6
        · rw [decide_eq_true hi]
          rw [if_pos hi] at hs
          have HR := Lib.hid hs
          clear hs hi C1 C2
          go_wp2_with fail
          exact ⟨⟨7, by omega, by rw [HO.out, HR.out], rfl, trivial⟩, by simp [RowKit.intOf]⟩
        · rw [decide_eq_false hi]
          rw [if_neg hi] at hs
          have HR := Lib.hid hs
          clear hs hi C1 C2
          go_wp2_with fail
          exact ⟨⟨7, by omega, by rw [HR.out]; rfl, rfl, trivial⟩, by simp [RowKit.intOf]⟩
      · go_wp2_with fail
        go_ret
        exact ⟨rfl, rfl⟩
end Go.Proofs.YtojinnnpfjhifaaGreatDoor.K

namespace Go.Proofs.YtojinnnpfjhifaaGreatDoor.K
open Go.RowKit Go.Shelf Go.Lib

def ctA (c : Ct) : Array Value := #[.int .i64 (c.h : Int), .int .i64 (c.p : Int), .int .i64 (c.n : Int)]
/-- A nest, as it lies. -/
def NeAt (w : World) (g : Nat) (c : Ct) : Prop := Cells w g 81 (ctA c)
/-- One of the counts. -/
def Ct.get (c : Ct) : Nat → Nat
  | 0 => c.h
  | 1 => c.p
  | _ => c.n
/-- A token. -/
def tkA (kd fr tt : Int) (nm : ByteArray) (r : Int) (sg : Bool) : Array Value := #[.int .i64 kd, .int .i64 fr, .int .i64 tt, .string nm, .int .i32 r, .bool sg]

set_option maxRecDepth 100000 in
set_option maxHeartbeats 4000000 in
theorem shows_any (g : Nat) (c : Ct) (w : World) (h : NeAt w g c) : Calls Tryz.prog 38 #[.pointer (some ⟨g, 0, none⟩)] w fun e w' => e = .returned (.bool (decide (c.h = 0))) ∧ w' = w := by
  have x0 : w.cell? ⟨g, 0, none⟩ = some (.int .i64 (c.h : Int)) := h.cell 0
  clear h
  obtain ⟨a, ha⟩ : ∃ a, c.h = a := ⟨_, rfl⟩
  rw [ha] at x0 ⊢
  clear ha
  have e0 : (((a : Nat) : Int) == 0) = decide (a = 0) := by
    by_cases q : a = 0
    · subst q; rfl
    · rw [decide_eq_false q]; simpa using q
  go_enter Tryz.func38, Tryz.ntmps38
  go_wp2_with fail
  go_ret
  exact ⟨by simp, rfl⟩
set_option maxRecDepth 100000 in
set_option maxHeartbeats 4000000 in
theorem count_any (g k : Nat) (hk : k < 3) (c : Ct) (w : World) (h : NeAt w g c) : Calls Tryz.prog 42 #[.pointer (some ⟨g, 0, none⟩), .int .i64 (k : Int)] w fun e w' => e = .returned (.int .i64 (c.get k : Int)) ∧ w' = w := by
  have x0 : w.cell? ⟨g, k, none⟩ = some (.int .i64 (c.get k : Int)) := by
    refine (h.cell k).trans ?_
    obtain rfl | rfl | rfl : k = 0 ∨ k = 1 ∨ k = 2 := by omega
    all_goals rfl
  clear h
  obtain ⟨a, ha⟩ : ∃ a, c.get k = a := ⟨_, rfl⟩
  rw [ha] at x0 ⊢
  clear ha
  go_enter Tryz.func42, Tryz.ntmps42
  go_wp2_with fail
  go_ret
  exact ⟨rfl, rfl⟩
set_option maxRecDepth 100000 in
set_option maxHeartbeats 4000000 in
theorem count_nil (k : Int) (w : World) : Calls Tryz.prog 42 #[.pointer none, .int .i64 k] w fun e w' => e = .returned (.int .i64 0) ∧ w' = w := by
  go_enter Tryz.func42, Tryz.ntmps42
  go_wp2_with fail
  go_ret
  exact ⟨rfl, rfl⟩
set_option maxRecDepth 100000 in
set_option maxHeartbeats 4000000 in
theorem hid_any (g : Nat) (c : Ct) (w : World) (h : NeAt w g c) : Calls Tryz.prog 25 #[.pointer (some ⟨g, 0, none⟩)] w fun e w' => e = .returned (.int .i64 (c.h : Int)) ∧ w' = w := by
  have C := count_any g 0 (by omega) c w h
  go_enter Tryz.func25, Tryz.ntmps25
  go_wp2_with fail
  refine C.mono ?_
  rintro e _ ⟨rfl, rfl⟩
  go_wp2_with fail
  go_ret
  exact ⟨rfl, rfl⟩
set_option maxRecDepth 100000 in
set_option maxHeartbeats 4000000 in
theorem pre_any (g : Nat) (c : Ct) (w : World) (h : NeAt w g c) : Calls Tryz.prog 45 #[.pointer (some ⟨g, 0, none⟩)] w fun e w' => e = .returned (.int .i64 (c.p : Int)) ∧ w' = w := by
  have C := count_any g 1 (by omega) c w h
  go_enter Tryz.func45, Tryz.ntmps45
  go_wp2_with fail
  refine C.mono ?_
  rintro e _ ⟨rfl, rfl⟩
  go_wp2_with fail
  go_ret
  exact ⟨rfl, rfl⟩
set_option maxRecDepth 100000 in
set_option maxHeartbeats 4000000 in
theorem nob_any (g : Nat) (c : Ct) (w : World) (h : NeAt w g c) : Calls Tryz.prog 44 #[.pointer (some ⟨g, 0, none⟩)] w fun e w' => e = .returned (.int .i64 (c.n : Int)) ∧ w' = w := by
  have C := count_any g 2 (by omega) c w h
  go_enter Tryz.func44, Tryz.ntmps44
  go_wp2_with fail
  refine C.mono ?_
  rintro e _ ⟨rfl, rfl⟩
  go_wp2_with fail
  go_ret
  exact ⟨rfl, rfl⟩
set_option maxRecDepth 100000 in
set_option maxHeartbeats 4000000 in
theorem hid_nil (w : World) : Calls Tryz.prog 25 #[.pointer none] w fun e w' => e = .returned (.int .i64 0) ∧ w' = w := by
  have C := count_nil 0 w
  go_enter Tryz.func25, Tryz.ntmps25
  go_wp2_with fail
  refine C.mono ?_
  rintro e _ ⟨rfl, rfl⟩
  go_wp2_with fail
  go_ret
  exact ⟨rfl, rfl⟩
set_option maxRecDepth 100000 in
set_option maxHeartbeats 4000000 in
theorem pre_nil (w : World) : Calls Tryz.prog 45 #[.pointer none] w fun e w' => e = .returned (.int .i64 0) ∧ w' = w := by
  have C := count_nil 1 w
  go_enter Tryz.func45, Tryz.ntmps45
  go_wp2_with fail
  refine C.mono ?_
  rintro e _ ⟨rfl, rfl⟩
  go_wp2_with fail
  go_ret
  exact ⟨rfl, rfl⟩
set_option maxRecDepth 100000 in
set_option maxHeartbeats 4000000 in
theorem nob_nil (w : World) : Calls Tryz.prog 44 #[.pointer none] w fun e w' => e = .returned (.int .i64 0) ∧ w' = w := by
  have C := count_nil 2 w
  go_enter Tryz.func44, Tryz.ntmps44
  go_wp2_with fail
  refine C.mono ?_
  rintro e _ ⟨rfl, rfl⟩
  go_wp2_with fail
  go_ret
  exact ⟨rfl, rfl⟩
set_option maxRecDepth 100000 in
set_option maxHeartbeats 4000000 in
theorem step_any (N : Nat) (hN : N < 128) (kd fr tt : Int) (nm : ByteArray) (r : Int) (sg : Bool) (w : World) :
    Calls Tryz.prog 40 #[.agg (tkA kd fr tt nm r sg), .int .i64 (N : Int)] w fun e w' => e = .returned (.int .i64 (byN N kd sg)) ∧ Below w.heap.size w w' := by
  have a2 := and2 N hN
  unfold byN tkA
  obtain ⟨W1, hW1⟩ : ∃ V, w.alloc (.cells #[.int .i64 kd, .int .i64 fr, .int .i64 tt, .string nm, .int .i32 r, .bool sg] 40) = V := ⟨_, rfl⟩
  have b1 : Below w.heap.size w W1 := by rw [← hW1]; exact below_new w _
  have o1 : Cells W1 w.heap.size 40 #[.int .i64 kd, .int .i64 fr, .int .i64 tt, .string nm, .int .i32 r, .bool sg] := by rw [← hW1]; exact cells_new _ _ _
  have q0 := o1.cell 0
  have q5 := o1.cell 5
  simp at q0 q5
  have HW := Lib.hid (And.intro hW1 b1)
  clear hW1 b1 o1
  cases hb : isB N 1 with
  | true =>
    rw [hb] at a2
    simp only [if_true] at a2 ⊢
    clear hb
    go_enter Tryz.func40, Tryz.ntmps40
    go_wp2_with fail
    rw [HW.out.1]
    go_wp2_with fail
    go_ret
    exact ⟨rfl, HW.out.2⟩
  | false =>
    rw [hb] at a2
    simp only [Bool.false_eq_true, if_false] at a2 ⊢
    clear hb
    by_cases k3 : kd = 3
    · subst k3
      simp only [if_true]
      go_enter Tryz.func40, Tryz.ntmps40
      go_wp2_with fail
      rw [HW.out.1]
      go_wp2_with fail
      go_ret
      exact ⟨rfl, HW.out.2⟩
    · rw [if_neg k3]
      have k3' : (kd == 3) = false := by simpa using k3
      clear k3
      cases sg
      · go_enter Tryz.func40, Tryz.ntmps40
        go_wp2_with fail
        rw [HW.out.1]
        go_wp2_with fail
        go_ret
        exact ⟨rfl, HW.out.2⟩
      · go_enter Tryz.func40, Tryz.ntmps40
        go_wp2_with fail
        rw [HW.out.1]
        go_wp2_with fail
        go_ret
        exact ⟨rfl, HW.out.2⟩
set_option maxRecDepth 100000 in
set_option maxHeartbeats 4000000 in
theorem forces_any (N : Nat) (hN : N < 128) (kd : Int) (w : World) :
    Calls Tryz.prog 41 #[.int .i64 kd, .int .i64 (N : Int)] w fun e w' => e = .returned (.bool (forcesN N kd)) ∧ w' = w := by
  have a1 := and1 N hN
  have a2 := and2 N hN
  have a33 := and33 N hN
  unfold forcesN
  by_cases k3 : kd = 3
  · subst k3
    simp only [if_true]
    clear a33
    cases h0 : isB N 0 <;> cases h1 : isB N 1 <;> rw [h0] at a1 <;> rw [h1] at a2 <;> simp only [Bool.false_eq_true, if_false, if_true] at a1 a2 ⊢ <;> clear h0 h1
    all_goals
      go_enter Tryz.func41, Tryz.ntmps41
      go_wp2_with fail
      go_ret
      exact ⟨rfl, rfl⟩
  · rw [if_neg k3]
    have k3' : (kd == 3) = false := by simpa using k3
    clear k3 a1 a2
    generalize (isB N 0 || isB N 5) = b at *
    cases b
    all_goals
      simp only [Bool.not_true, Bool.not_false] at a33
      go_enter Tryz.func41, Tryz.ntmps41
      go_wp2_with fail
      go_ret
      exact ⟨by simp [bne, a33], rfl⟩
end Go.Proofs.YtojinnnpfjhifaaGreatDoor.K

namespace Go.Proofs.YtojinnnpfjhifaaGreatDoor.K
open Go.RowKit Go.Shelf Go.Lib

/-- The first k counts are turned. -/
def addK (M : Nat) (b : Int) (c : Ct) (k : Nat) : Ct :=
  ⟨if 0 < k ∧ isB M 2 then clampN c.h b else c.h, if 1 < k ∧ isB M 3 then clampN c.p b else c.p, if 2 < k ∧ isB M 4 then clampN c.n b else c.n⟩
theorem addK_zero (M : Nat) (b : Int) (c : Ct) : addK M b c 0 = c := by simp [addK]
/-- What is asked of what an element is, behind the first test. -/
def seenN (N : Nat) (c : Ct) : Nat := if c.h = 0 then N else if isB N 2 then 4 else 0
theorem addK_all (N : Nat) (b : Int) (c : Ct) : addK (seenN N c) b c 3 = addN N b c := by
  unfold addK addN seenN
  by_cases h : c.h = 0
  · simp [h]
  · simp only [h, if_false]
    cases e : isB N 2
    · simp [show isB 0 2 = false from rfl, show isB 0 3 = false from rfl, show isB 0 4 = false from rfl]
    · simp [show isB 4 2 = true from rfl, show isB 4 3 = false from rfl, show isB 4 4 = false from rfl]
def iv3 : Value := .agg #[.int .i64 4, .int .i64 8, .int .i64 16]
theorem and4s (N : Nat) (hN : N < 128) : bits BinOp.and IntKind.i64 (N : Int) 4 = ((if isB N 2 then 4 else 0 : Nat) : Int) := by
  rw [and4 N hN]
  cases isB N 2 <;> rfl
theorem seenN_lt (N : Nat) (hN : N < 128) (c : Ct) : seenN N c < 128 := by
  unfold seenN
  split
  · exact hN
  · split <;> omega
theorem addK_ok (M : Nat) (b : Int) {c : Ct} (hc : c.ok) (k : Nat) : (addK M b c k).ok := by
  obtain ⟨h1, h2, h3⟩ := hc
  refine ⟨?_, ?_, ?_⟩
  · show (if _ then _ else _) ≤ 255
    split
    · exact clampN_le _ _
    · exact h1
  · show (if _ then _ else _) ≤ 255
    split
    · exact clampN_le _ _
    · exact h2
  · show (if _ then _ else _) ≤ 255
    split
    · exact clampN_le _ _
    · exact h3
/-- One count is turned. -/
def Ct.put (c : Ct) (k x : Nat) : Ct := match k with
  | 0 => ⟨x, c.p, c.n⟩
  | 1 => ⟨c.h, x, c.n⟩
  | _ => ⟨c.h, c.p, x⟩
theorem NeAt.set {w : World} {g : Nat} {c : Ct} (h : NeAt w g c) (k x : Nat) (hk : k < 3) : NeAt (w.setCell ⟨g, k, none⟩ (.int .i64 (x : Int))) g (c.put k x) := by
  have := Cells.set h k (.int .i64 (x : Int))
  obtain rfl | rfl | rfl : k = 0 ∨ k = 1 ∨ k = 2 := by omega
  all_goals exact this
theorem addK_hit (M : Nat) (b : Int) (c : Ct) (k : Nat) (hk : k < 3) (h : isB M (k + 2) = true) : addK M b c (k + 1) = (addK M b c k).put k (clampN (c.get k) b) := by
  obtain rfl | rfl | rfl : k = 0 ∨ k = 1 ∨ k = 2 := by omega
  all_goals
    simp only [Nat.reduceAdd] at h
    simp [addK, Ct.put, Ct.get, h]
theorem addK_miss (M : Nat) (b : Int) (c : Ct) (k : Nat) (hk : k < 3) (h : isB M (k + 2) = false) : addK M b c (k + 1) = addK M b c k := by
  obtain rfl | rfl | rfl : k = 0 ∨ k = 1 ∨ k = 2 := by omega
  all_goals
    simp only [Nat.reduceAdd] at h
    simp [addK, h]
theorem addK_get (M : Nat) (b : Int) (c : Ct) (k : Nat) (hk : k < 3) : (addK M b c k).get k = c.get k := by
  obtain rfl | rfl | rfl : k = 0 ∨ k = 1 ∨ k = 2 := by omega
  all_goals simp [addK, Ct.get]
theorem get_ok {c : Ct} (h : c.ok) (k : Nat) : c.get k ≤ 255 := by
  obtain ⟨h1, h2, h3⟩ := h
  match k with
  | 0 => exact h1
  | 1 => exact h2
  | k + 2 => exact h3
theorem bitK (M : Nat) (hM : M < 128) (k : Nat) (hk : k < 3) : bits BinOp.and IntKind.i64 (M : Int) ((2 ^ (k + 2) : Nat) : Int) = if isB M (k + 2) then ((2 ^ (k + 2) : Nat) : Int) else 0 := by
  obtain rfl | rfl | rfl : k = 0 ∨ k = 1 ∨ k = 2 := by omega
  · exact and4 M hM
  · exact and8 M hM
  · exact and16 M hM
theorem index_iv (W : World) : (Instr.index 78 (.agg #[.int .i64 4, .int .i64 8, .int .i64 16]) (.int .i64 0)).run Tryz.prog W = .ok (.int .i64 4) W ∧ (Instr.index 78 (.agg #[.int .i64 4, .int .i64 8, .int .i64 16]) (.int .i64 1)).run Tryz.prog W = .ok (.int .i64 8) W ∧
    (Instr.index 78 (.agg #[.int .i64 4, .int .i64 8, .int .i64 16]) (.int .i64 2)).run Tryz.prog W = .ok (.int .i64 16) W := ⟨by kernel_rfl, by kernel_rfl, by kernel_rfl⟩
theorem index_ivk (k : Nat) (hk : k < 3) (W : World) : (Instr.index 78 (.agg #[.int .i64 4, .int .i64 8, .int .i64 16]) (.int .i64 (k : Int))).run Tryz.prog W = .ok (.int .i64 ((2 ^ (k + 2) : Nat) : Int)) W := by
  obtain rfl | rfl | rfl : k = 0 ∨ k = 1 ∨ k = 2 := by omega
  · exact (index_iv W).1
  · exact (index_iv W).2.1
  · exact (index_iv W).2.2
set_option maxRecDepth 100000 in
set_option maxHeartbeats 8000000 in
theorem add_any (N : Nat) (hN : N < 128) (b : Int) (hb : b = 0 ∨ b = 1 ∨ b = -1) (g : Nat) (c : Ct) (hc : c.ok) (w : World) (h : NeAt w g c) :
    Calls Tryz.prog 39 #[.pointer (some ⟨g, 0, none⟩), .int .i64 (N : Int), .int .i64 b] w fun e w' => e = .returned (.tuple #[]) ∧ NeAt w' g (addN N b c) ∧ Fz (fun k => k = g) w w' := by
  have CS := shows_any g c w h
  have hM := seenN_lt N hN c
  have ha4 := and4s N hN
  rw [← addK_all N b c]
  have hb1 : -1 ≤ b ∧ b ≤ 1 := by omega
  have hs1 : c.h = 0 → seenN N c = N := fun q => by simp [seenN, q]
  have hs2 : ¬ c.h = 0 → seenN N c = (if isB N 2 then 4 else 0) := fun q => by simp [seenN, q]
  obtain ⟨M, hMe⟩ : ∃ M, seenN N c = M := ⟨_, rfl⟩
  rw [hMe] at hM hs1 hs2 ⊢
  clear hMe hN
  have HC := Lib.hid hc
  have HH := Lib.hid h
  have HB := Lib.hid hM
  clear hc h hb hM
  by_cases h0 : c.h = 0
  · obtain rfl : M = N := hs1 h0
    rw [decide_eq_true h0] at CS
    clear hs1 hs2 h0 ha4
    go_enter Tryz.func39, Tryz.ntmps39
    go_wp2_with fail
    refine CS.mono ?_
    rintro e w0 ⟨rfl, hw⟩
    obtain rfl := hw.symm
    clear CS
    go_wp2_with fail
    go_loopw [6, 7, 14] (fun _ _ i wr => ∃ k : Nat, k ≤ 3 ∧ i = .int .i64 (k : Int) ∧ NeAt wr g (addK M b c k) ∧ Fz (fun k => k = g) w wr) (fun _ _ i _ => 3 - (RowKit.intOf i).toNat)
    case atStart => exact ⟨0, by omega, rfl, by rw [addK_zero]; exact HH.out, Fz.refl _ _⟩
    case round =>
      obtain ⟨k, hk, rfl, hne, hfz⟩ := hrel
      by_cases hk3 : k < 3
      case neg =>
        obtain rfl : k = 3 := by omega
        have HE := Lib.hid (And.intro hne hfz)
        clear hne hfz
        go_wp2_with fail
        go_end0
        exact ⟨rfl, HE.out⟩
      case pos =>
        have x0 : wr.cell? ⟨g, k, none⟩ = some (.int .i64 (c.get k : Int)) := by
          refine (Cells.cell hne k).trans ?_
          rw [← addK_get M b c k hk3]
          obtain rfl | rfl | rfl : k = 0 ∨ k = 1 ∨ k = 2 := by omega
          all_goals rfl
        have f0 := Cells.froz hne k
        have hbk := bitK M HB.out k hk3
        have hg := get_ok HC.out k
        have hit := addK_hit M b c k hk3
        have miss := addK_miss M b c k hk3
        have hq := clampN_eq (c.get k) b
        have hne2 := fun x => NeAt.set hne k x hk3
        have hfz2 := fun x : Nat => hfz.trans (Fz.set (X := fun k => k = g) wr g k (.int .i64 (x : Int)) rfl)
        obtain ⟨cg, hcg⟩ : ∃ q, c.get k = q := ⟨_, rfl⟩
        rw [hcg] at x0 hg hit hq
        obtain ⟨q, hqe⟩ : ∃ q, clampN cg b = q := ⟨_, rfl⟩
        rw [hqe] at hit hq
        have HQ := Lib.hid hq
        have hix := fun W => index_ivk k hk3 W
        have ht1 : (((2 ^ (k + 2) : Nat) : Int) == 0) = false := by
          have : 0 < 2 ^ (k + 2) := Nat.two_pow_pos _
          simp only [beq_eq_false_iff_ne]
          omega
        obtain ⟨t, hte⟩ : ∃ t : Nat, 2 ^ (k + 2) = t := ⟨_, rfl⟩
        rw [hte] at ht1 hbk
        simp only [hte] at hix
        clear hte
        have i3 : (k : Int) < 3 := by omega
        cases hbit : isB M (k + 2)
        · rw [hbit] at hbk
          have hend : ∃ j : Nat, j ≤ 3 ∧ Value.int .i64 ((k : Int) + 1) = .int .i64 (j : Int) ∧ NeAt wr g (addK M b c j) ∧ Fz (fun k => k = g) w wr :=
            ⟨k + 1, by omega, by simp, by rw [miss hbit]; exact hne, hfz⟩
          have HEND := Lib.hid hend
          clear hit miss hbit hne hfz hne2 hfz2 hq HQ hcg hqe hend
          simp only [Bool.false_eq_true, if_false] at hbk
          go_wp2_with fail
          go_roundw
          case rel => exact HEND.out
          case measure => simp [RowKit.intOf]; omega
        · rw [hbit] at hbk
          have hend : ∃ j : Nat, j ≤ 3 ∧ Value.int .i64 ((k : Int) + 1) = .int .i64 (j : Int) ∧ NeAt (wr.setCell ⟨g, k, none⟩ (.int .i64 (min (max ((cg : Int) + b) 0) 255))).drew g (addK M b c j) ∧ Fz (fun k => k = g) w (wr.setCell ⟨g, k, none⟩ (.int .i64 (min (max ((cg : Int) + b) 0) 255))).drew := by
            rw [← hq]
            exact ⟨k + 1, by omega, by simp, by rw [hit hbit]; exact hne2 q, (hfz2 q).trans ⟨rfl, rfl, rfl, Nat.le_refl _, fun _ _ _ => rfl⟩⟩
          have HEND := Lib.hid hend
          clear hit miss hbit hne hfz hne2 hfz2 hq HQ hcg hqe hend
          simp only [if_true] at hbk
          go_wp2_with fail
          go_still_tail 13, (by kernel_rfl)
          go_wp2_with fail
          exact ⟨HEND.out, by simp [RowKit.intOf]; omega⟩
  · have hs3 := hs2 h0
    rw [← hs3] at ha4
    rw [decide_eq_false h0] at CS
    clear hs1 hs2 hs3 h0
    go_enter Tryz.func39, Tryz.ntmps39
    go_wp2_with fail
    refine CS.mono ?_
    rintro e w0 ⟨rfl, hw⟩
    obtain rfl := hw.symm
    clear CS
    go_wp2_with fail
    go_loopw [6, 7, 14] (fun _ _ i wr => ∃ k : Nat, k ≤ 3 ∧ i = .int .i64 (k : Int) ∧ NeAt wr g (addK M b c k) ∧ Fz (fun k => k = g) w wr) (fun _ _ i _ => 3 - (RowKit.intOf i).toNat)
    case atStart => exact ⟨0, by omega, rfl, by rw [addK_zero]; exact HH.out, Fz.refl _ _⟩
    case round =>
      obtain ⟨k, hk, rfl, hne, hfz⟩ := hrel
      by_cases hk3 : k < 3
      case neg =>
        obtain rfl : k = 3 := by omega
        have HE := Lib.hid (And.intro hne hfz)
        clear hne hfz
        go_wp2_with fail
        go_end0
        exact ⟨rfl, HE.out⟩
      case pos =>
        have x0 : wr.cell? ⟨g, k, none⟩ = some (.int .i64 (c.get k : Int)) := by
          refine (Cells.cell hne k).trans ?_
          rw [← addK_get M b c k hk3]
          obtain rfl | rfl | rfl : k = 0 ∨ k = 1 ∨ k = 2 := by omega
          all_goals rfl
        have f0 := Cells.froz hne k
        have hbk := bitK M HB.out k hk3
        have hg := get_ok HC.out k
        have hit := addK_hit M b c k hk3
        have miss := addK_miss M b c k hk3
        have hq := clampN_eq (c.get k) b
        have hne2 := fun x => NeAt.set hne k x hk3
        have hfz2 := fun x : Nat => hfz.trans (Fz.set (X := fun k => k = g) wr g k (.int .i64 (x : Int)) rfl)
        obtain ⟨cg, hcg⟩ : ∃ q, c.get k = q := ⟨_, rfl⟩
        rw [hcg] at x0 hg hit hq
        obtain ⟨q, hqe⟩ : ∃ q, clampN cg b = q := ⟨_, rfl⟩
        rw [hqe] at hit hq
        have HQ := Lib.hid hq
        have hix := fun W => index_ivk k hk3 W
        have ht1 : (((2 ^ (k + 2) : Nat) : Int) == 0) = false := by
          have : 0 < 2 ^ (k + 2) := Nat.two_pow_pos _
          simp only [beq_eq_false_iff_ne]
          omega
        obtain ⟨t, hte⟩ : ∃ t : Nat, 2 ^ (k + 2) = t := ⟨_, rfl⟩
        rw [hte] at ht1 hbk
        simp only [hte] at hix
        clear hte
        have i3 : (k : Int) < 3 := by omega
        cases hbit : isB M (k + 2)
        · rw [hbit] at hbk
          have hend : ∃ j : Nat, j ≤ 3 ∧ Value.int .i64 ((k : Int) + 1) = .int .i64 (j : Int) ∧ NeAt wr g (addK M b c j) ∧ Fz (fun k => k = g) w wr :=
            ⟨k + 1, by omega, by simp, by rw [miss hbit]; exact hne, hfz⟩
          have HEND := Lib.hid hend
          clear hit miss hbit hne hfz hne2 hfz2 hq HQ hcg hqe hend
          simp only [Bool.false_eq_true, if_false] at hbk
          go_wp2_with fail
          go_roundw
          case rel => exact HEND.out
          case measure => simp [RowKit.intOf]; omega
        · rw [hbit] at hbk
          have hend : ∃ j : Nat, j ≤ 3 ∧ Value.int .i64 ((k : Int) + 1) = .int .i64 (j : Int) ∧ NeAt (wr.setCell ⟨g, k, none⟩ (.int .i64 (min (max ((cg : Int) + b) 0) 255))).drew g (addK M b c j) ∧ Fz (fun k => k = g) w (wr.setCell ⟨g, k, none⟩ (.int .i64 (min (max ((cg : Int) + b) 0) 255))).drew := by
            rw [← hq]
            exact ⟨k + 1, by omega, by simp, by rw [hit hbit]; exact hne2 q, (hfz2 q).trans ⟨rfl, rfl, rfl, Nat.le_refl _, fun _ _ _ => rfl⟩⟩
          have HEND := Lib.hid hend
          clear hit miss hbit hne hfz hne2 hfz2 hq HQ hcg hqe hend
          simp only [if_true] at hbk
          go_wp2_with fail
          go_still_tail 13, (by kernel_rfl)
          go_wp2_with fail
          exact ⟨HEND.out, by simp [RowKit.intOf]; omega⟩
end Go.Proofs.YtojinnnpfjhifaaGreatDoor.K

namespace Go.Proofs.YtojinnnpfjhifaaGreatDoor.K
open Go.RowKit Go.Shelf Go.Lib Go.Maps Go.Sort
attribute [local irreducible] nmL ofN

set_option maxRecDepth 100000 in
set_option maxHeartbeats 8000000 in
theorem take_other (kd fr tt : Int) (nm : ByteArray) (r : Int) (sg : Bool) (h2 : kd ≠ 2) (h3 : kd ≠ 3) (p : Value) (hp : p = .pointer none ∨ ∃ g, p = .pointer (some ⟨g, 0, none⟩)) (w : World) :
    Calls Tryz.prog 24 #[p, .agg (tkA kd fr tt nm r sg)] w fun e w' => e = .returned (.tuple #[.bool false, .bool false]) ∧ Below w.heap.size w w' := by
  have k2 : (kd != 2) = true := by simpa using h2
  have k3 : (kd != 3) = true := by simpa using h3
  unfold tkA
  obtain ⟨W1, hW1⟩ : ∃ V, w.alloc (.cells #[.int .i64 kd, .int .i64 fr, .int .i64 tt, .string nm, .int .i32 r, .bool sg] 40) = V := ⟨_, rfl⟩
  have b1 : Below w.heap.size w W1 := by rw [← hW1]; exact below_new w _
  have o1 : Cells W1 w.heap.size 40 #[.int .i64 kd, .int .i64 fr, .int .i64 tt, .string nm, .int .i32 r, .bool sg] := by rw [← hW1]; exact cells_new _ _ _
  have q0 := o1.cell 0
  simp at q0
  have HW := Lib.hid (And.intro hW1 b1)
  clear hW1 b1 o1 h2 h3
  rcases hp with rfl | ⟨g, rfl⟩
  · go_enter Tryz.func24, Tryz.ntmps24
    go_wp2_with fail
    rw [HW.out.1]
    go_wp2_with fail
    go_ret2
    exact ⟨rfl, HW.out.2⟩
  · go_enter Tryz.func24, Tryz.ntmps24
    go_wp2_with fail
    rw [HW.out.1]
    go_wp2_with fail
    go_ret2
    exact ⟨rfl, HW.out.2⟩
set_option maxRecDepth 100000 in
set_option maxHeartbeats 8000000 in
theorem take_nil (kd fr tt : Int) (nm : ByteArray) (r : Int) (sg : Bool) (w : World) :
    Calls Tryz.prog 24 #[.pointer none, .agg (tkA kd fr tt nm r sg)] w fun e w' => e = .returned (.tuple #[.bool false, .bool false]) ∧ Below w.heap.size w w' := by
  unfold tkA
  obtain ⟨W1, hW1⟩ : ∃ V, w.alloc (.cells #[.int .i64 kd, .int .i64 fr, .int .i64 tt, .string nm, .int .i32 r, .bool sg] 40) = V := ⟨_, rfl⟩
  have b1 : Below w.heap.size w W1 := by rw [← hW1]; exact below_new w _
  have HW := Lib.hid (And.intro hW1 b1)
  clear hW1 b1
  go_enter Tryz.func24, Tryz.ntmps24
  go_wp2_with fail
  rw [HW.out.1]
  go_wp2_with fail
  go_ret2
  exact ⟨rfl, HW.out.2⟩
set_option maxRecDepth 100000 in
set_option maxHeartbeats 8000000 in
theorem take_tag (kd fr tt : Int) (nm : ByteArray) (r : Int) (sg : Bool) (hk : kd = 2 ∨ kd = 3) (hl : nm.size ≤ 1000000) (g : Nat) (c : Ct) (hc : c.ok) (w : World) (h : NeAt w g c) (hM : MX w) :
    Calls Tryz.prog 24 #[.pointer (some ⟨g, 0, none⟩), .agg (tkA kd fr tt nm r sg)] w fun e w' =>
      e = .returned (.tuple #[.bool (decide (c.h = 0) && forcesN (ofN nm.data.toList 7) kd), .bool (decide (kd = 2) && (decide (c.h = 0) && isB (ofN nm.data.toList 7) 6))]) ∧
      NeAt w' g (addN (ofN nm.data.toList 7) (byN (ofN nm.data.toList 7) kd sg) c) ∧ Fz (fun k => k = g) w w' := by
  obtain ⟨W1, hW1⟩ : ∃ V, w.alloc (.cells #[.int .i64 kd, .int .i64 fr, .int .i64 tt, .string nm, .int .i32 r, .bool sg] 40) = V := ⟨_, rfl⟩
  have b1 : Below w.heap.size w W1 := by rw [← hW1]; exact below_new w _
  have o1 : Cells W1 w.heap.size 40 #[.int .i64 kd, .int .i64 fr, .int .i64 tt, .string nm, .int .i32 r, .bool sg] := by rw [← hW1]; exact cells_new _ _ _
  have h1 : NeAt W1 g c := h.on b1
  have hM1 : MX W1 := hM.on hM.pos b1
  have COF := fun n => of_any nm hl (W1.drewN n) (hM1.on hM1.pos (below_drewN (Below.refl _ _) n))
  have CSH := fun n => shows_any g c (W1.drewN n) (Cells.on h1 (below_drewN (Below.refl _ _) n))
  have hN : ofN nm.data.toList 7 < 128 := ofN_lt _ 7
  obtain ⟨N, hNe⟩ : ∃ N, ofN nm.data.toList 7 = N := ⟨_, rfl⟩
  rw [hNe] at hN ⊢
  simp only [hNe] at COF
  have CST := fun W => step_any N hN kd fr tt nm r sg W
  have hby := byN_cases N kd sg
  obtain ⟨by_, hbye⟩ : ∃ b, byN N kd sg = b := ⟨_, rfl⟩
  rw [hbye] at hby ⊢
  simp only [hbye] at CST
  have CAD := fun W (hW : NeAt W g c) => add_any N hN by_ (by omega) g c hc W hW
  have CFO := fun W => forces_any N hN kd W
  have ha64 := and64 N hN
  obtain ⟨H0, hH0⟩ : ∃ d, decide (c.h = 0) = d := ⟨_, rfl⟩
  simp only [hH0] at CSH ⊢
  obtain ⟨FO, hFO⟩ : ∃ d, forcesN N kd = d := ⟨_, rfl⟩
  simp only [hFO] at CFO ⊢
  obtain ⟨C2, hC2⟩ : ∃ d, addN N by_ c = d := ⟨_, rfl⟩
  simp only [hC2] at CAD ⊢
  have q0 := o1.cell 0
  have q1 := o1.cell 1
  have q2 := o1.cell 2
  have q3 := o1.cell 3
  have q4 := o1.cell 4
  have q5 := o1.cell 5
  simp at q0 q1 q2 q3 q4 q5
  unfold tkA at CST ⊢
  have hg : g < w.heap.size := Cells.lt h
  have HW := Lib.hid (And.intro hW1 (And.intro b1 (And.intro h1 (And.intro o1 hg))))
  clear hW1 b1 o1 h1 h hM hM1 hNe hbye hby hH0 hFO hC2 hc hg
  have k23 : (kd == 2) = decide (kd = 2) := by
    by_cases q : kd = 2
    · subst q; rfl
    · rw [decide_eq_false q]; simpa using q
  have CU : ∀ d os, Calls Tryz.prog 40 #[.agg #[.int .i64 kd, .int .i64 fr, .int .i64 tt, .string nm, .int .i32 r, .bool sg], .int .i64 (N : Int)] (grow (redrawn W1 d) os) fun e w'' => e = .returned (.int .i64 by_) ∧ ∃ p : Regrown, w'' = grow (redrawn W1 p.d) p.os :=
    fun d os => Calls.regrown_of (CST _)
  have G0 : ∀ d os, (grow (redrawn W1 d) os).cell? ⟨w.heap.size, 0, none⟩ = some (.int .i64 kd) := fun d os => cell_regrown q0 d os
  have G1 : ∀ d os, (grow (redrawn W1 d) os).cell? ⟨w.heap.size, 1, none⟩ = some (.int .i64 fr) := fun d os => cell_regrown q1 d os
  have G2 : ∀ d os, (grow (redrawn W1 d) os).cell? ⟨w.heap.size, 2, none⟩ = some (.int .i64 tt) := fun d os => cell_regrown q2 d os
  have G3 : ∀ d os, (grow (redrawn W1 d) os).cell? ⟨w.heap.size, 3, none⟩ = some (.string nm) := fun d os => cell_regrown q3 d os
  have G4 : ∀ d os, (grow (redrawn W1 d) os).cell? ⟨w.heap.size, 4, none⟩ = some (.int .i32 r) := fun d os => cell_regrown q4 d os
  have G5 : ∀ d os, (grow (redrawn W1 d) os).cell? ⟨w.heap.size, 5, none⟩ = some (.bool sg) := fun d os => cell_regrown q5 d os
  have HU := Lib.hid CU
  clear CU CST
  rcases hk with rfl | rfl
  · have kk : ((2 : Int) = 2) = True := by simp
    simp only [decide_true, Bool.true_and]
    clear kk k23
    go_enter Tryz.func24, Tryz.ntmps24
    go_wp2_with fail
    rw [HW.out.1]
    go_wp2_with go_quiet (first | exact Calls.quiet_of_same (COF _) | exact Calls.quiet_of_same (CSH _))
    refine wp_region_mix (fun i => if i = 6 then 1 else if i = 7 then 3 else 0) [0, 1, 2, 3, 4, 5, 6] [7] (fun w' => ∃ p : Regrown, w' = grow (redrawn W1 p.d) p.os) (by kernel_rfl) (by kernel_rfl) ⟨⟨_, #[]⟩, by rw [grow_empty]; rfl⟩ ?_
    simp only [opsAt, List.filterMap_cons, List.filterMap_nil, List.getElem?_toArray, List.getElem?_cons_zero, List.getElem?_cons_succ]
    change wpQuiet _ _ _ _ [_, _, _, _, _, _, _] _
    repeat (go_big_quiet_step (exact HU.out _ _))
    refine wpQuiet_nil ?_
    intro _ hw'
    obtain ⟨⟨dq, osq⟩, hw''⟩ := hw'
    subst hw''
    have b2 := below_regrown W1 dq osq
    have n2 : NeAt (grow (redrawn W1 dq) osq) g c := Cells.on HW.out.2.2.1 b2
    have x2 : Cells (grow (redrawn W1 dq) osq) w.heap.size 40 #[.int .i64 2, .int .i64 fr, .int .i64 tt, .string nm, .int .i32 r, .bool sg] := HW.out.2.2.2.1.on b2
    have b12 : Below w.heap.size w (grow (redrawn W1 dq) osq) := HW.out.2.1.trans (b2.mono HW.out.2.1.size)
    clear G0 G1 G2 G3 G4 G5 COF CSH
    have CA := CAD _ n2
    have HX := Lib.hid (And.intro b12 x2)
    clear b2 n2 x2 b12 CAD
    generalize grow (redrawn W1 dq) osq = w2 at *
    clear q0 q1 q2 q3 q4 q5
    refine wpSeqM_step rfl ?_
    go_wp2_with fail
    refine CA.mono ?_
    rintro e w3 ⟨rfl, hn3, hf3⟩
    have hg := HW.out.2.2.2.2
    have x3 : Cells w3 w.heap.size 40 #[.int .i64 2, .int .i64 fr, .int .i64 tt, .string nm, .int .i32 r, .bool sg] := (hf3.block _ HX.out.2.lt (by omega)).trans HX.out.2
    have y0 : w3.cell? ⟨w.heap.size, 0, none⟩ = some (.int .i64 2) := x3.cell 0
    have hz : NeAt w3 g C2 ∧ Fz (fun k => k = g) w w3 := ⟨hn3, (Fz.of_below HX.out.1).trans hf3⟩
    have HZ := Lib.hid hz
    clear CA hn3 hf3 hg x3 hz
    go_wp2_with fail
    unfold wpSeqM
    have CF := fun n => CFO (w3.drewN n)
    clear CFO
    cases H0
    · go_wp2_with fail
      go_ret2
      exact ⟨by simp, HZ.out⟩
    · cases h6 : isB N 6
      all_goals
        rw [h6] at ha64
        simp only [Bool.false_eq_true, if_false, if_true] at ha64
        go_wp2_with go_quiet (exact Calls.quiet_of_same (CF _))
        go_ret2
        exact ⟨by simp [h6], HZ.out.1, HZ.out.2.trans ⟨rfl, rfl, rfl, Nat.le_refl _, fun _ _ _ => rfl⟩⟩
  · have kk : ((3 : Int) = 2) = False := by simp
    simp only [kk, decide_false, Bool.false_and]
    clear kk k23
    go_enter Tryz.func24, Tryz.ntmps24
    go_wp2_with fail
    rw [HW.out.1]
    go_wp2_with go_quiet (first | exact Calls.quiet_of_same (COF _) | exact Calls.quiet_of_same (CSH _))
    refine wp_region_mix (fun i => if i = 6 then 1 else if i = 7 then 3 else 0) [0, 1, 2, 3, 4, 5, 6] [7] (fun w' => ∃ p : Regrown, w' = grow (redrawn W1 p.d) p.os) (by kernel_rfl) (by kernel_rfl) ⟨⟨_, #[]⟩, by rw [grow_empty]; rfl⟩ ?_
    simp only [opsAt, List.filterMap_cons, List.filterMap_nil, List.getElem?_toArray, List.getElem?_cons_zero, List.getElem?_cons_succ]
    change wpQuiet _ _ _ _ [_, _, _, _, _, _, _] _
    repeat (go_big_quiet_step (exact HU.out _ _))
    refine wpQuiet_nil ?_
    intro _ hw'
    obtain ⟨⟨dq, osq⟩, hw''⟩ := hw'
    subst hw''
    have b2 := below_regrown W1 dq osq
    have n2 : NeAt (grow (redrawn W1 dq) osq) g c := Cells.on HW.out.2.2.1 b2
    have x2 : Cells (grow (redrawn W1 dq) osq) w.heap.size 40 #[.int .i64 3, .int .i64 fr, .int .i64 tt, .string nm, .int .i32 r, .bool sg] := HW.out.2.2.2.1.on b2
    have b12 : Below w.heap.size w (grow (redrawn W1 dq) osq) := HW.out.2.1.trans (b2.mono HW.out.2.1.size)
    clear G0 G1 G2 G3 G4 G5 COF CSH
    have CA := CAD _ n2
    have HX := Lib.hid (And.intro b12 x2)
    clear b2 n2 x2 b12 CAD
    generalize grow (redrawn W1 dq) osq = w2 at *
    clear q0 q1 q2 q3 q4 q5
    refine wpSeqM_step rfl ?_
    go_wp2_with fail
    refine CA.mono ?_
    rintro e w3 ⟨rfl, hn3, hf3⟩
    have hg := HW.out.2.2.2.2
    have x3 : Cells w3 w.heap.size 40 #[.int .i64 3, .int .i64 fr, .int .i64 tt, .string nm, .int .i32 r, .bool sg] := (hf3.block _ HX.out.2.lt (by omega)).trans HX.out.2
    have y0 : w3.cell? ⟨w.heap.size, 0, none⟩ = some (.int .i64 3) := x3.cell 0
    have hz : NeAt w3 g C2 ∧ Fz (fun k => k = g) w w3 := ⟨hn3, (Fz.of_below HX.out.1).trans hf3⟩
    have HZ := Lib.hid hz
    clear CA hn3 hf3 hg x3 hz
    go_wp2_with fail
    unfold wpSeqM
    have CF := fun n => CFO (w3.drewN n)
    clear CFO
    cases H0
    · go_wp2_with fail
      go_ret2
      exact ⟨by simp, HZ.out⟩
    · cases h6 : isB N 6
      all_goals
        rw [h6] at ha64
        simp only [Bool.false_eq_true, if_false, if_true] at ha64
        go_wp2_with go_quiet (exact Calls.quiet_of_same (CF _))
        go_ret2
        exact ⟨by simp, HZ.out.1, HZ.out.2.trans ⟨rfl, rfl, rfl, Nat.le_refl _, fun _ _ _ => rfl⟩⟩
end Go.Proofs.YtojinnnpfjhifaaGreatDoor.K

namespace Go.Proofs.YtojinnnpfjhifaaGreatDoor.K
open Go.RowKit Go.Shelf Go.Lib Go.Maps
attribute [local irreducible] nmL ofN

theorem fz_below {g B : Nat} {w w1 w2 : World} (hb : Below B w w1) (hf : Fz (fun k => k = g) w1 w2) (hg : B ≤ g) (hB : B ≤ w1.heap.size) : Below B w w2 :=
  hb.trans (hf.below hB (fun k hk e => by have e' : k = g := e; omega))
theorem MX.fz {g : Nat} {w w' : World} (h : MX w) (hf : Fz (fun k => k = g) w w') (hg : 0 < g) : MX w' := by
  obtain ⟨m, hm⟩ := h
  refine ⟨m, ?_⟩
  have h0 : 0 < w.heap.size := MX.pos ⟨m, hm⟩
  have := hf.block 0 h0 (by omega)
  unfold World.cell? at hm ⊢
  rw [this]
  exact hm
/-- What a name is. -/
def nameN (nm : ByteArray) : Nat := ofN nm.data.toList 7
theorem take_any (kd fr tt : Int) (nm : ByteArray) (r : Int) (sg : Bool) (hl : nm.size ≤ 1000000) (g : Nat) (c : Ct) (hc : c.ok) (w : World) (h : NeAt w g c) (hM : MX w) :
    Calls Tryz.prog 24 #[.pointer (some ⟨g, 0, none⟩), .agg (tkA kd fr tt nm r sg)] w fun e w' =>
      e = .returned (.tuple #[.bool (takeF (nameN nm) kd c), .bool (takeX (nameN nm) kd c)]) ∧ NeAt w' g (takeC (nameN nm) kd sg c) ∧ Fz (fun k => k = g) w w' := by
  by_cases hk : kd = 2 ∨ kd = 3
  · unfold takeF takeX takeC nameN
    rw [decide_eq_true hk, if_pos hk, Bool.true_and]
    exact take_tag kd fr tt nm r sg hk hl g c hc w h hM
  · have h2 : kd ≠ 2 := fun e => hk (.inl e)
    have h3 : kd ≠ 3 := fun e => hk (.inr e)
    unfold takeF takeX takeC
    rw [decide_eq_false hk, if_neg hk, decide_eq_false h2, Bool.false_and, Bool.false_and]
    refine (take_other kd fr tt nm r sg h2 h3 (.pointer (some ⟨g, 0, none⟩)) (.inr ⟨g, rfl⟩) w).mono ?_
    rintro e w' ⟨rfl, hb⟩
    exact ⟨rfl, Cells.on h hb, Fz.of_below hb⟩
set_option maxRecDepth 100000 in
set_option maxHeartbeats 4000000 in
theorem new_any (w : World) : Calls Tryz.prog 22 #[] w fun e w' => e = .returned (.pointer (some ⟨w.heap.size, 0, none⟩)) ∧ w' = w.alloc (.cells (ctA ⟨0, 0, 0⟩) 81) := by
  unfold ctA
  go_enter Tryz.func22, Tryz.ntmps22
  go_wp2_with fail
  go_ret
  exact ⟨rfl, rfl⟩
theorem name_pre : nameN ⟨#[112, 114, 101]⟩ = 9 := by with_unfolding_all decide +kernel
theorem name_nobr : nameN ⟨#[110, 111, 98, 114]⟩ = 16 := by with_unfolding_all decide +kernel
theorem ok0 : (⟨0, 0, 0⟩ : Ct).ok := ⟨by decide, by decide, by decide⟩
end Go.Proofs.YtojinnnpfjhifaaGreatDoor.K

namespace Go.Proofs.YtojinnnpfjhifaaGreatDoor.K
open Go.RowKit Go.Shelf Go.Lib

theorem Fz.drew {X : Nat → Prop} (w : World) : Fz X w { w with drawn := w.drawn + 1 } := ⟨rfl, rfl, rfl, Nat.le_refl _, fun _ _ _ => rfl⟩
/-- A later world, in which only some blocks may have turned: for the walk's simp one thing. -/
structure Later (X : Nat → Prop) (w : World) where
  W : World
  h : Fz X w W
instance later_nonempty (X : Nat → Prop) (w : World) : Nonempty (Later X w) := ⟨⟨w, Fz.refl _ _⟩⟩
theorem cell_later {X : Nat → Prop} {w : World} {b o : Nat} {v : Value} (h : w.cell? ⟨b, o, none⟩ = some v) (hX : ¬ X b) (p : Later X w) : p.W.cell? ⟨b, o, none⟩ = some v :=
  (World.cell?_of_block (a := ⟨b, o, none⟩) (p.h.block b (block_lt_of_cell h) hX)).trans h
end Go.Proofs.YtojinnnpfjhifaaGreatDoor.K

namespace Go.Proofs.YtojinnnpfjhifaaGreatDoor.K
open Go.RowKit Go.Shelf Go.Lib Go.Maps

theorem _root_.Go.RowKit.Below.setcK {B : Nat} {w w' : World} (h : Below B w w') {j : Nat} (hj : B ≤ j) (i : Nat) (x : Value) : Below B w (w'.setCell ⟨j, i, none⟩ x) := h.setCell (p := ⟨j, i, none⟩) hj x
theorem Fz.cellsK {X : Nat → Prop} {w w' : World} {g t : Nat} {cs : Array Value} (h : Fz X w w') (hX : ¬ X g) (hc : Cells w g t cs) : Cells w' g t cs := (h.block _ hc.lt hX).trans hc
/-- An item. -/
structure IT where
  r : Int
  at_ : Int
  sz : Int
  f : Bool
  x : Bool
  n : Bool
  p : Bool
def itA (i : IT) : Array Value := #[.int .i32 i.r, .int .i64 i.at_, .int .i64 i.sz, .bool i.f, .bool i.x, .bool i.n, .bool i.p]
/-- An extractor's block. -/
def exA (gn : Nat) (f x : Bool) : Array Value := #[.pointer (some ⟨gn, 0, none⟩), .bool f, .bool x]
/-- Behind the item that is made. -/
structure I1 (w : World) (gn gx : Nat) (f x : Bool) (it : Array Value) (G : Nat) (W : World) : Prop where
  b : Below w.heap.size w W
  r : Cells W w.heap.size 42 #[.int .i32 0, .int .i64 0, .int .i64 0, .bool false, .bool false, .bool false, .bool false]
  y : Cells W G 42 it
  g : w.heap.size < G
theorem shareK {T G : Prop} (tree : T → G) (k : T) : G := tree k
set_option maxRecDepth 100000 in
set_option maxHeartbeats 8000000 in
theorem item_any (gn gx : Nat) (c : Ct) (f x : Bool) (r at_ sz : Int) (w : World) (hx : Cells w gx 63 (exA gn f x)) (hn : NeAt w gn c) :
    Calls Tryz.prog 27 #[.pointer (some ⟨gx, 0, none⟩), .int .i32 r, .int .i64 at_, .int .i64 sz] w fun e w' =>
      e = .returned (.agg (itA ⟨r, at_, sz, f, x, decide (0 < c.n), decide (0 < c.p)⟩)) ∧ Cells w' gx 63 (exA gn false false) ∧ Fz (fun k => k = gx) w w' := by
  have CN := fun W (h : Below w.heap.size w W) => nob_any gn c W (Cells.on hn h)
  have CP := fun W (h : Below w.heap.size w W) => pre_any gn c W (Cells.on hn h)
  obtain ⟨cn, hcn⟩ : ∃ q, c.n = q := ⟨_, rfl⟩
  obtain ⟨cp, hcp⟩ : ∃ q, c.p = q := ⟨_, rfl⟩
  rw [hcn, hcp]
  simp only [hcn] at CN
  simp only [hcp] at CP
  clear hcn hcp
  obtain ⟨bn, hbn⟩ : ∃ q, decide (0 < cn) = q := ⟨_, rfl⟩
  obtain ⟨bp, hbp⟩ : ∃ q, decide (0 < cp) = q := ⟨_, rfl⟩
  rw [hbn, hbp]
  unfold itA exA
  unfold exA at hx
  obtain ⟨W1, hW1⟩ : ∃ V, w.alloc (.cells #[.int .i32 0, .int .i64 0, .int .i64 0, .bool false, .bool false, .bool false, .bool false] 42) = V := ⟨_, rfl⟩
  have p1 : Below w.heap.size w W1 := by rw [← hW1]; exact below_new w _
  have o1 : Cells W1 w.heap.size 42 #[.int .i32 0, .int .i64 0, .int .i64 0, .bool false, .bool false, .bool false, .bool false] := by rw [← hW1]; exact cells_new _ _ _
  have x1 := hx.on p1
  have q0 : W1.cell? ⟨gx, 0, none⟩ = some (.pointer (some ⟨gn, 0, none⟩)) := x1.cell 0
  have q1 : W1.cell? ⟨gx, 1, none⟩ = some (.bool f) := x1.cell 1
  have q2 : W1.cell? ⟨gx, 2, none⟩ = some (.bool x) := x1.cell 2
  have hgx := hx.lt
  have HW := Lib.hid (And.intro hW1 (And.intro p1 (And.intro o1 (And.intro x1 (And.intro hgx hx)))))
  have HC := Lib.hid (And.intro CN CP)
  clear hW1 p1 o1 x1 CN CP hx hn hgx
  go_enter Tryz.func27, Tryz.ntmps27
  go_upto_region 1 with fail
  rw [HW.out.1]
  go_cut [9] from 10 to 33 (fun v wx => ∃ G, v = .pointer (some ⟨G, 0, none⟩) ∧ I1 w gn gx f x #[.int .i32 r, .int .i64 at_, .int .i64 sz, .bool f, .bool x, .bool bn, .bool bp] G wx)
  case first =>
    have g0 : ∀ p : Later (fun _ => False) W1, p.W.cell? ⟨gx, 0, none⟩ = some (.pointer (some ⟨gn, 0, none⟩)) := fun p => cell_later q0 (fun hf => hf) p
    have g1 : ∀ p : Later (fun _ => False) W1, p.W.cell? ⟨gx, 1, none⟩ = some (.bool f) := fun p => cell_later q1 (fun hf => hf) p
    have g2 : ∀ p : Later (fun _ => False) W1, p.W.cell? ⟨gx, 2, none⟩ = some (.bool x) := fun p => cell_later q2 (fun hf => hf) p
    clear q0 q1 q2
    refine wp_region_mixF (fun i => if i = 15 then 2 else if i = 16 then 2 else if 21 ≤ i then 2 else 0) [0, 1, 2, 3, 4, 5, 6, 7, 8, 9, 10, 11, 12, 13, 14, 17, 18, 19, 20] 7 (fun w' => ∃ p : Later (fun _ => False) W1, w' = p.W) (by kernel_rfl) (by kernel_rfl) ⟨⟨_, Fz.drew W1⟩, rfl⟩ ?_
    simp only [opsAt, List.filterMap_cons, List.filterMap_nil, List.getElem?_toArray, List.getElem?_cons_zero, List.getElem?_cons_succ]
    change wpQuiet _ _ _ _ [_, _, _, _, _, _, _, _, _, _, _, _, _, _, _, _, _, _, _] _
    repeat (go_big_quiet_step (fail))
    refine wpQuiet_nil ?_
    clear g0 g1 g2
    have zz : Fz (fun _ => False) W1 { W1 with drawn := W1.drawn + 1 } := Fz.drew W1
    obtain ⟨W4, hW4⟩ : ∃ V, ({ W1 with drawn := W1.drawn + 1 } : World) = V := ⟨_, rfl⟩
    rw [hW4] at zz ⊢
    clear hW4
    have bz := zz.below (Nat.le_refl _) (fun _ _ hf => hf)
    have H4 := Lib.hid (And.intro zz (And.intro (HW.out.2.1.trans (bz.mono HW.out.2.1.size)) (HW.out.2.2.1.on bz)))
    clear zz bz
    have x6 : Cells (W4.alloc (.cells #[.int .i32 0, .int .i64 0, .int .i64 0, .bool false, .bool false, .bool false, .bool false] 42)) W4.heap.size 42 #[.int .i32 0, .int .i64 0, .int .i64 0, .bool false, .bool false, .bool false, .bool false] := cells_new _ _ _
    have b6 := below_new W4 (.cells #[.int .i32 0, .int .i64 0, .int .i64 0, .bool false, .bool false, .bool false, .bool false] 42)
    obtain ⟨W5, hW5⟩ : ∃ V, W4.alloc (.cells #[.int .i32 0, .int .i64 0, .int .i64 0, .bool false, .bool false, .bool false, .bool false] 42) = V := ⟨_, rfl⟩
    rw [hW5] at x6 b6
    have hzG := H4.out.1.trans (Fz.of_below b6)
    have hws : w.heap.size < W4.heap.size := H4.out.2.2.lt
    have H5 := Lib.hid (And.intro hzG (And.intro (H4.out.2.1.trans (b6.mono H4.out.2.1.size)) (And.intro (H4.out.2.2.on b6) (And.intro x6 hws))))
    have HW5 := Lib.hid hW5
    clear x6 b6 hzG hws hW5
    apply shareK
    case tree =>
      intro K
      refine wpFreeM_step [15, 24] (by kernel_rfl) ⟨?_, ?_, trivial⟩
      · refine wpOp_of_list rfl ?_
        go_wp2_with fail
        refine (HC.out.1 _ H4.out.2.1).mono ?_
        rintro e W9 ⟨rfl, hw9⟩
        obtain rfl := hw9.symm
        clear hw9
        go_wp2_with fail
        refine ⟨⟨⟨_, H4.out.1⟩, rfl⟩, ?_⟩
        refine wpFreeM_step [16, 21, 24] (by kernel_rfl) ⟨?_, ?_, ?_, trivial⟩
        · refine wpOp_of_list rfl ?_
          go_wp2_with fail
          refine ⟨⟨⟨_, H4.out.1⟩, rfl⟩, ?_⟩
          refine wpFreeM_step [21, 24] (by kernel_rfl) ⟨?_, ?_, trivial⟩
          · refine wpOp_of_list rfl ?_
            go_wp2_with fail
            refine (HC.out.2 _ H4.out.2.1).mono ?_
            rintro e W9 ⟨rfl, hw9⟩
            obtain rfl := hw9.symm
            clear hw9
            go_wp2_with fail
            refine ⟨⟨⟨_, H4.out.1⟩, rfl⟩, ?_⟩
            refine wpFreeM_step [22, 24] (by kernel_rfl) ⟨?_, ?_, trivial⟩
            · refine wpOp_of_list rfl ?_
              go_wp2_with fail
              refine ⟨⟨⟨_, H4.out.1⟩, rfl⟩, ?_⟩
              refine wpFreeM_step [23, 24] (by kernel_rfl) ⟨?_, ?_, trivial⟩
              · refine wpOp_of_list rfl ?_
                go_wp2_with fail
                refine ⟨⟨⟨_, H4.out.1⟩, rfl⟩, ?_⟩
                refine wpFreeM_step [24] (by kernel_rfl) ⟨?_, trivial⟩
                refine wpOp_of_list rfl ?_
                go_wp2_with fail
                rw [HW5.out]
                refine ⟨⟨⟨_, H5.out.1⟩, rfl⟩, ?_⟩
                refine wpFreeM_step [25] (by kernel_rfl) ⟨?_, trivial⟩
                refine wpOp_of_list rfl ?_
                unfold wpFreeM
                exact K
              · refine wpOp_of_list rfl ?_
                go_wp2_with fail
                rw [HW5.out]
                refine ⟨⟨⟨_, H5.out.1⟩, rfl⟩, ?_⟩
                refine wpFreeM_step [23] (by kernel_rfl) ⟨?_, trivial⟩
                refine wpOp_of_list rfl ?_
                go_wp2_with fail
                refine ⟨⟨⟨_, H5.out.1⟩, rfl⟩, ?_⟩
                refine wpFreeM_step [25] (by kernel_rfl) ⟨?_, trivial⟩
                refine wpOp_of_list rfl ?_
                unfold wpFreeM
                exact K
            · refine wpOp_of_list rfl ?_
              go_wp2_with fail
              rw [HW5.out]
              refine ⟨⟨⟨_, H5.out.1⟩, rfl⟩, ?_⟩
              refine wpFreeM_step [22] (by kernel_rfl) ⟨?_, trivial⟩
              refine wpOp_of_list rfl ?_
              go_wp2_with fail
              refine ⟨⟨⟨_, H5.out.1⟩, rfl⟩, ?_⟩
              refine wpFreeM_step [23] (by kernel_rfl) ⟨?_, trivial⟩
              refine wpOp_of_list rfl ?_
              go_wp2_with fail
              refine ⟨⟨⟨_, H5.out.1⟩, rfl⟩, ?_⟩
              refine wpFreeM_step [25] (by kernel_rfl) ⟨?_, trivial⟩
              refine wpOp_of_list rfl ?_
              unfold wpFreeM
              exact K
          · refine wpOp_of_list rfl ?_
            go_wp2_with fail
            rw [HW5.out]
            refine ⟨⟨⟨_, H5.out.1⟩, rfl⟩, ?_⟩
            refine wpFreeM_step [21] (by kernel_rfl) ⟨?_, trivial⟩
            refine wpOp_of_list rfl ?_
            go_wp2_with fail
            refine (HC.out.2 _ H5.out.2.1).mono ?_
            rintro e W9 ⟨rfl, hw9⟩
            obtain rfl := hw9.symm
            clear hw9
            go_wp2_with fail
            refine ⟨⟨⟨_, H5.out.1⟩, rfl⟩, ?_⟩
            refine wpFreeM_step [22] (by kernel_rfl) ⟨?_, trivial⟩
            refine wpOp_of_list rfl ?_
            go_wp2_with fail
            refine ⟨⟨⟨_, H5.out.1⟩, rfl⟩, ?_⟩
            refine wpFreeM_step [23] (by kernel_rfl) ⟨?_, trivial⟩
            refine wpOp_of_list rfl ?_
            go_wp2_with fail
            refine ⟨⟨⟨_, H5.out.1⟩, rfl⟩, ?_⟩
            refine wpFreeM_step [25] (by kernel_rfl) ⟨?_, trivial⟩
            refine wpOp_of_list rfl ?_
            unfold wpFreeM
            exact K
        · refine wpOp_of_list rfl ?_
          go_wp2_with fail
          refine (HC.out.2 _ H4.out.2.1).mono ?_
          rintro e W9 ⟨rfl, hw9⟩
          obtain rfl := hw9.symm
          clear hw9
          go_wp2_with fail
          refine ⟨⟨⟨_, H4.out.1⟩, rfl⟩, ?_⟩
          refine wpFreeM_step [16, 22, 24] (by kernel_rfl) ⟨?_, ?_, ?_, trivial⟩
          · refine wpOp_of_list rfl ?_
            go_wp2_with fail
            refine ⟨⟨⟨_, H4.out.1⟩, rfl⟩, ?_⟩
            refine wpFreeM_step [22, 24] (by kernel_rfl) ⟨?_, ?_, trivial⟩
            · refine wpOp_of_list rfl ?_
              go_wp2_with fail
              refine ⟨⟨⟨_, H4.out.1⟩, rfl⟩, ?_⟩
              refine wpFreeM_step [23, 24] (by kernel_rfl) ⟨?_, ?_, trivial⟩
              · refine wpOp_of_list rfl ?_
                go_wp2_with fail
                refine ⟨⟨⟨_, H4.out.1⟩, rfl⟩, ?_⟩
                refine wpFreeM_step [24] (by kernel_rfl) ⟨?_, trivial⟩
                refine wpOp_of_list rfl ?_
                go_wp2_with fail
                rw [HW5.out]
                refine ⟨⟨⟨_, H5.out.1⟩, rfl⟩, ?_⟩
                refine wpFreeM_step [25] (by kernel_rfl) ⟨?_, trivial⟩
                refine wpOp_of_list rfl ?_
                unfold wpFreeM
                exact K
              · refine wpOp_of_list rfl ?_
                go_wp2_with fail
                rw [HW5.out]
                refine ⟨⟨⟨_, H5.out.1⟩, rfl⟩, ?_⟩
                refine wpFreeM_step [23] (by kernel_rfl) ⟨?_, trivial⟩
                refine wpOp_of_list rfl ?_
                go_wp2_with fail
                refine ⟨⟨⟨_, H5.out.1⟩, rfl⟩, ?_⟩
                refine wpFreeM_step [25] (by kernel_rfl) ⟨?_, trivial⟩
                refine wpOp_of_list rfl ?_
                unfold wpFreeM
                exact K
            · refine wpOp_of_list rfl ?_
              go_wp2_with fail
              rw [HW5.out]
              refine ⟨⟨⟨_, H5.out.1⟩, rfl⟩, ?_⟩
              refine wpFreeM_step [22] (by kernel_rfl) ⟨?_, trivial⟩
              refine wpOp_of_list rfl ?_
              go_wp2_with fail
              refine ⟨⟨⟨_, H5.out.1⟩, rfl⟩, ?_⟩
              refine wpFreeM_step [23] (by kernel_rfl) ⟨?_, trivial⟩
              refine wpOp_of_list rfl ?_
              go_wp2_with fail
              refine ⟨⟨⟨_, H5.out.1⟩, rfl⟩, ?_⟩
              refine wpFreeM_step [25] (by kernel_rfl) ⟨?_, trivial⟩
              refine wpOp_of_list rfl ?_
              unfold wpFreeM
              exact K
          · refine wpOp_of_list rfl ?_
            go_wp2_with fail
            refine ⟨⟨⟨_, H4.out.1⟩, rfl⟩, ?_⟩
            refine wpFreeM_step [16, 24] (by kernel_rfl) ⟨?_, ?_, trivial⟩
            · refine wpOp_of_list rfl ?_
              go_wp2_with fail
              refine ⟨⟨⟨_, H4.out.1⟩, rfl⟩, ?_⟩
              refine wpFreeM_step [23, 24] (by kernel_rfl) ⟨?_, ?_, trivial⟩
              · refine wpOp_of_list rfl ?_
                go_wp2_with fail
                refine ⟨⟨⟨_, H4.out.1⟩, rfl⟩, ?_⟩
                refine wpFreeM_step [24] (by kernel_rfl) ⟨?_, trivial⟩
                refine wpOp_of_list rfl ?_
                go_wp2_with fail
                rw [HW5.out]
                refine ⟨⟨⟨_, H5.out.1⟩, rfl⟩, ?_⟩
                refine wpFreeM_step [25] (by kernel_rfl) ⟨?_, trivial⟩
                refine wpOp_of_list rfl ?_
                unfold wpFreeM
                exact K
              · refine wpOp_of_list rfl ?_
                go_wp2_with fail
                rw [HW5.out]
                refine ⟨⟨⟨_, H5.out.1⟩, rfl⟩, ?_⟩
                refine wpFreeM_step [23] (by kernel_rfl) ⟨?_, trivial⟩
                refine wpOp_of_list rfl ?_
                go_wp2_with fail
                refine ⟨⟨⟨_, H5.out.1⟩, rfl⟩, ?_⟩
                refine wpFreeM_step [25] (by kernel_rfl) ⟨?_, trivial⟩
                refine wpOp_of_list rfl ?_
                unfold wpFreeM
                exact K
            · refine wpOp_of_list rfl ?_
              go_wp2_with fail
              rw [HW5.out]
              refine ⟨⟨⟨_, H5.out.1⟩, rfl⟩, ?_⟩
              refine wpFreeM_step [16] (by kernel_rfl) ⟨?_, trivial⟩
              refine wpOp_of_list rfl ?_
              go_wp2_with fail
              refine ⟨⟨⟨_, H5.out.1⟩, rfl⟩, ?_⟩
              refine wpFreeM_step [23] (by kernel_rfl) ⟨?_, trivial⟩
              refine wpOp_of_list rfl ?_
              go_wp2_with fail
              refine ⟨⟨⟨_, H5.out.1⟩, rfl⟩, ?_⟩
              refine wpFreeM_step [25] (by kernel_rfl) ⟨?_, trivial⟩
              refine wpOp_of_list rfl ?_
              unfold wpFreeM
              exact K
          · refine wpOp_of_list rfl ?_
            go_wp2_with fail
            rw [HW5.out]
            refine ⟨⟨⟨_, H5.out.1⟩, rfl⟩, ?_⟩
            refine wpFreeM_step [16, 22] (by kernel_rfl) ⟨?_, ?_, trivial⟩
            · refine wpOp_of_list rfl ?_
              go_wp2_with fail
              refine ⟨⟨⟨_, H5.out.1⟩, rfl⟩, ?_⟩
              refine wpFreeM_step [22] (by kernel_rfl) ⟨?_, trivial⟩
              refine wpOp_of_list rfl ?_
              go_wp2_with fail
              refine ⟨⟨⟨_, H5.out.1⟩, rfl⟩, ?_⟩
              refine wpFreeM_step [23] (by kernel_rfl) ⟨?_, trivial⟩
              refine wpOp_of_list rfl ?_
              go_wp2_with fail
              refine ⟨⟨⟨_, H5.out.1⟩, rfl⟩, ?_⟩
              refine wpFreeM_step [25] (by kernel_rfl) ⟨?_, trivial⟩
              refine wpOp_of_list rfl ?_
              unfold wpFreeM
              exact K
            · refine wpOp_of_list rfl ?_
              go_wp2_with fail
              refine ⟨⟨⟨_, H5.out.1⟩, rfl⟩, ?_⟩
              refine wpFreeM_step [16] (by kernel_rfl) ⟨?_, trivial⟩
              refine wpOp_of_list rfl ?_
              go_wp2_with fail
              refine ⟨⟨⟨_, H5.out.1⟩, rfl⟩, ?_⟩
              refine wpFreeM_step [23] (by kernel_rfl) ⟨?_, trivial⟩
              refine wpOp_of_list rfl ?_
              go_wp2_with fail
              refine ⟨⟨⟨_, H5.out.1⟩, rfl⟩, ?_⟩
              refine wpFreeM_step [25] (by kernel_rfl) ⟨?_, trivial⟩
              refine wpOp_of_list rfl ?_
              unfold wpFreeM
              exact K
        · refine wpOp_of_list rfl ?_
          go_wp2_with fail
          rw [HW5.out]
          refine ⟨⟨⟨_, H5.out.1⟩, rfl⟩, ?_⟩
          refine wpFreeM_step [16, 21] (by kernel_rfl) ⟨?_, ?_, trivial⟩
          · refine wpOp_of_list rfl ?_
            go_wp2_with fail
            refine ⟨⟨⟨_, H5.out.1⟩, rfl⟩, ?_⟩
            refine wpFreeM_step [21] (by kernel_rfl) ⟨?_, trivial⟩
            refine wpOp_of_list rfl ?_
            go_wp2_with fail
            refine (HC.out.2 _ H5.out.2.1).mono ?_
            rintro e W9 ⟨rfl, hw9⟩
            obtain rfl := hw9.symm
            clear hw9
            go_wp2_with fail
            refine ⟨⟨⟨_, H5.out.1⟩, rfl⟩, ?_⟩
            refine wpFreeM_step [22] (by kernel_rfl) ⟨?_, trivial⟩
            refine wpOp_of_list rfl ?_
            go_wp2_with fail
            refine ⟨⟨⟨_, H5.out.1⟩, rfl⟩, ?_⟩
            refine wpFreeM_step [23] (by kernel_rfl) ⟨?_, trivial⟩
            refine wpOp_of_list rfl ?_
            go_wp2_with fail
            refine ⟨⟨⟨_, H5.out.1⟩, rfl⟩, ?_⟩
            refine wpFreeM_step [25] (by kernel_rfl) ⟨?_, trivial⟩
            refine wpOp_of_list rfl ?_
            unfold wpFreeM
            exact K
          · refine wpOp_of_list rfl ?_
            go_wp2_with fail
            refine (HC.out.2 _ H5.out.2.1).mono ?_
            rintro e W9 ⟨rfl, hw9⟩
            obtain rfl := hw9.symm
            clear hw9
            go_wp2_with fail
            refine ⟨⟨⟨_, H5.out.1⟩, rfl⟩, ?_⟩
            refine wpFreeM_step [16, 22] (by kernel_rfl) ⟨?_, ?_, trivial⟩
            · refine wpOp_of_list rfl ?_
              go_wp2_with fail
              refine ⟨⟨⟨_, H5.out.1⟩, rfl⟩, ?_⟩
              refine wpFreeM_step [22] (by kernel_rfl) ⟨?_, trivial⟩
              refine wpOp_of_list rfl ?_
              go_wp2_with fail
              refine ⟨⟨⟨_, H5.out.1⟩, rfl⟩, ?_⟩
              refine wpFreeM_step [23] (by kernel_rfl) ⟨?_, trivial⟩
              refine wpOp_of_list rfl ?_
              go_wp2_with fail
              refine ⟨⟨⟨_, H5.out.1⟩, rfl⟩, ?_⟩
              refine wpFreeM_step [25] (by kernel_rfl) ⟨?_, trivial⟩
              refine wpOp_of_list rfl ?_
              unfold wpFreeM
              exact K
            · refine wpOp_of_list rfl ?_
              go_wp2_with fail
              refine ⟨⟨⟨_, H5.out.1⟩, rfl⟩, ?_⟩
              refine wpFreeM_step [16] (by kernel_rfl) ⟨?_, trivial⟩
              refine wpOp_of_list rfl ?_
              go_wp2_with fail
              refine ⟨⟨⟨_, H5.out.1⟩, rfl⟩, ?_⟩
              refine wpFreeM_step [23] (by kernel_rfl) ⟨?_, trivial⟩
              refine wpOp_of_list rfl ?_
              go_wp2_with fail
              refine ⟨⟨⟨_, H5.out.1⟩, rfl⟩, ?_⟩
              refine wpFreeM_step [25] (by kernel_rfl) ⟨?_, trivial⟩
              refine wpOp_of_list rfl ?_
              unfold wpFreeM
              exact K
      · refine wpOp_of_list rfl ?_
        go_wp2_with fail
        rw [HW5.out]
        refine ⟨⟨⟨_, H5.out.1⟩, rfl⟩, ?_⟩
        refine wpFreeM_step [15] (by kernel_rfl) ⟨?_, trivial⟩
        refine wpOp_of_list rfl ?_
        go_wp2_with fail
        refine (HC.out.1 _ H5.out.2.1).mono ?_
        rintro e W9 ⟨rfl, hw9⟩
        obtain rfl := hw9.symm
        clear hw9
        go_wp2_with fail
        refine ⟨⟨⟨_, H5.out.1⟩, rfl⟩, ?_⟩
        refine wpFreeM_step [16, 21] (by kernel_rfl) ⟨?_, ?_, trivial⟩
        · refine wpOp_of_list rfl ?_
          go_wp2_with fail
          refine ⟨⟨⟨_, H5.out.1⟩, rfl⟩, ?_⟩
          refine wpFreeM_step [21] (by kernel_rfl) ⟨?_, trivial⟩
          refine wpOp_of_list rfl ?_
          go_wp2_with fail
          refine (HC.out.2 _ H5.out.2.1).mono ?_
          rintro e W9 ⟨rfl, hw9⟩
          obtain rfl := hw9.symm
          clear hw9
          go_wp2_with fail
          refine ⟨⟨⟨_, H5.out.1⟩, rfl⟩, ?_⟩
          refine wpFreeM_step [22] (by kernel_rfl) ⟨?_, trivial⟩
          refine wpOp_of_list rfl ?_
          go_wp2_with fail
          refine ⟨⟨⟨_, H5.out.1⟩, rfl⟩, ?_⟩
          refine wpFreeM_step [23] (by kernel_rfl) ⟨?_, trivial⟩
          refine wpOp_of_list rfl ?_
          go_wp2_with fail
          refine ⟨⟨⟨_, H5.out.1⟩, rfl⟩, ?_⟩
          refine wpFreeM_step [25] (by kernel_rfl) ⟨?_, trivial⟩
          refine wpOp_of_list rfl ?_
          unfold wpFreeM
          exact K
        · refine wpOp_of_list rfl ?_
          go_wp2_with fail
          refine (HC.out.2 _ H5.out.2.1).mono ?_
          rintro e W9 ⟨rfl, hw9⟩
          obtain rfl := hw9.symm
          clear hw9
          go_wp2_with fail
          refine ⟨⟨⟨_, H5.out.1⟩, rfl⟩, ?_⟩
          refine wpFreeM_step [16, 22] (by kernel_rfl) ⟨?_, ?_, trivial⟩
          · refine wpOp_of_list rfl ?_
            go_wp2_with fail
            refine ⟨⟨⟨_, H5.out.1⟩, rfl⟩, ?_⟩
            refine wpFreeM_step [22] (by kernel_rfl) ⟨?_, trivial⟩
            refine wpOp_of_list rfl ?_
            go_wp2_with fail
            refine ⟨⟨⟨_, H5.out.1⟩, rfl⟩, ?_⟩
            refine wpFreeM_step [23] (by kernel_rfl) ⟨?_, trivial⟩
            refine wpOp_of_list rfl ?_
            go_wp2_with fail
            refine ⟨⟨⟨_, H5.out.1⟩, rfl⟩, ?_⟩
            refine wpFreeM_step [25] (by kernel_rfl) ⟨?_, trivial⟩
            refine wpOp_of_list rfl ?_
            unfold wpFreeM
            exact K
          · refine wpOp_of_list rfl ?_
            go_wp2_with fail
            refine ⟨⟨⟨_, H5.out.1⟩, rfl⟩, ?_⟩
            refine wpFreeM_step [16] (by kernel_rfl) ⟨?_, trivial⟩
            refine wpOp_of_list rfl ?_
            go_wp2_with fail
            refine ⟨⟨⟨_, H5.out.1⟩, rfl⟩, ?_⟩
            refine wpFreeM_step [23] (by kernel_rfl) ⟨?_, trivial⟩
            refine wpOp_of_list rfl ?_
            go_wp2_with fail
            refine ⟨⟨⟨_, H5.out.1⟩, rfl⟩, ?_⟩
            refine wpFreeM_step [25] (by kernel_rfl) ⟨?_, trivial⟩
            refine wpOp_of_list rfl ?_
            unfold wpFreeM
            exact K
    case k =>
      have f0 := H5.out.2.2.2.1.froz 0
      have f1 := H5.out.2.2.2.1.froz 1
      have f2 := H5.out.2.2.2.1.froz 2
      have f3 := H5.out.2.2.2.1.froz 3
      have f4 := H5.out.2.2.2.1.froz 4
      have f5 := H5.out.2.2.2.1.froz 5
      have f6 := H5.out.2.2.2.1.froz 6
      have y0 : W5.cell? ⟨W4.heap.size, 0, none⟩ = some (.int .i32 0) := H5.out.2.2.2.1.cell 0
      have y1 : W5.cell? ⟨W4.heap.size, 1, none⟩ = some (.int .i64 0) := H5.out.2.2.2.1.cell 1
      have y2 : W5.cell? ⟨W4.heap.size, 2, none⟩ = some (.int .i64 0) := H5.out.2.2.2.1.cell 2
      have y3 : W5.cell? ⟨W4.heap.size, 3, none⟩ = some (.bool false) := H5.out.2.2.2.1.cell 3
      have y4 : W5.cell? ⟨W4.heap.size, 4, none⟩ = some (.bool false) := H5.out.2.2.2.1.cell 4
      have y5 : W5.cell? ⟨W4.heap.size, 5, none⟩ = some (.bool false) := H5.out.2.2.2.1.cell 5
      have y6 : W5.cell? ⟨W4.heap.size, 6, none⟩ = some (.bool false) := H5.out.2.2.2.1.cell 6
      go_wp2_with fail
      have hge : w.heap.size ≤ W4.heap.size := Nat.le_of_lt H5.out.2.2.2.2
      have z1 : Cells (W5.setCell ⟨W4.heap.size, 0, none⟩ (.int .i32 r)) W4.heap.size 42 #[.int .i32 r, .int .i64 0, .int .i64 0, .bool false, .bool false, .bool false, .bool false] := H5.out.2.2.2.1.set 0 (.int .i32 r)
      have z2 : Cells ((W5.setCell ⟨W4.heap.size, 0, none⟩ (.int .i32 r)).setCell ⟨W4.heap.size, 1, none⟩ (.int .i64 at_)) W4.heap.size 42 #[.int .i32 r, .int .i64 at_, .int .i64 0, .bool false, .bool false, .bool false, .bool false] := z1.set 1 (.int .i64 at_)
      have z3 : Cells (((W5.setCell ⟨W4.heap.size, 0, none⟩ (.int .i32 r)).setCell ⟨W4.heap.size, 1, none⟩ (.int .i64 at_)).setCell ⟨W4.heap.size, 2, none⟩ (.int .i64 sz)) W4.heap.size 42 #[.int .i32 r, .int .i64 at_, .int .i64 sz, .bool false, .bool false, .bool false, .bool false] := z2.set 2 (.int .i64 sz)
      have z4 : Cells ((((W5.setCell ⟨W4.heap.size, 0, none⟩ (.int .i32 r)).setCell ⟨W4.heap.size, 1, none⟩ (.int .i64 at_)).setCell ⟨W4.heap.size, 2, none⟩ (.int .i64 sz)).setCell ⟨W4.heap.size, 3, none⟩ (.bool f)) W4.heap.size 42 #[.int .i32 r, .int .i64 at_, .int .i64 sz, .bool f, .bool false, .bool false, .bool false] := z3.set 3 (.bool f)
      have z5 : Cells (((((W5.setCell ⟨W4.heap.size, 0, none⟩ (.int .i32 r)).setCell ⟨W4.heap.size, 1, none⟩ (.int .i64 at_)).setCell ⟨W4.heap.size, 2, none⟩ (.int .i64 sz)).setCell ⟨W4.heap.size, 3, none⟩ (.bool f)).setCell ⟨W4.heap.size, 4, none⟩ (.bool x)) W4.heap.size 42 #[.int .i32 r, .int .i64 at_, .int .i64 sz, .bool f, .bool x, .bool false, .bool false] := z4.set 4 (.bool x)
      have z6 : Cells ((((((W5.setCell ⟨W4.heap.size, 0, none⟩ (.int .i32 r)).setCell ⟨W4.heap.size, 1, none⟩ (.int .i64 at_)).setCell ⟨W4.heap.size, 2, none⟩ (.int .i64 sz)).setCell ⟨W4.heap.size, 3, none⟩ (.bool f)).setCell ⟨W4.heap.size, 4, none⟩ (.bool x)).setCell ⟨W4.heap.size, 5, none⟩ (.bool bn)) W4.heap.size 42 #[.int .i32 r, .int .i64 at_, .int .i64 sz, .bool f, .bool x, .bool bn, .bool false] := z5.set 5 (.bool bn)
      have z7 : Cells (((((((W5.setCell ⟨W4.heap.size, 0, none⟩ (.int .i32 r)).setCell ⟨W4.heap.size, 1, none⟩ (.int .i64 at_)).setCell ⟨W4.heap.size, 2, none⟩ (.int .i64 sz)).setCell ⟨W4.heap.size, 3, none⟩ (.bool f)).setCell ⟨W4.heap.size, 4, none⟩ (.bool x)).setCell ⟨W4.heap.size, 5, none⟩ (.bool bn)).setCell ⟨W4.heap.size, 6, none⟩ (.bool bp)) W4.heap.size 42 #[.int .i32 r, .int .i64 at_, .int .i64 sz, .bool f, .bool x, .bool bn, .bool bp] := z6.set 6 (.bool bp)
      have b7 : Below w.heap.size w (((((((W5.setCell ⟨W4.heap.size, 0, none⟩ (.int .i32 r)).setCell ⟨W4.heap.size, 1, none⟩ (.int .i64 at_)).setCell ⟨W4.heap.size, 2, none⟩ (.int .i64 sz)).setCell ⟨W4.heap.size, 3, none⟩ (.bool f)).setCell ⟨W4.heap.size, 4, none⟩ (.bool x)).setCell ⟨W4.heap.size, 5, none⟩ (.bool bn)).setCell ⟨W4.heap.size, 6, none⟩ (.bool bp)) := (((((((H5.out.2.1.setcK hge 0 (.int .i32 r)).setcK hge 1 (.int .i64 at_)).setcK hge 2 (.int .i64 sz)).setcK hge 3 (.bool f)).setcK hge 4 (.bool x)).setcK hge 5 (.bool bn)).setcK hge 6 (.bool bp))
      have r0 := Fz.refl (fun k => k = W4.heap.size) W5
      have r1 : Fz (fun k => k = W4.heap.size) W5 (W5.setCell ⟨W4.heap.size, 0, none⟩ (.int .i32 r)) := r0.trans (Fz.set (X := fun k => k = W4.heap.size) _ W4.heap.size 0 (.int .i32 r) rfl)
      have r2 : Fz (fun k => k = W4.heap.size) W5 ((W5.setCell ⟨W4.heap.size, 0, none⟩ (.int .i32 r)).setCell ⟨W4.heap.size, 1, none⟩ (.int .i64 at_)) := r1.trans (Fz.set (X := fun k => k = W4.heap.size) _ W4.heap.size 1 (.int .i64 at_) rfl)
      have r3 : Fz (fun k => k = W4.heap.size) W5 (((W5.setCell ⟨W4.heap.size, 0, none⟩ (.int .i32 r)).setCell ⟨W4.heap.size, 1, none⟩ (.int .i64 at_)).setCell ⟨W4.heap.size, 2, none⟩ (.int .i64 sz)) := r2.trans (Fz.set (X := fun k => k = W4.heap.size) _ W4.heap.size 2 (.int .i64 sz) rfl)
      have r4 : Fz (fun k => k = W4.heap.size) W5 ((((W5.setCell ⟨W4.heap.size, 0, none⟩ (.int .i32 r)).setCell ⟨W4.heap.size, 1, none⟩ (.int .i64 at_)).setCell ⟨W4.heap.size, 2, none⟩ (.int .i64 sz)).setCell ⟨W4.heap.size, 3, none⟩ (.bool f)) := r3.trans (Fz.set (X := fun k => k = W4.heap.size) _ W4.heap.size 3 (.bool f) rfl)
      have r5 : Fz (fun k => k = W4.heap.size) W5 (((((W5.setCell ⟨W4.heap.size, 0, none⟩ (.int .i32 r)).setCell ⟨W4.heap.size, 1, none⟩ (.int .i64 at_)).setCell ⟨W4.heap.size, 2, none⟩ (.int .i64 sz)).setCell ⟨W4.heap.size, 3, none⟩ (.bool f)).setCell ⟨W4.heap.size, 4, none⟩ (.bool x)) := r4.trans (Fz.set (X := fun k => k = W4.heap.size) _ W4.heap.size 4 (.bool x) rfl)
      have r6 : Fz (fun k => k = W4.heap.size) W5 ((((((W5.setCell ⟨W4.heap.size, 0, none⟩ (.int .i32 r)).setCell ⟨W4.heap.size, 1, none⟩ (.int .i64 at_)).setCell ⟨W4.heap.size, 2, none⟩ (.int .i64 sz)).setCell ⟨W4.heap.size, 3, none⟩ (.bool f)).setCell ⟨W4.heap.size, 4, none⟩ (.bool x)).setCell ⟨W4.heap.size, 5, none⟩ (.bool bn)) := r5.trans (Fz.set (X := fun k => k = W4.heap.size) _ W4.heap.size 5 (.bool bn) rfl)
      have r7 : Fz (fun k => k = W4.heap.size) W5 (((((((W5.setCell ⟨W4.heap.size, 0, none⟩ (.int .i32 r)).setCell ⟨W4.heap.size, 1, none⟩ (.int .i64 at_)).setCell ⟨W4.heap.size, 2, none⟩ (.int .i64 sz)).setCell ⟨W4.heap.size, 3, none⟩ (.bool f)).setCell ⟨W4.heap.size, 4, none⟩ (.bool x)).setCell ⟨W4.heap.size, 5, none⟩ (.bool bn)).setCell ⟨W4.heap.size, 6, none⟩ (.bool bp)) := r6.trans (Fz.set (X := fun k => k = W4.heap.size) _ W4.heap.size 6 (.bool bp) rfl)
      have k7 := r7
      clear r0 r1 r2 r3 r4 r5 r6 r7 z1 z2 z3 z4 z5 z6 f0 f1 f2 f3 f4 f5 f6 y0 y1 y2 y3 y4 y5 y6
      obtain ⟨W7, hW7⟩ : ∃ V, (((((((W5.setCell ⟨W4.heap.size, 0, none⟩ (.int .i32 r)).setCell ⟨W4.heap.size, 1, none⟩ (.int .i64 at_)).setCell ⟨W4.heap.size, 2, none⟩ (.int .i64 sz)).setCell ⟨W4.heap.size, 3, none⟩ (.bool f)).setCell ⟨W4.heap.size, 4, none⟩ (.bool x)).setCell ⟨W4.heap.size, 5, none⟩ (.bool bn)).setCell ⟨W4.heap.size, 6, none⟩ (.bool bp)) = V := ⟨_, rfl⟩
      rw [hW7] at z7 b7 k7 ⊢
      clear hW7
      have l7 : W1.heap.size ≤ W4.heap.size := H4.out.1.size
      have n1 := H5.out.2.2.2.2
      have ne1 : w.heap.size ≠ W4.heap.size := Nat.ne_of_lt n1
      have c7 : Fz (fun _ => False) W1 W7 := ⟨k7.os.trans H5.out.1.os, k7.tape.trans H5.out.1.tape, k7.output.trans H5.out.1.output, Nat.le_trans H5.out.1.size k7.size, fun k hk hn => (k7.block k (Nat.lt_of_lt_of_le hk H5.out.1.size) (by omega)).trans (H5.out.1.block k hk hn)⟩
      have i7 : I1 w gn gx f x #[.int .i32 r, .int .i64 at_, .int .i64 sz, .bool f, .bool x, .bool bn, .bool bp] W4.heap.size W7 := ⟨b7, k7.cellsK ne1 H5.out.2.2.1, z7, n1⟩
      have H7 := Lib.hid (And.intro i7 c7)
      clear z7 hge b7 k7 l7 c7 n1 ne1 i7
      refine ⟨⟨⟨_, H7.out.2⟩, rfl⟩, ?_⟩
      go_wp2_with fail
      go_meet
      exact ⟨W4.heap.size, rfl, H7.out.1⟩
  case rest =>
    obtain ⟨G, rfl, h7⟩ := hcut
    have x7 := HW.out.2.2.2.2.2.on h7.b
    have q0 : wc.cell? ⟨gx, 0, none⟩ = some (.pointer (some ⟨gn, 0, none⟩)) := x7.cell 0
    have q1 : wc.cell? ⟨gx, 1, none⟩ = some (.bool f) := x7.cell 1
    have q2 : wc.cell? ⟨gx, 2, none⟩ = some (.bool x) := x7.cell 2
    have k1 := x7.froz 1
    have k2 := x7.froz 2
    have H7 := Lib.hid (And.intro h7 x7)
    clear h7 x7
    have hgx := HW.out.2.2.2.2.1
    have hG := H7.out.1.g
    have s2 : Cells ((wc.setCell ⟨gx, 1, none⟩ (.bool false)).setCell ⟨gx, 2, none⟩ (.bool false)) gx 63 #[.pointer (some ⟨gn, 0, none⟩), .bool false, .bool false] := (H7.out.2.set 1 (.bool false)).set 2 (.bool false)
    have z2 : Fz (fun k => k = gx) wc ((wc.setCell ⟨gx, 1, none⟩ (.bool false)).setCell ⟨gx, 2, none⟩ (.bool false)) := (Fz.set (X := fun k => k = gx) _ gx 1 (.bool false) rfl).trans (Fz.set (X := fun k => k = gx) _ gx 2 (.bool false) rfl)
    go_upto_region 3 with fail
    obtain ⟨W8, hW8⟩ : ∃ V, (wc.setCell ⟨gx, 1, none⟩ (.bool false)).setCell ⟨gx, 2, none⟩ (.bool false) = V := ⟨_, rfl⟩
    rw [hW8] at s2 z2 ⊢
    clear hW8 q0 q1 q2 k1 k2
    have y8 := z2.cellsK (show ¬ G = gx by omega) H7.out.1.y
    have r8 := z2.cellsK (show ¬ w.heap.size = gx by omega) H7.out.1.r
    have y0 : W8.cell? ⟨G, 0, none⟩ = some (.int .i32 r) := y8.cell 0
    have y1 : W8.cell? ⟨G, 1, none⟩ = some (.int .i64 at_) := y8.cell 1
    have y2 : W8.cell? ⟨G, 2, none⟩ = some (.int .i64 sz) := y8.cell 2
    have y3 : W8.cell? ⟨G, 3, none⟩ = some (.bool f) := y8.cell 3
    have y4 : W8.cell? ⟨G, 4, none⟩ = some (.bool x) := y8.cell 4
    have y5 : W8.cell? ⟨G, 5, none⟩ = some (.bool bn) := y8.cell 5
    have y6 : W8.cell? ⟨G, 6, none⟩ = some (.bool bp) := y8.cell 6
    have f0 := r8.froz 0
    have f1 := r8.froz 1
    have f2 := r8.froz 2
    have f3 := r8.froz 3
    have f4 := r8.froz 4
    have f5 := r8.froz 5
    have f6 := r8.froz 6
    have m0 : W8.cell? ⟨w.heap.size, 0, none⟩ = some (.int .i32 0) := r8.cell 0
    have m1 : W8.cell? ⟨w.heap.size, 1, none⟩ = some (.int .i64 0) := r8.cell 1
    have m2 : W8.cell? ⟨w.heap.size, 2, none⟩ = some (.int .i64 0) := r8.cell 2
    have m3 : W8.cell? ⟨w.heap.size, 3, none⟩ = some (.bool false) := r8.cell 3
    have m4 : W8.cell? ⟨w.heap.size, 4, none⟩ = some (.bool false) := r8.cell 4
    have m5 : W8.cell? ⟨w.heap.size, 5, none⟩ = some (.bool false) := r8.cell 5
    have m6 : W8.cell? ⟨w.heap.size, 6, none⟩ = some (.bool false) := r8.cell 6
    have H8 := Lib.hid (And.intro s2 (And.intro z2 (And.intro r8 (And.intro hgx hG))))
    clear s2 z2 y8 r8 hgx hG
    go_wp2_with fail
    have z1 : Cells (W8.setCell ⟨w.heap.size, 0, none⟩ (.int .i32 r)) w.heap.size 42 #[.int .i32 r, .int .i64 0, .int .i64 0, .bool false, .bool false, .bool false, .bool false] := H8.out.2.2.1.set 0 (.int .i32 r)
    have z2 : Cells ((W8.setCell ⟨w.heap.size, 0, none⟩ (.int .i32 r)).setCell ⟨w.heap.size, 1, none⟩ (.int .i64 at_)) w.heap.size 42 #[.int .i32 r, .int .i64 at_, .int .i64 0, .bool false, .bool false, .bool false, .bool false] := z1.set 1 (.int .i64 at_)
    have z3 : Cells (((W8.setCell ⟨w.heap.size, 0, none⟩ (.int .i32 r)).setCell ⟨w.heap.size, 1, none⟩ (.int .i64 at_)).setCell ⟨w.heap.size, 2, none⟩ (.int .i64 sz)) w.heap.size 42 #[.int .i32 r, .int .i64 at_, .int .i64 sz, .bool false, .bool false, .bool false, .bool false] := z2.set 2 (.int .i64 sz)
    have z4 : Cells ((((W8.setCell ⟨w.heap.size, 0, none⟩ (.int .i32 r)).setCell ⟨w.heap.size, 1, none⟩ (.int .i64 at_)).setCell ⟨w.heap.size, 2, none⟩ (.int .i64 sz)).setCell ⟨w.heap.size, 3, none⟩ (.bool f)) w.heap.size 42 #[.int .i32 r, .int .i64 at_, .int .i64 sz, .bool f, .bool false, .bool false, .bool false] := z3.set 3 (.bool f)
    have z5 : Cells (((((W8.setCell ⟨w.heap.size, 0, none⟩ (.int .i32 r)).setCell ⟨w.heap.size, 1, none⟩ (.int .i64 at_)).setCell ⟨w.heap.size, 2, none⟩ (.int .i64 sz)).setCell ⟨w.heap.size, 3, none⟩ (.bool f)).setCell ⟨w.heap.size, 4, none⟩ (.bool x)) w.heap.size 42 #[.int .i32 r, .int .i64 at_, .int .i64 sz, .bool f, .bool x, .bool false, .bool false] := z4.set 4 (.bool x)
    have z6 : Cells ((((((W8.setCell ⟨w.heap.size, 0, none⟩ (.int .i32 r)).setCell ⟨w.heap.size, 1, none⟩ (.int .i64 at_)).setCell ⟨w.heap.size, 2, none⟩ (.int .i64 sz)).setCell ⟨w.heap.size, 3, none⟩ (.bool f)).setCell ⟨w.heap.size, 4, none⟩ (.bool x)).setCell ⟨w.heap.size, 5, none⟩ (.bool bn)) w.heap.size 42 #[.int .i32 r, .int .i64 at_, .int .i64 sz, .bool f, .bool x, .bool bn, .bool false] := z5.set 5 (.bool bn)
    have z7 : Cells (((((((W8.setCell ⟨w.heap.size, 0, none⟩ (.int .i32 r)).setCell ⟨w.heap.size, 1, none⟩ (.int .i64 at_)).setCell ⟨w.heap.size, 2, none⟩ (.int .i64 sz)).setCell ⟨w.heap.size, 3, none⟩ (.bool f)).setCell ⟨w.heap.size, 4, none⟩ (.bool x)).setCell ⟨w.heap.size, 5, none⟩ (.bool bn)).setCell ⟨w.heap.size, 6, none⟩ (.bool bp)) w.heap.size 42 #[.int .i32 r, .int .i64 at_, .int .i64 sz, .bool f, .bool x, .bool bn, .bool bp] := z6.set 6 (.bool bp)
    have r0 := Fz.refl (fun k => k = w.heap.size) W8
    have r1 : Fz (fun k => k = w.heap.size) W8 (W8.setCell ⟨w.heap.size, 0, none⟩ (.int .i32 r)) := r0.trans (Fz.set (X := fun k => k = w.heap.size) _ w.heap.size 0 (.int .i32 r) rfl)
    have r2 : Fz (fun k => k = w.heap.size) W8 ((W8.setCell ⟨w.heap.size, 0, none⟩ (.int .i32 r)).setCell ⟨w.heap.size, 1, none⟩ (.int .i64 at_)) := r1.trans (Fz.set (X := fun k => k = w.heap.size) _ w.heap.size 1 (.int .i64 at_) rfl)
    have r3 : Fz (fun k => k = w.heap.size) W8 (((W8.setCell ⟨w.heap.size, 0, none⟩ (.int .i32 r)).setCell ⟨w.heap.size, 1, none⟩ (.int .i64 at_)).setCell ⟨w.heap.size, 2, none⟩ (.int .i64 sz)) := r2.trans (Fz.set (X := fun k => k = w.heap.size) _ w.heap.size 2 (.int .i64 sz) rfl)
    have r4 : Fz (fun k => k = w.heap.size) W8 ((((W8.setCell ⟨w.heap.size, 0, none⟩ (.int .i32 r)).setCell ⟨w.heap.size, 1, none⟩ (.int .i64 at_)).setCell ⟨w.heap.size, 2, none⟩ (.int .i64 sz)).setCell ⟨w.heap.size, 3, none⟩ (.bool f)) := r3.trans (Fz.set (X := fun k => k = w.heap.size) _ w.heap.size 3 (.bool f) rfl)
    have r5 : Fz (fun k => k = w.heap.size) W8 (((((W8.setCell ⟨w.heap.size, 0, none⟩ (.int .i32 r)).setCell ⟨w.heap.size, 1, none⟩ (.int .i64 at_)).setCell ⟨w.heap.size, 2, none⟩ (.int .i64 sz)).setCell ⟨w.heap.size, 3, none⟩ (.bool f)).setCell ⟨w.heap.size, 4, none⟩ (.bool x)) := r4.trans (Fz.set (X := fun k => k = w.heap.size) _ w.heap.size 4 (.bool x) rfl)
    have r6 : Fz (fun k => k = w.heap.size) W8 ((((((W8.setCell ⟨w.heap.size, 0, none⟩ (.int .i32 r)).setCell ⟨w.heap.size, 1, none⟩ (.int .i64 at_)).setCell ⟨w.heap.size, 2, none⟩ (.int .i64 sz)).setCell ⟨w.heap.size, 3, none⟩ (.bool f)).setCell ⟨w.heap.size, 4, none⟩ (.bool x)).setCell ⟨w.heap.size, 5, none⟩ (.bool bn)) := r5.trans (Fz.set (X := fun k => k = w.heap.size) _ w.heap.size 5 (.bool bn) rfl)
    have r7 : Fz (fun k => k = w.heap.size) W8 (((((((W8.setCell ⟨w.heap.size, 0, none⟩ (.int .i32 r)).setCell ⟨w.heap.size, 1, none⟩ (.int .i64 at_)).setCell ⟨w.heap.size, 2, none⟩ (.int .i64 sz)).setCell ⟨w.heap.size, 3, none⟩ (.bool f)).setCell ⟨w.heap.size, 4, none⟩ (.bool x)).setCell ⟨w.heap.size, 5, none⟩ (.bool bn)).setCell ⟨w.heap.size, 6, none⟩ (.bool bp)) := r6.trans (Fz.set (X := fun k => k = w.heap.size) _ w.heap.size 6 (.bool bp) rfl)
    have k7 := r7
    clear r0 r1 r2 r3 r4 r5 r6 r7 z1 z2 z3 z4 z5 z6 f0 f1 f2 f3 f4 f5 f6 y0 y1 y2 y3 y4 y5 y6 m0 m1 m2 m3 m4 m5 m6
    obtain ⟨W9, hW9⟩ : ∃ V, (((((((W8.setCell ⟨w.heap.size, 0, none⟩ (.int .i32 r)).setCell ⟨w.heap.size, 1, none⟩ (.int .i64 at_)).setCell ⟨w.heap.size, 2, none⟩ (.int .i64 sz)).setCell ⟨w.heap.size, 3, none⟩ (.bool f)).setCell ⟨w.heap.size, 4, none⟩ (.bool x)).setCell ⟨w.heap.size, 5, none⟩ (.bool bn)).setCell ⟨w.heap.size, 6, none⟩ (.bool bp)) = V := ⟨_, rfl⟩
    rw [hW9] at z7 k7 ⊢
    clear hW9
    have t0 : W9.cell? ⟨w.heap.size, 0, none⟩ = some (.int .i32 r) := z7.cell 0
    have t1 : W9.cell? ⟨w.heap.size, 1, none⟩ = some (.int .i64 at_) := z7.cell 1
    have t2 : W9.cell? ⟨w.heap.size, 2, none⟩ = some (.int .i64 sz) := z7.cell 2
    have t3 : W9.cell? ⟨w.heap.size, 3, none⟩ = some (.bool f) := z7.cell 3
    have t4 : W9.cell? ⟨w.heap.size, 4, none⟩ = some (.bool x) := z7.cell 4
    have t5 : W9.cell? ⟨w.heap.size, 5, none⟩ = some (.bool bn) := z7.cell 5
    have t6 : W9.cell? ⟨w.heap.size, 6, none⟩ = some (.bool bp) := z7.cell 6
    have hgx := H8.out.2.2.2.1
    have e1 : Cells W9 gx 63 #[.pointer (some ⟨gn, 0, none⟩), .bool false, .bool false] := k7.cellsK (show ¬ gx = w.heap.size by omega) H8.out.1
    have b9 := H7.out.1.b
    have e2 : Fz (fun k => k = gx) w W9 := ⟨k7.os.trans (H8.out.2.1.os.trans b9.os), k7.tape.trans (H8.out.2.1.tape.trans b9.tape), k7.output.trans (H8.out.2.1.output.trans b9.output), Nat.le_trans b9.size (Nat.le_trans H8.out.2.1.size k7.size), fun k hk hn => (k7.block k (Nat.lt_of_lt_of_le (Nat.lt_of_lt_of_le hk b9.size) H8.out.2.1.size) (by omega)).trans ((H8.out.2.1.block k (Nat.lt_of_lt_of_le hk b9.size) hn).trans (b9.block k hk))⟩
    clear z7 k7 hgx b9
    refine bodyPost_ret (v := .agg #[.int .i32 r, .int .i64 at_, .int .i64 sz, .bool f, .bool x, .bool bn, .bool bp]) ?_ rfl ⟨rfl, e1, e2⟩
    simp [results, Tryz.results27, go_sem, t0, t1, t2, t3, t4, t5, t6]
end Go.Proofs.YtojinnnpfjhifaaGreatDoor.K

