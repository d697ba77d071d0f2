/-
  Contracts: element.Has, awake; ElementOf's walk.
-/
import Derived.Test.YtncglgbogplpcaaOf
namespace Go.Proofs.Ytncglgbogplpcaa
open Go.RowKit Go.Shelf Go.Lib Go.Maps
attribute [local irreducible] nmL ofN

def hasV (N : Nat) (b : Int) : Bool := !(bits BinOp.and IntKind.i64 (N : Int) b == 0)
set_option maxRecDepth 100000 in
set_option maxHeartbeats 8000000 in
theorem has_any (s : ByteArray) (b : Int) (hl : s.size ≤ 100) (w : World) (hM : MX w) : Calls Try.prog 8 #[.string s, .int .i64 b] w fun e w' => e = .returned (.bool (hasV (ofN s.data.toList 7) b)) ∧ w' = w := by
  have C := of_any s hl w hM
  obtain ⟨N, hN⟩ : ∃ N, ofN s.data.toList 7 = N := ⟨_, rfl⟩
  rw [hN] at C ⊢
  clear hN
  go_enter Try.func8, Try.ntmps8
  go_wp2_with fail
  refine C.mono ?_
  rintro e w' ⟨rfl, rfl⟩
  go_wp2_with fail
  go_ret
  exact ⟨rfl, rfl⟩
theorem of_hr : ofN [104, 114] 7 = 3 := by with_unfolding_all decide +kernel
theorem of_br : ofN [98, 114] 7 = 34 := by with_unfolding_all decide +kernel
theorem of_b : ofN [98] 7 = 0 := by with_unfolding_all decide +kernel
set_option maxRecDepth 100000 in
set_option maxHeartbeats 8000000 in
theorem awake_any (w : World) (hM : MX w) : Calls Try.prog 5 #[] w fun e w' => e = .returned (.bool true) ∧ w' = w := by
  have C1 := of_any ⟨#[104, 114]⟩ (by decide) w hM
  have C2 := of_any ⟨#[98, 114]⟩ (by decide) w hM
  have C3 := of_any ⟨#[98]⟩ (by decide) w hM
  rw [show (⟨#[104, 114]⟩ : ByteArray).data.toList = [104, 114] from rfl, of_hr] at C1
  rw [show (⟨#[98, 114]⟩ : ByteArray).data.toList = [98, 114] from rfl, of_br] at C2
  rw [show (⟨#[98]⟩ : ByteArray).data.toList = [98] from rfl, of_b] at C3
  go_enter Try.func5, Try.ntmps5
  go_wp2_with fail
  refine C1.mono ?_
  rintro e w' ⟨rfl, rfl⟩
  go_wp2_with fail
  refine C2.mono ?_
  rintro e w' ⟨rfl, rfl⟩
  go_wp2_with fail
  refine C3.mono ?_
  rintro e w' ⟨rfl, rfl⟩
  go_wp2_with fail
  go_ret
  exact ⟨rfl, rfl⟩
set_option maxRecDepth 100000 in
set_option maxHeartbeats 8000000 in
theorem ofLaw (s : ByteArray) (b : Int) (w : World) (hM : MX w) : Calls Try.prog 3 #[.string s, .int .i64 b] w fun e w' => e = .returned (.bool true) ∧ Below w.heap.size w w' := by
  have AW := fun W (hb : Below w.heap.size w W) => awake_any W (hM.on hM.pos hb)
  have CR := refOf_any s w
  have CO := fun (hl : s.size ≤ 100) W (hb : Below w.heap.size w W) => of_any s hl W (hM.on hM.pos hb)
  have CH := fun (hl : s.size ≤ 100) W (hb : Below w.heap.size w W) => has_any s b hl W (hM.on hM.pos hb)
  obtain ⟨N, hN⟩ : ∃ N, ofN s.data.toList 7 = N := ⟨_, rfl⟩
  rw [hN] at CR
  simp only [hN] at CO CH
  have HH := Lib.hid (And.intro AW (And.intro CO CH))
  clear AW CO CH hN hM
  by_cases c : 60 < s.size
  · have c1 : (60 : Int) < (s.size : Int) := by omega
    clear CR
    go_enter Try.func3, Try.ntmps3
    go_wp2_with fail
    refine (HH.out.1 w (Below.refl _ _)).mono ?_
    rintro e w1 ⟨rfl, rfl⟩
    go_wp2_with fail
    go_ret
    exact ⟨rfl, Below.refl _ _⟩
  · have c1 : ¬ (60 : Int) < (s.size : Int) := by omega
    go_enter Try.func3, Try.ntmps3
    go_wp2_with fail
    refine CR.mono ?_
    rintro e w1 ⟨rfl, hb⟩
    have HB := Lib.hid hb
    clear CR hb
    go_wp2_with fail
    refine (HH.out.2.1 (by omega) w1 HB.out).mono ?_
    rintro e w2 ⟨rfl, rfl⟩
    go_wp2_with fail
    refine (HH.out.2.2 (by omega) w2 HB.out).mono ?_
    rintro e w3 ⟨rfl, rfl⟩
    unfold hasV
    have hq : ((!bits BinOp.and IntKind.i64 (N : Int) b == 0) == (bits BinOp.and IntKind.i64 (N : Int) b != 0)) = true := by
      unfold bne
      simp
    go_wp2_with fail
    refine (HH.out.1 w3 HB.out).mono ?_
    rintro e w4 ⟨rfl, rfl⟩
    go_wp2_with fail
    go_ret
    exact ⟨rfl, HB.out⟩
end Go.Proofs.Ytncglgbogplpcaa
