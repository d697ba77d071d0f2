/-
  Contract: awake.
-/
import Derived.Test.YtncglgbogplpcaaDoorOf
namespace Go.Proofs.YtncglgbogplpcaaDoor
open Go.RowKit Go.Shelf Go.Lib Go.Maps
attribute [local irreducible] nmL ofN

theorem of_hr : ofN [104, 114] 7 = 3 := by with_unfolding_all decide +kernel
theorem of_br : ofN [98, 114] 7 = 34 := by with_unfolding_all decide +kernel
theorem of_b : ofN [98] 7 = 0 := by with_unfolding_all decide +kernel
set_option maxRecDepth 100000 in
set_option maxHeartbeats 8000000 in
theorem awake_any (w : World) (hM : MX w) : Calls Tryd.prog 4 #[] w fun e w' => e = .returned (.bool true) ∧ w' = w := by
  have C1 := of_any ⟨#[104, 114]⟩ (by decide) w hM
  have C2 := of_any ⟨#[98, 114]⟩ (by decide) w hM
  have C3 := of_any ⟨#[98]⟩ (by decide) w hM
  rw [show (⟨#[104, 114]⟩ : ByteArray).data.toList = [104, 114] from rfl, of_hr] at C1
  rw [show (⟨#[98, 114]⟩ : ByteArray).data.toList = [98, 114] from rfl, of_br] at C2
  rw [show (⟨#[98]⟩ : ByteArray).data.toList = [98] from rfl, of_b] at C3
  go_enter Tryd.func4, Tryd.ntmps4
  go_wp2_with fail
  refine C1.mono ?_
  rintro e w' ⟨rfl, rfl⟩
  go_wp2_with fail
  refine C2.mono ?_
  rintro e w' ⟨rfl, rfl⟩
  go_wp2_with fail
  refine C3.mono ?_
  rintro e w' ⟨rfl, rfl⟩
  go_wp2_with fail
  go_ret
  exact ⟨rfl, rfl⟩
end Go.Proofs.YtncglgbogplpcaaDoor
