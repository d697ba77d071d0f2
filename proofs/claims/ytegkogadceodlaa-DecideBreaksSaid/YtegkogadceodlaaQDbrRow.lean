/-
  DecideBreaks HOLDS: of any meaning, right or not, and any list, there are breaks where the document says: for every input, in whatever memory.
-/
import Derived.WalkKit
import Derived.ProofKit
import Derived.OpenShut
import Derived.ShutString
import Derived.JoinedTies
import Derived.Test.YtegkogadceodlaaXsa
import Derived.Test.YtegkogadceodlaaXsb
import Derived.Test.YtegkogadceodlaaXsc
import Derived.Test.YtegkogadceodlaaXsd
import Derived.Test.YtegkogadceodlaaXse
import Derived.Test.YtegkogadceodlaaXsf
import Derived.Test.YtegkogadceodlaaXsg
import Derived.Test.YtegkogadceodlaaXsh
import Derived.Test.YtegkogadceodlaaXsi
import Derived.Test.YtegkogadceodlaaXsj
import Derived.Test.YtegkogadceodlaaQLx
import Derived.Test.YtegkogadceodlaaRows
namespace Go.Proofs.Ytegkogadceodlaa
open Go.ChangeShapes Go.WideShapes Go.ChangeAt Go.RowKit Go.Shelf
open Go.Lib

theorem dbrLaw (t : Tx) (v : Value) (ids : List Int) (A : Option Addr) (cap : Nat) (w : World) (h : TxV w w.heap.size t v) (hi : IS w w.heap.size ids A cap) :
    Calls Try.prog 6 #[v, .slice A ids.length cap] w fun e w' => e = .returned (.bool true) ∧ Below w.heap.size w w' := L.breaks_law awake_ok t v ids A cap w h hi
set_option maxRecDepth 100000 in
theorem decideBreaks_lifted (os : Os) (started : os.Started) (H : Type) (enc : TypeId × Value → H) :
    ReturnsInHanded {} Try.checked os 6 .any (Rows.decideBreaksSpec.pre6 enc Try.prog Try.f6 Rows.decideBreaksRow.domain false) (Rows.decideBreaksSpec.post enc Try.prog Try.f6 false true false false) := by
  refine handed_shaped (C := Try.checked) own started (by kernel_rfl) Try.func6
    (ChangeSpec.witness6 (enc := enc) (C := Try.checked) false ⟨#[], #[.agg #[.slice none 0 0, .slice none 0 0, .slice none 0 0], .slice none 0 0], []⟩ 9 (by kernel_rfl) (by kernel_rfl) (by kernel_rfl) (by kernel_rfl)) ?_
  intro W base args ds gs before hsh hval0 hW
  have hval : ∀ (j : Nat) t v, Try.f6.params[j]? = some t → args[j]? = some v → Value.okWide Try.prog W .any base t v := hval0
  have hW' := hW
  obtain ⟨p, q, hA0, hV, rfl, hfz, hnd⟩ := hW
  have hA : DataW.TrodAll enc Try.prog W 0 (fun _ => true) true Try.f6.params.toList args.toList ds p := hA0
  rw [Try.params6] at hA hval
  obtain ⟨v0, vs0, d0, ds0, p0, q0, hargs, rfl, rfl, h0, r0⟩ := trodAll_cons hA
  obtain ⟨v1, vs1, d1, ds1, p1, q1, rfl, rfl, rfl, h1, r1⟩ := trodAll_cons r0
  obtain ⟨rfl, rfl, rfl⟩ := trodAll_nil r1
  obtain rfl : args = #[v0, v1] := by cases args; simp_all
  obtain ⟨rfl, rfl⟩ := trodVars_none hV
  have t0 := h0
  have lt0 : ∀ x ∈ p0, x.block < W.heap.size := by obtain ⟨m, hm⟩ := t0; exact DataW.trod_lt m _ _ _ hm
  have t1 := h1
  have lt1 : ∀ x ∈ p1, x.block < W.heap.size := by obtain ⟨m, hm⟩ := t1; exact DataW.trod_lt m _ _ _ hm
  obtain ⟨t, hT⟩ := tx_of_arg (hval 0 50 v0 rfl rfl) h0
  obtain ⟨ids, A1, cap1, rfl, hI⟩ := is_of_arg (hval 1 25 v1 rfl rfl) h1
  clear hA0 hval0
  refine (dbrLaw t v0 ids A1 cap1 W hT hI).mono fun e W' ⟨he, bel⟩ => ?_
  subst he
  exact ⟨_, rfl, _, _, _, [], _, [], hW', trodAll_mk1 (shut_bool Try.underlying4 _), (trodAll_cons_mk (Below.trod laidOut (by kernel_rfl) (of_decide_eq_true (by kernel_rfl)) t0 bel lt0) (trodAll_cons_mk (Below.trod laidOut (by kernel_rfl) (of_decide_eq_true (by kernel_rfl)) t1 bel lt1) trodAll_mk0)), rfl, bel.frame _, fun h => by cases h⟩

/-- THE STATEMENT. -/
theorem decideBreaks_holds : Rows.DecideBreaksSaid :=
  OpenClaim.holds_of_wide 6 Try.f6 rfl rfl rfl rfl rfl rfl rfl ⟨rfl, rfl, rfl, rfl, rfl⟩ rfl rfl rfl rfl rfl (by kernel_rfl) Try.func6 (by kernel_rfl)
    (of_decide_eq_true (by kernel_rfl)) (by unfold Func.isWrapper; first | (rw [if_pos (by decide +kernel)]; kernel_rfl) | (rw [if_neg (by decide +kernel)]; exact ⟨rfl, rfl⟩))
    (fun os started H enc _ => decideBreaks_lifted os started H enc)
#print axioms decideBreaks_holds
end Go.Proofs.Ytegkogadceodlaa

