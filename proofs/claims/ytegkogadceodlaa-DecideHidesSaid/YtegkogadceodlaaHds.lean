/-
  Contract: reading.hides.
-/
import Derived.BigQuiet
import Derived.Test.YtegkogadceodlaaBx
import Derived.Test.YtegkogadceodlaaHol
namespace Go.Proofs.Ytegkogadceodlaa
open Go.RowKit Go.Shelf Go.Lib

set_option maxRecDepth 100000 in
set_option maxHeartbeats 8000000 in
theorem hides_any (x : Nat) (v0 v3 : Value) (Ah : Option Addr) (nh ch : Nat) (ms : List Int) (Am : Option Addr) (cm : Nat) (kp : List Int) (Ak : Option Addr) (ck : Nat) (l : Int) (w : World)
    (hx : Cells w x 109 #[v0, .slice Ah nh ch, .slice Am ms.length cm, v3]) (hm : IS w w.heap.size ms Am cm) (hk : IS w w.heap.size kp Ak ck) (hl : ms.getLast? = some l) (hlen : ms.length ≤ 100000) :
    Calls Try.prog 97 #[.pointer (some ⟨x, 0, none⟩), .slice Ak kp.length ck] w fun e w' => e = .returned (.bool (decide (0 < nh) && !kp.contains l)) ∧ Below w.heap.size w w' := by
  have x1 : w.cell? ⟨x, 1, none⟩ = some (.slice Ah nh ch) := hx.cell 1
  have x2 : w.cell? ⟨x, 2, none⟩ = some (.slice Am ms.length cm) := hx.cell 2
  have hcl := hm.l
  by_cases h0 : 0 < nh
  case neg =>
    obtain rfl : nh = 0 := by omega
    clear hx hm hk hl x2
    go_enter Try.func97, Try.ntmps97
    go_wp2_with go_quiet (fail)
    go_ret
    exact ⟨by simp, below_drewN (Below.refl _ _) _⟩
  case pos =>
    have i0 : (0 : Int) < (nh : Int) := by omega
    have hne : ms ≠ [] := by rintro rfl; simp at hl
    obtain ⟨b, o, rfl, hb, hr⟩ := hm.r hne
    obtain ⟨m, hm1⟩ : ∃ m, ms.length = m + 1 := ⟨ms.length - 1, by have := List.length_pos_iff.2 hne; omega⟩
    have hlm : ms[m]? = some l := by rw [List.getLast?_eq_getElem?] at hl; rw [← hl, hm1]; rfl
    have xl := hr m l hlm
    have CC := fun n => contains_any kp l Ak ck (w.drewN n) (hk.on (below_drewN (Below.refl _ _) n))
    rw [hm1] at x2 hcl hlen
    have hk1 : ((m + 1 : Nat) : Int) - 1 = (m : Int) := by omega
    have im : (m : Int) < ((m + 1 : Nat) : Int) := by omega
    obtain ⟨kc, hkc⟩ : ∃ q, kp.contains l = q := ⟨_, rfl⟩
    rw [hkc] at CC ⊢
    clear hx hm hk hl hr hlm hne hm1 hkc
    go_enter Try.func97, Try.ntmps97
    go_wp2_with go_quiet (exact Calls.quiet_of_same (CC _))
    go_ret
    exact ⟨by simp [h0], below_drewN (Below.refl _ _) _⟩
end Go.Proofs.Ytegkogadceodlaa
