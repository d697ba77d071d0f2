/-
  DecideWhich HOLDS: of any meaning, right or not, and any list, the document's rule decides at any place: for every input, in whatever memory.
  The law DecideWhich: its walk, given that the calls of awake hand back yes.
-/
import Derived.WalkKit
import Derived.ProofKit
import Derived.OpenShut
import Derived.ShutString
import Derived.JoinedTies
import Derived.Test.YtegkogadceodlaaXsa
import Derived.Test.YtegkogadceodlaaXsb
import Derived.Test.YtegkogadceodlaaXsc
import Derived.Test.YtegkogadceodlaaXsd
import Derived.Test.YtegkogadceodlaaXse
import Derived.Test.YtegkogadceodlaaXsf
import Derived.Test.YtegkogadceodlaaXsg
import Derived.Test.YtegkogadceodlaaXsh
import Derived.Test.YtegkogadceodlaaXsi
import Derived.Test.YtegkogadceodlaaXsj
import Derived.Test.YtegkogadceodlaaQLx
import Derived.Test.YtegkogadceodlaaRows
namespace Go.Proofs.Ytegkogadceodlaa.L
open Go.RowKit Go.Shelf Go.Lib Go.Sort

set_option maxRecDepth 100000 in
set_option maxHeartbeats 8000000 in
theorem which_law (AWK : AwakeOk) (t : Tx) (v : Value) (ids : List Int) (A : Option Addr) (cap : Nat) (a : Int) (w : World) (h : TxV w w.heap.size t v) (hi : IS w w.heap.size ids A cap) :
    Calls Try.prog 7 #[v, .slice A ids.length cap, .int .i64 a] w fun e w' => e = .returned (.bool true) ∧ Below w.heap.size w w' := by
  have h' := h
  obtain ⟨A1, c1, A2, c2, A3, c3, rfl, _, _, _⟩ := h'
  have hil := hi.len
  obtain ⟨n, hN⟩ : ∃ n, ids.length = n := ⟨_, rfl⟩
  obtain ⟨W0, hW0⟩ : ∃ W0, w.alloc (.cells #[.slice A1 t.ig.length c1, .slice A2 t.kp.length c2, .slice A3 t.rs.length c3] 50) = W0 := ⟨_, rfl⟩
  have hb0 : Below w.heap.size w W0 := by rw [← hW0]; exact below_new _ _
  have hz0 : W0.heap.size = w.heap.size + 1 := by rw [← hW0]; simp
  have x0 : Cells W0 w.heap.size 50 #[.slice A1 t.ig.length c1, .slice A2 t.kp.length c2, .slice A3 t.rs.length c3] := by rw [← hW0]; exact cells_new _ _ _
  have GR := great_any t _ W0 (h.on hb0)
  have HW := Lib.hid hW0
  have HH := Lib.hid (And.intro h (And.intro hi (And.intro hN (And.intro hb0 (And.intro hz0 x0)))))
  rw [hN] at hil ⊢
  have HA := Lib.hid AWK
  clear h hi hN hW0 hb0 hz0 x0 AWK
  go_enter Try.func7, Try.ntmps7
  go_wp2_with fail
  rw [HW.out]
  refine GR.mono ?_
  rintro r w1 ⟨⟨g, rfl, hgs⟩, hb1⟩
  have hbw1 := HH.out.2.2.2.1.trans (hb1.mono HH.out.2.2.2.1.size)
  have HG := Lib.hid (And.intro hb1 (And.intro hbw1 hgs))
  clear GR hb1 hbw1 hgs
  cases g with
  | true =>
    go_wp2_with fail
    refine (HA.out _).mono ?_
    rintro r w2 ⟨rfl, hb2⟩
    have HB := Lib.hid (HG.out.2.1.trans (hb2.mono HG.out.2.1.size))
    clear hb2
    go_wp2_with fail
    go_ret
    exact ⟨rfl, HB.out⟩
  | false =>
    by_cases h60 : 14 < n
    · have i1 : (14 : Int) < (n : Int) := by omega
      clear h60
      go_wp2_with fail
      refine (HA.out _).mono ?_
      rintro r w2 ⟨rfl, hb2⟩
      have HB := Lib.hid (HG.out.2.1.trans (hb2.mono HG.out.2.1.size))
      clear hb2
      go_wp2_with fail
      go_ret
      exact ⟨rfl, HB.out⟩
    · have i1 : ¬ (14 : Int) < (n : Int) := by omega
      go_wp2_with fail
      refine (HA.out _).mono ?_
      rintro r w2 ⟨rfl, hb2⟩
      have hbw2 := HG.out.2.1.trans (hb2.mono HG.out.2.1.size)
      have x2 := HH.out.2.2.2.2.2.on (HG.out.1.trans (hb2.mono HG.out.1.size))
      have k0 : w2.cell? ⟨w.heap.size, 0, none⟩ = some (.slice A1 t.ig.length c1) := x2.cell 0
      have k1 : w2.cell? ⟨w.heap.size, 1, none⟩ = some (.slice A2 t.kp.length c2) := x2.cell 1
      have k2 : w2.cell? ⟨w.heap.size, 2, none⟩ = some (.slice A3 t.rs.length c3) := x2.cell 2
      have hsm := HG.out.2.2 (by trivial)
      unfold smallT at hsm
      have C1 := toT_any t _ w2 (HH.out.1.on hbw2) (fun x hx => by have := hsm.2.2.2 x hx; omega) (by omega)
      have HB := Lib.hid (And.intro hbw2 (And.intro h60 x2))
      clear hb2 hbw2 x2 h60 hsm
      go_wp2_with fail
      refine C1.mono ?_
      rintro r w3 ⟨v3, rfl, hv3, hb3⟩
      clear C1 k0 k1 k2
      have b3 := below_on5 HB.out.1 hb3
      have C2 := WhichG_any MatB matB_con t v3 ids A cap a w3 hv3 (HH.out.2.1.on b3) (by rw [HH.out.2.2.1]; have := HB.out.2.1; omega)
      rw [HH.out.2.2.1] at C2
      obtain ⟨B1, d1, B2, d2, B3, d3, rfl, _⟩ := hv3
      have H3 := Lib.hid (And.intro b3 (HB.out.2.2.on hb3))
      clear hb3 b3
      go_wp2_with fail
      refine C2.mono ?_
      rintro r w4 ⟨rfl, hb4⟩
      clear C2
      have H4 := Lib.hid (And.intro (below_on5 H3.out.1 hb4) (H3.out.2.on hb4))
      clear hb4
      have rI := rdI (knownT t).ig (knownT t).kp ids
      by_cases hin : 0 < a ∧ a < (n : Int)
      case neg =>
        have hno : whichR MatB (knownT t) ids a = -1 := whichR_no _ _ _ (by
          rintro ⟨h0, h1⟩
          have h2 := (List.getElem?_eq_some_iff.1 h1).1
          rw [rI.h, HH.out.2.2.1] at h2
          exact hin ⟨h0, by omega⟩)
        rw [hno]
        clear hno rI
        rcases (show a ≤ 0 ∨ (¬ a ≤ 0 ∧ (n : Int) ≤ a) by omega) with h1 | ⟨h1, h2⟩
        all_goals
          clear hin
          go_wp2_with fail
          go_ret
          exact ⟨rfl, H4.out.1⟩
      case pos =>
        obtain ⟨h1, h2⟩ := hin
        obtain ⟨k, rfl⟩ : ∃ k : Nat, a = (k : Int) := ⟨a.toNat, by omega⟩
        have hkn : k < n := by omega
        have hk0 : 0 < k := by omega
        have i1 : ¬ (k : Int) ≤ 0 := by omega
        have i2 : ¬ (n : Int) ≤ (k : Int) := by omega
        have i3 : (k : Int) ≤ 1000 := by have := HB.out.2.1; omega
        have hw := which_ref (known_right t) ids hk0 (by rw [HH.out.2.2.1]; exact hkn)
        rw [hw]
        have hat := refWhich_at (knownT t) ids (i := k) (by rw [HH.out.2.2.1]; exact hkn)
        obtain ⟨S, hS⟩ : ∃ S, refAt (knownT t) ids k = S := ⟨_, rfl⟩
        rw [hS] at hat ⊢
        have hpp : (max S (-1) == max S (-1)) = true := by simp
        have k0 : w4.cell? ⟨w.heap.size, 0, none⟩ = some (.slice A1 t.ig.length c1) := H4.out.2.cell 0
        have k1 : w4.cell? ⟨w.heap.size, 1, none⟩ = some (.slice A2 t.kp.length c2) := H4.out.2.cell 1
        have k2 : w4.cell? ⟨w.heap.size, 2, none⟩ = some (.slice A3 t.rs.length c3) := H4.out.2.cell 2
        have C3 := known_any t _ w4 (HH.out.1.on H4.out.1)
        have HA2 := Lib.hid hat
        clear rI hw hS hat h1 h2
        go_wp2_with fail
        refine C3.mono ?_
        rintro r w5 ⟨⟨v5, rfl, hv5⟩, hb5⟩
        clear C3 k0 k1 k2
        have b5 := below_on5 H4.out.1 hb5
        have C4 := rwhich_any (knownT t) v5 ids A cap w5 hv5 (HH.out.2.1.on b5) (by rw [HH.out.2.2.1]; have := HB.out.2.1; omega) (known_small t).1 (known_small t).2
        rw [HH.out.2.2.1] at C4
        obtain ⟨E1, f1, E2, f2, E3, f3, rfl, _⟩ := hv5
        have H5 := Lib.hid b5
        clear hb5 b5
        go_wp2_with fail
        refine C4.mono ?_
        rintro r w6 ⟨A6, c6, rfl, his, hb6⟩
        clear C4
        obtain ⟨bh, oh, rfl, hbl, hr⟩ := his.r (by intro e; have := HA2.out; rw [e] at this; simp at this)
        have cw := hr k S HA2.out
        have ik : (k : Int) < (n : Int) := by omega
        have H6 := Lib.hid (below_on5 H5.out hb6)
        clear his hr hb6 hbl
        go_wp2_with fail
        go_ret
        exact ⟨rfl, H6.out⟩
end Go.Proofs.Ytegkogadceodlaa.L

namespace Go.Proofs.Ytegkogadceodlaa
open Go.ChangeShapes Go.WideShapes Go.ChangeAt Go.RowKit Go.Shelf
open Go.Lib

theorem dwhLaw (t : Tx) (v : Value) (ids : List Int) (A : Option Addr) (cap : Nat) (br : Int) (w : World) (h : TxV w w.heap.size t v) (hi : IS w w.heap.size ids A cap) :
    Calls Try.prog 7 #[v, .slice A ids.length cap, .int .i64 br] w fun e w' => e = .returned (.bool true) ∧ Below w.heap.size w w' := L.which_law awake_ok t v ids A cap br w h hi
set_option maxRecDepth 100000 in
theorem decideWhich_lifted (os : Os) (started : os.Started) (H : Type) (enc : TypeId × Value → H) :
    ReturnsInHanded {} Try.checked os 7 .any (Rows.decideWhichSpec.pre6 enc Try.prog Try.f7 Rows.decideWhichRow.domain false) (Rows.decideWhichSpec.post enc Try.prog Try.f7 false true false false) := by
  refine handed_shaped (C := Try.checked) own started (by kernel_rfl) Try.func7
    (ChangeSpec.witness6 (enc := enc) (C := Try.checked) false ⟨#[], #[.agg #[.slice none 0 0, .slice none 0 0, .slice none 0 0], .slice none 0 0, .int .i64 0], []⟩ 9 (by kernel_rfl) (by kernel_rfl) (by kernel_rfl) (by kernel_rfl)) ?_
  intro W base args ds gs before hsh hval0 hW
  have hval : ∀ (j : Nat) t v, Try.f7.params[j]? = some t → args[j]? = some v → Value.okWide Try.prog W .any base t v := hval0
  have hW' := hW
  obtain ⟨p, q, hA0, hV, rfl, hfz, hnd⟩ := hW
  have hA : DataW.TrodAll enc Try.prog W 0 (fun _ => true) true Try.f7.params.toList args.toList ds p := hA0
  rw [Try.params7] at hA hval
  obtain ⟨v0, vs0, d0, ds0, p0, q0, hargs, rfl, rfl, h0, r0⟩ := trodAll_cons hA
  obtain ⟨v1, vs1, d1, ds1, p1, q1, rfl, rfl, rfl, h1, r1⟩ := trodAll_cons r0
  obtain ⟨v2, vs2, d2, ds2, p2, q2, rfl, rfl, rfl, h2, r2⟩ := trodAll_cons r1
  obtain ⟨rfl, rfl, rfl⟩ := trodAll_nil r2
  obtain rfl : args = #[v0, v1, v2] := by cases args; simp_all
  obtain ⟨rfl, rfl⟩ := trodVars_none hV
  have t0 := h0
  have lt0 : ∀ x ∈ p0, x.block < W.heap.size := by obtain ⟨m, hm⟩ := t0; exact DataW.trod_lt m _ _ _ hm
  have t1 := h1
  have lt1 : ∀ x ∈ p1, x.block < W.heap.size := by obtain ⟨m, hm⟩ := t1; exact DataW.trod_lt m _ _ _ hm
  obtain ⟨t, hT⟩ := tx_of_arg (hval 0 50 v0 rfl rfl) h0
  obtain ⟨ids, A1, cap1, rfl, hI⟩ := is_of_arg (hval 1 25 v1 rfl rfl) h1
  obtain ⟨a2, rfl, rfl, rfl, w2⟩ := open_int Try.underlying3 (hval 2 3 v2 rfl rfl) h2
  clear hA0 hval0
  refine (dwhLaw t v0 ids A1 cap1 a2 W hT hI).mono fun e W' ⟨he, bel⟩ => ?_
  subst he
  exact ⟨_, rfl, _, _, _, [], _, [], hW', trodAll_mk1 (shut_bool Try.underlying4 _), (trodAll_cons_mk (Below.trod laidOut (by kernel_rfl) (of_decide_eq_true (by kernel_rfl)) t0 bel lt0) (trodAll_cons_mk (Below.trod laidOut (by kernel_rfl) (of_decide_eq_true (by kernel_rfl)) t1 bel lt1) (trodAll_cons_mk (shut_int Try.underlying3 w2) trodAll_mk0))), rfl, bel.frame _, fun h => by cases h⟩

/-- THE STATEMENT. -/
theorem decideWhich_holds : Rows.DecideWhichSaid :=
  OpenClaim.holds_of_wide 7 Try.f7 rfl rfl rfl rfl rfl rfl rfl ⟨rfl, rfl, rfl, rfl, rfl⟩ rfl rfl rfl rfl rfl (by kernel_rfl) Try.func7 (by kernel_rfl)
    (of_decide_eq_true (by kernel_rfl)) (by unfold Func.isWrapper; first | (rw [if_pos (by decide +kernel)]; kernel_rfl) | (rw [if_neg (by decide +kernel)]; exact ⟨rfl, rfl⟩))
    (fun os started H enc _ => decideWhich_lifted os started H enc)
#print axioms decideWhich_holds
end Go.Proofs.Ytegkogadceodlaa

