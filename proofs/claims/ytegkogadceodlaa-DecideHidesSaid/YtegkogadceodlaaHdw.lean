/-
  The law DecideHides: its walk, given that the calls of awake hand back yes.
-/
import Derived.BigQuiet
import Derived.Test.YtegkogadceodlaaGre
import Derived.Test.YtegkogadceodlaaTor
import Derived.Test.YtegkogadceodlaaHid
import Derived.Test.YtegkogadceodlaaRhd
namespace Go.Proofs.Ytegkogadceodlaa
open Go.RowKit Go.Shelf Go.Lib Go.Sort

theorem BS.of_own {w : World} {base : Nat} {xs : List Bool} {A : Option Addr} {n c : Nat} (h : w.ownsRow base 4 1 (.slice A n c) xs.length (bL xs)) : n = xs.length ∧ BS w w.heap.size xs A c := by
  have h' := h
  rcases h.2 with ⟨h1, h2⟩ | ⟨g, cap, cur, h1, h2, h3, h4, h5, h6, h7⟩
  · simp only [Value.slice.injEq] at h1
    obtain ⟨_, rfl, rfl⟩ := h1
    have : xs = [] := List.eq_nil_of_length_eq_zero h2
    subst this
    exact ⟨rfl, by simp, by unfold maxLen; omega, fun hne => absurd rfl hne⟩
  · simp only [Value.slice.injEq] at h1
    obtain ⟨rfl, rfl, rfl⟩ := h1
    refine ⟨rfl, h4, h5, fun _ => ⟨g, 0, rfl, (Array.getElem?_eq_some_iff.1 h3).1, fun i x hx => ?_⟩⟩
    have hc := World.ownsRow.cells h' (g := g) rfl i (.bool x) (by simp [bL, hx])
    rw [add0] at hc
    rw [Nat.zero_add]
    exact hc
/-- The calls of awake hand back yes. -/
def AwakeOk : Prop := ∀ w, Calls Try.prog 25 #[] w fun e w' => e = .returned (.bool true) ∧ Below w.heap.size w w'
set_option maxRecDepth 100000 in
set_option maxHeartbeats 8000000 in
theorem hides_law (AWK : AwakeOk) (t : Tx) (v : Value) (ids : List Int) (A : Option Addr) (cap : Nat) (w : World) (h : TxV w w.heap.size t v) (hi : IS w w.heap.size ids A cap) :
    Calls Try.prog 8 #[v, .slice A ids.length cap] w fun e w' => e = .returned (.bool true) ∧ Below w.heap.size w w' := by
  have h' := h
  obtain ⟨A1, c1, A2, c2, A3, c3, rfl, _, _, _⟩ := h'
  have hil := hi.len
  obtain ⟨n, hN⟩ : ∃ n, ids.length = n := ⟨_, rfl⟩
  obtain ⟨W0, hW0⟩ : ∃ W0, w.alloc (.cells #[.slice A1 t.ig.length c1, .slice A2 t.kp.length c2, .slice A3 t.rs.length c3] 50) = W0 := ⟨_, rfl⟩
  have hb0 : Below w.heap.size w W0 := by rw [← hW0]; exact below_new _ _
  have hz0 : W0.heap.size = w.heap.size + 1 := by rw [← hW0]; simp
  have x0 : Cells W0 w.heap.size 50 #[.slice A1 t.ig.length c1, .slice A2 t.kp.length c2, .slice A3 t.rs.length c3] := by rw [← hW0]; exact cells_new _ _ _
  have GR := great_any t _ W0 (h.on hb0)
  have HW := Lib.hid hW0
  have HH := Lib.hid (And.intro h (And.intro hi (And.intro hN (And.intro hb0 (And.intro hz0 x0)))))
  rw [hN] at hil ⊢
  have HA := Lib.hid AWK
  clear h hi hN hW0 hb0 hz0 x0 AWK
  go_enter Try.func8, Try.ntmps8
  go_wp2_with fail
  rw [HW.out]
  refine GR.mono ?_
  rintro r w1 ⟨⟨g, rfl, hgs⟩, hb1⟩
  have hbw1 := HH.out.2.2.2.1.trans (hb1.mono HH.out.2.2.2.1.size)
  have HG := Lib.hid (And.intro hb1 (And.intro hbw1 hgs))
  clear GR hb1 hbw1 hgs
  cases g with
  | true =>
    go_wp2_with fail
    refine (HA.out _).mono ?_
    rintro r w2 ⟨rfl, hb2⟩
    have HB := Lib.hid (HG.out.2.1.trans (hb2.mono HG.out.2.1.size))
    clear hb2
    go_wp2_with fail
    go_ret
    exact ⟨rfl, HB.out⟩
  | false =>
    by_cases h60 : 60 < n
    · have i1 : (60 : Int) < (n : Int) := by omega
      clear h60
      go_wp2_with fail
      refine (HA.out _).mono ?_
      rintro r w2 ⟨rfl, hb2⟩
      have HB := Lib.hid (HG.out.2.1.trans (hb2.mono HG.out.2.1.size))
      clear hb2
      go_wp2_with fail
      go_ret
      exact ⟨rfl, HB.out⟩
    · have i1 : ¬ (60 : Int) < (n : Int) := by omega
      go_wp2_with fail
      refine (HA.out _).mono ?_
      rintro r w2 ⟨rfl, hb2⟩
      have hbw2 := HG.out.2.1.trans (hb2.mono HG.out.2.1.size)
      have x2 := HH.out.2.2.2.2.2.on (HG.out.1.trans (hb2.mono HG.out.1.size))
      have q0 : ∀ p : Later (fun _ => False) w2, p.W.cell? ⟨w.heap.size, 0, none⟩ = some (.slice A1 t.ig.length c1) := fun p => cell_later (x2.cell 0) (fun hf => hf) p
      have q1 : ∀ p : Later (fun _ => False) w2, p.W.cell? ⟨w.heap.size, 1, none⟩ = some (.slice A2 t.kp.length c2) := fun p => cell_later (x2.cell 1) (fun hf => hf) p
      have q2 : ∀ p : Later (fun _ => False) w2, p.W.cell? ⟨w.heap.size, 2, none⟩ = some (.slice A3 t.rs.length c3) := fun p => cell_later (x2.cell 2) (fun hf => hf) p
      have HB := Lib.hid (And.intro hbw2 h60)
      clear hb2 hbw2 x2 h60
      go_wp2_with fail
      refine wp_region_mix0 (fun i => if i = 0 then 0 else if i = 2 then 0 else if i = 4 then 0 else if i = 6 then 0 else 2) [0, 2, 4, 6] [1, 3, 5, 7, 8, 9] (fun w' => ∃ p : Later (fun _ => False) w2, w' = p.W) (by kernel_rfl) (by kernel_rfl) ⟨⟨_, Fz.drew w2⟩, rfl⟩ ?_
      simp only [opsAt, List.filterMap_cons, List.filterMap_nil, List.getElem?_toArray, List.getElem?_cons_zero, List.getElem?_cons_succ]
      change wpQuiet _ _ _ _ [_, _, _, _] _
      repeat (go_big_quiet_step (fail))
      refine wpQuiet_nil ?_
      clear q0 q1 q2
      have zz := Fz.drew (X := fun _ => False) w2
      have bd := zz.below (B := w2.heap.size) (Nat.le_refl _) (fun _ _ h => h)
      obtain ⟨W4, hW4⟩ : ∃ V, ({ w2 with drawn := w2.drawn + 1 } : World) = V := ⟨_, rfl⟩
      rw [hW4] at zz bd ⊢
      clear hW4
      have b4 := HB.out.1.trans (bd.mono HB.out.1.size)
      have h60 := HB.out.2
      have hsm := HG.out.2.2 (by trivial)
      unfold smallT at hsm
      have C1 := toT_any t _ W4 (HH.out.1.on b4) (fun x hx => by have := hsm.2.2.2 x hx; omega) (by omega)
      have H4 := Lib.hid (And.intro zz b4)
      clear zz bd b4 hsm
      refine wpSeqM_step rfl ?_
      go_wp2_with fail
      refine C1.mono ?_
      rintro r W5 ⟨v5, rfl, hv5, hb5⟩
      clear C1
      have s4 := H4.out.2.size
      have b5 := H4.out.2.trans (hb5.mono s4)
      have C2 := hidden_any t v5 ids A cap W5 hv5 (HH.out.2.1.on b5) (by rw [HH.out.2.2.1]; omega)
      rw [HH.out.2.2.1] at C2
      have H5 := Lib.hid (And.intro (H4.out.1.trans (Fz.of_below hb5)) b5)
      obtain ⟨B1, d1, B2, d2, B3, d3, rfl, _⟩ := hv5
      clear hb5 b5
      go_wp2_with fail
      refine ⟨⟨⟨_, H5.out.1⟩, rfl⟩, ?_⟩
      refine wpSeqM_step rfl ?_
      go_wp2_with fail
      refine C2.mono ?_
      rintro r W6 ⟨v6, rfl, hr6, hb6⟩
      clear C2
      obtain ⟨A6, c6, rfl⟩ := own_formN hr6
      have s5 := H5.out.2.size
      have b6 := H5.out.2.trans (hb6.mono s5)
      have C3 := known_any t _ W6 (HH.out.1.on b6)
      have e6 := (rdF_len (knownT t).ig (knownT t).kp ids).1
      rw [← HH.out.2.2.1, ← e6] at hr6
      have hbs := (BS.of_own hr6).2
      have H6 := Lib.hid (And.intro hbs (And.intro (H5.out.1.trans (Fz.of_below hb6)) (And.intro b6 e6)))
      clear hr6 hb6 b6 hbs e6
      go_wp2_with fail
      refine ⟨⟨⟨_, H6.out.2.1⟩, rfl⟩, ?_⟩
      refine wpSeqM_step rfl ?_
      go_wp2_with fail
      refine C3.mono ?_
      rintro r W7 ⟨⟨v7, rfl, hv7⟩, hb7⟩
      clear C3
      have s6 := H6.out.2.2.1.size
      have b7 := H6.out.2.2.1.trans (hb7.mono s6)
      have C4 := refHidden_any (knownT t) v7 ids A cap W7 hv7 (HH.out.2.1.on b7) (by rw [HH.out.2.2.1]; omega)
      rw [HH.out.2.2.1] at C4
      have H7 := Lib.hid (And.intro (H6.out.1.on hb7) (And.intro (H6.out.2.1.trans (Fz.of_below hb7)) b7))
      obtain ⟨E1, f1, E2, f2, E3, f3, rfl, _⟩ := hv7
      clear hb7 b7
      go_wp2_with fail
      refine ⟨⟨⟨_, H7.out.2.1⟩, rfl⟩, ?_⟩
      refine wpSeqM_step rfl ?_
      go_wp2_with fail
      refine C4.mono ?_
      rintro r W8 ⟨A8, c8, rfl, hs8, hb8⟩
      clear C4
      have s7 := H7.out.2.2.size
      have b8 := H7.out.2.2.trans (hb8.mono s7)
      have C5 := is_any _ _ A6 A8 c6 c8 W8 (H7.out.1.on hb8) hs8
      rw [H6.out.2.2.2, HH.out.2.2.1, decide_eq_true rfl] at C5
      have H8 := Lib.hid (And.intro (H7.out.2.1.trans (Fz.of_below hb8)) b8)
      clear hb8 b8 hs8
      go_wp2_with fail
      refine ⟨⟨⟨_, H8.out.1⟩, rfl⟩, ?_⟩
      refine wpSeqM_step rfl ?_
      go_wp2_with fail
      refine C5.mono ?_
      rintro r W9 ⟨rfl, hb9⟩
      clear C5
      have H9 := Lib.hid (And.intro (H8.out.1.trans (Fz.of_below hb9)) (H8.out.2.trans (hb9.mono H8.out.2.size)))
      clear hb9
      go_wp2_with fail
      refine ⟨⟨⟨_, H9.out.1⟩, rfl⟩, ?_⟩
      refine wpSeqM_step rfl ?_
      go_wp2_with fail
      refine ⟨⟨⟨_, H9.out.1⟩, rfl⟩, ?_⟩
      unfold wpSeqM
      go_wp2_with fail
      go_ret
      exact ⟨rfl, H9.out.2⟩
end Go.Proofs.Ytegkogadceodlaa
