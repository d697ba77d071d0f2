/-
  Contract: decide.Breaks at awake's rule and list; awake.
-/
import Derived.Test.YtegkogadceodlaaBrs
import Derived.Test.YtegkogadceodlaaHdw
namespace Go.Proofs.Ytegkogadceodlaa
open Go.RowKit Go.Shelf Go.Lib Go.Sort

set_option maxRecDepth 100000 in
set_option maxHeartbeats 8000000 in
theorem breaksA_any (v : Value) (A : Option Addr) (cap : Nat) (w : World) (h : TxV w w.heap.size tA v) (hi : IS w w.heap.size [2, 1, 2] A cap) :
    Calls Try.prog 26 #[v, .slice A 3 cap] w fun e w' => ∃ A' c', e = .returned (.slice A' 4 c') ∧ BS w' w'.heap.size [true, true, false, true] A' c' ∧ Below w.heap.size w w' := by
  have h' := h
  obtain ⟨B1, e1, B2, e2, B3, e3, rfl, _, _, _⟩ := h'
  obtain ⟨W0, hW0⟩ : ∃ W0, w.alloc (.cells #[.slice B1 tA.ig.length e1, .slice B2 tA.kp.length e2, .slice B3 tA.rs.length e3] 57) = W0 := ⟨_, rfl⟩
  have hb0 : Below w.heap.size w W0 := by rw [← hW0]; exact below_new _ _
  have CR := read_any tA _ [2, 1, 2] A cap W0 (h.on hb0) (hi.on hb0) (by decide)
  rw [tA_known] at CR
  have HW := Lib.hid (And.intro hW0 hb0)
  clear h hi hW0 hb0
  obtain ⟨n1, hn1⟩ : ∃ n, tA.ig.length = n := ⟨_, rfl⟩
  obtain ⟨n2, hn2⟩ : ∃ n, tA.kp.length = n := ⟨_, rfl⟩
  obtain ⟨n3, hn3⟩ : ∃ n, tA.rs.length = n := ⟨_, rfl⟩
  rw [hn1, hn2, hn3] at HW CR ⊢
  clear hn1 hn2 hn3
  have CR : Calls Try.prog 48 #[.agg #[.slice B1 n1 e1, .slice B2 n2 e2, .slice B3 n3 e3], .slice A 3 cap] W0 _ := CR
  go_enter Try.func26, Try.ntmps26
  go_wp2_with fail
  rw [HW.out.1]
  refine CR.mono ?_
  rintro e w1 ⟨L, vr, vh, vm, vp, rfl, ro, hb1⟩
  clear CR
  have b1 := HW.out.2.trans (hb1.mono HW.out.2.size)
  obtain ⟨W2, hW2⟩ : ∃ V, w1.alloc (.cells #[vr, vh, vm, vp] 109) = V := ⟨_, rfl⟩
  have b2 : Below w1.heap.size w1 W2 := by rw [← hW2]; exact below_new _ _
  have x2 : Cells W2 w1.heap.size 109 #[vr, vh, vm, vp] := by rw [← hW2]; exact cells_new _ _ _
  have s2 : W2.heap.size = w1.heap.size + 1 := by rw [← hW2]; simp
  have ro2 : RdO W2 W0.heap.size tA [2, 1, 2] L vr vh vm vp := ⟨ownsRow_below ro.r b2, ro.p.below (b2.mono hb1.size), ownsRow_below ro.h b2, ownsRow_below ro.m b2, ownsRow_below ro.s b2, ro.i⟩
  have s01 := hb1.size
  obtain ⟨A1, d1, A2, d2, r, cr, gh, ch, gm, cm, gp, cp, hR⟩ := rdo_rd1 (by omega) ro2 x2
  obtain ⟨Ar, qr, rfl⟩ := own_formN ro.r
  obtain ⟨Ah, qh, rfl⟩ := own_formN ro.h
  obtain ⟨Am, qm, rfl⟩ := own_formN ro.m
  obtain ⟨Ap, qp, rfl⟩ := own_formN ro.s
  obtain ⟨l0, hl0⟩ : ∃ n, tA.rs.length = n := ⟨_, rfl⟩
  obtain ⟨l1, hl1⟩ : ∃ n, (rdF tA.ig tA.kp [2, 1, 2]).1.length = n := ⟨_, rfl⟩
  obtain ⟨l2, hl2⟩ : ∃ n, (rdF tA.ig tA.kp [2, 1, 2]).2.1.length = n := ⟨_, rfl⟩
  obtain ⟨l3, hl3⟩ : ∃ n, (rdF tA.ig tA.kp [2, 1, 2]).2.2.length = n := ⟨_, rfl⟩
  rw [hl0, hl1, hl2, hl3] at hW2 ⊢
  have HR := Lib.hid hR
  have H2 := Lib.hid (And.intro (b1.trans (b2.mono b1.size)) hW2)
  clear ro ro2 x2 b1 b2 hb1 hR hW2 hl0 hl1 hl2 hl3 s01
  go_wp2_with fail
  rw [H2.out.2]
  have hst : ((W2.alloc (.cells #[.bool true] 4)).ownsRow W2.heap.size 4 1 (.slice (some ⟨W2.heap.size, 0, none⟩) 1 1) 1 (bL [true])) ∧ Below W2.heap.size W2 (W2.alloc (.cells #[.bool true] 4)) := ⟨⟨rfl, .inr ⟨W2.heap.size, 1, #[.bool true], rfl, Nat.le_refl _, cells_new _ _ _, Nat.le_refl _, by unfold maxLen; omega, rfl, rfl⟩⟩, below_new _ _⟩
  have HST := Lib.hid hst
  clear hst
  rw [s2] at HST
  go_loopw [6, 7] (fun u i wr => ((i = .int .i64 1 ∧ wr.ownsRow W2.heap.size 4 1 u 1 (bL [true])) ∨ (i = .int .i64 2 ∧ wr.ownsRow W2.heap.size 4 1 u 2 (bL [true, true])) ∨ (i = .int .i64 3 ∧ wr.ownsRow W2.heap.size 4 1 u 3 (bL [true, true, false]))) ∧ Below W2.heap.size W2 wr) (fun _ i _ => 4 - (RowKit.intOf i).toNat)
  case atStart => rw [s2]; exact ⟨.inl ⟨rfl, HST.out.1⟩, HST.out.2⟩
  case round =>
    obtain ⟨hc, hb⟩ := hrel
    have cc : ∀ {b o : Nat} {u : Value}, W2.cell? ⟨b, o, none⟩ = some u → wr.cell? ⟨b, o, none⟩ = some u := fun hu => (hb.cell (p := ⟨_, _, none⟩) (cell_lt hu)).trans hu
    rcases hc with ⟨rfl, ho⟩ | ⟨rfl, ho⟩ | ⟨rfl, ho⟩
    · obtain ⟨Au, cu, rfl⟩ := own_formN ho
      have CB := breaks1_any 0 1 A1 d1 0 2 A2 d2 false w1.heap.size r cr gh 3 ch gm 4 cm gp 3 cp 1 2 2 1 wr (HR.out.1.on hb) (by omega) (by omega) (by omega) (by omega) (by omega) (cc (HR.out.2.1 1 (by omega))) (cc HR.out.2.2.2.1) (cc HR.out.2.2.1.2.2.1) (cc HR.out.2.2.1.2.1)
      rw [show (if (takesG 0 2 1 && takesG 0 1 2) = true then false else true) = true from by rw [tak_2]; rfl] at CB
      have HO := Lib.hid (And.intro ho hb)
      clear ho hb cc
      go_wp2_with fail
      refine CB.mono ?_
      rintro e w5 ⟨rfl, hb5⟩
      clear CB
      have ho5 := ownsRow_below HO.out.1 hb5
      have s5 := HO.out.2.size
      have b5 := HO.out.2.trans (hb5.mono s5)
      have s55 := b5.size
      have H5 := Lib.hid (And.intro ho5 b5)
      clear ho5 b5 hb5
      go_wp2_with (first
        | (at_builtin; refine wpList_app1 Try.underlying52 info4 (by omega) rfl (.tmp 18) (.tmp 21) rfl W2.heap.size _ 1 (bL [true]) (.bool true) rfl rfl w5 H5.out.1 rfl rfl (by omega) (by omega) ?_)
        | fail)
      intro g7 cp7 w7 ho7 hg7 hn7 hl7
      have b7 : Below W2.heap.size W2 w7 := H5.out.2.trans ⟨hg7.os, hg7.tape, hg7.output, hg7.size, fun k hk => hg7.block k (by omega) (fun e' => by have := (own_block_lt H5.out.1 k e'.symm).1; omega)⟩
      have H7 := Lib.hid (And.intro (show w7.ownsRow W2.heap.size 4 1 (.slice (some ⟨g7, 0, none⟩) 2 cp7) 2 (bL [true, true]) from (by rw [s2]; exact ho7)) b7)
      clear ho7 hg7 hn7 b7
      go_wp2_with fail
      go_roundw
      case rel => exact ⟨.inr (.inl ⟨by simp, H7.out.1⟩), H7.out.2⟩
      case measure => simp [RowKit.intOf]
    · obtain ⟨Au, cu, rfl⟩ := own_formN ho
      have CB := breaks1_any 0 1 A1 d1 0 2 A2 d2 false w1.heap.size r cr gh 3 ch gm 4 cm gp 3 cp 2 3 1 2 wr (HR.out.1.on hb) (by omega) (by omega) (by omega) (by omega) (by omega) (cc (HR.out.2.1 2 (by omega))) (cc HR.out.2.2.2.2) (cc HR.out.2.2.1.2.2.2) (cc HR.out.2.2.1.2.2.1)
      rw [show (if (takesG 0 2 2 && takesG 0 1 1) = true then false else true) = false from by rw [tak_1]; rfl] at CB
      have HO := Lib.hid (And.intro ho hb)
      clear ho hb cc
      go_wp2_with fail
      refine CB.mono ?_
      rintro e w5 ⟨rfl, hb5⟩
      clear CB
      have ho5 := ownsRow_below HO.out.1 hb5
      have s5 := HO.out.2.size
      have b5 := HO.out.2.trans (hb5.mono s5)
      have s55 := b5.size
      have H5 := Lib.hid (And.intro ho5 b5)
      clear ho5 b5 hb5
      go_wp2_with (first
        | (at_builtin; refine wpList_app1 Try.underlying52 info4 (by omega) rfl (.tmp 18) (.tmp 21) rfl W2.heap.size _ 2 (bL [true, true]) (.bool false) rfl rfl w5 H5.out.1 rfl rfl (by omega) (by omega) ?_)
        | fail)
      intro g7 cp7 w7 ho7 hg7 hn7 hl7
      have b7 : Below W2.heap.size W2 w7 := H5.out.2.trans ⟨hg7.os, hg7.tape, hg7.output, hg7.size, fun k hk => hg7.block k (by omega) (fun e' => by have := (own_block_lt H5.out.1 k e'.symm).1; omega)⟩
      have H7 := Lib.hid (And.intro (show w7.ownsRow W2.heap.size 4 1 (.slice (some ⟨g7, 0, none⟩) 3 cp7) 3 (bL [true, true, false]) from (by rw [s2]; exact ho7)) b7)
      clear ho7 hg7 hn7 b7
      go_wp2_with fail
      go_roundw
      case rel => exact ⟨.inr (.inr ⟨by simp, H7.out.1⟩), H7.out.2⟩
      case measure => simp [RowKit.intOf]
    · obtain ⟨Au, cu, rfl⟩ := own_formN ho
      have hws := hb.size
      have HO := Lib.hid (And.intro ho hb)
      clear ho hb cc
      go_wp2_with (first
        | (at_builtin; refine wpList_app1 Try.underlying52 info4 (by omega) rfl (.tmp 26) (.tmp 27) rfl W2.heap.size _ 3 (bL [true, true, false]) (.bool true) rfl rfl wr HO.out.1 rfl rfl (by omega) (by omega) ?_)
        | fail)
      intro g7 cp7 w7 ho7 hg7 hn7 hl7
      have b7 : Below W2.heap.size W2 w7 := HO.out.2.trans ⟨hg7.os, hg7.tape, hg7.output, hg7.size, fun k hk => hg7.block k (by omega) (fun e' => by have := (own_block_lt HO.out.1 k e'.symm).1; omega)⟩
      have H7 := Lib.hid (And.intro (BS.of_own (xs := [true, true, false, true]) (show w7.ownsRow W2.heap.size 4 1 (.slice (some ⟨g7, 0, none⟩) 4 cp7) 4 (bL [true, true, false, true]) from (by rw [s2]; exact ho7))).2 (H2.out.1.trans (b7.mono H2.out.1.size)))
      clear ho7 hg7 hn7 b7
      go_wp2_with fail
      go_ret
      exact ⟨_, _, rfl, H7.out.1, H7.out.2⟩
end Go.Proofs.Ytegkogadceodlaa
