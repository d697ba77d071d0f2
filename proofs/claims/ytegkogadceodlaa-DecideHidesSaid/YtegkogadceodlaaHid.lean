/-
  Contract: decide.Hidden.
-/
import Derived.Test.YtegkogadceodlaaRdd
namespace Go.Proofs.Ytegkogadceodlaa
open Go.RowKit Go.Shelf Go.Lib Go.Sort

theorem fld109 (a c d : Value) (A : Option Addr) (n k : Nat) (w : World) : (Instr.field 109 (.agg #[a, .slice A n k, c, d]) 1).run Try.prog w = .ok (.slice A n k) w := by kernel_rfl
set_option maxRecDepth 100000 in
set_option maxHeartbeats 4000000 in
theorem hidden_any (t : Tx) (v : Value) (ids : List Int) (A : Option Addr) (cap : Nat) (w : World) (h : TxV w w.heap.size t v) (hi : IS w w.heap.size ids A cap) (hn : ids.length ≤ 900) :
    Calls Try.prog 33 #[v, .slice A ids.length cap] w fun e w' => ∃ v', e = .returned v' ∧ w'.ownsRow w.heap.size 4 1 v' ids.length (bL (rdF (knownT t).ig (knownT t).kp ids).1) ∧ Below w.heap.size w w' := by
  have h' := h
  obtain ⟨A1, c1, A2, c2, A3, c3, rfl, _, _, _⟩ := h'
  obtain ⟨W0, hW0⟩ : ∃ W0, w.alloc (.cells #[.slice A1 t.ig.length c1, .slice A2 t.kp.length c2, .slice A3 t.rs.length c3] 57) = W0 := ⟨_, rfl⟩
  have hb0 : Below w.heap.size w W0 := by rw [← hW0]; exact below_new _ _
  have CR := Lib.hid (read_any t _ ids A cap W0 (h.on hb0) (hi.on hb0) hn)
  have HW := Lib.hid hW0
  have HB := Lib.hid hb0
  have hlen := (rdF_len (knownT t).ig (knownT t).kp ids).1
  have HL := Lib.hid hlen
  clear h hi hW0 hb0 hlen hn
  go_enter Try.func33, Try.ntmps33
  go_wp2_with fail
  rw [HW.out]
  refine CR.out.mono ?_
  rintro r w1 ⟨L, vr, vh, vm, vp, rfl, ro, hb1⟩
  have s0 := HB.out.size
  obtain ⟨Ar, cr, rfl⟩ := own_formN ro.r
  obtain ⟨Ah, ch, rfl⟩ := own_formN ro.h
  obtain ⟨Am, cm, rfl⟩ := own_formN ro.m
  obtain ⟨Ap, cp, rfl⟩ := own_formN ro.s
  have HZ := Lib.hid (And.intro (own_base ro.h s0) (HB.out.trans (hb1.mono s0)))
  have FLD := fld109 (.slice Ar (knownT t).rs.length cr) (.slice Am (rdF (knownT t).ig (knownT t).kp ids).2.1.length cm) (.slice Ap (rdF (knownT t).ig (knownT t).kp ids).2.2.length cp) Ah (rdF (knownT t).ig (knownT t).kp ids).1.length ch w1
  clear ro hb1 s0
  go_wp2_with fail
  go_ret
  exact ⟨_, rfl, by rw [← HL.out]; exact HZ.out.1, HZ.out.2⟩
end Go.Proofs.Ytegkogadceodlaa
