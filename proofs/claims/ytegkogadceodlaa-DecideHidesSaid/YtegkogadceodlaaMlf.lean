/-
  Contracts: a leaf by itself: newState, step, Matches of one mark.
-/
import Derived.Test.YtegkogadceodlaaTak
import Derived.Test.YtegkogadceodlaaTod
namespace Go.Proofs.Ytegkogadceodlaa
open Go.RowKit Go.Shelf Go.Lib

theorem cell_lt {w : World} {a : Addr} {v : Value} (h : w.cell? a = some v) : a.block < w.heap.size := by
  unfold World.cell? at h
  cases hb : w.heap[a.block]? with
  | none => simp [hb] at h
  | some x => exact (Array.getElem?_eq_some_iff.1 hb).1
theorem below_grown {w w' : World} {b B : Nat} (h : w.grownBy w' (some b)) (hB : B ≤ b) (hs : B ≤ w.heap.size) : Below B w w' :=
  ⟨h.os, h.tape, h.output, h.size, fun k hk => h.block k (by omega) (by simp; omega)⟩
def stC (k c : Int) (A : Option Addr) (cap : Nat) (e l : Bool) : Array Value := #[.int .i64 k, .int .i64 c, .slice A 0 cap, .slice none 0 0, .bool false, .bool e, .bool l]
set_option maxHeartbeats 4000000 in
set_option maxRecDepth 100000 in
theorem newLeaf_any (k c : Int) (A : Option Addr) (cap : Nat) (w : World) (h0 : 0 ≤ k) (h3 : k ≤ 3) :
    Calls Try.prog 38 #[.agg #[.int .i64 k, .int .i64 c, .slice A 0 cap]] w fun e w' => ∃ g, e = .returned (.pointer (some ⟨g, 0, none⟩)) ∧ w.heap.size ≤ g ∧ Cells w' g 76 (stC k c A cap false false) ∧ Below w.heap.size w w' := by
  have k4 : (k == 4) = false := by simp; omega
  have k5 : (k == 5) = false := by simp; omega
  have k6 : (k == 6) = false := by simp; omega
  have k7 : (k == 7) = false := by simp; omega
  have k8 : (k == 8) = false := by simp; omega
  have k9 : (k == 9) = false := by simp; omega
  go_enter Try.func38, Try.ntmps38
  go_wp2_with fail
  go_loopw [14] (fun i wr => i = .int .i64 0 ∧ wr = (w.alloc (.cells #[.int .i64 k, .int .i64 c, .slice A 0 cap] 33)).alloc (.cells (stC k c A cap false false) 76)) (fun _ _ => 0)
  case atStart => exact ⟨rfl, rfl⟩
  case round =>
    obtain ⟨rfl, rfl⟩ := hrel
    go_wp2_with fail
    go_ret
    refine ⟨_, rfl, by omega, ?_, ?_⟩
    · have := cells_new (w.alloc (.cells #[.int .i64 k, .int .i64 c, .slice A 0 cap] 33)) (stC k c A cap false false) 76
      simpa using this
    · exact (below_new w _).trans ((below_new _ _).mono (by simp))
set_option maxHeartbeats 4000000 in
set_option maxRecDepth 100000 in
theorem stepLeaf_any (k c m : Int) (A : Option Addr) (cap g : Nat) (w : World) (h0 : 0 ≤ k) (h3 : k ≤ 3) (hg : Cells w g 76 (stC k c A cap false false)) :
    Calls Try.prog 39 #[.pointer (some ⟨g, 0, none⟩), .bool true, .int .i64 m] w fun e w' => e = .returned (.tuple #[]) ∧ Cells w' g 76 (stC k c A cap (takesG k c m) (takesG k c m)) ∧ w.grownBy w' (some g) := by
  have k4 : (k == 4) = false := by simp; omega
  have k5 : (k == 5) = false := by simp; omega
  have k6 : (k == 6) = false := by simp; omega
  have k7 : (k == 7) = false := by simp; omega
  have k8 : (k == 8) = false := by simp; omega
  have d0 := hg.cell 0
  have d1 := hg.cell 1
  have d2 := hg.cell 2
  have d5 := hg.cell 5
  have d6 := hg.cell 6
  have f5 := hg.froz 5
  have f6 := hg.froz 6
  simp only [stC] at d0 d1 d2 d5 d6
  simp at d0 d1 d2 d5 d6
  have C := Lib.hid (fun w => takes_any k c m A 0 cap w)
  have HG := Lib.hid hg
  clear hg
  go_enter Try.func39, Try.ntmps39
  go_wp2_with fail
  refine (C.out _).mono ?_
  rintro e w2 ⟨rfl, hb2⟩
  have hg2 : Cells w2 g 76 (stC k c A cap false false) := (hb2.block g HG.out.lt).trans HG.out
  have e5 := hg2.cell 5
  have e6 := hg2.cell 6
  have q5 := hg2.froz 5
  have q6 := hg2.froz 6
  simp only [stC] at e5 e6
  simp at e5 e6
  obtain ⟨R, hR⟩ : ∃ R, takesG k c m = R := ⟨_, rfl⟩
  rw [hR]
  have HR := Lib.hid hR
  have HE := Lib.hid (And.intro hb2 hg2)
  clear hR hb2 hg2 C d0 d1 d2 d5 d6 f5 f6
  go_wp2_with fail
  go_end0
  refine ⟨rfl, ?_, ?_⟩
  · rw [HR.out]
    exact ((HE.out.2.set 5 (.bool R)).set 6 (.bool R))
  · exact (grownB HE.out.1 (some g)).trans ((grown_setc w2 g 5 (.bool R)).trans (grown_setc _ g 6 (.bool R)))

set_option maxHeartbeats 4000000 in
set_option maxRecDepth 100000 in
theorem matchLeaf_any (k c m : Int) (A : Option Addr) (cap g o cp : Nat) (w : World) (h0 : 0 ≤ k) (h3 : k ≤ 3) (hN : Nd w w.heap.size (.mk k c []) (.agg #[.int .i64 k, .int .i64 c, .slice A 0 cap])) (hr : rightE (.mk k c []) = true)
    (hm : w.cell? ⟨g, o, none⟩ = some (.int .i64 m)) :
    Calls Try.prog 15 #[.agg #[.int .i64 k, .int .i64 c, .slice A 0 cap], .slice (some ⟨g, o, none⟩) 1 cp] w fun e w' => e = .returned (.bool (takesG k c m)) ∧ Below w.heap.size w w' := by
  obtain ⟨W0, hW0⟩ : ∃ W0, w.alloc (.cells #[.int .i64 k, .int .i64 c, .slice A 0 cap] 33) = W0 := ⟨_, rfl⟩
  have hb0 : Below w.heap.size w W0 := by rw [← hW0]; exact below_new _ _
  have hbx : Cells W0 w.heap.size 33 #[.int .i64 k, .int .i64 c, .slice A 0 cap] := by rw [← hW0]; exact cells_new _ _ _
  have hz0 : w.heap.size < W0.heap.size := by rw [← hW0]; simp
  have hgl : g < w.heap.size := cell_lt hm
  have C1 := Lib.hid (right_any (.mk k c []) _ W0 (hN.on hb0))
  have HW := Lib.hid hW0
  have HB := Lib.hid (And.intro hb0 (And.intro hbx hm))
  have HR := Lib.hid hr
  have d0 := hbx.cell 0
  have d1 := hbx.cell 1
  have d2 := hbx.cell 2
  simp at d0 d1 d2
  obtain ⟨R, hR⟩ : ∃ R, takesG k c m = R := ⟨_, rfl⟩
  rw [hR]
  have HRR := Lib.hid hR
  clear hW0 hb0 hbx hm hN hr hR
  go_enter Try.func15, Try.ntmps15
  go_wp2_with fail
  rw [HW.out]
  go_wp2_with fail
  refine C1.out.mono ?_
  rintro e w2 ⟨rfl, hb2⟩
  rw [HR.out]
  have hc2 : Cells w2 w.heap.size 33 #[.int .i64 k, .int .i64 c, .slice A 0 cap] := (hb2.block _ hz0).trans HB.out.2.1
  have e0 := hc2.cell 0
  have e1 := hc2.cell 1
  have e2 := hc2.cell 2
  simp at e0 e1 e2
  have C2 := Lib.hid (newLeaf_any k c A cap w2 h0 h3)
  have H2 := Lib.hid hb2
  clear hb2 hc2 d0 d1 d2
  go_wp2_with fail
  refine C2.out.mono ?_
  rintro e w3 ⟨s, rfl, hs, hcs, hb3⟩
  have f4 := hcs.cell 4
  simp [stC] at f4
  have hbw3 : Below w.heap.size w w3 := HB.out.1.trans ((H2.out.mono (by omega)).trans (hb3.mono (by have := H2.out.size; omega)))
  have hm3 : w3.cell? ⟨g, o, none⟩ = some (.int .i64 m) := (hbw3.cell (p := ⟨g, o, none⟩) hgl).trans HB.out.2.2
  have C3 := Lib.hid (stepLeaf_any k c m A cap s w3 h0 h3 hcs)
  have H3 := Lib.hid (And.intro hbw3 (show w.heap.size < s by have := H2.out.size; omega))
  rw [HRR.out] at C3
  clear hcs hb3 hbw3 hs e0 e1 e2
  go_wp2_with fail
  go_loopw [6, 20] (fun b i wr => (i = .int .i64 0 ∧ wr = w3) ∨ (i = .int .i64 1 ∧ R = true ∧ b = .bool true ∧ Below w.heap.size w wr)) (fun _ i _ => 1 - (RowKit.intOf i).toNat)
  case atStart => exact .inl ⟨rfl, rfl⟩
  case round =>
    rcases hrel with ⟨rfl, rfl⟩ | ⟨rfl, hRt, rfl, hbb⟩
    · go_wp2_with fail
      refine C3.out.mono ?_
      rintro e w4 ⟨rfl, hc4, hg4⟩
      have e5 := hc4.cell 5
      have e6 := hc4.cell 6
      simp [stC] at e5 e6
      have hb4 := Lib.hid (H3.out.1.trans (below_grown hg4 (by have := H3.out.2; omega) H3.out.1.size))
      clear hc4 hg4
      cases R with
      | true =>
        go_wp2_with fail
        go_roundw
        case rel => exact .inr ⟨by simp, by simp, by simp, hb4.out⟩
        case measure => simp [RowKit.intOf]
      | false =>
        go_wp2_with fail
        go_ret
        exact ⟨rfl, hb4.out⟩
    · subst hRt
      have HBB := Lib.hid hbb
      clear hbb
      go_wp2_with fail
      go_ret
      exact ⟨rfl, HBB.out⟩
end Go.Proofs.Ytegkogadceodlaa
