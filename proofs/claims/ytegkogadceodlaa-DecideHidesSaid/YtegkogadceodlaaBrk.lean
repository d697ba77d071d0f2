/-
  Contract: reading.breaks, where there is one pattern, of leaves.
-/
import Derived.Test.YtegkogadceodlaaWhi
namespace Go.Proofs.Ytegkogadceodlaa
open Go.RowKit Go.Shelf Go.Lib Go.Sort

set_option maxRecDepth 100000 in
set_option maxHeartbeats 8000000 in
theorem breaks1_any (k1 c1 : Int) (A1 : Option Addr) (d1 : Nat) (k2 c2 : Int) (A2 : Option Addr) (d2 : Nat) (b : Bool) (x r cr gh nh ch gm nm cm gp np cp i P : Nat) (m1 m2 : Int) (w : World) (h : Rd1 w k1 c1 A1 d1 k2 c2 A2 d2 b x r cr gh nh ch gm nm cm gp np cp)
    (hi : 1 ≤ i) (hih : i < nh) (hip : i < np) (hP : 1 ≤ P) (hPm : P < nm) (eh : w.cell? ⟨gh, i, none⟩ = some (.bool false)) (ep : w.cell? ⟨gp, i, none⟩ = some (.int .i64 (P : Int))) (e2 : w.cell? ⟨gm, P, none⟩ = some (.int .i64 m2)) (e1 : w.cell? ⟨gm, P - 1, none⟩ = some (.int .i64 m1)) :
    Calls Try.prog 49 #[.pointer (some ⟨x, 0, none⟩), .int .i64 (i : Int)] w fun e w' => e = .returned (.bool (if (takesG k2 c2 m2 && takesG k1 c1 m1) = true then b else true)) ∧ Below w.heap.size w w' := by
  have CW := which1_any k1 c1 A1 d1 k2 c2 A2 d2 b x r cr gh nh ch gm nm cm gp np cp i P m1 m2 w h hi hih hip hP hPm eh ep e2 e1
  have x1 : w.cell? ⟨x, 1, none⟩ = some (.slice (some ⟨gh, 0, none⟩) nh ch) := h.hx.cell 1
  have i3 : (i : Int) < (nh : Int) := by omega
  obtain ⟨T, hT⟩ : ∃ T, (takesG k2 c2 m2 && takesG k1 c1 m1) = T := ⟨_, rfl⟩
  rw [hT] at CW ⊢
  have HH := Lib.hid h
  clear h e2 e1 ep hT hip hP hPm
  cases T with
  | false =>
    go_enter Try.func49, Try.ntmps49
    go_wp2_with fail
    refine CW.mono ?_
    rintro e w2 ⟨rfl, hb2⟩
    have HB := Lib.hid hb2
    clear hb2 CW
    go_wp2_with fail
    go_ret
    exact ⟨rfl, HB.out⟩
  | true =>
    go_enter Try.func49, Try.ntmps49
    go_wp2_with fail
    refine CW.mono ?_
    rintro e w2 ⟨rfl, hb2⟩
    have r2 := HH.out.on hb2
    have x0 : w2.cell? ⟨x, 0, none⟩ = some (.slice (some ⟨r, 0, none⟩) 1 cr) := r2.hx.cell 0
    have e12 : w2.cell? ⟨r, 12, none⟩ = some (.bool b) := r2.hr 12 _ rfl
    have HB := Lib.hid hb2
    clear hb2 CW r2
    go_wp2_with fail
    go_ret
    exact ⟨rfl, HB.out⟩
end Go.Proofs.Ytegkogadceodlaa
