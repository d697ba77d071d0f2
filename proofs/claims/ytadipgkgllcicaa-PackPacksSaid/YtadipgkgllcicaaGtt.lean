/-
  Contract: pack.Get.
-/
import Derived.Test.YtadipgkgllcicaaGet
namespace Go.Proofs.Ytadipgkgllcicaa
open Go.RowKit Go.Shelf Go.Lib Go.Maps

def thereB (p : Pk) (r c : Int) : Bool := (decide (0 ≤ r) && decide (r < (p.us.length : Int))) && (decide (0 ≤ c) && decide (c < p.w))
def getX (p : Pk) (r c : Int) : Int × Bool := if (thereB p r c && okPk p) = true then (getR p r.toNat c.toNat, true) else (0, false)
set_option maxHeartbeats 4000000 in
set_option maxRecDepth 100000 in
theorem get_any {p : Pk} {v : Value} {w : World} (h : PkV w p v) (r c : Int) (_hr : i64 r) (hc : i64 c) :
    Calls Try.prog 18 #[v, .int .i64 r, .int .i64 c] w fun e w' => e = .returned (.tuple #[.int .i64 (getX p r c).1, .bool (getX p r c).2]) ∧ Below w.heap.size w w' := by
  obtain ⟨X, hX⟩ : ∃ X, getX p r c = X := ⟨_, rfl⟩
  rw [hX]
  obtain ⟨ok, hok⟩ : ∃ b, okPk p = b := ⟨_, rfl⟩
  unfold getX thereB at hX
  rw [hok] at hX
  have HV := Lib.hid h
  obtain ⟨hp, A1, c1, A2, c2, A3, c3, A4, c4, rfl, i1, i2, i3, i4⟩ := h
  have m1 : p.us.length ≤ 9223372036854775807 := by have := i1.l; have := i1.m; unfold maxLen at this; omega
  obtain ⟨W0, hW0⟩ : ∃ W, w.alloc (.cells #[.int .i64 p.w, .slice A1 p.us.length c1, .slice A2 p.bs.length c2, .slice A3 p.cs.length c3, .slice A4 p.ns.length c4] 27) = W := ⟨_, rfl⟩
  have b0 : Below w.heap.size w W0 := by rw [← hW0]; exact below_new w _
  have x0 : Cells W0 w.heap.size 27 #[.int .i64 p.w, .slice A1 p.us.length c1, .slice A2 p.bs.length c2, .slice A3 p.cs.length c3, .slice A4 p.ns.length c4] := by rw [← hW0]; exact cells_new _ _ _
  have CR := right_any (HV.out.on b0)
  rw [hok] at CR
  have CG : ok = true → ∀ (a b : Nat), (r = (a : Int) ∧ a < p.us.length ∧ c = (b : Int) ∧ b < 64) → ∀ w', Below W0.heap.size W0 w' → _ := fun e a b hab w' hb => get28_any ((HV.out.on b0).on hb) (okPk_iff.1 (hok.trans e)) a b hab.2.1 hab.2.2.2
  obtain ⟨px, us, bs, cs, ns⟩ := p
  dsimp only at *
  obtain ⟨n1, hn1⟩ : ∃ n, us.length = n := ⟨_, rfl⟩
  obtain ⟨n2, hn2⟩ : ∃ n, bs.length = n := ⟨_, rfl⟩
  obtain ⟨n3, hn3⟩ : ∃ n, cs.length = n := ⟨_, rfl⟩
  obtain ⟨n4, hn4⟩ : ∃ n, ns.length = n := ⟨_, rfl⟩
  have hx1 : okPk ⟨px, us, bs, cs, ns⟩ = true → px ≤ 64 := fun e => (okPk_iff.1 e).w2
  rw [hok] at hx1
  rw [hn1] at hX m1
  rw [hn1, hn2, hn3, hn4] at hW0 x0 CR CG
  rw [hn1, hn2, hn3, hn4]
  have HX := Lib.hid hX
  have H := Lib.hid (And.intro b0 x0)
  have HR := Lib.hid CR
  have HG := Lib.hid CG
  have HM := Lib.hid hx1
  have HW := Lib.hid hW0
  clear hX b0 x0 CR CG hx1 hW0 HV i1 i2 i3 i4 hok hn1 hn2 hn3 hn4
  unfold i64 at _hr hc hp
  by_cases q1 : 0 ≤ r
  case neg =>
    obtain rfl : X = (0, false) := by rw [← HX.out]; simp [q1]
    go_enter Try.func18, Try.ntmps18
    go_wp2_with fail
    rw [HW.out]
    go_ret2
    exact ⟨rfl, H.out.1⟩
  by_cases q2 : r < (n1 : Int)
  case neg =>
    obtain rfl : X = (0, false) := by rw [← HX.out]; simp [q2]
    go_enter Try.func18, Try.ntmps18
    go_wp2_with fail
    rw [HW.out]
    go_ret2
    exact ⟨rfl, H.out.1⟩
  by_cases q3 : 0 ≤ c
  case neg =>
    obtain rfl : X = (0, false) := by rw [← HX.out]; simp [q3]
    go_enter Try.func18, Try.ntmps18
    go_wp2_with fail
    rw [HW.out]
    go_ret2
    exact ⟨rfl, H.out.1⟩
  by_cases q4 : c < px
  case neg =>
    obtain rfl : X = (0, false) := by rw [← HX.out]; simp [q4]
    go_enter Try.func18, Try.ntmps18
    go_wp2_with fail
    rw [HW.out]
    go_ret2
    exact ⟨rfl, H.out.1⟩
  have HQ := Lib.hid (And.intro q1 (And.intro q2 (And.intro q3 q4)))
  go_enter Try.func18, Try.ntmps18
  go_wp2_with fail
  rw [HW.out]
  refine HR.out.mono ?_
  rintro e w1 ⟨rfl, hb1⟩
  have HB1 := Lib.hid hb1
  clear hb1
  cases ok
  case false =>
    obtain rfl : X = (0, false) := by rw [← HX.out]; simp
    go_wp2_with fail
    go_ret2
    exact ⟨rfl, H.out.1.trans (HB1.out.mono H.out.1.size)⟩
  obtain ⟨a, ha⟩ := Int.eq_ofNat_of_zero_le q1
  obtain ⟨b, hb⟩ := Int.eq_ofNat_of_zero_le q3
  have h64 := HM.out rfl
  have C := HG.out rfl a b ⟨ha, by omega, hb, by omega⟩ w1 HB1.out
  obtain ⟨g, hg⟩ : ∃ g, getR ⟨px, us, bs, cs, ns⟩ a b = g := ⟨_, rfl⟩
  rw [hg, ← ha, ← hb] at C
  obtain rfl : X = (g, true) := by rw [← HX.out, if_pos (by simp [q1, q2, q3, q4]), ha, hb, Int.toNat_natCast, Int.toNat_natCast, hg]
  have HC := Lib.hid C
  have y0 := (H.out.2.on HB1.out).cell 0
  have y1 := (H.out.2.on HB1.out).cell 1
  have y2 := (H.out.2.on HB1.out).cell 2
  have y3 := (H.out.2.on HB1.out).cell 3
  have y4 := (H.out.2.on HB1.out).cell 4
  simp at y0 y1 y2 y3 y4
  clear C hg ha hb h64
  go_wp2_with fail
  refine HC.out.mono ?_
  rintro e w2 ⟨rfl, hb2⟩
  have HB2 := Lib.hid (H.out.1.trans ((HB1.out.trans (hb2.mono HB1.out.size)).mono H.out.1.size))
  clear hb2
  go_wp2_with fail
  go_ret2
  exact ⟨rfl, HB2.out⟩
end Go.Proofs.Ytadipgkgllcicaa
