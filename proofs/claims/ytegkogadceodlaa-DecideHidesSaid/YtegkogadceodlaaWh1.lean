/-
  Contracts: which's function and slices.IndexFunc, where there is one pattern, of leaves.
-/
import Derived.Test.YtegkogadceodlaaBeg
namespace Go.Proofs.Ytegkogadceodlaa
open Go.RowKit Go.Shelf Go.Lib Go.Sort

/-- A pattern of two leaves. -/
def pt1 (k1 c1 : Int) (A1 : Option Addr) (d1 : Nat) (k2 c2 : Int) (A2 : Option Addr) (d2 : Nat) (b : Bool) : Array Value :=
  #[.int .i64 k1, .int .i64 c1, .slice A1 0 d1, .int .i64 1, .int .i64 1, .bool true, .int .i64 k2, .int .i64 c2, .slice A2 0 d2, .int .i64 1, .int .i64 1, .bool true, .bool b]
set_option maxRecDepth 100000 in
set_option maxHeartbeats 8000000 in
theorem wh1_any (k1 c1 k2 c2 m1 m2 : Int) (A1 A2 : Option Addr) (d1 d2 : Nat) (b : Bool) (ma mb g oa qa pa ob qb pb : Nat) (w : World) (hl1 : LeafOk w k1 c1 A1 d1) (hl2 : LeafOk w k2 c2 A2 d2)
    (ha : Cells w ma 25 #[.slice (some ⟨g, oa, none⟩) (qa + 1) pa]) (hb : Cells w mb 25 #[.slice (some ⟨g, ob, none⟩) (qb + 1) pb]) (la : qa + 1 ≤ pa) (lb : qb + 1 ≤ pb) (za : qa ≤ 1000000) (zb : qb ≤ 1000000)
    (ea : w.cell? ⟨g, oa, none⟩ = some (.int .i64 m2)) (eb : w.cell? ⟨g, ob + qb, none⟩ = some (.int .i64 m1)) :
    Calls Try.prog 82 #[.agg (pt1 k1 c1 A1 d1 k2 c2 A2 d2 b), .pointer (some ⟨ma, 0, none⟩), .pointer (some ⟨mb, 0, none⟩)] w fun e w' => e = .returned (.bool (takesG k2 c2 m2 && takesG k1 c1 m1)) ∧ Below w.heap.size w w' := by
  obtain ⟨W1, hW1⟩ : ∃ V, w.alloc (.cells (pt1 k1 c1 A1 d1 k2 c2 A2 d2 b) 134) = V := ⟨_, rfl⟩
  have b1 : Below w.heap.size w W1 := by rw [← hW1]; exact below_new _ _
  have x1 : Cells W1 w.heap.size 134 (pt1 k1 c1 A1 d1 k2 c2 A2 d2 b) := by rw [← hW1]; exact cells_new _ _ _
  have CB := begins_any k2 c2 m2 A2 d2 g oa qa pa W1 (hl2.on b1) la za ((b1.cell (p := ⟨g, oa, none⟩) (cell_lt ea)).trans ea)
  have CC := fun W (hW : Below W1.heap.size W1 W) => closes_any k1 c1 m1 A1 d1 g ob qb pb W ((hl1.on b1).on hW) lb zb ((hW.cell (p := ⟨g, ob + qb, none⟩) (by have := cell_lt eb; have := b1.size; simp at *; omega)).trans ((b1.cell (p := ⟨g, ob + qb, none⟩) (cell_lt eb)).trans eb))
  obtain ⟨R2, hR2⟩ : ∃ R, takesG k2 c2 m2 = R := ⟨_, rfl⟩
  obtain ⟨R1, hR1⟩ : ∃ R, takesG k1 c1 m1 = R := ⟨_, rfl⟩
  rw [hR2] at CB ⊢
  simp only [hR1] at CC
  rw [hR1]
  have p0 : W1.cell? ⟨ma, 0, none⟩ = some (.slice (some ⟨g, oa, none⟩) (qa + 1) pa) := (ha.on b1).cell 0
  obtain ⟨na, hna⟩ : ∃ n, qa + 1 = n := ⟨_, rfl⟩
  obtain ⟨nb, hnb⟩ : ∃ n, qb + 1 = n := ⟨_, rfl⟩
  rw [hna] at p0 CB
  have HB := Lib.hid (And.intro b1 (And.intro x1 (hb.on b1)))
  have HC := Lib.hid CC
  rw [hnb] at HB HC
  unfold pt1 at hW1 HB ⊢
  unfold sd1 at CB HC
  have HW := Lib.hid hW1
  have t6 := x1.cell 6
  have t7 := x1.cell 7
  have t8 := x1.cell 8
  have t9 := x1.cell 9
  have t10 := x1.cell 10
  have t11 := x1.cell 11
  simp [pt1] at t6 t7 t8 t9 t10 t11
  rw [← hW1] at t6 t7 t8 t9 t10 t11 p0
  clear ha hb ea eb hl1 hl2 b1 x1 CC hR1 hR2 hW1 hna hnb
  go_enter Try.func82, Try.ntmps82
  go_wp2_with fail
  rw [HW.out]
  refine CB.mono ?_
  rintro r w2 ⟨rfl, hb2⟩
  clear CB t6 t7 t8 t9 t10 t11 p0
  cases R2 with
  | false =>
    have HZ := Lib.hid (HB.out.1.trans (hb2.mono HB.out.1.size))
    clear hb2
    go_wp2_with fail
    go_ret
    exact ⟨rfl, HZ.out⟩
  | true =>
    have x2 := HB.out.2.1.on hb2
    have t0 := x2.cell 0
    have t1 := x2.cell 1
    have t2 := x2.cell 2
    have t3 := x2.cell 3
    have t4 := x2.cell 4
    have t5 := x2.cell 5
    simp at t0 t1 t2 t3 t4 t5
    have p1 : w2.cell? ⟨mb, 0, none⟩ = some (.slice (some ⟨g, ob, none⟩) nb pb) := (HB.out.2.2.on hb2).cell 0
    have CC := HC.out w2 hb2
    have HZ := Lib.hid (HB.out.1.trans (hb2.mono HB.out.1.size))
    clear hb2 x2
    go_wp2_with fail
    refine CC.mono ?_
    rintro r w3 ⟨rfl, hb3⟩
    have HZ3 := Lib.hid (HZ.out.trans (hb3.mono HZ.out.size))
    clear hb3 CC
    go_wp2_with fail
    go_ret
    exact ⟨by simp, HZ3.out⟩
end Go.Proofs.Ytegkogadceodlaa
