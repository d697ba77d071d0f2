/-
  Contract: reading.which, where there is one pattern, of leaves.
-/
import Derived.BigQuiet
import Derived.Test.YtegkogadceodlaaIx1
namespace Go.Proofs.Ytegkogadceodlaa
open Go.RowKit Go.Shelf Go.Lib Go.Sort

/-- A reading with one pattern, of leaves, as it lies at a place. -/
structure Rd1 (w : World) (k1 c1 : Int) (A1 : Option Addr) (d1 : Nat) (k2 c2 : Int) (A2 : Option Addr) (d2 : Nat) (b : Bool) (x r cr gh nh ch gm nm cm gp np cp : Nat) : Prop where
  h1 : LeafOk w k1 c1 A1 d1
  h2 : LeafOk w k2 c2 A2 d2
  hx : Cells w x 109 #[.slice (some ⟨r, 0, none⟩) 1 cr, .slice (some ⟨gh, 0, none⟩) nh ch, .slice (some ⟨gm, 0, none⟩) nm cm, .slice (some ⟨gp, 0, none⟩) np cp]
  hr : ∀ (i : Nat) (u : Value), (pt1 k1 c1 A1 d1 k2 c2 A2 d2 b)[i]? = some u → w.cell? ⟨r, i, none⟩ = some u
  hcr : 1 ≤ cr
  hcm : nm ≤ cm
  hzm : nm ≤ 1000000
theorem Rd1.on {w w' : World} {k1 c1 : Int} {A1 : Option Addr} {d1 : Nat} {k2 c2 : Int} {A2 : Option Addr} {d2 : Nat} {b : Bool} {x r cr gh nh ch gm nm cm gp np cp : Nat} (h : Rd1 w k1 c1 A1 d1 k2 c2 A2 d2 b x r cr gh nh ch gm nm cm gp np cp) (hb : Below w.heap.size w w') : Rd1 w' k1 c1 A1 d1 k2 c2 A2 d2 b x r cr gh nh ch gm nm cm gp np cp :=
  ⟨h.h1.on hb, h.h2.on hb, h.hx.on hb, fun i u hu => (hb.cell (p := ⟨r, i, none⟩) (cell_lt (h.hr i u hu))).trans (h.hr i u hu), h.hcr, h.hcm, h.hzm⟩
set_option maxRecDepth 100000 in
set_option maxHeartbeats 8000000 in
theorem which1_any (k1 c1 : Int) (A1 : Option Addr) (d1 : Nat) (k2 c2 : Int) (A2 : Option Addr) (d2 : Nat) (b : Bool) (x r cr gh nh ch gm nm cm gp np cp i P : Nat) (m1 m2 : Int) (w : World) (h : Rd1 w k1 c1 A1 d1 k2 c2 A2 d2 b x r cr gh nh ch gm nm cm gp np cp)
    (hi : 1 ≤ i) (hih : i < nh) (hip : i < np) (hP : 1 ≤ P) (hPm : P < nm) (eh : w.cell? ⟨gh, i, none⟩ = some (.bool false)) (ep : w.cell? ⟨gp, i, none⟩ = some (.int .i64 (P : Int))) (e2 : w.cell? ⟨gm, P, none⟩ = some (.int .i64 m2)) (e1 : w.cell? ⟨gm, P - 1, none⟩ = some (.int .i64 m1)) :
    Calls Try.prog 51 #[.pointer (some ⟨x, 0, none⟩), .int .i64 (i : Int)] w fun e w' => e = .returned (.int .i64 (if (takesG k2 c2 m2 && takesG k1 c1 m1) = true then 0 else -1)) ∧ Below w.heap.size w w' := by
  obtain ⟨N, hN⟩ : ∃ N : Int, (if (takesG k2 c2 m2 && takesG k1 c1 m1) = true then (0 : Int) else -1) = N := ⟨_, rfl⟩
  rw [hN]
  have HN := Lib.hid hN
  clear hN
  have x0 : w.cell? ⟨x, 0, none⟩ = some (.slice (some ⟨r, 0, none⟩) 1 cr) := h.hx.cell 0
  have x1 : w.cell? ⟨x, 1, none⟩ = some (.slice (some ⟨gh, 0, none⟩) nh ch) := h.hx.cell 1
  have x2 : w.cell? ⟨x, 2, none⟩ = some (.slice (some ⟨gm, 0, none⟩) nm cm) := h.hx.cell 2
  have x3 : w.cell? ⟨x, 3, none⟩ = some (.slice (some ⟨gp, 0, none⟩) np cp) := h.hx.cell 3
  have i1 : ¬ (i : Int) ≤ 0 := by omega
  have i2 : ¬ (nh : Int) ≤ (i : Int) := by omega
  have i3 : (i : Int) < (nh : Int) := by omega
  have i4 : (i : Int) < (np : Int) := by omega
  have i5 : (P : Int) ≤ (cm : Int) := by have := h.hcm; omega
  have i6 : (P : Int) ≤ (nm : Int) := by omega
  have i7 : (nm : Int) ≤ (cm : Int) := by have := h.hcm; omega
  have hcm := h.hcm
  have hzm := h.hzm
  have HH := Lib.hid (And.intro h (And.intro e2 e1))
  clear h e2 e1
  have X2 : ∀ p : Later (fun _ => False) w, p.W.cell? ⟨x, 2, none⟩ = some (.slice (some ⟨gm, 0, none⟩) nm cm) := fun p => cell_later x2 (fun hf => hf) p
  have X3 : ∀ p : Later (fun _ => False) w, p.W.cell? ⟨x, 3, none⟩ = some (.slice (some ⟨gp, 0, none⟩) np cp) := fun p => cell_later x3 (fun hf => hf) p
  have EP : ∀ p : Later (fun _ => False) w, p.W.cell? ⟨gp, i, none⟩ = some (.int .i64 (P : Int)) := fun p => cell_later ep (fun hf => hf) p
  have HX := Lib.hid (And.intro x0 (And.intro hcm hzm))
  clear x0
  go_enter Try.func51, Try.ntmps51
  go_wp2_with fail
  clear x1 x2 x3 eh ep
  refine wp_region_mixF (fun i => if 24 ≤ i then 2 else 0) [0, 1, 2, 3, 4, 5, 6, 7, 8, 9, 10, 11, 12, 13, 14, 15, 16, 17, 18, 19, 20, 21, 22, 23] 4 (fun w' => ∃ p : Later (fun _ => False) w, w' = p.W) (by kernel_rfl) (by kernel_rfl) ⟨⟨_, Fz.drew w⟩, rfl⟩ ?_
  simp only [opsAt, List.filterMap_cons, List.filterMap_nil, List.getElem?_toArray, List.getElem?_cons_zero, List.getElem?_cons_succ]
  change wpQuiet _ _ _ _ [_, _, _, _, _, _, _, _, _, _, _, _, _, _, _, _, _, _, _, _, _, _, _, _] _
  repeat (go_big_quiet_step (fail))
  refine wpQuiet_nil ?_
  clear X2 X3 EP
  have zz := Fz.drew (X := fun _ => False) w
  have bd := zz.below (B := w.heap.size) (Nat.le_refl _) (fun _ _ h => h)
  obtain ⟨W4, hW4⟩ : ∃ V, ({ w with drawn := w.drawn + 1 } : World) = V := ⟨_, rfl⟩
  rw [hW4] at zz bd ⊢
  clear hW4
  have HZ := Lib.hid (And.intro zz bd)
  clear zz bd
  refine wpFreeM_step [24, 25] (by kernel_rfl) ⟨?_, ?_, trivial⟩
  · refine wpOp_of_list rfl ?_
    go_wp2_with fail
    have bq1 := below_new W4 (.cells #[.slice none 0 0] 25)
    have z1 : Cells (W4.alloc (.cells #[.slice none 0 0] 25)) W4.heap.size 25 #[.slice none 0 0] := cells_new _ _ _
    have s1 : (W4.alloc (.cells #[.slice none 0 0] 25)).heap.size = W4.heap.size + 1 := by simp
    obtain ⟨W5, hW5⟩ : ∃ V, W4.alloc (.cells #[.slice none 0 0] 25) = V := ⟨_, rfl⟩
    rw [hW5] at bq1 z1 s1 ⊢
    clear hW5
    have H5 := Lib.hid (And.intro bq1 (And.intro z1 (HZ.out.1.trans (Fz.of_below bq1))))
    clear bq1 z1
    refine ⟨⟨⟨_, H5.out.2.2⟩, rfl⟩, ?_⟩
    refine wpFreeM_step [25] (by kernel_rfl) ⟨?_, trivial⟩
    refine wpOp_of_list rfl ?_
    go_wp2_with fail
    have bq2 := below_new W5 (.cells #[.slice none 0 0] 25)
    have z2 : Cells (W5.alloc (.cells #[.slice none 0 0] 25)) (W4.heap.size + 1) 25 #[.slice none 0 0] := by rw [← s1]; exact cells_new _ _ _
    obtain ⟨W6, hW6⟩ : ∃ V, W5.alloc (.cells #[.slice none 0 0] 25) = V := ⟨_, rfl⟩
    rw [hW6] at bq2 z2 ⊢
    clear hW6
    have z1 := H5.out.2.1.on bq2
    have H6 := Lib.hid (And.intro (H5.out.1.trans (bq2.mono H5.out.1.size)) (And.intro z1 (And.intro z2 (H5.out.2.2.trans (Fz.of_below bq2)))))
    have v1 := z1.cell 0
    have v2 := z2.cell 0
    have f1 := z1.froz 0
    have f2 := z2.froz 0
    simp at v1 v2
    clear bq2 z1 z2
    refine ⟨⟨⟨_, H6.out.2.2.2⟩, rfl⟩, ?_⟩
    refine wpFreeM_step [26] (by kernel_rfl) ⟨?_, trivial⟩
    refine wpOp_of_list rfl ?_
    go_wp2_with fail
    have y1 := H6.out.2.1.set 0 (.slice (some ⟨gm, 0, none⟩) P cm)
    have g1 := Fz.set (X := fun k => k = W4.heap.size) W6 (W4.heap.size) 0 (.slice (some ⟨gm, 0, none⟩) P cm) rfl
    obtain ⟨W7, hW7⟩ : ∃ V, W6.setCell ⟨W4.heap.size, 0, none⟩ (.slice (some ⟨gm, 0, none⟩) P cm) = V := ⟨_, rfl⟩
    rw [hW7] at y1 g1 ⊢
    clear hW7
    have g2 := Fz.set (X := fun k => k = W4.heap.size + 1) W7 (W4.heap.size + 1) 0 (.slice (some ⟨gm, P, none⟩) (nm - P) (cm - P)) rfl
    have y2' := (g1.cells (by omega) H6.out.2.2.1).set 0 (.slice (some ⟨gm, P, none⟩) (nm - P) (cm - P))
    have y1' := g2.cells (by omega) y1
    have v3 := (g1.cells (by omega) H6.out.2.2.1).cell 0
    have f3 := (g1.cells (by omega) H6.out.2.2.1).froz 0
    simp at v3
    have hws := HZ.out.2.size
    have g1' := g1.mono (Y := fun k => w.heap.size ≤ k) (fun k hk => by omega)
    have fz7 := (H6.out.2.2.2.mono (Y := fun k => w.heap.size ≤ k) (fun k hk => hk.elim)).trans g1'
    have h7 : ∃ p : Later (fun _ => False) w, W7 = p.W := ⟨⟨W7, ⟨fz7.os, fz7.tape, fz7.output, fz7.size, fun k hk _ => fz7.block k hk (by omega)⟩⟩, rfl⟩
    have b8 := (fz7.trans (g2.mono (Y := fun k => w.heap.size ≤ k) (fun k hk => by omega))).below (B := w.heap.size) (Nat.le_refl _) (fun k hk e => by omega)
    have r8 := HH.out.1.on b8
    have IX := ix1_any k1 c1 k2 c2 m1 m2 A1 A2 d1 d2 b (W4.heap.size + 1) (W4.heap.size) gm P (nm - P - 1) (cm - P) 0 (P - 1) cm r cr _ r8.h1 r8.h2 (by rw [show nm - P - 1 + 1 = nm - P by omega]; exact y2') (by rw [show P - 1 + 1 = P by omega]; exact y1') (by omega) (by omega) (by omega) (by omega)
      ((b8.cell (p := ⟨gm, P, none⟩) (cell_lt HH.out.2.1)).trans HH.out.2.1) ((b8.cell (p := ⟨gm, 0 + (P - 1), none⟩) (by have := cell_lt HH.out.2.2; simpa using this)).trans (by rw [Nat.zero_add]; exact HH.out.2.2)) r8.hr r8.hcr
    rw [HN.out] at IX
    have x08 : (W7.setCell ⟨W4.heap.size + 1, 0, none⟩ (.slice (some ⟨gm, P, none⟩) (nm - P) (cm - P))).cell? ⟨x, 0, none⟩ = some (.slice (some ⟨r, 0, none⟩) 1 cr) := r8.hx.cell 0
    have H8 := Lib.hid b8
    clear y1 y1' y2' g1 g2 g1' fz7 b8 r8 v1 v2 f1 f2
    refine ⟨h7, ?_⟩
    clear h7
    refine wpFreeM_step [27] (by kernel_rfl) ⟨?_, trivial⟩
    refine wpOp_of_list rfl ?_
    go_wp2_with fail
    refine ⟨⟨⟨_, ⟨H8.out.os, H8.out.tape, H8.out.output, H8.out.size, fun k hk _ => H8.out.block k hk⟩⟩, rfl⟩, ?_⟩
    unfold wpFreeM
    go_wp2_with fail
    refine IX.mono ?_
    rintro e w9 ⟨rfl, hb9⟩
    have H9 := Lib.hid (H8.out.trans (hb9.mono H8.out.size))
    clear hb9 IX
    go_wp2_with fail
    go_ret
    exact ⟨rfl, H9.out⟩
  · refine wpOp_of_list rfl ?_
    go_wp2_with fail
    have bq1 := below_new W4 (.cells #[.slice none 0 0] 25)
    have z1 : Cells (W4.alloc (.cells #[.slice none 0 0] 25)) W4.heap.size 25 #[.slice none 0 0] := cells_new _ _ _
    have s1 : (W4.alloc (.cells #[.slice none 0 0] 25)).heap.size = W4.heap.size + 1 := by simp
    obtain ⟨W5, hW5⟩ : ∃ V, W4.alloc (.cells #[.slice none 0 0] 25) = V := ⟨_, rfl⟩
    rw [hW5] at bq1 z1 s1 ⊢
    clear hW5
    have H5 := Lib.hid (And.intro bq1 (And.intro z1 (HZ.out.1.trans (Fz.of_below bq1))))
    clear bq1 z1
    refine ⟨⟨⟨_, H5.out.2.2⟩, rfl⟩, ?_⟩
    refine wpFreeM_step [24] (by kernel_rfl) ⟨?_, trivial⟩
    refine wpOp_of_list rfl ?_
    go_wp2_with fail
    have bq2 := below_new W5 (.cells #[.slice none 0 0] 25)
    have z2 : Cells (W5.alloc (.cells #[.slice none 0 0] 25)) (W4.heap.size + 1) 25 #[.slice none 0 0] := by rw [← s1]; exact cells_new _ _ _
    obtain ⟨W6, hW6⟩ : ∃ V, W5.alloc (.cells #[.slice none 0 0] 25) = V := ⟨_, rfl⟩
    rw [hW6] at bq2 z2 ⊢
    clear hW6
    have z1 := H5.out.2.1.on bq2
    have H6 := Lib.hid (And.intro (H5.out.1.trans (bq2.mono H5.out.1.size)) (And.intro z1 (And.intro z2 (H5.out.2.2.trans (Fz.of_below bq2)))))
    have v1 := z1.cell 0
    have v2 := z2.cell 0
    have f1 := z1.froz 0
    have f2 := z2.froz 0
    simp at v1 v2
    clear bq2 z1 z2
    refine ⟨⟨⟨_, H6.out.2.2.2⟩, rfl⟩, ?_⟩
    refine wpFreeM_step [26] (by kernel_rfl) ⟨?_, trivial⟩
    refine wpOp_of_list rfl ?_
    go_wp2_with fail
    have y1 := H6.out.2.2.1.set 0 (.slice (some ⟨gm, 0, none⟩) P cm)
    have g1 := Fz.set (X := fun k => k = W4.heap.size + 1) W6 (W4.heap.size + 1) 0 (.slice (some ⟨gm, 0, none⟩) P cm) rfl
    obtain ⟨W7, hW7⟩ : ∃ V, W6.setCell ⟨W4.heap.size + 1, 0, none⟩ (.slice (some ⟨gm, 0, none⟩) P cm) = V := ⟨_, rfl⟩
    rw [hW7] at y1 g1 ⊢
    clear hW7
    have g2 := Fz.set (X := fun k => k = W4.heap.size) W7 (W4.heap.size) 0 (.slice (some ⟨gm, P, none⟩) (nm - P) (cm - P)) rfl
    have y2' := (g1.cells (by omega) H6.out.2.1).set 0 (.slice (some ⟨gm, P, none⟩) (nm - P) (cm - P))
    have y1' := g2.cells (by omega) y1
    have v3 := (g1.cells (by omega) H6.out.2.1).cell 0
    have f3 := (g1.cells (by omega) H6.out.2.1).froz 0
    simp at v3
    have hws := HZ.out.2.size
    have g1' := g1.mono (Y := fun k => w.heap.size ≤ k) (fun k hk => by omega)
    have fz7 := (H6.out.2.2.2.mono (Y := fun k => w.heap.size ≤ k) (fun k hk => hk.elim)).trans g1'
    have h7 : ∃ p : Later (fun _ => False) w, W7 = p.W := ⟨⟨W7, ⟨fz7.os, fz7.tape, fz7.output, fz7.size, fun k hk _ => fz7.block k hk (by omega)⟩⟩, rfl⟩
    have b8 := (fz7.trans (g2.mono (Y := fun k => w.heap.size ≤ k) (fun k hk => by omega))).below (B := w.heap.size) (Nat.le_refl _) (fun k hk e => by omega)
    have r8 := HH.out.1.on b8
    have IX := ix1_any k1 c1 k2 c2 m1 m2 A1 A2 d1 d2 b (W4.heap.size) (W4.heap.size + 1) gm P (nm - P - 1) (cm - P) 0 (P - 1) cm r cr _ r8.h1 r8.h2 (by rw [show nm - P - 1 + 1 = nm - P by omega]; exact y2') (by rw [show P - 1 + 1 = P by omega]; exact y1') (by omega) (by omega) (by omega) (by omega)
      ((b8.cell (p := ⟨gm, P, none⟩) (cell_lt HH.out.2.1)).trans HH.out.2.1) ((b8.cell (p := ⟨gm, 0 + (P - 1), none⟩) (by have := cell_lt HH.out.2.2; simpa using this)).trans (by rw [Nat.zero_add]; exact HH.out.2.2)) r8.hr r8.hcr
    rw [HN.out] at IX
    have x08 : (W7.setCell ⟨W4.heap.size, 0, none⟩ (.slice (some ⟨gm, P, none⟩) (nm - P) (cm - P))).cell? ⟨x, 0, none⟩ = some (.slice (some ⟨r, 0, none⟩) 1 cr) := r8.hx.cell 0
    have H8 := Lib.hid b8
    clear y1 y1' y2' g1 g2 g1' fz7 b8 r8 v1 v2 f1 f2
    refine ⟨h7, ?_⟩
    clear h7
    refine wpFreeM_step [27] (by kernel_rfl) ⟨?_, trivial⟩
    refine wpOp_of_list rfl ?_
    go_wp2_with fail
    refine ⟨⟨⟨_, ⟨H8.out.os, H8.out.tape, H8.out.output, H8.out.size, fun k hk _ => H8.out.block k hk⟩⟩, rfl⟩, ?_⟩
    unfold wpFreeM
    go_wp2_with fail
    refine IX.mono ?_
    rintro e w9 ⟨rfl, hb9⟩
    have H9 := Lib.hid (H8.out.trans (hb9.mono H8.out.size))
    clear hb9 IX
    go_wp2_with fail
    go_ret
    exact ⟨rfl, H9.out⟩
end Go.Proofs.Ytegkogadceodlaa
