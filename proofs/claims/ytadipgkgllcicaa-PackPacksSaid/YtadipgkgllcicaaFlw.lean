/-
  Contract: (*Packed).fill.
-/
import Derived.Test.YtadipgkgllcicaaFil
namespace Go.Proofs.Ytadipgkgllcicaa
open Go.RowKit Go.Shelf Go.Lib Go.Maps

/-- The lists while two of them are filled up. -/
def lf (l : Nat → List Int) (t : Nat) : Nat → List Int := fun i => if i = 2 then padTo t (l 2) (-1) else if i = 3 then padTo t (l 3) 0 else l i
theorem lf_start (l : Nat → List Int) (h : (l 3).length = (l 2).length) : ∀ i, i < 4 → l i = lf l (l 2).length i := by
  intro i hi
  unfold lf
  split
  · subst i; rw [padTo_done _ _ _ (Nat.le_refl _)]
  · split
    · subst i; rw [padTo_done _ _ _ (by omega)]
    · rfl
theorem lf_next (l : Nat → List Int) (h : (l 3).length = (l 2).length) {t : Nat} (ht : (l 2).length ≤ t) : ∀ i, i < 4 → upd (upd (lf l t) 2 (lf l t 2 ++ [-1])) 3 (lf l t 3 ++ [0]) i = lf l (t + 1) i := by
  intro i hi
  have e2 : lf l t 2 = padTo t (l 2) (-1) := rfl
  have e3 : lf l t 3 = padTo t (l 3) 0 := rfl
  have f2 : lf l (t + 1) 2 = padTo (t + 1) (l 2) (-1) := rfl
  have f3 : lf l (t + 1) 3 = padTo (t + 1) (l 3) 0 := rfl
  rcases (by omega : i = 0 ∨ i = 1 ∨ i = 2 ∨ i = 3) with rfl | rfl | rfl | rfl
  · rfl
  · rfl
  · rw [upd_other _ _ (by decide), upd_same, e2, f2, padTo_succ ht]
  · rw [upd_same, e3, f3, padTo_succ (by omega)]
def fillL (l : Nat → List Int) (slot : Nat) (row el : Int) : Nat → List Int := fun i => if i = 2 then (fillR (l 2, l 3) slot row el).1 else if i = 3 then (fillR (l 2, l 3) slot row el).2 else l i
theorem lf_fill (l : Nat → List Int) (h : (l 3).length = (l 2).length) {t slot : Nat} (ht : t = max (l 2).length (slot + 1)) (row el : Int) : ∀ i, i < 4 → upd (upd (lf l t) 2 ((lf l t 2).set slot row)) 3 ((upd (lf l t) 2 ((lf l t 2).set slot row) 3).set slot el) i = fillL l slot row el i := by
  intro i hi
  have pad : ∀ (x : List Int) (d : Int), x.length = (l 2).length → padTo t x d = padTo (slot + 1) x d := fun x d hx => by
    unfold padTo
    rw [show t - x.length = slot + 1 - x.length by omega]
  rcases (by omega : i = 0 ∨ i = 1 ∨ i = 2 ∨ i = 3) with rfl | rfl | rfl | rfl
  · rfl
  · rfl
  · rw [upd_other _ _ (by decide), upd_same]
    show (padTo t (l 2) (-1)).set slot row = (padTo (slot + 1) (l 2) (-1)).set slot row
    rw [pad _ _ rfl]
  · rw [upd_same, upd_other _ _ (by decide)]
    show (padTo t (l 3) 0).set slot el = (padTo (slot + 1) (l 3) 0).set slot el
    rw [pad _ _ h]
set_option maxHeartbeats 4000000 in
set_option maxRecDepth 100000 in
theorem fill_any (pb B : Nat) (px : Int) (v0 : Nat → Value) (l : Nat → List Int) (slot : Nat) (row el : Int) (hr : i64 row) (he : i64 el) (hs : slot < 100000) (w : World) (h : PkM w pb B px v0 l) (hl : (l 3).length = (l 2).length) (hln : (l 2).length ≤ 100000) (hB : B ≤ w.heap.size) :
    Calls Try.prog 37 #[.pointer (some ⟨pb, 0, none⟩), .int .i64 (slot : Int), .int .i64 row, .int .i64 el] w fun r w' => r = .returned (.tuple #[]) ∧ ∃ v, PkM w' pb B px v (fillL l slot row el) ∧ Fz (Xp pb v0) w w' ∧ AtV w v0 v := by
  obtain ⟨i3, h3, z3, s3, b3⟩ := info_parts info3
  have I3 := Lib.hid (And.intro h3 (And.intro z3 (And.intro s3 b3)))
  have R0 : PkM w pb B px v0 (lf l (l 2).length) := h.congr (lf_start l hl)
  have H := Lib.hid (And.intro R0 (And.intro hl (And.intro hB (And.intro hr (And.intro he h)))))
  clear h R0 hl hB hr he h3 z3 s3 b3
  obtain ⟨M, hM⟩ : ∃ M, max (l 2).length (slot + 1) = M := ⟨_, rfl⟩
  have hMl : M ≤ 100000 := by omega
  obtain ⟨N0, hN0⟩ : ∃ N, (l 2).length = N := ⟨_, rfl⟩
  rw [hN0] at H hM
  have HN := Lib.hid (And.intro hN0 hM)
  have hN1 : N0 ≤ M := by omega
  have hN2 : slot + 1 ≤ M := by omega
  clear hN0 hM hln
  go_enter Try.func37, Try.ntmps37
  go_wp2_with fail
  go_loopw [] (fun wr => ∃ t v, N0 ≤ t ∧ t ≤ M ∧ PkM wr pb B px v (lf l t) ∧ Fz (Xp pb v0) w wr ∧ AtV w v0 v) (fun wr => M - lenOf (wr.cell? ⟨pb, 3, none⟩))
  case atStart => exact ⟨N0, v0, Nat.le_refl _, hN1, H.out.1, Fz.refl _ _, AtV.refl _ _⟩
  case round =>
    obtain ⟨t, v, ht1, ht2, hP, hF, hA⟩ := hrel
    have len2 : (lf l t 2).length = t := by show (padTo t (l 2) (-1)).length = t; rw [padTo_len, HN.out.1]; omega
    have len3 : (lf l t 3).length = t := by show (padTo t (l 3) 0).length = t; rw [padTo_len, H.out.2.1]; omega
    have hbb := hP.c.lt
    have hBs : B ≤ wr.heap.size := by have := hF.size; have := H.out.2.2.1; omega
    obtain ⟨A2, c2, hv2⟩ := own_form (hP.o 2 (by decide))
    obtain ⟨A3, c3, hv3⟩ := own_form (hP.o 3 (by decide))
    rw [len2] at hv2
    rw [len3] at hv3
    have d2 := hP.c.cell 3
    have d3 := hP.c.cell 4
    have f2 := hP.c.froz 3
    simp at d2 d3
    rw [hv2] at d2
    rw [hv3] at d3
    by_cases hlt : t < slot + 1
    · have o2 : (wr.alloc (.cells #[.int .i64 (-1)] 3)).ownsRow B 3 1 (.slice A2 t c2) t (intsC (lf l t 2)) := by
        have := (hP.o 2 (by decide)).alloc (.cells #[.int .i64 (-1)] 3)
        rw [hv2, len2] at this; exact this
      have hnew : (wr.alloc (.cells #[.int .i64 (-1)] 3)).cell? ⟨wr.heap.size, 0, none⟩ = some (.int .i64 (-1)) := by rw [World.cell?_alloc_new]; rfl
      have hms : lenOf (wr.cell? ⟨pb, 3, none⟩) = t := by rw [d2]; rfl
      have hend : ∀ g cp w4, w4.ownsRow B 3 1 (.slice (some ⟨g, 0, none⟩) (t + 1) cp) (t + 1) (intsC (lf l t 2) ++ [.int .i64 (-1)]) → (wr.alloc (.cells #[.int .i64 (-1)] 3)).grownBy w4 (Value.slice A2 t c2).ownBlock → ((Value.slice A2 t c2).ownBlock = some g ∨ g = wr.heap.size + 1) →
          w4.cell? ⟨pb, 3, none⟩ = some (.slice A2 t c2) ∧ w4.frozen? ⟨pb, 3, none⟩ = false ∧ w4.cell? ⟨pb, 4, none⟩ = some (.slice A3 t c3) ∧ w4.frozen? ⟨pb, 4, none⟩ = false ∧ pb < w4.heap.size ∧
            PkM (w4.setCell ⟨pb, 3, none⟩ (.slice (some ⟨g, 0, none⟩) (t + 1) cp)) pb B px (upd v 2 (.slice (some ⟨g, 0, none⟩) (t + 1) cp)) (upd (lf l t) 2 (lf l t 2 ++ [-1])) ∧
            Fz (Xp pb v0) w (w4.setCell ⟨pb, 3, none⟩ (.slice (some ⟨g, 0, none⟩) (t + 1) cp)) ∧ AtV w v0 (upd v 2 (.slice (some ⟨g, 0, none⟩) (t + 1) cp)) := fun g cp w4 k1 k2 k3 => by
        rw [← hv2] at k2 k3
        have k1' : w4.ownsRow B 3 1 (.slice (some ⟨g, 0, none⟩) ((lf l t 2).length + 1) cp) ((lf l t 2).length + 1) (intsC (lf l t 2) ++ [.int .i64 (-1)]) := by rw [len2]; exact k1
        obtain ⟨m1, m2⟩ := hP.append (i := 2) (x := -1) (by decide) (by unfold i64; omega) k1' k2 k3
        have q := m1.cell 3
        have q4 := m1.cell 4
        simp at q q4
        rw [hv2] at q
        rw [hv3] at q4
        rw [len2] at m2
        exact ⟨q, m1.froz 3, q4, m1.froz 4, m1.lt, m2, fz_app hF (by decide) hA k2 3 _, hA.upd (by decide) k3 hF.size⟩
      have HL := Lib.hid (And.intro o2 (And.intro hnew (And.intro hBs (And.intro hms (And.intro hend (And.intro len3 hv3))))))
      have j1 : (t : Int) ≤ (slot : Int) := by omega
      clear o2 hnew hms hend hP hF hA d3 len2 len3 hv2 hv3
      go_wp2_with (first
        | (at_builtin
           refine wpList_append_one rfl (.tmp 19) (.tmp 20) 25 rfl B 3 i3 (.int .i64 0) 8 Try.underlying25 I3.out.1 I3.out.2.1 I3.out.2.2.1 I3.out.2.2.2 (by decide) rfl (.slice A2 t c2) t (intsC (lf l t 2)) rfl HL.out.1 ⟨wr.heap.size, 0, none⟩ (.int .i64 (-1)) rfl HL.out.2.1 rfl (by omega) (by have := HL.out.2.2.1; simp; omega) _ rfl ?_)
        | fail)
      intro g cp w4 ho4 hg4 hat4 hlt4
      obtain ⟨s1, s2, s3, s4, s5, s6, s7, s8⟩ := HL.out.2.2.2.2.1 g cp w4 ho4 hg4 hat4
      have p3 : (w4.setCell ⟨pb, 3, none⟩ (.slice (some ⟨g, 0, none⟩) (t + 1) cp)).cell? ⟨pb, 4, none⟩ = some (.slice A3 t c3) := by
        have q := s6.c.cell 4
        simp at q
        rw [show upd v 2 (.slice (some ⟨g, 0, none⟩) (t + 1) cp) 3 = v 3 from rfl, HL.out.2.2.2.2.2.2] at q
        exact q
      have o3 : ((w4.setCell ⟨pb, 3, none⟩ (.slice (some ⟨g, 0, none⟩) (t + 1) cp)).alloc (.cells #[.int .i64 0] 3)).ownsRow B 3 1 (.slice A3 t c3) t (intsC (lf l t 3)) := by
        have := (s6.o 3 (by decide)).alloc (.cells #[.int .i64 0] 3)
        rw [show upd v 2 (.slice (some ⟨g, 0, none⟩) (t + 1) cp) 3 = v 3 from rfl, HL.out.2.2.2.2.2.2, show upd (lf l t) 2 (lf l t 2 ++ [-1]) 3 = lf l t 3 from rfl, HL.out.2.2.2.2.2.1] at this
        exact this
      have hnew2 : ((w4.setCell ⟨pb, 3, none⟩ (.slice (some ⟨g, 0, none⟩) (t + 1) cp)).alloc (.cells #[.int .i64 0] 3)).cell? ⟨(w4.setCell ⟨pb, 3, none⟩ (.slice (some ⟨g, 0, none⟩) (t + 1) cp)).heap.size, 0, none⟩ = some (.int .i64 0) := by rw [World.cell?_alloc_new]; rfl
      have hB5 : B ≤ (w4.setCell ⟨pb, 3, none⟩ (.slice (some ⟨g, 0, none⟩) (t + 1) cp)).heap.size := by have := s7.size; have := H.out.2.2.1; omega
      have hend2 : ∀ g' cp' w6, w6.ownsRow B 3 1 (.slice (some ⟨g', 0, none⟩) (t + 1) cp') (t + 1) (intsC (lf l t 3) ++ [.int .i64 0]) → ((w4.setCell ⟨pb, 3, none⟩ (.slice (some ⟨g, 0, none⟩) (t + 1) cp)).alloc (.cells #[.int .i64 0] 3)).grownBy w6 (Value.slice A3 t c3).ownBlock → ((Value.slice A3 t c3).ownBlock = some g' ∨ g' = (w4.setCell ⟨pb, 3, none⟩ (.slice (some ⟨g, 0, none⟩) (t + 1) cp)).heap.size + 1) →
          w6.cell? ⟨pb, 4, none⟩ = some (.slice A3 t c3) ∧ w6.frozen? ⟨pb, 4, none⟩ = false ∧ pb < w6.heap.size ∧ lenOf ((w6.setCell ⟨pb, 4, none⟩ (.slice (some ⟨g', 0, none⟩) (t + 1) cp')).cell? ⟨pb, 3, none⟩) = t + 1 ∧
            ∃ t' v', N0 ≤ t' ∧ t' ≤ M ∧ PkM (w6.setCell ⟨pb, 4, none⟩ (.slice (some ⟨g', 0, none⟩) (t + 1) cp')) pb B px v' (lf l t') ∧
            Fz (Xp pb v0) w (w6.setCell ⟨pb, 4, none⟩ (.slice (some ⟨g', 0, none⟩) (t + 1) cp')) ∧ AtV w v0 v' := fun g' cp' w6 k1 k2 k3 => by
        rw [show Value.slice A3 t c3 = upd v 2 (.slice (some ⟨g, 0, none⟩) (t + 1) cp) 3 from HL.out.2.2.2.2.2.2.symm] at k2 k3
        have k1' : w6.ownsRow B 3 1 (.slice (some ⟨g', 0, none⟩) ((lf l t 3).length + 1) cp') ((lf l t 3).length + 1) (intsC (lf l t 3) ++ [.int .i64 0]) := by rw [HL.out.2.2.2.2.2.1]; exact k1
        obtain ⟨m1, m2⟩ := s6.append (i := 3) (x := 0) (by decide) (by unfold i64; omega) k1' k2 k3
        have q4 := m1.cell 4
        simp at q4
        rw [show upd v 2 (.slice (some ⟨g, 0, none⟩) (t + 1) cp) 3 = v 3 from rfl, HL.out.2.2.2.2.2.2] at q4
        rw [show upd (lf l t) 2 (lf l t 2 ++ [-1]) 3 = lf l t 3 from rfl, HL.out.2.2.2.2.2.1] at m2
        refine ⟨q4, m1.froz 4, m1.lt, ?_, t + 1, _, by omega, by omega, m2.congr (fun i hi => lf_next l (by rw [H.out.2.1, HN.out.1]) (by rw [HN.out.1]; exact ht1) i hi), fz_app s7 (by decide) s8 k2 4 _, s8.upd (by decide) k3 s7.size⟩
        have q3 := m2.c.cell 3
        simp at q3
        rw [q3]
        rfl
      have HM := Lib.hid (And.intro o3 (And.intro hnew2 (And.intro hB5 hend2)))
      have hpb5 : pb < (w4.setCell ⟨pb, 3, none⟩ (.slice (some ⟨g, 0, none⟩) (t + 1) cp)).heap.size := s6.c.lt
      clear s6 s7 s8 ho4 hg4 hat4 o3 hnew2 hB5 hend2
      go_wp2_with (first
        | (at_builtin
           refine wpList_append_one rfl (.tmp 28) (.tmp 29) 25 rfl B 3 i3 (.int .i64 0) 8 Try.underlying25 I3.out.1 I3.out.2.1 I3.out.2.2.1 I3.out.2.2.2 (by decide) rfl (.slice A3 t c3) t (intsC (lf l t 3)) rfl HM.out.1 ⟨w4.heap.size, 0, none⟩ (.int .i64 0) rfl (by have := HM.out.2.1; rw [World.size_setCell] at this; exact this) rfl (by omega) (by have := HM.out.2.2.1; simp at this; simp; omega) _ rfl ?_)
        | fail)
      intro g' cp' w6 ho6 hg6 hat6 hlt6
      obtain ⟨r1, r2, r3, r4, r5⟩ := HM.out.2.2.2 g' cp' w6 ho6 hg6 (by rcases hat6 with e | e; exact .inl e; exact .inr (by rw [e]; simp))
      have HS := Lib.hid (And.intro r4 r5)
      clear r4 r5 ho6 hg6 hat6
      go_wp2_with fail
      go_roundw
      case rel => exact HS.out.2
      case measure => rw [HS.out.1, HL.out.2.2.2.1]; omega
    · have ht : t = max (l 2).length (slot + 1) := by rw [HN.out.1]; have := HN.out.2; omega
      obtain ⟨g2, cp2, e2, _, hc2, hg2⟩ := own_pos (hP.o 2 (by decide)) (by omega)
      obtain ⟨g3, cp3, e3, _, hc3, hg3⟩ := own_pos (hP.o 3 (by decide)) (by omega)
      rw [len2] at e2 hc2
      rw [len3] at e3 hc3
      have hne : g2 ≠ g3 := fun e => hP.d 2 3 (by decide) (by decide) (by decide) g2 (by rw [e2]; rfl) (by rw [e3, e]; rfl)
      have hne' : g3 ≠ g2 := fun e => hne e.symm
      have hA2 := hv2.symm.trans e2
      have hA3 := hv3.symm.trans e3
      injection hA2 with a1 _ a2
      injection hA3 with a3 _ a4
      subst a1; subst a2; subst a3; subst a4
      have p1 : pb ≠ g2 := by have := own_block_lt (hP.o 2 (by decide)) g2 (by rw [e2]; rfl); have := hP.lt; omega
      have p2 : pb ≠ g3 := by have := own_block_lt (hP.o 3 (by decide)) g3 (by rw [e3]; rfl); have := hP.lt; omega
      obtain ⟨x2, hx2⟩ := list_at (xs := lf l t 2) (i := slot) (by rw [len2]; omega)
      obtain ⟨x3, hx3⟩ := list_at (xs := lf l t 3) (i := slot) (by rw [len3]; omega)
      have q2 := World.ownsRow.cells (hP.o 2 (by decide)) (g := g2) (by rw [e2]; rfl) slot (.int .i64 x2) (by simp [intsC, hx2])
      have q3 := World.ownsRow.cells (hP.o 3 (by decide)) (g := g3) (by rw [e3]; rfl) slot (.int .i64 x3) (by simp [intsC, hx3])
      rw [add0] at q2 q3
      have k2 : wr.frozen? ⟨g2, slot, none⟩ = false := by
        have := hP.o 2 (by decide); rw [e2, len2] at this; exact this.frozenAt slot
      have k3 : wr.frozen? ⟨g3, slot, none⟩ = false := by
        have := hP.o 3 (by decide); rw [e3, len3] at this; exact this.frozenAt slot
      have P2 := hP.put (i := 2) (k := slot) (x := row) (by decide) H.out.2.2.2.1 e2
      have P3 := P2.put (i := 3) (k := slot) (x := el) (by decide) H.out.2.2.2.2.1 e3
      have P4 := P3.congr (lf_fill l (by rw [H.out.2.1, HN.out.1]) ht row el)
      have own2 : Xp pb v0 g2 ∨ w.heap.size ≤ g2 := by
        rcases hA 2 (by decide) with e | ⟨g, e, h2⟩
        · exact .inl (.inr ⟨2, by decide, by rw [← e, e2]; rfl⟩)
        · have e' : some g2 = some g := by rw [e2] at e; exact e
          injection e' with e'
          exact .inr (by omega)
      have own3 : Xp pb v0 g3 ∨ w.heap.size ≤ g3 := by
        rcases hA 3 (by decide) with e | ⟨g, e, h2⟩
        · exact .inl (.inr ⟨3, by decide, by rw [← e, e3]; rfl⟩)
        · have e' : some g3 = some g := by rw [e3] at e; exact e
          injection e' with e'
          exact .inr (by omega)
      have F4 := fz_set (fz_set hF g2 slot (.int .i64 row) own2) g3 slot (.int .i64 el) own3
      have HE := Lib.hid (And.intro P4 (And.intro F4 hA))
      have j1 : ¬ (t : Int) ≤ (slot : Int) := by omega
      have j2 : (slot : Int) < (t : Int) := by omega
      clear hP P2 P3 P4 F4 hF hA own2 own3 hx2 hx3 hv2 hv3 e2 e3 len2 len3 ht
      go_wp2_with fail
      go_region
      all_goals
        go_wp2_with fail
        go_end0
        exact ⟨rfl, v, HE.out.1.drew, HE.out.2.1.drew, HE.out.2.2⟩
end Go.Proofs.Ytadipgkgllcicaa
