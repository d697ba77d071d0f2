/-
  Contract: awake of the law.
-/
import Derived.Test.YtmldgfplnacecaaDoorExa
import Derived.Deep.CutRange
namespace Go.Proofs.YtmldgfplnacecaaDoor
open Go.RowKit Go.Shelf Go.Lib Go.Maps Go.Sort

theorem cells_new1 (w : World) (o : Obj) (cs : Array Value) (t : Nat) : Cells ((w.alloc o).alloc (.cells cs t)) (w.heap.size + 1) t cs := by
  have := cells_new (w.alloc o) cs t
  rw [World.size_alloc] at this
  exact this
/-- A narrow table is stored into a block made before. -/
theorem nar_store {w0 w X : World} {B p : Nat} {g : List Int} {rows : List (List Int)} {T : List Nat} {v1 vN v2 : Value} (h : NarO w X g rows T (.agg #[v1, vN, v2])) (hz : Cells X p 70 nil3) (hb : Below B w0 X) (hp : B ≤ p) :
    Cells (((X.setCell ⟨p, 0, none⟩ v1).setCell ⟨p, 1, none⟩ vN).setCell ⟨p, 2, none⟩ v2) p 70 #[v1, vN, v2] ∧ NarO w (((X.setCell ⟨p, 0, none⟩ v1).setCell ⟨p, 1, none⟩ vN).setCell ⟨p, 2, none⟩ v2) g rows T (.agg #[v1, vN, v2]) ∧
    Below B w0 (((X.setCell ⟨p, 0, none⟩ v1).setCell ⟨p, 1, none⟩ vN).setCell ⟨p, 2, none⟩ v2) := by
  have F := fz3 X p v1 vN v2
  obtain ⟨a1, aN, a2, xs, e, o1, oN, o2, r⟩ := h
  simp at e
  obtain ⟨rfl, rfl, rfl⟩ := e
  refine ⟨nil_set _ _ hz _ _ _, ⟨_, _, _, xs, rfl, ?_, ?_, ?_, ?_⟩, below_set3 hb hp _ _ _⟩
  · exact own_fz F o1 (fun k hk e => by subst hk; exact own_not_cells o1 hz (by decide) e)
  · exact own_fz F oN (fun k hk e => by subst hk; exact own_not_cells oN hz (by decide) e)
  · exact own_fz F o2 (fun k hk e => by subst hk; exact own_not_cells o2 hz (by decide) e)
  · intro i x hx
    obtain ⟨u, h1, h2⟩ := r i x hx
    exact ⟨u, h1, frL_fz F h2 (fun q cs hc hk => cells_apart hc hz (by decide) hk)⟩
theorem Cells.drew {W : World} {b t : Nat} {cs : Array Value} (h : Cells W b t cs) : Cells W.drew b t cs := h
theorem nar_new {w0 w X : World} {B : Nat} {g : List Int} {rows : List (List Int)} {T : List Nat} {v1 vN v2 : Value} (h : NarO w X g rows T (.agg #[v1, vN, v2])) (hb : Below B w0 X) (hB : B ≤ X.heap.size) :
    Cells (X.alloc (.cells #[v1, vN, v2] 70)) X.heap.size 70 #[v1, vN, v2] ∧ NarO w (X.alloc (.cells #[v1, vN, v2] 70)) g rows T (.agg #[v1, vN, v2]) ∧ Below B w0 (X.alloc (.cells #[v1, vN, v2] 70)) :=
  ⟨cells_new _ _ _, h.on (below_new _ _), hb.alloc hB _⟩
theorem nar_shape {w W : World} {g : List Int} {rows : List (List Int)} {T : List Nat} {v : Value} (h : NarO w W g rows T v) : ∃ a1 d1 aN dN a2 d2, v = .agg #[.slice a1 g.length d1, .slice aN rows.length dN, .slice a2 T.length d2] := by
  obtain ⟨v1, vN, v2, xs, e, o1, oN, o2, r⟩ := h
  obtain ⟨a1, d1, rfl⟩ := own_shape o1
  obtain ⟨aN, dN, rfl⟩ := own_shape oN
  obtain ⟨a2, d2, rfl⟩ := own_shape o2
  exact ⟨a1, d1, aN, dN, a2, d2, e⟩
/-- The cell of a row. -/
theorem nar_row {w W : World} {g : List Int} {rows : List (List Int)} {T : List Nat} {v1 v2 : Value} {aN : Option Addr} {n dN i : Nat} {x : List Int} (h : NarO w W g rows T (.agg #[v1, .slice aN n dN, v2])) (hx : rows[i]? = some x) :
    ∃ b q, aN = some ⟨b, 0, none⟩ ∧ W.cell? ⟨b, i, none⟩ = some (.slice (some ⟨q, 0, none⟩) x.length x.length) ∧ w.heap.size ≤ q ∧ Cells W q 3 (intsC x).toArray := by
  obtain ⟨a1, aN', a2, xs, e, o1, oN, o2, r⟩ := h
  simp at e
  obtain ⟨rfl, rfl, rfl⟩ := e
  obtain ⟨u, h1, q, rfl, hq, hc⟩ := r i x hx
  rcases oN.2 with ⟨k1, k2⟩ | ⟨b, c, cur, k1, _⟩
  · have h2 := oN.1; have := (List.getElem?_eq_some_iff.1 h1).1; rw [k2] at h2; omega
  · injection k1 with k1 k2 k3
    have := World.ownsRow.cells oN (g := b) (by rw [k1]; rfl) i _ h1
    rw [add0] at this
    exact ⟨b, q, k1, this, hq, hc⟩
def v37 (w : World) : Value := .slice (some ⟨w.heap.size + 1, 0, none⟩) 1 1
set_option maxHeartbeats 16000000 in
set_option maxRecDepth 100000 in
theorem awake_any (w : World) (hP : PW w) : Calls Tryd.prog 30 #[] w fun r w' => r = .returned (.bool true) ∧ Below w.heap.size w w' := by
  obtain ⟨W0, hW0, b0, hT, hc⟩ := ex_tab w
  have mk2 : (Instr.makeSlice 23 (.int .i64 37) (.int .i64 37)).run Tryd.prog w = .ok (.slice (some ⟨w.heap.size, 0, none⟩) 37 37) (w.alloc (.cells (arr 37 fun _ => .int .i64 0) 3)) := make_ints 37 (by omega) w
  have KG : ∀ W b, Below W0.heap.size W0 W → Cells W b 54 #[.slice (some ⟨w.heap.size + 1, 0, none⟩) 1 1, .slice (some ⟨w.heap.size + 1 + 1, 0, none⟩) 1 1] → Calls Tryd.prog 33 #[.slice (some ⟨b, 0, none⟩) 1 1] W fun r w' =>
      ∃ h, r = .returned (.slice (some ⟨h, 0, none⟩) 37 37) ∧ Cells w' h 3 (intsC exG).toArray ∧ Below W.heap.size W w' ∧ Below W0.heap.size W0 w' := by
    intro W b hb hcc
    have hb0 := b0.trans (hb.mono b0.size)
    have C := groups_any [(exR, exT)] (some ⟨b, 0, none⟩) 1 W (ds_one hcc (hT.on hb)) (by simp) (by simp) (hP.below hb0 hP.lt)
    refine C.mono ?_
    rintro r w' ⟨hb', v, rfl, h, rfl, _, hcell⟩
    rw [ex_groups] at hcell ⊢
    exact ⟨h, by rw [exG_len], hcell, hb', hb.trans (hb'.mono hb.size)⟩
  have KM : ∀ W h, Below W0.heap.size W0 W → Cells W h 3 (intsC exG).toArray → Calls Tryd.prog 37 #[.slice (some ⟨h, 0, none⟩) 37 37, .agg #[.slice (some ⟨w.heap.size + 1, 0, none⟩) 1 1, .slice (some ⟨w.heap.size + 1 + 1, 0, none⟩) 1 1]] W fun r w' =>
      ∃ a1 d1 aN dN a2 d2, r = .returned (.tuple #[.agg #[.slice a1 37 d1, .slice aN 1 dN, .slice a2 1 d2], .int .i64 0]) ∧ NarO W w' exG [[0]] exT (.agg #[.slice a1 37 d1, .slice aN 1 dN, .slice a2 1 d2]) ∧ Below W.heap.size W w' ∧ Below W0.heap.size W0 w' := by
    intro W h hb hcc
    have C := make_any exG (some ⟨h, 0, none⟩) 37 (R := exR) (T := exT) (w := W) (cells_is hcc (by simp) exG_i64) (by simp) (hT.on hb)
    refine C.mono ?_
    rintro r w' ⟨hb', (⟨hbad | ⟨_, _, hbad, _⟩⟩ | ⟨_, _, _, v, rfl, hn⟩)⟩
    · rcases hbad with ⟨h1 | h1, _⟩
      · rw [ex_many] at h1; omega
      · rw [ex_right] at h1; cases h1
    · rw [ex_fit] at hbad; cases hbad
    · rw [ex_nar] at hn
      obtain ⟨a1, d1, aN, dN, a2, d2, rfl⟩ := nar_shape hn
      rw [exG_len] at hn ⊢
      exact ⟨a1, d1, aN, dN, a2, d2, rfl, hn, hb', hb.trans (hb'.mono hb.size)⟩
  have HKG := Lib.hid KG
  have HKM := Lib.hid KM
  have H := Lib.hid (And.intro hT (And.intro b0 hc))
  have HW := Lib.hid hW0
  have t0 := hc.cell 0
  have t1 := hc.cell 1
  simp at t0 t1
  have z0 := hc.lt
  have z1 : w.heap.size + 1 + 1 + 1 < W0.heap.size + 1 := by omega
  clear KG KM hT b0 hc hW0
  go_enter Tryd.func30, Tryd.ntmps30
  go_upto_region 2 with fail
  rw [HW.out]
  go_cut [2, 3] from 8 to 15 (fun p e wx => e = .int .i64 0 ∧ ∃ wb g2 a1 d1 aN dN a2 d2, p = .pointer (some ⟨g2, 0, none⟩) ∧ Cells wx g2 70 #[.slice a1 37 d1, .slice aN 1 dN, .slice a2 1 d2] ∧ NarO wb wx exG [[0]] exT (.agg #[.slice a1 37 d1, .slice aN 1 dN, .slice a2 1 d2]) ∧ Below W0.heap.size W0 wx)
  case first =>
    go_region_with (first
      | (go_at_call 33
         refine (HKG.out _ _ (by first | exact ((Below.refl _ _).alloc (Nat.le_refl _) _).drew | exact (((Below.refl _ _).alloc (Nat.le_refl _) _).alloc (by rw [World.size_alloc]; exact Nat.le_succ _) _).drew | exact (Below.refl _ _).drew.alloc (Nat.le_refl _) _ | exact ((Below.refl _ _).drew.alloc (Nat.le_refl _) _).alloc (by rw [World.size_alloc]; exact Nat.le_succ _) _) (by first | exact Cells.drew (cells_new _ _ _) | exact Cells.drew ((cells_new _ _ _).on (below_new _ _)) | exact Cells.drew (cells_new1 _ _ _ _) | exact cells_new _ _ _ | exact (cells_new _ _ _).on (below_new _ _) | exact cells_new1 _ _ _ _)).mono ?_
         rintro r wa ⟨h, rfl, ca, ba, b0a⟩
         have ta := H.out.2.2.on b0a
         have x0 := ta.cell 0
         have x1 := ta.cell 1
         simp at x0 x1
         have la := ta.lt
         (try have za : Cells wa W0.heap.size 70 nil3 := Cells.on (Cells.drew ((cells_new _ _ _).on (below_new _ _))) ba)
         (try have za : Cells wa (W0.heap.size + 1) 70 nil3 := Cells.on (Cells.drew (cells_new1 _ _ _ _)) ba)
         (try (have q0 := za.cell 0; have q1 := za.cell 1; have q2 := za.cell 2; have p0 := za.froz 0; have p1 := za.froz 1; have p2 := za.froz 2; have zz := za.lt; simp [nil3] at q0 q1 q2; have HZa := Lib.hid za; clear za))
         have HGa := Lib.hid ca
         have HBa := Lib.hid b0a
         have la1 : w.heap.size + 1 + 1 + 1 < wa.heap.size + 1 := by omega
         clear ca ba b0a ta)
      | (go_at_call 37
         refine (HKM.out _ _ (by first | exact HBa.out | exact HBa.out.alloc HBa.out.size _) (by first | exact HGa.out | exact HGa.out.on (below_new _ _))).mono ?_
         rintro r wm ⟨a1, d1, aN, dN, a2, d2, rfl, hn, bm, b0m⟩
         (try have zm : Cells wm _ 70 nil3 := Cells.on (by first | exact HZa.out | exact cells_new wa _ _) bm)
         (try (have q0 := zm.cell 0; have q1 := zm.cell 1; have q2 := zm.cell 2; have p0 := zm.froz 0; have p1 := zm.froz 1; have p2 := zm.froz 2; have zz := zm.lt; simp [nil3] at q0 q1 q2; have HZm := Lib.hid zm; clear zm))
         have HN := Lib.hid hn
         have HBm := Lib.hid b0m
         clear hn bm b0m))
    all_goals
      go_wp2_with fail
      go_meet
      first
      | exact ⟨rfl, _, _, _, _, _, _, _, _, rfl, nar_new HN.out HBm.out HBm.out.size⟩
      | exact ⟨rfl, _, _, _, _, _, _, _, _, rfl, nar_store HN.out HZm.out HBm.out (by first | omega | (have := HBa.out.size; omega))⟩
  case rest =>
    obtain ⟨rfl, wb, g2, a1, d1, aN, dN, a2, d2, rfl, hc2, hn, hb⟩ := hcut
    have ta := H.out.2.2.on hb
    have x0 := ta.cell 0
    have x1 := ta.cell 1
    simp at x0 x1
    have la := ta.lt
    have bal := below_new wc (.cells #[.slice (some ⟨w.heap.size + 1, 0, none⟩) 1 1, .slice (some ⟨w.heap.size + 1 + 1, 0, none⟩) 1 1] 54)
    have CG := HKG.out (wc.alloc (.cells #[.slice (some ⟨w.heap.size + 1, 0, none⟩) 1 1, .slice (some ⟨w.heap.size + 1 + 1, 0, none⟩) 1 1] 54)) wc.heap.size (hb.trans (bal.mono hb.size)) (cells_new _ _ _)
    have HCG := Lib.hid CG
    have HR := Lib.hid (And.intro hc2 (And.intro hn (And.intro hb bal)))
    clear CG hc2 hn hb bal ta t0 t1 z0 z1 mk2
    go_wp2_with fail
    refine HCG.out.mono ?_
    rintro r w4 ⟨h, rfl, hg, hb4, hb04⟩
    have CM := many_any exG (some ⟨h, 0, none⟩) 37 w4 (cells_is hg (by simp) exG_i64) (by simp)
    rw [ex_many, exG_len] at CM
    have b24 : Below wc.heap.size wc w4 := HR.out.2.2.2.trans (hb4.mono HR.out.2.2.2.size)
    have HCM := Lib.hid (And.intro CM (And.intro b24 hb04))
    clear CM b24 hb4 hb04 hg
    go_wp2_with fail
    refine HCM.out.1.mono ?_
    rintro r w5 ⟨rfl, hb5⟩
    have b25 := HCM.out.2.1.trans (hb5.mono HCM.out.2.1.size)
    have n5 := HR.out.2.1.on b25
    obtain ⟨b, q, rfl, e1, _, _⟩ := nar_row n5 (i := 0) (x := [0]) rfl
    have y1 := (HR.out.1.on b25).cell 1
    simp at y1 e1
    have HB := Lib.hid (H.out.2.1.trans ((HCM.out.2.2.trans (hb5.mono HCM.out.2.2.size)).mono H.out.2.1.size))
    clear hb5 b25 n5 x0 x1
    go_wp2_with fail
    go_ret
    exact ⟨rfl, HB.out⟩
end Go.Proofs.YtmldgfplnacecaaDoor
