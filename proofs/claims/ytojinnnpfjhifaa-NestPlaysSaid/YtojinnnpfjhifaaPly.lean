/-
  NestPlays' walk.
-/
import Derived.Deep.CutRange
import Derived.Test.YtojinnnpfjhifaaRta
import Derived.Test.YtojinnnpfjhifaaBkw
namespace Go.Proofs.Ytojinnnpfjhifaa
open Go.RowKit Go.Shelf Go.Lib Go.Maps
attribute [local irreducible] nmL ofN

/-- What lies in a round of the law: the nest, and the document's. -/
structure PW (w : World) (g r : Nat) (c d : Ct) (wr : World) : Prop where
  n : NW w g c wr
  r : Cells wr r 27 (ctA d)
theorem tag_at2 {w wr : World} {L : List TG} {A : Option Addr} {cap : Nat} (h : TsAt w w.heap.size L A cap) (hb : Below w.heap.size w wr) {i : Nat} {t : TG} (ht : L[i]? = some t) :
    ∃ b o, A = some ⟨b, o, none⟩ ∧ b < w.heap.size ∧ wr.cell? ⟨b, o + i * 3, none⟩ = some (.int .i64 t.k) ∧ wr.cell? ⟨b, o + i * 3 + 1, none⟩ = some (.string t.n) ∧ wr.cell? ⟨b, o + i * 3 + 2, none⟩ = some (.bool t.s) := by
  obtain ⟨b, o, rfl, hl, c0, c1, c2⟩ := (h.below hb).r i t ht
  exact ⟨b, o, rfl, hl, c0, c1, c2⟩
set_option maxRecDepth 100000 in
set_option maxHeartbeats 8000000 in
theorem playsLaw (l : List TG) (Al : Option Addr) (cl : Nat) (w : World) (hl : TsAt w w.heap.size l Al cl) (hM : MX w) :
    Calls Try.prog 3 #[.slice Al l.length cl] w fun e w' => e = .returned (.bool true) ∧ Below w.heap.size w w' := by
  have AW := fun W (hb : Below w.heap.size w W) => awake_any W (hM.on hM.pos hb)
  have hpos := hM.pos
  obtain ⟨N1, hN1⟩ : ∃ N, l.length = N := ⟨_, rfl⟩
  have hcl := hl.l
  have hcm := hl.m
  rw [hN1] at hcl ⊢
  have HA := Lib.hid AW
  have HH := Lib.hid (And.intro hl (And.intro hN1 (And.intro hM hpos)))
  clear AW hl hM hN1 hpos
  by_cases k1 : 60 < N1
  · have i1 : (60 : Int) < (N1 : Int) := by omega
    clear k1
    go_enter Try.func3, Try.ntmps3
    go_wp2_with fail
    refine (HA.out w (Below.refl _ _)).mono ?_
    rintro e w1 ⟨rfl, hb⟩
    have HZ := Lib.hid hb
    clear hb
    go_wp2_with fail
    go_ret
    exact ⟨rfl, HZ.out⟩
  have i1 : ¬ (60 : Int) < (N1 : Int) := by omega
  have HK := Lib.hid k1
  clear k1
  go_enter Try.func3, Try.ntmps3
  go_wp2_with fail
  refine (HA.out w (Below.refl _ _)).mono ?_
  rintro e w1 ⟨rfl, b1⟩
  clear HA
  have CN := new_any w1
  obtain ⟨g, hge⟩ : ∃ g, w1.heap.size = g := ⟨_, rfl⟩
  have hgw : w.heap.size ≤ g := by have := b1.size; omega
  have b3 := below_new w1 (.cells (ctA ⟨0, 0, 0⟩) 47)
  have n3 : NW w g ⟨0, 0, 0⟩ (w1.alloc (.cells (ctA ⟨0, 0, 0⟩) 47)) :=
    ⟨by rw [← hge]; exact cells_new _ _ _, b1.trans (b3.mono b1.size), (HH.out.2.2.1.on HH.out.2.2.2 b1).on (HH.out.2.2.1.on HH.out.2.2.2 b1).pos b3⟩
  have s3 : (w1.alloc (.cells (ctA ⟨0, 0, 0⟩) 47)).heap.size = g + 1 := by simp [hge]
  rw [hge] at CN
  have HG := Lib.hid hgw
  clear b1 hge hgw b3
  go_wp2_with fail
  refine CN.mono ?_
  rintro e W3 ⟨rfl, hW3⟩
  clear CN
  rw [← hW3] at n3 s3
  clear hW3
  have b4 := below_new W3 (.cells #[.int .i64 0, .int .i64 0, .int .i64 0] 27)
  have r4 : Cells (W3.alloc (.cells #[.int .i64 0, .int .i64 0, .int .i64 0] 27)) (g + 1) 27 (ctA ⟨0, 0, 0⟩) := by rw [← s3]; exact cells_new _ _ _
  have p4 : PW w g (g + 1) ⟨0, 0, 0⟩ ⟨0, 0, 0⟩ (W3.alloc (.cells #[.int .i64 0, .int .i64 0, .int .i64 0] 27)) := ⟨n3.on b4, r4⟩
  obtain ⟨W4, hW4⟩ : ∃ V, W3.alloc (.cells #[.int .i64 0, .int .i64 0, .int .i64 0] 27) = V := ⟨_, rfl⟩
  rw [hW4] at p4
  have H4 := Lib.hid p4
  have HW := Lib.hid hW4
  clear n3 b4 r4 p4 hW4
  go_wp2_with fail
  rw [HW.out]
  clear s3 HW
  go_loopw [5, 6, 7, 8, 9] (fun i _ _ _ _ wr => ∃ (k : Nat) (c : Ct), k ≤ N1 ∧ c.ok ∧ i = .int .i64 (k : Int) ∧ PW w g (g + 1) c c wr) (fun i _ _ _ _ _ => N1 - (RowKit.intOf i).toNat)
  case atStart => exact ⟨0, _, by omega, ok0, rfl, H4.out⟩
  case round =>
    obtain ⟨k, c, hk, hc, rfl, hn⟩ := hrel
    by_cases hkn : k < N1
    case neg =>
      obtain rfl : k = N1 := by omega
      have j1 : ¬ (k : Int) < (k : Int) := by omega
      have HZ := Lib.hid hn.n.b
      clear hn hc hk hkn
      go_wp2_with fail
      go_ret
      exact ⟨rfl, HZ.out⟩
    case pos =>
      have j1 : (k : Int) < (N1 : Int) := by omega
      obtain ⟨t, ht⟩ : ∃ t, l[k]? = some t := ⟨_, List.getElem?_eq_getElem (by have := HH.out.2.1; omega)⟩
      obtain ⟨b, o, rfl, hbl, c0, c1, c2⟩ := tag_at2 HH.out.1 hn.n.b ht
      by_cases hs : 60 < t.n.size
      · have j2 : (60 : Int) < (t.n.size : Int) := by omega
        have HZ := Lib.hid hn.n.b
        clear hn hs
        go_wp2_with fail
        go_ret
        exact ⟨rfl, HZ.out⟩
      · have j2 : ¬ (60 : Int) < (t.n.size : Int) := by omega
        have C := fun W hW hMW => take_any t.k 0 0 t.n 0 t.s (by omega) g c hc W hW hMW
        have CR := fun (en : Bool) W => refTake_any en t.s t.n c hc W
        have hc' := takeC_ok (nameN t.n) t.k t.s hc
        obtain ⟨kd, hkd⟩ : ∃ q, t.k = q := ⟨_, rfl⟩
        obtain ⟨nm, hnm⟩ : ∃ q, t.n = q := ⟨_, rfl⟩
        obtain ⟨sg, hsg⟩ : ∃ q, t.s = q := ⟨_, rfl⟩
        rw [hkd] at c0
        rw [hnm] at c1 j2
        rw [hsg] at c2
        simp only [hkd, hnm, hsg] at C hc' CR
        obtain ⟨F, hF⟩ : ∃ q, takeF (nameN nm) kd c = q := ⟨_, rfl⟩
        obtain ⟨X, hX⟩ : ∃ q, takeX (nameN nm) kd c = q := ⟨_, rfl⟩
        obtain ⟨c', hce⟩ : ∃ q, takeC (nameN nm) kd sg c = q := ⟨_, rfl⟩
        simp only [hF, hX, hce] at C hc'
        unfold tkA at C
        have hbg : b ≠ g := by have := HG.out; omega
        have g0 : ∀ p : Later (fun k => k = g) wr, p.W.cell? ⟨b, o + k * 3, none⟩ = some (.int .i64 kd) := fun p => cell_later c0 hbg p
        have g1 : ∀ p : Later (fun k => k = g) wr, p.W.cell? ⟨b, o + k * 3 + 1, none⟩ = some (.string nm) := fun p => cell_later c1 hbg p
        have g2 : ∀ p : Later (fun k => k = g) wr, p.W.cell? ⟨b, o + k * 3 + 2, none⟩ = some (.bool sg) := fun p => cell_later c2 hbg p
        have HC := Lib.hid C
        have HQ := Lib.hid (And.intro hF (And.intro hX (And.intro hce (And.intro hc' CR))))
        have HN := Lib.hid hn
        have HB := Lib.hid (And.intro hbl (And.intro c0 (And.intro c1 c2)))
        clear hn hs C hF hX hce hkd hnm hsg ht hc' CR c0 c2
        go_upto_region 10 with fail
        go_cut [6, 7] from 19 to 117 (fun f x wx => f = .bool F ∧ x = .bool X ∧ PW w g (g + 1) c' c wx ∧ Fz (fun k => k = g) wr wx)
        case first =>
          clear c1
          refine wp_region_mixF (fun i => if 17 ≤ i then 2 else 0) [0, 1, 2, 3, 4, 5, 6, 7, 8, 9, 10, 11, 12, 13, 14, 15, 16] 6 (fun w' => ∃ p : Later (fun k => k = g) wr, w' = p.W) (by kernel_rfl) (by kernel_rfl) ⟨⟨_, Fz.drew wr⟩, rfl⟩ ?_
          simp only [opsAt, List.filterMap_cons, List.filterMap_nil, List.getElem?_toArray, List.getElem?_cons_zero, List.getElem?_cons_succ]
          change wpQuiet _ _ _ _ [_, _, _, _, _, _, _, _, _, _, _, _, _, _, _, _, _] _
          repeat (go_big_quiet_step (fail))
          refine wpQuiet_nil ?_
          clear g0 g1 g2
          have C1 := HC.out { wr with drawn := wr.drawn + 1 } HN.out.n.drew.n HN.out.n.drew.m
          refine wpFreeM_step [17] (by kernel_rfl) ⟨?_, trivial⟩
          refine wpOp_of_list rfl ?_
          go_wp2_with fail
          refine C1.mono ?_
          rintro e w5 ⟨rfl, hn5, hf5⟩
          have hfz := (Fz.drew (X := fun k => k = g) wr).trans hf5
          have hpw : PW w g (g + 1) c' c w5 := ⟨HN.out.n.drew.take HG.out HH.out.2.2.2 hn5 hf5, hfz.cells (by omega) HN.out.r⟩
          have H5 := Lib.hid (And.intro hpw hfz)
          clear hn5 hf5 hfz hpw C1
          go_wp2_with fail
          refine ⟨⟨⟨_, H5.out.2⟩, rfl⟩, ?_⟩
          refine wpFreeM_step [18] (by kernel_rfl) ⟨?_, trivial⟩
          refine wpOp_of_list rfl ?_
          go_wp2_with fail
          refine ⟨⟨⟨_, H5.out.2⟩, rfl⟩, ?_⟩
          refine wpFreeM_step [19, 20] (by kernel_rfl) ⟨?_, ?_, trivial⟩
          · refine wpOp_of_list rfl ?_
            go_wp2_with fail
            refine ⟨⟨⟨_, H5.out.2⟩, rfl⟩, ?_⟩
            refine wpFreeM_step [20, 21] (by kernel_rfl) ⟨?_, ?_, trivial⟩
            · refine wpOp_of_list rfl ?_
              go_wp2_with fail
              refine ⟨⟨⟨_, H5.out.2⟩, rfl⟩, ?_⟩
              refine wpFreeM_step [21] (by kernel_rfl) ⟨?_, trivial⟩
              refine wpOp_of_list rfl ?_
              go_wp2_with fail
              refine ⟨⟨⟨_, H5.out.2⟩, rfl⟩, ?_⟩
              refine wpFreeM_step [22] (by kernel_rfl) ⟨?_, trivial⟩
              refine wpOp_of_list rfl ?_
              go_wp2_with fail
              refine ⟨⟨⟨_, H5.out.2⟩, rfl⟩, ?_⟩
              unfold wpFreeM
              go_wp2_with fail
              go_meet
              exact ⟨rfl, rfl, H5.out⟩
            · refine wpOp_of_list rfl ?_
              go_wp2_with fail
              refine ⟨⟨⟨_, H5.out.2⟩, rfl⟩, ?_⟩
              refine wpFreeM_step [20] (by kernel_rfl) ⟨?_, trivial⟩
              refine wpOp_of_list rfl ?_
              go_wp2_with fail
              refine ⟨⟨⟨_, H5.out.2⟩, rfl⟩, ?_⟩
              refine wpFreeM_step [22] (by kernel_rfl) ⟨?_, trivial⟩
              refine wpOp_of_list rfl ?_
              go_wp2_with fail
              refine ⟨⟨⟨_, H5.out.2⟩, rfl⟩, ?_⟩
              unfold wpFreeM
              go_wp2_with fail
              go_meet
              exact ⟨rfl, rfl, H5.out⟩
          · refine wpOp_of_list rfl ?_
            go_wp2_with fail
            refine ⟨⟨⟨_, H5.out.2⟩, rfl⟩, ?_⟩
            refine wpFreeM_step [19] (by kernel_rfl) ⟨?_, trivial⟩
            refine wpOp_of_list rfl ?_
            go_wp2_with fail
            refine ⟨⟨⟨_, H5.out.2⟩, rfl⟩, ?_⟩
            refine wpFreeM_step [21] (by kernel_rfl) ⟨?_, trivial⟩
            refine wpOp_of_list rfl ?_
            go_wp2_with fail
            refine ⟨⟨⟨_, H5.out.2⟩, rfl⟩, ?_⟩
            refine wpFreeM_step [22] (by kernel_rfl) ⟨?_, trivial⟩
            refine wpOp_of_list rfl ?_
            go_wp2_with fail
            refine ⟨⟨⟨_, H5.out.2⟩, rfl⟩, ?_⟩
            unfold wpFreeM
            go_wp2_with fail
            go_meet
            exact ⟨rfl, rfl, H5.out⟩
        case rest =>
          obtain ⟨rfl, rfl, hpw, hfz⟩ := hcut
          have d0 : wc.cell? ⟨b, o + k * 3, none⟩ = some (.int .i64 kd) := (World.cell?_of_block (a := ⟨b, o + k * 3, none⟩) (hfz.block b (block_lt_of_cell HB.out.2.1) hbg)).trans HB.out.2.1
          have d1 : wc.cell? ⟨b, o + k * 3 + 1, none⟩ = some (.string nm) := (World.cell?_of_block (a := ⟨b, o + k * 3 + 1, none⟩) (hfz.block b (block_lt_of_cell HB.out.2.2.1) hbg)).trans HB.out.2.2.1
          have d2 : wc.cell? ⟨b, o + k * 3 + 2, none⟩ = some (.bool sg) := (World.cell?_of_block (a := ⟨b, o + k * 3 + 2, none⟩) (hfz.block b (block_lt_of_cell HB.out.2.2.2) hbg)).trans HB.out.2.2.2
          have hbg2 : b ≠ g + 1 := by have := HG.out; have := HB.out.1; omega
          have H6 := Lib.hid hpw
          clear c1 g0 g1 g2 hpw hfz
          by_cases k2 : kd = 2
          · subst k2
            have y0 : wc.cell? ⟨g + 1, 0, none⟩ = some (.int .i64 (c.h : Int)) := H6.out.r.cell 0
            have y1 : wc.cell? ⟨g + 1, 1, none⟩ = some (.int .i64 (c.p : Int)) := H6.out.r.cell 1
            have y2 : wc.cell? ⟨g + 1, 2, none⟩ = some (.int .i64 (c.n : Int)) := H6.out.r.cell 2
            have C1 := HQ.out.2.2.2.2 false
            simp only [Bool.false_eq_true, if_false, if_true] at C1
            rw [HQ.out.1, HQ.out.2.1, HQ.out.2.2.1] at C1
            obtain ⟨ch, hch⟩ : ∃ q, c.h = q := ⟨_, rfl⟩
            obtain ⟨cp, hcp⟩ : ∃ q, c.p = q := ⟨_, rfl⟩
            obtain ⟨cn, hcn⟩ : ∃ q, c.n = q := ⟨_, rfl⟩
            obtain ⟨ch', hch'⟩ : ∃ q, c'.h = q := ⟨_, rfl⟩
            obtain ⟨cp', hcp'⟩ : ∃ q, c'.p = q := ⟨_, rfl⟩
            obtain ⟨cn', hcn'⟩ : ∃ q, c'.n = q := ⟨_, rfl⟩
            unfold ctA at C1
            rw [hch] at y0
            rw [hcp] at y1
            rw [hcn] at y2
            simp only [hch, hcp, hcn, hch', hcp', hcn'] at C1
            have HE := Lib.hid (And.intro hch' (And.intro hcp' hcn'))
            clear hch hcp hcn hch' hcp' hcn'
            have HC1 := Lib.hid C1
            clear C1
            have g0 : ∀ p : Later (fun k => k = g + 1) wc, p.W.cell? ⟨b, o + k * 3, none⟩ = some (.int .i64 2) := fun p => cell_later d0 hbg2 p
            have g1 : ∀ p : Later (fun k => k = g + 1) wc, p.W.cell? ⟨b, o + k * 3 + 1, none⟩ = some (.string nm) := fun p => cell_later d1 hbg2 p
            have g2 : ∀ p : Later (fun k => k = g + 1) wc, p.W.cell? ⟨b, o + k * 3 + 2, none⟩ = some (.bool sg) := fun p => cell_later d2 hbg2 p
            go_upto_region 13 with fail
            go_cut [8, 9] from 19 to 117 (fun f x wx => f = .bool F ∧ x = .bool X ∧ PW w g (g + 1) c' c' wx)
            case first =>
              clear d0 d1 d2
              refine wp_region_mixF (fun i => if i = 0 then 2 else if 17 ≤ i then 2 else 0) [1, 2, 3, 4, 5, 6, 7, 8, 9, 10, 11, 12, 13, 14, 15, 16] 9 (fun w' => ∃ p : Later (fun k => k = g + 1) wc, w' = p.W) (by kernel_rfl) (by kernel_rfl) ⟨⟨_, Fz.drew wc⟩, rfl⟩ ?_
              simp only [opsAt, List.filterMap_cons, List.filterMap_nil, List.getElem?_toArray, List.getElem?_cons_zero, List.getElem?_cons_succ]
              change wpQuiet _ _ _ _ [_, _, _, _, _, _, _, _, _, _, _, _, _, _, _, _] _
              repeat (go_big_quiet_step (fail))
              refine wpQuiet_nil ?_
              clear g0 g1 g2
              have zz : Fz (fun k => k = g + 1) wc { wc with drawn := wc.drawn + 1 } := Fz.drew wc
              have zn : PW w g (g + 1) c' c { wc with drawn := wc.drawn + 1 } := ⟨H6.out.n.drew, H6.out.r⟩
              have v0 : ({ wc with drawn := wc.drawn + 1 } : World).cell? ⟨g + 1, 0, none⟩ = some (.int .i64 (ch : Int)) := y0
              have v1 : ({ wc with drawn := wc.drawn + 1 } : World).cell? ⟨g + 1, 1, none⟩ = some (.int .i64 (cp : Int)) := y1
              have v2 : ({ wc with drawn := wc.drawn + 1 } : World).cell? ⟨g + 1, 2, none⟩ = some (.int .i64 (cn : Int)) := y2
              obtain ⟨W0, hW0⟩ : ∃ V, ({ wc with drawn := wc.drawn + 1 } : World) = V := ⟨_, rfl⟩
              rw [hW0] at zz zn v0 v1 v2 ⊢
              clear hW0 y0 y1 y2
              have H0 := Lib.hid (And.intro zz zn)
              clear zz zn
              refine wpFreeM_step [0] (by kernel_rfl) ⟨?_, trivial⟩
              refine wpOp_of_list rfl ?_
              go_wp2_with fail
              refine ⟨⟨⟨_, H0.out.1⟩, rfl⟩, ?_⟩
              refine wpFreeM_step [17] (by kernel_rfl) ⟨?_, trivial⟩
              refine wpOp_of_list rfl ?_
              go_wp2_with fail
              refine (HC1.out W0).mono ?_
              rintro e w5 ⟨rfl, hb5⟩
              have hfz := H0.out.1.trans (Fz.of_below hb5)
              have hpw : PW w g (g + 1) c' c w5 := ⟨H0.out.2.n.on hb5, H0.out.2.r.on hb5⟩
              have H5 := Lib.hid (And.intro hpw hfz)
              have f0 := hpw.r.froz 0
              have f1 := hpw.r.froz 1
              have f2 := hpw.r.froz 2
              have v0 : w5.cell? ⟨g + 1, 0, none⟩ = some (.int .i64 (c.h : Int)) := hpw.r.cell 0
              have v1 : w5.cell? ⟨g + 1, 1, none⟩ = some (.int .i64 (c.p : Int)) := hpw.r.cell 1
              have v2 : w5.cell? ⟨g + 1, 2, none⟩ = some (.int .i64 (c.n : Int)) := hpw.r.cell 2
              have z7 := ((hpw.r.set 0 (.int .i64 (ch' : Int))).set 1 (.int .i64 (cp' : Int))).set 2 (.int .i64 (cn' : Int))
              have k7 : Fz (fun k => k = g + 1) w5 (((w5.setCell ⟨g + 1, 0, none⟩ (.int .i64 (ch' : Int))).setCell ⟨g + 1, 1, none⟩ (.int .i64 (cp' : Int))).setCell ⟨g + 1, 2, none⟩ (.int .i64 (cn' : Int))) := ((Fz.set (X := fun k => k = g + 1) w5 (g + 1) 0 (.int .i64 (ch' : Int)) rfl).trans (Fz.set (X := fun k => k = g + 1) _ (g + 1) 1 (.int .i64 (cp' : Int)) rfl)).trans (Fz.set (X := fun k => k = g + 1) _ (g + 1) 2 (.int .i64 (cn' : Int)) rfl)
              have q7 : PW w g (g + 1) c' c' (((w5.setCell ⟨g + 1, 0, none⟩ (.int .i64 (ch' : Int))).setCell ⟨g + 1, 1, none⟩ (.int .i64 (cp' : Int))).setCell ⟨g + 1, 2, none⟩ (.int .i64 (cn' : Int))) := by
                refine ⟨⟨k7.cells (by omega) hpw.n.n, fz_below hpw.n.b k7 (by have := HG.out; omega) hpw.n.b.size, hpw.n.m.fz k7 (by omega)⟩, ?_⟩
                rw [show ctA c' = #[.int .i64 (ch' : Int), .int .i64 (cp' : Int), .int .i64 (cn' : Int)] by unfold ctA; rw [HE.out.1, HE.out.2.1, HE.out.2.2]]
                exact z7
              have H7 := Lib.hid (And.intro q7 (hfz.trans k7))
              clear hb5 hfz hpw z7 k7 q7
              go_wp2_with fail
              refine ⟨⟨⟨_, H5.out.2⟩, rfl⟩, ?_⟩
              refine wpFreeM_step [18] (by kernel_rfl) ⟨?_, trivial⟩
              refine wpOp_of_list rfl ?_
              go_wp2_with fail
              refine ⟨⟨⟨_, H5.out.2⟩, rfl⟩, ?_⟩
              refine wpFreeM_step [19, 20, 21] (by kernel_rfl) ⟨?_, ?_, ?_, trivial⟩
              · refine wpOp_of_list rfl ?_
                go_wp2_with fail
                refine ⟨⟨⟨_, H5.out.2⟩, rfl⟩, ?_⟩
                refine wpFreeM_step [20, 21, 22] (by kernel_rfl) ⟨?_, ?_, ?_, trivial⟩
                · refine wpOp_of_list rfl ?_
                  go_wp2_with fail
                  refine ⟨⟨⟨_, H5.out.2⟩, rfl⟩, ?_⟩
                  refine wpFreeM_step [21, 22] (by kernel_rfl) ⟨?_, ?_, trivial⟩
                  · refine wpOp_of_list rfl ?_
                    go_wp2_with fail
                    refine ⟨⟨⟨_, H5.out.2⟩, rfl⟩, ?_⟩
                    refine wpFreeM_step [22] (by kernel_rfl) ⟨?_, trivial⟩
                    refine wpOp_of_list rfl ?_
                    go_wp2_with fail
                    refine ⟨⟨⟨_, H7.out.2⟩, rfl⟩, ?_⟩
                    refine wpFreeM_step [23] (by kernel_rfl) ⟨?_, trivial⟩
                    refine wpOp_of_list rfl ?_
                    go_wp2_with fail
                    refine ⟨⟨⟨_, H7.out.2⟩, rfl⟩, ?_⟩
                    refine wpFreeM_step [24] (by kernel_rfl) ⟨?_, trivial⟩
                    refine wpOp_of_list rfl ?_
                    go_wp2_with fail
                    refine ⟨⟨⟨_, H7.out.2⟩, rfl⟩, ?_⟩
                    unfold wpFreeM
                    go_wp2_with fail
                    go_meet
                    exact ⟨rfl, rfl, H7.out.1⟩
                  · refine wpOp_of_list rfl ?_
                    go_wp2_with fail
                    refine ⟨⟨⟨_, H7.out.2⟩, rfl⟩, ?_⟩
                    refine wpFreeM_step [21, 23] (by kernel_rfl) ⟨?_, ?_, trivial⟩
                    · refine wpOp_of_list rfl ?_
                      go_wp2_with fail
                      refine ⟨⟨⟨_, H7.out.2⟩, rfl⟩, ?_⟩
                      refine wpFreeM_step [23] (by kernel_rfl) ⟨?_, trivial⟩
                      refine wpOp_of_list rfl ?_
                      go_wp2_with fail
                      refine ⟨⟨⟨_, H7.out.2⟩, rfl⟩, ?_⟩
                      refine wpFreeM_step [24] (by kernel_rfl) ⟨?_, trivial⟩
                      refine wpOp_of_list rfl ?_
                      go_wp2_with fail
                      refine ⟨⟨⟨_, H7.out.2⟩, rfl⟩, ?_⟩
                      unfold wpFreeM
                      go_wp2_with fail
                      go_meet
                      exact ⟨rfl, rfl, H7.out.1⟩
                    · refine wpOp_of_list rfl ?_
                      go_wp2_with fail
                      refine ⟨⟨⟨_, H7.out.2⟩, rfl⟩, ?_⟩
                      refine wpFreeM_step [21] (by kernel_rfl) ⟨?_, trivial⟩
                      refine wpOp_of_list rfl ?_
                      go_wp2_with fail
                      refine ⟨⟨⟨_, H7.out.2⟩, rfl⟩, ?_⟩
                      refine wpFreeM_step [24] (by kernel_rfl) ⟨?_, trivial⟩
                      refine wpOp_of_list rfl ?_
                      go_wp2_with fail
                      refine ⟨⟨⟨_, H7.out.2⟩, rfl⟩, ?_⟩
                      unfold wpFreeM
                      go_wp2_with fail
                      go_meet
                      exact ⟨rfl, rfl, H7.out.1⟩
                · refine wpOp_of_list rfl ?_
                  go_wp2_with fail
                  refine ⟨⟨⟨_, H5.out.2⟩, rfl⟩, ?_⟩
                  refine wpFreeM_step [20, 22] (by kernel_rfl) ⟨?_, ?_, trivial⟩
                  · refine wpOp_of_list rfl ?_
                    go_wp2_with fail
                    refine ⟨⟨⟨_, H5.out.2⟩, rfl⟩, ?_⟩
                    refine wpFreeM_step [22] (by kernel_rfl) ⟨?_, trivial⟩
                    refine wpOp_of_list rfl ?_
                    go_wp2_with fail
                    refine ⟨⟨⟨_, H7.out.2⟩, rfl⟩, ?_⟩
                    refine wpFreeM_step [23] (by kernel_rfl) ⟨?_, trivial⟩
                    refine wpOp_of_list rfl ?_
                    go_wp2_with fail
                    refine ⟨⟨⟨_, H7.out.2⟩, rfl⟩, ?_⟩
                    refine wpFreeM_step [24] (by kernel_rfl) ⟨?_, trivial⟩
                    refine wpOp_of_list rfl ?_
                    go_wp2_with fail
                    refine ⟨⟨⟨_, H7.out.2⟩, rfl⟩, ?_⟩
                    unfold wpFreeM
                    go_wp2_with fail
                    go_meet
                    exact ⟨rfl, rfl, H7.out.1⟩
                  · refine wpOp_of_list rfl ?_
                    go_wp2_with fail
                    refine ⟨⟨⟨_, H7.out.2⟩, rfl⟩, ?_⟩
                    refine wpFreeM_step [20] (by kernel_rfl) ⟨?_, trivial⟩
                    refine wpOp_of_list rfl ?_
                    go_wp2_with fail
                    refine ⟨⟨⟨_, H7.out.2⟩, rfl⟩, ?_⟩
                    refine wpFreeM_step [23] (by kernel_rfl) ⟨?_, trivial⟩
                    refine wpOp_of_list rfl ?_
                    go_wp2_with fail
                    refine ⟨⟨⟨_, H7.out.2⟩, rfl⟩, ?_⟩
                    refine wpFreeM_step [24] (by kernel_rfl) ⟨?_, trivial⟩
                    refine wpOp_of_list rfl ?_
                    go_wp2_with fail
                    refine ⟨⟨⟨_, H7.out.2⟩, rfl⟩, ?_⟩
                    unfold wpFreeM
                    go_wp2_with fail
                    go_meet
                    exact ⟨rfl, rfl, H7.out.1⟩
                · refine wpOp_of_list rfl ?_
                  go_wp2_with fail
                  refine ⟨⟨⟨_, H7.out.2⟩, rfl⟩, ?_⟩
                  refine wpFreeM_step [20, 21] (by kernel_rfl) ⟨?_, ?_, trivial⟩
                  · refine wpOp_of_list rfl ?_
                    go_wp2_with fail
                    refine ⟨⟨⟨_, H7.out.2⟩, rfl⟩, ?_⟩
                    refine wpFreeM_step [21, 23] (by kernel_rfl) ⟨?_, ?_, trivial⟩
                    · refine wpOp_of_list rfl ?_
                      go_wp2_with fail
                      refine ⟨⟨⟨_, H7.out.2⟩, rfl⟩, ?_⟩
                      refine wpFreeM_step [23] (by kernel_rfl) ⟨?_, trivial⟩
                      refine wpOp_of_list rfl ?_
                      go_wp2_with fail
                      refine ⟨⟨⟨_, H7.out.2⟩, rfl⟩, ?_⟩
                      refine wpFreeM_step [24] (by kernel_rfl) ⟨?_, trivial⟩
                      refine wpOp_of_list rfl ?_
                      go_wp2_with fail
                      refine ⟨⟨⟨_, H7.out.2⟩, rfl⟩, ?_⟩
                      unfold wpFreeM
                      go_wp2_with fail
                      go_meet
                      exact ⟨rfl, rfl, H7.out.1⟩
                    · refine wpOp_of_list rfl ?_
                      go_wp2_with fail
                      refine ⟨⟨⟨_, H7.out.2⟩, rfl⟩, ?_⟩
                      refine wpFreeM_step [21] (by kernel_rfl) ⟨?_, trivial⟩
                      refine wpOp_of_list rfl ?_
                      go_wp2_with fail
                      refine ⟨⟨⟨_, H7.out.2⟩, rfl⟩, ?_⟩
                      refine wpFreeM_step [24] (by kernel_rfl) ⟨?_, trivial⟩
                      refine wpOp_of_list rfl ?_
                      go_wp2_with fail
                      refine ⟨⟨⟨_, H7.out.2⟩, rfl⟩, ?_⟩
                      unfold wpFreeM
                      go_wp2_with fail
                      go_meet
                      exact ⟨rfl, rfl, H7.out.1⟩
                  · refine wpOp_of_list rfl ?_
                    go_wp2_with fail
                    refine ⟨⟨⟨_, H7.out.2⟩, rfl⟩, ?_⟩
                    refine wpFreeM_step [20] (by kernel_rfl) ⟨?_, trivial⟩
                    refine wpOp_of_list rfl ?_
                    go_wp2_with fail
                    refine ⟨⟨⟨_, H7.out.2⟩, rfl⟩, ?_⟩
                    refine wpFreeM_step [23] (by kernel_rfl) ⟨?_, trivial⟩
                    refine wpOp_of_list rfl ?_
                    go_wp2_with fail
                    refine ⟨⟨⟨_, H7.out.2⟩, rfl⟩, ?_⟩
                    refine wpFreeM_step [24] (by kernel_rfl) ⟨?_, trivial⟩
                    refine wpOp_of_list rfl ?_
                    go_wp2_with fail
                    refine ⟨⟨⟨_, H7.out.2⟩, rfl⟩, ?_⟩
                    unfold wpFreeM
                    go_wp2_with fail
                    go_meet
                    exact ⟨rfl, rfl, H7.out.1⟩
              · refine wpOp_of_list rfl ?_
                go_wp2_with fail
                refine ⟨⟨⟨_, H5.out.2⟩, rfl⟩, ?_⟩
                refine wpFreeM_step [19, 21] (by kernel_rfl) ⟨?_, ?_, trivial⟩
                · refine wpOp_of_list rfl ?_
                  go_wp2_with fail
                  refine ⟨⟨⟨_, H5.out.2⟩, rfl⟩, ?_⟩
                  refine wpFreeM_step [21, 22] (by kernel_rfl) ⟨?_, ?_, trivial⟩
                  · refine wpOp_of_list rfl ?_
                    go_wp2_with fail
                    refine ⟨⟨⟨_, H5.out.2⟩, rfl⟩, ?_⟩
                    refine wpFreeM_step [22] (by kernel_rfl) ⟨?_, trivial⟩
                    refine wpOp_of_list rfl ?_
                    go_wp2_with fail
                    refine ⟨⟨⟨_, H7.out.2⟩, rfl⟩, ?_⟩
                    refine wpFreeM_step [23] (by kernel_rfl) ⟨?_, trivial⟩
                    refine wpOp_of_list rfl ?_
                    go_wp2_with fail
                    refine ⟨⟨⟨_, H7.out.2⟩, rfl⟩, ?_⟩
                    refine wpFreeM_step [24] (by kernel_rfl) ⟨?_, trivial⟩
                    refine wpOp_of_list rfl ?_
                    go_wp2_with fail
                    refine ⟨⟨⟨_, H7.out.2⟩, rfl⟩, ?_⟩
                    unfold wpFreeM
                    go_wp2_with fail
                    go_meet
                    exact ⟨rfl, rfl, H7.out.1⟩
                  · refine wpOp_of_list rfl ?_
                    go_wp2_with fail
                    refine ⟨⟨⟨_, H7.out.2⟩, rfl⟩, ?_⟩
                    refine wpFreeM_step [21, 23] (by kernel_rfl) ⟨?_, ?_, trivial⟩
                    · refine wpOp_of_list rfl ?_
                      go_wp2_with fail
                      refine ⟨⟨⟨_, H7.out.2⟩, rfl⟩, ?_⟩
                      refine wpFreeM_step [23] (by kernel_rfl) ⟨?_, trivial⟩
                      refine wpOp_of_list rfl ?_
                      go_wp2_with fail
                      refine ⟨⟨⟨_, H7.out.2⟩, rfl⟩, ?_⟩
                      refine wpFreeM_step [24] (by kernel_rfl) ⟨?_, trivial⟩
                      refine wpOp_of_list rfl ?_
                      go_wp2_with fail
                      refine ⟨⟨⟨_, H7.out.2⟩, rfl⟩, ?_⟩
                      unfold wpFreeM
                      go_wp2_with fail
                      go_meet
                      exact ⟨rfl, rfl, H7.out.1⟩
                    · refine wpOp_of_list rfl ?_
                      go_wp2_with fail
                      refine ⟨⟨⟨_, H7.out.2⟩, rfl⟩, ?_⟩
                      refine wpFreeM_step [21] (by kernel_rfl) ⟨?_, trivial⟩
                      refine wpOp_of_list rfl ?_
                      go_wp2_with fail
                      refine ⟨⟨⟨_, H7.out.2⟩, rfl⟩, ?_⟩
                      refine wpFreeM_step [24] (by kernel_rfl) ⟨?_, trivial⟩
                      refine wpOp_of_list rfl ?_
                      go_wp2_with fail
                      refine ⟨⟨⟨_, H7.out.2⟩, rfl⟩, ?_⟩
                      unfold wpFreeM
                      go_wp2_with fail
                      go_meet
                      exact ⟨rfl, rfl, H7.out.1⟩
                · refine wpOp_of_list rfl ?_
                  go_wp2_with fail
                  refine ⟨⟨⟨_, H5.out.2⟩, rfl⟩, ?_⟩
                  refine wpFreeM_step [19] (by kernel_rfl) ⟨?_, trivial⟩
                  refine wpOp_of_list rfl ?_
                  go_wp2_with fail
                  refine ⟨⟨⟨_, H5.out.2⟩, rfl⟩, ?_⟩
                  refine wpFreeM_step [22] (by kernel_rfl) ⟨?_, trivial⟩
                  refine wpOp_of_list rfl ?_
                  go_wp2_with fail
                  refine ⟨⟨⟨_, H7.out.2⟩, rfl⟩, ?_⟩
                  refine wpFreeM_step [23] (by kernel_rfl) ⟨?_, trivial⟩
                  refine wpOp_of_list rfl ?_
                  go_wp2_with fail
                  refine ⟨⟨⟨_, H7.out.2⟩, rfl⟩, ?_⟩
                  refine wpFreeM_step [24] (by kernel_rfl) ⟨?_, trivial⟩
                  refine wpOp_of_list rfl ?_
                  go_wp2_with fail
                  refine ⟨⟨⟨_, H7.out.2⟩, rfl⟩, ?_⟩
                  unfold wpFreeM
                  go_wp2_with fail
                  go_meet
                  exact ⟨rfl, rfl, H7.out.1⟩
              · refine wpOp_of_list rfl ?_
                go_wp2_with fail
                refine ⟨⟨⟨_, H5.out.2⟩, rfl⟩, ?_⟩
                refine wpFreeM_step [19, 20] (by kernel_rfl) ⟨?_, ?_, trivial⟩
                · refine wpOp_of_list rfl ?_
                  go_wp2_with fail
                  refine ⟨⟨⟨_, H5.out.2⟩, rfl⟩, ?_⟩
                  refine wpFreeM_step [20, 22] (by kernel_rfl) ⟨?_, ?_, trivial⟩
                  · refine wpOp_of_list rfl ?_
                    go_wp2_with fail
                    refine ⟨⟨⟨_, H5.out.2⟩, rfl⟩, ?_⟩
                    refine wpFreeM_step [22] (by kernel_rfl) ⟨?_, trivial⟩
                    refine wpOp_of_list rfl ?_
                    go_wp2_with fail
                    refine ⟨⟨⟨_, H7.out.2⟩, rfl⟩, ?_⟩
                    refine wpFreeM_step [23] (by kernel_rfl) ⟨?_, trivial⟩
                    refine wpOp_of_list rfl ?_
                    go_wp2_with fail
                    refine ⟨⟨⟨_, H7.out.2⟩, rfl⟩, ?_⟩
                    refine wpFreeM_step [24] (by kernel_rfl) ⟨?_, trivial⟩
                    refine wpOp_of_list rfl ?_
                    go_wp2_with fail
                    refine ⟨⟨⟨_, H7.out.2⟩, rfl⟩, ?_⟩
                    unfold wpFreeM
                    go_wp2_with fail
                    go_meet
                    exact ⟨rfl, rfl, H7.out.1⟩
                  · refine wpOp_of_list rfl ?_
                    go_wp2_with fail
                    refine ⟨⟨⟨_, H7.out.2⟩, rfl⟩, ?_⟩
                    refine wpFreeM_step [20] (by kernel_rfl) ⟨?_, trivial⟩
                    refine wpOp_of_list rfl ?_
                    go_wp2_with fail
                    refine ⟨⟨⟨_, H7.out.2⟩, rfl⟩, ?_⟩
                    refine wpFreeM_step [23] (by kernel_rfl) ⟨?_, trivial⟩
                    refine wpOp_of_list rfl ?_
                    go_wp2_with fail
                    refine ⟨⟨⟨_, H7.out.2⟩, rfl⟩, ?_⟩
                    refine wpFreeM_step [24] (by kernel_rfl) ⟨?_, trivial⟩
                    refine wpOp_of_list rfl ?_
                    go_wp2_with fail
                    refine ⟨⟨⟨_, H7.out.2⟩, rfl⟩, ?_⟩
                    unfold wpFreeM
                    go_wp2_with fail
                    go_meet
                    exact ⟨rfl, rfl, H7.out.1⟩
                · refine wpOp_of_list rfl ?_
                  go_wp2_with fail
                  refine ⟨⟨⟨_, H5.out.2⟩, rfl⟩, ?_⟩
                  refine wpFreeM_step [19] (by kernel_rfl) ⟨?_, trivial⟩
                  refine wpOp_of_list rfl ?_
                  go_wp2_with fail
                  refine ⟨⟨⟨_, H5.out.2⟩, rfl⟩, ?_⟩
                  refine wpFreeM_step [22] (by kernel_rfl) ⟨?_, trivial⟩
                  refine wpOp_of_list rfl ?_
                  go_wp2_with fail
                  refine ⟨⟨⟨_, H7.out.2⟩, rfl⟩, ?_⟩
                  refine wpFreeM_step [23] (by kernel_rfl) ⟨?_, trivial⟩
                  refine wpOp_of_list rfl ?_
                  go_wp2_with fail
                  refine ⟨⟨⟨_, H7.out.2⟩, rfl⟩, ?_⟩
                  refine wpFreeM_step [24] (by kernel_rfl) ⟨?_, trivial⟩
                  refine wpOp_of_list rfl ?_
                  go_wp2_with fail
                  refine ⟨⟨⟨_, H7.out.2⟩, rfl⟩, ?_⟩
                  unfold wpFreeM
                  go_wp2_with fail
                  go_meet
                  exact ⟨rfl, rfl, H7.out.1⟩
            case rest =>
              obtain ⟨rfl, rfl, hpw⟩ := hcut
              have H7 := Lib.hid hpw
              clear hpw d0 d1 d2 g0 g1 g2 y0 y1 y2
              have hFF : (F != F) = false := by simp
              have hXX : (X != X) = false := by simp
              have CH := fun n => hid_any g _ (wc.drewN n) (Cells.on H7.out.n.n (below_drewN (Below.refl _ _) n))
              have CP := fun n => pre_any g _ (wc.drewN n) (Cells.on H7.out.n.n (below_drewN (Below.refl _ _) n))
              have CB := fun n => nob_any g _ (wc.drewN n) (Cells.on H7.out.n.n (below_drewN (Below.refl _ _) n))
              have z0 : wc.cell? ⟨g + 1, 0, none⟩ = some (.int .i64 (c'.h : Int)) := H7.out.r.cell 0
              have z1 : wc.cell? ⟨g + 1, 1, none⟩ = some (.int .i64 (c'.p : Int)) := H7.out.r.cell 1
              have z2 : wc.cell? ⟨g + 1, 2, none⟩ = some (.int .i64 (c'.n : Int)) := H7.out.r.cell 2
              obtain ⟨ch, hch⟩ : ∃ q, c'.h = q := ⟨_, rfl⟩
              obtain ⟨cp, hcp⟩ : ∃ q, c'.p = q := ⟨_, rfl⟩
              obtain ⟨cn, hcn⟩ : ∃ q, c'.n = q := ⟨_, rfl⟩
              rw [hch] at z0
              rw [hcp] at z1
              rw [hcn] at z2
              simp only [hch] at CH
              simp only [hcp] at CP
              simp only [hcn] at CB
              have hhh : ((ch : Int) != (ch : Int)) = false := by simp
              have hpp : ((cp : Int) != (cp : Int)) = false := by simp
              have hnn : ((cn : Int) != (cn : Int)) = false := by simp
              clear hch hcp hcn
              go_wp2_with go_quiet (first | exact Calls.quiet_of_same (CH _) | exact Calls.quiet_of_same (CP _) | exact Calls.quiet_of_same (CB _))
              exact ⟨⟨k + 1, c', by omega, HQ.out.2.2.2.1, by simp, ⟨⟨H7.out.n.n, below_drewN H7.out.n.b _, H7.out.n.m⟩, H7.out.r⟩⟩, by simp [RowKit.intOf]; omega⟩
          · by_cases k3 : kd = 3
            · subst k3
              have y0 : wc.cell? ⟨g + 1, 0, none⟩ = some (.int .i64 (c.h : Int)) := H6.out.r.cell 0
              have y1 : wc.cell? ⟨g + 1, 1, none⟩ = some (.int .i64 (c.p : Int)) := H6.out.r.cell 1
              have y2 : wc.cell? ⟨g + 1, 2, none⟩ = some (.int .i64 (c.n : Int)) := H6.out.r.cell 2
              have C1 := HQ.out.2.2.2.2 true
              simp only [Bool.false_eq_true, if_false, if_true] at C1
              rw [HQ.out.1, HQ.out.2.1, HQ.out.2.2.1] at C1
              obtain ⟨ch, hch⟩ : ∃ q, c.h = q := ⟨_, rfl⟩
              obtain ⟨cp, hcp⟩ : ∃ q, c.p = q := ⟨_, rfl⟩
              obtain ⟨cn, hcn⟩ : ∃ q, c.n = q := ⟨_, rfl⟩
              obtain ⟨ch', hch'⟩ : ∃ q, c'.h = q := ⟨_, rfl⟩
              obtain ⟨cp', hcp'⟩ : ∃ q, c'.p = q := ⟨_, rfl⟩
              obtain ⟨cn', hcn'⟩ : ∃ q, c'.n = q := ⟨_, rfl⟩
              unfold ctA at C1
              rw [hch] at y0
              rw [hcp] at y1
              rw [hcn] at y2
              simp only [hch, hcp, hcn, hch', hcp', hcn'] at C1
              have HE := Lib.hid (And.intro hch' (And.intro hcp' hcn'))
              clear hch hcp hcn hch' hcp' hcn'
              have HC1 := Lib.hid C1
              clear C1
              have g0 : ∀ p : Later (fun k => k = g + 1) wc, p.W.cell? ⟨b, o + k * 3, none⟩ = some (.int .i64 3) := fun p => cell_later d0 hbg2 p
              have g1 : ∀ p : Later (fun k => k = g + 1) wc, p.W.cell? ⟨b, o + k * 3 + 1, none⟩ = some (.string nm) := fun p => cell_later d1 hbg2 p
              have g2 : ∀ p : Later (fun k => k = g + 1) wc, p.W.cell? ⟨b, o + k * 3 + 2, none⟩ = some (.bool sg) := fun p => cell_later d2 hbg2 p
              go_upto_region 13 with fail
              go_cut [8, 9] from 19 to 117 (fun f x wx => f = .bool F ∧ x = .bool X ∧ PW w g (g + 1) c' c' wx)
              case first =>
                clear d0 d1 d2
                refine wp_region_mixF (fun i => if i = 0 then 2 else if 17 ≤ i then 2 else 0) [1, 2, 3, 4, 5, 6, 7, 8, 9, 10, 11, 12, 13, 14, 15, 16] 9 (fun w' => ∃ p : Later (fun k => k = g + 1) wc, w' = p.W) (by kernel_rfl) (by kernel_rfl) ⟨⟨_, Fz.drew wc⟩, rfl⟩ ?_
                simp only [opsAt, List.filterMap_cons, List.filterMap_nil, List.getElem?_toArray, List.getElem?_cons_zero, List.getElem?_cons_succ]
                change wpQuiet _ _ _ _ [_, _, _, _, _, _, _, _, _, _, _, _, _, _, _, _] _
                repeat (go_big_quiet_step (fail))
                refine wpQuiet_nil ?_
                clear g0 g1 g2
                have zz : Fz (fun k => k = g + 1) wc { wc with drawn := wc.drawn + 1 } := Fz.drew wc
                have zn : PW w g (g + 1) c' c { wc with drawn := wc.drawn + 1 } := ⟨H6.out.n.drew, H6.out.r⟩
                have v0 : ({ wc with drawn := wc.drawn + 1 } : World).cell? ⟨g + 1, 0, none⟩ = some (.int .i64 (ch : Int)) := y0
                have v1 : ({ wc with drawn := wc.drawn + 1 } : World).cell? ⟨g + 1, 1, none⟩ = some (.int .i64 (cp : Int)) := y1
                have v2 : ({ wc with drawn := wc.drawn + 1 } : World).cell? ⟨g + 1, 2, none⟩ = some (.int .i64 (cn : Int)) := y2
                obtain ⟨W0, hW0⟩ : ∃ V, ({ wc with drawn := wc.drawn + 1 } : World) = V := ⟨_, rfl⟩
                rw [hW0] at zz zn v0 v1 v2 ⊢
                clear hW0 y0 y1 y2
                have H0 := Lib.hid (And.intro zz zn)
                clear zz zn
                refine wpFreeM_step [0] (by kernel_rfl) ⟨?_, trivial⟩
                refine wpOp_of_list rfl ?_
                go_wp2_with fail
                refine ⟨⟨⟨_, H0.out.1⟩, rfl⟩, ?_⟩
                refine wpFreeM_step [17] (by kernel_rfl) ⟨?_, trivial⟩
                refine wpOp_of_list rfl ?_
                go_wp2_with fail
                refine (HC1.out W0).mono ?_
                rintro e w5 ⟨rfl, hb5⟩
                have hfz := H0.out.1.trans (Fz.of_below hb5)
                have hpw : PW w g (g + 1) c' c w5 := ⟨H0.out.2.n.on hb5, H0.out.2.r.on hb5⟩
                have H5 := Lib.hid (And.intro hpw hfz)
                have f0 := hpw.r.froz 0
                have f1 := hpw.r.froz 1
                have f2 := hpw.r.froz 2
                have v0 : w5.cell? ⟨g + 1, 0, none⟩ = some (.int .i64 (c.h : Int)) := hpw.r.cell 0
                have v1 : w5.cell? ⟨g + 1, 1, none⟩ = some (.int .i64 (c.p : Int)) := hpw.r.cell 1
                have v2 : w5.cell? ⟨g + 1, 2, none⟩ = some (.int .i64 (c.n : Int)) := hpw.r.cell 2
                have z7 := ((hpw.r.set 0 (.int .i64 (ch' : Int))).set 1 (.int .i64 (cp' : Int))).set 2 (.int .i64 (cn' : Int))
                have k7 : Fz (fun k => k = g + 1) w5 (((w5.setCell ⟨g + 1, 0, none⟩ (.int .i64 (ch' : Int))).setCell ⟨g + 1, 1, none⟩ (.int .i64 (cp' : Int))).setCell ⟨g + 1, 2, none⟩ (.int .i64 (cn' : Int))) := ((Fz.set (X := fun k => k = g + 1) w5 (g + 1) 0 (.int .i64 (ch' : Int)) rfl).trans (Fz.set (X := fun k => k = g + 1) _ (g + 1) 1 (.int .i64 (cp' : Int)) rfl)).trans (Fz.set (X := fun k => k = g + 1) _ (g + 1) 2 (.int .i64 (cn' : Int)) rfl)
                have q7 : PW w g (g + 1) c' c' (((w5.setCell ⟨g + 1, 0, none⟩ (.int .i64 (ch' : Int))).setCell ⟨g + 1, 1, none⟩ (.int .i64 (cp' : Int))).setCell ⟨g + 1, 2, none⟩ (.int .i64 (cn' : Int))) := by
                  refine ⟨⟨k7.cells (by omega) hpw.n.n, fz_below hpw.n.b k7 (by have := HG.out; omega) hpw.n.b.size, hpw.n.m.fz k7 (by omega)⟩, ?_⟩
                  rw [show ctA c' = #[.int .i64 (ch' : Int), .int .i64 (cp' : Int), .int .i64 (cn' : Int)] by unfold ctA; rw [HE.out.1, HE.out.2.1, HE.out.2.2]]
                  exact z7
                have H7 := Lib.hid (And.intro q7 (hfz.trans k7))
                clear hb5 hfz hpw z7 k7 q7
                go_wp2_with fail
                refine ⟨⟨⟨_, H5.out.2⟩, rfl⟩, ?_⟩
                refine wpFreeM_step [18] (by kernel_rfl) ⟨?_, trivial⟩
                refine wpOp_of_list rfl ?_
                go_wp2_with fail
                refine ⟨⟨⟨_, H5.out.2⟩, rfl⟩, ?_⟩
                refine wpFreeM_step [19, 20, 21] (by kernel_rfl) ⟨?_, ?_, ?_, trivial⟩
                · refine wpOp_of_list rfl ?_
                  go_wp2_with fail
                  refine ⟨⟨⟨_, H5.out.2⟩, rfl⟩, ?_⟩
                  refine wpFreeM_step [20, 21, 22] (by kernel_rfl) ⟨?_, ?_, ?_, trivial⟩
                  · refine wpOp_of_list rfl ?_
                    go_wp2_with fail
                    refine ⟨⟨⟨_, H5.out.2⟩, rfl⟩, ?_⟩
                    refine wpFreeM_step [21, 22] (by kernel_rfl) ⟨?_, ?_, trivial⟩
                    · refine wpOp_of_list rfl ?_
                      go_wp2_with fail
                      refine ⟨⟨⟨_, H5.out.2⟩, rfl⟩, ?_⟩
                      refine wpFreeM_step [22] (by kernel_rfl) ⟨?_, trivial⟩
                      refine wpOp_of_list rfl ?_
                      go_wp2_with fail
                      refine ⟨⟨⟨_, H7.out.2⟩, rfl⟩, ?_⟩
                      refine wpFreeM_step [23] (by kernel_rfl) ⟨?_, trivial⟩
                      refine wpOp_of_list rfl ?_
                      go_wp2_with fail
                      refine ⟨⟨⟨_, H7.out.2⟩, rfl⟩, ?_⟩
                      refine wpFreeM_step [24] (by kernel_rfl) ⟨?_, trivial⟩
                      refine wpOp_of_list rfl ?_
                      go_wp2_with fail
                      refine ⟨⟨⟨_, H7.out.2⟩, rfl⟩, ?_⟩
                      unfold wpFreeM
                      go_wp2_with fail
                      go_meet
                      exact ⟨rfl, rfl, H7.out.1⟩
                    · refine wpOp_of_list rfl ?_
                      go_wp2_with fail
                      refine ⟨⟨⟨_, H7.out.2⟩, rfl⟩, ?_⟩
                      refine wpFreeM_step [21, 23] (by kernel_rfl) ⟨?_, ?_, trivial⟩
                      · refine wpOp_of_list rfl ?_
                        go_wp2_with fail
                        refine ⟨⟨⟨_, H7.out.2⟩, rfl⟩, ?_⟩
                        refine wpFreeM_step [23] (by kernel_rfl) ⟨?_, trivial⟩
                        refine wpOp_of_list rfl ?_
                        go_wp2_with fail
                        refine ⟨⟨⟨_, H7.out.2⟩, rfl⟩, ?_⟩
                        refine wpFreeM_step [24] (by kernel_rfl) ⟨?_, trivial⟩
                        refine wpOp_of_list rfl ?_
                        go_wp2_with fail
                        refine ⟨⟨⟨_, H7.out.2⟩, rfl⟩, ?_⟩
                        unfold wpFreeM
                        go_wp2_with fail
                        go_meet
                        exact ⟨rfl, rfl, H7.out.1⟩
                      · refine wpOp_of_list rfl ?_
                        go_wp2_with fail
                        refine ⟨⟨⟨_, H7.out.2⟩, rfl⟩, ?_⟩
                        refine wpFreeM_step [21] (by kernel_rfl) ⟨?_, trivial⟩
                        refine wpOp_of_list rfl ?_
                        go_wp2_with fail
                        refine ⟨⟨⟨_, H7.out.2⟩, rfl⟩, ?_⟩
                        refine wpFreeM_step [24] (by kernel_rfl) ⟨?_, trivial⟩
                        refine wpOp_of_list rfl ?_
                        go_wp2_with fail
                        refine ⟨⟨⟨_, H7.out.2⟩, rfl⟩, ?_⟩
                        unfold wpFreeM
                        go_wp2_with fail
                        go_meet
                        exact ⟨rfl, rfl, H7.out.1⟩
                  · refine wpOp_of_list rfl ?_
                    go_wp2_with fail
                    refine ⟨⟨⟨_, H5.out.2⟩, rfl⟩, ?_⟩
                    refine wpFreeM_step [20, 22] (by kernel_rfl) ⟨?_, ?_, trivial⟩
                    · refine wpOp_of_list rfl ?_
                      go_wp2_with fail
                      refine ⟨⟨⟨_, H5.out.2⟩, rfl⟩, ?_⟩
                      refine wpFreeM_step [22] (by kernel_rfl) ⟨?_, trivial⟩
                      refine wpOp_of_list rfl ?_
                      go_wp2_with fail
                      refine ⟨⟨⟨_, H7.out.2⟩, rfl⟩, ?_⟩
                      refine wpFreeM_step [23] (by kernel_rfl) ⟨?_, trivial⟩
                      refine wpOp_of_list rfl ?_
                      go_wp2_with fail
                      refine ⟨⟨⟨_, H7.out.2⟩, rfl⟩, ?_⟩
                      refine wpFreeM_step [24] (by kernel_rfl) ⟨?_, trivial⟩
                      refine wpOp_of_list rfl ?_
                      go_wp2_with fail
                      refine ⟨⟨⟨_, H7.out.2⟩, rfl⟩, ?_⟩
                      unfold wpFreeM
                      go_wp2_with fail
                      go_meet
                      exact ⟨rfl, rfl, H7.out.1⟩
                    · refine wpOp_of_list rfl ?_
                      go_wp2_with fail
                      refine ⟨⟨⟨_, H7.out.2⟩, rfl⟩, ?_⟩
                      refine wpFreeM_step [20] (by kernel_rfl) ⟨?_, trivial⟩
                      refine wpOp_of_list rfl ?_
                      go_wp2_with fail
                      refine ⟨⟨⟨_, H7.out.2⟩, rfl⟩, ?_⟩
                      refine wpFreeM_step [23] (by kernel_rfl) ⟨?_, trivial⟩
                      refine wpOp_of_list rfl ?_
                      go_wp2_with fail
                      refine ⟨⟨⟨_, H7.out.2⟩, rfl⟩, ?_⟩
                      refine wpFreeM_step [24] (by kernel_rfl) ⟨?_, trivial⟩
                      refine wpOp_of_list rfl ?_
                      go_wp2_with fail
                      refine ⟨⟨⟨_, H7.out.2⟩, rfl⟩, ?_⟩
                      unfold wpFreeM
                      go_wp2_with fail
                      go_meet
                      exact ⟨rfl, rfl, H7.out.1⟩
                  · refine wpOp_of_list rfl ?_
                    go_wp2_with fail
                    refine ⟨⟨⟨_, H7.out.2⟩, rfl⟩, ?_⟩
                    refine wpFreeM_step [20, 21] (by kernel_rfl) ⟨?_, ?_, trivial⟩
                    · refine wpOp_of_list rfl ?_
                      go_wp2_with fail
                      refine ⟨⟨⟨_, H7.out.2⟩, rfl⟩, ?_⟩
                      refine wpFreeM_step [21, 23] (by kernel_rfl) ⟨?_, ?_, trivial⟩
                      · refine wpOp_of_list rfl ?_
                        go_wp2_with fail
                        refine ⟨⟨⟨_, H7.out.2⟩, rfl⟩, ?_⟩
                        refine wpFreeM_step [23] (by kernel_rfl) ⟨?_, trivial⟩
                        refine wpOp_of_list rfl ?_
                        go_wp2_with fail
                        refine ⟨⟨⟨_, H7.out.2⟩, rfl⟩, ?_⟩
                        refine wpFreeM_step [24] (by kernel_rfl) ⟨?_, trivial⟩
                        refine wpOp_of_list rfl ?_
                        go_wp2_with fail
                        refine ⟨⟨⟨_, H7.out.2⟩, rfl⟩, ?_⟩
                        unfold wpFreeM
                        go_wp2_with fail
                        go_meet
                        exact ⟨rfl, rfl, H7.out.1⟩
                      · refine wpOp_of_list rfl ?_
                        go_wp2_with fail
                        refine ⟨⟨⟨_, H7.out.2⟩, rfl⟩, ?_⟩
                        refine wpFreeM_step [21] (by kernel_rfl) ⟨?_, trivial⟩
                        refine wpOp_of_list rfl ?_
                        go_wp2_with fail
                        refine ⟨⟨⟨_, H7.out.2⟩, rfl⟩, ?_⟩
                        refine wpFreeM_step [24] (by kernel_rfl) ⟨?_, trivial⟩
                        refine wpOp_of_list rfl ?_
                        go_wp2_with fail
                        refine ⟨⟨⟨_, H7.out.2⟩, rfl⟩, ?_⟩
                        unfold wpFreeM
                        go_wp2_with fail
                        go_meet
                        exact ⟨rfl, rfl, H7.out.1⟩
                    · refine wpOp_of_list rfl ?_
                      go_wp2_with fail
                      refine ⟨⟨⟨_, H7.out.2⟩, rfl⟩, ?_⟩
                      refine wpFreeM_step [20] (by kernel_rfl) ⟨?_, trivial⟩
                      refine wpOp_of_list rfl ?_
                      go_wp2_with fail
                      refine ⟨⟨⟨_, H7.out.2⟩, rfl⟩, ?_⟩
                      refine wpFreeM_step [23] (by kernel_rfl) ⟨?_, trivial⟩
                      refine wpOp_of_list rfl ?_
                      go_wp2_with fail
                      refine ⟨⟨⟨_, H7.out.2⟩, rfl⟩, ?_⟩
                      refine wpFreeM_step [24] (by kernel_rfl) ⟨?_, trivial⟩
                      refine wpOp_of_list rfl ?_
                      go_wp2_with fail
                      refine ⟨⟨⟨_, H7.out.2⟩, rfl⟩, ?_⟩
                      unfold wpFreeM
                      go_wp2_with fail
                      go_meet
                      exact ⟨rfl, rfl, H7.out.1⟩
                · refine wpOp_of_list rfl ?_
                  go_wp2_with fail
                  refine ⟨⟨⟨_, H5.out.2⟩, rfl⟩, ?_⟩
                  refine wpFreeM_step [19, 21] (by kernel_rfl) ⟨?_, ?_, trivial⟩
                  · refine wpOp_of_list rfl ?_
                    go_wp2_with fail
                    refine ⟨⟨⟨_, H5.out.2⟩, rfl⟩, ?_⟩
                    refine wpFreeM_step [21, 22] (by kernel_rfl) ⟨?_, ?_, trivial⟩
                    · refine wpOp_of_list rfl ?_
                      go_wp2_with fail
                      refine ⟨⟨⟨_, H5.out.2⟩, rfl⟩, ?_⟩
                      refine wpFreeM_step [22] (by kernel_rfl) ⟨?_, trivial⟩
                      refine wpOp_of_list rfl ?_
                      go_wp2_with fail
                      refine ⟨⟨⟨_, H7.out.2⟩, rfl⟩, ?_⟩
                      refine wpFreeM_step [23] (by kernel_rfl) ⟨?_, trivial⟩
                      refine wpOp_of_list rfl ?_
                      go_wp2_with fail
                      refine ⟨⟨⟨_, H7.out.2⟩, rfl⟩, ?_⟩
                      refine wpFreeM_step [24] (by kernel_rfl) ⟨?_, trivial⟩
                      refine wpOp_of_list rfl ?_
                      go_wp2_with fail
                      refine ⟨⟨⟨_, H7.out.2⟩, rfl⟩, ?_⟩
                      unfold wpFreeM
                      go_wp2_with fail
                      go_meet
                      exact ⟨rfl, rfl, H7.out.1⟩
                    · refine wpOp_of_list rfl ?_
                      go_wp2_with fail
                      refine ⟨⟨⟨_, H7.out.2⟩, rfl⟩, ?_⟩
                      refine wpFreeM_step [21, 23] (by kernel_rfl) ⟨?_, ?_, trivial⟩
                      · refine wpOp_of_list rfl ?_
                        go_wp2_with fail
                        refine ⟨⟨⟨_, H7.out.2⟩, rfl⟩, ?_⟩
                        refine wpFreeM_step [23] (by kernel_rfl) ⟨?_, trivial⟩
                        refine wpOp_of_list rfl ?_
                        go_wp2_with fail
                        refine ⟨⟨⟨_, H7.out.2⟩, rfl⟩, ?_⟩
                        refine wpFreeM_step [24] (by kernel_rfl) ⟨?_, trivial⟩
                        refine wpOp_of_list rfl ?_
                        go_wp2_with fail
                        refine ⟨⟨⟨_, H7.out.2⟩, rfl⟩, ?_⟩
                        unfold wpFreeM
                        go_wp2_with fail
                        go_meet
                        exact ⟨rfl, rfl, H7.out.1⟩
                      · refine wpOp_of_list rfl ?_
                        go_wp2_with fail
                        refine ⟨⟨⟨_, H7.out.2⟩, rfl⟩, ?_⟩
                        refine wpFreeM_step [21] (by kernel_rfl) ⟨?_, trivial⟩
                        refine wpOp_of_list rfl ?_
                        go_wp2_with fail
                        refine ⟨⟨⟨_, H7.out.2⟩, rfl⟩, ?_⟩
                        refine wpFreeM_step [24] (by kernel_rfl) ⟨?_, trivial⟩
                        refine wpOp_of_list rfl ?_
                        go_wp2_with fail
                        refine ⟨⟨⟨_, H7.out.2⟩, rfl⟩, ?_⟩
                        unfold wpFreeM
                        go_wp2_with fail
                        go_meet
                        exact ⟨rfl, rfl, H7.out.1⟩
                  · refine wpOp_of_list rfl ?_
                    go_wp2_with fail
                    refine ⟨⟨⟨_, H5.out.2⟩, rfl⟩, ?_⟩
                    refine wpFreeM_step [19] (by kernel_rfl) ⟨?_, trivial⟩
                    refine wpOp_of_list rfl ?_
                    go_wp2_with fail
                    refine ⟨⟨⟨_, H5.out.2⟩, rfl⟩, ?_⟩
                    refine wpFreeM_step [22] (by kernel_rfl) ⟨?_, trivial⟩
                    refine wpOp_of_list rfl ?_
                    go_wp2_with fail
                    refine ⟨⟨⟨_, H7.out.2⟩, rfl⟩, ?_⟩
                    refine wpFreeM_step [23] (by kernel_rfl) ⟨?_, trivial⟩
                    refine wpOp_of_list rfl ?_
                    go_wp2_with fail
                    refine ⟨⟨⟨_, H7.out.2⟩, rfl⟩, ?_⟩
                    refine wpFreeM_step [24] (by kernel_rfl) ⟨?_, trivial⟩
                    refine wpOp_of_list rfl ?_
                    go_wp2_with fail
                    refine ⟨⟨⟨_, H7.out.2⟩, rfl⟩, ?_⟩
                    unfold wpFreeM
                    go_wp2_with fail
                    go_meet
                    exact ⟨rfl, rfl, H7.out.1⟩
                · refine wpOp_of_list rfl ?_
                  go_wp2_with fail
                  refine ⟨⟨⟨_, H5.out.2⟩, rfl⟩, ?_⟩
                  refine wpFreeM_step [19, 20] (by kernel_rfl) ⟨?_, ?_, trivial⟩
                  · refine wpOp_of_list rfl ?_
                    go_wp2_with fail
                    refine ⟨⟨⟨_, H5.out.2⟩, rfl⟩, ?_⟩
                    refine wpFreeM_step [20, 22] (by kernel_rfl) ⟨?_, ?_, trivial⟩
                    · refine wpOp_of_list rfl ?_
                      go_wp2_with fail
                      refine ⟨⟨⟨_, H5.out.2⟩, rfl⟩, ?_⟩
                      refine wpFreeM_step [22] (by kernel_rfl) ⟨?_, trivial⟩
                      refine wpOp_of_list rfl ?_
                      go_wp2_with fail
                      refine ⟨⟨⟨_, H7.out.2⟩, rfl⟩, ?_⟩
                      refine wpFreeM_step [23] (by kernel_rfl) ⟨?_, trivial⟩
                      refine wpOp_of_list rfl ?_
                      go_wp2_with fail
                      refine ⟨⟨⟨_, H7.out.2⟩, rfl⟩, ?_⟩
                      refine wpFreeM_step [24] (by kernel_rfl) ⟨?_, trivial⟩
                      refine wpOp_of_list rfl ?_
                      go_wp2_with fail
                      refine ⟨⟨⟨_, H7.out.2⟩, rfl⟩, ?_⟩
                      unfold wpFreeM
                      go_wp2_with fail
                      go_meet
                      exact ⟨rfl, rfl, H7.out.1⟩
                    · refine wpOp_of_list rfl ?_
                      go_wp2_with fail
                      refine ⟨⟨⟨_, H7.out.2⟩, rfl⟩, ?_⟩
                      refine wpFreeM_step [20] (by kernel_rfl) ⟨?_, trivial⟩
                      refine wpOp_of_list rfl ?_
                      go_wp2_with fail
                      refine ⟨⟨⟨_, H7.out.2⟩, rfl⟩, ?_⟩
                      refine wpFreeM_step [23] (by kernel_rfl) ⟨?_, trivial⟩
                      refine wpOp_of_list rfl ?_
                      go_wp2_with fail
                      refine ⟨⟨⟨_, H7.out.2⟩, rfl⟩, ?_⟩
                      refine wpFreeM_step [24] (by kernel_rfl) ⟨?_, trivial⟩
                      refine wpOp_of_list rfl ?_
                      go_wp2_with fail
                      refine ⟨⟨⟨_, H7.out.2⟩, rfl⟩, ?_⟩
                      unfold wpFreeM
                      go_wp2_with fail
                      go_meet
                      exact ⟨rfl, rfl, H7.out.1⟩
                  · refine wpOp_of_list rfl ?_
                    go_wp2_with fail
                    refine ⟨⟨⟨_, H5.out.2⟩, rfl⟩, ?_⟩
                    refine wpFreeM_step [19] (by kernel_rfl) ⟨?_, trivial⟩
                    refine wpOp_of_list rfl ?_
                    go_wp2_with fail
                    refine ⟨⟨⟨_, H5.out.2⟩, rfl⟩, ?_⟩
                    refine wpFreeM_step [22] (by kernel_rfl) ⟨?_, trivial⟩
                    refine wpOp_of_list rfl ?_
                    go_wp2_with fail
                    refine ⟨⟨⟨_, H7.out.2⟩, rfl⟩, ?_⟩
                    refine wpFreeM_step [23] (by kernel_rfl) ⟨?_, trivial⟩
                    refine wpOp_of_list rfl ?_
                    go_wp2_with fail
                    refine ⟨⟨⟨_, H7.out.2⟩, rfl⟩, ?_⟩
                    refine wpFreeM_step [24] (by kernel_rfl) ⟨?_, trivial⟩
                    refine wpOp_of_list rfl ?_
                    go_wp2_with fail
                    refine ⟨⟨⟨_, H7.out.2⟩, rfl⟩, ?_⟩
                    unfold wpFreeM
                    go_wp2_with fail
                    go_meet
                    exact ⟨rfl, rfl, H7.out.1⟩
              case rest =>
                obtain ⟨rfl, rfl, hpw⟩ := hcut
                have H7 := Lib.hid hpw
                clear hpw d0 d1 d2 g0 g1 g2 y0 y1 y2
                have hFF : (F != F) = false := by simp
                have hXX : (X != X) = false := by simp
                have CH := fun n => hid_any g _ (wc.drewN n) (Cells.on H7.out.n.n (below_drewN (Below.refl _ _) n))
                have CP := fun n => pre_any g _ (wc.drewN n) (Cells.on H7.out.n.n (below_drewN (Below.refl _ _) n))
                have CB := fun n => nob_any g _ (wc.drewN n) (Cells.on H7.out.n.n (below_drewN (Below.refl _ _) n))
                have z0 : wc.cell? ⟨g + 1, 0, none⟩ = some (.int .i64 (c'.h : Int)) := H7.out.r.cell 0
                have z1 : wc.cell? ⟨g + 1, 1, none⟩ = some (.int .i64 (c'.p : Int)) := H7.out.r.cell 1
                have z2 : wc.cell? ⟨g + 1, 2, none⟩ = some (.int .i64 (c'.n : Int)) := H7.out.r.cell 2
                obtain ⟨ch, hch⟩ : ∃ q, c'.h = q := ⟨_, rfl⟩
                obtain ⟨cp, hcp⟩ : ∃ q, c'.p = q := ⟨_, rfl⟩
                obtain ⟨cn, hcn⟩ : ∃ q, c'.n = q := ⟨_, rfl⟩
                rw [hch] at z0
                rw [hcp] at z1
                rw [hcn] at z2
                simp only [hch] at CH
                simp only [hcp] at CP
                simp only [hcn] at CB
                have hhh : ((ch : Int) != (ch : Int)) = false := by simp
                have hpp : ((cp : Int) != (cp : Int)) = false := by simp
                have hnn : ((cn : Int) != (cn : Int)) = false := by simp
                clear hch hcp hcn
                go_wp2_with go_quiet (first | exact Calls.quiet_of_same (CH _) | exact Calls.quiet_of_same (CP _) | exact Calls.quiet_of_same (CB _))
                exact ⟨⟨k + 1, c', by omega, HQ.out.2.2.2.1, by simp, ⟨⟨H7.out.n.n, below_drewN H7.out.n.b _, H7.out.n.m⟩, H7.out.r⟩⟩, by simp [RowKit.intOf]; omega⟩
            · have m2 : (kd == 2) = false := by simpa using k2
              have m3 : (kd == 3) = false := by simpa using k3
              have e1 := HQ.out.1
              have e2 := HQ.out.2.1
              have e3 := HQ.out.2.2.1
              simp only [takeF, takeX, takeC, k2, k3, or_self, decide_false, Bool.false_and, if_false] at e1 e2 e3
              subst e1 e2 e3
              have H7 := H6
              have hFF : (false != false) = false := by simp
              have hXX : (false != false) = false := by simp
              have CH := fun n => hid_any g _ (wc.drewN n) (Cells.on H7.out.n.n (below_drewN (Below.refl _ _) n))
              have CP := fun n => pre_any g _ (wc.drewN n) (Cells.on H7.out.n.n (below_drewN (Below.refl _ _) n))
              have CB := fun n => nob_any g _ (wc.drewN n) (Cells.on H7.out.n.n (below_drewN (Below.refl _ _) n))
              have z0 : wc.cell? ⟨g + 1, 0, none⟩ = some (.int .i64 (c.h : Int)) := H7.out.r.cell 0
              have z1 : wc.cell? ⟨g + 1, 1, none⟩ = some (.int .i64 (c.p : Int)) := H7.out.r.cell 1
              have z2 : wc.cell? ⟨g + 1, 2, none⟩ = some (.int .i64 (c.n : Int)) := H7.out.r.cell 2
              obtain ⟨ch, hch⟩ : ∃ q, c.h = q := ⟨_, rfl⟩
              obtain ⟨cp, hcp⟩ : ∃ q, c.p = q := ⟨_, rfl⟩
              obtain ⟨cn, hcn⟩ : ∃ q, c.n = q := ⟨_, rfl⟩
              rw [hch] at z0
              rw [hcp] at z1
              rw [hcn] at z2
              simp only [hch] at CH
              simp only [hcp] at CP
              simp only [hcn] at CB
              have hhh : ((ch : Int) != (ch : Int)) = false := by simp
              have hpp : ((cp : Int) != (cp : Int)) = false := by simp
              have hnn : ((cn : Int) != (cn : Int)) = false := by simp
              clear hch hcp hcn
              go_wp2_with go_quiet (first | exact Calls.quiet_of_same (CH _) | exact Calls.quiet_of_same (CP _) | exact Calls.quiet_of_same (CB _))
              exact ⟨⟨k + 1, c, by omega, HQ.out.2.2.2.1, by simp, ⟨⟨H7.out.n.n, below_drewN H7.out.n.b _, H7.out.n.m⟩, H7.out.r⟩⟩, by simp [RowKit.intOf]; omega⟩
end Go.Proofs.Ytojinnnpfjhifaa
