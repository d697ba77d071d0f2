/-
  Contract: the document's Make.
-/
import Derived.BigQuiet
import Derived.StillTailTactics
import Derived.Test.YtmldgfplnacecaaDoorSqo
import Derived.Test.YtmldgfplnacecaaDoorRmn
namespace Go.Proofs.YtmldgfplnacecaaDoor
open Go.RowKit Go.Shelf Go.Lib Go.Maps Go.Sort

/-- The document's narrow table while it is made. -/
structure RmS (w wr : World) (bx : Array Value) (vg vT vN : Value) (rows : List (List Int)) (xs : List Value) : Prop where
  b : Below w.heap.size w wr
  x : Cells wr w.heap.size 57 bx
  y : Cells wr (w.heap.size + 1) 74 nil3
  s : Cells wr (w.heap.size + 1 + 1) 74 #[vg, vN, vT]
  oN : wr.ownsRow w.heap.size 23 1 vN rows.length xs
  r : ∀ (i : Nat) x, rows[i]? = some x → ∃ u, xs[i]? = some u ∧ FrL w wr x u
theorem RmS.on {w wr W : World} {bx : Array Value} {vg vT vN : Value} {rows : List (List Int)} {xs : List Value} (h : RmS w wr bx vg vT vN rows xs) (hb : Below wr.heap.size wr W) : RmS w W bx vg vT vN rows xs :=
  ⟨h.b.trans (hb.mono h.b.size), h.x.on hb, h.y.on hb, h.s.on hb, ownsRow_below h.oN hb, fun i x hx => by obtain ⟨u, h1, h2⟩ := h.r i x hx; exact ⟨u, h1, h2.on hb⟩⟩
theorem RmS.add {w wr w' : World} {bx : Array Value} {vg vT vN vN' u : Value} {rows : List (List Int)} {xs : List Value} {x : List Int} (h : RmS w wr bx vg vT vN rows xs)
    (ho : w'.ownsRow w.heap.size 23 1 vN' (rows.length + 1) (xs ++ [u])) (hg : wr.grownBy w' vN.ownBlock) (hu : FrL w wr x u) : RmS w (w'.setCell ⟨w.heap.size + 1 + 1, 1, none⟩ vN') bx vg vT vN' (rows ++ [x]) (xs ++ [u]) := by
  have F1 : Fz (fun k => vN.ownBlock = some k ∨ k = w.heap.size + 1 + 1) wr w' := Fz.of_grown hg (fun k e => .inl e)
  have F2 : Fz (fun k => vN.ownBlock = some k ∨ k = w.heap.size + 1 + 1) w' (w'.setCell ⟨w.heap.size + 1 + 1, 1, none⟩ vN') := Fz.set w' (w.heap.size + 1 + 1) 1 vN' (.inr rfl)
  have F := F1.trans F2
  have s1 : Cells w' (w.heap.size + 1 + 1) 74 #[vg, vN, vT] := (hg.block _ h.s.lt (fun e => own_not_cells h.oN h.s (by decide) e.symm)).trans h.s
  have s2 := s1.set 1 vN'
  refine ⟨?_, ?_, ?_, s2, ?_, ?_⟩
  · exact ((h.b.trans (below_grown' hg h.oN h.b.size))).setCell (by show w.heap.size ≤ w.heap.size + 1 + 1; omega) _
  · exact (F.block _ h.x.lt (by rintro (hk | hk); exact own_not_cells h.oN h.x (by decide) hk; omega)).trans h.x
  · exact (F.block _ h.y.lt (by rintro (hk | hk); exact own_not_cells h.oN h.y (by decide) hk; omega)).trans h.y
  · rw [List.length_append]
    exact own_fz (Fz.set (X := fun k => k = w.heap.size + 1 + 1) w' (w.heap.size + 1 + 1) 1 vN' rfl) ho (fun k hk e => by subst hk; exact own_not_cells ho s1 (by decide) e)
  · have hxl : xs.length = rows.length := by have := h.oN.1; omega
    have mv : ∀ l a, FrL w wr l a → FrL w (w'.setCell ⟨w.heap.size + 1 + 1, 1, none⟩ vN') l a := fun l a ha => frL_fz F ha (fun q cs hc hX => by
      rcases hX with hk | hk
      · exact own_not_cells h.oN hc (by decide) hk
      · exact cells_apart hc h.s (by decide) hk)
    intro i z hz
    rcases Nat.lt_or_ge i rows.length with hlt | hge
    · rw [List.getElem?_append_left hlt] at hz
      obtain ⟨a, h1, h2⟩ := h.r i z hz
      exact ⟨a, by rw [List.getElem?_append_left (by omega)]; exact h1, mv _ _ h2⟩
    · have hl2 := (List.getElem?_eq_some_iff.1 hz).1
      simp at hl2
      obtain rfl : i = rows.length := by omega
      simp at hz
      subst hz
      exact ⟨u, by rw [← hxl]; simp, mv _ _ hu⟩
theorem results_nar2 {fn : Func} {p u : Tmp} (h : fn.results = #[.cell p 74, .tmp u]) (tmps : Array Value) (w : World) (g : Nat) (cs : Array Value)
    (hp : tmps.getD p undef = .pointer (some ⟨g, 0, none⟩)) (hg : Cells w g 74 cs) (hi : (Tryd.prog.info? 74).map (·.size) = some cs.size) (x : Value) (hx : tmps.getD u undef = x) :
    (results fn tmps).run Tryd.prog w = .ok (.tuple #[.agg cs, x]) w := by
  rw [results_cell_tmp h, hp, hx]
  have := run_loadVar_row (P := Tryd.prog) w g 74 74 cs (0, 0) _ hg Tryd.underlying74 rfl hi
  simp [asAddr, this, Result.andThen]
theorem info74 : (Tryd.prog.info? 74).map (·.size) = some nil3.size := by kernel_rfl
theorem nil_set2 (C0 : Nat) (W : World) (h : Cells W C0 74 nil3) (a b c : Value) : Cells (((W.setCell ⟨C0, 0, none⟩ a).setCell ⟨C0, 1, none⟩ b).setCell ⟨C0, 2, none⟩ c) C0 74 #[a, b, c] := ((h.set 0 _).set 1 _).set 2 _
theorem RmS.done {w wr : World} {bx : Array Value} {vg vT vN : Value} {rows : List (List Int)} {xs : List Value} (h : RmS w wr bx vg vT vN rows xs) :
    Cells (((wr.setCell ⟨w.heap.size + 1, 0, none⟩ vg).setCell ⟨w.heap.size + 1, 1, none⟩ vN).setCell ⟨w.heap.size + 1, 2, none⟩ vT) (w.heap.size + 1) 74 #[vg, vN, vT] ∧
    Below w.heap.size w (((wr.setCell ⟨w.heap.size + 1, 0, none⟩ vg).setCell ⟨w.heap.size + 1, 1, none⟩ vN).setCell ⟨w.heap.size + 1, 2, none⟩ vT) ∧
    (((wr.setCell ⟨w.heap.size + 1, 0, none⟩ vg).setCell ⟨w.heap.size + 1, 1, none⟩ vN).setCell ⟨w.heap.size + 1, 2, none⟩ vT).ownsRow w.heap.size 23 1 vN rows.length xs ∧
    ∀ (i : Nat) x, rows[i]? = some x → ∃ u, xs[i]? = some u ∧ FrL w (((wr.setCell ⟨w.heap.size + 1, 0, none⟩ vg).setCell ⟨w.heap.size + 1, 1, none⟩ vN).setCell ⟨w.heap.size + 1, 2, none⟩ vT) x u := by
  have F : Fz (fun k => k = w.heap.size + 1) wr (((wr.setCell ⟨w.heap.size + 1, 0, none⟩ vg).setCell ⟨w.heap.size + 1, 1, none⟩ vN).setCell ⟨w.heap.size + 1, 2, none⟩ vT) := fz3 _ _ _ _ _
  refine ⟨nil_set2 _ _ h.y _ _ _, below_set3 h.b (Nat.le_succ _) _ _ _, ?_, ?_⟩
  · exact own_fz F h.oN (fun k hk e => by subst hk; exact own_not_cells h.oN h.y (by decide) e)
  · intro i x hx
    obtain ⟨u, h1, h2⟩ := h.r i x hx
    exact ⟨u, h1, frL_fz F h2 (fun q cs hc hk => cells_apart hc h.y (by decide) hk)⟩
/-- What the document's Make answers. -/
def RMakeOk (w : World) (vg vT : Value) (g : List Int) (R : List (List Int)) (r : Ending) (w' : World) : Prop :=
  Below w.heap.size w w' ∧ ((R.all (fitB g) = false ∧ r = .returned (.tuple #[.agg nil3, .bool false])) ∨
    (R.all (fitB g) = true ∧ ∃ vN xs, r = .returned (.tuple #[.agg #[vg, vN, vT], .bool true]) ∧ w'.ownsRow w.heap.size 23 1 vN (narR R g).length xs ∧ ∀ (i : Nat) x, (narR R g)[i]? = some x → ∃ u, xs[i]? = some u ∧ FrL w w' x u))
theorem setL_i64 {r g : List Int} {m : Nat} (h : ∀ x ∈ r, i64 x) (k : Nat) : ∀ x ∈ setL g r m k, i64 x := setL_all i64_zero (getD_all i64_zero h) _
theorem dwn_i64 {r g : List Int} {m : Nat} (h : ∀ x ∈ r, i64 x) (k : Nat) : ∀ x ∈ dwnL g r m k, i64 x := setL_i64 (fun x hx => h x (List.mem_reverse.1 hx)) k
theorem allB_take {g r D : List Int} {m : Nat} : (∀ i, i < m + 1 → D.getD (g.getD i 0).toNat 0 = r.getD i 0) ↔ (∀ i, i < m → D.getD (g.getD i 0).toNat 0 = r.getD i 0) ∧ D.getD (g.getD m 0).toNat 0 = r.getD m 0 :=
  ⟨fun h => ⟨fun i hi => h i (by omega), h m (by omega)⟩, fun h i hi => by
    rcases Nat.lt_or_ge i m with k | k
    · exact h.1 i k
    · obtain rfl : i = m := by omega
      exact h.2⟩
set_option maxHeartbeats 16000000 in
set_option maxRecDepth 100000 in
theorem rmake_any (g : List Int) (A : Option Addr) (cap : Nat) (R : List (List Int)) (T : List Nat) (A1 A2 : Option Addr) (c1 c2 : Nat) (w : World) (his : IS w w.heap.size g A cap) (hR : RsAt w w.heap.size R A1 c1)
    (hm : manyL g ≠ 0) (hr : rightT R T = true) :
    Calls Tryd.prog 39 #[.slice A g.length cap, .agg #[.slice A1 R.length c1, .slice A2 T.length c2]] w (RMakeOk w (.slice A g.length cap) (.slice A2 T.length c2) g R) := by
  obtain ⟨hg37, hgs, hp1, hp2⟩ := many_parts hm
  obtain ⟨_, hn1000, hTl, hrows⟩ := right_parts hr
  obtain ⟨n, hn⟩ : ∃ n, R.length = n := ⟨_, rfl⟩
  obtain ⟨n2, hn2⟩ : ∃ n, T.length = n := ⟨_, rfl⟩
  obtain ⟨m, hmm⟩ : ∃ m : Nat, manyL g = (m : Int) := ⟨(manyL g).toNat, by omega⟩
  have hmt : (manyL g).toNat = m := by omega
  have hfd := fun r (h : r.length = 37) => fit_dwn (r := r) hm h
  have hfr := fun r (h : r.length = 37) hf => fit_row (r := r) hm h hf
  rw [hmm] at hgs hp1 hp2
  rw [hmt] at hfd hfr
  have KM := fun W (hb : Below w.heap.size w W) => rmany_any g A cap W ((his.below hb).mono hb.size) (by omega)
  obtain ⟨bx, hbx⟩ : ∃ b, (#[.slice A1 n c1, .slice A2 n2 c2] : Array Value) = b := ⟨_, rfl⟩
  obtain ⟨W0, hW0⟩ : ∃ W, ((w.alloc (.cells #[.slice A1 n c1, .slice A2 n2 c2] 57)).alloc (.cells #[.slice none 0 0, .slice none 0 0, .slice none 0 0] 74)).alloc (.cells #[.slice A 37 cap, .slice none 0 0, .slice A2 n2 c2] 74) = W := ⟨_, rfl⟩
  have b0 : Below w.heap.size w W0 := by rw [← hW0]; exact ((below_new _ _).alloc (by simp) _).alloc (by simp; omega) _
  have x0 : Cells W0 w.heap.size 57 bx := by rw [← hW0, ← hbx]; exact ((cells_new _ _ _).on (below_new _ _)).on (below_new _ _)
  have y0 : Cells W0 (w.heap.size + 1) 74 nil3 := by
    rw [← hW0]
    have := (cells_new (w.alloc (.cells #[.slice A1 n c1, .slice A2 n2 c2] 57)) #[.slice none 0 0, .slice none 0 0, .slice none 0 0] 74).on (below_new _ (.cells #[.slice A 37 cap, .slice none 0 0, .slice A2 n2 c2] 74))
    rw [World.size_alloc] at this
    exact this
  have s0 : Cells W0 (w.heap.size + 1 + 1) 74 #[.slice A 37 cap, .slice none 0 0, .slice A2 n2 c2] := by
    rw [← hW0]
    have := cells_new ((w.alloc (.cells #[.slice A1 n c1, .slice A2 n2 c2] 57)).alloc (.cells #[.slice none 0 0, .slice none 0 0, .slice none 0 0] 74)) #[.slice A 37 cap, .slice none 0 0, .slice A2 n2 c2] 74
    rw [World.size_alloc, World.size_alloc] at this
    exact this
  have S0 : RmS w W0 bx (.slice A 37 cap) (.slice A2 n2 c2) (.slice none 0 0) (narR (R.take 0) g) [] := ⟨b0, x0, y0, s0, ⟨rfl, .inl ⟨rfl, rfl⟩⟩, fun i x hx => by simp [narR] at hx⟩
  rw [hn, hn2, hg37]
  rw [hg37, hmm] at KM
  rw [hn] at hn1000
  have H := Lib.hid (And.intro his (And.intro hR (And.intro hn (And.intro hn2 (And.intro hbx (And.intro S0 (And.intro hgs (And.intro hg37 (And.intro hrows (And.intro hmt (And.intro hfd (And.intro hfr KM))))))))))))
  have HW := Lib.hid hW0
  obtain ⟨i0, hi, hz0, hz1, hz2⟩ : ∃ i, Tryd.prog.info? 23 = some i ∧ i.zero = some (.slice none 0 0) ∧ i.size = 1 ∧ i.bytes = 24 := ⟨_, rfl, rfl, rfl, rfl⟩
  have HI := Lib.hid (And.intro hi (And.intro hz0 (And.intro hz1 hz2)))
  clear his hR hn hn2 hbx S0 hgs hg37 hrows hmt hmm hfd hfr KM hW0 b0 x0 y0 s0 hi hz0 hz1 hz2 hm hr hTl
  go_enter Tryd.func39, Tryd.ntmps39
  go_wp2_with fail
  rw [HW.out]
  go_loopw [7, 8, 9, 10] (fun i _ _ _ wr => ∃ (k : Nat) (vN : Value) (xs : List Value), i = .int .i64 (k : Int) ∧ k ≤ n ∧ RmS w wr bx (.slice A 37 cap) (.slice A2 n2 c2) vN (narR (R.take k) g) xs ∧ (R.take k).all (fitB g) = true) (fun i _ _ _ _ => n - (RowKit.intOf i).toNat)
  case atStart => exact ⟨0, _, [], rfl, by omega, H.out.2.2.2.2.2.1, rfl⟩
  case round =>
    obtain ⟨wo, rfl⟩ : ∃ wo : World, wo = wr := ⟨_, rfl⟩
    obtain ⟨k, vN, xs, rfl, hk, hS, hall⟩ := hrel
    have s0 := hS.x.cell 0
    rw [← H.out.2.2.2.2.1] at s0
    simp at s0
    by_cases hlt : k < n
    · have i1 : (k : Int) < (n : Int) := by omega
      obtain ⟨r, hr⟩ : ∃ r, R[k]? = some r := ⟨R[k]'(by rw [H.out.2.2.1]; exact hlt), List.getElem?_eq_getElem _⟩
      have hrl : r.length = 37 := (H.out.2.2.2.2.2.2.2.2.1 _ _ hr).1
      have C := H.out.2.2.2.2.2.2.2.2.2.2.2.2 wo hS.b
      have mk2 := make_ints m (by omega)
      obtain ⟨W1, hW1⟩ : ∃ W, wo.alloc (.cells (arr m fun _ => .int .i64 0) 3) = W := ⟨_, rfl⟩
      have b1 : Below wo.heap.size wo W1 := by rw [← hW1]; exact below_new _ _
      have x1 : Cells W1 wo.heap.size 3 (intsC (dwnL g r m 0)).toArray := by
        rw [← hW1]
        have := cells_new wo (arr m fun _ => .int .i64 0) 3
        rw [arr_zero] at this ⊢
        exact this
      have hft := fit_take (g := g) hr
      have hnt := narR_take (g := g) hr
      rw [H.out.2.2.2.2.2.2.2.2.2.1] at hnt
      have hfd := H.out.2.2.2.2.2.2.2.2.2.2.1 r hrl
      have hfr := H.out.2.2.2.2.2.2.2.2.2.2.2.1 r hrl
      have HC := Lib.hid C
      have HK := Lib.hid (And.intro hS (And.intro hall (And.intro hr (And.intro hrl (And.intro hft (And.intro hnt (And.intro hfd hfr)))))))
      have HW1 := Lib.hid hW1
      have HX := Lib.hid (And.intro b1 x1)
      clear C hS hall hr hrl hft hnt hfd hfr hW1 b1 x1
      go_wp2_with fail
      clear s0
      refine HC.out.mono ?_
      rintro rr w2 ⟨rfl, e2⟩
      obtain rfl := e2.symm
      clear e2
      go_wp2_with fail
      rw [HW1.out]
      go_loopw [9] (fun x wi => ∃ (j : Nat) (xv : Int), x = .int .i64 xv ∧ xv = 36 - (j : Int) ∧ j ≤ 37 ∧ Below wo.heap.size wo wi ∧ Cells wi wo.heap.size 3 (intsC (dwnL g r m j)).toArray) (fun x _ => (RowKit.intOf x + 1).toNat)
      case atStart => exact ⟨0, 36, rfl, rfl, by omega, HX.out.1, HX.out.2⟩
      case round =>
        obtain ⟨j, xv, rfl, hxv, hj, hb, hc⟩ := hrel
        have hS2 := HK.out.1.on hb
        by_cases hj37 : j < 37
        · obtain ⟨p, hp⟩ : ∃ p : Nat, p = 36 - j := ⟨_, rfl⟩
          obtain rfl : xv = (p : Int) := by omega
          have i2 : (0 : Int) ≤ (p : Int) := by omega
          have i3 : (p : Int) < 37 := by omega
          obtain ⟨x, hx⟩ := list_at (xs := g) (i := p) (by rw [H.out.2.2.2.2.2.2.2.1]; omega)
          obtain ⟨y, hy⟩ := list_at (xs := r) (i := p) (by rw [HK.out.2.2.2.1]; omega)
          obtain ⟨p0, p1⟩ := H.out.2.2.2.2.2.2.1 x (List.mem_of_getElem? hx)
          obtain ⟨q, rfl⟩ : ∃ q : Nat, x = (q : Int) := ⟨x.toNat, by omega⟩
          obtain ⟨b, o, rfl, hbl, hcx⟩ := H.out.1.r (by rintro rfl; simp at hx)
          obtain ⟨b2, o2, rfl, hbl2, hcy⟩ := H.out.2.1.r (by rintro rfl; have := HK.out.2.2.1; simp at this)
          obtain ⟨A', c', q1, his', _⟩ := hcy k r HK.out.2.2.1
          obtain ⟨b3, o3, rfl, hbl3, hcz⟩ := his'.r (by rintro rfl; simp at hy)
          have d0 := (hS2.b.cell (p := ⟨b, o + p, none⟩) hbl).trans (hcx p q hx)
          have d1 := (hS2.b.cell (p := ⟨b2, o2 + k, none⟩) hbl2).trans q1
          have d2 := (hS2.b.cell (p := ⟨b3, o3 + p, none⟩) hbl3).trans (hcz p y hy)
          rw [HK.out.2.2.2.1] at d1
          have s0 := hS2.x.cell 0
          rw [← H.out.2.2.2.2.1] at s0
          simp at s0
          have hl : (dwnL g r m j).length = m := dwn_len _ _ _ _
          obtain ⟨L, hL⟩ : ∃ L, dwnL g r m j = L := ⟨_, rfl⟩
          have hst := dwn_step (many := m) (k := j) H.out.2.2.2.2.2.2.2.1 HK.out.2.2.2.1 hj37
          rw [← hp, getD_get hx, getD_get hy, hL, Int.toNat_natCast] at hst
          rw [hL] at hc hl
          obtain ⟨z, hz⟩ := list_at (xs := L) (i := q) (by omega)
          have c0 := hc.cell q
          have e : (intsC L).toArray[q]? = some (.int .i64 z) := by simp [intsC, hz]
          rw [e] at c0
          have f0 := hc.froz q
          have z0 := hc.lt
          have hend : ∃ (j' : Nat) (xv' : Int), Value.int .i64 ((p : Int) - 1) = .int .i64 xv' ∧ xv' = 36 - (j' : Int) ∧ j' ≤ 37 ∧ Below wo.heap.size wo (wr.drew.setCell ⟨wo.heap.size, q, none⟩ (.int .i64 y)) ∧ Cells (wr.drew.setCell ⟨wo.heap.size, q, none⟩ (.int .i64 y)) wo.heap.size 3 (intsC (dwnL g r m j')).toArray := by
            refine ⟨j + 1, _, rfl, by omega, by omega, hb.drew.setCell (Nat.le_refl _) _, ?_⟩
            have h1 : Cells wr.drew wo.heap.size 3 (intsC L).toArray := hc
            have := h1.set q (.int .i64 y)
            rw [intsC_set] at this
            rw [hst]; exact this
          have HEND := Lib.hid hend
          clear hend hc hb hS2 hst hL hz e hx hy hcx hcy hcz q1 his' hl hxv hp
          go_wp2_with fail
          go_still_tail 14, (by kernel_rfl)
          change wpList _ _ _ _ _ wr.drew
          go_wp2_with fail
          go_roundw
          case rel => exact HEND.out
          case measure => simp [RowKit.intOf]; try omega
        · obtain rfl : j = 37 := by omega
          obtain rfl : xv = -1 := by omega
          have i2 : ¬ (0 : Int) ≤ -1 := by decide
          obtain ⟨BN, dN, hvN⟩ := own_shape hS2.oN
          subst hvN
          obtain ⟨D, hD⟩ : ∃ D, dwnL g r m 37 = D := ⟨_, rfl⟩
          have hDl : D.length = m := by rw [← hD]; exact dwn_len _ _ _ _
          rw [hD] at hc
          have a1 := hS2.s.cell 1
          simp at a1
          have f1 := hS2.s.froz 1
          have z6 := hS2.s.lt
          have hnl : (narR (R.take k) g).length = k := by unfold narR; rw [List.length_map, List.length_take, H.out.2.2.1]; omega
          have al := below_new wr (.cells #[.slice (some ⟨wo.heap.size, 0, none⟩) m m] 23)
          have hS7 := hS2.on al
          have c7 : (wr.alloc (.cells #[.slice (some ⟨wo.heap.size, 0, none⟩) m m] 23)).cell? ⟨wr.heap.size, 0, none⟩ = some (.slice (some ⟨wo.heap.size, 0, none⟩) m m) := by rw [World.cell?_alloc_new]; rfl
          have hc7 := hc.on al
          have fr7 : FrL w (wr.alloc (.cells #[.slice (some ⟨wo.heap.size, 0, none⟩) m m] 23)) D (.slice (some ⟨wo.heap.size, 0, none⟩) m m) := ⟨wo.heap.size, by rw [hDl], HK.out.1.b.size, hc7⟩
          have ho7 := hS7.oN
          rw [hnl] at ho7 a1
          have H7 := Lib.hid (And.intro hS7 (And.intro c7 (And.intro fr7 (And.intro hc7 (And.intro ho7 (And.intro hnl (And.intro hD hDl)))))))
          clear hS2 hc hb hS7 c7 hc7 fr7 ho7 hnl al hD hDl hxv
          go_wp2_with (first
            | (at_builtin
               refine wpList_append_one rfl (.tmp 44) (.tmp 46) 51 rfl w.heap.size 23 i0 (.slice none 0 0) 24 Tryd.underlying51 HI.out.1 HI.out.2.1 HI.out.2.2.1 HI.out.2.2.2 (by decide) rfl _ k _ rfl H7.out.2.2.2.2.1 ⟨wr.heap.size, 0, none⟩ (.slice (some ⟨wo.heap.size, 0, none⟩) m m) rfl H7.out.2.1 rfl (by omega) H7.out.1.b.size _ rfl ?_)
            | fail)
          intro gq cp w8 ho8 hg8 _ _
          have s8 : Cells w8 (w.heap.size + 1 + 1) 74 #[_, _, _] := (hg8.block _ H7.out.1.s.lt (fun e => own_not_cells H7.out.2.2.2.2.1 H7.out.1.s (by decide) e.symm)).trans H7.out.1.s
          have d8 : Cells w8 wo.heap.size 3 (intsC D).toArray := (hg8.block _ H7.out.2.2.2.1.lt (fun e => own_not_cells H7.out.2.2.2.2.1 H7.out.2.2.2.1 (by decide) e.symm)).trans H7.out.2.2.2.1
          have d9 : Cells (w8.setCell ⟨w.heap.size + 1 + 1, 1, none⟩ (.slice (some ⟨gq, 0, none⟩) (k + 1) cp)) wo.heap.size 3 (intsC D).toArray := ((grown_setc w8 (w.heap.size + 1 + 1) 1 _).block _ d8.lt (fun e => by injection e with e; exact cells_apart d8 s8 (by decide) e)).trans d8
          have e1 := s8.cell 1
          simp at e1
          have e2 := s8.froz 1
          have e3 := s8.lt
          have hadd := H7.out.1.add (by rw [H7.out.2.2.2.2.2.1]; exact ho8) (by rw [H7.out.2.2.2.2.2.1]; exact hg8) H7.out.2.2.1
          have H8 := Lib.hid (And.intro hadd d9)
          clear ho8 hg8 s8 hadd d8 d9
          go_wp2_with fail
          go_loopw [10] (fun x wi => ∃ (j : Nat) (vN' : Value) (xs' : List Value), x = .int .i64 (j : Int) ∧ j ≤ 37 ∧ (∀ i, i < j → D.getD (g.getD i 0).toNat 0 = r.getD i 0) ∧ RmS w wi bx (.slice A 37 cap) (.slice A2 n2 c2) vN' (narR (R.take k) g ++ [D]) xs' ∧ Cells wi wo.heap.size 3 (intsC D).toArray) (fun x _ => 37 - (RowKit.intOf x).toNat)
          case atStart => exact ⟨0, _, _, rfl, by omega, fun i hi => by omega, H8.out.1, H8.out.2⟩
          case round =>
            obtain ⟨j, vN', xs', rfl, hj, hfit, hS, hc⟩ := hrel
            by_cases hj37 : j < 37
            · have i2 : (j : Int) < 37 := by omega
              obtain ⟨x, hx⟩ := list_at (xs := g) (i := j) (by rw [H.out.2.2.2.2.2.2.2.1]; omega)
              obtain ⟨y, hy⟩ := list_at (xs := r) (i := j) (by rw [HK.out.2.2.2.1]; omega)
              obtain ⟨p0, p1⟩ := H.out.2.2.2.2.2.2.1 x (List.mem_of_getElem? hx)
              obtain ⟨q, rfl⟩ : ∃ q : Nat, x = (q : Int) := ⟨x.toNat, by omega⟩
              obtain ⟨b, o, rfl, hbl, hcx⟩ := H.out.1.r (by rintro rfl; simp at hx)
              obtain ⟨b2, o2, rfl, hbl2, hcy⟩ := H.out.2.1.r (by rintro rfl; have := HK.out.2.2.1; simp at this)
              obtain ⟨A', c', q1, his', _⟩ := hcy k r HK.out.2.2.1
              obtain ⟨b3, o3, rfl, hbl3, hcz⟩ := his'.r (by rintro rfl; simp at hy)
              have d0 := (hS.b.cell (p := ⟨b, o + j, none⟩) hbl).trans (hcx j q hx)
              have d1 := (hS.b.cell (p := ⟨b2, o2 + k, none⟩) hbl2).trans q1
              have d2 := (hS.b.cell (p := ⟨b3, o3 + j, none⟩) hbl3).trans (hcz j y hy)
              rw [HK.out.2.2.2.1] at d1
              have s0 := hS.x.cell 0
              rw [← H.out.2.2.2.2.1] at s0
              simp at s0
              obtain ⟨z, hz⟩ := list_at (xs := D) (i := q) (by rw [H7.out.2.2.2.2.2.2.2]; omega)
              have c0 := hc.cell q
              have e : (intsC D).toArray[q]? = some (.int .i64 z) := by simp [intsC, hz]
              rw [e] at c0
              have hgz : D.getD (g.getD j 0).toNat 0 = z := by rw [getD_get hx, Int.toNat_natCast, getD_get hz]
              have hry : r.getD j 0 = y := getD_get hy
              have HJ := Lib.hid (And.intro hfit (And.intro hS (And.intro hc (And.intro hgz hry))))
              clear hfit hS hc hgz hry hz e hx hy hcx hcy hcz q1 his'
              by_cases he : z = y
              · have hq : ((z : Int) == (y : Int)) = true := by simp; omega
                have hq' : ((z : Int) != (y : Int)) = false := by simp; omega
                have HE := Lib.hid he
                clear he
                go_wp2_with fail
                go_quiet (fail)
                rename_i nq _
                have hb := below_drewN (Below.refl wr.heap.size wr) nq
                have hend : ∃ (j' : Nat) (vN'' : Value) (xs'' : List Value), Value.int .i64 ((j : Int) + 1) = .int .i64 (j' : Int) ∧ j' ≤ 37 ∧ (∀ i, i < j' → D.getD (g.getD i 0).toNat 0 = r.getD i 0) ∧ RmS w (wr.drewN nq) bx (.slice (some ⟨b, o, none⟩) 37 cap) (.slice A2 n2 c2) vN'' (narR (R.take k) g ++ [D]) xs'' ∧ Cells (wr.drewN nq) wo.heap.size 3 (intsC D).toArray :=
                  ⟨j + 1, _, _, by simp, by omega, allB_take.2 ⟨HJ.out.1, by rw [HJ.out.2.2.2.1, HJ.out.2.2.2.2]; exact HE.out⟩, HJ.out.2.1.on hb, HJ.out.2.2.1.on hb⟩
                have HEND := Lib.hid hend
                clear hend hb
                go_wp2_with fail
                go_roundw
                case rel => exact HEND.out
                case measure => simp [RowKit.intOf]; omega
              · have hq : ((z : Int) == (y : Int)) = false := by simp; omega
                have hq' : ((z : Int) != (y : Int)) = true := by simp; omega
                have hno : R.all (fitB g) = false := by
                  refine allT_miss HK.out.2.2.1 ?_
                  cases hf : fitB g r with
                  | false => rfl
                  | true =>
                    have := HK.out.2.2.2.2.2.2.1.1 hf j (by omega)
                    rw [H7.out.2.2.2.2.2.2.1, HJ.out.2.2.2.1, HJ.out.2.2.2.2] at this
                    exact absurd this he
                have HE := Lib.hid hno
                clear he hno
                go_wp2_with fail
                go_quiet (fail)
                rename_i nq _
                have hS9 := HJ.out.2.1.on (below_drewN (Below.refl wr.heap.size wr) nq)
                obtain ⟨Wq, hWq⟩ : ∃ W, wr.drewN nq = W := ⟨_, rfl⟩
                rw [hWq] at hS9 ⊢
                clear hWq d0 d1 d2 s0 c0
                have a0 := hS9.y.cell 0
                have a1 := hS9.y.cell 1
                have a2 := hS9.y.cell 2
                simp [nil3] at a0 a1 a2
                have f0 := hS9.y.froz 0
                have f1 := hS9.y.froz 1
                have f2 := hS9.y.froz 2
                have z9 := hS9.y.lt
                have H9 := Lib.hid (And.intro hS9.b hS9.y)
                clear hS9
                go_wp2_with fail
                refine bodyPost_ret (v := .tuple #[.agg nil3, .bool false]) (results_nar2 rfl _ _ (w.heap.size + 1) nil3 rfl (nil_set2 _ _ H9.out.2 _ _ _) info74 _ rfl) rfl ⟨below_set3 H9.out.1 (Nat.le_succ _) _ _ _, .inl ⟨HE.out, rfl⟩⟩
            · obtain rfl : j = 37 := by omega
              have i2 : ¬ (37 : Int) < 37 := by decide
              have hf : fitB g r = true := HK.out.2.2.2.2.2.2.1.2 (fun i hi => by rw [H7.out.2.2.2.2.2.2.1]; exact hfit i hi)
              have hDn := HK.out.2.2.2.2.2.2.2 hf
              rw [H7.out.2.2.2.2.2.2.1] at hDn
              rw [hDn, ← HK.out.2.2.2.2.2.1] at hS
              have hend : ∃ (k' : Nat) (vN'' : Value) (xs'' : List Value), Value.int .i64 ((k : Int) + 1) = .int .i64 (k' : Int) ∧ k' ≤ n ∧ RmS w wr bx (.slice A 37 cap) (.slice A2 n2 c2) vN'' (narR (R.take k') g) xs'' ∧ (R.take k').all (fitB g) = true :=
                ⟨k + 1, _, _, by simp, by omega, hS, by rw [HK.out.2.2.2.2.1, HK.out.2.1, hf]; rfl⟩
              have HEND := Lib.hid hend
              clear hend hS hc hfit hf hDn
              go_wp2_with fail
              go_roundw
              case rel => exact HEND.out
              case measure => simp [RowKit.intOf]; omega
    · obtain rfl : k = n := by omega
      have i1 : ¬ (k : Int) < (k : Int) := by omega
      have e1 : R.take k = R := by rw [← H.out.2.2.1, List.take_length]
      rw [e1] at hS hall
      obtain ⟨BN, dN, hvN⟩ := own_shape hS.oN
      subst hvN
      have t0 := hS.s.cell 0
      have t1 := hS.s.cell 1
      have t2 := hS.s.cell 2
      have a0 := hS.y.cell 0
      have a1 := hS.y.cell 1
      have a2 := hS.y.cell 2
      simp [nil3] at a0 a1 a2 t0 t1 t2
      have f0 := hS.y.froz 0
      have f1 := hS.y.froz 1
      have f2 := hS.y.froz 2
      have z0 := hS.y.lt
      have HD := Lib.hid (And.intro hS.done hall)
      clear hS hall e1
      go_wp2_with fail
      refine bodyPost_ret (v := .tuple #[.agg _, .bool true]) (results_nar2 rfl _ _ (w.heap.size + 1) _ rfl HD.out.1.1 (by kernel_rfl) _ rfl) rfl ⟨HD.out.1.2.1, .inr ⟨HD.out.2, _, _, rfl, HD.out.1.2.2⟩⟩
end Go.Proofs.YtmldgfplnacecaaDoor
