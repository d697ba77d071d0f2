/-
  Contract: Wide.
-/
import Derived.BigRegion
import Derived.Deep.RegionLaw
import Derived.Deep.AppendLies
import Derived.Test.YtmldgfplnacecaaDoorWds
namespace Go.Proofs.YtmldgfplnacecaaDoor
open Go.RowKit Go.Shelf Go.Lib Go.Maps Go.Sort

theorem results_two54 {fn : Func} {p u : Tmp} (h : fn.results = #[.cell p 54, .tmp u]) (tmps : Array Value) (w : World) (g : Nat) (cs : Array Value)
    (hp : tmps.getD p undef = .pointer (some ⟨g, 0, none⟩)) (hg : Cells w g 54 cs) (hi : (Tryd.prog.info? 54).map (·.size) = some cs.size) (x : Value) (hx : tmps.getD u undef = x) :
    (results fn tmps).run Tryd.prog w = .ok (.tuple #[.agg cs, x]) w := by
  rw [results_cell_tmp h, hp, hx]
  have := run_loadVar_row (P := Tryd.prog) w g 54 54 cs (0, 0) _ hg Tryd.underlying54 rfl hi
  simp [asAddr, this, Result.andThen]
theorem info54 : (Tryd.prog.info? 54).map (·.size) = some nil2.size := by kernel_rfl
theorem WdS.rs {ts : Nat} {w wr : World} {vN v2 a b : Value} {rows : List (List Int)} {xs : List Value} (h : WdS ts w wr vN v2 rows xs) (hl : ∀ r ∈ rows, ∀ x ∈ r, i64 x) {p : Nat} (hp : p < w.heap.size) :
    ∃ A c, vN = .slice A rows.length c ∧ RsAt ((wr.setCell ⟨p, 0, none⟩ a).setCell ⟨p, 1, none⟩ b) ((wr.setCell ⟨p, 0, none⟩ a).setCell ⟨p, 1, none⟩ b).heap.size rows A c := by
  have F := fz2 wr p a b
  refine rs_of_rows (B := w.heap.size) (xs := xs) ?_ ?_ hl
  · exact own_fz F h.oN (fun k hk e => by subst hk; have := (own_block_lt h.oN _ e).1; omega)
  · intro i x hx
    obtain ⟨u, h1, h2⟩ := h.r i x hx
    exact ⟨u, h1, own_fz F h2 (fun k hk e => by subst hk; have := (own_block_lt h2 _ e).1; omega)⟩
theorem WdS.rs0 {ts : Nat} {w wr : World} {vN v2 : Value} {rows : List (List Int)} {xs : List Value} (h : WdS ts w wr vN v2 rows xs) (hl : ∀ r ∈ rows, ∀ x ∈ r, i64 x) : ∃ A c, vN = .slice A rows.length c ∧ RsAt wr wr.heap.size rows A c :=
  rs_of_rows h.oN h.r hl
theorem own_set2 {wr : World} {B p t : Nat} {v a b : Value} {l : List Value} {n : Nat} (h : wr.ownsRow B t 1 v n l) (hp : p < B) : ((wr.setCell ⟨p, 0, none⟩ a).setCell ⟨p, 1, none⟩ b).ownsRow B t 1 v n l :=
  own_fz (fz2 wr p a b) h (fun k hk e => by subst hk; have := (own_block_lt h _ e).1; omega)
theorem us_own {w : World} {B : Nat} {T : List Nat} {v : Value} (ho : w.ownsRow B 37 1 v T.length (u64C T)) (hl : ∀ x ∈ T, x < 18446744073709551616) : ∃ A cap, v = .slice A T.length cap ∧ UsAt w w.heap.size T A cap := by
  rcases ho.2 with ⟨h1, h2⟩ | ⟨g, cap, cur, h1, h2, h3, h4, h5, h6, h7⟩
  · have hn : T = [] := List.eq_nil_of_length_eq_zero h2
    subst hn
    exact ⟨none, 0, by rw [h1]; rfl, ⟨Nat.le_refl _, by unfold maxLen; omega, fun _ => rfl, fun x hx => absurd hx (by simp), fun hn => absurd rfl hn⟩⟩
  · refine ⟨_, cap, h1, ⟨h4, h5, fun e => (by cases e), hl, fun _ => ⟨g, 0, rfl, (Array.getElem?_eq_some_iff.1 h3).1, fun i x hx => ?_⟩⟩⟩
    have hc := World.ownsRow.cells ho (g := g) (by rw [h1]; rfl) i (.int .u64 (x : Int)) (by simp [u64C, hx])
    rw [add0] at hc
    rw [Nat.zero_add]; exact hc
theorem info23 : (Tryd.prog.info? 23).map (fun i => (i.zero, i.size, i.bytes)) = some (some (.slice none 0 0), 1, 24) := by kernel_rfl
set_option maxHeartbeats 16000000 in
set_option maxRecDepth 100000 in
theorem wide_any {g : List Int} {R : List (List Int)} {T : List Nat} {v : Value} {w : World} (h : NwV w g R T v) (hgl : g.length ≤ 1000) (hTl : T.length ≤ 1000) : Calls Tryd.prog 41 #[v] w (WideOk w g R T) := by
  obtain ⟨A, c, A1, c1, A2, c2, rfl, hI, hR, hU⟩ := h
  obtain ⟨n, hn⟩ : ∃ n, R.length = n := ⟨_, rfl⟩
  obtain ⟨n2, hn2⟩ : ∃ n, T.length = n := ⟨_, rfl⟩
  obtain ⟨N, hN⟩ : ∃ n, g.length = n := ⟨_, rfl⟩
  obtain ⟨bx, hbx⟩ : ∃ b, (#[.slice A N c, .slice A1 n c1, .slice A2 n2 c2] : Array Value) = b := ⟨_, rfl⟩
  obtain ⟨W0, hW0⟩ : ∃ W, (w.alloc (.cells #[.slice A N c, .slice A1 n c1, .slice A2 n2 c2] 70)).alloc (.cells #[.slice none 0 0, .slice none 0 0] 54) = W := ⟨_, rfl⟩
  have b0 : Below w.heap.size w W0 := by rw [← hW0]; exact (below_new _ _).alloc (by simp) _
  have x0 : Cells W0 w.heap.size 70 bx := by rw [← hW0, ← hbx]; exact (cells_new _ _ _).on (below_new _ _)
  have y0 : Cells W0 (w.heap.size + 1) 54 nil2 := by
    rw [← hW0]
    have := cells_new (w.alloc (.cells #[.slice A N c, .slice A1 n c1, .slice A2 n2 c2] 70)) #[.slice none 0 0, .slice none 0 0] 54
    rw [World.size_alloc] at this
    exact this
  have hnm : n ≤ 9223372036854775807 := by have := hR.l; have := hR.m; unfold maxLen at this; omega
  have KI : ∀ W, Below w.heap.size w W → IS W W.heap.size g A c := fun W hW => (hI.below hW).mono hW.size
  have KU : ∀ W, Below w.heap.size w W → UsAt W W.heap.size T A2 c2 := fun W hW => (hU.below hW).mono hW.size
  have C := many_any g A c W0 (KI W0 b0) hgl
  obtain ⟨M, hM⟩ : ∃ M, manyL g = M := ⟨_, rfl⟩
  rw [hN, hM] at C
  have e0 := x0.cell 0
  rw [← hbx] at e0
  simp at e0
  have HC := Lib.hid (And.intro C (And.intro b0 (And.intro x0 y0)))
  have H := Lib.hid (And.intro KI (And.intro KU (And.intro hR (And.intro hn (And.intro hn2 (And.intro hN (And.intro hM (And.intro hbx (And.intro hR.ints (And.intro hU.i (And.intro hI.i (And.intro hgl hTl))))))))))))
  have HW := Lib.hid hW0
  rw [hn, hn2, hN]
  clear C b0 x0 y0 hW0 hn hn2 hN hM hI hR hU hbx hgl hTl KI KU
  go_enter Tryd.func41, Tryd.ntmps41
  go_wp2_with fail
  rw [HW.out]
  refine HC.out.1.mono ?_
  rintro r w2 ⟨rfl, hb⟩
  have b2 : Below w.heap.size w w2 := HC.out.2.1.trans (hb.mono HC.out.2.1.size)
  have x2 := HC.out.2.2.1.on hb
  have y2 := HC.out.2.2.2.on hb
  clear e0
  have e1 := x2.cell 1
  have e2 := x2.cell 2
  rw [← H.out.2.2.2.2.2.2.2.1] at e1 e2
  have a0 := y2.cell 0
  have a1 := y2.cell 1
  simp [nil2] at e1 e2 a0 a1
  have f0 := y2.froz 0
  have f1 := y2.froz 1
  have z2 := y2.lt
  have HB2 := Lib.hid (And.intro b2 (And.intro x2 y2))
  clear hb b2 x2 y2
  by_cases hM0 : M = 0
  · subst hM0
    clear e2
    go_wp2_with fail
    refine bodyPost_ret (v := .tuple #[.agg nil2, .bool false]) (results_two54 rfl _ _ (w.heap.size + 1) nil2 rfl (nil_set3 HB2.out.2.2 _ _) info54 _ rfl) rfl ⟨below_set2 HB2.out.1 (Nat.le_succ _) _ _, .inl ⟨wideB_none H.out.2.2.2.2.2.2.1, rfl⟩⟩
  have j0 : (M == 0) = false := by simpa using hM0
  by_cases hn1 : 1000 < n
  · have i1 : (1000 : Int) < (n : Int) := by omega
    clear e2
    go_wp2_with fail
    refine bodyPost_ret (v := .tuple #[.agg nil2, .bool false]) (results_two54 rfl _ _ (w.heap.size + 1) nil2 rfl (nil_set3 HB2.out.2.2 _ _) info54 _ rfl) rfl ⟨below_set2 HB2.out.1 (Nat.le_succ _) _ _, .inl ⟨wideB_long (by rw [H.out.2.2.2.1]; exact hn1), rfl⟩⟩
  have i1 : ¬ (1000 : Int) < (n : Int) := by omega
  have hmz : manyL g ≠ 0 := by rw [H.out.2.2.2.2.2.2.1]; exact hM0
  have hp := many_parts hmz
  rw [H.out.2.2.2.2.2.2.1, H.out.2.2.2.2.2.1] at hp
  have C := clone72_any T A2 c2 w2 (H.out.2.1 w2 HB2.out.1) (by have := H.out.2.2.2.2.2.2.2.2.2.2.2.2; omega)
  rw [H.out.2.2.2.2.1] at C
  have HC2 := Lib.hid C
  have HP := Lib.hid (And.intro hp hmz)
  clear C hp hmz a0 a1 f0 f1 z2
  go_wp2_with fail
  refine HC2.out.mono ?_
  rintro r w3 ⟨v2, rfl, ho, hb3⟩
  have b3 := HB2.out.1.trans (hb3.mono HB2.out.1.size)
  have x3 := HB2.out.2.1.on hb3
  have y3 := HB2.out.2.2.on hb3
  obtain ⟨B2, d2, rfl⟩ := own_shape ho
  have ho : w3.ownsRow (w.heap.size + 1 + 1) 37 1 (.slice B2 n2 d2) n2 (u64C T) := own_base (B := w2.heap.size) ho (by have := HB2.out.2.2.lt; omega)
  clear e1 e2
  have e1 := x3.cell 1
  rw [← H.out.2.2.2.2.2.2.2.1] at e1
  simp at e1
  have l3 := y3.lt
  have l4 := x3.lt
  have st := WdS.start (ts := 54) w3 (.slice B2 n2 d2)
  have H3 := Lib.hid (And.intro b3 (And.intro x3 (And.intro y3 (And.intro ho st))))
  clear b3 x3 y3 ho st hb3
  have I23 := info23
  obtain ⟨i23, h23, z23, s23, b23⟩ := info_parts I23
  have HI := Lib.hid (And.intro h23 (And.intro z23 (And.intro s23 b23)))
  clear I23 h23 z23 s23 b23
  go_wp2_with fail
  go_loopw [7, 27] (fun _ i wr => ∃ (k : Nat) (vN : Value) (xs : List Value), i = .int .i64 (k : Int) ∧ k ≤ n ∧ WdS 54 w3 wr vN (.slice B2 n2 d2) (widR (R.take k) g) xs ∧ (R.take k).all (lenB g) = true) (fun _ i _ => n - (RowKit.intOf i).toNat)
  case atStart => exact ⟨0, _, [], rfl, by omega, H3.out.2.2.2.2, rfl⟩
  case round =>
    obtain ⟨k, vN, xs, rfl, hk, hS, hall⟩ := hrel
    clear e1
    have bw : Below w.heap.size w wr := H3.out.1.trans (hS.b.mono H3.out.1.size)
    have xw := (hS.b.block _ H3.out.2.1.lt).trans H3.out.2.1
    have yw := (hS.b.block _ H3.out.2.2.1.lt).trans H3.out.2.2.1
    have xw : Cells wr w.heap.size 70 bx := xw
    have yw : Cells wr (w.heap.size + 1) 54 nil2 := yw
    by_cases hlt : k < n
    · have i2 : (k : Int) < (n : Int) := by omega
      obtain ⟨r, hr⟩ : ∃ r, R[k]? = some r := ⟨R[k]'(by rw [H.out.2.2.2.1]; exact hlt), List.getElem?_eq_getElem _⟩
      obtain ⟨b, o, rfl, hbl, hc⟩ := H.out.2.2.1.r (by rintro rfl; simp at hr)
      obtain ⟨A', c', q1, his, _⟩ := hc k r hr
      have d0 := (bw.cell (p := ⟨b, o + k, none⟩) hbl).trans q1
      have hir := (his.below bw).mono bw.size
      obtain ⟨l, hl⟩ : ∃ l, r.length = l := ⟨_, rfl⟩
      rw [hl] at d0
      by_cases hlm : (l : Int) = M
      · have j1 : ((l : Int) != M) = false := by simpa using hlm
        have j2 : ((l : Int) == M) = true := by simpa using hlm
        have hlen : lenB g r = true := by unfold lenB; rw [hl, H.out.2.2.2.2.2.2.1]; simpa using hlm
        have hall2 : (R.take (k + 1)).all (lenB g) = true := by rw [allT_take (lenB g) hr, hall, hlen]; rfl
        have hwt := widR_take (g := g) hr
        have hnw : (widR (R.take k) g).length = k := by rw [widR_len, List.length_take, H.out.2.2.2.1]; omega
        obtain ⟨BN, dN, rfl⟩ := own_shape hS.oN
        rw [hnw] at hS
        obtain ⟨rows, hrows⟩ : ∃ q, widR (R.take k) g = q := ⟨_, rfl⟩
        rw [hrows] at hS hwt hnw
        have hgs : ∀ x ∈ g, 0 ≤ x ∧ x < (r.length : Int) := fun x hx => by rw [hl, hlm]; exact HP.out.1.2.1 x hx
        have KC : ∀ W, Below wr.heap.size wr W → Calls Tryd.prog 74 #[.slice A' l c', .slice A N c] W fun rr w' => ∃ Aq, rr = .returned (.slice Aq N N) ∧ OwnI w' w3.heap.size (widL r g) (.slice Aq N N) ∧ Below wr.heap.size wr w' := by
          intro W hW
          have C := wid_any r g hgs A' A c' c W (hir.on hW) (H.out.1 W (bw.trans (hW.mono bw.size))) H.out.2.2.2.2.2.2.2.2.2.2.2.1
          rw [hl, H.out.2.2.2.2.2.1] at C
          refine C.mono ?_
          rintro rr w' ⟨hbq, u, rfl, hf⟩
          have hwl := widL_len r g
          have hf' := FrL.own hf (by rw [hwl]; exact H.out.2.2.2.2.2.2.2.2.2.2.2.1)
          obtain ⟨q, rfl, hq, _⟩ := hf
          rw [hwl, H.out.2.2.2.2.2.1] at hf' ⊢
          exact ⟨_, rfl, own_inis hf' (Nat.le_trans hS.b.size hW.size), hW.trans (hbq.mono hW.size)⟩
        have c0 := hS.s.cell 0
        simp at c0
        have f0 := hS.s.froz 0
        have z0 := hS.s.lt
        have x0 := xw.cell 0
        rw [← H.out.2.2.2.2.2.2.2.1] at x0
        simp at x0
        have z1 := xw.lt
        have HK := Lib.hid (And.intro KC (And.intro hS (And.intro hall2 (And.intro hwt (And.intro hnw xw)))))
        clear KC hS hall2 hwt hnw xw yw bw hall hr hc q1 his hir hlen hgs hl hrows
        go_wp2_with fail
        go_region_law (first
          | (refine step_append_lies _ rfl (.tmp 37) (.tmp 42) 51 rfl w3.heap.size 23 i23 (.slice none 0 0) 1 24 Tryd.underlying51 HI.out.1 HI.out.2.1 HI.out.2.2.1 HI.out.2.2.2 (by decide) (by decide) (.slice BN k dN) k xs rfl HU.out.1 ⟨w4.heap.size, 0, none⟩ 1 1 [.slice Aq N N] rfl rfl HU.out.2.1 HU.out.2.2.1 (by decide) (by unfold maxLen; omega) (by omega) HU.out.2.2.2.1 (w4.heap.size + 1) (by simp) ?_
             intro g5 cp5 w5 ho5 hg5 hat5 hlt5
             have hS5 := HU.out.2.2.2.2 g5 cp5 w5 ho5 hg5
             have t0 := hS5.1.cell 0
             simp at t0
             have t1 := hS5.1.froz 0
             have t2 := hS5.1.lt
             have HS5 := Lib.hid hS5.2
             clear hS5 ho5 hg5 hat5)
          | (go_simp
             go_at_call 74
             refine (HK.out.1 _ (Below.refl _ _).drew).mono ?_
             rintro rr w4 ⟨Aq, rfl, hu4, hb4⟩
             have hS4 := HK.out.2.1.on hb4
             have q0 := hS4.s.cell 0
             simp at q0
             have q1 := hS4.s.froz 0
             have q2 := hS4.s.lt
             have al := below_new w4 (.cells #[.slice Aq N N] 23)
             have hS4a := hS4.on al
             have hn4 : ∀ (j : Nat) u, ([.slice Aq N N] : List Value)[j]? = some u → (w4.alloc (.cells #[.slice Aq N N] 23)).cell? ((⟨w4.heap.size, 0, none⟩ : Addr).add j) = some u := fun j u hj => by
               rw [add0, World.cell?_alloc_new]
               simpa using hj
             have ho4 := hS4a.oN
             rw [HK.out.2.2.2.2.1] at ho4
             have hone : ∀ u ∈ ([.slice Aq N N] : List Value), u.oneCell' = true := fun u hu => by simp at hu; subst hu; rfl
             have hnx : ∀ g5 cp5 w5, w5.ownsRow w3.heap.size 23 1 (.slice (some ⟨g5, 0, none⟩) (k + 1) cp5) (k + 1) (xs ++ [.slice Aq N N]) → (w4.alloc (.cells #[.slice Aq N N] 23)).grownBy w5 (Value.slice BN k dN).ownBlock →
                 Cells w5 w3.heap.size 54 #[.slice BN k dN, .slice B2 n2 d2] ∧ WdS 54 w3 (w5.setCell ⟨w3.heap.size, 0, none⟩ (.slice (some ⟨g5, 0, none⟩) (k + 1) cp5)) (.slice (some ⟨g5, 0, none⟩) (k + 1) cp5) (.slice B2 n2 d2) (rows ++ [widL r g]) (xs ++ [.slice Aq N N]) := fun g5 cp5 w5 k1 k2 =>
               hS4a.add (by decide) (by decide) (by rw [HK.out.2.2.2.2.1]; exact k1) k2 (hu4.below al)
             have hsz4 := hS4a.b.size
             have HU := Lib.hid (And.intro ho4 (And.intro hn4 (And.intro hone (And.intro hsz4 hnx))))
             clear hu4 hb4 hS4 al hS4a hn4 ho4 hone hnx hsz4))
        all_goals
          have hend : ∃ (k' : Nat) (vN' : Value) (xs' : List Value), Value.int .i64 ((k : Int) + 1) = .int .i64 (k' : Int) ∧ k' ≤ n ∧ WdS 54 w3 (w5.setCell ⟨w3.heap.size, 0, none⟩ (.slice (some ⟨g5, 0, none⟩) (k + 1) cp5)) vN' (.slice B2 n2 d2) (widR (R.take k') g) xs' ∧ (R.take k').all (lenB g) = true :=
            ⟨k + 1, _, _, by simp, by omega, by rw [HK.out.2.2.2.1]; exact HS5.out, HK.out.2.2.1⟩
          have HEND := Lib.hid hend
          clear hend
          go_wp2_with fail
          go_roundw
          case rel => exact HEND.out
          case measure => simp [RowKit.intOf]; omega
      · have j1 : ((l : Int) != M) = true := by simpa using hlm
        have j2 : ((l : Int) == M) = false := by simpa using hlm
        have hno : lenB g r = false := by unfold lenB; rw [hl, H.out.2.2.2.2.2.2.1]; simpa using hlm
        have a0 := yw.cell 0
        have a1 := yw.cell 1
        simp [nil2] at a0 a1
        have f0 := yw.froz 0
        have f1 := yw.froz 1
        have z2 := yw.lt
        have HE := Lib.hid (And.intro bw (And.intro yw (wideB_miss (T := T) hr hno)))
        clear bw xw yw hS hall hr hc q1 his hir hno
        go_wp2_with fail
        refine bodyPost_ret (v := .tuple #[.agg nil2, .bool false]) (results_two54 rfl _ _ (w.heap.size + 1) nil2 rfl (nil_set3 HE.out.2.1 _ _) info54 _ rfl) rfl ⟨below_set2 HE.out.1 (Nat.le_succ _) _ _, .inl ⟨HE.out.2.2, rfl⟩⟩
    · obtain rfl : k = n := by omega
      have i2 : ¬ (k : Int) < (k : Int) := by omega
      have e9 : R.take k = R := by rw [← H.out.2.2.2.1, List.take_length]
      rw [e9] at hS hall
      have hri := widR_ints (g := g) H.out.2.2.2.2.2.2.2.2.1
      obtain ⟨AN, cN, rfl, hRs⟩ := hS.rs0 hri
      have hoW : wr.ownsRow (w.heap.size + 1 + 1) 37 1 (.slice B2 n2 d2) T.length (u64C T) := by
        rw [H.out.2.2.2.2.1]
        exact ownsRow_below H3.out.2.2.2.1 hS.b
      obtain ⟨A7, c7, e7, hUs⟩ := us_own hoW H.out.2.2.2.2.2.2.2.2.2.1
      have hTb : TbV wr (widR R g) T (.agg #[.slice AN (widR R g).length cN, .slice B2 n2 d2]) := ⟨AN, cN, A7, c7, by rw [e7], hRs, hUs⟩
      have hnw : (widR R g).length = k := by rw [widR_len]; exact H.out.2.2.2.1
      have D := rightD_any hTb
      have t0 := hS.s.cell 0
      have t1 := hS.s.cell 1
      simp at t0 t1
      rw [hnw] at t0 D
      have HD := Lib.hid D
      have HS := Lib.hid (And.intro hS (And.intro hall (And.intro bw (And.intro yw (And.intro hoW (And.intro hri hnw))))))
      clear hS hall bw xw yw hRs hUs hTb D hoW hri e7 e9 hnw
      go_wp2_with fail
      refine HD.out.mono ?_
      rintro rr w5 ⟨rfl, hb5⟩
      have hS5 := HS.out.1.on hb5
      have y5 := HS.out.2.2.2.1.on hb5
      have b5 := HS.out.2.2.1.trans (hb5.mono HS.out.2.2.1.size)
      have o5 := ownsRow_below HS.out.2.2.2.2.1 hb5
      have a0 := y5.cell 0
      have a1 := y5.cell 1
      simp [nil2] at a0 a1
      have f0 := y5.froz 0
      have f1 := y5.froz 1
      have z5 := y5.lt
      have hwl := wideB_last (T := T) HP.out.2 HS.out.2.1
      clear t0 t1
      cases hq : rightT (widR R g) T with
      | false =>
        have HE := Lib.hid (And.intro b5 (And.intro y5 (hwl.trans hq)))
        clear b5 y5 hS5 o5 hb5 hwl hq
        go_wp2_with fail
        refine bodyPost_ret (v := .tuple #[.agg nil2, .bool false]) (results_two54 rfl _ _ (w.heap.size + 1) nil2 rfl (nil_set3 HE.out.2.1 _ _) info54 _ rfl) rfl ⟨below_set2 HE.out.1 (Nat.le_succ _) _ _, .inl ⟨HE.out.2.2, rfl⟩⟩
      | true =>
        have t0 := hS5.s.cell 0
        have t1 := hS5.s.cell 1
        have hl5 := HS.out.2.2.2.2.2.2
        rw [hl5] at t0
        simp at t0 t1
        have HE := Lib.hid (And.intro b5 (And.intro y5 (And.intro (hwl.trans hq) (And.intro hS5 o5))))
        clear b5 y5 hS5 o5 hb5 hwl hq hl5
        go_wp2_with fail
        refine bodyPost_ret (v := .tuple #[.agg _, .bool true]) (results_two54 rfl _ _ (w.heap.size + 1) _ rfl (nil_set3 HE.out.2.1 _ _) (by kernel_rfl) _ rfl) rfl ⟨below_set2 HE.out.1 (Nat.le_succ _) _ _, .inr ⟨HE.out.2.2.1, _, rfl, ?_⟩⟩
        obtain ⟨A8, c8, e8, hRs8⟩ := HE.out.2.2.2.1.rs (a := .slice AN k cN) (b := .slice B2 n2 d2) HS.out.2.2.2.2.2.1 (p := w.heap.size + 1) H3.out.2.2.1.lt
        obtain ⟨A9, c9, e9, hUs9⟩ := us_own (own_set2 (a := .slice AN k cN) (b := .slice B2 n2 d2) HE.out.2.2.2.2 (by omega : w.heap.size + 1 < w.heap.size + 1 + 1)) H.out.2.2.2.2.2.2.2.2.2.1
        exact ⟨A8, c8, A9, c9, by rw [← e8, ← e9, HS.out.2.2.2.2.2.2], hRs8, hUs9⟩
end Go.Proofs.YtmldgfplnacecaaDoor
