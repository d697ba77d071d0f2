/-
  Contract: the document's Wide.
-/
import Derived.Test.YtmldgfplnacecaaDoorWid
import Derived.Test.YtmldgfplnacecaaDoorRmn
import Derived.Test.YtmldgfplnacecaaDoorRrt
namespace Go.Proofs.YtmldgfplnacecaaDoor
open Go.RowKit Go.Shelf Go.Lib Go.Maps Go.Sort

theorem results_two57 {fn : Func} {p u : Tmp} (h : fn.results = #[.cell p 57, .tmp u]) (tmps : Array Value) (w : World) (g : Nat) (cs : Array Value)
    (hp : tmps.getD p undef = .pointer (some ⟨g, 0, none⟩)) (hg : Cells w g 57 cs) (hi : (Tryd.prog.info? 57).map (·.size) = some cs.size) (x : Value) (hx : tmps.getD u undef = x) :
    (results fn tmps).run Tryd.prog w = .ok (.tuple #[.agg cs, x]) w := by
  rw [results_cell_tmp h, hp, hx]
  have := run_loadVar_row (P := Tryd.prog) w g 57 57 cs (0, 0) _ hg Tryd.underlying57 rfl hi
  simp [asAddr, this, Result.andThen]
theorem info57 : (Tryd.prog.info? 57).map (·.size) = some nil2.size := by kernel_rfl
theorem OwnI.drew {w : World} {B : Nat} {l : List Int} {v : Value} (h : OwnI w B l v) : OwnI w.drew B l v := h
set_option maxHeartbeats 16000000 in
set_option maxRecDepth 100000 in
theorem rwide_any {g : List Int} {R : List (List Int)} {T : List Nat} {v : Value} {w : World} (h : NwV w g R T v) (hgl : g.length ≤ 1000) (hRl : R.length ≤ 1000) : Calls Tryd.prog 42 #[v] w (WideOk w g R T) := by
  obtain ⟨A, c, A1, c1, A2, c2, rfl, hI, hR, hU⟩ := h
  obtain ⟨n, hn⟩ : ∃ n, R.length = n := ⟨_, rfl⟩
  obtain ⟨n2, hn2⟩ : ∃ n, T.length = n := ⟨_, rfl⟩
  obtain ⟨N, hN⟩ : ∃ n, g.length = n := ⟨_, rfl⟩
  obtain ⟨bx, hbx⟩ : ∃ b, (#[.slice A N c, .slice A1 n c1, .slice A2 n2 c2] : Array Value) = b := ⟨_, rfl⟩
  obtain ⟨W0, hW0⟩ : ∃ W, (w.alloc (.cells #[.slice A N c, .slice A1 n c1, .slice A2 n2 c2] 74)).alloc (.cells #[.slice none 0 0, .slice none 0 0] 57) = W := ⟨_, rfl⟩
  have b0 : Below w.heap.size w W0 := by rw [← hW0]; exact (below_new _ _).alloc (by simp) _
  have x0 : Cells W0 w.heap.size 74 bx := by rw [← hW0, ← hbx]; exact (cells_new _ _ _).on (below_new _ _)
  have y0 : Cells W0 (w.heap.size + 1) 57 nil2 := by
    rw [← hW0]
    have := cells_new (w.alloc (.cells #[.slice A N c, .slice A1 n c1, .slice A2 n2 c2] 74)) #[.slice none 0 0, .slice none 0 0] 57
    rw [World.size_alloc] at this
    exact this
  have hnm : n ≤ 1000 := by rw [← hn]; exact hRl
  have KI : ∀ W, Below w.heap.size w W → IS W W.heap.size g A c := fun W hW => (hI.below hW).mono hW.size
  have KU : ∀ W, Below w.heap.size w W → UsAt W W.heap.size T A2 c2 := fun W hW => (hU.below hW).mono hW.size
  have C := rmany_any g A c W0 (KI W0 b0) hgl
  obtain ⟨M, hM⟩ : ∃ M, manyL g = M := ⟨_, rfl⟩
  rw [hN, hM] at C
  have e0 := x0.cell 0
  have e2 := x0.cell 2
  rw [← hbx] at e0 e2
  simp at e0 e2
  have st := WdS.start (ts := 57) W0 (.slice A2 n2 c2)
  have hps : manyL g ≠ 0 → g.length = 37 ∧ ∀ x ∈ g, 0 ≤ x ∧ x < manyL g := fun h => ⟨(many_parts h).1, (many_parts h).2.1⟩
  rw [hM, hN] at hps
  have l3 := y0.lt
  have l4 := x0.lt
  have HC := Lib.hid (And.intro C (And.intro b0 (And.intro x0 (And.intro y0 st))))
  have H := Lib.hid (And.intro KI (And.intro KU (And.intro hR (And.intro hn (And.intro hn2 (And.intro hN (And.intro hM (And.intro hbx (And.intro hR.ints (And.intro hU.i (And.intro hI (And.intro hgl hps))))))))))))
  have HW := Lib.hid hW0
  obtain ⟨i23, h23, z23, s23, b23⟩ := info_parts info23
  have HI := Lib.hid (And.intro h23 (And.intro z23 (And.intro s23 b23)))
  obtain ⟨i3, hi3, z3, s3, b3⟩ := info_parts info3
  have HI3 := Lib.hid (And.intro hi3 (And.intro z3 (And.intro s3 b3)))
  rw [hn, hn2, hN]
  clear C b0 x0 y0 st hW0 hn hn2 hN hM hI hR hU hbx hgl hRl KI KU h23 z23 s23 b23 hi3 z3 s3 b3 hps
  go_enter Tryd.func42, Tryd.ntmps42
  go_wp2_with fail
  rw [HW.out]
  refine HC.out.1.mono ?_
  rintro r w2 ⟨rfl, e9⟩
  obtain rfl := e9.symm
  clear e9
  go_wp2_with fail
  clear e0 e2
  go_loopw [6, 7, 8] (fun i _ _ wr => ∃ (k : Nat) (vN : Value) (xs : List Value), i = .int .i64 (k : Int) ∧ k ≤ n ∧ WdS 57 W0 wr vN (.slice A2 n2 c2) (widR (R.take k) g) xs ∧ (R.take k).all (lenB g) = true) (fun i _ _ _ => n - (RowKit.intOf i).toNat)
  case atStart => exact ⟨0, _, [], rfl, by omega, HC.out.2.2.2.2, rfl⟩
  case round =>
    obtain ⟨wo, rfl⟩ : ∃ wo : World, wo = wr := ⟨_, rfl⟩
    obtain ⟨k, vN, xs, rfl, hk, hS, hall⟩ := hrel
    have bw : Below w.heap.size w wo := HC.out.2.1.trans (hS.b.mono HC.out.2.1.size)
    have xw : Cells wo w.heap.size 74 bx := (hS.b.block _ HC.out.2.2.1.lt).trans HC.out.2.2.1
    have yw : Cells wo (w.heap.size + 1) 57 nil2 := (hS.b.block _ HC.out.2.2.2.1.lt).trans HC.out.2.2.2.1
    have s1 := xw.cell 1
    rw [← H.out.2.2.2.2.2.2.2.1] at s1
    simp at s1
    by_cases hlt : k < n
    · have i1 : (k : Int) < (n : Int) := by omega
      by_cases hM0 : M = 0
      · subst hM0
        have a0 := yw.cell 0
        have a1 := yw.cell 1
        simp [nil2] at a0 a1
        have f0 := yw.froz 0
        have f1 := yw.froz 1
        have z2 := yw.lt
        have HE := Lib.hid (And.intro bw yw)
        clear bw xw yw hS hall
        go_wp2_with fail
        refine bodyPost_ret (v := .tuple #[.agg nil2, .bool false]) (results_two57 rfl _ _ (w.heap.size + 1) nil2 rfl (nil_set3 HE.out.2 _ _) info57 _ rfl) rfl ⟨below_set2 HE.out.1 (Nat.le_succ _) _ _, .inl ⟨wideB_none H.out.2.2.2.2.2.2.1, rfl⟩⟩
      have j0 : (M == 0) = false := by simpa using hM0
      obtain ⟨r, hr⟩ : ∃ r, R[k]? = some r := ⟨R[k]'(by rw [H.out.2.2.2.1]; exact hlt), List.getElem?_eq_getElem _⟩
      obtain ⟨b, o, rfl, hbl, hc⟩ := H.out.2.2.1.r (by rintro rfl; simp at hr)
      obtain ⟨A', c', q1, his, _⟩ := hc k r hr
      have d0 := (bw.cell (p := ⟨b, o + k, none⟩) hbl).trans q1
      obtain ⟨l, hl⟩ : ∃ l, r.length = l := ⟨_, rfl⟩
      rw [hl] at d0
      by_cases hlm : (l : Int) = M
      · have j1 : ((l : Int) != M) = false := by simpa using hlm
        have j2 : ((l : Int) == M) = true := by simpa using hlm
        have hlen : lenB g r = true := by unfold lenB; rw [hl, H.out.2.2.2.2.2.2.1]; simpa using hlm
        have hall2 : (R.take (k + 1)).all (lenB g) = true := by rw [allT_take (lenB g) hr, hall, hlen]; rfl
        have hwt := widR_take (g := g) hr
        have hnw : (widR (R.take k) g).length = k := by rw [widR_len, List.length_take, H.out.2.2.2.1]; omega
        obtain ⟨BN, dN, rfl⟩ := own_shape hS.oN
        rw [hnw] at hS
        obtain ⟨rows, hrows⟩ : ∃ q, widR (R.take k) g = q := ⟨_, rfl⟩
        rw [hrows] at hS hwt hnw
        obtain ⟨hg37, hgs⟩ := H.out.2.2.2.2.2.2.2.2.2.2.2.2 hM0
        have hwl : (widL r g).length = 37 := by rw [widL_len, H.out.2.2.2.2.2.1]; exact hg37
        have hwi : ∀ x ∈ widL r g, i64 x := widL_i64 his.i
        have hwg : ∀ (j : Nat) (x : Int), g[j]? = some x → (widL r g)[j]? = some (r.getD x.toNat 0) := fun j x hx => by unfold widL; rw [List.getElem?_map, hx]; rfl
        obtain ⟨L, hL⟩ : ∃ L, widL r g = L := ⟨_, rfl⟩
        rw [hL] at hwt hwl hwi hwg
        have h00 : OwnI wo wo.heap.size (L.take 0) (.slice none 0 0) := ⟨rfl, .inl ⟨rfl, rfl⟩⟩
        have HK := Lib.hid (And.intro hS (And.intro hall2 (And.intro hwt (And.intro hnw (And.intro bw (And.intro xw (And.intro his (And.intro hl (And.intro hgs (And.intro hwl (And.intro hwi (And.intro hwg h00))))))))))))
        have HR := Lib.hid (And.intro hr (And.intro d0 hg37))
        clear hS hall2 hwt hnw bw xw yw his hl hgs hwl hwi hwg h00 hall hlen hr hL hrows hc q1 hg37
        go_wp2_with fail
        clear s1 d0
        go_loopw [7, 8] (fun v7 x wi => ∃ j : Nat, x = .int .i64 (j : Int) ∧ j ≤ 37 ∧ OwnI wi wo.heap.size (L.take j) v7 ∧ Below wo.heap.size wo wi) (fun _ x _ => 37 - (RowKit.intOf x).toNat)
        case atStart => exact ⟨0, rfl, by omega, HK.out.2.2.2.2.2.2.2.2.2.2.2.2, Below.refl _ _⟩
        case round =>
          obtain ⟨j, rfl, hj, hown, hb⟩ := hrel
          have htl : (L.take j).length = j := by rw [List.length_take, HK.out.2.2.2.2.2.2.2.2.2.1]; omega
          obtain ⟨A7, c7, rfl⟩ := own_shape hown
          by_cases hj37 : j < 37
          · have i2 : (j : Int) < 37 := by omega
            obtain ⟨x, hx⟩ := list_at (xs := g) (i := j) (by rw [H.out.2.2.2.2.2.1, HR.out.2.2]; exact hj37)
            obtain ⟨p0, p1⟩ := HK.out.2.2.2.2.2.2.2.2.1 x (List.mem_of_getElem? hx)
            obtain ⟨q, rfl⟩ : ∃ q : Nat, x = (q : Int) := ⟨x.toNat, by omega⟩
            have hql : q < l := by omega
            have k3 : (q : Int) < (l : Int) := by omega
            have k4 : (j : Int) < (N : Int) := by have := H.out.2.2.2.2.2.1; have := HR.out.2.2; omega
            obtain ⟨y, hy⟩ := list_at (xs := r) (i := q) (by rw [HK.out.2.2.2.2.2.2.2.1]; exact hql)
            have hLj := HK.out.2.2.2.2.2.2.2.2.2.2.2.1 j q hx
            rw [Int.toNat_natCast, getD_get hy] at hLj
            obtain ⟨b4, o4, rfl, hbl4, hcx⟩ := H.out.2.2.2.2.2.2.2.2.2.2.1.r (by rintro rfl; simp at hx)
            obtain ⟨b3, o3, rfl, hbl3, hcz⟩ := HK.out.2.2.2.2.2.2.1.r (by rintro rfl; simp at hy)
            have bi := HK.out.2.2.2.2.1.trans (hb.mono HK.out.2.2.2.2.1.size)
            have d0 := (hb.cell (p := ⟨b, o + k, none⟩) (Nat.lt_of_lt_of_le hbl HK.out.2.2.2.2.1.size)).trans HR.out.2.1
            have d1 := (bi.cell (p := ⟨b4, o4 + j, none⟩) hbl4).trans (hcx j q hx)
            have d2 := (bi.cell (p := ⟨b3, o3 + q, none⟩) hbl3).trans (hcz q y hy)
            have xi := HK.out.2.2.2.2.2.1.on hb
            have s0 := xi.cell 0
            have s1 := xi.cell 1
            rw [← H.out.2.2.2.2.2.2.2.1] at s0 s1
            simp at s0 s1
            have e1 : L.take (j + 1) = L.take j ++ [y] := by rw [List.take_add_one, hLj]; rfl
            obtain ⟨ob, hob⟩ : ∃ o : Obj, .cells #[.int .i64 y] 3 = o := ⟨_, rfl⟩
            have hown2 : ((wr.alloc ob).drew).ownsRow wo.heap.size 3 1 (.slice A7 (L.take j).length c7) (L.take j).length (intsC (L.take j)) := World.ownsRow.alloc hown ob
            have hnews : ∀ (t : Nat) u, ([.int .i64 y] : List Value)[t]? = some u → ((wr.alloc ob).drew).cell? ((⟨wr.heap.size, 0, none⟩ : Addr).add t) = some u := fun t u hu => by
              rw [← hob, add0]
              show (wr.alloc (.cells #[.int .i64 y] 3)).cell? ⟨wr.heap.size, t, none⟩ = some u
              rw [World.cell?_alloc_new]
              simpa using hu
            have hone : ∀ u ∈ ([.int .i64 y] : List Value), u.oneCell' = true := fun u hu => by simp at hu; subst hu; rfl
            have hsz : wo.heap.size ≤ (wr.alloc ob).drew.heap.size := by
              have := hb.size
              show wo.heap.size ≤ (wr.alloc ob).heap.size
              simp; omega
            have hsz2 : (wr.alloc ob).drew.heap.size = wr.heap.size + 1 := by show (wr.alloc ob).heap.size = _; simp
            rw [htl] at hown2 ⊢
            have hnx : ∀ g2 cp w5, w5.ownsRow wo.heap.size 3 1 (.slice (some ⟨g2, 0, none⟩) (j + 1) cp) (j + 1) (intsC (L.take j) ++ [.int .i64 y]) → (wr.alloc ob).drew.grownBy w5 (Value.slice A7 j c7).ownBlock →
                ∃ j' : Nat, Value.int .i64 ((j : Int) + 1) = .int .i64 (j' : Int) ∧ j' ≤ 37 ∧ OwnI w5 wo.heap.size (L.take j') (.slice (some ⟨g2, 0, none⟩) (j + 1) cp) ∧ Below wo.heap.size wo w5 := fun g2 cp w5 k1 k2 => by
              have k2' : (wr.alloc ob).grownBy w5 (Value.slice A7 j c7).ownBlock := ⟨k2.os, k2.tape, k2.output, k2.size, k2.block⟩
              refine ⟨j + 1, by simp, by omega, ?_, (hb.alloc hb.size ob).trans (below_grown' k2' (World.ownsRow.alloc (by rw [htl] at hown; exact hown) ob) (by simp; have := hb.size; omega))⟩
              unfold OwnI
              rw [e1, List.length_append, htl, intsC_append]
              exact k1
            have HO := Lib.hid (And.intro hown2 (And.intro hnews (And.intro hone (And.intro hsz (And.intro hsz2 hnx)))))
            rw [← hob] at HO
            clear hown2 hnews hone hsz hsz2 hnx e1 hown hb bi xi hLj hx hy hcx hcz htl hob
            go_wp2_with fail
            go_region_law (refine step_append_lies _ rfl (.tmp 39) (.tmp 52) 23 rfl wo.heap.size 3 i3 (.int .i64 0) 1 8 Tryd.underlying23 HI3.out.1 HI3.out.2.1 HI3.out.2.2.1 HI3.out.2.2.2 (by decide) (by decide) (.slice A7 j c7) j (intsC (L.take j)) rfl HO.out.1 ⟨wr.heap.size, 0, none⟩ 1 1 [.int .i64 y] rfl rfl HO.out.2.1 HO.out.2.2.1 (by decide) (by unfold maxLen; omega) (by omega) HO.out.2.2.2.1 (wr.heap.size + 1) HO.out.2.2.2.2.1 ?_
                           intro g2 cp w5 ho5 hg5 hat5 hl5
                           have HEND := Lib.hid (HO.out.2.2.2.2.2 g2 cp w5 ho5 hg5)
                           clear ho5 hg5 hat5)
            all_goals
              go_wp2_with fail
              go_roundw
              case rel => exact HEND.out
              case measure => simp [RowKit.intOf]; omega
          · obtain rfl : j = 37 := by omega
            have i2 : ¬ (37 : Int) < 37 := by decide
            have e1 : L.take 37 = L := by rw [← HK.out.2.2.2.2.2.2.2.2.2.1, List.take_length]
            rw [e1, HK.out.2.2.2.2.2.2.2.2.2.1] at hown
            rw [htl]
            have hS2 := HK.out.1.on hb
            have al := below_new wr (.cells #[.slice A7 37 c7] 23)
            have hS7 := hS2.on al
            have hu7 : OwnI (wr.alloc (.cells #[.slice A7 37 c7] 23)) W0.heap.size L (.slice A7 37 c7) := own_inis (hown.below al) HK.out.1.b.size
            have c7' : (wr.alloc (.cells #[.slice A7 37 c7] 23)).cell? ⟨wr.heap.size, 0, none⟩ = some (.slice A7 37 c7) := by rw [World.cell?_alloc_new]; rfl
            have a0 := hS2.s.cell 0
            simp at a0
            have f0 := hS2.s.froz 0
            have z6 := hS2.s.lt
            have ho7 := hS7.oN
            rw [HK.out.2.2.2.1] at ho7
            have H7 := Lib.hid (And.intro hS7 (And.intro c7' (And.intro hu7 ho7)))
            clear hS2 hown hb hS7 c7' hu7 ho7 al e1 htl
            go_wp2_with (first
              | (at_builtin
                 refine wpList_append_one rfl (.tmp 55) (.tmp 57) 51 rfl W0.heap.size 23 i23 (.slice none 0 0) 24 Tryd.underlying51 HI.out.1 HI.out.2.1 HI.out.2.2.1 HI.out.2.2.2 (by decide) rfl _ k _ rfl H7.out.2.2.2 ⟨wr.heap.size, 0, none⟩ (.slice A7 37 c7) rfl H7.out.2.1 rfl (by omega) H7.out.1.b.size _ rfl ?_)
              | fail)
            intro gq cp w8 ho8 hg8 _ _
            obtain ⟨s8, hadd⟩ := H7.out.1.add (by decide) (by decide) (by rw [HK.out.2.2.2.1]; exact ho8) hg8 H7.out.2.2.1
            have e1 := s8.cell 0
            simp at e1
            have e2 := s8.froz 0
            have e3 := s8.lt
            have hend : ∃ (k' : Nat) (vN' : Value) (xs' : List Value), Value.int .i64 ((k : Int) + 1) = .int .i64 (k' : Int) ∧ k' ≤ n ∧ WdS 57 W0 (w8.setCell ⟨W0.heap.size, 0, none⟩ (.slice (some ⟨gq, 0, none⟩) (k + 1) cp)) vN' (.slice A2 n2 c2) (widR (R.take k') g) xs' ∧ (R.take k').all (lenB g) = true :=
              ⟨k + 1, _, _, by simp, by omega, by rw [HK.out.2.2.1]; exact hadd, HK.out.2.1⟩
            have HEND := Lib.hid hend
            clear ho8 hg8 s8 hadd hend
            go_wp2_with fail
            go_roundw
            case rel => exact HEND.out
            case measure => simp [RowKit.intOf]; omega
      · have j1 : ((l : Int) != M) = true := by simpa using hlm
        have j2 : ((l : Int) == M) = false := by simpa using hlm
        have hno : lenB g r = false := by unfold lenB; rw [hl, H.out.2.2.2.2.2.2.1]; simpa using hlm
        have a0 := yw.cell 0
        have a1 := yw.cell 1
        simp [nil2] at a0 a1
        have f0 := yw.froz 0
        have f1 := yw.froz 1
        have z2 := yw.lt
        have HE := Lib.hid (And.intro bw (And.intro yw (wideB_miss (T := T) hr hno)))
        clear bw xw yw hS hall hr hc q1 his hno
        go_wp2_with fail
        refine bodyPost_ret (v := .tuple #[.agg nil2, .bool false]) (results_two57 rfl _ _ (w.heap.size + 1) nil2 rfl (nil_set3 HE.out.2.1 _ _) info57 _ rfl) rfl ⟨below_set2 HE.out.1 (Nat.le_succ _) _ _, .inl ⟨HE.out.2.2, rfl⟩⟩
    · obtain rfl : k = n := by omega
      have i1 : ¬ (k : Int) < (k : Int) := by omega
      by_cases hM0 : M = 0
      · subst hM0
        have a0 := yw.cell 0
        have a1 := yw.cell 1
        simp [nil2] at a0 a1
        have f0 := yw.froz 0
        have f1 := yw.froz 1
        have z2 := yw.lt
        have HE := Lib.hid (And.intro bw yw)
        clear bw xw yw hS hall
        go_wp2_with fail
        refine bodyPost_ret (v := .tuple #[.agg nil2, .bool false]) (results_two57 rfl _ _ (w.heap.size + 1) nil2 rfl (nil_set3 HE.out.2 _ _) info57 _ rfl) rfl ⟨below_set2 HE.out.1 (Nat.le_succ _) _ _, .inl ⟨wideB_none H.out.2.2.2.2.2.2.1, rfl⟩⟩
      have j0 : (M == 0) = false := by simpa using hM0
      have hmz : manyL g ≠ 0 := by rw [H.out.2.2.2.2.2.2.1]; exact hM0
      have e9 : R.take k = R := by rw [← H.out.2.2.2.1, List.take_length]
      rw [e9] at hS hall
      have hri := widR_ints (g := g) H.out.2.2.2.2.2.2.2.2.1
      obtain ⟨AN, cN, rfl, hRs⟩ := hS.rs0 hri
      have hnw : (widR R g).length = k := by rw [widR_len]; exact H.out.2.2.2.1
      have hTb : TbV wo (widR R g) T (.agg #[.slice AN (widR R g).length cN, .slice A2 T.length c2]) := ⟨AN, cN, A2, c2, rfl, hRs, H.out.2.1 wo bw⟩
      have D := refRightD_any hTb
      have t0 := hS.s.cell 0
      have t1 := hS.s.cell 1
      simp at t0 t1
      rw [hnw] at t0
      rw [hnw, H.out.2.2.2.2.1] at D
      have HD := Lib.hid D
      have HS := Lib.hid (And.intro hS (And.intro hall (And.intro bw (And.intro yw (And.intro hmz (And.intro hri hnw))))))
      clear hS hall bw xw yw hRs hTb D hri e9 hnw hmz
      go_wp2_with fail
      refine HD.out.mono ?_
      rintro rr w5 ⟨rfl, hb5⟩
      have hS5 := HS.out.1.on hb5
      have y5 := HS.out.2.2.2.1.on hb5
      have b5 := HS.out.2.2.1.trans (hb5.mono HS.out.2.2.1.size)
      have a0 := y5.cell 0
      have a1 := y5.cell 1
      simp [nil2] at a0 a1
      have f0 := y5.froz 0
      have f1 := y5.froz 1
      have z5 := y5.lt
      have hwl := wideB_last (T := T) HS.out.2.2.2.2.1 HS.out.2.1
      clear t0 t1
      cases hq : rightT (widR R g) T with
      | false =>
        have HE := Lib.hid (And.intro b5 (And.intro y5 (hwl.trans hq)))
        clear b5 y5 hS5 hb5 hwl hq
        go_wp2_with fail
        refine bodyPost_ret (v := .tuple #[.agg nil2, .bool false]) (results_two57 rfl _ _ (w.heap.size + 1) nil2 rfl (nil_set3 HE.out.2.1 _ _) info57 _ rfl) rfl ⟨below_set2 HE.out.1 (Nat.le_succ _) _ _, .inl ⟨HE.out.2.2, rfl⟩⟩
      | true =>
        have t0 := hS5.s.cell 0
        have t1 := hS5.s.cell 1
        rw [HS.out.2.2.2.2.2.2] at t0
        simp at t0 t1
        have HE := Lib.hid (And.intro b5 (And.intro y5 (And.intro (hwl.trans hq) hS5)))
        clear b5 y5 hS5 hb5 hwl hq
        go_wp2_with fail
        refine bodyPost_ret (v := .tuple #[.agg _, .bool true]) (results_two57 rfl _ _ (w.heap.size + 1) _ rfl (nil_set3 HE.out.2.1 _ _) (by kernel_rfl) _ rfl) rfl ⟨below_set2 HE.out.1 (Nat.le_succ _) _ _, .inr ⟨HE.out.2.2.1, _, rfl, ?_⟩⟩
        obtain ⟨A8, c8, e8, hRs8⟩ := HE.out.2.2.2.rs (a := .slice AN k cN) (b := .slice A2 n2 c2) HS.out.2.2.2.2.2.1 (p := w.heap.size + 1) l3
        exact ⟨A8, c8, A2, c2, by rw [← e8, HS.out.2.2.2.2.2.2, H.out.2.2.2.2.1], hRs8, H.out.2.1 _ (below_set2 HE.out.1 (Nat.le_succ _) _ _)⟩
end Go.Proofs.YtmldgfplnacecaaDoor
