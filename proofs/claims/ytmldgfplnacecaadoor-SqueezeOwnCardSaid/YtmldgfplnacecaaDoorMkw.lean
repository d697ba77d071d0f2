/-
  Contract: Make.
-/
import Derived.Test.YtmldgfplnacecaaDoorMks
import Derived.Deep.CutRange
namespace Go.Proofs.YtmldgfplnacecaaDoor
open Go.RowKit Go.Shelf Go.Lib Go.Maps Go.Sort

theorem many_parts {g : List Int} (h : manyL g ≠ 0) : g.length = 37 ∧ (∀ x ∈ g, 0 ≤ x ∧ x < manyL g) ∧ 0 < manyL g ∧ manyL g ≤ 37 := by
  unfold manyL at *
  split at h
  · rename_i hq
    rw [if_pos hq]
    obtain ⟨m0, m1⟩ := max_small hq.1 hq.2
    refine ⟨hq.1, fun x hx => ?_, by omega, by omega⟩
    have h1 := (many_small hq.1 hq.2 x hx).1
    have h2 := maxP_ge (l := g) g.length (Nat.le_refl _) x (by rw [List.take_length]; exact hx)
    unfold maxL
    omega
  · exact absurd rfl h
theorem setL_all {P : Int → Prop} {g row : List Int} {many : Nat} (h0 : P 0) (hr : ∀ i : Nat, P (row.getD i 0)) : ∀ k, ∀ x ∈ setL g row many k, P x
  | 0, x, hx => by simp [setL] at hx; rw [hx.2]; exact h0
  | k + 1, x, hx => by
    rw [setL] at hx
    rcases List.mem_or_eq_of_mem_set hx with h | h
    · exact setL_all h0 hr k x h
    · rw [h]; exact hr k
theorem getD_all {P : Int → Prop} {l : List Int} (h0 : P 0) (hl : ∀ x ∈ l, P x) (i : Nat) : P (l.getD i 0) := by
  by_cases h : i < l.length
  · obtain ⟨x, hx⟩ := list_at h
    rw [getD_get hx]; exact hl x (List.mem_of_getElem? hx)
  · rw [getD_none (by omega)]; exact h0
theorem i64_zero : i64 0 := by unfold i64; omega
theorem narL_i64 {r g : List Int} {m : Nat} (h : ∀ x ∈ r, i64 x) : ∀ x ∈ narL r g m, i64 x := setL_all i64_zero (getD_all i64_zero h) _
theorem widL_i64 {r g : List Int} (h : ∀ x ∈ r, i64 x) : ∀ x ∈ widL r g, i64 x := by
  intro x hx
  unfold widL at hx
  obtain ⟨y, _, rfl⟩ := List.mem_map.1 hx
  exact getD_all i64_zero h _
theorem fit_take {g : List Int} {R : List (List Int)} {k : Nat} {r : List Int} (h : R[k]? = some r) : (R.take (k + 1)).all (fitB g) = ((R.take k).all (fitB g) && fitB g r) := allT_take (fitB g) h
theorem narR_take {g : List Int} {R : List (List Int)} {k : Nat} {r : List Int} (h : R[k]? = some r) : narR (R.take (k + 1)) g = narR (R.take k) g ++ [narL r g (manyL g).toNat] := by
  unfold narR
  rw [List.take_add_one, h, Option.toList_some, List.map_append]
  rfl
def MakeOk (w : World) (g : List Int) (R : List (List Int)) (T : List Nat) (r : Ending) (w' : World) : Prop :=
  Below w.heap.size w w' ∧ ((((manyL g = 0 ∨ rightT R T = false) ∧ r = .returned (.tuple #[.agg nil3, .int .i64 1])) ∨ (manyL g ≠ 0 ∧ rightT R T = true ∧ R.all (fitB g) = false ∧ r = .returned (.tuple #[.agg nil3, .int .i64 4]))) ∨
    (manyL g ≠ 0 ∧ rightT R T = true ∧ R.all (fitB g) = true ∧ ∃ v, r = .returned (.tuple #[v, .int .i64 0]) ∧ NarO w w' g (narR R g) T v))
theorem info70 : (Tryd.prog.info? 70).map (·.size) = some nil3.size := by kernel_rfl
set_option maxHeartbeats 16000000 in
set_option maxRecDepth 100000 in
theorem make_any (g : List Int) (A : Option Addr) (cap : Nat) {R : List (List Int)} {T : List Nat} {v : Value} {w : World} (his : IS w w.heap.size g A cap) (hl : g.length ≤ 1000) (h : TbV w R T v) :
    Calls Tryd.prog 37 #[.slice A g.length cap, v] w (MakeOk w g R T) := by
  obtain ⟨A1, c1, A2, c2, rfl, hR, hT⟩ := h
  obtain ⟨n, hn⟩ : ∃ n, R.length = n := ⟨_, rfl⟩
  obtain ⟨n2, hn2⟩ : ∃ n, T.length = n := ⟨_, rfl⟩
  obtain ⟨N, hN⟩ : ∃ n, g.length = n := ⟨_, rfl⟩
  obtain ⟨bx, hbx⟩ : ∃ b, (#[.slice A1 n c1, .slice A2 n2 c2] : Array Value) = b := ⟨_, rfl⟩
  obtain ⟨W0, hW0⟩ : ∃ W, (w.alloc (.cells #[.slice A1 n c1, .slice A2 n2 c2] 54)).alloc (.cells #[.slice none 0 0, .slice none 0 0, .slice none 0 0] 70) = W := ⟨_, rfl⟩
  have b0 : Below w.heap.size w W0 := by rw [← hW0]; exact (below_new _ _).alloc (by simp) _
  have x0 : Cells W0 w.heap.size 54 bx := by rw [← hW0, ← hbx]; exact (cells_new _ _ _).on (below_new _ _)
  have y0 : Cells W0 (w.heap.size + 1) 70 nil3 := by
    rw [← hW0]
    have := cells_new (w.alloc (.cells #[.slice A1 n c1, .slice A2 n2 c2] 54)) #[.slice none 0 0, .slice none 0 0, .slice none 0 0] 70
    rw [World.size_alloc] at this
    exact this
  have C := many_any g A cap W0 ((his.below b0).mono b0.size) hl
  obtain ⟨M, hM⟩ : ∃ M, manyL g = M := ⟨_, rfl⟩
  have hM37 : 0 ≤ M ∧ M ≤ 37 := by
    rw [← hM]
    by_cases h0 : manyL g = 0
    · rw [h0]; omega
    · have := many_parts h0; omega
  obtain ⟨m0, m1⟩ := hM37
  have H := Lib.hid (And.intro his (And.intro hR (And.intro hT (And.intro hn (And.intro hn2 (And.intro hN (And.intro hM hbx)))))))
  rw [hN, hM] at C
  have HC := Lib.hid (And.intro C (And.intro b0 (And.intro x0 y0)))
  have HW := Lib.hid hW0
  rw [hN, hn, hn2]
  clear C b0 x0 y0 hW0 hn hn2 hN hM his hR hT hbx hl
  go_enter Tryd.func37, Tryd.ntmps37
  go_wp2_with fail
  rw [HW.out]
  refine HC.out.1.mono ?_
  rintro r w2 ⟨rfl, hb⟩
  have b2 : Below w.heap.size w w2 := HC.out.2.1.trans (hb.mono HC.out.2.1.size)
  have x2 := HC.out.2.2.1.on hb
  have y2 := HC.out.2.2.2.on hb
  have HB2 := Lib.hid (And.intro b2 (And.intro x2 y2))
  have s0 := x2.cell 0
  have s1 := x2.cell 1
  rw [← H.out.2.2.2.2.2.2.2] at s0 s1
  have a0 := y2.cell 0
  have a1 := y2.cell 1
  have a2 := y2.cell 2
  simp [nil3] at s0 s1 a0 a1 a2
  have f0 := y2.froz 0
  have f1 := y2.froz 1
  have f2 := y2.froz 2
  have z2 := y2.lt
  have DR := rightD_any (R := R) (T := T) (v := .agg #[.slice A1 R.length c1, .slice A2 T.length c2]) (w := w2) ⟨A1, c1, A2, c2, rfl, (H.out.2.1.below b2).mono b2.size, (H.out.2.2.1.below b2).mono b2.size⟩
  rw [H.out.2.2.2.1, H.out.2.2.2.2.1] at DR
  have HDR := Lib.hid DR
  clear hb b2 x2 y2 DR
  by_cases hM0 : M = 0
  · subst hM0
    clear s0 s1
    go_wp2_with fail
    refine bodyPost_ret (v := .tuple #[.agg nil3, .int .i64 1]) (results_nar rfl _ _ (w.heap.size + 1) nil3 rfl (nil_set _ _ HB2.out.2.2 _ _ _) info70 _ rfl) rfl ⟨below_set3 HB2.out.1 (Nat.le_succ _) _ _ _, .inl (.inl ⟨.inl H.out.2.2.2.2.2.2.1, rfl⟩)⟩
  have j0 : (M == 0) = false := by simpa using hM0
  cases hq : rightT R T with
  | false =>
    rw [hq] at HDR
    have HQ := Lib.hid hq
    clear hq
    go_wp2_with fail
    refine HDR.out.mono ?_
    rintro r w3 ⟨rfl, hb3⟩
    have b3 := HB2.out.1.trans (hb3.mono HB2.out.1.size)
    have y3 := HB2.out.2.2.on hb3
    clear a0 a1 a2 f0 f1 f2 s0 s1 z2
    have a0 := y3.cell 0
    have a1 := y3.cell 1
    have a2 := y3.cell 2
    simp [nil3] at a0 a1 a2
    have f0 := y3.froz 0
    have f1 := y3.froz 1
    have f2 := y3.froz 2
    have z3 := y3.lt
    have HB3 := Lib.hid (And.intro b3 y3)
    clear b3 y3 hb3
    go_wp2_with fail
    refine bodyPost_ret (v := .tuple #[.agg nil3, .int .i64 1]) (results_nar rfl _ _ (w.heap.size + 1) nil3 rfl (nil_set _ _ HB3.out.2 _ _ _) info70 _ rfl) rfl ⟨below_set3 HB3.out.1 (Nat.le_succ _) _ _ _, .inl (.inl ⟨.inr HQ.out, rfl⟩)⟩
  | true =>
    rw [hq] at HDR
    obtain ⟨hg37, hgs, hp1, hp2⟩ := many_parts (g := g) (by rw [H.out.2.2.2.2.2.2.1]; exact hM0)
    rw [H.out.2.2.2.2.2.2.1] at hgs hp1 hp2
    have HQ := Lib.hid (And.intro hq (And.intro hg37 hgs))
    clear hq hg37 hgs a0 a1 a2 f0 f1 f2 z2
    go_wp2_with fail
    refine HDR.out.mono ?_
    rintro r w3 ⟨rfl, hb3⟩
    have b3 := HB2.out.1.trans (hb3.mono HB2.out.1.size)
    have x3 := HB2.out.2.1.on hb3
    have y3 := HB2.out.2.2.on hb3
    have HB3 := Lib.hid (And.intro b3 (And.intro x3 y3))
    clear s0 s1
    have s0 := x3.cell 0
    have s1 := x3.cell 1
    rw [← H.out.2.2.2.2.2.2.2] at s0 s1
    simp at s0 s1
    have z3 := y3.lt
    clear b3 x3 y3 hb3
    go_upto_region 4 with fail
    go_cut [7] from 21 to 26 (fun p wx => ∃ g7 v1 v2, p = .pointer (some ⟨g7, 0, none⟩) ∧ MkS w wx bx g7 g T v1 v2 (.slice none 0 0) [] [])
    case first =>
      have l3 : w.heap.size < w3.heap.size := by omega
      have K1 : ∀ W, Below w3.heap.size w3 W → Calls Tryd.prog 71 #[.slice A N cap] W fun r w' => ∃ A' c', r = .returned (.slice A' N c') ∧ w'.ownsRow w.heap.size 3 1 (.slice A' N c') g.length (intsC g) ∧ Below W.heap.size W w' ∧ Below w3.heap.size w3 w' ∧ (Below w.heap.size w w' ∧ Cells w' w.heap.size 54 bx ∧ Cells w' (w.heap.size + 1) 70 nil3) := by
        intro W hW
        have hb := HB3.out.1.trans (hW.mono HB3.out.1.size)
        have C := clone71_any g A cap W ((H.out.1.below hb).mono hb.size) (by rw [HQ.out.2.1]; omega)
        rw [H.out.2.2.2.2.2.1] at C
        refine C.mono ?_
        rintro r w' ⟨v, rfl, ho, hb'⟩
        rw [H.out.2.2.2.2.2.1]
        have h3 := hW.trans (hb'.mono hW.size)
        obtain ⟨A', c', rfl⟩ := own_shape ho
        exact ⟨A', c', rfl, own_base ho hb.size, hb', h3, hb.trans (hb'.mono hb.size), HB3.out.2.1.on h3, HB3.out.2.2.on h3⟩
      have K2 : ∀ W, Below w3.heap.size w3 W → Calls Tryd.prog 72 #[.slice A2 n2 c2] W fun r w' => ∃ A' c', r = .returned (.slice A' n2 c') ∧ w'.ownsRow w.heap.size 37 1 (.slice A' n2 c') T.length (u64C T) ∧ Below W.heap.size W w' ∧ Below w3.heap.size w3 w' ∧ (Below w.heap.size w w' ∧ Cells w' w.heap.size 54 bx ∧ Cells w' (w.heap.size + 1) 70 nil3) := by
        intro W hW
        have hb := HB3.out.1.trans (hW.mono HB3.out.1.size)
        have C := clone72_any T A2 c2 W ((H.out.2.2.1.below hb).mono hb.size) (by have := right_parts HQ.out.1; omega)
        rw [H.out.2.2.2.2.1] at C
        refine C.mono ?_
        rintro r w' ⟨v, rfl, ho, hb'⟩
        rw [H.out.2.2.2.2.1]
        have h3 := hW.trans (hb'.mono hW.size)
        obtain ⟨A', c', rfl⟩ := own_shape ho
        exact ⟨A', c', rfl, own_base ho hb.size, hb', h3, hb.trans (hb'.mono hb.size), HB3.out.2.1.on h3, HB3.out.2.2.on h3⟩
      have HK1 := Lib.hid K1
      have HK2 := Lib.hid K2
      clear K1 K2
      go_region_with (first
        | (go_at_call 71
           refine (HK1.out _ (by first | exact (Below.refl _ _).drew | exact (Below.refl _ _).drew.alloc (Nat.le_refl _) _ | exact HBb.out.1 | exact HBb.out.1.alloc HBb.out.1.size _)).mono ?_
           rintro r wa ⟨Aa, ca, rfl, oa, ba, b3a, pa⟩
           have t1 := pa.2.1.cell 1
           rw [← H.out.2.2.2.2.2.2.2] at t1
           simp at t1
           (try have oa2 := ownsRow_below (by first | exact HOb.out | exact HOb.out.alloc _) ba)
           (try have HOa2 := Lib.hid oa2)
           (try clear oa2)
           (try have za : Cells wa w3.heap.size 70 nil3 := Cells.on (by first | exact cells_new _ _ _ | exact HZb.out) ba)
           (try have za : Cells wa wb.heap.size 70 nil3 := Cells.on (cells_new _ _ _) ba)
           (try (have q0 := za.cell 0; have q1 := za.cell 1; have q2 := za.cell 2; have p0 := za.froz 0; have p1 := za.froz 1; have p2 := za.froz 2; have zz := za.lt; simp [nil3] at q0 q1 q2; have HZa := Lib.hid za; clear za))
           have HOa := Lib.hid oa
           have HBa := Lib.hid (And.intro b3a pa)
           have la := pa.2.1.lt
           clear oa ba b3a pa)
        | (go_at_call 72
           refine (HK2.out _ (by first | exact (Below.refl _ _).drew | exact (Below.refl _ _).drew.alloc (Nat.le_refl _) _ | exact HBa.out.1 | exact HBa.out.1.alloc HBa.out.1.size _)).mono ?_
           rintro r wb ⟨Ab, cb, rfl, ob, bb, b3b, pb⟩
           have t1 := pb.2.1.cell 1
           rw [← H.out.2.2.2.2.2.2.2] at t1
           simp at t1
           (try have ob1 := ownsRow_below (by first | exact HOa.out | exact HOa.out.alloc _) bb)
           (try have HOb1 := Lib.hid ob1)
           (try clear ob1)
           (try have zb : Cells wb w3.heap.size 70 nil3 := Cells.on (by first | exact cells_new _ _ _ | exact HZa.out) bb)
           (try have zb : Cells wb wa.heap.size 70 nil3 := Cells.on (cells_new _ _ _) bb)
           (try (have q0 := zb.cell 0; have q1 := zb.cell 1; have q2 := zb.cell 2; have p0 := zb.froz 0; have p1 := zb.froz 1; have p2 := zb.froz 2; have zz := zb.lt; simp [nil3] at q0 q1 q2; have HZb := Lib.hid zb; clear zb))
           have HOb := Lib.hid ob
           have HBb := Lib.hid (And.intro b3b pb)
           have lb := pb.2.1.lt
           clear ob bb b3b pb))
      all_goals
        go_wp2_with fail
        go_meet
        first
        | exact ⟨_, _, _, rfl, MkS.start_a HBa.out.2.1 HBa.out.2.2.1 HBa.out.2.2.2 HOa.out HOa2.out⟩
        | exact ⟨_, _, _, rfl, MkS.start_a HBb.out.2.1 HBb.out.2.2.1 HBb.out.2.2.2 HOb1.out HOb.out⟩
        | exact ⟨_, _, _, rfl, MkS.start_b HBa.out.2.1 HBa.out.2.2.1 HBa.out.2.2.2 (by first | omega | (have := HBb.out.1.size; omega)) HZa.out HOa.out HOa2.out⟩
        | exact ⟨_, _, _, rfl, MkS.start_b HBb.out.2.1 HBb.out.2.2.1 HBb.out.2.2.2 (by first | omega | (have := HBa.out.1.size; omega)) HZb.out HOb1.out HOb.out⟩
    case rest =>
      obtain ⟨g7, v1, v2, rfl, hS⟩ := hcut
      clear s0 s1 z3 HDR HC HW
      obtain ⟨B1, d1, rfl⟩ := own_shape hS.o1
      obtain ⟨B2, d2, rfl⟩ := own_shape hS.o2
      obtain ⟨m, rfl⟩ : ∃ m : Nat, M = (m : Int) := ⟨M.toNat, by omega⟩
      have s0 := hS.x.cell 0
      have s1 := hS.x.cell 1
      rw [← H.out.2.2.2.2.2.2.2] at s0 s1
      simp at s0 s1
      obtain ⟨i0, hi, hz0, hz1, hz2⟩ : ∃ i, Tryd.prog.info? 23 = some i ∧ i.zero = some (.slice none 0 0) ∧ i.size = 1 ∧ i.bytes = 24 := ⟨_, rfl, rfl, rfl, rfl⟩
      have HI := Lib.hid (And.intro hi (And.intro hz0 (And.intro hz1 hz2)))
      have HS := Lib.hid hS
      have hn1000 : n ≤ 1000 := by have := (right_parts HQ.out.1).2.1; rw [H.out.2.2.2.1] at this; exact this
      have hmt : (manyL g).toNat = m := by rw [H.out.2.2.2.2.2.2.1]; rfl
      have HM := Lib.hid hmt
      clear hS hi hz0 hz1 hz2 hmt
      go_wp2_with fail
      clear s0 s1
      go_loopw [30] (fun i wr => ∃ (k : Nat) (vN : Value) (xs : List Value), i = .int .i64 (k : Int) ∧ k ≤ n ∧ MkS w wr bx g7 g T (.slice B1 g.length d1) (.slice B2 T.length d2) vN (narR (R.take k) g) xs ∧ (R.take k).all (fitB g) = true) (fun i _ => n - (RowKit.intOf i).toNat)
      case atStart => exact ⟨0, _, [], rfl, by omega, by simpa [narR] using HS.out, rfl⟩
      case round =>
        obtain ⟨k, vN, xs, rfl, hk, hS, hall⟩ := hrel
        by_cases hlt : k < n
        · have i1 : (k : Int) < (n : Int) := by omega
          obtain ⟨r, hr⟩ : ∃ r, R[k]? = some r := ⟨R[k]'(by rw [H.out.2.2.2.1]; exact hlt), List.getElem?_eq_getElem _⟩
          have hrl : r.length = 37 := ((right_parts HQ.out.1).2.2.2 _ _ hr).1
          obtain ⟨b, o, rfl, hbl, hc⟩ := H.out.2.1.r (by rintro rfl; simp at hr)
          obtain ⟨A', c', q1, his', _⟩ := hc k r hr
          have d0 := (hS.b.cell (p := ⟨b, o + k, none⟩) hbl).trans q1
          have hig : IS wr wr.heap.size g A cap := (H.out.1.below hS.b).mono hS.b.size
          have hir : IS wr wr.heap.size r A' c' := (his'.below hS.b).mono hS.b.size
          have hgl := HQ.out.2.1
          have hgN := H.out.2.2.2.2.2.1
          have C := nar_any r g m (by omega) (by omega) HQ.out.2.2 A' A c' cap wr hir hig (by omega)
          have hft := fit_take (g := g) hr
          have hnt := narR_take (g := g) hr
          rw [HM.out] at hnt
          have hfd : fitB g r = decide (widL (narL r g m) g = r) := by unfold fitB; rw [HM.out]
          rw [hrl] at d0 C
          rw [hgN] at C
          have HC := Lib.hid C
          have HK := Lib.hid (And.intro hS (And.intro hall (And.intro hr (And.intro hrl (And.intro hig (And.intro hir (And.intro hgl (And.intro hgN (And.intro hft (And.intro hnt hfd))))))))))
          clear C hS hall hr hrl hig hir hgl hgN hft hnt hfd hc his' q1
          go_wp2_with fail
          refine HC.out.mono ?_
          rintro rr w4 ⟨hb4, u, rfl, hf⟩
          have hnl : (narL r g m).length = m := setL_len _ _ _ _
          obtain ⟨Au, rfl, hiu⟩ := hf.is (by rw [hnl]; omega) (narL_i64 HK.out.2.2.2.2.2.1.i)
          have C2 := wid_any (narL r g m) g (by rw [hnl]; exact HQ.out.2.2) Au A (narL r g m).length cap w4 hiu (HK.out.2.2.2.2.1.on hb4) (by have := HQ.out.2.1; omega)
          rw [hnl, HK.out.2.2.2.2.2.2.2.1] at C2
          rw [hnl] at hf ⊢
          have HC2 := Lib.hid (And.intro C2 (And.intro hb4 hf))
          have hwl : (widL (narL r g m) g).length = 37 := by unfold widL; rw [List.length_map]; exact HQ.out.2.1
          have HWL := Lib.hid (And.intro hwl (widL_i64 (g := g) (narL_i64 (g := g) (m := m) HK.out.2.2.2.2.2.1.i)))
          clear C2 hb4 hf hiu hwl hnl
          go_wp2_with fail
          refine HC2.out.1.mono ?_
          rintro rr w5 ⟨hb5, u2, rfl, hf2⟩
          obtain ⟨Au2, rfl, hiu2⟩ := hf2.is (by rw [HWL.out.1]; omega) HWL.out.2
          have hb35 : Below wr.heap.size wr w5 := HC2.out.2.1.trans (hb5.mono HC2.out.2.1.size)
          have C3 := eq61_any (widL (narL r g m) g) r Au2 A' (widL (narL r g m) g).length c' w5 hiu2 (HK.out.2.2.2.2.2.1.on hb35)
          rw [HWL.out.1, HK.out.2.2.2.1, ← HK.out.2.2.2.2.2.2.2.2.2.2] at C3
          rw [HWL.out.1]
          have HC3 := Lib.hid (And.intro C3 (And.intro hb35 (HC2.out.2.2.on hb5)))
          clear C3 hb35 hb5 hf2 hiu2
          go_wp2_with fail
          refine HC3.out.1.mono ?_
          rintro rr w6 ⟨rfl, hb6⟩
          have hb36 : Below wr.heap.size wr w6 := HC3.out.2.1.trans (hb6.mono HC3.out.2.1.size)
          have hS6 := HK.out.1.on hb36
          have hf6 := HC3.out.2.2.on hb6
          cases hq : fitB g r with
          | false =>
            have hno : R.all (fitB g) = false := allT_miss HK.out.2.2.1 hq
            have a0 := hS6.y.cell 0
            have a1 := hS6.y.cell 1
            have a2 := hS6.y.cell 2
            simp [nil3] at a0 a1 a2
            have f0 := hS6.y.froz 0
            have f1 := hS6.y.froz 1
            have f2 := hS6.y.froz 2
            have z6 := hS6.y.lt
            have HE := Lib.hid (And.intro hno (And.intro hS6.b hS6.y))
            clear hno hS6 hf6 hb36 hb6 hq
            go_wp2_with fail
            refine bodyPost_ret (v := .tuple #[.agg nil3, .int .i64 4]) (results_nar rfl _ _ (w.heap.size + 1) nil3 rfl (nil_set _ _ HE.out.2.2 _ _ _) info70 _ rfl) rfl ⟨below_set3 HE.out.2.1 (Nat.le_succ _) _ _ _, .inl (.inr ⟨by rw [H.out.2.2.2.2.2.2.1]; omega, HQ.out.1, HE.out.1, rfl⟩)⟩
          | true =>
            obtain ⟨BN, dN, hvN⟩ := own_shape hS6.oN
            subst hvN
            have a0 := hS6.s.cell 0
            have a1 := hS6.s.cell 1
            have a2 := hS6.s.cell 2
            simp at a0 a1 a2
            have f1 := hS6.s.froz 1
            have z6 := hS6.s.lt
            have hnl : (narR (R.take k) g).length = k := by unfold narR; rw [List.length_map, List.length_take, H.out.2.2.2.1]; omega
            have al := below_new w6 (.cells #[.slice Au m m] 23)
            have hS7 := hS6.on al
            have hf7 := hf6.on al
            have c7 : (w6.alloc (.cells #[.slice Au m m] 23)).cell? ⟨w6.heap.size, 0, none⟩ = some (.slice Au m m) := by rw [World.cell?_alloc_new]; rfl
            have fr7 : FrL w (w6.alloc (.cells #[.slice Au m m] 23)) (narL r g m) (.slice Au m m) := hf7.from HK.out.1.b.size
            have hnt := HK.out.2.2.2.2.2.2.2.2.2.1
            have hall2 : (R.take (k + 1)).all (fitB g) = true := by rw [HK.out.2.2.2.2.2.2.2.2.1, HK.out.2.1, hq]; rfl
            have hS7b := hS7.b
            have ho7 := hS7.oN
            rw [hnl] at ho7
            rw [hnl] at a1
            have H7 := Lib.hid (And.intro hS7 (And.intro c7 (And.intro fr7 (And.intro hnt (And.intro hall2 (And.intro ho7 (And.intro hS7b hnl)))))))
            clear hS6 hf6 hb36 hb6 hS7 hf7 c7 fr7 hnt hall2 hS7b ho7 hnl al hq
            go_wp2_with (first
              | (at_builtin
                 refine wpList_append_one rfl (.tmp 46) (.tmp 48) 51 rfl w.heap.size 23 i0 (.slice none 0 0) 24 Tryd.underlying51 HI.out.1 HI.out.2.1 HI.out.2.2.1 HI.out.2.2.2 (by decide) rfl _ k _ rfl H7.out.2.2.2.2.2.1 ⟨w6.heap.size, 0, none⟩ (.slice Au m m) rfl H7.out.2.1 rfl (by omega) H7.out.2.2.2.2.2.2.1.size _ rfl ?_
                 intro gq cp w8 ho8 hg8 _ _
                 have s8 : Cells w8 g7 70 #[_, _, _] := (hg8.block g7 H7.out.1.s.lt (fun e => own_not_cells H7.out.2.2.2.2.2.1 H7.out.1.s (by decide) e.symm)).trans H7.out.1.s
                 have e1 := s8.cell 1
                 simp at e1
                 have e2 := s8.froz 1
                 have e3 := s8.lt
                 have hadd := H7.out.1.add (by rw [H7.out.2.2.2.2.2.2.2]; exact ho8) (by rw [H7.out.2.2.2.2.2.2.2]; exact hg8) H7.out.2.2.1
                 have H8 := Lib.hid hadd
                 clear ho8 hg8 s8 hadd)
              | fail)
            go_roundw
            case rel => exact ⟨k + 1, _, _, by go_num, by omega, by rw [H7.out.2.2.2.1]; exact H8.out, H7.out.2.2.2.2.1⟩
            case measure => simp [RowKit.intOf]; omega
        · obtain rfl : k = n := by omega
          have i1 : ¬ (k : Int) < (k : Int) := by omega
          have e1 : R.take k = R := by rw [← H.out.2.2.2.1, List.take_length]
          rw [e1] at hS hall
          obtain ⟨BN, dN, hvN⟩ := own_shape hS.oN
          subst hvN
          have t0 := hS.s.cell 0
          have t1 := hS.s.cell 1
          have t2 := hS.s.cell 2
          have a0 := hS.y.cell 0
          have a1 := hS.y.cell 1
          have a2 := hS.y.cell 2
          simp [nil3] at a0 a1 a2 t0 t1 t2
          have f0 := hS.y.froz 0
          have f1 := hS.y.froz 1
          have f2 := hS.y.froz 2
          have z0 := hS.y.lt
          have hD := hS.done
          have hy0 : m ≠ 0 := by omega
          have HD := Lib.hid (And.intro hD hall)
          clear hS hD hall e1
          go_wp2_with fail
          refine bodyPost_ret (v := .tuple #[.agg _, .int .i64 0]) (results_nar rfl _ _ (w.heap.size + 1) _ rfl HD.out.1.1 (by kernel_rfl) _ rfl) rfl ⟨HD.out.1.2.1, .inr ⟨by rw [H.out.2.2.2.2.2.2.1]; omega, HQ.out.1, HD.out.2, _, rfl, HD.out.1.2.2⟩⟩
end Go.Proofs.YtmldgfplnacecaaDoor
