/-
  SqueezeGroups with what the row gives.
-/
import Derived.Deep.AppendLies
import Derived.Test.YtmldgfplnacecaaDoorRgp
import Derived.Test.YtmldgfplnacecaaDoorAwk
namespace Go.Proofs.YtmldgfplnacecaaDoor
open Go.RowKit Go.Shelf Go.Lib Go.Maps Go.Sort

/-- The tables so far, copied. -/
structure CpS (w wr : World) (L : List Tab) (b o k : Nat) (v : Value) (xs : List Value) : Prop where
  bl : Below w.heap.size w wr
  ow : wr.ownsRow w.heap.size 54 2 v k xs
  el : ∀ i, i < k → xs[i * 2]? = w.cell? ⟨b, o + i * 2, none⟩ ∧ xs[i * 2 + 1]? = w.cell? ⟨b, o + i * 2 + 1, none⟩
theorem CpS.ds {w wr : World} {L : List Tab} {b o k : Nat} {v : Value} {xs : List Value} (h : CpS w wr L b o k v xs) (hk : k = L.length) {A0 : Option Addr} (hA : L ≠ [] → A0 = some ⟨b, o, none⟩) (hD : DsAt w w.heap.size L A0) : ∃ A c, v = .slice A k c ∧ k ≤ c ∧ DsAt wr wr.heap.size L A := by
  rcases h.ow.2 with ⟨h1, h2⟩ | ⟨g, cap, cur, h1, h2, h3, h4, h5, h6, h7⟩
  · subst h2
    have : L = [] := List.eq_nil_of_length_eq_zero hk.symm
    subst this
    exact ⟨none, 0, h1, Nat.le_refl _, fun i t ht => by simp at ht⟩
  · refine ⟨_, cap, h1, h4, fun i t ht => ?_⟩
    obtain ⟨b', o', A1, c1, A2, c2, e, q1, q2, q3, q4, q5⟩ := hD i t ht
    rw [hA (by rintro rfl; simp at ht)] at e
    injection e with e
    injection e with e1 e2
    subst e1; subst e2
    have hi : i < k := by have := (List.getElem?_eq_some_iff.1 ht).1; omega
    obtain ⟨e1, e2⟩ := h.el i hi
    rw [q2] at e1
    rw [q3] at e2
    have r1 := World.ownsRow.cells h.ow (g := g) (by rw [h1]; rfl) (i * 2) _ e1
    have r2 := World.ownsRow.cells h.ow (g := g) (by rw [h1]; rfl) (i * 2 + 1) _ e2
    rw [add0] at r1 r2
    have hg : g < wr.heap.size := (Array.getElem?_eq_some_iff.1 h3).1
    exact ⟨g, 0, A1, c1, A2, c2, rfl, hg, by rw [Nat.zero_add]; exact r1, by rw [Nat.zero_add]; exact r2, (q4.below h.bl).mono h.bl.size, (q5.below h.bl).mono h.bl.size⟩
theorem CpS.more {w wr w' : World} {L : List Tab} {b o k : Nat} {v v' u0 u1 : Value} {xs : List Value} {ob : Obj} (h : CpS w wr L b o k v xs) (h0 : w.cell? ⟨b, o + k * 2, none⟩ = some u0) (h1 : w.cell? ⟨b, o + k * 2 + 1, none⟩ = some u1)
    (ho : w'.ownsRow w.heap.size 54 2 v' (k + 1) (xs ++ [u0, u1])) (hg : (wr.alloc ob).grownBy w' v.ownBlock) : CpS w w' L b o (k + 1) v' (xs ++ [u0, u1]) := by
  have hxl : xs.length = k * 2 := h.ow.1
  refine ⟨?_, ho, fun i hi => ?_⟩
  · have b1 := h.bl.alloc h.bl.size ob
    refine ⟨hg.os.trans b1.os, hg.tape.trans b1.tape, hg.output.trans b1.output, Nat.le_trans b1.size hg.size, fun q hq => ?_⟩
    refine (hg.block q (by have := b1.size; omega) (fun e => ?_)).trans (b1.block q hq)
    have := (own_block_lt h.ow q e.symm).1
    omega
  · rcases Nat.lt_or_ge i k with hlt | hge
    · obtain ⟨e1, e2⟩ := h.el i hlt
      rw [List.getElem?_append_left (by omega), List.getElem?_append_left (by omega)]
      exact ⟨e1, e2⟩
    · obtain rfl : i = k := by omega
      rw [h0, h1, List.getElem?_append_right (by omega), List.getElem?_append_right (by omega), hxl]
      exact ⟨by rw [Nat.sub_self]; rfl, by rw [show i * 2 + 1 - i * 2 = 1 by omega]; rfl⟩
set_option maxHeartbeats 8000000 in
set_option maxRecDepth 100000 in
theorem sgroups_any (L : List Tab) (A : Option Addr) (cap : Nat) (w : World) (h : DsAt w w.heap.size L A) (hcap : L.length ≤ cap) (_hm : cap ≤ maxLen) (hP : PW w) :
    Calls Tryd.prog 6 #[.slice A L.length cap] w fun r w' => r = .returned (.bool true) ∧ Below w.heap.size w w' := by
  obtain ⟨N, hN⟩ : ∃ N, L.length = N := ⟨_, rfl⟩
  have KW : ∀ W, Below w.heap.size w W → Calls Tryd.prog 30 #[] W fun r w' => r = .returned (.bool true) ∧ Below W.heap.size W w' := fun W hW => awake_any W (hP.below hW hP.lt)
  have HKW := Lib.hid KW
  unfold maxLen at _hm
  by_cases h4 : N ≤ 4
  · have i4 : ¬ (4 : Int) < (N : Int) := by omega
    obtain ⟨b, o, hA⟩ : ∃ b o, L ≠ [] → A = some ⟨b, o, none⟩ := by
      cases L with
      | nil => exact ⟨0, 0, fun h => absurd rfl h⟩
      | cons t r => obtain ⟨b, o, _, _, _, _, e, _⟩ := h 0 t rfl; exact ⟨b, o, fun _ => e⟩
    have HC := HKW.out w (Below.refl _ _)
    obtain ⟨i0, hi, hz0, hz1, hz2⟩ : ∃ i, Tryd.prog.info? 54 = some i ∧ i.zero = some (.agg #[.slice none 0 0, .slice none 0 0]) ∧ i.size = 2 ∧ i.bytes = 48 := ⟨_, rfl, rfl, rfl, rfl⟩
    have HI := Lib.hid (And.intro hi (And.intro hz0 (And.intro hz1 hz2)))
    have H := Lib.hid (And.intro h (And.intro hN (And.intro hP (And.intro hA hcap))))
    rw [hN] at hcap ⊢
    have HCC := Lib.hid HC
    clear KW HC h hN hP hA hi hz0 hz1 hz2
    go_enter Tryd.func6, Tryd.ntmps6
    go_wp2_with fail
    refine HCC.out.mono ?_
    rintro r w2 ⟨rfl, hb2⟩
    have h0 : CpS w w2 L b o 0 (.slice none 0 0) [] := ⟨hb2, ⟨rfl, .inl ⟨rfl, rfl⟩⟩, fun i hi => by omega⟩
    have H0 := Lib.hid h0
    clear h0 hb2
    go_wp2_with fail
    go_loopw [3, 4] (fun v i wr => ∃ (k : Nat) (xs : List Value), i = .int .i64 (k : Int) ∧ k ≤ N ∧ CpS w wr L b o k v xs) (fun _ i _ => N - (RowKit.intOf i).toNat)
    case atStart => exact ⟨0, [], rfl, by omega, H0.out⟩
    case round =>
      obtain ⟨k, xs, rfl, hk, hS⟩ := hrel
      by_cases hlt : k < N
      · have i1 : (k : Int) < (N : Int) := by omega
        obtain ⟨t, ht⟩ : ∃ t, L[k]? = some t := ⟨L[k]'(by rw [H.out.2.1]; exact hlt), List.getElem?_eq_getElem _⟩
        obtain rfl := H.out.2.2.2.1 (by rintro rfl; simp at ht)
        obtain ⟨b', o', A1, c1, A2, c2, e, hbl, h2, h3, h4', h5⟩ := H.out.1 k t ht
        injection e with e
        injection e with e1 e2
        subst e1; subst e2
        have d0 := (hS.bl.cell (p := ⟨b, o + k * 2, none⟩) hbl).trans h2
        have d1 := (hS.bl.cell (p := ⟨b, o + k * 2 + 1, none⟩) hbl).trans h3
        obtain ⟨R, T⟩ := t
        simp only at h2 h3 h4' h5 d0 d1
        obtain ⟨n, hn⟩ : ∃ n, R.length = n := ⟨_, rfl⟩
        obtain ⟨n2, hn2⟩ : ∃ n, T.length = n := ⟨_, rfl⟩
        have hT : TbV wr R T (.agg #[.slice A1 n c1, .slice A2 n2 c2]) := ⟨A1, c1, A2, c2, by rw [hn, hn2], (h4'.below hS.bl).mono hS.bl.size, (h5.below hS.bl).mono hS.bl.size⟩
        have D := great_tab hT
        have HK := Lib.hid (And.intro hS (And.intro h2 h3))
        have HD := Lib.hid D
        rw [hn] at d0 h2
        rw [hn2] at d1 h3
        have HQ := Lib.hid (And.intro h2 h3)
        clear D hT hS h2 h3 h4' h5 ht hn hn2
        go_wp2_with fail
        refine HD.out.mono ?_
        rintro r w3 ⟨rfl, hb3⟩
        have hb03 := HK.out.1.bl.trans (hb3.mono HK.out.1.bl.size)
        cases hg : greatT R T with
        | true =>
          have HB := Lib.hid hb03
          clear hb3 hb03 hg
          go_wp2_with fail
          go_ret
          exact ⟨rfl, HB.out⟩
        | false =>
          have e0 := (hb03.cell (p := ⟨b, o + k * 2, none⟩) hbl).trans HQ.out.1
          have e1 := (hb03.cell (p := ⟨b, o + k * 2 + 1, none⟩) hbl).trans HQ.out.2
          have D := to_tab A1 A2 n c1 n2 c2 w3
          obtain ⟨Av, cv, rfl⟩ := own_shape HK.out.1.ow
          have hS3 : CpS w w3 L b o k (.slice Av k cv) xs := ⟨hb03, ownsRow_below HK.out.1.ow hb3, HK.out.1.el⟩
          have HD2 := Lib.hid (And.intro D hS3)
          clear D hS3 hb3 hb03 hg d0 d1
          go_wp2_with fail
          refine HD2.out.1.mono ?_
          rintro r w4 ⟨rfl, hb4⟩
          have hS4 : CpS w w4 L b o k (.slice Av k cv) xs := ⟨HD2.out.2.bl.trans (hb4.mono HD2.out.2.bl.size), ownsRow_below HD2.out.2.ow hb4, HD2.out.2.el⟩
          have o5 := ownsRow_below hS4.ow (below_new w4 (.cells #[.slice A1 n c1, .slice A2 n2 c2] 54))
          have hsz := hS4.bl.size
          have hnews : ∀ (j : Nat) u, ([.slice A1 n c1, .slice A2 n2 c2] : List Value)[j]? = some u → (w4.alloc (.cells #[.slice A1 n c1, .slice A2 n2 c2] 54)).cell? ((⟨w4.heap.size, 0, none⟩ : Addr).add j) = some u := fun j u hj => by
            rw [add0, World.cell?_alloc_new]
            simpa using hj
          have hone : ∀ u ∈ ([.slice A1 n c1, .slice A2 n2 c2] : List Value), u.oneCell' = true := fun u hu => by
            simp at hu
            rcases hu with rfl | rfl <;> rfl
          have HE := Lib.hid (And.intro o5 (And.intro hnews (And.intro hone hS4)))
          clear o5 hnews hone hS4 hb4 e0 e1
          go_wp2_with (first
            | (at_builtin
               refine wpList_append_lies _ rfl (.tmp 26) (.tmp 32) 62 rfl w.heap.size 54 i0 (.agg #[.slice none 0 0, .slice none 0 0]) 2 48 Tryd.underlying62 HI.out.1 HI.out.2.1 HI.out.2.2.1 HI.out.2.2.2 rfl (by decide) _ k xs rfl HE.out.1 ⟨w4.heap.size, 0, none⟩ 1 1 [.slice A1 n c1, .slice A2 n2 c2] rfl rfl HE.out.2.1 HE.out.2.2.1 (by decide) (by unfold maxLen; omega) (by omega) (by simp; omega) _ rfl ?_)
            | fail)
          intro g cp w5 ho5 hg5 hat5 hl5
          have hS5 := HE.out.2.2.2.more (k := k) HQ.out.1 HQ.out.2 ho5 hg5
          have hend : ∃ (k' : Nat) (xs' : List Value), Value.int .i64 ((k : Int) + 1) = .int .i64 (k' : Int) ∧ k' ≤ N ∧ CpS w w5 L b o k' (.slice (some ⟨g, 0, none⟩) (k + 1) cp) xs' := ⟨k + 1, _, by simp, by omega, hS5⟩
          have HEND := Lib.hid hend
          clear hend hS5 ho5 hg5 hat5 hl5
          go_wp2_with fail
          go_roundw
          case rel => exact HEND.out
          case measure => simp [RowKit.intOf]; omega
      · obtain rfl : k = N := by omega
        have i1 : ¬ (k : Int) < (k : Int) := by omega
        obtain ⟨Av, cv, rfl, hkc, hds⟩ := hS.ds H.out.2.1.symm H.out.2.2.2.1 H.out.1
        have C := groups_any L Av cv wr hds (by rw [H.out.2.1]; omega) (by rw [H.out.2.1]; exact hkc) (H.out.2.2.1.below hS.bl H.out.2.2.1.lt)
        rw [H.out.2.1] at C
        have HC := Lib.hid (And.intro C hS.bl)
        clear C hds hS
        go_wp2_with fail
        refine HC.out.1.mono ?_
        rintro r w3 ⟨hb3, v, rfl, hf⟩
        have hb03 := HC.out.2.trans (hb3.mono HC.out.2.size)
        have hd3 : DsAt w3 w3.heap.size L A := fun i t ht => by
          obtain ⟨b', o', A1, c1, A2, c2, e, q1, q2, q3, q4, q5⟩ := (H.out.1.below hb03) i t ht
          exact ⟨b', o', A1, c1, A2, c2, e, Nat.lt_of_lt_of_le q1 hb03.size, q2, q3, q4.mono hb03.size, q5.mono hb03.size⟩
        have C2 := rgroups_any L A cap w3 hd3 (by rw [H.out.2.1]; omega) H.out.2.2.2.2
        rw [H.out.2.1] at C2
        have gk := groups_okT L L.length (Nat.le_refl _)
        rw [List.take_length] at gk
        obtain ⟨G, hG⟩ : ∃ G, groupsL L = G := ⟨_, rfl⟩
        rw [hG] at gk hf C2
        have gi : ∀ x ∈ G, i64 x := fun x hx => by have := gk.2 x hx; unfold i64; omega
        have HC2 := Lib.hid (And.intro C2 (And.intro hb03 (And.intro gk (And.intro gi hf))))
        clear C2 hd3 hb3 hb03 gk gi hf hG
        go_wp2_with fail
        refine HC2.out.1.mono ?_
        rintro r w4 ⟨hb4, v4, rfl, ho4⟩
        obtain ⟨Ag, rfl, hig⟩ := (HC2.out.2.2.2.2.on hb4).is (by rw [HC2.out.2.2.1.1]; omega) HC2.out.2.2.2.1
        obtain ⟨Ah, ch, rfl, hih, _⟩ := ho4.is HC2.out.2.2.2.1
        have D := is_any G G Ag Ah G.length ch w4 hig hih
        rw [HC2.out.2.2.1.1] at D
        have e1 : decide (G = G) = true := by simp
        rw [e1] at D
        have hb04 := HC2.out.2.1.trans (hb4.mono HC2.out.2.1.size)
        have HD := Lib.hid (And.intro D (And.intro hb04 (And.intro hig hih)))
        rw [HC2.out.2.2.1.1]
        clear D hb04 hig hih ho4 hb4 e1
        go_wp2_with fail
        refine HD.out.1.mono ?_
        rintro r w5 ⟨rfl, hb5⟩
        have hb05 := HD.out.2.1.trans (hb5.mono HD.out.2.1.size)
        have hig5 := HD.out.2.2.1.on hb5
        have hih5 := HD.out.2.2.2.on hb5
        have D5 := many_any G Ag G.length w5 hig5 (by rw [HC2.out.2.2.1.1]; omega)
        rw [HC2.out.2.2.1.1] at D5
        have HD5 := Lib.hid (And.intro D5 (And.intro hb05 hih5))
        clear D5 hb05 hih5 hig5 hb5
        go_wp2_with fail
        refine HD5.out.1.mono ?_
        rintro r w6 ⟨rfl, hb6⟩
        have hb06 := HD5.out.2.1.trans (hb6.mono HD5.out.2.1.size)
        have D6 := rmany_any G Ah ch w6 (HD5.out.2.2.on hb6) (by rw [HC2.out.2.2.1.1]; omega)
        rw [HC2.out.2.2.1.1] at D6
        obtain ⟨M, hM⟩ : ∃ M, manyL G = M := ⟨_, rfl⟩
        rw [hM] at D6 ⊢
        have HD6 := Lib.hid (And.intro D6 hb06)
        clear D6 hb06 hb6 hM
        go_wp2_with fail
        refine HD6.out.1.mono ?_
        rintro r w7 ⟨rfl, rfl⟩
        have e2 : (M == M) = true := by simp
        go_wp2_with fail
        go_ret
        exact ⟨rfl, HD6.out.2⟩
  · have i4 : (4 : Int) < (N : Int) := by omega
    have HC := Lib.hid (HKW.out w (Below.refl _ _))
    rw [hN]
    clear KW h hN hP hcap
    go_enter Tryd.func6, Tryd.ntmps6
    go_wp2_with fail
    refine HC.out.mono ?_
    rintro r w2 ⟨rfl, hb2⟩
    have HB := Lib.hid hb2
    clear hb2
    go_wp2_with fail
    go_ret
    exact ⟨rfl, HB.out⟩
end Go.Proofs.YtmldgfplnacecaaDoor
