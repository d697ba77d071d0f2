/-
  The walk of NfaCounts.
-/
import Derived.Test.YtlbcicoppglgjaaDoorCnM
import Derived.Test.YtlbcicoppglgjaaDoorAwk
namespace Go.Proofs.YtlbcicoppglgjaaDoor
open Go.RowKit Go.Shelf Go.Lib Go.Great Go.Maps

set_option maxHeartbeats 1000000 in
theorem nil14 (w : World) : Calls Tryd.prog 14 #[.pointer none] w fun r w' => r = .returned (.slice none 0 0) ∧ w' = w := by
  go_enter Tryd.func14, Tryd.ntmps14
  go_wp2_with fail
  go_ret
  exact ⟨rfl, rfl⟩
set_option maxHeartbeats 1000000 in
theorem nil15 (w : World) : Calls Tryd.prog 15 #[.pointer none] w fun r w' => r = .returned (.int .i64 0) ∧ w' = w := by
  go_enter Tryd.func15, Tryd.ntmps15
  go_wp2_with fail
  go_ret
  exact ⟨rfl, rfl⟩
set_option maxHeartbeats 1000000 in
theorem nil17 (v : Value) (w : World) : Calls Tryd.prog 17 #[.pointer none, v] w fun r w' => r = .returned (.int .u64 0) ∧ w' = w := by
  go_enter Tryd.func17, Tryd.ntmps17
  go_wp2_with fail
  go_ret
  exact ⟨rfl, rfl⟩
set_option maxHeartbeats 1000000 in
theorem nil19 (v : Value) (m : Int) (w : World) : Calls Tryd.prog 19 #[.pointer none, v, .int .i64 m] w fun r w' => r = .returned (.slice none 0 0) ∧ w' = w := by
  go_enter Tryd.func19, Tryd.ntmps19
  go_wp2_with fail
  go_ret
  exact ⟨rfl, rfl⟩
theorem info52 : (Tryd.prog.info? 52).map (fun i => (i.zero, i.size, i.bytes)) = some (some (.agg #[.int .i64 0, .int .i64 0, .slice none 0 0]), 3, 40) := by kernel_rfl
def anyC : List Value := [.int .i64 1, .int .i64 0, .slice none 0 0]
def cellsA : Nat → List Value
  | 0 => []
  | j + 1 => cellsA j ++ anyC
theorem cellsA_len : ∀ j, (cellsA j).length = 3 * j
  | 0 => rfl
  | j + 1 => by unfold cellsA; rw [List.length_append, cellsA_len j]; simp [anyC]; omega
theorem cellsA_get : ∀ (j i : Nat), i < j → (cellsA j)[i * 3]? = some (.int .i64 1) ∧ (cellsA j)[i * 3 + 1]? = some (.int .i64 0) ∧ (cellsA j)[i * 3 + 2]? = some (.slice none 0 0)
  | 0, i, h => by omega
  | j + 1, i, h => by
    have hl := cellsA_len j
    unfold cellsA
    by_cases e : i = j
    · subst e
      refine ⟨?_, ?_, ?_⟩
      · rw [List.getElem?_append_right (by omega), hl, show i * 3 - 3 * i = 0 by omega]; rfl
      · rw [List.getElem?_append_right (by omega), hl, show i * 3 + 1 - 3 * i = 1 by omega]; rfl
      · rw [List.getElem?_append_right (by omega), hl, show i * 3 + 2 - 3 * i = 2 by omega]; rfl
    · obtain ⟨h1, h2, h3⟩ := cellsA_get j i (by omega)
      exact ⟨by rw [List.getElem?_append_left (by omega)]; exact h1, by rw [List.getElem?_append_left (by omega)]; exact h2, by rw [List.getElem?_append_left (by omega)]; exact h3⟩
theorem owns_form {w : World} {base e size n : Nat} {v : Value} {xs : List Value} (h : w.ownsRow base e size v n xs) : ∃ A cap, v = .slice A n cap := by
  rcases h.2 with ⟨h1, h2⟩ | ⟨g, c, _, h1, _⟩
  · exact ⟨none, 0, by rw [h1, h2]⟩
  · exact ⟨_, c, h1⟩
/-- The row of parts, and the node about it. -/
theorem exK_at {w : World} {base K : Nat} {v : Value} (h : w.ownsRow base 52 3 v K (cellsA K)) (h2 : 2 ≤ K) (W : World) (hW : w.alloc (.cells #[.int .i64 5, .int .i64 0, v] 52) = W) :
    KsAt W W.heap.size [exK K] (some ⟨w.heap.size, 0, none⟩) 1 := by
  have bb : Below w.heap.size w W := by rw [← hW]; exact below_new _ _
  have hz : W.heap.size = w.heap.size + 1 := by rw [← hW]; simp
  have y : Cells W w.heap.size 52 #[.int .i64 5, .int .i64 0, v] := by rw [← hW]; exact cells_new _ _ _
  have hrow : ∃ A cap, v = .slice A K cap ∧ KsAt W W.heap.size (List.replicate K anyE) A cap := by
    rcases h.2 with ⟨h1, h3⟩ | ⟨g, cap, cur, h1, h3, h4, h5, h6, h7, h8⟩
    · omega
    · refine ⟨_, cap, h1, ⟨by simp; exact h5, h6, by simp, fun _ => ⟨g, 0, rfl, by have := (Array.getElem?_eq_some_iff.1 h4).1; omega, row_of fun i e he => ?_⟩⟩⟩
      have hi : i < K := by have := (List.getElem?_eq_some_iff.1 he).1; simpa using this
      have hee : e = anyE := by simp [hi] at he; exact he.symm
      subst hee
      obtain ⟨c1, c2, c3⟩ := cellsA_get K i hi
      have cc := fun j u hj => World.ownsRow.cells h (g := g) (by rw [h1]; rfl) j u hj
      have d : ∀ (j : Nat) (u : Value), (cellsA K)[j]? = some u → W.cell? ⟨g, j, none⟩ = some u := fun j u hj =>
        (bb.cell (p := ⟨g, j, none⟩) (Array.getElem?_eq_some_iff.1 h4).1).trans (by have := cc j u hj; rwa [add0] at this)
      refine ⟨_, _, _, ?_, ?_, ?_, nd_leaf 1 0 (by unfold i64; omega) (by unfold i64; omega)⟩
      · rw [Nat.zero_add]; exact d _ _ c1
      · rw [Nat.zero_add]; exact d _ _ c2
      · rw [Nat.zero_add]; exact d _ _ c3
  obtain ⟨A, cap, rfl, hk⟩ := hrow
  refine ⟨by simp, by unfold maxLen; omega, by simp, fun _ => ⟨_, 0, rfl, by omega, ⟨⟨_, _, _, y.cell 0, y.cell 1, y.cell 2, Nd_iff.2 ⟨show i64 5 from by unfold i64; omega, show i64 0 from by unfold i64; omega, A, cap, ?_, hk⟩⟩, trivial⟩⟩⟩
  simp [exK, E.k, E.c, E.ks]
set_option maxHeartbeats 4000000 in
set_option maxRecDepth 100000 in
theorem counts_any (n : Nat) (hn : n ≤ 255) (m : Int) (hm : i64 m) (w : World) (hT : TZ w) : Calls Tryd.prog 6 #[.int .u8 (n : Int), .int .i64 m] w fun r w' => r = .returned (.bool true) ∧ Below w.heap.size w w' := by
  obtain ⟨i0, hi, hz0, hz1, hz2⟩ := info_parts info52
  have C := Lib.hid (awake_any w hT)
  have H := Lib.hid (And.intro hT hm)
  clear hT hm
  go_enter Tryd.func6, Tryd.ntmps6
  go_wp2_with fail
  refine C.out.mono ?_
  rintro r w2 ⟨rfl, hb2⟩
  have H2 := Lib.hid hb2
  clear hb2
  go_wp2_with fail
  obtain ⟨K, hK⟩ : ∃ K : Nat, 995 + n % 10 = K := ⟨_, rfl⟩
  have hKi : (995 : Int) + (n : Int) % 10 = (K : Int) := by omega
  rw [hKi]
  have hKb : 995 ≤ K ∧ K ≤ 1004 := by omega
  clear hK hKi
  go_loopw [6, 7] (fun v i wr => ∃ j : Nat, i = .int .i64 (j : Int) ∧ j ≤ K ∧ wr.ownsRow w.heap.size 52 3 v j (cellsA j) ∧ Below w.heap.size w wr) (fun _ i _ => K - (RowKit.intOf i).toNat)
  case atStart => exact ⟨0, rfl, by omega, World.ownsRow_nil _ _ _ _, H2.out⟩
  case round =>
    obtain ⟨j, rfl, hj, hown, hb⟩ := hrel
    by_cases hlt : j < K
    · have i1 : (j : Int) < (K : Int) := by omega
      have HK := Lib.hid (And.intro hown hb)
      have hnews := World.news_of_block (heap_alloc_new wr (.cells #[.int .i64 1, .int .i64 0, .slice none 0 0] 52))
      have HNW := Lib.hid hnews
      clear hown hb hnews
      go_wp2_with (first
        | (at_builtin; refine wpList_append_own _ rfl _ _ 30 rfl w.heap.size 52 i0 (.agg #[.int .i64 0, .int .i64 0, .slice none 0 0]) 3 40 Tryd.underlying30 hi hz0 hz1 hz2 rfl (by decide) _ _ _ rfl (HK.out.1.alloc _) ⟨wr.heap.size, 0, none⟩ 1 1 anyC rfl rfl HNW.out (by simp [anyC, Value.oneCell']) ?c2 ?c3 ?c4 ?_)
        | fail)
      case c2 => unfold maxLen; omega
      case c3 => omega
      case c4 => have := HK.out.2.size; simp; omega
      intro v5 w5 hown5 hgrow5 _
      have hb5 : Below w.heap.size w w5 := (HK.out.2.alloc HK.out.2.size _).grown hgrow5 (by have := HK.out.2.size; simp; omega) (fun x hx => (HK.out.1.lt x hx).1)
      have hend : ∃ i : Nat, Value.int .i64 ((j : Int) + 1) = .int .i64 (i : Int) ∧ i ≤ K ∧ w5.ownsRow w.heap.size 52 3 v5 i (cellsA i) ∧ Below w.heap.size w w5 := ⟨j + 1, by simp, by omega, hown5, hb5⟩
      have HEND := Lib.hid hend
      clear hown5 hgrow5 hb5 hend
      go_wp2_with fail
      go_roundw
      case rel => exact HEND.out
      case measure => simp [RowKit.intOf]; omega
    · obtain rfl : j = K := by omega
      have i1 : ¬ (j : Int) < (j : Int) := by omega
      obtain ⟨A6, c6, rfl⟩ := owns_form hown
      obtain ⟨W3, hW3⟩ : ∃ W, wr.alloc (.cells #[.int .i64 5, .int .i64 0, .slice A6 j c6] 52) = W := ⟨_, rfl⟩
      have hk := exK_at hown (by omega) W3 hW3
      have b3 : Below w.heap.size w W3 := hb.trans (by rw [← hW3]; exact (below_new wr _).mono hb.size)
      have hf := fault_exK (k := j) (by omega) (by omega)
      by_cases h1000 : 1000 < 1 + j
      · rw [if_pos h1000] at hf
        have CN := new_bad false [exK j] _ 1 W3 hk (by rw [hf]; omega)
        rw [hf] at CN
        have CN := Lib.hid CN
        have H3 := Lib.hid (And.intro hW3 b3)
        have i2 : (1000 : Int) < (j : Int) + 1 := by omega
        clear hk b3 hf hW3 hown hb
        go_wp2_with fail
        rw [H3.out.1]
        refine CN.out.mono ?_
        rintro r w5 ⟨rfl, hb5⟩
        have H5 := Lib.hid (H3.out.2.trans (hb5.mono H3.out.2.size))
        clear hb5
        go_wp2_with fail
        refine (nil14 _).mono ?_
        rintro r w6 ⟨rfl, rfl⟩
        go_wp2_with fail
        refine (nil19 _ m _).mono ?_
        rintro r w7 ⟨rfl, rfl⟩
        go_wp2_with fail
        refine (nil17 _ _).mono ?_
        rintro r w8 ⟨rfl, rfl⟩
        go_wp2_with fail
        refine (nil15 _).mono ?_
        rintro r w9 ⟨rfl, rfl⟩
        go_wp2_with fail
        go_ret
        exact ⟨rfl, (H5.out.alloc H5.out.size _).alloc (by have := H5.out.size; simp; omega) _⟩
      · rw [if_neg h1000] at hf
        have hT3 := H.out.1.below b3 H.out.1.lt
        have CN := Lib.hid (new_any false [exK j] _ 1 W3 hk hf hT3)
        have H3 := Lib.hid (And.intro hW3 b3)
        have i2 : ¬ (1000 : Int) < (j : Int) + 1 := by omega
        clear hk b3 hf hW3 hown hb hT3
        go_wp2_with fail
        rw [H3.out.1]
        refine CN.out.mono ?_
        rintro r w5 ⟨q, nn, rfl, hq, hn5, hb5⟩
        have hbw5 := H3.out.2.trans (hb5.mono H3.out.2.size)
        have H5 := Lib.hid (And.intro hn5 (And.intro hbw5 (H.out.1.below hbw5 H.out.1.lt)))
        clear hq hn5 hb5 hbw5
        go_wp2_with fail
        refine (nil14 _).mono ?_
        rintro r w6 ⟨rfl, rfl⟩
        go_wp2_with fail
        refine (nil19 _ m _).mono ?_
        rintro r w7 ⟨rfl, rfl⟩
        go_wp2_with fail
        refine (nil17 _ _).mono ?_
        rintro r w8 ⟨rfl, rfl⟩
        go_wp2_with fail
        refine (nil15 _).mono ?_
        rintro r w9 ⟨rfl, rfl⟩
        go_wp2_with fail
        obtain ⟨WX, hWX⟩ : ∃ W, (w6.alloc (.cells #[.int .i64 0] 3)).alloc (.cells #[.int .i64 0] 3) = W := ⟨_, rfl⟩
        rw [hWX]
        have bX : Below w6.heap.size w6 WX := by rw [← hWX]; exact (below_new w6 _).trans ((below_new _ _).mono (by simp))
        have nX := H5.out.1.below bX
        have bwX := H5.out.2.1.trans (bX.mono H5.out.2.1.size)
        have HX := Lib.hid (And.intro nX (And.intro bwX (H5.out.2.2.below bX H5.out.2.2.lt)))
        clear hWX bX nX bwX
        refine (count_nfa HX.out.1).mono ?_
        rintro r w9 ⟨rfl, rfl⟩
        have hcq : ((((mkN [exK j]).count : Nat) : Int) == (j : Int) + 1) = true := by rw [count_exK (by omega) (by omega)]; simp
        go_wp2_with fail
        refine (begin_any q.b w9).mono ?_
        rintro r w10 ⟨rfl, hw10⟩
        have b10 : Below w9.heap.size w9 w10 := by rw [hw10]; exact below_new _ _
        have i10 : IS w10 w10.heap.size [0] (some ⟨w9.heap.size, 0, none⟩) 1 := by rw [hw10]; exact is_begin w9
        have bw10 := HX.out.2.1.trans (b10.mono HX.out.2.1.size)
        have CS := Lib.hid (step_any (HX.out.1.below b10) (HX.out.2.2.below b10 HX.out.2.2.lt) [0] _ 1 i10 3 (by unfold i64; omega))
        have H10 := Lib.hid bw10
        clear hw10 b10 i10 bw10
        go_wp2_with fail
        refine CS.out.mono ?_
        rintro r w11 ⟨v11, rfl, ho, hb11⟩
        obtain ⟨A11, c11, rfl, _⟩ := ho.is
        rw [len_exK (by omega)]
        have H11 := Lib.hid (H10.out.trans (hb11.mono H10.out.size))
        clear ho hb11
        go_wp2_with fail
        go_ret
        exact ⟨rfl, H11.out⟩
end Go.Proofs.YtlbcicoppglgjaaDoor
