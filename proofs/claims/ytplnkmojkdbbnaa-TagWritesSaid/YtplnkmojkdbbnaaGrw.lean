/-
  TagGrows: the walk of the law.
-/
import Derived.Test.YtplnkmojkdbbnaaGro
import Derived.Test.YtplnkmojkdbbnaaApe
import Derived.Test.YtplnkmojkdbbnaaAwk
namespace Go.Proofs.Ytplnkmojkdbbnaa
open Go.RowKit Go.Shelf Go.Lib Go.Maps Go.Sort

theorem grow_facts {n : Nat} {O U : Option TG} (h : GrowOk n O U) : (O.isSome = false ∧ (O.getD tg0).size = 0 ∧ (n < 2 ∨ U.isSome = false)) ∨
    (O.isSome = true ∧ U.isSome = true ∧ (O.getD tg0).size ≤ n ∧ 2 ≤ (O.getD tg0).size ∧ (((O.getD tg0).closed = true ∧ U.getD tg0 = O.getD tg0) ∨ ((O.getD tg0).closed = false ∧ (O.getD tg0).size = n ∧ n ≤ (U.getD tg0).size ∧ (O.getD tg0).single = false))) := by
  rcases h with ⟨rfl, h⟩ | ⟨T, V, rfl, rfl, h⟩
  · left
    exact ⟨rfl, rfl, h.imp id (fun h => by rw [h]; rfl)⟩
  · right
    exact ⟨rfl, rfl, h.1, h.2.1, h.2.2⟩
theorem rdAt_zero (xs : List Nat) : rdAt xs 0 = rdT xs := by
  unfold rdAt
  rw [if_neg (by omega)]
  rfl
/-- What Read answers, open. -/
def RdV (w : World) (O : Option TG) (e : Ending) (w' : World) : Prop := ∃ A c, e = .returned (.tuple #[.agg #[.int .i64 ((O.getD tg0).kind : Int), .int .i64 ((O.getD tg0).size : Int), .string ⟨(u8s (O.getD tg0).name).toArray⟩, .slice A (O.getD tg0).attrs.length c, .bool (O.getD tg0).single, .bool (O.getD tg0).closed], .bool O.isSome]) ∧ AS w' w'.heap.size (O.getD tg0).attrs A c ∧ Below w.heap.size w w'
theorem readV_any (xs : List Nat) (A : Option Addr) (cap : Nat) (I : Int) (w : World) (hm : MX w) (h : BY w w.heap.size xs A cap) (hl : xs.length ≤ 100000) :
    Calls Try.prog 9 #[.slice A xs.length cap, .int .i64 I] w (RdV w (rdAt xs I)) :=
  (read_any xs A cap I w hm h hl).mono fun e w' ⟨v, h1, h2, h3⟩ => by
    obtain ⟨A', c', rfl, ha⟩ := AS.of_own h2
    exact ⟨A', c', h1, ha, h3⟩
set_option maxHeartbeats 8000000 in
set_option maxRecDepth 100000 in
theorem growsLaw_any (xs : List Nat) (A : Option Addr) (cap : Nat) (ys : List Nat) (A' : Option Addr) (cap' : Nat) (w : World) (hm : MX w) (h : BY w w.heap.size xs A cap) (h' : BY w w.heap.size ys A' cap') :
    Calls Try.prog 4 #[.slice A xs.length cap, .slice A' ys.length cap'] w fun r w' => r = .returned (.bool true) ∧ Below w.heap.size w w' := by
  have hlen := h.len
  have hlen' := h'.len
  have hAw := awake_any w hm
  by_cases hl : 120 < xs.length
  · generalize xs.length = N at *
    generalize ys.length = M at *
    have i1 : (120 : Int) < (N : Int) := by omega
    have HA := Lib.hid hAw
    clear h h' hl hAw hm
    go_enter Try.func4, Try.ntmps4
    go_wp2_with fail
    refine HA.out.mono ?_
    rintro r w1 ⟨rfl, hb1⟩
    have HB := Lib.hid hb1
    clear hb1
    go_wp2_with fail
    go_ret
    exact ⟨rfl, HB.out⟩
  by_cases hl2 : 60 < ys.length
  · generalize xs.length = N at *
    generalize ys.length = M at *
    have i1 : ¬ (120 : Int) < (N : Int) := by omega
    have i2 : (60 : Int) < (M : Int) := by omega
    have HA := Lib.hid hAw
    clear h h' hl hl2 hAw hm
    go_enter Try.func4, Try.ntmps4
    go_wp2_with fail
    refine HA.out.mono ?_
    rintro r w1 ⟨rfl, hb1⟩
    have HB := Lib.hid hb1
    clear hb1
    go_wp2_with fail
    go_ret
    exact ⟨rfl, HB.out⟩
  have K1 := fun W (hb : Below w.heap.size w W) => readV_any xs A cap 0 W (hm.on hm.pos hb) (h.on hb) (by omega)
  have K2 := fun W A5 c5 (hb : Below w.heap.size w W) (h5 : BY W W.heap.size (xs ++ ys) A5 c5) => readV_any (xs ++ ys) A5 c5 0 W (hm.on hm.pos hb) h5 (by simp; omega)
  rw [rdAt_zero] at K1 K2
  have hgf := grow_facts (grow_rd xs ys)
  generalize rdT xs = O at *
  generalize rdT (xs ++ ys) = U at *
  unfold RdV at K1 K2
  obtain ⟨T, hT⟩ : ∃ T, O.getD tg0 = T := ⟨_, rfl⟩
  obtain ⟨V, hV⟩ : ∃ T, U.getD tg0 = T := ⟨_, rfl⟩
  obtain ⟨ok, hok⟩ : ∃ b, O.isSome = b := ⟨_, rfl⟩
  obtain ⟨is, his⟩ : ∃ b, U.isSome = b := ⟨_, rfl⟩
  rw [hT, hok] at K1 hgf
  rw [hV, his] at K2 hgf
  have h256 : ∀ x ∈ [] ++ xs ++ ys, x < 256 := fun x hx => by
    simp at hx
    rcases hx with hx | hx
    · exact h.i x hx
    · exact h'.i x hx
  have hl5 : xs.length + ys.length ≤ 180 := by omega
  have hxy : (xs ++ ys).length = xs.length + ys.length := by simp
  rw [hxy] at K2
  obtain ⟨N, hN⟩ : ∃ N, xs.length = N := ⟨_, rfl⟩
  obtain ⟨M, hM⟩ : ∃ M, ys.length = M := ⟨_, rfl⟩
  rw [hN, hM] at hl5 K2
  rw [hN] at hlen K1 hgf hl ⊢
  rw [hM] at hlen' hl2 ⊢
  have i1 : ¬ (120 : Int) < (N : Int) := by omega
  have i2 : ¬ (60 : Int) < (M : Int) := by omega
  have HA := Lib.hid (And.intro hAw (And.intro K1 (And.intro K2 (And.intro h (And.intro h' (And.intro hN (And.intro hM (And.intro h256 hl5))))))))
  have HC := Lib.hid hgf
  clear h h' hN hM hl hl2 hm K1 K2 hT hV hok his hgf h256 hl5 hAw hxy
  go_enter Try.func4, Try.ntmps4
  go_wp2_with fail
  refine HA.out.1.mono ?_
  rintro r w1 ⟨rfl, hb1⟩
  have HB1 := Lib.hid hb1
  clear hb1
  go_wp2_with fail
  refine (HA.out.2.1 _ HB1.out).mono ?_
  rintro r w2 ⟨A1, c1, rfl, ha1, hb2⟩
  have HB2 := Lib.hid (HB1.out.trans (hb2.mono HB1.out.size))
  clear hb2 ha1
  obtain ⟨TL, hTL⟩ : ∃ n, T.attrs.length = n := ⟨_, rfl⟩
  obtain ⟨NB, hNB⟩ : ∃ S : ByteArray, ⟨(u8s T.name).toArray⟩ = S := ⟨_, rfl⟩
  rw [hTL, hNB]
  obtain ⟨W3, hW3⟩ : ∃ W, w2.alloc (.cells #[.int .i64 (T.kind : Int), .int .i64 (T.size : Int), .string NB, .slice A1 TL c1, .bool T.single, .bool T.closed] 26) = W := ⟨_, rfl⟩
  have x1 : Cells W3 w2.heap.size 26 #[.int .i64 (T.kind : Int), .int .i64 (T.size : Int), .string NB, .slice A1 TL c1, .bool T.single, .bool T.closed] := by rw [← hW3]; exact cells_new _ _ _
  have b3 : Below w.heap.size w W3 := by rw [← hW3]; exact below_lit HB2.out _
  have o3 := ownB_lit0 W3
  have b4 := below_lit b3 (.cells #[] 5)
  have B4 : BY (W3.alloc (.cells #[] 5)) (W3.alloc (.cells #[] 5)).heap.size xs A cap := HA.out.2.2.2.1.on b4
  have H3 := Lib.hid (And.intro x1 (And.intro b3 (And.intro o3 (And.intro b4 B4))))
  clear x1 b3 o3 b4 B4
  go_wp2_with (first
    | (at_builtin
       refine wpList_appBs rfl (.tmp 28) (.tmp 29) rfl W3.heap.size _ [] xs rfl H3.out.2.2.1 A N cap HA.out.2.2.2.2.2.1 rfl H3.out.2.2.2.2 (by simp; omega) (by simp) ?_)
    | fail)
  intro v4 w4 o4 hb4
  have b5 : Below W3.heap.size W3 w4 := (below_new W3 _).trans (hb4.mono (by simp))
  have B5 : BY w4 w4.heap.size ys A' cap' := HA.out.2.2.2.2.1.on (H3.out.2.1.trans (b5.mono H3.out.2.1.size))
  have H4 := Lib.hid (And.intro o4 (And.intro b5 B5))
  clear o4 hb4 b5 B5
  go_wp2_with (first
    | (at_builtin
       refine wpList_appBs rfl (.tmp 30) (.tmp 31) rfl W3.heap.size _ ([] ++ xs) ys rfl H4.out.1 A' M cap' HA.out.2.2.2.2.2.2.1 rfl H4.out.2.2 (by rw [List.nil_append, HA.out.2.2.2.2.2.1]; omega) H4.out.2.1.size ?_)
    | fail)
  intro v5 w5 o5 hb5
  obtain ⟨A5, c5, e5, B5⟩ := o5.by HA.out.2.2.2.2.2.2.2.1
  have hlen5 : (xs ++ ys).length = N + M := by rw [List.length_append, HA.out.2.2.2.2.2.1, HA.out.2.2.2.2.2.2.1]
  rw [hlen5] at e5
  subst e5
  have b5 : Below W3.heap.size W3 w5 := H4.out.2.1.trans hb5
  have H5 := Lib.hid (And.intro b5 (And.intro B5 (H3.out.2.1.trans (b5.mono H3.out.2.1.size))))
  clear o5 hb5 b5 B5 hlen5
  go_wp2_with fail
  refine (HA.out.2.2.1 _ _ _ H5.out.2.2 H5.out.2.1).mono ?_
  rintro r w6 ⟨A6, c6, rfl, ha6, hb6⟩
  clear hW3 ha6
  obtain ⟨VL, hVL⟩ : ∃ n, V.attrs.length = n := ⟨_, rfl⟩
  obtain ⟨VB, hVB⟩ : ∃ S : ByteArray, ⟨(u8s V.name).toArray⟩ = S := ⟨_, rfl⟩
  rw [hVL, hVB]
  have b6 : Below W3.heap.size W3 w6 := H5.out.1.trans (hb6.mono H5.out.1.size)
  obtain ⟨W7, hW7⟩ : ∃ W, w6.alloc (.cells #[.int .i64 (V.kind : Int), .int .i64 (V.size : Int), .string VB, .slice A6 VL c6, .bool V.single, .bool V.closed] 26) = W := ⟨_, rfl⟩
  have x2 : Cells W7 w6.heap.size 26 #[.int .i64 (V.kind : Int), .int .i64 (V.size : Int), .string VB, .slice A6 VL c6, .bool V.single, .bool V.closed] := by rw [← hW7]; exact cells_new _ _ _
  have b7 : Below W3.heap.size W3 W7 := by rw [← hW7]; exact below_lit b6 _
  have x1 : Cells W7 w2.heap.size 26 #[.int .i64 (T.kind : Int), .int .i64 (T.size : Int), .string NB, .slice A1 TL c1, .bool T.single, .bool T.closed] := H3.out.1.on b7
  have p0 := x1.cell 0
  have p1 := x1.cell 1
  have p2 := x1.cell 2
  have p3 := x1.cell 3
  have p4 := x1.cell 4
  have p5 := x1.cell 5
  have q0 := x2.cell 0
  have q1 := x2.cell 1
  have q2 := x2.cell 2
  have q3 := x2.cell 3
  have q4 := x2.cell 4
  have q5 := x2.cell 5
  simp at p0 p1 p2 p3 p4 p5 q0 q1 q2 q3 q4 q5
  have H7 := Lib.hid (H3.out.2.1.trans (b7.mono H3.out.2.1.size))
  clear b6 b7 x1 x2 hb6
  rcases HC.out with ⟨rfl, h0, hn⟩ | ⟨rfl, rfl, h1, h2, hcl⟩
  · rw [h0] at p1
    rcases hn with hn | rfl
    · have i3 : (N : Int) < 2 := by omega
      clear h0 hTL hNB hVL hVB hn
      go_wp2_with fail
      go_ret
      exact ⟨rfl, H7.out⟩
    · by_cases i3 : (N : Int) < 2
      · clear h0 hTL hNB hVL hVB
        go_wp2_with fail
        go_ret
        exact ⟨rfl, H7.out⟩
      · clear h0 hTL hNB hVL hVB
        go_wp2_with fail
        go_ret
        exact ⟨rfl, H7.out⟩
  · have i4 : ¬ (N : Int) < (T.size : Int) := by omega
    have i5 : ¬ (T.size : Int) < 2 := by omega
    rcases hcl with ⟨hc, hV⟩ | ⟨hc, hs, hg, hsi⟩
    · subst hV
      obtain rfl : VL = TL := by rw [← hVL, hTL]
      obtain rfl : VB = NB := by rw [← hVB, hNB]
      rw [hc] at p5 q5
      clear hc hTL hNB hVL hVB h1 h2
      generalize (V.kind : Int) = k1 at *
      generalize (V.size : Int) = k2 at *
      generalize V.single = k3 at *
      go_wp2_with fail
      go_ret
      exact ⟨by simp, H7.out⟩
    · rw [hs] at p1 i4 i5
      rw [hc] at p5
      rw [hsi] at p4
      have i6 : (N : Int) ≤ (V.size : Int) := by omega
      have d6 : decide ((N : Int) ≤ (V.size : Int)) = true := by simpa using i6
      clear hc hTL hNB hVL hVB h1 h2 hs hg hsi
      generalize (V.size : Int) = k2 at *
      go_wp2_with fail
      go_ret
      exact ⟨by first | rfl | simp, H7.out⟩
end Go.Proofs.Ytplnkmojkdbbnaa
