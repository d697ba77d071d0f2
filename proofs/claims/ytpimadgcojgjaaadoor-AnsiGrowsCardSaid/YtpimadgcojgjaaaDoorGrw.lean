/-
  AnsiGrows: the walk of the law.
-/
import Derived.Test.YtpimadgcojgjaaaDoorRdw
namespace Go.Proofs.YtpimadgcojgjaaaDoor
open Go.RowKit Go.Shelf Go.Lib Go.Maps

theorem readAt0 (xs : List Nat) : readAt xs 0 = readT xs := readAt_nat xs 0
theorem grows_cases (xs ys : List Nat) : ((readT xs).size = 0 ∧ (xs = [] ∨ (xs ≠ [] ∧ (readT (xs ++ ys)).size = 0))) ∨ ((readT xs).size ≠ 0 ∧ (readT xs).op = false ∧ readT (xs ++ ys) = readT xs) ∨
    ((readT xs).size ≠ 0 ∧ (readT xs).op = true ∧ (readT xs).size = xs.length ∧ (readT xs).size ≤ (readT (xs ++ ys)).size) := by
  cases xs with
  | nil => exact .inl ⟨rfl, .inl rfl⟩
  | cons c r =>
    by_cases h : c = 27
    · subst h
      have h0 : (readT (27 :: r)).size ≠ 0 := fun e => (readT_size (27 :: r)).2.1 e rfl
      obtain ⟨h1, h2⟩ := readT_grows r ys
      cases ho : (readT (27 :: r)).op with
      | false => exact .inr (.inl ⟨h0, rfl, h1 ho⟩)
      | true =>
        obtain ⟨h3, h4⟩ := h2 ho
        exact .inr (.inr ⟨h0, rfl, by simpa using h3, by omega⟩)
    · refine .inl ⟨by rw [readT_not r h]; rfl, .inr ⟨by simp, ?_⟩⟩
      rw [List.cons_append, readT_not _ h]
      rfl
set_option maxHeartbeats 8000000 in
set_option maxRecDepth 100000 in
theorem growsLaw_any (xs : List Nat) (A : Option Addr) (cap : Nat) (ys : List Nat) (A' : Option Addr) (cap' : Nat) (w : World) (hm : MX w) (h : BY w w.heap.size xs A cap) (h' : BY w w.heap.size ys A' cap') :
    Calls Tryd.prog 11 #[.slice A xs.length cap, .slice A' ys.length cap'] w fun r w' => r = .returned (.bool true) ∧ Below w.heap.size w w' := by
  have hlen := h.len
  have hlen' := h'.len
  by_cases hl : 100 < xs.length ∨ 60 < ys.length
  · have hA := awake_any w hm
    obtain ⟨N, hN⟩ : ∃ N, xs.length = N := ⟨_, rfl⟩
    obtain ⟨M, hM⟩ : ∃ M, ys.length = M := ⟨_, rfl⟩
    rw [hN, hM] at hl
    rw [hN] at hlen ⊢
    rw [hM] at hlen' ⊢
    have HA := Lib.hid hA
    clear h h' hN hM hA hm
    by_cases h1 : 100 < N
    · have i1 : (100 : Int) < (N : Int) := by omega
      clear hl h1
      go_enter Tryd.func11, Tryd.ntmps11
      go_wp2_with fail
      refine HA.out.mono ?_
      rintro r w1 ⟨rfl, hb1⟩
      have HB := Lib.hid hb1
      clear hb1
      go_wp2_with fail
      go_ret
      exact ⟨rfl, HB.out⟩
    · have i1 : ¬ (100 : Int) < (N : Int) := by omega
      have i2 : (60 : Int) < (M : Int) := by omega
      clear hl h1
      go_enter Tryd.func11, Tryd.ntmps11
      go_wp2_with fail
      refine HA.out.mono ?_
      rintro r w1 ⟨rfl, hb1⟩
      have HB := Lib.hid hb1
      clear hb1
      go_wp2_with fail
      go_ret
      exact ⟨rfl, HB.out⟩
  have K1 := fun W (hb : Below w.heap.size w W) => read_any xs A cap 0 W (h.on hb)
  have K2 := fun A2 c2 n W (hn : (xs ++ ys).length = n) (hb : BY W W.heap.size (xs ++ ys) A2 c2) => read_any (xs ++ ys) A2 c2 0 W hb
  have hcs := grows_cases xs ys
  have h256 : ∀ x ∈ xs ++ ys, x < 256 := fun x hx => by
    rcases List.mem_append.1 hx with hx | hx
    · exact h.i x hx
    · exact h'.i x hx
  rw [readAt0] at K1
  rw [readAt0] at K2
  have K2 : ∀ A2 c2 W, BY W W.heap.size (xs ++ ys) A2 c2 → Calls Tryd.prog 25 #[.slice A2 (xs ++ ys).length c2, .int .i64 0] W fun r w' => r = .returned (escV (readT (xs ++ ys))) ∧ Below W.heap.size W w' := fun A2 c2 W hb => K2 A2 c2 _ W rfl hb
  obtain ⟨Q5, hQ5⟩ : ∃ n, (xs ++ ys).length = n := ⟨_, rfl⟩
  rw [hQ5] at K2
  have HQ := Lib.hid hQ5
  have hQm : Q5 ≤ 9223372036854775807 := by rw [← hQ5, List.length_append]; omega
  clear hQ5
  obtain ⟨E, hE⟩ : ∃ E, readT xs = E := ⟨_, rfl⟩
  obtain ⟨F, hF⟩ : ∃ F, readT (xs ++ ys) = F := ⟨_, rfl⟩
  rw [hE] at K1 hcs
  rw [hF] at K2 hcs
  obtain ⟨S, Wh, Op, La⟩ := E
  obtain ⟨S', Wh', Op', La'⟩ := F
  unfold escV at K1 K2
  dsimp only at K1 K2 hcs
  have hl5 : xs.length + ys.length ≤ 160 := by omega
  obtain ⟨N, hN⟩ : ∃ N, xs.length = N := ⟨_, rfl⟩
  obtain ⟨M, hM⟩ : ∃ M, ys.length = M := ⟨_, rfl⟩
  rw [hN, hM] at hl
  have hcs0 : xs = [] ↔ N = 0 := by rw [← hN]; exact List.length_eq_zero_iff.symm
  rw [hN] at hlen K1 hcs ⊢
  rw [hM] at hlen' ⊢
  have i1 : ¬ (100 : Int) < (N : Int) := by omega
  have i2 : ¬ (60 : Int) < (M : Int) := by omega
  have HA := Lib.hid (And.intro (awake_any w hm) (And.intro K1 (And.intro K2 (And.intro h (And.intro h' (And.intro hN (And.intro hM (And.intro h256 hl5))))))))
  have HC := Lib.hid (And.intro hcs hcs0)
  clear h h' hN hM hl hm K1 K2 hE hF hcs hcs0 h256 hl5
  go_enter Tryd.func11, Tryd.ntmps11
  go_wp2_with fail
  refine HA.out.1.mono ?_
  rintro r w1 ⟨rfl, hb1⟩
  have HB1 := Lib.hid hb1
  clear hb1
  go_wp2_with fail
  refine (HA.out.2.1 _ HB1.out).mono ?_
  rintro r w2 ⟨rfl, hb2⟩
  have HB2 := Lib.hid (HB1.out.trans (hb2.mono HB1.out.size))
  clear hb2
  obtain ⟨W3, hW3⟩ : ∃ W, w2.alloc (.cells #[.int .i64 (S : Int), .bool Wh, .bool Op, .int .u8 (La : Int)] 42) = W := ⟨_, rfl⟩
  have x1 : Cells W3 w2.heap.size 42 #[.int .i64 (S : Int), .bool Wh, .bool Op, .int .u8 (La : Int)] := by rw [← hW3]; exact cells_new _ _ _
  have b3 : Below w.heap.size w W3 := by rw [← hW3]; exact below_lit HB2.out _
  have o3 := ownB_lit0 W3
  have b4 := below_lit b3 (.cells #[] 5)
  have B4 : BY (W3.alloc (.cells #[] 5)) (W3.alloc (.cells #[] 5)).heap.size xs A cap := HA.out.2.2.2.1.on b4
  have H3 := Lib.hid (And.intro x1 (And.intro b3 (And.intro o3 (And.intro b4 B4))))
  clear x1 b3 o3 b4 B4
  go_wp2_with (first
    | (at_builtin
       refine wpList_appBs rfl (.tmp 22) (.tmp 23) rfl W3.heap.size _ [] xs rfl H3.out.2.2.1 A N cap HA.out.2.2.2.2.2.1 rfl H3.out.2.2.2.2 (by simp; omega) (by simp) ?_)
    | fail)
  intro v4 w4 o4 hb4
  have b5 : Below W3.heap.size W3 w4 := (below_new W3 _).trans (hb4.mono (by simp))
  have B5 : BY w4 w4.heap.size ys A' cap' := HA.out.2.2.2.2.1.on (H3.out.2.1.trans (b5.mono H3.out.2.1.size))
  have H4 := Lib.hid (And.intro o4 (And.intro b5 B5))
  clear o4 hb4 b5 B5
  go_wp2_with (first
    | (at_builtin
       refine wpList_appBs rfl (.tmp 24) (.tmp 25) rfl W3.heap.size _ ([] ++ xs) ys rfl H4.out.1 A' M cap' HA.out.2.2.2.2.2.2.1 rfl H4.out.2.2 (by rw [List.nil_append, HA.out.2.2.2.2.2.1]; omega) H4.out.2.1.size ?_)
    | fail)
  intro v5 w5 o5 hb5
  obtain ⟨A5, c5, e5, B5⟩ := o5.by HA.out.2.2.2.2.2.2.2.1
  rw [HQ.out] at e5
  subst e5
  have b5 : Below W3.heap.size W3 w5 := H4.out.2.1.trans hb5
  have H5 := Lib.hid (And.intro b5 B5)
  clear o5 hb5 b5 B5
  go_wp2_with fail
  refine (HA.out.2.2.1 _ _ _ H5.out.2).mono ?_
  rintro r w6 ⟨rfl, hb6⟩
  have b6 : Below W3.heap.size W3 w6 := H5.out.1.trans (hb6.mono H5.out.1.size)
  obtain ⟨W7, hW7⟩ : ∃ W, w6.alloc (.cells #[.int .i64 (S' : Int), .bool Wh', .bool Op', .int .u8 (La' : Int)] 42) = W := ⟨_, rfl⟩
  have x2 : Cells W7 w6.heap.size 42 #[.int .i64 (S' : Int), .bool Wh', .bool Op', .int .u8 (La' : Int)] := by rw [← hW7]; exact cells_new _ _ _
  have b7 : Below W3.heap.size W3 W7 := by rw [← hW7]; exact b6.alloc b6.size _
  have x1 : Cells W7 w2.heap.size 42 #[.int .i64 (S : Int), .bool Wh, .bool Op, .int .u8 (La : Int)] := H3.out.1.on b7
  have p0 := x1.cell 0
  have q0 := x2.cell 0
  have p1 := x1.cell 1
  have q1 := x2.cell 1
  have p2 := x1.cell 2
  have q2 := x2.cell 2
  have p3 := x1.cell 3
  have q3 := x2.cell 3
  simp at p0 q0 p1 q1 p2 q2 p3 q3
  have H7 := Lib.hid (H3.out.2.1.trans (b7.mono H3.out.2.1.size))
  clear hb6 b6 b7 x1 x2
  by_cases hs : S = 0
  · obtain ⟨h1, h2⟩ | ⟨h1, _⟩ | ⟨h1, _⟩ := HC.out.1
    case inr.inl => exact absurd hs h1
    case inr.inr => exact absurd hs h1
    have i0 : ((S : Int) == 0) = true := by rw [beq_iff_eq]; omega
    by_cases hn : N = 0
    · have i3 : ((N : Int) == 0) = true := by rw [beq_iff_eq]; omega
      clear h1 h2 hs hn
      go_wp2_with fail
      go_ret
      exact ⟨rfl, H7.out⟩
    · have hf : S' = 0 := by
        rcases h2 with h2 | h2
        · exact absurd (HC.out.2.1 h2) hn
        · exact h2.2
      have i4 : ((S' : Int) == 0) = true := by rw [beq_iff_eq]; omega
      have i3 : ((N : Int) == 0) = false := by rw [beq_eq_false_iff_ne]; omega
      clear h1 h2 hn hf hs
      go_wp2_with fail
      go_ret
      exact ⟨rfl, H7.out⟩
  · have i3 : ((S : Int) == 0) = false := by rw [beq_eq_false_iff_ne]; omega
    obtain ⟨h1, _⟩ | ⟨_, h2, h3⟩ | ⟨_, h2, h3, h4⟩ := HC.out.1
    · exact absurd h1 hs
    · injection h3 with g1 g2 g3 g4
      subst g1 g2 g3 g4 h2
      clear hs
      go_wp2_with fail
      go_ret
      exact ⟨rfl, H7.out⟩
    · subst h2 h3
      have i4 : (S : Int) ≤ (S' : Int) := by omega
      clear hs
      go_wp2_with fail
      go_ret
      exact ⟨rfl, H7.out⟩
end Go.Proofs.YtpimadgcojgjaaaDoor
