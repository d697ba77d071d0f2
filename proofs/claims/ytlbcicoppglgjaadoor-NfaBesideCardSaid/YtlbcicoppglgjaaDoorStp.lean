/-
  Contracts: Begin, Count, Tells, Step.
-/
import Derived.Test.YtlbcicoppglgjaaDoorAdd
namespace Go.Proofs.YtlbcicoppglgjaaDoor
open Go.RowKit Go.Shelf Go.Lib Go.Great Go.Maps

/-- A slice of numbers. -/
structure IS (w : World) (B : Nat) (xs : List Int) (A : Option Addr) (cap : Nat) : Prop where
  l : xs.length ≤ cap
  m : cap ≤ maxLen
  i : ∀ x ∈ xs, i64 x
  r : xs ≠ [] → ∃ b o, A = some ⟨b, o, none⟩ ∧ b < B ∧ ∀ i x, xs[i]? = some x → w.cell? ⟨b, o + i, none⟩ = some (.int .i64 x)
theorem IS.below {w w' : World} {B : Nat} {xs : List Int} {A : Option Addr} {cap : Nat} (h : IS w B xs A cap) (hb : Below B w w') : IS w' B xs A cap :=
  ⟨h.l, h.m, h.i, fun hne => by
    obtain ⟨b, o, rfl, hl, hr⟩ := h.r hne
    exact ⟨b, o, rfl, hl, fun i x hx => (hb.cell (p := ⟨b, _, none⟩) hl).trans (hr i x hx)⟩⟩
theorem IS.mono {w : World} {B B' : Nat} {xs : List Int} {A : Option Addr} {cap : Nat} (h : IS w B xs A cap) (hB : B ≤ B') : IS w B' xs A cap :=
  ⟨h.l, h.m, h.i, fun hne => by
    obtain ⟨b, o, rfl, hl, hr⟩ := h.r hne
    exact ⟨b, o, rfl, by omega, hr⟩⟩
theorem IS.on {w w' : World} {xs : List Int} {A : Option Addr} {cap : Nat} (h : IS w w.heap.size xs A cap) (hb : Below w.heap.size w w') : IS w' w'.heap.size xs A cap := (h.below hb).mono hb.size
theorem OwnP.is {w : World} {base m : Nat} {v : Value} (h : OwnP w base (posL m) v) : ∃ A cap, v = .slice A (posI m).length cap ∧ IS w w.heap.size (posI m) A cap := by
  obtain ⟨A, cap, rfl, h1, h2, h3⟩ := h.form
  have hl : (posI m).length = (posL m).length := by unfold posI; rw [List.length_map]
  refine ⟨A, cap, by rw [hl], by rw [hl]; exact h1, h2, fun x hx => ?_, fun hne => ?_⟩
  · obtain ⟨p, rfl, hp⟩ := mem_posI.1 hx
    unfold inM at hp; simp at hp
    exact nat64 (by omega)
  · obtain ⟨g, rfl, _, hg, hc⟩ := h3 (by intro e; apply hne; unfold posI; rw [e]; rfl)
    refine ⟨g, 0, rfl, hg, fun i x hx => ?_⟩
    unfold posI at hx
    rw [List.getElem?_map] at hx
    obtain ⟨p, hp, rfl⟩ := Option.map_eq_some_iff.1 hx
    rw [Nat.zero_add]
    exact hc i p hp
set_option maxHeartbeats 4000000 in
set_option maxRecDepth 100000 in
theorem begin_any (b : Nat) (w : World) : Calls Tryd.prog 14 #[.pointer (some ⟨b, 0, none⟩)] w fun r w' => r = .returned (.slice (some ⟨w.heap.size, 0, none⟩) 1 1) ∧ w' = w.alloc (.cells #[.int .i64 0] 3) := by
  go_enter Tryd.func14, Tryd.ntmps14
  go_wp2_with fail
  go_ret
  exact ⟨rfl, rfl⟩
theorem is_begin (w : World) : IS (w.alloc (.cells #[.int .i64 0] 3)) (w.alloc (.cells #[.int .i64 0] 3)).heap.size [0] (some ⟨w.heap.size, 0, none⟩) 1 :=
  ⟨by simp, by unfold maxLen; omega, fun x hx => by simp at hx; subst hx; unfold i64; omega, fun _ => ⟨_, 0, rfl, by simp, fun i x hx => by
    cases i with
    | zero => simp at hx; subst hx; rw [World.cell?_alloc_new]; rfl
    | succ i => simp at hx⟩⟩
set_option maxHeartbeats 4000000 in
set_option maxRecDepth 100000 in
theorem count_nfa {q : Np} {n : Nat} {se : Bool} {s : St} {w : World} (h : NfaAt w q n se s) : Calls Tryd.prog 15 #[.pointer (some ⟨q.b, 0, none⟩)] w fun r w' => r = .returned (.int .i64 (s.count : Int)) ∧ w' = w := by
  have c1 := h.c1
  clear h
  go_enter Tryd.func15, Tryd.ntmps15
  go_wp2_with fail
  go_ret
  exact ⟨rfl, rfl⟩
theorem tellsU_lt {s : St} (h : ∀ p, s.tells p < 18446744073709551616) (l : List Int) : tellsU s l < 18446744073709551616 := by
  induction l with
  | nil => simp [tellsU]
  | cons x r ih =>
    unfold tellsU
    refine Nat.or_lt_two_pow (n := 64) ?_ ih
    split
    · exact h _
    · decide
theorem tellsU_take {xs : List Int} {i : Nat} {x : Int} (h : xs[i]? = some x) (s : St) : tellsU s (xs.take (i + 1)) = tellsU s (xs.take i) ||| (if 0 ≤ x then s.tells x.toNat else 0) := by
  rw [List.take_add_one, h, Option.toList_some, tellsU_append]
  simp [tellsU]
theorem nextU_take {xs : List Int} {i : Nat} {x : Int} (h : xs[i]? = some x) (s : St) : nextU s (xs.take (i + 1)) = nextU s (xs.take i) ||| (if 0 ≤ x then s.next x.toNat else 0) := by
  rw [List.take_add_one, h, Option.toList_some, nextU_append]
  simp [nextU]
set_option maxHeartbeats 4000000 in
set_option maxRecDepth 100000 in
theorem tells_any {q : Np} {n : Nat} {se : Bool} {s : St} {w : World} (h : NfaAt w q n se s) (xs : List Int) (A : Option Addr) (cap : Nat) (hx : IS w w.heap.size xs A cap) :
    Calls Tryd.prog 17 #[.pointer (some ⟨q.b, 0, none⟩), .slice A xs.length cap] w fun r w' => r = .returned (.int .u64 (tellsU s xs : Nat)) ∧ w' = w := by
  have hln : xs.length ≤ 9223372036854775807 := by have := hx.l; have := hx.m; unfold maxLen at this; omega
  have c4 := h.c4
  obtain ⟨N, hN⟩ : ∃ N, xs.length = N := ⟨_, rfl⟩
  have HN := Lib.hid hN
  have H := Lib.hid (And.intro h hx)
  rw [hN] at hln ⊢
  clear h hx hN
  go_enter Tryd.func17, Tryd.ntmps17
  go_wp2_with fail
  go_loopw [5, 12] (fun v i wr => ∃ k : Nat, i = .int .i64 (k : Int) ∧ k ≤ N ∧ v = .int .u64 ((tellsU s (xs.take k) : Nat) : Int) ∧ wr = w) (fun _ i _ => N - (RowKit.intOf i).toNat)
  case atStart => exact ⟨0, rfl, by omega, rfl, rfl⟩
  case round =>
    obtain ⟨k, rfl, hk, rfl, rfl⟩ := hrel
    by_cases hlt : k < N
    · have i1 : (k : Int) < (N : Int) := by omega
      obtain ⟨x, hx⟩ : ∃ x, xs[k]? = some x := ⟨xs[k]'(by rw [HN.out]; exact hlt), List.getElem?_eq_getElem _⟩
      obtain ⟨b, o, rfl, hbl, hc⟩ := H.out.2.r (by rintro rfl; simp at hx)
      have d0 := hc k x hx
      have ht := tellsU_take hx s
      have h64 := H.out.2.i x (List.mem_of_getElem? hx)
      obtain ⟨X, hX⟩ : ∃ X, (if 0 ≤ x then s.tells x.toNat else 0) = X := ⟨_, rfl⟩
      have hXl : X < 18446744073709551616 := by
        rw [← hX]
        split
        · exact H.out.1.t _
        · decide
      have hT := tellsU_lt H.out.1.t (xs.take k)
      generalize tellsU s (xs.take k) = T at *
      rw [hX] at ht
      have HB := Lib.hid (show bits .or .u64 (T : Int) (X : Int) = ((T ||| X : Nat) : Int) from bits_or_u64_nat _ _ hT hXl)
      have HX := Lib.hid (And.intro hX (And.intro ht h64))
      clear hX ht h64 hXl hT hc hx
      go_wp2_with (first
        | (refine wpList_lookL rfl (.tmp 20) (.tmp 21) rfl H.out.1 x HX.out.2.2 X HX.out.1 rfl rfl ?_)
        | fail)
      go_roundw
      case rel => exact ⟨k + 1, by go_num, by omega, by rw [HX.out.2.1, HB.out], trivial⟩
      case measure => simp [RowKit.intOf]; omega
    · obtain rfl : k = N := by omega
      have i1 : ¬ (k : Int) < (k : Int) := by omega
      have e1 : xs.take k = xs := by rw [← HN.out, List.take_length]
      rw [e1]
      clear e1
      go_wp2_with fail
      go_ret
      exact ⟨rfl, rfl⟩
set_option maxHeartbeats 4000000 in
set_option maxRecDepth 100000 in
theorem step_any {q : Np} {n : Nat} {se : Bool} {s : St} {w : World} (h : NfaAt w q n se s) (hT : TZ w) (xs : List Int) (A : Option Addr) (cap : Nat) (hx : IS w w.heap.size xs A cap) (m : Int) (hm : i64 m) :
    Calls Tryd.prog 19 #[.pointer (some ⟨q.b, 0, none⟩), .slice A xs.length cap, .int .i64 m] w fun r w' => ∃ v, r = .returned v ∧ OwnP w' w.heap.size (posL (stepM se s xs m)) v ∧ Below w.heap.size w w' := by
  have hln : xs.length ≤ 9223372036854775807 := by have := hx.l; have := hx.m; unfold maxLen at this; omega
  obtain ⟨G, hG⟩ : ∃ G, w.heap.size = G := ⟨_, rfl⟩
  obtain ⟨W1, hW1⟩ : ∃ W, w.alloc (.cells Z70 70) = W := ⟨_, rfl⟩
  have p1 : PlAt W1 G 0 0 := by rw [← hW1, ← hG]; exact plAt_new w
  have b1 : Below w.heap.size w W1 := by rw [← hW1]; exact below_new _ _
  obtain ⟨N, hN⟩ : ∃ N, xs.length = N := ⟨_, rfl⟩
  have HN := Lib.hid hN
  have H := Lib.hid (And.intro h (And.intro hx (And.intro hT hm)))
  have HA := Lib.hid (And.intro hG hW1)
  have H1 := Lib.hid (And.intro p1 b1)
  rw [hN] at hln ⊢
  clear h hx hN hG hW1 p1 b1 hT hm
  go_enter Tryd.func19, Tryd.ntmps19
  go_wp2_with (first
    | (refine wpList_alloc70 rfl 7 rfl rfl G HA.out.1 W1 HA.out.2 ?_)
    | fail)
  go_loopw [14] (fun i wr => ∃ k : Nat, i = .int .i64 (k : Int) ∧ k ≤ N ∧ PlAt wr G 0 (nextU s (xs.take k)) ∧ Below w.heap.size w wr) (fun i _ => N - (RowKit.intOf i).toNat)
  case atStart => exact ⟨0, rfl, by omega, H1.out.1, H1.out.2⟩
  case round =>
    obtain ⟨k, rfl, hk, hpl, hb⟩ := hrel
    have hnf : NfaAt wr q n se s := H.out.1.below hb
    by_cases hlt : k < N
    · have i1 : (k : Int) < (N : Int) := by omega
      obtain ⟨x, hx⟩ : ∃ x, xs[k]? = some x := ⟨xs[k]'(by rw [HN.out]; exact hlt), List.getElem?_eq_getElem _⟩
      obtain ⟨b, o, rfl, hbl, hc⟩ := H.out.2.1.r (by rintro rfl; simp at hx)
      have d0 := (hb.cell (p := ⟨b, o + k, none⟩) hbl).trans (hc k x hx)
      have c2 := hnf.c2
      have ht := nextU_take hx s
      have h64 := H.out.2.1.i x (List.mem_of_getElem? hx)
      obtain ⟨X, hX⟩ : ∃ X, (if 0 ≤ x then s.next x.toNat else 0) = X := ⟨_, rfl⟩
      rw [hX] at ht
      generalize nextU s (xs.take k) = T at *
      have HX := Lib.hid (And.intro hX (And.intro ht (And.intro h64 (And.intro hpl (And.intro hb hnf)))))
      clear hX ht h64 hc hx hpl hb hnf
      go_wp2_with (first
        | (refine wpList_lookN rfl (.tmp 21) (.tmp 22) rfl HX.out.2.2.2.2.2 x HX.out.2.2.1 X HX.out.1 rfl rfl ?_)
        | (go_at_call 30; refine (padd_any G 0 T X wr HX.out.2.2.2.1).mono ?_; rintro e W2 ⟨rfl, hW2⟩
           have hend : ∃ j : Nat, Value.int .i64 ((k : Int) + 1) = .int .i64 (j : Int) ∧ j ≤ N ∧ PlAt W2 G 0 (nextU s (xs.take j)) ∧ Below w.heap.size w W2 :=
             ⟨k + 1, by simp, by omega, by rw [HX.out.2.1]; exact hW2.at_, HX.out.2.2.2.2.1.trans (below_grown hW2.grown (by rw [HA.out.1]; exact Nat.le_refl _) HX.out.2.2.2.2.1.size)⟩
           have HEND := Lib.hid hend
           clear hend hW2)
        | fail)
      go_roundw
      case rel => exact HEND.out
      case measure => simp [RowKit.intOf]; omega
    · obtain rfl : k = N := by omega
      have i1 : ¬ (k : Int) < (k : Int) := by omega
      have e1 : xs.take k = xs := by rw [← HN.out, List.take_length]
      rw [e1] at hpl
      have c3 := hnf.c3
      obtain ⟨T, hT⟩ : ∃ T, nextU s xs = T := ⟨_, rfl⟩
      obtain ⟨X, hX⟩ : ∃ X, takersI s m = X := ⟨_, rfl⟩
      rw [hT] at hpl
      have HX := Lib.hid (And.intro hT (And.intro hX (And.intro hpl (And.intro hb hnf))))
      clear e1 hT hX hpl hb hnf
      have hq : ¬ q.In G := fun hin => by have := H.out.1.lt hin; have := HA.out.1; omega
      cases se
      · go_wp2_with (first
          | (refine wpList_lookT rfl (.tmp 29) (.tmp 30) rfl HX.out.2.2.2.2 m H.out.2.2.2 X HX.out.2.1 rfl rfl ?_)
          | (go_at_call 31; refine (pkeep_any G 0 T X wr HX.out.2.2.1).mono ?_; rintro e W2 ⟨rfl, hW2⟩
             have b2 := HX.out.2.2.2.1.trans (below_grown hW2.grown (by rw [HA.out.1]; exact Nat.le_refl _) HX.out.2.2.2.1.size)
             have n2 := HX.out.2.2.2.2.grown hW2.grown hq
             have c0 := n2.c0
             have t2 := H.out.2.2.1.below b2 H.out.2.2.1.lt
             have H2 := Lib.hid (And.intro hW2.at_ (And.intro b2 (And.intro n2 t2)))
             clear hW2 b2 n2 t2)
          | (go_at_call 33; refine (list_any G 0 (T &&& X) W2 H2.out.1 H2.out.2.2.2).mono ?_; rintro e W3 ⟨v, rfl, ho, hb3⟩
             have H3 := Lib.hid (And.intro ho hb3)
             clear ho hb3)
          | fail)
        go_ret
        refine ⟨_, rfl, ?_, H2.out.2.1.trans (H3.out.2.mono H2.out.2.1.size)⟩
        have e2 : stepM false s xs m = T &&& X := by unfold stepM; rw [HX.out.1, HX.out.2.1]; rfl
        rw [e2]
        refine ⟨H3.out.1.1, ?_⟩
        rcases H3.out.1.2 with h1 | ⟨g, cap', cur, h1, h2, h3⟩
        · exact .inl h1
        · exact .inr ⟨g, cap', cur, h1, by have := H2.out.2.1.size; omega, h3⟩
      · go_wp2_with (first
          | (refine wpList_lookT rfl (.tmp 29) (.tmp 30) rfl HX.out.2.2.2.2 m H.out.2.2.2 X HX.out.2.1 rfl rfl ?_)
          | (go_at_call 31; refine (pkeep_any G 0 T X wr HX.out.2.2.1).mono ?_; rintro e W2 ⟨rfl, hW2⟩
             have b2 := HX.out.2.2.2.1.trans (below_grown hW2.grown (by rw [HA.out.1]; exact Nat.le_refl _) HX.out.2.2.2.1.size)
             have n2 := HX.out.2.2.2.2.grown hW2.grown hq
             have c0 := n2.c0
             have t2 := H.out.2.2.1.below b2 H.out.2.2.1.lt
             have H2 := Lib.hid (And.intro hW2.at_ (And.intro b2 (And.intro n2 t2)))
             clear hW2 b2 n2 t2)
          | (go_at_call 32; refine (only0_any W2).mono ?_; rintro e W3 ⟨rfl, hb3⟩
             have p3 := H2.out.1.block (hb3.block _ H2.out.1.lt)
             have b3 := H2.out.2.1.trans (hb3.mono H2.out.2.1.size)
             have H3 := Lib.hid (And.intro p3 b3)
             clear hb3 p3 b3)
          | (go_at_call 30; refine (padd_any G 0 (T &&& X) 1 W3 H3.out.1).mono ?_; rintro e W4 ⟨rfl, hW4⟩
             have b4 := H3.out.2.trans (below_grown hW4.grown (by rw [HA.out.1]; exact Nat.le_refl _) H3.out.2.size)
             have t4 := H.out.2.2.1.below b4 H.out.2.2.1.lt
             have H4 := Lib.hid (And.intro hW4.at_ (And.intro b4 t4))
             clear hW4 b4 t4)
          | (go_at_call 33; refine (list_any G 0 ((T &&& X) ||| 1) W4 H4.out.1 H4.out.2.2).mono ?_; rintro e W5 ⟨v, rfl, ho, hb5⟩
             have H5 := Lib.hid (And.intro ho hb5)
             clear ho hb5)
          | fail)
        go_ret
        refine ⟨_, rfl, ?_, H4.out.2.1.trans (H5.out.2.mono H4.out.2.1.size)⟩
        have e2 : stepM true s xs m = (T &&& X) ||| 1 := by unfold stepM; rw [HX.out.1, HX.out.2.1]; rfl
        rw [e2]
        refine ⟨H5.out.1.1, ?_⟩
        rcases H5.out.1.2 with h1 | ⟨g, cap', cur, h1, h2, h3⟩
        · exact .inl h1
        · exact .inr ⟨g, cap', cur, h1, by have := H4.out.2.1.size; omega, h3⟩
end Go.Proofs.YtlbcicoppglgjaaDoor
