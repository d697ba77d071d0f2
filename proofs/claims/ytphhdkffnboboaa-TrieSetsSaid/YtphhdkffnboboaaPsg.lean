/-
  Contracts: the law's own To: entries.
  Contracts: (*trie.Trie).Set.
  Contracts: (*trie.Trie).Classes.
  Two arrays of numbers are equal just if they are cell by cell.
-/
import Derived.Deep.RegionHeld3
import Derived.Deep.RegionLaw
import Derived.Deep.AppendLies
import Derived.Test.YtphhdkffnboboaaPsf
import Derived.Test.YtphhdkffnboboaaPsa
import Derived.Deep.MidRow
import Derived.Laws.Rows
import Derived.Laws.MakeOwn
import Derived.Deep.Onto
import Derived.Test.YtphhdkffnboboaaPse
import Derived.Laws.StructEq
namespace Go.Proofs.Ytphhdkffnboboaa
open Go.RowKit Go.Shelf
open Go.Lib Go.Great Go.Maps

/-- What is known of entries that were made, but for where they lie. -/
def same2 (l l' : List En) : Prop := l.map (fun e => (e.xs, e.c)) = l'.map (fun e => (e.xs, e.c))

theorem ES_own {w : World} {base n : Nat} {v : Value} {es : List En} (h : w.ownsRow base 72 2 v n (es.flatMap cellE)) (hl : es.length = n) (hR : ∀ e ∈ es, RS w w.heap.size e.A e.cap e.xs) :
    ∃ A cap, v = .slice A n cap ∧ ES w w.heap.size A cap es ∧ Fw A cap := by
  rcases h.2 with ⟨h1, h2⟩ | ⟨g, cp, cur, h1, h2, h3, h4, h5, h6, h7⟩
  · refine ⟨none, 0, by rw [h1, h2], ⟨by omega, Nat.zero_le _, hR, fun hn => absurd (List.length_eq_zero_iff.1 (by omega)) hn⟩, fun _ => rfl⟩
  · subst h1
    refine ⟨_, cp, rfl, ⟨by omega, h5, hR, fun _ => ⟨g, 0, rfl, (Array.getElem?_eq_some_iff.1 h3).1, fun i e he => ?_⟩⟩, fun h => by cases h⟩
    obtain ⟨c1, c2⟩ := flat2_get es i e he
    have hi := (List.getElem?_eq_some_iff.1 he).1
    rw [Nat.zero_add]
    have b1 : i * 2 < n * 2 := by omega
    have b2 : i * 2 + 1 < n * 2 := by omega
    rw [h.cellAt _ b1, h.cellAt _ b2]
    exact ⟨c1, c2⟩
theorem RS_grown {w w' : World} {X : Nat} {A : Option Addr} {cap : Nat} {xs : List Rng} {row : Option Nat} (h : RS w X A cap xs) (hX : X ≤ w.heap.size) (hg : w.grownBy w' row) (hne : ∀ p, A = some p → row ≠ some p.block) : RS w' w'.heap.size A cap xs :=
  ⟨h.1, h.2.1, h.2.2.1, fun hn => by
    obtain ⟨b, o, rfl, hlt, hR⟩ := h.2.2.2 hn
    have hs := hg.size
    have hn' := hne _ rfl
    refine ⟨b, o, rfl, by omega, fun i z hz => ?_⟩
    obtain ⟨h1, h2⟩ := hR i z hz
    exact ⟨(hg.cell_far ⟨b, o + i * 2, none⟩ (by show b < _; omega) (fun e => hn' e.symm)).trans h1, (hg.cell_far ⟨b, o + i * 2 + 1, none⟩ (by show b < _; omega) (fun e => hn' e.symm)).trans h2⟩⟩

set_option maxHeartbeats 4000000 in
set_option maxRecDepth 100000 in
theorem lawto_any (A : Option Addr) (cap : Nat) (es : List En) (w : World) (h : ES w w.heap.size A cap es) (hl : es.length ≤ 12) (hx : ∀ e ∈ es, e.xs.length ≤ 12) :
    Calls Try.prog 16 #[.slice A es.length cap] w fun e w' => ∃ A' cap' es', e = .returned (.slice A' es.length cap') ∧ es'.length = es.length ∧ same2 es' es ∧ ES w' w'.heap.size A' cap' es' ∧ Fw A' cap' ∧ Below w.heap.size w w' := by
  have H := Lib.hid h
  obtain ⟨n, hn⟩ : ∃ n, es.length = n := ⟨_, rfl⟩
  have HN := Lib.hid hn
  rw [hn] at hl ⊢
  clear h hn
  go_enter Try.func16, Try.ntmps16
  go_wp2_with fail
  go_loopw [3, 4] (fun v i wr => ∃ (k : Nat) (l : List En), i = .int .i64 (k : Int) ∧ k ≤ n ∧ wr.ownsRow w.heap.size 72 2 v k (l.flatMap cellE) ∧ same2 l (es.take k) ∧ (∀ e ∈ l, RS wr wr.heap.size e.A e.cap e.xs ∧ ∀ p, e.A = some p → p.block < wr.heap.size ∧ v.ownBlock ≠ some p.block) ∧ Below w.heap.size w wr) (fun _ i _ => n - (RowKit.intOf i).toNat)
  case atStart => exact ⟨0, [], rfl, Nat.zero_le _, World.ownsRow_nil _ _ _ _, rfl, by simp, Below.refl _ _⟩
  case round =>
    obtain ⟨k, l, rfl, hk, hown, hs, hR, hb⟩ := hrel
    by_cases hlt : k < n
    · obtain ⟨x, hx'⟩ : ∃ x, es[k]? = some x := ⟨es[k]'(by rw [HN.out]; exact hlt), List.getElem?_eq_getElem _⟩
      obtain ⟨b, o', rfl, hbl, hE⟩ := H.out.2.2.2 (by intro e; rw [e] at hx'; simp at hx')
      obtain ⟨q1, q2⟩ := hE k x hx'
      have i1 : (k : Int) < (n : Int) := by omega
      have HH := Lib.hid (And.intro hown (And.intro hs (And.intro hR hb)))
      clear hown hs hR hb hE
      go_wp2_with fail
      have HQ := Lib.hid (show Below w.heap.size w wr.drew from HH.out.2.2.2.drew)
      have HBL := Lib.hid hbl
      have C := Lib.hid (to_any x.A x.cap x.xs wr.drew (((H.out.2.2.1 x (List.mem_of_getElem? hx')).below HQ.out).mono HQ.out.size) (by have := hx x (List.mem_of_getElem? hx'); omega))
      refine wp_region_noPanic ?_
      refine wp_region_held_drew (S := fun W => Below w.heap.size w W) (by kernel_rfl) HQ.out (fun hH => ?_)
      refine wpAnyH_take (i := 0) (oi := { dst := some 11, op := Op.move (Operand.tmp 3), type := 30, pos := "law.go:23", after := #[], guard := none }) (v := ?_) rfl (by kernel_rfl) (by kernel_rfl) (by kernel_rfl) (fun _ _ _ h => h) (Or.inl ⟨by rfl, ?_⟩) (by exact hH) ?_
      rotate_left
      · intro W hSw
        go_simp
        try with_reducible rfl
      try simp only [Act.put, List.setIfInBounds_toArray, List.set_cons_zero, List.set_cons_succ]
      refine wpAnyH_take (i := 1) (oi := { dst := some 12, op := Op.move (Operand.tmp 0), type := 22, pos := "law.go:23", after := #[], guard := none }) (v := ?_) rfl (by kernel_rfl) (by kernel_rfl) (by kernel_rfl) (fun _ _ _ h => h) (Or.inl ⟨by rfl, ?_⟩) (by exact hH) ?_
      rotate_left
      · intro W hSw
        go_simp
        try with_reducible rfl
      try simp only [Act.put, List.setIfInBounds_toArray, List.set_cons_zero, List.set_cons_succ]
      refine wpAnyH_take (i := 2) (oi := { dst := some 13, op := Op.move (Operand.tmp 4), type := 3, pos := "law.go:23", after := #[], guard := none }) (v := ?_) rfl (by kernel_rfl) (by kernel_rfl) (by kernel_rfl) (fun _ _ _ h => h) (Or.inl ⟨by rfl, ?_⟩) (by exact hH) ?_
      rotate_left
      · intro W hSw
        go_simp
        try with_reducible rfl
      try simp only [Act.put, List.setIfInBounds_toArray, List.set_cons_zero, List.set_cons_succ]
      refine wpAnyH_take (i := 3) (oi := { dst := some 14, op := Op.indexAddr 22 (Operand.tmp 12) (Operand.tmp 13), type := 0, pos := "law.go:23", after := #[{ on := 1, ground := Ground.data }, { on := 2, ground := Ground.data }], guard := none }) (v := ?_) rfl (by kernel_rfl) (by kernel_rfl) (by kernel_rfl) (fun _ _ _ h => h) (Or.inl ⟨by rfl, ?_⟩) (by exact hH) ?_
      rotate_left
      · intro W hSw
        go_simp
        try with_reducible rfl
      try simp only [Act.put, List.setIfInBounds_toArray, List.set_cons_zero, List.set_cons_succ]
      refine wpAnyH_take (i := 4) (oi := { dst := some 15, op := Op.fieldAddr 38 (Operand.tmp 14) 0, type := 0, pos := "law.go:23", after := #[{ on := 3, ground := Ground.data }], guard := none }) (v := ?_) rfl (by kernel_rfl) (by kernel_rfl) (by kernel_rfl) (fun _ _ _ h => h) (Or.inl ⟨by rfl, ?_⟩) (by exact hH) ?_
      rotate_left
      · intro W hSw
        go_simp
        try with_reducible rfl
      try simp only [Act.put, List.setIfInBounds_toArray, List.set_cons_zero, List.set_cons_succ]
      refine wpAnyH_take (i := 5) (oi := { dst := some 16, op := Op.load 36 (Operand.tmp 15), type := 36, pos := "law.go:23", after := #[{ on := 4, ground := Ground.data }], guard := none }) (v := ?_) rfl (by kernel_rfl) (by kernel_rfl) (by kernel_rfl) (fun _ _ _ h => h) (Or.inl ⟨by rfl, ?_⟩) (by exact hH) ?_
      rotate_left
      · intro W hSw
        have p := (hSw.cell (p := ⟨b, o' + k * 2, none⟩) hbl).trans q1
        go_simp
        try with_reducible rfl
      try simp only [Act.put, List.setIfInBounds_toArray, List.set_cons_zero, List.set_cons_succ]
      refine wpAnyH_take (i := 7) (oi := { dst := some 18, op := Op.move (Operand.tmp 0), type := 22, pos := "law.go:23", after := #[], guard := none }) (v := ?_) rfl (by kernel_rfl) (by kernel_rfl) (by kernel_rfl) (fun _ _ _ h => h) (Or.inl ⟨by rfl, ?_⟩) (by exact hH) ?_
      rotate_left
      · intro W hSw
        go_simp
        try with_reducible rfl
      try simp only [Act.put, List.setIfInBounds_toArray, List.set_cons_zero, List.set_cons_succ]
      refine wpAnyH_take (i := 8) (oi := { dst := some 19, op := Op.move (Operand.tmp 4), type := 3, pos := "law.go:23", after := #[], guard := none }) (v := ?_) rfl (by kernel_rfl) (by kernel_rfl) (by kernel_rfl) (fun _ _ _ h => h) (Or.inl ⟨by rfl, ?_⟩) (by exact hH) ?_
      rotate_left
      · intro W hSw
        go_simp
        try with_reducible rfl
      try simp only [Act.put, List.setIfInBounds_toArray, List.set_cons_zero, List.set_cons_succ]
      refine wpAnyH_take (i := 9) (oi := { dst := some 20, op := Op.indexAddr 22 (Operand.tmp 18) (Operand.tmp 19), type := 0, pos := "law.go:23", after := #[{ on := 7, ground := Ground.data }, { on := 8, ground := Ground.data }], guard := none }) (v := ?_) rfl (by kernel_rfl) (by kernel_rfl) (by kernel_rfl) (fun _ _ _ h => h) (Or.inl ⟨by rfl, ?_⟩) (by exact hH) ?_
      rotate_left
      · intro W hSw
        go_simp
        try with_reducible rfl
      try simp only [Act.put, List.setIfInBounds_toArray, List.set_cons_zero, List.set_cons_succ]
      refine wpAnyH_take (i := 10) (oi := { dst := some 21, op := Op.fieldAddr 38 (Operand.tmp 20) 1, type := 0, pos := "law.go:23", after := #[{ on := 9, ground := Ground.data }], guard := none }) (v := ?_) rfl (by kernel_rfl) (by kernel_rfl) (by kernel_rfl) (fun _ _ _ h => h) (Or.inl ⟨by rfl, ?_⟩) (by exact hH) ?_
      rotate_left
      · intro W hSw
        go_simp
        try with_reducible rfl
      try simp only [Act.put, List.setIfInBounds_toArray, List.set_cons_zero, List.set_cons_succ]
      refine wpAnyH_take (i := 11) (oi := { dst := some 22, op := Op.load 3 (Operand.tmp 21), type := 3, pos := "law.go:23", after := #[{ on := 10, ground := Ground.data }], guard := none }) (v := ?_) rfl (by kernel_rfl) (by kernel_rfl) (by kernel_rfl) (fun _ _ _ h => h) (Or.inl ⟨by rfl, ?_⟩) (by exact hH) ?_
      rotate_left
      · intro W hSw
        have p := (hSw.cell (p := ⟨b, o' + k * 2 + 1, none⟩) hbl).trans q2
        go_simp
        try with_reducible rfl
      try simp only [Act.put, List.setIfInBounds_toArray, List.set_cons_zero, List.set_cons_succ]
      refine wpAnyH_ready (rs := [6]) (by kernel_rfl) (by simp) ?_
      refine AllReadyH.cons (o := { dst := some 17, op := Op.call { callee := Callee.value (Operand.func 46), args := #[Operand.tmp 16], argTypes := #[36] }, type := 43, pos := "law.go:23", after := #[{ on := 5, ground := Ground.data }], guard := none }) rfl (fun K hK => ?_) AllReadyH.nil
      go_simp
      go_at_call 46
      refine C.out.mono ?_
      rintro e w5 ⟨v5, rfl, hown5, hb5⟩
      obtain ⟨A5, c5, rfl, hRS5⟩ := ownsRow_RS hown5 (H.out.2.2.1 x (List.mem_of_getElem? hx')).2.2.1
      have HB5 := Lib.hid (HQ.out.trans (hb5.mono HQ.out.size))
      have H5 := Lib.hid (And.intro hown5 (And.intro hb5 hRS5))
      clear hown5 hb5 hRS5
      go_wp2_with fail
      refine hK.out _ _ HB5.out (fun hH => ?_)
      clear hK K
      try simp only [Act.put, List.setIfInBounds_toArray, List.set_cons_zero, List.set_cons_succ]
      refine wpAnyH_take (i := 12) (oi := { dst := some 23, op := Op.build 72 #[(0, Operand.tmp 17), (1, Operand.tmp 22)], type := 72, pos := "law.go:23", after := #[{ on := 6, ground := Ground.data }, { on := 11, ground := Ground.data }], guard := none }) (v := ?_) rfl (by kernel_rfl) (by kernel_rfl) (by kernel_rfl) (fun _ _ _ h => h) (Or.inl ⟨by rfl, ?_⟩) (by exact hH) ?_
      rotate_left
      · intro W hSw
        go_simp
        try with_reducible rfl
      try simp only [Act.put, List.setIfInBounds_toArray, List.set_cons_zero, List.set_cons_succ]
      have HB6 := Lib.hid (HB5.out.alloc HB5.out.size (.cells #[.slice A5 x.xs.length c5, .int .i64 x.c] 72))
      have HO6 := Lib.hid ((ownsRow_below HH.out.1.drew H5.out.2.1).alloc (.cells #[.slice A5 x.xs.length c5, .int .i64 x.c] 72))
      have NB := Lib.hid (World.news_of_block (heap_alloc_new w5 (.cells #[.slice A5 x.xs.length c5, .int .i64 x.c] 72)))
      obtain ⟨i72, hi72, hzz⟩ := Option.map_eq_some_iff.1 Try.info72
      simp only [Prod.mk.injEq] at hzz
      have HI := Lib.hid (And.intro hi72 hzz)
      clear hi72 hzz
      refine wpAnyH_ready (rs := [13]) (by kernel_rfl) (by simp) ?_
      refine AllReadyH.cons (o := { dst := some 24, op := Op.buildSlice 30 1 #[(0, Operand.tmp 23)], type := 30, pos := "law.go:23", after := #[{ on := 12, ground := Ground.data }], guard := none }) rfl (fun K hK => ?_) AllReadyH.nil
      go_simp
      refine hK.out _ _ HB6.out (fun hH => ?_)
      clear hK K
      try simp only [Act.put, List.setIfInBounds_toArray, List.set_cons_zero, List.set_cons_succ]
      refine wpAnyH_ready (rs := [14]) (by kernel_rfl) (by simp) ?_
      refine AllReadyH.cons (o := { dst := some 25, op := Op.call { callee := Callee.builtin Builtin.append, args := #[Operand.tmp 11, Operand.tmp 24], argTypes := #[30, 30] }, type := 30, pos := "law.go:23", after := #[{ on := 0, ground := Ground.data }, { on := 13, ground := Ground.data }, { on := 6, ground := Ground.chain }], guard := none }) rfl (fun K hK => ?_) AllReadyH.nil
      refine step_append_lies _ rfl (.tmp 11) (.tmp 24) 30 rfl w.heap.size 72 i72 _ 2 32 Try.underlying30 HI.out.1 HI.out.2.1 HI.out.2.2.1 HI.out.2.2.2 rfl (by omega) u3 k (l.flatMap cellE) rfl HO6.out ⟨w5.heap.size, 0, none⟩ 1 1 [.slice A5 x.xs.length c5, .int .i64 x.c] rfl rfl NB.out (by simp [Value.oneCell']) (by omega) (by unfold maxLen; omega) (by omega) HB6.out.size (w5.heap.size + 1) (by simp) ?_
      intro g cap1 w7 hown7 hgrow7 hat7 hlt7
      have HB7 := Lib.hid (HB6.out.grown hgrow7 HB6.out.size (fun k e' => (own_block_lt HO6.out k e').1))
      have H7 := Lib.hid (And.intro hown7 (And.intro hgrow7 (And.intro hat7 hlt7)))
      clear hown7 hgrow7 hat7 hlt7
      refine hK.out _ _ HB7.out (fun hH => ?_)
      clear hK K
      try simp only [Act.put, List.setIfInBounds_toArray, List.set_cons_zero, List.set_cons_succ]
      refine wpAnyH_take (i := 15) (oi := { dst := some 3, op := Op.assign (Operand.tmp 25), type := 30, pos := "law.go:23", after := #[{ on := 14, ground := Ground.data }, { on := 14, ground := Ground.chain }, { on := 0, ground := Ground.phase }, { on := 1, ground := Ground.phase }, { on := 2, ground := Ground.phase }, { on := 3, ground := Ground.phase }, { on := 4, ground := Ground.phase }, { on := 5, ground := Ground.phase }, { on := 6, ground := Ground.phase }, { on := 7, ground := Ground.phase }, { on := 8, ground := Ground.phase }, { on := 9, ground := Ground.phase }, { on := 10, ground := Ground.phase }, { on := 11, ground := Ground.phase }, { on := 12, ground := Ground.phase }, { on := 13, ground := Ground.phase }, { on := 14, ground := Ground.phase }], guard := none }) (v := ?_) rfl (by kernel_rfl) (by kernel_rfl) (by kernel_rfl) (fun _ _ _ h => h) (Or.inl ⟨by rfl, ?_⟩) (by exact hH) ?_
      rotate_left
      · intro W hSw
        go_simp
        try with_reducible rfl
      try simp only [Act.put, List.setIfInBounds_toArray, List.set_cons_zero, List.set_cons_succ]
      refine wpAnyH_done (by kernel_rfl) ?_ _
      refine NoPanic.normal ?_
      have hend : ∃ (k_1 : Nat) (l : List En), Value.int .i64 ((k : Int) + 1) = .int .i64 (k_1 : Int) ∧ k_1 ≤ n ∧ w7.ownsRow w.heap.size 72 2 (.slice (some ⟨g, 0, none⟩) (k + 1) cap1) k_1 (l.flatMap cellE) ∧ same2 l (es.take k_1) ∧ (∀ e ∈ l, RS w7 w7.heap.size e.A e.cap e.xs ∧ ∀ p, e.A = some p → p.block < w7.heap.size ∧ Value.ownBlock (.slice (some ⟨g, 0, none⟩) (k + 1) cap1) ≠ some p.block) ∧ Below w.heap.size w w7 := by
        obtain ⟨hown7, hgrow7, hat7, hlt7⟩ := H7.out
        obtain ⟨hown, hs, hR, hb⟩ := HH.out
        obtain ⟨hown5, hb5, hRS5⟩ := H5.out
        have hs5 : wr.heap.size ≤ w5.heap.size := hb5.size
        have hs7 := hgrow7.size
        have hz6 : (w5.alloc (.cells #[.slice A5 x.xs.length c5, .int .i64 x.c] 72)).heap.size = w5.heap.size + 1 := by simp
        have hbn := below_new w5 (.cells #[.slice A5 x.xs.length c5, .int .i64 x.c] 72)
        refine ⟨k + 1, l ++ [⟨A5, c5, x.xs, x.c⟩], by simp, by omega, by rw [List.flatMap_append]; simpa [cellE] using hown7, ?_, ?_, HB7.out⟩
        · unfold same2 at hs ⊢
          rw [List.map_append, hs, List.take_add_one, hx', List.map_append]
          rfl
        · intro e he
          rcases List.mem_append.1 he with he | he
          · obtain ⟨r1, r2⟩ := hR e he
            have r5 : RS w5 wr.heap.size e.A e.cap e.xs := RS.below (w := wr.drew) r1 hb5
            refine ⟨RS_grown (r5.below (hbn.mono hs5)) (by omega) hgrow7 (fun p hp => (r2 p hp).2), fun p hp => ⟨by have := (r2 p hp).1; omega, ?_⟩⟩
            intro eg
            have eg : g = p.block := by simpa [Value.ownBlock] using eg
            rcases hat7 with h7 | h7
            · exact (r2 p hp).2 (by rw [h7, eg])
            · have := (r2 p hp).1; omega
          · simp only [List.mem_cons, List.not_mem_nil, or_false] at he
            subst he
            have hfresh : ∀ p, A5 = some p → wr.heap.size ≤ p.block ∧ p.block < w5.heap.size := fun p hp => hown5.lt p.block (by rw [hp]; rfl)
            refine ⟨RS_grown (hRS5.below hbn) (by omega) hgrow7 (fun p hp e' => ?_), fun p hp => ⟨by have := (hfresh p hp).2; omega, ?_⟩⟩
            · have := (own_block_lt hown _ e').2
              have := (hfresh p hp).1
              omega
            · intro eg
              have eg : g = p.block := by simpa [Value.ownBlock] using eg
              rcases hat7 with h7 | h7
              · have := (own_block_lt hown _ h7).2
                have := (hfresh p hp).1
                omega
              · have := (hfresh p hp).2; omega
      have HEND := Lib.hid hend
      clear hend
      go_wp2_with fail
      go_roundw
      case rel => exact HEND.out
      case measure => simp [RowKit.intOf]; omega
    · have hkn : k = n := by omega
      subst hkn
      have hlen : l.length = k := by
        have := congrArg List.length hs
        simp only [List.length_map, List.length_take, HN.out] at this
        omega
      obtain ⟨A', cap', rfl, hES, hFw⟩ := ES_own hown hlen (fun e he => (hR e he).1)
      have hs' : same2 l es := by rw [List.take_of_length_le (by rw [HN.out]; exact Nat.le_refl _)] at hs; exact hs
      have HK := Lib.hid (And.intro hlen (And.intro hs' (And.intro hES (And.intro hFw hb))))
      clear hown hs hR hb hlen hES hFw hs'
      have d1 : decide ((k : Int) < (k : Int)) = false := by simp
      go_wp2_with fail
      go_ret
      exact ⟨A', cap', l, rfl, HK.out.1, HK.out.2.1, HK.out.2.2.1, HK.out.2.2.2.1, HK.out.2.2.2.2⟩
end Go.Proofs.Ytphhdkffnboboaa

namespace Go.Proofs.Ytphhdkffnboboaa
open Go.RowKit Go.Shelf
open Go.Lib Go.Great Go.Maps

def refsL (G : Nat → Int) : List Value := (List.range 4352).map fun t => Value.int .i64 ((rf G 4352 t : Nat) : Int)
theorem refs_len (G : Nat → Int) : (refsL G).length = 4352 := by simp [refsL]
theorem refs_get (G : Nat → Int) (t : Nat) (ht : t < 4352) : (refsL G)[t]? = some (.int .i64 ((rf G 4352 t : Nat) : Int)) := by
  simp [refsL, ht]
attribute [local irreducible] refsL
theorem refs_index (G : Nat → Int) (t : Nat) (ht : t < 4352) (w : World) : (Instr.index 78 (.agg (refsL G).toArray) (.int .i64 (t : Int))).run Try.prog w = .ok (.int .i64 ((rf G 4352 t : Nat) : Int)) w := by
  have h := refs_get G t ht
  have hE : (refsL G).toArray[t]? = some (.int .i64 ((rf G 4352 t : Nat) : Int)) := by simpa using h
  simp [Instr.index, asIntOf, run_underlying Try.underlying78, part, Try.isAgg3, Try.sizeOf3, Sem.run_bind, Result.andThen, h, go_sem]
  omega
theorem size78 : (Try.prog.info? 78).map (·.size) = some 4352 := by kernel_rfl
/-- What of a trie's memory is used: its row of blocks, and which block each reference names. -/
theorem Tr.parts {w : World} {T : Nat} {o : Int} {G : Nat → Int} (h : Tr w T o G) : ∃ b cap, w.cell? ⟨T, 4353, none⟩ = some (.slice (some ⟨b, 0, none⟩) (dd G 4352).length cap) ∧ w.cell? ⟨T, 0, none⟩ = some (.int .i64 o) ∧
    w.rangeAt T 1 (refsL G) ∧ (∀ t, t < 4352 → rf G 4352 t < (dd G 4352).length) ∧ (∀ i k, (dd G 4352)[i]? = some k → w.rangeAt b (i * 256) (blc G k)) ∧ (dd G 4352).length ≤ 4352 ∧ T < w.heap.size ∧ b < w.heap.size := by
  obtain ⟨b, cap, u, h1, h2, h3, h4, h5, h6, h7⟩ := h
  refine ⟨b, cap, h2, h1, fun j v hv => ?_, fun t ht => ?_, fun i k hi j v hv => ?_, h5, cell_lt h1, ?_⟩
  · have hj : j < 4352 := by have := (List.getElem?_eq_some_iff.1 hv).1; rw [refs_len] at this; exact this
    rw [refs_get G j hj] at hv
    rw [(h3 j hj).1, h6 j hj]
    exact hv
  · rw [← h6 t ht]; exact (h3 t ht).2
  · have hj : j < 256 := by have := (List.getElem?_eq_some_iff.1 hv).1; rw [blc_len] at this; exact this
    rw [blc_get G k j hj] at hv
    rw [h7 i k hi j hj]
    exact hv
  · exact cell_lt (h4 0 0 (by omega) (by omega))
theorem rangeAt_below {w w' : World} {b o B : Nat} {cs : List Value} (h : w.rangeAt b o cs) (hb : b < B) (hB : Below B w w') : w'.rangeAt b o cs := fun j v hv => (hB.cell (p := ⟨b, o + j, none⟩) hb).trans (h j v hv)

theorem clsTo_same {G : Nat → Int} {c : Int} {k t : Nat} (h : sameB G k t = true) (r : Int) : clsTo (fun q => G (256 * k + q)) c 256 r = clsTo (fun q => G (256 * t + q)) c 256 r := by
  rw [Bool.eq_iff_iff, clsTo_iff, clsTo_iff]
  have hj : ∀ j, j < 256 → G (256 * k + j) = G (256 * t + j) := fun j hj => by
    unfold sameB at h
    rw [List.all_eq_true] at h
    have := h j (List.mem_range.2 hj)
    simpa using this
  constructor <;> (rintro ⟨h1, h2, h3⟩; refine ⟨h1, h2, ?_⟩; have := hj r.toNat (by omega); omega)
/-- What is known of the ranges within the first i unlike blocks. -/
def Wth (w : World) (G : Nat → Int) (c : Int) (Wb i : Nat) (L : List Value) : Prop := ∀ j k, j < i → (dd G 4352)[j]? = some k → ∃ A cap xs, L[j]? = some (.slice A (List.length xs) cap) ∧ RS w w.heap.size A cap xs ∧ Tells xs (clsTo (fun q => G (256 * k + q)) c 256) ∧ (xs ≠ [] → ∀ p, A = some p → p.block ≠ Wb)

theorem Try.info43 : (Try.prog.info? 43).map (fun i => (i.zero, i.size, i.bytes)) = some (some (.slice none 0 0), 1, 24) := by kernel_rfl
theorem make_rows (n : Nat) (hn : n ≤ 4352) : ∃ Z : Array Value, Z.size = n ∧ ∀ w : World, (Instr.makeSlice 86 (.int .i64 (n : Int)) (.int .i64 (n : Int))).run Try.prog w = .ok (.slice (some ⟨w.heap.size, 0, none⟩) n n) (w.alloc (.cells Z 43)) := by
  obtain ⟨i, hi, hzz⟩ := Option.map_eq_some_iff.1 Try.info43
  simp only [Prod.mk.injEq] at hzz
  obtain ⟨hz, hs, hb⟩ := hzz
  refine ⟨madeCells [Value.slice none 0 0].toArray (n * 1), by rw [size_madeCells]; omega, fun w => ?_⟩
  have := run_make (P := Try.prog) w 86 43 i (.slice none 0 0) Try.underlying86 hi hz .i64 .i64 (n : Int) (n : Int) (by omega) (by omega) (by rw [hb]; omega) (by omega)
  rw [this, hs]
  simp [Value.cells]
theorem wth_below {w w' : World} {G : Nat → Int} {c : Int} {Wb i : Nat} {L : List Value} (h : Wth w G c Wb i L) (hb : Below w.heap.size w w') : Wth w' G c Wb i L := fun j k hj hk => by
  obtain ⟨A, cap, xs, h1, h2, h3, h4⟩ := h j k hj hk
  exact ⟨A, cap, xs, h1, (h2.below hb).mono hb.size, h3, h4⟩
theorem RS_grownX {w w' : World} {X : Nat} {A : Option Addr} {cap : Nat} {xs : List Rng} {row : Option Nat} (h : RS w X A cap xs) (hX : X ≤ w.heap.size) (hg : w.grownBy w' row) (hne : xs ≠ [] → ∀ p, A = some p → row ≠ some p.block) : RS w' w'.heap.size A cap xs :=
  ⟨h.1, h.2.1, h.2.2.1, fun hn => (RS_grown h hX hg (hne hn)).2.2.2 hn⟩
theorem wth_set {w : World} {G : Nat → Int} {c : Int} {Wb i : Nat} {L : List Value} {k : Nat} {A : Option Addr} {cap : Nat} {xs : List Rng} (h : Wth w G c Wb i L) (hl : i < L.length) (hk : (dd G 4352)[i]? = some k) (_hW : Wb < w.heap.size)
    (hR : RS w w.heap.size A cap xs) (hT : Tells xs (clsTo (fun q => G (256 * k + q)) c 256)) (hn : xs ≠ [] → ∀ p, A = some p → p.block ≠ Wb) :
    Wth (w.setCell ⟨Wb, i, none⟩ (.slice A xs.length cap)) G c Wb (i + 1) (L.set i (.slice A xs.length cap)) := fun j k' hj hk' => by
  have hg : w.grownBy (w.setCell ⟨Wb, i, none⟩ (.slice A xs.length cap)) (some Wb) := grown_setCell w Wb i _
  by_cases e : j = i
  · subst e
    rw [hk] at hk'
    injection hk' with hk'
    subst hk'
    refine ⟨A, cap, xs, by simp [hl], ?_, hT, hn⟩
    exact RS_grownX hR (Nat.le_refl _) hg (fun hx p hp e => hn hx p hp (Option.some.inj e).symm)
  · obtain ⟨A', cap', xs', h1, h2, h3, h4⟩ := h j k' (by omega) hk'
    refine ⟨A', cap', xs', by rw [List.getElem?_set_ne (by omega)]; exact h1, ?_, h3, h4⟩
    exact RS_grownX h2 (Nat.le_refl _) hg (fun hx p hp e => h4 hx p hp (Option.some.inj e).symm)

set_option maxHeartbeats 4000000 in
set_option maxRecDepth 100000 in
theorem tset_any (T : Nat) (o : Int) (G : Nat → Int) (c : Int) (w : World) (h : Tr w T o G) (hG : U8 G) (c0 : 0 ≤ c) (c1 : c ≤ 255) :
    Calls Try.prog 20 #[.pointer (some ⟨T, 0, none⟩), .int .i64 c] w fun e w' => ∃ xs, HoldsR w.heap.size 70 xs w e w' ∧ Tells xs (clsTo G c 1114112) := by
  obtain ⟨b, cap, p1, p2, p3, p4, p5, p6, p7, p8⟩ := h.parts
  have HP := Lib.hid (And.intro p3 (And.intro p4 (And.intro p5 (And.intro p7 p8))))
  have C1 := Lib.hid (show ∀ w, Calls Try.prog 40 #[.int .i64 c] w fun e w' => e = .returned (.bool true) ∧ w' = w from fun w => by have := isClass_any c w; rw [(cls_iff c).2 ⟨c0, c1⟩] at this; exact this)
  have BS := Lib.hid (bset_any G hG)
  have hlen0 : 0 < (dd G 4352).length := Nat.lt_of_le_of_lt (Nat.zero_le _) (p4 0 (by omega))
  obtain ⟨n, hn⟩ : ∃ n, (dd G 4352).length = n := ⟨_, rfl⟩
  have HN := Lib.hid hn
  rw [hn] at p1 p6 hlen0
  obtain ⟨Z, hZ, MK⟩ := make_rows n p6
  have hZrow := World.ownsRow_lit (base := w.heap.size) (e := 43) (size := 1) w Z n (Nat.le_refl _) (by unfold maxLen; omega) (by omega)
  have HZ := Lib.hid hZrow
  have hZB := Lib.hid ((Below.refl w.heap.size w).alloc (Nat.le_refl _) (.cells Z 43))
  have hMK := MK
  clear h hG p2 p3 p4 p5 hn hZ MK hZrow
  go_enter Try.func20, Try.ntmps20
  go_wp2_with fail
  refine (C1.out _).mono ?_
  rintro e w1 ⟨rfl, rfl⟩
  go_wp2_with fail
  clear hMK
  trace "L1"
  go_loopw [32] (fun i wr => ∃ (k : Nat) (L : List Value), i = .int .i64 (k : Int) ∧ k ≤ n ∧ wr.ownsRow w1.heap.size 43 1 (.slice (some ⟨w1.heap.size, 0, none⟩) n n) n L ∧ Wth wr G c w1.heap.size k L ∧ Below w1.heap.size w1 wr) (fun i _ => n - (RowKit.intOf i).toNat)
  case atStart => exact ⟨0, _, rfl, Nat.zero_le _, HZ.out, fun j k hj => absurd hj (Nat.not_lt_zero _), hZB.out⟩
  case round =>
    obtain ⟨k, L, rfl, hk, hown, hW, hb⟩ := hrel
    by_cases hlt : k < n
    · have i1 : (k : Int) < (n : Int) := by omega
      obtain ⟨kk, hkk⟩ : ∃ kk, (dd G 4352)[k]? = some kk := ⟨(dd G 4352)[k]'(by rw [HN.out]; exact hlt), List.getElem?_eq_getElem _⟩
      have hrg := Lib.hid (rangeAt_below (HP.out.2.2.1 k kk hkk) HP.out.2.2.2.2 hb)
      have HH := Lib.hid (And.intro hown (And.intro hW (And.intro hb hkk)))
      clear hown hW hb hkk
      go_wp2_with (first
        | (refine wpList_load_mid rfl 84 (.tmp 35) rfl b (k * 256) rfl (blc G kk) (.array 256 5) hrg.out Try.underlying84 rfl (by rw [blc_len]; exact size84) ?_)
        | (refine wpList_allocTo rfl (some 7) rfl (.pointer (some ⟨wr.heap.size, 0, none⟩)) (.cells Z84 84) (by as_aux_lemma => kernel_rfl) ?_)
        | (refine wpList_store84 rfl (.tmp 7) (.tmp 36) rfl rfl (blc G kk) (blc_len G kk) (blc_one G kk) rfl rfl ?_)
        | fail)
      intro W hWN hWb hWs
      have hown := ownsRow_below HH.out.1 hWb
      have hW := wth_below HH.out.2.1 hWb
      have hbW := HH.out.2.2.1.trans (hWb.mono HH.out.2.2.1.size)
      have hq1 := hown.cellAt k (by omega)
      have hq2 := hown.frozenAt k
      have hLl : L.length = n := by have := hown.1; omega
      obtain ⟨u, hu⟩ : ∃ u, L[k]? = some u := ⟨L[k]'(by omega), List.getElem?_eq_getElem _⟩
      rw [hu] at hq1
      have hws := HH.out.2.2.1.size
      have hws2 := hWb.size
      have HA := Lib.hid (And.intro hown (And.intro hW (And.intro hbW (And.intro hLl HH.out.2.2.2))))
      have HW := Lib.hid hWN
      have e8 : IntKind.u8.wrap c = c := IntWalk.u8_in _ (by omega)
      clear hown hW hbW HH hWb hrg hu
      generalize wr.heap.size = N at *
      have C := Lib.hid (BS.out kk c c0 c1 W)
      go_wp2_with (first
        | (refine wpList_load_row rfl 84 (.tmp 7) rfl N rfl 84 (blc G kk).toArray (0, 0) (.array 256 5) HW.out Try.underlying84 rfl (by rw [size84]; simp [blc_len]) ?_)
        | fail)
      refine C.out.mono ?_
      rintro e w7 ⟨xs, ⟨v7, rfl, ho7, hb7⟩, hT7⟩
      obtain ⟨A7, c7, rfl, hRS7⟩ := ownsRow_RS ho7 (i32_of_right hT7.1)
      have hfr : ∀ p, A7 = some p → W.heap.size ≤ p.block := fun p hp => (own_block_lt ho7 p.block (by rw [hp]; rfl)).1
      have hwW : w1.heap.size < W.heap.size := by omega
      have r1 := (hb7.cell (p := ⟨w1.heap.size, k, none⟩) hwW).trans hq1
      have r2 := (hb7.frozen (p := ⟨w1.heap.size, k, none⟩) hwW).trans hq2
      have hend : ∃ (k_1 : Nat) (L : List Value), Value.int .i64 ((k : Int) + 1) = .int .i64 (k_1 : Int) ∧ k_1 ≤ n ∧ (w7.setCell ⟨w1.heap.size, k, none⟩ (.slice A7 xs.length c7)).ownsRow w1.heap.size 43 1 (.slice (some ⟨w1.heap.size, 0, none⟩) n n) n L ∧ Wth (w7.setCell ⟨w1.heap.size, k, none⟩ (.slice A7 xs.length c7)) G c w1.heap.size k_1 L ∧ Below w1.heap.size w1 (w7.setCell ⟨w1.heap.size, k, none⟩ (.slice A7 xs.length c7)) := by
        obtain ⟨hown, hW, hbW, hLl, hkk⟩ := HA.out
        have hs7 := hb7.size
        have ho := ownsRow_below hown hb7
        refine ⟨k + 1, L.set k (.slice A7 xs.length c7), by simp, by omega, (ho.stored k _).1, wth_set (wth_below hW hb7) (by omega) hkk (by omega) hRS7 hT7 (fun _ p hp e => ?_), ?_⟩
        · have := hfr p hp
          omega
        · exact (hbW.trans (hb7.mono hbW.size)).setCell (Nat.le_refl _) _
      have HEND := Lib.hid hend
      generalize xs.length = nx at *
      clear hend hT7 ho7 hb7 hRS7 hfr hwW hq1 hq2 hWs hWN
      trace "L3"
      go_wp2_with fail
      go_roundw
      case rel => exact HEND.out
      case measure => simp [RowKit.intOf]; omega
    · have hkn : k = n := by omega
      subst hkn
      have d1 : ¬ (k : Int) < (k : Int) := by omega
      have hrf := Lib.hid (fun (j : Nat) v (h : (refsL G)[j]? = some v) => rangeAt_below HP.out.1 HP.out.2.2.2.1 hb j v h)
      have HH := Lib.hid (And.intro hown (And.intro hW hb))
      clear hown hW hb
      trace "L4"
      go_wp2_with (first
        | (refine wpList_load_mid rfl 78 (.tmp 47) rfl T 1 rfl (refsL G) (.array 4352 3) hrf.out Try.underlying78 rfl (by rw [refs_len]; exact size78) ?_)
        | fail)
      obtain ⟨X, rfl⟩ : ∃ X : World, X = wr := ⟨_, rfl⟩
      have EX := Lib.hid (fun base v xs x w h hb hr hl => extend_any base v xs x w h hb hr hl)
      have HRI := Lib.hid (refs_index G)
      generalize (refsL G).toArray = RF at *
      go_loopw [8, 49] (fun v i wr => ∃ (t : Nat) (xs : List Rng), i = .int .i64 (t : Int) ∧ t ≤ 4352 ∧ wr.ownsRow X.heap.size 70 2 v xs.length (cells2 xs) ∧ Tells xs (clsTo G c (256 * t)) ∧ Below X.heap.size X wr) (fun _ i _ => 4352 - (RowKit.intOf i).toNat)
      case atStart => exact ⟨0, [], rfl, Nat.zero_le _, World.ownsRow_nil _ _ _ _, tells_zero G c, Below.refl _ _⟩
      case round =>
        obtain ⟨t, xs, rfl, ht, hown, hT, hb⟩ := hrel
        by_cases hlt : t < 4352
        · have i1 : (t : Int) < 4352 := by omega
          have hx := HRI.out t hlt
          have hq := HP.out.2.1 t hlt
          obtain ⟨kk, hkk, hsame⟩ := rf_at G 4352 t (dd_has G 4352 t hlt)
          rw [HN.out] at hq
          obtain ⟨A, capA, ws, hL, hRS, hTw, _⟩ := HH.out.2.1 _ kk hq hkk
          have hTw := hTw.congr (clsTo_same (c := c) hsame)
          have hc := HH.out.1.cellAt (rf G 4352 t) (by omega)
          rw [hL] at hc
          have hWX : w1.heap.size < X.heap.size := cell_lt hc
          have hc' := (hb.cell (p := ⟨w1.heap.size, rf G 4352 t, none⟩) hWX).trans hc
          generalize rf G 4352 t = q at *
          have j1 : (q : Int) < (k : Int) := by omega
          have e1 : IntKind.i32.wrap ((t : Int) * 256) = (t : Int) * 256 := IntWalk.i32_in _ (by omega)
          obtain ⟨m, hm⟩ : ∃ m, ws.length = m := ⟨_, rfl⟩
          have HM := Lib.hid hm
          have hwl := right_len2 hTw.1
          rw [hm] at hc' hwl
          have HO := Lib.hid (And.intro hown (And.intro hT hb))
          have HW := Lib.hid (And.intro hRS hTw)
          clear hown hT hb hL hRS hTw hc hm hq hkk hsame
          go_wp2_with fail
          clear hx hc'
          go_loopw [8, 61] (fun v i wr => ∃ (j : Nat) (out : List Rng), i = .int .i64 (j : Int) ∧ j ≤ m ∧ wr.ownsRow X.heap.size 70 2 v out.length (cells2 out) ∧ Tells out (inBlk G c t (ws.take j)) ∧ Below X.heap.size X wr) (fun _ i _ => m - (RowKit.intOf i).toNat)
          case atStart => exact ⟨0, xs, rfl, Nat.zero_le _, HO.out.1, HO.out.2.1.congr (fun r => (inBlk_nil G c t r).symm), HO.out.2.2⟩
          case round =>
            obtain ⟨wo, rfl⟩ : ∃ wo : World, wo = wr := ⟨_, rfl⟩
            obtain ⟨j, out, rfl, hj, hown, hT, hb⟩ := hrel
            by_cases hlj : j < m
            · obtain ⟨y, hy⟩ : ∃ y, ws[j]? = some y := ⟨ws[j]'(by rw [HM.out]; exact hlj), List.getElem?_eq_getElem _⟩
              obtain ⟨hTn, y1, y2, y3⟩ := tells_blk hlt hT HW.out.2 hy
              obtain ⟨bx, ox, rfl, hblx, hRG⟩ := HW.out.1.2.2.2 (by intro e; rw [e] at hy; simp at hy)
              obtain ⟨r1, r2⟩ := hRG j y hy
              have p1 := (hb.cell (p := ⟨bx, ox + j * 2, none⟩) hblx).trans r1
              have p2 := (hb.cell (p := ⟨bx, ox + j * 2 + 1, none⟩) hblx).trans r2
              obtain ⟨lo, hi⟩ := y
              simp only at *
              have i2 : (j : Int) < (m : Int) := by omega
              have hXs := hb.size
              have C := Lib.hid (EX.out X.heap.size _ out ((t : Int) * 256 + lo, (t : Int) * 256 + hi) _ (hown.alloc (.cells #[.int .i32 lo, .int .i32 hi] 70)) (by simp; omega) hT.1 (by have := right_len2 hT.1; omega))
              have hTn' : Tells (extP out ((t : Int) * 256 + lo, (t : Int) * 256 + hi)) (inBlk G c t (ws.take (j + 1))) := by rw [Int.mul_comm (t : Int) 256]; exact hTn
              have HO2 := Lib.hid (And.intro hTn' (hb.alloc hb.size (.cells #[.int .i32 lo, .int .i32 hi] 70)))
              clear hown hT hb hTn hTn' hRG hy r1 r2
              trace "L5"
              go_wp2_with fail
              refine C.out.mono ?_
              rintro e w7 ⟨v7, rfl, ho7, hb7⟩
              have hend : ∃ (j_1 : Nat) (out : List Rng), Value.int .i64 ((j : Int) + 1) = .int .i64 (j_1 : Int) ∧ j_1 ≤ m ∧ w7.ownsRow X.heap.size 70 2 v7 out.length (cells2 out) ∧ Tells out (inBlk G c t (ws.take j_1)) ∧ Below X.heap.size X w7 :=
                ⟨j + 1, _, by simp, by omega, ho7, HO2.out.1, HO2.out.2.trans hb7⟩
              have HEND := Lib.hid hend
              clear hend ho7 hb7
              go_wp2_with fail
              go_roundw
              case rel => exact HEND.out
              case measure => simp [RowKit.intOf]; omega
            · have hjm : j = m := by omega
              subst hjm
              have d2 : ¬ (j : Int) < (j : Int) := by omega
              rw [List.take_of_length_le (by rw [HM.out]; exact Nat.le_refl _)] at hT
              have hT2 := tells_next hT HW.out.2
              have HO2 := Lib.hid (And.intro hown (And.intro hT2 hb))
              clear hown hT hT2 hb
              trace "L6"
              go_wp2_with fail
              go_roundw
              case rel => exact ⟨t + 1, out, by go_num, by omega, HO2.out.1, HO2.out.2.1, HO2.out.2.2⟩
              case measure => simp [RowKit.intOf]; omega
        · have ht2 : t = 4352 := by omega
          subst ht2
          have d2 : ¬ ((4352 : Nat) : Int) < 4352 := by omega
          have HO2 := Lib.hid (And.intro hown (And.intro hT hb))
          clear hown hT hb
          trace "L7"
          go_wp2_with fail
          go_ret
          exact ⟨xs, ⟨_, rfl, HO2.out.1.mono HH.out.2.2.size, HH.out.2.2.trans (HO2.out.2.2.mono HH.out.2.2.size)⟩, HO2.out.2.1⟩
end Go.Proofs.Ytphhdkffnboboaa

namespace Go.Proofs.Ytphhdkffnboboaa
open Go.RowKit Go.Shelf
open Go.Lib Go.Great Go.Maps

def Z93 : Array Value := (List.replicate 256 (Value.bool false)).toArray
/-- A row of 256 flags. -/
def Had (w : World) (H : Nat) (hd : Nat → Bool) : Prop := ∃ cs : Array Value, w.heap[H]? = some (.cells cs 93 (0, 0)) ∧ cs.size = 256 ∧ ∀ v, v < 256 → cs[v]? = some (.bool (hd v))
theorem Had.lt {w : World} {H : Nat} {hd : Nat → Bool} (h : Had w H hd) : H < w.heap.size := by obtain ⟨_, h, _⟩ := h; exact (Array.getElem?_eq_some_iff.1 h).1
theorem Had.kept {w w' : World} {H : Nat} {hd : Nat → Bool} (h : Had w H hd) (e : w'.heap[H]? = w.heap[H]?) : Had w' H hd := by obtain ⟨cs, h1, h2, h3⟩ := h; exact ⟨cs, by rw [e]; exact h1, h2, h3⟩
theorem Had.below {w w' : World} {H : Nat} {hd : Nat → Bool} (h : Had w H hd) (hb : Below w.heap.size w w') : Had w' H hd := h.kept (hb.block H h.lt)
theorem Had.cell {w : World} {H : Nat} {hd : Nat → Bool} (h : Had w H hd) {v : Nat} (hv : v < 256) : w.cell? ⟨H, v, none⟩ = some (.bool (hd v)) ∧ w.frozen? ⟨H, v, none⟩ = false := by
  obtain ⟨cs, h1, h2, h3⟩ := h
  refine ⟨by rw [cell_of_row _ _ v _ _ _ h1]; exact h3 v hv, ?_⟩
  simp [World.frozen?, h1]
theorem Z93_size : Z93.size = 256 := by unfold Z93; rw [List.size_toArray, List.length_replicate]
theorem Z93_get (v : Nat) (hv : v < 256) : Z93[v]? = some (.bool false) := by
  unfold Z93
  rw [List.getElem?_toArray, List.getElem?_replicate, if_pos hv]
theorem Had.zero (w : World) : Had (w.alloc (.cells Z93 93)) w.heap.size (fun _ => false) := ⟨Z93, heap_alloc_new _ _, Z93_size, fun v hv => Z93_get v hv⟩
theorem Had.set {w : World} {H : Nat} {hd : Nat → Bool} (h : Had w H hd) {a : Nat} (ha : a < 256) : Had (w.setCell ⟨H, a, none⟩ (.bool true)) H (fun v => hd v || v == a) := by
  obtain ⟨cs, h1, h2, h3⟩ := h
  refine ⟨cs.setIfInBounds a (.bool true), heap_setCell_same w H a cs 93 _ h1, by simpa using h2, fun v hv => ?_⟩
  rw [Array.getElem?_setIfInBounds]
  show _ = some (Value.bool (hd v || v == a))
  by_cases e : a = v
  · subst e; simp [h2, ha]
  · rw [if_neg e, h3 v hv]
    have : (v == a) = false := by simpa using fun e' => e e'.symm
    rw [this, Bool.or_false]
theorem size93 : (Try.prog.info? 93).map (·.size) = some 256 := by kernel_rfl
theorem dd_lt (F : Nat → Int) : ∀ (i k : Nat), k ∈ dd F i → k < i := by
  intro i
  induction i with
  | zero => intro k h; simp [dd] at h
  | succ i ih =>
    intro k h
    rw [dd_succ] at h
    split at h
    · have := ih k h; omega
    · rcases List.mem_append.1 h with h | h
      · have := ih k h; omega
      · simp at h; omega
/-- Which classes there are within the first k unlike blocks. -/
def InTo (G : Nat → Int) (k v : Nat) : Prop := ∃ i kk, i < k ∧ (dd G 4352)[i]? = some kk ∧ ∃ q, q < 256 ∧ G (256 * kk + q) = (v : Int)
theorem InTo.succ {G : Nat → Int} {k kk v : Nat} (h : (dd G 4352)[k]? = some kk) : InTo G (k + 1) v ↔ InTo G k v ∨ ∃ q, q < 256 ∧ G (256 * kk + q) = (v : Int) := by
  constructor
  · rintro ⟨i, k', hi, hk', hq⟩
    by_cases e : i = k
    · subst e
      rw [h] at hk'
      injection hk' with hk'
      subst hk'
      exact .inr hq
    · exact .inl ⟨i, k', by omega, hk', hq⟩
  · rintro (⟨i, k', hi, hk', hq⟩ | hq)
    · exact ⟨i, k', by omega, hk', hq⟩
    · exact ⟨k, kk, by omega, h, hq⟩
theorem InTo.all {G : Nat → Int} {v : Nat} : InTo G (dd G 4352).length v ↔ ∃ r, r < 1114112 ∧ G r = (v : Int) := by
  constructor
  · rintro ⟨i, kk, hi, hk, q, hq, e⟩
    have hlt : kk < 4352 := dd_lt G 4352 kk (List.mem_of_getElem? hk)
    exact ⟨256 * kk + q, by omega, e⟩
  · rintro ⟨r, hr, e⟩
    obtain ⟨kk, hkk, hs⟩ := rf_at G 4352 (r / 256) (dd_has G 4352 (r / 256) (by omega))
    refine ⟨rf G 4352 (r / 256), kk, (List.getElem?_eq_some_iff.1 hkk).1, hkk, r % 256, by omega, ?_⟩
    unfold sameB at hs
    rw [List.all_eq_true] at hs
    have := hs (r % 256) (List.mem_range.2 (by omega))
    have h2 : 256 * (r / 256) + r % 256 = r := by omega
    rw [h2] at this
    rw [← e]
    simpa using this
def intsL (l : List Nat) : List Value := l.map fun (v : Nat) => Value.int .i64 (v : Int)
/-- What Classes hands back. -/
def ClsPost (G : Nat → Int) (w : World) (e : Ending) (w' : World) : Prop := ∃ (v : Value) (p : Nat → Bool), e = .returned v ∧ w'.ownsRow w.heap.size 3 1 v ((List.range 256).filter p).length (intsL ((List.range 256).filter p)) ∧ (∀ c, c < 256 → (p c = true ↔ ∃ r, r < 1114112 ∧ G r = (c : Int))) ∧ Below w.heap.size w w'
theorem Try.info3 : (Try.prog.info? 3).map (fun i => (i.zero, i.size, i.bytes)) = some (some (.int .i64 0), 1, 8) := by kernel_rfl
theorem filt_succ (p : Nat → Bool) (t : Nat) : (List.range (t + 1)).filter p = (List.range t).filter p ++ (if p t then [t] else []) := by
  rw [List.range_succ, List.filter_append]
  simp [List.filter_cons]
theorem filt_len (p : Nat → Bool) (t : Nat) : ((List.range t).filter p).length ≤ t := by
  have := List.length_filter_le p (List.range t)
  simpa using this

set_option maxHeartbeats 4000000 in
set_option maxRecDepth 100000 in
theorem tclasses_any (T : Nat) (o : Int) (G : Nat → Int) (w : World) (h : Tr w T o G) (hG : U8 G) :
    Calls Try.prog 25 #[.pointer (some ⟨T, 0, none⟩)] w (ClsPost G w) := by
  obtain ⟨b, cap, p1, p2, p3, p4, p5, p6, p7, p8⟩ := h.parts
  have HP := Lib.hid (And.intro p5 (And.intro p7 p8))
  have HG := Lib.hid hG
  have hlen0 : 0 < (dd G 4352).length := Nat.lt_of_le_of_lt (Nat.zero_le _) (p4 0 (by omega))
  have HALL := Lib.hid (fun v => @InTo.all G v)
  obtain ⟨n, hn⟩ : ∃ n, (dd G 4352).length = n := ⟨_, rfl⟩
  have HN := Lib.hid hn
  rw [hn] at p1 p6 hlen0 HALL
  have hb0 := Lib.hid ((Below.refl w.heap.size w).alloc (Nat.le_refl _) (.cells Z93 93))
  have hp1 := (below_new w (.cells Z93 93)).cell (p := ⟨T, 4353, none⟩) p7
  rw [p1] at hp1
  clear h hG p2 p3 p4 p5 hn
  go_enter Try.func25, Try.ntmps25
  go_wp2_with (first
    | (refine wpList_allocTo rfl (some 3) rfl (.pointer (some ⟨w.heap.size, 0, none⟩)) (.cells Z93 93) (by as_aux_lemma => kernel_rfl) ?_)
    | fail)
  trace "L1"
  go_loopw [18] (fun i wr => ∃ (k : Nat) (hd : Nat → Bool), i = .int .i64 (k : Int) ∧ k ≤ n ∧ Had wr w.heap.size hd ∧ (∀ v, v < 256 → (hd v = true ↔ InTo G k v)) ∧ Below w.heap.size w wr) (fun i _ => n - (RowKit.intOf i).toNat)
  case atStart => exact ⟨0, _, rfl, Nat.zero_le _, Had.zero w, fun v _ => ⟨(fun h => by cases h), fun h => by obtain ⟨i, _, hi, _⟩ := h; exact absurd hi (Nat.not_lt_zero _)⟩, hb0.out⟩
  case round =>
    obtain ⟨k, hd, rfl, hk, hH, hI, hb⟩ := hrel
    by_cases hlt : k < n
    · have i1 : (k : Int) < (n : Int) := by omega
      obtain ⟨kk, hkk⟩ : ∃ kk, (dd G 4352)[k]? = some kk := ⟨(dd G 4352)[k]'(by rw [HN.out]; exact hlt), List.getElem?_eq_getElem _⟩
      have hrg := Lib.hid (rangeAt_below (HP.out.1 k kk hkk) HP.out.2.2 hb)
      have HH := Lib.hid (And.intro hH (And.intro hI (And.intro hb hkk)))
      clear hH hI hb hkk
      go_wp2_with (first
        | (refine wpList_load_mid rfl 84 (.tmp 20) rfl b (k * 256) rfl (blc G kk) (.array 256 5) hrg.out Try.underlying84 rfl (by rw [blc_len]; exact size84) ?_)
        | (refine wpList_allocTo rfl (some 5) rfl (.pointer (some ⟨wr.heap.size, 0, none⟩)) (.cells Z84 84) (by as_aux_lemma => kernel_rfl) ?_)
        | (refine wpList_store84 rfl (.tmp 5) (.tmp 21) rfl rfl (blc G kk) (blc_len G kk) (blc_one G kk) rfl rfl ?_)
        | fail)
      intro W hWN hWb hWs
      have hH := HH.out.1.below hWb
      have hbW := HH.out.2.2.1.trans (hWb.mono HH.out.2.2.1.size)
      have HA := Lib.hid (And.intro hH (And.intro HH.out.2.1 (And.intro hbW HH.out.2.2.2)))
      have HW := Lib.hid hWN
      have HX := Lib.hid (fun j hj w => blc_index G kk j hj w)
      clear hH hbW HH hWb hrg hWN
      generalize wr.heap.size = N at *
      go_wp2_with (first
        | (refine wpList_load_row rfl 84 (.tmp 5) rfl N rfl 84 (blc G kk).toArray (0, 0) (.array 256 5) HW.out Try.underlying84 rfl (by rw [size84]; simp [blc_len]) ?_)
        | fail)
      generalize (blc G kk).toArray = BL at *
      trace "L2"
      go_loopw [23] (fun i wr => ∃ (j : Nat) (hd : Nat → Bool), i = .int .i64 (j : Int) ∧ j ≤ 256 ∧ Had wr w.heap.size hd ∧ (∀ v, v < 256 → (hd v = true ↔ InTo G k v ∨ ∃ q, q < j ∧ G (256 * kk + q) = (v : Int))) ∧ Below w.heap.size w wr) (fun i _ => 256 - (RowKit.intOf i).toNat)
      case atStart => exact ⟨0, hd, rfl, Nat.zero_le _, HA.out.1, fun v hv => ⟨fun h => .inl ((HA.out.2.1 v hv).1 h), fun h => by rcases h with h | ⟨q, hq, _⟩; exact (HA.out.2.1 v hv).2 h; exact absurd hq (Nat.not_lt_zero _)⟩, HA.out.2.2.1⟩
      case round =>
        obtain ⟨wo, rfl⟩ : ∃ wo : World, wo = wr := ⟨_, rfl⟩
        obtain ⟨j, hd2, rfl, hj, hH, hI, hb⟩ := hrel
        by_cases hlj : j < 256
        · have i2 : (j : Int) < 256 := by omega
          have hx := HX.out j hlj
          have hu := HG.out (256 * kk + j)
          obtain ⟨a, ha⟩ := Int.eq_ofNat_of_zero_le hu.1
          have HGA := Lib.hid ha
          rw [ha] at hx hu
          have ha256 : a < 256 := by omega
          have ha2 : (a : Int) < 256 := by omega
          have ha0 : (0 : Int) ≤ (a : Int) := by omega
          obtain ⟨q1, q2⟩ := hH.cell ha256
          have hs := hH.set ha256
          have hbs := hb.setCell (p := ⟨w.heap.size, a, none⟩) (Nat.le_refl _) (.bool true)
          have hend : ∃ (j_1 : Nat) (hd : Nat → Bool), Value.int .i64 ((j : Int) + 1) = .int .i64 (j_1 : Int) ∧ j_1 ≤ 256 ∧ Had (wo.setCell ⟨w.heap.size, a, none⟩ (.bool true)) w.heap.size hd ∧ (∀ v, v < 256 → (hd v = true ↔ InTo G k v ∨ ∃ q, q < j_1 ∧ G (256 * kk + q) = (v : Int))) ∧ Below w.heap.size w (wo.setCell ⟨w.heap.size, a, none⟩ (.bool true)) := by
            refine ⟨j + 1, _, by simp, by omega, hs, fun v hv => ?_, hbs⟩
            rw [Bool.or_eq_true, hI v hv, beq_iff_eq, or_assoc]
            refine or_congr Iff.rfl ?_
            constructor
            · rintro (⟨q, hq, e⟩ | e)
              · exact ⟨q, by omega, e⟩
              · exact ⟨j, by omega, by rw [HGA.out, e]⟩
            · rintro ⟨q, hq, e⟩
              by_cases c : q = j
              · subst c
                right
                rw [HGA.out] at e
                omega
              · exact .inl ⟨q, by omega, e⟩
          have HEND := Lib.hid hend
          generalize hd2 a = ov at *
          clear hend hH hI hb hs hbs ha hu
          trace "L3"
          go_wp2_with fail
          go_roundw
          case rel => exact HEND.out
          case measure => simp [RowKit.intOf]; omega
        · have hj2 : j = 256 := by omega
          subst hj2
          have d2 : ¬ ((256 : Nat) : Int) < 256 := by omega
          have hend : ∃ (k_1 : Nat) (hd : Nat → Bool), Value.int .i64 ((k : Int) + 1) = .int .i64 (k_1 : Int) ∧ k_1 ≤ n ∧ Had wo w.heap.size hd ∧ (∀ v, v < 256 → (hd v = true ↔ InTo G k_1 v)) ∧ Below w.heap.size w wo :=
            ⟨k + 1, hd2, by simp, by omega, hH, fun v hv => (hI v hv).trans (InTo.succ HA.out.2.2.2).symm, hb⟩
          have HEND := Lib.hid hend
          clear hend hH hI hb
          trace "L4"
          go_wp2_with fail
          go_roundw
          case rel => exact HEND.out
          case measure => simp [RowKit.intOf]; omega
    · have hkn : k = n := by omega
      subst hkn
      have d1 : ¬ (k : Int) < (k : Int) := by omega
      obtain ⟨CS, hCS, hCz, hCg⟩ := hH
      have HCI : Hid (∀ t : Nat, t < 256 → ∀ w, (Instr.index 93 (.agg CS) (.int .i64 (t : Int))).run Try.prog w = .ok (.bool (hd t)) w) := Lib.hid (fun t ht w => by
        have hE := hCg t ht
        simp [Instr.index, asIntOf, run_underlying Try.underlying93, part, Try.isAgg4, Try.sizeOf4, Sem.run_bind, Result.andThen, hE, go_sem]
        omega)
      have HCS := Lib.hid hCS
      have HPP : Hid (∀ c, c < 256 → (hd c = true ↔ ∃ r, r < 1114112 ∧ G r = (c : Int))) := Lib.hid (fun c hc => (hI c hc).trans (HALL.out c))
      have HB := Lib.hid hb
      have HZ := Lib.hid (show (Try.prog.info? 93).map (·.size) = some CS.size by rw [size93, hCz])
      clear hCS hCz hCg hI hb
      trace "L5"
      go_wp2_with (first
        | (refine wpList_load_row rfl 93 (.tmp 3) rfl w.heap.size rfl 93 CS (0, 0) (.array 256 4) HCS.out Try.underlying93 rfl HZ.out ?_)
        | fail)
      obtain ⟨i3, hi3, hzz⟩ := Option.map_eq_some_iff.1 Try.info3
      simp only [Prod.mk.injEq] at hzz
      have HI3 := Lib.hid (And.intro hi3 hzz)
      clear hi3 hzz
      obtain ⟨X, rfl⟩ : ∃ X : World, X = wr := ⟨_, rfl⟩
      go_loopw [8, 31] (fun v i wr => ∃ t : Nat, i = .int .i64 (t : Int) ∧ t ≤ 256 ∧ wr.ownsRow X.heap.size 3 1 v ((List.range t).filter hd).length (intsL ((List.range t).filter hd)) ∧ Below X.heap.size X wr) (fun _ i _ => 256 - (RowKit.intOf i).toNat)
      case atStart => exact ⟨0, rfl, Nat.zero_le _, by simp [intsL]; exact World.ownsRow_nil _ _ _ _, Below.refl _ _⟩
      case round =>
        obtain ⟨t, rfl, ht, hown, hb⟩ := hrel
        by_cases hlt : t < 256
        · have i2 : (t : Int) < 256 := by omega
          have hx := HCI.out t hlt
          have hfs := filt_succ hd t
          have hfl := filt_len hd t
          generalize hql : (List.range t).filter hd = ql at *
          cases hq : hd t with
          | true =>
            rw [hq] at hx hfs
            simp only [if_true] at hfs
            have HO := Lib.hid (hown.alloc (.cells #[.int .i64 (t : Int)] 3))
            have HB2 := Lib.hid (hb.alloc hb.size (.cells #[.int .i64 (t : Int)] 3))
            have HF := Lib.hid hfs
            have NB := Lib.hid (World.news_of_block (heap_alloc_new wr (.cells #[.int .i64 (t : Int)] 3)))
            clear hown hb hql hfs hq
            trace "L6"
            go_wp2_with (at_builtin; refine wpList_append_lies _ (by rfl) (.tmp 36) (.tmp 38) 49 (by rfl) X.heap.size 3 i3 _ 1 8 Try.underlying49 HI3.out.1 HI3.out.2.1 HI3.out.2.2.1 HI3.out.2.2.2 rfl (by omega) _ ql.length (intsL ql) (by rfl) HO.out _ 1 1 [.int .i64 (t : Int)] (by rfl) (by rfl) NB.out (by simp [Value.oneCell']) (by omega) (by unfold maxLen; omega) (by omega) HB2.out.size (wr.heap.size + 1) (by simp) ?_)
            intro g1 cap1 w7 hown7 hgrow7 hat7 hlt7
            have hB7 := HB2.out.grown hgrow7 (by have := HB2.out.size; simp at *; omega) (fun k e' => (own_block_lt HO.out k e').1)
            have hend : ∃ t_1 : Nat, Value.int .i64 ((t : Int) + 1) = .int .i64 (t_1 : Int) ∧ t_1 ≤ 256 ∧ w7.ownsRow X.heap.size 3 1 (.slice (some ⟨g1, 0, none⟩) (ql.length + 1) cap1) ((List.range t_1).filter hd).length (intsL ((List.range t_1).filter hd)) ∧ Below X.heap.size X w7 := by
              refine ⟨t + 1, by simp, by omega, ?_, hB7⟩
              rw [HF.out]
              simpa [intsL] using hown7
            have HEND := Lib.hid hend
            clear hend hB7 hown7 hgrow7 hat7 hlt7
            go_wp2_with fail
            go_roundw
            case rel => exact HEND.out
            case measure => simp [RowKit.intOf]; omega
          | false =>
            rw [hq] at hx hfs
            simp only [Bool.false_eq_true, if_false, List.append_nil] at hfs
            have hend : ∃ t_1 : Nat, Value.int .i64 ((t : Int) + 1) = .int .i64 (t_1 : Int) ∧ t_1 ≤ 256 ∧ wr.ownsRow X.heap.size 3 1 u8 ((List.range t_1).filter hd).length (intsL ((List.range t_1).filter hd)) ∧ Below X.heap.size X wr :=
              ⟨t + 1, by simp, by omega, by rw [hfs]; exact hown, hb⟩
            have HEND := Lib.hid hend
            clear hend hown hb hql hfs hq
            trace "L7"
            go_wp2_with fail
            go_roundw
            case rel => exact HEND.out
            case measure => simp [RowKit.intOf]; omega
        · have ht2 : t = 256 := by omega
          subst ht2
          have d2 : ¬ ((256 : Nat) : Int) < 256 := by omega
          have HO := Lib.hid (And.intro hown hb)
          clear hown hb
          trace "L8"
          go_wp2_with fail
          go_ret
          exact ⟨_, hd, rfl, HO.out.1.mono HB.out.size, HPP.out, HB.out.trans (HO.out.2.mono HB.out.size)⟩
end Go.Proofs.Ytphhdkffnboboaa

namespace Go.Proofs.Ytphhdkffnboboaa
open Go.RowKit Go.Shelf
open Go.Lib Go.Great Go.Maps

theorem run_equalIn_arr {P : Program} (w : World) (d : Nat) (t : TypeId) (len : Nat) (elem : TypeId) (k : IntKind) (xs ys : Array Value) (f g : Nat → Int) (hu : P.underlying t = some (.array len elem))
    (hpart : ∀ (zs : Array Value) (i : Nat) (w : World) v, zs[i]? = some v → (part elem zs i).run P w = .ok v w) (hs : ∀ w, (sizeOf elem).run P w = .ok 1 w) (he : P.underlying elem = some (.int k))
    (hx : ∀ i, i < len → xs[i]? = some (.int k (f i))) (hy : ∀ i, i < len → ys[i]? = some (.int k (g i))) :
    (Op.equalIn (d + 2) t (.agg xs) (.agg ys)).run P w = .ok ((List.range' 0 len).all fun i => f i == g i) w := by
  rw [Op.equalIn]
  simp only [Sem.run_bind, run_underlying hu, Result.andThen_ok, hs]
  rw [Std.Legacy.Range.forIn_eq_forIn_range']
  simp only [Std.Legacy.Range.size, Nat.sub_zero, Nat.add_sub_cancel, Nat.div_one, Nat.mul_one]
  have key : ∀ (n s : Nat), s + n ≤ len → (Sem.run P
          (forIn (List.range' s n) ((none, ()) : Option Bool × Unit) fun i __s => do
            let __do_lift ← part elem xs i
            let __do_lift_1 ← part elem ys i
            let __do_lift ← Op.equalIn (d + 1) elem __do_lift __do_lift_1
            if (!__do_lift) = true then pure (ForInStep.done (some false, ())) else pure (ForInStep.yield (none, ())))
          w) = .ok (if ((List.range' s n).all fun i => f i == g i) = true then (none, ()) else (some false, ())) w := by
    intro n
    induction n with
    | zero =>
      intro s _
      simp
    | succ n ih =>
      intro s hs'
      rw [List.range'_succ, List.forIn_cons]
      simp only [Sem.run_bind, hpart xs s w _ (hx s (by omega)), hpart ys s w _ (hy s (by omega)), Result.andThen_ok]
      rw [run_equalIn_int w d elem k k (f s) (g s) he]
      simp only [Result.andThen_ok]
      by_cases c : f s = g s
      · have e : (f s == g s) = true := by simpa using c
        rw [e]
        simp only [Bool.not_true, Bool.false_eq_true, if_false, Sem.run_pure, Result.andThen_ok]
        rw [ih (s + 1) (by omega), List.all_cons, e, Bool.true_and]
      · have e : (f s == g s) = false := by simpa using c
        rw [e]
        simp only [Bool.not_false, if_true, Sem.run_pure, Result.andThen_ok]
        rw [List.all_cons, e, Bool.false_and]
        rfl
  rw [key len 0 (by omega)]
  simp only [Result.andThen_ok]
  cases (List.range' 0 len).all fun i => f i == g i <;> rfl
theorem part_int (t : TypeId) (h1 : ∀ w, (isAgg t).run Try.prog w = .ok false w) (zs : Array Value) (i : Nat) (w : World) (v : Value) (h : zs[i]? = some v) : (part t zs i).run Try.prog w = .ok v w := by
  simp [part, h1, Sem.run_bind, Result.andThen, h, go_sem]
end Go.Proofs.Ytphhdkffnboboaa

