/-
  Contracts: the law's own To: entries in a row of the call's own.
  The law TrieGets: any number's class; or why there is no trie.
  Two tries tell the same just if their classes' sets are the same; entries said twice; appending two rows of entries.
  Blocks told by what changes in them: plain.
  Appending what may be nil; the source of an append, told by its cells.
-/
import Derived.Deep.RegionHeld3
import Derived.Deep.RegionLaw
import Derived.Deep.AppendLies
import Derived.Test.YtphhdkffnboboaaPsg
import Derived.BigQuiet
import Derived.Lib.QuietBelow
import Derived.Test.YtphhdkffnboboaaPsh
import Derived.Laws.AppendOwnNone
import Derived.Test.YtphhdkffnboboaaPsc
namespace Go.Proofs.Ytphhdkffnboboaa
open Go.RowKit Go.Shelf
open Go.Lib Go.Great Go.Maps

def ToPost (es : List En) (n : Nat) (w : World) (e : Ending) (w' : World) : Prop := ∃ v es', e = .returned v ∧ es'.length = n ∧ same2 es' es ∧ w'.ownsRow w.heap.size 72 2 v n (es'.flatMap cellE) ∧ (∀ e ∈ es', RS w' w'.heap.size e.A e.cap e.xs ∧ ∀ p, e.A = some p → p.block < w'.heap.size ∧ v.ownBlock ≠ some p.block ∧ w.heap.size ≤ p.block) ∧ Below w.heap.size w w'
set_option maxHeartbeats 4000000 in
set_option maxRecDepth 100000 in
theorem lawto_own (A : Option Addr) (cap : Nat) (es : List En) (w : World) (h : ES w w.heap.size A cap es) (hl : es.length ≤ 12) (hx : ∀ e ∈ es, e.xs.length ≤ 12) :
    Calls Try.prog 16 #[.slice A es.length cap] w (ToPost es es.length w) := by
  have H := Lib.hid h
  obtain ⟨n, hn⟩ : ∃ n, es.length = n := ⟨_, rfl⟩
  have HN := Lib.hid hn
  rw [hn] at hl ⊢
  clear h hn
  go_enter Try.func16, Try.ntmps16
  go_wp2_with fail
  go_loopw [3, 4] (fun v i wr => ∃ (k : Nat) (l : List En), i = .int .i64 (k : Int) ∧ k ≤ n ∧ wr.ownsRow w.heap.size 72 2 v k (l.flatMap cellE) ∧ same2 l (es.take k) ∧ (∀ e ∈ l, RS wr wr.heap.size e.A e.cap e.xs ∧ ∀ p, e.A = some p → p.block < wr.heap.size ∧ v.ownBlock ≠ some p.block ∧ w.heap.size ≤ p.block) ∧ Below w.heap.size w wr) (fun _ i _ => n - (RowKit.intOf i).toNat)
  case atStart => exact ⟨0, [], rfl, Nat.zero_le _, World.ownsRow_nil _ _ _ _, rfl, by simp, Below.refl _ _⟩
  case round =>
    obtain ⟨k, l, rfl, hk, hown, hs, hR, hb⟩ := hrel
    by_cases hlt : k < n
    · obtain ⟨x, hx'⟩ : ∃ x, es[k]? = some x := ⟨es[k]'(by rw [HN.out]; exact hlt), List.getElem?_eq_getElem _⟩
      obtain ⟨b, o', rfl, hbl, hE⟩ := H.out.2.2.2 (by intro e; rw [e] at hx'; simp at hx')
      obtain ⟨q1, q2⟩ := hE k x hx'
      have i1 : (k : Int) < (n : Int) := by omega
      have HH := Lib.hid (And.intro hown (And.intro hs (And.intro hR hb)))
      clear hown hs hR hb hE
      go_wp2_with fail
      have HQ := Lib.hid (show Below w.heap.size w wr.drew from HH.out.2.2.2.drew)
      have HBL := Lib.hid hbl
      have C := Lib.hid (to_any x.A x.cap x.xs wr.drew (((H.out.2.2.1 x (List.mem_of_getElem? hx')).below HQ.out).mono HQ.out.size) (by have := hx x (List.mem_of_getElem? hx'); omega))
      refine wp_region_noPanic ?_
      refine wp_region_held_drew (S := fun W => Below w.heap.size w W) (by kernel_rfl) HQ.out (fun hH => ?_)
      refine wpAnyH_take (i := 0) (oi := { dst := some 11, op := Op.move (Operand.tmp 3), type := 30, pos := "law.go:23", after := #[], guard := none }) (v := ?_) rfl (by kernel_rfl) (by kernel_rfl) (by kernel_rfl) (fun _ _ _ h => h) (Or.inl ⟨by rfl, ?_⟩) (by exact hH) ?_
      rotate_left
      · intro W hSw
        go_simp
        try with_reducible rfl
      try simp only [Act.put, List.setIfInBounds_toArray, List.set_cons_zero, List.set_cons_succ]
      refine wpAnyH_take (i := 1) (oi := { dst := some 12, op := Op.move (Operand.tmp 0), type := 22, pos := "law.go:23", after := #[], guard := none }) (v := ?_) rfl (by kernel_rfl) (by kernel_rfl) (by kernel_rfl) (fun _ _ _ h => h) (Or.inl ⟨by rfl, ?_⟩) (by exact hH) ?_
      rotate_left
      · intro W hSw
        go_simp
        try with_reducible rfl
      try simp only [Act.put, List.setIfInBounds_toArray, List.set_cons_zero, List.set_cons_succ]
      refine wpAnyH_take (i := 2) (oi := { dst := some 13, op := Op.move (Operand.tmp 4), type := 3, pos := "law.go:23", after := #[], guard := none }) (v := ?_) rfl (by kernel_rfl) (by kernel_rfl) (by kernel_rfl) (fun _ _ _ h => h) (Or.inl ⟨by rfl, ?_⟩) (by exact hH) ?_
      rotate_left
      · intro W hSw
        go_simp
        try with_reducible rfl
      try simp only [Act.put, List.setIfInBounds_toArray, List.set_cons_zero, List.set_cons_succ]
      refine wpAnyH_take (i := 3) (oi := { dst := some 14, op := Op.indexAddr 22 (Operand.tmp 12) (Operand.tmp 13), type := 0, pos := "law.go:23", after := #[{ on := 1, ground := Ground.data }, { on := 2, ground := Ground.data }], guard := none }) (v := ?_) rfl (by kernel_rfl) (by kernel_rfl) (by kernel_rfl) (fun _ _ _ h => h) (Or.inl ⟨by rfl, ?_⟩) (by exact hH) ?_
      rotate_left
      · intro W hSw
        go_simp
        try with_reducible rfl
      try simp only [Act.put, List.setIfInBounds_toArray, List.set_cons_zero, List.set_cons_succ]
      refine wpAnyH_take (i := 4) (oi := { dst := some 15, op := Op.fieldAddr 38 (Operand.tmp 14) 0, type := 0, pos := "law.go:23", after := #[{ on := 3, ground := Ground.data }], guard := none }) (v := ?_) rfl (by kernel_rfl) (by kernel_rfl) (by kernel_rfl) (fun _ _ _ h => h) (Or.inl ⟨by rfl, ?_⟩) (by exact hH) ?_
      rotate_left
      · intro W hSw
        go_simp
        try with_reducible rfl
      try simp only [Act.put, List.setIfInBounds_toArray, List.set_cons_zero, List.set_cons_succ]
      refine wpAnyH_take (i := 5) (oi := { dst := some 16, op := Op.load 36 (Operand.tmp 15), type := 36, pos := "law.go:23", after := #[{ on := 4, ground := Ground.data }], guard := none }) (v := ?_) rfl (by kernel_rfl) (by kernel_rfl) (by kernel_rfl) (fun _ _ _ h => h) (Or.inl ⟨by rfl, ?_⟩) (by exact hH) ?_
      rotate_left
      · intro W hSw
        have p := (hSw.cell (p := ⟨b, o' + k * 2, none⟩) hbl).trans q1
        go_simp
        try with_reducible rfl
      try simp only [Act.put, List.setIfInBounds_toArray, List.set_cons_zero, List.set_cons_succ]
      refine wpAnyH_take (i := 7) (oi := { dst := some 18, op := Op.move (Operand.tmp 0), type := 22, pos := "law.go:23", after := #[], guard := none }) (v := ?_) rfl (by kernel_rfl) (by kernel_rfl) (by kernel_rfl) (fun _ _ _ h => h) (Or.inl ⟨by rfl, ?_⟩) (by exact hH) ?_
      rotate_left
      · intro W hSw
        go_simp
        try with_reducible rfl
      try simp only [Act.put, List.setIfInBounds_toArray, List.set_cons_zero, List.set_cons_succ]
      refine wpAnyH_take (i := 8) (oi := { dst := some 19, op := Op.move (Operand.tmp 4), type := 3, pos := "law.go:23", after := #[], guard := none }) (v := ?_) rfl (by kernel_rfl) (by kernel_rfl) (by kernel_rfl) (fun _ _ _ h => h) (Or.inl ⟨by rfl, ?_⟩) (by exact hH) ?_
      rotate_left
      · intro W hSw
        go_simp
        try with_reducible rfl
      try simp only [Act.put, List.setIfInBounds_toArray, List.set_cons_zero, List.set_cons_succ]
      refine wpAnyH_take (i := 9) (oi := { dst := some 20, op := Op.indexAddr 22 (Operand.tmp 18) (Operand.tmp 19), type := 0, pos := "law.go:23", after := #[{ on := 7, ground := Ground.data }, { on := 8, ground := Ground.data }], guard := none }) (v := ?_) rfl (by kernel_rfl) (by kernel_rfl) (by kernel_rfl) (fun _ _ _ h => h) (Or.inl ⟨by rfl, ?_⟩) (by exact hH) ?_
      rotate_left
      · intro W hSw
        go_simp
        try with_reducible rfl
      try simp only [Act.put, List.setIfInBounds_toArray, List.set_cons_zero, List.set_cons_succ]
      refine wpAnyH_take (i := 10) (oi := { dst := some 21, op := Op.fieldAddr 38 (Operand.tmp 20) 1, type := 0, pos := "law.go:23", after := #[{ on := 9, ground := Ground.data }], guard := none }) (v := ?_) rfl (by kernel_rfl) (by kernel_rfl) (by kernel_rfl) (fun _ _ _ h => h) (Or.inl ⟨by rfl, ?_⟩) (by exact hH) ?_
      rotate_left
      · intro W hSw
        go_simp
        try with_reducible rfl
      try simp only [Act.put, List.setIfInBounds_toArray, List.set_cons_zero, List.set_cons_succ]
      refine wpAnyH_take (i := 11) (oi := { dst := some 22, op := Op.load 3 (Operand.tmp 21), type := 3, pos := "law.go:23", after := #[{ on := 10, ground := Ground.data }], guard := none }) (v := ?_) rfl (by kernel_rfl) (by kernel_rfl) (by kernel_rfl) (fun _ _ _ h => h) (Or.inl ⟨by rfl, ?_⟩) (by exact hH) ?_
      rotate_left
      · intro W hSw
        have p := (hSw.cell (p := ⟨b, o' + k * 2 + 1, none⟩) hbl).trans q2
        go_simp
        try with_reducible rfl
      try simp only [Act.put, List.setIfInBounds_toArray, List.set_cons_zero, List.set_cons_succ]
      refine wpAnyH_ready (rs := [6]) (by kernel_rfl) (by simp) ?_
      refine AllReadyH.cons (o := { dst := some 17, op := Op.call { callee := Callee.value (Operand.func 46), args := #[Operand.tmp 16], argTypes := #[36] }, type := 43, pos := "law.go:23", after := #[{ on := 5, ground := Ground.data }], guard := none }) rfl (fun K hK => ?_) AllReadyH.nil
      go_simp
      go_at_call 46
      refine C.out.mono ?_
      rintro e w5 ⟨v5, rfl, hown5, hb5⟩
      obtain ⟨A5, c5, rfl, hRS5⟩ := ownsRow_RS hown5 (H.out.2.2.1 x (List.mem_of_getElem? hx')).2.2.1
      have HB5 := Lib.hid (HQ.out.trans (hb5.mono HQ.out.size))
      have H5 := Lib.hid (And.intro hown5 (And.intro hb5 hRS5))
      clear hown5 hb5 hRS5
      go_wp2_with fail
      refine hK.out _ _ HB5.out (fun hH => ?_)
      clear hK K
      try simp only [Act.put, List.setIfInBounds_toArray, List.set_cons_zero, List.set_cons_succ]
      refine wpAnyH_take (i := 12) (oi := { dst := some 23, op := Op.build 72 #[(0, Operand.tmp 17), (1, Operand.tmp 22)], type := 72, pos := "law.go:23", after := #[{ on := 6, ground := Ground.data }, { on := 11, ground := Ground.data }], guard := none }) (v := ?_) rfl (by kernel_rfl) (by kernel_rfl) (by kernel_rfl) (fun _ _ _ h => h) (Or.inl ⟨by rfl, ?_⟩) (by exact hH) ?_
      rotate_left
      · intro W hSw
        go_simp
        try with_reducible rfl
      try simp only [Act.put, List.setIfInBounds_toArray, List.set_cons_zero, List.set_cons_succ]
      have HB6 := Lib.hid (HB5.out.alloc HB5.out.size (.cells #[.slice A5 x.xs.length c5, .int .i64 x.c] 72))
      have HO6 := Lib.hid ((ownsRow_below HH.out.1.drew H5.out.2.1).alloc (.cells #[.slice A5 x.xs.length c5, .int .i64 x.c] 72))
      have NB := Lib.hid (World.news_of_block (heap_alloc_new w5 (.cells #[.slice A5 x.xs.length c5, .int .i64 x.c] 72)))
      obtain ⟨i72, hi72, hzz⟩ := Option.map_eq_some_iff.1 Try.info72
      simp only [Prod.mk.injEq] at hzz
      have HI := Lib.hid (And.intro hi72 hzz)
      clear hi72 hzz
      refine wpAnyH_ready (rs := [13]) (by kernel_rfl) (by simp) ?_
      refine AllReadyH.cons (o := { dst := some 24, op := Op.buildSlice 30 1 #[(0, Operand.tmp 23)], type := 30, pos := "law.go:23", after := #[{ on := 12, ground := Ground.data }], guard := none }) rfl (fun K hK => ?_) AllReadyH.nil
      go_simp
      refine hK.out _ _ HB6.out (fun hH => ?_)
      clear hK K
      try simp only [Act.put, List.setIfInBounds_toArray, List.set_cons_zero, List.set_cons_succ]
      refine wpAnyH_ready (rs := [14]) (by kernel_rfl) (by simp) ?_
      refine AllReadyH.cons (o := { dst := some 25, op := Op.call { callee := Callee.builtin Builtin.append, args := #[Operand.tmp 11, Operand.tmp 24], argTypes := #[30, 30] }, type := 30, pos := "law.go:23", after := #[{ on := 0, ground := Ground.data }, { on := 13, ground := Ground.data }, { on := 6, ground := Ground.chain }], guard := none }) rfl (fun K hK => ?_) AllReadyH.nil
      refine step_append_lies _ rfl (.tmp 11) (.tmp 24) 30 rfl w.heap.size 72 i72 _ 2 32 Try.underlying30 HI.out.1 HI.out.2.1 HI.out.2.2.1 HI.out.2.2.2 rfl (by omega) u3 k (l.flatMap cellE) rfl HO6.out ⟨w5.heap.size, 0, none⟩ 1 1 [.slice A5 x.xs.length c5, .int .i64 x.c] rfl rfl NB.out (by simp [Value.oneCell']) (by omega) (by unfold maxLen; omega) (by omega) HB6.out.size (w5.heap.size + 1) (by simp) ?_
      intro g cap1 w7 hown7 hgrow7 hat7 hlt7
      have HB7 := Lib.hid (HB6.out.grown hgrow7 HB6.out.size (fun k e' => (own_block_lt HO6.out k e').1))
      have H7 := Lib.hid (And.intro hown7 (And.intro hgrow7 (And.intro hat7 hlt7)))
      clear hown7 hgrow7 hat7 hlt7
      refine hK.out _ _ HB7.out (fun hH => ?_)
      clear hK K
      try simp only [Act.put, List.setIfInBounds_toArray, List.set_cons_zero, List.set_cons_succ]
      refine wpAnyH_take (i := 15) (oi := { dst := some 3, op := Op.assign (Operand.tmp 25), type := 30, pos := "law.go:23", after := #[{ on := 14, ground := Ground.data }, { on := 14, ground := Ground.chain }, { on := 0, ground := Ground.phase }, { on := 1, ground := Ground.phase }, { on := 2, ground := Ground.phase }, { on := 3, ground := Ground.phase }, { on := 4, ground := Ground.phase }, { on := 5, ground := Ground.phase }, { on := 6, ground := Ground.phase }, { on := 7, ground := Ground.phase }, { on := 8, ground := Ground.phase }, { on := 9, ground := Ground.phase }, { on := 10, ground := Ground.phase }, { on := 11, ground := Ground.phase }, { on := 12, ground := Ground.phase }, { on := 13, ground := Ground.phase }, { on := 14, ground := Ground.phase }], guard := none }) (v := ?_) rfl (by kernel_rfl) (by kernel_rfl) (by kernel_rfl) (fun _ _ _ h => h) (Or.inl ⟨by rfl, ?_⟩) (by exact hH) ?_
      rotate_left
      · intro W hSw
        go_simp
        try with_reducible rfl
      try simp only [Act.put, List.setIfInBounds_toArray, List.set_cons_zero, List.set_cons_succ]
      refine wpAnyH_done (by kernel_rfl) ?_ _
      refine NoPanic.normal ?_
      have hend : ∃ (k_1 : Nat) (l : List En), Value.int .i64 ((k : Int) + 1) = .int .i64 (k_1 : Int) ∧ k_1 ≤ n ∧ w7.ownsRow w.heap.size 72 2 (.slice (some ⟨g, 0, none⟩) (k + 1) cap1) k_1 (l.flatMap cellE) ∧ same2 l (es.take k_1) ∧ (∀ e ∈ l, RS w7 w7.heap.size e.A e.cap e.xs ∧ ∀ p, e.A = some p → p.block < w7.heap.size ∧ Value.ownBlock (.slice (some ⟨g, 0, none⟩) (k + 1) cap1) ≠ some p.block ∧ w.heap.size ≤ p.block) ∧ Below w.heap.size w w7 := by
        obtain ⟨hown7, hgrow7, hat7, hlt7⟩ := H7.out
        obtain ⟨hown, hs, hR, hb⟩ := HH.out
        obtain ⟨hown5, hb5, hRS5⟩ := H5.out
        have hs5 : wr.heap.size ≤ w5.heap.size := hb5.size
        have hs7 := hgrow7.size
        have hz6 : (w5.alloc (.cells #[.slice A5 x.xs.length c5, .int .i64 x.c] 72)).heap.size = w5.heap.size + 1 := by simp
        have hbn := below_new w5 (.cells #[.slice A5 x.xs.length c5, .int .i64 x.c] 72)
        refine ⟨k + 1, l ++ [⟨A5, c5, x.xs, x.c⟩], by simp, by omega, by rw [List.flatMap_append]; simpa [cellE] using hown7, ?_, ?_, HB7.out⟩
        · unfold same2 at hs ⊢
          rw [List.map_append, hs, List.take_add_one, hx', List.map_append]
          rfl
        · intro e he
          rcases List.mem_append.1 he with he | he
          · obtain ⟨r1, r2⟩ := hR e he
            have r5 : RS w5 wr.heap.size e.A e.cap e.xs := RS.below (w := wr.drew) r1 hb5
            refine ⟨RS_grown (r5.below (hbn.mono hs5)) (by omega) hgrow7 (fun p hp => (r2 p hp).2.1), fun p hp => ⟨by have := (r2 p hp).1; omega, ?_, (r2 p hp).2.2⟩⟩
            intro eg
            have eg : g = p.block := by simpa [Value.ownBlock] using eg
            rcases hat7 with h7 | h7
            · exact (r2 p hp).2.1 (by rw [h7, eg])
            · have := (r2 p hp).1; omega
          · simp only [List.mem_cons, List.not_mem_nil, or_false] at he
            subst he
            have hfresh : ∀ p, A5 = some p → wr.heap.size ≤ p.block ∧ p.block < w5.heap.size := fun p hp => hown5.lt p.block (by rw [hp]; rfl)
            refine ⟨RS_grown (hRS5.below hbn) (by omega) hgrow7 (fun p hp e' => ?_), fun p hp => ⟨by have := (hfresh p hp).2; omega, ?_, by have := (hfresh p hp).1; have := hb.size; omega⟩⟩
            · have := (own_block_lt hown _ e').2
              have := (hfresh p hp).1
              omega
            · intro eg
              have eg : g = p.block := by simpa [Value.ownBlock] using eg
              rcases hat7 with h7 | h7
              · have := (own_block_lt hown _ h7).2
                have := (hfresh p hp).1
                omega
              · have := (hfresh p hp).2; omega
      have HEND := Lib.hid hend
      clear hend
      go_wp2_with fail
      go_roundw
      case rel => exact HEND.out
      case measure => simp [RowKit.intOf]; omega
    · have hkn : k = n := by omega
      subst hkn
      have hlen : l.length = k := by
        have := congrArg List.length hs
        simp only [List.length_map, List.length_take, HN.out] at this
        omega
      have hs' : same2 l es := by rw [List.take_of_length_le (by rw [HN.out]; exact Nat.le_refl _)] at hs; exact hs
      have HK := Lib.hid (And.intro hlen (And.intro hs' (And.intro hown (And.intro hR hb))))
      clear hown hs hR hb hlen hs'
      have d1 : decide ((k : Int) < (k : Int)) = false := by simp
      go_wp2_with fail
      go_ret
      exact ⟨_, l, rfl, HK.out.1, HK.out.2.1, HK.out.2.2.1, HK.out.2.2.2.1, HK.out.2.2.2.2⟩
end Go.Proofs.Ytphhdkffnboboaa

namespace Go.Proofs.Ytphhdkffnboboaa
open Go.RowKit Go.Shelf
open Go.Lib Go.Great Go.Maps

/-- Numbers one behind the other. -/
def RnS (w : World) (B : Nat) (A : Option Addr) (rs : List Int) : Prop := (∀ r ∈ rs, -2147483648 ≤ r ∧ r ≤ 2147483647) ∧ (rs ≠ [] → ∃ b o, A = some ⟨b, o, none⟩ ∧ b < B ∧ ∀ i r, rs[i]? = some r → w.cell? ⟨b, o + i, none⟩ = some (.int .i32 r))
theorem same2_any (l l' : List En) (h : same2 l l') : l.any wrongE = l'.any wrongE := by
  have e : ∀ l : List En, l.any wrongE = (l.map (fun e => (e.xs, e.c))).any (fun p => !cls p.2 || !right p.1) := fun l => by rw [List.any_map]; rfl
  rw [e, e, h]
theorem same2_fold (l l' : List En) (h : same2 l l') (i : Int) (o : Int) : l.foldl (fun v e => if hasR e.xs i then e.c else v) o = l'.foldl (fun v e => if hasR e.xs i then e.c else v) o := by
  have e : ∀ (l : List En) (o : Int), l.foldl (fun v e => if hasR e.xs i then e.c else v) o = (l.map (fun e => (e.xs, e.c))).foldl (fun v p => if hasR p.1 i then p.2 else v) o := fun l => by
    induction l with
    | nil => intro o; rfl
    | cons x xs ih => intro o; rw [List.foldl_cons, List.map_cons, List.foldl_cons]; exact ih _
  rw [e, e, h]
theorem getE_in (o : Int) (es : List En) (i : Int) (h0 : 0 ≤ i) (h1 : i ≤ 1114111) : getE o es i = es.foldl (fun v e => if hasR e.xs i then e.c else v) o := by
  unfold getE hitE
  simp [h0, h1]
theorem getE_out (o : Int) (es : List En) (i : Int) (h : i < 0 ∨ 1114111 < i) : getE o es i = o := by
  unfold getE hitE
  have e : ∀ e : En, (hasR e.xs i && decide (0 ≤ i) && decide (i ≤ 1114111)) = false := fun e => by
    rcases h with h | h
    · have : decide (0 ≤ i) = false := by simp; omega
      simp [this]
    · have : decide (i ≤ 1114111) = false := by simp; omega
      simp [this]
  induction es with
  | nil => rfl
  | cons x xs ih => rw [List.foldl_cons, e, if_neg (by simp)]; exact ih
/-- What the trie tells is what the document's answer tells. -/
theorem get_agree {o : Int} {es es' : List En} {F : Nat → Int} (hs : same2 es' es) (hF : ∀ i : Nat, i < 1114112 → F i = es'.foldl (fun v e => if hasR e.xs i then e.c else v) o) (r : Int) : (if r < 0 ∨ 1114111 < r then o else F r.toNat) = getE o es r := by
  by_cases c : r < 0 ∨ 1114111 < r
  · rw [if_pos c, getE_out o es r c]
  · rw [if_neg c]
    obtain ⟨a, rfl⟩ := Int.eq_ofNat_of_zero_le (show 0 ≤ r by omega)
    rw [getE_in o es _ (by omega) (by omega), Int.toNat_natCast, hF a (by omega)]
    exact same2_fold es' es hs _ o

set_option maxHeartbeats 4000000 in
set_option maxRecDepth 100000 in
theorem tgets_any (o : Int) (A : Option Addr) (cap : Nat) (es : List En) (AR : Option Addr) (capR : Nat) (rs : List Int) (w : World) (h : ES w w.heap.size A cap es) (hr : RnS w w.heap.size AR rs) (hrl : rs.length ≤ 9223372036854775807) :
    Calls Try.prog 3 #[.int .i64 o, .slice A es.length cap, .slice AR rs.length capR] w fun e w' => e = .returned (.bool true) ∧ Below w.heap.size w w' := by
  have T := Lib.hid taw_any
  have G := Lib.hid (great_any A cap es w h)
  have HE := Lib.hid h
  have HRS := Lib.hid hr
  obtain ⟨n, hn⟩ : ∃ n, es.length = n := ⟨_, rfl⟩
  obtain ⟨m, hm⟩ : ∃ m, rs.length = m := ⟨_, rfl⟩
  have HN := Lib.hid (And.intro hn hm)
  rw [hm] at hrl
  rw [hn, hm]
  rw [hn] at G
  obtain ⟨q, hq⟩ : ∃ q, greatE es = q := ⟨_, rfl⟩
  have HQ := Lib.hid hq
  rw [hq] at G
  have G := Lib.hid G.out
  clear h hr hn hm hq
  cases q with
  | true =>
    go_enter Try.func3, Try.ntmps3
    go_wp2_with fail
    refine G.out.mono ?_
    rintro e w1 ⟨rfl, rfl⟩
    go_wp2_with fail
    refine (T.out _).mono ?_
    rintro e w2 ⟨rfl, hb⟩
    go_wp2_with fail
    go_ret
    exact ⟨rfl, hb⟩
  | false =>
    by_cases hlong : 40 < m
    · have i1 : (40 : Int) < (m : Int) := by omega
      go_enter Try.func3, Try.ntmps3
      go_wp2_with fail
      refine G.out.mono ?_
      rintro e w1 ⟨rfl, rfl⟩
      go_wp2_with fail
      refine (T.out _).mono ?_
      rintro e w2 ⟨rfl, hb⟩
      go_wp2_with fail
      go_ret
      exact ⟨rfl, hb⟩
    · have i1 : ¬ (40 : Int) < (m : Int) := by omega
      have d1 : decide ((40 : Int) < (m : Int)) = false := by simp; omega
      have hg : es.length ≤ 12 ∧ ∀ e ∈ es, e.xs.length ≤ 12 := by
        have := HQ.out
        unfold greatE at this
        rw [Bool.or_eq_false_iff] at this
        have h12 : es.length ≤ 12 := by have := this.2; simp at this; omega
        refine ⟨h12, fun e he => ?_⟩
        have h1 := this.1
        rw [List.take_of_length_le h12, List.any_eq_false] at h1
        have := h1 e he
        simp at this
        omega
      have HG := Lib.hid hg
      clear hg hlong
      go_enter Try.func3, Try.ntmps3
      go_wp2_with fail
      refine G.out.mono ?_
      rintro e w1 ⟨rfl, rfl⟩
      go_wp2_with fail
      refine (T.out _).mono ?_
      rintro e w2 ⟨rfl, hb⟩
      have C := Lib.hid (lawto_any A cap es w2 ((HE.out.below hb).mono hb.size) HG.out.1 HG.out.2)
      have HB := Lib.hid hb
      rw [HN.out.1] at C
      have C := Lib.hid C.out
      clear hb
      go_wp2_with fail
      refine C.out.mono ?_
      rintro e w3 ⟨A3, c3, es3, rfl, hl3, hs3, hES3, hF3, hb3⟩
      have hN := new_any o A3 c3 es3 w3 hES3 hF3 (by have := HG.out.1; have := HN.out.1; omega) (fun e he => by
        have : (e.xs, e.c) ∈ es.map (fun e => (e.xs, e.c)) := by rw [← hs3]; exact List.mem_map.2 ⟨e, he, rfl⟩
        obtain ⟨e', he', hee⟩ := List.mem_map.1 this
        simp only [Prod.mk.injEq] at hee
        rw [← hee.1]
        have := HG.out.2 e' he'
        omega)
      have e3 : es3.length = n := hl3
      rw [e3] at hN
      have NW := Lib.hid hN
      have hbz := HB.out.trans (hb3.mono HB.out.size)
      have HB := Lib.hid hbz
      have HS3 := Lib.hid hs3
      clear hbz hb3 hs3 hES3 hF3 hl3 hN e3
      go_wp2_with fail
      refine NW.out.mono ?_
      rintro e w4 ⟨hb4, hp⟩
      have hbz := HB.out.trans (hb4.mono HB.out.size)
      have HB := Lib.hid hbz
      have MY := Lib.hid (lawmay_any o A cap es w4 ((HE.out.below hbz).mono hbz.size))
      rw [mayE_wrong, ← same2_any _ _ HS3.out, HN.out.1] at MY
      have MY := Lib.hid MY.out
      clear hbz hb4
      by_cases hok : (cls o && !es3.any wrongE) = true
      · rw [if_pos hok] at hp
        rw [hok] at MY
        have MY := Lib.hid MY.out
        obtain ⟨T1, F, rfl, hF, hFi, hT1⟩ := hp
        have HT := Lib.hid (And.intro hT1 (And.intro hF hFi))
        clear hok hT1 hF hFi
        go_wp2_with fail
        refine MY.out.mono ?_
        rintro e w5 ⟨rfl, hb5⟩
        have hbz := HB.out.trans (hb5.mono HB.out.size)
        have hT5 := HT.out.1.below hb5
        have H5 := Lib.hid (And.intro hbz hT5)
        clear hbz hT5 hb5
        go_wp2_with fail
        go_loopw [9] (fun i wr => ∃ k : Nat, i = .int .i64 (k : Int) ∧ k ≤ m ∧ Below w5.heap.size w5 wr) (fun i _ => m - (RowKit.intOf i).toNat)
        case atStart => exact ⟨0, rfl, Nat.zero_le _, Below.refl _ _⟩
        case round =>
          obtain ⟨k, rfl, hk, hb⟩ := hrel
          by_cases hlt : k < m
          · obtain ⟨r, hr⟩ : ∃ r, rs[k]? = some r := ⟨rs[k]'(by rw [HN.out.2]; exact hlt), List.getElem?_eq_getElem _⟩
            obtain ⟨b, o', rfl, hbl, hE⟩ := HRS.out.2 (by intro e; rw [e] at hr; simp at hr)
            have hrb := HRS.out.1 r (List.mem_of_getElem? hr)
            have q1 := hE k r hr
            have j1 : (k : Int) < (m : Int) := by omega
            have HX := Lib.hid (get_agree HS3.out HT.out.2.2 r)
            have HBW := Lib.hid (H5.out.1.trans (hb.mono H5.out.1.size))
            have HB5 := Lib.hid hb
            have HRB := Lib.hid hrb
            clear hE hr hb hrb
            go_wp2_with fail
            have HQW := Lib.hid (show Below w1.heap.size w1 wr.drew from HBW.out.drew)
            have CG := Lib.hid (get_any T1 o F r wr.drew ((H5.out.2.below HB5.out).below (Below.refl _ wr).drew) HT.out.2.1 HRB.out.1 HRB.out.2)
            rw [HX.out] at CG
            have CG := Lib.hid CG.out
            refine wp_region_noPanic ?_
            refine wp_region_held_drew (S := fun W => Below w1.heap.size w1 W) (by kernel_rfl) HQW.out (fun hH => ?_)
            refine wpAnyH_take (i := 0) (oi := { dst := some 45, op := Op.move (Operand.tmp 7), type := 26, pos := "law.go:57", after := #[], guard := none }) (v := ?_) rfl (by kernel_rfl) (by kernel_rfl) (by kernel_rfl) (fun _ _ _ h => h) (Or.inl ⟨by rfl, ?_⟩) (by exact hH) ?_
            rotate_left
            · intro W hSw
              go_simp
              try with_reducible rfl
            try simp only [Act.put, List.setIfInBounds_toArray, List.set_cons_zero, List.set_cons_succ]
            refine wpAnyH_take (i := 1) (oi := { dst := some 46, op := Op.move (Operand.tmp 2), type := 23, pos := "law.go:57", after := #[], guard := none }) (v := ?_) rfl (by kernel_rfl) (by kernel_rfl) (by kernel_rfl) (fun _ _ _ h => h) (Or.inl ⟨by rfl, ?_⟩) (by exact hH) ?_
            rotate_left
            · intro W hSw
              go_simp
              try with_reducible rfl
            try simp only [Act.put, List.setIfInBounds_toArray, List.set_cons_zero, List.set_cons_succ]
            refine wpAnyH_take (i := 2) (oi := { dst := some 47, op := Op.move (Operand.tmp 9), type := 3, pos := "law.go:57", after := #[], guard := none }) (v := ?_) rfl (by kernel_rfl) (by kernel_rfl) (by kernel_rfl) (fun _ _ _ h => h) (Or.inl ⟨by rfl, ?_⟩) (by exact hH) ?_
            rotate_left
            · intro W hSw
              go_simp
              try with_reducible rfl
            try simp only [Act.put, List.setIfInBounds_toArray, List.set_cons_zero, List.set_cons_succ]
            refine wpAnyH_take (i := 3) (oi := { dst := some 48, op := Op.indexAddr 23 (Operand.tmp 46) (Operand.tmp 47), type := 0, pos := "law.go:57", after := #[{ on := 1, ground := Ground.data }, { on := 2, ground := Ground.data }], guard := none }) (v := ?_) rfl (by kernel_rfl) (by kernel_rfl) (by kernel_rfl) (fun _ _ _ h => h) (Or.inl ⟨by rfl, ?_⟩) (by exact hH) ?_
            rotate_left
            · intro W hSw
              go_simp
              try with_reducible rfl
            try simp only [Act.put, List.setIfInBounds_toArray, List.set_cons_zero, List.set_cons_succ]
            refine wpAnyH_take (i := 4) (oi := { dst := some 49, op := Op.load 21 (Operand.tmp 48), type := 21, pos := "law.go:57", after := #[{ on := 3, ground := Ground.data }], guard := none }) (v := ?_) rfl (by kernel_rfl) (by kernel_rfl) (by kernel_rfl) (fun _ _ _ h => h) (Or.inl ⟨by rfl, ?_⟩) (by exact hH) ?_
            rotate_left
            · intro W hSw
              have p := (hSw.cell (p := ⟨b, o' + k, none⟩) hbl).trans q1
              go_simp
              try with_reducible rfl
            try simp only [Act.put, List.setIfInBounds_toArray, List.set_cons_zero, List.set_cons_succ]
            refine wpAnyH_take (i := 6) (oi := { dst := some 51, op := Op.move (Operand.tmp 0), type := 3, pos := "law.go:57", after := #[], guard := none }) (v := ?_) rfl (by kernel_rfl) (by kernel_rfl) (by kernel_rfl) (fun _ _ _ h => h) (Or.inl ⟨by rfl, ?_⟩) (by exact hH) ?_
            rotate_left
            · intro W hSw
              go_simp
              try with_reducible rfl
            try simp only [Act.put, List.setIfInBounds_toArray, List.set_cons_zero, List.set_cons_succ]
            refine wpAnyH_take (i := 7) (oi := { dst := some 52, op := Op.move (Operand.tmp 1), type := 22, pos := "law.go:57", after := #[], guard := none }) (v := ?_) rfl (by kernel_rfl) (by kernel_rfl) (by kernel_rfl) (fun _ _ _ h => h) (Or.inl ⟨by rfl, ?_⟩) (by exact hH) ?_
            rotate_left
            · intro W hSw
              go_simp
              try with_reducible rfl
            try simp only [Act.put, List.setIfInBounds_toArray, List.set_cons_zero, List.set_cons_succ]
            refine wpAnyH_take (i := 8) (oi := { dst := some 53, op := Op.move (Operand.tmp 2), type := 23, pos := "law.go:57", after := #[], guard := none }) (v := ?_) rfl (by kernel_rfl) (by kernel_rfl) (by kernel_rfl) (fun _ _ _ h => h) (Or.inl ⟨by rfl, ?_⟩) (by exact hH) ?_
            rotate_left
            · intro W hSw
              go_simp
              try with_reducible rfl
            try simp only [Act.put, List.setIfInBounds_toArray, List.set_cons_zero, List.set_cons_succ]
            refine wpAnyH_take (i := 9) (oi := { dst := some 54, op := Op.move (Operand.tmp 9), type := 3, pos := "law.go:57", after := #[], guard := none }) (v := ?_) rfl (by kernel_rfl) (by kernel_rfl) (by kernel_rfl) (fun _ _ _ h => h) (Or.inl ⟨by rfl, ?_⟩) (by exact hH) ?_
            rotate_left
            · intro W hSw
              go_simp
              try with_reducible rfl
            try simp only [Act.put, List.setIfInBounds_toArray, List.set_cons_zero, List.set_cons_succ]
            refine wpAnyH_take (i := 10) (oi := { dst := some 55, op := Op.indexAddr 23 (Operand.tmp 53) (Operand.tmp 54), type := 0, pos := "law.go:57", after := #[{ on := 8, ground := Ground.data }, { on := 9, ground := Ground.data }], guard := none }) (v := ?_) rfl (by kernel_rfl) (by kernel_rfl) (by kernel_rfl) (fun _ _ _ h => h) (Or.inl ⟨by rfl, ?_⟩) (by exact hH) ?_
            rotate_left
            · intro W hSw
              go_simp
              try with_reducible rfl
            try simp only [Act.put, List.setIfInBounds_toArray, List.set_cons_zero, List.set_cons_succ]
            refine wpAnyH_take (i := 11) (oi := { dst := some 56, op := Op.load 21 (Operand.tmp 55), type := 21, pos := "law.go:57", after := #[{ on := 10, ground := Ground.data }], guard := none }) (v := ?_) rfl (by kernel_rfl) (by kernel_rfl) (by kernel_rfl) (fun _ _ _ h => h) (Or.inl ⟨by rfl, ?_⟩) (by exact hH) ?_
            rotate_left
            · intro W hSw
              have p := (hSw.cell (p := ⟨b, o' + k, none⟩) hbl).trans q1
              go_simp
              try with_reducible rfl
            try simp only [Act.put, List.setIfInBounds_toArray, List.set_cons_zero, List.set_cons_succ]
            refine wpAnyH_ready (rs := [5]) (by kernel_rfl) (by simp) ?_
            refine AllReadyH.cons (o := { dst := some 50, op := Op.call { callee := Callee.value (Operand.func 18), args := #[Operand.tmp 45, Operand.tmp 49], argTypes := #[26, 21] }, type := 3, pos := "law.go:57", after := #[{ on := 0, ground := Ground.data }, { on := 4, ground := Ground.data }], guard := none }) rfl (fun K hK => ?_) AllReadyH.nil
            go_simp
            go_at_call 18
            refine CG.out.mono ?_
            rintro e w6 ⟨rfl, hb6⟩
            have HB6 := Lib.hid (HQW.out.trans (hb6.mono HQW.out.size))
            have HB56 := Lib.hid ((HB5.out.drew).trans (hb6.mono HB5.out.size))
            have CR := Lib.hid (rget_any o A cap es r w6 ((HE.out.below HB6.out).mono HB6.out.size) HRB.out.1 HRB.out.2)
            rw [HN.out.1] at CR
            have CR := Lib.hid CR.out
            clear hb6
            go_wp2_with fail
            refine hK.out _ _ HB6.out (fun hH => ?_)
            clear hK K
            try simp only [Act.put, List.setIfInBounds_toArray, List.set_cons_zero, List.set_cons_succ]
            refine wpAnyH_ready (rs := [12]) (by kernel_rfl) (by simp) ?_
            refine AllReadyH.cons (o := { dst := some 57, op := Op.call { callee := Callee.value (Operand.func 19), args := #[Operand.tmp 51, Operand.tmp 52, Operand.tmp 56], argTypes := #[3, 22, 21] }, type := 3, pos := "law.go:57", after := #[{ on := 6, ground := Ground.data }, { on := 7, ground := Ground.data }, { on := 11, ground := Ground.data }, { on := 5, ground := Ground.chain }], guard := none }) rfl (fun K hK => ?_) AllReadyH.nil
            go_simp
            go_at_call 19
            refine CR.out.mono ?_
            rintro e w7 ⟨rfl, rfl⟩
            go_wp2_with fail
            refine hK.out _ _ HB6.out (fun hH => ?_)
            clear hK K
            try simp only [Act.put, List.setIfInBounds_toArray, List.set_cons_zero, List.set_cons_succ]
            refine wpAnyH_take (i := 13) (oi := { dst := some 58, op := Op.binOp BinOp.neq 3 (Operand.tmp 50) (Operand.tmp 57) 3, type := 4, pos := "law.go:57", after := #[{ on := 5, ground := Ground.data }, { on := 12, ground := Ground.data }], guard := none }) (v := ?_) rfl (by kernel_rfl) (by kernel_rfl) (by kernel_rfl) (fun _ _ _ h => h) (Or.inl ⟨by rfl, ?_⟩) (by exact hH) ?_
            rotate_left
            · intro W hSw
              go_simp
              try with_reducible rfl
            try simp only [Act.put, List.setIfInBounds_toArray, List.set_cons_zero, List.set_cons_succ]
            refine wpAnyH_done (by kernel_rfl) ?_ _
            refine NoPanic.normal ?_
            have hbz := HB56.out
            go_wp2_with fail
            go_roundw
            case rel => exact ⟨k + 1, by go_num, by omega, hbz⟩
            case measure => simp [RowKit.intOf]; omega
          · have j1 : ¬ (k : Int) < (m : Int) := by omega
            have j2 : decide ((k : Int) < (m : Int)) = false := by simp; omega
            have hbz := H5.out.1.trans (hb.mono H5.out.1.size)
            go_wp2_with fail
            go_ret
            exact ⟨rfl, hbz⟩
      · rw [if_neg hok] at hp
        have hok : (cls o && !es3.any wrongE) = false := by simpa using hok
        rw [hok] at MY
        have MY := Lib.hid MY.out
        subst hp
        clear hok
        go_wp2_with fail
        refine MY.out.mono ?_
        rintro e w5 ⟨rfl, hb5⟩
        have hbz := HB.out.trans (hb5.mono HB.out.size)
        go_wp2_with fail
        go_ret
        exact ⟨rfl, hbz⟩
end Go.Proofs.Ytphhdkffnboboaa

namespace Go.Proofs.Ytphhdkffnboboaa
open Go.RowKit Go.Shelf
open Go.Lib Go.Great Go.Maps

theorem sameB_at {F : Nat → Int} {k t : Nat} (h : sameB F k t = true) {j : Nat} (hj : j < 256) : F (256 * k + j) = F (256 * t + j) := by
  unfold sameB at h
  rw [List.all_eq_true] at h
  simpa using h j (List.mem_range.2 hj)
theorem eqBlk_at {F G : Nat → Int} {k k' : Nat} (h : eqBlk F k G k' = true) {j : Nat} (hj : j < 256) : F (256 * k + j) = G (256 * k' + j) := by
  unfold eqBlk at h
  rw [List.all_eq_true] at h
  simpa using h j (by rw [List.mem_range'_1]; omega)
theorem sameT_imp {F G : Nat → Int} (h : sameT F G = true) : ∀ r, r < 1114112 → F r = G r := by
  unfold sameT at h
  simp only [Bool.and_eq_true, decide_eq_true_eq] at h
  obtain ⟨h1, h2, h3⟩ := h
  intro r hr
  have ht : r / 256 < 4352 := by omega
  obtain ⟨kF, hkF, hsF⟩ := rf_at F 4352 (r / 256) (dd_has F 4352 _ ht)
  obtain ⟨kG, hkG, hsG⟩ := rf_at G 4352 (r / 256) (dd_has G 4352 _ ht)
  have hi := rf_lt F 4352 (r / 256) (dd_has F 4352 _ ht)
  have he : rf F 4352 (r / 256) = rf G 4352 (r / 256) := by
    unfold eqRef at h1
    rw [List.all_eq_true] at h1
    have := h1 (r / 256) (by rw [List.mem_range'_1]; omega)
    simp only [beq_iff_eq] at this
    omega
  unfold eqU at h3
  rw [List.all_eq_true] at h3
  have h4 := h3 _ (List.mem_range.2 hi)
  rw [List.getD_eq_getElem?_getD, hkF, List.getD_eq_getElem?_getD, he, hkG] at h4
  simp only [Option.getD_some] at h4
  have h5 := eqBlk_at h4 (j := r % 256) (by omega)
  rw [sameB_at hsF (by omega), sameB_at hsG (by omega)] at h5
  have e : 256 * (r / 256) + r % 256 = r := by omega
  rwa [e] at h5
theorem sameB_congr {F G : Nat → Int} (h : ∀ r, r < 1114112 → F r = G r) {k t : Nat} (hk : k < 4352) (ht : t < 4352) : sameB F k t = sameB G k t := by
  unfold sameB
  rw [Bool.eq_iff_iff, List.all_eq_true, List.all_eq_true]
  constructor <;> (intro h1 j hj; have := h1 j hj; have hj' := List.mem_range.1 hj; simp only [beq_iff_eq] at *; have e1 := h (256 * k + j) (by omega); have e2 := h (256 * t + j) (by omega); omega)
theorem any_congr2 {α : Type} {p q : α → Bool} {l : List α} (h : ∀ x ∈ l, p x = q x) : l.any p = l.any q := by
  induction l with
  | nil => rfl
  | cons x xs ih => rw [List.any_cons, List.any_cons, h x (by simp), ih fun y hy => h y (by simp [hy])]
theorem dd_congr {F G : Nat → Int} (h : ∀ r, r < 1114112 → F r = G r) : ∀ i, i ≤ 4352 → dd F i = dd G i := by
  intro i
  induction i with
  | zero => intro _; rfl
  | succ i ih =>
    intro hi
    rw [dd_succ, dd_succ, ih (by omega), any_congr2 (fun k hk => sameB_congr h (by have := dd_lt G i k hk; omega) (show i < 4352 by omega))]
theorem findIdx_congr {α : Type} {p q : α → Bool} {l : List α} (h : ∀ x ∈ l, p x = q x) : l.findIdx p = l.findIdx q := by
  induction l with
  | nil => rfl
  | cons x xs ih => rw [List.findIdx_cons, List.findIdx_cons, h x (by simp), ih fun y hy => h y (by simp [hy])]
theorem rf_congr {F G : Nat → Int} (h : ∀ r, r < 1114112 → F r = G r) {t : Nat} (ht : t < 4352) : rf F 4352 t = rf G 4352 t := by
  unfold rf
  rw [dd_congr h 4352 (Nat.le_refl _)]
  exact findIdx_congr fun k hk => sameB_congr h (dd_lt G 4352 k hk) ht
theorem sameT_of {F G : Nat → Int} (h : ∀ r, r < 1114112 → F r = G r) : sameT F G = true := by
  have hd := dd_congr h 4352 (Nat.le_refl _)
  unfold sameT
  rw [hd]
  simp only [Bool.and_eq_true, decide_eq_true_eq]
  refine ⟨?_, trivial, ?_⟩
  · unfold eqRef
    rw [List.all_eq_true]
    intro t ht
    rw [List.mem_range'_1] at ht
    simp only [beq_iff_eq]
    rw [rf_congr h (by omega)]
  · unfold eqU
    rw [List.all_eq_true]
    intro i hi
    have hi := List.mem_range.1 hi
    rw [hd]
    obtain ⟨k, hk⟩ : ∃ k, (dd G 4352)[i]? = some k := ⟨_, List.getElem?_eq_getElem hi⟩
    rw [List.getD_eq_getElem?_getD, hk]
    simp only [Option.getD_some]
    have hlt := dd_lt G 4352 k (List.mem_of_getElem? hk)
    unfold eqBlk
    rw [List.all_eq_true]
    intro j hj
    rw [List.mem_range'_1] at hj
    simp only [beq_iff_eq]
    exact h _ (by omega)
theorem sameT_iff (F G : Nat → Int) : sameT F G = true ↔ ∀ r, r < 1114112 → F r = G r := ⟨sameT_imp, sameT_of⟩

/-- All numbers of a class. -/
noncomputable def setC (F : Nat → Int) (c : Int) : List Rng := norm (clsTo F c 1114112)
theorem setC_of {F : Nat → Int} {c : Int} {xs : List Rng} (h : Tells xs (clsTo F c 1114112)) : xs = setC F c := h.eq
theorem setC_eq {F G : Nat → Int} {c : Int} {xs ys : List Rng} (h : Tells xs (clsTo F c 1114112)) (h' : Tells ys (clsTo G c 1114112)) (e : setC F c = setC G c) : ∀ r, r < 1114112 → (F r = c ↔ G r = c) := by
  intro r hr
  have e2 : xs = ys := by rw [setC_of h, setC_of h', e]
  have h1 := h.2 (r : Int)
  rw [e2, h'.2 (r : Int)] at h1
  have h2 := clsTo_iff F c 1114112 (r : Int)
  have h3 := clsTo_iff G c 1114112 (r : Int)
  rw [h1] at h3
  simp only [Int.toNat_natCast] at h2 h3
  constructor
  · intro h4; exact (h3.1 (h2.2 ⟨by omega, by omega, h4⟩)).2.2
  · intro h4; exact (h2.1 (h3.2 ⟨by omega, by omega, h4⟩)).2.2
theorem setC_congr {F G : Nat → Int} (h : ∀ r, r < 1114112 → F r = G r) (c : Int) : setC F c = setC G c := by
  unfold setC
  congr 1
  funext r
  rw [Bool.eq_iff_iff, clsTo_iff, clsTo_iff]
  constructor <;> (rintro ⟨h1, h2, h3⟩; have := h r.toNat (by omega); exact ⟨h1, h2, by omega⟩)
/-- The law's own finding is the program's. -/
theorem same_found {F G : Nat → Int} (p : Nat → Bool) (hU : U8 F) (hp : ∀ c, c < 256 → (p c = true ↔ ∃ r, r < 1114112 ∧ F r = (c : Int)))
    (hS : ∀ c : Nat, c < 256 → ∃ xs ys, Tells xs (clsTo F c 1114112) ∧ Tells ys (clsTo G c 1114112)) :
    (((List.range 256).filter p).all fun c => decide (setC F (c : Int) = setC G (c : Int))) = sameT F G := by
  rw [Bool.eq_iff_iff, sameT_iff, List.all_eq_true]
  constructor
  · intro h r hr
    have hu := hU r
    obtain ⟨a, ha⟩ := Int.eq_ofNat_of_zero_le hu.1
    have ha256 : a < 256 := by omega
    have hm : a ∈ (List.range 256).filter p := List.mem_filter.2 ⟨List.mem_range.2 ha256, (hp a ha256).2 ⟨r, hr, ha⟩⟩
    have he := of_decide_eq_true (h a hm)
    obtain ⟨xs, ys, h1, h2⟩ := hS a ha256
    rw [ha, (setC_eq h1 h2 he r hr).1 ha]
  · intro h c _
    exact decide_eq_true (setC_congr h _)

theorem fold_any (es : List En) (i : Int) : ∀ v v' : Int, es.any (fun e => hasR e.xs i) = true → es.foldl (fun v e => if hasR e.xs i then e.c else v) v = es.foldl (fun v e => if hasR e.xs i then e.c else v) v' := by
  induction es with
  | nil => intro v v' h; simp at h
  | cons x xs ih =>
    intro v v' h
    rw [List.foldl_cons, List.foldl_cons]
    by_cases c : hasR x.xs i = true
    · rw [if_pos c, if_pos c]
    · rw [if_neg c, if_neg c]
      rw [List.any_cons] at h
      simp only [Bool.or_eq_true] at h
      rcases h with h | h
      · exact absurd h c
      · exact ih _ _ h
theorem fold_none (es : List En) (i : Int) (h : es.any (fun e => hasR e.xs i) = false) : ∀ v : Int, es.foldl (fun v e => if hasR e.xs i then e.c else v) v = v := by
  induction es with
  | nil => intro v; rfl
  | cons x xs ih =>
    intro v
    rw [List.any_cons, Bool.or_eq_false_iff] at h
    rw [List.foldl_cons, h.1, if_neg (by simp)]
    exact ih h.2 v
theorem fold_twice (es es' : List En) (hs : same2 es' es) (i : Int) (o : Int) : (es ++ es').foldl (fun v e => if hasR e.xs i then e.c else v) o = es.foldl (fun v e => if hasR e.xs i then e.c else v) o := by
  rw [List.foldl_append, same2_fold es' es hs i]
  cases h : es.any (fun e => hasR e.xs i) with
  | true => exact fold_any es i _ _ h
  | false => rw [fold_none es i h, fold_none es i h]
end Go.Proofs.Ytphhdkffnboboaa

namespace Go.Proofs.Ytphhdkffnboboaa
open Go.RowKit Go.Shelf
open Go.Lib Go.Great Go.Maps

def encTo (f : Nat → UInt8) : Nat → List UInt8
  | 0 => [0, f 0]
  | m + 1 => encTo f m ++ (if f (m + 1) = f m then [] else [UInt8.ofNat (m + 1), f (m + 1)])
theorem enc_succ (f : Nat → UInt8) (m : Nat) : encTo f (m + 1) = encTo f m ++ (if f (m + 1) = f m then [] else [UInt8.ofNat (m + 1), f (m + 1)]) := rfl
theorem enc_end (f : Nat → UInt8) : ∀ m, m ≤ 255 → ∃ pre q, encTo f m = pre ++ [q, f m] ∧ q.toNat ≤ m := by
  intro m
  induction m with
  | zero => intro _; exact ⟨[], 0, rfl, by simp⟩
  | succ m ih =>
    intro hm
    obtain ⟨pre, q, h1, h2⟩ := ih (by omega)
    unfold encTo
    by_cases c : f (m + 1) = f m
    · rw [if_pos c, List.append_nil, c]
      exact ⟨pre, q, h1, by omega⟩
    · rw [if_neg c]
      refine ⟨encTo f m, UInt8.ofNat (m + 1), rfl, ?_⟩
      rw [UInt8.toNat_ofNat']
      omega
theorem enc_len (f : Nat → UInt8) : ∀ m, (encTo f m).length ≤ 2 * m + 2 ∧ 2 ≤ (encTo f m).length := by
  intro m
  induction m with
  | zero => simp [encTo]
  | succ m ih =>
    unfold encTo
    rw [List.length_append]
    split <;> simp <;> omega
theorem enc_last (f : Nat → UInt8) (m : Nat) (hm : m ≤ 255) : (encTo f m)[(encTo f m).length - 1]? = some (f m) := by
  obtain ⟨pre, q, h1, _⟩ := enc_end f m hm
  rw [h1]
  simp
theorem enc_inj (f g : Nat → UInt8) : ∀ m, m ≤ 255 → encTo f m = encTo g m → ∀ x, x ≤ m → f x = g x := by
  intro m
  induction m with
  | zero =>
    intro _ h x hx
    have : x = 0 := by omega
    subst this
    simp [encTo] at h
    exact h
  | succ m ih =>
    intro hm h x hx
    obtain ⟨pf, qf, hf1, hf2⟩ := enc_end f m (by omega)
    obtain ⟨pg, qg, hg1, hg2⟩ := enc_end g m (by omega)
    have hq : (UInt8.ofNat (m + 1)).toNat = m + 1 := by rw [UInt8.toNat_ofNat']; omega
    unfold encTo at h
    by_cases cf : f (m + 1) = f m
    · by_cases cg : g (m + 1) = g m
      · rw [if_pos cf, if_pos cg, List.append_nil, List.append_nil] at h
        have hi := ih (by omega) h
        by_cases e : x = m + 1
        · subst e; rw [cf, cg]; exact hi m (Nat.le_refl _)
        · exact hi x (by omega)
      · exfalso
        rw [if_pos cf, if_neg cg, List.append_nil, hf1] at h
        have := (List.append_inj' h (by simp)).2
        simp only [List.cons.injEq, and_true] at this
        have h3 : qf.toNat = (UInt8.ofNat (m + 1)).toNat := by rw [this.1]
        omega
    · by_cases cg : g (m + 1) = g m
      · exfalso
        rw [if_neg cf, if_pos cg, List.append_nil, hg1] at h
        have := (List.append_inj' h (by simp)).2
        simp only [List.cons.injEq, and_true] at this
        have h3 : qg.toNat = (UInt8.ofNat (m + 1)).toNat := by rw [← this.1]
        omega
      · rw [if_neg cf, if_neg cg] at h
        have h4 := List.append_inj' h (by simp)
        have hi := ih (by omega) h4.1
        have h5 := h4.2
        simp at h5
        by_cases e : x = m + 1
        · subst e; exact h5
        · exact hi x (by omega)
theorem enc_congr (f g : Nat → UInt8) : ∀ m, (∀ x, x ≤ m → f x = g x) → encTo f m = encTo g m := by
  intro m
  induction m with
  | zero => intro h; simp [encTo, h 0 (Nat.le_refl _)]
  | succ m ih =>
    intro h
    unfold encTo
    rw [ih (fun x hx => h x (by omega)), h (m + 1) (Nat.le_refl _), h m (by omega)]
theorem enc_const (f : Nat → UInt8) (a : Nat) : ∀ d, (∀ x, a ≤ x → x < a + d → f (x + 1) = f x) → encTo f (a + d) = encTo f a := by
  intro d
  induction d with
  | zero => intro _; rfl
  | succ d ih =>
    intro h
    rw [show a + (d + 1) = (a + d) + 1 by omega, enc_succ, if_pos (h (a + d) (by omega) (by omega)), List.append_nil]
    exact ih fun x h1 h2 => h x h1 (by omega)

/-- A class as a byte. -/
def byt (F : Nat → Int) (x : Nat) : UInt8 := UInt8.ofNat (F x).toNat
theorem byt_nat {F : Nat → Int} (hF : U8 F) (x : Nat) : ((byt F x).toNat : Int) = F x := by
  unfold byt
  have := hF x
  rw [UInt8.toNat_ofNat']
  omega
theorem byt_eq {F : Nat → Int} (hF : U8 F) {x y : Nat} : byt F x = byt F y ↔ F x = F y := by
  constructor
  · intro h
    rw [← byt_nat hF x, ← byt_nat hF y, h]
  · intro h
    unfold byt
    rw [h]
/-- A block's string. -/
def encB (F : Nat → Int) (k : Nat) : List UInt8 := encTo (fun x => byt F (256 * k + x)) 255
theorem encB_iff {F : Nat → Int} (hF : U8 F) (k t : Nat) : encB F k = encB F t ↔ sameB F k t = true := by
  constructor
  · intro h
    have := enc_inj _ _ 255 (Nat.le_refl _) h
    unfold sameB
    rw [List.all_eq_true]
    intro j hj
    have hj := List.mem_range.1 hj
    simpa using (byt_eq hF).1 (this j (by omega))
  · intro h
    exact enc_congr _ _ 255 fun x hx => (byt_eq hF).2 (sameB_at h (by omega))
theorem encB_any {F : Nat → Int} (hF : U8 F) (P : Nat) : ((dd F P).map (encB F)).any (fun s => s == encB F P) = (dd F P).any (fun k => sameB F k P) := by
  rw [List.any_map]
  apply any_congr2
  intro k _
  rw [Bool.eq_iff_iff]
  simp only [Function.comp, beq_iff_eq]
  exact encB_iff hF k P
end Go.Proofs.Ytphhdkffnboboaa

namespace Go.Proofs.Ytphhdkffnboboaa
open Go.RowKit Go.Shelf
open Go.Lib

/-- What is appended: nothing, of nil; or cells that are there. -/
def Src (w : World) (A : Option Addr) (m c : Nat) (news : List Value) : Prop :=
  (A = none ∧ m = 0 ∧ c = 0 ∧ news = []) ∨ ∃ ad, A = some ad ∧ (0 < m → ad.block < w.heap.size) ∧ news.length = m ∧ ∀ (j : Nat) (u : Value), news[j]? = some u → w.cell? (ad.add j) = some u
theorem block_add (ad : Addr) (j : Nat) : (ad.add j).block = ad.block := by
  unfold Addr.add
  split <;> rfl
theorem Src.below {w w' : World} {A : Option Addr} {m c : Nat} {news : List Value} (h : Src w A m c news) (hb : Below w.heap.size w w') : Src w' A m c news := by
  rcases h with h | ⟨ad, e, hl, h1, h2⟩
  · exact .inl h
  · exact .inr ⟨ad, e, fun hm => Nat.lt_of_lt_of_le (hl hm) hb.size, h1, fun j u hu => (hb.cell (p := ad.add j) (by rw [block_add]; exact hl (by have := (List.getElem?_eq_some_iff.1 hu).1; omega))).trans (h2 j u hu)⟩

theorem wpList_append_src {P : Program} {w : World} {ops : Array Oper} {rest : List Oper} {o : Oper} {a : Act} {Q : Exit → Act → World → Prop} (hgd : o.guard = none) (s x : Operand) (t : TypeId)
    (ho : o.op = .call { callee := .builtin .append, args := #[s, x], argTypes := #[t, t] })
    (base : Nat) (e : TypeId) (i : TypeInfo) (z : Value) (bytes : Nat) (ht : P.underlying t = some (.slice e)) (hi : P.info? e = some i) (hz : i.zero = some z)
    (hsize : i.size = 1) (hby : i.bytes = bytes) (hzs : z.cells.size = 1)
    (v : Value) (n : Nat) (xs : List Value) (hs : a.eval s = v) (hown : w.ownsRow base e 1 v n xs)
    (A : Option Addr) (m c : Nat) (news : List Value) (hx : a.eval x = .slice A m c) (hsrc : Src w A m c news) (h1 : ∀ u ∈ news, u.oneCell' = true)
    (h63 : n + m ≤ maxLen) (hbytes : (n + m) * bytes ≤ 140737488355328) (hbase : base ≤ w.heap.size)
    (h : ∀ v' w', w'.ownsRow base e 1 v' (n + m) (xs ++ news) → Below base w w' → wpList P ops Q rest (a.put o.dst v') w') : wpList P ops Q (o :: rest) a w := by
  rcases hsrc with ⟨rfl, rfl, rfl, rfl⟩ | ⟨ad, rfl, _, hl, hcells⟩
  · exact wpList_append_own_none hgd s x t ho base e i 1 ht hi v n xs hs hown hx (h v w (by simpa using hown) (Below.refl _ _))
  · exact wpList_append_own _ hgd s x t ho base e i z 1 bytes ht hi hz hsize hby hzs (by omega) v n xs hs hown ad m c news hx (by omega) hcells h1 h63 hbytes hbase
      (fun v' w' h2 h3 _ => h v' w' h2 ((Below.refl _ w).grown h3 hbase (fun k e' => (own_block_lt hown k e').1)))

theorem src_of_own {w : World} {base e n : Nat} {v : Value} {xs : List Value} (h : w.ownsRow base e 1 v n xs) : ∃ A cap, v = .slice A n cap ∧ Src w A n cap xs := by
  have hl := h.1
  rcases h.2 with ⟨rfl, rfl⟩ | ⟨g, cap, cur, rfl, hb, hh, hnc, hcm, hcs, htk⟩
  · exact ⟨none, 0, rfl, .inl ⟨rfl, rfl, rfl, List.eq_nil_of_length_eq_zero (by omega)⟩⟩
  · refine ⟨_, cap, rfl, .inr ⟨_, rfl, fun _ => (Array.getElem?_eq_some_iff.1 hh).1, by omega, fun j u hu => ?_⟩⟩
    have hj := (List.getElem?_eq_some_iff.1 hu).1
    rw [add0, h.cellAt j (by omega), hu]
theorem own_empty (w : World) (base e : Nat) (hb : base ≤ w.heap.size) : (w.alloc (.cells #[] e)).ownsRow base e 1 (.slice (some ⟨w.heap.size, 0, none⟩) 0 0) 0 [] :=
  ⟨rfl, .inr ⟨w.heap.size, 0, #[], rfl, hb, World.alloc_heap_new w _, Nat.le_refl _, Nat.zero_le _, rfl, rfl⟩⟩
theorem Try.info21 : (Try.prog.info? 21).map (fun i => (i.zero, i.size, i.bytes)) = some (some (.int .i32 0), 1, 4) := by kernel_rfl
end Go.Proofs.Ytphhdkffnboboaa

