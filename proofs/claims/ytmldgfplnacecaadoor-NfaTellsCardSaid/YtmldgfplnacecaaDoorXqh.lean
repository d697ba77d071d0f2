/-
  Contract: virguleref08.A.look of a leaf.
  The definition, part by part. No program.
  Contracts of pair and join, for what lies in the struct; what is asked of an expression.
-/
import Derived.BigRegion
import Derived.Deep.CutRange
import Derived.Deep.RegionHeld3
import Derived.Deep.AppendLies
import Derived.Test.YtmldgfplnacecaaDoorXqg
import Derived.Test.YtmldgfplnacecaaDoorXqe
namespace Go.Proofs.YtmldgfplnacecaaDoor
open Go.RowKit Go.Shelf Go.Lib Go.Great Go.Maps

theorem set_comm (w : World) {p q : Nat} (h : p ≠ q) (i j : Nat) (x y : Value) : (w.setCell ⟨p, i, none⟩ x).setCell ⟨q, j, none⟩ y = (w.setCell ⟨q, j, none⟩ y).setCell ⟨p, i, none⟩ x := by
  unfold World.setCell
  simp only
  congr 1
  apply Array.ext_getElem?
  intro k
  simp only [Array.getElem?_modify]
  by_cases h1 : p = k
  · subst h1
    have h2 : ¬ q = p := fun e => h e.symm
    simp [h2]
  · by_cases h2 : q = k
    · subst h2; simp [h1]
    · simp [h1, h2]
theorem info48 : (Tryd.prog.info? 48).map (fun i => (i.zero, i.size, i.bytes)) = some (some (.agg #[.int .i64 0, .int .i64 0, .slice none 0 0]), 3, 40) := by kernel_rfl
theorem info101 : (Tryd.prog.info? 101).map (·.size) = some 3 := by kernel_rfl
abbrev part0 : Array Value := #[.bool false, .slice none 0 0, .slice none 0 0]
/-- A list of one number. -/
theorem slx_one {b n q : Nat} {w : World} {v1 v2 v5 : Value} {x : Int} (h : Cells w q 3 #[.int .i64 x]) (hx : i64 x) (hn : n ≤ q) (hq : ¬ Vl b v1 v2 v5 q) : SlX w (Xs b v1 v2 v5 n) [x] (.slice (some ⟨q, 0, none⟩) 1 1) :=
  ⟨_, _, rfl, by simp, by unfold maxLen; omega, fun y hy => (by simp at hy; subst hy; exact hx), fun e => (by cases e), fun _ => ⟨q, rfl, ⟨hn, hq⟩, h.lt, fun i y hy => (by
    cases i with
    | zero => simp at hy; subst hy; simpa using h.cell 0
    | succ i => simp at hy)⟩⟩
theorem fin_leaf {wd W4 : World} {b g n cp : Nat} {c0 c3 c4 c6 v1 v2 v5 : Value} {s' : Lk} (s7 : LkAt W4 b c0 c3 c4 c6 s' (.slice (some ⟨g, 0, none⟩) (n + 1) cp) v2 v5) (s8 : Fz (fun k => k = b ∨ v1.ownBlock = some k) wd W4) (hat : v1.ownBlock = some g ∨ g = wd.heap.size + 1) :
    Value.pointer (some ⟨b, 0, none⟩) = .pointer (some ⟨b, 0, none⟩) ∧ ∃ u1, LkAt W4 b c0 c3 c4 c6 s' u1 v2 v5 ∧ LkMv b wd W4 v1 v2 v5 u1 v2 v5 := by
  refine ⟨rfl, _, s7, s8.mono (fun k hk => by rcases hk with e | e; exact .inl e; exact .inr (.inl e)), fun k hk => ?_⟩
  rcases hk with e | e | e | e
  · exact .inl (.inl e)
  · obtain rfl : g = k := by simpa [Value.ownBlock] using e
    rcases hat with e | e
    · exact .inl (.inr (.inl e))
    · exact .inr (by omega)
  · exact .inl (.inr (.inr (.inl e)))
  · exact .inl (.inr (.inr (.inr e)))
/-- Behind the second statement of a leaf: what they lie in. -/
theorem fin_of {w W : World} {b g m cp : Nat} {v1 v2 v5 : Value} (s8 : Fz (fun k => k = b ∨ v2.ownBlock = some k) w W) (hat : v2.ownBlock = some g ∨ g = w.heap.size + 1) : LkMv b w W v1 v2 v5 v1 (.slice (some ⟨g, 0, none⟩) m cp) v5 := by
  refine ⟨s8.mono (fun k hk => by rcases hk with e | e; exact .inl e; exact .inr (.inr (.inl e))), fun k hk => ?_⟩
  rcases hk with e | e | e | e
  · exact .inl (.inl e)
  · exact .inl (.inr (.inl e))
  · obtain rfl : g = k := by simpa [Value.ownBlock] using e
    rcases hat with e | e
    · exact .inl (.inr (.inr (.inl e)))
    · exact .inr (by omega)
  · exact .inl (.inr (.inr (.inr e)))
set_option maxHeartbeats 16000000 in
set_option maxRecDepth 100000 in
theorem look_leaf (k c o : Int) (A : Option Addr) (cap : Nat) (b : Nat) (c0 c3 c4 c6 v1 v2 v5 : Value) (s : Lk) (w : World) (h : LkAt w b c0 c3 c4 c6 s v1 v2 v5) (h9 : k ≠ 9) (hk : i64 k) (hc : i64 c) (ho : i64 o) (hcap : CapOk A cap) (hn : s.lv.length ≤ 1000) (hon : s.of.length ≤ 1000) :
    Calls Tryd.prog 52 #[.pointer (some ⟨b, 0, none⟩), .agg #[.int .i64 k, .int .i64 c, .slice A 0 cap], .int .i64 o] w (LkPost w b c0 c3 c4 c6 v1 v2 v5 ⟨s.lv ++ [.mk k c []], s.of ++ [o], s.pr⟩ ⟨false, [(s.lv.length : Int) + 1], [(s.lv.length : Int) + 1]⟩) := by
  obtain ⟨n, hnn⟩ : ∃ n, s.lv.length = n := ⟨_, rfl⟩
  obtain ⟨m, hmm⟩ : ∃ n, s.of.length = n := ⟨_, rfl⟩
  have hq9 : (k == 9) = false := by simpa using h9
  have hbl := h.cs.lt
  obtain ⟨W2, hW2⟩ : ∃ W, (w.alloc (.cells #[.int .i64 k, .int .i64 c, .slice A 0 cap] 48)).alloc (.cells #[.bool false, .slice none 0 0, .slice none 0 0] 101) = W := ⟨_, rfl⟩
  have b2 : Below w.heap.size w W2 := by rw [← hW2]; exact (below_new _ _).alloc (by simp) _
  have z2 : W2.heap.size = w.heap.size + 1 + 1 := by rw [← hW2]; simp
  have bx : Cells W2 w.heap.size 48 #[.int .i64 k, .int .i64 c, .slice A 0 cap] := by rw [← hW2]; exact ((below_new (w.alloc (.cells #[.int .i64 k, .int .i64 c, .slice A 0 cap] 48)) (.cells #[.bool false, .slice none 0 0, .slice none 0 0] 101)).block _ (by simp)).trans (cells_new _ _ _)
  have rs : Cells W2 (w.heap.size + 1) 101 part0 := by
    rw [← hW2]
    have := cells_new (w.alloc (.cells #[.int .i64 k, .int .i64 c, .slice A 0 cap] 48)) #[.bool false, .slice none 0 0, .slice none 0 0] 101
    rw [World.size_alloc] at this
    exact this
  have a2 := h.mv b2
  obtain ⟨wd, hwd⟩ : ∃ W, W2.drew = W := ⟨_, rfl⟩
  have ad : LkAt wd b c0 c3 c4 c6 s v1 v2 v5 := by rw [← hwd]; exact a2.move (X := fun _ => False) ⟨rfl, rfl, rfl, Nat.le_refl _, fun _ _ _ => rfl⟩ (fun _ hk => hk.elim)
  have xd : Cells wd w.heap.size 48 #[.int .i64 k, .int .i64 c, .slice A 0 cap] := by rw [← hwd]; exact bx
  have rd : Cells wd (w.heap.size + 1) 101 part0 := by rw [← hwd]; exact rs
  have bd : Below w.heap.size w wd := by rw [← hwd]; exact b2.drew
  have zd : wd.heap.size = w.heap.size + 1 + 1 := by rw [← hwd]; exact z2
  have hv1 : ∀ k, v1.ownBlock = some k → k < w.heap.size := fun k e => by obtain ⟨cl', q, _⟩ := h.lo; exact (own_block_lt q k e).2
  have hv2 : ∀ k, v2.ownBlock = some k → k < w.heap.size := fun k e => (own_block_lt h.oo k e).2
  have hkp : Kept wd b v1 v2 v5 (w.heap.size + 1) 101 part0 := ⟨rd, h.fresh (Nat.le_succ _)⟩
  obtain ⟨cl, l1, l2⟩ := ad.lo
  rw [hnn] at l1
  obtain ⟨A1, cp1, rfl⟩ : ∃ A1 cp1, v1 = .slice A1 n cp1 := owns_form1 l1
  have d0 := bx.cell 0
  have d2 := bx.cell 2
  have c1 := ad.cs.cell 1
  have f1 := ad.cs.froz 1
  simp at d0 d2 c1
  obtain ⟨ob, hob⟩ : ∃ ob : Obj, .cells #[.int .i64 0, .int .i64 0, .slice none 0 0] 48 = ob := ⟨_, rfl⟩
  have hown2 : (wd.alloc ob).ownsRow (b + 1) 48 3 (.slice A1 n cp1) n cl := l1.alloc ob
  have hnews : ∀ (t : Nat) u, ([.int .i64 0, .int .i64 0, .slice none 0 0] : List Value)[t]? = some u → (wd.alloc ob).cell? ((⟨wd.heap.size, 0, none⟩ : Addr).add t) = some u := fun t u hu => by
    rw [← hob, add0, World.cell?_alloc_new]
    simpa using hu
  have hone : ∀ u ∈ ([.int .i64 0, .int .i64 0, .slice none 0 0] : List Value), u.oneCell' = true := fun u hu => by
    simp at hu
    rcases hu with rfl | rfl | rfl <;> rfl
  have hsz : b + 1 ≤ (wd.alloc ob).heap.size := by simp; omega
  have hsz2 : (wd.alloc ob).heap.size = wd.heap.size + 1 := by simp
  have hend := fun g cp w3 h1 h2 h3 => ad.leafed (g := g) (cp := cp) (w3 := w3) (ob := ob) (A := A) hnn l1 l2 hk hc hcap h1 h2 h3
  have HE := Lib.hid hend
  have HO := Lib.hid (And.intro hown2 (And.intro hnews (And.intro hone (And.intro hsz hsz2))))
  have H := Lib.hid (And.intro ad (And.intro xd (And.intro rd (And.intro bd (And.intro zd (And.intro hnn (And.intro hmm (And.intro ho (And.intro hv1 (And.intro hv2 hkp))))))))))
  have HC1 := Lib.hid (And.intro c1 f1)
  rw [← hob] at HO HE
  obtain ⟨i48, h48, z48, s48, b48⟩ := info_parts info48
  have I48 := Lib.hid (And.intro h48 (And.intro z48 (And.intro s48 b48)))
  obtain ⟨i3, h3, z3, q3, y3⟩ := info_parts info3
  have I3 := Lib.hid (And.intro h3 (And.intro z3 (And.intro q3 y3)))
  have HWD := Lib.hid hwd
  have HW := Lib.hid hW2
  have HS0 := Lib.hid (show Cells W2.drew w.heap.size 48 #[.int .i64 k, .int .i64 c, .slice A 0 cap] from bx)
  have HSd := Lib.hid xd
  have hn1 : n ≤ 1000 := by omega
  have hm1 : m ≤ 1000 := by omega
  have i1 : (n : Int) < (n : Int) + 1 := by omega
  have i2 : n < n + 1 := by omega
  have hwd1 : b < wd.heap.size := by omega
  rw [hnn]
  clear h l1 l2 hnn hmm hv1 hv2 hkp b2 bx rs h9 a2 ad xd rd bd zd hown2 hnews hone hsz hsz2 hend h48 z48 s48 b48 h3 z3 q3 y3 hob hk hc ho hcap hwd hW2 z2 c1 f1 hon hn
  go_enter Tryd.func52, Tryd.ntmps52
  go_upto_region 4 with fail
  rw [HW.out]
  go_cut [0] from 19 to 29 (fun p wx => p = .pointer (some ⟨b, 0, none⟩) ∧ ∃ u1, LkAt wx b c0 c3 c4 c6 ⟨s.lv ++ [.mk k c []], s.of, s.pr⟩ u1 v2 v5 ∧ LkMv b wd wx (.slice A1 n cp1) v2 v5 u1 v2 v5)
  case first =>
    clear d0 d2
    refine wp_region_noPanic ?_
    refine wp_region_held_drew (S := fun W => Cells W w.heap.size 48 #[.int .i64 k, .int .i64 c, .slice A 0 cap]) (by kernel_rfl) HS0.out (fun hH => ?_)
    rw [HWD.out]
    have hH := HSd.out
    refine wpAnyH_take (i := 0) (oi := { dst := some 19, op := Op.move (Operand.tmp 0), type := 32, pos := "ref.go:32", after := #[], guard := none }) (v := ?_) rfl (by kernel_rfl) (by kernel_rfl) (by kernel_rfl) (fun _ _ _ h => h) (Or.inl ⟨by rfl, ?_⟩) (by exact hH) ?_
    rotate_left
    · intro W hSw
      go_simp
      try with_reducible rfl
    try simp only [Act.put, List.setIfInBounds_toArray, List.set_cons_zero, List.set_cons_succ]
    refine wpAnyH_take (i := 1) (oi := { dst := some 20, op := Op.nilCheck (Operand.tmp 19), type := 0, pos := "ref.go:32", after := #[{ on := 0, ground := Ground.data }], guard := none }) (v := ?_) rfl (by kernel_rfl) (by kernel_rfl) (by kernel_rfl) (fun _ _ _ h => h) (Or.inl ⟨by rfl, ?_⟩) (by exact hH) ?_
    rotate_left
    · intro W hSw
      go_simp
      try with_reducible rfl
    try simp only [Act.put, List.setIfInBounds_toArray, List.set_cons_zero, List.set_cons_succ]
    refine wpAnyH_take (i := 2) (oi := { dst := some 21, op := Op.fieldAddr 39 (Operand.tmp 20) 1, type := 0, pos := "ref.go:32", after := #[{ on := 1, ground := Ground.data }], guard := none }) (v := ?_) rfl (by kernel_rfl) (by kernel_rfl) (by kernel_rfl) (fun _ _ _ h => h) (Or.inl ⟨by rfl, ?_⟩) (by exact hH) ?_
    rotate_left
    · intro W hSw
      go_simp
      try with_reducible rfl
    try simp only [Act.put, List.setIfInBounds_toArray, List.set_cons_zero, List.set_cons_succ]
    refine wpAnyH_take (i := 4) (oi := { dst := some 23, op := Op.load 48 (Operand.tmp 4), type := 48, pos := "ref.go:32", after := #[], guard := none }) (v := ?_) rfl (by kernel_rfl) (by kernel_rfl) (by kernel_rfl) (fun _ _ _ h => h) (Or.inl ⟨by rfl, ?_⟩) (by exact hH) ?_
    rotate_left
    · intro W hSw
      have p0 := hSw.cell 0
      have p1 := hSw.cell 1
      have p2 := hSw.cell 2
      simp at p0 p1 p2
      go_simp
      try with_reducible rfl
    try simp only [Act.put, List.setIfInBounds_toArray, List.set_cons_zero, List.set_cons_succ]
    refine wpAnyH_ready (rs := [3, 6]) (by kernel_rfl) (by simp) ?_
    refine (AllReadyH.cons (o := { dst := some 22, op := Op.load 22 (Operand.tmp 21), type := 22, pos := "ref.go:32", after := #[{ on := 2, ground := Ground.data }], guard := none }) rfl (fun K hK => ?_) (AllReadyH.cons (o := { dst := some 25, op := Op.buildSlice 22 1 #[(0, Operand.const (Value.agg #[Value.int IntKind.i64 0, Value.int IntKind.i64 0, Value.slice none 0 0]))], type := 22, pos := "ref.go:32", after := #[], guard := none }) rfl (fun K hK => ?_) AllReadyH.nil))
    ·
      have pl := HC1.out.1
      go_simp
      refine hK.out _ _ HSd.out (fun hH => ?_)
      clear hK K pl
      try simp only [Act.put, List.setIfInBounds_toArray, List.set_cons_zero, List.set_cons_succ]
      refine wpAnyH_take (i := 5) (oi := { dst := some 24, op := Op.call { callee := Callee.builtin Builtin.len, args := #[Operand.tmp 22], argTypes := #[22] }, type := 3, pos := "ref.go:32", after := #[{ on := 3, ground := Ground.data }], guard := none }) (v := ?_) rfl (by kernel_rfl) (by kernel_rfl) (by kernel_rfl) (fun _ _ _ h => h) (Or.inl ⟨by rfl, ?_⟩) (by exact hH) ?_
      rotate_left
      · intro W hSw
        go_simp
        try with_reducible rfl
      try simp only [Act.put, List.setIfInBounds_toArray, List.set_cons_zero, List.set_cons_succ]
      refine wpAnyH_ready (rs := [6]) (by kernel_rfl) (by simp) ?_
      refine (AllReadyH.cons (o := { dst := some 25, op := Op.buildSlice 22 1 #[(0, Operand.const (Value.agg #[Value.int IntKind.i64 0, Value.int IntKind.i64 0, Value.slice none 0 0]))], type := 22, pos := "ref.go:32", after := #[], guard := none }) rfl (fun K hK => ?_) AllReadyH.nil)
      go_simp
      have HS2 := Lib.hid (HSd.out.on (below_new _ (.cells #[.int .i64 0, .int .i64 0, .slice none 0 0] 48)))
      refine hK.out _ _ HS2.out (fun hH => ?_)
      clear hK K
      try simp only [Act.put, List.setIfInBounds_toArray, List.set_cons_zero, List.set_cons_succ]
      refine wpAnyH_ready (rs := [7]) (by kernel_rfl) (by simp) ?_
      refine (AllReadyH.cons (o := { dst := some 26, op := Op.call { callee := Callee.builtin Builtin.append, args := #[Operand.tmp 22, Operand.tmp 25], argTypes := #[22, 22] }, type := 22, pos := "ref.go:32", after := #[{ on := 3, ground := Ground.data }, { on := 6, ground := Ground.data }, { on := 0, ground := Ground.phase }, { on := 1, ground := Ground.phase }, { on := 2, ground := Ground.phase }, { on := 3, ground := Ground.phase }, { on := 4, ground := Ground.phase }, { on := 5, ground := Ground.phase }, { on := 6, ground := Ground.phase }], guard := none }) rfl (fun K hK => ?_) AllReadyH.nil)
      refine step_append_lies _ rfl (.tmp 22) (.tmp 25) 22 rfl (b + 1) 48 i48 (.agg #[.int .i64 0, .int .i64 0, .slice none 0 0]) 3 40 Tryd.underlying22 I48.out.1 I48.out.2.1 I48.out.2.2.1 I48.out.2.2.2 (by decide) (by decide) (.slice A1 n cp1) n cl rfl HO.out.1 ⟨wd.heap.size, 0, none⟩ 1 1 [.int .i64 0, .int .i64 0, .slice none 0 0] rfl rfl HO.out.2.1 HO.out.2.2.1 (by decide) (by unfold maxLen; omega) (by omega) HO.out.2.2.2.1 (wd.heap.size + 1) HO.out.2.2.2.2 ?_
      intro g cp w3 ho3 hg3 hat3 hlt3
      obtain ⟨s1, ⟨cur, s2, s3, s4, s5⟩, s6, s7, s8⟩ := HE.out g cp w3 ho3 hg3 hat3
      have hgw : g ≠ w.heap.size := by
        rcases hat3 with e | e
        · have := H.out.2.2.2.2.2.2.2.2.1 g e; omega
        · have := H.out.2.2.2.2.1; omega
      have hgw2 : g ≠ w.heap.size + 1 := by
        rcases hat3 with e | e
        · have := H.out.2.2.2.2.2.2.2.2.1 g e; omega
        · have := H.out.2.2.2.2.1; omega
      have x3 : Cells w3 w.heap.size 48 #[.int .i64 k, .int .i64 c, .slice A 0 cap] := (hg3.block _ HS2.out.lt (fun e => by have := H.out.2.2.2.2.2.2.2.2.1 _ e.symm; omega)).trans HS2.out
      have hbw : b ≠ w.heap.size := by omega
      have HFIN := Lib.hid (fin_leaf s7 s8 hat3)
      have HG := Lib.hid (And.intro s1 (And.intro s2 (And.intro s3 (And.intro s4 s5))))
      have HX := Lib.hid x3
      clear s1 s2 s3 s4 s5 s7 s8 ho3 hg3 hat3 x3
      refine hK.out _ _ HX.out (fun hH => ?_)
      clear hK K
      try simp only [Act.put, List.setIfInBounds_toArray, List.set_cons_zero, List.set_cons_succ]
      refine wpAnyH_take (i := 8) (oi := { dst := some 27, op := Op.indexAddr 22 (Operand.tmp 26) (Operand.tmp 24), type := 0, pos := "ref.go:32", after := #[{ on := 7, ground := Ground.data }, { on := 5, ground := Ground.data }, { on := 0, ground := Ground.phase }, { on := 1, ground := Ground.phase }, { on := 2, ground := Ground.phase }, { on := 3, ground := Ground.phase }, { on := 4, ground := Ground.phase }, { on := 5, ground := Ground.phase }, { on := 6, ground := Ground.phase }, { on := 7, ground := Ground.phase }, { on := 12, ground := Ground.gcOnly Departure.appendInPlace }], guard := none }) (v := ?_) rfl (by kernel_rfl) (by kernel_rfl) (by kernel_rfl) (fun _ _ _ h => h) (Or.inl ⟨by rfl, ?_⟩) (by exact hH) ?_
      rotate_left
      · intro W hSw
        go_simp
        try with_reducible rfl
      try simp only [Act.put, List.setIfInBounds_toArray, List.set_cons_zero, List.set_cons_succ]
      refine wpAnyH_take (i := 10) (oi := { dst := some 28, op := Op.nilCheck (Operand.tmp 19), type := 0, pos := "ref.go:32", after := #[{ on := 0, ground := Ground.data }, { on := 0, ground := Ground.phase }, { on := 1, ground := Ground.phase }, { on := 2, ground := Ground.phase }, { on := 3, ground := Ground.phase }, { on := 4, ground := Ground.phase }, { on := 5, ground := Ground.phase }, { on := 6, ground := Ground.phase }, { on := 7, ground := Ground.phase }, { on := 8, ground := Ground.textOnly Departure.appendInPlace }, { on := 9, ground := Ground.textOnly Departure.appendInPlace }], guard := none }) (v := ?_) rfl (by kernel_rfl) (by kernel_rfl) (by kernel_rfl) (fun _ _ _ h => h) (Or.inl ⟨by rfl, ?_⟩) (by exact hH) ?_
      rotate_left
      · intro W hSw
        go_simp
        try with_reducible rfl
      try simp only [Act.put, List.setIfInBounds_toArray, List.set_cons_zero, List.set_cons_succ]
      refine wpAnyH_take (i := 11) (oi := { dst := some 29, op := Op.fieldAddr 39 (Operand.tmp 28) 1, type := 0, pos := "ref.go:32", after := #[{ on := 10, ground := Ground.data }, { on := 0, ground := Ground.phase }, { on := 1, ground := Ground.phase }, { on := 2, ground := Ground.phase }, { on := 3, ground := Ground.phase }, { on := 4, ground := Ground.phase }, { on := 5, ground := Ground.phase }, { on := 6, ground := Ground.phase }, { on := 7, ground := Ground.phase }, { on := 8, ground := Ground.textOnly Departure.appendInPlace }, { on := 9, ground := Ground.textOnly Departure.appendInPlace }], guard := none }) (v := ?_) rfl (by kernel_rfl) (by kernel_rfl) (by kernel_rfl) (fun _ _ _ h => h) (Or.inl ⟨by rfl, ?_⟩) (by exact hH) ?_
      rotate_left
      · intro W hSw
        go_simp
        try with_reducible rfl
      try simp only [Act.put, List.setIfInBounds_toArray, List.set_cons_zero, List.set_cons_succ]
      refine wpAnyH_ready (rs := [9, 12]) (by kernel_rfl) (by simp) ?_
      refine (AllReadyH.cons (o := { dst := none, op := Op.store 48 (Operand.tmp 27) (Operand.tmp 23), type := 0, pos := "ref.go:32", after := #[{ on := 8, ground := Ground.data }, { on := 4, ground := Ground.data }, { on := 7, ground := Ground.chain }, { on := 0, ground := Ground.phase }, { on := 1, ground := Ground.phase }, { on := 2, ground := Ground.phase }, { on := 3, ground := Ground.phase }, { on := 4, ground := Ground.phase }, { on := 5, ground := Ground.phase }, { on := 6, ground := Ground.phase }, { on := 7, ground := Ground.phase }, { on := 12, ground := Ground.gcOnly Departure.appendInPlace }], guard := none }) rfl (fun K hK => ?_) (AllReadyH.cons (o := { dst := none, op := Op.store 22 (Operand.tmp 29) (Operand.tmp 26), type := 0, pos := "ref.go:32", after := #[{ on := 11, ground := Ground.data }, { on := 7, ground := Ground.data }, { on := 7, ground := Ground.chain }, { on := 9, ground := Ground.textOnly Departure.appendInPlace }, { on := 0, ground := Ground.phase }, { on := 1, ground := Ground.phase }, { on := 2, ground := Ground.phase }, { on := 3, ground := Ground.phase }, { on := 4, ground := Ground.phase }, { on := 5, ground := Ground.phase }, { on := 6, ground := Ground.phase }, { on := 7, ground := Ground.phase }, { on := 8, ground := Ground.textOnly Departure.appendInPlace }, { on := 9, ground := Ground.textOnly Departure.appendInPlace }], guard := none }) rfl (fun K hK => ?_) AllReadyH.nil))
      ·
        have cg := HG.out.2.1
        have e3 := (cg.cell (n * 3)).trans HG.out.2.2.1
        have e4 := (cg.cell (n * 3 + 1)).trans HG.out.2.2.2.1
        have e5 := (cg.cell (n * 3 + 2)).trans HG.out.2.2.2.2
        have g3 := cg.froz (n * 3)
        have g4 := cg.froz (n * 3 + 1)
        have g5 := cg.froz (n * 3 + 2)
        have zg := cg.lt
        go_simp
        have HS4 := Lib.hid (show Cells (((w3.setCell ⟨g, n * 3, none⟩ (.int .i64 k)).setCell ⟨g, n * 3 + 1, none⟩ (.int .i64 c)).setCell ⟨g, n * 3 + 2, none⟩ (.slice A 0 cap)) w.heap.size 48 #[.int .i64 k, .int .i64 c, .slice A 0 cap] from (Below.heap_setCell _ _ _ _ (by first | exact hgw | exact hgw.symm)).trans ((Below.heap_setCell _ _ _ _ (by first | exact hgw | exact hgw.symm)).trans ((Below.heap_setCell _ _ _ _ (by first | exact hgw | exact hgw.symm)).trans HX.out)))
        refine hK.out _ _ HS4.out (fun hH => ?_)
        clear hK K e3 e4 e5 g3 g4 g5 zg cg
        try simp only [Act.put, List.setIfInBounds_toArray, List.set_cons_zero, List.set_cons_succ]
        refine wpAnyH_ready (rs := [12]) (by kernel_rfl) (by simp) ?_
        refine (AllReadyH.cons (o := { dst := none, op := Op.store 22 (Operand.tmp 29) (Operand.tmp 26), type := 0, pos := "ref.go:32", after := #[{ on := 11, ground := Ground.data }, { on := 7, ground := Ground.data }, { on := 7, ground := Ground.chain }, { on := 9, ground := Ground.textOnly Departure.appendInPlace }, { on := 0, ground := Ground.phase }, { on := 1, ground := Ground.phase }, { on := 2, ground := Ground.phase }, { on := 3, ground := Ground.phase }, { on := 4, ground := Ground.phase }, { on := 5, ground := Ground.phase }, { on := 6, ground := Ground.phase }, { on := 7, ground := Ground.phase }, { on := 8, ground := Ground.textOnly Departure.appendInPlace }, { on := 9, ground := Ground.textOnly Departure.appendInPlace }], guard := none }) rfl (fun K hK => ?_) AllReadyH.nil)
        have cb := (show Cells (((w3.setCell ⟨g, n * 3, none⟩ (.int .i64 k)).setCell ⟨g, n * 3 + 1, none⟩ (.int .i64 c)).setCell ⟨g, n * 3 + 2, none⟩ (.slice A 0 cap)) b 39 #[c0, .slice A1 n cp1, v2, c3, c4, v5, c6] from (Below.heap_setCell _ _ _ _ (by first | exact s6 | exact s6.symm)).trans ((Below.heap_setCell _ _ _ _ (by first | exact s6 | exact s6.symm)).trans ((Below.heap_setCell _ _ _ _ (by first | exact s6 | exact s6.symm)).trans HG.out.1)))
        have e3 := cb.cell 1
        simp at e3
        have g3 := cb.froz 1
        have zg := cb.lt
        go_simp
        have HS5 := Lib.hid (show Cells ((((w3.setCell ⟨g, n * 3, none⟩ (.int .i64 k)).setCell ⟨g, n * 3 + 1, none⟩ (.int .i64 c)).setCell ⟨g, n * 3 + 2, none⟩ (.slice A 0 cap)).setCell ⟨b, 1, none⟩ (.slice (some ⟨g, 0, none⟩) (n + 1) cp)) w.heap.size 48 #[.int .i64 k, .int .i64 c, .slice A 0 cap] from (Below.heap_setCell _ _ _ _ (by first | exact hbw | exact hbw.symm)).trans HS4.out)
        refine hK.out _ _ HS5.out (fun hH => ?_)
        clear hK K e3 g3 zg cb
        try simp only [Act.put, List.setIfInBounds_toArray, List.set_cons_zero, List.set_cons_succ]
        refine wpAnyH_done (by kernel_rfl) ?_ _
        refine NoPanic.normal ?_
        go_wp2_with fail
        go_meet
        exact ⟨rfl, HFIN.out.2⟩
      ·
        have cb := HG.out.1
        have e3 := cb.cell 1
        simp at e3
        have g3 := cb.froz 1
        have zg := cb.lt
        go_simp
        have HS6 := Lib.hid (show Cells (w3.setCell ⟨b, 1, none⟩ (.slice (some ⟨g, 0, none⟩) (n + 1) cp)) w.heap.size 48 #[.int .i64 k, .int .i64 c, .slice A 0 cap] from (Below.heap_setCell _ _ _ _ (by first | exact hbw | exact hbw.symm)).trans HX.out)
        refine hK.out _ _ HS6.out (fun hH => ?_)
        clear hK K e3 g3 zg cb
        try simp only [Act.put, List.setIfInBounds_toArray, List.set_cons_zero, List.set_cons_succ]
        refine wpAnyH_ready (rs := [9]) (by kernel_rfl) (by simp) ?_
        refine (AllReadyH.cons (o := { dst := none, op := Op.store 48 (Operand.tmp 27) (Operand.tmp 23), type := 0, pos := "ref.go:32", after := #[{ on := 8, ground := Ground.data }, { on := 4, ground := Ground.data }, { on := 7, ground := Ground.chain }, { on := 0, ground := Ground.phase }, { on := 1, ground := Ground.phase }, { on := 2, ground := Ground.phase }, { on := 3, ground := Ground.phase }, { on := 4, ground := Ground.phase }, { on := 5, ground := Ground.phase }, { on := 6, ground := Ground.phase }, { on := 7, ground := Ground.phase }, { on := 12, ground := Ground.gcOnly Departure.appendInPlace }], guard := none }) rfl (fun K hK => ?_) AllReadyH.nil)
        have cg := (show Cells (w3.setCell ⟨b, 1, none⟩ (.slice (some ⟨g, 0, none⟩) (n + 1) cp)) g 48 cur from (Below.heap_setCell _ _ _ _ (by first | exact s6 | exact s6.symm)).trans HG.out.2.1)
        have e3 := (cg.cell (n * 3)).trans HG.out.2.2.1
        have e4 := (cg.cell (n * 3 + 1)).trans HG.out.2.2.2.1
        have e5 := (cg.cell (n * 3 + 2)).trans HG.out.2.2.2.2
        have g3 := cg.froz (n * 3)
        have g4 := cg.froz (n * 3 + 1)
        have g5 := cg.froz (n * 3 + 2)
        have zg := cg.lt
        go_simp
        have HS7 := Lib.hid (show Cells ((((w3.setCell ⟨b, 1, none⟩ (.slice (some ⟨g, 0, none⟩) (n + 1) cp)).setCell ⟨g, n * 3, none⟩ (.int .i64 k)).setCell ⟨g, n * 3 + 1, none⟩ (.int .i64 c)).setCell ⟨g, n * 3 + 2, none⟩ (.slice A 0 cap)) w.heap.size 48 #[.int .i64 k, .int .i64 c, .slice A 0 cap] from (Below.heap_setCell _ _ _ _ (by first | exact hgw | exact hgw.symm)).trans ((Below.heap_setCell _ _ _ _ (by first | exact hgw | exact hgw.symm)).trans ((Below.heap_setCell _ _ _ _ (by first | exact hgw | exact hgw.symm)).trans HS6.out)))
        refine hK.out _ _ HS7.out (fun hH => ?_)
        clear hK K e3 e4 e5 g3 g4 g5 zg cg
        try simp only [Act.put, List.setIfInBounds_toArray, List.set_cons_zero, List.set_cons_succ]
        rw [set_comm w3 (fun e => s6 e.symm), set_comm _ (fun e => s6 e.symm), set_comm _ (fun e => s6 e.symm)]
        refine wpAnyH_done (by kernel_rfl) ?_ _
        refine NoPanic.normal ?_
        go_wp2_with fail
        go_meet
        exact ⟨rfl, HFIN.out.2⟩
    ·
      go_simp
      have HS8 := Lib.hid (HSd.out.on (below_new _ (.cells #[.int .i64 0, .int .i64 0, .slice none 0 0] 48)))
      refine hK.out _ _ HS8.out (fun hH => ?_)
      clear hK K
      try simp only [Act.put, List.setIfInBounds_toArray, List.set_cons_zero, List.set_cons_succ]
      refine wpAnyH_ready (rs := [3]) (by kernel_rfl) (by simp) ?_
      refine (AllReadyH.cons (o := { dst := some 22, op := Op.load 22 (Operand.tmp 21), type := 22, pos := "ref.go:32", after := #[{ on := 2, ground := Ground.data }], guard := none }) rfl (fun K hK => ?_) AllReadyH.nil)
      have pl : (wd.alloc (.cells #[.int .i64 0, .int .i64 0, .slice none 0 0] 48)).cell? ⟨b, 1, none⟩ = some (.slice A1 n cp1) := (World.cell?_of_block (Below.heap_alloc _ _ _ hwd1)).trans HC1.out.1
      go_simp
      refine hK.out _ _ HS8.out (fun hH => ?_)
      clear hK K pl
      try simp only [Act.put, List.setIfInBounds_toArray, List.set_cons_zero, List.set_cons_succ]
      refine wpAnyH_take (i := 5) (oi := { dst := some 24, op := Op.call { callee := Callee.builtin Builtin.len, args := #[Operand.tmp 22], argTypes := #[22] }, type := 3, pos := "ref.go:32", after := #[{ on := 3, ground := Ground.data }], guard := none }) (v := ?_) rfl (by kernel_rfl) (by kernel_rfl) (by kernel_rfl) (fun _ _ _ h => h) (Or.inl ⟨by rfl, ?_⟩) (by exact hH) ?_
      rotate_left
      · intro W hSw
        go_simp
        try with_reducible rfl
      try simp only [Act.put, List.setIfInBounds_toArray, List.set_cons_zero, List.set_cons_succ]
      refine wpAnyH_ready (rs := [7]) (by kernel_rfl) (by simp) ?_
      refine (AllReadyH.cons (o := { dst := some 26, op := Op.call { callee := Callee.builtin Builtin.append, args := #[Operand.tmp 22, Operand.tmp 25], argTypes := #[22, 22] }, type := 22, pos := "ref.go:32", after := #[{ on := 3, ground := Ground.data }, { on := 6, ground := Ground.data }, { on := 0, ground := Ground.phase }, { on := 1, ground := Ground.phase }, { on := 2, ground := Ground.phase }, { on := 3, ground := Ground.phase }, { on := 4, ground := Ground.phase }, { on := 5, ground := Ground.phase }, { on := 6, ground := Ground.phase }], guard := none }) rfl (fun K hK => ?_) AllReadyH.nil)
      refine step_append_lies _ rfl (.tmp 22) (.tmp 25) 22 rfl (b + 1) 48 i48 (.agg #[.int .i64 0, .int .i64 0, .slice none 0 0]) 3 40 Tryd.underlying22 I48.out.1 I48.out.2.1 I48.out.2.2.1 I48.out.2.2.2 (by decide) (by decide) (.slice A1 n cp1) n cl rfl HO.out.1 ⟨wd.heap.size, 0, none⟩ 1 1 [.int .i64 0, .int .i64 0, .slice none 0 0] rfl rfl HO.out.2.1 HO.out.2.2.1 (by decide) (by unfold maxLen; omega) (by omega) HO.out.2.2.2.1 (wd.heap.size + 1) HO.out.2.2.2.2 ?_
      intro g cp w3 ho3 hg3 hat3 hlt3
      obtain ⟨s1, ⟨cur, s2, s3, s4, s5⟩, s6, s7, s8⟩ := HE.out g cp w3 ho3 hg3 hat3
      have hgw : g ≠ w.heap.size := by
        rcases hat3 with e | e
        · have := H.out.2.2.2.2.2.2.2.2.1 g e; omega
        · have := H.out.2.2.2.2.1; omega
      have hgw2 : g ≠ w.heap.size + 1 := by
        rcases hat3 with e | e
        · have := H.out.2.2.2.2.2.2.2.2.1 g e; omega
        · have := H.out.2.2.2.2.1; omega
      have x3 : Cells w3 w.heap.size 48 #[.int .i64 k, .int .i64 c, .slice A 0 cap] := (hg3.block _ HS8.out.lt (fun e => by have := H.out.2.2.2.2.2.2.2.2.1 _ e.symm; omega)).trans HS8.out
      have hbw : b ≠ w.heap.size := by omega
      have HFIN := Lib.hid (fin_leaf s7 s8 hat3)
      have HG := Lib.hid (And.intro s1 (And.intro s2 (And.intro s3 (And.intro s4 s5))))
      have HX := Lib.hid x3
      clear s1 s2 s3 s4 s5 s7 s8 ho3 hg3 hat3 x3
      refine hK.out _ _ HX.out (fun hH => ?_)
      clear hK K
      try simp only [Act.put, List.setIfInBounds_toArray, List.set_cons_zero, List.set_cons_succ]
      refine wpAnyH_take (i := 8) (oi := { dst := some 27, op := Op.indexAddr 22 (Operand.tmp 26) (Operand.tmp 24), type := 0, pos := "ref.go:32", after := #[{ on := 7, ground := Ground.data }, { on := 5, ground := Ground.data }, { on := 0, ground := Ground.phase }, { on := 1, ground := Ground.phase }, { on := 2, ground := Ground.phase }, { on := 3, ground := Ground.phase }, { on := 4, ground := Ground.phase }, { on := 5, ground := Ground.phase }, { on := 6, ground := Ground.phase }, { on := 7, ground := Ground.phase }, { on := 12, ground := Ground.gcOnly Departure.appendInPlace }], guard := none }) (v := ?_) rfl (by kernel_rfl) (by kernel_rfl) (by kernel_rfl) (fun _ _ _ h => h) (Or.inl ⟨by rfl, ?_⟩) (by exact hH) ?_
      rotate_left
      · intro W hSw
        go_simp
        try with_reducible rfl
      try simp only [Act.put, List.setIfInBounds_toArray, List.set_cons_zero, List.set_cons_succ]
      refine wpAnyH_take (i := 10) (oi := { dst := some 28, op := Op.nilCheck (Operand.tmp 19), type := 0, pos := "ref.go:32", after := #[{ on := 0, ground := Ground.data }, { on := 0, ground := Ground.phase }, { on := 1, ground := Ground.phase }, { on := 2, ground := Ground.phase }, { on := 3, ground := Ground.phase }, { on := 4, ground := Ground.phase }, { on := 5, ground := Ground.phase }, { on := 6, ground := Ground.phase }, { on := 7, ground := Ground.phase }, { on := 8, ground := Ground.textOnly Departure.appendInPlace }, { on := 9, ground := Ground.textOnly Departure.appendInPlace }], guard := none }) (v := ?_) rfl (by kernel_rfl) (by kernel_rfl) (by kernel_rfl) (fun _ _ _ h => h) (Or.inl ⟨by rfl, ?_⟩) (by exact hH) ?_
      rotate_left
      · intro W hSw
        go_simp
        try with_reducible rfl
      try simp only [Act.put, List.setIfInBounds_toArray, List.set_cons_zero, List.set_cons_succ]
      refine wpAnyH_take (i := 11) (oi := { dst := some 29, op := Op.fieldAddr 39 (Operand.tmp 28) 1, type := 0, pos := "ref.go:32", after := #[{ on := 10, ground := Ground.data }, { on := 0, ground := Ground.phase }, { on := 1, ground := Ground.phase }, { on := 2, ground := Ground.phase }, { on := 3, ground := Ground.phase }, { on := 4, ground := Ground.phase }, { on := 5, ground := Ground.phase }, { on := 6, ground := Ground.phase }, { on := 7, ground := Ground.phase }, { on := 8, ground := Ground.textOnly Departure.appendInPlace }, { on := 9, ground := Ground.textOnly Departure.appendInPlace }], guard := none }) (v := ?_) rfl (by kernel_rfl) (by kernel_rfl) (by kernel_rfl) (fun _ _ _ h => h) (Or.inl ⟨by rfl, ?_⟩) (by exact hH) ?_
      rotate_left
      · intro W hSw
        go_simp
        try with_reducible rfl
      try simp only [Act.put, List.setIfInBounds_toArray, List.set_cons_zero, List.set_cons_succ]
      refine wpAnyH_ready (rs := [9, 12]) (by kernel_rfl) (by simp) ?_
      refine (AllReadyH.cons (o := { dst := none, op := Op.store 48 (Operand.tmp 27) (Operand.tmp 23), type := 0, pos := "ref.go:32", after := #[{ on := 8, ground := Ground.data }, { on := 4, ground := Ground.data }, { on := 7, ground := Ground.chain }, { on := 0, ground := Ground.phase }, { on := 1, ground := Ground.phase }, { on := 2, ground := Ground.phase }, { on := 3, ground := Ground.phase }, { on := 4, ground := Ground.phase }, { on := 5, ground := Ground.phase }, { on := 6, ground := Ground.phase }, { on := 7, ground := Ground.phase }, { on := 12, ground := Ground.gcOnly Departure.appendInPlace }], guard := none }) rfl (fun K hK => ?_) (AllReadyH.cons (o := { dst := none, op := Op.store 22 (Operand.tmp 29) (Operand.tmp 26), type := 0, pos := "ref.go:32", after := #[{ on := 11, ground := Ground.data }, { on := 7, ground := Ground.data }, { on := 7, ground := Ground.chain }, { on := 9, ground := Ground.textOnly Departure.appendInPlace }, { on := 0, ground := Ground.phase }, { on := 1, ground := Ground.phase }, { on := 2, ground := Ground.phase }, { on := 3, ground := Ground.phase }, { on := 4, ground := Ground.phase }, { on := 5, ground := Ground.phase }, { on := 6, ground := Ground.phase }, { on := 7, ground := Ground.phase }, { on := 8, ground := Ground.textOnly Departure.appendInPlace }, { on := 9, ground := Ground.textOnly Departure.appendInPlace }], guard := none }) rfl (fun K hK => ?_) AllReadyH.nil))
      ·
        have cg := HG.out.2.1
        have e3 := (cg.cell (n * 3)).trans HG.out.2.2.1
        have e4 := (cg.cell (n * 3 + 1)).trans HG.out.2.2.2.1
        have e5 := (cg.cell (n * 3 + 2)).trans HG.out.2.2.2.2
        have g3 := cg.froz (n * 3)
        have g4 := cg.froz (n * 3 + 1)
        have g5 := cg.froz (n * 3 + 2)
        have zg := cg.lt
        go_simp
        have HS11 := Lib.hid (show Cells (((w3.setCell ⟨g, n * 3, none⟩ (.int .i64 k)).setCell ⟨g, n * 3 + 1, none⟩ (.int .i64 c)).setCell ⟨g, n * 3 + 2, none⟩ (.slice A 0 cap)) w.heap.size 48 #[.int .i64 k, .int .i64 c, .slice A 0 cap] from (Below.heap_setCell _ _ _ _ (by first | exact hgw | exact hgw.symm)).trans ((Below.heap_setCell _ _ _ _ (by first | exact hgw | exact hgw.symm)).trans ((Below.heap_setCell _ _ _ _ (by first | exact hgw | exact hgw.symm)).trans HX.out)))
        refine hK.out _ _ HS11.out (fun hH => ?_)
        clear hK K e3 e4 e5 g3 g4 g5 zg cg
        try simp only [Act.put, List.setIfInBounds_toArray, List.set_cons_zero, List.set_cons_succ]
        refine wpAnyH_ready (rs := [12]) (by kernel_rfl) (by simp) ?_
        refine (AllReadyH.cons (o := { dst := none, op := Op.store 22 (Operand.tmp 29) (Operand.tmp 26), type := 0, pos := "ref.go:32", after := #[{ on := 11, ground := Ground.data }, { on := 7, ground := Ground.data }, { on := 7, ground := Ground.chain }, { on := 9, ground := Ground.textOnly Departure.appendInPlace }, { on := 0, ground := Ground.phase }, { on := 1, ground := Ground.phase }, { on := 2, ground := Ground.phase }, { on := 3, ground := Ground.phase }, { on := 4, ground := Ground.phase }, { on := 5, ground := Ground.phase }, { on := 6, ground := Ground.phase }, { on := 7, ground := Ground.phase }, { on := 8, ground := Ground.textOnly Departure.appendInPlace }, { on := 9, ground := Ground.textOnly Departure.appendInPlace }], guard := none }) rfl (fun K hK => ?_) AllReadyH.nil)
        have cb := (show Cells (((w3.setCell ⟨g, n * 3, none⟩ (.int .i64 k)).setCell ⟨g, n * 3 + 1, none⟩ (.int .i64 c)).setCell ⟨g, n * 3 + 2, none⟩ (.slice A 0 cap)) b 39 #[c0, .slice A1 n cp1, v2, c3, c4, v5, c6] from (Below.heap_setCell _ _ _ _ (by first | exact s6 | exact s6.symm)).trans ((Below.heap_setCell _ _ _ _ (by first | exact s6 | exact s6.symm)).trans ((Below.heap_setCell _ _ _ _ (by first | exact s6 | exact s6.symm)).trans HG.out.1)))
        have e3 := cb.cell 1
        simp at e3
        have g3 := cb.froz 1
        have zg := cb.lt
        go_simp
        have HS12 := Lib.hid (show Cells ((((w3.setCell ⟨g, n * 3, none⟩ (.int .i64 k)).setCell ⟨g, n * 3 + 1, none⟩ (.int .i64 c)).setCell ⟨g, n * 3 + 2, none⟩ (.slice A 0 cap)).setCell ⟨b, 1, none⟩ (.slice (some ⟨g, 0, none⟩) (n + 1) cp)) w.heap.size 48 #[.int .i64 k, .int .i64 c, .slice A 0 cap] from (Below.heap_setCell _ _ _ _ (by first | exact hbw | exact hbw.symm)).trans HS11.out)
        refine hK.out _ _ HS12.out (fun hH => ?_)
        clear hK K e3 g3 zg cb
        try simp only [Act.put, List.setIfInBounds_toArray, List.set_cons_zero, List.set_cons_succ]
        refine wpAnyH_done (by kernel_rfl) ?_ _
        refine NoPanic.normal ?_
        go_wp2_with fail
        go_meet
        exact ⟨rfl, HFIN.out.2⟩
      ·
        have cb := HG.out.1
        have e3 := cb.cell 1
        simp at e3
        have g3 := cb.froz 1
        have zg := cb.lt
        go_simp
        have HS13 := Lib.hid (show Cells (w3.setCell ⟨b, 1, none⟩ (.slice (some ⟨g, 0, none⟩) (n + 1) cp)) w.heap.size 48 #[.int .i64 k, .int .i64 c, .slice A 0 cap] from (Below.heap_setCell _ _ _ _ (by first | exact hbw | exact hbw.symm)).trans HX.out)
        refine hK.out _ _ HS13.out (fun hH => ?_)
        clear hK K e3 g3 zg cb
        try simp only [Act.put, List.setIfInBounds_toArray, List.set_cons_zero, List.set_cons_succ]
        refine wpAnyH_ready (rs := [9]) (by kernel_rfl) (by simp) ?_
        refine (AllReadyH.cons (o := { dst := none, op := Op.store 48 (Operand.tmp 27) (Operand.tmp 23), type := 0, pos := "ref.go:32", after := #[{ on := 8, ground := Ground.data }, { on := 4, ground := Ground.data }, { on := 7, ground := Ground.chain }, { on := 0, ground := Ground.phase }, { on := 1, ground := Ground.phase }, { on := 2, ground := Ground.phase }, { on := 3, ground := Ground.phase }, { on := 4, ground := Ground.phase }, { on := 5, ground := Ground.phase }, { on := 6, ground := Ground.phase }, { on := 7, ground := Ground.phase }, { on := 12, ground := Ground.gcOnly Departure.appendInPlace }], guard := none }) rfl (fun K hK => ?_) AllReadyH.nil)
        have cg := (show Cells (w3.setCell ⟨b, 1, none⟩ (.slice (some ⟨g, 0, none⟩) (n + 1) cp)) g 48 cur from (Below.heap_setCell _ _ _ _ (by first | exact s6 | exact s6.symm)).trans HG.out.2.1)
        have e3 := (cg.cell (n * 3)).trans HG.out.2.2.1
        have e4 := (cg.cell (n * 3 + 1)).trans HG.out.2.2.2.1
        have e5 := (cg.cell (n * 3 + 2)).trans HG.out.2.2.2.2
        have g3 := cg.froz (n * 3)
        have g4 := cg.froz (n * 3 + 1)
        have g5 := cg.froz (n * 3 + 2)
        have zg := cg.lt
        go_simp
        have HS14 := Lib.hid (show Cells ((((w3.setCell ⟨b, 1, none⟩ (.slice (some ⟨g, 0, none⟩) (n + 1) cp)).setCell ⟨g, n * 3, none⟩ (.int .i64 k)).setCell ⟨g, n * 3 + 1, none⟩ (.int .i64 c)).setCell ⟨g, n * 3 + 2, none⟩ (.slice A 0 cap)) w.heap.size 48 #[.int .i64 k, .int .i64 c, .slice A 0 cap] from (Below.heap_setCell _ _ _ _ (by first | exact hgw | exact hgw.symm)).trans ((Below.heap_setCell _ _ _ _ (by first | exact hgw | exact hgw.symm)).trans ((Below.heap_setCell _ _ _ _ (by first | exact hgw | exact hgw.symm)).trans HS13.out)))
        refine hK.out _ _ HS14.out (fun hH => ?_)
        clear hK K e3 e4 e5 g3 g4 g5 zg cg
        try simp only [Act.put, List.setIfInBounds_toArray, List.set_cons_zero, List.set_cons_succ]
        rw [set_comm w3 (fun e => s6 e.symm), set_comm _ (fun e => s6 e.symm), set_comm _ (fun e => s6 e.symm)]
        refine wpAnyH_done (by kernel_rfl) ?_ _
        refine NoPanic.normal ?_
        go_wp2_with fail
        go_meet
        exact ⟨rfl, HFIN.out.2⟩
  case rest =>
    obtain ⟨rfl, u1, ha, hm⟩ := hcut
    have c2 : wc.cell? ⟨b, 2, none⟩ = some v2 := ha.cs.cell 2
    have hkc := H.out.2.2.2.2.2.2.2.2.2.2.mv hm
    obtain ⟨ob4, hob4⟩ : ∃ ob : Obj, .cells #[.int .i64 o] 3 = ob := ⟨_, rfl⟩
    have hown4 : (wc.alloc ob4).ownsRow (b + 1) 3 1 v2 m (intsC s.of) := by
      have := ha.oo.alloc ob4
      rw [H.out.2.2.2.2.2.2.1] at this
      exact this
    have hnw4 : (wc.alloc (.cells #[.int .i64 o] 3)).cell? ⟨wc.heap.size, 0, none⟩ = some (.int .i64 o) := by rw [World.cell?_alloc_new]; rfl
    rw [← hob4] at hown4
    have hw4 : b < wc.heap.size := ha.cs.lt
    have H4 := Lib.hid (And.intro ha (And.intro hm (And.intro hkc (And.intro hown4 hnw4))))
    clear ha hm hkc hown4 hnw4 hob4 d0 d2
    go_wp2_with (first
      | (at_builtin
         refine wpList_append_one rfl (.tmp 34) (.tmp 36) 23 rfl (b + 1) 3 i3 (.int .i64 0) 8 Tryd.underlying23 I3.out.1 I3.out.2.1 I3.out.2.2.1 I3.out.2.2.2 (by decide) rfl v2 m (intsC s.of) rfl H4.out.2.2.2.1 ⟨wc.heap.size, 0, none⟩ (.int .i64 o) rfl H4.out.2.2.2.2 rfl (by omega) (by simp; omega) (wc.heap.size + 1) (by simp) ?_)
      | fail)
    intro g cp w5 ho5 hg5 hat5 hl5
    obtain ⟨s1, s7, s8⟩ := H4.out.1.ofed (ob := .cells #[.int .i64 o] 3) H.out.2.2.2.2.2.2.1 H.out.2.2.2.2.2.2.2.1 ho5 hg5 hat5
    have hm6 := H4.out.2.1.trans (fin_of (v1 := u1) (v5 := v5) (m := m + 1) (cp := cp) s8 hat5)
    have hk6 := H4.out.2.2.1.mv (fin_of (v1 := u1) (v5 := v5) (m := m + 1) (cp := cp) s8 hat5)
    have e2 : w5.cell? ⟨b, 2, none⟩ = some v2 := s1.cell 2
    have e1 : w5.cell? ⟨b, 1, none⟩ = some u1 := s1.cell 1
    have f2 := s1.froz 2
    have z5 := s1.lt
    obtain ⟨W6, hW6⟩ : ∃ W, w5.setCell ⟨b, 2, none⟩ (.slice (some ⟨g, 0, none⟩) (m + 1) cp) = W := ⟨_, rfl⟩
    rw [hW6] at s7 hm6 hk6
    have HW6 := Lib.hid hW6
    obtain ⟨cl6, l6, _⟩ := s7.lo
    rw [show (s.lv ++ [E.mk k c []]).length = n + 1 by rw [List.length_append, H.out.2.2.2.2.2.1]; rfl] at l6
    obtain ⟨A6, cp6, rfl⟩ : ∃ A1 cp1, u1 = .slice A1 (n + 1) cp1 := owns_form1 l6
    have H6 := Lib.hid (And.intro s7 (And.intro hm6 hk6))
    clear s1 s7 s8 ho5 hg5 hat5 hl5 hm6 hk6 l6 c2 hW6
    go_upto_region 6 with fail
    rw [HW6.out]
    have e1 : W6.cell? ⟨b, 1, none⟩ = some (.slice A6 (n + 1) cp6) := H6.out.1.cs.cell 1
    have y0 := H6.out.2.2.c.cell 0
    have y1 := H6.out.2.2.c.cell 1
    have y2 := H6.out.2.2.c.cell 2
    simp [part0] at y0 y1 y2
    have g0 := H6.out.2.2.c.froz 0
    have g1 := H6.out.2.2.c.froz 1
    have g2 := H6.out.2.2.c.froz 2
    have zr := H6.out.2.2.c.lt
    have zr2 : w.heap.size + 1 < W6.heap.size + 1 := by omega
    clear e2 f2 z5
    go_wp2_with fail
    obtain ⟨va, hva⟩ : ∃ v, Value.slice (some ⟨W6.heap.size, 0, none⟩) 1 1 = v := ⟨_, rfl⟩
    obtain ⟨vb, hvb⟩ : ∃ v, Value.slice (some ⟨W6.heap.size + 1, 0, none⟩) 1 1 = v := ⟨_, rfl⟩
    obtain ⟨WS, hWS⟩ : ∃ W, ((W6.setCell ⟨w.heap.size + 1, 0, none⟩ (.bool false)).setCell ⟨w.heap.size + 1, 1, none⟩ va).setCell ⟨w.heap.size + 1, 2, none⟩ vb = W := ⟨_, rfl⟩
    have hsz : WS.heap.size = W6.heap.size := by rw [← hWS]; simp
    have aS : LkAt WS b c0 c3 c4 c6 ⟨s.lv ++ [.mk k c []], s.of ++ [o], s.pr⟩ (.slice A6 (n + 1) cp6) (.slice (some ⟨g, 0, none⟩) (m + 1) cp) v5 := by rw [← hWS]; exact ((H6.out.1.set H6.out.2.2.n _).set H6.out.2.2.n _).set H6.out.2.2.n _
    have kS : Cells WS (w.heap.size + 1) 101 #[.bool false, va, vb] := by rw [← hWS]; exact (((H6.out.2.2.set_eq (i := 0) _).set_eq (i := 1) _).set_eq (i := 2) _).c
    have mS : LkMv b w WS (.slice A1 n cp1) v2 v5 (.slice A6 (n + 1) cp6) (.slice (some ⟨g, 0, none⟩) (m + 1) cp) v5 := by
      rw [← hWS]
      exact (((((LkMv.of_below _ _ _ H.out.2.2.2.1).trans H6.out.2.1).set (Nat.le_succ _) 0 _).set (Nat.le_succ _) 1 _).set (Nat.le_succ _) 2 _)
    have al1 := below_new WS (.cells #[.int .i64 ((n : Int) + 1)] 3)
    have al2 := below_new (WS.alloc (.cells #[.int .i64 ((n : Int) + 1)] 3)) (.cells #[.int .i64 ((n : Int) + 1)] 3)
    have bal := al1.trans (al2.mono al1.size)
    have ca := (cells_new WS #[.int .i64 ((n : Int) + 1)] 3).on al2
    have cb := cells_new (WS.alloc (.cells #[.int .i64 ((n : Int) + 1)] 3)) #[.int .i64 ((n : Int) + 1)] 3
    have fr : ∀ q, W6.heap.size ≤ q → ¬ Vl b (.slice A6 (n + 1) cp6) (.slice (some ⟨g, 0, none⟩) (m + 1) cp) v5 q := fun q hq => aS.fresh (by omega)
    rw [World.size_alloc] at cb
    rw [hsz] at ca cb
    have hi : i64 ((n : Int) + 1) := by unfold i64; omega
    have hwW : w.heap.size ≤ W6.heap.size := by omega
    have la := slx_one (n := w.heap.size) ca hi hwW (fr _ (Nat.le_refl _))
    have lb := slx_one (n := w.heap.size) cb hi (by omega) (fr _ (Nat.le_succ _))
    rw [hva] at la
    rw [hvb] at lb
    rw [hva, hvb, hWS]
    refine bodyPost_ret (v := .agg #[.bool false, va, vb]) (results_one rfl _ _ (w.heap.size + 1) _ rfl (kS.on bal) info101) rfl ⟨_, _, _, va, vb, rfl, aS.mv bal, mS.below bal, la, lb⟩
end Go.Proofs.YtmldgfplnacecaaDoor

namespace Go.Proofs.YtmldgfplnacecaaDoor
open Go.RowKit Go.Shelf Go.Lib

def addP (k : Int) (p q : Pt) : Pt := if k = 4 then ⟨p.empty && q.empty, if p.empty then p.first ++ q.first else p.first, if q.empty then p.last ++ q.last else q.last⟩ else ⟨p.empty || q.empty, p.first ++ q.first, p.last ++ q.last⟩
def addS (k : Int) (s : Lk) (p q : Pt) : Lk := if k = 4 then s.pair p.last q.first else s
theorem lookL_cons (k : Int) (e : E) (r : List E) (o : Int) (s : Lk) (p : Pt) : lookE.lookL k (e :: r) o s p = lookE.lookL k r o (addS k (lookE e o s).1 p (lookE e o s).2) (addP k p (lookE e o s).2) := by
  conv => lhs; unfold lookE.lookL
  by_cases h : k = 4
  · simp only [if_pos h, addS, addP]
  · simp only [if_neg h, addS, addP]
theorem lookL_append (k : Int) (o : Int) : ∀ (a r : List E) (s : Lk) (p : Pt), lookE.lookL k (a ++ r) o s p = lookE.lookL k r o (lookE.lookL k a o s p).1 (lookE.lookL k a o s p).2
  | [], r, s, p => by simp [lookE.lookL]
  | e :: a, r, s, p => by rw [List.cons_append, lookL_cons, lookL_cons, lookL_append k o a r]
theorem lookL_take {k o : Int} {ks : List E} {i : Nat} {e : E} (h : ks[i]? = some e) (s : Lk) (p : Pt) :
    lookE.lookL k (ks.take (i + 1)) o s p = (addS k (lookE e o (lookE.lookL k (ks.take i) o s p).1).1 (lookE.lookL k (ks.take i) o s p).2 (lookE e o (lookE.lookL k (ks.take i) o s p).1).2, addP k (lookE.lookL k (ks.take i) o s p).2 (lookE e o (lookE.lookL k (ks.take i) o s p).1).2) := by
  rw [List.take_add_one, h, Option.toList_some, lookL_append, lookL_cons]
  simp [lookE.lookL]
mutual
theorem look_lv : ∀ (e : E) (o : Int) (s : Lk), goodE e = true → (lookE e o s).1.lv.length = s.lv.length + leavesE e ∧ (lookE e o s).1.of.length = s.of.length + leavesE e
  | .mk k c ks, o, s, hg => by
    obtain ⟨h9, hs, ha⟩ := good_parts hg
    by_cases hl : ks = []
    · subst hl
      have e1 : lookE (.mk k c []) o s = (⟨s.lv ++ [.mk k c []], s.of ++ [o], s.pr⟩, ⟨false, [(s.lv.length : Int) + 1], [(s.lv.length : Int) + 1]⟩) := by
        unfold lookE; rw [if_neg h9, if_pos rfl]
      have e2 : leavesE (.mk k c []) = 1 := by unfold leavesE; rw [if_pos rfl, if_neg h9]
      rw [e1, e2]
      exact ⟨List.length_append, List.length_append⟩
    · rw [leaves_kids hl]
      have q := lookL_lv k ks o s ⟨k == 4, [], []⟩ ha
      have e0 : (lookE (.mk k c ks) o s).1 = (if k = 6 ∨ k = 7 then (lookE.lookL k ks o s ⟨k == 4, [], []⟩).1.pair (lookE.lookL k ks o s ⟨k == 4, [], []⟩).2.last (lookE.lookL k ks o s ⟨k == 4, [], []⟩).2.first else (lookE.lookL k ks o s ⟨k == 4, [], []⟩).1) := by
        conv => lhs; unfold lookE
        rw [if_neg h9, if_neg hl]
      rw [e0]
      split
      · exact q
      · exact q
theorem lookL_lv : ∀ (k : Int) (ks : List E) (o : Int) (s : Lk) (p : Pt), goodE.all ks = true → (lookE.lookL k ks o s p).1.lv.length = s.lv.length + leavesE.lvL ks ∧ (lookE.lookL k ks o s p).1.of.length = s.of.length + leavesE.lvL ks
  | k, [], o, s, p, _ => ⟨rfl, rfl⟩
  | k, e :: r, o, s, p, hg => by
    rw [lookL_cons, lvL_cons]
    obtain ⟨q1, q2⟩ := look_lv e o s (all_cons hg).1
    obtain ⟨w1, w2⟩ := lookL_lv k r o (addS k (lookE e o s).1 p (lookE e o s).2) (addP k p (lookE e o s).2) (all_cons hg).2
    have h1 : (addS k (lookE e o s).1 p (lookE e o s).2).lv = (lookE e o s).1.lv := by unfold addS; split <;> rfl
    have h2 : (addS k (lookE e o s).1 p (lookE e o s).2).of = (lookE e o s).1.of := by unfold addS; split <;> rfl
    rw [h1] at w1
    rw [h2] at w2
    exact ⟨by omega, by omega⟩
end
theorem lookE_node {k c o : Int} {ks : List E} {s : Lk} (h9 : k ≠ 9) (hl : ks ≠ []) : lookE (.mk k c ks) o s =
    (if k = 6 ∨ k = 7 then (lookE.lookL k ks o s ⟨k == 4, [], []⟩).1.pair (lookE.lookL k ks o s ⟨k == 4, [], []⟩).2.last (lookE.lookL k ks o s ⟨k == 4, [], []⟩).2.first else (lookE.lookL k ks o s ⟨k == 4, [], []⟩).1,
      ⟨(lookE.lookL k ks o s ⟨k == 4, [], []⟩).2.empty || (k == 6) || (k == 8), (lookE.lookL k ks o s ⟨k == 4, [], []⟩).2.first, (lookE.lookL k ks o s ⟨k == 4, [], []⟩).2.last⟩) := by
  conv => lhs; unfold lookE
  rw [if_neg h9, if_neg hl]
theorem lookE_leaf {k c o : Int} {s : Lk} (h9 : k ≠ 9) : lookE (.mk k c []) o s = (⟨s.lv ++ [.mk k c []], s.of ++ [o], s.pr⟩, ⟨false, [(s.lv.length : Int) + 1], [(s.lv.length : Int) + 1]⟩) := by
  unfold lookE; rw [if_neg h9, if_pos rfl]
theorem all_takeG {ks : List E} (h : goodE.all ks = true) (i : Nat) : goodE.all (ks.take i) = true := by
  induction ks generalizing i with
  | nil => simpa using h
  | cons e r ih =>
    cases i with
    | zero => rfl
    | succ i =>
      obtain ⟨h1, h2⟩ := all_cons h
      have := ih h2 i
      simp only [List.take_succ_cons, goodE.all, h1, this, Bool.and_self]
theorem lvL_app (a b : List E) : leavesE.lvL (a ++ b) = leavesE.lvL a + leavesE.lvL b := by
  induction a with
  | nil => simp [leavesE.lvL]
  | cons e r ih => rw [List.cons_append, lvL_cons, lvL_cons, ih]; omega
theorem lvL_at {ks : List E} {i : Nat} {e : E} (h : ks[i]? = some e) : leavesE.lvL (ks.take i) + leavesE e ≤ leavesE.lvL ks ∧ szE.szL (ks.take i) + szE e ≤ szE.szL ks := by
  have e1 : ks.take (i + 1) = ks.take i ++ [e] := by rw [List.take_add_one, h]; rfl
  have e2 := List.take_append_drop (i + 1) ks
  have a1 := lvL_app (ks.take (i + 1)) (ks.drop (i + 1))
  have a2 := szL_append (ks.take (i + 1)) (ks.drop (i + 1))
  rw [e2] at a1 a2
  rw [e1] at a1 a2
  have a3 := lvL_app (ks.take i) [e]
  have a4 := szL_append (ks.take i) [e]
  have a5 : leavesE.lvL [e] = leavesE e := by rw [lvL_cons]; rfl
  have a6 : szE.szL [e] = szE e := by rw [szL_consN]; rfl
  unfold szL at a2 a4
  omega
/-- How much has been looked through before a part. -/
theorem look_part {k o : Int} {ks : List E} {i : Nat} {e : E} {s : Lk} {L : Nat} (hg : goodE.all ks = true) (h : ks[i]? = some e) (hL : leavesE.lvL ks ≤ L) :
    (lookE.lookL k (ks.take i) o s ⟨k == 4, [], []⟩).2.first.length + leavesE e ≤ L ∧ (lookE.lookL k (ks.take i) o s ⟨k == 4, [], []⟩).2.last.length + leavesE e ≤ L ∧
    (lookE.lookL k (ks.take i) o s ⟨k == 4, [], []⟩).1.pr.length + 2 * szE e * (L * L) ≤ s.pr.length + 2 * szE.szL ks * (L * L) ∧
    (lookE.lookL k (ks.take i) o s ⟨k == 4, [], []⟩).1.lv.length + leavesE e ≤ s.lv.length + leavesE.lvL ks ∧ (lookE.lookL k (ks.take i) o s ⟨k == 4, [], []⟩).1.of.length + leavesE e ≤ s.of.length + leavesE.lvL ks := by
  obtain ⟨a1, a2⟩ := lvL_at h
  obtain ⟨q1, q2, q3⟩ := lookL_len k (ks.take i) o s ⟨k == 4, [], []⟩ L (all_takeG hg i) (by simp; omega)
  obtain ⟨r1, r2⟩ := lookL_lv k (ks.take i) o s ⟨k == 4, [], []⟩ (all_takeG hg i)
  have q1 : (lookE.lookL k (ks.take i) o s ⟨k == 4, [], []⟩).2.first.length ≤ leavesE.lvL (ks.take i) := by simpa using q1
  have q2 : (lookE.lookL k (ks.take i) o s ⟨k == 4, [], []⟩).2.last.length ≤ leavesE.lvL (ks.take i) := by simpa using q2
  have m1 : 2 * szE.szL (ks.take i) * (L * L) + 2 * szE e * (L * L) ≤ 2 * szE.szL ks * (L * L) := by
    rw [← Nat.add_mul, ← Nat.mul_add]
    exact Nat.mul_le_mul_right _ (Nat.mul_le_mul_left _ a2)
  exact ⟨by omega, by omega, by omega, by omega, by omega⟩
end Go.Proofs.YtmldgfplnacecaaDoor

namespace Go.Proofs.YtmldgfplnacecaaDoor
open Go.RowKit Go.Shelf Go.Lib Go.Great Go.Maps

theorem pair_look {w : World} {b n : Nat} {c0 c3 c4 c6 u1 u2 u5 vl vm : Value} {s : Lk} {l m : List Int} (h : LkAt w b c0 c3 c4 c6 s u1 u2 u5) (hl : SlX w (Xs b u1 u2 u5 n) l vl) (hm : SlX w (Xs b u1 u2 u5 n) m vm) (hlen : s.pr.length + l.length * m.length ≤ 2000000) :
    Calls Tryd.prog 84 #[.pointer (some ⟨b, 0, none⟩), vl, vm] w fun r w' => r = .returned (.tuple #[]) ∧ ∃ x5, LkAt w' b c0 c3 c4 c6 (s.pair l m) u1 u2 x5 ∧ LkMv b w w' u1 u2 u5 u1 u2 x5 := by
  refine (pair_any b c0 u1 u2 c3 c4 c6 u5 vl vm s.pr l m (Xs b u1 u2 u5 n) w h.cs h.po hl hm (fun k hk => ⟨fun e => hk.2 (.inl e), fun e => hk.2 (.inr (.inr (.inr e)))⟩) hlen).mono ?_
  rintro r w' ⟨rfl, v, hP⟩
  obtain ⟨cl, l1, l2⟩ := h.lo
  have hi : ∀ x ∈ l, i64 x := by obtain ⟨_, _, _, _, _, q, _⟩ := hl; exact q
  have hj : ∀ x ∈ m, i64 x := by obtain ⟨_, _, _, _, _, q, _⟩ := hm; exact q
  refine ⟨rfl, v, ⟨hP.cs, ⟨cl, own_fz hP.fz l1 ?_, l2⟩, own_fz hP.fz h.oo ?_, h.oi, hP.ow, fun p hp => ?_⟩, hP.fz.mono ?_, fun k hk => ?_⟩
  · rintro k (rfl | e) e2
    · have := (own_block_lt l1 k e2).1; omega
    · exact own_types l1 h.po (by decide) k e2 e
  · rintro k (rfl | e) e2
    · have := (own_block_lt h.oo k e2).1; omega
    · exact own_types h.oo h.po (by decide) k e2 e
  · rcases List.mem_append.1 hp with e | e
    · exact h.pi p e
    · unfold pairsL at e
      obtain ⟨x, hx, e⟩ := List.mem_flatMap.1 e
      obtain ⟨y, hy, rfl⟩ := List.mem_map.1 e
      exact ⟨hi x hx, hj y hy⟩
  · rintro k (e | e)
    · exact .inl e
    · exact .inr (.inr (.inr e))
  · rcases hk with e | e | e | e
    · exact .inl (.inl e)
    · exact .inl (.inr (.inl e))
    · exact .inl (.inr (.inr (.inl e)))
    · rcases hP.at_ with q | ⟨g, q, hg⟩
      · exact .inl (.inr (.inr (.inr (q.symm.trans e))))
      · rw [q] at e; injection e with e; exact .inr (by omega)
theorem join_look {w : World} {X Y : Nat → Prop} {l m : List Int} {vl vm : Value} (hl : SlX w X l vl) (hm : SlX w Y m vm) (hlen : l.length + m.length ≤ 100000) :
    Calls Tryd.prog 53 #[vl, vm] w fun r w' => ∃ A c, r = .returned (.slice A (l.length + m.length) c) ∧ OwnI w' w.heap.size (l ++ m) (.slice A (l.length + m.length) c) ∧ Below w.heap.size w w' := by
  obtain ⟨A, c, rfl, h1, h2⟩ := hl.is
  obtain ⟨A', c', rfl, h3, h4⟩ := hm.is
  refine (join_any l m A A' c c' w h1 h3 h2 h4 hlen).mono ?_
  rintro r w' ⟨v, rfl, ho, hb⟩
  obtain ⟨A2, c2, rfl⟩ : ∃ A c, v = .slice A (l ++ m).length c := owns_form1 ho
  rw [List.length_append] at ho ⊢
  exact ⟨A2, c2, rfl, ho, hb⟩
theorem slx_ints {w : World} {X : Nat → Prop} {l : List Int} {v : Value} (h : SlX w X l v) : ∀ x ∈ l, i64 x := by obtain ⟨_, _, _, _, _, q, _⟩ := h; exact q
theorem slx_form {w : World} {X : Nat → Prop} {l : List Int} {v : Value} (h : SlX w X l v) : ∃ A c, v = .slice A l.length c := by obtain ⟨A, c, e, _⟩ := h; exact ⟨A, c, e⟩
theorem slx_nil (w : World) (X : Nat → Prop) : SlX w X [] (.slice none 0 0) := ⟨none, 0, rfl, Nat.le_refl _, by unfold maxLen; omega, fun x hx => absurd hx (by simp), fun _ => rfl, fun h => absurd rfl h⟩
/-- What is asked of an expression that is looked through. -/
structure LkB (L : Nat) (e : E) (s : Lk) : Prop where
  g : goodE e = true
  l : leavesE e ≤ L
  m : L ≤ 200
  p : s.pr.length + 2 * szE e * (L * L) ≤ 2000000
  v : s.lv.length + leavesE e ≤ 1000
  o : s.of.length + leavesE e ≤ 1000
def LookFor (L : Nat) (e : E) : Prop := ∀ (o : Int) (v : Value) (b B : Nat) (c0 c3 c4 c6 v1 v2 v5 : Value) (s : Lk) (w : World), LkAt w b c0 c3 c4 c6 s v1 v2 v5 → Nd w B e v → B ≤ b → i64 o → LkB L e s →
  Calls Tryd.prog 52 #[.pointer (some ⟨b, 0, none⟩), v, .int .i64 o] w (LkPost w b c0 c3 c4 c6 v1 v2 v5 (lookE e o s).1 (lookE e o s).2)
/-- Parts so far. -/
structure LoS (b qo : Nat) (c0 c3 c4 c6 v1 v2 v5 : Value) (W wr : World) (s : Lk) (p : Pt) (u1 u2 u5 vf vl : Value) : Prop where
  a : LkAt wr b c0 c3 c4 c6 s u1 u2 u5
  m : LkMv b W wr v1 v2 v5 u1 u2 u5
  q : Kept wr b u1 u2 u5 qo 101 #[.bool p.empty, vf, vl]
  f : SlX wr (Xs b u1 u2 u5 (qo + 1)) p.first vf
  l : SlX wr (Xs b u1 u2 u5 (qo + 1)) p.last vl
theorem LoS.on {b qo : Nat} {c0 c3 c4 c6 v1 v2 v5 u1 u2 u5 vf vl x1 x2 x5 : Value} {W wr w' : World} {s s' : Lk} {p : Pt} (h : LoS b qo c0 c3 c4 c6 v1 v2 v5 W wr s p u1 u2 u5 vf vl) (ha : LkAt w' b c0 c3 c4 c6 s' x1 x2 x5) (hm : LkMv b wr w' u1 u2 u5 x1 x2 x5) : LoS b qo c0 c3 c4 c6 v1 v2 v5 W w' s' p x1 x2 x5 vf vl :=
  ⟨ha, h.m.trans hm, h.q.mv hm, h.f.mv hm, h.l.mv hm⟩
theorem LoS.below {b qo : Nat} {c0 c3 c4 c6 v1 v2 v5 u1 u2 u5 vf vl : Value} {W wr w' : World} {s : Lk} {p : Pt} (h : LoS b qo c0 c3 c4 c6 v1 v2 v5 W wr s p u1 u2 u5 vf vl) (hb : Below wr.heap.size wr w') : LoS b qo c0 c3 c4 c6 v1 v2 v5 W w' s p u1 u2 u5 vf vl :=
  h.on (h.a.mv hb) (LkMv.of_below _ _ _ hb)
/-- What is known of the parts is written anew. -/
theorem LoS.put {b qo : Nat} {c0 c3 c4 c6 v1 v2 v5 u1 u2 u5 vf vl xf xl : Value} {W wr : World} {s : Lk} {p p' : Pt} {e : Bool} (h : LoS b qo c0 c3 c4 c6 v1 v2 v5 W wr s p u1 u2 u5 vf vl) (hW : W.heap.size ≤ qo)
    (he : p'.empty = e) (hf : SlX wr (Xs b u1 u2 u5 (qo + 1)) p'.first xf) (hl : SlX wr (Xs b u1 u2 u5 (qo + 1)) p'.last xl) :
    LoS b qo c0 c3 c4 c6 v1 v2 v5 W (((wr.setCell ⟨qo, 0, none⟩ (.bool e)).setCell ⟨qo, 1, none⟩ xf).setCell ⟨qo, 2, none⟩ xl) s p' u1 u2 u5 xf xl := by
  refine ⟨((h.a.set h.q.n _).set h.q.n _).set h.q.n _, ((h.m.set hW 0 _).set hW 1 _).set hW 2 _, ?_, ((hf.set (Nat.lt_succ_self _) 0 _).set (Nat.lt_succ_self _) 1 _).set (Nat.lt_succ_self _) 2 _, ((hl.set (Nat.lt_succ_self _) 0 _).set (Nat.lt_succ_self _) 1 _).set (Nat.lt_succ_self _) 2 _⟩
  have := ((h.q.set_eq (i := 0) (.bool e)).set_eq (i := 1) xf).set_eq (i := 2) xl
  rw [he]
  exact this
theorem LoS.put0 {b qo : Nat} {c0 c3 c4 c6 v1 v2 v5 u1 u2 u5 vf vl : Value} {W wr : World} {s : Lk} {p : Pt} {e : Bool} (h : LoS b qo c0 c3 c4 c6 v1 v2 v5 W wr s p u1 u2 u5 vf vl) (hW : W.heap.size ≤ qo) :
    LoS b qo c0 c3 c4 c6 v1 v2 v5 W (wr.setCell ⟨qo, 0, none⟩ (.bool e)) s ⟨e, p.first, p.last⟩ u1 u2 u5 vf vl :=
  ⟨h.a.set h.q.n _, h.m.set hW 0 _, h.q.set_eq (i := 0) (.bool e), h.f.set (Nat.lt_succ_self _) 0 _, h.l.set (Nat.lt_succ_self _) 0 _⟩
theorem LoS.put1 {b qo : Nat} {c0 c3 c4 c6 v1 v2 v5 u1 u2 u5 vf vl xf : Value} {W wr : World} {s : Lk} {p : Pt} {l : List Int} (h : LoS b qo c0 c3 c4 c6 v1 v2 v5 W wr s p u1 u2 u5 vf vl) (hW : W.heap.size ≤ qo) (hf : SlX wr (Xs b u1 u2 u5 (qo + 1)) l xf) :
    LoS b qo c0 c3 c4 c6 v1 v2 v5 W (wr.setCell ⟨qo, 1, none⟩ xf) s ⟨p.empty, l, p.last⟩ u1 u2 u5 xf vl :=
  ⟨h.a.set h.q.n _, h.m.set hW 1 _, h.q.set_eq (i := 1) xf, hf.set (Nat.lt_succ_self _) 1 _, h.l.set (Nat.lt_succ_self _) 1 _⟩
theorem LoS.put2 {b qo : Nat} {c0 c3 c4 c6 v1 v2 v5 u1 u2 u5 vf vl xl : Value} {W wr : World} {s : Lk} {p : Pt} {l : List Int} (h : LoS b qo c0 c3 c4 c6 v1 v2 v5 W wr s p u1 u2 u5 vf vl) (hW : W.heap.size ≤ qo) (hl : SlX wr (Xs b u1 u2 u5 (qo + 1)) l xl) :
    LoS b qo c0 c3 c4 c6 v1 v2 v5 W (wr.setCell ⟨qo, 2, none⟩ xl) s ⟨p.empty, p.first, l⟩ u1 u2 u5 vf xl :=
  ⟨h.a.set h.q.n _, h.m.set hW 2 _, h.q.set_eq (i := 2) xl, h.f.set (Nat.lt_succ_self _) 2 _, hl.set (Nat.lt_succ_self _) 2 _⟩
end Go.Proofs.YtmldgfplnacecaaDoor

