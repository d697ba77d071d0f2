/-
  Contracts: virgulelaw05.To.
-/
import Derived.Test.YtegkogadceodlaaNdp
import Derived.Test.YtegkogadceodlaaTrt
namespace Go.Proofs.Ytegkogadceodlaa
open Go.RowKit Go.Shelf Go.Lib
theorem grownB {w w' : World} (h : Below w.heap.size w w') (row : Option Nat) : w.grownBy w' row := ⟨h.os, h.tape, h.output, h.size, fun k hk _ => h.block k hk⟩
theorem grown_setc (w : World) (b j : Nat) (v : Value) : w.grownBy (w.setCell ⟨b, j, none⟩ v) (some b) := ⟨rfl, rfl, rfl, by simp [World.setCell], fun k _ hk => Below.heap_setCell _ _ _ _ (fun e => hk (by rw [e]))⟩
theorem info33 : (Try.prog.info? 33).map (fun i => (i.zero, i.size, i.bytes)) = some (some (.agg #[.int .i64 0, .int .i64 0, .slice none 0 0]), 3, 40) := by kernel_rfl
def ToOk (w : World) (e : E) (r : Ending) (w' : World) : Prop := ∃ v, r = .returned v ∧ NdP w' (fun b => w.heap.size ≤ b ∧ b < w'.heap.size) e v ∧ Below w.heap.size w w'
set_option maxHeartbeats 8000000 in
set_option maxRecDepth 100000 in
theorem to_any : ∀ N e, szE e ≤ N → szE e ≤ 100000 → ∀ v w, Nd w w.heap.size e v → Calls Try.prog 16 #[v] w (ToOk w e) := by
  intro N
  induction N with
  | zero => intro e h; have := szE_pos e; omega
  | succ N ih =>
    intro e he hmx v w h
    obtain ⟨i0, hi, hz0, hz1, hz2⟩ := info_parts info33
    obtain ⟨hik, hic, A, cap, rfl, hk⟩ := Nd_iff.1 h
    have hS := szE_eq e
    have hkid := fun i f (hf : e.ks[i]? = some f) => szE_kid (List.mem_of_getElem? hf)
    have hln : e.ks.length ≤ 100000 := by
      have : ∀ l : List E, l.length ≤ szL l := by
        intro l
        induction l with
        | nil => simp
        | cons a r ih2 => have := szE_pos a; simp only [szL, szE.szL, List.length_cons] at *; omega
      have := this e.ks
      omega
    obtain ⟨W1, hW1⟩ : ∃ W, w.alloc (.cells #[.int .i64 e.k, .int .i64 e.c, .slice A e.ks.length cap] 24) = W := ⟨_, rfl⟩
    obtain ⟨W2, hW2⟩ : ∃ W, W1.alloc (.cells #[.int .i64 0, .int .i64 0, .slice none 0 0] 33) = W := ⟨_, rfl⟩
    obtain ⟨W3, hW3⟩ : ∃ W, W2.alloc (.cells #[.int .i64 e.k, .int .i64 e.c, .slice none 0 0] 33) = W := ⟨_, rfl⟩
    have z1 : W1.heap.size = w.heap.size + 1 := by rw [← hW1]; simp
    have z2 : W2.heap.size = w.heap.size + 1 + 1 := by rw [← hW2]; simp [z1]
    have z3 : W3.heap.size = w.heap.size + 1 + 1 + 1 := by rw [← hW3]; simp [z2]
    have b1 : Below w.heap.size w W1 := by rw [← hW1]; exact below_new _ _
    have b2 : Below W1.heap.size W1 W2 := by rw [← hW2]; exact below_new _ _
    have b3 : Below W2.heap.size W2 W3 := by rw [← hW3]; exact below_new _ _
    have x1 : Cells W3 w.heap.size 24 #[.int .i64 e.k, .int .i64 e.c, .slice A e.ks.length cap] := (b3.block _ (by omega)).trans ((b2.block _ (by omega)).trans (by rw [← hW1]; exact cells_new _ _ _))
    have x2 : Cells W3 (w.heap.size + 1) 33 #[.int .i64 0, .int .i64 0, .slice none 0 0] := (b3.block _ (by omega)).trans (by rw [← hW2, ← z1]; exact cells_new _ _ _)
    have x3 : Cells W3 (w.heap.size + 1 + 1) 33 #[.int .i64 e.k, .int .i64 e.c, .slice none 0 0] := by rw [← hW3, ← z2]; exact cells_new _ _ _
    have b13 : Below w.heap.size w W3 := b1.trans ((b2.mono (by omega)).trans (b3.mono (by omega)))
    have HW := Lib.hid (And.intro hW1 (And.intro hW2 (And.intro hW3 z3)))
    have H3 := Lib.hid (And.intro x1 (And.intro x2 (And.intro x3 (And.intro b13 (And.intro hk (And.intro hik hic))))))
    have HI := Lib.hid ih
    have HKD := Lib.hid hkid
    have HS := Lib.hid (And.intro hS (And.intro hmx he))
    obtain ⟨n, hn⟩ : ∃ n, e.ks.length = n := ⟨_, rfl⟩
    have HN := Lib.hid hn
    rw [hn] at hln HW H3 ⊢
    clear hW1 hW2 hW3 z1 z2 z3 b1 b2 b3 x1 x2 x3 b13 hk hik hic ih hkid hS hmx he h hn
    go_enter Try.func16, Try.ntmps16
    go_wp2_with fail
    rw [HW.out.1, HW.out.2.1, HW.out.2.2.1]
    go_loopw [4] (fun v wr => ∃ (j : Nat) (u : Value) (cs : List Value), v = .int .i64 (j : Int) ∧ j ≤ n ∧ Cells wr (w.heap.size + 1 + 1) 33 #[.int .i64 e.k, .int .i64 e.c, u] ∧ W3.grownBy wr (some (w.heap.size + 1 + 1)) ∧ wr.ownsRow W3.heap.size 33 3 u j cs ∧ Kids wr W3.heap.size u e.ks j cs) (fun v _ => n - (RowKit.intOf v).toNat)
    case atStart => exact ⟨0, .slice none 0 0, [], rfl, by omega, H3.out.2.2.1, World.grownBy.refl _ _, World.ownsRow_nil _ _ _ _, rfl, fun i f hi => by omega⟩
    case round =>
      obtain ⟨j, u, cs, rfl, hj, hx3, hg, hown, hkids⟩ := hrel
      have hx1 : Cells wr w.heap.size 24 #[.int .i64 e.k, .int .i64 e.c, .slice A n cap] := (hg.block _ H3.out.1.lt (by simp; omega)).trans H3.out.1
      have d2 := hx1.cell 2
      simp at d2
      by_cases hlt : j < n
      · have i1 : (j : Int) < (n : Int) := by omega
        obtain ⟨f, hf⟩ : ∃ f, e.ks[j]? = some f := ⟨e.ks[j]'(by rw [HN.out]; exact hlt), List.getElem?_eq_getElem _⟩
        obtain ⟨b, o, rfl, hbl, hr⟩ := H3.out.2.2.2.2.1.r (by intro e'; rw [e'] at hf; simp at hf)
        obtain ⟨A', cap', c0, c1, c2, hNd⟩ := row_get' hr hf
        have HK := Lib.hid (And.intro hx3 (And.intro hg (And.intro hown (And.intro hkids (And.intro hx1 hf)))))
        clear hx3 hg hown hkids hx1 hf hr
        go_wp2_with fail
        -- the region by hand
        have HG := Lib.hid (show W3.grownBy wr.drew (some (w.heap.size + 1 + 1)) from ⟨HK.out.2.1.os, HK.out.2.1.tape, HK.out.2.1.output, HK.out.2.1.size, HK.out.2.1.block⟩)
        have hl3 : ∀ v, wr.cell? ⟨w.heap.size + 1 + 1, 2, none⟩ = some v → v = u := fun v hv => by have := HK.out.1.cell 2; rw [this] at hv; simpa using hv.symm
        have HL := Lib.hid (show wr.cell? ⟨w.heap.size + 1 + 1, 2, none⟩ = some u from HK.out.1.cell 2)
        have HP := Lib.hid (And.intro (show W3.cell? ⟨w.heap.size, 2, none⟩ = some (.slice (some ⟨b, o, none⟩) n cap) from H3.out.1.cell 2) (And.intro ((H3.out.2.2.2.1.cell (p := ⟨b, o + j * 3, none⟩) hbl).trans c0) (And.intro ((H3.out.2.2.2.1.cell (p := ⟨b, o + j * 3 + 1, none⟩) hbl).trans c1) (And.intro ((H3.out.2.2.2.1.cell (p := ⟨b, o + j * 3 + 2, none⟩) hbl).trans c2) hbl))))
        have hbd : Below w.heap.size w wr.drew := H3.out.2.2.2.1.trans ⟨HG.out.os, HG.out.tape, HG.out.output, HG.out.size, fun k hk => HG.out.block k (by have := HW.out.2.2.2; omega) (by simp; omega)⟩
        have HC := Lib.hid (HI.out f (by have := HS.out; have := HKD.out j f HK.out.2.2.2.2.2; omega) (by have := HS.out; have := HKD.out j f HK.out.2.2.2.2.2; omega) (.agg #[.int .i64 f.k, .int .i64 f.c, .slice A' f.ks.length cap']) wr.drew ((hNd.below hbd).mono hbd.size))
        clear hl3 c0 c1 c2 hNd hbd d2
        refine wp_region_noPanic ?_
        refine wp_region_held_drew (S := fun W => W3.grownBy W (some (w.heap.size + 1 + 1))) (by kernel_rfl) HG.out (fun hH => ?_)
        refine wpAnyH_take (i := 0) (oi := { dst := some 17, op := Op.fieldAddr 33 (Operand.tmp 3) 2, type := 0, pos := "law.go:20", after := #[], guard := none }) (v := ?_) rfl (by kernel_rfl) (by kernel_rfl) (by kernel_rfl) (fun _ _ _ h => h) (Or.inl ⟨by rfl, ?_⟩) (by exact hH) ?_
        rotate_left
        · intro W hSw
          go_simp
          try with_reducible rfl
        try simp only [Act.put, List.setIfInBounds_toArray, List.set_cons_zero, List.set_cons_succ]
        refine wpAnyH_take (i := 2) (oi := { dst := some 19, op := Op.fieldAddr 24 (Operand.tmp 1) 2, type := 0, pos := "law.go:20", after := #[], guard := none }) (v := ?_) rfl (by kernel_rfl) (by kernel_rfl) (by kernel_rfl) (fun _ _ _ h => h) (Or.inl ⟨by rfl, ?_⟩) (by exact hH) ?_
        rotate_left
        · intro W hSw
          go_simp
          try with_reducible rfl
        try simp only [Act.put, List.setIfInBounds_toArray, List.set_cons_zero, List.set_cons_succ]
        refine wpAnyH_take (i := 3) (oi := { dst := some 20, op := Op.load 22 (Operand.tmp 19), type := 22, pos := "law.go:20", after := #[{ on := 2, ground := Ground.data }], guard := none }) (v := ?_) rfl (by kernel_rfl) (by kernel_rfl) (by kernel_rfl) (fun _ _ _ h => h) (Or.inl ⟨by rfl, ?_⟩) (by exact hH) ?_
        rotate_left
        · intro W hSw
          have p : W.cell? ⟨w.heap.size, 2, none⟩ = some (.slice (some ⟨b, o, none⟩) n cap) := hSw.cell HP.out.1 (by simp; omega)
          go_simp
          try with_reducible rfl
        try simp only [Act.put, List.setIfInBounds_toArray, List.set_cons_zero, List.set_cons_succ]
        refine wpAnyH_take (i := 4) (oi := { dst := some 21, op := Op.move (Operand.tmp 4), type := 3, pos := "law.go:20", after := #[], guard := none }) (v := ?_) rfl (by kernel_rfl) (by kernel_rfl) (by kernel_rfl) (fun _ _ _ h => h) (Or.inl ⟨by rfl, ?_⟩) (by exact hH) ?_
        rotate_left
        · intro W hSw
          go_simp
          try with_reducible rfl
        try simp only [Act.put, List.setIfInBounds_toArray, List.set_cons_zero, List.set_cons_succ]
        refine wpAnyH_take (i := 5) (oi := { dst := some 22, op := Op.indexAddr 22 (Operand.tmp 20) (Operand.tmp 21), type := 0, pos := "law.go:20", after := #[{ on := 3, ground := Ground.data }, { on := 4, ground := Ground.data }], guard := none }) (v := ?_) rfl (by kernel_rfl) (by kernel_rfl) (by kernel_rfl) (fun _ _ _ h => h) (Or.inl ⟨by rfl, ?_⟩) (by exact hH) ?_
        rotate_left
        · intro W hSw
          go_simp
          try with_reducible rfl
        try simp only [Act.put, List.setIfInBounds_toArray, List.set_cons_zero, List.set_cons_succ]
        refine wpAnyH_take (i := 6) (oi := { dst := some 23, op := Op.load 24 (Operand.tmp 22), type := 24, pos := "law.go:20", after := #[{ on := 5, ground := Ground.data }], guard := none }) (v := ?_) rfl (by kernel_rfl) (by kernel_rfl) (by kernel_rfl) (fun _ _ _ h => h) (Or.inl ⟨by rfl, ?_⟩) (by exact hH) ?_
        rotate_left
        · intro W hSw
          have p0 : W.cell? ⟨b, o + j * 3, none⟩ = some (.int .i64 f.k) := hSw.cell HP.out.2.1 (by have := HP.out.2.2.2.2; simp; omega)
          have p1 : W.cell? ⟨b, o + j * 3 + 1, none⟩ = some (.int .i64 f.c) := hSw.cell HP.out.2.2.1 (by have := HP.out.2.2.2.2; simp; omega)
          have p2 : W.cell? ⟨b, o + j * 3 + 2, none⟩ = some (.slice A' f.ks.length cap') := hSw.cell HP.out.2.2.2.1 (by have := HP.out.2.2.2.2; simp; omega)
          go_simp
          try with_reducible rfl
        try simp only [Act.put, List.setIfInBounds_toArray, List.set_cons_zero, List.set_cons_succ]
        refine wpAnyH_ready (rs := [1, 7]) (by kernel_rfl) (by simp) ?_
        refine (AllReadyH.cons (o := { dst := some 18, op := Op.load 31 (Operand.tmp 17), type := 31, pos := "law.go:20", after := #[{ on := 0, ground := Ground.data }], guard := none }) rfl (fun K hK => ?_) (AllReadyH.cons (o := { dst := some 24, op := Op.call { callee := Callee.value (Operand.func 16), args := #[Operand.tmp 23], argTypes := #[24] }, type := 33, pos := "law.go:20", after := #[{ on := 6, ground := Ground.data }], guard := none }) rfl (fun K hK => ?_) AllReadyH.nil))
        · have pl := (show wr.drew.cell? ⟨w.heap.size + 1 + 1, 2, none⟩ = some u from HL.out)
          go_simp
          refine hK.out _ _ HG.out (fun hH => ?_)
          clear hK K pl
          try simp only [Act.put, List.setIfInBounds_toArray, List.set_cons_zero, List.set_cons_succ]
          refine wpAnyH_ready (rs := [7]) (by kernel_rfl) (by simp) ?_
          refine (AllReadyH.cons (o := { dst := some 24, op := Op.call { callee := Callee.value (Operand.func 16), args := #[Operand.tmp 23], argTypes := #[24] }, type := 33, pos := "law.go:20", after := #[{ on := 6, ground := Ground.data }], guard := none }) rfl (fun K hK => ?_) AllReadyH.nil)
          go_simp
          go_at_call 16
          refine HC.out.mono ?_
          rintro r W5 ⟨v5, rfl, hN5, hb5⟩
          have hN5 : NdP W5 (fun b => wr.heap.size ≤ b ∧ b < W5.heap.size) f v5 := hN5
          have hb5 : Below wr.heap.size wr W5 := ⟨hb5.os, hb5.tape, hb5.output, hb5.size, hb5.block⟩
          obtain ⟨_, _, A5, c5, rfl, _⟩ := NdP_iff.1 hN5
          have hg5 : W3.grownBy W5 (some (w.heap.size + 1 + 1)) := HK.out.2.1.trans (grownB hb5 _)
          have hx5 : Cells W5 (w.heap.size + 1 + 1) 33 #[.int .i64 e.k, .int .i64 e.c, u] := (hb5.block _ HK.out.1.lt).trans HK.out.1
          have hd5 := hx5.cell 2
          simp at hd5
          have ho5 : W5.ownsRow W3.heap.size 33 3 u j cs := ownsRow_below HK.out.2.2.1 hb5
          have H5 := Lib.hid (And.intro hN5 (And.intro hb5 (And.intro hg5 (And.intro hx5 (And.intro hd5 ho5)))))
          clear hN5 hb5 hg5 hx5 hd5 ho5
          try go_wp2_with fail
          refine hK.out _ _ H5.out.2.2.1 (fun hH => ?_)
          clear hK K
          try simp only [Act.put, List.setIfInBounds_toArray, List.set_cons_zero, List.set_cons_succ]
          refine wpAnyH_ready (rs := [8]) (by kernel_rfl) (by simp) ?_
          refine (AllReadyH.cons (o := { dst := some 25, op := Op.buildSlice 31 1 #[(0, Operand.tmp 24)], type := 31, pos := "law.go:20", after := #[{ on := 7, ground := Ground.data }], guard := none }) rfl (fun K hK => ?_) AllReadyH.nil)
          go_simp
          have hg6 : W3.grownBy (W5.alloc (.cells #[.int .i64 f.k, .int .i64 f.c, .slice A5 f.ks.length c5] 33)) (some (w.heap.size + 1 + 1)) := H5.out.2.2.1.trans (World.grownBy_alloc _ _ _)
          have HG6 := Lib.hid hg6
          clear hg6
          refine hK.out _ _ HG6.out (fun hH => ?_)
          clear hK K
          try simp only [Act.put, List.setIfInBounds_toArray, List.set_cons_zero, List.set_cons_succ]
          refine wpAnyH_ready (rs := [9]) (by kernel_rfl) (by simp) ?_
          refine (AllReadyH.cons (o := { dst := some 26, op := Op.call { callee := Callee.builtin Builtin.append, args := #[Operand.tmp 18, Operand.tmp 25], argTypes := #[31, 31] }, type := 31, pos := "law.go:20", after := #[{ on := 1, ground := Ground.data }, { on := 8, ground := Ground.data }, { on := 7, ground := Ground.chain }], guard := none }) rfl (fun K hK => ?_) AllReadyH.nil)
          have NB := World.news_of_block (heap_alloc_new W5 (.cells #[.int .i64 f.k, .int .i64 f.c, .slice A5 f.ks.length c5] 33))
          refine step_append_lies _ rfl (.tmp 18) (.tmp 25) 31 rfl W3.heap.size 33 i0 _ 3 40 Try.underlying31 hi hz0 hz1 hz2 rfl (by omega) u j cs rfl (H5.out.2.2.2.2.2.alloc _) ⟨W5.heap.size, 0, none⟩ 1 1 [.int .i64 f.k, .int .i64 f.c, .slice A5 f.ks.length c5] rfl rfl NB (by simp [Value.oneCell']) (by omega) (by unfold maxLen; omega) (by omega) (by have := H5.out.2.2.1.size; simp; omega) (W5.heap.size + 1) (by simp) ?_
          intro g cap1 W7 hown7 hgrow7 hat7 hlt7
          have hown5 := H5.out.2.2.2.2.2
          have hg7 : W3.grownBy W7 (some (w.heap.size + 1 + 1)) := ⟨hgrow7.os.trans HG6.out.os, hgrow7.tape.trans HG6.out.tape, hgrow7.output.trans HG6.out.output, Nat.le_trans HG6.out.size hgrow7.size, fun k hk hn => (hgrow7.block k (Nat.lt_of_lt_of_le hk HG6.out.size) (fun e' => by have := (hown5.lt k e'.symm).1; omega)).trans (HG6.out.block k hk hn)⟩
          have hx7 : Cells W7 (w.heap.size + 1 + 1) 33 #[.int .i64 e.k, .int .i64 e.c, u] := (hgrow7.block _ (by have := H5.out.2.2.2.1.lt; simp; omega) (fun e' => by have := (hown5.lt _ e'.symm).1; have := HW.out.2.2.2; omega)).trans ((Below.heap_alloc _ _ _ H5.out.2.2.2.1.lt).trans H5.out.2.2.2.1)
          have hgr57 : W5.grownBy W7 u.ownBlock := ⟨hgrow7.os, hgrow7.tape, hgrow7.output, by have := hgrow7.size; simp at this; omega, fun k hk hn => (hgrow7.block k (by simp; omega) hn).trans (Below.heap_alloc _ _ _ hk)⟩
          have hk7 : Kids W7 W3.heap.size (.slice (some ⟨g, 0, none⟩) (j + 1) cap1) e.ks (j + 1) (cs ++ [.int .i64 f.k, .int .i64 f.c, .slice A5 f.ks.length c5]) := Kids.step (g := g) (w := wr) HK.out.2.2.2.1 HK.out.2.2.2.2.2 (fun b hb => (HK.out.2.2.1.lt b hb).2) H5.out.1 H5.out.2.1 HK.out.2.1.size hgr57 rfl (by rcases hat7 with h | h; exact .inl h; exact .inr (by omega))
          have d7 := hx7.cell 2
          simp at d7
          have f7 := hx7.froz 2
          have H7 := Lib.hid (And.intro hown7 (And.intro hg7 (And.intro hx7 hk7)))
          have hne7 : g ≠ w.heap.size + 1 + 1 := by have := (hown7.lt g rfl).1; have := HW.out.2.2.2; omega
          clear hown7 hgrow7 hat7 hlt7 hg7 hx7 hgr57 hk7 NB hown5
          refine hK.out _ _ H7.out.2.1 (fun hH => ?_)
          clear hK K
          try simp only [Act.put, List.setIfInBounds_toArray, List.set_cons_zero, List.set_cons_succ]
          refine wpAnyH_take (i := 10) (oi := { dst := some 27, op := Op.fieldAddr 33 (Operand.tmp 3) 2, type := 0, pos := "law.go:20", after := #[{ on := 0, ground := Ground.phase }, { on := 1, ground := Ground.phase }, { on := 2, ground := Ground.phase }, { on := 3, ground := Ground.phase }, { on := 4, ground := Ground.phase }, { on := 5, ground := Ground.phase }, { on := 6, ground := Ground.phase }, { on := 7, ground := Ground.phase }, { on := 8, ground := Ground.phase }, { on := 9, ground := Ground.phase }], guard := none }) (v := ?_) rfl (by kernel_rfl) (by kernel_rfl) (by kernel_rfl) (fun _ _ _ h => h) (Or.inl ⟨by rfl, ?_⟩) (by exact hH) ?_
          rotate_left
          · intro W hSw
            go_simp
            try with_reducible rfl
          try simp only [Act.put, List.setIfInBounds_toArray, List.set_cons_zero, List.set_cons_succ]
          refine wpAnyH_ready (rs := [11]) (by kernel_rfl) (by simp) ?_
          refine (AllReadyH.cons (o := { dst := none, op := Op.store 31 (Operand.tmp 27) (Operand.tmp 26), type := 0, pos := "law.go:20", after := #[{ on := 10, ground := Ground.data }, { on := 9, ground := Ground.data }, { on := 9, ground := Ground.chain }, { on := 0, ground := Ground.phase }, { on := 1, ground := Ground.phase }, { on := 2, ground := Ground.phase }, { on := 3, ground := Ground.phase }, { on := 4, ground := Ground.phase }, { on := 5, ground := Ground.phase }, { on := 6, ground := Ground.phase }, { on := 7, ground := Ground.phase }, { on := 8, ground := Ground.phase }, { on := 9, ground := Ground.phase }], guard := none }) rfl (fun K hK => ?_) AllReadyH.nil)
          go_simp
          have hg8 : W3.grownBy (W7.setCell ⟨w.heap.size + 1 + 1, 2, none⟩ (.slice (some ⟨g, 0, none⟩) (j + 1) cap1)) (some (w.heap.size + 1 + 1)) := H7.out.2.1.trans (grown_setc _ _ _ _)
          have HG8 := Lib.hid hg8
          clear hg8
          refine hK.out _ _ HG8.out (fun hH => ?_)
          clear hK K
          try simp only [Act.put, List.setIfInBounds_toArray, List.set_cons_zero, List.set_cons_succ]
          refine wpAnyH_done (by kernel_rfl) ?_ _
          refine NoPanic.normal ?_
          have hx8 : Cells (W7.setCell ⟨w.heap.size + 1 + 1, 2, none⟩ (.slice (some ⟨g, 0, none⟩) (j + 1) cap1)) (w.heap.size + 1 + 1) 33 #[.int .i64 e.k, .int .i64 e.c, .slice (some ⟨g, 0, none⟩) (j + 1) cap1] := H7.out.2.2.1.set 2 _
          have ho8 : (W7.setCell ⟨w.heap.size + 1 + 1, 2, none⟩ (.slice (some ⟨g, 0, none⟩) (j + 1) cap1)).ownsRow W3.heap.size 33 3 (.slice (some ⟨g, 0, none⟩) (j + 1) cap1) (j + 1) (cs ++ [.int .i64 f.k, .int .i64 f.c, .slice A5 f.ks.length c5]) := World.ownsRow.kept H7.out.1 (grown_setc _ _ _ _) (.inr (by show some g ≠ _; simpa using hne7))
          have hk8 : Kids (W7.setCell ⟨w.heap.size + 1 + 1, 2, none⟩ (.slice (some ⟨g, 0, none⟩) (j + 1) cap1)) W3.heap.size (.slice (some ⟨g, 0, none⟩) (j + 1) cap1) e.ks (j + 1) (cs ++ [.int .i64 f.k, .int .i64 f.c, .slice A5 f.ks.length c5]) := H7.out.2.2.2.blocks (fun b hb _ => Below.heap_setCell _ _ _ _ (by have := HW.out.2.2.2; simp; omega)) (by simp [World.setCell])
          have hend : ∃ (j' : Nat) (u' : Value) (cs' : List Value), Value.int .i64 ((j : Int) + 1) = .int .i64 (j' : Int) ∧ j' ≤ n ∧ Cells (W7.setCell ⟨w.heap.size + 1 + 1, 2, none⟩ (.slice (some ⟨g, 0, none⟩) (j + 1) cap1)) (w.heap.size + 1 + 1) 33 #[.int .i64 e.k, .int .i64 e.c, u'] ∧ W3.grownBy (W7.setCell ⟨w.heap.size + 1 + 1, 2, none⟩ (.slice (some ⟨g, 0, none⟩) (j + 1) cap1)) (some (w.heap.size + 1 + 1)) ∧ (W7.setCell ⟨w.heap.size + 1 + 1, 2, none⟩ (.slice (some ⟨g, 0, none⟩) (j + 1) cap1)).ownsRow W3.heap.size 33 3 u' j' cs' ∧ Kids (W7.setCell ⟨w.heap.size + 1 + 1, 2, none⟩ (.slice (some ⟨g, 0, none⟩) (j + 1) cap1)) W3.heap.size u' e.ks j' cs' := ⟨j + 1, _, _, by simp, by omega, hx8, HG8.out, ho8, hk8⟩
          have HEND := Lib.hid hend
          clear hx8 ho8 hk8 hend d7 f7 hne7
          go_wp2_with fail
          go_roundw
          case rel => exact HEND.out
          case measure => simp [RowKit.intOf]; omega
        · go_simp
          go_at_call 16
          refine HC.out.mono ?_
          rintro r W5 ⟨v5, rfl, hN5, hb5⟩
          have hN5 : NdP W5 (fun b => wr.heap.size ≤ b ∧ b < W5.heap.size) f v5 := hN5
          have hb5 : Below wr.heap.size wr W5 := ⟨hb5.os, hb5.tape, hb5.output, hb5.size, hb5.block⟩
          obtain ⟨_, _, A5, c5, rfl, _⟩ := NdP_iff.1 hN5
          have hg5 : W3.grownBy W5 (some (w.heap.size + 1 + 1)) := HK.out.2.1.trans (grownB hb5 _)
          have hx5 : Cells W5 (w.heap.size + 1 + 1) 33 #[.int .i64 e.k, .int .i64 e.c, u] := (hb5.block _ HK.out.1.lt).trans HK.out.1
          have hd5 := hx5.cell 2
          simp at hd5
          have ho5 : W5.ownsRow W3.heap.size 33 3 u j cs := ownsRow_below HK.out.2.2.1 hb5
          have H5 := Lib.hid (And.intro hN5 (And.intro hb5 (And.intro hg5 (And.intro hx5 (And.intro hd5 ho5)))))
          clear hN5 hb5 hg5 hx5 hd5 ho5
          try go_wp2_with fail
          refine hK.out _ _ H5.out.2.2.1 (fun hH => ?_)
          clear hK K
          try simp only [Act.put, List.setIfInBounds_toArray, List.set_cons_zero, List.set_cons_succ]
          refine wpAnyH_ready (rs := [1, 8]) (by kernel_rfl) (by simp) ?_
          refine (AllReadyH.cons (o := { dst := some 18, op := Op.load 31 (Operand.tmp 17), type := 31, pos := "law.go:20", after := #[{ on := 0, ground := Ground.data }], guard := none }) rfl (fun K hK => ?_) (AllReadyH.cons (o := { dst := some 25, op := Op.buildSlice 31 1 #[(0, Operand.tmp 24)], type := 31, pos := "law.go:20", after := #[{ on := 7, ground := Ground.data }], guard := none }) rfl (fun K hK => ?_) AllReadyH.nil))
          · have pl := H5.out.2.2.2.2.1
            go_simp
            refine hK.out _ _ H5.out.2.2.1 (fun hH => ?_)
            clear hK K pl
            try simp only [Act.put, List.setIfInBounds_toArray, List.set_cons_zero, List.set_cons_succ]
            refine wpAnyH_ready (rs := [8]) (by kernel_rfl) (by simp) ?_
            refine (AllReadyH.cons (o := { dst := some 25, op := Op.buildSlice 31 1 #[(0, Operand.tmp 24)], type := 31, pos := "law.go:20", after := #[{ on := 7, ground := Ground.data }], guard := none }) rfl (fun K hK => ?_) AllReadyH.nil)
            go_simp
            have hg6 : W3.grownBy (W5.alloc (.cells #[.int .i64 f.k, .int .i64 f.c, .slice A5 f.ks.length c5] 33)) (some (w.heap.size + 1 + 1)) := H5.out.2.2.1.trans (World.grownBy_alloc _ _ _)
            have HG6 := Lib.hid hg6
            clear hg6
            refine hK.out _ _ HG6.out (fun hH => ?_)
            clear hK K
            try simp only [Act.put, List.setIfInBounds_toArray, List.set_cons_zero, List.set_cons_succ]
            refine wpAnyH_ready (rs := [9]) (by kernel_rfl) (by simp) ?_
            refine (AllReadyH.cons (o := { dst := some 26, op := Op.call { callee := Callee.builtin Builtin.append, args := #[Operand.tmp 18, Operand.tmp 25], argTypes := #[31, 31] }, type := 31, pos := "law.go:20", after := #[{ on := 1, ground := Ground.data }, { on := 8, ground := Ground.data }, { on := 7, ground := Ground.chain }], guard := none }) rfl (fun K hK => ?_) AllReadyH.nil)
            have NB := World.news_of_block (heap_alloc_new W5 (.cells #[.int .i64 f.k, .int .i64 f.c, .slice A5 f.ks.length c5] 33))
            refine step_append_lies _ rfl (.tmp 18) (.tmp 25) 31 rfl W3.heap.size 33 i0 _ 3 40 Try.underlying31 hi hz0 hz1 hz2 rfl (by omega) u j cs rfl (H5.out.2.2.2.2.2.alloc _) ⟨W5.heap.size, 0, none⟩ 1 1 [.int .i64 f.k, .int .i64 f.c, .slice A5 f.ks.length c5] rfl rfl NB (by simp [Value.oneCell']) (by omega) (by unfold maxLen; omega) (by omega) (by have := H5.out.2.2.1.size; simp; omega) (W5.heap.size + 1) (by simp) ?_
            intro g cap1 W7 hown7 hgrow7 hat7 hlt7
            have hown5 := H5.out.2.2.2.2.2
            have hg7 : W3.grownBy W7 (some (w.heap.size + 1 + 1)) := ⟨hgrow7.os.trans HG6.out.os, hgrow7.tape.trans HG6.out.tape, hgrow7.output.trans HG6.out.output, Nat.le_trans HG6.out.size hgrow7.size, fun k hk hn => (hgrow7.block k (Nat.lt_of_lt_of_le hk HG6.out.size) (fun e' => by have := (hown5.lt k e'.symm).1; omega)).trans (HG6.out.block k hk hn)⟩
            have hx7 : Cells W7 (w.heap.size + 1 + 1) 33 #[.int .i64 e.k, .int .i64 e.c, u] := (hgrow7.block _ (by have := H5.out.2.2.2.1.lt; simp; omega) (fun e' => by have := (hown5.lt _ e'.symm).1; have := HW.out.2.2.2; omega)).trans ((Below.heap_alloc _ _ _ H5.out.2.2.2.1.lt).trans H5.out.2.2.2.1)
            have hgr57 : W5.grownBy W7 u.ownBlock := ⟨hgrow7.os, hgrow7.tape, hgrow7.output, by have := hgrow7.size; simp at this; omega, fun k hk hn => (hgrow7.block k (by simp; omega) hn).trans (Below.heap_alloc _ _ _ hk)⟩
            have hk7 : Kids W7 W3.heap.size (.slice (some ⟨g, 0, none⟩) (j + 1) cap1) e.ks (j + 1) (cs ++ [.int .i64 f.k, .int .i64 f.c, .slice A5 f.ks.length c5]) := Kids.step (g := g) (w := wr) HK.out.2.2.2.1 HK.out.2.2.2.2.2 (fun b hb => (HK.out.2.2.1.lt b hb).2) H5.out.1 H5.out.2.1 HK.out.2.1.size hgr57 rfl (by rcases hat7 with h | h; exact .inl h; exact .inr (by omega))
            have d7 := hx7.cell 2
            simp at d7
            have f7 := hx7.froz 2
            have H7 := Lib.hid (And.intro hown7 (And.intro hg7 (And.intro hx7 hk7)))
            have hne7 : g ≠ w.heap.size + 1 + 1 := by have := (hown7.lt g rfl).1; have := HW.out.2.2.2; omega
            clear hown7 hgrow7 hat7 hlt7 hg7 hx7 hgr57 hk7 NB hown5
            refine hK.out _ _ H7.out.2.1 (fun hH => ?_)
            clear hK K
            try simp only [Act.put, List.setIfInBounds_toArray, List.set_cons_zero, List.set_cons_succ]
            refine wpAnyH_take (i := 10) (oi := { dst := some 27, op := Op.fieldAddr 33 (Operand.tmp 3) 2, type := 0, pos := "law.go:20", after := #[{ on := 0, ground := Ground.phase }, { on := 1, ground := Ground.phase }, { on := 2, ground := Ground.phase }, { on := 3, ground := Ground.phase }, { on := 4, ground := Ground.phase }, { on := 5, ground := Ground.phase }, { on := 6, ground := Ground.phase }, { on := 7, ground := Ground.phase }, { on := 8, ground := Ground.phase }, { on := 9, ground := Ground.phase }], guard := none }) (v := ?_) rfl (by kernel_rfl) (by kernel_rfl) (by kernel_rfl) (fun _ _ _ h => h) (Or.inl ⟨by rfl, ?_⟩) (by exact hH) ?_
            rotate_left
            · intro W hSw
              go_simp
              try with_reducible rfl
            try simp only [Act.put, List.setIfInBounds_toArray, List.set_cons_zero, List.set_cons_succ]
            refine wpAnyH_ready (rs := [11]) (by kernel_rfl) (by simp) ?_
            refine (AllReadyH.cons (o := { dst := none, op := Op.store 31 (Operand.tmp 27) (Operand.tmp 26), type := 0, pos := "law.go:20", after := #[{ on := 10, ground := Ground.data }, { on := 9, ground := Ground.data }, { on := 9, ground := Ground.chain }, { on := 0, ground := Ground.phase }, { on := 1, ground := Ground.phase }, { on := 2, ground := Ground.phase }, { on := 3, ground := Ground.phase }, { on := 4, ground := Ground.phase }, { on := 5, ground := Ground.phase }, { on := 6, ground := Ground.phase }, { on := 7, ground := Ground.phase }, { on := 8, ground := Ground.phase }, { on := 9, ground := Ground.phase }], guard := none }) rfl (fun K hK => ?_) AllReadyH.nil)
            go_simp
            have hg8 : W3.grownBy (W7.setCell ⟨w.heap.size + 1 + 1, 2, none⟩ (.slice (some ⟨g, 0, none⟩) (j + 1) cap1)) (some (w.heap.size + 1 + 1)) := H7.out.2.1.trans (grown_setc _ _ _ _)
            have HG8 := Lib.hid hg8
            clear hg8
            refine hK.out _ _ HG8.out (fun hH => ?_)
            clear hK K
            try simp only [Act.put, List.setIfInBounds_toArray, List.set_cons_zero, List.set_cons_succ]
            refine wpAnyH_done (by kernel_rfl) ?_ _
            refine NoPanic.normal ?_
            have hx8 : Cells (W7.setCell ⟨w.heap.size + 1 + 1, 2, none⟩ (.slice (some ⟨g, 0, none⟩) (j + 1) cap1)) (w.heap.size + 1 + 1) 33 #[.int .i64 e.k, .int .i64 e.c, .slice (some ⟨g, 0, none⟩) (j + 1) cap1] := H7.out.2.2.1.set 2 _
            have ho8 : (W7.setCell ⟨w.heap.size + 1 + 1, 2, none⟩ (.slice (some ⟨g, 0, none⟩) (j + 1) cap1)).ownsRow W3.heap.size 33 3 (.slice (some ⟨g, 0, none⟩) (j + 1) cap1) (j + 1) (cs ++ [.int .i64 f.k, .int .i64 f.c, .slice A5 f.ks.length c5]) := World.ownsRow.kept H7.out.1 (grown_setc _ _ _ _) (.inr (by show some g ≠ _; simpa using hne7))
            have hk8 : Kids (W7.setCell ⟨w.heap.size + 1 + 1, 2, none⟩ (.slice (some ⟨g, 0, none⟩) (j + 1) cap1)) W3.heap.size (.slice (some ⟨g, 0, none⟩) (j + 1) cap1) e.ks (j + 1) (cs ++ [.int .i64 f.k, .int .i64 f.c, .slice A5 f.ks.length c5]) := H7.out.2.2.2.blocks (fun b hb _ => Below.heap_setCell _ _ _ _ (by have := HW.out.2.2.2; simp; omega)) (by simp [World.setCell])
            have hend : ∃ (j' : Nat) (u' : Value) (cs' : List Value), Value.int .i64 ((j : Int) + 1) = .int .i64 (j' : Int) ∧ j' ≤ n ∧ Cells (W7.setCell ⟨w.heap.size + 1 + 1, 2, none⟩ (.slice (some ⟨g, 0, none⟩) (j + 1) cap1)) (w.heap.size + 1 + 1) 33 #[.int .i64 e.k, .int .i64 e.c, u'] ∧ W3.grownBy (W7.setCell ⟨w.heap.size + 1 + 1, 2, none⟩ (.slice (some ⟨g, 0, none⟩) (j + 1) cap1)) (some (w.heap.size + 1 + 1)) ∧ (W7.setCell ⟨w.heap.size + 1 + 1, 2, none⟩ (.slice (some ⟨g, 0, none⟩) (j + 1) cap1)).ownsRow W3.heap.size 33 3 u' j' cs' ∧ Kids (W7.setCell ⟨w.heap.size + 1 + 1, 2, none⟩ (.slice (some ⟨g, 0, none⟩) (j + 1) cap1)) W3.heap.size u' e.ks j' cs' := ⟨j + 1, _, _, by simp, by omega, hx8, HG8.out, ho8, hk8⟩
            have HEND := Lib.hid hend
            clear hx8 ho8 hk8 hend d7 f7 hne7
            go_wp2_with fail
            go_roundw
            case rel => exact HEND.out
            case measure => simp [RowKit.intOf]; omega
          · go_simp
            have hg6 : W3.grownBy (W5.alloc (.cells #[.int .i64 f.k, .int .i64 f.c, .slice A5 f.ks.length c5] 33)) (some (w.heap.size + 1 + 1)) := H5.out.2.2.1.trans (World.grownBy_alloc _ _ _)
            have HG6 := Lib.hid hg6
            clear hg6
            refine hK.out _ _ HG6.out (fun hH => ?_)
            clear hK K
            try simp only [Act.put, List.setIfInBounds_toArray, List.set_cons_zero, List.set_cons_succ]
            refine wpAnyH_ready (rs := [1]) (by kernel_rfl) (by simp) ?_
            refine (AllReadyH.cons (o := { dst := some 18, op := Op.load 31 (Operand.tmp 17), type := 31, pos := "law.go:20", after := #[{ on := 0, ground := Ground.data }], guard := none }) rfl (fun K hK => ?_) AllReadyH.nil)
            have pl := (show (W5.alloc (.cells #[.int .i64 f.k, .int .i64 f.c, .slice A5 f.ks.length c5] 33)).cell? ⟨w.heap.size + 1 + 1, 2, none⟩ = some u from (World.cell?_alloc_lt _ _ _ H5.out.2.2.2.1.lt).trans H5.out.2.2.2.2.1)
            go_simp
            refine hK.out _ _ HG6.out (fun hH => ?_)
            clear hK K pl
            try simp only [Act.put, List.setIfInBounds_toArray, List.set_cons_zero, List.set_cons_succ]
            refine wpAnyH_ready (rs := [9]) (by kernel_rfl) (by simp) ?_
            refine (AllReadyH.cons (o := { dst := some 26, op := Op.call { callee := Callee.builtin Builtin.append, args := #[Operand.tmp 18, Operand.tmp 25], argTypes := #[31, 31] }, type := 31, pos := "law.go:20", after := #[{ on := 1, ground := Ground.data }, { on := 8, ground := Ground.data }, { on := 7, ground := Ground.chain }], guard := none }) rfl (fun K hK => ?_) AllReadyH.nil)
            have NB := World.news_of_block (heap_alloc_new W5 (.cells #[.int .i64 f.k, .int .i64 f.c, .slice A5 f.ks.length c5] 33))
            refine step_append_lies _ rfl (.tmp 18) (.tmp 25) 31 rfl W3.heap.size 33 i0 _ 3 40 Try.underlying31 hi hz0 hz1 hz2 rfl (by omega) u j cs rfl (H5.out.2.2.2.2.2.alloc _) ⟨W5.heap.size, 0, none⟩ 1 1 [.int .i64 f.k, .int .i64 f.c, .slice A5 f.ks.length c5] rfl rfl NB (by simp [Value.oneCell']) (by omega) (by unfold maxLen; omega) (by omega) (by have := H5.out.2.2.1.size; simp; omega) (W5.heap.size + 1) (by simp) ?_
            intro g cap1 W7 hown7 hgrow7 hat7 hlt7
            have hown5 := H5.out.2.2.2.2.2
            have hg7 : W3.grownBy W7 (some (w.heap.size + 1 + 1)) := ⟨hgrow7.os.trans HG6.out.os, hgrow7.tape.trans HG6.out.tape, hgrow7.output.trans HG6.out.output, Nat.le_trans HG6.out.size hgrow7.size, fun k hk hn => (hgrow7.block k (Nat.lt_of_lt_of_le hk HG6.out.size) (fun e' => by have := (hown5.lt k e'.symm).1; omega)).trans (HG6.out.block k hk hn)⟩
            have hx7 : Cells W7 (w.heap.size + 1 + 1) 33 #[.int .i64 e.k, .int .i64 e.c, u] := (hgrow7.block _ (by have := H5.out.2.2.2.1.lt; simp; omega) (fun e' => by have := (hown5.lt _ e'.symm).1; have := HW.out.2.2.2; omega)).trans ((Below.heap_alloc _ _ _ H5.out.2.2.2.1.lt).trans H5.out.2.2.2.1)
            have hgr57 : W5.grownBy W7 u.ownBlock := ⟨hgrow7.os, hgrow7.tape, hgrow7.output, by have := hgrow7.size; simp at this; omega, fun k hk hn => (hgrow7.block k (by simp; omega) hn).trans (Below.heap_alloc _ _ _ hk)⟩
            have hk7 : Kids W7 W3.heap.size (.slice (some ⟨g, 0, none⟩) (j + 1) cap1) e.ks (j + 1) (cs ++ [.int .i64 f.k, .int .i64 f.c, .slice A5 f.ks.length c5]) := Kids.step (g := g) (w := wr) HK.out.2.2.2.1 HK.out.2.2.2.2.2 (fun b hb => (HK.out.2.2.1.lt b hb).2) H5.out.1 H5.out.2.1 HK.out.2.1.size hgr57 rfl (by rcases hat7 with h | h; exact .inl h; exact .inr (by omega))
            have d7 := hx7.cell 2
            simp at d7
            have f7 := hx7.froz 2
            have H7 := Lib.hid (And.intro hown7 (And.intro hg7 (And.intro hx7 hk7)))
            have hne7 : g ≠ w.heap.size + 1 + 1 := by have := (hown7.lt g rfl).1; have := HW.out.2.2.2; omega
            clear hown7 hgrow7 hat7 hlt7 hg7 hx7 hgr57 hk7 NB hown5
            refine hK.out _ _ H7.out.2.1 (fun hH => ?_)
            clear hK K
            try simp only [Act.put, List.setIfInBounds_toArray, List.set_cons_zero, List.set_cons_succ]
            refine wpAnyH_take (i := 10) (oi := { dst := some 27, op := Op.fieldAddr 33 (Operand.tmp 3) 2, type := 0, pos := "law.go:20", after := #[{ on := 0, ground := Ground.phase }, { on := 1, ground := Ground.phase }, { on := 2, ground := Ground.phase }, { on := 3, ground := Ground.phase }, { on := 4, ground := Ground.phase }, { on := 5, ground := Ground.phase }, { on := 6, ground := Ground.phase }, { on := 7, ground := Ground.phase }, { on := 8, ground := Ground.phase }, { on := 9, ground := Ground.phase }], guard := none }) (v := ?_) rfl (by kernel_rfl) (by kernel_rfl) (by kernel_rfl) (fun _ _ _ h => h) (Or.inl ⟨by rfl, ?_⟩) (by exact hH) ?_
            rotate_left
            · intro W hSw
              go_simp
              try with_reducible rfl
            try simp only [Act.put, List.setIfInBounds_toArray, List.set_cons_zero, List.set_cons_succ]
            refine wpAnyH_ready (rs := [11]) (by kernel_rfl) (by simp) ?_
            refine (AllReadyH.cons (o := { dst := none, op := Op.store 31 (Operand.tmp 27) (Operand.tmp 26), type := 0, pos := "law.go:20", after := #[{ on := 10, ground := Ground.data }, { on := 9, ground := Ground.data }, { on := 9, ground := Ground.chain }, { on := 0, ground := Ground.phase }, { on := 1, ground := Ground.phase }, { on := 2, ground := Ground.phase }, { on := 3, ground := Ground.phase }, { on := 4, ground := Ground.phase }, { on := 5, ground := Ground.phase }, { on := 6, ground := Ground.phase }, { on := 7, ground := Ground.phase }, { on := 8, ground := Ground.phase }, { on := 9, ground := Ground.phase }], guard := none }) rfl (fun K hK => ?_) AllReadyH.nil)
            go_simp
            have hg8 : W3.grownBy (W7.setCell ⟨w.heap.size + 1 + 1, 2, none⟩ (.slice (some ⟨g, 0, none⟩) (j + 1) cap1)) (some (w.heap.size + 1 + 1)) := H7.out.2.1.trans (grown_setc _ _ _ _)
            have HG8 := Lib.hid hg8
            clear hg8
            refine hK.out _ _ HG8.out (fun hH => ?_)
            clear hK K
            try simp only [Act.put, List.setIfInBounds_toArray, List.set_cons_zero, List.set_cons_succ]
            refine wpAnyH_done (by kernel_rfl) ?_ _
            refine NoPanic.normal ?_
            have hx8 : Cells (W7.setCell ⟨w.heap.size + 1 + 1, 2, none⟩ (.slice (some ⟨g, 0, none⟩) (j + 1) cap1)) (w.heap.size + 1 + 1) 33 #[.int .i64 e.k, .int .i64 e.c, .slice (some ⟨g, 0, none⟩) (j + 1) cap1] := H7.out.2.2.1.set 2 _
            have ho8 : (W7.setCell ⟨w.heap.size + 1 + 1, 2, none⟩ (.slice (some ⟨g, 0, none⟩) (j + 1) cap1)).ownsRow W3.heap.size 33 3 (.slice (some ⟨g, 0, none⟩) (j + 1) cap1) (j + 1) (cs ++ [.int .i64 f.k, .int .i64 f.c, .slice A5 f.ks.length c5]) := World.ownsRow.kept H7.out.1 (grown_setc _ _ _ _) (.inr (by show some g ≠ _; simpa using hne7))
            have hk8 : Kids (W7.setCell ⟨w.heap.size + 1 + 1, 2, none⟩ (.slice (some ⟨g, 0, none⟩) (j + 1) cap1)) W3.heap.size (.slice (some ⟨g, 0, none⟩) (j + 1) cap1) e.ks (j + 1) (cs ++ [.int .i64 f.k, .int .i64 f.c, .slice A5 f.ks.length c5]) := H7.out.2.2.2.blocks (fun b hb _ => Below.heap_setCell _ _ _ _ (by have := HW.out.2.2.2; simp; omega)) (by simp [World.setCell])
            have hend : ∃ (j' : Nat) (u' : Value) (cs' : List Value), Value.int .i64 ((j : Int) + 1) = .int .i64 (j' : Int) ∧ j' ≤ n ∧ Cells (W7.setCell ⟨w.heap.size + 1 + 1, 2, none⟩ (.slice (some ⟨g, 0, none⟩) (j + 1) cap1)) (w.heap.size + 1 + 1) 33 #[.int .i64 e.k, .int .i64 e.c, u'] ∧ W3.grownBy (W7.setCell ⟨w.heap.size + 1 + 1, 2, none⟩ (.slice (some ⟨g, 0, none⟩) (j + 1) cap1)) (some (w.heap.size + 1 + 1)) ∧ (W7.setCell ⟨w.heap.size + 1 + 1, 2, none⟩ (.slice (some ⟨g, 0, none⟩) (j + 1) cap1)).ownsRow W3.heap.size 33 3 u' j' cs' ∧ Kids (W7.setCell ⟨w.heap.size + 1 + 1, 2, none⟩ (.slice (some ⟨g, 0, none⟩) (j + 1) cap1)) W3.heap.size u' e.ks j' cs' := ⟨j + 1, _, _, by simp, by omega, hx8, HG8.out, ho8, hk8⟩
            have HEND := Lib.hid hend
            clear hx8 ho8 hk8 hend d7 f7 hne7
            go_wp2_with fail
            go_roundw
            case rel => exact HEND.out
            case measure => simp [RowKit.intOf]; omega
      · obtain rfl : j = n := by omega
        have i1 : ¬ (j : Int) < (j : Int) := by omega
        have hown' : wr.ownsRow W3.heap.size 33 3 u e.ks.length cs := by rw [HN.out]; exact hown
        have hkids' : Kids wr W3.heap.size u e.ks e.ks.length cs := by rw [HN.out]; exact hkids
        obtain ⟨A6, c6, rfl, hkp⟩ := hkids'.full hown'
        rw [HN.out] at hx3
        have hx2 : Cells wr (w.heap.size + 1) 33 #[.int .i64 0, .int .i64 0, .slice none 0 0] := (hg.block _ H3.out.2.1.lt (by simp)).trans H3.out.2.1
        have e0 := hx3.cell 0
        have e1 := hx3.cell 1
        have e2 := hx3.cell 2
        have r0 := hx2.cell 0
        have r1 := hx2.cell 1
        have r2 := hx2.cell 2
        have s0 := hx2.froz 0
        have s1 := hx2.froz 1
        have s2 := hx2.froz 2
        simp at e0 e1 e2 r0 r1 r2
        have HK := Lib.hid (And.intro hx3 (And.intro hg (And.intro hkp hx2)))
        clear hx3 hg hown hkids hown' hkids' hkp hx2
        go_wp2_with fail
        have hy : Cells (((wr.setCell ⟨w.heap.size + 1, 0, none⟩ (.int .i64 e.k)).setCell ⟨w.heap.size + 1, 1, none⟩ (.int .i64 e.c)).setCell ⟨w.heap.size + 1, 2, none⟩ (.slice A6 j c6)) (w.heap.size + 1) 33 #[.int .i64 e.k, .int .i64 e.c, .slice A6 j c6] :=
          ((HK.out.2.2.2.set 0 (.int .i64 e.k)).set 1 (.int .i64 e.c)).set 2 (.slice A6 j c6)
        have hblk : ∀ b, b ≠ w.heap.size + 1 → (((wr.setCell ⟨w.heap.size + 1, 0, none⟩ (.int .i64 e.k)).setCell ⟨w.heap.size + 1, 1, none⟩ (.int .i64 e.c)).setCell ⟨w.heap.size + 1, 2, none⟩ (.slice A6 j c6)).heap[b]? = wr.heap[b]? := fun b hb =>
          (Below.heap_setCell _ _ _ _ hb).trans ((Below.heap_setCell _ _ _ _ hb).trans (Below.heap_setCell _ _ _ _ hb))
        have hsz : (((wr.setCell ⟨w.heap.size + 1, 0, none⟩ (.int .i64 e.k)).setCell ⟨w.heap.size + 1, 1, none⟩ (.int .i64 e.c)).setCell ⟨w.heap.size + 1, 2, none⟩ (.slice A6 j c6)).heap.size = wr.heap.size := by simp [World.setCell]
        have hg3 := HK.out.2.1
        have hz3 := HW.out.2.2.2
        have hs3 := hg3.size
        refine bodyPost_ret (v := .agg #[.int .i64 e.k, .int .i64 e.c, .slice A6 j c6]) (results_cell_row rfl _ _ (w.heap.size + 1) 33 #[.int .i64 e.k, .int .i64 e.c, .slice A6 j c6] (0, 0) _ rfl hy Try.underlying33 rfl (by kernel_rfl)) rfl ⟨_, rfl, ?_, ?_⟩
        · refine NdP_iff.2 ⟨H3.out.2.2.2.2.2.1, H3.out.2.2.2.2.2.2, A6, c6, by rw [HN.out], ?_⟩
          exact HK.out.2.2.1.blocks (fun b hb => ⟨by omega, by rw [hsz]; exact hb.2⟩) (fun b hb => hblk b (by omega))
        · exact ⟨hg3.os.trans H3.out.2.2.2.1.os, hg3.tape.trans H3.out.2.2.2.1.tape, hg3.output.trans H3.out.2.2.2.1.output, by rw [hsz]; omega, fun b hb => (hblk b (by omega)).trans ((hg3.block b (by omega) (by simp; omega)).trans (H3.out.2.2.2.1.block b hb))⟩
end Go.Proofs.Ytegkogadceodlaa
