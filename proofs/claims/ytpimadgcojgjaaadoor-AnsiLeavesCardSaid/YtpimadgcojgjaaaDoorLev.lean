/-
  AnsiLeaves: the walk of the law.
-/
import Derived.Test.YtpimadgcojgjaaaDoorPut
import Derived.Test.YtpimadgcojgjaaaDoorApt
import Derived.Test.YtpimadgcojgjaaaDoorApm
import Derived.Test.YtpimadgcojgjaaaDoorStw
namespace Go.Proofs.YtpimadgcojgjaaaDoor
open Go.RowKit Go.Shelf Go.Lib Go.Maps

/-- A slice of runes. -/
structure RN (w : World) (B : Nat) (xs : List Int) (A : Option Addr) (cap : Nat) : Prop where
  l : xs.length ≤ cap
  m : cap ≤ maxLen
  i : ∀ x ∈ xs, -2147483648 ≤ x ∧ x ≤ 2147483647
  r : xs ≠ [] → ∃ b o, A = some ⟨b, o, none⟩ ∧ b < B ∧ ∀ (i : Nat) (x : Int), xs[i]? = some x → w.cell? ⟨b, o + i, none⟩ = some (.int .i32 x)
theorem is_lit1 (w : World) (z : Int) (h : i64 z) : IS (w.alloc (.cells #[.int .i64 z] 3)) (w.alloc (.cells #[.int .i64 z] 3)).heap.size [z] (some ⟨w.heap.size, 0, none⟩) 1 :=
  ⟨Nat.le_refl _, by unfold maxLen; omega, fun x hx => by rw [List.mem_singleton.1 hx]; exact h, fun _ => ⟨w.heap.size, 0, rfl, by simp, fun i x hx => by
    rw [World.cell?_alloc_mark, Nat.zero_add]
    cases i with
    | zero => simp at hx; subst hx; rfl
    | succ i => simp at hx⟩⟩
set_option maxHeartbeats 16000000 in
set_option maxRecDepth 100000 in
theorem leavesLaw_any (zs : List Int) (A : Option Addr) (cap : Nat) (c : Nat) (hc : c < 256) (n : Nat) (hn : n ≤ 65535) (w : World) (hm : MX w) (hT : PT w) (h : RN w w.heap.size zs A cap) :
    Calls Tryd.prog 12 #[.slice A zs.length cap, .int .u8 (c : Int), .int .u16 (n : Int)] w fun r w' => r = .returned (.bool true) ∧ Below w.heap.size w w' := by
  obtain ⟨X, hX⟩ : ∃ X : Int, (c : Int) = X := ⟨_, rfl⟩
  obtain ⟨Y, hY⟩ : ∃ Y : Int, (n : Int) = Y := ⟨_, rfl⟩
  have y0 : 0 ≤ Y := by omega
  have y1 : Y ≤ 65535 := by omega
  have hlen : zs.length ≤ 9223372036854775807 := by have := h.l; have := h.m; unfold maxLen at this; omega
  by_cases hl : 40 < zs.length
  · have hA := awake_any w hm
    obtain ⟨N, hN⟩ : ∃ N, zs.length = N := ⟨_, rfl⟩
    rw [hN] at hl hlen ⊢
    rw [hX, hY]
    have HA := Lib.hid hA
    have i1 : (40 : Int) < (N : Int) := by omega
    clear h hN hA hm hT hX hY hl
    go_enter Tryd.func12, Tryd.ntmps12
    go_wp2_with fail
    refine HA.out.mono ?_
    rintro r w1 ⟨rfl, hb1⟩
    have HB := Lib.hid hb1
    clear hb1
    go_wp2_with fail
    go_ret
    exact ⟨rfl, HB.out⟩
  have KW : ∀ W, Below w.heap.size w W → ∀ g, IS W W.heap.size [Y] (some ⟨g, 0, none⟩) 1 → Calls Tryd.prog 31 #[.int .u8 X, .slice (some ⟨g, 0, none⟩) 1 1] W fun r w' => r = .returned (.string (strB (writeU c [Y]))) ∧ Below W.heap.size W w' := fun W hb g hi => write_any c X hX.symm hc [Y] (some ⟨g, 0, none⟩) 1 W hi (by simp) (hT.on hb)
  have hWl : (writeU c [Y]).length ≤ 8 := by rw [← hY]; exact write_len c n hn
  have hWs : ∀ m, stripK 0 (nats (writeU c [Y]) ++ m) = stripK 0 m := fun m => by rw [← hY]; exact strip_write hc n hn m
  obtain ⟨U, hU⟩ : ∃ U, writeU c [Y] = U := ⟨_, rfl⟩
  rw [hU] at KW hWl hWs
  rw [hX, hY]
  obtain ⟨N, hN⟩ : ∃ N, zs.length = N := ⟨_, rfl⟩
  rw [hN] at hl hlen ⊢
  have i1 : ¬ (40 : Int) < (N : Int) := by omega
  have HA := Lib.hid (And.intro (awake_any w hm) (And.intro KW (And.intro hWl (And.intro hWs (And.intro h hN)))))
  clear KW hWl hWs h hN hU hX hY hm hT
  go_enter Tryd.func12, Tryd.ntmps12
  go_wp2_with fail
  refine HA.out.1.mono ?_
  rintro r w0 ⟨rfl, hb0⟩
  have HB0 := Lib.hid hb0
  clear hb0
  go_wp2_with fail
  go_loopw [7, 8, 9] (fun v u i wr => ∃ (k : Nat) (L1 L2 : List Nat), i = .int .i64 (k : Int) ∧ k ≤ N ∧ OwnB wr w.heap.size L1 v ∧ OwnB wr w.heap.size L2 u ∧ Apart v u ∧ L1.length ≤ 4 * k ∧ L2.length ≤ 12 * k ∧ (∀ x ∈ L1, x ≠ 27) ∧ (∀ x ∈ L1, x < 256) ∧ (∀ x ∈ L2, x < 256) ∧ (∀ m, stripK 0 (L2 ++ m) = L1 ++ stripK 0 m) ∧ Below w.heap.size w wr) (fun _ _ i _ => N - (RowKit.intOf i).toNat)
  case atStart => exact ⟨0, [], [], by go_num, by omega, ownB_nil _ _, ownB_nil _ _, apart_nil _, by simp, by simp, by simp, by simp, by simp, fun m => rfl, HB0.out⟩
  case round =>
    obtain ⟨k, L1, L2, rfl, hk, o7, o8, hap, l1, l2, n27, b1, b2, hst, hb⟩ := hrel
    by_cases hlt : k < N
    case neg =>
      obtain rfl : k = N := by omega
      have i2 : ¬ (k : Int) < (k : Int) := by omega
      obtain ⟨A7, c7, e7, B7⟩ := o7.by b1
      obtain ⟨A8, c8, e8, B8⟩ := o8.by b2
      have hs1 : stripK 0 L1 = L1 := strip_same L1 n27
      have hs2 : stripK 0 L2 = L1 := by
        have := hst []
        rw [List.append_nil] at this
        rw [this]
        show L1 ++ [] = L1
        exact List.append_nil L1
      have K1 := fun W (hb2 : Below wr.heap.size wr W) => strip_any L1 A7 c7 (by omega) W (B7.on hb2)
      have K2 := fun W (hb2 : Below wr.heap.size wr W) => strip_any L2 A8 c8 (by omega) W (B8.on hb2)
      rw [hs1] at K1
      rw [hs2] at K2
      have hcv := fun A3 c3 W (hb : BY W W.heap.size L1 A3 c3) => conv_by hb
      obtain ⟨Z, hZ⟩ : ∃ Z : ByteArray, (⟨(u8s L1).toArray⟩ : ByteArray) = Z := ⟨_, rfl⟩
      rw [hZ] at hcv
      obtain ⟨n1, hn1⟩ : ∃ n, L1.length = n := ⟨_, rfl⟩
      obtain ⟨n2, hn2⟩ : ∃ n, L2.length = n := ⟨_, rfl⟩
      rw [hn1] at K1 hcv e7
      rw [hn2] at K2 e8
      subst e7 e8
      have HE := Lib.hid (And.intro K1 (And.intro K2 (And.intro hcv (And.intro b1 (And.intro hn1 (And.intro B7 hb))))))
      have HS0 := Lib.hid (show Below wr.heap.size wr wr.drew from (Below.refl _ _).drew)
      obtain ⟨wd, hwd⟩ : ∃ W, wr.drew = W := ⟨_, rfl⟩
      have HWD := Lib.hid hwd
      have HSd := Lib.hid (show Below wr.heap.size wr wd by rw [← hwd]; exact HS0.out)
      have CV : ∀ W, Below wr.heap.size wr W → (convert 22 9 (.slice A7 n1 c7)).run Tryd.prog W = .ok (.string Z) W := fun W hb2 => HE.out.2.2.1 A7 c7 W (HE.out.2.2.2.2.2.1.on hb2)
      have hz : (Z.toList == Z.toList) = true := by simp
      have HCV := Lib.hid CV
      clear CV hwd K1 K2 hcv hs1 hs2 B7 B8 b1 b2 o7 o8 hap l1 l2 n27 hst hb hZ hn1 hn2
      go_wp2_with fail
      refine wp_region_noPanic ?_
      refine wp_region_held_drew (S := fun W => Below wr.heap.size wr W) (by kernel_rfl) HS0.out (fun hH => ?_)
      rw [HWD.out]
      have hH := HSd.out
      refine wpAnyH_take (i := 0) (oi := { dst := some 50, op := Op.move (Operand.tmp 7), type := 22, pos := "law.go:122", after := #[], guard := none }) (v := ?_) rfl (by kernel_rfl) (by kernel_rfl) (by kernel_rfl) (fun _ _ _ h => h) (Or.inl ⟨by rfl, ?_⟩) (by exact hH) ?_
      rotate_left
      · intro W hSw
        go_simp
        try with_reducible rfl
      try simp only [Act.put, List.setIfInBounds_toArray, List.set_cons_zero, List.set_cons_succ]
      refine wpAnyH_take (i := 3) (oi := { dst := some 53, op := Op.move (Operand.tmp 7), type := 22, pos := "law.go:122", after := #[], guard := none }) (v := ?_) rfl (by kernel_rfl) (by kernel_rfl) (by kernel_rfl) (fun _ _ _ h => h) (Or.inl ⟨by rfl, ?_⟩) (by exact hH) ?_
      rotate_left
      · intro W hSw
        go_simp
        try with_reducible rfl
      try simp only [Act.put, List.setIfInBounds_toArray, List.set_cons_zero, List.set_cons_succ]
      refine wpAnyH_take (i := 4) (oi := { dst := some 54, op := Op.convert 22 9 (Operand.tmp 53), type := 9, pos := "law.go:122", after := #[{ on := 3, ground := Ground.data }], guard := none }) (v := ?_) rfl (by kernel_rfl) (by kernel_rfl) (by kernel_rfl) (fun _ _ _ h => h) (Or.inl ⟨by rfl, ?_⟩) (by exact hH) ?_
      rotate_left
      · intro W hSw
        have q := HCV.out W hSw
        go_simp
        try with_reducible rfl
      try simp only [Act.put, List.setIfInBounds_toArray, List.set_cons_zero, List.set_cons_succ]
      refine wpAnyH_ready (rs := [1]) (by kernel_rfl) (by simp) ?_
      refine AllReadyH.cons (o := { dst := some 51, op := Op.call { callee := Callee.value (Operand.func 29), args := #[Operand.tmp 50], argTypes := #[22] }, type := 22, pos := "law.go:122", after := #[{ on := 0, ground := Ground.data }], guard := none }) rfl (fun K hK => ?_) AllReadyH.nil
      go_simp
      go_at_call 29
      refine (HE.out.1 wd HSd.out).mono ?_
      rintro r W1 ⟨v4, rfl, ov, hbk⟩
      obtain ⟨A4, c4, ev, BV⟩ := ov.by HE.out.2.2.2.1
      rw [HE.out.2.2.2.2.1] at ev
      subst ev
      have HS1 := Lib.hid (And.intro (HSd.out.trans (hbk.mono HSd.out.size)) (HE.out.2.2.1 A4 c4 W1 BV))
      clear hbk ov BV
      refine hK.out _ _ HS1.out.1 (fun hH => ?_)
      clear hK K
      try simp only [Act.put, List.setIfInBounds_toArray, List.set_cons_zero, List.set_cons_succ]
      refine wpAnyH_ready (rs := [2]) (by kernel_rfl) (by simp) ?_
      refine AllReadyH.cons (o := { dst := some 52, op := Op.convert 22 9 (Operand.tmp 51), type := 9, pos := "law.go:122", after := #[{ on := 1, ground := Ground.data }], guard := none }) rfl (fun K hK => ?_) AllReadyH.nil
      have q := HS1.out.2
      go_simp
      refine hK.out _ _ HS1.out.1 (fun hH => ?_)
      clear hK K q
      try simp only [Act.put, List.setIfInBounds_toArray, List.set_cons_zero, List.set_cons_succ]
      refine wpAnyH_take (i := 5) (oi := { dst := some 55, op := Op.binOp BinOp.eql 9 (Operand.tmp 52) (Operand.tmp 54) 9, type := 4, pos := "law.go:122", after := #[{ on := 2, ground := Ground.data }, { on := 4, ground := Ground.data }], guard := none }) (v := ?_) rfl (by kernel_rfl) (by kernel_rfl) (by kernel_rfl) (fun _ _ _ h => h) (Or.inl ⟨by rfl, ?_⟩) (by exact hH) ?_
      rotate_left
      · intro W hSw
        go_simp
        try with_reducible rfl
      try simp only [Act.put, List.setIfInBounds_toArray, List.set_cons_zero, List.set_cons_succ]
      refine wpAnyH_take (i := 6) (oi := { dst := some 56, op := Op.move (Operand.tmp 55), type := 4, pos := "law.go:122", after := #[{ on := 5, ground := Ground.data }, { on := 1, ground := Ground.chain }], guard := none }) (v := ?_) rfl (by kernel_rfl) (by kernel_rfl) (by kernel_rfl) (fun _ _ _ h => h) (Or.inl ⟨by rfl, ?_⟩) (by exact hH) ?_
      rotate_left
      · intro W hSw
        go_simp
        try with_reducible rfl
      try simp only [Act.put, List.setIfInBounds_toArray, List.set_cons_zero, List.set_cons_succ]
      refine wpAnyH_take (i := 7) (oi := { dst := some 57, op := Op.move (Operand.tmp 8), type := 22, pos := "law.go:122", after := #[{ on := 6, ground := Ground.guard }], guard := some (6, true) }) (v := ?_) rfl (by kernel_rfl) (by kernel_rfl) (by kernel_rfl) (fun _ _ _ h => h) (Or.inl ⟨by rfl, ?_⟩) (by exact hH) ?_
      rotate_left
      · intro W hSw
        go_simp
        try with_reducible rfl
      try simp only [Act.put, List.setIfInBounds_toArray, List.set_cons_zero, List.set_cons_succ]
      refine wpAnyH_take (i := 10) (oi := { dst := some 60, op := Op.move (Operand.tmp 7), type := 22, pos := "law.go:122", after := #[{ on := 6, ground := Ground.guard }], guard := some (6, true) }) (v := ?_) rfl (by kernel_rfl) (by kernel_rfl) (by kernel_rfl) (fun _ _ _ h => h) (Or.inl ⟨by rfl, ?_⟩) (by exact hH) ?_
      rotate_left
      · intro W hSw
        go_simp
        try with_reducible rfl
      try simp only [Act.put, List.setIfInBounds_toArray, List.set_cons_zero, List.set_cons_succ]
      refine wpAnyH_take (i := 11) (oi := { dst := some 61, op := Op.convert 22 9 (Operand.tmp 60), type := 9, pos := "law.go:122", after := #[{ on := 10, ground := Ground.data }, { on := 6, ground := Ground.guard }], guard := some (6, true) }) (v := ?_) rfl (by kernel_rfl) (by kernel_rfl) (by kernel_rfl) (fun _ _ _ h => h) (Or.inl ⟨by rfl, ?_⟩) (by exact hH) ?_
      rotate_left
      · intro W hSw
        have q := HCV.out W hSw
        go_simp
        try with_reducible rfl
      try simp only [Act.put, List.setIfInBounds_toArray, List.set_cons_zero, List.set_cons_succ]
      refine wpAnyH_ready (rs := [8]) (by kernel_rfl) (by simp) ?_
      refine AllReadyH.cons (o := { dst := some 58, op := Op.call { callee := Callee.value (Operand.func 29), args := #[Operand.tmp 57], argTypes := #[22] }, type := 22, pos := "law.go:122", after := #[{ on := 7, ground := Ground.data }, { on := 6, ground := Ground.chain }, { on := 6, ground := Ground.guard }], guard := some (6, true) }) rfl (fun K hK => ?_) AllReadyH.nil
      go_simp
      go_at_call 29
      refine (HE.out.2.1 W1 HS1.out.1).mono ?_
      rintro r W2 ⟨v5, rfl, ov, hbk⟩
      obtain ⟨A5, c5, ev, BV⟩ := ov.by HE.out.2.2.2.1
      rw [HE.out.2.2.2.2.1] at ev
      subst ev
      have HS2 := Lib.hid (And.intro (HS1.out.1.trans (hbk.mono HS1.out.1.size)) (HE.out.2.2.1 A5 c5 W2 BV))
      clear hbk ov BV
      refine hK.out _ _ HS2.out.1 (fun hH => ?_)
      clear hK K
      try simp only [Act.put, List.setIfInBounds_toArray, List.set_cons_zero, List.set_cons_succ]
      refine wpAnyH_ready (rs := [9]) (by kernel_rfl) (by simp) ?_
      refine AllReadyH.cons (o := { dst := some 59, op := Op.convert 22 9 (Operand.tmp 58), type := 9, pos := "law.go:122", after := #[{ on := 8, ground := Ground.data }, { on := 6, ground := Ground.guard }], guard := some (6, true) }) rfl (fun K hK => ?_) AllReadyH.nil
      have q := HS2.out.2
      go_simp
      refine hK.out _ _ HS2.out.1 (fun hH => ?_)
      clear hK K q
      try simp only [Act.put, List.setIfInBounds_toArray, List.set_cons_zero, List.set_cons_succ]
      refine wpAnyH_take (i := 12) (oi := { dst := some 62, op := Op.binOp BinOp.eql 9 (Operand.tmp 59) (Operand.tmp 61) 9, type := 4, pos := "law.go:122", after := #[{ on := 9, ground := Ground.data }, { on := 11, ground := Ground.data }, { on := 6, ground := Ground.guard }], guard := some (6, true) }) (v := ?_) rfl (by kernel_rfl) (by kernel_rfl) (by kernel_rfl) (fun _ _ _ h => h) (Or.inl ⟨by rfl, ?_⟩) (by exact hH) ?_
      rotate_left
      · intro W hSw
        go_simp
        try with_reducible rfl
      try simp only [Act.put, List.setIfInBounds_toArray, List.set_cons_zero, List.set_cons_succ]
      refine wpAnyH_take (i := 13) (oi := { dst := some 63, op := Op.pick (Operand.tmp 56) (Operand.tmp 62) (Operand.const (Value.bool false)), type := 4, pos := "law.go:122", after := #[{ on := 6, ground := Ground.data }, { on := 12, ground := Ground.data }], guard := none }) (v := ?_) rfl (by kernel_rfl) (by kernel_rfl) (by kernel_rfl) (fun _ _ _ h => h) (Or.inl ⟨by rfl, ?_⟩) (by exact hH) ?_
      rotate_left
      · intro W hSw
        go_simp
        try with_reducible rfl
      try simp only [Act.put, List.setIfInBounds_toArray, List.set_cons_zero, List.set_cons_succ]
      refine wpAnyH_take (i := 14) (oi := { dst := some 6, op := Op.assign (Operand.tmp 63), type := 4, pos := "law.go:122", after := #[{ on := 13, ground := Ground.data }, { on := 8, ground := Ground.chain }, { on := 0, ground := Ground.phase }, { on := 1, ground := Ground.phase }, { on := 2, ground := Ground.phase }, { on := 3, ground := Ground.phase }, { on := 4, ground := Ground.phase }, { on := 5, ground := Ground.phase }, { on := 6, ground := Ground.phase }, { on := 7, ground := Ground.phase }, { on := 8, ground := Ground.phase }, { on := 9, ground := Ground.phase }, { on := 10, ground := Ground.phase }, { on := 11, ground := Ground.phase }, { on := 12, ground := Ground.phase }, { on := 13, ground := Ground.phase }], guard := none }) (v := ?_) rfl (by kernel_rfl) (by kernel_rfl) (by kernel_rfl) (fun _ _ _ h => h) (Or.inl ⟨by rfl, ?_⟩) (by exact hH) ?_
      rotate_left
      · intro W hSw
        go_simp
        try with_reducible rfl
      try simp only [Act.put, List.setIfInBounds_toArray, List.set_cons_zero, List.set_cons_succ]
      refine wpAnyH_done (by kernel_rfl) ?_ _
      refine NoPanic.normal ?_
      go_wp2_with fail
      go_ret
      exact ⟨rfl, HE.out.2.2.2.2.2.2.trans (HS2.out.1.mono HE.out.2.2.2.2.2.2.size)⟩
    have i2 : (k : Int) < (N : Int) := by omega
    obtain ⟨z, hz⟩ := at_lt (l := zs) (k := k) (by rw [HA.out.2.2.2.2.2]; exact hlt)
    obtain ⟨b, o, rfl, hbl, hc0⟩ := HA.out.2.2.2.2.1.r (by rintro rfl; simp at hz)
    have d0 := (hb.cell (p := ⟨b, o + k, none⟩) hbl).trans (hc0 k z hz)
    obtain ⟨z0, z1⟩ := HA.out.2.2.2.2.1.i z (List.mem_of_getElem? hz)
    clear hc0
    by_cases h27 : z = 27
    · subst h27
      have HK := Lib.hid hb
      clear o7 o8 hap l1 l2 n27 b1 b2 hst hb hz
      go_wp2_with fail
      go_ret
      exact ⟨rfl, HK.out⟩
    have i27 : (z == 27) = false := by rw [beq_eq_false_iff_ne]; exact h27
    have KP := rput_any z z0 z1
    have hp1 := putN_27 h27
    have hp2 := putN_lt z
    have hp3 := putN_len z
    obtain ⟨P, hP⟩ : ∃ P, putN z = P := ⟨_, rfl⟩
    have KP : ∀ W, Calls Tryd.prog 33 #[.int .i32 z] W fun e w' => ∃ A cap, e = .returned (.slice A P.length cap) ∧ BY w' w'.heap.size P A cap ∧ Below W.heap.size W w' := fun W => by rw [← hP]; exact KP W
    rw [hP] at hp1 hp2 hp3
    obtain ⟨NP, hNP⟩ : ∃ n, P.length = n := ⟨_, rfl⟩
    rw [hNP] at KP hp3
    have HL := Lib.hid (And.intro l1 (And.intro l2 (And.intro n27 (And.intro b1 (And.intro b2 (And.intro hst (And.intro hp1 (And.intro hp2 hNP))))))))
    have H0 := Lib.hid (And.intro o7 (And.intro o8 (And.intro hap (And.intro hb (And.intro hbl d0)))))
    have HP := Lib.hid KP
    have l12 : L1.length + NP ≤ 1000 ∧ L2.length + NP + 8 ≤ 1000 := by omega
    clear KP hp1 hp2 hNP hP o7 o8 hap hb hbl l1 l2 n27 b1 b2 hst hz h27
    go_wp2_with fail
    refine (HP.out wr).mono ?_
    rintro r w1 ⟨A1, c1, rfl, hB1, hb1⟩
    have H1 := Lib.hid (And.intro (H0.out.1.below hb1) (And.intro (H0.out.2.1.below hb1) (And.intro hB1 (H0.out.2.2.2.1.trans (hb1.mono H0.out.2.2.2.1.size)))))
    clear hB1 hb1 d0
    go_wp2_with (first
      | (at_builtin
         refine wpList_appBt rfl (.tmp 29) (.tmp 34) rfl w.heap.size u7 L1 P rfl H1.out.1 A1 NP c1 HL.out.2.2.2.2.2.2.2.2 rfl H1.out.2.2.1 (by omega) H1.out.2.2.2.size ?_)
      | fail)
    intro v7 w2 o7 hb2 hg2 hv7
    have ap2 : Apart v7 u8 := (Apart.next H1.out.2.1 H0.out.2.2.1.symm hv7).symm
    have b2 := H1.out.2.2.2.trans hb2
    have H2 := Lib.hid (And.intro o7 (And.intro (H1.out.2.1.other H0.out.2.2.1.symm hg2) (And.intro ap2 b2)))
    have d0 := (b2.cell (p := ⟨b, o + k, none⟩) H0.out.2.2.2.2.1).trans ((H0.out.2.2.2.1.cell (p := ⟨b, o + k, none⟩) H0.out.2.2.2.2.1).symm.trans H0.out.2.2.2.2.2)
    clear o7 hb2 hg2 hv7 ap2 b2
    go_wp2_with fail
    refine (HP.out w2).mono ?_
    rintro r w3 ⟨A3, c3, rfl, hB3, hb3⟩
    have H3 := Lib.hid (And.intro (H2.out.1.below hb3) (And.intro (H2.out.2.1.below hb3) (And.intro hB3 (H2.out.2.2.2.trans (hb3.mono H2.out.2.2.2.size)))))
    clear hB3 hb3 d0
    go_wp2_with (first
      | (at_builtin
         refine wpList_appBt rfl (.tmp 36) (.tmp 41) rfl w.heap.size u8 L2 P rfl H3.out.2.1 A3 NP c3 HL.out.2.2.2.2.2.2.2.2 rfl H3.out.2.2.1 (by omega) H3.out.2.2.2.size ?_)
      | fail)
    intro v8 w4 o8 hb4 hg4 hv8
    have ap4 : Apart v7 v8 := Apart.next H3.out.1 H2.out.2.2.1 hv8
    have H4 := Lib.hid (And.intro (H3.out.1.other H2.out.2.2.1 hg4) (And.intro o8 (And.intro ap4 (H3.out.2.2.2.trans hb4))))
    clear o8 hb4 hg4 hv8 ap4
    have b5 := below_lit H4.out.2.2.2 (.cells #[.int .i64 Y] 3)
    have C5 := HA.out.2.1 _ b5 w4.heap.size (is_lit1 w4 Y (by unfold i64; omega))
    have H5 := Lib.hid (And.intro (H4.out.1.below (below_new _ (.cells #[.int .i64 Y] 3))) (And.intro (H4.out.2.1.below (below_new _ (.cells #[.int .i64 Y] 3))) (And.intro b5 C5)))
    clear b5 C5
    go_wp2_with fail
    refine H5.out.2.2.2.mono ?_
    rintro r w6 ⟨rfl, hb6⟩
    obtain ⟨c7, W7, q7, hr7, hb7⟩ := conv_str w6 U (by have := HA.out.2.2.1; omega)
    have b67 := hb6.trans (hb7.mono hb6.size)
    have H7 := Lib.hid (And.intro (H5.out.1.below b67) (And.intro (H5.out.2.1.below b67) (And.intro hr7.by (H5.out.2.2.1.trans (b67.mono H5.out.2.2.1.size)))))
    clear hb6 hr7 hb7 b67
    obtain ⟨NU, hNU⟩ : ∃ n, U.length = n := ⟨_, rfl⟩
    rw [hNU] at q7
    have HN := Lib.hid hNU
    have hNU8 : NU ≤ 8 := by rw [← hNU]; exact HA.out.2.2.1
    clear hNU
    go_wp2_with (first
      | (at_builtin
         refine wpList_appBt rfl (.tmp 42) (.tmp 48) rfl w.heap.size v8 (L2 ++ P) (nats U) rfl H7.out.2.1 (some ⟨w6.heap.size, 0, none⟩) NU c7 (by rw [nats_len]; exact HN.out) rfl H7.out.2.2.1 (by rw [List.length_append, HL.out.2.2.2.2.2.2.2.2]; omega) H7.out.2.2.2.size ?_)
      | fail)
    intro v9 w8 o9 hb8 hg8 hv9
    have ap8 : Apart v7 v9 := Apart.next H7.out.1 H4.out.2.2.1 hv9
    have o78 := H7.out.1.other H4.out.2.2.1 hg8
    have b8 := H7.out.2.2.2.trans hb8
    have hend : ∃ (k' : Nat) (M1 M2 : List Nat), Value.int .i64 ((k : Int) + 1) = .int .i64 (k' : Int) ∧ k' ≤ N ∧ OwnB w8 w.heap.size M1 v7 ∧ OwnB w8 w.heap.size M2 v9 ∧ Apart v7 v9 ∧ M1.length ≤ 4 * k' ∧ M2.length ≤ 12 * k' ∧ (∀ x ∈ M1, x ≠ 27) ∧ (∀ x ∈ M1, x < 256) ∧ (∀ x ∈ M2, x < 256) ∧ (∀ m, stripK 0 (M2 ++ m) = M1 ++ stripK 0 m) ∧ Below w.heap.size w w8 := by
      have hlen1 := HL.out.1
      have hlen2 := HL.out.2.1
      refine ⟨k + 1, L1 ++ P, (L2 ++ P) ++ nats U, by simp, by omega, o78, (by rw [List.append_assoc]; exact o9), ap8, by rw [List.length_append, HL.out.2.2.2.2.2.2.2.2]; omega, by rw [List.length_append, List.length_append, nats_len, HN.out, HL.out.2.2.2.2.2.2.2.2]; omega, ?_, ?_, ?_, strip_step HL.out.2.2.2.2.2.1 HL.out.2.2.2.2.2.2.1 HA.out.2.2.2.1, b8⟩
      · intro x hx
        rcases List.mem_append.1 hx with hx | hx
        · exact HL.out.2.2.1 x hx
        · exact HL.out.2.2.2.2.2.2.1 x hx
      · intro x hx
        rcases List.mem_append.1 hx with hx | hx
        · exact HL.out.2.2.2.1 x hx
        · exact HL.out.2.2.2.2.2.2.2.1 x hx
      · intro x hx
        rcases List.mem_append.1 hx with hx | hx
        · rcases List.mem_append.1 hx with hx | hx
          · exact HL.out.2.2.2.2.1 x hx
          · exact HL.out.2.2.2.2.2.2.2.1 x hx
        · exact nats_lt U x hx
    have HEND := Lib.hid hend
    clear hend o9 hb8 hg8 hv9 ap8 o78 b8 q7
    go_wp2_with fail
    go_roundw
    case rel => exact HEND.out
    case measure => simp [RowKit.intOf]; omega
end Go.Proofs.YtpimadgcojgjaaaDoor
