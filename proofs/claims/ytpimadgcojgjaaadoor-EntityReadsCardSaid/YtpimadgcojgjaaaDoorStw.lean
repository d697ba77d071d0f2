/-
  AnsiStrips: the walk of the law.
-/
import Derived.Test.YtpimadgcojgjaaaDoorRdw
import Derived.Shelf.Bytes.SlSmallAll
import Derived.BigRegion
import Derived.Deep.RegionHeld3
namespace Go.Proofs.YtpimadgcojgjaaaDoor
open Go.RowKit Go.Shelf Go.Lib Go.Maps

theorem strip_len : ∀ (l : List Nat) (k : Nat), (stripK k l).length ≤ l.length
  | [], k => by simp [stripK]
  | c :: r, k => by
    rw [stripK]
    split
    · split
      · have := strip_len r 0
        simp only [List.length_cons]
        omega
      · have := strip_len r ((readT (c :: r)).size - 1)
        simp only [List.length_cons]
        omega
    · have := strip_len r (k - 1)
      simp only [List.length_cons]
      omega
theorem byteCells_u8s (l : List Nat) (h : ∀ x ∈ l, x < 256) : Lib.byteCells (u8s l) = u8C l := by
  unfold Lib.byteCells u8s u8C
  rw [List.map_map]
  refine List.map_congr_left fun x hx => ?_
  have := h x hx
  simp [Nat.mod_eq_of_lt this]
/-- string(b) of bytes that lie somewhere. -/
theorem conv_by {w : World} {B : Nat} {l : List Nat} {A : Option Addr} {cap : Nat} (h : BY w B l A cap) : (convert 22 9 (.slice A l.length cap)).run Tryd.prog w = .ok (.string ⟨(u8s l).toArray⟩) w := by
  cases l with
  | nil =>
    exact run_convert_bytes_zero (P := Tryd.prog) w 22 5 Tryd.underlying22 Tryd.underlying5 A cap 9 Tryd.underlying9
  | cons c r =>
    obtain ⟨b, o, rfl, _, hc⟩ := h.r (by simp)
    have := run_convert_bytes_back (P := Tryd.prog) w 22 9 5 ⟨b, o, none⟩ cap (u8s (c :: r)) Tryd.underlying22 Tryd.underlying5 Tryd.underlying9 (fun j hj => by
      rw [u8s_len] at hj
      obtain ⟨x, hx⟩ := at_lt hj
      have h1 := hc j x hx
      have h2 := h.lt hx
      have ea : (Addr.mk b o none).add j = ⟨b, o + j, none⟩ := by
        unfold Addr.add
        by_cases h0 : j = 0 <;> simp [h0]
      rw [ea, h1]
      have hu : (u8s (c :: r))[j]? = some (UInt8.ofNat x) := by
        unfold u8s
        rw [List.getElem?_map, hx]
        rfl
      simp [List.getElem?_eq_some_iff] at hu
      obtain ⟨h3, h4⟩ := hu
      simp [h4, Nat.mod_eq_of_lt h2])
    rw [u8s_len] at this
    exact this
set_option maxHeartbeats 8000000 in
set_option maxRecDepth 100000 in
theorem stripsLaw_any (xs : List Nat) (A : Option Addr) (cap : Nat) (w : World) (hm : MX w) (h : BY w w.heap.size xs A cap) :
    Calls Tryd.prog 9 #[.slice A xs.length cap] w fun r w' => r = .returned (.bool true) ∧ Below w.heap.size w w' := by
  have hlen := h.len
  by_cases hl : 200 < xs.length
  · have hA := awake_any w hm
    obtain ⟨N, hN⟩ : ∃ N, xs.length = N := ⟨_, rfl⟩
    rw [hN] at hl hlen ⊢
    have i1 : (200 : Int) < (N : Int) := by omega
    have HA := Lib.hid hA
    clear h hN hl hA hm
    go_enter Tryd.func9, Tryd.ntmps9
    go_wp2_with fail
    refine HA.out.mono ?_
    rintro r w1 ⟨rfl, hb1⟩
    have HB := Lib.hid hb1
    clear hb1
    go_wp2_with fail
    go_ret
    exact ⟨rfl, HB.out⟩
  have K1 := fun W (hb : Below w.heap.size w W) => strip_any xs A cap (by omega) W (h.on hb)
  have K2 := fun W (hb : Below w.heap.size w W) => refStrip_any xs A cap (by omega) W (h.on hb)
  have hno := strip_none xs 0
  have hS256 : ∀ x ∈ stripK 0 xs, x < 256 := fun x hx => h.i x (hno x hx).2
  have hSn : ∀ x ∈ stripK 0 xs, x ≠ 27 := fun x hx => (hno x hx).1
  have hSl : (stripK 0 xs).length ≤ 100000 := by have := strip_len xs 0; omega
  have hSS := strip_same _ hSn
  obtain ⟨S, hS⟩ : ∃ S, stripK 0 xs = S := ⟨_, rfl⟩
  rw [hS] at K1 K2 hS256 hSn hSl hSS
  have K3 := fun A3 c3 W (hb : BY W W.heap.size S A3 c3) => strip_any S A3 c3 hSl W hb
  rw [hSS] at K3
  obtain ⟨L, hL⟩ : ∃ L, S.length = L := ⟨_, rfl⟩
  rw [hL] at K3 hSl
  obtain ⟨N, hN⟩ : ∃ N, xs.length = N := ⟨_, rfl⟩
  rw [hN] at hl hlen K1 K2 ⊢
  have i1 : ¬ (200 : Int) < (N : Int) := by omega
  have hcv := fun A3 c3 W (hb : BY W W.heap.size S A3 c3) => conv_by hb
  rw [hL] at hcv
  obtain ⟨Z, hZ⟩ : ∃ Z : ByteArray, (⟨(u8s S).toArray⟩ : ByteArray) = Z := ⟨_, rfl⟩
  rw [hZ] at hcv
  have HA := Lib.hid (And.intro (awake_any w hm) (And.intro K1 (And.intro K2 (And.intro K3 (And.intro hcv (And.intro hS256 (And.intro hSn hL)))))))
  clear h hN hl hm K1 K2 K3 hcv hno hS hS256 hSn hSS hZ hL
  go_enter Tryd.func9, Tryd.ntmps9
  go_wp2_with fail
  refine HA.out.1.mono ?_
  rintro r w1 ⟨rfl, hb1⟩
  have HB1 := Lib.hid hb1
  clear hb1
  go_wp2_with fail
  refine (HA.out.2.1 _ HB1.out).mono ?_
  rintro r w2 ⟨v2, rfl, o2, hb2⟩
  obtain ⟨A3, c3, e2, B2⟩ := o2.by HA.out.2.2.2.2.2.1
  rw [HA.out.2.2.2.2.2.2.2] at e2
  subst e2
  have HB2 := Lib.hid (And.intro (HB1.out.trans (hb2.mono HB1.out.size)) B2)
  clear hb2 o2 B2
  go_wp2_with fail
  go_loopw [4] (fun i wr => ∃ k : Nat, i = .int .i64 (k : Int) ∧ k ≤ L ∧ wr = w2) (fun i _ => L - (RowKit.intOf i).toNat)
  case atStart => exact ⟨0, by go_num, by omega, rfl⟩
  case round =>
    obtain ⟨k, rfl, hk, e⟩ := hrel
    obtain rfl := e.symm
    by_cases hlt : k < L
    · have i2 : (k : Int) < (L : Int) := by omega
      obtain ⟨x, hx⟩ := at_lt (l := S) (k := k) (by rw [HA.out.2.2.2.2.2.2.2]; exact hlt)
      obtain ⟨b, o, rfl, hbl, d0⟩ := HB2.out.2.at hx
      have hx27 := HA.out.2.2.2.2.2.2.1 x (List.mem_of_getElem? hx)
      have i3 : ((x : Int) == 27) = false := by rw [beq_eq_false_iff_ne]; omega
      generalize (x : Int) = X at *
      clear hx hbl hx27
      go_wp2_with fail
      go_roundw
      case rel => exact ⟨k + 1, by go_num, by omega, trivial⟩
      case measure => simp [RowKit.intOf]; omega
    · obtain rfl : k = L := by omega
      have i2 : ¬ (k : Int) < (k : Int) := by omega
      have HS0 := Lib.hid (show Below w2.heap.size w2 w2.drew from (Below.refl _ _).drew)
      obtain ⟨wd, hwd⟩ : ∃ W, w2.drew = W := ⟨_, rfl⟩
      have HWD := Lib.hid hwd
      have HSd := Lib.hid (show Below w2.heap.size w2 wd by rw [← hwd]; exact HS0.out)
      have CV : ∀ W, Below w2.heap.size w2 W → (convert 22 9 (.slice A3 k c3)).run Tryd.prog W = .ok (.string Z) W := fun W hb => HA.out.2.2.2.2.1 A3 c3 W (HB2.out.2.on hb)
      have hz : (Z.toList == Z.toList) = true := by simp
      have HCV := Lib.hid CV
      clear CV hwd
      go_wp2_with fail
      refine wp_region_noPanic ?_
      refine wp_region_held_drew (S := fun W => Below w2.heap.size w2 W) (by kernel_rfl) HS0.out (fun hH => ?_)
      rw [HWD.out]
      have hH := HSd.out
      refine wpAnyH_take (i := 0) (oi := { dst := some 26, op := Op.move (Operand.tmp 3), type := 22, pos := "law.go:47", after := #[], guard := none }) (v := ?_) rfl (by kernel_rfl) (by kernel_rfl) (by kernel_rfl) (fun _ _ _ h => h) (Or.inl ⟨by rfl, ?_⟩) (by exact hH) ?_
      rotate_left
      · intro W hSw
        go_simp
        try with_reducible rfl
      try simp only [Act.put, List.setIfInBounds_toArray, List.set_cons_zero, List.set_cons_succ]
      refine wpAnyH_take (i := 1) (oi := { dst := some 27, op := Op.convert 22 9 (Operand.tmp 26), type := 9, pos := "law.go:47", after := #[{ on := 0, ground := Ground.data }], guard := none }) (v := ?_) rfl (by kernel_rfl) (by kernel_rfl) (by kernel_rfl) (fun _ _ _ h => h) (Or.inl ⟨by rfl, ?_⟩) (by exact hH) ?_
      rotate_left
      · intro W hSw
        have q := HCV.out W hSw
        go_simp
        try with_reducible rfl
      try simp only [Act.put, List.setIfInBounds_toArray, List.set_cons_zero, List.set_cons_succ]
      refine wpAnyH_take (i := 2) (oi := { dst := some 28, op := Op.move (Operand.tmp 0), type := 22, pos := "law.go:47", after := #[], guard := none }) (v := ?_) rfl (by kernel_rfl) (by kernel_rfl) (by kernel_rfl) (fun _ _ _ h => h) (Or.inl ⟨by rfl, ?_⟩) (by exact hH) ?_
      rotate_left
      · intro W hSw
        go_simp
        try with_reducible rfl
      try simp only [Act.put, List.setIfInBounds_toArray, List.set_cons_zero, List.set_cons_succ]
      refine wpAnyH_ready (rs := [3]) (by kernel_rfl) (by simp) ?_
      refine AllReadyH.cons (o := { dst := some 29, op := Op.call { callee := Callee.value (Operand.func 30), args := #[Operand.tmp 28], argTypes := #[22] }, type := 22, pos := "law.go:47", after := #[{ on := 2, ground := Ground.data }], guard := none }) rfl (fun K hK => ?_) AllReadyH.nil
      go_simp
      go_at_call 30
      refine (HA.out.2.2.1 wd (HB2.out.1.trans (HSd.out.mono HB2.out.1.size))).mono ?_
      rintro r W1 ⟨v4, rfl, ov, hbk⟩
      obtain ⟨A4, c4, ev, BV⟩ := ov.by HA.out.2.2.2.2.2.1
      rw [HA.out.2.2.2.2.2.2.2] at ev
      subst ev
      have HS1 := Lib.hid (And.intro (HSd.out.trans (hbk.mono HSd.out.size)) (HA.out.2.2.2.2.1 A4 c4 W1 BV))
      clear hbk ov BV
      refine hK.out _ _ HS1.out.1 (fun hH => ?_)
      clear hK K
      try simp only [Act.put, List.setIfInBounds_toArray, List.set_cons_zero, List.set_cons_succ]
      refine wpAnyH_ready (rs := [4]) (by kernel_rfl) (by simp) ?_
      refine AllReadyH.cons (o := { dst := some 30, op := Op.convert 22 9 (Operand.tmp 29), type := 9, pos := "law.go:47", after := #[{ on := 3, ground := Ground.data }], guard := none }) rfl (fun K hK => ?_) AllReadyH.nil
      have q := HS1.out.2
      go_simp
      refine hK.out _ _ HS1.out.1 (fun hH => ?_)
      clear hK K q
      try simp only [Act.put, List.setIfInBounds_toArray, List.set_cons_zero, List.set_cons_succ]
      refine wpAnyH_take (i := 5) (oi := { dst := some 31, op := Op.binOp BinOp.eql 9 (Operand.tmp 27) (Operand.tmp 30) 9, type := 4, pos := "law.go:47", after := #[{ on := 1, ground := Ground.data }, { on := 4, ground := Ground.data }], guard := none }) (v := ?_) rfl (by kernel_rfl) (by kernel_rfl) (by kernel_rfl) (fun _ _ _ h => h) (Or.inl ⟨by rfl, ?_⟩) (by exact hH) ?_
      rotate_left
      · intro W hSw
        go_simp
        try with_reducible rfl
      try simp only [Act.put, List.setIfInBounds_toArray, List.set_cons_zero, List.set_cons_succ]
      refine wpAnyH_take (i := 6) (oi := { dst := some 32, op := Op.move (Operand.tmp 31), type := 4, pos := "law.go:47", after := #[{ on := 5, ground := Ground.data }, { on := 3, ground := Ground.chain }], guard := none }) (v := ?_) rfl (by kernel_rfl) (by kernel_rfl) (by kernel_rfl) (fun _ _ _ h => h) (Or.inl ⟨by rfl, ?_⟩) (by exact hH) ?_
      rotate_left
      · intro W hSw
        go_simp
        try with_reducible rfl
      try simp only [Act.put, List.setIfInBounds_toArray, List.set_cons_zero, List.set_cons_succ]
      refine wpAnyH_take (i := 7) (oi := { dst := some 33, op := Op.move (Operand.tmp 3), type := 22, pos := "law.go:47", after := #[{ on := 6, ground := Ground.guard }], guard := some (6, true) }) (v := ?_) rfl (by kernel_rfl) (by kernel_rfl) (by kernel_rfl) (fun _ _ _ h => h) (Or.inl ⟨by rfl, ?_⟩) (by exact hH) ?_
      rotate_left
      · intro W hSw
        go_simp
        try with_reducible rfl
      try simp only [Act.put, List.setIfInBounds_toArray, List.set_cons_zero, List.set_cons_succ]
      refine wpAnyH_take (i := 10) (oi := { dst := some 36, op := Op.move (Operand.tmp 3), type := 22, pos := "law.go:47", after := #[{ on := 6, ground := Ground.guard }], guard := some (6, true) }) (v := ?_) rfl (by kernel_rfl) (by kernel_rfl) (by kernel_rfl) (fun _ _ _ h => h) (Or.inl ⟨by rfl, ?_⟩) (by exact hH) ?_
      rotate_left
      · intro W hSw
        go_simp
        try with_reducible rfl
      try simp only [Act.put, List.setIfInBounds_toArray, List.set_cons_zero, List.set_cons_succ]
      refine wpAnyH_take (i := 11) (oi := { dst := some 37, op := Op.convert 22 9 (Operand.tmp 36), type := 9, pos := "law.go:47", after := #[{ on := 10, ground := Ground.data }, { on := 6, ground := Ground.guard }], guard := some (6, true) }) (v := ?_) rfl (by kernel_rfl) (by kernel_rfl) (by kernel_rfl) (fun _ _ _ h => h) (Or.inl ⟨by rfl, ?_⟩) (by exact hH) ?_
      rotate_left
      · intro W hSw
        have q := HCV.out W hSw
        go_simp
        try with_reducible rfl
      try simp only [Act.put, List.setIfInBounds_toArray, List.set_cons_zero, List.set_cons_succ]
      refine wpAnyH_ready (rs := [8]) (by kernel_rfl) (by simp) ?_
      refine AllReadyH.cons (o := { dst := some 34, op := Op.call { callee := Callee.value (Operand.func 29), args := #[Operand.tmp 33], argTypes := #[22] }, type := 22, pos := "law.go:47", after := #[{ on := 7, ground := Ground.data }, { on := 6, ground := Ground.chain }, { on := 6, ground := Ground.guard }], guard := some (6, true) }) rfl (fun K hK => ?_) AllReadyH.nil
      go_simp
      go_at_call 29
      refine (HA.out.2.2.2.1 A3 c3 W1 (HB2.out.2.on HS1.out.1)).mono ?_
      rintro r W2 ⟨v5, rfl, ov, hbk⟩
      obtain ⟨A5, c5, ev, BV⟩ := ov.by HA.out.2.2.2.2.2.1
      rw [HA.out.2.2.2.2.2.2.2] at ev
      subst ev
      have HS2 := Lib.hid (And.intro (HS1.out.1.trans (hbk.mono HS1.out.1.size)) (HA.out.2.2.2.2.1 A5 c5 W2 BV))
      clear hbk ov BV
      refine hK.out _ _ HS2.out.1 (fun hH => ?_)
      clear hK K
      try simp only [Act.put, List.setIfInBounds_toArray, List.set_cons_zero, List.set_cons_succ]
      refine wpAnyH_ready (rs := [9]) (by kernel_rfl) (by simp) ?_
      refine AllReadyH.cons (o := { dst := some 35, op := Op.convert 22 9 (Operand.tmp 34), type := 9, pos := "law.go:47", after := #[{ on := 8, ground := Ground.data }, { on := 6, ground := Ground.guard }], guard := some (6, true) }) rfl (fun K hK => ?_) AllReadyH.nil
      have q := HS2.out.2
      go_simp
      refine hK.out _ _ HS2.out.1 (fun hH => ?_)
      clear hK K q
      try simp only [Act.put, List.setIfInBounds_toArray, List.set_cons_zero, List.set_cons_succ]
      refine wpAnyH_take (i := 12) (oi := { dst := some 38, op := Op.binOp BinOp.eql 9 (Operand.tmp 35) (Operand.tmp 37) 9, type := 4, pos := "law.go:47", after := #[{ on := 9, ground := Ground.data }, { on := 11, ground := Ground.data }, { on := 6, ground := Ground.guard }], guard := some (6, true) }) (v := ?_) rfl (by kernel_rfl) (by kernel_rfl) (by kernel_rfl) (fun _ _ _ h => h) (Or.inl ⟨by rfl, ?_⟩) (by exact hH) ?_
      rotate_left
      · intro W hSw
        go_simp
        try with_reducible rfl
      try simp only [Act.put, List.setIfInBounds_toArray, List.set_cons_zero, List.set_cons_succ]
      refine wpAnyH_take (i := 13) (oi := { dst := some 39, op := Op.pick (Operand.tmp 32) (Operand.tmp 38) (Operand.const (Value.bool false)), type := 4, pos := "law.go:47", after := #[{ on := 6, ground := Ground.data }, { on := 12, ground := Ground.data }], guard := none }) (v := ?_) rfl (by kernel_rfl) (by kernel_rfl) (by kernel_rfl) (fun _ _ _ h => h) (Or.inl ⟨by rfl, ?_⟩) (by exact hH) ?_
      rotate_left
      · intro W hSw
        go_simp
        try with_reducible rfl
      try simp only [Act.put, List.setIfInBounds_toArray, List.set_cons_zero, List.set_cons_succ]
      refine wpAnyH_take (i := 14) (oi := { dst := some 2, op := Op.assign (Operand.tmp 39), type := 4, pos := "law.go:47", after := #[{ on := 13, ground := Ground.data }, { on := 8, ground := Ground.chain }, { on := 0, ground := Ground.phase }, { on := 1, ground := Ground.phase }, { on := 2, ground := Ground.phase }, { on := 3, ground := Ground.phase }, { on := 4, ground := Ground.phase }, { on := 5, ground := Ground.phase }, { on := 6, ground := Ground.phase }, { on := 7, ground := Ground.phase }, { on := 8, ground := Ground.phase }, { on := 9, ground := Ground.phase }, { on := 10, ground := Ground.phase }, { on := 11, ground := Ground.phase }, { on := 12, ground := Ground.phase }, { on := 13, ground := Ground.phase }], guard := none }) (v := ?_) rfl (by kernel_rfl) (by kernel_rfl) (by kernel_rfl) (fun _ _ _ h => h) (Or.inl ⟨by rfl, ?_⟩) (by exact hH) ?_
      rotate_left
      · intro W hSw
        go_simp
        try with_reducible rfl
      try simp only [Act.put, List.setIfInBounds_toArray, List.set_cons_zero, List.set_cons_succ]
      refine wpAnyH_done (by kernel_rfl) ?_ _
      refine NoPanic.normal ?_
      go_wp2_with fail
      go_ret
      exact ⟨rfl, HB2.out.1.trans (HS2.out.1.mono HB2.out.1.size)⟩
end Go.Proofs.YtpimadgcojgjaaaDoor
