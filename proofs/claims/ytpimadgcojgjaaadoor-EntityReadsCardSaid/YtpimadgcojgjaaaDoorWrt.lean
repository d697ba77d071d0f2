/-
  Contract: ansi.Write.
-/
import Derived.Test.YtpimadgcojgjaaaDoorStw
import Derived.Lib.LaidTab
import Derived.Lib.AppendIntMem
import Derived.Lib.QuietBelow
import Derived.BigRegion
import Derived.Deep.RegionHeld3
namespace Go.Proofs.YtpimadgcojgjaaaDoor
open Go.RowKit Go.Shelf Go.Lib Go.Maps

def PT (w : World) : Prop := Lib.TabIs Tryd.prog w "internal/strconv.uint64pow10" .u64 Lib.pow10Tab
theorem PT.on {w w' : World} (h : PT w) (hb : Below w.heap.size w w') : PT w' := Lib.tabBelow_of_tabIs h w' hb
def strB (l : List UInt8) : ByteArray := ⟨l.toArray⟩
theorem below_regrown_n (w : World) (k : Nat) (os : Array Obj) : Below w.heap.size w (Go.Sort.grow (w.drewN k) os) :=
  ⟨rfl, rfl, rfl, by simp [Go.Sort.grow], fun i hi => by
    show ((w.drewN k).heap ++ os)[i]? = _
    rw [Array.getElem?_append_left (by simpa using hi)]
    rfl⟩
theorem itoa_any (z : Int) (h0 : 0 ≤ z) (h1 : z ≤ 99999) (w : World) (hT : PT w) : Calls Tryd.prog 49 #[.int .i64 z] w fun r w' => r = .returned (.string (strB (Lib.itoa z))) ∧ Below w.heap.size w w' := by
  refine (Tryd.strconv_Itoa z (by omega) (by omega) w hT).mono ?_
  rintro e w' ⟨h, k, os, rfl⟩
  exact ⟨h, below_regrown_n w k os⟩
def okZ (z : Int) : Bool := decide (0 ≤ z) && decide (z ≤ 99999)
def writeU (c : Nat) (zs : List Int) : List UInt8 := if inR 64 126 c = true ∧ zs.all okZ = true then 27 :: 91 :: (Lib.join (zs.map Lib.itoa) [59] ++ [UInt8.ofNat c]) else []
theorem nd_le : ∀ (k u : Nat), u < 10 ^ (k + 1) → Lib.nDigits u ≤ k + 1
  | 0, u, h => by rw [Lib.nDigits_small (by simpa using h)]; exact Nat.le_refl _
  | k + 1, u, h => by
    by_cases h1 : u < 10
    · rw [Lib.nDigits_small h1]; omega
    · rw [Lib.nDigits_big h1]
      have := nd_le k (u / 10) (by rw [Nat.pow_succ] at h; omega)
      omega
theorem itoa_pos {z : Int} (h : 0 ≤ z) : Lib.itoa z = Lib.decDigits z.toNat := by rw [Lib.itoa, if_neg (by omega)]
theorem itoa_len {z : Int} (h0 : 0 ≤ z) (h1 : z ≤ 99999) : (Lib.itoa z).length ≤ 5 := by
  rw [itoa_pos h0, Lib.decDigits_length]
  exact nd_le 4 _ (by omega)
theorem strB_append (a b : List UInt8) : strB a ++ strB b = strB (a ++ b) := by
  apply ByteArray.ext
  simp [strB, ByteArray.data_append]
theorem conv_cells {w : World} {g : Nat} (l : List Nat) (h : Cells w g 5 (u8C l).toArray) (hl : ∀ x ∈ l, x < 256) (hn : l.length ≤ 100) : (convert 22 9 (.slice (some ⟨g, 0, none⟩) l.length l.length)).run Tryd.prog w = .ok (.string (strB (u8s l))) w :=
  conv_by (B := w.heap.size) ⟨Nat.le_refl _, by unfold maxLen; omega, fun e => (by cases e), hl, fun _ => ⟨g, 0, rfl, h.lt, fun i x hx => by
    rw [Nat.zero_add, h.cell i]
    simp [u8C, hx]⟩⟩
theorem join_len (l : List (List UInt8)) (hl : ∀ x ∈ l, x.length ≤ 20) : (Lib.join l [59]).length ≤ 21 * l.length := by
  cases l with
  | nil => simp [Lib.join_nil]
  | cons x r =>
    rw [Lib.join_cons, List.length_append]
    have h1 := hl x (by simp)
    have h2 : (Lib.joinTail [59] r).length ≤ 21 * r.length := by
      unfold Lib.joinTail
      have hr : ∀ y ∈ r, y.length ≤ 20 := fun y hy => hl y (by simp [hy])
      clear hl h1
      induction r with
      | nil => simp
      | cons y r ih =>
        have h3 := ih (fun z hz => hr z (by simp [hz]))
        have h4 := hr y (by simp)
        simp only [List.map_cons, List.flatten_cons, List.length_append, List.length_cons, List.length_nil] at *
        omega
    simp only [List.length_cons]
    omega
theorem strB_size (l : List UInt8) : (strB l).size = l.length := by simp [strB, ByteArray.size]
theorem join_any (l : List (List UInt8)) (v : Value) (w0 w : World) (base : Nat) (ho : OwnS w0 base (l.map strB) v) (hb : Below w0.heap.size w0 w) (hn : l.length ≤ 1000) (hl : ∀ x ∈ l, x.length ≤ 20) :
    Calls Tryd.prog 50 #[v, .string (strB [59])] w fun r w' => r = .returned (.string (strB (Lib.join l [59]))) ∧ Below w.heap.size w w' := by
  have ho := ho.below hb
  have hmm : (l.map strB).map (fun (b : ByteArray) => b.data.toList) = l := by
    rw [List.map_map]
    conv => rhs; rw [← List.map_id l]
    exact List.map_congr_left fun x _ => by simp [strB]
  rcases ho.2 with ⟨h1, h2⟩ | ⟨g, cap, cur, h1, h2, h3, h4, h5, h6, h7⟩
  · have hn : l = [] := by
      have := List.eq_nil_of_length_eq_zero h2
      simpa using this
    subst hn
    rw [h1]
    refine (Tryd.strings_Join_none none 0 (strB [59]) w).mono ?_
    rintro e w' ⟨he, rfl⟩
    exact ⟨he, Below.refl _ _⟩
  · rw [h1]
    have C := Tryd.strings_Join g 0 cap (l.map strB) (strB [59]) w (fun j x hx => by
      have hc := World.ownsRow.cells ho (g := g) (by rw [h1]; rfl) j (.string x) (by unfold strC; rw [List.getElem?_map, hx]; rfl)
      rw [add0] at hc
      rw [Nat.zero_add]
      exact hc) (Array.getElem?_eq_some_iff.1 h3).1 (by rw [List.length_map]; omega) h4 (by
      rw [hmm]
      have := join_len l hl
      show (Lib.join l [59]).length ≤ _
      omega)
    rw [hmm] at C
    exact C
set_option maxHeartbeats 8000000 in
set_option maxRecDepth 100000 in
/-- ansi.Write. -/
theorem write_any (c : Nat) (C : Int) (hC : C = (c : Int)) (hc : c < 256) (zs : List Int) (A : Option Addr) (cap : Nat) (w : World) (h : IS w w.heap.size zs A cap) (hn : zs.length ≤ 1000) (hT : PT w) :
    Calls Tryd.prog 31 #[.int .u8 C, .slice A zs.length cap] w fun r w' => r = .returned (.string (strB (writeU c zs))) ∧ Below w.heap.size w w' := by
  have hin := in_int (rfl : (64 : Int) = ((64 : Nat) : Int)) (rfl : (126 : Int) = ((126 : Nat) : Int)) hC
  obtain ⟨R, hR⟩ : ∃ R, strB (writeU c zs) = R := ⟨_, rfl⟩
  rw [hR]
  have KF := isFinal_any C
  rw [← hin] at KF
  cases hf : inR 64 126 c with
  | false =>
    obtain rfl : R = ⟨#[]⟩ := by rw [← hR, writeU, if_neg (by simp [hf])]; rfl
    rw [hf] at KF
    have HF := Lib.hid KF
    clear h KF hin hR hT hf hC hc hn
    generalize zs.length = N
    go_enter Tryd.func31, Tryd.ntmps31
    go_wp2_with fail
    refine (HF.out _).mono ?_
    rintro r w1 ⟨rfl, e⟩
    obtain rfl := e.symm
    go_wp2_with fail
    go_ret
    exact ⟨rfl, Below.refl _ _⟩
  | true =>
    rw [hf] at KF
    obtain ⟨N, hN⟩ : ∃ N, zs.length = N := ⟨_, rfl⟩
    rw [hN] at hn ⊢
    have HF := Lib.hid KF
    have HH := Lib.hid (And.intro h (And.intro hT (And.intro hN (And.intro hR (And.intro hf hC)))))
    clear h KF hin hR hT hf hC hN
    go_enter Tryd.func31, Tryd.ntmps31
    go_wp2_with fail
    refine (HF.out _).mono ?_
    rintro r w1 ⟨rfl, e⟩
    obtain rfl := e.symm
    go_wp2_with fail
    go_loopw [5, 7, 13] (fun v _ i wr => ∃ k : Nat, i = .int .i64 (k : Int) ∧ k ≤ N ∧ (zs.take k).all okZ = true ∧ OwnS wr w.heap.size (((zs.take k).map Lib.itoa).map strB) v ∧ Below w.heap.size w wr) (fun _ _ i _ => N - (RowKit.intOf i).toNat)
    case atStart => exact ⟨0, by go_num, by omega, rfl, ownS_nil _ _, Below.refl _ _⟩
    case round =>
      obtain ⟨k, rfl, hk, hok, ho, hb⟩ := hrel
      by_cases hlt : k < N
      case neg =>
        obtain rfl : k = N := by omega
        have i1 : ¬ (k : Int) < (k : Int) := by omega
        rw [← HH.out.2.2.1, List.take_length] at hok ho
        have KJ : ∀ W, Below wr.heap.size wr W → Calls Tryd.prog 50 #[u5, .string ⟨#[59]⟩] W fun r w' => r = .returned (.string (strB (Lib.join (zs.map Lib.itoa) [59]))) ∧ Below W.heap.size W w' := fun W hb2 => join_any (zs.map Lib.itoa) u5 wr W w.heap.size ho hb2 (by rw [List.length_map, HH.out.2.2.1]; omega) (fun x hx => by
          obtain ⟨z, hz, rfl⟩ := List.mem_map.1 hx
          have := List.all_eq_true.1 hok z hz
          simp [okZ] at this
          have := itoa_len this.1 this.2
          omega)
        have K0 : ∀ (g : Nat) (W : World), Cells W g 5 #[.int .u8 27, .int .u8 91] → (convert 22 9 (.slice (some ⟨g, 0, none⟩) 2 2)).run Tryd.prog W = .ok (.string (strB [27, 91])) W := fun g W hx => conv_cells [27, 91] hx (by decide) (by decide)
        have K1 : ∀ (g : Nat) (W : World), Cells W g 5 #[.int .u8 C] → (convert 22 9 (.slice (some ⟨g, 0, none⟩) 1 1)).run Tryd.prog W = .ok (.string (strB [UInt8.ofNat c])) W := fun g W hx => by
          rw [HH.out.2.2.2.2.2] at hx
          exact conv_cells [c] hx (by simpa using hc) (by simp)
        have hRR : strB [27, 91] ++ strB (Lib.join (zs.map Lib.itoa) [59]) ++ strB [UInt8.ofNat c] = R := by
          rw [← HH.out.2.2.2.1, writeU, if_pos ⟨HH.out.2.2.2.2.1, hok⟩, strB_append, strB_append]
          rfl
        have hok20 : ∀ x ∈ zs.map Lib.itoa, x.length ≤ 20 := fun x hx => by
          obtain ⟨z, hz, rfl⟩ := List.mem_map.1 hx
          have := List.all_eq_true.1 hok z hz
          simp [okZ] at this
          have := itoa_len this.1 this.2
          omega
        have hjz := join_len _ hok20
        rw [List.length_map, HH.out.2.2.1] at hjz
        have z0 : (strB [27, 91]).size = 2 := rfl
        have z1 : (strB [UInt8.ofNat c]).size = 1 := rfl
        have z2 := strB_size (Lib.join (zs.map Lib.itoa) [59])
        have hz1 : ¬ 9223372036854775807 < (strB [27, 91]).size + (strB (Lib.join (zs.map Lib.itoa) [59])).size := by rw [z0, z2]; omega
        have hz2 : ¬ 9223372036854775807 < (strB [27, 91]).size + (strB (Lib.join (zs.map Lib.itoa) [59])).size + (strB [UInt8.ofNat c]).size := by rw [z0, z1, z2]; omega
        clear z0 z1 z2 hjz hok20
        generalize strB [27, 91] = P0 at *
        generalize strB [UInt8.ofNat c] = P1 at *
        generalize strB (Lib.join (zs.map Lib.itoa) [59]) = SJ at *
        have HE := Lib.hid (And.intro hRR hb)
        have KJ := Lib.hid KJ
        have KA := Lib.hid (And.intro K0 K1)
        have HS0 := Lib.hid (show Below wr.heap.size wr wr.drew from (Below.refl _ _).drew)
        obtain ⟨wd, hwd⟩ : ∃ W, wr.drew = W := ⟨_, rfl⟩
        have HWD := Lib.hid hwd
        have HSd := Lib.hid (show Below wr.heap.size wr wd by rw [← hwd]; exact HS0.out)
        clear K0 K1 hRR hwd ho hb hok
        go_wp2_with fail
        refine wp_region_noPanic ?_
        refine wp_region_held_drew (S := fun W => Below wr.heap.size wr W) (by kernel_rfl) HS0.out (fun hH => ?_)
        rw [HWD.out]
        have hH := HSd.out
        refine wpAnyH_take (i := 2) (oi := { dst := some 31, op := Op.move (Operand.tmp 5), type := 32, pos := "ansi.go:107", after := #[], guard := none }) (v := ?_) rfl (by kernel_rfl) (by kernel_rfl) (by kernel_rfl) (fun _ _ _ h => h) (Or.inl ⟨by rfl, ?_⟩) (by exact hH) ?_
        rotate_left
        · intro W hSw
          go_simp
          try with_reducible rfl
        try simp only [Act.put, List.setIfInBounds_toArray, List.set_cons_zero, List.set_cons_succ]
        refine wpAnyH_take (i := 5) (oi := { dst := some 34, op := Op.move (Operand.tmp 0), type := 5, pos := "ansi.go:107", after := #[], guard := none }) (v := ?_) rfl (by kernel_rfl) (by kernel_rfl) (by kernel_rfl) (fun _ _ _ h => h) (Or.inl ⟨by rfl, ?_⟩) (by exact hH) ?_
        rotate_left
        · intro W hSw
          go_simp
          try with_reducible rfl
        try simp only [Act.put, List.setIfInBounds_toArray, List.set_cons_zero, List.set_cons_succ]
        refine wpAnyH_ready (rs := [0, 3, 6]) (by kernel_rfl) (by simp) ?_
        refine (AllReadyH.cons (o := { dst := some 29, op := Op.buildSlice 22 2 #[(0, Operand.const (Value.int IntKind.u8 27)), (1, Operand.const (Value.int IntKind.u8 91))], type := 22, pos := "ansi.go:107", after := #[], guard := none }) rfl (fun K hK => ?_) (AllReadyH.cons (o := { dst := some 32, op := Op.call { callee := Callee.value (Operand.func 50), args := #[Operand.tmp 31, Operand.const (Value.string { data := #[59] })], argTypes := #[32, 9] }, type := 9, pos := "ansi.go:107", after := #[{ on := 2, ground := Ground.data }], guard := none }) rfl (fun K hK => ?_) (AllReadyH.cons (o := { dst := some 35, op := Op.buildSlice 22 1 #[(0, Operand.tmp 34)], type := 22, pos := "ansi.go:107", after := #[{ on := 5, ground := Ground.data }], guard := none }) rfl (fun K hK => ?_) AllReadyH.nil)))
        ·
          go_simp
          have HS1 := Lib.hid (HSd.out.alloc HSd.out.size (.cells #[.int .u8 27, .int .u8 91] 5))
          have ha1 := cells_new wd #[.int .u8 27, .int .u8 91] 5
          refine hK.out _ _ HS1.out (fun hH => ?_)
          clear hK K
          try simp only [Act.put, List.setIfInBounds_toArray, List.set_cons_zero, List.set_cons_succ]
          obtain ⟨ga, hga⟩ : ∃ b, wd.heap.size = b := ⟨_, rfl⟩
          obtain ⟨V1, hV1⟩ : ∃ W, wd.alloc (.cells #[.int .u8 27, .int .u8 91] 5) = W := ⟨_, rfl⟩
          rw [hV1] at HS1 ha1 hH ⊢
          rw [hga] at ha1 ⊢
          clear hV1 hga
          refine wpAnyH_ready (rs := [1, 3, 6]) (by kernel_rfl) (by simp) ?_
          refine (AllReadyH.cons (o := { dst := some 30, op := Op.convert 22 9 (Operand.tmp 29), type := 9, pos := "ansi.go:107", after := #[{ on := 0, ground := Ground.data }], guard := none }) rfl (fun K hK => ?_) (AllReadyH.cons (o := { dst := some 32, op := Op.call { callee := Callee.value (Operand.func 50), args := #[Operand.tmp 31, Operand.const (Value.string { data := #[59] })], argTypes := #[32, 9] }, type := 9, pos := "ansi.go:107", after := #[{ on := 2, ground := Ground.data }], guard := none }) rfl (fun K hK => ?_) (AllReadyH.cons (o := { dst := some 35, op := Op.buildSlice 22 1 #[(0, Operand.tmp 34)], type := 22, pos := "ansi.go:107", after := #[{ on := 5, ground := Ground.data }], guard := none }) rfl (fun K hK => ?_) AllReadyH.nil)))
          ·
            have q : (convert 22 9 (.slice (some ⟨ga, 0, none⟩) 2 2)).run Tryd.prog V1 = .ok (.string P0) V1 := KA.out.1 _ _ ha1
            go_simp
            refine hK.out _ _ HS1.out (fun hH => ?_)
            clear hK K q
            try simp only [Act.put, List.setIfInBounds_toArray, List.set_cons_zero, List.set_cons_succ]
            refine wpAnyH_ready (rs := [3, 6]) (by kernel_rfl) (by simp) ?_
            refine (AllReadyH.cons (o := { dst := some 32, op := Op.call { callee := Callee.value (Operand.func 50), args := #[Operand.tmp 31, Operand.const (Value.string { data := #[59] })], argTypes := #[32, 9] }, type := 9, pos := "ansi.go:107", after := #[{ on := 2, ground := Ground.data }], guard := none }) rfl (fun K hK => ?_) (AllReadyH.cons (o := { dst := some 35, op := Op.buildSlice 22 1 #[(0, Operand.tmp 34)], type := 22, pos := "ansi.go:107", after := #[{ on := 5, ground := Ground.data }], guard := none }) rfl (fun K hK => ?_) AllReadyH.nil))
            ·
              go_simp
              go_at_call 50
              refine (KJ.out V1 HS1.out).mono ?_
              rintro e V3 ⟨rfl, hbk⟩
              have HS3 := Lib.hid (HS1.out.trans (hbk.mono HS1.out.size))
              have ha3 := ha1.on hbk
              clear hbk
              try go_wp2_with fail
              refine hK.out _ _ HS3.out (fun hH => ?_)
              clear hK K
              try simp only [Act.put, List.setIfInBounds_toArray, List.set_cons_zero, List.set_cons_succ]
              refine wpAnyH_take (i := 4) (oi := { dst := some 33, op := Op.binOp BinOp.add 9 (Operand.tmp 30) (Operand.tmp 32) 9, type := 9, pos := "ansi.go:107", after := #[{ on := 1, ground := Ground.data }, { on := 3, ground := Ground.data }], guard := none }) (v := ?_) rfl (by kernel_rfl) (by kernel_rfl) (by kernel_rfl) (fun _ _ _ h => h) (Or.inl ⟨by rfl, ?_⟩) (by exact hH) ?_
              rotate_left
              · intro W hSw
                go_simp
                try with_reducible rfl
              try simp only [Act.put, List.setIfInBounds_toArray, List.set_cons_zero, List.set_cons_succ]
              refine wpAnyH_ready (rs := [6]) (by kernel_rfl) (by simp) ?_
              refine (AllReadyH.cons (o := { dst := some 35, op := Op.buildSlice 22 1 #[(0, Operand.tmp 34)], type := 22, pos := "ansi.go:107", after := #[{ on := 5, ground := Ground.data }], guard := none }) rfl (fun K hK => ?_) AllReadyH.nil)
              go_simp
              have HS4 := Lib.hid (HS3.out.alloc HS3.out.size (.cells #[.int .u8 C] 5))
              have hb4 := cells_new V3 #[.int .u8 C] 5
              have ha4 := ha3.on (below_new _ (.cells #[.int .u8 C] 5))
              refine hK.out _ _ HS4.out (fun hH => ?_)
              clear hK K
              try simp only [Act.put, List.setIfInBounds_toArray, List.set_cons_zero, List.set_cons_succ]
              obtain ⟨gb, hgb⟩ : ∃ b, V3.heap.size = b := ⟨_, rfl⟩
              obtain ⟨V4, hV4⟩ : ∃ W, V3.alloc (.cells #[.int .u8 C] 5) = W := ⟨_, rfl⟩
              rw [hV4] at HS4 hb4 ha4 hH ⊢
              rw [hgb] at hb4 ⊢
              clear hV4 hgb
              refine wpAnyH_ready (rs := [7]) (by kernel_rfl) (by simp) ?_
              refine (AllReadyH.cons (o := { dst := some 36, op := Op.convert 22 9 (Operand.tmp 35), type := 9, pos := "ansi.go:107", after := #[{ on := 6, ground := Ground.data }], guard := none }) rfl (fun K hK => ?_) AllReadyH.nil)
              have q : (convert 22 9 (.slice (some ⟨gb, 0, none⟩) 1 1)).run Tryd.prog V4 = .ok (.string P1) V4 := KA.out.2 _ _ hb4
              go_simp
              refine hK.out _ _ HS4.out (fun hH => ?_)
              clear hK K q
              try simp only [Act.put, List.setIfInBounds_toArray, List.set_cons_zero, List.set_cons_succ]
              refine wpAnyH_take (i := 8) (oi := { dst := some 37, op := Op.binOp BinOp.add 9 (Operand.tmp 33) (Operand.tmp 36) 9, type := 9, pos := "ansi.go:107", after := #[{ on := 4, ground := Ground.data }, { on := 7, ground := Ground.data }], guard := none }) (v := ?_) rfl (by kernel_rfl) (by kernel_rfl) (by kernel_rfl) (fun _ _ _ h => h) (Or.inl ⟨by rfl, ?_⟩) (by exact hH) ?_
              rotate_left
              · intro W hSw
                go_simp
                try with_reducible rfl
              try simp only [Act.put, List.setIfInBounds_toArray, List.set_cons_zero, List.set_cons_succ]
              refine wpAnyH_take (i := 9) (oi := { dst := some 4, op := Op.assign (Operand.tmp 37), type := 9, pos := "ansi.go:107", after := #[{ on := 8, ground := Ground.data }, { on := 3, ground := Ground.chain }, { on := 0, ground := Ground.phase }, { on := 1, ground := Ground.phase }, { on := 2, ground := Ground.phase }, { on := 3, ground := Ground.phase }, { on := 4, ground := Ground.phase }, { on := 5, ground := Ground.phase }, { on := 6, ground := Ground.phase }, { on := 7, ground := Ground.phase }, { on := 8, ground := Ground.phase }], guard := none }) (v := ?_) rfl (by kernel_rfl) (by kernel_rfl) (by kernel_rfl) (fun _ _ _ h => h) (Or.inl ⟨by rfl, ?_⟩) (by exact hH) ?_
              rotate_left
              · intro W hSw
                go_simp
                try with_reducible rfl
              try simp only [Act.put, List.setIfInBounds_toArray, List.set_cons_zero, List.set_cons_succ]
              refine wpAnyH_done (by kernel_rfl) ?_ _
              refine NoPanic.normal ?_
              go_wp2_with fail
              go_ret
              exact ⟨by rw [← HE.out.1]; rfl, HE.out.2.trans (HS4.out.mono HE.out.2.size)⟩
            ·
              go_simp
              have HS6 := Lib.hid (HS1.out.alloc HS1.out.size (.cells #[.int .u8 C] 5))
              have hb6 := cells_new V1 #[.int .u8 C] 5
              have ha6 := ha1.on (below_new _ (.cells #[.int .u8 C] 5))
              refine hK.out _ _ HS6.out (fun hH => ?_)
              clear hK K
              try simp only [Act.put, List.setIfInBounds_toArray, List.set_cons_zero, List.set_cons_succ]
              obtain ⟨gb, hgb⟩ : ∃ b, V1.heap.size = b := ⟨_, rfl⟩
              obtain ⟨V6, hV6⟩ : ∃ W, V1.alloc (.cells #[.int .u8 C] 5) = W := ⟨_, rfl⟩
              rw [hV6] at HS6 hb6 ha6 hH ⊢
              rw [hgb] at hb6 ⊢
              clear hV6 hgb
              refine wpAnyH_ready (rs := [3, 7]) (by kernel_rfl) (by simp) ?_
              refine (AllReadyH.cons (o := { dst := some 32, op := Op.call { callee := Callee.value (Operand.func 50), args := #[Operand.tmp 31, Operand.const (Value.string { data := #[59] })], argTypes := #[32, 9] }, type := 9, pos := "ansi.go:107", after := #[{ on := 2, ground := Ground.data }], guard := none }) rfl (fun K hK => ?_) (AllReadyH.cons (o := { dst := some 36, op := Op.convert 22 9 (Operand.tmp 35), type := 9, pos := "ansi.go:107", after := #[{ on := 6, ground := Ground.data }], guard := none }) rfl (fun K hK => ?_) AllReadyH.nil))
              ·
                go_simp
                go_at_call 50
                refine (KJ.out V6 HS6.out).mono ?_
                rintro e V7 ⟨rfl, hbk⟩
                have HS7 := Lib.hid (HS6.out.trans (hbk.mono HS6.out.size))
                have ha7 := ha6.on hbk
                have hb7 := hb6.on hbk
                clear hbk
                try go_wp2_with fail
                refine hK.out _ _ HS7.out (fun hH => ?_)
                clear hK K
                try simp only [Act.put, List.setIfInBounds_toArray, List.set_cons_zero, List.set_cons_succ]
                refine wpAnyH_take (i := 4) (oi := { dst := some 33, op := Op.binOp BinOp.add 9 (Operand.tmp 30) (Operand.tmp 32) 9, type := 9, pos := "ansi.go:107", after := #[{ on := 1, ground := Ground.data }, { on := 3, ground := Ground.data }], guard := none }) (v := ?_) rfl (by kernel_rfl) (by kernel_rfl) (by kernel_rfl) (fun _ _ _ h => h) (Or.inl ⟨by rfl, ?_⟩) (by exact hH) ?_
                rotate_left
                · intro W hSw
                  go_simp
                  try with_reducible rfl
                try simp only [Act.put, List.setIfInBounds_toArray, List.set_cons_zero, List.set_cons_succ]
                refine wpAnyH_ready (rs := [7]) (by kernel_rfl) (by simp) ?_
                refine (AllReadyH.cons (o := { dst := some 36, op := Op.convert 22 9 (Operand.tmp 35), type := 9, pos := "ansi.go:107", after := #[{ on := 6, ground := Ground.data }], guard := none }) rfl (fun K hK => ?_) AllReadyH.nil)
                have q : (convert 22 9 (.slice (some ⟨gb, 0, none⟩) 1 1)).run Tryd.prog V7 = .ok (.string P1) V7 := KA.out.2 _ _ hb7
                go_simp
                refine hK.out _ _ HS7.out (fun hH => ?_)
                clear hK K q
                try simp only [Act.put, List.setIfInBounds_toArray, List.set_cons_zero, List.set_cons_succ]
                refine wpAnyH_take (i := 8) (oi := { dst := some 37, op := Op.binOp BinOp.add 9 (Operand.tmp 33) (Operand.tmp 36) 9, type := 9, pos := "ansi.go:107", after := #[{ on := 4, ground := Ground.data }, { on := 7, ground := Ground.data }], guard := none }) (v := ?_) rfl (by kernel_rfl) (by kernel_rfl) (by kernel_rfl) (fun _ _ _ h => h) (Or.inl ⟨by rfl, ?_⟩) (by exact hH) ?_
                rotate_left
                · intro W hSw
                  go_simp
                  try with_reducible rfl
                try simp only [Act.put, List.setIfInBounds_toArray, List.set_cons_zero, List.set_cons_succ]
                refine wpAnyH_take (i := 9) (oi := { dst := some 4, op := Op.assign (Operand.tmp 37), type := 9, pos := "ansi.go:107", after := #[{ on := 8, ground := Ground.data }, { on := 3, ground := Ground.chain }, { on := 0, ground := Ground.phase }, { on := 1, ground := Ground.phase }, { on := 2, ground := Ground.phase }, { on := 3, ground := Ground.phase }, { on := 4, ground := Ground.phase }, { on := 5, ground := Ground.phase }, { on := 6, ground := Ground.phase }, { on := 7, ground := Ground.phase }, { on := 8, ground := Ground.phase }], guard := none }) (v := ?_) rfl (by kernel_rfl) (by kernel_rfl) (by kernel_rfl) (fun _ _ _ h => h) (Or.inl ⟨by rfl, ?_⟩) (by exact hH) ?_
                rotate_left
                · intro W hSw
                  go_simp
                  try with_reducible rfl
                try simp only [Act.put, List.setIfInBounds_toArray, List.set_cons_zero, List.set_cons_succ]
                refine wpAnyH_done (by kernel_rfl) ?_ _
                refine NoPanic.normal ?_
                go_wp2_with fail
                go_ret
                exact ⟨by rw [← HE.out.1]; rfl, HE.out.2.trans (HS7.out.mono HE.out.2.size)⟩
              ·
                have q : (convert 22 9 (.slice (some ⟨gb, 0, none⟩) 1 1)).run Tryd.prog V6 = .ok (.string P1) V6 := KA.out.2 _ _ hb6
                go_simp
                refine hK.out _ _ HS6.out (fun hH => ?_)
                clear hK K q
                try simp only [Act.put, List.setIfInBounds_toArray, List.set_cons_zero, List.set_cons_succ]
                refine wpAnyH_ready (rs := [3]) (by kernel_rfl) (by simp) ?_
                refine (AllReadyH.cons (o := { dst := some 32, op := Op.call { callee := Callee.value (Operand.func 50), args := #[Operand.tmp 31, Operand.const (Value.string { data := #[59] })], argTypes := #[32, 9] }, type := 9, pos := "ansi.go:107", after := #[{ on := 2, ground := Ground.data }], guard := none }) rfl (fun K hK => ?_) AllReadyH.nil)
                go_simp
                go_at_call 50
                refine (KJ.out V6 HS6.out).mono ?_
                rintro e V10 ⟨rfl, hbk⟩
                have HS10 := Lib.hid (HS6.out.trans (hbk.mono HS6.out.size))
                have ha10 := ha6.on hbk
                have hb10 := hb6.on hbk
                clear hbk
                try go_wp2_with fail
                refine hK.out _ _ HS10.out (fun hH => ?_)
                clear hK K
                try simp only [Act.put, List.setIfInBounds_toArray, List.set_cons_zero, List.set_cons_succ]
                refine wpAnyH_take (i := 4) (oi := { dst := some 33, op := Op.binOp BinOp.add 9 (Operand.tmp 30) (Operand.tmp 32) 9, type := 9, pos := "ansi.go:107", after := #[{ on := 1, ground := Ground.data }, { on := 3, ground := Ground.data }], guard := none }) (v := ?_) rfl (by kernel_rfl) (by kernel_rfl) (by kernel_rfl) (fun _ _ _ h => h) (Or.inl ⟨by rfl, ?_⟩) (by exact hH) ?_
                rotate_left
                · intro W hSw
                  go_simp
                  try with_reducible rfl
                try simp only [Act.put, List.setIfInBounds_toArray, List.set_cons_zero, List.set_cons_succ]
                refine wpAnyH_take (i := 8) (oi := { dst := some 37, op := Op.binOp BinOp.add 9 (Operand.tmp 33) (Operand.tmp 36) 9, type := 9, pos := "ansi.go:107", after := #[{ on := 4, ground := Ground.data }, { on := 7, ground := Ground.data }], guard := none }) (v := ?_) rfl (by kernel_rfl) (by kernel_rfl) (by kernel_rfl) (fun _ _ _ h => h) (Or.inl ⟨by rfl, ?_⟩) (by exact hH) ?_
                rotate_left
                · intro W hSw
                  go_simp
                  try with_reducible rfl
                try simp only [Act.put, List.setIfInBounds_toArray, List.set_cons_zero, List.set_cons_succ]
                refine wpAnyH_take (i := 9) (oi := { dst := some 4, op := Op.assign (Operand.tmp 37), type := 9, pos := "ansi.go:107", after := #[{ on := 8, ground := Ground.data }, { on := 3, ground := Ground.chain }, { on := 0, ground := Ground.phase }, { on := 1, ground := Ground.phase }, { on := 2, ground := Ground.phase }, { on := 3, ground := Ground.phase }, { on := 4, ground := Ground.phase }, { on := 5, ground := Ground.phase }, { on := 6, ground := Ground.phase }, { on := 7, ground := Ground.phase }, { on := 8, ground := Ground.phase }], guard := none }) (v := ?_) rfl (by kernel_rfl) (by kernel_rfl) (by kernel_rfl) (fun _ _ _ h => h) (Or.inl ⟨by rfl, ?_⟩) (by exact hH) ?_
                rotate_left
                · intro W hSw
                  go_simp
                  try with_reducible rfl
                try simp only [Act.put, List.setIfInBounds_toArray, List.set_cons_zero, List.set_cons_succ]
                refine wpAnyH_done (by kernel_rfl) ?_ _
                refine NoPanic.normal ?_
                go_wp2_with fail
                go_ret
                exact ⟨by rw [← HE.out.1]; rfl, HE.out.2.trans (HS10.out.mono HE.out.2.size)⟩
          ·
            go_simp
            go_at_call 50
            refine (KJ.out V1 HS1.out).mono ?_
            rintro e V11 ⟨rfl, hbk⟩
            have HS11 := Lib.hid (HS1.out.trans (hbk.mono HS1.out.size))
            have ha11 := ha1.on hbk
            clear hbk
            try go_wp2_with fail
            refine hK.out _ _ HS11.out (fun hH => ?_)
            clear hK K
            try simp only [Act.put, List.setIfInBounds_toArray, List.set_cons_zero, List.set_cons_succ]
            refine wpAnyH_ready (rs := [1, 6]) (by kernel_rfl) (by simp) ?_
            refine (AllReadyH.cons (o := { dst := some 30, op := Op.convert 22 9 (Operand.tmp 29), type := 9, pos := "ansi.go:107", after := #[{ on := 0, ground := Ground.data }], guard := none }) rfl (fun K hK => ?_) (AllReadyH.cons (o := { dst := some 35, op := Op.buildSlice 22 1 #[(0, Operand.tmp 34)], type := 22, pos := "ansi.go:107", after := #[{ on := 5, ground := Ground.data }], guard := none }) rfl (fun K hK => ?_) AllReadyH.nil))
            ·
              have q : (convert 22 9 (.slice (some ⟨ga, 0, none⟩) 2 2)).run Tryd.prog V11 = .ok (.string P0) V11 := KA.out.1 _ _ ha11
              go_simp
              refine hK.out _ _ HS11.out (fun hH => ?_)
              clear hK K q
              try simp only [Act.put, List.setIfInBounds_toArray, List.set_cons_zero, List.set_cons_succ]
              refine wpAnyH_take (i := 4) (oi := { dst := some 33, op := Op.binOp BinOp.add 9 (Operand.tmp 30) (Operand.tmp 32) 9, type := 9, pos := "ansi.go:107", after := #[{ on := 1, ground := Ground.data }, { on := 3, ground := Ground.data }], guard := none }) (v := ?_) rfl (by kernel_rfl) (by kernel_rfl) (by kernel_rfl) (fun _ _ _ h => h) (Or.inl ⟨by rfl, ?_⟩) (by exact hH) ?_
              rotate_left
              · intro W hSw
                go_simp
                try with_reducible rfl
              try simp only [Act.put, List.setIfInBounds_toArray, List.set_cons_zero, List.set_cons_succ]
              refine wpAnyH_ready (rs := [6]) (by kernel_rfl) (by simp) ?_
              refine (AllReadyH.cons (o := { dst := some 35, op := Op.buildSlice 22 1 #[(0, Operand.tmp 34)], type := 22, pos := "ansi.go:107", after := #[{ on := 5, ground := Ground.data }], guard := none }) rfl (fun K hK => ?_) AllReadyH.nil)
              go_simp
              have HS13 := Lib.hid (HS11.out.alloc HS11.out.size (.cells #[.int .u8 C] 5))
              have hb13 := cells_new V11 #[.int .u8 C] 5
              have ha13 := ha11.on (below_new _ (.cells #[.int .u8 C] 5))
              refine hK.out _ _ HS13.out (fun hH => ?_)
              clear hK K
              try simp only [Act.put, List.setIfInBounds_toArray, List.set_cons_zero, List.set_cons_succ]
              obtain ⟨gb, hgb⟩ : ∃ b, V11.heap.size = b := ⟨_, rfl⟩
              obtain ⟨V13, hV13⟩ : ∃ W, V11.alloc (.cells #[.int .u8 C] 5) = W := ⟨_, rfl⟩
              rw [hV13] at HS13 hb13 ha13 hH ⊢
              rw [hgb] at hb13 ⊢
              clear hV13 hgb
              refine wpAnyH_ready (rs := [7]) (by kernel_rfl) (by simp) ?_
              refine (AllReadyH.cons (o := { dst := some 36, op := Op.convert 22 9 (Operand.tmp 35), type := 9, pos := "ansi.go:107", after := #[{ on := 6, ground := Ground.data }], guard := none }) rfl (fun K hK => ?_) AllReadyH.nil)
              have q : (convert 22 9 (.slice (some ⟨gb, 0, none⟩) 1 1)).run Tryd.prog V13 = .ok (.string P1) V13 := KA.out.2 _ _ hb13
              go_simp
              refine hK.out _ _ HS13.out (fun hH => ?_)
              clear hK K q
              try simp only [Act.put, List.setIfInBounds_toArray, List.set_cons_zero, List.set_cons_succ]
              refine wpAnyH_take (i := 8) (oi := { dst := some 37, op := Op.binOp BinOp.add 9 (Operand.tmp 33) (Operand.tmp 36) 9, type := 9, pos := "ansi.go:107", after := #[{ on := 4, ground := Ground.data }, { on := 7, ground := Ground.data }], guard := none }) (v := ?_) rfl (by kernel_rfl) (by kernel_rfl) (by kernel_rfl) (fun _ _ _ h => h) (Or.inl ⟨by rfl, ?_⟩) (by exact hH) ?_
              rotate_left
              · intro W hSw
                go_simp
                try with_reducible rfl
              try simp only [Act.put, List.setIfInBounds_toArray, List.set_cons_zero, List.set_cons_succ]
              refine wpAnyH_take (i := 9) (oi := { dst := some 4, op := Op.assign (Operand.tmp 37), type := 9, pos := "ansi.go:107", after := #[{ on := 8, ground := Ground.data }, { on := 3, ground := Ground.chain }, { on := 0, ground := Ground.phase }, { on := 1, ground := Ground.phase }, { on := 2, ground := Ground.phase }, { on := 3, ground := Ground.phase }, { on := 4, ground := Ground.phase }, { on := 5, ground := Ground.phase }, { on := 6, ground := Ground.phase }, { on := 7, ground := Ground.phase }, { on := 8, ground := Ground.phase }], guard := none }) (v := ?_) rfl (by kernel_rfl) (by kernel_rfl) (by kernel_rfl) (fun _ _ _ h => h) (Or.inl ⟨by rfl, ?_⟩) (by exact hH) ?_
              rotate_left
              · intro W hSw
                go_simp
                try with_reducible rfl
              try simp only [Act.put, List.setIfInBounds_toArray, List.set_cons_zero, List.set_cons_succ]
              refine wpAnyH_done (by kernel_rfl) ?_ _
              refine NoPanic.normal ?_
              go_wp2_with fail
              go_ret
              exact ⟨by rw [← HE.out.1]; rfl, HE.out.2.trans (HS13.out.mono HE.out.2.size)⟩
            ·
              go_simp
              have HS15 := Lib.hid (HS11.out.alloc HS11.out.size (.cells #[.int .u8 C] 5))
              have hb15 := cells_new V11 #[.int .u8 C] 5
              have ha15 := ha11.on (below_new _ (.cells #[.int .u8 C] 5))
              refine hK.out _ _ HS15.out (fun hH => ?_)
              clear hK K
              try simp only [Act.put, List.setIfInBounds_toArray, List.set_cons_zero, List.set_cons_succ]
              obtain ⟨gb, hgb⟩ : ∃ b, V11.heap.size = b := ⟨_, rfl⟩
              obtain ⟨V15, hV15⟩ : ∃ W, V11.alloc (.cells #[.int .u8 C] 5) = W := ⟨_, rfl⟩
              rw [hV15] at HS15 hb15 ha15 hH ⊢
              rw [hgb] at hb15 ⊢
              clear hV15 hgb
              refine wpAnyH_ready (rs := [1, 7]) (by kernel_rfl) (by simp) ?_
              refine (AllReadyH.cons (o := { dst := some 30, op := Op.convert 22 9 (Operand.tmp 29), type := 9, pos := "ansi.go:107", after := #[{ on := 0, ground := Ground.data }], guard := none }) rfl (fun K hK => ?_) (AllReadyH.cons (o := { dst := some 36, op := Op.convert 22 9 (Operand.tmp 35), type := 9, pos := "ansi.go:107", after := #[{ on := 6, ground := Ground.data }], guard := none }) rfl (fun K hK => ?_) AllReadyH.nil))
              ·
                have q : (convert 22 9 (.slice (some ⟨ga, 0, none⟩) 2 2)).run Tryd.prog V15 = .ok (.string P0) V15 := KA.out.1 _ _ ha15
                go_simp
                refine hK.out _ _ HS15.out (fun hH => ?_)
                clear hK K q
                try simp only [Act.put, List.setIfInBounds_toArray, List.set_cons_zero, List.set_cons_succ]
                refine wpAnyH_take (i := 4) (oi := { dst := some 33, op := Op.binOp BinOp.add 9 (Operand.tmp 30) (Operand.tmp 32) 9, type := 9, pos := "ansi.go:107", after := #[{ on := 1, ground := Ground.data }, { on := 3, ground := Ground.data }], guard := none }) (v := ?_) rfl (by kernel_rfl) (by kernel_rfl) (by kernel_rfl) (fun _ _ _ h => h) (Or.inl ⟨by rfl, ?_⟩) (by exact hH) ?_
                rotate_left
                · intro W hSw
                  go_simp
                  try with_reducible rfl
                try simp only [Act.put, List.setIfInBounds_toArray, List.set_cons_zero, List.set_cons_succ]
                refine wpAnyH_ready (rs := [7]) (by kernel_rfl) (by simp) ?_
                refine (AllReadyH.cons (o := { dst := some 36, op := Op.convert 22 9 (Operand.tmp 35), type := 9, pos := "ansi.go:107", after := #[{ on := 6, ground := Ground.data }], guard := none }) rfl (fun K hK => ?_) AllReadyH.nil)
                have q : (convert 22 9 (.slice (some ⟨gb, 0, none⟩) 1 1)).run Tryd.prog V15 = .ok (.string P1) V15 := KA.out.2 _ _ hb15
                go_simp
                refine hK.out _ _ HS15.out (fun hH => ?_)
                clear hK K q
                try simp only [Act.put, List.setIfInBounds_toArray, List.set_cons_zero, List.set_cons_succ]
                refine wpAnyH_take (i := 8) (oi := { dst := some 37, op := Op.binOp BinOp.add 9 (Operand.tmp 33) (Operand.tmp 36) 9, type := 9, pos := "ansi.go:107", after := #[{ on := 4, ground := Ground.data }, { on := 7, ground := Ground.data }], guard := none }) (v := ?_) rfl (by kernel_rfl) (by kernel_rfl) (by kernel_rfl) (fun _ _ _ h => h) (Or.inl ⟨by rfl, ?_⟩) (by exact hH) ?_
                rotate_left
                · intro W hSw
                  go_simp
                  try with_reducible rfl
                try simp only [Act.put, List.setIfInBounds_toArray, List.set_cons_zero, List.set_cons_succ]
                refine wpAnyH_take (i := 9) (oi := { dst := some 4, op := Op.assign (Operand.tmp 37), type := 9, pos := "ansi.go:107", after := #[{ on := 8, ground := Ground.data }, { on := 3, ground := Ground.chain }, { on := 0, ground := Ground.phase }, { on := 1, ground := Ground.phase }, { on := 2, ground := Ground.phase }, { on := 3, ground := Ground.phase }, { on := 4, ground := Ground.phase }, { on := 5, ground := Ground.phase }, { on := 6, ground := Ground.phase }, { on := 7, ground := Ground.phase }, { on := 8, ground := Ground.phase }], guard := none }) (v := ?_) rfl (by kernel_rfl) (by kernel_rfl) (by kernel_rfl) (fun _ _ _ h => h) (Or.inl ⟨by rfl, ?_⟩) (by exact hH) ?_
                rotate_left
                · intro W hSw
                  go_simp
                  try with_reducible rfl
                try simp only [Act.put, List.setIfInBounds_toArray, List.set_cons_zero, List.set_cons_succ]
                refine wpAnyH_done (by kernel_rfl) ?_ _
                refine NoPanic.normal ?_
                go_wp2_with fail
                go_ret
                exact ⟨by rw [← HE.out.1]; rfl, HE.out.2.trans (HS15.out.mono HE.out.2.size)⟩
              ·
                have q : (convert 22 9 (.slice (some ⟨gb, 0, none⟩) 1 1)).run Tryd.prog V15 = .ok (.string P1) V15 := KA.out.2 _ _ hb15
                go_simp
                refine hK.out _ _ HS15.out (fun hH => ?_)
                clear hK K q
                try simp only [Act.put, List.setIfInBounds_toArray, List.set_cons_zero, List.set_cons_succ]
                refine wpAnyH_ready (rs := [1]) (by kernel_rfl) (by simp) ?_
                refine (AllReadyH.cons (o := { dst := some 30, op := Op.convert 22 9 (Operand.tmp 29), type := 9, pos := "ansi.go:107", after := #[{ on := 0, ground := Ground.data }], guard := none }) rfl (fun K hK => ?_) AllReadyH.nil)
                have q : (convert 22 9 (.slice (some ⟨ga, 0, none⟩) 2 2)).run Tryd.prog V15 = .ok (.string P0) V15 := KA.out.1 _ _ ha15
                go_simp
                refine hK.out _ _ HS15.out (fun hH => ?_)
                clear hK K q
                try simp only [Act.put, List.setIfInBounds_toArray, List.set_cons_zero, List.set_cons_succ]
                refine wpAnyH_take (i := 4) (oi := { dst := some 33, op := Op.binOp BinOp.add 9 (Operand.tmp 30) (Operand.tmp 32) 9, type := 9, pos := "ansi.go:107", after := #[{ on := 1, ground := Ground.data }, { on := 3, ground := Ground.data }], guard := none }) (v := ?_) rfl (by kernel_rfl) (by kernel_rfl) (by kernel_rfl) (fun _ _ _ h => h) (Or.inl ⟨by rfl, ?_⟩) (by exact hH) ?_
                rotate_left
                · intro W hSw
                  go_simp
                  try with_reducible rfl
                try simp only [Act.put, List.setIfInBounds_toArray, List.set_cons_zero, List.set_cons_succ]
                refine wpAnyH_take (i := 8) (oi := { dst := some 37, op := Op.binOp BinOp.add 9 (Operand.tmp 33) (Operand.tmp 36) 9, type := 9, pos := "ansi.go:107", after := #[{ on := 4, ground := Ground.data }, { on := 7, ground := Ground.data }], guard := none }) (v := ?_) rfl (by kernel_rfl) (by kernel_rfl) (by kernel_rfl) (fun _ _ _ h => h) (Or.inl ⟨by rfl, ?_⟩) (by exact hH) ?_
                rotate_left
                · intro W hSw
                  go_simp
                  try with_reducible rfl
                try simp only [Act.put, List.setIfInBounds_toArray, List.set_cons_zero, List.set_cons_succ]
                refine wpAnyH_take (i := 9) (oi := { dst := some 4, op := Op.assign (Operand.tmp 37), type := 9, pos := "ansi.go:107", after := #[{ on := 8, ground := Ground.data }, { on := 3, ground := Ground.chain }, { on := 0, ground := Ground.phase }, { on := 1, ground := Ground.phase }, { on := 2, ground := Ground.phase }, { on := 3, ground := Ground.phase }, { on := 4, ground := Ground.phase }, { on := 5, ground := Ground.phase }, { on := 6, ground := Ground.phase }, { on := 7, ground := Ground.phase }, { on := 8, ground := Ground.phase }], guard := none }) (v := ?_) rfl (by kernel_rfl) (by kernel_rfl) (by kernel_rfl) (fun _ _ _ h => h) (Or.inl ⟨by rfl, ?_⟩) (by exact hH) ?_
                rotate_left
                · intro W hSw
                  go_simp
                  try with_reducible rfl
                try simp only [Act.put, List.setIfInBounds_toArray, List.set_cons_zero, List.set_cons_succ]
                refine wpAnyH_done (by kernel_rfl) ?_ _
                refine NoPanic.normal ?_
                go_wp2_with fail
                go_ret
                exact ⟨by rw [← HE.out.1]; rfl, HE.out.2.trans (HS15.out.mono HE.out.2.size)⟩
          ·
            go_simp
            have HS20 := Lib.hid (HS1.out.alloc HS1.out.size (.cells #[.int .u8 C] 5))
            have hb20 := cells_new V1 #[.int .u8 C] 5
            have ha20 := ha1.on (below_new _ (.cells #[.int .u8 C] 5))
            refine hK.out _ _ HS20.out (fun hH => ?_)
            clear hK K
            try simp only [Act.put, List.setIfInBounds_toArray, List.set_cons_zero, List.set_cons_succ]
            obtain ⟨gb, hgb⟩ : ∃ b, V1.heap.size = b := ⟨_, rfl⟩
            obtain ⟨V20, hV20⟩ : ∃ W, V1.alloc (.cells #[.int .u8 C] 5) = W := ⟨_, rfl⟩
            rw [hV20] at HS20 hb20 ha20 hH ⊢
            rw [hgb] at hb20 ⊢
            clear hV20 hgb
            refine wpAnyH_ready (rs := [1, 3, 7]) (by kernel_rfl) (by simp) ?_
            refine (AllReadyH.cons (o := { dst := some 30, op := Op.convert 22 9 (Operand.tmp 29), type := 9, pos := "ansi.go:107", after := #[{ on := 0, ground := Ground.data }], guard := none }) rfl (fun K hK => ?_) (AllReadyH.cons (o := { dst := some 32, op := Op.call { callee := Callee.value (Operand.func 50), args := #[Operand.tmp 31, Operand.const (Value.string { data := #[59] })], argTypes := #[32, 9] }, type := 9, pos := "ansi.go:107", after := #[{ on := 2, ground := Ground.data }], guard := none }) rfl (fun K hK => ?_) (AllReadyH.cons (o := { dst := some 36, op := Op.convert 22 9 (Operand.tmp 35), type := 9, pos := "ansi.go:107", after := #[{ on := 6, ground := Ground.data }], guard := none }) rfl (fun K hK => ?_) AllReadyH.nil)))
            ·
              have q : (convert 22 9 (.slice (some ⟨ga, 0, none⟩) 2 2)).run Tryd.prog V20 = .ok (.string P0) V20 := KA.out.1 _ _ ha20
              go_simp
              refine hK.out _ _ HS20.out (fun hH => ?_)
              clear hK K q
              try simp only [Act.put, List.setIfInBounds_toArray, List.set_cons_zero, List.set_cons_succ]
              refine wpAnyH_ready (rs := [3, 7]) (by kernel_rfl) (by simp) ?_
              refine (AllReadyH.cons (o := { dst := some 32, op := Op.call { callee := Callee.value (Operand.func 50), args := #[Operand.tmp 31, Operand.const (Value.string { data := #[59] })], argTypes := #[32, 9] }, type := 9, pos := "ansi.go:107", after := #[{ on := 2, ground := Ground.data }], guard := none }) rfl (fun K hK => ?_) (AllReadyH.cons (o := { dst := some 36, op := Op.convert 22 9 (Operand.tmp 35), type := 9, pos := "ansi.go:107", after := #[{ on := 6, ground := Ground.data }], guard := none }) rfl (fun K hK => ?_) AllReadyH.nil))
              ·
                go_simp
                go_at_call 50
                refine (KJ.out V20 HS20.out).mono ?_
                rintro e V22 ⟨rfl, hbk⟩
                have HS22 := Lib.hid (HS20.out.trans (hbk.mono HS20.out.size))
                have ha22 := ha20.on hbk
                have hb22 := hb20.on hbk
                clear hbk
                try go_wp2_with fail
                refine hK.out _ _ HS22.out (fun hH => ?_)
                clear hK K
                try simp only [Act.put, List.setIfInBounds_toArray, List.set_cons_zero, List.set_cons_succ]
                refine wpAnyH_take (i := 4) (oi := { dst := some 33, op := Op.binOp BinOp.add 9 (Operand.tmp 30) (Operand.tmp 32) 9, type := 9, pos := "ansi.go:107", after := #[{ on := 1, ground := Ground.data }, { on := 3, ground := Ground.data }], guard := none }) (v := ?_) rfl (by kernel_rfl) (by kernel_rfl) (by kernel_rfl) (fun _ _ _ h => h) (Or.inl ⟨by rfl, ?_⟩) (by exact hH) ?_
                rotate_left
                · intro W hSw
                  go_simp
                  try with_reducible rfl
                try simp only [Act.put, List.setIfInBounds_toArray, List.set_cons_zero, List.set_cons_succ]
                refine wpAnyH_ready (rs := [7]) (by kernel_rfl) (by simp) ?_
                refine (AllReadyH.cons (o := { dst := some 36, op := Op.convert 22 9 (Operand.tmp 35), type := 9, pos := "ansi.go:107", after := #[{ on := 6, ground := Ground.data }], guard := none }) rfl (fun K hK => ?_) AllReadyH.nil)
                have q : (convert 22 9 (.slice (some ⟨gb, 0, none⟩) 1 1)).run Tryd.prog V22 = .ok (.string P1) V22 := KA.out.2 _ _ hb22
                go_simp
                refine hK.out _ _ HS22.out (fun hH => ?_)
                clear hK K q
                try simp only [Act.put, List.setIfInBounds_toArray, List.set_cons_zero, List.set_cons_succ]
                refine wpAnyH_take (i := 8) (oi := { dst := some 37, op := Op.binOp BinOp.add 9 (Operand.tmp 33) (Operand.tmp 36) 9, type := 9, pos := "ansi.go:107", after := #[{ on := 4, ground := Ground.data }, { on := 7, ground := Ground.data }], guard := none }) (v := ?_) rfl (by kernel_rfl) (by kernel_rfl) (by kernel_rfl) (fun _ _ _ h => h) (Or.inl ⟨by rfl, ?_⟩) (by exact hH) ?_
                rotate_left
                · intro W hSw
                  go_simp
                  try with_reducible rfl
                try simp only [Act.put, List.setIfInBounds_toArray, List.set_cons_zero, List.set_cons_succ]
                refine wpAnyH_take (i := 9) (oi := { dst := some 4, op := Op.assign (Operand.tmp 37), type := 9, pos := "ansi.go:107", after := #[{ on := 8, ground := Ground.data }, { on := 3, ground := Ground.chain }, { on := 0, ground := Ground.phase }, { on := 1, ground := Ground.phase }, { on := 2, ground := Ground.phase }, { on := 3, ground := Ground.phase }, { on := 4, ground := Ground.phase }, { on := 5, ground := Ground.phase }, { on := 6, ground := Ground.phase }, { on := 7, ground := Ground.phase }, { on := 8, ground := Ground.phase }], guard := none }) (v := ?_) rfl (by kernel_rfl) (by kernel_rfl) (by kernel_rfl) (fun _ _ _ h => h) (Or.inl ⟨by rfl, ?_⟩) (by exact hH) ?_
                rotate_left
                · intro W hSw
                  go_simp
                  try with_reducible rfl
                try simp only [Act.put, List.setIfInBounds_toArray, List.set_cons_zero, List.set_cons_succ]
                refine wpAnyH_done (by kernel_rfl) ?_ _
                refine NoPanic.normal ?_
                go_wp2_with fail
                go_ret
                exact ⟨by rw [← HE.out.1]; rfl, HE.out.2.trans (HS22.out.mono HE.out.2.size)⟩
              ·
                have q : (convert 22 9 (.slice (some ⟨gb, 0, none⟩) 1 1)).run Tryd.prog V20 = .ok (.string P1) V20 := KA.out.2 _ _ hb20
                go_simp
                refine hK.out _ _ HS20.out (fun hH => ?_)
                clear hK K q
                try simp only [Act.put, List.setIfInBounds_toArray, List.set_cons_zero, List.set_cons_succ]
                refine wpAnyH_ready (rs := [3]) (by kernel_rfl) (by simp) ?_
                refine (AllReadyH.cons (o := { dst := some 32, op := Op.call { callee := Callee.value (Operand.func 50), args := #[Operand.tmp 31, Operand.const (Value.string { data := #[59] })], argTypes := #[32, 9] }, type := 9, pos := "ansi.go:107", after := #[{ on := 2, ground := Ground.data }], guard := none }) rfl (fun K hK => ?_) AllReadyH.nil)
                go_simp
                go_at_call 50
                refine (KJ.out V20 HS20.out).mono ?_
                rintro e V25 ⟨rfl, hbk⟩
                have HS25 := Lib.hid (HS20.out.trans (hbk.mono HS20.out.size))
                have ha25 := ha20.on hbk
                have hb25 := hb20.on hbk
                clear hbk
                try go_wp2_with fail
                refine hK.out _ _ HS25.out (fun hH => ?_)
                clear hK K
                try simp only [Act.put, List.setIfInBounds_toArray, List.set_cons_zero, List.set_cons_succ]
                refine wpAnyH_take (i := 4) (oi := { dst := some 33, op := Op.binOp BinOp.add 9 (Operand.tmp 30) (Operand.tmp 32) 9, type := 9, pos := "ansi.go:107", after := #[{ on := 1, ground := Ground.data }, { on := 3, ground := Ground.data }], guard := none }) (v := ?_) rfl (by kernel_rfl) (by kernel_rfl) (by kernel_rfl) (fun _ _ _ h => h) (Or.inl ⟨by rfl, ?_⟩) (by exact hH) ?_
                rotate_left
                · intro W hSw
                  go_simp
                  try with_reducible rfl
                try simp only [Act.put, List.setIfInBounds_toArray, List.set_cons_zero, List.set_cons_succ]
                refine wpAnyH_take (i := 8) (oi := { dst := some 37, op := Op.binOp BinOp.add 9 (Operand.tmp 33) (Operand.tmp 36) 9, type := 9, pos := "ansi.go:107", after := #[{ on := 4, ground := Ground.data }, { on := 7, ground := Ground.data }], guard := none }) (v := ?_) rfl (by kernel_rfl) (by kernel_rfl) (by kernel_rfl) (fun _ _ _ h => h) (Or.inl ⟨by rfl, ?_⟩) (by exact hH) ?_
                rotate_left
                · intro W hSw
                  go_simp
                  try with_reducible rfl
                try simp only [Act.put, List.setIfInBounds_toArray, List.set_cons_zero, List.set_cons_succ]
                refine wpAnyH_take (i := 9) (oi := { dst := some 4, op := Op.assign (Operand.tmp 37), type := 9, pos := "ansi.go:107", after := #[{ on := 8, ground := Ground.data }, { on := 3, ground := Ground.chain }, { on := 0, ground := Ground.phase }, { on := 1, ground := Ground.phase }, { on := 2, ground := Ground.phase }, { on := 3, ground := Ground.phase }, { on := 4, ground := Ground.phase }, { on := 5, ground := Ground.phase }, { on := 6, ground := Ground.phase }, { on := 7, ground := Ground.phase }, { on := 8, ground := Ground.phase }], guard := none }) (v := ?_) rfl (by kernel_rfl) (by kernel_rfl) (by kernel_rfl) (fun _ _ _ h => h) (Or.inl ⟨by rfl, ?_⟩) (by exact hH) ?_
                rotate_left
                · intro W hSw
                  go_simp
                  try with_reducible rfl
                try simp only [Act.put, List.setIfInBounds_toArray, List.set_cons_zero, List.set_cons_succ]
                refine wpAnyH_done (by kernel_rfl) ?_ _
                refine NoPanic.normal ?_
                go_wp2_with fail
                go_ret
                exact ⟨by rw [← HE.out.1]; rfl, HE.out.2.trans (HS25.out.mono HE.out.2.size)⟩
            ·
              go_simp
              go_at_call 50
              refine (KJ.out V20 HS20.out).mono ?_
              rintro e V26 ⟨rfl, hbk⟩
              have HS26 := Lib.hid (HS20.out.trans (hbk.mono HS20.out.size))
              have ha26 := ha20.on hbk
              have hb26 := hb20.on hbk
              clear hbk
              try go_wp2_with fail
              refine hK.out _ _ HS26.out (fun hH => ?_)
              clear hK K
              try simp only [Act.put, List.setIfInBounds_toArray, List.set_cons_zero, List.set_cons_succ]
              refine wpAnyH_ready (rs := [1, 7]) (by kernel_rfl) (by simp) ?_
              refine (AllReadyH.cons (o := { dst := some 30, op := Op.convert 22 9 (Operand.tmp 29), type := 9, pos := "ansi.go:107", after := #[{ on := 0, ground := Ground.data }], guard := none }) rfl (fun K hK => ?_) (AllReadyH.cons (o := { dst := some 36, op := Op.convert 22 9 (Operand.tmp 35), type := 9, pos := "ansi.go:107", after := #[{ on := 6, ground := Ground.data }], guard := none }) rfl (fun K hK => ?_) AllReadyH.nil))
              ·
                have q : (convert 22 9 (.slice (some ⟨ga, 0, none⟩) 2 2)).run Tryd.prog V26 = .ok (.string P0) V26 := KA.out.1 _ _ ha26
                go_simp
                refine hK.out _ _ HS26.out (fun hH => ?_)
                clear hK K q
                try simp only [Act.put, List.setIfInBounds_toArray, List.set_cons_zero, List.set_cons_succ]
                refine wpAnyH_take (i := 4) (oi := { dst := some 33, op := Op.binOp BinOp.add 9 (Operand.tmp 30) (Operand.tmp 32) 9, type := 9, pos := "ansi.go:107", after := #[{ on := 1, ground := Ground.data }, { on := 3, ground := Ground.data }], guard := none }) (v := ?_) rfl (by kernel_rfl) (by kernel_rfl) (by kernel_rfl) (fun _ _ _ h => h) (Or.inl ⟨by rfl, ?_⟩) (by exact hH) ?_
                rotate_left
                · intro W hSw
                  go_simp
                  try with_reducible rfl
                try simp only [Act.put, List.setIfInBounds_toArray, List.set_cons_zero, List.set_cons_succ]
                refine wpAnyH_ready (rs := [7]) (by kernel_rfl) (by simp) ?_
                refine (AllReadyH.cons (o := { dst := some 36, op := Op.convert 22 9 (Operand.tmp 35), type := 9, pos := "ansi.go:107", after := #[{ on := 6, ground := Ground.data }], guard := none }) rfl (fun K hK => ?_) AllReadyH.nil)
                have q : (convert 22 9 (.slice (some ⟨gb, 0, none⟩) 1 1)).run Tryd.prog V26 = .ok (.string P1) V26 := KA.out.2 _ _ hb26
                go_simp
                refine hK.out _ _ HS26.out (fun hH => ?_)
                clear hK K q
                try simp only [Act.put, List.setIfInBounds_toArray, List.set_cons_zero, List.set_cons_succ]
                refine wpAnyH_take (i := 8) (oi := { dst := some 37, op := Op.binOp BinOp.add 9 (Operand.tmp 33) (Operand.tmp 36) 9, type := 9, pos := "ansi.go:107", after := #[{ on := 4, ground := Ground.data }, { on := 7, ground := Ground.data }], guard := none }) (v := ?_) rfl (by kernel_rfl) (by kernel_rfl) (by kernel_rfl) (fun _ _ _ h => h) (Or.inl ⟨by rfl, ?_⟩) (by exact hH) ?_
                rotate_left
                · intro W hSw
                  go_simp
                  try with_reducible rfl
                try simp only [Act.put, List.setIfInBounds_toArray, List.set_cons_zero, List.set_cons_succ]
                refine wpAnyH_take (i := 9) (oi := { dst := some 4, op := Op.assign (Operand.tmp 37), type := 9, pos := "ansi.go:107", after := #[{ on := 8, ground := Ground.data }, { on := 3, ground := Ground.chain }, { on := 0, ground := Ground.phase }, { on := 1, ground := Ground.phase }, { on := 2, ground := Ground.phase }, { on := 3, ground := Ground.phase }, { on := 4, ground := Ground.phase }, { on := 5, ground := Ground.phase }, { on := 6, ground := Ground.phase }, { on := 7, ground := Ground.phase }, { on := 8, ground := Ground.phase }], guard := none }) (v := ?_) rfl (by kernel_rfl) (by kernel_rfl) (by kernel_rfl) (fun _ _ _ h => h) (Or.inl ⟨by rfl, ?_⟩) (by exact hH) ?_
                rotate_left
                · intro W hSw
                  go_simp
                  try with_reducible rfl
                try simp only [Act.put, List.setIfInBounds_toArray, List.set_cons_zero, List.set_cons_succ]
                refine wpAnyH_done (by kernel_rfl) ?_ _
                refine NoPanic.normal ?_
                go_wp2_with fail
                go_ret
                exact ⟨by rw [← HE.out.1]; rfl, HE.out.2.trans (HS26.out.mono HE.out.2.size)⟩
              ·
                have q : (convert 22 9 (.slice (some ⟨gb, 0, none⟩) 1 1)).run Tryd.prog V26 = .ok (.string P1) V26 := KA.out.2 _ _ hb26
                go_simp
                refine hK.out _ _ HS26.out (fun hH => ?_)
                clear hK K q
                try simp only [Act.put, List.setIfInBounds_toArray, List.set_cons_zero, List.set_cons_succ]
                refine wpAnyH_ready (rs := [1]) (by kernel_rfl) (by simp) ?_
                refine (AllReadyH.cons (o := { dst := some 30, op := Op.convert 22 9 (Operand.tmp 29), type := 9, pos := "ansi.go:107", after := #[{ on := 0, ground := Ground.data }], guard := none }) rfl (fun K hK => ?_) AllReadyH.nil)
                have q : (convert 22 9 (.slice (some ⟨ga, 0, none⟩) 2 2)).run Tryd.prog V26 = .ok (.string P0) V26 := KA.out.1 _ _ ha26
                go_simp
                refine hK.out _ _ HS26.out (fun hH => ?_)
                clear hK K q
                try simp only [Act.put, List.setIfInBounds_toArray, List.set_cons_zero, List.set_cons_succ]
                refine wpAnyH_take (i := 4) (oi := { dst := some 33, op := Op.binOp BinOp.add 9 (Operand.tmp 30) (Operand.tmp 32) 9, type := 9, pos := "ansi.go:107", after := #[{ on := 1, ground := Ground.data }, { on := 3, ground := Ground.data }], guard := none }) (v := ?_) rfl (by kernel_rfl) (by kernel_rfl) (by kernel_rfl) (fun _ _ _ h => h) (Or.inl ⟨by rfl, ?_⟩) (by exact hH) ?_
                rotate_left
                · intro W hSw
                  go_simp
                  try with_reducible rfl
                try simp only [Act.put, List.setIfInBounds_toArray, List.set_cons_zero, List.set_cons_succ]
                refine wpAnyH_take (i := 8) (oi := { dst := some 37, op := Op.binOp BinOp.add 9 (Operand.tmp 33) (Operand.tmp 36) 9, type := 9, pos := "ansi.go:107", after := #[{ on := 4, ground := Ground.data }, { on := 7, ground := Ground.data }], guard := none }) (v := ?_) rfl (by kernel_rfl) (by kernel_rfl) (by kernel_rfl) (fun _ _ _ h => h) (Or.inl ⟨by rfl, ?_⟩) (by exact hH) ?_
                rotate_left
                · intro W hSw
                  go_simp
                  try with_reducible rfl
                try simp only [Act.put, List.setIfInBounds_toArray, List.set_cons_zero, List.set_cons_succ]
                refine wpAnyH_take (i := 9) (oi := { dst := some 4, op := Op.assign (Operand.tmp 37), type := 9, pos := "ansi.go:107", after := #[{ on := 8, ground := Ground.data }, { on := 3, ground := Ground.chain }, { on := 0, ground := Ground.phase }, { on := 1, ground := Ground.phase }, { on := 2, ground := Ground.phase }, { on := 3, ground := Ground.phase }, { on := 4, ground := Ground.phase }, { on := 5, ground := Ground.phase }, { on := 6, ground := Ground.phase }, { on := 7, ground := Ground.phase }, { on := 8, ground := Ground.phase }], guard := none }) (v := ?_) rfl (by kernel_rfl) (by kernel_rfl) (by kernel_rfl) (fun _ _ _ h => h) (Or.inl ⟨by rfl, ?_⟩) (by exact hH) ?_
                rotate_left
                · intro W hSw
                  go_simp
                  try with_reducible rfl
                try simp only [Act.put, List.setIfInBounds_toArray, List.set_cons_zero, List.set_cons_succ]
                refine wpAnyH_done (by kernel_rfl) ?_ _
                refine NoPanic.normal ?_
                go_wp2_with fail
                go_ret
                exact ⟨by rw [← HE.out.1]; rfl, HE.out.2.trans (HS26.out.mono HE.out.2.size)⟩
            ·
              have q : (convert 22 9 (.slice (some ⟨gb, 0, none⟩) 1 1)).run Tryd.prog V20 = .ok (.string P1) V20 := KA.out.2 _ _ hb20
              go_simp
              refine hK.out _ _ HS20.out (fun hH => ?_)
              clear hK K q
              try simp only [Act.put, List.setIfInBounds_toArray, List.set_cons_zero, List.set_cons_succ]
              refine wpAnyH_ready (rs := [1, 3]) (by kernel_rfl) (by simp) ?_
              refine (AllReadyH.cons (o := { dst := some 30, op := Op.convert 22 9 (Operand.tmp 29), type := 9, pos := "ansi.go:107", after := #[{ on := 0, ground := Ground.data }], guard := none }) rfl (fun K hK => ?_) (AllReadyH.cons (o := { dst := some 32, op := Op.call { callee := Callee.value (Operand.func 50), args := #[Operand.tmp 31, Operand.const (Value.string { data := #[59] })], argTypes := #[32, 9] }, type := 9, pos := "ansi.go:107", after := #[{ on := 2, ground := Ground.data }], guard := none }) rfl (fun K hK => ?_) AllReadyH.nil))
              ·
                have q : (convert 22 9 (.slice (some ⟨ga, 0, none⟩) 2 2)).run Tryd.prog V20 = .ok (.string P0) V20 := KA.out.1 _ _ ha20
                go_simp
                refine hK.out _ _ HS20.out (fun hH => ?_)
                clear hK K q
                try simp only [Act.put, List.setIfInBounds_toArray, List.set_cons_zero, List.set_cons_succ]
                refine wpAnyH_ready (rs := [3]) (by kernel_rfl) (by simp) ?_
                refine (AllReadyH.cons (o := { dst := some 32, op := Op.call { callee := Callee.value (Operand.func 50), args := #[Operand.tmp 31, Operand.const (Value.string { data := #[59] })], argTypes := #[32, 9] }, type := 9, pos := "ansi.go:107", after := #[{ on := 2, ground := Ground.data }], guard := none }) rfl (fun K hK => ?_) AllReadyH.nil)
                go_simp
                go_at_call 50
                refine (KJ.out V20 HS20.out).mono ?_
                rintro e V33 ⟨rfl, hbk⟩
                have HS33 := Lib.hid (HS20.out.trans (hbk.mono HS20.out.size))
                have ha33 := ha20.on hbk
                have hb33 := hb20.on hbk
                clear hbk
                try go_wp2_with fail
                refine hK.out _ _ HS33.out (fun hH => ?_)
                clear hK K
                try simp only [Act.put, List.setIfInBounds_toArray, List.set_cons_zero, List.set_cons_succ]
                refine wpAnyH_take (i := 4) (oi := { dst := some 33, op := Op.binOp BinOp.add 9 (Operand.tmp 30) (Operand.tmp 32) 9, type := 9, pos := "ansi.go:107", after := #[{ on := 1, ground := Ground.data }, { on := 3, ground := Ground.data }], guard := none }) (v := ?_) rfl (by kernel_rfl) (by kernel_rfl) (by kernel_rfl) (fun _ _ _ h => h) (Or.inl ⟨by rfl, ?_⟩) (by exact hH) ?_
                rotate_left
                · intro W hSw
                  go_simp
                  try with_reducible rfl
                try simp only [Act.put, List.setIfInBounds_toArray, List.set_cons_zero, List.set_cons_succ]
                refine wpAnyH_take (i := 8) (oi := { dst := some 37, op := Op.binOp BinOp.add 9 (Operand.tmp 33) (Operand.tmp 36) 9, type := 9, pos := "ansi.go:107", after := #[{ on := 4, ground := Ground.data }, { on := 7, ground := Ground.data }], guard := none }) (v := ?_) rfl (by kernel_rfl) (by kernel_rfl) (by kernel_rfl) (fun _ _ _ h => h) (Or.inl ⟨by rfl, ?_⟩) (by exact hH) ?_
                rotate_left
                · intro W hSw
                  go_simp
                  try with_reducible rfl
                try simp only [Act.put, List.setIfInBounds_toArray, List.set_cons_zero, List.set_cons_succ]
                refine wpAnyH_take (i := 9) (oi := { dst := some 4, op := Op.assign (Operand.tmp 37), type := 9, pos := "ansi.go:107", after := #[{ on := 8, ground := Ground.data }, { on := 3, ground := Ground.chain }, { on := 0, ground := Ground.phase }, { on := 1, ground := Ground.phase }, { on := 2, ground := Ground.phase }, { on := 3, ground := Ground.phase }, { on := 4, ground := Ground.phase }, { on := 5, ground := Ground.phase }, { on := 6, ground := Ground.phase }, { on := 7, ground := Ground.phase }, { on := 8, ground := Ground.phase }], guard := none }) (v := ?_) rfl (by kernel_rfl) (by kernel_rfl) (by kernel_rfl) (fun _ _ _ h => h) (Or.inl ⟨by rfl, ?_⟩) (by exact hH) ?_
                rotate_left
                · intro W hSw
                  go_simp
                  try with_reducible rfl
                try simp only [Act.put, List.setIfInBounds_toArray, List.set_cons_zero, List.set_cons_succ]
                refine wpAnyH_done (by kernel_rfl) ?_ _
                refine NoPanic.normal ?_
                go_wp2_with fail
                go_ret
                exact ⟨by rw [← HE.out.1]; rfl, HE.out.2.trans (HS33.out.mono HE.out.2.size)⟩
              ·
                go_simp
                go_at_call 50
                refine (KJ.out V20 HS20.out).mono ?_
                rintro e V34 ⟨rfl, hbk⟩
                have HS34 := Lib.hid (HS20.out.trans (hbk.mono HS20.out.size))
                have ha34 := ha20.on hbk
                have hb34 := hb20.on hbk
                clear hbk
                try go_wp2_with fail
                refine hK.out _ _ HS34.out (fun hH => ?_)
                clear hK K
                try simp only [Act.put, List.setIfInBounds_toArray, List.set_cons_zero, List.set_cons_succ]
                refine wpAnyH_ready (rs := [1]) (by kernel_rfl) (by simp) ?_
                refine (AllReadyH.cons (o := { dst := some 30, op := Op.convert 22 9 (Operand.tmp 29), type := 9, pos := "ansi.go:107", after := #[{ on := 0, ground := Ground.data }], guard := none }) rfl (fun K hK => ?_) AllReadyH.nil)
                have q : (convert 22 9 (.slice (some ⟨ga, 0, none⟩) 2 2)).run Tryd.prog V34 = .ok (.string P0) V34 := KA.out.1 _ _ ha34
                go_simp
                refine hK.out _ _ HS34.out (fun hH => ?_)
                clear hK K q
                try simp only [Act.put, List.setIfInBounds_toArray, List.set_cons_zero, List.set_cons_succ]
                refine wpAnyH_take (i := 4) (oi := { dst := some 33, op := Op.binOp BinOp.add 9 (Operand.tmp 30) (Operand.tmp 32) 9, type := 9, pos := "ansi.go:107", after := #[{ on := 1, ground := Ground.data }, { on := 3, ground := Ground.data }], guard := none }) (v := ?_) rfl (by kernel_rfl) (by kernel_rfl) (by kernel_rfl) (fun _ _ _ h => h) (Or.inl ⟨by rfl, ?_⟩) (by exact hH) ?_
                rotate_left
                · intro W hSw
                  go_simp
                  try with_reducible rfl
                try simp only [Act.put, List.setIfInBounds_toArray, List.set_cons_zero, List.set_cons_succ]
                refine wpAnyH_take (i := 8) (oi := { dst := some 37, op := Op.binOp BinOp.add 9 (Operand.tmp 33) (Operand.tmp 36) 9, type := 9, pos := "ansi.go:107", after := #[{ on := 4, ground := Ground.data }, { on := 7, ground := Ground.data }], guard := none }) (v := ?_) rfl (by kernel_rfl) (by kernel_rfl) (by kernel_rfl) (fun _ _ _ h => h) (Or.inl ⟨by rfl, ?_⟩) (by exact hH) ?_
                rotate_left
                · intro W hSw
                  go_simp
                  try with_reducible rfl
                try simp only [Act.put, List.setIfInBounds_toArray, List.set_cons_zero, List.set_cons_succ]
                refine wpAnyH_take (i := 9) (oi := { dst := some 4, op := Op.assign (Operand.tmp 37), type := 9, pos := "ansi.go:107", after := #[{ on := 8, ground := Ground.data }, { on := 3, ground := Ground.chain }, { on := 0, ground := Ground.phase }, { on := 1, ground := Ground.phase }, { on := 2, ground := Ground.phase }, { on := 3, ground := Ground.phase }, { on := 4, ground := Ground.phase }, { on := 5, ground := Ground.phase }, { on := 6, ground := Ground.phase }, { on := 7, ground := Ground.phase }, { on := 8, ground := Ground.phase }], guard := none }) (v := ?_) rfl (by kernel_rfl) (by kernel_rfl) (by kernel_rfl) (fun _ _ _ h => h) (Or.inl ⟨by rfl, ?_⟩) (by exact hH) ?_
                rotate_left
                · intro W hSw
                  go_simp
                  try with_reducible rfl
                try simp only [Act.put, List.setIfInBounds_toArray, List.set_cons_zero, List.set_cons_succ]
                refine wpAnyH_done (by kernel_rfl) ?_ _
                refine NoPanic.normal ?_
                go_wp2_with fail
                go_ret
                exact ⟨by rw [← HE.out.1]; rfl, HE.out.2.trans (HS34.out.mono HE.out.2.size)⟩
        ·
          go_simp
          go_at_call 50
          refine (KJ.out wd HSd.out).mono ?_
          rintro e V36 ⟨rfl, hbk⟩
          have HS36 := Lib.hid (HSd.out.trans (hbk.mono HSd.out.size))
          clear hbk
          try go_wp2_with fail
          refine hK.out _ _ HS36.out (fun hH => ?_)
          clear hK K
          try simp only [Act.put, List.setIfInBounds_toArray, List.set_cons_zero, List.set_cons_succ]
          refine wpAnyH_ready (rs := [0, 6]) (by kernel_rfl) (by simp) ?_
          refine (AllReadyH.cons (o := { dst := some 29, op := Op.buildSlice 22 2 #[(0, Operand.const (Value.int IntKind.u8 27)), (1, Operand.const (Value.int IntKind.u8 91))], type := 22, pos := "ansi.go:107", after := #[], guard := none }) rfl (fun K hK => ?_) (AllReadyH.cons (o := { dst := some 35, op := Op.buildSlice 22 1 #[(0, Operand.tmp 34)], type := 22, pos := "ansi.go:107", after := #[{ on := 5, ground := Ground.data }], guard := none }) rfl (fun K hK => ?_) AllReadyH.nil))
          ·
            go_simp
            have HS37 := Lib.hid (HS36.out.alloc HS36.out.size (.cells #[.int .u8 27, .int .u8 91] 5))
            have ha37 := cells_new V36 #[.int .u8 27, .int .u8 91] 5
            refine hK.out _ _ HS37.out (fun hH => ?_)
            clear hK K
            try simp only [Act.put, List.setIfInBounds_toArray, List.set_cons_zero, List.set_cons_succ]
            obtain ⟨ga, hga⟩ : ∃ b, V36.heap.size = b := ⟨_, rfl⟩
            obtain ⟨V37, hV37⟩ : ∃ W, V36.alloc (.cells #[.int .u8 27, .int .u8 91] 5) = W := ⟨_, rfl⟩
            rw [hV37] at HS37 ha37 hH ⊢
            rw [hga] at ha37 ⊢
            clear hV37 hga
            refine wpAnyH_ready (rs := [1, 6]) (by kernel_rfl) (by simp) ?_
            refine (AllReadyH.cons (o := { dst := some 30, op := Op.convert 22 9 (Operand.tmp 29), type := 9, pos := "ansi.go:107", after := #[{ on := 0, ground := Ground.data }], guard := none }) rfl (fun K hK => ?_) (AllReadyH.cons (o := { dst := some 35, op := Op.buildSlice 22 1 #[(0, Operand.tmp 34)], type := 22, pos := "ansi.go:107", after := #[{ on := 5, ground := Ground.data }], guard := none }) rfl (fun K hK => ?_) AllReadyH.nil))
            ·
              have q : (convert 22 9 (.slice (some ⟨ga, 0, none⟩) 2 2)).run Tryd.prog V37 = .ok (.string P0) V37 := KA.out.1 _ _ ha37
              go_simp
              refine hK.out _ _ HS37.out (fun hH => ?_)
              clear hK K q
              try simp only [Act.put, List.setIfInBounds_toArray, List.set_cons_zero, List.set_cons_succ]
              refine wpAnyH_take (i := 4) (oi := { dst := some 33, op := Op.binOp BinOp.add 9 (Operand.tmp 30) (Operand.tmp 32) 9, type := 9, pos := "ansi.go:107", after := #[{ on := 1, ground := Ground.data }, { on := 3, ground := Ground.data }], guard := none }) (v := ?_) rfl (by kernel_rfl) (by kernel_rfl) (by kernel_rfl) (fun _ _ _ h => h) (Or.inl ⟨by rfl, ?_⟩) (by exact hH) ?_
              rotate_left
              · intro W hSw
                go_simp
                try with_reducible rfl
              try simp only [Act.put, List.setIfInBounds_toArray, List.set_cons_zero, List.set_cons_succ]
              refine wpAnyH_ready (rs := [6]) (by kernel_rfl) (by simp) ?_
              refine (AllReadyH.cons (o := { dst := some 35, op := Op.buildSlice 22 1 #[(0, Operand.tmp 34)], type := 22, pos := "ansi.go:107", after := #[{ on := 5, ground := Ground.data }], guard := none }) rfl (fun K hK => ?_) AllReadyH.nil)
              go_simp
              have HS39 := Lib.hid (HS37.out.alloc HS37.out.size (.cells #[.int .u8 C] 5))
              have hb39 := cells_new V37 #[.int .u8 C] 5
              have ha39 := ha37.on (below_new _ (.cells #[.int .u8 C] 5))
              refine hK.out _ _ HS39.out (fun hH => ?_)
              clear hK K
              try simp only [Act.put, List.setIfInBounds_toArray, List.set_cons_zero, List.set_cons_succ]
              obtain ⟨gb, hgb⟩ : ∃ b, V37.heap.size = b := ⟨_, rfl⟩
              obtain ⟨V39, hV39⟩ : ∃ W, V37.alloc (.cells #[.int .u8 C] 5) = W := ⟨_, rfl⟩
              rw [hV39] at HS39 hb39 ha39 hH ⊢
              rw [hgb] at hb39 ⊢
              clear hV39 hgb
              refine wpAnyH_ready (rs := [7]) (by kernel_rfl) (by simp) ?_
              refine (AllReadyH.cons (o := { dst := some 36, op := Op.convert 22 9 (Operand.tmp 35), type := 9, pos := "ansi.go:107", after := #[{ on := 6, ground := Ground.data }], guard := none }) rfl (fun K hK => ?_) AllReadyH.nil)
              have q : (convert 22 9 (.slice (some ⟨gb, 0, none⟩) 1 1)).run Tryd.prog V39 = .ok (.string P1) V39 := KA.out.2 _ _ hb39
              go_simp
              refine hK.out _ _ HS39.out (fun hH => ?_)
              clear hK K q
              try simp only [Act.put, List.setIfInBounds_toArray, List.set_cons_zero, List.set_cons_succ]
              refine wpAnyH_take (i := 8) (oi := { dst := some 37, op := Op.binOp BinOp.add 9 (Operand.tmp 33) (Operand.tmp 36) 9, type := 9, pos := "ansi.go:107", after := #[{ on := 4, ground := Ground.data }, { on := 7, ground := Ground.data }], guard := none }) (v := ?_) rfl (by kernel_rfl) (by kernel_rfl) (by kernel_rfl) (fun _ _ _ h => h) (Or.inl ⟨by rfl, ?_⟩) (by exact hH) ?_
              rotate_left
              · intro W hSw
                go_simp
                try with_reducible rfl
              try simp only [Act.put, List.setIfInBounds_toArray, List.set_cons_zero, List.set_cons_succ]
              refine wpAnyH_take (i := 9) (oi := { dst := some 4, op := Op.assign (Operand.tmp 37), type := 9, pos := "ansi.go:107", after := #[{ on := 8, ground := Ground.data }, { on := 3, ground := Ground.chain }, { on := 0, ground := Ground.phase }, { on := 1, ground := Ground.phase }, { on := 2, ground := Ground.phase }, { on := 3, ground := Ground.phase }, { on := 4, ground := Ground.phase }, { on := 5, ground := Ground.phase }, { on := 6, ground := Ground.phase }, { on := 7, ground := Ground.phase }, { on := 8, ground := Ground.phase }], guard := none }) (v := ?_) rfl (by kernel_rfl) (by kernel_rfl) (by kernel_rfl) (fun _ _ _ h => h) (Or.inl ⟨by rfl, ?_⟩) (by exact hH) ?_
              rotate_left
              · intro W hSw
                go_simp
                try with_reducible rfl
              try simp only [Act.put, List.setIfInBounds_toArray, List.set_cons_zero, List.set_cons_succ]
              refine wpAnyH_done (by kernel_rfl) ?_ _
              refine NoPanic.normal ?_
              go_wp2_with fail
              go_ret
              exact ⟨by rw [← HE.out.1]; rfl, HE.out.2.trans (HS39.out.mono HE.out.2.size)⟩
            ·
              go_simp
              have HS41 := Lib.hid (HS37.out.alloc HS37.out.size (.cells #[.int .u8 C] 5))
              have hb41 := cells_new V37 #[.int .u8 C] 5
              have ha41 := ha37.on (below_new _ (.cells #[.int .u8 C] 5))
              refine hK.out _ _ HS41.out (fun hH => ?_)
              clear hK K
              try simp only [Act.put, List.setIfInBounds_toArray, List.set_cons_zero, List.set_cons_succ]
              obtain ⟨gb, hgb⟩ : ∃ b, V37.heap.size = b := ⟨_, rfl⟩
              obtain ⟨V41, hV41⟩ : ∃ W, V37.alloc (.cells #[.int .u8 C] 5) = W := ⟨_, rfl⟩
              rw [hV41] at HS41 hb41 ha41 hH ⊢
              rw [hgb] at hb41 ⊢
              clear hV41 hgb
              refine wpAnyH_ready (rs := [1, 7]) (by kernel_rfl) (by simp) ?_
              refine (AllReadyH.cons (o := { dst := some 30, op := Op.convert 22 9 (Operand.tmp 29), type := 9, pos := "ansi.go:107", after := #[{ on := 0, ground := Ground.data }], guard := none }) rfl (fun K hK => ?_) (AllReadyH.cons (o := { dst := some 36, op := Op.convert 22 9 (Operand.tmp 35), type := 9, pos := "ansi.go:107", after := #[{ on := 6, ground := Ground.data }], guard := none }) rfl (fun K hK => ?_) AllReadyH.nil))
              ·
                have q : (convert 22 9 (.slice (some ⟨ga, 0, none⟩) 2 2)).run Tryd.prog V41 = .ok (.string P0) V41 := KA.out.1 _ _ ha41
                go_simp
                refine hK.out _ _ HS41.out (fun hH => ?_)
                clear hK K q
                try simp only [Act.put, List.setIfInBounds_toArray, List.set_cons_zero, List.set_cons_succ]
                refine wpAnyH_take (i := 4) (oi := { dst := some 33, op := Op.binOp BinOp.add 9 (Operand.tmp 30) (Operand.tmp 32) 9, type := 9, pos := "ansi.go:107", after := #[{ on := 1, ground := Ground.data }, { on := 3, ground := Ground.data }], guard := none }) (v := ?_) rfl (by kernel_rfl) (by kernel_rfl) (by kernel_rfl) (fun _ _ _ h => h) (Or.inl ⟨by rfl, ?_⟩) (by exact hH) ?_
                rotate_left
                · intro W hSw
                  go_simp
                  try with_reducible rfl
                try simp only [Act.put, List.setIfInBounds_toArray, List.set_cons_zero, List.set_cons_succ]
                refine wpAnyH_ready (rs := [7]) (by kernel_rfl) (by simp) ?_
                refine (AllReadyH.cons (o := { dst := some 36, op := Op.convert 22 9 (Operand.tmp 35), type := 9, pos := "ansi.go:107", after := #[{ on := 6, ground := Ground.data }], guard := none }) rfl (fun K hK => ?_) AllReadyH.nil)
                have q : (convert 22 9 (.slice (some ⟨gb, 0, none⟩) 1 1)).run Tryd.prog V41 = .ok (.string P1) V41 := KA.out.2 _ _ hb41
                go_simp
                refine hK.out _ _ HS41.out (fun hH => ?_)
                clear hK K q
                try simp only [Act.put, List.setIfInBounds_toArray, List.set_cons_zero, List.set_cons_succ]
                refine wpAnyH_take (i := 8) (oi := { dst := some 37, op := Op.binOp BinOp.add 9 (Operand.tmp 33) (Operand.tmp 36) 9, type := 9, pos := "ansi.go:107", after := #[{ on := 4, ground := Ground.data }, { on := 7, ground := Ground.data }], guard := none }) (v := ?_) rfl (by kernel_rfl) (by kernel_rfl) (by kernel_rfl) (fun _ _ _ h => h) (Or.inl ⟨by rfl, ?_⟩) (by exact hH) ?_
                rotate_left
                · intro W hSw
                  go_simp
                  try with_reducible rfl
                try simp only [Act.put, List.setIfInBounds_toArray, List.set_cons_zero, List.set_cons_succ]
                refine wpAnyH_take (i := 9) (oi := { dst := some 4, op := Op.assign (Operand.tmp 37), type := 9, pos := "ansi.go:107", after := #[{ on := 8, ground := Ground.data }, { on := 3, ground := Ground.chain }, { on := 0, ground := Ground.phase }, { on := 1, ground := Ground.phase }, { on := 2, ground := Ground.phase }, { on := 3, ground := Ground.phase }, { on := 4, ground := Ground.phase }, { on := 5, ground := Ground.phase }, { on := 6, ground := Ground.phase }, { on := 7, ground := Ground.phase }, { on := 8, ground := Ground.phase }], guard := none }) (v := ?_) rfl (by kernel_rfl) (by kernel_rfl) (by kernel_rfl) (fun _ _ _ h => h) (Or.inl ⟨by rfl, ?_⟩) (by exact hH) ?_
                rotate_left
                · intro W hSw
                  go_simp
                  try with_reducible rfl
                try simp only [Act.put, List.setIfInBounds_toArray, List.set_cons_zero, List.set_cons_succ]
                refine wpAnyH_done (by kernel_rfl) ?_ _
                refine NoPanic.normal ?_
                go_wp2_with fail
                go_ret
                exact ⟨by rw [← HE.out.1]; rfl, HE.out.2.trans (HS41.out.mono HE.out.2.size)⟩
              ·
                have q : (convert 22 9 (.slice (some ⟨gb, 0, none⟩) 1 1)).run Tryd.prog V41 = .ok (.string P1) V41 := KA.out.2 _ _ hb41
                go_simp
                refine hK.out _ _ HS41.out (fun hH => ?_)
                clear hK K q
                try simp only [Act.put, List.setIfInBounds_toArray, List.set_cons_zero, List.set_cons_succ]
                refine wpAnyH_ready (rs := [1]) (by kernel_rfl) (by simp) ?_
                refine (AllReadyH.cons (o := { dst := some 30, op := Op.convert 22 9 (Operand.tmp 29), type := 9, pos := "ansi.go:107", after := #[{ on := 0, ground := Ground.data }], guard := none }) rfl (fun K hK => ?_) AllReadyH.nil)
                have q : (convert 22 9 (.slice (some ⟨ga, 0, none⟩) 2 2)).run Tryd.prog V41 = .ok (.string P0) V41 := KA.out.1 _ _ ha41
                go_simp
                refine hK.out _ _ HS41.out (fun hH => ?_)
                clear hK K q
                try simp only [Act.put, List.setIfInBounds_toArray, List.set_cons_zero, List.set_cons_succ]
                refine wpAnyH_take (i := 4) (oi := { dst := some 33, op := Op.binOp BinOp.add 9 (Operand.tmp 30) (Operand.tmp 32) 9, type := 9, pos := "ansi.go:107", after := #[{ on := 1, ground := Ground.data }, { on := 3, ground := Ground.data }], guard := none }) (v := ?_) rfl (by kernel_rfl) (by kernel_rfl) (by kernel_rfl) (fun _ _ _ h => h) (Or.inl ⟨by rfl, ?_⟩) (by exact hH) ?_
                rotate_left
                · intro W hSw
                  go_simp
                  try with_reducible rfl
                try simp only [Act.put, List.setIfInBounds_toArray, List.set_cons_zero, List.set_cons_succ]
                refine wpAnyH_take (i := 8) (oi := { dst := some 37, op := Op.binOp BinOp.add 9 (Operand.tmp 33) (Operand.tmp 36) 9, type := 9, pos := "ansi.go:107", after := #[{ on := 4, ground := Ground.data }, { on := 7, ground := Ground.data }], guard := none }) (v := ?_) rfl (by kernel_rfl) (by kernel_rfl) (by kernel_rfl) (fun _ _ _ h => h) (Or.inl ⟨by rfl, ?_⟩) (by exact hH) ?_
                rotate_left
                · intro W hSw
                  go_simp
                  try with_reducible rfl
                try simp only [Act.put, List.setIfInBounds_toArray, List.set_cons_zero, List.set_cons_succ]
                refine wpAnyH_take (i := 9) (oi := { dst := some 4, op := Op.assign (Operand.tmp 37), type := 9, pos := "ansi.go:107", after := #[{ on := 8, ground := Ground.data }, { on := 3, ground := Ground.chain }, { on := 0, ground := Ground.phase }, { on := 1, ground := Ground.phase }, { on := 2, ground := Ground.phase }, { on := 3, ground := Ground.phase }, { on := 4, ground := Ground.phase }, { on := 5, ground := Ground.phase }, { on := 6, ground := Ground.phase }, { on := 7, ground := Ground.phase }, { on := 8, ground := Ground.phase }], guard := none }) (v := ?_) rfl (by kernel_rfl) (by kernel_rfl) (by kernel_rfl) (fun _ _ _ h => h) (Or.inl ⟨by rfl, ?_⟩) (by exact hH) ?_
                rotate_left
                · intro W hSw
                  go_simp
                  try with_reducible rfl
                try simp only [Act.put, List.setIfInBounds_toArray, List.set_cons_zero, List.set_cons_succ]
                refine wpAnyH_done (by kernel_rfl) ?_ _
                refine NoPanic.normal ?_
                go_wp2_with fail
                go_ret
                exact ⟨by rw [← HE.out.1]; rfl, HE.out.2.trans (HS41.out.mono HE.out.2.size)⟩
          ·
            go_simp
            have HS46 := Lib.hid (HS36.out.alloc HS36.out.size (.cells #[.int .u8 C] 5))
            have hb46 := cells_new V36 #[.int .u8 C] 5
            refine hK.out _ _ HS46.out (fun hH => ?_)
            clear hK K
            try simp only [Act.put, List.setIfInBounds_toArray, List.set_cons_zero, List.set_cons_succ]
            obtain ⟨gb, hgb⟩ : ∃ b, V36.heap.size = b := ⟨_, rfl⟩
            obtain ⟨V46, hV46⟩ : ∃ W, V36.alloc (.cells #[.int .u8 C] 5) = W := ⟨_, rfl⟩
            rw [hV46] at HS46 hb46 hH ⊢
            rw [hgb] at hb46 ⊢
            clear hV46 hgb
            refine wpAnyH_ready (rs := [0, 7]) (by kernel_rfl) (by simp) ?_
            refine (AllReadyH.cons (o := { dst := some 29, op := Op.buildSlice 22 2 #[(0, Operand.const (Value.int IntKind.u8 27)), (1, Operand.const (Value.int IntKind.u8 91))], type := 22, pos := "ansi.go:107", after := #[], guard := none }) rfl (fun K hK => ?_) (AllReadyH.cons (o := { dst := some 36, op := Op.convert 22 9 (Operand.tmp 35), type := 9, pos := "ansi.go:107", after := #[{ on := 6, ground := Ground.data }], guard := none }) rfl (fun K hK => ?_) AllReadyH.nil))
            ·
              go_simp
              have HS47 := Lib.hid (HS46.out.alloc HS46.out.size (.cells #[.int .u8 27, .int .u8 91] 5))
              have ha47 := cells_new V46 #[.int .u8 27, .int .u8 91] 5
              have hb47 := hb46.on (below_new _ (.cells #[.int .u8 27, .int .u8 91] 5))
              refine hK.out _ _ HS47.out (fun hH => ?_)
              clear hK K
              try simp only [Act.put, List.setIfInBounds_toArray, List.set_cons_zero, List.set_cons_succ]
              obtain ⟨ga, hga⟩ : ∃ b, V46.heap.size = b := ⟨_, rfl⟩
              obtain ⟨V47, hV47⟩ : ∃ W, V46.alloc (.cells #[.int .u8 27, .int .u8 91] 5) = W := ⟨_, rfl⟩
              rw [hV47] at HS47 ha47 hb47 hH ⊢
              rw [hga] at ha47 ⊢
              clear hV47 hga
              refine wpAnyH_ready (rs := [1, 7]) (by kernel_rfl) (by simp) ?_
              refine (AllReadyH.cons (o := { dst := some 30, op := Op.convert 22 9 (Operand.tmp 29), type := 9, pos := "ansi.go:107", after := #[{ on := 0, ground := Ground.data }], guard := none }) rfl (fun K hK => ?_) (AllReadyH.cons (o := { dst := some 36, op := Op.convert 22 9 (Operand.tmp 35), type := 9, pos := "ansi.go:107", after := #[{ on := 6, ground := Ground.data }], guard := none }) rfl (fun K hK => ?_) AllReadyH.nil))
              ·
                have q : (convert 22 9 (.slice (some ⟨ga, 0, none⟩) 2 2)).run Tryd.prog V47 = .ok (.string P0) V47 := KA.out.1 _ _ ha47
                go_simp
                refine hK.out _ _ HS47.out (fun hH => ?_)
                clear hK K q
                try simp only [Act.put, List.setIfInBounds_toArray, List.set_cons_zero, List.set_cons_succ]
                refine wpAnyH_take (i := 4) (oi := { dst := some 33, op := Op.binOp BinOp.add 9 (Operand.tmp 30) (Operand.tmp 32) 9, type := 9, pos := "ansi.go:107", after := #[{ on := 1, ground := Ground.data }, { on := 3, ground := Ground.data }], guard := none }) (v := ?_) rfl (by kernel_rfl) (by kernel_rfl) (by kernel_rfl) (fun _ _ _ h => h) (Or.inl ⟨by rfl, ?_⟩) (by exact hH) ?_
                rotate_left
                · intro W hSw
                  go_simp
                  try with_reducible rfl
                try simp only [Act.put, List.setIfInBounds_toArray, List.set_cons_zero, List.set_cons_succ]
                refine wpAnyH_ready (rs := [7]) (by kernel_rfl) (by simp) ?_
                refine (AllReadyH.cons (o := { dst := some 36, op := Op.convert 22 9 (Operand.tmp 35), type := 9, pos := "ansi.go:107", after := #[{ on := 6, ground := Ground.data }], guard := none }) rfl (fun K hK => ?_) AllReadyH.nil)
                have q : (convert 22 9 (.slice (some ⟨gb, 0, none⟩) 1 1)).run Tryd.prog V47 = .ok (.string P1) V47 := KA.out.2 _ _ hb47
                go_simp
                refine hK.out _ _ HS47.out (fun hH => ?_)
                clear hK K q
                try simp only [Act.put, List.setIfInBounds_toArray, List.set_cons_zero, List.set_cons_succ]
                refine wpAnyH_take (i := 8) (oi := { dst := some 37, op := Op.binOp BinOp.add 9 (Operand.tmp 33) (Operand.tmp 36) 9, type := 9, pos := "ansi.go:107", after := #[{ on := 4, ground := Ground.data }, { on := 7, ground := Ground.data }], guard := none }) (v := ?_) rfl (by kernel_rfl) (by kernel_rfl) (by kernel_rfl) (fun _ _ _ h => h) (Or.inl ⟨by rfl, ?_⟩) (by exact hH) ?_
                rotate_left
                · intro W hSw
                  go_simp
                  try with_reducible rfl
                try simp only [Act.put, List.setIfInBounds_toArray, List.set_cons_zero, List.set_cons_succ]
                refine wpAnyH_take (i := 9) (oi := { dst := some 4, op := Op.assign (Operand.tmp 37), type := 9, pos := "ansi.go:107", after := #[{ on := 8, ground := Ground.data }, { on := 3, ground := Ground.chain }, { on := 0, ground := Ground.phase }, { on := 1, ground := Ground.phase }, { on := 2, ground := Ground.phase }, { on := 3, ground := Ground.phase }, { on := 4, ground := Ground.phase }, { on := 5, ground := Ground.phase }, { on := 6, ground := Ground.phase }, { on := 7, ground := Ground.phase }, { on := 8, ground := Ground.phase }], guard := none }) (v := ?_) rfl (by kernel_rfl) (by kernel_rfl) (by kernel_rfl) (fun _ _ _ h => h) (Or.inl ⟨by rfl, ?_⟩) (by exact hH) ?_
                rotate_left
                · intro W hSw
                  go_simp
                  try with_reducible rfl
                try simp only [Act.put, List.setIfInBounds_toArray, List.set_cons_zero, List.set_cons_succ]
                refine wpAnyH_done (by kernel_rfl) ?_ _
                refine NoPanic.normal ?_
                go_wp2_with fail
                go_ret
                exact ⟨by rw [← HE.out.1]; rfl, HE.out.2.trans (HS47.out.mono HE.out.2.size)⟩
              ·
                have q : (convert 22 9 (.slice (some ⟨gb, 0, none⟩) 1 1)).run Tryd.prog V47 = .ok (.string P1) V47 := KA.out.2 _ _ hb47
                go_simp
                refine hK.out _ _ HS47.out (fun hH => ?_)
                clear hK K q
                try simp only [Act.put, List.setIfInBounds_toArray, List.set_cons_zero, List.set_cons_succ]
                refine wpAnyH_ready (rs := [1]) (by kernel_rfl) (by simp) ?_
                refine (AllReadyH.cons (o := { dst := some 30, op := Op.convert 22 9 (Operand.tmp 29), type := 9, pos := "ansi.go:107", after := #[{ on := 0, ground := Ground.data }], guard := none }) rfl (fun K hK => ?_) AllReadyH.nil)
                have q : (convert 22 9 (.slice (some ⟨ga, 0, none⟩) 2 2)).run Tryd.prog V47 = .ok (.string P0) V47 := KA.out.1 _ _ ha47
                go_simp
                refine hK.out _ _ HS47.out (fun hH => ?_)
                clear hK K q
                try simp only [Act.put, List.setIfInBounds_toArray, List.set_cons_zero, List.set_cons_succ]
                refine wpAnyH_take (i := 4) (oi := { dst := some 33, op := Op.binOp BinOp.add 9 (Operand.tmp 30) (Operand.tmp 32) 9, type := 9, pos := "ansi.go:107", after := #[{ on := 1, ground := Ground.data }, { on := 3, ground := Ground.data }], guard := none }) (v := ?_) rfl (by kernel_rfl) (by kernel_rfl) (by kernel_rfl) (fun _ _ _ h => h) (Or.inl ⟨by rfl, ?_⟩) (by exact hH) ?_
                rotate_left
                · intro W hSw
                  go_simp
                  try with_reducible rfl
                try simp only [Act.put, List.setIfInBounds_toArray, List.set_cons_zero, List.set_cons_succ]
                refine wpAnyH_take (i := 8) (oi := { dst := some 37, op := Op.binOp BinOp.add 9 (Operand.tmp 33) (Operand.tmp 36) 9, type := 9, pos := "ansi.go:107", after := #[{ on := 4, ground := Ground.data }, { on := 7, ground := Ground.data }], guard := none }) (v := ?_) rfl (by kernel_rfl) (by kernel_rfl) (by kernel_rfl) (fun _ _ _ h => h) (Or.inl ⟨by rfl, ?_⟩) (by exact hH) ?_
                rotate_left
                · intro W hSw
                  go_simp
                  try with_reducible rfl
                try simp only [Act.put, List.setIfInBounds_toArray, List.set_cons_zero, List.set_cons_succ]
                refine wpAnyH_take (i := 9) (oi := { dst := some 4, op := Op.assign (Operand.tmp 37), type := 9, pos := "ansi.go:107", after := #[{ on := 8, ground := Ground.data }, { on := 3, ground := Ground.chain }, { on := 0, ground := Ground.phase }, { on := 1, ground := Ground.phase }, { on := 2, ground := Ground.phase }, { on := 3, ground := Ground.phase }, { on := 4, ground := Ground.phase }, { on := 5, ground := Ground.phase }, { on := 6, ground := Ground.phase }, { on := 7, ground := Ground.phase }, { on := 8, ground := Ground.phase }], guard := none }) (v := ?_) rfl (by kernel_rfl) (by kernel_rfl) (by kernel_rfl) (fun _ _ _ h => h) (Or.inl ⟨by rfl, ?_⟩) (by exact hH) ?_
                rotate_left
                · intro W hSw
                  go_simp
                  try with_reducible rfl
                try simp only [Act.put, List.setIfInBounds_toArray, List.set_cons_zero, List.set_cons_succ]
                refine wpAnyH_done (by kernel_rfl) ?_ _
                refine NoPanic.normal ?_
                go_wp2_with fail
                go_ret
                exact ⟨by rw [← HE.out.1]; rfl, HE.out.2.trans (HS47.out.mono HE.out.2.size)⟩
            ·
              have q : (convert 22 9 (.slice (some ⟨gb, 0, none⟩) 1 1)).run Tryd.prog V46 = .ok (.string P1) V46 := KA.out.2 _ _ hb46
              go_simp
              refine hK.out _ _ HS46.out (fun hH => ?_)
              clear hK K q
              try simp only [Act.put, List.setIfInBounds_toArray, List.set_cons_zero, List.set_cons_succ]
              refine wpAnyH_ready (rs := [0]) (by kernel_rfl) (by simp) ?_
              refine (AllReadyH.cons (o := { dst := some 29, op := Op.buildSlice 22 2 #[(0, Operand.const (Value.int IntKind.u8 27)), (1, Operand.const (Value.int IntKind.u8 91))], type := 22, pos := "ansi.go:107", after := #[], guard := none }) rfl (fun K hK => ?_) AllReadyH.nil)
              go_simp
              have HS53 := Lib.hid (HS46.out.alloc HS46.out.size (.cells #[.int .u8 27, .int .u8 91] 5))
              have ha53 := cells_new V46 #[.int .u8 27, .int .u8 91] 5
              have hb53 := hb46.on (below_new _ (.cells #[.int .u8 27, .int .u8 91] 5))
              refine hK.out _ _ HS53.out (fun hH => ?_)
              clear hK K
              try simp only [Act.put, List.setIfInBounds_toArray, List.set_cons_zero, List.set_cons_succ]
              obtain ⟨ga, hga⟩ : ∃ b, V46.heap.size = b := ⟨_, rfl⟩
              obtain ⟨V53, hV53⟩ : ∃ W, V46.alloc (.cells #[.int .u8 27, .int .u8 91] 5) = W := ⟨_, rfl⟩
              rw [hV53] at HS53 ha53 hb53 hH ⊢
              rw [hga] at ha53 ⊢
              clear hV53 hga
              refine wpAnyH_ready (rs := [1]) (by kernel_rfl) (by simp) ?_
              refine (AllReadyH.cons (o := { dst := some 30, op := Op.convert 22 9 (Operand.tmp 29), type := 9, pos := "ansi.go:107", after := #[{ on := 0, ground := Ground.data }], guard := none }) rfl (fun K hK => ?_) AllReadyH.nil)
              have q : (convert 22 9 (.slice (some ⟨ga, 0, none⟩) 2 2)).run Tryd.prog V53 = .ok (.string P0) V53 := KA.out.1 _ _ ha53
              go_simp
              refine hK.out _ _ HS53.out (fun hH => ?_)
              clear hK K q
              try simp only [Act.put, List.setIfInBounds_toArray, List.set_cons_zero, List.set_cons_succ]
              refine wpAnyH_take (i := 4) (oi := { dst := some 33, op := Op.binOp BinOp.add 9 (Operand.tmp 30) (Operand.tmp 32) 9, type := 9, pos := "ansi.go:107", after := #[{ on := 1, ground := Ground.data }, { on := 3, ground := Ground.data }], guard := none }) (v := ?_) rfl (by kernel_rfl) (by kernel_rfl) (by kernel_rfl) (fun _ _ _ h => h) (Or.inl ⟨by rfl, ?_⟩) (by exact hH) ?_
              rotate_left
              · intro W hSw
                go_simp
                try with_reducible rfl
              try simp only [Act.put, List.setIfInBounds_toArray, List.set_cons_zero, List.set_cons_succ]
              refine wpAnyH_take (i := 8) (oi := { dst := some 37, op := Op.binOp BinOp.add 9 (Operand.tmp 33) (Operand.tmp 36) 9, type := 9, pos := "ansi.go:107", after := #[{ on := 4, ground := Ground.data }, { on := 7, ground := Ground.data }], guard := none }) (v := ?_) rfl (by kernel_rfl) (by kernel_rfl) (by kernel_rfl) (fun _ _ _ h => h) (Or.inl ⟨by rfl, ?_⟩) (by exact hH) ?_
              rotate_left
              · intro W hSw
                go_simp
                try with_reducible rfl
              try simp only [Act.put, List.setIfInBounds_toArray, List.set_cons_zero, List.set_cons_succ]
              refine wpAnyH_take (i := 9) (oi := { dst := some 4, op := Op.assign (Operand.tmp 37), type := 9, pos := "ansi.go:107", after := #[{ on := 8, ground := Ground.data }, { on := 3, ground := Ground.chain }, { on := 0, ground := Ground.phase }, { on := 1, ground := Ground.phase }, { on := 2, ground := Ground.phase }, { on := 3, ground := Ground.phase }, { on := 4, ground := Ground.phase }, { on := 5, ground := Ground.phase }, { on := 6, ground := Ground.phase }, { on := 7, ground := Ground.phase }, { on := 8, ground := Ground.phase }], guard := none }) (v := ?_) rfl (by kernel_rfl) (by kernel_rfl) (by kernel_rfl) (fun _ _ _ h => h) (Or.inl ⟨by rfl, ?_⟩) (by exact hH) ?_
              rotate_left
              · intro W hSw
                go_simp
                try with_reducible rfl
              try simp only [Act.put, List.setIfInBounds_toArray, List.set_cons_zero, List.set_cons_succ]
              refine wpAnyH_done (by kernel_rfl) ?_ _
              refine NoPanic.normal ?_
              go_wp2_with fail
              go_ret
              exact ⟨by rw [← HE.out.1]; rfl, HE.out.2.trans (HS53.out.mono HE.out.2.size)⟩
        ·
          go_simp
          have HS55 := Lib.hid (HSd.out.alloc HSd.out.size (.cells #[.int .u8 C] 5))
          have hb55 := cells_new wd #[.int .u8 C] 5
          refine hK.out _ _ HS55.out (fun hH => ?_)
          clear hK K
          try simp only [Act.put, List.setIfInBounds_toArray, List.set_cons_zero, List.set_cons_succ]
          obtain ⟨gb, hgb⟩ : ∃ b, wd.heap.size = b := ⟨_, rfl⟩
          obtain ⟨V55, hV55⟩ : ∃ W, wd.alloc (.cells #[.int .u8 C] 5) = W := ⟨_, rfl⟩
          rw [hV55] at HS55 hb55 hH ⊢
          rw [hgb] at hb55 ⊢
          clear hV55 hgb
          refine wpAnyH_ready (rs := [0, 3, 7]) (by kernel_rfl) (by simp) ?_
          refine (AllReadyH.cons (o := { dst := some 29, op := Op.buildSlice 22 2 #[(0, Operand.const (Value.int IntKind.u8 27)), (1, Operand.const (Value.int IntKind.u8 91))], type := 22, pos := "ansi.go:107", after := #[], guard := none }) rfl (fun K hK => ?_) (AllReadyH.cons (o := { dst := some 32, op := Op.call { callee := Callee.value (Operand.func 50), args := #[Operand.tmp 31, Operand.const (Value.string { data := #[59] })], argTypes := #[32, 9] }, type := 9, pos := "ansi.go:107", after := #[{ on := 2, ground := Ground.data }], guard := none }) rfl (fun K hK => ?_) (AllReadyH.cons (o := { dst := some 36, op := Op.convert 22 9 (Operand.tmp 35), type := 9, pos := "ansi.go:107", after := #[{ on := 6, ground := Ground.data }], guard := none }) rfl (fun K hK => ?_) AllReadyH.nil)))
          ·
            go_simp
            have HS56 := Lib.hid (HS55.out.alloc HS55.out.size (.cells #[.int .u8 27, .int .u8 91] 5))
            have ha56 := cells_new V55 #[.int .u8 27, .int .u8 91] 5
            have hb56 := hb55.on (below_new _ (.cells #[.int .u8 27, .int .u8 91] 5))
            refine hK.out _ _ HS56.out (fun hH => ?_)
            clear hK K
            try simp only [Act.put, List.setIfInBounds_toArray, List.set_cons_zero, List.set_cons_succ]
            obtain ⟨ga, hga⟩ : ∃ b, V55.heap.size = b := ⟨_, rfl⟩
            obtain ⟨V56, hV56⟩ : ∃ W, V55.alloc (.cells #[.int .u8 27, .int .u8 91] 5) = W := ⟨_, rfl⟩
            rw [hV56] at HS56 ha56 hb56 hH ⊢
            rw [hga] at ha56 ⊢
            clear hV56 hga
            refine wpAnyH_ready (rs := [1, 3, 7]) (by kernel_rfl) (by simp) ?_
            refine (AllReadyH.cons (o := { dst := some 30, op := Op.convert 22 9 (Operand.tmp 29), type := 9, pos := "ansi.go:107", after := #[{ on := 0, ground := Ground.data }], guard := none }) rfl (fun K hK => ?_) (AllReadyH.cons (o := { dst := some 32, op := Op.call { callee := Callee.value (Operand.func 50), args := #[Operand.tmp 31, Operand.const (Value.string { data := #[59] })], argTypes := #[32, 9] }, type := 9, pos := "ansi.go:107", after := #[{ on := 2, ground := Ground.data }], guard := none }) rfl (fun K hK => ?_) (AllReadyH.cons (o := { dst := some 36, op := Op.convert 22 9 (Operand.tmp 35), type := 9, pos := "ansi.go:107", after := #[{ on := 6, ground := Ground.data }], guard := none }) rfl (fun K hK => ?_) AllReadyH.nil)))
            ·
              have q : (convert 22 9 (.slice (some ⟨ga, 0, none⟩) 2 2)).run Tryd.prog V56 = .ok (.string P0) V56 := KA.out.1 _ _ ha56
              go_simp
              refine hK.out _ _ HS56.out (fun hH => ?_)
              clear hK K q
              try simp only [Act.put, List.setIfInBounds_toArray, List.set_cons_zero, List.set_cons_succ]
              refine wpAnyH_ready (rs := [3, 7]) (by kernel_rfl) (by simp) ?_
              refine (AllReadyH.cons (o := { dst := some 32, op := Op.call { callee := Callee.value (Operand.func 50), args := #[Operand.tmp 31, Operand.const (Value.string { data := #[59] })], argTypes := #[32, 9] }, type := 9, pos := "ansi.go:107", after := #[{ on := 2, ground := Ground.data }], guard := none }) rfl (fun K hK => ?_) (AllReadyH.cons (o := { dst := some 36, op := Op.convert 22 9 (Operand.tmp 35), type := 9, pos := "ansi.go:107", after := #[{ on := 6, ground := Ground.data }], guard := none }) rfl (fun K hK => ?_) AllReadyH.nil))
              ·
                go_simp
                go_at_call 50
                refine (KJ.out V56 HS56.out).mono ?_
                rintro e V58 ⟨rfl, hbk⟩
                have HS58 := Lib.hid (HS56.out.trans (hbk.mono HS56.out.size))
                have ha58 := ha56.on hbk
                have hb58 := hb56.on hbk
                clear hbk
                try go_wp2_with fail
                refine hK.out _ _ HS58.out (fun hH => ?_)
                clear hK K
                try simp only [Act.put, List.setIfInBounds_toArray, List.set_cons_zero, List.set_cons_succ]
                refine wpAnyH_take (i := 4) (oi := { dst := some 33, op := Op.binOp BinOp.add 9 (Operand.tmp 30) (Operand.tmp 32) 9, type := 9, pos := "ansi.go:107", after := #[{ on := 1, ground := Ground.data }, { on := 3, ground := Ground.data }], guard := none }) (v := ?_) rfl (by kernel_rfl) (by kernel_rfl) (by kernel_rfl) (fun _ _ _ h => h) (Or.inl ⟨by rfl, ?_⟩) (by exact hH) ?_
                rotate_left
                · intro W hSw
                  go_simp
                  try with_reducible rfl
                try simp only [Act.put, List.setIfInBounds_toArray, List.set_cons_zero, List.set_cons_succ]
                refine wpAnyH_ready (rs := [7]) (by kernel_rfl) (by simp) ?_
                refine (AllReadyH.cons (o := { dst := some 36, op := Op.convert 22 9 (Operand.tmp 35), type := 9, pos := "ansi.go:107", after := #[{ on := 6, ground := Ground.data }], guard := none }) rfl (fun K hK => ?_) AllReadyH.nil)
                have q : (convert 22 9 (.slice (some ⟨gb, 0, none⟩) 1 1)).run Tryd.prog V58 = .ok (.string P1) V58 := KA.out.2 _ _ hb58
                go_simp
                refine hK.out _ _ HS58.out (fun hH => ?_)
                clear hK K q
                try simp only [Act.put, List.setIfInBounds_toArray, List.set_cons_zero, List.set_cons_succ]
                refine wpAnyH_take (i := 8) (oi := { dst := some 37, op := Op.binOp BinOp.add 9 (Operand.tmp 33) (Operand.tmp 36) 9, type := 9, pos := "ansi.go:107", after := #[{ on := 4, ground := Ground.data }, { on := 7, ground := Ground.data }], guard := none }) (v := ?_) rfl (by kernel_rfl) (by kernel_rfl) (by kernel_rfl) (fun _ _ _ h => h) (Or.inl ⟨by rfl, ?_⟩) (by exact hH) ?_
                rotate_left
                · intro W hSw
                  go_simp
                  try with_reducible rfl
                try simp only [Act.put, List.setIfInBounds_toArray, List.set_cons_zero, List.set_cons_succ]
                refine wpAnyH_take (i := 9) (oi := { dst := some 4, op := Op.assign (Operand.tmp 37), type := 9, pos := "ansi.go:107", after := #[{ on := 8, ground := Ground.data }, { on := 3, ground := Ground.chain }, { on := 0, ground := Ground.phase }, { on := 1, ground := Ground.phase }, { on := 2, ground := Ground.phase }, { on := 3, ground := Ground.phase }, { on := 4, ground := Ground.phase }, { on := 5, ground := Ground.phase }, { on := 6, ground := Ground.phase }, { on := 7, ground := Ground.phase }, { on := 8, ground := Ground.phase }], guard := none }) (v := ?_) rfl (by kernel_rfl) (by kernel_rfl) (by kernel_rfl) (fun _ _ _ h => h) (Or.inl ⟨by rfl, ?_⟩) (by exact hH) ?_
                rotate_left
                · intro W hSw
                  go_simp
                  try with_reducible rfl
                try simp only [Act.put, List.setIfInBounds_toArray, List.set_cons_zero, List.set_cons_succ]
                refine wpAnyH_done (by kernel_rfl) ?_ _
                refine NoPanic.normal ?_
                go_wp2_with fail
                go_ret
                exact ⟨by rw [← HE.out.1]; rfl, HE.out.2.trans (HS58.out.mono HE.out.2.size)⟩
              ·
                have q : (convert 22 9 (.slice (some ⟨gb, 0, none⟩) 1 1)).run Tryd.prog V56 = .ok (.string P1) V56 := KA.out.2 _ _ hb56
                go_simp
                refine hK.out _ _ HS56.out (fun hH => ?_)
                clear hK K q
                try simp only [Act.put, List.setIfInBounds_toArray, List.set_cons_zero, List.set_cons_succ]
                refine wpAnyH_ready (rs := [3]) (by kernel_rfl) (by simp) ?_
                refine (AllReadyH.cons (o := { dst := some 32, op := Op.call { callee := Callee.value (Operand.func 50), args := #[Operand.tmp 31, Operand.const (Value.string { data := #[59] })], argTypes := #[32, 9] }, type := 9, pos := "ansi.go:107", after := #[{ on := 2, ground := Ground.data }], guard := none }) rfl (fun K hK => ?_) AllReadyH.nil)
                go_simp
                go_at_call 50
                refine (KJ.out V56 HS56.out).mono ?_
                rintro e V61 ⟨rfl, hbk⟩
                have HS61 := Lib.hid (HS56.out.trans (hbk.mono HS56.out.size))
                have ha61 := ha56.on hbk
                have hb61 := hb56.on hbk
                clear hbk
                try go_wp2_with fail
                refine hK.out _ _ HS61.out (fun hH => ?_)
                clear hK K
                try simp only [Act.put, List.setIfInBounds_toArray, List.set_cons_zero, List.set_cons_succ]
                refine wpAnyH_take (i := 4) (oi := { dst := some 33, op := Op.binOp BinOp.add 9 (Operand.tmp 30) (Operand.tmp 32) 9, type := 9, pos := "ansi.go:107", after := #[{ on := 1, ground := Ground.data }, { on := 3, ground := Ground.data }], guard := none }) (v := ?_) rfl (by kernel_rfl) (by kernel_rfl) (by kernel_rfl) (fun _ _ _ h => h) (Or.inl ⟨by rfl, ?_⟩) (by exact hH) ?_
                rotate_left
                · intro W hSw
                  go_simp
                  try with_reducible rfl
                try simp only [Act.put, List.setIfInBounds_toArray, List.set_cons_zero, List.set_cons_succ]
                refine wpAnyH_take (i := 8) (oi := { dst := some 37, op := Op.binOp BinOp.add 9 (Operand.tmp 33) (Operand.tmp 36) 9, type := 9, pos := "ansi.go:107", after := #[{ on := 4, ground := Ground.data }, { on := 7, ground := Ground.data }], guard := none }) (v := ?_) rfl (by kernel_rfl) (by kernel_rfl) (by kernel_rfl) (fun _ _ _ h => h) (Or.inl ⟨by rfl, ?_⟩) (by exact hH) ?_
                rotate_left
                · intro W hSw
                  go_simp
                  try with_reducible rfl
                try simp only [Act.put, List.setIfInBounds_toArray, List.set_cons_zero, List.set_cons_succ]
                refine wpAnyH_take (i := 9) (oi := { dst := some 4, op := Op.assign (Operand.tmp 37), type := 9, pos := "ansi.go:107", after := #[{ on := 8, ground := Ground.data }, { on := 3, ground := Ground.chain }, { on := 0, ground := Ground.phase }, { on := 1, ground := Ground.phase }, { on := 2, ground := Ground.phase }, { on := 3, ground := Ground.phase }, { on := 4, ground := Ground.phase }, { on := 5, ground := Ground.phase }, { on := 6, ground := Ground.phase }, { on := 7, ground := Ground.phase }, { on := 8, ground := Ground.phase }], guard := none }) (v := ?_) rfl (by kernel_rfl) (by kernel_rfl) (by kernel_rfl) (fun _ _ _ h => h) (Or.inl ⟨by rfl, ?_⟩) (by exact hH) ?_
                rotate_left
                · intro W hSw
                  go_simp
                  try with_reducible rfl
                try simp only [Act.put, List.setIfInBounds_toArray, List.set_cons_zero, List.set_cons_succ]
                refine wpAnyH_done (by kernel_rfl) ?_ _
                refine NoPanic.normal ?_
                go_wp2_with fail
                go_ret
                exact ⟨by rw [← HE.out.1]; rfl, HE.out.2.trans (HS61.out.mono HE.out.2.size)⟩
            ·
              go_simp
              go_at_call 50
              refine (KJ.out V56 HS56.out).mono ?_
              rintro e V62 ⟨rfl, hbk⟩
              have HS62 := Lib.hid (HS56.out.trans (hbk.mono HS56.out.size))
              have ha62 := ha56.on hbk
              have hb62 := hb56.on hbk
              clear hbk
              try go_wp2_with fail
              refine hK.out _ _ HS62.out (fun hH => ?_)
              clear hK K
              try simp only [Act.put, List.setIfInBounds_toArray, List.set_cons_zero, List.set_cons_succ]
              refine wpAnyH_ready (rs := [1, 7]) (by kernel_rfl) (by simp) ?_
              refine (AllReadyH.cons (o := { dst := some 30, op := Op.convert 22 9 (Operand.tmp 29), type := 9, pos := "ansi.go:107", after := #[{ on := 0, ground := Ground.data }], guard := none }) rfl (fun K hK => ?_) (AllReadyH.cons (o := { dst := some 36, op := Op.convert 22 9 (Operand.tmp 35), type := 9, pos := "ansi.go:107", after := #[{ on := 6, ground := Ground.data }], guard := none }) rfl (fun K hK => ?_) AllReadyH.nil))
              ·
                have q : (convert 22 9 (.slice (some ⟨ga, 0, none⟩) 2 2)).run Tryd.prog V62 = .ok (.string P0) V62 := KA.out.1 _ _ ha62
                go_simp
                refine hK.out _ _ HS62.out (fun hH => ?_)
                clear hK K q
                try simp only [Act.put, List.setIfInBounds_toArray, List.set_cons_zero, List.set_cons_succ]
                refine wpAnyH_take (i := 4) (oi := { dst := some 33, op := Op.binOp BinOp.add 9 (Operand.tmp 30) (Operand.tmp 32) 9, type := 9, pos := "ansi.go:107", after := #[{ on := 1, ground := Ground.data }, { on := 3, ground := Ground.data }], guard := none }) (v := ?_) rfl (by kernel_rfl) (by kernel_rfl) (by kernel_rfl) (fun _ _ _ h => h) (Or.inl ⟨by rfl, ?_⟩) (by exact hH) ?_
                rotate_left
                · intro W hSw
                  go_simp
                  try with_reducible rfl
                try simp only [Act.put, List.setIfInBounds_toArray, List.set_cons_zero, List.set_cons_succ]
                refine wpAnyH_ready (rs := [7]) (by kernel_rfl) (by simp) ?_
                refine (AllReadyH.cons (o := { dst := some 36, op := Op.convert 22 9 (Operand.tmp 35), type := 9, pos := "ansi.go:107", after := #[{ on := 6, ground := Ground.data }], guard := none }) rfl (fun K hK => ?_) AllReadyH.nil)
                have q : (convert 22 9 (.slice (some ⟨gb, 0, none⟩) 1 1)).run Tryd.prog V62 = .ok (.string P1) V62 := KA.out.2 _ _ hb62
                go_simp
                refine hK.out _ _ HS62.out (fun hH => ?_)
                clear hK K q
                try simp only [Act.put, List.setIfInBounds_toArray, List.set_cons_zero, List.set_cons_succ]
                refine wpAnyH_take (i := 8) (oi := { dst := some 37, op := Op.binOp BinOp.add 9 (Operand.tmp 33) (Operand.tmp 36) 9, type := 9, pos := "ansi.go:107", after := #[{ on := 4, ground := Ground.data }, { on := 7, ground := Ground.data }], guard := none }) (v := ?_) rfl (by kernel_rfl) (by kernel_rfl) (by kernel_rfl) (fun _ _ _ h => h) (Or.inl ⟨by rfl, ?_⟩) (by exact hH) ?_
                rotate_left
                · intro W hSw
                  go_simp
                  try with_reducible rfl
                try simp only [Act.put, List.setIfInBounds_toArray, List.set_cons_zero, List.set_cons_succ]
                refine wpAnyH_take (i := 9) (oi := { dst := some 4, op := Op.assign (Operand.tmp 37), type := 9, pos := "ansi.go:107", after := #[{ on := 8, ground := Ground.data }, { on := 3, ground := Ground.chain }, { on := 0, ground := Ground.phase }, { on := 1, ground := Ground.phase }, { on := 2, ground := Ground.phase }, { on := 3, ground := Ground.phase }, { on := 4, ground := Ground.phase }, { on := 5, ground := Ground.phase }, { on := 6, ground := Ground.phase }, { on := 7, ground := Ground.phase }, { on := 8, ground := Ground.phase }], guard := none }) (v := ?_) rfl (by kernel_rfl) (by kernel_rfl) (by kernel_rfl) (fun _ _ _ h => h) (Or.inl ⟨by rfl, ?_⟩) (by exact hH) ?_
                rotate_left
                · intro W hSw
                  go_simp
                  try with_reducible rfl
                try simp only [Act.put, List.setIfInBounds_toArray, List.set_cons_zero, List.set_cons_succ]
                refine wpAnyH_done (by kernel_rfl) ?_ _
                refine NoPanic.normal ?_
                go_wp2_with fail
                go_ret
                exact ⟨by rw [← HE.out.1]; rfl, HE.out.2.trans (HS62.out.mono HE.out.2.size)⟩
              ·
                have q : (convert 22 9 (.slice (some ⟨gb, 0, none⟩) 1 1)).run Tryd.prog V62 = .ok (.string P1) V62 := KA.out.2 _ _ hb62
                go_simp
                refine hK.out _ _ HS62.out (fun hH => ?_)
                clear hK K q
                try simp only [Act.put, List.setIfInBounds_toArray, List.set_cons_zero, List.set_cons_succ]
                refine wpAnyH_ready (rs := [1]) (by kernel_rfl) (by simp) ?_
                refine (AllReadyH.cons (o := { dst := some 30, op := Op.convert 22 9 (Operand.tmp 29), type := 9, pos := "ansi.go:107", after := #[{ on := 0, ground := Ground.data }], guard := none }) rfl (fun K hK => ?_) AllReadyH.nil)
                have q : (convert 22 9 (.slice (some ⟨ga, 0, none⟩) 2 2)).run Tryd.prog V62 = .ok (.string P0) V62 := KA.out.1 _ _ ha62
                go_simp
                refine hK.out _ _ HS62.out (fun hH => ?_)
                clear hK K q
                try simp only [Act.put, List.setIfInBounds_toArray, List.set_cons_zero, List.set_cons_succ]
                refine wpAnyH_take (i := 4) (oi := { dst := some 33, op := Op.binOp BinOp.add 9 (Operand.tmp 30) (Operand.tmp 32) 9, type := 9, pos := "ansi.go:107", after := #[{ on := 1, ground := Ground.data }, { on := 3, ground := Ground.data }], guard := none }) (v := ?_) rfl (by kernel_rfl) (by kernel_rfl) (by kernel_rfl) (fun _ _ _ h => h) (Or.inl ⟨by rfl, ?_⟩) (by exact hH) ?_
                rotate_left
                · intro W hSw
                  go_simp
                  try with_reducible rfl
                try simp only [Act.put, List.setIfInBounds_toArray, List.set_cons_zero, List.set_cons_succ]
                refine wpAnyH_take (i := 8) (oi := { dst := some 37, op := Op.binOp BinOp.add 9 (Operand.tmp 33) (Operand.tmp 36) 9, type := 9, pos := "ansi.go:107", after := #[{ on := 4, ground := Ground.data }, { on := 7, ground := Ground.data }], guard := none }) (v := ?_) rfl (by kernel_rfl) (by kernel_rfl) (by kernel_rfl) (fun _ _ _ h => h) (Or.inl ⟨by rfl, ?_⟩) (by exact hH) ?_
                rotate_left
                · intro W hSw
                  go_simp
                  try with_reducible rfl
                try simp only [Act.put, List.setIfInBounds_toArray, List.set_cons_zero, List.set_cons_succ]
                refine wpAnyH_take (i := 9) (oi := { dst := some 4, op := Op.assign (Operand.tmp 37), type := 9, pos := "ansi.go:107", after := #[{ on := 8, ground := Ground.data }, { on := 3, ground := Ground.chain }, { on := 0, ground := Ground.phase }, { on := 1, ground := Ground.phase }, { on := 2, ground := Ground.phase }, { on := 3, ground := Ground.phase }, { on := 4, ground := Ground.phase }, { on := 5, ground := Ground.phase }, { on := 6, ground := Ground.phase }, { on := 7, ground := Ground.phase }, { on := 8, ground := Ground.phase }], guard := none }) (v := ?_) rfl (by kernel_rfl) (by kernel_rfl) (by kernel_rfl) (fun _ _ _ h => h) (Or.inl ⟨by rfl, ?_⟩) (by exact hH) ?_
                rotate_left
                · intro W hSw
                  go_simp
                  try with_reducible rfl
                try simp only [Act.put, List.setIfInBounds_toArray, List.set_cons_zero, List.set_cons_succ]
                refine wpAnyH_done (by kernel_rfl) ?_ _
                refine NoPanic.normal ?_
                go_wp2_with fail
                go_ret
                exact ⟨by rw [← HE.out.1]; rfl, HE.out.2.trans (HS62.out.mono HE.out.2.size)⟩
            ·
              have q : (convert 22 9 (.slice (some ⟨gb, 0, none⟩) 1 1)).run Tryd.prog V56 = .ok (.string P1) V56 := KA.out.2 _ _ hb56
              go_simp
              refine hK.out _ _ HS56.out (fun hH => ?_)
              clear hK K q
              try simp only [Act.put, List.setIfInBounds_toArray, List.set_cons_zero, List.set_cons_succ]
              refine wpAnyH_ready (rs := [1, 3]) (by kernel_rfl) (by simp) ?_
              refine (AllReadyH.cons (o := { dst := some 30, op := Op.convert 22 9 (Operand.tmp 29), type := 9, pos := "ansi.go:107", after := #[{ on := 0, ground := Ground.data }], guard := none }) rfl (fun K hK => ?_) (AllReadyH.cons (o := { dst := some 32, op := Op.call { callee := Callee.value (Operand.func 50), args := #[Operand.tmp 31, Operand.const (Value.string { data := #[59] })], argTypes := #[32, 9] }, type := 9, pos := "ansi.go:107", after := #[{ on := 2, ground := Ground.data }], guard := none }) rfl (fun K hK => ?_) AllReadyH.nil))
              ·
                have q : (convert 22 9 (.slice (some ⟨ga, 0, none⟩) 2 2)).run Tryd.prog V56 = .ok (.string P0) V56 := KA.out.1 _ _ ha56
                go_simp
                refine hK.out _ _ HS56.out (fun hH => ?_)
                clear hK K q
                try simp only [Act.put, List.setIfInBounds_toArray, List.set_cons_zero, List.set_cons_succ]
                refine wpAnyH_ready (rs := [3]) (by kernel_rfl) (by simp) ?_
                refine (AllReadyH.cons (o := { dst := some 32, op := Op.call { callee := Callee.value (Operand.func 50), args := #[Operand.tmp 31, Operand.const (Value.string { data := #[59] })], argTypes := #[32, 9] }, type := 9, pos := "ansi.go:107", after := #[{ on := 2, ground := Ground.data }], guard := none }) rfl (fun K hK => ?_) AllReadyH.nil)
                go_simp
                go_at_call 50
                refine (KJ.out V56 HS56.out).mono ?_
                rintro e V69 ⟨rfl, hbk⟩
                have HS69 := Lib.hid (HS56.out.trans (hbk.mono HS56.out.size))
                have ha69 := ha56.on hbk
                have hb69 := hb56.on hbk
                clear hbk
                try go_wp2_with fail
                refine hK.out _ _ HS69.out (fun hH => ?_)
                clear hK K
                try simp only [Act.put, List.setIfInBounds_toArray, List.set_cons_zero, List.set_cons_succ]
                refine wpAnyH_take (i := 4) (oi := { dst := some 33, op := Op.binOp BinOp.add 9 (Operand.tmp 30) (Operand.tmp 32) 9, type := 9, pos := "ansi.go:107", after := #[{ on := 1, ground := Ground.data }, { on := 3, ground := Ground.data }], guard := none }) (v := ?_) rfl (by kernel_rfl) (by kernel_rfl) (by kernel_rfl) (fun _ _ _ h => h) (Or.inl ⟨by rfl, ?_⟩) (by exact hH) ?_
                rotate_left
                · intro W hSw
                  go_simp
                  try with_reducible rfl
                try simp only [Act.put, List.setIfInBounds_toArray, List.set_cons_zero, List.set_cons_succ]
                refine wpAnyH_take (i := 8) (oi := { dst := some 37, op := Op.binOp BinOp.add 9 (Operand.tmp 33) (Operand.tmp 36) 9, type := 9, pos := "ansi.go:107", after := #[{ on := 4, ground := Ground.data }, { on := 7, ground := Ground.data }], guard := none }) (v := ?_) rfl (by kernel_rfl) (by kernel_rfl) (by kernel_rfl) (fun _ _ _ h => h) (Or.inl ⟨by rfl, ?_⟩) (by exact hH) ?_
                rotate_left
                · intro W hSw
                  go_simp
                  try with_reducible rfl
                try simp only [Act.put, List.setIfInBounds_toArray, List.set_cons_zero, List.set_cons_succ]
                refine wpAnyH_take (i := 9) (oi := { dst := some 4, op := Op.assign (Operand.tmp 37), type := 9, pos := "ansi.go:107", after := #[{ on := 8, ground := Ground.data }, { on := 3, ground := Ground.chain }, { on := 0, ground := Ground.phase }, { on := 1, ground := Ground.phase }, { on := 2, ground := Ground.phase }, { on := 3, ground := Ground.phase }, { on := 4, ground := Ground.phase }, { on := 5, ground := Ground.phase }, { on := 6, ground := Ground.phase }, { on := 7, ground := Ground.phase }, { on := 8, ground := Ground.phase }], guard := none }) (v := ?_) rfl (by kernel_rfl) (by kernel_rfl) (by kernel_rfl) (fun _ _ _ h => h) (Or.inl ⟨by rfl, ?_⟩) (by exact hH) ?_
                rotate_left
                · intro W hSw
                  go_simp
                  try with_reducible rfl
                try simp only [Act.put, List.setIfInBounds_toArray, List.set_cons_zero, List.set_cons_succ]
                refine wpAnyH_done (by kernel_rfl) ?_ _
                refine NoPanic.normal ?_
                go_wp2_with fail
                go_ret
                exact ⟨by rw [← HE.out.1]; rfl, HE.out.2.trans (HS69.out.mono HE.out.2.size)⟩
              ·
                go_simp
                go_at_call 50
                refine (KJ.out V56 HS56.out).mono ?_
                rintro e V70 ⟨rfl, hbk⟩
                have HS70 := Lib.hid (HS56.out.trans (hbk.mono HS56.out.size))
                have ha70 := ha56.on hbk
                have hb70 := hb56.on hbk
                clear hbk
                try go_wp2_with fail
                refine hK.out _ _ HS70.out (fun hH => ?_)
                clear hK K
                try simp only [Act.put, List.setIfInBounds_toArray, List.set_cons_zero, List.set_cons_succ]
                refine wpAnyH_ready (rs := [1]) (by kernel_rfl) (by simp) ?_
                refine (AllReadyH.cons (o := { dst := some 30, op := Op.convert 22 9 (Operand.tmp 29), type := 9, pos := "ansi.go:107", after := #[{ on := 0, ground := Ground.data }], guard := none }) rfl (fun K hK => ?_) AllReadyH.nil)
                have q : (convert 22 9 (.slice (some ⟨ga, 0, none⟩) 2 2)).run Tryd.prog V70 = .ok (.string P0) V70 := KA.out.1 _ _ ha70
                go_simp
                refine hK.out _ _ HS70.out (fun hH => ?_)
                clear hK K q
                try simp only [Act.put, List.setIfInBounds_toArray, List.set_cons_zero, List.set_cons_succ]
                refine wpAnyH_take (i := 4) (oi := { dst := some 33, op := Op.binOp BinOp.add 9 (Operand.tmp 30) (Operand.tmp 32) 9, type := 9, pos := "ansi.go:107", after := #[{ on := 1, ground := Ground.data }, { on := 3, ground := Ground.data }], guard := none }) (v := ?_) rfl (by kernel_rfl) (by kernel_rfl) (by kernel_rfl) (fun _ _ _ h => h) (Or.inl ⟨by rfl, ?_⟩) (by exact hH) ?_
                rotate_left
                · intro W hSw
                  go_simp
                  try with_reducible rfl
                try simp only [Act.put, List.setIfInBounds_toArray, List.set_cons_zero, List.set_cons_succ]
                refine wpAnyH_take (i := 8) (oi := { dst := some 37, op := Op.binOp BinOp.add 9 (Operand.tmp 33) (Operand.tmp 36) 9, type := 9, pos := "ansi.go:107", after := #[{ on := 4, ground := Ground.data }, { on := 7, ground := Ground.data }], guard := none }) (v := ?_) rfl (by kernel_rfl) (by kernel_rfl) (by kernel_rfl) (fun _ _ _ h => h) (Or.inl ⟨by rfl, ?_⟩) (by exact hH) ?_
                rotate_left
                · intro W hSw
                  go_simp
                  try with_reducible rfl
                try simp only [Act.put, List.setIfInBounds_toArray, List.set_cons_zero, List.set_cons_succ]
                refine wpAnyH_take (i := 9) (oi := { dst := some 4, op := Op.assign (Operand.tmp 37), type := 9, pos := "ansi.go:107", after := #[{ on := 8, ground := Ground.data }, { on := 3, ground := Ground.chain }, { on := 0, ground := Ground.phase }, { on := 1, ground := Ground.phase }, { on := 2, ground := Ground.phase }, { on := 3, ground := Ground.phase }, { on := 4, ground := Ground.phase }, { on := 5, ground := Ground.phase }, { on := 6, ground := Ground.phase }, { on := 7, ground := Ground.phase }, { on := 8, ground := Ground.phase }], guard := none }) (v := ?_) rfl (by kernel_rfl) (by kernel_rfl) (by kernel_rfl) (fun _ _ _ h => h) (Or.inl ⟨by rfl, ?_⟩) (by exact hH) ?_
                rotate_left
                · intro W hSw
                  go_simp
                  try with_reducible rfl
                try simp only [Act.put, List.setIfInBounds_toArray, List.set_cons_zero, List.set_cons_succ]
                refine wpAnyH_done (by kernel_rfl) ?_ _
                refine NoPanic.normal ?_
                go_wp2_with fail
                go_ret
                exact ⟨by rw [← HE.out.1]; rfl, HE.out.2.trans (HS70.out.mono HE.out.2.size)⟩
          ·
            go_simp
            go_at_call 50
            refine (KJ.out V55 HS55.out).mono ?_
            rintro e V72 ⟨rfl, hbk⟩
            have HS72 := Lib.hid (HS55.out.trans (hbk.mono HS55.out.size))
            have hb72 := hb55.on hbk
            clear hbk
            try go_wp2_with fail
            refine hK.out _ _ HS72.out (fun hH => ?_)
            clear hK K
            try simp only [Act.put, List.setIfInBounds_toArray, List.set_cons_zero, List.set_cons_succ]
            refine wpAnyH_ready (rs := [0, 7]) (by kernel_rfl) (by simp) ?_
            refine (AllReadyH.cons (o := { dst := some 29, op := Op.buildSlice 22 2 #[(0, Operand.const (Value.int IntKind.u8 27)), (1, Operand.const (Value.int IntKind.u8 91))], type := 22, pos := "ansi.go:107", after := #[], guard := none }) rfl (fun K hK => ?_) (AllReadyH.cons (o := { dst := some 36, op := Op.convert 22 9 (Operand.tmp 35), type := 9, pos := "ansi.go:107", after := #[{ on := 6, ground := Ground.data }], guard := none }) rfl (fun K hK => ?_) AllReadyH.nil))
            ·
              go_simp
              have HS73 := Lib.hid (HS72.out.alloc HS72.out.size (.cells #[.int .u8 27, .int .u8 91] 5))
              have ha73 := cells_new V72 #[.int .u8 27, .int .u8 91] 5
              have hb73 := hb72.on (below_new _ (.cells #[.int .u8 27, .int .u8 91] 5))
              refine hK.out _ _ HS73.out (fun hH => ?_)
              clear hK K
              try simp only [Act.put, List.setIfInBounds_toArray, List.set_cons_zero, List.set_cons_succ]
              obtain ⟨ga, hga⟩ : ∃ b, V72.heap.size = b := ⟨_, rfl⟩
              obtain ⟨V73, hV73⟩ : ∃ W, V72.alloc (.cells #[.int .u8 27, .int .u8 91] 5) = W := ⟨_, rfl⟩
              rw [hV73] at HS73 ha73 hb73 hH ⊢
              rw [hga] at ha73 ⊢
              clear hV73 hga
              refine wpAnyH_ready (rs := [1, 7]) (by kernel_rfl) (by simp) ?_
              refine (AllReadyH.cons (o := { dst := some 30, op := Op.convert 22 9 (Operand.tmp 29), type := 9, pos := "ansi.go:107", after := #[{ on := 0, ground := Ground.data }], guard := none }) rfl (fun K hK => ?_) (AllReadyH.cons (o := { dst := some 36, op := Op.convert 22 9 (Operand.tmp 35), type := 9, pos := "ansi.go:107", after := #[{ on := 6, ground := Ground.data }], guard := none }) rfl (fun K hK => ?_) AllReadyH.nil))
              ·
                have q : (convert 22 9 (.slice (some ⟨ga, 0, none⟩) 2 2)).run Tryd.prog V73 = .ok (.string P0) V73 := KA.out.1 _ _ ha73
                go_simp
                refine hK.out _ _ HS73.out (fun hH => ?_)
                clear hK K q
                try simp only [Act.put, List.setIfInBounds_toArray, List.set_cons_zero, List.set_cons_succ]
                refine wpAnyH_take (i := 4) (oi := { dst := some 33, op := Op.binOp BinOp.add 9 (Operand.tmp 30) (Operand.tmp 32) 9, type := 9, pos := "ansi.go:107", after := #[{ on := 1, ground := Ground.data }, { on := 3, ground := Ground.data }], guard := none }) (v := ?_) rfl (by kernel_rfl) (by kernel_rfl) (by kernel_rfl) (fun _ _ _ h => h) (Or.inl ⟨by rfl, ?_⟩) (by exact hH) ?_
                rotate_left
                · intro W hSw
                  go_simp
                  try with_reducible rfl
                try simp only [Act.put, List.setIfInBounds_toArray, List.set_cons_zero, List.set_cons_succ]
                refine wpAnyH_ready (rs := [7]) (by kernel_rfl) (by simp) ?_
                refine (AllReadyH.cons (o := { dst := some 36, op := Op.convert 22 9 (Operand.tmp 35), type := 9, pos := "ansi.go:107", after := #[{ on := 6, ground := Ground.data }], guard := none }) rfl (fun K hK => ?_) AllReadyH.nil)
                have q : (convert 22 9 (.slice (some ⟨gb, 0, none⟩) 1 1)).run Tryd.prog V73 = .ok (.string P1) V73 := KA.out.2 _ _ hb73
                go_simp
                refine hK.out _ _ HS73.out (fun hH => ?_)
                clear hK K q
                try simp only [Act.put, List.setIfInBounds_toArray, List.set_cons_zero, List.set_cons_succ]
                refine wpAnyH_take (i := 8) (oi := { dst := some 37, op := Op.binOp BinOp.add 9 (Operand.tmp 33) (Operand.tmp 36) 9, type := 9, pos := "ansi.go:107", after := #[{ on := 4, ground := Ground.data }, { on := 7, ground := Ground.data }], guard := none }) (v := ?_) rfl (by kernel_rfl) (by kernel_rfl) (by kernel_rfl) (fun _ _ _ h => h) (Or.inl ⟨by rfl, ?_⟩) (by exact hH) ?_
                rotate_left
                · intro W hSw
                  go_simp
                  try with_reducible rfl
                try simp only [Act.put, List.setIfInBounds_toArray, List.set_cons_zero, List.set_cons_succ]
                refine wpAnyH_take (i := 9) (oi := { dst := some 4, op := Op.assign (Operand.tmp 37), type := 9, pos := "ansi.go:107", after := #[{ on := 8, ground := Ground.data }, { on := 3, ground := Ground.chain }, { on := 0, ground := Ground.phase }, { on := 1, ground := Ground.phase }, { on := 2, ground := Ground.phase }, { on := 3, ground := Ground.phase }, { on := 4, ground := Ground.phase }, { on := 5, ground := Ground.phase }, { on := 6, ground := Ground.phase }, { on := 7, ground := Ground.phase }, { on := 8, ground := Ground.phase }], guard := none }) (v := ?_) rfl (by kernel_rfl) (by kernel_rfl) (by kernel_rfl) (fun _ _ _ h => h) (Or.inl ⟨by rfl, ?_⟩) (by exact hH) ?_
                rotate_left
                · intro W hSw
                  go_simp
                  try with_reducible rfl
                try simp only [Act.put, List.setIfInBounds_toArray, List.set_cons_zero, List.set_cons_succ]
                refine wpAnyH_done (by kernel_rfl) ?_ _
                refine NoPanic.normal ?_
                go_wp2_with fail
                go_ret
                exact ⟨by rw [← HE.out.1]; rfl, HE.out.2.trans (HS73.out.mono HE.out.2.size)⟩
              ·
                have q : (convert 22 9 (.slice (some ⟨gb, 0, none⟩) 1 1)).run Tryd.prog V73 = .ok (.string P1) V73 := KA.out.2 _ _ hb73
                go_simp
                refine hK.out _ _ HS73.out (fun hH => ?_)
                clear hK K q
                try simp only [Act.put, List.setIfInBounds_toArray, List.set_cons_zero, List.set_cons_succ]
                refine wpAnyH_ready (rs := [1]) (by kernel_rfl) (by simp) ?_
                refine (AllReadyH.cons (o := { dst := some 30, op := Op.convert 22 9 (Operand.tmp 29), type := 9, pos := "ansi.go:107", after := #[{ on := 0, ground := Ground.data }], guard := none }) rfl (fun K hK => ?_) AllReadyH.nil)
                have q : (convert 22 9 (.slice (some ⟨ga, 0, none⟩) 2 2)).run Tryd.prog V73 = .ok (.string P0) V73 := KA.out.1 _ _ ha73
                go_simp
                refine hK.out _ _ HS73.out (fun hH => ?_)
                clear hK K q
                try simp only [Act.put, List.setIfInBounds_toArray, List.set_cons_zero, List.set_cons_succ]
                refine wpAnyH_take (i := 4) (oi := { dst := some 33, op := Op.binOp BinOp.add 9 (Operand.tmp 30) (Operand.tmp 32) 9, type := 9, pos := "ansi.go:107", after := #[{ on := 1, ground := Ground.data }, { on := 3, ground := Ground.data }], guard := none }) (v := ?_) rfl (by kernel_rfl) (by kernel_rfl) (by kernel_rfl) (fun _ _ _ h => h) (Or.inl ⟨by rfl, ?_⟩) (by exact hH) ?_
                rotate_left
                · intro W hSw
                  go_simp
                  try with_reducible rfl
                try simp only [Act.put, List.setIfInBounds_toArray, List.set_cons_zero, List.set_cons_succ]
                refine wpAnyH_take (i := 8) (oi := { dst := some 37, op := Op.binOp BinOp.add 9 (Operand.tmp 33) (Operand.tmp 36) 9, type := 9, pos := "ansi.go:107", after := #[{ on := 4, ground := Ground.data }, { on := 7, ground := Ground.data }], guard := none }) (v := ?_) rfl (by kernel_rfl) (by kernel_rfl) (by kernel_rfl) (fun _ _ _ h => h) (Or.inl ⟨by rfl, ?_⟩) (by exact hH) ?_
                rotate_left
                · intro W hSw
                  go_simp
                  try with_reducible rfl
                try simp only [Act.put, List.setIfInBounds_toArray, List.set_cons_zero, List.set_cons_succ]
                refine wpAnyH_take (i := 9) (oi := { dst := some 4, op := Op.assign (Operand.tmp 37), type := 9, pos := "ansi.go:107", after := #[{ on := 8, ground := Ground.data }, { on := 3, ground := Ground.chain }, { on := 0, ground := Ground.phase }, { on := 1, ground := Ground.phase }, { on := 2, ground := Ground.phase }, { on := 3, ground := Ground.phase }, { on := 4, ground := Ground.phase }, { on := 5, ground := Ground.phase }, { on := 6, ground := Ground.phase }, { on := 7, ground := Ground.phase }, { on := 8, ground := Ground.phase }], guard := none }) (v := ?_) rfl (by kernel_rfl) (by kernel_rfl) (by kernel_rfl) (fun _ _ _ h => h) (Or.inl ⟨by rfl, ?_⟩) (by exact hH) ?_
                rotate_left
                · intro W hSw
                  go_simp
                  try with_reducible rfl
                try simp only [Act.put, List.setIfInBounds_toArray, List.set_cons_zero, List.set_cons_succ]
                refine wpAnyH_done (by kernel_rfl) ?_ _
                refine NoPanic.normal ?_
                go_wp2_with fail
                go_ret
                exact ⟨by rw [← HE.out.1]; rfl, HE.out.2.trans (HS73.out.mono HE.out.2.size)⟩
            ·
              have q : (convert 22 9 (.slice (some ⟨gb, 0, none⟩) 1 1)).run Tryd.prog V72 = .ok (.string P1) V72 := KA.out.2 _ _ hb72
              go_simp
              refine hK.out _ _ HS72.out (fun hH => ?_)
              clear hK K q
              try simp only [Act.put, List.setIfInBounds_toArray, List.set_cons_zero, List.set_cons_succ]
              refine wpAnyH_ready (rs := [0]) (by kernel_rfl) (by simp) ?_
              refine (AllReadyH.cons (o := { dst := some 29, op := Op.buildSlice 22 2 #[(0, Operand.const (Value.int IntKind.u8 27)), (1, Operand.const (Value.int IntKind.u8 91))], type := 22, pos := "ansi.go:107", after := #[], guard := none }) rfl (fun K hK => ?_) AllReadyH.nil)
              go_simp
              have HS79 := Lib.hid (HS72.out.alloc HS72.out.size (.cells #[.int .u8 27, .int .u8 91] 5))
              have ha79 := cells_new V72 #[.int .u8 27, .int .u8 91] 5
              have hb79 := hb72.on (below_new _ (.cells #[.int .u8 27, .int .u8 91] 5))
              refine hK.out _ _ HS79.out (fun hH => ?_)
              clear hK K
              try simp only [Act.put, List.setIfInBounds_toArray, List.set_cons_zero, List.set_cons_succ]
              obtain ⟨ga, hga⟩ : ∃ b, V72.heap.size = b := ⟨_, rfl⟩
              obtain ⟨V79, hV79⟩ : ∃ W, V72.alloc (.cells #[.int .u8 27, .int .u8 91] 5) = W := ⟨_, rfl⟩
              rw [hV79] at HS79 ha79 hb79 hH ⊢
              rw [hga] at ha79 ⊢
              clear hV79 hga
              refine wpAnyH_ready (rs := [1]) (by kernel_rfl) (by simp) ?_
              refine (AllReadyH.cons (o := { dst := some 30, op := Op.convert 22 9 (Operand.tmp 29), type := 9, pos := "ansi.go:107", after := #[{ on := 0, ground := Ground.data }], guard := none }) rfl (fun K hK => ?_) AllReadyH.nil)
              have q : (convert 22 9 (.slice (some ⟨ga, 0, none⟩) 2 2)).run Tryd.prog V79 = .ok (.string P0) V79 := KA.out.1 _ _ ha79
              go_simp
              refine hK.out _ _ HS79.out (fun hH => ?_)
              clear hK K q
              try simp only [Act.put, List.setIfInBounds_toArray, List.set_cons_zero, List.set_cons_succ]
              refine wpAnyH_take (i := 4) (oi := { dst := some 33, op := Op.binOp BinOp.add 9 (Operand.tmp 30) (Operand.tmp 32) 9, type := 9, pos := "ansi.go:107", after := #[{ on := 1, ground := Ground.data }, { on := 3, ground := Ground.data }], guard := none }) (v := ?_) rfl (by kernel_rfl) (by kernel_rfl) (by kernel_rfl) (fun _ _ _ h => h) (Or.inl ⟨by rfl, ?_⟩) (by exact hH) ?_
              rotate_left
              · intro W hSw
                go_simp
                try with_reducible rfl
              try simp only [Act.put, List.setIfInBounds_toArray, List.set_cons_zero, List.set_cons_succ]
              refine wpAnyH_take (i := 8) (oi := { dst := some 37, op := Op.binOp BinOp.add 9 (Operand.tmp 33) (Operand.tmp 36) 9, type := 9, pos := "ansi.go:107", after := #[{ on := 4, ground := Ground.data }, { on := 7, ground := Ground.data }], guard := none }) (v := ?_) rfl (by kernel_rfl) (by kernel_rfl) (by kernel_rfl) (fun _ _ _ h => h) (Or.inl ⟨by rfl, ?_⟩) (by exact hH) ?_
              rotate_left
              · intro W hSw
                go_simp
                try with_reducible rfl
              try simp only [Act.put, List.setIfInBounds_toArray, List.set_cons_zero, List.set_cons_succ]
              refine wpAnyH_take (i := 9) (oi := { dst := some 4, op := Op.assign (Operand.tmp 37), type := 9, pos := "ansi.go:107", after := #[{ on := 8, ground := Ground.data }, { on := 3, ground := Ground.chain }, { on := 0, ground := Ground.phase }, { on := 1, ground := Ground.phase }, { on := 2, ground := Ground.phase }, { on := 3, ground := Ground.phase }, { on := 4, ground := Ground.phase }, { on := 5, ground := Ground.phase }, { on := 6, ground := Ground.phase }, { on := 7, ground := Ground.phase }, { on := 8, ground := Ground.phase }], guard := none }) (v := ?_) rfl (by kernel_rfl) (by kernel_rfl) (by kernel_rfl) (fun _ _ _ h => h) (Or.inl ⟨by rfl, ?_⟩) (by exact hH) ?_
              rotate_left
              · intro W hSw
                go_simp
                try with_reducible rfl
              try simp only [Act.put, List.setIfInBounds_toArray, List.set_cons_zero, List.set_cons_succ]
              refine wpAnyH_done (by kernel_rfl) ?_ _
              refine NoPanic.normal ?_
              go_wp2_with fail
              go_ret
              exact ⟨by rw [← HE.out.1]; rfl, HE.out.2.trans (HS79.out.mono HE.out.2.size)⟩
          ·
            have q : (convert 22 9 (.slice (some ⟨gb, 0, none⟩) 1 1)).run Tryd.prog V55 = .ok (.string P1) V55 := KA.out.2 _ _ hb55
            go_simp
            refine hK.out _ _ HS55.out (fun hH => ?_)
            clear hK K q
            try simp only [Act.put, List.setIfInBounds_toArray, List.set_cons_zero, List.set_cons_succ]
            refine wpAnyH_ready (rs := [0, 3]) (by kernel_rfl) (by simp) ?_
            refine (AllReadyH.cons (o := { dst := some 29, op := Op.buildSlice 22 2 #[(0, Operand.const (Value.int IntKind.u8 27)), (1, Operand.const (Value.int IntKind.u8 91))], type := 22, pos := "ansi.go:107", after := #[], guard := none }) rfl (fun K hK => ?_) (AllReadyH.cons (o := { dst := some 32, op := Op.call { callee := Callee.value (Operand.func 50), args := #[Operand.tmp 31, Operand.const (Value.string { data := #[59] })], argTypes := #[32, 9] }, type := 9, pos := "ansi.go:107", after := #[{ on := 2, ground := Ground.data }], guard := none }) rfl (fun K hK => ?_) AllReadyH.nil))
            ·
              go_simp
              have HS82 := Lib.hid (HS55.out.alloc HS55.out.size (.cells #[.int .u8 27, .int .u8 91] 5))
              have ha82 := cells_new V55 #[.int .u8 27, .int .u8 91] 5
              have hb82 := hb55.on (below_new _ (.cells #[.int .u8 27, .int .u8 91] 5))
              refine hK.out _ _ HS82.out (fun hH => ?_)
              clear hK K
              try simp only [Act.put, List.setIfInBounds_toArray, List.set_cons_zero, List.set_cons_succ]
              obtain ⟨ga, hga⟩ : ∃ b, V55.heap.size = b := ⟨_, rfl⟩
              obtain ⟨V82, hV82⟩ : ∃ W, V55.alloc (.cells #[.int .u8 27, .int .u8 91] 5) = W := ⟨_, rfl⟩
              rw [hV82] at HS82 ha82 hb82 hH ⊢
              rw [hga] at ha82 ⊢
              clear hV82 hga
              refine wpAnyH_ready (rs := [1, 3]) (by kernel_rfl) (by simp) ?_
              refine (AllReadyH.cons (o := { dst := some 30, op := Op.convert 22 9 (Operand.tmp 29), type := 9, pos := "ansi.go:107", after := #[{ on := 0, ground := Ground.data }], guard := none }) rfl (fun K hK => ?_) (AllReadyH.cons (o := { dst := some 32, op := Op.call { callee := Callee.value (Operand.func 50), args := #[Operand.tmp 31, Operand.const (Value.string { data := #[59] })], argTypes := #[32, 9] }, type := 9, pos := "ansi.go:107", after := #[{ on := 2, ground := Ground.data }], guard := none }) rfl (fun K hK => ?_) AllReadyH.nil))
              ·
                have q : (convert 22 9 (.slice (some ⟨ga, 0, none⟩) 2 2)).run Tryd.prog V82 = .ok (.string P0) V82 := KA.out.1 _ _ ha82
                go_simp
                refine hK.out _ _ HS82.out (fun hH => ?_)
                clear hK K q
                try simp only [Act.put, List.setIfInBounds_toArray, List.set_cons_zero, List.set_cons_succ]
                refine wpAnyH_ready (rs := [3]) (by kernel_rfl) (by simp) ?_
                refine (AllReadyH.cons (o := { dst := some 32, op := Op.call { callee := Callee.value (Operand.func 50), args := #[Operand.tmp 31, Operand.const (Value.string { data := #[59] })], argTypes := #[32, 9] }, type := 9, pos := "ansi.go:107", after := #[{ on := 2, ground := Ground.data }], guard := none }) rfl (fun K hK => ?_) AllReadyH.nil)
                go_simp
                go_at_call 50
                refine (KJ.out V82 HS82.out).mono ?_
                rintro e V84 ⟨rfl, hbk⟩
                have HS84 := Lib.hid (HS82.out.trans (hbk.mono HS82.out.size))
                have ha84 := ha82.on hbk
                have hb84 := hb82.on hbk
                clear hbk
                try go_wp2_with fail
                refine hK.out _ _ HS84.out (fun hH => ?_)
                clear hK K
                try simp only [Act.put, List.setIfInBounds_toArray, List.set_cons_zero, List.set_cons_succ]
                refine wpAnyH_take (i := 4) (oi := { dst := some 33, op := Op.binOp BinOp.add 9 (Operand.tmp 30) (Operand.tmp 32) 9, type := 9, pos := "ansi.go:107", after := #[{ on := 1, ground := Ground.data }, { on := 3, ground := Ground.data }], guard := none }) (v := ?_) rfl (by kernel_rfl) (by kernel_rfl) (by kernel_rfl) (fun _ _ _ h => h) (Or.inl ⟨by rfl, ?_⟩) (by exact hH) ?_
                rotate_left
                · intro W hSw
                  go_simp
                  try with_reducible rfl
                try simp only [Act.put, List.setIfInBounds_toArray, List.set_cons_zero, List.set_cons_succ]
                refine wpAnyH_take (i := 8) (oi := { dst := some 37, op := Op.binOp BinOp.add 9 (Operand.tmp 33) (Operand.tmp 36) 9, type := 9, pos := "ansi.go:107", after := #[{ on := 4, ground := Ground.data }, { on := 7, ground := Ground.data }], guard := none }) (v := ?_) rfl (by kernel_rfl) (by kernel_rfl) (by kernel_rfl) (fun _ _ _ h => h) (Or.inl ⟨by rfl, ?_⟩) (by exact hH) ?_
                rotate_left
                · intro W hSw
                  go_simp
                  try with_reducible rfl
                try simp only [Act.put, List.setIfInBounds_toArray, List.set_cons_zero, List.set_cons_succ]
                refine wpAnyH_take (i := 9) (oi := { dst := some 4, op := Op.assign (Operand.tmp 37), type := 9, pos := "ansi.go:107", after := #[{ on := 8, ground := Ground.data }, { on := 3, ground := Ground.chain }, { on := 0, ground := Ground.phase }, { on := 1, ground := Ground.phase }, { on := 2, ground := Ground.phase }, { on := 3, ground := Ground.phase }, { on := 4, ground := Ground.phase }, { on := 5, ground := Ground.phase }, { on := 6, ground := Ground.phase }, { on := 7, ground := Ground.phase }, { on := 8, ground := Ground.phase }], guard := none }) (v := ?_) rfl (by kernel_rfl) (by kernel_rfl) (by kernel_rfl) (fun _ _ _ h => h) (Or.inl ⟨by rfl, ?_⟩) (by exact hH) ?_
                rotate_left
                · intro W hSw
                  go_simp
                  try with_reducible rfl
                try simp only [Act.put, List.setIfInBounds_toArray, List.set_cons_zero, List.set_cons_succ]
                refine wpAnyH_done (by kernel_rfl) ?_ _
                refine NoPanic.normal ?_
                go_wp2_with fail
                go_ret
                exact ⟨by rw [← HE.out.1]; rfl, HE.out.2.trans (HS84.out.mono HE.out.2.size)⟩
              ·
                go_simp
                go_at_call 50
                refine (KJ.out V82 HS82.out).mono ?_
                rintro e V85 ⟨rfl, hbk⟩
                have HS85 := Lib.hid (HS82.out.trans (hbk.mono HS82.out.size))
                have ha85 := ha82.on hbk
                have hb85 := hb82.on hbk
                clear hbk
                try go_wp2_with fail
                refine hK.out _ _ HS85.out (fun hH => ?_)
                clear hK K
                try simp only [Act.put, List.setIfInBounds_toArray, List.set_cons_zero, List.set_cons_succ]
                refine wpAnyH_ready (rs := [1]) (by kernel_rfl) (by simp) ?_
                refine (AllReadyH.cons (o := { dst := some 30, op := Op.convert 22 9 (Operand.tmp 29), type := 9, pos := "ansi.go:107", after := #[{ on := 0, ground := Ground.data }], guard := none }) rfl (fun K hK => ?_) AllReadyH.nil)
                have q : (convert 22 9 (.slice (some ⟨ga, 0, none⟩) 2 2)).run Tryd.prog V85 = .ok (.string P0) V85 := KA.out.1 _ _ ha85
                go_simp
                refine hK.out _ _ HS85.out (fun hH => ?_)
                clear hK K q
                try simp only [Act.put, List.setIfInBounds_toArray, List.set_cons_zero, List.set_cons_succ]
                refine wpAnyH_take (i := 4) (oi := { dst := some 33, op := Op.binOp BinOp.add 9 (Operand.tmp 30) (Operand.tmp 32) 9, type := 9, pos := "ansi.go:107", after := #[{ on := 1, ground := Ground.data }, { on := 3, ground := Ground.data }], guard := none }) (v := ?_) rfl (by kernel_rfl) (by kernel_rfl) (by kernel_rfl) (fun _ _ _ h => h) (Or.inl ⟨by rfl, ?_⟩) (by exact hH) ?_
                rotate_left
                · intro W hSw
                  go_simp
                  try with_reducible rfl
                try simp only [Act.put, List.setIfInBounds_toArray, List.set_cons_zero, List.set_cons_succ]
                refine wpAnyH_take (i := 8) (oi := { dst := some 37, op := Op.binOp BinOp.add 9 (Operand.tmp 33) (Operand.tmp 36) 9, type := 9, pos := "ansi.go:107", after := #[{ on := 4, ground := Ground.data }, { on := 7, ground := Ground.data }], guard := none }) (v := ?_) rfl (by kernel_rfl) (by kernel_rfl) (by kernel_rfl) (fun _ _ _ h => h) (Or.inl ⟨by rfl, ?_⟩) (by exact hH) ?_
                rotate_left
                · intro W hSw
                  go_simp
                  try with_reducible rfl
                try simp only [Act.put, List.setIfInBounds_toArray, List.set_cons_zero, List.set_cons_succ]
                refine wpAnyH_take (i := 9) (oi := { dst := some 4, op := Op.assign (Operand.tmp 37), type := 9, pos := "ansi.go:107", after := #[{ on := 8, ground := Ground.data }, { on := 3, ground := Ground.chain }, { on := 0, ground := Ground.phase }, { on := 1, ground := Ground.phase }, { on := 2, ground := Ground.phase }, { on := 3, ground := Ground.phase }, { on := 4, ground := Ground.phase }, { on := 5, ground := Ground.phase }, { on := 6, ground := Ground.phase }, { on := 7, ground := Ground.phase }, { on := 8, ground := Ground.phase }], guard := none }) (v := ?_) rfl (by kernel_rfl) (by kernel_rfl) (by kernel_rfl) (fun _ _ _ h => h) (Or.inl ⟨by rfl, ?_⟩) (by exact hH) ?_
                rotate_left
                · intro W hSw
                  go_simp
                  try with_reducible rfl
                try simp only [Act.put, List.setIfInBounds_toArray, List.set_cons_zero, List.set_cons_succ]
                refine wpAnyH_done (by kernel_rfl) ?_ _
                refine NoPanic.normal ?_
                go_wp2_with fail
                go_ret
                exact ⟨by rw [← HE.out.1]; rfl, HE.out.2.trans (HS85.out.mono HE.out.2.size)⟩
            ·
              go_simp
              go_at_call 50
              refine (KJ.out V55 HS55.out).mono ?_
              rintro e V87 ⟨rfl, hbk⟩
              have HS87 := Lib.hid (HS55.out.trans (hbk.mono HS55.out.size))
              have hb87 := hb55.on hbk
              clear hbk
              try go_wp2_with fail
              refine hK.out _ _ HS87.out (fun hH => ?_)
              clear hK K
              try simp only [Act.put, List.setIfInBounds_toArray, List.set_cons_zero, List.set_cons_succ]
              refine wpAnyH_ready (rs := [0]) (by kernel_rfl) (by simp) ?_
              refine (AllReadyH.cons (o := { dst := some 29, op := Op.buildSlice 22 2 #[(0, Operand.const (Value.int IntKind.u8 27)), (1, Operand.const (Value.int IntKind.u8 91))], type := 22, pos := "ansi.go:107", after := #[], guard := none }) rfl (fun K hK => ?_) AllReadyH.nil)
              go_simp
              have HS88 := Lib.hid (HS87.out.alloc HS87.out.size (.cells #[.int .u8 27, .int .u8 91] 5))
              have ha88 := cells_new V87 #[.int .u8 27, .int .u8 91] 5
              have hb88 := hb87.on (below_new _ (.cells #[.int .u8 27, .int .u8 91] 5))
              refine hK.out _ _ HS88.out (fun hH => ?_)
              clear hK K
              try simp only [Act.put, List.setIfInBounds_toArray, List.set_cons_zero, List.set_cons_succ]
              obtain ⟨ga, hga⟩ : ∃ b, V87.heap.size = b := ⟨_, rfl⟩
              obtain ⟨V88, hV88⟩ : ∃ W, V87.alloc (.cells #[.int .u8 27, .int .u8 91] 5) = W := ⟨_, rfl⟩
              rw [hV88] at HS88 ha88 hb88 hH ⊢
              rw [hga] at ha88 ⊢
              clear hV88 hga
              refine wpAnyH_ready (rs := [1]) (by kernel_rfl) (by simp) ?_
              refine (AllReadyH.cons (o := { dst := some 30, op := Op.convert 22 9 (Operand.tmp 29), type := 9, pos := "ansi.go:107", after := #[{ on := 0, ground := Ground.data }], guard := none }) rfl (fun K hK => ?_) AllReadyH.nil)
              have q : (convert 22 9 (.slice (some ⟨ga, 0, none⟩) 2 2)).run Tryd.prog V88 = .ok (.string P0) V88 := KA.out.1 _ _ ha88
              go_simp
              refine hK.out _ _ HS88.out (fun hH => ?_)
              clear hK K q
              try simp only [Act.put, List.setIfInBounds_toArray, List.set_cons_zero, List.set_cons_succ]
              refine wpAnyH_take (i := 4) (oi := { dst := some 33, op := Op.binOp BinOp.add 9 (Operand.tmp 30) (Operand.tmp 32) 9, type := 9, pos := "ansi.go:107", after := #[{ on := 1, ground := Ground.data }, { on := 3, ground := Ground.data }], guard := none }) (v := ?_) rfl (by kernel_rfl) (by kernel_rfl) (by kernel_rfl) (fun _ _ _ h => h) (Or.inl ⟨by rfl, ?_⟩) (by exact hH) ?_
              rotate_left
              · intro W hSw
                go_simp
                try with_reducible rfl
              try simp only [Act.put, List.setIfInBounds_toArray, List.set_cons_zero, List.set_cons_succ]
              refine wpAnyH_take (i := 8) (oi := { dst := some 37, op := Op.binOp BinOp.add 9 (Operand.tmp 33) (Operand.tmp 36) 9, type := 9, pos := "ansi.go:107", after := #[{ on := 4, ground := Ground.data }, { on := 7, ground := Ground.data }], guard := none }) (v := ?_) rfl (by kernel_rfl) (by kernel_rfl) (by kernel_rfl) (fun _ _ _ h => h) (Or.inl ⟨by rfl, ?_⟩) (by exact hH) ?_
              rotate_left
              · intro W hSw
                go_simp
                try with_reducible rfl
              try simp only [Act.put, List.setIfInBounds_toArray, List.set_cons_zero, List.set_cons_succ]
              refine wpAnyH_take (i := 9) (oi := { dst := some 4, op := Op.assign (Operand.tmp 37), type := 9, pos := "ansi.go:107", after := #[{ on := 8, ground := Ground.data }, { on := 3, ground := Ground.chain }, { on := 0, ground := Ground.phase }, { on := 1, ground := Ground.phase }, { on := 2, ground := Ground.phase }, { on := 3, ground := Ground.phase }, { on := 4, ground := Ground.phase }, { on := 5, ground := Ground.phase }, { on := 6, ground := Ground.phase }, { on := 7, ground := Ground.phase }, { on := 8, ground := Ground.phase }], guard := none }) (v := ?_) rfl (by kernel_rfl) (by kernel_rfl) (by kernel_rfl) (fun _ _ _ h => h) (Or.inl ⟨by rfl, ?_⟩) (by exact hH) ?_
              rotate_left
              · intro W hSw
                go_simp
                try with_reducible rfl
              try simp only [Act.put, List.setIfInBounds_toArray, List.set_cons_zero, List.set_cons_succ]
              refine wpAnyH_done (by kernel_rfl) ?_ _
              refine NoPanic.normal ?_
              go_wp2_with fail
              go_ret
              exact ⟨by rw [← HE.out.1]; rfl, HE.out.2.trans (HS88.out.mono HE.out.2.size)⟩
      have i1 : (k : Int) < (N : Int) := by omega
      obtain ⟨z, hz⟩ := at_lt (l := zs) (k := k) (by rw [HH.out.2.2.1]; exact hlt)
      obtain ⟨b, o, rfl, hbl, d0⟩ := HH.out.1.at hz
      have d0 := (hb.cell (p := ⟨b, o + k, none⟩) hbl).trans d0
      have ht : zs.take (k + 1) = zs.take k ++ [z] := by rw [List.take_add_one, hz]; rfl
      have hbad : okZ z = false → R = ⟨#[]⟩ := fun hz0 => by
        rw [← HH.out.2.2.2.1, writeU, if_neg]
        · rfl
        · rintro ⟨_, h2⟩
          have := List.all_eq_true.1 h2 z (List.mem_of_getElem? hz)
          rw [hz0] at this
          cases this
      by_cases h0 : 0 ≤ z
      case neg =>
        have a1 : decide (z < 0) = true := by simp; omega
        obtain rfl := hbad (by simp [okZ]; omega)
        have HB := Lib.hid hb
        clear ho hb hok hz ht hbad h0
        go_wp2_with fail
        go_ret
        exact ⟨rfl, HB.out⟩
      have a1 : decide (z < 0) = false := by simp; omega
      by_cases h1 : z ≤ 99999
      case neg =>
        have a2 : decide (99999 < z) = true := by simp; omega
        obtain rfl := hbad (by simp [okZ]; omega)
        have HB := Lib.hid hb
        clear ho hb hok hz ht hbad h0
        go_wp2_with fail
        go_ret
        exact ⟨rfl, HB.out⟩
      have a2 : decide (99999 < z) = false := by simp; omega
      have KI := itoa_any z h0 h1 wr (HH.out.2.1.on hb)
      have hok2 : (zs.take (k + 1)).all okZ = true := by rw [ht, List.all_append, hok]; simp [okZ, h0, h1]
      obtain ⟨s, hs⟩ : ∃ s, strB (Lib.itoa z) = s := ⟨_, rfl⟩
      have hm2 : ((zs.take (k + 1)).map Lib.itoa).map strB = ((zs.take k).map Lib.itoa).map strB ++ [s] := by rw [ht, ← hs]; simp
      rw [hs] at KI
      have hll : (((zs.take k).map Lib.itoa).map strB).length = k := by rw [List.length_map, List.length_map, List.length_take, HH.out.2.2.1]; omega
      generalize hPS : ((zs.take k).map Lib.itoa).map strB = PS at *
      have HK := Lib.hid (And.intro KI (And.intro ho (And.intro hb (And.intro hok2 (And.intro hm2 hll)))))
      clear KI ho hb hok hok2 hm2 hll hz ht hbad h0 hs hPS
      go_wp2_with fail
      refine HK.out.1.mono ?_
      rintro r w2 ⟨rfl, hb2⟩
      have ho3 : OwnS (w2.alloc (.cells #[.string s] 9)) w.heap.size PS u5 := (HK.out.2.1.below hb2).below (below_new _ _)
      have c3 : (w2.alloc (.cells #[.string s] 9)).cell? ⟨w2.heap.size, 0, none⟩ = some (.string s) := by rw [World.cell?_alloc_new]; rfl
      have b3 := below_lit (HK.out.2.2.1.trans (hb2.mono HK.out.2.2.1.size)) (.cells #[.string s] 9)
      have HL := Lib.hid (And.intro ho3 (And.intro c3 b3))
      clear hb2 ho3 c3 b3
      go_wp2_with (first
        | (at_builtin
           refine wpList_appS rfl (.tmp 23) (.tmp 26) rfl w.heap.size _ PS k HK.out.2.2.2.2.2 rfl HL.out.1 ⟨w2.heap.size, 0, none⟩ s rfl HL.out.2.1 (by omega) HL.out.2.2.size ?_)
        | fail)
      intro g cp w4 h4 hb4
      have hend : ∃ k' : Nat, Value.int .i64 ((k : Int) + 1) = .int .i64 (k' : Int) ∧ k' ≤ N ∧ (zs.take k').all okZ = true ∧ OwnS w4 w.heap.size (((zs.take k').map Lib.itoa).map strB) (.slice (some ⟨g, 0, none⟩) (k + 1) cp) ∧ Below w.heap.size w w4 :=
        ⟨k + 1, by simp, by omega, HK.out.2.2.2.1, by rw [HK.out.2.2.2.2.1]; exact h4, HL.out.2.2.trans hb4⟩
      have HEND := Lib.hid hend
      clear hend h4 hb4
      go_wp2_with fail
      go_roundw
      case rel => exact HEND.out
      case measure => simp [RowKit.intOf]; omega
end Go.Proofs.YtpimadgcojgjaaaDoor
