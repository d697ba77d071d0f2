/-
  The walk of NfaBeside.
-/
import Derived.Test.YtlbcicoppglgjaaDoorBnb
import Derived.Test.YtlbcicoppglgjaaDoorBsr
namespace Go.Proofs.YtlbcicoppglgjaaDoor
open Go.RowKit Go.Shelf Go.Lib

theorem fault_zero2 {ks : List E} (h1 : ks.all rightE = true) (h2 : ks.length ≤ 40) (h3 : szL ks ≤ 160) : faultL ks = 0 := by
  have := lv_le_sz ks
  unfold faultL
  rw [if_neg (by omega), if_neg (by simp [h1]), if_neg (by omega)]
theorem sh_or {t1 t2 nl nm : Nat} (h1 : t1 < 2 ^ nl) (h2 : t2 < 2 ^ nm) (hn : nl + nm ≤ 40) : bits .or .u64 (t1 : Int) (IntKind.u64.wrap ((t2 : Int) * 2 ^ nl)) = ((t1 ||| t2 <<< nl : Nat) : Int) := by
  have e1 : t2 * 2 ^ nl < 2 ^ nm * 2 ^ nl := Nat.mul_lt_mul_of_pos_right h2 (Nat.two_pow_pos nl)
  rw [← Nat.pow_add] at e1
  have e2 : (2 : Nat) ^ (nm + nl) ≤ 2 ^ 40 := Nat.pow_le_pow_right (by omega) (by omega)
  have e3 : (2 : Nat) ^ nl ≤ 2 ^ 40 := Nat.pow_le_pow_right (by omega) (by omega)
  have e4 : (2 : Nat) ^ 40 < 18446744073709551616 := by decide
  have e5 : ((t2 : Int) * 2 ^ nl) = ((t2 * 2 ^ nl : Nat) : Int) := by rw [Int.natCast_mul, Int.natCast_pow]; rfl
  rw [e5, Go.IntWalk.u64_in _ (by omega), Nat.shiftLeft_eq, bits_or_u64_nat _ _ (by omega) (by omega)]
/-- A set in memory: what an automaton is in behind the first symbols. -/
def SetAt (w : World) (se : Bool) (s : St) (zs : List Int) (i : Nat) (v : Value) : Prop := ∃ A cap, v = .slice A (runI se s (zs.take i)).length cap ∧ IS w w.heap.size (runI se s (zs.take i)) A cap
theorem SetAt.on {w w' : World} {se : Bool} {s : St} {zs : List Int} {i : Nat} {v : Value} (h : SetAt w se s zs i v) (hb : Below w.heap.size w w') : SetAt w' se s zs i v := by
  obtain ⟨A, cap, e, hi⟩ := h
  exact ⟨A, cap, e, hi.on hb⟩
theorem set_start (w : World) (se : Bool) (s : St) (zs : List Int) : SetAt (w.alloc (.cells #[.int .i64 0] 3)) se s zs 0 (.slice (some ⟨w.heap.size, 0, none⟩) 1 1) :=
  ⟨_, _, rfl, is_begin w⟩
theorem SetAt.step {w : World} {q : Np} {n : Nat} {se : Bool} {s : St} {zs : List Int} {i : Nat} {v : Value} {m : Int} (h : NfaAt w q n se s) (hT : TZ w) (hS : SetAt w se s zs i v) (hm : zs[i]? = some m) (hi : i64 m) :
    Calls Tryd.prog 19 #[.pointer (some ⟨q.b, 0, none⟩), v, .int .i64 m] w fun r w' => ∃ v', r = .returned v' ∧ SetAt w' se s zs (i + 1) v' ∧ Below w.heap.size w w' := by
  obtain ⟨A, cap, rfl, hx⟩ := hS
  refine (step_any h hT _ A cap hx m hi).mono ?_
  rintro r w' ⟨v, rfl, ho, hb⟩
  obtain ⟨A', cap', rfl, hi', _⟩ := OwnP.is2 ho
  refine ⟨_, rfl, ⟨A', cap', ?_, ?_⟩, hb⟩
  · rw [run_take se s hm]
  · rw [run_take se s hm]; exact hi'
theorem SetAt.tells {w : World} {q : Np} {n : Nat} {se : Bool} {s : St} {zs : List Int} {i : Nat} {v : Value} (h : NfaAt w q n se s) (hS : SetAt w se s zs i v) :
    Calls Tryd.prog 17 #[.pointer (some ⟨q.b, 0, none⟩), v] w fun r w' => r = .returned (.int .u64 (tellsU s (runI se s (zs.take i)) : Nat)) ∧ w' = w := by
  obtain ⟨A, cap, rfl, hx⟩ := hS
  exact tells_any h _ A cap hx
theorem nd_of {w : World} {ks : List E} {A : Option Addr} {cap B : Nat} (h : KsP w (fun b => B ≤ b ∧ b < w.heap.size) ks A cap) : KsAt w w.heap.size ks A cap :=
  h.ks (fun _b hb => hb.2) (fun e v hN => NdP.nd (fun _b hb => hb.2) _ e v (Nat.le_refl _) hN)
set_option maxHeartbeats 16000000 in
set_option maxRecDepth 100000 in
theorem beside_main (se : Bool) (l m : List E) (zs : List Int) (Al Am Az : Option Addr) (cl cm cz : Nat) (w : World) (h : BArg w l m zs Al Am Az cl cm cz) (h80 : szL l ≤ 80) (hb : szL m ≤ 80 ∧ l.length + m.length ≤ 40 ∧ zs.length ≤ 12 ∧ l.all rightE = true ∧ m.all rightE = true) :
    Calls Tryd.prog 7 #[.bool se, .slice Al l.length cl, .slice Am m.length cm, .slice Az zs.length cz] w (UOk w) := by
  have C1 := great_any l Al cl w h.l
  rw [show decide (80 < szL l) = false by simp; omega] at C1
  have C1 := Lib.hid C1
  have H := Lib.hid h
  obtain ⟨nl, hnl⟩ : ∃ n, l.length = n := ⟨_, rfl⟩
  obtain ⟨nm, hnm⟩ : ∃ n, m.length = n := ⟨_, rfl⟩
  obtain ⟨nz, hnz⟩ : ∃ n, zs.length = n := ⟨_, rfl⟩
  have HNL := Lib.hid hnl
  have HNM := Lib.hid hnm
  have HNZ := Lib.hid hnz
  rw [hnl, hnm, hnz]
  have bl : nl ≤ 80 := by have := len_le_szL l; omega
  have bm : nm ≤ 80 := by have := len_le_szL m; omega
  have i1 : ¬ (40 : Int) < (nl : Int) + (nm : Int) := by omega
  have i1' : decide ((40 : Int) < (nl : Int) + (nm : Int)) = false := decide_eq_false i1
  have hw : wrap64 ((nl : Int) + (nm : Int)) = (nl : Int) + (nm : Int) := by unfold wrap64; omega
  have i2 : ¬ (12 : Int) < (nz : Int) := by omega
  have i2' : decide ((12 : Int) < (nz : Int)) = false := decide_eq_false i2
  have C1 := C1.out
  rw [HNL.out] at C1
  have C1 := Lib.hid C1
  have HB := Lib.hid hb
  have H80 := Lib.hid h80
  clear h hb h80 hnl hnm hnz
  go_enter Tryd.func7, Tryd.ntmps7
  go_wp2_with fail
  refine C1.out.mono ?_
  rintro r w2 ⟨rfl, hb2⟩
  have a2 := H.out.below hb2
  have C2 := great_any m Am cm w2 a2.m
  rw [show decide (80 < szL m) = false by simp; have := HB.out; omega, HNM.out] at C2
  have C2 := Lib.hid C2
  have H1 := Lib.hid (And.intro hb2 a2)
  clear hb2 a2
  go_wp2_with fail
  refine C2.out.mono ?_
  rintro r w3 ⟨rfl, hb3⟩
  have H2 := Lib.hid (And.intro (H1.out.1.trans (hb3.mono H1.out.1.size)) (H1.out.2.below hb3))
  clear hb3
  go_wp2_with fail
  refine (awake_any w3 H2.out.2.t).mono ?_
  rintro r w4 ⟨rfl, hb4⟩
  have a4 := H2.out.2.below hb4
  have b4 := H2.out.1.trans (hb4.mono H2.out.1.size)
  have D1 := allRight_any l Al cl w4 a4.l (by have := H80.out; omega)
  rw [HB.out.2.2.2.1, show decide (l.length ≤ 40) = true by simp; have := HB.out; omega, HNL.out] at D1
  have D1 := Lib.hid D1
  have H4 := Lib.hid (And.intro b4 a4)
  clear a4 b4 hb4
  go_wp2_with fail
  refine D1.out.mono ?_
  rintro r w5 ⟨rfl, hb5⟩
  have a5 := H4.out.2.below hb5
  have b5 := H4.out.1.trans (hb5.mono H4.out.1.size)
  have D2 := allRight_any m Am cm w5 a5.m (by have := HB.out; omega)
  rw [HB.out.2.2.2.2, show decide (m.length ≤ 40) = true by simp; have := HB.out; omega, HNM.out] at D2
  have D2 := Lib.hid D2
  have H5 := Lib.hid (And.intro b5 a5)
  clear a5 b5 hb5
  go_wp2_with fail
  refine D2.out.mono ?_
  rintro r w6 ⟨rfl, hb6⟩
  have a6 := H5.out.2.below hb6
  have E1 := toL_any l (by have := H80.out; omega) Al cl w6 a6.l
  rw [HNL.out] at E1
  have E1 := Lib.hid E1
  have H6 := Lib.hid (And.intro (H5.out.1.trans (hb6.mono H5.out.1.size)) a6)
  clear hb6 a6
  go_wp2_with fail
  refine E1.out.mono ?_
  rintro r w7 ⟨A7, c7, rfl, hks7, hb7⟩
  have a7 := H6.out.2.below hb7
  have F1 := new_any se l A7 c7 w7 (nd_of hks7) (fault_zero2 HB.out.2.2.2.1 (by have := HB.out; omega) (by have := H80.out; omega)) a7.t
  rw [HNL.out] at F1 ⊢
  have F1 := Lib.hid F1
  have H7 := Lib.hid (And.intro (H6.out.1.trans (hb7.mono H6.out.1.size)) a7)
  clear hb7 a7 hks7
  go_wp2_with fail
  refine F1.out.mono ?_
  rintro r w8 ⟨q1, n1, rfl, _, hn8, hb8⟩
  have a8 := H7.out.2.below hb8
  have E2 := toL_any m (by have := HB.out; omega) Am cm w8 a8.m
  rw [HNM.out] at E2
  have E2 := Lib.hid E2
  have H8 := Lib.hid (And.intro (H7.out.1.trans (hb8.mono H7.out.1.size)) (And.intro a8 hn8))
  clear hb8 a8 hn8
  go_wp2_with fail
  refine E2.out.mono ?_
  rintro r w9 ⟨A9, c9, rfl, hks9, hb9⟩
  have a9 := H8.out.2.1.below hb9
  have F2 := new_any se m A9 c9 w9 (nd_of hks9) (fault_zero2 HB.out.2.2.2.2 (by have := HB.out; omega) (by have := HB.out; omega)) a9.t
  rw [HNM.out] at F2 ⊢
  have F2 := Lib.hid F2
  have H9 := Lib.hid (And.intro (H8.out.1.trans (hb9.mono H8.out.1.size)) (And.intro a9 (H8.out.2.2.below hb9)))
  clear hb9 a9 hks9
  go_wp2_with fail
  refine F2.out.mono ?_
  rintro r w10 ⟨q2, n2, rfl, _, hn10, hb10⟩
  have a10 := H9.out.2.1.below hb10
  have E3 := toL_own l (by have := H80.out; omega) Al cl w10 a10.l
  rw [HNL.out] at E3
  have E3 := Lib.hid E3
  have H10 := Lib.hid (And.intro (H9.out.1.trans (hb10.mono H9.out.1.size)) (And.intro a10 (And.intro (H9.out.2.2.below hb10) hn10)))
  clear hb10 a10 hn10
  go_wp2_with fail
  refine E3.out.mono ?_
  rintro r w11 ⟨v11, cs11, rfl, _, ho11, hk11, hb11⟩
  have a11 := H10.out.2.1.below hb11
  have E4 := toL_own m (by have := HB.out; omega) Am cm w11 a11.m
  rw [HNM.out] at E4
  have E4 := Lib.hid E4
  have H11 := Lib.hid (And.intro (And.intro ho11 hk11) (And.intro (H10.out.1.trans (hb11.mono H10.out.1.size)) (And.intro a11 (And.intro (H10.out.2.2.1.below hb11) (And.intro (H10.out.2.2.2.below hb11) hb11)))))
  clear hb11 a11 ho11 hk11
  go_wp2_with fail
  refine E4.out.mono ?_
  rintro r w12 ⟨v12, cs12, rfl, hnil12, ho12, hk12, hb12⟩
  have H12 := Lib.hid (And.intro (And.intro hnil12 (And.intro ho12 hk12)) (And.intro hb12 (H11.out.2.2.2.2.2.trans (hb12.mono H11.out.2.2.2.2.2.size))))
  clear hb12 hnil12 ho12 hk12
  go_wp2_with (first
    | (at_builtin; refine wpList_append_nodes rfl (.tmp 68) (.tmp 70) rfl w10.heap.size w11 w12 v11 v12 l m cs11 cs12 rfl rfl H11.out.1.1 H11.out.1.2 H12.out.1.1 H12.out.2.1 H12.out.1.2.1 H12.out.1.2.2 H11.out.2.2.2.2.2.size (by have := HB.out; omega) ?_
       intro A13 c13 w13 hkp13 hb13
       obtain ⟨nlm, hnlm⟩ : ∃ n, (l ++ m).length = n := ⟨_, rfl⟩
       have b1013 := H12.out.2.2.trans hb13
       have a13 := H10.out.2.1.below b1013
       have F3 := new_any se (l ++ m) A13 c13 w13 (nd_of hkp13) (fault_zero2 (by rw [List.all_append, HB.out.2.2.2.1, HB.out.2.2.2.2]; rfl) (by rw [List.length_append]; exact HB.out.2.1) (by rw [szL_append]; have := H80.out; have := HB.out; omega)) a13.t
       rw [hnlm] at F3 ⊢
       have F3 := Lib.hid F3
       have H13 := Lib.hid (And.intro (H10.out.1.trans (b1013.mono H10.out.1.size)) (And.intro a13 (And.intro (H10.out.2.2.1.below b1013) (H10.out.2.2.2.below b1013))))
       clear hkp13 hb13 hnlm b1013 a13)
    | fail)
  refine F3.out.mono ?_
  rintro r w14 ⟨q3, n3, rfl, _, hn14, hb14⟩
  have H14 := Lib.hid (And.intro (H13.out.1.trans (hb14.mono H13.out.1.size)) (And.intro (H13.out.2.1.below hb14) (And.intro (H13.out.2.2.1.below hb14) (And.intro (H13.out.2.2.2.below hb14) hn14))))
  clear hb14 hn14
  go_wp2_with fail
  refine (begin_any q1.b w14).mono ?_
  rintro r w15 ⟨rfl, e15⟩
  have b15 : Below w14.heap.size w14 w15 := by rw [e15]; exact below_new _ _
  have s15 := set_start w14 se (mkN l) zs
  rw [← e15] at s15
  have H15 := Lib.hid (And.intro b15 s15)
  clear b15 s15 e15
  generalize (Value.slice (some ⟨w14.heap.size, 0, none⟩) 1 1) = vx at *
  go_wp2_with fail
  refine (begin_any q2.b w15).mono ?_
  rintro r w16 ⟨rfl, e16⟩
  have b16 : Below w15.heap.size w15 w16 := by rw [e16]; exact below_new _ _
  have s16 := set_start w15 se (mkN m) zs
  rw [← e16] at s16
  have H16 := Lib.hid (And.intro (H15.out.1.trans (b16.mono H15.out.1.size)) (And.intro (H15.out.2.on b16) s16))
  clear b16 s16 e16
  generalize (Value.slice (some ⟨w15.heap.size, 0, none⟩) 1 1) = vy at *
  go_wp2_with fail
  refine (begin_any q3.b w16).mono ?_
  rintro r w17 ⟨rfl, e17⟩
  have b17 : Below w16.heap.size w16 w17 := by rw [e17]; exact below_new _ _
  have s17 := set_start w16 se (mkN (l ++ m)) zs
  rw [← e17] at s17
  have b1417 := H16.out.1.trans (b17.mono H16.out.1.size)
  have H17 := Lib.hid (And.intro (And.intro (H14.out.1.trans (b1417.mono H14.out.1.size)) (And.intro (H14.out.2.1.below b1417) (And.intro (H14.out.2.2.1.below b1417) (And.intro (H14.out.2.2.2.1.below b1417) (H14.out.2.2.2.2.below b1417))))) (And.intro (H16.out.2.1.on b17) (And.intro (H16.out.2.2.on b17) s17)))
  clear b17 s17 e17 b1417
  generalize (Value.slice (some ⟨w16.heap.size, 0, none⟩) 1 1) = vz at *
  clear C1 C2 D1 D2 E1 E2 E3 E4 F1 F2 F3
  go_wp2_with fail
  go_loopw [15, 16, 17, 18] (fun sx sy sz v wr => ∃ i : Nat, v = .int .i64 (i : Int) ∧ i ≤ nz ∧ Below w17.heap.size w17 wr ∧ SetAt wr se (mkN l) zs i sx ∧ SetAt wr se (mkN m) zs i sy ∧ SetAt wr se (mkN (l ++ m)) zs i sz) (fun _ _ _ v _ => nz - (RowKit.intOf v).toNat)
  case atStart => exact ⟨0, rfl, by omega, Below.refl _ _, H17.out.2.1, H17.out.2.2.1, H17.out.2.2.2⟩
  case round =>
    obtain ⟨i, rfl, hi, hbr, hx, hy, hz⟩ := hrel
    by_cases hlt : i < nz
    · have j1 : (i : Int) < (nz : Int) := by omega
      obtain ⟨zi, hzi⟩ : ∃ z, zs[i]? = some z := ⟨zs[i]'(by rw [HNZ.out]; exact hlt), List.getElem?_eq_getElem _⟩
      obtain ⟨bz, oz, rfl, hbz, hcz⟩ := H.out.z.r (by rintro rfl; simp at hzi)
      have hz64 := H.out.z.i zi (List.mem_of_getElem? hzi)
      have hbw := H17.out.1.1.trans (hbr.mono H17.out.1.1.size)
      have HP := Lib.hid (And.intro ((hbw.cell (p := ⟨bz, oz + i, none⟩) hbz).trans (hcz i zi hzi)) (Nat.lt_of_lt_of_le hbz hbw.size))
      have HS := Lib.hid (And.intro (And.intro hbr (And.intro hx (And.intro hy hz))) (And.intro hzi hz64))
      clear hbr hx hy hz hzi hz64 hcz hbz hbw
      go_wp2_with fail
      -- the region by hand
      have hgr : Below wr.heap.size wr wr.drew := ⟨rfl, rfl, rfl, Nat.le_refl _, fun _ _ => rfl⟩
      have hbd : Below w17.heap.size w17 wr.drew := HS.out.1.1.trans (hgr.mono HS.out.1.1.size)
      have HG := Lib.hid hgr
      have aD := H17.out.1.2.1.below hbd
      have C1 := Lib.hid (SetAt.step (H17.out.1.2.2.1.below hbd) aD.t (HS.out.1.2.1.on hgr) HS.out.2.1 HS.out.2.2)
      have HD := Lib.hid hbd
      clear aD hgr hbd
      refine wp_region_noPanic ?_
      refine wp_region_held_drew (S := fun W => Below wr.heap.size wr W) (by kernel_rfl) HG.out (fun hH => ?_)
      refine wpAnyH_take (i := 0) (oi := { dst := some 87, op := Op.move (Operand.tmp 9), type := 26, pos := "law.go:186", after := #[], guard := none }) (v := ?_) rfl (by kernel_rfl) (by kernel_rfl) (by kernel_rfl) (fun _ _ _ h => h) (Or.inl ⟨by rfl, ?_⟩) (by exact hH) ?_
      rotate_left
      · intro W hSw
        go_simp
        try with_reducible rfl
      try simp only [Act.put, List.setIfInBounds_toArray, List.set_cons_zero, List.set_cons_succ]
      refine wpAnyH_take (i := 1) (oi := { dst := some 88, op := Op.move (Operand.tmp 15), type := 23, pos := "law.go:186", after := #[], guard := none }) (v := ?_) rfl (by kernel_rfl) (by kernel_rfl) (by kernel_rfl) (fun _ _ _ h => h) (Or.inl ⟨by rfl, ?_⟩) (by exact hH) ?_
      rotate_left
      · intro W hSw
        go_simp
        try with_reducible rfl
      try simp only [Act.put, List.setIfInBounds_toArray, List.set_cons_zero, List.set_cons_succ]
      refine wpAnyH_take (i := 2) (oi := { dst := some 89, op := Op.move (Operand.tmp 3), type := 23, pos := "law.go:186", after := #[], guard := none }) (v := ?_) rfl (by kernel_rfl) (by kernel_rfl) (by kernel_rfl) (fun _ _ _ h => h) (Or.inl ⟨by rfl, ?_⟩) (by exact hH) ?_
      rotate_left
      · intro W hSw
        go_simp
        try with_reducible rfl
      try simp only [Act.put, List.setIfInBounds_toArray, List.set_cons_zero, List.set_cons_succ]
      refine wpAnyH_take (i := 3) (oi := { dst := some 90, op := Op.move (Operand.tmp 18), type := 3, pos := "law.go:186", after := #[], guard := none }) (v := ?_) rfl (by kernel_rfl) (by kernel_rfl) (by kernel_rfl) (fun _ _ _ h => h) (Or.inl ⟨by rfl, ?_⟩) (by exact hH) ?_
      rotate_left
      · intro W hSw
        go_simp
        try with_reducible rfl
      try simp only [Act.put, List.setIfInBounds_toArray, List.set_cons_zero, List.set_cons_succ]
      refine wpAnyH_take (i := 4) (oi := { dst := some 91, op := Op.indexAddr 23 (Operand.tmp 89) (Operand.tmp 90), type := 0, pos := "law.go:186", after := #[{ on := 2, ground := Ground.data }, { on := 3, ground := Ground.data }], guard := none }) (v := ?_) rfl (by kernel_rfl) (by kernel_rfl) (by kernel_rfl) (fun _ _ _ h => h) (Or.inl ⟨by rfl, ?_⟩) (by exact hH) ?_
      rotate_left
      · intro W hSw
        go_simp
        try with_reducible rfl
      try simp only [Act.put, List.setIfInBounds_toArray, List.set_cons_zero, List.set_cons_succ]
      refine wpAnyH_take (i := 5) (oi := { dst := some 92, op := Op.load 3 (Operand.tmp 91), type := 3, pos := "law.go:186", after := #[{ on := 4, ground := Ground.data }], guard := none }) (v := ?_) rfl (by kernel_rfl) (by kernel_rfl) (by kernel_rfl) (fun _ _ _ h => h) (Or.inl ⟨by rfl, ?_⟩) (by exact hH) ?_
      rotate_left
      · intro W hSw
        have p : W.cell? ⟨bz, oz + i, none⟩ = some (.int .i64 zi) := (hSw.cell (p := ⟨bz, oz + i, none⟩) HP.out.2).trans HP.out.1
        go_simp
        try with_reducible rfl
      try simp only [Act.put, List.setIfInBounds_toArray, List.set_cons_zero, List.set_cons_succ]
      refine wpAnyH_take (i := 7) (oi := { dst := some 94, op := Op.move (Operand.tmp 11), type := 26, pos := "law.go:186", after := #[], guard := none }) (v := ?_) rfl (by kernel_rfl) (by kernel_rfl) (by kernel_rfl) (fun _ _ _ h => h) (Or.inl ⟨by rfl, ?_⟩) (by exact hH) ?_
      rotate_left
      · intro W hSw
        go_simp
        try with_reducible rfl
      try simp only [Act.put, List.setIfInBounds_toArray, List.set_cons_zero, List.set_cons_succ]
      refine wpAnyH_take (i := 8) (oi := { dst := some 95, op := Op.move (Operand.tmp 16), type := 23, pos := "law.go:186", after := #[], guard := none }) (v := ?_) rfl (by kernel_rfl) (by kernel_rfl) (by kernel_rfl) (fun _ _ _ h => h) (Or.inl ⟨by rfl, ?_⟩) (by exact hH) ?_
      rotate_left
      · intro W hSw
        go_simp
        try with_reducible rfl
      try simp only [Act.put, List.setIfInBounds_toArray, List.set_cons_zero, List.set_cons_succ]
      refine wpAnyH_take (i := 9) (oi := { dst := some 96, op := Op.move (Operand.tmp 3), type := 23, pos := "law.go:186", after := #[], guard := none }) (v := ?_) rfl (by kernel_rfl) (by kernel_rfl) (by kernel_rfl) (fun _ _ _ h => h) (Or.inl ⟨by rfl, ?_⟩) (by exact hH) ?_
      rotate_left
      · intro W hSw
        go_simp
        try with_reducible rfl
      try simp only [Act.put, List.setIfInBounds_toArray, List.set_cons_zero, List.set_cons_succ]
      refine wpAnyH_take (i := 10) (oi := { dst := some 97, op := Op.move (Operand.tmp 18), type := 3, pos := "law.go:186", after := #[], guard := none }) (v := ?_) rfl (by kernel_rfl) (by kernel_rfl) (by kernel_rfl) (fun _ _ _ h => h) (Or.inl ⟨by rfl, ?_⟩) (by exact hH) ?_
      rotate_left
      · intro W hSw
        go_simp
        try with_reducible rfl
      try simp only [Act.put, List.setIfInBounds_toArray, List.set_cons_zero, List.set_cons_succ]
      refine wpAnyH_take (i := 11) (oi := { dst := some 98, op := Op.indexAddr 23 (Operand.tmp 96) (Operand.tmp 97), type := 0, pos := "law.go:186", after := #[{ on := 9, ground := Ground.data }, { on := 10, ground := Ground.data }], guard := none }) (v := ?_) rfl (by kernel_rfl) (by kernel_rfl) (by kernel_rfl) (fun _ _ _ h => h) (Or.inl ⟨by rfl, ?_⟩) (by exact hH) ?_
      rotate_left
      · intro W hSw
        go_simp
        try with_reducible rfl
      try simp only [Act.put, List.setIfInBounds_toArray, List.set_cons_zero, List.set_cons_succ]
      refine wpAnyH_take (i := 12) (oi := { dst := some 99, op := Op.load 3 (Operand.tmp 98), type := 3, pos := "law.go:186", after := #[{ on := 11, ground := Ground.data }], guard := none }) (v := ?_) rfl (by kernel_rfl) (by kernel_rfl) (by kernel_rfl) (fun _ _ _ h => h) (Or.inl ⟨by rfl, ?_⟩) (by exact hH) ?_
      rotate_left
      · intro W hSw
        have p : W.cell? ⟨bz, oz + i, none⟩ = some (.int .i64 zi) := (hSw.cell (p := ⟨bz, oz + i, none⟩) HP.out.2).trans HP.out.1
        go_simp
        try with_reducible rfl
      try simp only [Act.put, List.setIfInBounds_toArray, List.set_cons_zero, List.set_cons_succ]
      refine wpAnyH_take (i := 14) (oi := { dst := some 101, op := Op.move (Operand.tmp 13), type := 26, pos := "law.go:186", after := #[], guard := none }) (v := ?_) rfl (by kernel_rfl) (by kernel_rfl) (by kernel_rfl) (fun _ _ _ h => h) (Or.inl ⟨by rfl, ?_⟩) (by exact hH) ?_
      rotate_left
      · intro W hSw
        go_simp
        try with_reducible rfl
      try simp only [Act.put, List.setIfInBounds_toArray, List.set_cons_zero, List.set_cons_succ]
      refine wpAnyH_take (i := 15) (oi := { dst := some 102, op := Op.move (Operand.tmp 17), type := 23, pos := "law.go:186", after := #[], guard := none }) (v := ?_) rfl (by kernel_rfl) (by kernel_rfl) (by kernel_rfl) (fun _ _ _ h => h) (Or.inl ⟨by rfl, ?_⟩) (by exact hH) ?_
      rotate_left
      · intro W hSw
        go_simp
        try with_reducible rfl
      try simp only [Act.put, List.setIfInBounds_toArray, List.set_cons_zero, List.set_cons_succ]
      refine wpAnyH_take (i := 16) (oi := { dst := some 103, op := Op.move (Operand.tmp 3), type := 23, pos := "law.go:186", after := #[], guard := none }) (v := ?_) rfl (by kernel_rfl) (by kernel_rfl) (by kernel_rfl) (fun _ _ _ h => h) (Or.inl ⟨by rfl, ?_⟩) (by exact hH) ?_
      rotate_left
      · intro W hSw
        go_simp
        try with_reducible rfl
      try simp only [Act.put, List.setIfInBounds_toArray, List.set_cons_zero, List.set_cons_succ]
      refine wpAnyH_take (i := 17) (oi := { dst := some 104, op := Op.move (Operand.tmp 18), type := 3, pos := "law.go:186", after := #[], guard := none }) (v := ?_) rfl (by kernel_rfl) (by kernel_rfl) (by kernel_rfl) (fun _ _ _ h => h) (Or.inl ⟨by rfl, ?_⟩) (by exact hH) ?_
      rotate_left
      · intro W hSw
        go_simp
        try with_reducible rfl
      try simp only [Act.put, List.setIfInBounds_toArray, List.set_cons_zero, List.set_cons_succ]
      refine wpAnyH_take (i := 18) (oi := { dst := some 105, op := Op.indexAddr 23 (Operand.tmp 103) (Operand.tmp 104), type := 0, pos := "law.go:186", after := #[{ on := 16, ground := Ground.data }, { on := 17, ground := Ground.data }], guard := none }) (v := ?_) rfl (by kernel_rfl) (by kernel_rfl) (by kernel_rfl) (fun _ _ _ h => h) (Or.inl ⟨by rfl, ?_⟩) (by exact hH) ?_
      rotate_left
      · intro W hSw
        go_simp
        try with_reducible rfl
      try simp only [Act.put, List.setIfInBounds_toArray, List.set_cons_zero, List.set_cons_succ]
      refine wpAnyH_take (i := 19) (oi := { dst := some 106, op := Op.load 3 (Operand.tmp 105), type := 3, pos := "law.go:186", after := #[{ on := 18, ground := Ground.data }], guard := none }) (v := ?_) rfl (by kernel_rfl) (by kernel_rfl) (by kernel_rfl) (fun _ _ _ h => h) (Or.inl ⟨by rfl, ?_⟩) (by exact hH) ?_
      rotate_left
      · intro W hSw
        have p : W.cell? ⟨bz, oz + i, none⟩ = some (.int .i64 zi) := (hSw.cell (p := ⟨bz, oz + i, none⟩) HP.out.2).trans HP.out.1
        go_simp
        try with_reducible rfl
      try simp only [Act.put, List.setIfInBounds_toArray, List.set_cons_zero, List.set_cons_succ]
      refine wpAnyH_ready (rs := [6]) (by kernel_rfl) (by simp) ?_
      refine (AllReadyH.cons (o := { dst := some 93, op := Op.call { callee := Callee.value (Operand.func 19), args := #[Operand.tmp 87, Operand.tmp 88, Operand.tmp 92], argTypes := #[26, 23, 3] }, type := 23, pos := "law.go:186", after := #[{ on := 0, ground := Ground.data }, { on := 1, ground := Ground.data }, { on := 5, ground := Ground.data }], guard := none }) rfl (fun K hK => ?_) AllReadyH.nil)
      go_simp
      go_at_call 19
      refine C1.out.mono ?_
      rintro r wA ⟨vA, rfl, hs, hb⟩
      have hb : Below wr.heap.size wr.drew wA := hb
      have bA : Below wr.heap.size wr wA := HG.out.trans (hb.mono HG.out.size)
      have bA17 : Below w17.heap.size w17 wA := HD.out.trans (hb.mono HD.out.size)
      have aA := H17.out.1.2.1.below bA17
      have C2 := Lib.hid (SetAt.step (H17.out.1.2.2.2.1.below bA17) aA.t (HS.out.1.2.2.1.on bA) HS.out.2.1 HS.out.2.2)
      have HA := Lib.hid (And.intro bA (And.intro bA17 hs))
      clear bA bA17 aA hs hb
      try go_wp2_with fail
      refine hK.out _ _ HA.out.1 (fun hH => ?_)
      clear hK K
      try simp only [Act.put, List.setIfInBounds_toArray, List.set_cons_zero, List.set_cons_succ]
      refine wpAnyH_ready (rs := [13]) (by kernel_rfl) (by simp) ?_
      refine (AllReadyH.cons (o := { dst := some 100, op := Op.call { callee := Callee.value (Operand.func 19), args := #[Operand.tmp 94, Operand.tmp 95, Operand.tmp 99], argTypes := #[26, 23, 3] }, type := 23, pos := "law.go:186", after := #[{ on := 7, ground := Ground.data }, { on := 8, ground := Ground.data }, { on := 12, ground := Ground.data }, { on := 6, ground := Ground.chain }], guard := none }) rfl (fun K hK => ?_) AllReadyH.nil)
      go_simp
      go_at_call 19
      refine C2.out.mono ?_
      rintro r wB ⟨vB, rfl, hs, hb⟩
      have bB : Below wr.heap.size wr wB := HA.out.1.trans (hb.mono HA.out.1.size)
      have bB17 : Below w17.heap.size w17 wB := HA.out.2.1.trans (hb.mono HA.out.2.1.size)
      have aB := H17.out.1.2.1.below bB17
      have C3 := Lib.hid (SetAt.step (H17.out.1.2.2.2.2.below bB17) aB.t (HS.out.1.2.2.2.on bB) HS.out.2.1 HS.out.2.2)
      have HB2 := Lib.hid (And.intro bB (And.intro bB17 (And.intro (HA.out.2.2.on hb) hs)))
      clear bB bB17 aB hs hb
      try go_wp2_with fail
      refine hK.out _ _ HB2.out.1 (fun hH => ?_)
      clear hK K
      try simp only [Act.put, List.setIfInBounds_toArray, List.set_cons_zero, List.set_cons_succ]
      refine wpAnyH_ready (rs := [20]) (by kernel_rfl) (by simp) ?_
      refine (AllReadyH.cons (o := { dst := some 107, op := Op.call { callee := Callee.value (Operand.func 19), args := #[Operand.tmp 101, Operand.tmp 102, Operand.tmp 106], argTypes := #[26, 23, 3] }, type := 23, pos := "law.go:186", after := #[{ on := 14, ground := Ground.data }, { on := 15, ground := Ground.data }, { on := 19, ground := Ground.data }, { on := 13, ground := Ground.chain }], guard := none }) rfl (fun K hK => ?_) AllReadyH.nil)
      go_simp
      go_at_call 19
      refine C3.out.mono ?_
      rintro r wC ⟨vC, rfl, hs, hb⟩
      have bC : Below wr.heap.size wr wC := HB2.out.1.trans (hb.mono HB2.out.1.size)
      have bC17 : Below w17.heap.size w17 wC := HB2.out.2.1.trans (hb.mono HB2.out.2.1.size)
      have HC2 := Lib.hid (And.intro bC (And.intro bC17 (And.intro (HB2.out.2.2.1.on hb) (And.intro (HB2.out.2.2.2.on hb) hs))))
      clear bC bC17 hs hb
      try go_wp2_with fail
      refine hK.out _ _ HC2.out.1 (fun hH => ?_)
      clear hK K
      try simp only [Act.put, List.setIfInBounds_toArray, List.set_cons_zero, List.set_cons_succ]
      refine wpAnyH_take (i := 21) (oi := { dst := some 15, op := Op.assign (Operand.tmp 93), type := 23, pos := "law.go:186", after := #[{ on := 6, ground := Ground.data }, { on := 20, ground := Ground.chain }, { on := 0, ground := Ground.phase }, { on := 1, ground := Ground.phase }, { on := 2, ground := Ground.phase }, { on := 3, ground := Ground.phase }, { on := 4, ground := Ground.phase }, { on := 5, ground := Ground.phase }, { on := 6, ground := Ground.phase }, { on := 7, ground := Ground.textOnly Departure.lateStores }, { on := 8, ground := Ground.textOnly Departure.lateStores }, { on := 9, ground := Ground.textOnly Departure.lateStores }, { on := 10, ground := Ground.textOnly Departure.lateStores }, { on := 11, ground := Ground.textOnly Departure.lateStores }, { on := 12, ground := Ground.textOnly Departure.lateStores }, { on := 13, ground := Ground.textOnly Departure.lateStoresUnsure }, { on := 14, ground := Ground.textOnly Departure.lateStores }, { on := 15, ground := Ground.textOnly Departure.lateStores }, { on := 16, ground := Ground.textOnly Departure.lateStores }, { on := 17, ground := Ground.textOnly Departure.lateStores }, { on := 18, ground := Ground.textOnly Departure.lateStores }, { on := 19, ground := Ground.textOnly Departure.lateStores }, { on := 20, ground := Ground.textOnly Departure.lateStoresUnsure }], guard := none }) (v := ?_) rfl (by kernel_rfl) (by kernel_rfl) (by kernel_rfl) (fun _ _ _ h => h) (Or.inl ⟨by rfl, ?_⟩) (by exact hH) ?_
      rotate_left
      · intro W hSw
        go_simp
        try with_reducible rfl
      try simp only [Act.put, List.setIfInBounds_toArray, List.set_cons_zero, List.set_cons_succ]
      refine wpAnyH_take (i := 22) (oi := { dst := some 16, op := Op.assign (Operand.tmp 100), type := 23, pos := "law.go:186", after := #[{ on := 13, ground := Ground.data }, { on := 21, ground := Ground.chain }, { on := 0, ground := Ground.phase }, { on := 1, ground := Ground.phase }, { on := 2, ground := Ground.phase }, { on := 3, ground := Ground.phase }, { on := 4, ground := Ground.phase }, { on := 5, ground := Ground.phase }, { on := 6, ground := Ground.phase }, { on := 7, ground := Ground.phase }, { on := 8, ground := Ground.phase }, { on := 9, ground := Ground.phase }, { on := 10, ground := Ground.phase }, { on := 11, ground := Ground.phase }, { on := 12, ground := Ground.phase }, { on := 13, ground := Ground.phase }, { on := 14, ground := Ground.textOnly Departure.lateStores }, { on := 15, ground := Ground.textOnly Departure.lateStores }, { on := 16, ground := Ground.textOnly Departure.lateStores }, { on := 17, ground := Ground.textOnly Departure.lateStores }, { on := 18, ground := Ground.textOnly Departure.lateStores }, { on := 19, ground := Ground.textOnly Departure.lateStores }, { on := 20, ground := Ground.textOnly Departure.lateStoresUnsure }, { on := 21, ground := Ground.phase }], guard := none }) (v := ?_) rfl (by kernel_rfl) (by kernel_rfl) (by kernel_rfl) (fun _ _ _ h => h) (Or.inl ⟨by rfl, ?_⟩) (by exact hH) ?_
      rotate_left
      · intro W hSw
        go_simp
        try with_reducible rfl
      try simp only [Act.put, List.setIfInBounds_toArray, List.set_cons_zero, List.set_cons_succ]
      refine wpAnyH_take (i := 23) (oi := { dst := some 17, op := Op.assign (Operand.tmp 107), type := 23, pos := "law.go:186", after := #[{ on := 20, ground := Ground.data }, { on := 22, ground := Ground.chain }, { on := 0, ground := Ground.phase }, { on := 1, ground := Ground.phase }, { on := 2, ground := Ground.phase }, { on := 3, ground := Ground.phase }, { on := 4, ground := Ground.phase }, { on := 5, ground := Ground.phase }, { on := 6, ground := Ground.phase }, { on := 7, ground := Ground.phase }, { on := 8, ground := Ground.phase }, { on := 9, ground := Ground.phase }, { on := 10, ground := Ground.phase }, { on := 11, ground := Ground.phase }, { on := 12, ground := Ground.phase }, { on := 13, ground := Ground.phase }, { on := 14, ground := Ground.phase }, { on := 15, ground := Ground.phase }, { on := 16, ground := Ground.phase }, { on := 17, ground := Ground.phase }, { on := 18, ground := Ground.phase }, { on := 19, ground := Ground.phase }, { on := 20, ground := Ground.phase }, { on := 21, ground := Ground.phase }, { on := 22, ground := Ground.phase }], guard := none }) (v := ?_) rfl (by kernel_rfl) (by kernel_rfl) (by kernel_rfl) (fun _ _ _ h => h) (Or.inl ⟨by rfl, ?_⟩) (by exact hH) ?_
      rotate_left
      · intro W hSw
        go_simp
        try with_reducible rfl
      try simp only [Act.put, List.setIfInBounds_toArray, List.set_cons_zero, List.set_cons_succ]
      refine wpAnyH_done (by kernel_rfl) ?_ _
      refine NoPanic.normal ?_
      go_wp2_with fail
      go_roundw
      case rel => exact ⟨i + 1, by go_num, by omega, HC2.out.2.1, HC2.out.2.2.1, HC2.out.2.2.2.1, HC2.out.2.2.2.2⟩
      case measure => simp [RowKit.intOf]; omega
    · obtain rfl : i = nz := by omega
      have j1 : ¬ (i : Int) < (i : Int) := by omega
      have ht : zs.take i = zs := by rw [← HNZ.out, List.take_length]
      have T3 := SetAt.tells (H17.out.1.2.2.2.2.below hbr) hz
      have T1 := SetAt.tells (H17.out.1.2.2.1.below hbr) hx
      have T2 := SetAt.tells (H17.out.1.2.2.2.1.below hbr) hy
      have K3 := count_nfa (H17.out.1.2.2.2.2.below hbr)
      have K1 := count_nfa (H17.out.1.2.2.1.below hbr)
      have K2 := count_nfa (H17.out.1.2.2.2.1.below hbr)
      rw [ht] at T1 T2 T3
      have BF := bfact se l m zs HB.out.2.2.2.1 HB.out.2.2.2.2 (Nat.le_trans (lv_le_sz l) H80.out) (Nat.le_trans (lv_le_sz m) HB.out.1)
      have HF := H17.out.1.1.trans (hbr.mono H17.out.1.1.size)
      obtain ⟨f1, f2, f3, f4, f5, f6⟩ := BF
      rw [HNL.out] at f1 f3
      rw [HNM.out] at f4
      generalize tellsU (mkN (l ++ m)) (runI se (mkN (l ++ m)) zs) = t3 at *
      generalize tellsU (mkN l) (runI se (mkN l) zs) = t1 at *
      generalize tellsU (mkN m) (runI se (mkN m) zs) = t2 at *
      generalize (mkN (l ++ m)).count = k3 at *
      generalize (mkN l).count = k1 at *
      generalize (mkN m).count = k2 at *
      have T1 := Lib.hid T1
      have T2 := Lib.hid T2
      have T3 := Lib.hid T3
      have K1 := Lib.hid K1
      have K2 := Lib.hid K2
      have K3 := Lib.hid K3
      have HF := Lib.hid (And.intro HF (And.intro f1 (And.intro f2 (And.intro f3 (And.intro f4 (And.intro f5 f6))))))
      clear hx hy hz hbr f1 f2 f3 f4 f5 f6 ht
      have q1e : ((t3 : Nat) : Int) = bits .or .u64 (t1 : Int) (IntKind.u64.wrap ((t2 : Int) * 2 ^ nl)) := by rw [sh_or HF.out.2.2.2.1 HF.out.2.2.2.2.1 (by have := HB.out.2.1; rw [HNL.out, HNM.out] at this; exact this), HF.out.2.1]
      have q1d := decide_eq_true q1e
      have bk : k1 ≤ 100 ∧ k2 ≤ 100 ∧ k3 + 1 = k1 + k2 := ⟨HF.out.2.2.2.2.2.1, HF.out.2.2.2.2.2.2, HF.out.2.2.1⟩
      have hw1 : wrap64 ((k1 : Int) + (k2 : Int)) = (k1 : Int) + (k2 : Int) := by unfold wrap64; omega
      have hw2 : wrap64 ((k1 : Int) + (k2 : Int) - 1) = (k1 : Int) + (k2 : Int) - 1 := by unfold wrap64; omega
      have q2e : (k3 : Int) = (k1 : Int) + (k2 : Int) - 1 := by omega
      have q2d := decide_eq_true q2e
      clear bk
      go_wp2_with fail
      refine T3.out.mono ?_
      rintro r w20 ⟨rfl, e20⟩
      subst e20
      go_wp2_with fail
      refine T1.out.mono ?_
      rintro r w20 ⟨rfl, e20⟩
      subst e20
      go_wp2_with fail
      refine T2.out.mono ?_
      rintro r w20 ⟨rfl, e20⟩
      subst e20
      go_wp2_with fail
      refine K3.out.mono ?_
      rintro r w20 ⟨rfl, e20⟩
      subst e20
      go_wp2_with fail
      refine K1.out.mono ?_
      rintro r w20 ⟨rfl, e20⟩
      subst e20
      go_wp2_with fail
      refine K2.out.mono ?_
      rintro r w20 ⟨rfl, e20⟩
      subst e20
      go_wp2_with fail
      go_ret
      exact ⟨rfl, HF.out.1⟩
end Go.Proofs.YtlbcicoppglgjaaDoor
