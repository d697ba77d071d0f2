/-
  SqueezeOwn with what the row gives.
-/
import Derived.BigRegion
import Derived.Deep.RegionHeld3
import Derived.Test.YtmldgfplnacecaaDoorSoh
namespace Go.Proofs.YtmldgfplnacecaaDoor
open Go.RowKit Go.Shelf Go.Lib Go.Maps Go.Sort

set_option maxHeartbeats 16000000 in
set_option maxRecDepth 100000 in
theorem sown_any {R : List (List Int)} {T : List Nat} {v : Value} (w : World) (h : TbV w R T v) (hP : PW w) : Calls Tryd.prog 10 #[v] w fun r w' => r = .returned (.bool true) ∧ Below w.heap.size w w' := by
  obtain ⟨A1, c1, A2, c2, rfl, hR, hT⟩ := h
  obtain ⟨n1, hn1⟩ : ∃ n, R.length = n := ⟨_, rfl⟩
  obtain ⟨n2, hn2⟩ : ∃ n, T.length = n := ⟨_, rfl⟩
  obtain ⟨W0, hW0⟩ : ∃ W, w.alloc (.cells #[.slice A1 n1 c1, .slice A2 n2 c2] 57) = W := ⟨_, rfl⟩
  have b0 : Below w.heap.size w W0 := by rw [← hW0]; exact below_new _ _
  have x0 : Cells W0 w.heap.size 57 #[.slice A1 n1 c1, .slice A2 n2 c2] := by rw [← hW0]; exact cells_new _ _ _
  have KW : ∀ W, Below w.heap.size w W → Calls Tryd.prog 30 #[] W fun r w' => r = .returned (.bool true) ∧ Below W.heap.size W w' := fun W hW => awake_any W (hP.below hW hP.lt)
  have KT : ∀ W, Below w.heap.size w W → TbV W R T (.agg #[.slice A1 n1 c1, .slice A2 n2 c2]) := fun W hW => ⟨A1, c1, A2, c2, by rw [hn1, hn2], (hR.below hW).mono hW.size, (hT.below hW).mono hW.size⟩
  have KP : ∀ W, Below w.heap.size w W → PW W := fun W hW => hP.below hW hP.lt
  have e0 := x0.cell 0
  have e1 := x0.cell 1
  simp at e0 e1
  have HKW := Lib.hid KW
  have HK := Lib.hid (And.intro KT (And.intro KP hT))
  have HN := Lib.hid (And.intro hn1 hn2)
  have H := Lib.hid (And.intro b0 x0)
  have HW := Lib.hid hW0
  have D := great_tab (KT W0 b0)
  have HD := Lib.hid D
  rw [hn1, hn2]
  clear KW KT KP hn1 hn2 b0 x0 hW0 hR hT hP D
  go_enter Tryd.func10, Tryd.ntmps10
  go_wp2_with fail
  rw [HW.out]
  refine HD.out.mono ?_
  rintro r w2 ⟨rfl, hb2⟩
  have b2 : Below w.heap.size w w2 := H.out.1.trans (hb2.mono H.out.1.size)
  have x2 := H.out.2.on hb2
  clear e0 e1
  cases hg : greatT R T with
  | true =>
    have HC := Lib.hid (And.intro (HKW.out w2 b2) b2)
    clear hg hb2 b2 x2
    go_wp2_with fail
    refine HC.out.1.mono ?_
    rintro r w3 ⟨rfl, hb3⟩
    have HB := Lib.hid (HC.out.2.trans (hb3.mono HC.out.2.size))
    clear hb3
    go_wp2_with fail
    go_ret
    exact ⟨rfl, HB.out⟩
  | false =>
  have HC := Lib.hid (And.intro (HKW.out w2 b2) (And.intro b2 x2))
  clear hg hb2 b2 x2
  go_wp2_with fail
  refine HC.out.1.mono ?_
  rintro r w3 ⟨rfl, hb3⟩
  have b3 := HC.out.2.1.trans (hb3.mono HC.out.2.1.size)
  have x3 := HC.out.2.2.on hb3
  have e0 := x3.cell 0
  have e1 := x3.cell 1
  simp at e0 e1
  have D := to_tab A1 A2 n1 c1 n2 c2 w3
  have HD3 := Lib.hid (And.intro D b3)
  clear D b3 x3 hb3
  go_wp2_with fail
  refine HD3.out.1.mono ?_
  rintro r w4 ⟨rfl, hb4⟩
  have bw := HD3.out.2.trans (hb4.mono HD3.out.2.size)
  have al := below_new w4 (.cells #[.slice A1 n1 c1, .slice A2 n2 c2] 54)
  have hp := cells_new w4 #[.slice A1 n1 c1, .slice A2 n2 c2] 54
  have bal := bw.trans (al.mono bw.size)
  have D := rightD_any (HK.out.1 _ bal)
  clear e0 e1
  have p0 := hp.cell 0
  have p1 := hp.cell 1
  simp at p0 p1
  have HD4 := Lib.hid (And.intro D (And.intro bal hp))
  clear D bal hp al bw hb4
  go_wp2_with fail
  refine HD4.out.1.mono ?_
  rintro r w5 ⟨rfl, hb5⟩
  have bw := HD4.out.2.1.trans (hb5.mono HD4.out.2.1.size)
  have hp := HD4.out.2.2.on hb5
  clear p0 p1
  cases hr1 : rightT R T with
  | false =>
    have HB := Lib.hid bw
    clear bw hp hb5 hr1
    go_wp2_with fail
    go_ret
    exact ⟨rfl, HB.out⟩
  | true =>
  obtain ⟨bx, hbx⟩ : ∃ b, w4.heap.size = b := ⟨_, rfl⟩
  rw [hbx] at hp ⊢
  have p0 := hp.cell 0
  have p1 := hp.cell 1
  simp at p0 p1
  have al := below_new w5 (.cells #[.slice A1 n1 c1, .slice A2 n2 c2] 54)
  have cn := cells_new w5 #[.slice A1 n1 c1, .slice A2 n2 c2] 54
  have bal := bw.trans (al.mono bw.size)
  have C := groups_any [(R, T)] (some ⟨w5.heap.size, 0, none⟩) 1 _ (ds_one cn (HK.out.1 _ bal)) (by simp) (by simp) (HK.out.2.1 _ bal)
  have hok := grpOk_all [(R, T)]
  have hf1 := groups_fit [(R, T)] (t := (R, T)) (by simp) hr1
  obtain ⟨G, hG⟩ : ∃ G, groupsL [(R, T)] = G := ⟨_, rfl⟩
  rw [hG] at C hok hf1
  have C : Calls Tryd.prog 33 #[.slice (some ⟨w5.heap.size, 0, none⟩) 1 1] _ _ := C
  have hmz := hok.many.2
  have hps := many_parts hmz
  have hgi : ∀ x ∈ G, i64 x := fun x hx => by have := hps.2.1 x hx; have := hps.2.2.2; unfold i64; omega
  obtain ⟨x0, hx0⟩ := list_at (xs := G) (i := 0) (by rw [hok.l]; omega)
  obtain rfl : x0 = 0 := by have := hok.z; rw [getD_get hx0] at this; exact this
  have hrp := right_parts hr1
  obtain ⟨y0, hy0⟩ : ∃ y, T[0]? = some y := ⟨T[0]'(by omega), List.getElem?_eq_getElem _⟩
  obtain ⟨rr, hrr⟩ : ∃ r, R[0]? = some r := ⟨R[0]'(by omega), List.getElem?_eq_getElem _⟩
  have hN0 : (narR R G)[0]? = some (narL rr G (manyL G).toNat) := by unfold narR; rw [List.getElem?_map, hrr]; rfl
  have hNl : (narL rr G (manyL G).toNat).length = (manyL G).toNat := setL_len _ _ _ _
  have hNi := narL_in (g := G) hr1 (List.mem_of_getElem? hrr)
  obtain ⟨L, hL⟩ : ∃ L, narL rr G (manyL G).toNat = L := ⟨_, rfl⟩
  rw [hL] at hN0 hNl hNi
  obtain ⟨z0, hz0⟩ := list_at (xs := L) (i := 0) (by rw [hNl]; omega)
  have hzb := hNi z0 (List.mem_of_getElem? hz0)
  have hy64 : y0 < 18446744073709551616 := HK.out.2.2.i y0 (List.mem_of_getElem? hy0)
  obtain ⟨bT, oT, rfl, hbT, hcT⟩ := HK.out.2.2.r (by rintro rfl; simp at hy0)
  have hT0 := hcT 0 y0 hy0
  have hl1 : 1 ≤ n1 ∧ n1 ≤ 1000 ∧ 1 ≤ n2 := by have := HN.out.1; have := HN.out.2; omega
  rw [HN.out.1] at hzb
  have HC5 := Lib.hid (And.intro C (And.intro bal (hp.on al)))
  have HG := Lib.hid (And.intro hok (And.intro hmz (And.intro hf1 (And.intro hgi (And.intro hx0 (And.intro hy0 (And.intro hN0 (And.intro hz0 (And.intro hbT hT0)))))))))
  have HR1 := Lib.hid hr1
  clear C bal al cn bw hp hb5 hr1 hG hok hf1 hmz hps hgi hx0 hy0 hN0 hNl hNi hz0 hT0 hcT hbT hL hrr hrp hbx
  go_wp2_with fail
  refine HC5.out.1.mono ?_
  rintro r w6 ⟨hb6, v7, rfl, gb, rfl, _, hg⟩
  have bw := HC5.out.2.1.trans (hb6.mono HC5.out.2.1.size)
  have hp := HC5.out.2.2.on hb6
  clear p0 p1
  have p0 := hp.cell 0
  have p1 := hp.cell 1
  simp at p0 p1
  have C := make_own G (some ⟨gb, 0, none⟩) G.length (cells_is hg (by rw [HG.out.1.l]; omega) HG.out.2.2.2.1) (HK.out.1 w6 bw) HG.out.2.1 HR1.out HG.out.2.2.1
  rw [HG.out.1.l] at C ⊢
  have HC6 := Lib.hid (And.intro C (And.intro bw (And.intro hp hg)))
  clear C bw hp hg hb6
  go_wp2_with fail
  refine HC6.out.1.mono ?_
  rintro r w7 ⟨hb7, v', rfl, hn7⟩
  obtain ⟨g0, k0, cur0, bN, kN, curN, b2, k2, cur2, q, rfl, lg0, lb2, lq, cg0, cbN, cb2, cq, f0, fN, f2⟩ := nar_parts hn7 HG.out.2.2.2.2.1 HG.out.2.2.2.2.2.1 HG.out.2.2.2.2.2.2.1
  have bw := HC6.out.2.1.trans (hb7.mono HC6.out.2.1.size)
  have hp := HC6.out.2.2.1.on hb7
  rw [HG.out.1.l, narR_len, HN.out.1, HN.out.2]
  have al := below_new w7 (.cells #[.slice (some ⟨g0, 0, none⟩) 37 k0, .slice (some ⟨bN, 0, none⟩) n1 kN, .slice (some ⟨b2, 0, none⟩) n2 k2] 70)
  have y7 := cells_new w7 #[.slice (some ⟨g0, 0, none⟩) 37 k0, .slice (some ⟨bN, 0, none⟩) n1 kN, .slice (some ⟨b2, 0, none⟩) n2 k2] 70
  have bal := bw.trans (al.mono bw.size)
  have hp8 := hp.on al
  obtain ⟨W8, hW8⟩ : ∃ W, w7.alloc (.cells #[.slice (some ⟨g0, 0, none⟩) 37 k0, .slice (some ⟨bN, 0, none⟩) n1 kN, .slice (some ⟨b2, 0, none⟩) n2 k2] 70) = W := ⟨_, rfl⟩
  obtain ⟨pn, hpn⟩ : ∃ b, w7.heap.size = b := ⟨_, rfl⟩
  have b68 : Below w6.heap.size w6 W8 := by rw [← hW8]; exact hb7.trans (al.mono hb7.size)
  have cg8 := cg0.on al
  have cN8 := cbN.on al
  have c28 := cb2.on al
  have cq8 := cq.on al
  rw [hW8] at y7 bal hp8 cg8 cN8 c28 cq8
  rw [hpn] at y7
  clear p0 p1
  have p0 := hp8.cell 0
  have p1 := hp8.cell 1
  have t0 := y7.cell 0
  have t1 := y7.cell 1
  have t2 := y7.cell 2
  have d0 := (bal.cell (p := ⟨bT, oT + 0, none⟩) HG.out.2.2.2.2.2.2.2.2.1).trans HG.out.2.2.2.2.2.2.2.2.2
  simp at p0 p1 t0 t1 t2 d0
  have i1 : (0 : Int) < (n1 : Int) := by omega
  have k1 : 0 < n1 := by omega
  have k2' : 0 < n2 := by omega
  have i2 : (0 : Int) < (n2 : Int) := by omega
  have i3 : ((n1 : Int) != (n1 : Int)) = false := by simp
  have i4 : ((n2 : Int) != (n2 : Int)) = false := by simp
  have HW8 := Lib.hid (And.intro hW8 hpn)
  have HC8 := Lib.hid (And.intro bal (And.intro hp8 (And.intro y7 (And.intro cg8 (And.intro cN8 (And.intro c28 (And.intro cq8 (And.intro f0 (And.intro fN (And.intro f2 (And.intro lg0 (And.intro lb2 (And.intro lq b68)))))))))))))
  clear bal hp8 y7 cg8 cN8 c28 cq8 f0 fN f2 cg0 cbN cb2 cq al bw hp hn7 hb7 hW8 hpn lg0 lb2 lq b68
  go_upto_region 8 with fail
  rw [HW8.out.1, HW8.out.2]
  go_upto_region 11 with fail
  obtain ⟨ml, hml⟩ : ∃ n, L.length = n := ⟨_, rfl⟩
  have hml0 : 0 < ml := by rw [← hml]; exact (List.getElem?_eq_some_iff.1 HG.out.2.2.2.2.2.2.2.1).1
  have i5 : (0 : Int) < (ml : Int) := by omega
  have fN := HC8.out.2.2.2.2.2.2.2.2.1
  rw [hml] at fN
  have HF := Lib.hid (And.intro fN hml)
  have hS0 : Below w6.heap.size w6 W8.drew ∧ Cells W8.drew pn 70 #[.slice (some ⟨g0, 0, none⟩) 37 k0, .slice (some ⟨bN, 0, none⟩) n1 kN, .slice (some ⟨b2, 0, none⟩) n2 k2] ∧ Cells W8.drew bN 23 curN := ⟨HC8.out.2.2.2.2.2.2.2.2.2.2.2.2.2.drew, HC8.out.2.2.1, HC8.out.2.2.2.2.1⟩
  have HS0 := Lib.hid hS0
  obtain ⟨wd, hwd⟩ : ∃ W, W8.drew = W := ⟨_, rfl⟩
  have HWD := Lib.hid hwd
  have cg : Cells wd g0 3 cur0 := by rw [← hwd]; exact HC8.out.2.2.2.1
  have ct : Cells wd b2 37 cur2 := by rw [← hwd]; exact HC8.out.2.2.2.2.2.1
  have cq : Cells wd q 3 (intsC L).toArray := by rw [← hwd]; exact HC8.out.2.2.2.2.2.2.1
  rw [hwd] at hS0
  have HSd := Lib.hid hS0
  have HX := Lib.hid (And.intro cg (And.intro ct cq))
  clear hS0 cg ct cq hwd fN hml p0 p1 t0 t1 t2 d0
  refine wp_region_noPanic ?_
  refine wp_region_held_drew (S := fun W => Below w6.heap.size w6 W ∧ Cells W pn 70 #[.slice (some ⟨g0, 0, none⟩) 37 k0, .slice (some ⟨bN, 0, none⟩) n1 kN, .slice (some ⟨b2, 0, none⟩) n2 k2] ∧ Cells W bN 23 curN) (by kernel_rfl) HS0.out (fun hH => ?_)
  rw [HWD.out]
  have hH := HSd.out
  refine wpAnyH_take (i := 0) (oi := { dst := some 57, op := Op.fieldAddr 70 (Operand.tmp 5) 0, type := 0, pos := "law.go:130", after := #[], guard := none }) (v := ?_) rfl (by kernel_rfl) (by kernel_rfl) (by kernel_rfl) (fun _ _ _ h => h) (Or.inl ⟨by rfl, ?_⟩) (by exact hH) ?_
  rotate_left
  · intro W hSw
    go_simp
    try with_reducible rfl
  try simp only [Act.put, List.setIfInBounds_toArray, List.set_cons_zero, List.set_cons_succ]
  refine wpAnyH_take (i := 1) (oi := { dst := some 58, op := Op.load 23 (Operand.tmp 57), type := 23, pos := "law.go:130", after := #[{ on := 0, ground := Ground.data }], guard := none }) (v := ?_) rfl (by kernel_rfl) (by kernel_rfl) (by kernel_rfl) (fun _ _ _ h => h) (Or.inl ⟨by rfl, ?_⟩) (by exact hH) ?_
  rotate_left
  · intro W hSw
    have p := hSw.2.1.cell 0
    simp at p
    go_simp
    try with_reducible rfl
  try simp only [Act.put, List.setIfInBounds_toArray, List.set_cons_zero, List.set_cons_succ]
  refine wpAnyH_take (i := 2) (oi := { dst := some 59, op := Op.fieldAddr 70 (Operand.tmp 5) 2, type := 0, pos := "law.go:130", after := #[{ on := 11, ground := Ground.gcOnly Departure.lateStores }], guard := none }) (v := ?_) rfl (by kernel_rfl) (by kernel_rfl) (by kernel_rfl) (fun _ _ _ h => h) (Or.inl ⟨by rfl, ?_⟩) (by exact hH) ?_
  rotate_left
  · intro W hSw
    go_simp
    try with_reducible rfl
  try simp only [Act.put, List.setIfInBounds_toArray, List.set_cons_zero, List.set_cons_succ]
  refine wpAnyH_take (i := 3) (oi := { dst := some 60, op := Op.load 52 (Operand.tmp 59), type := 52, pos := "law.go:130", after := #[{ on := 2, ground := Ground.data }, { on := 11, ground := Ground.gcOnly Departure.lateStores }], guard := none }) (v := ?_) rfl (by kernel_rfl) (by kernel_rfl) (by kernel_rfl) (fun _ _ _ h => h) (Or.inl ⟨by rfl, ?_⟩) (by exact hH) ?_
  rotate_left
  · intro W hSw
    have p := hSw.2.1.cell 2
    simp at p
    go_simp
    try with_reducible rfl
  try simp only [Act.put, List.setIfInBounds_toArray, List.set_cons_zero, List.set_cons_succ]
  refine wpAnyH_take (i := 4) (oi := { dst := some 61, op := Op.fieldAddr 70 (Operand.tmp 5) 1, type := 0, pos := "law.go:130", after := #[], guard := none }) (v := ?_) rfl (by kernel_rfl) (by kernel_rfl) (by kernel_rfl) (fun _ _ _ h => h) (Or.inl ⟨by rfl, ?_⟩) (by exact hH) ?_
  rotate_left
  · intro W hSw
    go_simp
    try with_reducible rfl
  try simp only [Act.put, List.setIfInBounds_toArray, List.set_cons_zero, List.set_cons_succ]
  refine wpAnyH_take (i := 5) (oi := { dst := some 62, op := Op.load 51 (Operand.tmp 61), type := 51, pos := "law.go:130", after := #[{ on := 4, ground := Ground.data }], guard := none }) (v := ?_) rfl (by kernel_rfl) (by kernel_rfl) (by kernel_rfl) (fun _ _ _ h => h) (Or.inl ⟨by rfl, ?_⟩) (by exact hH) ?_
  rotate_left
  · intro W hSw
    have p := hSw.2.1.cell 1
    simp at p
    go_simp
    try with_reducible rfl
  try simp only [Act.put, List.setIfInBounds_toArray, List.set_cons_zero, List.set_cons_succ]
  refine wpAnyH_take (i := 6) (oi := { dst := some 63, op := Op.indexAddr 51 (Operand.tmp 62) (Operand.const (Value.int IntKind.i64 0)), type := 0, pos := "law.go:130", after := #[{ on := 5, ground := Ground.data }], guard := none }) (v := ?_) rfl (by kernel_rfl) (by kernel_rfl) (by kernel_rfl) (fun _ _ _ h => h) (Or.inl ⟨by rfl, ?_⟩) (by exact hH) ?_
  rotate_left
  · intro W hSw
    go_simp
    try with_reducible rfl
  try simp only [Act.put, List.setIfInBounds_toArray, List.set_cons_zero, List.set_cons_succ]
  refine wpAnyH_take (i := 7) (oi := { dst := some 64, op := Op.load 23 (Operand.tmp 63), type := 23, pos := "law.go:130", after := #[{ on := 6, ground := Ground.data }], guard := none }) (v := ?_) rfl (by kernel_rfl) (by kernel_rfl) (by kernel_rfl) (fun _ _ _ h => h) (Or.inl ⟨by rfl, ?_⟩) (by exact hH) ?_
  rotate_left
  · intro W hSw
    have p := hSw.2.2.cell 0
    rw [HF.out.1] at p
    go_simp
    try with_reducible rfl
  try simp only [Act.put, List.setIfInBounds_toArray, List.set_cons_zero, List.set_cons_succ]
  refine wpAnyH_take (i := 8) (oi := { dst := some 65, op := Op.move (Operand.tmp 7), type := 37, pos := "law.go:130", after := #[{ on := 11, ground := Ground.gcOnly Departure.lateStores }], guard := none }) (v := ?_) rfl (by kernel_rfl) (by kernel_rfl) (by kernel_rfl) (fun _ _ _ h => h) (Or.inl ⟨by rfl, ?_⟩) (by exact hH) ?_
  rotate_left
  · intro W hSw
    go_simp
    try with_reducible rfl
  try simp only [Act.put, List.setIfInBounds_toArray, List.set_cons_zero, List.set_cons_succ]
  refine wpAnyH_take (i := 9) (oi := { dst := some 66, op := Op.binOp BinOp.add 37 (Operand.tmp 65) (Operand.const (Value.int IntKind.u64 1)) 37, type := 37, pos := "law.go:130", after := #[{ on := 8, ground := Ground.data }, { on := 11, ground := Ground.gcOnly Departure.lateStores }], guard := none }) (v := ?_) rfl (by kernel_rfl) (by kernel_rfl) (by kernel_rfl) (fun _ _ _ h => h) (Or.inl ⟨by rfl, ?_⟩) (by exact hH) ?_
  rotate_left
  · intro W hSw
    go_simp
    try with_reducible rfl
  try simp only [Act.put, List.setIfInBounds_toArray, List.set_cons_zero, List.set_cons_succ]
  refine wpAnyH_take (i := 10) (oi := { dst := some 67, op := Op.indexAddr 23 (Operand.tmp 58) (Operand.const (Value.int IntKind.i64 0)), type := 0, pos := "law.go:130", after := #[{ on := 1, ground := Ground.data }, { on := 0, ground := Ground.phase }, { on := 1, ground := Ground.phase }, { on := 2, ground := Ground.textOnly Departure.lateStores }, { on := 3, ground := Ground.textOnly Departure.lateStores }, { on := 4, ground := Ground.textOnly Departure.lateStores }, { on := 5, ground := Ground.textOnly Departure.lateStores }, { on := 6, ground := Ground.textOnly Departure.lateStoresUnsure }, { on := 7, ground := Ground.phase }, { on := 8, ground := Ground.textOnly Departure.lateStores }, { on := 9, ground := Ground.textOnly Departure.lateStores }], guard := none }) (v := ?_) rfl (by kernel_rfl) (by kernel_rfl) (by kernel_rfl) (fun _ _ _ h => h) (Or.inl ⟨by rfl, ?_⟩) (by exact hH) ?_
  rotate_left
  · intro W hSw
    go_simp
    try with_reducible rfl
  try simp only [Act.put, List.setIfInBounds_toArray, List.set_cons_zero, List.set_cons_succ]
  refine wpAnyH_ready (rs := [11]) (by kernel_rfl) (by simp) ?_
  refine AllReadyH.cons (o := { dst := none, op := Op.store 3 (Operand.tmp 67) (Operand.const (Value.int IntKind.i64 9)), type := 0, pos := "law.go:130", after := #[{ on := 10, ground := Ground.data }, { on := 0, ground := Ground.phase }, { on := 1, ground := Ground.phase }, { on := 2, ground := Ground.textOnly Departure.lateStores }, { on := 3, ground := Ground.textOnly Departure.lateStores }, { on := 4, ground := Ground.textOnly Departure.lateStores }, { on := 5, ground := Ground.textOnly Departure.lateStores }, { on := 6, ground := Ground.textOnly Departure.lateStoresUnsure }, { on := 7, ground := Ground.phase }, { on := 8, ground := Ground.textOnly Departure.lateStores }, { on := 9, ground := Ground.textOnly Departure.lateStores }], guard := none }) rfl (fun K hK => ?_) AllReadyH.nil
  have q0 := HX.out.1.cell 0
  rw [HC8.out.2.2.2.2.2.2.2.1] at q0
  have g0' := HX.out.1.froz 0
  have z0' := HX.out.1.lt
  go_simp
  have nP : pn ≠ g0 := cells_apart HSd.out.2.1 HX.out.1 (by decide)
  have nN : bN ≠ g0 := cells_apart HSd.out.2.2 HX.out.1 (by decide)
  have nT : b2 ≠ g0 := cells_apart HX.out.2.1 HX.out.1 (by decide)
  obtain ⟨V1, hV1⟩ : ∃ W, wd.setCell ⟨g0, 0, none⟩ (.int .i64 9) = W := ⟨_, rfl⟩
  have hS1 : Below w6.heap.size w6 V1 ∧ Cells V1 pn 70 #[.slice (some ⟨g0, 0, none⟩) 37 k0, .slice (some ⟨bN, 0, none⟩) n1 kN, .slice (some ⟨b2, 0, none⟩) n2 k2] ∧ Cells V1 bN 23 curN := by rw [← hV1]; exact ⟨HSd.out.1.setCell HC8.out.2.2.2.2.2.2.2.2.2.2.1 _, ((grown_setc wd g0 0 _).block pn HSd.out.2.1.lt (fun e => nP (by injection e))).trans HSd.out.2.1, ((grown_setc wd g0 0 _).block bN HSd.out.2.2.lt (fun e => nN (by injection e))).trans HSd.out.2.2⟩
  have ct1 : Cells V1 b2 37 cur2 := by rw [← hV1]; exact ((grown_setc wd g0 0 _).block b2 HX.out.2.1.lt (fun e => nT (by injection e))).trans HX.out.2.1
  obtain ⟨cq1, hq1, hz1⟩ : ∃ cs', Cells V1 q 3 cs' ∧ cs'.size = (intsC L).toArray.size := by rw [← hV1]; exact cells_still HX.out.2.2 _
  rw [hV1]
  have HS1 := Lib.hid hS1
  have HX1 := Lib.hid (And.intro ct1 (And.intro hq1 hz1))
  clear hS1 ct1 hq1 hz1 hV1 nP nN nT
  refine hK.out _ _ HS1.out (fun hH => ?_)
  clear hK K q0 g0' z0'
  try simp only [Act.put, List.setIfInBounds_toArray, List.set_cons_zero, List.set_cons_succ]
  refine wpAnyH_take (i := 12) (oi := { dst := some 68, op := Op.indexAddr 52 (Operand.tmp 60) (Operand.const (Value.int IntKind.i64 0)), type := 0, pos := "law.go:130", after := #[{ on := 3, ground := Ground.data }, { on := 0, ground := Ground.phase }, { on := 1, ground := Ground.phase }, { on := 2, ground := Ground.phase }, { on := 3, ground := Ground.phase }, { on := 4, ground := Ground.textOnly Departure.lateStores }, { on := 5, ground := Ground.textOnly Departure.lateStores }, { on := 6, ground := Ground.textOnly Departure.lateStoresUnsure }, { on := 7, ground := Ground.phase }, { on := 8, ground := Ground.phase }, { on := 9, ground := Ground.phase }, { on := 10, ground := Ground.phase }, { on := 11, ground := Ground.phase }], guard := none }) (v := ?_) rfl (by kernel_rfl) (by kernel_rfl) (by kernel_rfl) (fun _ _ _ h => h) (Or.inl ⟨by rfl, ?_⟩) (by exact hH) ?_
  rotate_left
  · intro W hSw
    go_simp
    try with_reducible rfl
  try simp only [Act.put, List.setIfInBounds_toArray, List.set_cons_zero, List.set_cons_succ]
  refine wpAnyH_ready (rs := [13]) (by kernel_rfl) (by simp) ?_
  refine AllReadyH.cons (o := { dst := none, op := Op.store 37 (Operand.tmp 68) (Operand.tmp 66), type := 0, pos := "law.go:130", after := #[{ on := 12, ground := Ground.data }, { on := 9, ground := Ground.data }, { on := 11, ground := Ground.chain }, { on := 0, ground := Ground.phase }, { on := 1, ground := Ground.phase }, { on := 2, ground := Ground.phase }, { on := 3, ground := Ground.phase }, { on := 4, ground := Ground.textOnly Departure.lateStores }, { on := 5, ground := Ground.textOnly Departure.lateStores }, { on := 6, ground := Ground.textOnly Departure.lateStoresUnsure }, { on := 7, ground := Ground.phase }, { on := 8, ground := Ground.phase }, { on := 9, ground := Ground.phase }, { on := 10, ground := Ground.phase }, { on := 11, ground := Ground.phase }], guard := none }) rfl (fun K hK => ?_) AllReadyH.nil
  have q0 := HX1.out.1.cell 0
  rw [HC8.out.2.2.2.2.2.2.2.2.2.1] at q0
  have g0' := HX1.out.1.froz 0
  have z0' := HX1.out.1.lt
  go_simp
  have nP : pn ≠ b2 := cells_apart HS1.out.2.1 HX1.out.1 (by decide)
  have nN : bN ≠ b2 := cells_apart HS1.out.2.2 HX1.out.1 (by decide)
  obtain ⟨tv, htv⟩ : ∃ v, Value.int .u64 (IntKind.u64.wrap ((y0 : Int) + 1)) = v := ⟨_, rfl⟩
  rw [htv]
  obtain ⟨V2, hV2⟩ : ∃ W, V1.setCell ⟨b2, 0, none⟩ tv = W := ⟨_, rfl⟩
  have hS2 : Below w6.heap.size w6 V2 ∧ Cells V2 pn 70 #[.slice (some ⟨g0, 0, none⟩) 37 k0, .slice (some ⟨bN, 0, none⟩) n1 kN, .slice (some ⟨b2, 0, none⟩) n2 k2] ∧ Cells V2 bN 23 curN := by rw [← hV2]; exact ⟨HS1.out.1.setCell HC8.out.2.2.2.2.2.2.2.2.2.2.2.1 _, ((grown_setc V1 b2 0 _).block pn HS1.out.2.1.lt (fun e => nP (by injection e))).trans HS1.out.2.1, ((grown_setc V1 b2 0 _).block bN HS1.out.2.2.lt (fun e => nN (by injection e))).trans HS1.out.2.2⟩
  obtain ⟨cq2, hq2, hz2⟩ : ∃ cs', Cells V2 q 3 cs' ∧ cs'.size = (intsC L).toArray.size := by rw [← hV2, ← HX1.out.2.2]; exact cells_still HX1.out.2.1 _
  rw [hV2]
  have HS2 := Lib.hid hS2
  have HX2 := Lib.hid (And.intro hq2 hz2)
  clear hS2 hq2 hz2 hV2 nP nN
  refine hK.out _ _ HS2.out (fun hH => ?_)
  clear hK K q0 g0' z0'
  try simp only [Act.put, List.setIfInBounds_toArray, List.set_cons_zero, List.set_cons_succ]
  refine wpAnyH_take (i := 14) (oi := { dst := some 69, op := Op.indexAddr 23 (Operand.tmp 64) (Operand.const (Value.int IntKind.i64 0)), type := 0, pos := "law.go:130", after := #[{ on := 7, ground := Ground.data }, { on := 0, ground := Ground.phase }, { on := 1, ground := Ground.phase }, { on := 2, ground := Ground.phase }, { on := 3, ground := Ground.phase }, { on := 4, ground := Ground.phase }, { on := 5, ground := Ground.phase }, { on := 6, ground := Ground.phase }, { on := 7, ground := Ground.phase }, { on := 8, ground := Ground.phase }, { on := 9, ground := Ground.phase }, { on := 10, ground := Ground.phase }, { on := 11, ground := Ground.phase }, { on := 12, ground := Ground.phase }, { on := 13, ground := Ground.phase }], guard := none }) (v := ?_) rfl (by kernel_rfl) (by kernel_rfl) (by kernel_rfl) (fun _ _ _ h => h) (Or.inl ⟨by rfl, ?_⟩) (by exact hH) ?_
  rotate_left
  · intro W hSw
    go_simp
    try with_reducible rfl
  try simp only [Act.put, List.setIfInBounds_toArray, List.set_cons_zero, List.set_cons_succ]
  refine wpAnyH_ready (rs := [15]) (by kernel_rfl) (by simp) ?_
  refine AllReadyH.cons (o := { dst := none, op := Op.store 3 (Operand.tmp 69) (Operand.const (Value.int IntKind.i64 77)), type := 0, pos := "law.go:130", after := #[{ on := 14, ground := Ground.data }, { on := 13, ground := Ground.chain }, { on := 0, ground := Ground.phase }, { on := 1, ground := Ground.phase }, { on := 2, ground := Ground.phase }, { on := 3, ground := Ground.phase }, { on := 4, ground := Ground.phase }, { on := 5, ground := Ground.phase }, { on := 6, ground := Ground.phase }, { on := 7, ground := Ground.phase }, { on := 8, ground := Ground.phase }, { on := 9, ground := Ground.phase }, { on := 10, ground := Ground.phase }, { on := 11, ground := Ground.phase }, { on := 12, ground := Ground.phase }, { on := 13, ground := Ground.phase }], guard := none }) rfl (fun K hK => ?_) AllReadyH.nil
  obtain ⟨zq, q0⟩ := cell_of_size (i := 0) HX2.out.1 (by rw [HX2.out.2]; simp [intsC]; have := HF.out.2; omega)
  have g0' := HX2.out.1.froz 0
  have z0' := HX2.out.1.lt
  go_simp
  have nP : pn ≠ q := cells_apart HS2.out.2.1 HX2.out.1 (by decide)
  have nN : bN ≠ q := cells_apart HS2.out.2.2 HX2.out.1 (by decide)
  obtain ⟨V3, hV3⟩ : ∃ W, V2.setCell ⟨q, 0, none⟩ (.int .i64 77) = W := ⟨_, rfl⟩
  have hS3 : Below w6.heap.size w6 V3 ∧ Cells V3 pn 70 #[.slice (some ⟨g0, 0, none⟩) 37 k0, .slice (some ⟨bN, 0, none⟩) n1 kN, .slice (some ⟨b2, 0, none⟩) n2 k2] ∧ Cells V3 bN 23 curN := by rw [← hV3]; exact ⟨HS2.out.1.setCell HC8.out.2.2.2.2.2.2.2.2.2.2.2.2.1 _, ((grown_setc V2 q 0 _).block pn HS2.out.2.1.lt (fun e => nP (by injection e))).trans HS2.out.2.1, ((grown_setc V2 q 0 _).block bN HS2.out.2.2.lt (fun e => nN (by injection e))).trans HS2.out.2.2⟩
  rw [hV3]
  have HS3 := Lib.hid hS3
  clear hS3 hV3 nP nN
  refine hK.out _ _ HS3.out (fun hH => ?_)
  clear hK K q0 g0' z0'
  try simp only [Act.put, List.setIfInBounds_toArray, List.set_cons_zero, List.set_cons_succ]
  refine wpAnyH_done (by kernel_rfl) ?_ _
  refine NoPanic.normal ?_
  have b3 := HC6.out.2.1.trans (HS3.out.1.mono HC6.out.2.1.size)
  have hp3 := HC6.out.2.2.1.on HS3.out.1
  have hg3 := HC6.out.2.2.2.on HS3.out.1
  have p0 := hp3.cell 0
  have p1 := hp3.cell 1
  simp at p0 p1
  have C := make_own G (some ⟨gb, 0, none⟩) G.length (cells_is hg3 (by rw [HG.out.1.l]; omega) HG.out.2.2.2.1) (HK.out.1 V3 b3) HG.out.2.1 HR1.out HG.out.2.2.1
  rw [HG.out.1.l] at C
  have HC9 := Lib.hid (And.intro C (And.intro b3 (And.intro hp3 hg3)))
  clear C b3 hp3 hg3
  go_wp2_with fail
  refine HC9.out.1.mono ?_
  rintro r w10 ⟨hb10, v', rfl, hn10⟩
  obtain ⟨h0, l0, dur0, dN, lN, durN, d2, l2, dur2, q2, rfl, _, _, _, _, cdN, _, cq2, _, fdN, _⟩ := nar_parts hn10 HG.out.2.2.2.2.1 HG.out.2.2.2.2.2.1 HG.out.2.2.2.2.2.2.1
  rw [HG.out.1.l, narR_len, HN.out.1, HN.out.2]
  rw [HF.out.2] at fdN
  have al := below_new w10 (.cells #[.slice (some ⟨h0, 0, none⟩) 37 l0, .slice (some ⟨dN, 0, none⟩) n1 lN, .slice (some ⟨d2, 0, none⟩) n2 l2] 70)
  have y10 := cells_new w10 #[.slice (some ⟨h0, 0, none⟩) 37 l0, .slice (some ⟨dN, 0, none⟩) n1 lN, .slice (some ⟨d2, 0, none⟩) n2 l2] 70
  have bw := HC9.out.2.1.trans ((hb10.trans (al.mono hb10.size)).mono HC9.out.2.1.size)
  have hp := (HC9.out.2.2.1.on hb10).on al
  have hg := (HC9.out.2.2.2.on hb10).on al
  have cdN' := cdN.on al
  have cq2' := cq2.on al
  obtain ⟨Wz, hWz⟩ : ∃ W, w10.alloc (.cells #[.slice (some ⟨h0, 0, none⟩) 37 l0, .slice (some ⟨dN, 0, none⟩) n1 lN, .slice (some ⟨d2, 0, none⟩) n2 l2] 70) = W := ⟨_, rfl⟩
  obtain ⟨pz, hpz⟩ : ∃ b, w10.heap.size = b := ⟨_, rfl⟩
  rw [hWz] at y10 bw hp hg cdN' cq2'
  rw [hpz] at y10
  have HWZ := Lib.hid (And.intro hWz hpz)
  have HZ := Lib.hid (And.intro bw (And.intro hp (And.intro hg (And.intro y10 (And.intro cdN' (And.intro cq2' fdN))))))
  clear bw hp hg y10 cdN' cq2' cdN cq2 hWz hpz al hn10 hb10 fdN p0 p1
  go_upto_region 13 with fail
  rw [HWZ.out.1, HWZ.out.2]
  have g9 := HZ.out.2.2.1.cell 0
  rw [show (intsC G).toArray[0]? = some (.int .i64 0) by simp [intsC, HG.out.2.2.2.2.1]] at g9
  have HP1 := Lib.hid (And.intro HZ.out.2.2.1.lt g9)
  have x9 := HZ.out.2.1.cell 0
  have x8 := HZ.out.2.1.cell 1
  simp at x9 x8
  have HP2 := Lib.hid (And.intro HZ.out.2.1.lt x8)
  have HP3 := Lib.hid (And.intro HZ.out.2.1.lt x9)
  have d9 := (HZ.out.1.cell (p := ⟨bT, oT + 0, none⟩) HG.out.2.2.2.2.2.2.2.2.1).trans HG.out.2.2.2.2.2.2.2.2.2
  simp at d9
  have HP4 := Lib.hid (And.intro (Nat.lt_of_lt_of_le HG.out.2.2.2.2.2.2.2.2.1 HZ.out.1.size) d9)
  have z9 := HZ.out.2.2.2.1.cell 1
  simp at z9
  have HP5 := Lib.hid (And.intro HZ.out.2.2.2.1.lt z9)
  have n9 := HZ.out.2.2.2.2.1.cell 0
  rw [HZ.out.2.2.2.2.2.2] at n9
  have HP6 := Lib.hid (And.intro HZ.out.2.2.2.2.1.lt n9)
  have q9 := HZ.out.2.2.2.2.2.1.cell 0
  rw [show (intsC L).toArray[0]? = some (.int .i64 z0) by simp [intsC, HG.out.2.2.2.2.2.2.2.1]] at q9
  have HP7 := Lib.hid (And.intro HZ.out.2.2.2.2.2.1.lt q9)
  have hyy : ((y0 : Int) == (y0 : Int)) = true := by simp
  have hzl : z0 < (n1 : Int) := hzb.2
  have KG : ∀ W, Below Wz.heap.size Wz W → Calls Tryd.prog 33 #[.slice none 0 0] W fun r w' => ∃ h, r = .returned (.slice (some ⟨h, 0, none⟩) 37 37) ∧ Below W.heap.size W w' := by
    intro W hW
    have C := groups_any [] none 0 W (fun i t ht => by simp at ht) (by simp) (by simp) (HK.out.2.1 W (HZ.out.1.trans (hW.mono HZ.out.1.size)))
    refine C.mono ?_
    rintro r w' ⟨hb', v, rfl, h, rfl, _, _⟩
    exact ⟨h, rfl, hb'⟩
  have HKG := Lib.hid KG
  have HS0 := Lib.hid (show Below Wz.heap.size Wz Wz.drew from (Below.refl _ _).drew)
  obtain ⟨wd, hwd⟩ : ∃ W, Wz.drew = W := ⟨_, rfl⟩
  have HWD2 := Lib.hid hwd
  have HSd2 := Lib.hid (show Below Wz.heap.size Wz wd by rw [← hwd]; exact HS0.out)
  clear g9 x9 x8 d9 z9 n9 q9 KG hwd
  refine wp_region_noPanic ?_
  refine wp_region_held_drew (S := fun W => Below Wz.heap.size Wz W) (by kernel_rfl) HS0.out (fun hH => ?_)
  rw [HWD2.out]
  have hH := HSd2.out
  refine wpAnyH_take (i := 0) (oi := { dst := some 76, op := Op.move (Operand.tmp 9), type := 27, pos := "law.go:132", after := #[], guard := none }) (v := ?_) rfl (by kernel_rfl) (by kernel_rfl) (by kernel_rfl) (fun _ _ _ h => h) (Or.inl ⟨by rfl, ?_⟩) (by exact hH) ?_
  rotate_left
  · intro W hSw
    go_simp
    try with_reducible rfl
  try simp only [Act.put, List.setIfInBounds_toArray, List.set_cons_zero, List.set_cons_succ]
  refine wpAnyH_take (i := 1) (oi := { dst := some 77, op := Op.binOp BinOp.eql 27 (Operand.tmp 76) (Operand.const (Value.int IntKind.i64 0)) 27, type := 4, pos := "law.go:132", after := #[{ on := 0, ground := Ground.data }], guard := none }) (v := ?_) rfl (by kernel_rfl) (by kernel_rfl) (by kernel_rfl) (fun _ _ _ h => h) (Or.inl ⟨by rfl, ?_⟩) (by exact hH) ?_
  rotate_left
  · intro W hSw
    go_simp
    try with_reducible rfl
  try simp only [Act.put, List.setIfInBounds_toArray, List.set_cons_zero, List.set_cons_succ]
  refine wpAnyH_take (i := 2) (oi := { dst := some 78, op := Op.move (Operand.tmp 77), type := 4, pos := "law.go:132", after := #[{ on := 1, ground := Ground.data }], guard := none }) (v := ?_) rfl (by kernel_rfl) (by kernel_rfl) (by kernel_rfl) (fun _ _ _ h => h) (Or.inl ⟨by rfl, ?_⟩) (by exact hH) ?_
  rotate_left
  · intro W hSw
    go_simp
    try with_reducible rfl
  try simp only [Act.put, List.setIfInBounds_toArray, List.set_cons_zero, List.set_cons_succ]
  refine wpAnyH_take (i := 3) (oi := { dst := some 79, op := Op.move (Operand.tmp 4), type := 23, pos := "law.go:132", after := #[{ on := 2, ground := Ground.guard }], guard := some (2, true) }) (v := ?_) rfl (by kernel_rfl) (by kernel_rfl) (by kernel_rfl) (fun _ _ _ h => h) (Or.inl ⟨by rfl, ?_⟩) (by exact hH) ?_
  rotate_left
  · intro W hSw
    go_simp
    try with_reducible rfl
  try simp only [Act.put, List.setIfInBounds_toArray, List.set_cons_zero, List.set_cons_succ]
  refine wpAnyH_take (i := 4) (oi := { dst := some 80, op := Op.indexAddr 23 (Operand.tmp 79) (Operand.const (Value.int IntKind.i64 0)), type := 0, pos := "law.go:132", after := #[{ on := 3, ground := Ground.data }, { on := 2, ground := Ground.guard }], guard := some (2, true) }) (v := ?_) rfl (by kernel_rfl) (by kernel_rfl) (by kernel_rfl) (fun _ _ _ h => h) (Or.inl ⟨by rfl, ?_⟩) (by exact hH) ?_
  rotate_left
  · intro W hSw
    go_simp
    try with_reducible rfl
  try simp only [Act.put, List.setIfInBounds_toArray, List.set_cons_zero, List.set_cons_succ]
  refine wpAnyH_take (i := 5) (oi := { dst := some 81, op := Op.load 3 (Operand.tmp 80), type := 3, pos := "law.go:132", after := #[{ on := 4, ground := Ground.data }, { on := 2, ground := Ground.guard }], guard := some (2, true) }) (v := ?_) rfl (by kernel_rfl) (by kernel_rfl) (by kernel_rfl) (fun _ _ _ h => h) (Or.inl ⟨by rfl, ?_⟩) (by exact hH) ?_
  rotate_left
  · intro W hSw
    have p : W.cell? ⟨gb, 0, none⟩ = some (.int .i64 0) := (hSw.cell (p := ⟨gb, 0, none⟩) HP1.out.1).trans HP1.out.2
    go_simp
    try with_reducible rfl
  try simp only [Act.put, List.setIfInBounds_toArray, List.set_cons_zero, List.set_cons_succ]
  refine wpAnyH_take (i := 6) (oi := { dst := some 82, op := Op.binOp BinOp.eql 3 (Operand.tmp 81) (Operand.const (Value.int IntKind.i64 0)) 3, type := 4, pos := "law.go:132", after := #[{ on := 5, ground := Ground.data }, { on := 2, ground := Ground.guard }], guard := some (2, true) }) (v := ?_) rfl (by kernel_rfl) (by kernel_rfl) (by kernel_rfl) (fun _ _ _ h => h) (Or.inl ⟨by rfl, ?_⟩) (by exact hH) ?_
  rotate_left
  · intro W hSw
    go_simp
    try with_reducible rfl
  try simp only [Act.put, List.setIfInBounds_toArray, List.set_cons_zero, List.set_cons_succ]
  refine wpAnyH_take (i := 7) (oi := { dst := some 83, op := Op.pick (Operand.tmp 78) (Operand.tmp 82) (Operand.const (Value.bool false)), type := 4, pos := "law.go:132", after := #[{ on := 2, ground := Ground.data }, { on := 6, ground := Ground.data }], guard := none }) (v := ?_) rfl (by kernel_rfl) (by kernel_rfl) (by kernel_rfl) (fun _ _ _ h => h) (Or.inl ⟨by rfl, ?_⟩) (by exact hH) ?_
  rotate_left
  · intro W hSw
    go_simp
    try with_reducible rfl
  try simp only [Act.put, List.setIfInBounds_toArray, List.set_cons_zero, List.set_cons_succ]
  refine wpAnyH_take (i := 8) (oi := { dst := some 84, op := Op.move (Operand.tmp 83), type := 4, pos := "law.go:132", after := #[{ on := 7, ground := Ground.data }, { on := 2, ground := Ground.chain }], guard := none }) (v := ?_) rfl (by kernel_rfl) (by kernel_rfl) (by kernel_rfl) (fun _ _ _ h => h) (Or.inl ⟨by rfl, ?_⟩) (by exact hH) ?_
  rotate_left
  · intro W hSw
    go_simp
    try with_reducible rfl
  try simp only [Act.put, List.setIfInBounds_toArray, List.set_cons_zero, List.set_cons_succ]
  refine wpAnyH_take (i := 9) (oi := { dst := some 85, op := Op.fieldAddr 54 (Operand.tmp 3) 1, type := 0, pos := "law.go:132", after := #[{ on := 8, ground := Ground.guard }], guard := some (8, true) }) (v := ?_) rfl (by kernel_rfl) (by kernel_rfl) (by kernel_rfl) (fun _ _ _ h => h) (Or.inl ⟨by rfl, ?_⟩) (by exact hH) ?_
  rotate_left
  · intro W hSw
    go_simp
    try with_reducible rfl
  try simp only [Act.put, List.setIfInBounds_toArray, List.set_cons_zero, List.set_cons_succ]
  refine wpAnyH_take (i := 10) (oi := { dst := some 86, op := Op.load 52 (Operand.tmp 85), type := 52, pos := "law.go:132", after := #[{ on := 9, ground := Ground.data }, { on := 8, ground := Ground.guard }], guard := some (8, true) }) (v := ?_) rfl (by kernel_rfl) (by kernel_rfl) (by kernel_rfl) (fun _ _ _ h => h) (Or.inl ⟨by rfl, ?_⟩) (by exact hH) ?_
  rotate_left
  · intro W hSw
    have p : W.cell? ⟨bx, 1, none⟩ = some (.slice (some ⟨bT, oT, none⟩) n2 c2) := (hSw.cell (p := ⟨bx, 1, none⟩) HP2.out.1).trans HP2.out.2
    go_simp
    try with_reducible rfl
  try simp only [Act.put, List.setIfInBounds_toArray, List.set_cons_zero, List.set_cons_succ]
  refine wpAnyH_take (i := 11) (oi := { dst := some 87, op := Op.indexAddr 52 (Operand.tmp 86) (Operand.const (Value.int IntKind.i64 0)), type := 0, pos := "law.go:132", after := #[{ on := 10, ground := Ground.data }, { on := 8, ground := Ground.guard }], guard := some (8, true) }) (v := ?_) rfl (by kernel_rfl) (by kernel_rfl) (by kernel_rfl) (fun _ _ _ h => h) (Or.inl ⟨by rfl, ?_⟩) (by exact hH) ?_
  rotate_left
  · intro W hSw
    go_simp
    try with_reducible rfl
  try simp only [Act.put, List.setIfInBounds_toArray, List.set_cons_zero, List.set_cons_succ]
  refine wpAnyH_take (i := 12) (oi := { dst := some 88, op := Op.load 37 (Operand.tmp 87), type := 37, pos := "law.go:132", after := #[{ on := 11, ground := Ground.data }, { on := 8, ground := Ground.guard }], guard := some (8, true) }) (v := ?_) rfl (by kernel_rfl) (by kernel_rfl) (by kernel_rfl) (fun _ _ _ h => h) (Or.inl ⟨by rfl, ?_⟩) (by exact hH) ?_
  rotate_left
  · intro W hSw
    have p : W.cell? ⟨bT, oT, none⟩ = some (.int .u64 (y0 : Int)) := (hSw.cell (p := ⟨bT, oT, none⟩) HP4.out.1).trans HP4.out.2
    go_simp
    try with_reducible rfl
  try simp only [Act.put, List.setIfInBounds_toArray, List.set_cons_zero, List.set_cons_succ]
  refine wpAnyH_take (i := 13) (oi := { dst := some 89, op := Op.move (Operand.tmp 7), type := 37, pos := "law.go:132", after := #[{ on := 8, ground := Ground.guard }], guard := some (8, true) }) (v := ?_) rfl (by kernel_rfl) (by kernel_rfl) (by kernel_rfl) (fun _ _ _ h => h) (Or.inl ⟨by rfl, ?_⟩) (by exact hH) ?_
  rotate_left
  · intro W hSw
    go_simp
    try with_reducible rfl
  try simp only [Act.put, List.setIfInBounds_toArray, List.set_cons_zero, List.set_cons_succ]
  refine wpAnyH_take (i := 14) (oi := { dst := some 90, op := Op.binOp BinOp.eql 37 (Operand.tmp 88) (Operand.tmp 89) 37, type := 4, pos := "law.go:132", after := #[{ on := 12, ground := Ground.data }, { on := 13, ground := Ground.data }, { on := 8, ground := Ground.guard }], guard := some (8, true) }) (v := ?_) rfl (by kernel_rfl) (by kernel_rfl) (by kernel_rfl) (fun _ _ _ h => h) (Or.inl ⟨by rfl, ?_⟩) (by exact hH) ?_
  rotate_left
  · intro W hSw
    go_simp
    try with_reducible rfl
  try simp only [Act.put, List.setIfInBounds_toArray, List.set_cons_zero, List.set_cons_succ]
  refine wpAnyH_take (i := 15) (oi := { dst := some 91, op := Op.pick (Operand.tmp 84) (Operand.tmp 90) (Operand.const (Value.bool false)), type := 4, pos := "law.go:132", after := #[{ on := 8, ground := Ground.data }, { on := 14, ground := Ground.data }], guard := none }) (v := ?_) rfl (by kernel_rfl) (by kernel_rfl) (by kernel_rfl) (fun _ _ _ h => h) (Or.inl ⟨by rfl, ?_⟩) (by exact hH) ?_
  rotate_left
  · intro W hSw
    go_simp
    try with_reducible rfl
  try simp only [Act.put, List.setIfInBounds_toArray, List.set_cons_zero, List.set_cons_succ]
  refine wpAnyH_take (i := 16) (oi := { dst := some 92, op := Op.move (Operand.tmp 91), type := 4, pos := "law.go:132", after := #[{ on := 15, ground := Ground.data }, { on := 8, ground := Ground.chain }], guard := none }) (v := ?_) rfl (by kernel_rfl) (by kernel_rfl) (by kernel_rfl) (fun _ _ _ h => h) (Or.inl ⟨by rfl, ?_⟩) (by exact hH) ?_
  rotate_left
  · intro W hSw
    go_simp
    try with_reducible rfl
  try simp only [Act.put, List.setIfInBounds_toArray, List.set_cons_zero, List.set_cons_succ]
  refine wpAnyH_ready (rs := [17]) (by kernel_rfl) (by simp) ?_
  refine AllReadyH.cons (o := { dst := some 93, op := Op.call { callee := Callee.value (Operand.func 33), args := #[Operand.const (Value.slice none 0 0)], argTypes := #[62] }, type := 23, pos := "law.go:132", after := #[{ on := 16, ground := Ground.chain }, { on := 16, ground := Ground.guard }], guard := some (16, true) }) rfl (fun K hK => ?_) AllReadyH.nil
  go_simp
  go_at_call 33
  refine (HKG.out _ HSd2.out).mono ?_
  rintro r V9 ⟨hh, rfl, hbk⟩
  have HS9 := Lib.hid (HSd2.out.trans (hbk.mono HSd2.out.size))
  clear hbk
  try go_wp2_with fail
  refine hK.out _ _ HS9.out (fun hH => ?_)
  clear hK K
  try simp only [Act.put, List.setIfInBounds_toArray, List.set_cons_zero, List.set_cons_succ]
  refine wpAnyH_take (i := 18) (oi := { dst := some 94, op := Op.call { callee := Callee.builtin Builtin.len, args := #[Operand.tmp 93], argTypes := #[23] }, type := 3, pos := "law.go:132", after := #[{ on := 17, ground := Ground.data }, { on := 16, ground := Ground.guard }], guard := some (16, true) }) (v := ?_) rfl (by kernel_rfl) (by kernel_rfl) (by kernel_rfl) (fun _ _ _ h => h) (Or.inl ⟨by rfl, ?_⟩) (by exact hH) ?_
  rotate_left
  · intro W hSw
    go_simp
    try with_reducible rfl
  try simp only [Act.put, List.setIfInBounds_toArray, List.set_cons_zero, List.set_cons_succ]
  refine wpAnyH_take (i := 19) (oi := { dst := some 95, op := Op.binOp BinOp.eql 3 (Operand.tmp 94) (Operand.const (Value.int IntKind.i64 37)) 3, type := 4, pos := "law.go:132", after := #[{ on := 18, ground := Ground.data }, { on := 16, ground := Ground.guard }], guard := some (16, true) }) (v := ?_) rfl (by kernel_rfl) (by kernel_rfl) (by kernel_rfl) (fun _ _ _ h => h) (Or.inl ⟨by rfl, ?_⟩) (by exact hH) ?_
  rotate_left
  · intro W hSw
    go_simp
    try with_reducible rfl
  try simp only [Act.put, List.setIfInBounds_toArray, List.set_cons_zero, List.set_cons_succ]
  refine wpAnyH_take (i := 20) (oi := { dst := some 96, op := Op.pick (Operand.tmp 92) (Operand.tmp 95) (Operand.const (Value.bool false)), type := 4, pos := "law.go:132", after := #[{ on := 16, ground := Ground.data }, { on := 19, ground := Ground.data }], guard := none }) (v := ?_) rfl (by kernel_rfl) (by kernel_rfl) (by kernel_rfl) (fun _ _ _ h => h) (Or.inl ⟨by rfl, ?_⟩) (by exact hH) ?_
  rotate_left
  · intro W hSw
    go_simp
    try with_reducible rfl
  try simp only [Act.put, List.setIfInBounds_toArray, List.set_cons_zero, List.set_cons_succ]
  refine wpAnyH_take (i := 21) (oi := { dst := some 97, op := Op.move (Operand.tmp 96), type := 4, pos := "law.go:132", after := #[{ on := 20, ground := Ground.data }, { on := 17, ground := Ground.chain }], guard := none }) (v := ?_) rfl (by kernel_rfl) (by kernel_rfl) (by kernel_rfl) (fun _ _ _ h => h) (Or.inl ⟨by rfl, ?_⟩) (by exact hH) ?_
  rotate_left
  · intro W hSw
    go_simp
    try with_reducible rfl
  try simp only [Act.put, List.setIfInBounds_toArray, List.set_cons_zero, List.set_cons_succ]
  refine wpAnyH_take (i := 22) (oi := { dst := some 98, op := Op.fieldAddr 70 (Operand.tmp 8) 1, type := 0, pos := "law.go:132", after := #[{ on := 21, ground := Ground.guard }], guard := some (21, true) }) (v := ?_) rfl (by kernel_rfl) (by kernel_rfl) (by kernel_rfl) (fun _ _ _ h => h) (Or.inl ⟨by rfl, ?_⟩) (by exact hH) ?_
  rotate_left
  · intro W hSw
    go_simp
    try with_reducible rfl
  try simp only [Act.put, List.setIfInBounds_toArray, List.set_cons_zero, List.set_cons_succ]
  refine wpAnyH_take (i := 23) (oi := { dst := some 99, op := Op.load 51 (Operand.tmp 98), type := 51, pos := "law.go:132", after := #[{ on := 22, ground := Ground.data }, { on := 21, ground := Ground.guard }], guard := some (21, true) }) (v := ?_) rfl (by kernel_rfl) (by kernel_rfl) (by kernel_rfl) (fun _ _ _ h => h) (Or.inl ⟨by rfl, ?_⟩) (by exact hH) ?_
  rotate_left
  · intro W hSw
    have p : W.cell? ⟨pz, 1, none⟩ = some (.slice (some ⟨dN, 0, none⟩) n1 lN) := (hSw.cell (p := ⟨pz, 1, none⟩) HP5.out.1).trans HP5.out.2
    go_simp
    try with_reducible rfl
  try simp only [Act.put, List.setIfInBounds_toArray, List.set_cons_zero, List.set_cons_succ]
  refine wpAnyH_take (i := 24) (oi := { dst := some 100, op := Op.indexAddr 51 (Operand.tmp 99) (Operand.const (Value.int IntKind.i64 0)), type := 0, pos := "law.go:132", after := #[{ on := 23, ground := Ground.data }, { on := 21, ground := Ground.guard }], guard := some (21, true) }) (v := ?_) rfl (by kernel_rfl) (by kernel_rfl) (by kernel_rfl) (fun _ _ _ h => h) (Or.inl ⟨by rfl, ?_⟩) (by exact hH) ?_
  rotate_left
  · intro W hSw
    go_simp
    try with_reducible rfl
  try simp only [Act.put, List.setIfInBounds_toArray, List.set_cons_zero, List.set_cons_succ]
  refine wpAnyH_take (i := 25) (oi := { dst := some 101, op := Op.load 23 (Operand.tmp 100), type := 23, pos := "law.go:132", after := #[{ on := 24, ground := Ground.data }, { on := 21, ground := Ground.guard }], guard := some (21, true) }) (v := ?_) rfl (by kernel_rfl) (by kernel_rfl) (by kernel_rfl) (fun _ _ _ h => h) (Or.inl ⟨by rfl, ?_⟩) (by exact hH) ?_
  rotate_left
  · intro W hSw
    have p : W.cell? ⟨dN, 0, none⟩ = some (.slice (some ⟨q2, 0, none⟩) ml ml) := (hSw.cell (p := ⟨dN, 0, none⟩) HP6.out.1).trans HP6.out.2
    go_simp
    try with_reducible rfl
  try simp only [Act.put, List.setIfInBounds_toArray, List.set_cons_zero, List.set_cons_succ]
  refine wpAnyH_take (i := 26) (oi := { dst := some 102, op := Op.indexAddr 23 (Operand.tmp 101) (Operand.const (Value.int IntKind.i64 0)), type := 0, pos := "law.go:132", after := #[{ on := 25, ground := Ground.data }, { on := 21, ground := Ground.guard }], guard := some (21, true) }) (v := ?_) rfl (by kernel_rfl) (by kernel_rfl) (by kernel_rfl) (fun _ _ _ h => h) (Or.inl ⟨by rfl, ?_⟩) (by exact hH) ?_
  rotate_left
  · intro W hSw
    go_simp
    try with_reducible rfl
  try simp only [Act.put, List.setIfInBounds_toArray, List.set_cons_zero, List.set_cons_succ]
  refine wpAnyH_take (i := 27) (oi := { dst := some 103, op := Op.load 3 (Operand.tmp 102), type := 3, pos := "law.go:132", after := #[{ on := 26, ground := Ground.data }, { on := 21, ground := Ground.guard }], guard := some (21, true) }) (v := ?_) rfl (by kernel_rfl) (by kernel_rfl) (by kernel_rfl) (fun _ _ _ h => h) (Or.inl ⟨by rfl, ?_⟩) (by exact hH) ?_
  rotate_left
  · intro W hSw
    have p : W.cell? ⟨q2, 0, none⟩ = some (.int .i64 z0) := (hSw.cell (p := ⟨q2, 0, none⟩) HP7.out.1).trans HP7.out.2
    go_simp
    try with_reducible rfl
  try simp only [Act.put, List.setIfInBounds_toArray, List.set_cons_zero, List.set_cons_succ]
  refine wpAnyH_take (i := 28) (oi := { dst := some 104, op := Op.fieldAddr 54 (Operand.tmp 3) 0, type := 0, pos := "law.go:132", after := #[{ on := 21, ground := Ground.guard }], guard := some (21, true) }) (v := ?_) rfl (by kernel_rfl) (by kernel_rfl) (by kernel_rfl) (fun _ _ _ h => h) (Or.inl ⟨by rfl, ?_⟩) (by exact hH) ?_
  rotate_left
  · intro W hSw
    go_simp
    try with_reducible rfl
  try simp only [Act.put, List.setIfInBounds_toArray, List.set_cons_zero, List.set_cons_succ]
  refine wpAnyH_take (i := 29) (oi := { dst := some 105, op := Op.load 51 (Operand.tmp 104), type := 51, pos := "law.go:132", after := #[{ on := 28, ground := Ground.data }, { on := 21, ground := Ground.guard }], guard := some (21, true) }) (v := ?_) rfl (by kernel_rfl) (by kernel_rfl) (by kernel_rfl) (fun _ _ _ h => h) (Or.inl ⟨by rfl, ?_⟩) (by exact hH) ?_
  rotate_left
  · intro W hSw
    have p : W.cell? ⟨bx, 0, none⟩ = some (.slice A1 n1 c1) := (hSw.cell (p := ⟨bx, 0, none⟩) HP3.out.1).trans HP3.out.2
    go_simp
    try with_reducible rfl
  try simp only [Act.put, List.setIfInBounds_toArray, List.set_cons_zero, List.set_cons_succ]
  refine wpAnyH_take (i := 30) (oi := { dst := some 106, op := Op.call { callee := Callee.builtin Builtin.len, args := #[Operand.tmp 105], argTypes := #[51] }, type := 3, pos := "law.go:132", after := #[{ on := 29, ground := Ground.data }, { on := 21, ground := Ground.guard }], guard := some (21, true) }) (v := ?_) rfl (by kernel_rfl) (by kernel_rfl) (by kernel_rfl) (fun _ _ _ h => h) (Or.inl ⟨by rfl, ?_⟩) (by exact hH) ?_
  rotate_left
  · intro W hSw
    go_simp
    try with_reducible rfl
  try simp only [Act.put, List.setIfInBounds_toArray, List.set_cons_zero, List.set_cons_succ]
  refine wpAnyH_take (i := 31) (oi := { dst := some 107, op := Op.binOp BinOp.lss 3 (Operand.tmp 103) (Operand.tmp 106) 3, type := 4, pos := "law.go:132", after := #[{ on := 27, ground := Ground.data }, { on := 30, ground := Ground.data }, { on := 21, ground := Ground.guard }], guard := some (21, true) }) (v := ?_) rfl (by kernel_rfl) (by kernel_rfl) (by kernel_rfl) (fun _ _ _ h => h) (Or.inl ⟨by rfl, ?_⟩) (by exact hH) ?_
  rotate_left
  · intro W hSw
    go_simp
    try with_reducible rfl
  try simp only [Act.put, List.setIfInBounds_toArray, List.set_cons_zero, List.set_cons_succ]
  refine wpAnyH_take (i := 32) (oi := { dst := some 108, op := Op.pick (Operand.tmp 97) (Operand.tmp 107) (Operand.const (Value.bool false)), type := 4, pos := "law.go:132", after := #[{ on := 21, ground := Ground.data }, { on := 31, ground := Ground.data }], guard := none }) (v := ?_) rfl (by kernel_rfl) (by kernel_rfl) (by kernel_rfl) (fun _ _ _ h => h) (Or.inl ⟨by rfl, ?_⟩) (by exact hH) ?_
  rotate_left
  · intro W hSw
    go_simp
    try with_reducible rfl
  try simp only [Act.put, List.setIfInBounds_toArray, List.set_cons_zero, List.set_cons_succ]
  refine wpAnyH_take (i := 33) (oi := { dst := some 2, op := Op.assign (Operand.tmp 108), type := 4, pos := "law.go:132", after := #[{ on := 32, ground := Ground.data }, { on := 21, ground := Ground.chain }, { on := 0, ground := Ground.phase }, { on := 1, ground := Ground.phase }, { on := 2, ground := Ground.phase }, { on := 3, ground := Ground.phase }, { on := 4, ground := Ground.phase }, { on := 5, ground := Ground.phase }, { on := 6, ground := Ground.phase }, { on := 7, ground := Ground.phase }, { on := 8, ground := Ground.phase }, { on := 9, ground := Ground.phase }, { on := 10, ground := Ground.phase }, { on := 11, ground := Ground.phase }, { on := 12, ground := Ground.phase }, { on := 13, ground := Ground.phase }, { on := 14, ground := Ground.phase }, { on := 15, ground := Ground.phase }, { on := 16, ground := Ground.phase }, { on := 17, ground := Ground.phase }, { on := 18, ground := Ground.phase }, { on := 19, ground := Ground.phase }, { on := 20, ground := Ground.phase }, { on := 21, ground := Ground.phase }, { on := 22, ground := Ground.phase }, { on := 23, ground := Ground.phase }, { on := 24, ground := Ground.phase }, { on := 25, ground := Ground.phase }, { on := 26, ground := Ground.phase }, { on := 27, ground := Ground.phase }, { on := 28, ground := Ground.phase }, { on := 29, ground := Ground.phase }, { on := 30, ground := Ground.phase }, { on := 31, ground := Ground.phase }, { on := 32, ground := Ground.phase }], guard := none }) (v := ?_) rfl (by kernel_rfl) (by kernel_rfl) (by kernel_rfl) (fun _ _ _ h => h) (Or.inl ⟨by rfl, ?_⟩) (by exact hH) ?_
  rotate_left
  · intro W hSw
    go_simp
    try with_reducible rfl
  try simp only [Act.put, List.setIfInBounds_toArray, List.set_cons_zero, List.set_cons_succ]
  refine wpAnyH_done (by kernel_rfl) ?_ _
  refine NoPanic.normal ?_
  have HB := Lib.hid (HZ.out.1.trans (HS9.out.mono HZ.out.1.size))
  go_wp2_with fail
  go_ret
  exact ⟨rfl, HB.out⟩
end Go.Proofs.YtmldgfplnacecaaDoor
