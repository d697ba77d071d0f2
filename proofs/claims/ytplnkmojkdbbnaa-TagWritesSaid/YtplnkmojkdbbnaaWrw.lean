/-
  TagWrites: the walk of the law.
-/
import Derived.Test.YtplnkmojkdbbnaaWrm
import Derived.Test.YtplnkmojkdbbnaaApm
import Derived.Test.YtplnkmojkdbbnaaGrw
import Derived.Deep.CutRange
namespace Go.Proofs.Ytplnkmojkdbbnaa
open Go.RowKit Go.Shelf Go.Lib Go.Maps Go.Sort

/-- So far all may be written. -/
def okTo (RB : Bool) (L : List AT) (k : Nat) : Bool := RB && (L.take k).all okA
theorem okTo_snoc' {RB : Bool} {L : List AT} {k : Nat} {a : AT} (h : L[k]? = some a) : okTo RB L (k + 1) = (okTo RB L k && okA a) := by
  unfold okTo
  rw [List.take_add_one, h]
  simp [List.all_append, Bool.and_assoc]
def vOk (v : List Nat) (j : Nat) : Bool := !(v.take j).contains 34
theorem vOk_snoc {v : List Nat} {j x : Nat} (h : v[j]? = some x) : vOk v (j + 1) = (vOk v j && !(x == 34)) := by
  unfold vOk
  rw [List.take_add_one, h]
  have e : (x == 34) = decide (x = 34) := rfl
  rw [e]
  simp [eq_comm]
theorem vOk_all {v : List Nat} {j : Nat} (h : j = v.length) : vOk v j = !v.contains 34 := by
  unfold vOk
  rw [h, List.take_length]
theorem okTo_end {kd : Int} {nm : List Nat} {L : List AT} {k : Nat} (h : k = L.length) : okTo ((decide (kd = 0) || decide (kd = 1)) && plnB nm) L k = rightT kd nm L := by
  unfold okTo rightT
  rw [h, List.take_length, Bool.and_assoc]
theorem wrA_len_le : ∀ (L : List AT), (∀ a ∈ L, a.1.length ≤ 60 ∧ a.2.length ≤ 60) → (wrA L).length ≤ 124 * L.length
  | [], _ => by simp [wrA]
  | a :: L, h => by
    have ih := wrA_len_le L fun b hb => h b (List.mem_cons_of_mem _ hb)
    have h1 := h a (List.mem_cons_self ..)
    have e : wrA (a :: L) = wrA1 a ++ wrA L := by unfold wrA; simp
    rw [e, List.length_append, wrA1_len, List.length_cons]
    omega
theorem wrL_256 {kd : Int} {nm : List Nat} {L : List AT} {sg : Bool} (hn : ∀ x ∈ nm, x < 256) (hL : ∀ a ∈ L, (∀ x ∈ a.1, x < 256) ∧ (∀ x ∈ a.2, x < 256)) : ∀ x ∈ wrL kd nm L sg, x < 256 := fun x hx => by
  unfold wrL headL at hx
  simp only [List.mem_append] at hx
  rcases hx with (((hx | hx) | hx) | hx) | hx
  · split at hx <;> simp at hx <;> omega
  · exact hn x hx
  · exact wrA_256 hL x hx
  · split at hx <;> simp at hx
    omega
  · simp at hx
    omega
theorem wrL_len (kd : Int) (nm : List Nat) (L : List AT) (sg : Bool) : 2 ≤ (wrL kd nm L sg).length ∧ nm.length + 2 ≤ (wrL kd nm L sg).length ∧ (wrL kd nm L sg).length ≤ nm.length + (wrA L).length + 5 := by
  unfold wrL headL
  simp only [List.length_append]
  split <;> split <;> simp <;> omega
theorem rightT_facts {kd : Int} {nm : List Nat} {L : List AT} (h : rightT kd nm L = true) : (∃ n : Nat, kd = (n : Int) ∧ (n = 0 ∨ n = 1)) ∧ plnB nm = true ∧ ∀ a ∈ L, okA a = true := by
  unfold rightT at h
  simp only [Bool.and_eq_true, Bool.or_eq_true, decide_eq_true_eq, List.all_eq_true] at h
  refine ⟨?_, h.2.1, h.2.2⟩
  rcases h.1 with rfl | rfl
  · exact ⟨0, rfl, .inl rfl⟩
  · exact ⟨1, rfl, .inr rfl⟩
theorem pln_pos {l : List Nat} (h : plnB l = true) : 0 < l.length := (pln_at h).1
theorem meas_step {n j : Nat} (h : j < n) : n - ((j : Int) + 1).toNat < n - ((j : Int)).toNat := by omega
/-- What the round of the loop knows. -/
structure WRel (G : Nat) (W3 : World) (kd : Int) (SN : ByteArray) (L : List AT) (sg : Bool) (k : Nat) (v : Value) (wr : World) : Prop where
  c : Cells wr G 26 #[.int .i64 kd, .int .i64 0, .string SN, v, .bool sg, .bool false]
  o : OwnA wr (G + 1) (L.take k) v
  b : Below G W3 wr
  s : ∀ (j : Nat) (y : AT), j < k → L[j]? = some y → y.1.length ≤ 60 ∧ y.2.length ≤ 60
set_option maxHeartbeats 16000000 in
set_option maxRecDepth 100000 in
theorem writesLaw_any (kd sz : Int) (nm : List Nat) (L : List AT) (A : Option Addr) (c : Nat) (sg cl : Bool) (ys : List Nat) (A' : Option Addr) (cap' : Nat) (w : World) (hm : MX w) (h : AS w w.heap.size L A c) (hL : ∀ a ∈ L, (∀ x ∈ a.1, x < 256) ∧ (∀ x ∈ a.2, x < 256)) (hn : ∀ x ∈ nm, x < 256) (h' : BY w w.heap.size ys A' cap') :
    Calls Try.prog 5 #[.agg #[.int .i64 kd, .int .i64 sz, strV nm, .slice A L.length c, .bool sg, .bool cl], .slice A' ys.length cap'] w fun r w' => r = .returned (.bool true) ∧ Below w.heap.size w w' := by
  have hlen' := h'.len
  have hcl : L.length ≤ c := h.le
  have hcm : c ≤ 9223372036854775807 := by have := h.mx; unfold maxLen at this; omega
  unfold strV
  obtain ⟨SN, hSN⟩ : ∃ S : ByteArray, ⟨(u8s nm).toArray⟩ = S := ⟨_, rfl⟩
  have hsz : SN.size = nm.length := by rw [← hSN]; exact size_str nm
  rw [hSN]
  obtain ⟨N, hN⟩ : ∃ N, L.length = N := ⟨_, rfl⟩
  obtain ⟨M, hM⟩ : ∃ M, ys.length = M := ⟨_, rfl⟩
  rw [hN] at hcl ⊢
  rw [hM] at hlen' ⊢
  obtain ⟨W1, hW1⟩ : ∃ W, w.alloc (.cells #[.int .i64 kd, .int .i64 sz, .string SN, .slice A N c, .bool sg, .bool cl] 31) = W := ⟨_, rfl⟩
  have b1 : Below w.heap.size w W1 := by rw [← hW1]; exact below_new _ _
  have x1 : Cells W1 w.heap.size 31 #[.int .i64 kd, .int .i64 sz, .string SN, .slice A N c, .bool sg, .bool cl] := by rw [← hW1]; exact cells_new _ _ _
  have z1 : W1.heap.size = w.heap.size + 1 := by rw [← hW1]; simp
  have a1 : AS W1 W1.heap.size L A c := by rw [← hW1]; exact h.on (below_new _ _)
  have y1 : BY W1 W1.heap.size ys A' cap' := by rw [← hW1]; exact h'.on (below_new _ _)
  have m1 : MX W1 := hm.on hm.pos b1
  have hAw := awake_any W1 m1
  have p2 := x1.cell 2
  have p3 := x1.cell 3
  simp at p2 p3
  have HAw := Lib.hid (And.intro hAw (And.intro b1 z1))
  by_cases hl : 8 < N
  · have i1 : (8 : Int) < (N : Int) := by omega
    clear h h' hl hAw hm x1 a1 y1 m1 hL hn hN hM b1 z1
    go_enter Try.func5, Try.ntmps5
    go_wp2_with fail
    refine HAw.out.1.mono ?_
    rintro r w1 ⟨rfl, hb1⟩
    have HB := Lib.hid (HAw.out.2.1.trans (hb1.mono (by have := HAw.out.2.2; omega)))
    clear hb1
    go_wp2_with fail
    go_ret
    exact ⟨rfl, HB.out⟩
  have i1 : ¬ (8 : Int) < (N : Int) := by omega
  by_cases hl2 : 60 < SN.size
  · have i2 : (60 : Int) < (SN.size : Int) := by omega
    clear h h' hl hl2 hAw hm x1 a1 y1 m1 hL hn hN hM b1 z1 hsz
    go_enter Try.func5, Try.ntmps5
    go_wp2_with fail
    refine HAw.out.1.mono ?_
    rintro r w1 ⟨rfl, hb1⟩
    have HB := Lib.hid (HAw.out.2.1.trans (hb1.mono (by have := HAw.out.2.2; omega)))
    clear hb1
    go_wp2_with fail
    go_ret
    exact ⟨rfl, HB.out⟩
  have i2 : ¬ (60 : Int) < (SN.size : Int) := by omega
  by_cases hl3 : 60 < M
  · have i3 : (60 : Int) < (M : Int) := by omega
    clear h h' hl hl2 hl3 hAw hm x1 a1 y1 m1 hL hn hN hM b1 z1 hsz
    go_enter Try.func5, Try.ntmps5
    go_wp2_with fail
    refine HAw.out.1.mono ?_
    rintro r w1 ⟨rfl, hb1⟩
    have HB := Lib.hid (HAw.out.2.1.trans (hb1.mono (by have := HAw.out.2.2; omega)))
    clear hb1
    go_wp2_with fail
    go_ret
    exact ⟨rfl, HB.out⟩
  have i3 : ¬ (60 : Int) < (M : Int) := by omega
  have hnl : nm.length ≤ 60 := by omega
  have KP := fun W => plain_any nm hn (by omega) W
  unfold strV at KP
  rw [hSN] at KP
  have HH := Lib.hid (And.intro hN (And.intro hM (And.intro hSN (And.intro hn (And.intro hL (And.intro hnl (And.intro (show N ≤ 8 by omega) (show M ≤ 60 by omega))))))))
  have HX := Lib.hid (And.intro x1 (And.intro a1 (And.intro y1 m1)))
  have HP := Lib.hid KP
  obtain ⟨RB, hRB⟩ : ∃ b, ((decide (kd = 0) || decide (kd = 1)) && plnB nm) = b := ⟨_, rfl⟩
  have HR := Lib.hid hRB
  clear h h' hl hl2 hl3 hAw hm x1 a1 y1 m1 hL hn hN hM b1 z1 hsz KP hSN hnl hRB
  go_enter Try.func5, Try.ntmps5
  go_wp2_with fail
  refine HAw.out.1.mono ?_
  rintro r w2 ⟨rfl, hb2⟩
  have x2 := HX.out.1.on hb2
  clear p2 p3
  have p0 := x2.cell 0
  have p2 := x2.cell 2
  have p4 := x2.cell 4
  simp at p0 p2 p4
  have HB2 := Lib.hid (And.intro hb2 x2)
  clear hb2 x2
  go_upto_region 4 with fail
  clear hW1 p0 p2 p4
  have hb2 := HB2.out.1
  have x2 := HB2.out.2
  generalize hW3 : w2.alloc (.cells #[.int .i64 kd, .int .i64 0, .string SN, .slice none 0 0, .bool sg, .bool false] 26) = W3
  have b23 : Below w2.heap.size w2 W3 := by rw [← hW3]; exact below_new _ _
  have t3 : Cells W3 w2.heap.size 26 #[.int .i64 kd, .int .i64 0, .string SN, .slice none 0 0, .bool sg, .bool false] := by rw [← hW3]; exact cells_new _ _ _
  have x3 := x2.on b23
  have bw3 : Below w.heap.size w W3 := HAw.out.2.1.trans ((hb2.trans (b23.mono hb2.size)).mono (by have := HAw.out.2.2; omega))
  have a3 : AS W3 w2.heap.size L A c := (HX.out.2.1.on hb2).below b23
  have y3 : BY W3 w2.heap.size ys A' cap' := (HX.out.2.2.1.on hb2).below b23
  have m3 : MX W3 := HX.out.2.2.2.on HX.out.2.2.2.pos (hb2.trans (b23.mono hb2.size))
  have g3 : w.heap.size < w2.heap.size := by have := hb2.size; have := HAw.out.2.2; omega
  have q0 := x3.cell 0
  have q2 := x3.cell 2
  simp at q0 q2
  have HY := Lib.hid (And.intro t3 (And.intro x3 (And.intro bw3 (And.intro a3 (And.intro y3 (And.intro m3 g3))))))
  clear hb2 x2 b23 t3 x3 bw3 a3 y3 m3 g3 hW3
  go_cut [6] from 41 to 53 (fun v wx => v = .bool RB ∧ wx = W3)
  case first =>
    have hR := HR.out
    by_cases k0 : kd = 0
    · have d0 : (kd == 0) = true := by simpa using k0
      have HE : RowKit.Hid (plnB nm = RB) := Lib.hid (by rw [← hR, k0]; simp)
      clear hR k0
      go_wp2_with fail
      refine (HP.out _).mono ?_
      rintro r wx ⟨rfl, ex⟩
      obtain rfl := ex.symm
      rw [HE.out]
      go_wp2_with fail
      go_meet
      exact ⟨rfl, rfl⟩
    · have d0 : (kd == 0) = false := by simpa using k0
      by_cases k1 : kd = 1
      · have d1 : (kd == 1) = true := by simpa using k1
        have HE : RowKit.Hid (plnB nm = RB) := Lib.hid (by rw [← hR, k1]; simp)
        clear hR k0 k1
        go_wp2_with fail
        refine (HP.out _).mono ?_
        rintro r wx ⟨rfl, ex⟩
        obtain rfl := ex.symm
        rw [HE.out]
        go_wp2_with fail
        go_meet
        exact ⟨rfl, rfl⟩
      · have d1 : (kd == 1) = false := by simpa using k1
        have HE : RowKit.Hid (false = RB) := Lib.hid (by rw [← hR]; simp [k0, k1])
        clear hR k0 k1
        go_wp2_with fail
        go_meet
        exact ⟨by rw [← HE.out], rfl⟩
  case rest =>
    obtain ⟨rfl, ew⟩ := hcut
    obtain rfl := ew.symm
    clear ew q0 q2
    obtain ⟨G, hG⟩ : ∃ G, w2.heap.size = G := ⟨_, rfl⟩
    rw [hG] at HY
    have HG := Lib.hid hG
    go_wp2_with fail
    rw [hG]
    clear hG
    go_loopw [6, 7] (fun rt i wr => ∃ (k : Nat) (v : Value), rt = .bool (okTo RB L k) ∧ i = .int .i64 (k : Int) ∧ k ≤ N ∧ WRel G W3 kd SN L sg k v wr) (fun _ i _ => N - (RowKit.intOf i).toNat)
    case atStart => exact ⟨0, .slice none 0 0, by simp [okTo], by go_num, by omega, HY.out.1, by simpa using ownA_nil _ _, Below.refl _ _, fun j y hj => absurd hj (by omega)⟩
    case round =>
      obtain ⟨k, v, rfl, rfl, hk, hr⟩ := hrel
      obtain ⟨wo, hwo⟩ : ∃ W, W = wr := ⟨_, rfl⟩
      subst hwo
      have xo : Cells wo w.heap.size 31 #[.int .i64 kd, .int .i64 sz, .string SN, .slice A N c, .bool sg, .bool cl] := (hr.b.block _ HY.out.2.2.2.2.2.2).trans HY.out.2.1
      have go : G < wo.heap.size := hr.c.lt
      by_cases hlt : k < N
      case neg =>
        obtain rfl : k = N := by omega
        have hNl : L.length = k := HH.out.1
        have htk : L.take k = L := List.take_of_length_le (by omega)
        have ho := hr.o
        rw [htk] at ho
        obtain ⟨A9, c9, rfl, ha9⟩ := AS.of_own ho
        have hc := hr.c
        rw [hNl] at hc
        have q0 := hc.cell 0
        have q1 := hc.cell 1
        have q2 := hc.cell 2
        have q3 := hc.cell 3
        have q4 := hc.cell 4
        have q5 := hc.cell 5
        have p3 := xo.cell 3
        simp at q0 q1 q2 q3 q4 q5 p3
        have hwl := wrA_len_le L (fun a ha => by
          obtain ⟨j, hj, e⟩ := List.getElem_of_mem ha
          exact hr.s j a (by omega) (by rw [List.getElem?_eq_getElem hj, e]))
        have hk8 : k ≤ 8 := HH.out.2.2.2.2.2.2.1
        have hM6 : M ≤ 60 := HH.out.2.2.2.2.2.2.2
        have hnl := HH.out.2.2.2.2.2.1
        have KW := write_any kd 0 nm L sg false A9 c9 wo ha9 HH.out.2.2.2.1 HH.out.2.2.2.2.1 (by omega)
        unfold strV at KW
        rw [HH.out.2.2.1, hNl] at KW
        have hend := okTo_end (kd := kd) (nm := nm) (L := L) (k := k) hNl.symm
        rw [HR.out] at hend
        rw [hend]
        obtain ⟨RT, hRT⟩ : ∃ b, rightT kd nm L = b := ⟨_, rfl⟩
        rw [hRT]
        obtain ⟨SW, hSW⟩ : ∃ S : ByteArray, ⟨(u8s (wrT kd nm L sg)).toArray⟩ = S := ⟨_, rfl⟩
        rw [hSW] at KW
        have bwo : Below w.heap.size w wo := HY.out.2.2.1.trans (hr.b.mono (by have := HY.out.2.2.2.2.2.2; have := HY.out.2.2.1.size; omega))
        have y9 : BY wo wo.heap.size ys A' cap' := (HY.out.2.2.2.2.1.below hr.b).mono (by omega)
        have a0 : AS wo wo.heap.size L A c := (HY.out.2.2.2.1.below hr.b).mono (by omega)
        have m9 : MX wo := HY.out.2.2.2.2.2.1.on (B := G) (by have := HY.out.2.2.2.2.2.2; omega) hr.b
        have HQ := Lib.hid (And.intro KW (And.intro xo (And.intro bwo (And.intro y9 (And.intro a0 (And.intro m9 (And.intro hSW (And.intro hRT (And.intro hwl hNl)))))))))
        clear KW xo bwo y9 a0 m9 hSW hwl hNl htk ho ha9 hc hend hnl hr go hk8 hM6
        go_wp2_with fail
        refine HQ.out.1.mono ?_
        rintro r wx ⟨rfl, hbx⟩
        clear p3 q0 q1 q2 q3 q4 q5
        cases RT with
        | false =>
          have e : SW = ⟨#[]⟩ := by
            rw [← HQ.out.2.2.2.2.2.2.1]
            unfold wrT
            rw [if_neg (by rw [HQ.out.2.2.2.2.2.2.2.1]; simp)]
            rfl
          have HB := Lib.hid (HQ.out.2.2.1.trans (hbx.mono HQ.out.2.2.1.size))
          clear hbx hRT
          rw [e]
          clear e
          go_wp2_with fail
          go_ret
          exact ⟨by first | rfl | simp, HB.out⟩
        | true =>
          obtain ⟨⟨n, hkd, hn01⟩, hpl, hok⟩ := rightT_facts hRT
          have eW : wrT kd nm L sg = wrL kd nm L sg := by unfold wrT; rw [if_pos hRT]
          obtain ⟨Z, hZ⟩ : ∃ z, wrL kd nm L sg = z := ⟨_, rfl⟩
          have hSW := HQ.out.2.2.2.2.2.2.1
          rw [eW, hZ] at hSW
          have hZ256 : ∀ x ∈ Z, x < 256 := by rw [← hZ]; exact wrL_256 HH.out.2.2.2.1 HH.out.2.2.2.2.1
          have hzl := wrL_len kd nm L sg
          have hp0 := pln_pos hpl
          have hnl := HH.out.2.2.2.2.2.1
          have hM6 : M ≤ 60 := HH.out.2.2.2.2.2.2.2
          have hk8 : k ≤ 8 := HH.out.2.2.2.2.2.2.1
          have hwl := HQ.out.2.2.2.2.2.2.2.2.1
          have hNl := HQ.out.2.2.2.2.2.2.2.2.2
          rw [hZ] at hzl
          have hz1 := hzl.2.1
          have hz2 := hzl.2.2
          have hZl : 3 ≤ Z.length ∧ Z.length ≤ 1100 := ⟨by omega, by omega⟩
          have hyl : ys.length = M := HH.out.2.1
          have KR := fun W A5 c5 (hm5 : MX W) (h5 : BY W W.heap.size (Z ++ ys) A5 c5) => readV_any (Z ++ ys) A5 c5 0 W hm5 h5 (by rw [List.length_append]; omega)
          have hrw := read_written n nm L sg ys hn01 hpl hok
          rw [← hkd, hZ] at hrw
          rw [rdAt_zero, hrw] at KR
          unfold RdV at KR
          simp only [Option.getD_some, Option.isSome_some] at KR
          obtain ⟨cap4, W4, hcv, hR4, hb4⟩ := conv_str wx Z hZ256 (by omega)
          unfold strV at hcv
          rw [hSW] at hcv
          have hsz : SW.size = Z.length := by rw [← hSW]; exact size_str Z
          obtain ⟨ZL, hZL⟩ : ∃ n, Z.length = n := ⟨_, rfl⟩
          rw [hZL] at hcv hsz KR hZl
          have hzy : (Z ++ ys).length = ZL + M := by rw [List.length_append, hZL, hyl]
          rw [hzy, HH.out.2.2.1, hNl, ← hkd] at KR
          have bx : Below w.heap.size w wx := HQ.out.2.2.1.trans (hbx.mono HQ.out.2.2.1.size)
          have hbw4 : Below wo.heap.size wo W4 := hbx.trans (hb4.mono hbx.size)
          have y4 : BY W4 W4.heap.size ys A' cap' := HQ.out.2.2.2.1.on hbw4
          have KA := fun W A1 A2 c1 c2 h1 h2 => alike_same ⟨n, ZL, nm, L, sg, true⟩ A1 A2 c1 c2 W h1 h2
          unfold tagV strV at KA
          dsimp only at KA
          rw [HH.out.2.2.1, hNl, ← hkd] at KA
          have HE := Lib.hid (And.intro KR (And.intro KA (And.intro hR4 (And.intro y4 (And.intro hbw4 (And.intro hZL (And.intro hyl hZl)))))))
          have hbs := hbx.size
          have HBX := Lib.hid hbs
          clear hbs
          clear KR KA hR4 y4 hbw4 hZL hyl hzl hzy hSW hZ256 hnl hM6 hk8 hwl hNl hp0 hrw hn01 hpl hok hkd eW hZ hbx bx hb4 hRT
          have j8 : (2 : Int) < (SW.size : Int) := by have := HE.out.2.2.2.2.2.2.2.1; omega
          go_wp2_with (first
            | (at_builtin
               refine wpList_appM rfl (.tmp 115) (.tmp 116) rfl wx.heap.size wx.heap.size (Nat.le_refl _) Z ys ZL cap4 HE.out.2.2.2.2.2.1 rfl HE.out.2.2.1 A' M cap' HE.out.2.2.2.2.2.2.1 rfl HE.out.2.2.2.1 (by have := HE.out.2.2.2.2.2.2.2.2; have := HH.out.2.2.2.2.2.2.2; omega) ?_)
            | fail)
          intro A5 cp5 w5 hB5 hb5
          have b5 : Below wo.heap.size wo w5 := HE.out.2.2.2.2.1.trans (hb5.mono HBX.out)
          have m5 : MX w5 := HQ.out.2.2.2.2.2.1.on HQ.out.2.2.2.2.2.1.pos b5
          have H5 := Lib.hid (And.intro b5 (And.intro m5 hB5))
          clear b5 m5 hB5 hb5
          go_wp2_with fail
          refine (HE.out.1 _ _ _ H5.out.2.1 H5.out.2.2).mono ?_
          rintro r w6 ⟨A6, c6, rfl, ha6, hb6⟩
          have b6 : Below wo.heap.size wo w6 := H5.out.1.trans (hb6.mono H5.out.1.size)
          obtain ⟨W7, hW7⟩ : ∃ W, w6.alloc (.cells #[.int .i64 kd, .int .i64 (ZL : Int), .string SN, .slice A6 k c6, .bool sg, .bool true] 26) = W := ⟨_, rfl⟩
          have b67 : Below w6.heap.size w6 W7 := by rw [← hW7]; exact below_new _ _
          have b7 : Below wo.heap.size wo W7 := b6.trans (b67.mono b6.size)
          have x7 : Cells W7 w6.heap.size 26 #[.int .i64 kd, .int .i64 (ZL : Int), .string SN, .slice A6 k c6, .bool sg, .bool true] := by rw [← hW7]; exact cells_new _ _ _
          have xo7 := HQ.out.2.1.on b7
          have a7 := ha6.on b67
          have a07 := HQ.out.2.2.2.2.1.on b7
          have y0 := xo7.cell 0
          have y2 := xo7.cell 2
          have y3 := xo7.cell 3
          have y4 := xo7.cell 4
          have lx := xo7.lt
          have l7 := x7.lt
          simp at y0 y2 y3 y4
          have H7 := Lib.hid (And.intro x7 (And.intro a7 (And.intro a07 b7)))
          clear b6 b67 b7 x7 xo7 a7 a07 ha6 hb6
          go_upto_region 22 with fail
          clear hW7 y0 y2 y3 y4
          first
            | generalize hW8 : W7.alloc (.cells #[.int .i64 kd, .int .i64 (ZL : Int), .string SN, .slice A k c, .bool sg, .bool true] 31) = W8
            | generalize hW8 : W7.alloc (.cells #[.int .i64 kd, .int .i64 (SW.size : Int), .string SN, .slice A k c, .bool sg, .bool true] 31) = W8
          have b78 : Below W7.heap.size W7 W8 := by rw [← hW8]; exact below_new _ _
          have x8 : Cells W8 W7.heap.size 31 #[.int .i64 kd, .int .i64 (ZL : Int), .string SN, .slice A k c, .bool sg, .bool true] := by rw [← hW8]; first | exact cells_new _ _ _ | (rw [hsz]; exact cells_new _ _ _)
          have x7 := H7.out.1.on b78
          have C := HE.out.2.1 W8 A6 A c6 c (H7.out.2.1.on b78) (H7.out.2.2.1.on b78)
          have b8 : Below wo.heap.size wo W8 := H7.out.2.2.2.trans (b78.mono H7.out.2.2.2.size)
          have p0 := x7.cell 0
          have p1 := x7.cell 1
          have p2 := x7.cell 2
          have p3 := x7.cell 3
          have p4 := x7.cell 4
          have p5 := x7.cell 5
          have q0 := x8.cell 0
          have q1 := x8.cell 1
          have q2 := x8.cell 2
          have q3 := x8.cell 3
          have q4 := x8.cell 4
          have q5 := x8.cell 5
          simp at p0 p1 p2 p3 p4 p5 q0 q1 q2 q3 q4 q5
          have H8 := Lib.hid (And.intro C (HQ.out.2.2.1.trans (b8.mono HQ.out.2.2.1.size)))
          clear C x7 x8 b8 b78 hW8
          go_wp2_with fail
          refine H8.out.1.mono ?_
          rintro r w9 ⟨rfl, hb9⟩
          have HB := Lib.hid (H8.out.2.trans (hb9.mono H8.out.2.size))
          clear hb9
          go_wp2_with fail
          go_ret
          exact ⟨by first | rfl | simp, HB.out⟩
      case pos =>
        have i4 : (k : Int) < (N : Int) := by omega
        obtain ⟨a, hx⟩ := at_lt (l := L) (k := k) (by rw [HH.out.1]; exact hlt)
        obtain ⟨b, o, rfl, hbl, f0, f1⟩ := (HY.out.2.2.2.1.below hr.b).r k a hx
        rw [← Nat.add_assoc] at f1
        have hB := HH.out.2.2.2.2.1 a (List.mem_of_getElem? hx)
        have zn : (⟨(u8s a.1).toArray⟩ : ByteArray).size = a.1.length := size_str _
        have zv : (⟨(u8s a.2).toArray⟩ : ByteArray).size = a.2.length := size_str _
        have hsn := okTo_snoc' (RB := RB) hx
        have KN := fun (hl : a.1.length ≤ 60) W => plain_any a.1 hB.1 (by omega) W
        have hix := fun (j x : Nat) (hj : a.2[j]? = some x) => index_str hj (hB.2 x (List.mem_of_getElem? hj))
        unfold strV at KN
        obtain ⟨S1, hS1⟩ : ∃ S : ByteArray, ⟨(u8s a.1).toArray⟩ = S := ⟨_, rfl⟩
        obtain ⟨S2, hS2⟩ : ∃ S : ByteArray, ⟨(u8s a.2).toArray⟩ = S := ⟨_, rfl⟩
        rw [hS1] at f0 zn KN
        rw [hS2] at f1 zv hix
        obtain ⟨A9, n9, c9, rfl⟩ := hr.o.slice
        have p3 := xo.cell 3
        simp at p3
        have bwo : Below w.heap.size w wo := HY.out.2.2.1.trans (hr.b.mono (by have := HY.out.2.2.2.2.2.2; have := HY.out.2.2.1.size; omega))
        have HQ := Lib.hid (And.intro hr (And.intro xo (And.intro bwo (And.intro hx (And.intro hsn (And.intro KN (And.intro hix (And.intro hS1 hS2))))))))
        clear hr xo bwo hsn KN hix hS1 hS2 hx hbl hB
        by_cases l1 : 60 < S1.size
        · have j1 : (60 : Int) < (S1.size : Int) := by omega
          clear l1 zn zv
          go_wp2_with fail
          go_ret
          exact ⟨rfl, below_lit HQ.out.2.2.1 _⟩
        have j1 : ¬ (60 : Int) < (S1.size : Int) := by omega
        by_cases l2 : 60 < S2.size
        · have j2 : (60 : Int) < (S2.size : Int) := by omega
          clear l1 l2 zn zv
          go_wp2_with fail
          go_ret
          exact ⟨rfl, below_lit HQ.out.2.2.1 _⟩
        have j2 : ¬ (60 : Int) < (S2.size : Int) := by omega
        have l60 : a.1.length ≤ 60 ∧ a.2.length ≤ 60 := by omega
        have hw0 : (wo.alloc (.cells #[.string S1, .string S2] 39)).alloc (.cells #[strV a.1, strV a.2] 40) = (wo.alloc (.cells #[.string S1, .string S2] 39)).alloc (.cells #[.string S1, .string S2] 40) := by
          unfold strV
          rw [HQ.out.2.2.2.2.2.2.2.1, HQ.out.2.2.2.2.2.2.2.2]
        have oA : OwnA (wo.alloc (.cells #[.string S1, .string S2] 39)) (G + 1) (L.take k) (.slice A9 n9 c9) := HQ.out.1.o.below (below_new wo _)
        have cA : Cells (wo.alloc (.cells #[.string S1, .string S2] 39)) G 26 #[.int .i64 kd, .int .i64 0, .string SN, .slice A9 n9 c9, .bool sg, .bool false] := HQ.out.1.c.on (below_new wo _)
        have nA : Cells (wo.alloc (.cells #[.string S1, .string S2] 39)) wo.heap.size 39 #[.string S1, .string S2] := cells_new _ _ _
        have cc := HQ.out.1.c
        have q3 := cc.cell 3
        simp at q3
        have htk : (L.take k).length ≤ 1000000 := by have := HH.out.2.2.2.2.2.2.1; have := HH.out.1; simp; omega
        obtain ⟨LK, hLK⟩ : ∃ l, L.take k = l := ⟨_, rfl⟩
        rw [hLK] at oA htk
        have HLK := Lib.hid hLK
        clear hLK
        have HW := Lib.hid (And.intro hw0 (And.intro oA (And.intro cA (And.intro nA (And.intro htk (And.intro l60 (And.intro (And.intro zn zv) go)))))))
        clear hw0 oA cA nA htk l60 zn zv l1 l2 cc
        go_wp2_with (first
          | (at_builtin
             refine wpList_appA rfl (.tmp 77) (.tmp 83) rfl (G + 1) _ LK a rfl (wo.alloc (.cells #[.string S1, .string S2] 39)) HW.out.2.1 HW.out.1 (wo.heap.size + 1) (by simp) rfl HW.out.2.2.2.2.1 (by have := HW.out.2.2.2.2.2.2.2; simp; omega) ?_)
          | fail)
        intro g5 cp5 w5 ho5 hb5 hg5
        have c5 : Cells w5 G 26 #[.int .i64 kd, .int .i64 0, .string SN, .slice A9 n9 c9, .bool sg, .bool false] := (hb5.block _ (by omega)).trans HW.out.2.2.1
        have n5 : Cells w5 wo.heap.size 39 #[.string S1, .string S2] := (hg5.block _ HW.out.2.2.2.1.lt (fun e => by have := (own_block_lt HQ.out.1.o _ e.symm).2; omega)).trans HW.out.2.2.2.1
        have fr3 := c5.froz 3
        have q3' := c5.cell 3
        simp at q3'
        have ne : wo.heap.size ≠ G := by omega
        have n6 : Cells (w5.setCell ⟨G, 3, none⟩ (.slice (some ⟨g5, 0, none⟩) (LK.length + 1) cp5)) wo.heap.size 39 #[.string S1, .string S2] := by
          unfold Cells
          rw [Below.heap_setCell _ _ _ _ ne]
          exact n5
        have c6 : Cells (w5.setCell ⟨G, 3, none⟩ (.slice (some ⟨g5, 0, none⟩) (LK.length + 1) cp5)) G 26 #[.int .i64 kd, .int .i64 0, .string SN, .slice (some ⟨g5, 0, none⟩) (LK.length + 1) cp5, .bool sg, .bool false] := by
          have := c5.set 3 (.slice (some ⟨g5, 0, none⟩) (LK.length + 1) cp5)
          simpa using this
        have o6 := ho5.set (j := G) (by omega) 3 (.slice (some ⟨g5, 0, none⟩) (LK.length + 1) cp5)
        have b6 : Below G W3 (w5.setCell ⟨G, 3, none⟩ (.slice (some ⟨g5, 0, none⟩) (LK.length + 1) cp5)) := (((HQ.out.1.b.trans ((below_new wo (.cells #[.string S1, .string S2] 39)).mono (by omega))).trans (hb5.mono (by omega))).setc (Nat.le_refl _) 3 _)
        have r6 : WRel G W3 kd SN L sg (k + 1) (.slice (some ⟨g5, 0, none⟩) (LK.length + 1) cp5) (w5.setCell ⟨G, 3, none⟩ (.slice (some ⟨g5, 0, none⟩) (LK.length + 1) cp5)) := by
          refine ⟨c6, ?_, b6, fun j y hj hy => ?_⟩
          · rw [List.take_add_one, HQ.out.2.2.2.1, HLK.out]
            exact o6
          · by_cases e : j = k
            · subst e
              have e := hy.symm.trans HQ.out.2.2.2.1
              injection e with e
              rw [e]
              exact HW.out.2.2.2.2.2.1
            · exact HQ.out.1.s j y (by omega) hy
        obtain ⟨w6, hw6⟩ : ∃ W, w5.setCell ⟨G, 3, none⟩ (.slice (some ⟨g5, 0, none⟩) (LK.length + 1) cp5) = W := ⟨_, rfl⟩
        rw [hw6] at n6 r6
        have m0 := n6.cell 0
        have m1 := n6.cell 1
        simp at m0 m1
        have HZ := Lib.hid (And.intro n6 r6)
        clear c5 n5 c6 o6 b6 n6 ho5 hb5 hg5 r6
        cases hR : okTo RB L k with
        | false =>
          have HR2 := Lib.hid hR
          clear hR
          go_wp2_with fail
          go_loopw [6, 9] (fun rt i wx => ∃ j : Nat, rt = .bool (false && vOk a.2 j) ∧ i = .int .i64 (j : Int) ∧ j ≤ a.2.length ∧ wx = w6) (fun _ i _ => a.2.length - (RowKit.intOf i).toNat)
          case atStart => exact ⟨0, by simp [vOk], by go_num, by omega, rfl⟩
          case round =>
            obtain ⟨j, rfl, rfl, hj, ew⟩ := hrel
            obtain rfl := ew.symm
            clear ew
            by_cases hjl : j < a.2.length
            case pos =>
              have hzv := HW.out.2.2.2.2.2.2.1.2
              have j3 : (j : Int) < (S2.size : Int) := by omega
              have j5 : j < 60 := by omega
              obtain ⟨x, hjx⟩ := at_lt (l := a.2) hjl
              have hv := vOk_snoc hjx
              have hi := HQ.out.2.2.2.2.2.2.1 j x hjx
              cases hb : (false && vOk a.2 j) with
              | false =>
                have e2 : (false && vOk a.2 (j + 1)) = false := by rw [hv, ← Bool.and_assoc, hb]; rfl
                have HE := Lib.hid (And.intro e2 hjl)
                clear hb e2 hzv hv hi hjx hjl
                go_wp2_with fail
                go_roundw
                case rel => exact ⟨j + 1, by rw [HE.out.1], by go_num, by have := HE.out.2; omega, trivial⟩
                case measure => have hz := HE.out.2; simp only [RowKit.intOf]; exact meas_step hz
              | true =>
                by_cases x34 : x = 34
                · have d : ((x : Int) != 34) = false := by simp; omega
                  have e2 : (false && vOk a.2 (j + 1)) = false := by rw [hv, ← Bool.and_assoc, hb, x34]; rfl
                  have HE := Lib.hid (And.intro e2 hjl)
                  clear hb e2 hzv hv hjx hjl x34
                  generalize (x : Int) = X at *
                  go_wp2_with fail
                  go_roundw
                  case rel => exact ⟨j + 1, by rw [HE.out.1], by go_num, by have := HE.out.2; omega, trivial⟩
                  case measure => have hz := HE.out.2; simp only [RowKit.intOf]; exact meas_step hz
                · have d : ((x : Int) != 34) = true := by simp; omega
                  have e2 : (false && vOk a.2 (j + 1)) = true := by rw [hv, ← Bool.and_assoc, hb]; simp [x34]
                  have HE := Lib.hid (And.intro e2 hjl)
                  clear hb e2 hzv hv hjx hjl x34
                  generalize (x : Int) = X at *
                  go_wp2_with fail
                  go_roundw
                  case rel => exact ⟨j + 1, by rw [HE.out.1], by go_num, by have := HE.out.2; omega, trivial⟩
                  case measure => have hz := HE.out.2; simp only [RowKit.intOf]; exact meas_step hz
            case neg =>
              have hzv := HW.out.2.2.2.2.2.2.1.2
              have j3 : ¬ (j : Int) < (S2.size : Int) := by omega
              have e3 : (false && vOk a.2 j) = okTo RB L (k + 1) := by
                rw [HQ.out.2.2.2.2.1, HR2.out, vOk_all (by omega)]
                rfl
              rw [e3]
              clear e3 hzv hjl
              go_wp2_with fail
              go_roundw
              case rel => exact ⟨k + 1, _, rfl, by go_num, by omega, HZ.out.2⟩
              case measure => simp [RowKit.intOf]; omega
        | true =>
          have HR2 := Lib.hid hR
          clear hR
          go_wp2_with fail
          refine (HQ.out.2.2.2.2.2.1 HW.out.2.2.2.2.2.1.1 _).mono ?_
          rintro r wx ⟨rfl, ex⟩
          obtain rfl := ex.symm
          clear ex
          go_wp2_with fail
          go_loopw [6, 9] (fun rt i wx => ∃ j : Nat, rt = .bool (plnB a.1 && vOk a.2 j) ∧ i = .int .i64 (j : Int) ∧ j ≤ a.2.length ∧ wx = w6) (fun _ i _ => a.2.length - (RowKit.intOf i).toNat)
          case atStart => exact ⟨0, by simp [vOk], by go_num, by omega, rfl⟩
          case round =>
            obtain ⟨j, rfl, rfl, hj, ew⟩ := hrel
            obtain rfl := ew.symm
            clear ew
            by_cases hjl : j < a.2.length
            case pos =>
              have hzv := HW.out.2.2.2.2.2.2.1.2
              have j3 : (j : Int) < (S2.size : Int) := by omega
              have j5 : j < 60 := by omega
              obtain ⟨x, hjx⟩ := at_lt (l := a.2) hjl
              have hv := vOk_snoc hjx
              have hi := HQ.out.2.2.2.2.2.2.1 j x hjx
              cases hb : (plnB a.1 && vOk a.2 j) with
              | false =>
                have e2 : (plnB a.1 && vOk a.2 (j + 1)) = false := by rw [hv, ← Bool.and_assoc, hb]; rfl
                have HE := Lib.hid (And.intro e2 hjl)
                clear hb e2 hzv hv hi hjx hjl
                go_wp2_with fail
                go_roundw
                case rel => exact ⟨j + 1, by rw [HE.out.1], by go_num, by have := HE.out.2; omega, trivial⟩
                case measure => have hz := HE.out.2; simp only [RowKit.intOf]; exact meas_step hz
              | true =>
                by_cases x34 : x = 34
                · have d : ((x : Int) != 34) = false := by simp; omega
                  have e2 : (plnB a.1 && vOk a.2 (j + 1)) = false := by rw [hv, ← Bool.and_assoc, hb, x34]; rfl
                  have HE := Lib.hid (And.intro e2 hjl)
                  clear hb e2 hzv hv hjx hjl x34
                  generalize (x : Int) = X at *
                  go_wp2_with fail
                  go_roundw
                  case rel => exact ⟨j + 1, by rw [HE.out.1], by go_num, by have := HE.out.2; omega, trivial⟩
                  case measure => have hz := HE.out.2; simp only [RowKit.intOf]; exact meas_step hz
                · have d : ((x : Int) != 34) = true := by simp; omega
                  have e2 : (plnB a.1 && vOk a.2 (j + 1)) = true := by rw [hv, ← Bool.and_assoc, hb]; simp [x34]
                  have HE := Lib.hid (And.intro e2 hjl)
                  clear hb e2 hzv hv hjx hjl x34
                  generalize (x : Int) = X at *
                  go_wp2_with fail
                  go_roundw
                  case rel => exact ⟨j + 1, by rw [HE.out.1], by go_num, by have := HE.out.2; omega, trivial⟩
                  case measure => have hz := HE.out.2; simp only [RowKit.intOf]; exact meas_step hz
            case neg =>
              have hzv := HW.out.2.2.2.2.2.2.1.2
              have j3 : ¬ (j : Int) < (S2.size : Int) := by omega
              have e3 : (plnB a.1 && vOk a.2 j) = okTo RB L (k + 1) := by
                rw [HQ.out.2.2.2.2.1, HR2.out, vOk_all (by omega)]
                simp [okA]
              rw [e3]
              clear e3 hzv hjl
              go_wp2_with fail
              go_roundw
              case rel => exact ⟨k + 1, _, rfl, by go_num, by omega, HZ.out.2⟩
              case measure => simp [RowKit.intOf]; omega
end Go.Proofs.Ytplnkmojkdbbnaa
