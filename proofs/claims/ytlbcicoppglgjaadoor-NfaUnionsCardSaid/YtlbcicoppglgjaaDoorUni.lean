/-
  The walk of NfaUnions.
-/
import Derived.Test.YtlbcicoppglgjaaDoorUnb
namespace Go.Proofs.YtlbcicoppglgjaaDoor
open Go.RowKit Go.Shelf Go.Lib

/-- What the three sets have to do with one another. -/
structure UFact (Xl Yl Zl : List Int) : Prop where
  z : ∀ v ∈ Zl, v ∈ Xl ∨ v ∈ Yl
  r : Zl.Pairwise (· < ·)
  lx : Xl.length ≤ Zl.length
  ly : Yl.length ≤ Zl.length
  nx : Xl.length ≤ 1024
  ny : Yl.length ≤ 1024
  nz : Zl.length ≤ 1024
theorem ufact (se : Bool) (s : St) (xs ys : List Int) (m : Int) : UFact (posI (stepM se s xs m)) (posI (stepM se s ys m)) (posI (stepM se s (xs ++ ys) m)) := by
  have e := stepM_append se s xs ys m
  refine ⟨fun v hv => ?_, posI_rises _, posI_more fun p hp => ?_, posI_more fun p hp => ?_, posI_len _, posI_len _, posI_len _⟩
  · rw [e] at hv
    obtain ⟨p, rfl, hp⟩ := mem_posI.1 hv
    rw [inM_or, Bool.or_eq_true] at hp
    rcases hp with hp | hp
    · exact .inl (mem_posI.2 ⟨p, rfl, hp⟩)
    · exact .inr (mem_posI.2 ⟨p, rfl, hp⟩)
  · rw [e, inM_or, hp]; rfl
  · rw [e, inM_or, hp]; simp
theorem ufact2 (se : Bool) (ks : List E) (xs ys : List Int) (m : Int) :
    stepM se (mkN ks) (posI (stepM se (mkN ks) (xs ++ ys) m)) m = stepM se (mkN ks) (([-1, 5000] ++ posI (stepM se (mkN ks) xs m)) ++ posI (stepM se (mkN ks) ys m)) m := by
  have e1 : ([-1, 5000] ++ posI (stepM se (mkN ks) xs m)) ++ posI (stepM se (mkN ks) ys m) = -1 :: 5000 :: (posI (stepM se (mkN ks) xs m) ++ posI (stepM se (mkN ks) ys m)) := by simp
  rw [e1, stepM_far se (near_mkN ks) (-1) 5000 m _ (by omega) (by omega), stepM_append se _ xs ys m]
  unfold stepM
  have e2 := nextU_append (mkN ks) (posI (stepM se (mkN ks) xs m)) (posI (stepM se (mkN ks) ys m))
  have e3 := nextU_or (mkN ks) (stepM se (mkN ks) xs m) (stepM se (mkN ks) ys m)
  unfold stepM at e2 e3
  rw [e2, e3]
theorem rises_lt {l : List Int} (h : l.Pairwise (· < ·)) {i : Nat} {x y : Int} (hx : l[i]? = some x) (hy : l[i + 1]? = some y) : x < y := by
  obtain ⟨h1, rfl⟩ := List.getElem?_eq_some_iff.1 hx
  obtain ⟨h2, rfl⟩ := List.getElem?_eq_some_iff.1 hy
  exact List.pairwise_iff_getElem.1 h i (i + 1) h1 h2 (by omega)
theorem mem_take1 {l : List Int} {k : Nat} {x z : Int} (h : l[k]? = some x) : decide (z ∈ l.take (k + 1)) = (decide (z ∈ l.take k) || (x == z)) := by
  rw [List.take_add_one, h, Option.toList_some]
  by_cases h1 : z ∈ l.take k
  · simp [h1]
  · by_cases h2 : x = z
    · subst h2; simp
    · have h3 : (x == z) = false := by simpa using h2
      have h4 : ¬ z = x := fun e => h2 e.symm
      simp [h1, h3, h4]
set_option maxHeartbeats 16000000 in
set_option maxRecDepth 100000 in
theorem unions_main (se : Bool) (ks : List E) (xs ys : List Int) (m : Int) (Ak Ax Ay : Option Addr) (ck cx cy : Nat) (w : World) (h : UArg w ks xs ys m Ak Ax Ay ck cx cy) (h80 : szL ks ≤ 80) (h1 : xs.length ≤ 12) (h2 : ys.length ≤ 12)
    (hr : ks.all rightE = true) (h40 : ks.length ≤ 40) :
    Calls Tryd.prog 5 #[.bool se, .slice Ak ks.length ck, .slice Ax xs.length cx, .slice Ay ys.length cy, .int .i64 m] w (UOk w) := by
  have C := great_any ks Ak ck w h.k
  rw [show decide (80 < szL ks) = false by simp; omega] at C
  have C := Lib.hid C
  have H := Lib.hid (And.intro h (And.intro hr (And.intro h80 h40)))
  obtain ⟨nx, hnx⟩ : ∃ n, xs.length = n := ⟨_, rfl⟩
  obtain ⟨ny, hny⟩ : ∃ n, ys.length = n := ⟨_, rfl⟩
  rw [hnx] at h1 ⊢
  rw [hny] at h2 ⊢
  have HNX := Lib.hid hnx
  have HNY := Lib.hid hny
  have i1 : decide ((12 : Int) < (nx : Int)) = false := by simp; omega
  have i2 : decide ((12 : Int) < (ny : Int)) = false := by simp; omega
  have i1' : ¬ (12 : Int) < (nx : Int) := by omega
  have i2' : ¬ (12 : Int) < (ny : Int) := by omega
  clear h hr hnx hny h80 h40
  go_enter Tryd.func5, Tryd.ntmps5
  go_wp2_with fail
  refine C.out.mono ?_
  rintro r w2 ⟨rfl, hb2⟩
  have H2 := Lib.hid (And.intro hb2 (H.out.1.t.below hb2 H.out.1.t.lt))
  clear hb2
  go_wp2_with fail
  refine (awake_any w2 H2.out.2).mono ?_
  rintro r w3 ⟨rfl, hb3⟩
  have hb03 := H2.out.1.trans (hb3.mono H2.out.1.size)
  have C3 := allRight_any ks Ak ck w3 (H.out.1.k.on hb03) (by have := H.out.2.2.1; omega)
  rw [H.out.2.1, show decide (ks.length ≤ 40) = true by simpa using H.out.2.2.2] at C3
  have C3 := Lib.hid C3
  have H3 := Lib.hid hb03
  clear hb3 hb03
  go_wp2_with fail
  refine C3.out.mono ?_
  rintro r w4 ⟨rfl, hb4⟩
  have hb04 := H3.out.trans (hb4.mono H3.out.size)
  have C4 := Lib.hid (toL_any ks (by have := H.out.2.2.1; omega) Ak ck w4 (H.out.1.k.on hb04))
  have H4 := Lib.hid hb04
  clear hb4 hb04
  go_wp2_with fail
  refine C4.out.mono ?_
  rintro r w5 ⟨A5, c5, rfl, hks5, hb5⟩
  have hb05 := H4.out.trans (hb5.mono H4.out.size)
  have C5 := Lib.hid (new_any se ks A5 c5 w5 (hks5.ks (fun b hb => hb.2) (fun e v hN => NdP.nd (fun b hb => hb.2) _ e v (Nat.le_refl _) hN)) (fault_zero H.out.2.1 H.out.2.2.2 H.out.2.2.1) (H.out.1.t.below hb05 H.out.1.t.lt))
  have H5 := Lib.hid hb05
  clear hks5 hb5 hb05
  go_wp2_with fail
  refine C5.out.mono ?_
  rintro r w6 ⟨q, nn, rfl, _, hn6, hb6⟩
  have hb06 := H5.out.trans (hb6.mono H5.out.size)
  have a6 := H.out.1.below hb06
  have H6 := Lib.hid (And.intro hn6 (And.intro hb06 a6))
  have b67 := below_new w6 (.cells (intsC []).toArray 3)
  have H7 := Lib.hid (And.intro (a6.below b67) (And.intro (hn6.below b67) (And.intro (hb06.trans (b67.mono hb06.size)) (ownI_lit w6 [] (by simp)))))
  clear hn6 hb6 hb06 a6 b67
  go_wp2_with (first
    | (at_builtin; refine wpList_append_is rfl (.tmp 48) (.tmp 49) rfl w6.heap.size _ [] rfl H7.out.2.2.2 xs Ax cx (by rw [HNX.out]; rfl) H7.out.1.x H7.out.1.zx (by rw [HNX.out]; simp; omega) (by simp) ?_
       intro v7 w7 ho7 hg7
       have hb77 := (Below.refl w6.heap.size w6).alloc (Nat.le_refl _) (.cells (intsC []).toArray 3) |>.grown hg7 (by simp) (fun k hk => (H7.out.2.2.2.lt k hk).1)
       have hb07 := H6.out.2.1.trans (hb77.mono H6.out.2.1.size)
       have H8 := Lib.hid (And.intro (H6.out.2.2.below hb77) (And.intro (H6.out.1.below hb77) (And.intro hb07 (And.intro ho7 hb77))))
       clear ho7 hg7 hb77 hb07)
    | (at_builtin; refine wpList_append_is rfl (.tmp 50) (.tmp 51) rfl w6.heap.size _ ([] ++ xs) rfl H8.out.2.2.2.1 ys Ay cy (by rw [HNY.out]; rfl) H8.out.1.y H8.out.1.zy (by rw [HNY.out]; simp; rw [HNX.out]; omega) H8.out.2.2.2.2.size ?_
       intro v8 w8 ho8 hg8
       have hb88 := H8.out.2.2.2.2.grown hg8 H8.out.2.2.2.2.size (fun k hk => (H8.out.2.2.2.1.lt k hk).1)
       have hb08 := H6.out.2.1.trans (hb88.mono H6.out.2.1.size)
       have H9 := Lib.hid (And.intro (H6.out.2.2.below hb88) (And.intro (H6.out.1.below hb88) (And.intro hb08 ho8)))
       clear ho8 hg8 hb88 hb08)
    | fail)
  have hall : ∀ v ∈ ([] ++ xs) ++ ys, i64 v := by
    intro v hv
    simp at hv
    rcases hv with hv | hv
    · exact H.out.1.x.i v hv
    · exact H.out.1.y.i v hv
  obtain ⟨A8, c8, rfl, i8, _⟩ := OwnI.is H9.out.2.2.2 hall
  have hxy : ([] ++ xs) ++ ys = xs ++ ys := by simp
  rw [hxy] at i8 ⊢
  obtain ⟨nb, hnb⟩ : ∃ n, (xs ++ ys).length = n := ⟨_, rfl⟩
  have hnbl : nb ≤ 24 := by rw [← hnb, List.length_append, HNX.out, HNY.out]; omega
  have CS1 := step_any H9.out.2.1 H9.out.1.t xs Ax cx H9.out.1.x m H9.out.1.m
  rw [HNX.out] at CS1
  have CS1 := Lib.hid CS1
  have HNB := Lib.hid hnb
  have H10 := Lib.hid i8
  rw [hnb]
  clear i8 hxy hall hnb
  refine CS1.out.mono ?_
  rintro r w9 ⟨v9, rfl, ho9, hb9⟩
  have a9 := H9.out.1.below hb9
  have n9 := H9.out.2.1.below hb9
  have CS2 := step_any n9 a9.t ys Ay cy a9.y m a9.m
  rw [HNY.out] at CS2
  have CS2 := Lib.hid CS2
  have H11 := Lib.hid (And.intro a9 (And.intro n9 (And.intro (H9.out.2.2.1.trans (hb9.mono H9.out.2.2.1.size)) (And.intro ho9 (H10.out.on hb9)))))
  clear a9 n9 ho9 hb9
  go_wp2_with fail
  refine CS2.out.mono ?_
  rintro r w10 ⟨v10, rfl, ho10, hb10⟩
  have a10 := H11.out.1.below hb10
  have n10 := H11.out.2.1.below hb10
  have CS3 := step_any n10 a10.t (xs ++ ys) A8 c8 (H11.out.2.2.2.2.on hb10) m a10.m
  rw [HNB.out] at CS3
  have CS3 := Lib.hid CS3
  have H12 := Lib.hid (And.intro a10 (And.intro n10 (And.intro (H11.out.2.2.1.trans (hb10.mono H11.out.2.2.1.size)) (And.intro (ownsRow_below H11.out.2.2.2.1 hb10) (And.intro ho10 (H11.out.2.2.2.2.on hb10))))))
  clear a10 n10 ho10 hb10
  go_wp2_with fail
  refine CS3.out.mono ?_
  rintro r w11 ⟨v11, rfl, ho11, hb11⟩
  obtain ⟨AX, cX, rfl, iX, zX⟩ := OwnP.is2 (ownsRow_below H12.out.2.2.2.1 hb11)
  obtain ⟨AY, cY, rfl, iY, zY⟩ := OwnP.is2 (ownsRow_below H12.out.2.2.2.2.1 hb11)
  obtain ⟨AZ, cZ, rfl, iZ, _⟩ := OwnP.is2 ho11
  have a11 := H12.out.1.below hb11
  have n11 := H12.out.2.1.below hb11
  have hb011 := H12.out.2.2.1.trans (hb11.mono H12.out.2.2.1.size)
  have i11 := H12.out.2.2.2.2.2.on hb11
  have HU := Lib.hid (And.intro (ufact se (mkN ks) xs ys m) (ufact2 se ks xs ys m))
  generalize posI (stepM se (mkN ks) xs m) = Xl at *
  generalize posI (stepM se (mkN ks) ys m) = Yl at *
  generalize hZl : posI (stepM se (mkN ks) (xs ++ ys) m) = Zl at *
  obtain ⟨NX, hNX⟩ : ∃ n, Xl.length = n := ⟨_, rfl⟩
  obtain ⟨NY, hNY⟩ : ∃ n, Yl.length = n := ⟨_, rfl⟩
  obtain ⟨NZ, hNZ⟩ : ∃ n, Zl.length = n := ⟨_, rfl⟩
  rw [hNX, hNY, hNZ]
  have bX : NX ≤ 1024 ∧ NY ≤ 1024 ∧ NZ ≤ 1024 ∧ NX ≤ NZ ∧ NY ≤ NZ := by
    have u := HU.out.1
    have := u.nx; have := u.ny; have := u.nz; have := u.lx; have := u.ly
    omega
  have HL := Lib.hid (And.intro hNX (And.intro hNY hNZ))
  have HB := Lib.hid (And.intro iX (And.intro iY (And.intro iZ (And.intro zX zY))))
  have HM := Lib.hid (And.intro a11 (And.intro n11 (And.intro hb011 i11)))
  clear hNX hNY hNZ iX iY iZ zX zY a11 n11 hb011 i11 ho11 hb11 CS1 CS2 CS3 C C3 C4 C5 hZl
  go_wp2_with fail
  go_loopw [17] (fun v wr => ∃ i : Nat, v = .int .i64 (i : Int) ∧ i ≤ NZ ∧ Below w11.heap.size w11 wr) (fun v _ => NZ - (RowKit.intOf v).toNat)
  case atStart => exact ⟨0, rfl, by omega, Below.refl _ _⟩
  case round =>
    obtain ⟨wo, rfl⟩ : ∃ wo : World, wo = wr := ⟨_, rfl⟩
    obtain ⟨i, rfl, hi, hbo⟩ := hrel
    by_cases hlt : i < NZ
    · have j1 : (i : Int) < (NZ : Int) := by omega
      obtain ⟨zi, hzi⟩ : ∃ z, Zl[i]? = some z := ⟨Zl[i]'(by rw [HL.out.2.2]; exact hlt), List.getElem?_eq_getElem _⟩
      obtain ⟨bz, oz, rfl, hbz, hcz⟩ := HB.out.2.2.1.r (by rintro rfl; simp at hzi)
      have HZ := Lib.hid (And.intro hbz (And.intro (hcz i zi hzi) (And.intro hzi (And.intro (HU.out.1.z zi (List.mem_of_getElem? hzi)) hcz))))
      have HO := Lib.hid hbo
      clear hbo hzi hcz hbz
      go_wp2_with fail
      go_loopw [18, 19] (fun f v wr => ∃ k : Nat, v = .int .i64 (k : Int) ∧ k ≤ NX ∧ f = .bool (decide (zi ∈ Xl.take k)) ∧ Below w11.heap.size w11 wr) (fun _ v _ => NX - (RowKit.intOf v).toNat)
      case atStart => exact ⟨0, rfl, by omega, by simp, HO.out⟩
      case round =>
        obtain ⟨k, rfl, hk, rfl, hb⟩ := hrel
        by_cases hlk : k < NX
        · have k1 : (k : Int) < (NX : Int) := by omega
          obtain ⟨x, hx⟩ : ∃ x, Xl[k]? = some x := ⟨Xl[k]'(by rw [HL.out.1]; exact hlk), List.getElem?_eq_getElem _⟩
          obtain ⟨bx, ox, rfl, hbx, hcx⟩ := HB.out.1.r (by rintro rfl; simp at hx)
          have d0 : wr.cell? ⟨bx, ox + k, none⟩ = some (.int .i64 x) := (hb.cell (p := ⟨bx, ox + k, none⟩) hbx).trans (hcx k x hx)
          have d1 : wr.cell? ⟨bz, oz + i, none⟩ = some (.int .i64 zi) := (hb.cell (p := ⟨bz, oz + i, none⟩) HZ.out.1).trans HZ.out.2.1
          have hmt := mem_take1 (z := zi) hx
          have HK := Lib.hid (And.intro hb hmt)
          clear hb hmt hcx
          obtain ⟨F, hF⟩ : ∃ F, (decide (zi ∈ Xl.take k)) = F := ⟨_, rfl⟩
          rw [hF]
          have HF := Lib.hid hF
          clear hF
          cases F
          · by_cases he : x = zi
            · have hq : (x == zi) = true := by simpa using he
              have HE := Lib.hid (show (decide (zi ∈ Xl.take (k + 1))) = true by rw [HK.out.2, hq]; simp)
              clear he
              go_wp2_with fail
              go_quiet (fail)
              rename_i nq _
              go_wp2_with fail
              go_roundw
              case rel => exact ⟨k + 1, by go_num, by omega, by rw [HE.out], below_drewN HK.out.1 _⟩
              case measure => simp [RowKit.intOf]; omega
            · have hq : (x == zi) = false := by simpa using he
              have HE := Lib.hid (show (decide (zi ∈ Xl.take (k + 1))) = false by rw [HK.out.2, hq, Bool.or_false]; exact HF.out)
              clear he
              go_wp2_with fail
              go_quiet (fail)
              rename_i nq _
              go_wp2_with fail
              go_roundw
              case rel => exact ⟨k + 1, by go_num, by omega, by rw [HE.out], below_drewN HK.out.1 _⟩
              case measure => simp [RowKit.intOf]; omega
          · have HE := Lib.hid (show (decide (zi ∈ Xl.take (k + 1))) = true by rw [HK.out.2, HF.out]; rfl) 
            go_wp2_with fail
            go_quiet (fail)
            rename_i nq _
            go_wp2_with fail
            go_roundw
            case rel => exact ⟨k + 1, by go_num, by omega, by rw [HE.out], below_drewN HK.out.1 _⟩
            case measure => simp [RowKit.intOf]; omega
        · obtain rfl : k = NX := by omega
          have k1 : ¬ (k : Int) < (k : Int) := by omega
          have HO := Lib.hid hb
          have ht : Xl.take k = Xl := by rw [← HL.out.1, List.take_length]
          rw [ht]
          clear hb ht
          go_wp2_with fail
          go_loopw [18, 20] (fun f v wr => ∃ k : Nat, v = .int .i64 (k : Int) ∧ k ≤ NY ∧ f = .bool ((decide (zi ∈ Xl) || decide (zi ∈ Yl.take k))) ∧ Below w11.heap.size w11 wr) (fun _ v _ => NY - (RowKit.intOf v).toNat)
          case atStart => exact ⟨0, rfl, by omega, by simp, HO.out⟩
          case round =>
            obtain ⟨k, rfl, hk, rfl, hb⟩ := hrel
            by_cases hlk : k < NY
            · have k1 : (k : Int) < (NY : Int) := by omega
              obtain ⟨x, hx⟩ : ∃ x, Yl[k]? = some x := ⟨Yl[k]'(by rw [HL.out.2.1]; exact hlk), List.getElem?_eq_getElem _⟩
              obtain ⟨bx, ox, rfl, hbx, hcx⟩ := HB.out.2.1.r (by rintro rfl; simp at hx)
              have d0 : wr.cell? ⟨bx, ox + k, none⟩ = some (.int .i64 x) := (hb.cell (p := ⟨bx, ox + k, none⟩) hbx).trans (hcx k x hx)
              have d1 : wr.cell? ⟨bz, oz + i, none⟩ = some (.int .i64 zi) := (hb.cell (p := ⟨bz, oz + i, none⟩) HZ.out.1).trans HZ.out.2.1
              have hmt := mem_take1 (z := zi) hx
              have HK := Lib.hid (And.intro hb hmt)
              clear hb hmt hcx
              obtain ⟨F, hF⟩ : ∃ F, ((decide (zi ∈ Xl) || decide (zi ∈ Yl.take k))) = F := ⟨_, rfl⟩
              rw [hF]
              have HF := Lib.hid hF
              clear hF
              cases F
              · by_cases he : x = zi
                · have hq : (x == zi) = true := by simpa using he
                  have HE := Lib.hid (show ((decide (zi ∈ Xl) || decide (zi ∈ Yl.take (k + 1)))) = true by rw [HK.out.2, hq]; simp)
                  clear he
                  go_wp2_with fail
                  go_quiet (fail)
                  rename_i nq _
                  go_wp2_with fail
                  go_roundw
                  case rel => exact ⟨k + 1, by go_num, by omega, by rw [HE.out], below_drewN HK.out.1 _⟩
                  case measure => simp [RowKit.intOf]; omega
                · have hq : (x == zi) = false := by simpa using he
                  have HE := Lib.hid (show ((decide (zi ∈ Xl) || decide (zi ∈ Yl.take (k + 1)))) = false by rw [HK.out.2, hq, Bool.or_false]; exact HF.out)
                  clear he
                  go_wp2_with fail
                  go_quiet (fail)
                  rename_i nq _
                  go_wp2_with fail
                  go_roundw
                  case rel => exact ⟨k + 1, by go_num, by omega, by rw [HE.out], below_drewN HK.out.1 _⟩
                  case measure => simp [RowKit.intOf]; omega
              · have HE := Lib.hid (show ((decide (zi ∈ Xl) || decide (zi ∈ Yl.take (k + 1)))) = true by rw [HK.out.2, ← Bool.or_assoc, HF.out]; rfl) 
                go_wp2_with fail
                go_quiet (fail)
                rename_i nq _
                go_wp2_with fail
                go_roundw
                case rel => exact ⟨k + 1, by go_num, by omega, by rw [HE.out], below_drewN HK.out.1 _⟩
                case measure => simp [RowKit.intOf]; omega
            · obtain rfl : k = NY := by omega
              have k1 : ¬ (k : Int) < (k : Int) := by omega
              have ht : Yl.take k = Yl := by rw [← HL.out.2.1, List.take_length]
              have hfound : (decide (zi ∈ Xl) || decide (zi ∈ Yl.take k)) = true := by
                rw [ht]
                rcases HZ.out.2.2.2.1 with h | h <;> simp [h]
              rw [hfound]
              have HO2 := Lib.hid hb
              clear hb ht hfound k1
              cases i with
              | zero =>
                have g0 : decide ((0 : Int) < ((0 : Nat) : Int)) = false := by simp
                go_wp2_with fail
                go_quiet (fail)
                rename_i nq _
                go_wp2_with fail
                go_roundw
                case rel => exact ⟨1, by go_num, by omega, below_drewN HO2.out _⟩
                case measure => simp [RowKit.intOf]; omega
              | succ i' =>
                obtain ⟨zp, hzp⟩ : ∃ z, Zl[i']? = some z := ⟨Zl[i']'(by rw [HL.out.2.2]; omega), List.getElem?_eq_getElem _⟩
                have d0 : wr.cell? ⟨bz, oz + i', none⟩ = some (.int .i64 zp) := (HO2.out.cell (p := ⟨bz, oz + i', none⟩) HZ.out.1).trans (HZ.out.2.2.2.2 i' zp hzp)
                have d1 : wr.cell? ⟨bz, oz + (i' + 1), none⟩ = some (.int .i64 zi) := (HO2.out.cell (p := ⟨bz, oz + (i' + 1), none⟩) HZ.out.1).trans HZ.out.2.1
                have hlt2 : zp < zi := rises_lt HU.out.1.r hzp HZ.out.2.2.1
                have g0 : decide ((0 : Int) < ((i' : Int) + 1)) = true := decide_eq_true (by omega)
                have g0' : (0 : Int) < ((i' : Int) + 1) := by omega
                have g1 : decide (zi ≤ zp) = false := by simp; omega
                have g2 : ¬ zi ≤ zp := by omega
                have j2 : (i' : Int) < (NZ : Int) := by omega
                have j3 : (i' : Int) + 1 < (NZ : Int) := by omega
                clear hzp
                go_wp2_with fail
                go_quiet (fail)
                rename_i nq _
                go_wp2_with fail
                go_roundw
                case rel => exact ⟨i' + 2, by go_num, by omega, below_drewN HO2.out _⟩
                case measure => simp [RowKit.intOf]; omega
    · obtain rfl : i = NZ := by omega
      have j1 : ¬ (i : Int) < (i : Int) := by omega
      have aO := HM.out.1.below hbo
      have nO := HM.out.2.1.below hbo
      have T1 := tells_any nO (xs ++ ys) A8 c8 (HM.out.2.2.2.on hbo)
      have T2 := tells_any nO xs Ax cx aO.x
      have T3 := tells_any nO ys Ay cy aO.y
      rw [HNB.out] at T1
      rw [HNX.out] at T2
      rw [HNY.out] at T3
      have hta := tellsU_append (mkN ks) xs ys
      have hl2 := tellsU_lt nO.t xs
      have hl3 := tellsU_lt nO.t ys
      obtain ⟨t1, ht1⟩ : ∃ t, tellsU (mkN ks) (xs ++ ys) = t := ⟨_, rfl⟩
      obtain ⟨t2, ht2⟩ : ∃ t, tellsU (mkN ks) xs = t := ⟨_, rfl⟩
      obtain ⟨t3, ht3⟩ : ∃ t, tellsU (mkN ks) ys = t := ⟨_, rfl⟩
      rw [ht1] at T1
      rw [ht2] at T2
      rw [ht3] at T3
      rw [ht1, ht2, ht3] at hta
      rw [ht2] at hl2
      rw [ht3] at hl3
      have hq : ((t1 : Int) == bits .or .u64 (t2 : Int) (t3 : Int)) = true := by
        rw [bits_or_u64_nat _ _ hl2 hl3, hta]; simp
      have T1 := Lib.hid T1
      have T2 := Lib.hid T2
      have T3 := Lib.hid T3
      have p1 : (NX : Int) ≤ (i : Int) := by omega
      have p2 : (NY : Int) ≤ (i : Int) := by omega
      have CZ := step_any nO aO.t Zl AZ cZ (HB.out.2.2.1.on hbo) m aO.m
      rw [HL.out.2.2] at CZ
      have CZ := Lib.hid CZ
      have HO := Lib.hid (And.intro aO (And.intro nO (And.intro (HM.out.2.2.1.trans (hbo.mono HM.out.2.2.1.size)) (And.intro (HB.out.1.on hbo) (HB.out.2.1.on hbo)))))
      clear aO nO hta hl2 hl3 ht1 ht2 ht3 hbo
      go_wp2_with fail
      refine T1.out.mono ?_
      rintro r w12 ⟨rfl, rfl⟩
      go_wp2_with fail
      refine T2.out.mono ?_
      rintro r w13 ⟨rfl, rfl⟩
      go_wp2_with fail
      refine T3.out.mono ?_
      rintro r w14 ⟨rfl, rfl⟩
      go_wp2_with fail
      refine CZ.out.mono ?_
      rintro r w15 ⟨v15, rfl, ho15, hb15⟩
      obtain ⟨A15, c15, rfl, i15, _⟩ := OwnP.is2 ho15
      have a15 := HO.out.1.below hb15
      have n15 := HO.out.2.1.below hb15
      have b015 := HO.out.2.2.1.trans (hb15.mono HO.out.2.2.1.size)
      have b56 := below_new w15 (.cells (intsC [-1, 5000]).toArray 3)
      have H15 := Lib.hid (And.intro a15 (And.intro n15 (And.intro b015 (And.intro i15 (And.intro (HO.out.2.2.2.1.on hb15) (HO.out.2.2.2.2.on hb15))))))
      have H16 := Lib.hid (And.intro (ownI_lit w15 [-1, 5000] (by simp)) (H15.out.2.2.2.2.1.on b56))
      clear i15 a15 n15 b015 b56 ho15 hb15
      obtain ⟨L15, hL15⟩ : ∃ n, (posI (stepM se (mkN ks) Zl m)).length = n := ⟨_, rfl⟩
      rw [hL15]
      have HL15 := Lib.hid hL15
      clear hL15
      go_wp2_with (first
        | (at_builtin; refine wpList_append_isG (by rfl) (.tmp 156) (.tmp 157) rfl w15.heap.size _ [-1, 5000] rfl H16.out.1 Xl AX cX (by rw [HL.out.1]; rfl) H16.out.2 HB.out.2.2.2.1 (by rw [HL.out.1]; simp; omega) (by simp) ?_
           intro v17 w17 ho17 hg17
           have hb57 := (Below.refl w15.heap.size w15).alloc (Nat.le_refl _) (.cells (intsC [-1, 5000]).toArray 3) |>.grown hg17 (by simp) (fun k hk => (H16.out.1.lt k hk).1)
           have H17 := Lib.hid (And.intro ho17 hb57)
           clear ho17 hg17 hb57)
        | (at_builtin; refine wpList_append_isG (by rfl) (.tmp 158) (.tmp 159) rfl w15.heap.size _ ([-1, 5000] ++ Xl) rfl H17.out.1 Yl AY cY (by rw [HL.out.2.1]; rfl) (H15.out.2.2.2.2.2.on H17.out.2) HB.out.2.2.2.2 (by rw [HL.out.2.1]; simp; rw [HL.out.1]; omega) H17.out.2.size ?_
           intro v18 w18 ho18 hg18
           have hb58 := H17.out.2.grown hg18 H17.out.2.size (fun k hk => (H17.out.1.lt k hk).1)
           have H18 := Lib.hid (And.intro ho18 hb58)
           clear ho18 hg18 hb58)
        | fail)
      have hall : ∀ v ∈ ([-1, 5000] ++ Xl) ++ Yl, i64 v := by
        intro v hv
        simp only [List.mem_append, List.mem_cons, List.not_mem_nil, or_false] at hv
        rcases hv with ((rfl | rfl) | hv) | hv
        · unfold i64; omega
        · unfold i64; omega
        · exact HB.out.1.i v hv
        · exact HB.out.2.1.i v hv
      obtain ⟨A18, c18, rfl, i18, _⟩ := OwnI.is H18.out.1 hall
      have a18 := H15.out.1.below H18.out.2
      have n18 := H15.out.2.1.below H18.out.2
      have CW := step_any n18 a18.t _ A18 c18 i18 m a18.m
      rw [← HU.out.2] at CW
      have CW := Lib.hid CW
      obtain ⟨L18, hL18⟩ : ∃ n, (([-1, 5000] ++ Xl) ++ Yl).length = n := ⟨_, rfl⟩
      rw [hL18] at CW ⊢
      have H19 := Lib.hid (And.intro (H15.out.2.2.1.trans (H18.out.2.mono H15.out.2.2.1.size)) (H15.out.2.2.2.1.on H18.out.2))
      clear hall i18 a18 n18 hL18
      refine CW.out.mono ?_
      rintro r w20 ⟨v20, rfl, ho20, hb20⟩
      obtain ⟨A20, c20, rfl, i20, _⟩ := OwnP.is2 ho20
      have CI := is_any _ _ A15 A20 c15 c20 w20 (H19.out.2.on hb20) i20
      rw [show decide (posI (stepM se (mkN ks) Zl m) = posI (stepM se (mkN ks) Zl m)) = true by simp, HL15.out] at CI
      have CI := Lib.hid CI
      rw [HL15.out]
      have H20 := Lib.hid (H19.out.1.trans (hb20.mono H19.out.1.size))
      clear ho20 hb20 i20
      go_wp2_with fail
      refine CI.out.mono ?_
      rintro r w21 ⟨rfl, hb21⟩
      have H21 := Lib.hid (H20.out.trans (hb21.mono H20.out.size))
      clear hb21
      go_wp2_with fail
      go_ret
      exact ⟨rfl, H21.out⟩
end Go.Proofs.YtlbcicoppglgjaaDoor
