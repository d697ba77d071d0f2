/-
  Contract: entity.Read.
-/
import Derived.Test.YtpimadgcojgjaaaDoorSty
namespace Go.Proofs.YtpimadgcojgjaaaDoor
open Go.RowKit Go.Shelf Go.Lib Go.Maps Go.Great
open Go.Sort (grow)
attribute [local irreducible] NR ZNR FR nmE

theorem readS_no {s : Sty} {r : List Sty} {xs : List Nat} (h : (followR s.beg s.may xs).2 = false) : readS (s :: r) xs = readS r xs := by
  rw [readS, h]
  rfl
theorem readS_yes {s : Sty} {r : List Sty} {xs : List Nat} {m : Nat} (h : followR s.beg s.may xs = (m, true)) : readS (s :: r) xs = (s.means ((xs.take (m - 1)).drop s.beg.length), m) := by
  rw [readS, h]
  rfl
set_option maxHeartbeats 8000000 in
set_option maxRecDepth 100000 in
theorem readE_any (w : World) (hT : S.Tabs w) (xs : List Nat) (A : Option Addr) (cap : Nat) (hx : BY w w.heap.size xs A cap) (i : Int) (hi0 : -9223372036854775808 ≤ i) (hi1 : i ≤ 9223372036854775807) :
    Calls Tryd.prog 14 #[.slice A xs.length cap, .int .i64 i] w fun e w' => e = .returned (.tuple #[.int .i32 (readE xs i).1, .int .i64 ((readE xs i).2 : Nat)]) ∧ Below w.heap.size w w' := by
  have hs : ∀ (a : Addr) (f : FuncId) (c : Array Value) (m : Mode) (W : World), (store a (.func (Fn.func f) #[] c) m).run Tryd.prog W = stored Tryd.prog W a (.func (Fn.func f) #[] c) m := fun a f c m W => run_store_func Tryd.prog W a m _ _ _
  obtain ⟨RE, hRE⟩ : ∃ v, readE xs i = v := ⟨_, rfl⟩
  rw [hRE]
  have HH := Lib.hid (And.intro hRE (And.intro hx hT))
  clear hRE hT
  by_cases h0 : i < 0
  case pos =>
    have hf : RE = (0, 0) := by rw [← HH.out.1, readE, if_pos (Or.inl h0)]
    clear hx
    go_enter Tryd.func14, Tryd.ntmps14
    go_wp2_with fail
    refine bodyPost_ret (v := .tuple #[.int .i32 0, .int .i64 0]) ?_ rfl ⟨by first | rfl | (rw [hf]; rfl), Below.refl _ _⟩
    simp [results, Tryd.results14, go_sem]
  case neg =>
  obtain ⟨k, rfl⟩ : ∃ k : Nat, i = (k : Int) := ⟨i.toNat, by omega⟩
  by_cases h1 : xs.length ≤ k
  case pos =>
    have hf : RE = (0, 0) := by rw [← HH.out.1, readE, if_pos (Or.inr (by omega))]
    have h2 : ¬ (k : Int) < (xs.length : Int) := by omega
    have h3 : (xs.length : Int) ≤ (k : Int) := by omega
    clear hx
    go_enter Tryd.func14, Tryd.ntmps14
    go_wp2_with fail
    refine bodyPost_ret (v := .tuple #[.int .i32 0, .int .i64 0]) ?_ rfl ⟨by first | rfl | (rw [hf]; rfl), Below.refl _ _⟩
    simp [results, Tryd.results14, go_sem]
  case neg =>
  have hk : k < xs.length := by omega
  obtain ⟨c, hc⟩ := at_lt hk
  obtain ⟨b, o, rfl, hbl, d0⟩ := hx.at hc
  have h2 : (k : Int) < (xs.length : Int) := by omega
  have h3 : ¬ (xs.length : Int) ≤ (k : Int) := by omega
  have hgd : xs.getD k 0 = c := by simp [List.getD_eq_getElem?_getD, hc]
  have hcl := hx.l
  by_cases h38 : c = 38
  case neg =>
    have hf : RE = (0, 0) := by rw [← HH.out.1, readE, if_neg (by omega), Int.toNat_natCast, hgd, if_neg h38]
    have hc1 : ¬ (c : Int) = 38 := by omega
    have hc2 : ((c : Int) == 38) = false := by simp; omega
    clear hx hgd
    go_enter Tryd.func14, Tryd.ntmps14
    go_wp2_with fail
    refine bodyPost_ret (v := .tuple #[.int .i32 0, .int .i64 0]) ?_ rfl ⟨by first | rfl | (rw [hf]; rfl), Below.refl _ _⟩
    simp [results, Tryd.results14, go_sem]
  case pos =>
  subst h38
  have hf : RE = readS styL (xs.drop k) := by rw [← HH.out.1, readE, if_neg (by omega), Int.toNat_natCast, hgd, if_pos rfl]
  have hy := hx.drop hk
  have hsl := slice_from b o xs.length cap k hk hcl
  have hyl : xs.length - k = (xs.drop k).length := by simp
  rw [hyl] at hsl
  generalize hys : xs.drop k = ys at *
  have HF := Lib.hid (And.intro hf hy)
  clear hf hx hgd hcl hy
  go_enter Tryd.func14, Tryd.ntmps14
  go_wp2_with fail
  refine (styles_any w).mono ?_
  rintro e w1 ⟨g1, g2, g3, rfl, hb1, S1, S2, S3⟩
  obtain ⟨cq, hcq⟩ : ∃ n, cap - k = n := ⟨_, rfl⟩
  obtain ⟨oq, hoq⟩ : ∃ n, o + k = n := ⟨_, rfl⟩
  rw [hcq, hoq] at HF
  have hT1 : S.Tabs w1 := HH.out.2.2.below hb1 HH.out.2.2.2
  have HS := Lib.hid (And.intro hb1 (And.intro S1 (And.intro S2 (And.intro S3 (And.intro hT1 (HF.out.2.on hb1))))))
  clear hb1 S1 S2 S3 hT1 hsl d0 hbl
  obtain ⟨SV, hSV⟩ : ∃ v, stysV g1 g2 g3 = v := ⟨_, rfl⟩
  have hix := fun W => index_sty g1 g2 g3 W
  rw [hSV] at hix
  rw [hSV]
  have HX := Lib.hid hix
  clear hix hSV
  go_wp2_with fail
  go_loopw [29] (fun r wr => ∃ q : Nat, r = .int .i64 (q : Int) ∧ q ≤ 4 ∧ RE = readS (styL.drop q) ys ∧ Below w1.heap.size w1 wr) (fun r _ => 4 - (RowKit.intOf r).toNat)
  case atStart => exact ⟨0, rfl, by decide, HF.out.1, Below.refl _ _⟩
  case round =>
    obtain ⟨q, rfl, hq, hre, hb⟩ := hrel
    have hy := HS.out.2.2.2.2.2.on hb
    have hTr : S.Tabs wr := HS.out.2.2.2.2.1.below hb HS.out.2.2.2.2.1.2
    have bw : Below w.heap.size w wr := HS.out.1.trans (hb.mono HS.out.1.size)
    obtain rfl | hq4 : q = 4 ∨ q < 4 := by omega
    · have hf : RE = (0, 0) := hre
      have HK := Lib.hid (And.intro hf bw)
      clear hre hb hf bw hy hTr
      go_wp2_with fail
      refine bodyPost_ret (v := .tuple #[.int .i32 0, .int .i64 0]) ?_ rfl ⟨by rw [HK.out.1]; rfl, HK.out.2⟩
      simp [results, Tryd.results14, go_sem]
    obtain rfl | rfl | rfl | rfl : q = 0 ∨ q = 1 ∨ q = 2 ∨ q = 3 := by omega
    · have hixq : ∀ W, (Instr.index 62 SV (.int .i64 0)).run Tryd.prog W = .ok (.agg #[.string ⟨#[38]⟩, .func (Fn.func 51) #[] #[], .func (Fn.func 52) #[] #[]]) W := fun W => (HX.out W).1
      obtain ⟨W0, hW0⟩ : ∃ W, wr.alloc (.cells #[.string ⟨#[38]⟩, .func (Fn.func 51) #[] #[], .func (Fn.func 52) #[] #[]] 61) = W := ⟨_, rfl⟩
      have hb0 : Below wr.heap.size wr W0 := by rw [← hW0]; exact below_new _ _
      have x0 : Cells W0 wr.heap.size 61 #[.string ⟨#[38]⟩, .func (Fn.func 51) #[] #[], .func (Fn.func 52) #[] #[]] := by rw [← hW0]; exact cells_new _ _ _
      have hy0 := hy.on hb0
      have C := follow51_any W0 [38] (by decide) (by decide) mayNm 52 #[] ys (some ⟨b, oq, none⟩) cq hy0 (fun W hbW b' o' cap' l cc hcc hBY => mayName_any W l _ cap' cc hBY)
      have hT0 : S.Tabs W0 := hTr.below hb0 hTr.2
      obtain ⟨m, wh, hfm⟩ : ∃ m wh, followR [38] (mayNm) ys = (m, wh) := ⟨_, _, rfl⟩
      rw [hfm] at C
      dsimp only at C
      have H0 := Lib.hid (And.intro C (And.intro x0 (And.intro hb0 (And.intro hy0 (And.intro hT0 (And.intro hre (And.intro hb hfm)))))))
      have p0 := x0.cell 0
      have p1 := x0.cell 1
      have p2 := x0.cell 2
      simp at p0 p1 p2
      clear C x0 hb0 hy0 hy hTr hre hb hT0 hfm bw
      go_wp2_with fail
      refine H0.out.1.mono ?_
      rintro e w2 ⟨rfl, hb2⟩
      have b02 := H0.out.2.2.1.trans (hb2.mono H0.out.2.2.1.size)
      have bw2 := H0.out.2.2.2.2.2.2.1.trans (b02.mono H0.out.2.2.2.2.2.2.1.size)
      have x2 := H0.out.2.1.on hb2
      have r0 := x2.cell 0
      have r2 := x2.cell 2
      simp at r0 r2
      cases wh with
      | false =>
        have HB2 := Lib.hid bw2
        have hre2 : RE = readS (styL.drop 1) ys := by rw [H0.out.2.2.2.2.2.1]; exact readS_no (by have := H0.out.2.2.2.2.2.2.2; exact congrArg Prod.snd this)
        have HR2 := Lib.hid hre2
        clear bw2 b02 x2 hb2 r0 r2 hre2
        go_wp2_with fail
        go_roundw
        case rel => exact ⟨1, rfl, by decide, HR2.out, HB2.out⟩
        case measure => exact (by decide)
      | true =>
        have hfm : followR [38] (mayNm) ys = (m, true) := H0.out.2.2.2.2.2.2.2
        have hm := follow_true hfm
        have hlt : 1 < m ∧ m ≤ ys.length := hm
        have hfr : RE = (nmR (u8s ((ys.take (m - 1)).drop 1)), m) := by rw [H0.out.2.2.2.2.2.1]; exact readS_yes (s := stN) hfm
        have hT2 : S.Tabs w2 := H0.out.2.2.2.2.1.below hb2 H0.out.2.2.2.2.1.2
        have hyw := (H0.out.2.2.2.1.on hb2).win 1 (m - 1) (by omega) (by omega)
        have hwl : ((ys.take (m - 1)).drop 1).length = m - 1 - 1 := by simp; omega
        have hcy := H0.out.2.2.2.1.l
        have hsl : ∀ W, (Instr.slice 22 (.slice (some ⟨b, oq, none⟩) ys.length cq) (some (.int .i64 1)) (some (.int .i64 ((m - 1 : Nat) : Int))) none).run Tryd.prog W = .ok (.slice (some ⟨b, oq + 1, none⟩) (m - 1 - 1) (cq - 1)) W := slice_win b oq ys.length cq 1 (m - 1) (by omega) (by omega) (by omega)
        have hm1 : ((m - 1 : Nat) : Int) = (m : Int) - 1 := by omega
        have hlen := H0.out.2.2.2.1.len
        have w1' : wrap64 ((m : Int) - 1) = ((m - 1 : Nat) : Int) := by unfold wrap64; omega
        have MC : ∀ d os, Calls Tryd.prog 52 #[.slice (some ⟨b, oq + 1, none⟩) (m - 1 - 1) (cq - 1)] (grow (redrawn w2 d) os) fun e w'' => e = .returned (.int .i32 (nmR (u8s ((ys.take (m - 1)).drop 1)))) ∧ ∃ p : Regrown, w'' = grow (redrawn w2 p.d) p.os := fun d os => by
          have := ofName_any (grow (redrawn w2 d) os) ((ys.take (m - 1)).drop 1) _ _ (hyw.on (below_regrown w2 d os))
          rw [hwl] at this
          exact Calls.regrown_of this
        obtain ⟨RV, hRV⟩ : ∃ v, nmR (u8s ((ys.take (m - 1)).drop 1)) = v := ⟨_, rfl⟩
        rw [hRV] at MC hfr
        obtain ⟨mm, hmm⟩ : ∃ n, m - 1 = n := ⟨_, rfl⟩
        rw [hmm] at MC hsl w1'
        have HK := Lib.hid (And.intro hfr bw2)
        have z0 := cell_regrown r0
        have z2 := cell_regrown r2
        clear hfr bw2 b02 x2 hb2 r0 r2 hm hlt hT2 hyw hwl hcy hm1 hlen hfm hRV hmm
        go_wp2_with fail
        refine wp_region_quiet_below (by kernel_rfl) (by kernel_rfl) ?_
        repeat (go_big_quiet_step (exact MC _ _))
        refine wpQuiet_nil ?_
        intro _ hw'
        obtain ⟨⟨dq, osq⟩, hw''⟩ := hw'
        subst hw''
        have HB := Lib.hid (HK.out.2.trans ((below_regrown w2 dq osq).mono HK.out.2.size))
        clear z0 z2 MC hsl
        go_wp2_with fail
        refine bodyPost_ret (v := .tuple #[.int .i32 RV, .int .i64 (m : Int)]) ?_ rfl ⟨by first | rfl | (rw [HK.out.1]), HS.out.1.trans (HB.out.mono HS.out.1.size)⟩
        simp [results, Tryd.results14, go_sem]
    · have hixq : ∀ W, (Instr.index 62 SV (.int .i64 1)).run Tryd.prog W = .ok (.agg #[.string ⟨#[38, 35]⟩, .func (Fn.func 67) #[] #[.pointer (some ⟨g1 + 1, 0, none⟩), .pointer (some ⟨g1, 0, none⟩)], .func (Fn.func 69) #[] #[.pointer (some ⟨g1, 0, none⟩)]]) W := fun W => (HX.out W).2.1
      obtain ⟨W0, hW0⟩ : ∃ W, wr.alloc (.cells #[.string ⟨#[38, 35]⟩, .func (Fn.func 67) #[] #[.pointer (some ⟨g1 + 1, 0, none⟩), .pointer (some ⟨g1, 0, none⟩)], .func (Fn.func 69) #[] #[.pointer (some ⟨g1, 0, none⟩)]] 61) = W := ⟨_, rfl⟩
      have hb0 : Below wr.heap.size wr W0 := by rw [← hW0]; exact below_new _ _
      have x0 : Cells W0 wr.heap.size 61 #[.string ⟨#[38, 35]⟩, .func (Fn.func 67) #[] #[.pointer (some ⟨g1 + 1, 0, none⟩), .pointer (some ⟨g1, 0, none⟩)], .func (Fn.func 69) #[] #[.pointer (some ⟨g1, 0, none⟩)]] := by rw [← hW0]; exact cells_new _ _ _
      have hy0 := hy.on hb0
      have Cs : StyAt W0 g1 10 7 := ((HS.out.2.1).on hb).on hb0
      have C := follow67_any W0 [38, 35] (by decide) (by decide) (mayD 10 7) ⟨g1 + 1, 0, none⟩ ⟨g1, 0, none⟩ 69 #[.pointer (some ⟨g1, 0, none⟩)] ys (some ⟨b, oq, none⟩) cq hy0 (fun W hbW b' o' cap' l cc hcc hBY =>
        (mayD_any (Or.inl rfl) 7 l _ cap' cc hBY.len (g1 + 1) g1 W ((Cs.m).on hbW) ((Cs.b).on hbW)).mono (fun e w' h => ⟨h.1, by rw [h.2]; exact Below.refl _ _⟩))
      have hT0 : S.Tabs W0 := hTr.below hb0 hTr.2
      obtain ⟨m, wh, hfm⟩ : ∃ m wh, followR [38, 35] (mayD 10 7) ys = (m, wh) := ⟨_, _, rfl⟩
      rw [hfm] at C
      dsimp only at C
      have H0 := Lib.hid (And.intro C (And.intro x0 (And.intro hb0 (And.intro hy0 (And.intro hT0 (And.intro hre (And.intro hb hfm)))))))
      have HCs := Lib.hid Cs
      clear Cs
      have p0 := x0.cell 0
      have p1 := x0.cell 1
      have p2 := x0.cell 2
      simp at p0 p1 p2
      clear C x0 hb0 hy0 hy hTr hre hb hT0 hfm bw
      go_wp2_with fail
      refine H0.out.1.mono ?_
      rintro e w2 ⟨rfl, hb2⟩
      have b02 := H0.out.2.2.1.trans (hb2.mono H0.out.2.2.1.size)
      have bw2 := H0.out.2.2.2.2.2.2.1.trans (b02.mono H0.out.2.2.2.2.2.2.1.size)
      have x2 := H0.out.2.1.on hb2
      have r0 := x2.cell 0
      have r2 := x2.cell 2
      simp at r0 r2
      cases wh with
      | false =>
        have HB2 := Lib.hid bw2
        have hre2 : RE = readS (styL.drop 2) ys := by rw [H0.out.2.2.2.2.2.1]; exact readS_no (by have := H0.out.2.2.2.2.2.2.2; exact congrArg Prod.snd this)
        have HR2 := Lib.hid hre2
        clear bw2 b02 x2 hb2 r0 r2 hre2
        go_wp2_with fail
        go_roundw
        case rel => exact ⟨2, rfl, by decide, HR2.out, HB2.out⟩
        case measure => exact (by decide)
      | true =>
        have hfm : followR [38, 35] (mayD 10 7) ys = (m, true) := H0.out.2.2.2.2.2.2.2
        have hm := follow_true hfm
        have hlt : 2 < m ∧ m ≤ ys.length := hm
        have hfr : RE = (mnR (nbV 10 ((ys.take (m - 1)).drop 2) 0), m) := by rw [H0.out.2.2.2.2.2.1]; exact readS_yes (s := stD [38, 35] 10 7) hfm
        have hT2 : S.Tabs w2 := H0.out.2.2.2.2.1.below hb2 H0.out.2.2.2.2.1.2
        have hyw := (H0.out.2.2.2.1.on hb2).win 2 (m - 1) (by omega) (by omega)
        have hwl : ((ys.take (m - 1)).drop 2).length = m - 1 - 2 := by simp; omega
        have hcy := H0.out.2.2.2.1.l
        have hsl : ∀ W, (Instr.slice 22 (.slice (some ⟨b, oq, none⟩) ys.length cq) (some (.int .i64 2)) (some (.int .i64 ((m - 1 : Nat) : Int))) none).run Tryd.prog W = .ok (.slice (some ⟨b, oq + 2, none⟩) (m - 1 - 2) (cq - 2)) W := slice_win b oq ys.length cq 2 (m - 1) (by omega) (by omega) (by omega)
        have hm1 : ((m - 1 : Nat) : Int) = (m : Int) - 1 := by omega
        have hlen := H0.out.2.2.2.1.len
        have w1' : wrap64 ((m : Int) - 1) = ((m - 1 : Nat) : Int) := by unfold wrap64; omega
        have hfn := follow_num (by exact hfm)
        have Cs2 : StyAt w2 g1 10 7 := HCs.out.on hb2
        have MC : ∀ d os, Calls Tryd.prog 69 #[.slice (some ⟨b, oq + 2, none⟩) (m - 1 - 2) (cq - 2), .pointer (some ⟨g1, 0, none⟩)] (grow (redrawn w2 d) os) fun e w'' => e = .returned (.int .i32 (mnR (nbV 10 ((ys.take (m - 1)).drop 2) 0))) ∧ ∃ p : Regrown, w'' = grow (redrawn w2 p.d) p.os := fun d os => by
          have := means_any (Or.inl rfl) ((ys.take (m - 1)).drop 2) _ _ hfn.1 hfn.2.1 hfn.2.2 g1 (grow (redrawn w2 d) os) (hT2.below (below_regrown w2 d os) hT2.2) (hyw.on (below_regrown w2 d os)) ((Cs2.b).on (below_regrown w2 d os))
          rw [hwl] at this
          exact Calls.regrown_of this
        obtain ⟨RV, hRV⟩ : ∃ v, mnR (nbV 10 ((ys.take (m - 1)).drop 2) 0) = v := ⟨_, rfl⟩
        rw [hRV] at MC hfr
        obtain ⟨mm, hmm⟩ : ∃ n, m - 1 = n := ⟨_, rfl⟩
        rw [hmm] at MC hsl w1'
        have HK := Lib.hid (And.intro hfr bw2)
        have z0 := cell_regrown r0
        have z2 := cell_regrown r2
        clear hfr bw2 b02 x2 hb2 r0 r2 hm hlt hT2 hyw hwl hcy hm1 hlen hfm hRV hmm hfn Cs2
        go_wp2_with fail
        refine wp_region_quiet_below (by kernel_rfl) (by kernel_rfl) ?_
        repeat (go_big_quiet_step (exact MC _ _))
        refine wpQuiet_nil ?_
        intro _ hw'
        obtain ⟨⟨dq, osq⟩, hw''⟩ := hw'
        subst hw''
        have HB := Lib.hid (HK.out.2.trans ((below_regrown w2 dq osq).mono HK.out.2.size))
        clear z0 z2 MC hsl
        go_wp2_with fail
        refine bodyPost_ret (v := .tuple #[.int .i32 RV, .int .i64 (m : Int)]) ?_ rfl ⟨by first | rfl | (rw [HK.out.1]), HS.out.1.trans (HB.out.mono HS.out.1.size)⟩
        simp [results, Tryd.results14, go_sem]
    · have hixq : ∀ W, (Instr.index 62 SV (.int .i64 2)).run Tryd.prog W = .ok (.agg #[.string ⟨#[38, 35, 120]⟩, .func (Fn.func 67) #[] #[.pointer (some ⟨g2 + 1, 0, none⟩), .pointer (some ⟨g2, 0, none⟩)], .func (Fn.func 69) #[] #[.pointer (some ⟨g2, 0, none⟩)]]) W := fun W => (HX.out W).2.2.1
      obtain ⟨W0, hW0⟩ : ∃ W, wr.alloc (.cells #[.string ⟨#[38, 35, 120]⟩, .func (Fn.func 67) #[] #[.pointer (some ⟨g2 + 1, 0, none⟩), .pointer (some ⟨g2, 0, none⟩)], .func (Fn.func 69) #[] #[.pointer (some ⟨g2, 0, none⟩)]] 61) = W := ⟨_, rfl⟩
      have hb0 : Below wr.heap.size wr W0 := by rw [← hW0]; exact below_new _ _
      have x0 : Cells W0 wr.heap.size 61 #[.string ⟨#[38, 35, 120]⟩, .func (Fn.func 67) #[] #[.pointer (some ⟨g2 + 1, 0, none⟩), .pointer (some ⟨g2, 0, none⟩)], .func (Fn.func 69) #[] #[.pointer (some ⟨g2, 0, none⟩)]] := by rw [← hW0]; exact cells_new _ _ _
      have hy0 := hy.on hb0
      have Cs : StyAt W0 g2 16 6 := ((HS.out.2.2.1).on hb).on hb0
      have C := follow67_any W0 [38, 35, 120] (by decide) (by decide) (mayD 16 6) ⟨g2 + 1, 0, none⟩ ⟨g2, 0, none⟩ 69 #[.pointer (some ⟨g2, 0, none⟩)] ys (some ⟨b, oq, none⟩) cq hy0 (fun W hbW b' o' cap' l cc hcc hBY =>
        (mayD_any (Or.inr rfl) 6 l _ cap' cc hBY.len (g2 + 1) g2 W ((Cs.m).on hbW) ((Cs.b).on hbW)).mono (fun e w' h => ⟨h.1, by rw [h.2]; exact Below.refl _ _⟩))
      have hT0 : S.Tabs W0 := hTr.below hb0 hTr.2
      obtain ⟨m, wh, hfm⟩ : ∃ m wh, followR [38, 35, 120] (mayD 16 6) ys = (m, wh) := ⟨_, _, rfl⟩
      rw [hfm] at C
      dsimp only at C
      have H0 := Lib.hid (And.intro C (And.intro x0 (And.intro hb0 (And.intro hy0 (And.intro hT0 (And.intro hre (And.intro hb hfm)))))))
      have HCs := Lib.hid Cs
      clear Cs
      have p0 := x0.cell 0
      have p1 := x0.cell 1
      have p2 := x0.cell 2
      simp at p0 p1 p2
      clear C x0 hb0 hy0 hy hTr hre hb hT0 hfm bw
      go_wp2_with fail
      refine H0.out.1.mono ?_
      rintro e w2 ⟨rfl, hb2⟩
      have b02 := H0.out.2.2.1.trans (hb2.mono H0.out.2.2.1.size)
      have bw2 := H0.out.2.2.2.2.2.2.1.trans (b02.mono H0.out.2.2.2.2.2.2.1.size)
      have x2 := H0.out.2.1.on hb2
      have r0 := x2.cell 0
      have r2 := x2.cell 2
      simp at r0 r2
      cases wh with
      | false =>
        have HB2 := Lib.hid bw2
        have hre2 : RE = readS (styL.drop 3) ys := by rw [H0.out.2.2.2.2.2.1]; exact readS_no (by have := H0.out.2.2.2.2.2.2.2; exact congrArg Prod.snd this)
        have HR2 := Lib.hid hre2
        clear bw2 b02 x2 hb2 r0 r2 hre2
        go_wp2_with fail
        go_roundw
        case rel => exact ⟨3, rfl, by decide, HR2.out, HB2.out⟩
        case measure => exact (by decide)
      | true =>
        have hfm : followR [38, 35, 120] (mayD 16 6) ys = (m, true) := H0.out.2.2.2.2.2.2.2
        have hm := follow_true hfm
        have hlt : 3 < m ∧ m ≤ ys.length := hm
        have hfr : RE = (mnR (nbV 16 ((ys.take (m - 1)).drop 3) 0), m) := by rw [H0.out.2.2.2.2.2.1]; exact readS_yes (s := stD [38, 35, 120] 16 6) hfm
        have hT2 : S.Tabs w2 := H0.out.2.2.2.2.1.below hb2 H0.out.2.2.2.2.1.2
        have hyw := (H0.out.2.2.2.1.on hb2).win 3 (m - 1) (by omega) (by omega)
        have hwl : ((ys.take (m - 1)).drop 3).length = m - 1 - 3 := by simp; omega
        have hcy := H0.out.2.2.2.1.l
        have hsl : ∀ W, (Instr.slice 22 (.slice (some ⟨b, oq, none⟩) ys.length cq) (some (.int .i64 3)) (some (.int .i64 ((m - 1 : Nat) : Int))) none).run Tryd.prog W = .ok (.slice (some ⟨b, oq + 3, none⟩) (m - 1 - 3) (cq - 3)) W := slice_win b oq ys.length cq 3 (m - 1) (by omega) (by omega) (by omega)
        have hm1 : ((m - 1 : Nat) : Int) = (m : Int) - 1 := by omega
        have hlen := H0.out.2.2.2.1.len
        have w1' : wrap64 ((m : Int) - 1) = ((m - 1 : Nat) : Int) := by unfold wrap64; omega
        have hfn := follow_num (by exact hfm)
        have Cs2 : StyAt w2 g2 16 6 := HCs.out.on hb2
        have MC : ∀ d os, Calls Tryd.prog 69 #[.slice (some ⟨b, oq + 3, none⟩) (m - 1 - 3) (cq - 3), .pointer (some ⟨g2, 0, none⟩)] (grow (redrawn w2 d) os) fun e w'' => e = .returned (.int .i32 (mnR (nbV 16 ((ys.take (m - 1)).drop 3) 0))) ∧ ∃ p : Regrown, w'' = grow (redrawn w2 p.d) p.os := fun d os => by
          have := means_any (Or.inr rfl) ((ys.take (m - 1)).drop 3) _ _ hfn.1 hfn.2.1 hfn.2.2 g2 (grow (redrawn w2 d) os) (hT2.below (below_regrown w2 d os) hT2.2) (hyw.on (below_regrown w2 d os)) ((Cs2.b).on (below_regrown w2 d os))
          rw [hwl] at this
          exact Calls.regrown_of this
        obtain ⟨RV, hRV⟩ : ∃ v, mnR (nbV 16 ((ys.take (m - 1)).drop 3) 0) = v := ⟨_, rfl⟩
        rw [hRV] at MC hfr
        obtain ⟨mm, hmm⟩ : ∃ n, m - 1 = n := ⟨_, rfl⟩
        rw [hmm] at MC hsl w1'
        have HK := Lib.hid (And.intro hfr bw2)
        have z0 := cell_regrown r0
        have z2 := cell_regrown r2
        clear hfr bw2 b02 x2 hb2 r0 r2 hm hlt hT2 hyw hwl hcy hm1 hlen hfm hRV hmm hfn Cs2
        go_wp2_with fail
        refine wp_region_quiet_below (by kernel_rfl) (by kernel_rfl) ?_
        repeat (go_big_quiet_step (exact MC _ _))
        refine wpQuiet_nil ?_
        intro _ hw'
        obtain ⟨⟨dq, osq⟩, hw''⟩ := hw'
        subst hw''
        have HB := Lib.hid (HK.out.2.trans ((below_regrown w2 dq osq).mono HK.out.2.size))
        clear z0 z2 MC hsl
        go_wp2_with fail
        refine bodyPost_ret (v := .tuple #[.int .i32 RV, .int .i64 (m : Int)]) ?_ rfl ⟨by first | rfl | (rw [HK.out.1]), HS.out.1.trans (HB.out.mono HS.out.1.size)⟩
        simp [results, Tryd.results14, go_sem]
    · have hixq : ∀ W, (Instr.index 62 SV (.int .i64 3)).run Tryd.prog W = .ok (.agg #[.string ⟨#[38, 35, 88]⟩, .func (Fn.func 67) #[] #[.pointer (some ⟨g3 + 1, 0, none⟩), .pointer (some ⟨g3, 0, none⟩)], .func (Fn.func 69) #[] #[.pointer (some ⟨g3, 0, none⟩)]]) W := fun W => (HX.out W).2.2.2
      obtain ⟨W0, hW0⟩ : ∃ W, wr.alloc (.cells #[.string ⟨#[38, 35, 88]⟩, .func (Fn.func 67) #[] #[.pointer (some ⟨g3 + 1, 0, none⟩), .pointer (some ⟨g3, 0, none⟩)], .func (Fn.func 69) #[] #[.pointer (some ⟨g3, 0, none⟩)]] 61) = W := ⟨_, rfl⟩
      have hb0 : Below wr.heap.size wr W0 := by rw [← hW0]; exact below_new _ _
      have x0 : Cells W0 wr.heap.size 61 #[.string ⟨#[38, 35, 88]⟩, .func (Fn.func 67) #[] #[.pointer (some ⟨g3 + 1, 0, none⟩), .pointer (some ⟨g3, 0, none⟩)], .func (Fn.func 69) #[] #[.pointer (some ⟨g3, 0, none⟩)]] := by rw [← hW0]; exact cells_new _ _ _
      have hy0 := hy.on hb0
      have Cs : StyAt W0 g3 16 6 := ((HS.out.2.2.2.1).on hb).on hb0
      have C := follow67_any W0 [38, 35, 88] (by decide) (by decide) (mayD 16 6) ⟨g3 + 1, 0, none⟩ ⟨g3, 0, none⟩ 69 #[.pointer (some ⟨g3, 0, none⟩)] ys (some ⟨b, oq, none⟩) cq hy0 (fun W hbW b' o' cap' l cc hcc hBY =>
        (mayD_any (Or.inr rfl) 6 l _ cap' cc hBY.len (g3 + 1) g3 W ((Cs.m).on hbW) ((Cs.b).on hbW)).mono (fun e w' h => ⟨h.1, by rw [h.2]; exact Below.refl _ _⟩))
      have hT0 : S.Tabs W0 := hTr.below hb0 hTr.2
      obtain ⟨m, wh, hfm⟩ : ∃ m wh, followR [38, 35, 88] (mayD 16 6) ys = (m, wh) := ⟨_, _, rfl⟩
      rw [hfm] at C
      dsimp only at C
      have H0 := Lib.hid (And.intro C (And.intro x0 (And.intro hb0 (And.intro hy0 (And.intro hT0 (And.intro hre (And.intro hb hfm)))))))
      have HCs := Lib.hid Cs
      clear Cs
      have p0 := x0.cell 0
      have p1 := x0.cell 1
      have p2 := x0.cell 2
      simp at p0 p1 p2
      clear C x0 hb0 hy0 hy hTr hre hb hT0 hfm bw
      go_wp2_with fail
      refine H0.out.1.mono ?_
      rintro e w2 ⟨rfl, hb2⟩
      have b02 := H0.out.2.2.1.trans (hb2.mono H0.out.2.2.1.size)
      have bw2 := H0.out.2.2.2.2.2.2.1.trans (b02.mono H0.out.2.2.2.2.2.2.1.size)
      have x2 := H0.out.2.1.on hb2
      have r0 := x2.cell 0
      have r2 := x2.cell 2
      simp at r0 r2
      cases wh with
      | false =>
        have HB2 := Lib.hid bw2
        have hre2 : RE = readS (styL.drop 4) ys := by rw [H0.out.2.2.2.2.2.1]; exact readS_no (by have := H0.out.2.2.2.2.2.2.2; exact congrArg Prod.snd this)
        have HR2 := Lib.hid hre2
        clear bw2 b02 x2 hb2 r0 r2 hre2
        go_wp2_with fail
        go_roundw
        case rel => exact ⟨4, rfl, by decide, HR2.out, HB2.out⟩
        case measure => exact (by decide)
      | true =>
        have hfm : followR [38, 35, 88] (mayD 16 6) ys = (m, true) := H0.out.2.2.2.2.2.2.2
        have hm := follow_true hfm
        have hlt : 3 < m ∧ m ≤ ys.length := hm
        have hfr : RE = (mnR (nbV 16 ((ys.take (m - 1)).drop 3) 0), m) := by rw [H0.out.2.2.2.2.2.1]; exact readS_yes (s := stD [38, 35, 88] 16 6) hfm
        have hT2 : S.Tabs w2 := H0.out.2.2.2.2.1.below hb2 H0.out.2.2.2.2.1.2
        have hyw := (H0.out.2.2.2.1.on hb2).win 3 (m - 1) (by omega) (by omega)
        have hwl : ((ys.take (m - 1)).drop 3).length = m - 1 - 3 := by simp; omega
        have hcy := H0.out.2.2.2.1.l
        have hsl : ∀ W, (Instr.slice 22 (.slice (some ⟨b, oq, none⟩) ys.length cq) (some (.int .i64 3)) (some (.int .i64 ((m - 1 : Nat) : Int))) none).run Tryd.prog W = .ok (.slice (some ⟨b, oq + 3, none⟩) (m - 1 - 3) (cq - 3)) W := slice_win b oq ys.length cq 3 (m - 1) (by omega) (by omega) (by omega)
        have hm1 : ((m - 1 : Nat) : Int) = (m : Int) - 1 := by omega
        have hlen := H0.out.2.2.2.1.len
        have w1' : wrap64 ((m : Int) - 1) = ((m - 1 : Nat) : Int) := by unfold wrap64; omega
        have hfn := follow_num (by exact hfm)
        have Cs2 : StyAt w2 g3 16 6 := HCs.out.on hb2
        have MC : ∀ d os, Calls Tryd.prog 69 #[.slice (some ⟨b, oq + 3, none⟩) (m - 1 - 3) (cq - 3), .pointer (some ⟨g3, 0, none⟩)] (grow (redrawn w2 d) os) fun e w'' => e = .returned (.int .i32 (mnR (nbV 16 ((ys.take (m - 1)).drop 3) 0))) ∧ ∃ p : Regrown, w'' = grow (redrawn w2 p.d) p.os := fun d os => by
          have := means_any (Or.inr rfl) ((ys.take (m - 1)).drop 3) _ _ hfn.1 hfn.2.1 hfn.2.2 g3 (grow (redrawn w2 d) os) (hT2.below (below_regrown w2 d os) hT2.2) (hyw.on (below_regrown w2 d os)) ((Cs2.b).on (below_regrown w2 d os))
          rw [hwl] at this
          exact Calls.regrown_of this
        obtain ⟨RV, hRV⟩ : ∃ v, mnR (nbV 16 ((ys.take (m - 1)).drop 3) 0) = v := ⟨_, rfl⟩
        rw [hRV] at MC hfr
        obtain ⟨mm, hmm⟩ : ∃ n, m - 1 = n := ⟨_, rfl⟩
        rw [hmm] at MC hsl w1'
        have HK := Lib.hid (And.intro hfr bw2)
        have z0 := cell_regrown r0
        have z2 := cell_regrown r2
        clear hfr bw2 b02 x2 hb2 r0 r2 hm hlt hT2 hyw hwl hcy hm1 hlen hfm hRV hmm hfn Cs2
        go_wp2_with fail
        refine wp_region_quiet_below (by kernel_rfl) (by kernel_rfl) ?_
        repeat (go_big_quiet_step (exact MC _ _))
        refine wpQuiet_nil ?_
        intro _ hw'
        obtain ⟨⟨dq, osq⟩, hw''⟩ := hw'
        subst hw''
        have HB := Lib.hid (HK.out.2.trans ((below_regrown w2 dq osq).mono HK.out.2.size))
        clear z0 z2 MC hsl
        go_wp2_with fail
        refine bodyPost_ret (v := .tuple #[.int .i32 RV, .int .i64 (m : Int)]) ?_ rfl ⟨by first | rfl | (rw [HK.out.1]), HS.out.1.trans (HB.out.mono HS.out.1.size)⟩
        simp [results, Tryd.results14, go_sem]
end Go.Proofs.YtpimadgcojgjaaaDoor
