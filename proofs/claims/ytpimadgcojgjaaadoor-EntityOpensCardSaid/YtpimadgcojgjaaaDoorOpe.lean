/-
  Contract: entity.Open.
-/
import Derived.Test.YtpimadgcojgjaaaDoorSty
namespace Go.Proofs.YtpimadgcojgjaaaDoor
open Go.RowKit Go.Shelf Go.Lib Go.Maps Go.Great
attribute [local irreducible] NR ZNR FR nmE

theorem openS_no {s : Sty} {r : List Sty} {xs : List Nat} {m : Nat} {wh : Bool} (h : followR s.beg s.may xs = (m, wh)) (hn : ¬ (m = xs.length ∧ wh = false)) : openS (s :: r) xs = openS r xs := by
  rw [openS, h]
  exact if_neg hn
theorem openS_yes {s : Sty} {r : List Sty} {xs : List Nat} {m : Nat} (h : followR s.beg s.may xs = (m, false)) (hn : m = xs.length) : openS (s :: r) xs = decide (0 < m) := by
  rw [openS, h]
  exact if_pos ⟨hn, rfl⟩
set_option maxHeartbeats 8000000 in
set_option maxRecDepth 100000 in
theorem openE_any (w : World) (ys : List Nat) (A : Option Addr) (cq : Nat) (hx : BY w w.heap.size ys A cq) :
    Calls Tryd.prog 16 #[.slice A ys.length cq] w fun e w' => e = .returned (.bool (openS styL ys)) ∧ Below w.heap.size w w' := by
  have hs : ∀ (a : Addr) (f : FuncId) (c : Array Value) (m : Mode) (W : World), (store a (.func (Fn.func f) #[] c) m).run Tryd.prog W = stored Tryd.prog W a (.func (Fn.func f) #[] c) m := fun a f c m W => run_store_func Tryd.prog W a m _ _ _
  obtain ⟨RE, hRE⟩ : ∃ v, openS styL ys = v := ⟨_, rfl⟩
  rw [hRE]
  have HH := Lib.hid (And.intro hRE hx)
  clear hRE hx
  go_enter Tryd.func16, Tryd.ntmps16
  go_wp2_with fail
  refine (styles_any w).mono ?_
  rintro e w1 ⟨g1, g2, g3, rfl, hb1, S1, S2, S3⟩
  have HS := Lib.hid (And.intro hb1 (And.intro S1 (And.intro S2 (And.intro S3 (HH.out.2.on hb1)))))
  clear hb1 S1 S2 S3
  obtain ⟨SV, hSV⟩ : ∃ v, stysV g1 g2 g3 = v := ⟨_, rfl⟩
  have hix := fun W => index_sty g1 g2 g3 W
  rw [hSV] at hix
  rw [hSV]
  have HX := Lib.hid hix
  clear hix hSV
  go_wp2_with fail
  go_loopw [8] (fun r wr => ∃ q : Nat, r = .int .i64 (q : Int) ∧ q ≤ 4 ∧ RE = openS (styL.drop q) ys ∧ Below w1.heap.size w1 wr) (fun r _ => 4 - (RowKit.intOf r).toNat)
  case atStart => exact ⟨0, rfl, by decide, HH.out.1.symm, Below.refl _ _⟩
  case round =>
    obtain ⟨q, rfl, hq, hre, hb⟩ := hrel
    have hy := HS.out.2.2.2.2.on hb
    have bw : Below w.heap.size w wr := HS.out.1.trans (hb.mono HS.out.1.size)
    obtain rfl | hq4 : q = 4 ∨ q < 4 := by omega
    · have hf : RE = false := hre
      have HK := Lib.hid (And.intro hf bw)
      clear hre hb hf bw hy
      go_wp2_with fail
      refine bodyPost_ret (v := .bool false) ?_ rfl ⟨by rw [HK.out.1], HK.out.2⟩
      simp [results, Tryd.results16, go_sem]
    obtain rfl | rfl | rfl | rfl : q = 0 ∨ q = 1 ∨ q = 2 ∨ q = 3 := by omega
    · have hixq : ∀ W, (Instr.index 62 SV (.int .i64 0)).run Tryd.prog W = .ok (.agg #[.string ⟨#[38]⟩, .func (Fn.func 51) #[] #[], .func (Fn.func 52) #[] #[]]) W := fun W => (HX.out W).1
      obtain ⟨W0, hW0⟩ : ∃ W, wr.alloc (.cells #[.string ⟨#[38]⟩, .func (Fn.func 51) #[] #[], .func (Fn.func 52) #[] #[]] 61) = W := ⟨_, rfl⟩
      have hb0 : Below wr.heap.size wr W0 := by rw [← hW0]; exact below_new _ _
      have x0 : Cells W0 wr.heap.size 61 #[.string ⟨#[38]⟩, .func (Fn.func 51) #[] #[], .func (Fn.func 52) #[] #[]] := by rw [← hW0]; exact cells_new _ _ _
      have hy0 := hy.on hb0
      have C := follow51_any W0 [38] (by decide) (by decide) mayNm 52 #[] ys A cq hy0 (fun W hbW b' o' cap' l cc hcc hBY => mayName_any W l _ cap' cc hBY)
      obtain ⟨m, wh, hfm⟩ : ∃ m wh, followR [38] (mayNm) ys = (m, wh) := ⟨_, _, rfl⟩
      rw [hfm] at C
      dsimp only at C
      have H0 := Lib.hid (And.intro C (And.intro x0 (And.intro hb0 (And.intro hy0 (And.intro hre (And.intro hb hfm))))))
      have p0 := x0.cell 0
      have p1 := x0.cell 1
      have p2 := x0.cell 2
      simp at p0 p1 p2
      clear C x0 hb0 hy0 hy hre hb hfm bw
      go_wp2_with fail
      refine H0.out.1.mono ?_
      rintro e w2 ⟨rfl, hb2⟩
      have b02 := H0.out.2.2.1.trans (hb2.mono H0.out.2.2.1.size)
      have bw2 := H0.out.2.2.2.2.2.1.trans (b02.mono H0.out.2.2.2.2.2.1.size)
      have hfm := H0.out.2.2.2.2.2.2
      have HB2 := Lib.hid (And.intro bw2 (HS.out.1.trans (bw2.mono HS.out.1.size)))
      clear bw2 b02 hb2
      by_cases hml : m = ys.length ∧ wh = false
      case pos =>
        obtain ⟨hml, rfl⟩ := hml
        have hfr : RE = decide (0 < m) := by rw [H0.out.2.2.2.2.1]; exact openS_yes (s := stN) hfm hml
        have h1 : (m : Int) = (ys.length : Int) := by omega
        have h2 : ((m : Int) == (ys.length : Int)) = true := by simp; omega
        have HFR := Lib.hid (And.intro hfr hml)
        clear hfr hfm hml
        go_wp2_with fail
        go_ret
        refine ⟨?_, HB2.out.2⟩
        rw [HFR.out.1]
        have := HFR.out.2
        simp
        omega
      case neg =>
        have hre2 : RE = openS (styL.drop 1) ys := by rw [H0.out.2.2.2.2.1]; exact openS_no (s := stN) hfm hml
        have HR2 := Lib.hid hre2
        by_cases hm2 : m = ys.length
        case pos =>
          have hwh : wh = true := by cases wh with
            | true => rfl
            | false => exact absurd ⟨hm2, rfl⟩ hml
          subst hwh
          have h1 : (m : Int) = (ys.length : Int) := by omega
          have h2 : ((m : Int) == (ys.length : Int)) = true := by simp; omega
          clear hm2 hml hfm hre2
          go_wp2_with fail
          go_roundw
          case rel => exact ⟨1, rfl, by decide, HR2.out, HB2.out.1⟩
          case measure => exact (by decide)
        case neg =>
          have h1 : ¬ (m : Int) = (ys.length : Int) := by omega
          have h2 : ((m : Int) == (ys.length : Int)) = false := by simp; omega
          clear hm2 hml hfm hre2
          go_wp2_with fail
          go_roundw
          case rel => exact ⟨1, rfl, by decide, HR2.out, HB2.out.1⟩
          case measure => exact (by decide)
    · have hixq : ∀ W, (Instr.index 62 SV (.int .i64 1)).run Tryd.prog W = .ok (.agg #[.string ⟨#[38, 35]⟩, .func (Fn.func 67) #[] #[.pointer (some ⟨g1 + 1, 0, none⟩), .pointer (some ⟨g1, 0, none⟩)], .func (Fn.func 69) #[] #[.pointer (some ⟨g1, 0, none⟩)]]) W := fun W => (HX.out W).2.1
      obtain ⟨W0, hW0⟩ : ∃ W, wr.alloc (.cells #[.string ⟨#[38, 35]⟩, .func (Fn.func 67) #[] #[.pointer (some ⟨g1 + 1, 0, none⟩), .pointer (some ⟨g1, 0, none⟩)], .func (Fn.func 69) #[] #[.pointer (some ⟨g1, 0, none⟩)]] 61) = W := ⟨_, rfl⟩
      have hb0 : Below wr.heap.size wr W0 := by rw [← hW0]; exact below_new _ _
      have x0 : Cells W0 wr.heap.size 61 #[.string ⟨#[38, 35]⟩, .func (Fn.func 67) #[] #[.pointer (some ⟨g1 + 1, 0, none⟩), .pointer (some ⟨g1, 0, none⟩)], .func (Fn.func 69) #[] #[.pointer (some ⟨g1, 0, none⟩)]] := by rw [← hW0]; exact cells_new _ _ _
      have hy0 := hy.on hb0
      have Cs : StyAt W0 g1 10 7 := ((HS.out.2.1).on hb).on hb0
      have C := follow67_any W0 [38, 35] (by decide) (by decide) (mayD 10 7) ⟨g1 + 1, 0, none⟩ ⟨g1, 0, none⟩ 69 #[.pointer (some ⟨g1, 0, none⟩)] ys A cq hy0 (fun W hbW b' o' cap' l cc hcc hBY =>
        (mayD_any (Or.inl rfl) 7 l _ cap' cc hBY.len (g1 + 1) g1 W ((Cs.m).on hbW) ((Cs.b).on hbW)).mono (fun e w' h => ⟨h.1, by rw [h.2]; exact Below.refl _ _⟩))
      obtain ⟨m, wh, hfm⟩ : ∃ m wh, followR [38, 35] (mayD 10 7) ys = (m, wh) := ⟨_, _, rfl⟩
      rw [hfm] at C
      dsimp only at C
      have H0 := Lib.hid (And.intro C (And.intro x0 (And.intro hb0 (And.intro hy0 (And.intro hre (And.intro hb hfm))))))
      have HCs := Lib.hid Cs
      clear Cs
      have p0 := x0.cell 0
      have p1 := x0.cell 1
      have p2 := x0.cell 2
      simp at p0 p1 p2
      clear C x0 hb0 hy0 hy hre hb hfm bw
      go_wp2_with fail
      refine H0.out.1.mono ?_
      rintro e w2 ⟨rfl, hb2⟩
      have b02 := H0.out.2.2.1.trans (hb2.mono H0.out.2.2.1.size)
      have bw2 := H0.out.2.2.2.2.2.1.trans (b02.mono H0.out.2.2.2.2.2.1.size)
      have hfm := H0.out.2.2.2.2.2.2
      have HB2 := Lib.hid (And.intro bw2 (HS.out.1.trans (bw2.mono HS.out.1.size)))
      clear bw2 b02 hb2
      by_cases hml : m = ys.length ∧ wh = false
      case pos =>
        obtain ⟨hml, rfl⟩ := hml
        have hfr : RE = decide (0 < m) := by rw [H0.out.2.2.2.2.1]; exact openS_yes (s := stD [38, 35] 10 7) hfm hml
        have h1 : (m : Int) = (ys.length : Int) := by omega
        have h2 : ((m : Int) == (ys.length : Int)) = true := by simp; omega
        have HFR := Lib.hid (And.intro hfr hml)
        clear hfr hfm hml
        go_wp2_with fail
        go_ret
        refine ⟨?_, HB2.out.2⟩
        rw [HFR.out.1]
        have := HFR.out.2
        simp
        omega
      case neg =>
        have hre2 : RE = openS (styL.drop 2) ys := by rw [H0.out.2.2.2.2.1]; exact openS_no (s := stD [38, 35] 10 7) hfm hml
        have HR2 := Lib.hid hre2
        by_cases hm2 : m = ys.length
        case pos =>
          have hwh : wh = true := by cases wh with
            | true => rfl
            | false => exact absurd ⟨hm2, rfl⟩ hml
          subst hwh
          have h1 : (m : Int) = (ys.length : Int) := by omega
          have h2 : ((m : Int) == (ys.length : Int)) = true := by simp; omega
          clear hm2 hml hfm hre2
          go_wp2_with fail
          go_roundw
          case rel => exact ⟨2, rfl, by decide, HR2.out, HB2.out.1⟩
          case measure => exact (by decide)
        case neg =>
          have h1 : ¬ (m : Int) = (ys.length : Int) := by omega
          have h2 : ((m : Int) == (ys.length : Int)) = false := by simp; omega
          clear hm2 hml hfm hre2
          go_wp2_with fail
          go_roundw
          case rel => exact ⟨2, rfl, by decide, HR2.out, HB2.out.1⟩
          case measure => exact (by decide)
    · have hixq : ∀ W, (Instr.index 62 SV (.int .i64 2)).run Tryd.prog W = .ok (.agg #[.string ⟨#[38, 35, 120]⟩, .func (Fn.func 67) #[] #[.pointer (some ⟨g2 + 1, 0, none⟩), .pointer (some ⟨g2, 0, none⟩)], .func (Fn.func 69) #[] #[.pointer (some ⟨g2, 0, none⟩)]]) W := fun W => (HX.out W).2.2.1
      obtain ⟨W0, hW0⟩ : ∃ W, wr.alloc (.cells #[.string ⟨#[38, 35, 120]⟩, .func (Fn.func 67) #[] #[.pointer (some ⟨g2 + 1, 0, none⟩), .pointer (some ⟨g2, 0, none⟩)], .func (Fn.func 69) #[] #[.pointer (some ⟨g2, 0, none⟩)]] 61) = W := ⟨_, rfl⟩
      have hb0 : Below wr.heap.size wr W0 := by rw [← hW0]; exact below_new _ _
      have x0 : Cells W0 wr.heap.size 61 #[.string ⟨#[38, 35, 120]⟩, .func (Fn.func 67) #[] #[.pointer (some ⟨g2 + 1, 0, none⟩), .pointer (some ⟨g2, 0, none⟩)], .func (Fn.func 69) #[] #[.pointer (some ⟨g2, 0, none⟩)]] := by rw [← hW0]; exact cells_new _ _ _
      have hy0 := hy.on hb0
      have Cs : StyAt W0 g2 16 6 := ((HS.out.2.2.1).on hb).on hb0
      have C := follow67_any W0 [38, 35, 120] (by decide) (by decide) (mayD 16 6) ⟨g2 + 1, 0, none⟩ ⟨g2, 0, none⟩ 69 #[.pointer (some ⟨g2, 0, none⟩)] ys A cq hy0 (fun W hbW b' o' cap' l cc hcc hBY =>
        (mayD_any (Or.inr rfl) 6 l _ cap' cc hBY.len (g2 + 1) g2 W ((Cs.m).on hbW) ((Cs.b).on hbW)).mono (fun e w' h => ⟨h.1, by rw [h.2]; exact Below.refl _ _⟩))
      obtain ⟨m, wh, hfm⟩ : ∃ m wh, followR [38, 35, 120] (mayD 16 6) ys = (m, wh) := ⟨_, _, rfl⟩
      rw [hfm] at C
      dsimp only at C
      have H0 := Lib.hid (And.intro C (And.intro x0 (And.intro hb0 (And.intro hy0 (And.intro hre (And.intro hb hfm))))))
      have HCs := Lib.hid Cs
      clear Cs
      have p0 := x0.cell 0
      have p1 := x0.cell 1
      have p2 := x0.cell 2
      simp at p0 p1 p2
      clear C x0 hb0 hy0 hy hre hb hfm bw
      go_wp2_with fail
      refine H0.out.1.mono ?_
      rintro e w2 ⟨rfl, hb2⟩
      have b02 := H0.out.2.2.1.trans (hb2.mono H0.out.2.2.1.size)
      have bw2 := H0.out.2.2.2.2.2.1.trans (b02.mono H0.out.2.2.2.2.2.1.size)
      have hfm := H0.out.2.2.2.2.2.2
      have HB2 := Lib.hid (And.intro bw2 (HS.out.1.trans (bw2.mono HS.out.1.size)))
      clear bw2 b02 hb2
      by_cases hml : m = ys.length ∧ wh = false
      case pos =>
        obtain ⟨hml, rfl⟩ := hml
        have hfr : RE = decide (0 < m) := by rw [H0.out.2.2.2.2.1]; exact openS_yes (s := stD [38, 35, 120] 16 6) hfm hml
        have h1 : (m : Int) = (ys.length : Int) := by omega
        have h2 : ((m : Int) == (ys.length : Int)) = true := by simp; omega
        have HFR := Lib.hid (And.intro hfr hml)
        clear hfr hfm hml
        go_wp2_with fail
        go_ret
        refine ⟨?_, HB2.out.2⟩
        rw [HFR.out.1]
        have := HFR.out.2
        simp
        omega
      case neg =>
        have hre2 : RE = openS (styL.drop 3) ys := by rw [H0.out.2.2.2.2.1]; exact openS_no (s := stD [38, 35, 120] 16 6) hfm hml
        have HR2 := Lib.hid hre2
        by_cases hm2 : m = ys.length
        case pos =>
          have hwh : wh = true := by cases wh with
            | true => rfl
            | false => exact absurd ⟨hm2, rfl⟩ hml
          subst hwh
          have h1 : (m : Int) = (ys.length : Int) := by omega
          have h2 : ((m : Int) == (ys.length : Int)) = true := by simp; omega
          clear hm2 hml hfm hre2
          go_wp2_with fail
          go_roundw
          case rel => exact ⟨3, rfl, by decide, HR2.out, HB2.out.1⟩
          case measure => exact (by decide)
        case neg =>
          have h1 : ¬ (m : Int) = (ys.length : Int) := by omega
          have h2 : ((m : Int) == (ys.length : Int)) = false := by simp; omega
          clear hm2 hml hfm hre2
          go_wp2_with fail
          go_roundw
          case rel => exact ⟨3, rfl, by decide, HR2.out, HB2.out.1⟩
          case measure => exact (by decide)
    · have hixq : ∀ W, (Instr.index 62 SV (.int .i64 3)).run Tryd.prog W = .ok (.agg #[.string ⟨#[38, 35, 88]⟩, .func (Fn.func 67) #[] #[.pointer (some ⟨g3 + 1, 0, none⟩), .pointer (some ⟨g3, 0, none⟩)], .func (Fn.func 69) #[] #[.pointer (some ⟨g3, 0, none⟩)]]) W := fun W => (HX.out W).2.2.2
      obtain ⟨W0, hW0⟩ : ∃ W, wr.alloc (.cells #[.string ⟨#[38, 35, 88]⟩, .func (Fn.func 67) #[] #[.pointer (some ⟨g3 + 1, 0, none⟩), .pointer (some ⟨g3, 0, none⟩)], .func (Fn.func 69) #[] #[.pointer (some ⟨g3, 0, none⟩)]] 61) = W := ⟨_, rfl⟩
      have hb0 : Below wr.heap.size wr W0 := by rw [← hW0]; exact below_new _ _
      have x0 : Cells W0 wr.heap.size 61 #[.string ⟨#[38, 35, 88]⟩, .func (Fn.func 67) #[] #[.pointer (some ⟨g3 + 1, 0, none⟩), .pointer (some ⟨g3, 0, none⟩)], .func (Fn.func 69) #[] #[.pointer (some ⟨g3, 0, none⟩)]] := by rw [← hW0]; exact cells_new _ _ _
      have hy0 := hy.on hb0
      have Cs : StyAt W0 g3 16 6 := ((HS.out.2.2.2.1).on hb).on hb0
      have C := follow67_any W0 [38, 35, 88] (by decide) (by decide) (mayD 16 6) ⟨g3 + 1, 0, none⟩ ⟨g3, 0, none⟩ 69 #[.pointer (some ⟨g3, 0, none⟩)] ys A cq hy0 (fun W hbW b' o' cap' l cc hcc hBY =>
        (mayD_any (Or.inr rfl) 6 l _ cap' cc hBY.len (g3 + 1) g3 W ((Cs.m).on hbW) ((Cs.b).on hbW)).mono (fun e w' h => ⟨h.1, by rw [h.2]; exact Below.refl _ _⟩))
      obtain ⟨m, wh, hfm⟩ : ∃ m wh, followR [38, 35, 88] (mayD 16 6) ys = (m, wh) := ⟨_, _, rfl⟩
      rw [hfm] at C
      dsimp only at C
      have H0 := Lib.hid (And.intro C (And.intro x0 (And.intro hb0 (And.intro hy0 (And.intro hre (And.intro hb hfm))))))
      have HCs := Lib.hid Cs
      clear Cs
      have p0 := x0.cell 0
      have p1 := x0.cell 1
      have p2 := x0.cell 2
      simp at p0 p1 p2
      clear C x0 hb0 hy0 hy hre hb hfm bw
      go_wp2_with fail
      refine H0.out.1.mono ?_
      rintro e w2 ⟨rfl, hb2⟩
      have b02 := H0.out.2.2.1.trans (hb2.mono H0.out.2.2.1.size)
      have bw2 := H0.out.2.2.2.2.2.1.trans (b02.mono H0.out.2.2.2.2.2.1.size)
      have hfm := H0.out.2.2.2.2.2.2
      have HB2 := Lib.hid (And.intro bw2 (HS.out.1.trans (bw2.mono HS.out.1.size)))
      clear bw2 b02 hb2
      by_cases hml : m = ys.length ∧ wh = false
      case pos =>
        obtain ⟨hml, rfl⟩ := hml
        have hfr : RE = decide (0 < m) := by rw [H0.out.2.2.2.2.1]; exact openS_yes (s := stD [38, 35, 88] 16 6) hfm hml
        have h1 : (m : Int) = (ys.length : Int) := by omega
        have h2 : ((m : Int) == (ys.length : Int)) = true := by simp; omega
        have HFR := Lib.hid (And.intro hfr hml)
        clear hfr hfm hml
        go_wp2_with fail
        go_ret
        refine ⟨?_, HB2.out.2⟩
        rw [HFR.out.1]
        have := HFR.out.2
        simp
        omega
      case neg =>
        have hre2 : RE = openS (styL.drop 4) ys := by rw [H0.out.2.2.2.2.1]; exact openS_no (s := stD [38, 35, 88] 16 6) hfm hml
        have HR2 := Lib.hid hre2
        by_cases hm2 : m = ys.length
        case pos =>
          have hwh : wh = true := by cases wh with
            | true => rfl
            | false => exact absurd ⟨hm2, rfl⟩ hml
          subst hwh
          have h1 : (m : Int) = (ys.length : Int) := by omega
          have h2 : ((m : Int) == (ys.length : Int)) = true := by simp; omega
          clear hm2 hml hfm hre2
          go_wp2_with fail
          go_roundw
          case rel => exact ⟨4, rfl, by decide, HR2.out, HB2.out.1⟩
          case measure => exact (by decide)
        case neg =>
          have h1 : ¬ (m : Int) = (ys.length : Int) := by omega
          have h2 : ((m : Int) == (ys.length : Int)) = false := by simp; omega
          clear hm2 hml hfm hre2
          go_wp2_with fail
          go_roundw
          case rel => exact ⟨4, rfl, by decide, HR2.out, HB2.out.1⟩
          case measure => exact (by decide)
end Go.Proofs.YtpimadgcojgjaaaDoor
