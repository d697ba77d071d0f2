/-
  
  
  
  
  
  
-/
import Derived.Test.YtojinnnpfjhifaaGreatDoorYqi
import Derived.Test.YtojinnnpfjhifaaGreatDoorYqh
import Derived.RangeFuncNested
import Derived.RangeFuncBound
import Derived.RangeFuncCalls
import Derived.RangeFuncLeaves
import Derived.Shelf.Abstract
import Derived.Shelf.RegionOpen
import Derived.WalkKit
import Derived.OwnWalkIn
import Derived.TacticsInMore
import Derived.LoopNIn
import Derived.LoopIn
namespace Go.Proofs.YtojinnnpfjhifaaGreatDoor
open Go.RowKit Go.Shelf Go.Lib Go.Maps Go.Great
attribute [local irreducible] NR ZNR FR nmE
structure Sty where
 beg : List UInt8
 may : List Nat → Nat → Bool
 means : List Nat → Int
def mayNm (l : List Nat) (c : Nat) : Bool := (nmE.find? (isMy l c)).isSome
def stN : Sty := ⟨[38], mayNm, fun l => nmR (u8s l)⟩
def stD (beg : List UInt8) (b most : Nat) : Sty := ⟨beg, mayD b most, fun l => mnR (nbV b l 0)⟩
def styL : List Sty := [stN, stD [38, 35] 10 7, stD [38, 35, 120] 16 6, stD [38, 35, 88] 16 6]
def readS : List Sty → List Nat → Int × Nat
 | [], _ => (0, 0)
 | s :: r, xs => if (followR s.beg s.may xs).2 then (s.means ((xs.take ((followR s.beg s.may xs).1 - 1)).drop s.beg.length), (followR s.beg s.may xs).1) else readS r xs
def readE (xs : List Nat) (i : Int) : Int × Nat := if i < 0 ∨ (xs.length : Int) ≤ i then (0, 0) else if xs.getD i.toNat 0 = 38 then readS styL (xs.drop i.toNat) else (0, 0)
theorem take_snoc {l : List Nat} {n c h : Nat} (hx : l[n]? = some c) (hh : h ≤ n) : (l.take (n + 1)).drop h = (l.take n).drop h ++ [c] := by
 have hn := (List.getElem?_eq_some_iff.1 hx).1
 rw [List.take_add_one, hx, Option.toList_some, List.drop_append_of_le_length (by simp; omega)]
theorem fol_true {may : List Nat → Nat → Bool} {xs : List Nat} {h m : Nat} : ∀ (r : List Nat) (n : Nat), r = xs.drop n → h ≤ n → fol may xs h n r = (m, true) → n < m ∧ m ≤ xs.length
 | [], n, _, _, e => by simp [fol] at e
 | c :: r, n, hr, hh, e => by
  have hx : xs[n]? = some c := by have := congrArg (·[0]?) hr; simpa using this.symm
  have hn := (List.getElem?_eq_some_iff.1 hx).1
  rw [fol] at e
  split at e
  ·split at e
   ·simp at e
    omega
   ·have hr2 : r = xs.drop (n + 1) := by
     have := drop_at hx
     rw [← hr] at this
     injection this
    have := fol_true r (n + 1) hr2 (by omega) e
    omega
  ·simp at e
theorem fol_num {b most : Nat} {xs : List Nat} {h m : Nat} : ∀ (r : List Nat) (n : Nat), r = xs.drop n → h ≤ n → (∀ x ∈ (xs.take n).drop h, dgB b x = true) → ((xs.take n).drop h).length ≤ most → fol (mayD b most) xs h n r = (m, true) →
  (∀ x ∈ (xs.take (m - 1)).drop h, dgB b x = true) ∧ (xs.take (m - 1)).drop h ≠ [] ∧ ((xs.take (m - 1)).drop h).length ≤ most
 | [], n, _, _, _, _, e => by simp [fol] at e
 | c :: r, n, hr, hh, hd, hl, e => by
  have hx : xs[n]? = some c := by have := congrArg (·[0]?) hr; simpa using this.symm
  have hn := (List.getElem?_eq_some_iff.1 hx).1
  rw [fol] at e
  split at e
  ·rename_i hmay
   split at e
   ·rename_i hc
    simp at e
    obtain rfl := e
    rw [mayD, if_pos hc] at hmay
    refine ⟨by simpa using hd, ?_, by simpa using hl⟩
    intro e0
    simp at hmay
    have := congrArg List.length e0
    simp at this
    omega
   ·rename_i hc
    have hr2 : r = xs.drop (n + 1) := by
     have := drop_at hx
     rw [← hr] at this
     injection this
    rw [mayD, if_neg hc] at hmay
    simp only [Bool.and_eq_true, decide_eq_true_eq] at hmay
    refine fol_num r (n + 1) hr2 (by omega) ?_ ?_ e
    ·rw [take_snoc hx hh]
     intro x hx
     rcases List.mem_append.1 hx with h | h
     ·exact hd x h
     ·rw [List.mem_singleton.1 h]; exact hmay.2
    ·rw [take_snoc hx hh, List.length_append]
     simp only [List.length_singleton]
     omega
  ·simp at e
theorem follow_true {beg : List UInt8} {may : List Nat → Nat → Bool} {xs : List Nat} {m : Nat} (e : followR beg may xs = (m, true)) : beg.length < m ∧ m ≤ xs.length := by
 unfold followR at e
 split at e
 ·exact fol_true _ _ rfl (Nat.le_refl _) e
 ·simp at e
theorem follow_num {beg : List UInt8} {b most : Nat} {xs : List Nat} {m : Nat} (e : followR beg (mayD b most) xs = (m, true)) :
  (∀ x ∈ (xs.take (m - 1)).drop beg.length, dgB b x = true) ∧ (xs.take (m - 1)).drop beg.length ≠ [] ∧ ((xs.take (m - 1)).drop beg.length).length ≤ most := by
 unfold followR at e
 split at e
 ·refine fol_num _ _ rfl (Nat.le_refl _) ?_ ?_ e
  ·intro x hx
   simp at hx
  ·simp
 ·simp at e
theorem slice_from (b o len cap l : Nat) (hlh : l < len) (hh : len ≤ cap) (W : World) :
  (Instr.slice 22 (.slice (some ⟨b, o, none⟩) len cap) (some (.int .i64 (l : Int))) none none).run Tryz.prog W = .ok (.slice (some ⟨b, o + l, none⟩) (len - l) (cap - l)) W := by
 have ht : Tryz.prog.underlying 22 = some (.slice 5) := Tryz.underlying22
 have ht' : Tryz.prog.underlying 22 = some (.slice (Tryz.prog.elem 22)) := by simp [Program.elem, ht]
 have he : Tryz.prog.elem 22 = 5 := by simp [Program.elem, ht]
 have hz : ∀ w, (Go.sizeOf 5).run Tryz.prog w = .ok 1 w := fun w => by kernel_rfl
 rw [run_slice_l W 22 _ _ _ ht' .i64 _ (by omega) (by omega), he, hz]
 have hne : ¬ cap = l := by omega
 by_cases h0 : l = 0
 ·subst h0
  simp [Result.andThen, sliced, Addr.add, hne]
 ·simp [Result.andThen, sliced, Addr.add, hne, h0]
theorem index_sty (g1 g2 g3 : Nat) (W : World) : (Instr.index 142 (stysV g1 g2 g3) (.int .i64 0)).run Tryz.prog W = .ok (.agg namF.toArray) W ∧ (Instr.index 142 (stysV g1 g2 g3) (.int .i64 1)).run Tryz.prog W = .ok (.agg (numF [38, 35] g1).toArray) W ∧
  (Instr.index 142 (stysV g1 g2 g3) (.int .i64 2)).run Tryz.prog W = .ok (.agg (numF [38, 35, 120] g2).toArray) W ∧ (Instr.index 142 (stysV g1 g2 g3) (.int .i64 3)).run Tryz.prog W = .ok (.agg (numF [38, 35, 88] g3).toArray) W :=
 ⟨by kernel_rfl, by kernel_rfl, by kernel_rfl, by kernel_rfl⟩
end Go.Proofs.YtojinnnpfjhifaaGreatDoor

namespace Go.Proofs.YtojinnnpfjhifaaGreatDoor
open Go.RowKit Go.Shelf Go.Lib Go.Maps Go.Great
open Go.Sort (grow)
attribute [local irreducible] NR ZNR FR nmE
theorem readS_no {s : Sty} {r : List Sty} {xs : List Nat} (h : (followR s.beg s.may xs).2 = false) : readS (s :: r) xs = readS r xs := by
 rw [readS, h]
 rfl
theorem readS_yes {s : Sty} {r : List Sty} {xs : List Nat} {m : Nat} (h : followR s.beg s.may xs = (m, true)) : readS (s :: r) xs = (s.means ((xs.take (m - 1)).drop s.beg.length), m) := by
 rw [readS, h]
 rfl
set_option maxHeartbeats 8000000 in
set_option maxRecDepth 100000 in
theorem readE_any (w : World) (hT : S.Tabs w) (xs : List Nat) (A : Option Addr) (cap : Nat) (hx : BY w w.heap.size xs A cap) (i : Int) (hi0 : -9223372036854775808 ≤ i) (hi1 : i ≤ 9223372036854775807) :
  Calls Tryz.prog 66 #[.slice A xs.length cap, .int .i64 i] w fun e w' => e = .returned (.tuple #[.int .i32 (readE xs i).1, .int .i64 ((readE xs i).2 : Nat)]) ∧ Below w.heap.size w w' := by
 have hs : ∀ (a : Addr) (f : FuncId) (c : Array Value) (m : Mode) (W : World), (store a (.func (Fn.func f) #[] c) m).run Tryz.prog W = stored Tryz.prog W a (.func (Fn.func f) #[] c) m := fun a f c m W => run_store_func Tryz.prog W a m _ _ _
 obtain ⟨RE, hRE⟩ : ∃ v, readE xs i = v := ⟨_, rfl⟩
 rw [hRE]
 have HH := Lib.hid (And.intro hRE (And.intro hx hT))
 clear hRE hT
 by_cases h0 : i < 0
 case pos =>
  have hf : RE = (0, 0) := by rw [← HH.out.1, readE, if_pos (Or.inl h0)]
  clear hx
  go_enter Tryz.func66, Tryz.ntmps66
  go_wp2_with fail
  refine bodyPost_ret (v := .tuple #[.int .i32 0, .int .i64 0]) ?_ rfl ⟨by first | rfl | (rw [hf]; rfl), Below.refl _ _⟩
  simp [results, Tryz.results66, go_sem]
 case neg =>
 obtain ⟨k, rfl⟩ : ∃ k : Nat, i = (k : Int) := ⟨i.toNat, by omega⟩
 by_cases h1 : xs.length ≤ k
 case pos =>
  have hf : RE = (0, 0) := by rw [← HH.out.1, readE, if_pos (Or.inr (by omega))]
  have h2 : ¬ (k : Int) < (xs.length : Int) := by omega
  have h3 : (xs.length : Int) ≤ (k : Int) := by omega
  clear hx
  go_enter Tryz.func66, Tryz.ntmps66
  go_wp2_with fail
  refine bodyPost_ret (v := .tuple #[.int .i32 0, .int .i64 0]) ?_ rfl ⟨by first | rfl | (rw [hf]; rfl), Below.refl _ _⟩
  simp [results, Tryz.results66, go_sem]
 case neg =>
 have hk : k < xs.length := by omega
 obtain ⟨c, hc⟩ := at_lt hk
 obtain ⟨b, o, rfl, hbl, d0⟩ := hx.at hc
 have h2 : (k : Int) < (xs.length : Int) := by omega
 have h3 : ¬ (xs.length : Int) ≤ (k : Int) := by omega
 have hgd : xs.getD k 0 = c := by simp [List.getD_eq_getElem?_getD, hc]
 have hcl := hx.l
 by_cases h38 : c = 38
 case neg =>
  have hf : RE = (0, 0) := by rw [← HH.out.1, readE, if_neg (by omega), Int.toNat_natCast, hgd, if_neg h38]
  have hc1 : ¬ (c : Int) = 38 := by omega
  have hc2 : ((c : Int) == 38) = false := by simp; omega
  clear hx hgd
  go_enter Tryz.func66, Tryz.ntmps66
  go_wp2_with fail
  refine bodyPost_ret (v := .tuple #[.int .i32 0, .int .i64 0]) ?_ rfl ⟨by first | rfl | (rw [hf]; rfl), Below.refl _ _⟩
  simp [results, Tryz.results66, go_sem]
 case pos =>
 subst h38
 have hf : RE = readS styL (xs.drop k) := by rw [← HH.out.1, readE, if_neg (by omega), Int.toNat_natCast, hgd, if_pos rfl]
 have hy := hx.drop hk
 have hsl := slice_from b o xs.length cap k hk hcl
 have hyl : xs.length - k = (xs.drop k).length := by simp
 rw [hyl] at hsl
 generalize hys : xs.drop k = ys at *
 have HF := Lib.hid (And.intro hf hy)
 clear hf hx hgd hcl hy
 go_enter Tryz.func66, Tryz.ntmps66
 go_wp2_with fail
 refine (styles_any w).mono ?_
 rintro e w1 ⟨g1, g2, g3, rfl, hb1, S1, S2, S3⟩
 obtain ⟨cq, hcq⟩ : ∃ n, cap - k = n := ⟨_, rfl⟩
 obtain ⟨oq, hoq⟩ : ∃ n, o + k = n := ⟨_, rfl⟩
 rw [hcq, hoq] at HF
 have hT1 : S.Tabs w1 := HH.out.2.2.below hb1 HH.out.2.2.2
 have HS := Lib.hid (And.intro hb1 (And.intro S1 (And.intro S2 (And.intro S3 (And.intro hT1 (HF.out.2.on hb1))))))
 clear hb1 S1 S2 S3 hT1 hsl d0 hbl
 obtain ⟨SV, hSV⟩ : ∃ v, stysV g1 g2 g3 = v := ⟨_, rfl⟩
 have hix := fun W => index_sty g1 g2 g3 W
 rw [hSV] at hix
 rw [hSV]
 have HX := Lib.hid hix
 clear hix hSV
 go_wp2_with fail
 go_loopw [29] (fun r wr => ∃ q : Nat, r = .int .i64 (q : Int) ∧ q ≤ 4 ∧ RE = readS (styL.drop q) ys ∧ Below w1.heap.size w1 wr) (fun r _ => 4 - (RowKit.intOf r).toNat)
 case atStart => exact ⟨0, rfl, by decide, HF.out.1, Below.refl _ _⟩
 case round =>
  obtain ⟨q, rfl, hq, hre, hb⟩ := hrel
  have hy := HS.out.2.2.2.2.2.on hb
  have hTr : S.Tabs wr := HS.out.2.2.2.2.1.below hb HS.out.2.2.2.2.1.2
  have bw : Below w.heap.size w wr := HS.out.1.trans (hb.mono HS.out.1.size)
  obtain rfl | hq4 : q = 4 ∨ q < 4 := by omega
  ·have hf : RE = (0, 0) := hre
   have HK := Lib.hid (And.intro hf bw)
   clear hre hb hf bw hy hTr
   go_wp2_with fail
   refine bodyPost_ret (v := .tuple #[.int .i32 0, .int .i64 0]) ?_ rfl ⟨by rw [HK.out.1]; rfl, HK.out.2⟩
   simp [results, Tryz.results66, go_sem]
  obtain rfl | rfl | rfl | rfl : q = 0 ∨ q = 1 ∨ q = 2 ∨ q = 3 := by omega
  ·have hixq : ∀ W, (Instr.index 142 SV (.int .i64 0)).run Tryz.prog W = .ok (.agg #[.string ⟨#[38]⟩, .func (Fn.func 94) #[] #[], .func (Fn.func 95) #[] #[]]) W := fun W => (HX.out W).1
   obtain ⟨W0, hW0⟩ : ∃ W, wr.alloc (.cells #[.string ⟨#[38]⟩, .func (Fn.func 94) #[] #[], .func (Fn.func 95) #[] #[]] 141) = W := ⟨_, rfl⟩
   have hb0 : Below wr.heap.size wr W0 := by rw [← hW0]; exact below_new _ _
   have x0 : Cells W0 wr.heap.size 141 #[.string ⟨#[38]⟩, .func (Fn.func 94) #[] #[], .func (Fn.func 95) #[] #[]] := by rw [← hW0]; exact cells_new _ _ _
   have hy0 := hy.on hb0
   have C := follow51_any W0 [38] (by decide) (by decide) mayNm 95 #[] ys (some ⟨b, oq, none⟩) cq hy0 (fun W hbW b' o' cap' l cc hcc hBY => mayName_any W l _ cap' cc hBY)
   have hT0 : S.Tabs W0 := hTr.below hb0 hTr.2
   obtain ⟨m, wh, hfm⟩ : ∃ m wh, followR [38] (mayNm) ys = (m, wh) := ⟨_, _, rfl⟩
   rw [hfm] at C
   dsimp only at C
   have H0 := Lib.hid (And.intro C (And.intro x0 (And.intro hb0 (And.intro hy0 (And.intro hT0 (And.intro hre (And.intro hb hfm)))))))
   have p0 := x0.cell 0
   have p1 := x0.cell 1
   have p2 := x0.cell 2
   simp at p0 p1 p2
   clear C x0 hb0 hy0 hy hTr hre hb hT0 hfm bw
   go_wp2_with fail
   refine H0.out.1.mono ?_
   rintro e w2 ⟨rfl, hb2⟩
   have b02 := H0.out.2.2.1.trans (hb2.mono H0.out.2.2.1.size)
   have bw2 := H0.out.2.2.2.2.2.2.1.trans (b02.mono H0.out.2.2.2.2.2.2.1.size)
   have x2 := H0.out.2.1.on hb2
   have r0 := x2.cell 0
   have r2 := x2.cell 2
   simp at r0 r2
   cases wh with
   | false =>
    have HB2 := Lib.hid bw2
    have hre2 : RE = readS (styL.drop 1) ys := by rw [H0.out.2.2.2.2.2.1]; exact readS_no (by have := H0.out.2.2.2.2.2.2.2; exact congrArg Prod.snd this)
    have HR2 := Lib.hid hre2
    clear bw2 b02 x2 hb2 r0 r2 hre2
    go_wp2_with fail
    go_roundw
    case rel => exact ⟨1, rfl, by decide, HR2.out, HB2.out⟩
    case measure => exact (by decide)
   | true =>
    have hfm : followR [38] (mayNm) ys = (m, true) := H0.out.2.2.2.2.2.2.2
    have hm := follow_true hfm
    have hlt : 1 < m ∧ m ≤ ys.length := hm
    have hfr : RE = (nmR (u8s ((ys.take (m - 1)).drop 1)), m) := by rw [H0.out.2.2.2.2.2.1]; exact readS_yes (s := stN) hfm
    have hT2 : S.Tabs w2 := H0.out.2.2.2.2.1.below hb2 H0.out.2.2.2.2.1.2
    have hyw := (H0.out.2.2.2.1.on hb2).win 1 (m - 1) (by omega) (by omega)
    have hwl : ((ys.take (m - 1)).drop 1).length = m - 1 - 1 := by simp; omega
    have hcy := H0.out.2.2.2.1.l
    have hsl : ∀ W, (Instr.slice 22 (.slice (some ⟨b, oq, none⟩) ys.length cq) (some (.int .i64 1)) (some (.int .i64 ((m - 1 : Nat) : Int))) none).run Tryz.prog W = .ok (.slice (some ⟨b, oq + 1, none⟩) (m - 1 - 1) (cq - 1)) W := slice_win b oq ys.length cq 1 (m - 1) (by omega) (by omega) (by omega)
    have hm1 : ((m - 1 : Nat) : Int) = (m : Int) - 1 := by omega
    have hlen := H0.out.2.2.2.1.len
    have w1' : wrap64 ((m : Int) - 1) = ((m - 1 : Nat) : Int) := by unfold wrap64; omega
    have MC : ∀ d os, Calls Tryz.prog 95 #[.slice (some ⟨b, oq + 1, none⟩) (m - 1 - 1) (cq - 1)] (grow (redrawn w2 d) os) fun e w'' => e = .returned (.int .i32 (nmR (u8s ((ys.take (m - 1)).drop 1)))) ∧ ∃ p : Regrown, w'' = grow (redrawn w2 p.d) p.os := fun d os => by
     have := ofName_any (grow (redrawn w2 d) os) ((ys.take (m - 1)).drop 1) _ _ (hyw.on (below_regrown w2 d os))
     rw [hwl] at this
     exact Calls.regrown_of this
    obtain ⟨RV, hRV⟩ : ∃ v, nmR (u8s ((ys.take (m - 1)).drop 1)) = v := ⟨_, rfl⟩
    rw [hRV] at MC hfr
    obtain ⟨mm, hmm⟩ : ∃ n, m - 1 = n := ⟨_, rfl⟩
    rw [hmm] at MC hsl w1'
    have HK := Lib.hid (And.intro hfr bw2)
    have z0 := cell_regrown r0
    have z2 := cell_regrown r2
    clear hfr bw2 b02 x2 hb2 r0 r2 hm hlt hT2 hyw hwl hcy hm1 hlen hfm hRV hmm
    go_wp2_with fail
    refine wp_region_quiet_below (by kernel_rfl) (by kernel_rfl) ?_
    repeat (go_big_quiet_step (exact MC _ _))
    refine wpQuiet_nil ?_
    intro _ hw'
    obtain ⟨⟨dq, osq⟩, hw''⟩ := hw'
    subst hw''
    have HB := Lib.hid (HK.out.2.trans ((below_regrown w2 dq osq).mono HK.out.2.size))
    clear z0 z2 MC hsl
    go_wp2_with fail
    refine bodyPost_ret (v := .tuple #[.int .i32 RV, .int .i64 (m : Int)]) ?_ rfl ⟨by first | rfl | (rw [HK.out.1]), HS.out.1.trans (HB.out.mono HS.out.1.size)⟩
    simp [results, Tryz.results66, go_sem]
  ·have hixq : ∀ W, (Instr.index 142 SV (.int .i64 1)).run Tryz.prog W = .ok (.agg #[.string ⟨#[38, 35]⟩, .func (Fn.func 116) #[] #[.pointer (some ⟨g1 + 1, 0, none⟩), .pointer (some ⟨g1, 0, none⟩)], .func (Fn.func 118) #[] #[.pointer (some ⟨g1, 0, none⟩)]]) W := fun W => (HX.out W).2.1
   obtain ⟨W0, hW0⟩ : ∃ W, wr.alloc (.cells #[.string ⟨#[38, 35]⟩, .func (Fn.func 116) #[] #[.pointer (some ⟨g1 + 1, 0, none⟩), .pointer (some ⟨g1, 0, none⟩)], .func (Fn.func 118) #[] #[.pointer (some ⟨g1, 0, none⟩)]] 141) = W := ⟨_, rfl⟩
   have hb0 : Below wr.heap.size wr W0 := by rw [← hW0]; exact below_new _ _
   have x0 : Cells W0 wr.heap.size 141 #[.string ⟨#[38, 35]⟩, .func (Fn.func 116) #[] #[.pointer (some ⟨g1 + 1, 0, none⟩), .pointer (some ⟨g1, 0, none⟩)], .func (Fn.func 118) #[] #[.pointer (some ⟨g1, 0, none⟩)]] := by rw [← hW0]; exact cells_new _ _ _
   have hy0 := hy.on hb0
   have Cs : StyAt W0 g1 10 7 := ((HS.out.2.1).on hb).on hb0
   have C := follow67_any W0 [38, 35] (by decide) (by decide) (mayD 10 7) ⟨g1 + 1, 0, none⟩ ⟨g1, 0, none⟩ 118 #[.pointer (some ⟨g1, 0, none⟩)] ys (some ⟨b, oq, none⟩) cq hy0 (fun W hbW b' o' cap' l cc hcc hBY =>
    (mayD_any (Or.inl rfl) 7 l _ cap' cc hBY.len (g1 + 1) g1 W ((Cs.m).on hbW) ((Cs.b).on hbW)).mono (fun e w' h => ⟨h.1, by rw [h.2]; exact Below.refl _ _⟩))
   have hT0 : S.Tabs W0 := hTr.below hb0 hTr.2
   obtain ⟨m, wh, hfm⟩ : ∃ m wh, followR [38, 35] (mayD 10 7) ys = (m, wh) := ⟨_, _, rfl⟩
   rw [hfm] at C
   dsimp only at C
   have H0 := Lib.hid (And.intro C (And.intro x0 (And.intro hb0 (And.intro hy0 (And.intro hT0 (And.intro hre (And.intro hb hfm)))))))
   have HCs := Lib.hid Cs
   clear Cs
   have p0 := x0.cell 0
   have p1 := x0.cell 1
   have p2 := x0.cell 2
   simp at p0 p1 p2
   clear C x0 hb0 hy0 hy hTr hre hb hT0 hfm bw
   go_wp2_with fail
   refine H0.out.1.mono ?_
   rintro e w2 ⟨rfl, hb2⟩
   have b02 := H0.out.2.2.1.trans (hb2.mono H0.out.2.2.1.size)
   have bw2 := H0.out.2.2.2.2.2.2.1.trans (b02.mono H0.out.2.2.2.2.2.2.1.size)
   have x2 := H0.out.2.1.on hb2
   have r0 := x2.cell 0
   have r2 := x2.cell 2
   simp at r0 r2
   cases wh with
   | false =>
    have HB2 := Lib.hid bw2
    have hre2 : RE = readS (styL.drop 2) ys := by rw [H0.out.2.2.2.2.2.1]; exact readS_no (by have := H0.out.2.2.2.2.2.2.2; exact congrArg Prod.snd this)
    have HR2 := Lib.hid hre2
    clear bw2 b02 x2 hb2 r0 r2 hre2
    go_wp2_with fail
    go_roundw
    case rel => exact ⟨2, rfl, by decide, HR2.out, HB2.out⟩
    case measure => exact (by decide)
   | true =>
    have hfm : followR [38, 35] (mayD 10 7) ys = (m, true) := H0.out.2.2.2.2.2.2.2
    have hm := follow_true hfm
    have hlt : 2 < m ∧ m ≤ ys.length := hm
    have hfr : RE = (mnR (nbV 10 ((ys.take (m - 1)).drop 2) 0), m) := by rw [H0.out.2.2.2.2.2.1]; exact readS_yes (s := stD [38, 35] 10 7) hfm
    have hT2 : S.Tabs w2 := H0.out.2.2.2.2.1.below hb2 H0.out.2.2.2.2.1.2
    have hyw := (H0.out.2.2.2.1.on hb2).win 2 (m - 1) (by omega) (by omega)
    have hwl : ((ys.take (m - 1)).drop 2).length = m - 1 - 2 := by simp; omega
    have hcy := H0.out.2.2.2.1.l
    have hsl : ∀ W, (Instr.slice 22 (.slice (some ⟨b, oq, none⟩) ys.length cq) (some (.int .i64 2)) (some (.int .i64 ((m - 1 : Nat) : Int))) none).run Tryz.prog W = .ok (.slice (some ⟨b, oq + 2, none⟩) (m - 1 - 2) (cq - 2)) W := slice_win b oq ys.length cq 2 (m - 1) (by omega) (by omega) (by omega)
    have hm1 : ((m - 1 : Nat) : Int) = (m : Int) - 1 := by omega
    have hlen := H0.out.2.2.2.1.len
    have w1' : wrap64 ((m : Int) - 1) = ((m - 1 : Nat) : Int) := by unfold wrap64; omega
    have hfn := follow_num (by exact hfm)
    have Cs2 : StyAt w2 g1 10 7 := HCs.out.on hb2
    have MC : ∀ d os, Calls Tryz.prog 118 #[.slice (some ⟨b, oq + 2, none⟩) (m - 1 - 2) (cq - 2), .pointer (some ⟨g1, 0, none⟩)] (grow (redrawn w2 d) os) fun e w'' => e = .returned (.int .i32 (mnR (nbV 10 ((ys.take (m - 1)).drop 2) 0))) ∧ ∃ p : Regrown, w'' = grow (redrawn w2 p.d) p.os := fun d os => by
     have := means_any (Or.inl rfl) ((ys.take (m - 1)).drop 2) _ _ hfn.1 hfn.2.1 hfn.2.2 g1 (grow (redrawn w2 d) os) (hT2.below (below_regrown w2 d os) hT2.2) (hyw.on (below_regrown w2 d os)) ((Cs2.b).on (below_regrown w2 d os))
     rw [hwl] at this
     exact Calls.regrown_of this
    obtain ⟨RV, hRV⟩ : ∃ v, mnR (nbV 10 ((ys.take (m - 1)).drop 2) 0) = v := ⟨_, rfl⟩
    rw [hRV] at MC hfr
    obtain ⟨mm, hmm⟩ : ∃ n, m - 1 = n := ⟨_, rfl⟩
    rw [hmm] at MC hsl w1'
    have HK := Lib.hid (And.intro hfr bw2)
    have z0 := cell_regrown r0
    have z2 := cell_regrown r2
    clear hfr bw2 b02 x2 hb2 r0 r2 hm hlt hT2 hyw hwl hcy hm1 hlen hfm hRV hmm hfn Cs2
    go_wp2_with fail
    refine wp_region_quiet_below (by kernel_rfl) (by kernel_rfl) ?_
    repeat (go_big_quiet_step (exact MC _ _))
    refine wpQuiet_nil ?_
    intro _ hw'
    obtain ⟨⟨dq, osq⟩, hw''⟩ := hw'
    subst hw''
    have HB := Lib.hid (HK.out.2.trans ((below_regrown w2 dq osq).mono HK.out.2.size))
    clear z0 z2 MC hsl
    go_wp2_with fail
    refine bodyPost_ret (v := .tuple #[.int .i32 RV, .int .i64 (m : Int)]) ?_ rfl ⟨by first | rfl | (rw [HK.out.1]), HS.out.1.trans (HB.out.mono HS.out.1.size)⟩
    simp [results, Tryz.results66, go_sem]
  ·have hixq : ∀ W, (Instr.index 142 SV (.int .i64 2)).run Tryz.prog W = .ok (.agg #[.string ⟨#[38, 35, 120]⟩, .func (Fn.func 116) #[] #[.pointer (some ⟨g2 + 1, 0, none⟩), .pointer (some ⟨g2, 0, none⟩)], .func (Fn.func 118) #[] #[.pointer (some ⟨g2, 0, none⟩)]]) W := fun W => (HX.out W).2.2.1
   obtain ⟨W0, hW0⟩ : ∃ W, wr.alloc (.cells #[.string ⟨#[38, 35, 120]⟩, .func (Fn.func 116) #[] #[.pointer (some ⟨g2 + 1, 0, none⟩), .pointer (some ⟨g2, 0, none⟩)], .func (Fn.func 118) #[] #[.pointer (some ⟨g2, 0, none⟩)]] 141) = W := ⟨_, rfl⟩
   have hb0 : Below wr.heap.size wr W0 := by rw [← hW0]; exact below_new _ _
   have x0 : Cells W0 wr.heap.size 141 #[.string ⟨#[38, 35, 120]⟩, .func (Fn.func 116) #[] #[.pointer (some ⟨g2 + 1, 0, none⟩), .pointer (some ⟨g2, 0, none⟩)], .func (Fn.func 118) #[] #[.pointer (some ⟨g2, 0, none⟩)]] := by rw [← hW0]; exact cells_new _ _ _
   have hy0 := hy.on hb0
   have Cs : StyAt W0 g2 16 6 := ((HS.out.2.2.1).on hb).on hb0
   have C := follow67_any W0 [38, 35, 120] (by decide) (by decide) (mayD 16 6) ⟨g2 + 1, 0, none⟩ ⟨g2, 0, none⟩ 118 #[.pointer (some ⟨g2, 0, none⟩)] ys (some ⟨b, oq, none⟩) cq hy0 (fun W hbW b' o' cap' l cc hcc hBY =>
    (mayD_any (Or.inr rfl) 6 l _ cap' cc hBY.len (g2 + 1) g2 W ((Cs.m).on hbW) ((Cs.b).on hbW)).mono (fun e w' h => ⟨h.1, by rw [h.2]; exact Below.refl _ _⟩))
   have hT0 : S.Tabs W0 := hTr.below hb0 hTr.2
   obtain ⟨m, wh, hfm⟩ : ∃ m wh, followR [38, 35, 120] (mayD 16 6) ys = (m, wh) := ⟨_, _, rfl⟩
   rw [hfm] at C
   dsimp only at C
   have H0 := Lib.hid (And.intro C (And.intro x0 (And.intro hb0 (And.intro hy0 (And.intro hT0 (And.intro hre (And.intro hb hfm)))))))
   have HCs := Lib.hid Cs
   clear Cs
   have p0 := x0.cell 0
   have p1 := x0.cell 1
   have p2 := x0.cell 2
   simp at p0 p1 p2
   clear C x0 hb0 hy0 hy hTr hre hb hT0 hfm bw
   go_wp2_with fail
   refine H0.out.1.mono ?_
   rintro e w2 ⟨rfl, hb2⟩
   have b02 := H0.out.2.2.1.trans (hb2.mono H0.out.2.2.1.size)
   have bw2 := H0.out.2.2.2.2.2.2.1.trans (b02.mono H0.out.2.2.2.2.2.2.1.size)
   have x2 := H0.out.2.1.on hb2
   have r0 := x2.cell 0
   have r2 := x2.cell 2
   simp at r0 r2
   cases wh with
   | false =>
    have HB2 := Lib.hid bw2
    have hre2 : RE = readS (styL.drop 3) ys := by rw [H0.out.2.2.2.2.2.1]; exact readS_no (by have := H0.out.2.2.2.2.2.2.2; exact congrArg Prod.snd this)
    have HR2 := Lib.hid hre2
    clear bw2 b02 x2 hb2 r0 r2 hre2
    go_wp2_with fail
    go_roundw
    case rel => exact ⟨3, rfl, by decide, HR2.out, HB2.out⟩
    case measure => exact (by decide)
   | true =>
    have hfm : followR [38, 35, 120] (mayD 16 6) ys = (m, true) := H0.out.2.2.2.2.2.2.2
    have hm := follow_true hfm
    have hlt : 3 < m ∧ m ≤ ys.length := hm
    have hfr : RE = (mnR (nbV 16 ((ys.take (m - 1)).drop 3) 0), m) := by rw [H0.out.2.2.2.2.2.1]; exact readS_yes (s := stD [38, 35, 120] 16 6) hfm
    have hT2 : S.Tabs w2 := H0.out.2.2.2.2.1.below hb2 H0.out.2.2.2.2.1.2
    have hyw := (H0.out.2.2.2.1.on hb2).win 3 (m - 1) (by omega) (by omega)
    have hwl : ((ys.take (m - 1)).drop 3).length = m - 1 - 3 := by simp; omega
    have hcy := H0.out.2.2.2.1.l
    have hsl : ∀ W, (Instr.slice 22 (.slice (some ⟨b, oq, none⟩) ys.length cq) (some (.int .i64 3)) (some (.int .i64 ((m - 1 : Nat) : Int))) none).run Tryz.prog W = .ok (.slice (some ⟨b, oq + 3, none⟩) (m - 1 - 3) (cq - 3)) W := slice_win b oq ys.length cq 3 (m - 1) (by omega) (by omega) (by omega)
    have hm1 : ((m - 1 : Nat) : Int) = (m : Int) - 1 := by omega
    have hlen := H0.out.2.2.2.1.len
    have w1' : wrap64 ((m : Int) - 1) = ((m - 1 : Nat) : Int) := by unfold wrap64; omega
    have hfn := follow_num (by exact hfm)
    have Cs2 : StyAt w2 g2 16 6 := HCs.out.on hb2
    have MC : ∀ d os, Calls Tryz.prog 118 #[.slice (some ⟨b, oq + 3, none⟩) (m - 1 - 3) (cq - 3), .pointer (some ⟨g2, 0, none⟩)] (grow (redrawn w2 d) os) fun e w'' => e = .returned (.int .i32 (mnR (nbV 16 ((ys.take (m - 1)).drop 3) 0))) ∧ ∃ p : Regrown, w'' = grow (redrawn w2 p.d) p.os := fun d os => by
     have := means_any (Or.inr rfl) ((ys.take (m - 1)).drop 3) _ _ hfn.1 hfn.2.1 hfn.2.2 g2 (grow (redrawn w2 d) os) (hT2.below (below_regrown w2 d os) hT2.2) (hyw.on (below_regrown w2 d os)) ((Cs2.b).on (below_regrown w2 d os))
     rw [hwl] at this
     exact Calls.regrown_of this
    obtain ⟨RV, hRV⟩ : ∃ v, mnR (nbV 16 ((ys.take (m - 1)).drop 3) 0) = v := ⟨_, rfl⟩
    rw [hRV] at MC hfr
    obtain ⟨mm, hmm⟩ : ∃ n, m - 1 = n := ⟨_, rfl⟩
    rw [hmm] at MC hsl w1'
    have HK := Lib.hid (And.intro hfr bw2)
    have z0 := cell_regrown r0
    have z2 := cell_regrown r2
    clear hfr bw2 b02 x2 hb2 r0 r2 hm hlt hT2 hyw hwl hcy hm1 hlen hfm hRV hmm hfn Cs2
    go_wp2_with fail
    refine wp_region_quiet_below (by kernel_rfl) (by kernel_rfl) ?_
    repeat (go_big_quiet_step (exact MC _ _))
    refine wpQuiet_nil ?_
    intro _ hw'
    obtain ⟨⟨dq, osq⟩, hw''⟩ := hw'
    subst hw''
    have HB := Lib.hid (HK.out.2.trans ((below_regrown w2 dq osq).mono HK.out.2.size))
    clear z0 z2 MC hsl
    go_wp2_with fail
    refine bodyPost_ret (v := .tuple #[.int .i32 RV, .int .i64 (m : Int)]) ?_ rfl ⟨by first | rfl | (rw [HK.out.1]), HS.out.1.trans (HB.out.mono HS.out.1.size)⟩
    simp [results, Tryz.results66, go_sem]
  ·have hixq : ∀ W, (Instr.index 142 SV (.int .i64 3)).run Tryz.prog W = .ok (.agg #[.string ⟨#[38, 35, 88]⟩, .func (Fn.func 116) #[] #[.pointer (some ⟨g3 + 1, 0, none⟩), .pointer (some ⟨g3, 0, none⟩)], .func (Fn.func 118) #[] #[.pointer (some ⟨g3, 0, none⟩)]]) W := fun W => (HX.out W).2.2.2
   obtain ⟨W0, hW0⟩ : ∃ W, wr.alloc (.cells #[.string ⟨#[38, 35, 88]⟩, .func (Fn.func 116) #[] #[.pointer (some ⟨g3 + 1, 0, none⟩), .pointer (some ⟨g3, 0, none⟩)], .func (Fn.func 118) #[] #[.pointer (some ⟨g3, 0, none⟩)]] 141) = W := ⟨_, rfl⟩
   have hb0 : Below wr.heap.size wr W0 := by rw [← hW0]; exact below_new _ _
   have x0 : Cells W0 wr.heap.size 141 #[.string ⟨#[38, 35, 88]⟩, .func (Fn.func 116) #[] #[.pointer (some ⟨g3 + 1, 0, none⟩), .pointer (some ⟨g3, 0, none⟩)], .func (Fn.func 118) #[] #[.pointer (some ⟨g3, 0, none⟩)]] := by rw [← hW0]; exact cells_new _ _ _
   have hy0 := hy.on hb0
   have Cs : StyAt W0 g3 16 6 := ((HS.out.2.2.2.1).on hb).on hb0
   have C := follow67_any W0 [38, 35, 88] (by decide) (by decide) (mayD 16 6) ⟨g3 + 1, 0, none⟩ ⟨g3, 0, none⟩ 118 #[.pointer (some ⟨g3, 0, none⟩)] ys (some ⟨b, oq, none⟩) cq hy0 (fun W hbW b' o' cap' l cc hcc hBY =>
    (mayD_any (Or.inr rfl) 6 l _ cap' cc hBY.len (g3 + 1) g3 W ((Cs.m).on hbW) ((Cs.b).on hbW)).mono (fun e w' h => ⟨h.1, by rw [h.2]; exact Below.refl _ _⟩))
   have hT0 : S.Tabs W0 := hTr.below hb0 hTr.2
   obtain ⟨m, wh, hfm⟩ : ∃ m wh, followR [38, 35, 88] (mayD 16 6) ys = (m, wh) := ⟨_, _, rfl⟩
   rw [hfm] at C
   dsimp only at C
   have H0 := Lib.hid (And.intro C (And.intro x0 (And.intro hb0 (And.intro hy0 (And.intro hT0 (And.intro hre (And.intro hb hfm)))))))
   have HCs := Lib.hid Cs
   clear Cs
   have p0 := x0.cell 0
   have p1 := x0.cell 1
   have p2 := x0.cell 2
   simp at p0 p1 p2
   clear C x0 hb0 hy0 hy hTr hre hb hT0 hfm bw
   go_wp2_with fail
   refine H0.out.1.mono ?_
   rintro e w2 ⟨rfl, hb2⟩
   have b02 := H0.out.2.2.1.trans (hb2.mono H0.out.2.2.1.size)
   have bw2 := H0.out.2.2.2.2.2.2.1.trans (b02.mono H0.out.2.2.2.2.2.2.1.size)
   have x2 := H0.out.2.1.on hb2
   have r0 := x2.cell 0
   have r2 := x2.cell 2
   simp at r0 r2
   cases wh with
   | false =>
    have HB2 := Lib.hid bw2
    have hre2 : RE = readS (styL.drop 4) ys := by rw [H0.out.2.2.2.2.2.1]; exact readS_no (by have := H0.out.2.2.2.2.2.2.2; exact congrArg Prod.snd this)
    have HR2 := Lib.hid hre2
    clear bw2 b02 x2 hb2 r0 r2 hre2
    go_wp2_with fail
    go_roundw
    case rel => exact ⟨4, rfl, by decide, HR2.out, HB2.out⟩
    case measure => exact (by decide)
   | true =>
    have hfm : followR [38, 35, 88] (mayD 16 6) ys = (m, true) := H0.out.2.2.2.2.2.2.2
    have hm := follow_true hfm
    have hlt : 3 < m ∧ m ≤ ys.length := hm
    have hfr : RE = (mnR (nbV 16 ((ys.take (m - 1)).drop 3) 0), m) := by rw [H0.out.2.2.2.2.2.1]; exact readS_yes (s := stD [38, 35, 88] 16 6) hfm
    have hT2 : S.Tabs w2 := H0.out.2.2.2.2.1.below hb2 H0.out.2.2.2.2.1.2
    have hyw := (H0.out.2.2.2.1.on hb2).win 3 (m - 1) (by omega) (by omega)
    have hwl : ((ys.take (m - 1)).drop 3).length = m - 1 - 3 := by simp; omega
    have hcy := H0.out.2.2.2.1.l
    have hsl : ∀ W, (Instr.slice 22 (.slice (some ⟨b, oq, none⟩) ys.length cq) (some (.int .i64 3)) (some (.int .i64 ((m - 1 : Nat) : Int))) none).run Tryz.prog W = .ok (.slice (some ⟨b, oq + 3, none⟩) (m - 1 - 3) (cq - 3)) W := slice_win b oq ys.length cq 3 (m - 1) (by omega) (by omega) (by omega)
    have hm1 : ((m - 1 : Nat) : Int) = (m : Int) - 1 := by omega
    have hlen := H0.out.2.2.2.1.len
    have w1' : wrap64 ((m : Int) - 1) = ((m - 1 : Nat) : Int) := by unfold wrap64; omega
    have hfn := follow_num (by exact hfm)
    have Cs2 : StyAt w2 g3 16 6 := HCs.out.on hb2
    have MC : ∀ d os, Calls Tryz.prog 118 #[.slice (some ⟨b, oq + 3, none⟩) (m - 1 - 3) (cq - 3), .pointer (some ⟨g3, 0, none⟩)] (grow (redrawn w2 d) os) fun e w'' => e = .returned (.int .i32 (mnR (nbV 16 ((ys.take (m - 1)).drop 3) 0))) ∧ ∃ p : Regrown, w'' = grow (redrawn w2 p.d) p.os := fun d os => by
     have := means_any (Or.inr rfl) ((ys.take (m - 1)).drop 3) _ _ hfn.1 hfn.2.1 hfn.2.2 g3 (grow (redrawn w2 d) os) (hT2.below (below_regrown w2 d os) hT2.2) (hyw.on (below_regrown w2 d os)) ((Cs2.b).on (below_regrown w2 d os))
     rw [hwl] at this
     exact Calls.regrown_of this
    obtain ⟨RV, hRV⟩ : ∃ v, mnR (nbV 16 ((ys.take (m - 1)).drop 3) 0) = v := ⟨_, rfl⟩
    rw [hRV] at MC hfr
    obtain ⟨mm, hmm⟩ : ∃ n, m - 1 = n := ⟨_, rfl⟩
    rw [hmm] at MC hsl w1'
    have HK := Lib.hid (And.intro hfr bw2)
    have z0 := cell_regrown r0
    have z2 := cell_regrown r2
    clear hfr bw2 b02 x2 hb2 r0 r2 hm hlt hT2 hyw hwl hcy hm1 hlen hfm hRV hmm hfn Cs2
    go_wp2_with fail
    refine wp_region_quiet_below (by kernel_rfl) (by kernel_rfl) ?_
    repeat (go_big_quiet_step (exact MC _ _))
    refine wpQuiet_nil ?_
    intro _ hw'
    obtain ⟨⟨dq, osq⟩, hw''⟩ := hw'
    subst hw''
    have HB := Lib.hid (HK.out.2.trans ((below_regrown w2 dq osq).mono HK.out.2.size))
    clear z0 z2 MC hsl
    go_wp2_with fail
    refine bodyPost_ret (v := .tuple #[.int .i32 RV, .int .i64 (m : Int)]) ?_ rfl ⟨by first | rfl | (rw [HK.out.1]), HS.out.1.trans (HB.out.mono HS.out.1.size)⟩
    simp [results, Tryz.results66, go_sem]
end Go.Proofs.YtojinnnpfjhifaaGreatDoor

namespace Go.Proofs.YtojinnnpfjhifaaGreatDoor
open Go.RowKit Go.Shelf Go.Lib Go.Maps
set_option maxHeartbeats 4000000 in
set_option maxRecDepth 100000 in
theorem isFinal_any (X : Int) (w : World) : Calls Tryz.prog 98 #[.int .u8 X] w fun r w' => r = .returned (.bool (decide (64 ≤ X) && decide (X ≤ 126))) ∧ w' = w := by
 by_cases h : 64 ≤ X
 ·have d : decide (64 ≤ X) = true := by simpa using h
  rw [d, Bool.true_and]
  go_enter Tryz.func98, Tryz.ntmps98
  go_wp2_with fail
  go_ret
  exact ⟨rfl, rfl⟩
 ·have d : decide (64 ≤ X) = false := by simpa using h
  rw [d, Bool.false_and]
  go_enter Tryz.func98, Tryz.ntmps98
  go_wp2_with fail
  go_ret
  exact ⟨rfl, rfl⟩
theorem in_int {lo hi x : Nat} {L H X : Int} (hL : L = lo) (hH : H = hi) (hX : X = x) : inR lo hi x = (decide (L ≤ X) && decide (X ≤ H)) := by
 subst hL hH hX
 simp [inR]
set_option maxHeartbeats 4000000 in
set_option maxRecDepth 100000 in
theorem skip_any (xs : List Nat) (A : Option Addr) (cap : Nat) (lo hi : Nat) (L H : Int) (hL : L = lo) (hH : H = hi) (i : Nat) (hi' : i ≤ xs.length) (w : World) (h : BY w w.heap.size xs A cap) :
  Calls Tryz.prog 97 #[.slice A xs.length cap, .int .i64 (i : Int), .int .u8 L, .int .u8 H] w fun r w' => r = .returned (.int .i64 ((i + skipN lo hi (xs.drop i) : Nat) : Int)) ∧ w' = w := by
 have hlen := h.len
 obtain ⟨E, hE⟩ : ∃ E, i + skipN lo hi (xs.drop i) = E := ⟨_, rfl⟩
 obtain ⟨N, hN⟩ : ∃ N, xs.length = N := ⟨_, rfl⟩
 rw [hE, hN]
 rw [hN] at hi' hlen
 have HH := Lib.hid (And.intro h (And.intro hE (And.intro hN (And.intro hL hH))))
 clear h hE hN hL hH
 go_enter Tryz.func97, Tryz.ntmps97
 go_wp2_with fail
 go_loopw [1] (fun u wr => ∃ k : Nat, u = .int .i64 (k : Int) ∧ k ≤ N ∧ k + skipN lo hi (xs.drop k) = E ∧ wr = w) (fun u _ => N - (RowKit.intOf u).toNat)
 case atStart => exact ⟨i, rfl, hi', HH.out.2.1, rfl⟩
 case round =>
  obtain ⟨k, rfl, hk, hke, e⟩ := hrel
  obtain rfl := e.symm
  by_cases hlt : k < N
  ·have i1 : (k : Int) < (N : Int) := by omega
   obtain ⟨x, hx⟩ := at_lt (l := xs) (k := k) (by rw [HH.out.2.2.1]; exact hlt)
   obtain ⟨b, o, rfl, hbl, d0⟩ := HH.out.1.at hx
   have hin := in_int HH.out.2.2.2.1 HH.out.2.2.2.2 (rfl : (x : Int) = x)
   rw [drop_at hx] at hke
   generalize (x : Int) = X at *
   have HX := Lib.hid hx
   have HK := Lib.hid (And.intro hke hin)
   clear hx hke hin hbl
   by_cases c1 : L ≤ X
   ·have d1 : decide (L ≤ X) = true := by simpa using c1
    by_cases c2 : X ≤ H
    ·have d2 : decide (X ≤ H) = true := by simpa using c2
     have hn : k + 1 + skipN lo hi (xs.drop (k + 1)) = E := by
      have := HK.out.1
      rw [skipN, HK.out.2, d1, d2] at this
      simp at this
      omega
     have HN := Lib.hid hn
     clear hn c1 c2
     go_wp2_with fail
     go_roundw
     case rel => exact ⟨k + 1, by go_num, by omega, HN.out, trivial⟩
     case measure => simp [RowKit.intOf]; omega
    ·have d2 : decide (X ≤ H) = false := by simpa using c2
     have hn : k = E := by
      have := HK.out.1
      rw [skipN, HK.out.2, d1, d2] at this
      simpa using this
     subst hn
     clear c1 c2
     go_wp2_with fail
     go_ret
     exact ⟨rfl, rfl⟩
   ·have d1 : decide (L ≤ X) = false := by simpa using c1
    have hn : k = E := by
     have := HK.out.1
     rw [skipN, HK.out.2, d1] at this
     simpa using this
    subst hn
    clear c1
    go_wp2_with fail
    go_ret
    exact ⟨rfl, rfl⟩
  ·obtain rfl : k = N := by omega
   have i1 : ¬ (k : Int) < (k : Int) := by omega
   have hn : k = E := by
    rw [← HH.out.2.2.1, List.drop_length] at hke
    rw [← hke, ← HH.out.2.2.1]
    rfl
   have HN := Lib.hid hn
   clear hn hke
   go_wp2_with fail
   go_ret
   exact ⟨by rw [HN.out]; rfl, rfl⟩
end Go.Proofs.YtojinnnpfjhifaaGreatDoor

namespace Go.Proofs.YtojinnnpfjhifaaGreatDoor
open Go.RowKit Go.Shelf Go.Lib Go.Maps
theorem ctl_none {n : Nat} {r : List Nat} (h : r = []) : ctlR n r = ⟨n, false, true, 0⟩ := by subst h; rfl
theorem ctl_final {n c : Nat} {r : List Nat} (h : inR 64 126 c = true) : ctlR n (c :: r) = ⟨n + 1, true, false, c⟩ := by simp only [ctlR, if_pos h]
theorem ctl_other {n c : Nat} {r : List Nat} (h : inR 64 126 c = false) : ctlR n (c :: r) = ⟨n, false, false, 0⟩ := by simp only [ctlR, h]; rfl
theorem readC_ends (xs : List Nat) (h2 : 2 ≤ xs.length) : ∃ E1 E2, 2 + skipN 48 63 (xs.drop 2) = E1 ∧ E1 + skipN 32 47 (xs.drop E1) = E2 ∧ E1 ≤ xs.length ∧ E2 ≤ xs.length ∧ readC (xs.drop 2) = ctlR E2 (xs.drop E2) := by
 refine ⟨_, _, rfl, rfl, ?_, ?_, ?_⟩
 ·have := skipN_le 48 63 (xs.drop 2)
  simp at this
  omega
 ·have := skipN_le 48 63 (xs.drop 2)
  have := skipN_le 32 47 (xs.drop (2 + skipN 48 63 (xs.drop 2)))
  simp at *
  omega
 ·unfold readC
  rw [List.drop_drop, List.drop_drop, Nat.add_assoc 2]
set_option maxHeartbeats 4000000 in
set_option maxRecDepth 100000 in
theorem readControl_any (xs : List Nat) (A : Option Addr) (cap : Nat) (h2 : 2 ≤ xs.length) (w : World) (h : BY w w.heap.size xs A cap) :
  Calls Tryz.prog 82 #[.slice A xs.length cap] w fun r w' => r = .returned (escV (readC (xs.drop 2))) ∧ Below w.heap.size w w' := by
 have hlen := h.len
 obtain ⟨E1, E2, hE1, hE2, l1, l2, hR⟩ := readC_ends xs h2
 rw [hR]
 have C1 := fun W (h : BY W W.heap.size xs A cap) => skip_any xs A cap 48 63 48 63 rfl rfl 2 (by omega) W h
 rw [hE1] at C1
 have C2 := fun W (h : BY W W.heap.size xs A cap) => skip_any xs A cap 32 47 32 47 rfl rfl E1 l1 W h
 rw [hE2] at C2
 obtain ⟨N, hN⟩ : ∃ N, xs.length = N := ⟨_, rfl⟩
 rw [hN] at C1 C2 l1 l2 hlen
 rw [hN]
 have B0 := fun (o : Obj) => h.on (below_new w o)
 have HH := Lib.hid (And.intro h (And.intro hN hR))
 have HB := Lib.hid B0
 have HC1 := Lib.hid C1
 have HC2 := Lib.hid C2
 clear hR hE1 hE2 C1 C2 B0 h2
 by_cases hlt : E2 < N
 ·have i1 : (E2 : Int) < (N : Int) := by omega
  obtain ⟨x, hx⟩ := at_lt (l := xs) (k := E2) (by rw [hN]; exact hlt)
  obtain ⟨b, o, rfl, hbl, d0⟩ := h.at hx
  have hin := in_int (rfl : (64 : Int) = ((64 : Nat) : Int)) (rfl : (126 : Int) = ((126 : Nat) : Int)) (rfl : (x : Int) = x)
  rw [drop_at hx]
  obtain ⟨X, hX⟩ : ∃ X : Int, (x : Int) = X := ⟨_, rfl⟩
  rw [hX] at hin d0
  have HF := Lib.hid (fun W => isFinal_any X W)
  have i3 : ((E2 : Int) == (N : Int)) = false := by rw [beq_eq_false_iff_ne]; omega
  cases hf : inR 64 126 x
  ·rw [ctl_other hf]
   rw [hf] at hin
   have HI := Lib.hid hin.symm
   clear hin hf hx hN h hX
   go_enter Tryz.func82, Tryz.ntmps82
   go_wp2_with fail
   refine (HC1.out _ (HB.out _)).mono ?_
   rintro r w1 ⟨rfl, rfl⟩
   go_wp2_with fail
   refine (HC2.out _ (HB.out _)).mono ?_
   rintro r w2 ⟨rfl, rfl⟩
   go_wp2_with fail
   refine (HF.out _).mono ?_
   rintro r w1 ⟨rfl, rfl⟩
   rw [HI.out]
   go_wp2_with fail
   refine bodyPost_ret (v := .agg #[.int .i64 (E2 : Int), .bool false, .bool false, .int .u8 0]) (by simp [results, Tryz.results82, go_sem]) rfl ⟨rfl, below_new w _⟩
  ·rw [ctl_final hf]
   rw [hf] at hin
   have HI := Lib.hid hin.symm
   have HX := Lib.hid hX
   clear hin hf hx hN h hX
   go_enter Tryz.func82, Tryz.ntmps82
   go_wp2_with fail
   refine (HC1.out _ (HB.out _)).mono ?_
   rintro r w1 ⟨rfl, rfl⟩
   go_wp2_with fail
   refine (HC2.out _ (HB.out _)).mono ?_
   rintro r w2 ⟨rfl, rfl⟩
   go_wp2_with fail
   refine (HF.out _).mono ?_
   rintro r w1 ⟨rfl, rfl⟩
   rw [HI.out]
   go_wp2_with fail
   refine bodyPost_ret (v := .agg #[.int .i64 ((E2 : Int) + 1), .bool true, .bool false, .int .u8 X]) (by simp [results, Tryz.results82, go_sem]) rfl ⟨by rw [← HX.out]; rfl, below_new w _⟩
 ·obtain rfl : E2 = N := by omega
  have i1 : ¬ (E2 : Int) < (E2 : Int) := by omega
  have i3 : ((E2 : Int) == (E2 : Int)) = true := by simp
  rw [ctl_none (by rw [← hN, List.drop_length])]
  clear h hN
  go_enter Tryz.func82, Tryz.ntmps82
  go_wp2_with fail
  refine (HC1.out _ (HB.out _)).mono ?_
  rintro r w1 ⟨rfl, rfl⟩
  go_wp2_with fail
  refine (HC2.out _ (HB.out _)).mono ?_
  rintro r w2 ⟨rfl, rfl⟩
  go_wp2_with fail
  refine bodyPost_ret (v := .agg #[.int .i64 (E2 : Int), .bool false, .bool true, .int .u8 0]) (by simp [results, Tryz.results82, go_sem]) rfl ⟨rfl, below_new w _⟩
def readAt (xs : List Nat) (i : Int) : Esc := if i < 0 then escNone else readT (xs.drop i.toNat)
theorem BY.drop0 {w : World} {B : Nat} {xs : List Nat} {A : Option Addr} {cap k x : Nat} (h : BY w B xs A cap) (hx : xs[k]? = some x) : ∃ b o, A = some ⟨b, o, none⟩ ∧ b < B ∧ BY w B (xs.drop k) (some ⟨b, o + k, none⟩) (cap - k) := by
 obtain ⟨b, o, rfl, hb, _⟩ := h.at hx
 exact ⟨b, o, rfl, hb, h.drop (List.getElem?_eq_some_iff.1 hx).1⟩
set_option maxHeartbeats 4000000 in
set_option maxRecDepth 100000 in
theorem read_any (xs : List Nat) (A : Option Addr) (cap : Nat) (I : Int) (w : World) (h : BY w w.heap.size xs A cap) :
  Calls Tryz.prog 67 #[.slice A xs.length cap, .int .i64 I] w fun r w' => r = .returned (escV (readAt xs I)) ∧ Below w.heap.size w w' := by
 have hlen := h.len
 obtain ⟨N, hN⟩ : ∃ N, xs.length = N := ⟨_, rfl⟩
 rw [hN] at hlen ⊢
 by_cases h0 : I < 0
 ·have d0 : decide (I < 0) = true := by simpa using h0
  rw [show readAt xs I = escNone by rw [readAt, if_pos h0]]
  clear h hN
  go_enter Tryz.func67, Tryz.ntmps67
  go_wp2_with fail
  refine bodyPost_ret (v := .agg #[.int .i64 0, .bool false, .bool false, .int .u8 0]) (by simp [results, Tryz.results67, go_sem]) rfl ⟨rfl, below_new w _⟩
 have d0 : decide (I < 0) = false := by simpa using h0
 obtain ⟨k, rfl⟩ := Int.eq_ofNat_of_zero_le (show 0 ≤ I by omega)
 rw [show readAt xs (k : Int) = readT (xs.drop k) by rw [readAt, if_neg h0, Int.toNat_natCast]]
 clear h0
 by_cases hlt : k < N
 case neg =>
  have d1 : decide ((N : Int) ≤ (k : Int)) = true := by simp; omega
  rw [List.drop_of_length_le (by omega)]
  clear h hN
  go_enter Tryz.func67, Tryz.ntmps67
  go_wp2_with fail
  refine bodyPost_ret (v := .agg #[.int .i64 0, .bool false, .bool false, .int .u8 0]) (by simp [results, Tryz.results67, go_sem]) rfl ⟨rfl, below_new w _⟩
 have d1 : decide ((N : Int) ≤ (k : Int)) = false := by simp; omega
 obtain ⟨x, hx⟩ := at_lt (l := xs) (k := k) (by rw [hN]; exact hlt)
 obtain ⟨b, o, rfl, hbl, hB⟩ := h.drop0 hx
 obtain ⟨b', o', e, _, e0⟩ := h.at hx
 obtain ⟨rfl, rfl⟩ : b = b' ∧ o = o' := by simpa using e
 have hcap := h.l
 have hmx := h.m
 unfold maxLen at hmx
 rw [hN] at hcap
 by_cases hc : x = 27
 case neg =>
  have d2 : ((x : Int) != 27) = true := by rw [bne_iff_ne]; omega
  rw [drop_at hx, readT_not _ hc]
  clear h hN hB hx hc e
  generalize (x : Int) = X at *
  go_enter Tryz.func67, Tryz.ntmps67
  go_wp2_with fail
  refine bodyPost_ret (v := .agg #[.int .i64 0, .bool false, .bool false, .int .u8 0]) (by simp [results, Tryz.results67, go_sem]) rfl ⟨rfl, below_new w _⟩
 subst hc
 have hl2 : (xs.drop k).length = N - k := by rw [List.length_drop, hN]
 have e0 : w.cell? ⟨b, o + k, none⟩ = some (.int .u8 27) := e0
 by_cases h1 : N - k = 1
 ·obtain ⟨c, hc⟩ : ∃ c, xs.drop k = [c] := List.length_eq_one_iff.1 (by rw [hl2, h1])
  have hc2 := drop_at hx
  rw [hc] at hc2
  rw [hc, (List.cons.inj hc2).1]
  have i1 : ¬ (1 : Int) < ((N - k : Nat) : Int) := by omega
  have i2 : (((N - k : Nat) : Int) == 1) = true := by rw [h1]; rfl
  clear h hN hB hx e hl2 hc hc2 h1
  go_enter Tryz.func67, Tryz.ntmps67
  go_wp2_with fail
  refine bodyPost_ret (v := .agg #[.int .i64 1, .bool false, .bool true, .int .u8 0]) (by simp [results, Tryz.results67, go_sem]) rfl ⟨rfl, below_new w _⟩
 have i1 : (1 : Int) < ((N - k : Nat) : Int) := by omega
 have i2 : (((N - k : Nat) : Int) == 1) = false := by rw [beq_eq_false_iff_ne]; omega
 obtain ⟨d, hd⟩ := at_lt (l := xs) (k := k + 1) (by omega)
 have hdx : xs.drop k = 27 :: d :: xs.drop (k + 2) := by rw [drop_at hx, drop_at hd]
 have e1 : w.cell? ⟨b, o + k + 1, none⟩ = some (.int .u8 (d : Int)) := by
  obtain ⟨b', o', e', _, e1⟩ := hB.at (i := 1) (x := d) (by rw [hdx]; rfl)
  obtain ⟨rfl, rfl⟩ : b = b' ∧ o + k = o' := by simpa using e'
  exact e1
 have C := fun W (h : BY W W.heap.size (xs.drop k) (some ⟨b, o + k, none⟩) (cap - k)) => readControl_any (xs.drop k) (some ⟨b, o + k, none⟩) (cap - k) (by rw [hl2]; omega) W h
 rw [hl2] at C
 have BB := fun (o : Obj) => (hB.on (below_new w o))
 by_cases hd9 : d = 91
 ·subst hd9
  have e1 : w.cell? ⟨b, o + k + 1, none⟩ = some (.int .u8 91) := e1
  have hrd : readT (xs.drop k) = readC ((xs.drop k).drop 2) := by rw [hdx]; rfl
  obtain ⟨⟨S, Wh, Op, La⟩, hR⟩ : ∃ R, readC ((xs.drop k).drop 2) = R := ⟨_, rfl⟩
  rw [hrd, hR]
  rw [hR] at C
  have HC := Lib.hid C
  have HBB := Lib.hid BB
  clear C BB h hN hB hx hd hdx hl2 h1 hR hrd
  go_enter Tryz.func67, Tryz.ntmps67
  go_wp2_with fail
  refine (HC.out _ (HBB.out _)).mono ?_
  rintro r w1 ⟨rfl, hb1⟩
  unfold escV
  dsimp only
  have hs1 := hb1.size
  rw [World.size_alloc] at hs1 hb1
  have x1 : Cells w1 w.heap.size 120 #[.int .i64 0, .bool false, .bool false, .int .u8 0] := (hb1.block _ (by omega)).trans (cells_new _ _ _)
  have q0 := x1.cell 0
  have q1 := x1.cell 1
  have q2 := x1.cell 2
  have q3 := x1.cell 3
  have f0 := x1.froz 0
  have f1 := x1.froz 1
  have f2 := x1.froz 2
  have f3 := x1.froz 3
  simp at q0 q1 q2 q3
  have hbw : Below w.heap.size w w1 := (below_new w _).trans (hb1.mono (by omega))
  have HBW := Lib.hid hbw
  clear hb1 x1 hbw
  go_wp2_with fail
  refine bodyPost_ret (v := .agg #[.int .i64 (S : Int), .bool Wh, .bool Op, .int .u8 (La : Int)]) ?_ rfl ⟨rfl, ?_⟩
  ·simp [results, Tryz.results67, go_sem, q0, q1, q2, q3]
  ·exact (((HBW.out.setCell (p := ⟨_, 0, none⟩) (Nat.le_refl _) _).setCell (p := ⟨_, 1, none⟩) (Nat.le_refl _) _).setCell (p := ⟨_, 2, none⟩) (Nat.le_refl _) _).setCell (p := ⟨_, 3, none⟩) (Nat.le_refl _) _
 ·have d2 : ((d : Int) == 91) = false := by rw [beq_eq_false_iff_ne]; omega
  have hin := in_int (rfl : (64 : Int) = ((64 : Nat) : Int)) (rfl : (95 : Int) = ((95 : Nat) : Int)) (rfl : (d : Int) = d)
  obtain ⟨D, hD⟩ : ∃ D : Int, (d : Int) = D := ⟨_, rfl⟩
  rw [hD] at hin d2 e1
  have hr : readT (xs.drop k) = if inR 64 95 d = true then ⟨2, true, false, d⟩ else ⟨1, false, false, 0⟩ := by
   rw [hdx]
   simp only [readT, if_true, if_neg hd9]
  rw [hr]
  have HD := Lib.hid hD
  have HI := Lib.hid hin
  clear C BB h hN hB hx hd hdx hl2 h1 hr hD hin hd9
  by_cases c1 : 64 ≤ D
  ·have d3 : decide (64 ≤ D) = true := by simpa using c1
   by_cases c2 : D ≤ 95
   ·have d4 : decide (D ≤ 95) = true := by simpa using c2
    rw [if_pos (by rw [HI.out, d3, d4]; rfl)]
    clear c1 c2
    go_enter Tryz.func67, Tryz.ntmps67
    go_wp2_with fail
    refine bodyPost_ret (v := .agg #[.int .i64 2, .bool true, .bool false, .int .u8 D]) (by simp [results, Tryz.results67, go_sem]) rfl ⟨by rw [← HD.out]; rfl, below_new w _⟩
   ·have d4 : decide (D ≤ 95) = false := by simpa using c2
    rw [if_neg (by rw [HI.out, d3, d4]; simp)]
    clear c1 c2
    go_enter Tryz.func67, Tryz.ntmps67
    go_wp2_with fail
    refine bodyPost_ret (v := .agg #[.int .i64 1, .bool false, .bool false, .int .u8 0]) (by simp [results, Tryz.results67, go_sem]) rfl ⟨rfl, below_new w _⟩
  ·have d3 : decide (64 ≤ D) = false := by simpa using c1
   rw [if_neg (by rw [HI.out, d3]; simp)]
   clear c1
   go_enter Tryz.func67, Tryz.ntmps67
   go_wp2_with fail
   refine bodyPost_ret (v := .agg #[.int .i64 1, .bool false, .bool false, .int .u8 0]) (by simp [results, Tryz.results67, go_sem]) rfl ⟨rfl, below_new w _⟩
end Go.Proofs.YtojinnnpfjhifaaGreatDoor

namespace Go.Proofs.YtojinnnpfjhifaaGreatDoor
open Go.RowKit Go.Shelf Go.Lib Go.Maps Go.Great
structure TK where
 kind : Nat
 fr : Nat
 «to» : Nat
 name : List Nat
 r : Int
 sg : Bool
def tkZ : TK := ⟨0, 0, 0, [], 0, false⟩
def tokC (x : TK) : Array Value := #[.int .i64 (x.kind : Int), .int .i64 (x.fr : Int), .int .i64 (x.to : Int), .string ⟨(G.u8s x.name).toArray⟩, .int .i32 x.r, .bool x.sg]
def tokV (x : TK) : Value := .agg (tokC x)
theorem refGo_kind (N k : Nat) : ∀ (l : List Nat) (s : G.RS), (G.refGo N k s l).kind = k
 | [], s => rfl
 | c :: t, s => by
  unfold G.refGo
  split
  ·rfl
  ·exact refGo_kind N k t _
theorem upGo_kind (N k : Nat) (e : List Nat) : ∀ l, (G.upGo N k e l).kind = k
 | [] => rfl
 | c :: t => by
  unfold G.upGo
  split
  ·rfl
  ·exact upGo_kind N k e t
theorem rdT_facts {l : List Nat} {T : G.TG} (h : G.rdT l = some T) : T.kind < 4 ∧ 2 ≤ T.size ∧ T.size ≤ l.length := by
 refine ⟨?_, ?_⟩
 ·unfold G.rdT at h
  split at h
  ·split at h
   ·cases h
   ·split at h
    ·cases h
     rw [refGo_kind]
     omega
    ·split at h
     ·cases h
      rw [refGo_kind]
      omega
     ·split at h
      ·cases h
       rw [upGo_kind]
       omega
      ·split at h
       ·cases h
        rw [upGo_kind]
        omega
       ·cases h
  ·cases h
 ·rcases G.grow_rd l [] with ⟨h1, _⟩ | ⟨T', V, h1, _, h2⟩
  ·rw [h1] at h
   cases h
  ·rw [h] at h1
   cases h1
   exact ⟨h2.2.1, h2.1⟩
set_option maxHeartbeats 4000000 in
set_option maxRecDepth 100000 in
theorem ofTag_any (k : Nat) (h : k < 4) (w : World) : Calls Tryz.prog 65 #[.int .i64 (k : Int)] w fun e w' => e = .returned (.int .i64 ((k + 2 : Nat) : Int)) ∧ w' = w := by
 obtain rfl | rfl | rfl | rfl : k = 0 ∨ k = 1 ∨ k = 2 ∨ k = 3 := by omega
 ·have hi : ∀ W, (Instr.index 137 (.agg #[.int .i64 2, .int .i64 3, .int .i64 4, .int .i64 5]) (.int .i64 0)).run Tryz.prog W = .ok (.int .i64 2) W := fun W => by kernel_rfl
  go_enter Tryz.func65, Tryz.ntmps65
  go_wp2_with fail
  go_ret
  exact ⟨rfl, rfl⟩
 ·have hi : ∀ W, (Instr.index 137 (.agg #[.int .i64 2, .int .i64 3, .int .i64 4, .int .i64 5]) (.int .i64 1)).run Tryz.prog W = .ok (.int .i64 3) W := fun W => by kernel_rfl
  go_enter Tryz.func65, Tryz.ntmps65
  go_wp2_with fail
  go_ret
  exact ⟨rfl, rfl⟩
 ·have hi : ∀ W, (Instr.index 137 (.agg #[.int .i64 2, .int .i64 3, .int .i64 4, .int .i64 5]) (.int .i64 2)).run Tryz.prog W = .ok (.int .i64 4) W := fun W => by kernel_rfl
  go_enter Tryz.func65, Tryz.ntmps65
  go_wp2_with fail
  go_ret
  exact ⟨rfl, rfl⟩
 ·have hi : ∀ W, (Instr.index 137 (.agg #[.int .i64 2, .int .i64 3, .int .i64 4, .int .i64 5]) (.int .i64 3)).run Tryz.prog W = .ok (.int .i64 5) W := fun W => by kernel_rfl
  go_enter Tryz.func65, Tryz.ntmps65
  go_wp2_with fail
  go_ret
  exact ⟨rfl, rfl⟩
set_option maxHeartbeats 4000000 in
set_option maxRecDepth 100000 in
theorem text_any (a b : Nat) (w : World) : Calls Tryz.prog 36 #[.int .i64 (a : Int), .int .i64 (b : Int)] w fun e w' => e = .returned (tokV ⟨0, a, b, [], 0, false⟩) ∧ Below w.heap.size w w' := by
 go_enter Tryz.func36, Tryz.ntmps36
 go_wp2_with fail
 refine bodyPost_ret (v := tokV ⟨0, a, b, [], 0, false⟩) ?_ rfl ⟨rfl, below_new _ _⟩
 simp [results, Tryz.results36, go_sem]
 rfl
end Go.Proofs.YtojinnnpfjhifaaGreatDoor

namespace Go.Proofs.YtojinnnpfjhifaaGreatDoor
open Go.RowKit Go.Shelf Go.Lib
structure Fr (X : Nat → Prop) (ob ob' : Option Nat) (W W' : World) : Prop where
  os : W'.os = W.os
  tape : W'.tape = W.tape
  output : W'.output = W.output
  size : W.heap.size ≤ W'.heap.size
  same : ∀ k, k < W.heap.size → ¬ X k → ob ≠ some k → W'.heap[k]? = W.heap[k]?
  ob : ob' = ob ∨ ∃ k, ob' = some k ∧ W.heap.size ≤ k ∧ k < W'.heap.size
theorem Fr.refl (X : Nat → Prop) (ob : Option Nat) (W : World) : Fr X ob ob W W := ⟨rfl, rfl, rfl, Nat.le_refl _, fun _ _ _ _ => rfl, .inl rfl⟩
theorem Fr.trans {X : Nat → Prop} {a b c : Option Nat} {U V W : World} (h : Fr X a b U V) (k : Fr X b c V W) : Fr X a c U W :=
  ⟨k.os.trans h.os, k.tape.trans h.tape, k.output.trans h.output, Nat.le_trans h.size k.size, fun i hi hx ha => by
    refine (k.same i (Nat.lt_of_lt_of_le hi h.size) hx (fun e => ?_)).trans (h.same i hi hx ha)
    rcases h.ob with e2 | ⟨j, e2, hj, _⟩
    · exact ha (e2.symm.trans e)
    · have := e2.symm.trans e
      injection this with this
      omega, by
    rcases k.ob with e | ⟨j, e, hj, hj2⟩
    · rcases h.ob with e2 | ⟨j, e2, hj, hj2⟩
      · exact .inl (e.trans e2)
      · exact .inr ⟨j, e.trans e2, hj, Nat.lt_of_lt_of_le hj2 k.size⟩
    · exact .inr ⟨j, e, Nat.le_trans h.size hj, hj2⟩⟩
theorem Fr.of_below {X : Nat → Prop} {ob : Option Nat} {W W' : World} (h : Below W.heap.size W W') : Fr X ob ob W W' := ⟨h.os, h.tape, h.output, h.size, fun k hk _ _ => h.block k hk, .inl rfl⟩
theorem Fr.put {X : Nat → Prop} {ob : Option Nat} (W : World) (l : Nat) (o : Obj) (hl : X l) : Fr X ob ob W (W.putObj l o) :=
  ⟨rfl, rfl, rfl, by simp [World.putObj], fun k _ hx _ => World.putObj_heap_other (fun e => hx (by rw [e]; exact hl)), .inl rfl⟩
theorem Fr.mono {X Y : Nat → Prop} {a b : Option Nat} {U V : World} (h : Fr X a b U V) (hxy : ∀ k, X k → Y k) : Fr Y a b U V :=
  ⟨h.os, h.tape, h.output, h.size, fun k hk hy => h.same k hk (fun hx => hy (hxy k hx)), h.ob⟩
theorem Fr.below {X : Nat → Prop} {a b : Option Nat} {U V : World} {B : Nat} (h : Fr X a b U V) (hB : B ≤ U.heap.size) (hX : ∀ k, X k → B ≤ k) (ha : ∀ k, a = some k → B ≤ k) : Below B U V :=
  ⟨h.os, h.tape, h.output, h.size, fun k hk => h.same k (by omega) (fun hx => by have := hX k hx; omega) (fun e => by have := ha k e; omega)⟩
def Stab (S : Nat) (J : List TK → Option Nat → World → Prop) : Prop :=
  ∀ pre ob W W', J pre ob W → W'.os = W.os → W'.tape = W.tape → W'.output = W.output → W.heap.size ≤ W'.heap.size → (∀ k, k < W.heap.size → (k < S ∨ ob = some k) → W'.heap[k]? = W.heap[k]?) → J pre ob W'
theorem Stab.mono {S S' : Nat} {J : List TK → Option Nat → World → Prop} (h : Stab S J) (hS : S ≤ S') : Stab S' J :=
  fun pre ob W W' hj h1 h2 h3 h4 h5 => h pre ob W W' hj h1 h2 h3 h4 fun k hk hc => h5 k hk (hc.imp (fun h => Nat.lt_of_lt_of_le h hS) id)
theorem Stab.put {S : Nat} {J : List TK → Option Nat → World → Prop} (h : Stab S J) {pre : List TK} {ob : Option Nat} {W : World} (hj : J pre ob W) (l : Nat) (o : Obj) (hl : S ≤ l) (ho : ob ≠ some l) : J pre ob (W.putObj l o) :=
  h pre ob W _ hj rfl rfl rfl (by simp [World.putObj]) fun k _ hc => World.putObj_heap_other (fun e => by
    subst e
    rcases hc with hc | hc
    · omega
    · exact ho hc)
theorem Stab.of_below {S : Nat} {J : List TK → Option Nat → World → Prop} (h : Stab S J) {pre : List TK} {ob : Option Nat} {W W' : World} (hj : J pre ob W) (hb : Below W.heap.size W W') : J pre ob W' :=
  h pre ob W W' hj hb.os hb.tape hb.output hb.size fun k hk _ => hb.block k hk
def ObIn (S : Nat) (J : List TK → Option Nat → World → Prop) : Prop := ∀ pre k W, J pre (some k) W → S ≤ k ∧ k < W.heap.size
def YieldOk (X : Nat → Prop) (J Jx : List TK → Option Nat → World → Prop) (xs : List TK) (ob : Option Nat) (W : World) (e : Ending) (W' : World) : Prop :=
  (e = .returned (.bool true) ∧ ∃ ob', J xs ob' W' ∧ Fr X ob ob' W W') ∨ (e = .returned (.bool false) ∧ ∃ ob', Jx xs ob' W' ∧ Fr X ob ob' W W')
def HandsT (n gf : Nat) (lb : Array Value) (xs : List TK) (X : Nat → Prop) (w : World) : Prop :=
  ∀ (l : Nat) (Xc : Nat → Prop) (J Jx : List TK → Option Nat → World → Prop) (W : World), Below w.heap.size w W → (∀ k, Xc k → k < W.heap.size ∧ (X k ∨ w.heap.size ≤ k)) →
    Stab W.heap.size J → Stab W.heap.size Jx → ObIn W.heap.size J → ObIn W.heap.size Jx →
    (∀ pre ob x W1, J pre ob W1 → W.heap.size ≤ W1.heap.size → pre ++ [x] <+: xs → YieldAt Fence.wide (n - 1) Tryz.prog l #[tokV x] W1 (YieldOk Xc J Jx (pre ++ [x]) ob W1)) →
    J [] none W →
    CallsIn Fence.wide n Tryz.prog gf (#[.func (.yield l) #[] #[]] ++ lb) W fun e W' => (∃ v, e = .returned v) ∧ (∃ ob, Fr Xc none ob W W' ∧ (J xs ob W' ∨ ∃ pre, pre <+: xs ∧ Jx pre ob W'))
def roundLeftT (X : Nat → Prop) (I Ix : List TK → Option Nat → World → Prop) (xs : List TK) (ob : Option Nat) (W : World) : Exit → Act → World → Prop
  | .normal, _, W' => ∃ ob', I xs ob' W' ∧ Fr X ob ob' W W'
  | .ret, _, W' => ∃ ob', Ix xs ob' W' ∧ Fr X ob ob' W W'
  | _, _, _ => False
set_option maxHeartbeats 2000000 in
theorem wpIn_handsT {n : Nat} {g : Operand} {ps : Array Tmp} {assign body : Code} {Q : Exit → Act → World → Prop} {a : Act} {w : World} (h1 : 1 ≤ n) {gf : Nat} {lb : Array Value}
    (hg : a.eval g = .func (.func gf) #[] lb) (eg : ∀ args w, (callFunc gf args).run Tryz.prog w = .ok (.enter gf args) w) {xs : List TK} {X : Nat → Prop} (hx : HandsT (n - 1) gf lb xs X w) (hX : ∀ k, X k → k < w.heap.size) (hps : ps.size = 1)
    (I Ix : List TK → Option Nat → World → Prop) (sI : Stab w.heap.size I) (sX : Stab w.heap.size Ix) (oI : ObIn (w.heap.size + 2) I) (oX : ObIn (w.heap.size + 2) Ix) (h0 : I [] none w) (a₁ : TK → Nat → Act)
    (hassign : ∀ (l : Nat) (x : TK) (W : World) (K : Act → World → Prop), K (a₁ x W.heap.size) (W.alloc (.cells (tokC x) 40)) →
      assign.wpIn (Fence.wide.inRound l) (n - 1 - 1) Tryz.prog (Exit.then K (fun _ _ _ => False)) { tmps := (ps.zip #[tokV x]).foldl (fun t (p, v) => t.setIfInBounds p v) a.tmps, defers := [] } W)
    (hbody : ∀ (l : Nat) (pre : List TK) (ob : Option Nat) (x : TK) (p : Nat) (W : World), I pre ob W → pre ++ [x] <+: xs → Cells W p 40 (tokC x) → w.heap.size + 2 ≤ p → ob ≠ some p →
      body.wpIn (Fence.wide.inRound l) (n - 1 - 1) Tryz.prog (roundLeftT X I Ix (pre ++ [x]) ob W) (a₁ x p) W)
    (hdone : ∀ (D : Nat) (ob : Option Nat) (W : World), D = w.heap.size → I xs ob W → Fr X none ob w W → W.heap[D]? = some (.deferred (some [])) → Q .normal { a with defers := { target := .collected D, args := #[] } :: a.defers } W)
    (hstop : ∀ (D : Nat) (ob : Option Nat) (pre : List TK) (W : World), D = w.heap.size → pre <+: xs → Ix pre ob W → Fr X none ob w W → W.heap[D]? = some (.deferred (some [])) →
      Code.ret.wpIn Fence.wide n Tryz.prog Q { a with defers := { target := .collected D, args := #[] } :: a.defers } W) :
    (Code.rangeFunc g ps assign body).wpIn Fence.wide n Tryz.prog Q a w := by
  refine wpIn_rangeFunc fun fn hfn => ?_
  let D := w.heap.size
  let R : LoopState → Option Code → Obj := fun st pe => .loop { state := st, pending := pe, fn, tmps := a.tmps, params := ps, assign, body, defers := D }
  let W1 := (w.alloc (.deferred (some []))).alloc (R .ready none)
  have hs1 : W1.heap.size = D + 2 := by simp [W1, D]
  have hD1 : W1.heap[D]? = some (.deferred (some [])) := (Below.heap_alloc _ _ _ (by simp [D])).trans (World.alloc_heap_new w _)
  have hL1 : W1.heap[D + 1]? = some (R .ready none) := by
    have := World.alloc_heap_new (w.alloc (.deferred (some []))) (R .ready none)
    rwa [World.size_alloc] at this
  have hb1 : Below w.heap.size w W1 := (below_new w _).trans ((below_new _ _).mono (by simp))
  let Y : Nat → Prop := fun k => X k ∨ k = D + 1
  let Book : Option Code → LoopState → World → Prop := fun pe st W => W.heap[D + 1]? = some (R st pe) ∧ W.heap[D]? = some (.deferred (some []))
  have turn : ∀ (W : World) (st st' : LoopState) (pe pe' : Option Code), Book pe st W → Book pe' st' (W.putObj (D + 1) (R st' pe')) := fun W st st' pe pe' h =>
    ⟨World.putObj_heap_same (Array.getElem?_eq_some_iff.1 h.1).1, (World.putObj_heap_other (by omega)).trans h.2⟩
  have hXD : ∀ k, X k → k ≠ D ∧ k ≠ D + 1 := fun k hk => by
    have := hX k hk
    simp only [D]
    omega
  -- what a round keeps of the statement's own two blocks
  have keep : ∀ {pe : Option Code} {st : LoopState} {ob ob' : Option Nat} {W W' : World}, Book pe st W → Fr X ob ob' W W' → (∀ k, ob = some k → D + 2 ≤ k) → Book pe st W' := fun hb hf ho =>
    ⟨(hf.same _ (Array.getElem?_eq_some_iff.1 hb.1).1 (fun h => (hXD _ h).2 rfl) (fun e => by have := ho _ e; omega)).trans hb.1,
     (hf.same _ (Array.getElem?_eq_some_iff.1 hb.2).1 (fun h => (hXD _ h).1 rfl) (fun e => by have := ho _ e; omega)).trans hb.2⟩
  have sJ : ∀ {K : List TK → Option Nat → World → Prop} (pe : Option Code) (st : LoopState), Stab w.heap.size K → Stab W1.heap.size (fun pre ob W => K pre ob W ∧ Book pe st W) := fun pe st sK pre ob W W' h e1 e2 e3 e4 e5 =>
    ⟨(sK.mono (by omega)) pre ob W W' h.1 e1 e2 e3 e4 e5,
     (e5 _ (Array.getElem?_eq_some_iff.1 h.2.1).1 (.inl (by omega))).trans h.2.1, (e5 _ (Array.getElem?_eq_some_iff.1 h.2.2).1 (.inl (by omega))).trans h.2.2⟩
  have obD : ∀ {K : List TK → Option Nat → World → Prop}, ObIn (w.heap.size + 2) K → ∀ {pre ob W}, K pre ob W → ∀ k, ob = some k → D + 2 ≤ k := fun hK pre ob W h k e => by
    subst e
    exact (hK _ _ _ h).1
  refine ⟨D + 1, [{ target := .collected D, args := #[] }], W1, { target := .fn (.func gf) lb, args := #[.func (.yield (D + 1)) #[] #[]] }, W1, gf,
    #[.func (.yield (D + 1)) #[] #[]] ++ lb, W1, run_enterLoop_outer _ _ _ _ _, ?_, fun _ _ => trivial, ?_, fun _ => h1, ?_⟩
  · simp only [resolve, hg]
    simp [go_sem]
  · simp [invoke, go_sem, eg]
  refine (hx (D + 1) Y (fun pre ob W => I pre ob W ∧ Book none .ready W) (fun pre ob W => Ix pre ob W ∧ Book (some .ret) .done W) W1 hb1
    (fun k hk => by
      rcases hk with hk | rfl
      · exact ⟨by have := hX k hk; omega, .inl hk⟩
      · exact ⟨by omega, .inr (by simp only [D]; omega)⟩)
    (sJ _ _ sI) (sJ _ _ sX) (fun pre k W h => by rw [hs1]; exact oI pre k W h.1) (fun pre k W h => by rw [hs1]; exact oX pre k W h.1) ?round ⟨sI.of_below h0 hb1, hL1, hD1⟩).mono ?after
  case round =>
    rintro pre ob x W ⟨hi, hb⟩ hWs hpre
    have hy := run_yield (P := Tryz.prog) (args := #[tokV x]) hb.1 (by rw [hps]; rfl)
    have hob := obD oI hi
    -- the variable's box
    have hba := below_new W (.cells (tokC x) 40)
    have hob2 : ∀ k, ob = some k → k < W.heap.size := fun k e => by subst e; exact (oI _ _ _ hi).2
    have hbB : Book none .ready (W.alloc (.cells (tokC x) 40)) := ⟨(hba.block _ (Array.getElem?_eq_some_iff.1 hb.1).1).trans hb.1, (hba.block _ (Array.getElem?_eq_some_iff.1 hb.2).1).trans hb.2⟩
    have hiB := sI.of_below hi hba
    have cB : Cells (W.alloc (.cells (tokC x) 40)) W.heap.size 40 (tokC x) := cells_new _ _ _
    have fB : Fr Y ob ob W (W.alloc (.cells (tokC x) 40)) := Fr.of_below hba
    refine ⟨fn, _, assign, body, hy, roundIn_of_wpIn trivial (hassign _ x W _ ⟨_, run_beginRound hbB.1 rfl, ?_⟩)⟩
    generalize W.alloc (.cells (tokC x) 40) = Wb at *
    have hb2 : Book none .busy (Wb.putObj (D + 1) (R .busy none)) := turn Wb _ _ _ _ hbB
    have f2 : Fr Y ob ob Wb (Wb.putObj (D + 1) (R .busy none)) := Fr.put _ _ _ (.inr rfl)
    have hi2 : I pre ob (Wb.putObj (D + 1) (R .busy none)) := sI.put hiB _ _ (by simp only [D]; omega) (fun e => by have := hob _ e; omega)
    have c2 : Cells (Wb.putObj (D + 1) (R .busy none)) W.heap.size 40 (tokC x) := (World.putObj_heap_other (by omega)).trans cB
    refine wpIn_mono (hbody (D + 1) pre ob x W.heap.size _ hi2 hpre c2 (by omega) (fun e => by have := hob2 _ e; omega)) ?_
    rintro e a3 W3 hp
    cases e with
    | normal =>
      obtain ⟨ob', hi3, hf⟩ := hp
      have hb3 := keep hb2 hf hob
      exact ⟨_, _, run_endRound none hb3.1, .inl ⟨rfl, ob', ⟨sI.put hi3 _ _ (by simp only [D]; omega) (fun e => by have := obD oI hi3 _ e; omega), turn W3 _ _ _ _ hb3⟩,
        fB.trans (f2.trans ((hf.mono fun k hk => .inl hk).trans (Fr.put _ _ _ (.inr rfl))))⟩⟩
    | ret =>
      obtain ⟨ob', hi3, hf⟩ := hp
      have hb3 := keep hb2 hf hob
      exact ⟨_, _, run_endRound (some .ret) hb3.1, .inr ⟨rfl, ob', ⟨sX.put hi3 _ _ (by simp only [D]; omega) (fun e => by have := obD oX hi3 _ e; omega), turn W3 _ _ _ _ hb3⟩,
        fB.trans (f2.trans ((hf.mono fun k hk => .inl hk).trans (Fr.put _ _ _ (.inr rfl))))⟩⟩
    | exit id => exact hp.elim
    | goto t => exact hp.elim
    | panic ch => exact hp.elim
    | outgrown => exact hp.elim
  case after =>
    have fin : ∀ {W2 : World} {ob : Option Nat} {pe : Option Code}, Fr Y none ob W1 W2 → Fr X none ob w (W2.putObj (D + 1) (R .exhausted pe)) := fun {W2 ob pe} hf =>
      ⟨hf.os.trans hb1.os, hf.tape.trans hb1.tape, hf.output.trans hb1.output, by have := hf.size; simp [World.putObj]; simp only [D] at hs1; omega, fun k hk hx _ => by
        refine (World.putObj_heap_other (by simp only [D]; omega)).trans ((hf.same k (by simp only [D] at hs1; omega) (fun h => ?_) (by simp)).trans (hb1.block k hk))
        rcases h with h | h
        · exact hx h
        · simp only [D] at h; omega, by
        rcases hf.ob with e | ⟨k, e, h1, h2⟩
        · exact .inl e
        · exact .inr ⟨k, e, by simp only [D] at hs1; omega, by simpa [World.putObj] using h2⟩⟩
    rintro e W2 ⟨⟨v, rfl⟩, ob, hf, ⟨hi, hb⟩ | ⟨pre, hpre, hi, hb⟩⟩
    · exact ⟨none, _, run_endLoop hb.1 (by simp), hdone D ob _ rfl (sI.put hi _ _ (by simp only [D]; omega) (fun e => by have := obD oI hi _ e; omega)) (fin hf) ((World.putObj_heap_other (by omega)).trans hb.2)⟩
    · exact ⟨some .ret, _, run_endLoop hb.1 (by simp), hstop D ob pre _ rfl hpre (sX.put hi _ _ (by simp only [D]; omega) (fun e => by have := obD oX hi _ e; omega)) (fin hf) ((World.putObj_heap_other (by omega)).trans hb.2)⟩
end Go.Proofs.YtojinnnpfjhifaaGreatDoor

