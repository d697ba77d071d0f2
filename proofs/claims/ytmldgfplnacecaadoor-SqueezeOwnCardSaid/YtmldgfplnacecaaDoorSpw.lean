/-
  Contract: split.
-/
import Derived.Test.YtmldgfplnacecaaDoorSpl
namespace Go.Proofs.YtmldgfplnacecaaDoor
open Go.RowKit Go.Shelf Go.Lib Go.Maps Go.Sort

set_option maxHeartbeats 8000000 in
set_option maxRecDepth 100000 in
theorem split_any (g : List Int) (hg : g.length = 37) (Ag : Option Addr) (cg : Nat) {R : List (List Int)} {T : List Nat} {v : Value} {w : World} (his : IS w w.heap.size g Ag cg) (h : TbV w R T v) (hr : rightT R T = true) (hP : PW w) :
    Calls Tryd.prog 66 #[.slice Ag 37 cg, v] w fun r w' => Below w.heap.size w w' ∧ ∃ u, r = .returned u ∧ FrL w w' (numL (conL g R)) u := by
  obtain ⟨A, c, A2, c2, rfl, hR, hT⟩ := h
  obtain ⟨n, hn⟩ : ∃ n, R.length = n := ⟨_, rfl⟩
  obtain ⟨n2, hn2⟩ : ∃ n, T.length = n := ⟨_, rfl⟩
  obtain ⟨W0, hW0⟩ : ∃ W, (w.alloc (.cells #[.slice A n c, .slice A2 n2 c2] 54)).alloc (.cells (arr 74 zf) 138) = W := ⟨_, rfl⟩
  have b0 : Below w.heap.size w W0 := by rw [← hW0]; exact (below_new _ _).alloc (by simp) _
  have x0 : Cells W0 w.heap.size 54 #[.slice A n c, .slice A2 n2 c2] := by rw [← hW0]; exact (cells_new _ _ _).on (below_new _ _)
  have C0 : CAt W0 (w.heap.size + 1) (conL g R) 0 := by
    have := cells_new (w.alloc (.cells #[.slice A n c, .slice A2 n2 c2] 54)) (arr 74 zf) 138
    rw [World.size_alloc] at this
    rw [← hW0]
    unfold CAt
    rw [conL_len]
    have e : arr (2 * 37) (cfun (conL g R) 0) = arr 74 zf := arr_congr fun j _ => by unfold cfun zf; rw [if_neg (by omega)]
    rw [e]; exact this
  have mk := make_cons
  have hD := conL_dom hr (fun x hx => his.i x hx)
  have hgl := fun m (hm : m < 37) => conL_get g R hm
  have hlen := conL_len g R
  obtain ⟨C, hC⟩ : ∃ C, conL g R = C := ⟨_, rfl⟩
  rw [hC] at C0 hD hgl hlen ⊢
  have H := Lib.hid (And.intro his (And.intro hR (And.intro hT (And.intro hn (And.intro hn2 (And.intro hr (And.intro hP (And.intro hD (And.intro hgl (And.intro hlen (And.intro x0 (And.intro C0 b0))))))))))))
  have HW := Lib.hid hW0
  have HG := Lib.hid hg
  rw [hn, hn2]
  clear his hR hT hn hn2 hr hP hD hgl hlen x0 C0 b0 hW0 hg hC
  go_enter Tryd.func66, Tryd.ntmps66
  go_wp2_with fail
  rw [HW.out]
  go_loopw [11] (fun i wr => ∃ k : Nat, i = .int .i64 (k : Int) ∧ k ≤ 37 ∧ Below w.heap.size w wr ∧ Cells wr w.heap.size 54 #[.slice A n c, .slice A2 n2 c2] ∧ CAt wr (w.heap.size + 1) C k) (fun i _ => 37 - (RowKit.intOf i).toNat)
  case atStart => exact ⟨0, rfl, by omega, H.out.2.2.2.2.2.2.2.2.2.2.2.2, H.out.2.2.2.2.2.2.2.2.2.2.1, H.out.2.2.2.2.2.2.2.2.2.2.2.1⟩
  case round =>
    obtain ⟨k, rfl, hk, hb, hx, hCA⟩ := hrel
    by_cases hlt : k < 37
    · have i1 : (k : Int) < 37 := by omega
      obtain ⟨y, hy⟩ := list_at (xs := g) (i := k) (by rw [HG.out]; exact hlt)
      obtain ⟨b, o, rfl, hbl, hc⟩ := H.out.1.r (by rintro rfl; simp at hy)
      have d0 := (hb.cell (p := ⟨b, o + k, none⟩) hbl).trans (hc k y hy)
      have e0 := hx.cell 0
      have e1 := hx.cell 1
      simp at e0 e1
      have hh := H.out
      have D := col_any (R := R) (T := T) (v := .agg #[.slice A R.length c, .slice A2 T.length c2]) (w := wr) ⟨A, c, A2, c2, rfl, (hh.2.1.below hb).mono hb.size, (hh.2.2.1.below hb).mono hb.size⟩ hh.2.2.2.2.2.1 k hlt (hh.2.2.2.2.2.2.1.below hb hh.2.2.2.2.2.2.1.lt)
      have hck := hh.2.2.2.2.2.2.2.2.1 k hlt
      rw [getD_get hy] at hck
      rw [hh.2.2.2.1, hh.2.2.2.2.1] at D
      have HD := Lib.hid D
      have HK := Lib.hid (And.intro hb (And.intro hx (And.intro hCA hck)))
      clear hh D hb hx hCA hck hy hc
      go_wp2_with fail
      refine HD.out.mono ?_
      rintro r w2 ⟨rfl, hb2⟩
      have hb' := HK.out.1.trans (hb2.mono HK.out.1.size)
      have hx2 := HK.out.2.1.on hb2
      have hC2 : CAt w2 (w.heap.size + 1) C k := Cells.on HK.out.2.2.1 hb2
      have c0 := Cells.cell hC2 (k * 2)
      have c1 := Cells.cell hC2 (k * 2 + 1)
      have l1 := H.out.2.2.2.2.2.2.2.2.2.1
      rw [arr_get _ (by omega)] at c0 c1
      have f0 := Cells.froz hC2 (k * 2)
      have f1 := Cells.froz hC2 (k * 2 + 1)
      have hz2 := Cells.lt hC2
      have hb3 : Below w.heap.size w ((w2.setCell ⟨w.heap.size + 1, k * 2, none⟩ (.int .i64 y)).setCell ⟨w.heap.size + 1, k * 2 + 1, none⟩ (.string ⟨(txt (colL R k)).toArray⟩)) := (hb'.setCell (Nat.le_succ _) _).setCell (Nat.le_succ _) _
      have hend : ∃ k' : Nat, Value.int .i64 ((k : Int) + 1) = .int .i64 (k' : Int) ∧ k' ≤ 37 ∧ Below w.heap.size w ((w2.setCell ⟨w.heap.size + 1, k * 2, none⟩ (.int .i64 y)).setCell ⟨w.heap.size + 1, k * 2 + 1, none⟩ (.string ⟨(txt (colL R k)).toArray⟩)) ∧ Cells ((w2.setCell ⟨w.heap.size + 1, k * 2, none⟩ (.int .i64 y)).setCell ⟨w.heap.size + 1, k * 2 + 1, none⟩ (.string ⟨(txt (colL R k)).toArray⟩)) w.heap.size 54 #[.slice A n c, .slice A2 n2 c2] ∧ CAt ((w2.setCell ⟨w.heap.size + 1, k * 2, none⟩ (.int .i64 y)).setCell ⟨w.heap.size + 1, k * 2 + 1, none⟩ (.string ⟨(txt (colL R k)).toArray⟩)) (w.heap.size + 1) C k' := by
        refine ⟨k + 1, by simp, by omega, hb3, ?_, CAt.store (c := (y, colL R k)) hC2 HK.out.2.2.2⟩
        have g1 := grown_setc w2 (w.heap.size + 1) (k * 2) (.int .i64 y)
        have g2 := grown_setc (w2.setCell ⟨w.heap.size + 1, k * 2, none⟩ (.int .i64 y)) (w.heap.size + 1) (k * 2 + 1) (.string ⟨(txt (colL R k)).toArray⟩)
        exact (g2.block _ (by have := g1.size; omega) (by simp)).trans ((g1.block _ (by omega) (by simp)).trans hx2)
      have HEND := Lib.hid hend
      clear hend hb3 hb' hx2 hC2 hb2 l1
      go_wp2_with fail
      go_roundw
      case rel => exact HEND.out
      case measure => simp [RowKit.intOf]; omega
    · obtain rfl : k = 37 := by omega
      have i1 : ¬ ((37 : Nat) : Int) < 37 := by omega
      have D := num89_any C (w.heap.size + 1) (by rw [H.out.2.2.2.2.2.2.2.2.2.1]; omega) H.out.2.2.2.2.2.2.2.1 wr (by rw [H.out.2.2.2.2.2.2.2.2.2.1]; exact hCA)
      rw [H.out.2.2.2.2.2.2.2.2.2.1] at D
      have HD := Lib.hid D
      have HB := Lib.hid hb
      clear D hb hx hCA
      go_wp2_with fail
      refine HD.out.mono ?_
      rintro r w2 ⟨hb2, u, rfl, hf⟩
      have HF := Lib.hid (And.intro (HB.out.trans (hb2.mono HB.out.size)) (hf.from HB.out.size))
      clear hb2 hf
      go_wp2_with fail
      go_ret
      exact ⟨HF.out.1, _, rfl, HF.out.2⟩
end Go.Proofs.YtmldgfplnacecaaDoor
