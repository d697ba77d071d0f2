/-
  Contract: the text of a column.
-/
import Derived.Test.YtmldgfplnacecaaDoorTxd
import Derived.Test.YtmldgfplnacecaaDoorTgr
import Derived.Test.YtmldgfplnacecaaDoorLayA
import Derived.Lib.LaidTab
import Derived.Laws.AppendOwnNone
namespace Go.Proofs.YtmldgfplnacecaaDoor
open Go.RowKit Go.Shelf Go.Lib Go.Maps Go.Sort

/-- The table of powers of ten. -/
def PW (w : World) : Prop := Lib.TabIs Tryd.prog w "internal/strconv.uint64pow10" .u64 Lib.pow10Tab
theorem gPow : Tryd.prog.globalNamed "internal/strconv.uint64pow10" = some 1 := by kernel_rfl
theorem PW.lt {w : World} (h : PW w) : 1 < w.heap.size := by
  unfold PW Lib.TabIs World.var? at h
  rw [gPow] at h
  simp only [Option.bind_some] at h
  rcases Nat.lt_or_ge 1 w.heap.size with h' | h'
  · exact h'
  · rw [Array.getElem?_eq_none h'] at h; simp at h
theorem PW.block {w w' : World} (h : PW w) (hb : w'.heap[1]? = w.heap[1]?) : PW w' := by
  unfold PW Lib.TabIs World.var? at *
  rw [gPow] at h ⊢
  simp only [Option.bind_some] at h ⊢
  rw [hb]; exact h
theorem PW.below {w w' : World} {B : Nat} (h : PW w) (hb : Below B w w') (hB : 1 < B) : PW w' := h.block (hb.block 1 hB)

theorem txt_len : ∀ xs : List Int, (∀ p ∈ xs, 0 ≤ p ∧ p < 1024) → (txt xs).length ≤ 5 * xs.length
  | [], _ => by simp [txt]
  | p :: r, h => by
    have h1 := txt_len r (fun q hq => h q (by simp [hq]))
    have h2 := h p (by simp)
    have h3 := digits_len p.toNat (by omega)
    rw [txt, List.length_append, itoa_pos h2.1]
    simp only [List.length_cons]
    omega
theorem conv_nil (w : World) : (convert 149 9 (.slice none 0 0)).run Tryd.prog w = .ok (.string ⟨#[]⟩) w := by kernel_rfl
theorem conv_row {w : World} {B : Nat} {v : Value} {l : List UInt8} (h : w.ownsRow B 5 1 v l.length (Lib.byteCells l)) : (convert 149 9 v).run Tryd.prog w = .ok (.string ⟨l.toArray⟩) w := by
  rcases h.2 with ⟨h1, h2⟩ | ⟨g, cap, cur, h1, rest⟩
  · have : l = [] := List.eq_nil_of_length_eq_zero h2
    subst this
    rw [h1]
    exact conv_nil w
  · rw [h1]
    refine run_convert_bytes_back (P := Tryd.prog) w 149 9 5 ⟨g, 0, none⟩ cap l Tryd.underlying149 Tryd.underlying5 Tryd.underlying9 (fun j hj => ?_)
    exact World.ownsRow.cells h (g := g) (by rw [h1]; rfl) j _ (by simp [Lib.byteCells, hj])
/-- A column of a table. -/
def colL (R : List (List Int)) (m : Nat) : List Int := R.map fun r => r.getD m 0
theorem colL_take {R : List (List Int)} {m k : Nat} {r : List Int} {x : Int} (hr : R[k]? = some r) (hx : r[m]? = some x) : (colL R m)[k]? = some x := by
  unfold colL
  rw [List.getElem?_map, hr]
  simp only [Option.map_some, getD_get hx]
theorem colL_len (R : List (List Int)) (m : Nat) : (colL R m).length = R.length := by simp [colL]
theorem colL_ok {R : List (List Int)} {T : List Nat} (h : rightT R T = true) {m : Nat} (hm : m < 37) : ∀ p ∈ colL R m, 0 ≤ p ∧ p < 1024 := by
  intro p hp
  obtain ⟨h1, h2, h3, h4⟩ := right_parts h
  unfold colL at hp
  obtain ⟨r, hr, rfl⟩ := List.mem_map.1 hp
  obtain ⟨i, hi⟩ := List.mem_iff_getElem?.1 hr
  obtain ⟨hl, hx⟩ := h4 i r hi
  obtain ⟨x, hx2⟩ := list_at (xs := r) (i := m) (by omega)
  rw [getD_get hx2]
  have := hx m x hx2
  omega
set_option maxHeartbeats 8000000 in
set_option maxRecDepth 100000 in
theorem col_any {R : List (List Int)} {T : List Nat} {v : Value} {w : World} (h : TbV w R T v) (hr : rightT R T = true) (m : Nat) (hm : m < 37) (hP : PW w) :
    Calls Tryd.prog 88 #[v, .int .i64 (m : Int)] w fun r w' => r = .returned (.string ⟨(txt (colL R m)).toArray⟩) ∧ Below w.heap.size w w' := by
  obtain ⟨A, c, A2, c2, rfl, hR, hT⟩ := h
  obtain ⟨W0, hW0⟩ : ∃ W, w.alloc (.cells #[.slice A R.length c, .slice A2 T.length c2] 54) = W := ⟨_, rfl⟩
  have b0 : Below w.heap.size w W0 := by rw [← hW0]; exact below_new _ _
  have x0 : Cells W0 w.heap.size 54 #[.slice A R.length c, .slice A2 T.length c2] := by rw [← hW0]; exact cells_new _ _ _
  obtain ⟨n, hn⟩ : ∃ n, R.length = n := ⟨_, rfl⟩
  obtain ⟨n2, hn2⟩ : ∃ n, T.length = n := ⟨_, rfl⟩
  obtain ⟨i0, hi, hz0, hz1, hz2⟩ : ∃ i, Tryd.prog.info? 5 = some i ∧ i.zero = some (.int .u8 0) ∧ i.size = 1 ∧ i.bytes = 1 := ⟨_, rfl, rfl, rfl, rfl⟩
  rw [hn, hn2] at x0 hW0 ⊢
  have e0 := x0.cell 0
  simp at e0
  have hn1000 : n ≤ 1000 := by have := (right_parts hr).2.1; omega
  have hok := colL_ok hr hm
  have hcl := colL_len R m
  rw [hn] at hcl
  have H := Lib.hid (And.intro hR (And.intro hr (And.intro hn (And.intro hok (And.intro hcl hP)))))
  have HI := Lib.hid (And.intro hi (And.intro hz0 (And.intro hz1 hz2)))
  have HW := Lib.hid hW0
  have HB := Lib.hid b0
  have m37 : (m : Int) < 37 := by omega
  obtain ⟨xs, hxs⟩ : ∃ xs, colL R m = xs := ⟨_, rfl⟩
  have HX := Lib.hid hxs
  rw [hxs] at H ⊢
  clear hR hr hn hn2 hok hcl hP hi hz0 hz1 hz2 hW0 b0 x0 hT hxs
  go_enter Tryd.func88, Tryd.ntmps88
  go_wp2_with fail
  rw [HW.out]
  go_wp2_with fail
  clear e0
  go_loopw [5, 11] (fun v i wr => ∃ k : Nat, i = .int .i64 (k : Int) ∧ k ≤ n ∧ wr.ownsRow w.heap.size 5 1 v (txt (xs.take k)).length (Lib.byteCells (txt (xs.take k))) ∧ Below w.heap.size w wr) (fun _ i _ => n - (RowKit.intOf i).toNat)
  case atStart => exact ⟨0, rfl, by omega, ⟨rfl, .inl ⟨rfl, rfl⟩⟩, HB.out⟩
  case round =>
    obtain ⟨k, rfl, hk, hown, hb⟩ := hrel
    by_cases hlt : k < n
    · have i1 : (k : Int) < (n : Int) := by omega
      obtain ⟨r, hrk⟩ : ∃ r, R[k]? = some r := ⟨R[k]'(by rw [H.out.2.2.1]; exact hlt), List.getElem?_eq_getElem _⟩
      have hrl : r.length = 37 := ((right_parts H.out.2.1).2.2.2 _ _ hrk).1
      obtain ⟨x, hxm⟩ := list_at (xs := r) (i := m) (by omega)
      have hx : xs[k]? = some x := by rw [← HX.out]; exact colL_take hrk hxm
      obtain ⟨b, o, rfl, hbl, hc⟩ := H.out.1.r (by rintro rfl; simp at hrk)
      obtain ⟨A', c', d1, his, _⟩ := hc k r hrk
      obtain ⟨b2, o2, rfl, hbl2, hc2⟩ := his.r (by rintro rfl; simp at hxm)
      have d2 := (hb.cell (p := ⟨b, o + k, none⟩) hbl).trans d1
      have d3 := (hb.cell (p := ⟨b2, o2 + m, none⟩) hbl2).trans (hc2 m x hxm)
      rw [hrl] at d2
      have hx3 := H.out.2.2.2.1 x (List.mem_of_getElem? hx)
      have hL := txt_len (xs.take k) (fun p hp => H.out.2.2.2.1 p (List.mem_of_mem_take hp))
      rw [List.length_take] at hL
      have hL2 : (txt (xs.take k)).length ≤ 5120 := by omega
      have C := Tryd.strconv_AppendInt_10 w.heap.size (txt (xs.take k)).length x (by omega) (by omega) u5 (Lib.byteCells (txt (xs.take k))) wr hown hb.size (by omega) ((Lib.tabBelow_of_tabIs H.out.2.2.2.2.2).on hb)
      have hT := txt_take hx
      generalize txt (xs.take k) = L at *
      have HC := Lib.hid C
      have HK := Lib.hid (And.intro hT (And.intro hb hx3))
      clear C hT hb hown hx hc hL hx3 hrk hrl hxm d1 his hc2
      go_wp2_with fail
      refine HC.out.mono ?_
      rintro r w2 ⟨v2, rfl, ho2, hb2, _⟩
      have hb2' := HK.out.2.1.trans hb2
      obtain ⟨D, hD⟩ : ∃ D, Lib.itoa x = D := ⟨_, rfl⟩
      have hD4 : D.length ≤ 4 := by rw [← hD, itoa_pos HK.out.2.2.1]; exact digits_len _ (by have := HK.out.2.2; omega)
      rw [hD] at ho2
      have H2 := Lib.hid (And.intro ho2 (And.intro hb2' hD))
      clear ho2 hb2 hb2' hD
      have o3 : (w2.alloc (.cells #[.int .u8 44] 5)).ownsRow w.heap.size 5 1 v2 (L.length + D.length) (Lib.byteCells L ++ Lib.byteCells D) := H2.out.1.alloc _
      have c3 : (w2.alloc (.cells #[.int .u8 44] 5)).cell? ⟨w2.heap.size, 0, none⟩ = some (.int .u8 44) := by rw [World.cell?_alloc_new]; rfl
      have b3 : Below w.heap.size w (w2.alloc (.cells #[.int .u8 44] 5)) := H2.out.2.1.alloc H2.out.2.1.size _
      have H3 := Lib.hid (And.intro o3 (And.intro c3 b3))
      clear o3 c3 b3
      go_wp2_with (first
        | (at_builtin
           refine wpList_append_one rfl (.tmp 21) (.tmp 22) 149 rfl w.heap.size 5 i0 (.int .u8 0) 1 Tryd.underlying149 HI.out.1 HI.out.2.1 HI.out.2.2.1 HI.out.2.2.2 (by decide) rfl _ (L.length + D.length) _ rfl H3.out.1 ⟨w2.heap.size, 0, none⟩ (.int .u8 44) rfl H3.out.2.1 rfl (by omega) (by have := H3.out.2.2.size; omega) _ rfl ?_)
        | fail)
      intro g cp w4 ho4 hg4 _ _
      have b4 : Below w.heap.size w w4 := H3.out.2.2.trans (below_grown' (v := v2) hg4 H3.out.1 H3.out.2.2.size)
      have hend : ∃ j : Nat, Value.int .i64 ((k : Int) + 1) = .int .i64 (j : Int) ∧ j ≤ n ∧ w4.ownsRow w.heap.size 5 1 (.slice (some ⟨g, 0, none⟩) (L.length + D.length + 1) cp) (txt (xs.take j)).length (Lib.byteCells (txt (xs.take j))) ∧ Below w.heap.size w w4 := by
        refine ⟨k + 1, by simp, by omega, ?_, b4⟩
        rw [HK.out.1, H2.out.2.2]
        have e1 : (L ++ D ++ [44]).length = L.length + D.length + 1 := by simp; omega
        rw [e1, Lib.byteCells_append, Lib.byteCells_append, List.append_assoc]
        exact ho4
      have HEND := Lib.hid hend
      clear hend ho4 hg4 b4
      go_wp2_with fail
      go_roundw
      case rel => exact HEND.out
      case measure => simp [RowKit.intOf]; omega
    · obtain rfl : k = n := by omega
      have i1 : ¬ (k : Int) < (k : Int) := by omega
      have e1 : xs.take k = xs := by rw [← H.out.2.2.2.2.1, List.take_length]
      rw [e1] at hown
      clear e1
      have hcv : (convert 149 9 u5).run Tryd.prog wr = .ok (.string ⟨(txt xs).toArray⟩) wr := conv_row hown
      have HB := Lib.hid hb
      clear hb hown
      go_wp2_with fail
      go_ret
      exact ⟨rfl, HB.out⟩
end Go.Proofs.YtmldgfplnacecaaDoor
