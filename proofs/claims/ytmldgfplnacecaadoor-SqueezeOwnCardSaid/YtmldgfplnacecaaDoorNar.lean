/-
  Contracts: narrowed, widened.
-/
import Derived.Test.YtmldgfplnacecaaDoorArr
namespace Go.Proofs.YtmldgfplnacecaaDoor
open Go.RowKit Go.Shelf Go.Lib Go.Maps Go.Sort

theorem intsC_set (l : List Int) (i : Nat) (x : Int) : (intsC l).toArray.setIfInBounds i (.int .i64 x) = (intsC (l.set i x)).toArray := by
  unfold intsC
  rw [List.setIfInBounds_toArray, List.map_set]
/-- A row, group by group: the last of a group's marks counts. -/
def setL (g row : List Int) (many : Nat) : Nat → List Int
  | 0 => List.replicate many 0
  | k + 1 => (setL g row many k).set (g.getD k 0).toNat (row.getD k 0)
theorem setL_len (g row : List Int) (many : Nat) : ∀ k, (setL g row many k).length = many
  | 0 => by simp [setL]
  | k + 1 => by simp [setL, setL_len g row many k]
def narL (row g : List Int) (many : Nat) : List Int := setL g row many g.length
def widL (row g : List Int) : List Int := g.map fun x => row.getD x.toNat 0
theorem arr_zero (n : Nat) : arr n (fun _ => .int .i64 0) = (intsC (List.replicate n 0)).toArray := by
  rw [← arr_ints, List.length_replicate]
  refine arr_congr fun i hi => ?_
  rw [getD_get (l := List.replicate n (0 : Int)) (x := 0) (by simp [hi])]
set_option maxHeartbeats 8000000 in
set_option maxRecDepth 100000 in
theorem nar_any (row g : List Int) (many : Nat) (hm : many ≤ 1000) (hl : g.length ≤ row.length) (hg : ∀ x ∈ g, 0 ≤ x ∧ x < many) (A A' : Option Addr) (c c' : Nat) (w : World) (hr : IS w w.heap.size row A c) (hs : IS w w.heap.size g A' c') (hgl : g.length ≤ 1000) :
    Calls Tryd.prog 73 #[.slice A row.length c, .slice A' g.length c', .int .i64 (many : Int)] w fun r w' => Below w.heap.size w w' ∧ ∃ v, r = .returned v ∧ FrL w w' (narL row g many) v := by
  obtain ⟨n, hn⟩ : ∃ n, g.length = n := ⟨_, rfl⟩
  obtain ⟨n2, hn2⟩ : ∃ n, row.length = n := ⟨_, rfl⟩
  have mk2 := make_ints many (by omega)
  obtain ⟨W0, hW0⟩ : ∃ W, w.alloc (.cells (arr many fun _ => .int .i64 0) 3) = W := ⟨_, rfl⟩
  have b0 : Below w.heap.size w W0 := by rw [← hW0]; exact below_new _ _
  have x0 : Cells W0 w.heap.size 3 (intsC (setL g row many 0)).toArray := by rw [← hW0]; have := cells_new w (arr many fun _ => .int .i64 0) 3; rw [arr_zero] at this ⊢; exact this
  have hset : ∀ k, (setL g row many k).length = many := setL_len g row many
  have H := Lib.hid (And.intro hr (And.intro hs (And.intro hn (And.intro hn2 (And.intro hg (And.intro x0 (And.intro b0 hset)))))))
  have HW := Lib.hid hW0
  unfold narL
  rw [hn, hn2] at hl
  rw [hn] at hgl
  rw [hn, hn2]
  clear hr hs hn hn2 hg x0 b0 hW0 hset
  go_enter Tryd.func73, Tryd.ntmps73
  go_wp2_with fail
  rw [HW.out]
  go_loopw [14] (fun i wr => ∃ k : Nat, i = .int .i64 (k : Int) ∧ k ≤ n ∧ Below w.heap.size w wr ∧ Cells wr w.heap.size 3 (intsC (setL g row many k)).toArray) (fun i _ => n - (RowKit.intOf i).toNat)
  case atStart => exact ⟨0, rfl, by omega, H.out.2.2.2.2.2.2.1, H.out.2.2.2.2.2.1⟩
  case round =>
    obtain ⟨k, rfl, hk, hb, hc⟩ := hrel
    by_cases hlt : k < n
    · have i1 : (k : Int) < (n : Int) := by omega
      have i2 : (k : Int) < (n2 : Int) := by omega
      obtain ⟨x, hx⟩ := list_at (xs := g) (i := k) (by rw [H.out.2.2.1]; exact hlt)
      obtain ⟨y, hy⟩ := list_at (xs := row) (i := k) (by rw [H.out.2.2.2.1]; omega)
      obtain ⟨b, o, rfl, hbl, hcx⟩ := H.out.2.1.r (by rintro rfl; simp at hx)
      obtain ⟨b2, o2, rfl, hbl2, hcy⟩ := H.out.1.r (by rintro rfl; simp at hy)
      have d0 := (hb.cell (p := ⟨b, o + k, none⟩) hbl).trans (hcx k x hx)
      have d1 := (hb.cell (p := ⟨b2, o2 + k, none⟩) hbl2).trans (hcy k y hy)
      obtain ⟨p0, p1⟩ := H.out.2.2.2.2.1 x (List.mem_of_getElem? hx)
      obtain ⟨p, rfl⟩ : ∃ p : Nat, x = (p : Int) := ⟨x.toNat, by omega⟩
      obtain ⟨L, hL⟩ : ∃ L, setL g row many k = L := ⟨_, rfl⟩
      have hsn : setL g row many (k + 1) = L.set p y := by rw [setL, hL, getD_get hx, getD_get hy]; rfl
      rw [hL] at hc
      have hLl : L.length = many := by rw [← hL]; exact H.out.2.2.2.2.2.2.2 k
      obtain ⟨z, hz⟩ := list_at (xs := L) (i := p) (by omega)
      have c0 := hc.cell p
      have f0 := hc.froz p
      have z0 := hc.lt
      have e : (intsC L).toArray[p]? = some (.int .i64 z) := by simp [intsC, hz]
      rw [e] at c0
      have hend : ∃ k' : Nat, Value.int .i64 ((k : Int) + 1) = .int .i64 (k' : Int) ∧ k' ≤ n ∧ Below w.heap.size w (wr.setCell ⟨w.heap.size, p, none⟩ (.int .i64 y)) ∧ Cells (wr.setCell ⟨w.heap.size, p, none⟩ (.int .i64 y)) w.heap.size 3 (intsC (setL g row many k')).toArray := by
        refine ⟨k + 1, by simp, by omega, hb.setCell (Nat.le_refl _) _, ?_⟩
        have := hc.set p (.int .i64 y)
        rw [intsC_set] at this
        rw [hsn]; exact this
      have HEND := Lib.hid hend
      clear hend hc hb hL hsn hLl hz e hx hy hcx hcy
      go_wp2_with fail
      go_roundw
      case rel => exact HEND.out
      case measure => simp [RowKit.intOf]; omega
    · obtain rfl : k = n := by omega
      have i1 : ¬ (k : Int) < (k : Int) := by omega
      have hf : FrL w wr (setL g row many k) (.slice (some ⟨w.heap.size, 0, none⟩) many many) := ⟨w.heap.size, by rw [H.out.2.2.2.2.2.2.2 k], Nat.le_refl _, hc⟩
      have HF := Lib.hid (And.intro hb hf)
      clear hb hf hc
      go_wp2_with fail
      go_ret
      exact ⟨HF.out.1, _, rfl, HF.out.2⟩
/-- What widened keeps. -/
def wfun (row g : List Int) (k j : Nat) : Value := .int .i64 (if j < k then row.getD (g.getD j 0).toNat 0 else 0)
set_option maxHeartbeats 8000000 in
set_option maxRecDepth 100000 in
theorem wid_any (row g : List Int) (hg : ∀ x ∈ g, 0 ≤ x ∧ x < row.length) (A A' : Option Addr) (c c' : Nat) (w : World) (hr : IS w w.heap.size row A c) (hs : IS w w.heap.size g A' c') (hgl : g.length ≤ 1000) :
    Calls Tryd.prog 74 #[.slice A row.length c, .slice A' g.length c'] w fun r w' => Below w.heap.size w w' ∧ ∃ v, r = .returned v ∧ FrL w w' (widL row g) v := by
  obtain ⟨n, hn⟩ : ∃ n, g.length = n := ⟨_, rfl⟩
  obtain ⟨n2, hn2⟩ : ∃ n, row.length = n := ⟨_, rfl⟩
  have mk2 := make_ints n (by omega)
  obtain ⟨W0, hW0⟩ : ∃ W, w.alloc (.cells (arr n fun _ => .int .i64 0) 3) = W := ⟨_, rfl⟩
  have b0 : Below w.heap.size w W0 := by rw [← hW0]; exact below_new _ _
  have x0 : Cells W0 w.heap.size 3 (arr n (wfun row g 0)) := by
    rw [← hW0]
    have := cells_new w (arr n fun _ => .int .i64 0) 3
    have e : arr n (wfun row g 0) = arr n fun _ => .int .i64 0 := arr_congr fun j _ => by unfold wfun; rw [if_neg (by omega)]
    rw [e]; exact this
  have hfin : arr n (wfun row g n) = (intsC (widL row g)).toArray := by
    have e : (widL row g).length = n := by unfold widL; rw [List.length_map, hn]
    rw [← arr_ints, e]
    refine arr_congr fun j hj => ?_
    obtain ⟨x, hx⟩ := list_at (xs := g) (i := j) (by omega)
    have : (widL row g)[j]? = some (row.getD x.toNat 0) := by unfold widL; rw [List.getElem?_map, hx]; rfl
    unfold wfun
    rw [if_pos hj, getD_get this, getD_get hx]
  have hwl : (widL row g).length = n := by unfold widL; rw [List.length_map, hn]
  have H := Lib.hid (And.intro hr (And.intro hs (And.intro hn (And.intro hn2 (And.intro hg (And.intro x0 (And.intro b0 (And.intro hfin hwl))))))))
  have HW := Lib.hid hW0
  rw [hn] at hgl
  rw [hn, hn2]
  clear hr hs hn hn2 hg x0 b0 hW0 hfin hwl
  go_enter Tryd.func74, Tryd.ntmps74
  go_wp2_with fail
  rw [HW.out]
  go_loopw [13] (fun i wr => ∃ k : Nat, i = .int .i64 (k : Int) ∧ k ≤ n ∧ Below w.heap.size w wr ∧ Cells wr w.heap.size 3 (arr n (wfun row g k))) (fun i _ => n - (RowKit.intOf i).toNat)
  case atStart => exact ⟨0, rfl, by omega, H.out.2.2.2.2.2.2.1, H.out.2.2.2.2.2.1⟩
  case round =>
    obtain ⟨k, rfl, hk, hb, hc⟩ := hrel
    by_cases hlt : k < n
    · have i1 : (k : Int) < (n : Int) := by omega
      obtain ⟨x, hx⟩ := list_at (xs := g) (i := k) (by rw [H.out.2.2.1]; exact hlt)
      obtain ⟨p0, p1⟩ := H.out.2.2.2.2.1 x (List.mem_of_getElem? hx)
      rw [H.out.2.2.2.1] at p1
      obtain ⟨p, rfl⟩ : ∃ p : Nat, x = (p : Int) := ⟨x.toNat, by omega⟩
      obtain ⟨y, hy⟩ := list_at (xs := row) (i := p) (by rw [H.out.2.2.2.1]; omega)
      obtain ⟨b, o, rfl, hbl, hcx⟩ := H.out.2.1.r (by rintro rfl; simp at hx)
      obtain ⟨b2, o2, rfl, hbl2, hcy⟩ := H.out.1.r (by rintro rfl; simp at hy)
      have d0 := (hb.cell (p := ⟨b, o + k, none⟩) hbl).trans (hcx k p hx)
      have d1 := (hb.cell (p := ⟨b2, o2 + p, none⟩) hbl2).trans (hcy p y hy)
      have c0 := hc.cell k
      have f0 := hc.froz k
      have z0 := hc.lt
      rw [arr_get _ hlt] at c0
      have hend : ∃ k' : Nat, Value.int .i64 ((k : Int) + 1) = .int .i64 (k' : Int) ∧ k' ≤ n ∧ Below w.heap.size w (wr.setCell ⟨w.heap.size, k, none⟩ (.int .i64 y)) ∧ Cells (wr.setCell ⟨w.heap.size, k, none⟩ (.int .i64 y)) w.heap.size 3 (arr n (wfun row g k')) := by
        refine ⟨k + 1, by simp, by omega, hb.setCell (Nat.le_refl _) _, ?_⟩
        have := hc.set k (.int .i64 y)
        rw [arr_set] at this
        have e : arr n (wfun row g (k + 1)) = arr n (fun j => if j = k then .int .i64 y else wfun row g k j) := arr_congr fun j _ => by
          by_cases e1 : j = k
          · subst e1
            unfold wfun
            rw [if_pos (by omega), if_pos rfl, getD_get hx, Int.toNat_natCast, getD_get hy]
          · rw [if_neg e1]
            unfold wfun
            by_cases e2 : j < k
            · rw [if_pos e2, if_pos (by omega)]
            · rw [if_neg e2, if_neg (by omega)]
        rw [e]; exact this
      have HEND := Lib.hid hend
      clear hend hc hb hx hy hcx hcy
      go_wp2_with fail
      go_roundw
      case rel => exact HEND.out
      case measure => simp [RowKit.intOf]; omega
    · obtain rfl : k = n := by omega
      have i1 : ¬ (k : Int) < (k : Int) := by omega
      have hf : FrL w wr (widL row g) (.slice (some ⟨w.heap.size, 0, none⟩) k k) := ⟨w.heap.size, by rw [H.out.2.2.2.2.2.2.2.2], Nat.le_refl _, by rw [← H.out.2.2.2.2.2.2.2.1]; exact hc⟩
      have HF := Lib.hid (And.intro hb hf)
      clear hb hf hc
      go_wp2_with fail
      go_ret
      exact ⟨HF.out.1, _, rfl, HF.out.2⟩
end Go.Proofs.YtmldgfplnacecaaDoor
