/-
  Contracts: the document's Known, Class, in; decide.class.
-/
import Derived.Test.YtegkogadceodlaaRtr
namespace Go.Proofs.Ytegkogadceodlaa
open Go.RowKit Go.Shelf Go.Lib

/-- A number's class. -/
def clsI (n : Int) : Int := if n < 0 ∨ 35 < n then 0 else n
theorem refClass_any (n : Int) (w : World) : Calls Try.prog 52 #[.int .i64 n] w fun r w' => r = .returned (.int .i64 (clsI n)) ∧ w' = w := by
  obtain ⟨R, hR⟩ : ∃ R, clsI n = R := ⟨_, rfl⟩
  rw [hR]
  by_cases h0 : n < 0
  · obtain rfl : R = 0 := by rw [← hR]; unfold clsI; rw [if_pos (.inl h0)]
    clear hR
    go_enter Try.func52, Try.ntmps52
    go_wp2
    go_ret
    exact ⟨rfl, rfl⟩
  · have h0' : decide (n < 0) = false := by simp; omega
    by_cases h1 : 35 < n
    · obtain rfl : R = 0 := by rw [← hR]; unfold clsI; rw [if_pos (.inr h1)]
      clear hR
      go_enter Try.func52, Try.ntmps52
      go_wp2
      go_ret
      exact ⟨rfl, rfl⟩
    · have h1' : decide (35 < n) = false := by simp; omega
      obtain rfl : R = n := by rw [← hR]; unfold clsI; rw [if_neg (by omega)]
      clear hR
      go_enter Try.func52, Try.ntmps52
      go_wp2
      go_ret
      exact ⟨rfl, rfl⟩
theorem class_any (n : Int) (w : World) : Calls Try.prog 78 #[.int .i64 n] w fun r w' => r = .returned (.int .i64 (clsI n)) ∧ w' = w := by
  obtain ⟨R, hR⟩ : ∃ R, clsI n = R := ⟨_, rfl⟩
  rw [hR]
  by_cases h0 : n < 0
  · obtain rfl : R = 0 := by rw [← hR]; unfold clsI; rw [if_pos (.inl h0)]
    clear hR
    go_enter Try.func78, Try.ntmps78
    go_wp2
    go_ret
    exact ⟨rfl, rfl⟩
  · have h0' : decide (n < 0) = false := by simp; omega
    by_cases h1 : 36 ≤ n
    · obtain rfl : R = 0 := by rw [← hR]; unfold clsI; rw [if_pos (.inr (by omega))]
      clear hR
      go_enter Try.func78, Try.ntmps78
      go_wp2
      go_ret
      exact ⟨rfl, rfl⟩
    · have h1' : decide (36 ≤ n) = false := by simp; omega
      obtain rfl : R = n := by rw [← hR]; unfold clsI; rw [if_neg (by omega)]
      clear hR
      go_enter Try.func78, Try.ntmps78
      go_wp2
      go_ret
      exact ⟨rfl, rfl⟩

set_option maxHeartbeats 2000000 in
theorem in_any (xs : List Int) (v : Int) (A : Option Addr) (cap : Nat) (w : World) (h : IS w w.heap.size xs A cap) :
    Calls Try.prog 53 #[.slice A xs.length cap, .int .i64 v] w fun r w' => r = .returned (.bool (xs.contains v)) ∧ w' = w := by
  have hl := h.len
  obtain ⟨R, hR⟩ : ∃ R, xs.contains v = R := ⟨_, rfl⟩
  obtain ⟨n, hn⟩ : ∃ n, xs.length = n := ⟨_, rfl⟩
  rw [hn] at hl ⊢
  rw [hR]
  have HR := Lib.hid hR
  have HK := Lib.hid h
  have HN := Lib.hid hn
  clear h hn hR
  go_enter Try.func53, Try.ntmps53
  go_wp2_with fail
  go_loopw [5] (fun i wr => ∃ k : Nat, i = .int .i64 k ∧ k ≤ n ∧ v ∉ xs.take k ∧ wr = w) (fun i _ => n - (RowKit.intOf i).toNat)
  case atStart => exact ⟨0, rfl, Nat.zero_le _, by simp, rfl⟩
  case round =>
    obtain ⟨k, rfl, hkn, hno, rfl⟩ := hrel
    by_cases hlt : k < n
    · obtain ⟨x, hx⟩ : ∃ x, xs[k]? = some x := ⟨xs[k]'(by rw [HN.out]; exact hlt), List.getElem?_eq_getElem _⟩
      have i1 : (k : Int) < (n : Int) := by omega
      obtain ⟨b, o, rfl, hbl, hr⟩ := HK.out.r (by rintro rfl; simp at hx)
      have d0 := hr k x hx
      by_cases hv : v = x
      · subst hv
        have hm := List.mem_of_getElem? hx
        obtain rfl : R = true := by rw [← HR.out]; simpa using hm
        clear hr hno hx hm
        go_wp2
        go_ret
        exact ⟨rfl, rfl⟩
      · have q1 : (x == v) = false := by simpa using fun e => hv e.symm
        have hno' : v ∉ xs.take (k + 1) := by rw [List.take_add_one, hx]; simp [hno, hv]
        have HZ := Lib.hid hno'
        clear hr hno hno' hx hv
        go_wp2
        go_roundw
        case rel => exact ⟨k + 1, by go_num, by omega, HZ.out, trivial⟩
        case measure => simp [RowKit.intOf]; omega
    · have hkn : k = n := by omega
      subst hkn
      have i1 : ¬ (k : Int) < (k : Int) := by omega
      have ht : xs.take k = xs := by rw [← HN.out, List.take_length]
      rw [ht] at hno
      obtain rfl : R = false := by rw [← HR.out]; simpa using hno
      clear hno ht
      go_wp2
      go_ret
      exact ⟨rfl, rfl⟩

theorem cells_frozen {W : World} {g t : Nat} {cs : Array Value} (h : Cells W g t cs) (i : Nat) : W.frozen? ⟨g, i, none⟩ = false := by
  simp [World.frozen?, show W.heap[g]? = _ from h]
/-- A meaning, or none. -/
def knownT (t : Tx) : Tx := if rightT t then t else ⟨[], [], []⟩
theorem tx_none (w : World) : TxV w w.heap.size ⟨[], [], []⟩ (.agg #[.slice none 0 0, .slice none 0 0, .slice none 0 0]) :=
  ⟨none, 0, none, 0, none, 0, rfl, ⟨Nat.le_refl _, by unfold maxLen; omega, fun x hx => by simp at hx, fun h => absurd rfl h⟩, ⟨Nat.le_refl _, by unfold maxLen; omega, fun x hx => by simp at hx, fun h => absurd rfl h⟩, ⟨Nat.le_refl _, by unfold maxLen; omega, fun h => absurd rfl h⟩⟩
set_option maxHeartbeats 4000000 in
theorem known_any (t : Tx) (v : Value) (w : World) (h : TxV w w.heap.size t v) :
    Calls Try.prog 30 #[v] w fun r w' => (∃ v', r = .returned v' ∧ TxV w' w'.heap.size (knownT t) v') ∧ Below w.heap.size w w' := by
  have h' := h
  obtain ⟨A1, c1, A2, c2, A3, c3, rfl, _, _, _⟩ := h'
  obtain ⟨W0, hW0⟩ : ∃ W0, (w.alloc (.cells #[.slice A1 t.ig.length c1, .slice A2 t.kp.length c2, .slice A3 t.rs.length c3] 50)).alloc (.cells #[.slice none 0 0, .slice none 0 0, .slice none 0 0] 50) = W0 := ⟨_, rfl⟩
  have hb0 : Below w.heap.size w W0 := by rw [← hW0]; exact ((Below.refl _ w).alloc (Nat.le_refl _) _).alloc (by simp) _
  have hx1 : Cells W0 w.heap.size 50 #[.slice A1 t.ig.length c1, .slice A2 t.kp.length c2, .slice A3 t.rs.length c3] := by
    rw [← hW0]; exact (Below.heap_alloc _ _ _ (by simp)).trans (World.alloc_heap_new _ _)
  have hx2 : Cells W0 (w.heap.size + 1) 50 #[.slice none 0 0, .slice none 0 0, .slice none 0 0] := by
    rw [← hW0]
    have := World.alloc_heap_new (w.alloc (.cells #[.slice A1 t.ig.length c1, .slice A2 t.kp.length c2, .slice A3 t.rs.length c3] 50)) (.cells #[.slice none 0 0, .slice none 0 0, .slice none 0 0] 50)
    rw [World.size_alloc] at this
    exact this
  have C := Lib.hid (refRightT_any t _ W0 (h.on hb0))
  have HW := Lib.hid hW0
  have HH := Lib.hid (And.intro h (And.intro hb0 (And.intro hx1 hx2)))
  have hR : knownT t = if rightT t then t else ⟨[], [], []⟩ := rfl
  have HR := Lib.hid hR
  generalize rightT t = b at *
  generalize t.ig.length = n1 at *
  generalize t.kp.length = n2 at *
  generalize t.rs.length = n3 at *
  clear h hW0 hb0 hR hx1 hx2
  go_enter Try.func30, Try.ntmps30
  go_wp2_with fail
  rw [HW.out]
  refine C.out.mono ?_
  rintro r w1 ⟨rfl, hb⟩
  have d := cells_below HH.out.2.2.1 hb
  have d' := cells_below HH.out.2.2.2 hb
  have x0 := d.cell 0
  have x1 := d.cell 1
  have x2 := d.cell 2
  have y0 := d'.cell 0
  have y1 := d'.cell 1
  have y2 := d'.cell 2
  simp only [List.getElem?_toArray, List.getElem?_cons_zero, List.getElem?_cons_succ] at x0 x1 x2 y0 y1 y2
  have z0 := cells_frozen d' 0
  have z1 := cells_frozen d' 1
  have z2 := cells_frozen d' 2
  have hbz := HH.out.2.1.trans (hb.mono HH.out.2.1.size)
  have HB := Lib.hid hbz
  clear hb d d' hbz
  cases b
  · have hk : knownT t = ⟨[], [], []⟩ := HR.out
    have HK := Lib.hid hk
    clear hk
    go_wp2
    have q0 := World.cell?_setCell_same' w1 ⟨w.heap.size + 1, 0, none⟩ (.slice none 0 0) (by rw [y0]; rfl)
    obtain ⟨F, hF⟩ : ∃ F, ((w1.setCell ⟨w.heap.size + 1, 0, none⟩ (.slice none 0 0)).setCell ⟨w.heap.size + 1, 1, none⟩ (.slice none 0 0)).setCell ⟨w.heap.size + 1, 2, none⟩ (.slice none 0 0) = F := ⟨_, rfl⟩
    have e0 : F.cell? ⟨w.heap.size + 1, 0, none⟩ = some (.slice none 0 0) := by rw [← hF, World.cell?_setCell_other _ _ _ _ (by simp), World.cell?_setCell_other _ _ _ _ (by simp)]; exact q0
    have e1 : F.cell? ⟨w.heap.size + 1, 1, none⟩ = some (.slice none 0 0) := by
      rw [← hF, World.cell?_setCell_other _ _ _ _ (by simp)]
      exact World.cell?_setCell_same' _ _ _ (by rw [World.cell?_setCell_other _ _ _ _ (by simp), y1]; rfl)
    have e2 : F.cell? ⟨w.heap.size + 1, 2, none⟩ = some (.slice none 0 0) := by
      rw [← hF]
      exact World.cell?_setCell_same' _ _ _ (by rw [World.cell?_setCell_other _ _ _ _ (by simp), World.cell?_setCell_other _ _ _ _ (by simp), y2]; rfl)
    have hbF : Below w.heap.size w F := by
      rw [← hF]
      exact ((HB.out.setCell (p := ⟨w.heap.size + 1, 0, none⟩) (by simp) _).setCell (p := ⟨w.heap.size + 1, 1, none⟩) (by simp) _).setCell (p := ⟨w.heap.size + 1, 2, none⟩) (by simp) _
    rw [hF]
    refine bodyPost_ret (v := .agg #[.slice none 0 0, .slice none 0 0, .slice none 0 0]) (by simp [results, Try.f30, go_sem, e0, e1, e2]) rfl ?_
    refine ⟨⟨_, rfl, ?_⟩, hbF⟩
    rw [HK.out]
    exact tx_none F
  · have hk : knownT t = t := HR.out
    have HK := Lib.hid hk
    clear hk
    go_wp2
    have q0 := World.cell?_setCell_same' w1 ⟨w.heap.size + 1, 0, none⟩ (.slice A1 n1 c1) (by rw [y0]; rfl)
    obtain ⟨F, hF⟩ : ∃ F, ((w1.setCell ⟨w.heap.size + 1, 0, none⟩ (.slice A1 n1 c1)).setCell ⟨w.heap.size + 1, 1, none⟩ (.slice A2 n2 c2)).setCell ⟨w.heap.size + 1, 2, none⟩ (.slice A3 n3 c3) = F := ⟨_, rfl⟩
    have e0 : F.cell? ⟨w.heap.size + 1, 0, none⟩ = some (.slice A1 n1 c1) := by rw [← hF, World.cell?_setCell_other _ _ _ _ (by simp), World.cell?_setCell_other _ _ _ _ (by simp)]; exact q0
    have e1 : F.cell? ⟨w.heap.size + 1, 1, none⟩ = some (.slice A2 n2 c2) := by
      rw [← hF, World.cell?_setCell_other _ _ _ _ (by simp)]
      exact World.cell?_setCell_same' _ _ _ (by rw [World.cell?_setCell_other _ _ _ _ (by simp), y1]; rfl)
    have e2 : F.cell? ⟨w.heap.size + 1, 2, none⟩ = some (.slice A3 n3 c3) := by
      rw [← hF]
      exact World.cell?_setCell_same' _ _ _ (by rw [World.cell?_setCell_other _ _ _ _ (by simp), World.cell?_setCell_other _ _ _ _ (by simp), y2]; rfl)
    have hbF : Below w.heap.size w F := by
      rw [← hF]
      exact ((HB.out.setCell (p := ⟨w.heap.size + 1, 0, none⟩) (by simp) _).setCell (p := ⟨w.heap.size + 1, 1, none⟩) (by simp) _).setCell (p := ⟨w.heap.size + 1, 2, none⟩) (by simp) _
    rw [hF]
    refine bodyPost_ret (v := .agg #[.slice A1 n1 c1, .slice A2 n2 c2, .slice A3 n3 c3]) (by simp [results, Try.f30, go_sem, e0, e1, e2]) rfl ?_
    refine ⟨⟨_, rfl, ?_⟩, hbF⟩
    rw [HK.out]
    exact HH.out.1.on hbF
end Go.Proofs.Ytegkogadceodlaa
