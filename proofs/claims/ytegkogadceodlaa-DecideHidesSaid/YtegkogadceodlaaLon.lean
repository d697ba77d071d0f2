/-
  Contracts: expr.Longest, Shortest, Has; rule.fault.
-/
import Derived.Test.YtegkogadceodlaaHol
namespace Go.Proofs.Ytegkogadceodlaa
open Go.RowKit Go.Shelf Go.Lib

/-- What Longest hands back. -/
def longR (e : E) : Bool × Nat := if rightE e && noneE [6, 7] e then (true, lgE e) else (false, 0)
theorem is2 (W : World) : IS (W.alloc (.cells #[.int .i64 6, .int .i64 7] 3)) (W.alloc (.cells #[.int .i64 6, .int .i64 7] 3)).heap.size [6, 7] (some ⟨W.heap.size, 0, none⟩) 2 :=
  ⟨by simp, by unfold maxLen; omega, fun x hx => by unfold i64; simp at hx; omega, fun _ => ⟨_, _, rfl, by simp, fun i x hx => by
    match i, hx with
    | 0, hx => simp at hx; subst hx; simp
    | 1, hx => simp at hx; subst hx; simp
    | i + 2, hx => simp at hx⟩⟩
theorem is1 (W : World) (k : Int) (hk : i64 k) : IS (W.alloc (.cells #[.int .i64 k] 3)) (W.alloc (.cells #[.int .i64 k] 3)).heap.size [k] (some ⟨W.heap.size, 0, none⟩) 1 :=
  ⟨by simp, by unfold maxLen; omega, fun x hx => by rw [List.mem_singleton.1 hx]; exact hk, fun _ => ⟨_, _, rfl, by simp, fun i x hx => by
    match i, hx with
    | 0, hx => simp at hx; subst hx; simp
    | i + 1, hx => simp at hx⟩⟩
/-- A node's box. -/
theorem node_box {w : World} {e : E} {A : Option Addr} {cap : Nat} {W0 : World} (hW : w.alloc (.cells #[.int .i64 e.k, .int .i64 e.c, .slice A e.ks.length cap] 33) = W0) :
    Below w.heap.size w W0 ∧ Cells W0 w.heap.size 33 #[.int .i64 e.k, .int .i64 e.c, .slice A e.ks.length cap] := by
  rw [← hW]; exact ⟨below_new _ _, World.alloc_heap_new _ _⟩
theorem cells_below {W W' : World} {g t : Nat} {cs : Array Value} (h : Cells W g t cs) (hb : Below W.heap.size W W') : Cells W' g t cs := (hb.block g h.lt).trans h

set_option maxHeartbeats 4000000 in
theorem longestR_any (e : E) (v : Value) (w : World) (h : Nd w w.heap.size e v) :
    Calls Try.prog 18 #[v] w fun r w' => r = .returned (.tuple #[.int .i64 ((longR e).2 : Nat), .bool (longR e).1]) ∧ Below w.heap.size w w' := by
  obtain ⟨_, _, A, cap, rfl, hk⟩ := Nd_iff.1 h
  obtain ⟨W0, hW0⟩ : ∃ W0, w.alloc (.cells #[.int .i64 e.k, .int .i64 e.c, .slice A e.ks.length cap] 33) = W0 := ⟨_, rfl⟩
  obtain ⟨hb0, hbx⟩ := node_box hW0
  have hN0 := h.on hb0
  have C := Lib.hid (right_any e _ W0 hN0)
  have C2 := fun W (hb : Below W0.heap.size W0 W) => holds_any [6, 7] e _ (some ⟨W.heap.size, 0, none⟩) 2 _ ((hN0.on hb).on (below_new W (.cells #[.int .i64 6, .int .i64 7] 3))) (is2 W)
  have C2 := Lib.hid C2
  have C3 := Lib.hid (fun (hsz : szE e ≤ 100000) W (hb : Below W0.heap.size W0 W) => longest_any _ e (Nat.le_refl _) hsz _ W (hN0.on hb))
  have HSZ := Lib.hid (@right_size e)
  have hL : longR e = if rightE e && noneE [6, 7] e then (true, lgE e) else (false, 0) := rfl
  obtain ⟨L, hLL⟩ : ∃ L, longR e = L := ⟨_, rfl⟩
  rw [hLL] at hL ⊢
  have HW := Lib.hid hW0
  have HB := Lib.hid (And.intro hb0 hbx)
  generalize rightE e = rb at *
  generalize noneE [6, 7] e = nb at *
  generalize lgE e = lg at *
  have q0 := hbx.cell 0
  have q1 := hbx.cell 1
  have q2 := hbx.cell 2
  simp only [List.getElem?_toArray, List.getElem?_cons_zero, List.getElem?_cons_succ] at q0 q1 q2
  generalize e.k = kk at *
  generalize e.c = cc at *
  generalize e.ks.length = n at *
  clear hk h hN0 hW0 hb0 hbx hLL
  cases rb
  · obtain rfl : L = (false, 0) := hL
    go_enter Try.func18, Try.ntmps18
    go_wp2_with fail
    rw [HW.out]
    refine C.out.mono ?_
    rintro r w1 ⟨rfl, hb⟩
    have HZ := Lib.hid (HB.out.1.trans (hb.mono HB.out.1.size))
    clear hb
    go_wp2
    go_ret2
    exact ⟨rfl, HZ.out⟩
  · have hsz := HSZ.out rfl
    have HLL := Lib.hid hL
    clear hL
    go_enter Try.func18, Try.ntmps18
    go_wp2_with fail
    rw [HW.out]
    refine C.out.mono ?_
    rintro r w1 ⟨rfl, hb⟩
    have d := cells_below HB.out.2 hb
    have d0 := d.cell 0
    have d1 := d.cell 1
    have d2 := d.cell 2
    simp only [List.getElem?_toArray, List.getElem?_cons_zero, List.getElem?_cons_succ] at d0 d1 d2
    have D2 := Lib.hid (C2.out w1 hb)
    have HB1 := Lib.hid hb
    have HD := Lib.hid d
    simp only [List.length_cons, List.length_nil] at D2
    have HSZ2 := Lib.hid hsz
    clear hb d hsz q0 q1 q2
    go_wp2_with fail
    refine D2.out.mono ?_
    rintro r w2 ⟨rfl, hb2⟩
    have hb3 := (below_new w1 (.cells #[.int .i64 6, .int .i64 7] 3)).trans (hb2.mono (by simp))
    have d' := cells_below HD.out hb3
    have f0 := d'.cell 0
    have f1 := d'.cell 1
    have f2 := d'.cell 2
    simp only [List.getElem?_toArray, List.getElem?_cons_zero, List.getElem?_cons_succ] at f0 f1 f2
    have hb4 := HB1.out.trans (hb3.mono HB1.out.size)
    have D3 := Lib.hid (C3.out (by have := HSZ2.out; omega) w2 hb4)
    have HB4 := Lib.hid hb4
    clear hb2 hb3 hb4 d' d0 d1 d2
    have hL := HLL.out
    clear HLL
    cases nb
    · obtain rfl : L = (false, 0) := hL
      go_wp2
      go_ret2
      exact ⟨rfl, HB.out.1.trans (HB4.out.mono HB.out.1.size)⟩
    · obtain rfl : L = (true, lg) := hL
      go_wp2_with fail
      refine D3.out.mono ?_
      rintro r w3 ⟨rfl, hb5⟩
      have hb6 := HB4.out.trans (hb5.mono HB4.out.size)
      have HZ := Lib.hid (HB.out.1.trans (hb6.mono HB.out.1.size))
      clear hb5 hb6
      go_wp2
      go_ret2
      exact ⟨rfl, HZ.out⟩
end Go.Proofs.Ytegkogadceodlaa
