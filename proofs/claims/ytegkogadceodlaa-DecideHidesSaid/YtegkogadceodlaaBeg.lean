/-
  Contracts: a side that is one leaf: begins, closes and what they call.
-/
import Derived.BigQuiet
import Derived.Lib.QuietBelow
import Derived.Test.YtegkogadceodlaaMlf
import Derived.Test.YtegkogadceodlaaRdd
namespace Go.Proofs.Ytegkogadceodlaa
open Go.RowKit Go.Shelf Go.Lib Go.Sort

/-- A side that is one leaf. -/
def sd1 (k c : Int) (A : Option Addr) (cap : Nat) : Array Value := #[.int .i64 k, .int .i64 c, .slice A 0 cap, .int .i64 1, .int .i64 1, .bool true]
structure LeafOk (w : World) (k c : Int) (A : Option Addr) (cap : Nat) : Prop where
  h0 : 0 ≤ k
  h3 : k ≤ 3
  n : Nd w w.heap.size (.mk k c []) (.agg #[.int .i64 k, .int .i64 c, .slice A 0 cap])
  r : rightE (.mk k c []) = true
theorem LeafOk.on {w w' : World} {k c : Int} {A : Option Addr} {cap : Nat} (h : LeafOk w k c A cap) (hb : Below w.heap.size w w') : LeafOk w' k c A cap := ⟨h.h0, h.h3, h.n.on hb, h.r⟩
set_option maxRecDepth 100000 in
set_option maxHeartbeats 8000000 in
theorem beg1_any (k c m : Int) (A : Option Addr) (cap s mb g o n cp : Nat) (w : World) (hl : LeafOk w k c A cap) (hs : Cells w s 131 (sd1 k c A cap)) (hmb : Cells w mb 25 #[.slice (some ⟨g, o, none⟩) n cp]) (hn : 1 ≤ n) (hc : n ≤ cp)
    (hm : w.cell? ⟨g, o, none⟩ = some (.int .i64 m)) :
    Calls Try.prog 101 #[.int .i64 1, .pointer (some ⟨s, 0, none⟩), .pointer (some ⟨mb, 0, none⟩)] w fun e w' => e = .returned (.bool (takesG k c m)) ∧ Below w.heap.size w w' := by
  have C1 : ∀ d os, Calls Try.prog 15 #[.agg #[.int .i64 k, .int .i64 c, .slice A 0 cap], .slice (some ⟨g, o, none⟩) 1 cp] (grow (redrawn w d) os) fun e w'' => e = .returned (.bool (takesG k c m)) ∧ ∃ p : Regrown, w'' = grow (redrawn w p.d) p.os :=
    fun d os => Calls.regrown_of (by
      have hl' := hl.on (below_regrown w d os)
      exact matchLeaf_any k c m A cap g o cp _ hl'.h0 hl'.h3 hl'.n hl'.r (cell_regrown hm d os))
  have s0 := cell_regrown (show w.cell? ⟨s, 0, none⟩ = some (.int .i64 k) from hs.cell 0)
  have s1 := cell_regrown (show w.cell? ⟨s, 1, none⟩ = some (.int .i64 c) from hs.cell 1)
  have s2 := cell_regrown (show w.cell? ⟨s, 2, none⟩ = some (.slice A 0 cap) from hs.cell 2)
  have q0 := cell_regrown (show w.cell? ⟨mb, 0, none⟩ = some (.slice (some ⟨g, o, none⟩) n cp) from hmb.cell 0)
  have i1 : (1 : Int) ≤ (cp : Int) := by omega
  obtain ⟨R, hR⟩ : ∃ R, takesG k c m = R := ⟨_, rfl⟩
  rw [hR] at C1 ⊢
  clear hs hmb hm hl hR
  go_enter Try.func101, Try.ntmps101
  go_wp2_with fail
  refine wp_region_quiet_below (by kernel_rfl) (by kernel_rfl) ?_
  repeat (go_big_quiet_step (exact C1 _ _))
  refine wpQuiet_nil ?_
  intro _ hw'
  obtain ⟨⟨dq, osq⟩, hw''⟩ := hw'
  subst hw''
  have HZ := Lib.hid (below_regrown w dq osq)
  clear s0 s1 s2 q0 C1
  go_wp2_with fail
  go_ret
  exact ⟨rfl, HZ.out⟩
set_option maxRecDepth 100000 in
set_option maxHeartbeats 8000000 in
theorem clo1_any (k c m : Int) (A : Option Addr) (cap s mb g o q cp : Nat) (w : World) (hl : LeafOk w k c A cap) (hs : Cells w s 131 (sd1 k c A cap)) (hmb : Cells w mb 25 #[.slice (some ⟨g, o, none⟩) (q + 1) cp]) (hc : q + 1 ≤ cp) (hq : q ≤ 1000000)
    (hm : w.cell? ⟨g, o + q, none⟩ = some (.int .i64 m)) :
    Calls Try.prog 102 #[.int .i64 1, .pointer (some ⟨s, 0, none⟩), .pointer (some ⟨mb, 0, none⟩)] w fun e w' => e = .returned (.bool (takesG k c m)) ∧ Below w.heap.size w w' := by
  have C1 : ∀ d os, Calls Try.prog 15 #[.agg #[.int .i64 k, .int .i64 c, .slice A 0 cap], .slice (some ⟨g, o + q, none⟩) 1 (cp - q)] (grow (redrawn w d) os) fun e w'' => e = .returned (.bool (takesG k c m)) ∧ ∃ p : Regrown, w'' = grow (redrawn w p.d) p.os :=
    fun d os => Calls.regrown_of (by
      have hl' := hl.on (below_regrown w d os)
      exact matchLeaf_any k c m A cap g (o + q) (cp - q) _ hl'.h0 hl'.h3 hl'.n hl'.r (cell_regrown hm d os))
  have s0 := cell_regrown (show w.cell? ⟨s, 0, none⟩ = some (.int .i64 k) from hs.cell 0)
  have s1 := cell_regrown (show w.cell? ⟨s, 1, none⟩ = some (.int .i64 c) from hs.cell 1)
  have s2 := cell_regrown (show w.cell? ⟨s, 2, none⟩ = some (.slice A 0 cap) from hs.cell 2)
  obtain ⟨n, hn⟩ : ∃ n, q + 1 = n := ⟨_, rfl⟩
  rw [hn] at hmb hc
  have q0 := cell_regrown (show w.cell? ⟨mb, 0, none⟩ = some (.slice (some ⟨g, o, none⟩) n cp) from hmb.cell 0)
  have i1 : (n : Int) - 1 = (q : Int) := by omega
  have i2 : (q : Int) ≤ (n : Int) := by omega
  have i3 : n - q = 1 := by omega
  have i4 : (n : Int) ≤ (cp : Int) := by omega
  obtain ⟨R, hR⟩ : ∃ R, takesG k c m = R := ⟨_, rfl⟩
  rw [hR] at C1 ⊢
  clear hs hmb hm hl hR
  go_enter Try.func102, Try.ntmps102
  go_wp2_with fail
  refine wp_region_quiet_below (by kernel_rfl) (by kernel_rfl) ?_
  repeat (go_big_quiet_step (first | exact C1 _ _ | (rw [i3]; exact C1 _ _)))
  refine wpQuiet_nil ?_
  intro _ hw'
  obtain ⟨⟨dq, osq⟩, hw''⟩ := hw'
  subst hw''
  have HZ := Lib.hid (below_regrown w dq osq)
  clear s0 s1 s2 q0 C1
  go_wp2_with fail
  go_ret
  exact ⟨rfl, HZ.out⟩
set_option maxRecDepth 100000 in
set_option maxHeartbeats 8000000 in
theorem search101_any (k c : Int) (A : Option Addr) (cap n : Nat) (p1 p2 : Addr) (R : Bool) (w : World) (hn : 1 ≤ n)
    (CF : ∀ W, Below w.heap.size w W → Calls Try.prog 101 #[.int .i64 1, .pointer (some p1), .pointer (some p2)] W fun e w' => e = .returned (.bool R) ∧ Below W.heap.size W w') :
    Calls Try.prog 100 #[.agg (sd1 k c A cap), .int .i64 (n : Int), .func (.func 101) #[] #[.pointer (some p1), .pointer (some p2)]] w fun e w' => e = .returned (.bool R) ∧ Below w.heap.size w w' := by
  unfold sd1
  obtain ⟨W1, hW1⟩ : ∃ V, w.alloc (.cells #[.int .i64 k, .int .i64 c, .slice A 0 cap, .int .i64 1, .int .i64 1, .bool true] 131) = V := ⟨_, rfl⟩
  have b1 : Below w.heap.size w W1 := by rw [← hW1]; exact below_new _ _
  have x1 : Cells W1 w.heap.size 131 #[.int .i64 k, .int .i64 c, .slice A 0 cap, .int .i64 1, .int .i64 1, .bool true] := by rw [← hW1]; exact cells_new _ _ _
  have hmin : min (n : Int) 1 = 1 := by omega
  have hmin2 : min n 1 = 1 := by omega
  have HW := Lib.hid (And.intro hW1 (And.intro b1 (And.intro x1 CF)))
  clear hW1 b1 x1 CF
  go_enter Try.func100, Try.ntmps100
  go_wp2_with fail
  rw [HW.out.1]
  go_loopw [7] (fun i wr => ((i = .int .i64 1) ∨ (i = .int .i64 2 ∧ R = false)) ∧ Below w.heap.size w wr) (fun i _ => 3 - (RowKit.intOf i).toNat)
  case atStart => exact ⟨.inl rfl, HW.out.2.1⟩
  case round =>
    obtain ⟨hi, hb⟩ := hrel
    rcases hi with rfl | ⟨rfl, rfl⟩
    · have C := HW.out.2.2.2 wr hb
      have HB := Lib.hid hb
      clear hb
      go_wp2_with fail
      refine C.mono ?_
      rintro r w2 ⟨rfl, hb2⟩
      have HB2 := Lib.hid (HB.out.trans (hb2.mono HB.out.size))
      clear C hb2
      cases R with
      | true =>
        go_wp2_with fail
        go_ret
        exact ⟨rfl, HB2.out⟩
      | false =>
        go_wp2_with fail
        go_roundw
        case rel => exact ⟨.inr ⟨by simp, by trivial⟩, HB2.out⟩
        case measure => simp [RowKit.intOf]
    · have HB := Lib.hid hb
      clear hb
      go_wp2_with fail
      go_ret
      exact ⟨rfl, HB.out⟩
set_option maxRecDepth 100000 in
set_option maxHeartbeats 8000000 in
theorem search102_any (k c : Int) (A : Option Addr) (cap n : Nat) (p1 p2 : Addr) (R : Bool) (w : World) (hn : 1 ≤ n)
    (CF : ∀ W, Below w.heap.size w W → Calls Try.prog 102 #[.int .i64 1, .pointer (some p1), .pointer (some p2)] W fun e w' => e = .returned (.bool R) ∧ Below W.heap.size W w') :
    Calls Try.prog 100 #[.agg (sd1 k c A cap), .int .i64 (n : Int), .func (.func 102) #[] #[.pointer (some p1), .pointer (some p2)]] w fun e w' => e = .returned (.bool R) ∧ Below w.heap.size w w' := by
  unfold sd1
  obtain ⟨W1, hW1⟩ : ∃ V, w.alloc (.cells #[.int .i64 k, .int .i64 c, .slice A 0 cap, .int .i64 1, .int .i64 1, .bool true] 131) = V := ⟨_, rfl⟩
  have b1 : Below w.heap.size w W1 := by rw [← hW1]; exact below_new _ _
  have x1 : Cells W1 w.heap.size 131 #[.int .i64 k, .int .i64 c, .slice A 0 cap, .int .i64 1, .int .i64 1, .bool true] := by rw [← hW1]; exact cells_new _ _ _
  have hmin : min (n : Int) 1 = 1 := by omega
  have hmin2 : min n 1 = 1 := by omega
  have HW := Lib.hid (And.intro hW1 (And.intro b1 (And.intro x1 CF)))
  clear hW1 b1 x1 CF
  go_enter Try.func100, Try.ntmps100
  go_wp2_with fail
  rw [HW.out.1]
  go_loopw [7] (fun i wr => ((i = .int .i64 1) ∨ (i = .int .i64 2 ∧ R = false)) ∧ Below w.heap.size w wr) (fun i _ => 3 - (RowKit.intOf i).toNat)
  case atStart => exact ⟨.inl rfl, HW.out.2.1⟩
  case round =>
    obtain ⟨hi, hb⟩ := hrel
    rcases hi with rfl | ⟨rfl, rfl⟩
    · have C := HW.out.2.2.2 wr hb
      have HB := Lib.hid hb
      clear hb
      go_wp2_with fail
      refine C.mono ?_
      rintro r w2 ⟨rfl, hb2⟩
      have HB2 := Lib.hid (HB.out.trans (hb2.mono HB.out.size))
      clear C hb2
      cases R with
      | true =>
        go_wp2_with fail
        go_ret
        exact ⟨rfl, HB2.out⟩
      | false =>
        go_wp2_with fail
        go_roundw
        case rel => exact ⟨.inr ⟨by simp, by trivial⟩, HB2.out⟩
        case measure => simp [RowKit.intOf]
    · have HB := Lib.hid hb
      clear hb
      go_wp2_with fail
      go_ret
      exact ⟨rfl, HB.out⟩
set_option maxRecDepth 100000 in
set_option maxHeartbeats 8000000 in
theorem begins_any (k c m : Int) (A : Option Addr) (cap g o q cp : Nat) (w : World) (hl : LeafOk w k c A cap) (hc : q + 1 ≤ cp) (hq : q ≤ 1000000) (hm : w.cell? ⟨g, o, none⟩ = some (.int .i64 m)) :
    Calls Try.prog 83 #[.agg (sd1 k c A cap), .slice (some ⟨g, o, none⟩) (q + 1) cp] w fun e w' => e = .returned (.bool (takesG k c m)) ∧ Below w.heap.size w w' := by
  obtain ⟨W1, hW1⟩ : ∃ V, (w.alloc (.cells (sd1 k c A cap) 131)).alloc (.cells #[.slice (some ⟨g, o, none⟩) (q + 1) cp] 25) = V := ⟨_, rfl⟩
  have b1 : Below w.heap.size w W1 := by rw [← hW1]; exact ((Below.refl _ w).alloc (Nat.le_refl _) _).alloc (by simp) _
  have x1 : Cells W1 w.heap.size 131 (sd1 k c A cap) := by rw [← hW1]; exact (Below.heap_alloc _ _ _ (by simp)).trans (World.alloc_heap_new _ _)
  have x2 : Cells W1 (w.heap.size + 1) 25 #[.slice (some ⟨g, o, none⟩) (q + 1) cp] := by
    rw [← hW1]
    have := World.alloc_heap_new (w.alloc (.cells (sd1 k c A cap) 131)) (.cells #[.slice (some ⟨g, o, none⟩) (q + 1) cp] 25)
    rw [World.size_alloc] at this
    exact this
  have CS := search101_any k c A cap (q + 1) ⟨w.heap.size, 0, none⟩ ⟨w.heap.size + 1, 0, none⟩ (takesG k c m) W1 (by omega) (fun W hW => beg1_any k c m A cap w.heap.size (w.heap.size + 1) g o (q + 1) cp W ((hl.on b1).on hW) (x1.on hW) (x2.on hW) (by omega) hc (((hW.cell (p := ⟨g, o, none⟩) (by have := cell_lt hm; have := b1.size; simp at *; omega)).trans ((b1.cell (p := ⟨g, o, none⟩) (cell_lt hm)).trans hm))))
  obtain ⟨R, hR⟩ : ∃ R, takesG k c m = R := ⟨_, rfl⟩
  rw [hR] at CS ⊢
  obtain ⟨n, hn⟩ : ∃ n, q + 1 = n := ⟨_, rfl⟩
  rw [hn] at CS hW1 ⊢
  unfold sd1 at CS hW1 ⊢
  have HB := Lib.hid (And.intro b1 hW1)
  clear x1 x2 b1 hl hm hR hW1
  go_enter Try.func83, Try.ntmps83
  go_wp2_with fail
  rw [HB.out.2]
  refine CS.mono ?_
  rintro r w2 ⟨rfl, hb2⟩
  have HB2 := Lib.hid (HB.out.1.trans (hb2.mono HB.out.1.size))
  clear CS hb2
  go_wp2_with fail
  go_ret
  exact ⟨rfl, HB2.out⟩
set_option maxRecDepth 100000 in
set_option maxHeartbeats 8000000 in
theorem closes_any (k c m : Int) (A : Option Addr) (cap g o q cp : Nat) (w : World) (hl : LeafOk w k c A cap) (hc : q + 1 ≤ cp) (hq : q ≤ 1000000) (hm : w.cell? ⟨g, o + q, none⟩ = some (.int .i64 m)) :
    Calls Try.prog 84 #[.agg (sd1 k c A cap), .slice (some ⟨g, o, none⟩) (q + 1) cp] w fun e w' => e = .returned (.bool (takesG k c m)) ∧ Below w.heap.size w w' := by
  obtain ⟨W1, hW1⟩ : ∃ V, (w.alloc (.cells (sd1 k c A cap) 131)).alloc (.cells #[.slice (some ⟨g, o, none⟩) (q + 1) cp] 25) = V := ⟨_, rfl⟩
  have b1 : Below w.heap.size w W1 := by rw [← hW1]; exact ((Below.refl _ w).alloc (Nat.le_refl _) _).alloc (by simp) _
  have x1 : Cells W1 w.heap.size 131 (sd1 k c A cap) := by rw [← hW1]; exact (Below.heap_alloc _ _ _ (by simp)).trans (World.alloc_heap_new _ _)
  have x2 : Cells W1 (w.heap.size + 1) 25 #[.slice (some ⟨g, o, none⟩) (q + 1) cp] := by
    rw [← hW1]
    have := World.alloc_heap_new (w.alloc (.cells (sd1 k c A cap) 131)) (.cells #[.slice (some ⟨g, o, none⟩) (q + 1) cp] 25)
    rw [World.size_alloc] at this
    exact this
  have CS := search102_any k c A cap (q + 1) ⟨w.heap.size, 0, none⟩ ⟨w.heap.size + 1, 0, none⟩ (takesG k c m) W1 (by omega) (fun W hW => clo1_any k c m A cap w.heap.size (w.heap.size + 1) g o q cp W ((hl.on b1).on hW) (x1.on hW) (x2.on hW) hc hq (((hW.cell (p := ⟨g, o + q, none⟩) (by have := cell_lt hm; have := b1.size; simp at *; omega)).trans ((b1.cell (p := ⟨g, o + q, none⟩) (cell_lt hm)).trans hm))))
  obtain ⟨R, hR⟩ : ∃ R, takesG k c m = R := ⟨_, rfl⟩
  rw [hR] at CS ⊢
  obtain ⟨n, hn⟩ : ∃ n, q + 1 = n := ⟨_, rfl⟩
  rw [hn] at CS hW1 ⊢
  unfold sd1 at CS hW1 ⊢
  have HB := Lib.hid (And.intro b1 hW1)
  clear x1 x2 b1 hl hm hR hW1
  go_enter Try.func84, Try.ntmps84
  go_wp2_with fail
  rw [HB.out.2]
  refine CS.mono ?_
  rintro r w2 ⟨rfl, hb2⟩
  have HB2 := Lib.hid (HB.out.1.trans (hb2.mono HB.out.1.size))
  clear CS hb2
  go_wp2_with fail
  go_ret
  exact ⟨rfl, HB2.out⟩
end Go.Proofs.Ytegkogadceodlaa
