/-
  The walk of NfaUnions: the ways that end early.
-/
import Derived.Test.YtlbcicoppglgjaaDoorTol
import Derived.Test.YtlbcicoppglgjaaDoorGrt
import Derived.Test.YtlbcicoppglgjaaDoorApl
import Derived.Test.YtlbcicoppglgjaaDoorAwk
namespace Go.Proofs.YtlbcicoppglgjaaDoor
open Go.RowKit Go.Shelf Go.Lib

theorem lv_le_sz : ∀ l : List E, lvL l ≤ szL l := by
  intro l
  induction l with
  | nil => simp [lvL, leavesE.lvL]
  | cons a r ih =>
    have := leaves_le _ a (Nat.le_refl _)
    simp only [lvL, leavesE.lvL, szL, szE.szL] at *
    omega
theorem fault_zero {ks : List E} (h1 : ks.all rightE = true) (h2 : ks.length ≤ 40) (h3 : szL ks ≤ 80) : faultL ks = 0 := by
  have := lv_le_sz ks
  unfold faultL
  rw [if_neg (by omega), if_neg (by simp [h1]), if_neg (by omega)]
/-- The arguments of NfaUnions. -/
structure UArg (w : World) (ks : List E) (xs ys : List Int) (m : Int) (Ak Ax Ay : Option Addr) (ck cx cy : Nat) : Prop where
  k : KsAt w w.heap.size ks Ak ck
  x : IS w w.heap.size xs Ax cx
  y : IS w w.heap.size ys Ay cy
  zx : Ax = none → cx = 0
  zy : Ay = none → cy = 0
  m : i64 m
  t : TZ w
def UOk (w : World) (r : Ending) (w' : World) : Prop := r = .returned (.bool true) ∧ Below w.heap.size w w'
theorem UArg.below {w w' : World} {ks : List E} {xs ys : List Int} {m : Int} {Ak Ax Ay : Option Addr} {ck cx cy : Nat} (h : UArg w ks xs ys m Ak Ax Ay ck cx cy) (hb : Below w.heap.size w w') : UArg w' ks xs ys m Ak Ax Ay ck cx cy :=
  ⟨h.k.on hb, h.x.on hb, h.y.on hb, h.zx, h.zy, h.m, h.t.below hb h.t.lt⟩
set_option maxHeartbeats 8000000 in
set_option maxRecDepth 100000 in
theorem unions_big (se : Bool) (ks : List E) (xs ys : List Int) (m : Int) (Ak Ax Ay : Option Addr) (ck cx cy : Nat) (w : World) (h : UArg w ks xs ys m Ak Ax Ay ck cx cy) (hbig : 80 < szL ks ∨ 12 < xs.length ∨ 12 < ys.length) :
    Calls Tryd.prog 5 #[.bool se, .slice Ak ks.length ck, .slice Ax xs.length cx, .slice Ay ys.length cy, .int .i64 m] w (UOk w) := by
  have C := Lib.hid (great_any ks Ak ck w h.k)
  have H := Lib.hid h
  obtain ⟨G, hG⟩ : ∃ G, decide (80 < szL ks) = G := ⟨_, rfl⟩
  rw [hG] at C
  obtain ⟨nx, hnx⟩ : ∃ n, xs.length = n := ⟨_, rfl⟩
  obtain ⟨ny, hny⟩ : ∃ n, ys.length = n := ⟨_, rfl⟩
  rw [hnx, hny] at hbig ⊢
  have hb : G = true ∨ 12 < nx ∨ 12 < ny := by
    rcases hbig with h | h
    · left; rw [← hG]; simpa using h
    · exact .inr h
  clear h hG hbig hnx hny
  cases G with
  | true =>
    go_enter Tryd.func5, Tryd.ntmps5
    go_wp2_with fail
    refine C.out.mono ?_
    rintro r w2 ⟨rfl, hb2⟩
    have H2 := Lib.hid (And.intro hb2 (H.out.t.below hb2 H.out.t.lt))
    clear hb2
    go_wp2_with fail
    refine (awake_any w2 H2.out.2).mono ?_
    rintro r w3 ⟨rfl, hb3⟩
    have H3 := Lib.hid (H2.out.1.trans (hb3.mono H2.out.1.size))
    clear hb3
    go_wp2_with fail
    go_ret
    exact ⟨rfl, H3.out⟩
  | false =>
    by_cases h1 : 12 < nx
    · have i1 : (12 : Int) < (nx : Int) := by omega
      go_enter Tryd.func5, Tryd.ntmps5
      go_wp2_with fail
      refine C.out.mono ?_
      rintro r w2 ⟨rfl, hb2⟩
      have H2 := Lib.hid (And.intro hb2 (H.out.t.below hb2 H.out.t.lt))
      clear hb2
      go_wp2_with fail
      refine (awake_any w2 H2.out.2).mono ?_
      rintro r w3 ⟨rfl, hb3⟩
      have H3 := Lib.hid (H2.out.1.trans (hb3.mono H2.out.1.size))
      clear hb3
      go_wp2_with fail
      go_ret
      exact ⟨rfl, H3.out⟩
    · have i1 : decide ((12 : Int) < (nx : Int)) = false := by simp; omega
      have i1' : ¬ (12 : Int) < (nx : Int) := by omega
      have i2 : (12 : Int) < (ny : Int) := by
        rcases hb with h | h | h
        · cases h
        · omega
        · omega
      go_enter Tryd.func5, Tryd.ntmps5
      go_wp2_with fail
      refine C.out.mono ?_
      rintro r w2 ⟨rfl, hb2⟩
      have H2 := Lib.hid (And.intro hb2 (H.out.t.below hb2 H.out.t.lt))
      clear hb2
      go_wp2_with fail
      refine (awake_any w2 H2.out.2).mono ?_
      rintro r w3 ⟨rfl, hb3⟩
      have H3 := Lib.hid (H2.out.1.trans (hb3.mono H2.out.1.size))
      clear hb3
      go_wp2_with fail
      go_ret
      exact ⟨rfl, H3.out⟩
set_option maxHeartbeats 8000000 in
set_option maxRecDepth 100000 in
theorem unions_wrong (se : Bool) (ks : List E) (xs ys : List Int) (m : Int) (Ak Ax Ay : Option Addr) (ck cx cy : Nat) (w : World) (h : UArg w ks xs ys m Ak Ax Ay ck cx cy) (h80 : szL ks ≤ 80) (h1 : xs.length ≤ 12) (h2 : ys.length ≤ 12)
    (hr : (ks.all rightE && decide (ks.length ≤ 40)) = false) :
    Calls Tryd.prog 5 #[.bool se, .slice Ak ks.length ck, .slice Ax xs.length cx, .slice Ay ys.length cy, .int .i64 m] w (UOk w) := by
  have C := great_any ks Ak ck w h.k
  rw [show decide (80 < szL ks) = false by simp; omega] at C
  have C := Lib.hid C
  have H := Lib.hid (And.intro h (And.intro hr h80))
  obtain ⟨nx, hnx⟩ : ∃ n, xs.length = n := ⟨_, rfl⟩
  obtain ⟨ny, hny⟩ : ∃ n, ys.length = n := ⟨_, rfl⟩
  rw [hnx] at h1 ⊢
  rw [hny] at h2 ⊢
  have i1 : decide ((12 : Int) < (nx : Int)) = false := by simp; omega
  have i2 : decide ((12 : Int) < (ny : Int)) = false := by simp; omega
  have i1' : ¬ (12 : Int) < (nx : Int) := by omega
  have i2' : ¬ (12 : Int) < (ny : Int) := by omega
  clear h hr hnx hny h80
  go_enter Tryd.func5, Tryd.ntmps5
  go_wp2_with fail
  refine C.out.mono ?_
  rintro r w2 ⟨rfl, hb2⟩
  have H2 := Lib.hid (And.intro hb2 (H.out.1.t.below hb2 H.out.1.t.lt))
  clear hb2
  go_wp2_with fail
  refine (awake_any w2 H2.out.2).mono ?_
  rintro r w3 ⟨rfl, hb3⟩
  have hb03 := H2.out.1.trans (hb3.mono H2.out.1.size)
  have C3 := allRight_any ks Ak ck w3 (H.out.1.k.on hb03) (by have := H.out.2.2; omega)
  rw [H.out.2.1] at C3
  have C3 := Lib.hid C3
  have H3 := Lib.hid hb03
  clear hb3 hb03
  go_wp2_with fail
  refine C3.out.mono ?_
  rintro r w4 ⟨rfl, hb4⟩
  have H4 := Lib.hid (H3.out.trans (hb4.mono H3.out.size))
  clear hb4
  go_wp2_with fail
  go_ret
  exact ⟨rfl, H4.out⟩
end Go.Proofs.YtlbcicoppglgjaaDoor
