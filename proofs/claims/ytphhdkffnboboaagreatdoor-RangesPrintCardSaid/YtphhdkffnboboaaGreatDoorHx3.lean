/-
  Contracts: ranges.printRange; strings.Join of one text; ranges.Print of no range and of one.
-/
import Derived.BigQuiet
import Derived.Lib.QuietBelow
import Derived.Test.YtphhdkffnboboaaGreatDoorHx2
import Derived.Test.YtphhdkffnboboaaGreatDoorRg9
namespace Go.Proofs.YtphhdkffnboboaaGreatDoor
open Go.RowKit Go.Shelf
open Go.Lib Go.BigFrame Go.Sort

def numText (n : Int) : List UInt8 := pad4 (hexD n.toNat)
/-- A range's text. -/
def rgText (x : Rng) : List UInt8 := if x.1 = x.2 then numText x.1 else numText x.1 ++ [45] ++ numText x.2
theorem phi_any (n : Int) (h0 : 0 ≤ n) (h1 : n < 2147483648) (w : World) (h : TZ w) :
    Calls Tryz.prog 26 #[.int .i32 n] w fun e w' => e = .returned (.string ⟨(numText n).toArray⟩) ∧ Below w.heap.size w w' := by
  obtain ⟨m, rfl⟩ : ∃ m : Nat, n = m := ⟨n.toNat, by omega⟩
  exact ph_any m (by omega) w h

theorem numText_len (n : Int) (h0 : 0 ≤ n) (h1 : n < 2147483648) : (numText n).length ≤ 8 := by
  have h := (hexD_len n.toNat).2 7 (by omega)
  unfold numText pad4
  simp
  omega

set_option maxHeartbeats 1000000 in
theorem pr_any (x : Rng) (hm : may x = true) (w : World) (h : TZ w) :
    Calls Tryz.prog 16 #[.agg #[.int .i32 x.1, .int .i32 x.2]] w fun e w' => e = .returned (.string ⟨(rgText x).toArray⟩) ∧ Below w.heap.size w w' := by
  obtain ⟨m1, m2, m3⟩ := (may_iff x).1 hm
  obtain ⟨lo, hi⟩ := x
  simp only at m1 m2 m3
  have hb0 := below_new w (.cells #[.int .i32 lo, .int .i32 hi] 39)
  have HT := Lib.hid (h.below hb0)
  have HB := Lib.hid hb0
  have C := Lib.hid (fun n h0 h1 W hW => phi_any n h0 h1 W hW)
  clear hm h hb0
  by_cases c : lo = hi
  · subst c
    have e : rgText (lo, lo) = numText lo := if_pos rfl
    rw [e]
    clear e
    go_enter Tryz.func16, Tryz.ntmps16
    go_wp2_with fail
    refine (C.out lo m1 (by omega) _ HT.out).mono ?_
    rintro e w1 ⟨rfl, hb⟩
    have hbz := HB.out.trans (hb.mono HB.out.size)
    go_wp2
    go_ret
    exact ⟨rfl, hbz⟩
  · have e : rgText (lo, hi) = numText lo ++ [45] ++ numText hi := if_neg c
    have l1 := numText_len lo m1 (by omega)
    have l2 := numText_len hi (by omega) (by omega)
    rw [e]
    have d : (lo == hi) = false := by simp [c]
    have f0 : (w.alloc (.cells #[.int .i32 lo, .int .i32 hi] 39)).cell? ⟨w.heap.size, 0, none⟩ = some (.int .i32 lo) := by simp
    have f1 : (w.alloc (.cells #[.int .i32 lo, .int .i32 hi] 39)).cell? ⟨w.heap.size, 1, none⟩ = some (.int .i32 hi) := by simp
    have D1 : Hid (∀ W, TZ W → Calls Tryz.prog 26 #[.int .i32 lo] W fun e w' => e = .returned (.string ⟨(numText lo).toArray⟩) ∧ Below W.heap.size W w') := Lib.hid fun W hW => C.out lo m1 (by omega) W hW
    have D2 : Hid (∀ W, TZ W → Calls Tryz.prog 26 #[.int .i32 hi] W fun e w' => e = .returned (.string ⟨(numText hi).toArray⟩) ∧ Below W.heap.size W w') := Lib.hid fun W hW => C.out hi (by omega) (by omega) W hW
    clear e C
    generalize numText lo = t1 at *
    generalize numText hi = t2 at *
    go_enter Tryz.func16, Tryz.ntmps16
    go_wp2_with fail
    generalize w.alloc (.cells #[.int .i32 lo, .int .i32 hi] 39) = W1 at *
    have g0 := cell_regrown f0
    have g1 := cell_regrown f1
    have C1 : Hid (∀ d os, Calls Tryz.prog 26 #[.int .i32 lo] (grow (redrawn W1 d) os) fun e w'' => e = .returned (.string ⟨t1.toArray⟩) ∧ ∃ p : Regrown, w'' = grow (redrawn W1 p.d) p.os) := Lib.hid fun d os => Calls.regrown_of (D1.out _ (HT.out.below ((below_regrown W1 d os).mono (Nat.le_refl _))))
    have C2 : Hid (∀ d os, Calls Tryz.prog 26 #[.int .i32 hi] (grow (redrawn W1 d) os) fun e w'' => e = .returned (.string ⟨t2.toArray⟩) ∧ ∃ p : Regrown, w'' = grow (redrawn W1 p.d) p.os) := Lib.hid fun d os => Calls.regrown_of (D2.out _ (HT.out.below ((below_regrown W1 d os).mono (Nat.le_refl _))))
    clear f0 f1
    refine wp_region_quiet_below (by kernel_rfl) (by kernel_rfl) ?_
    repeat (go_big_quiet_step (first | with_reducible exact C1.out _ _ | with_reducible exact C2.out _ _))
    refine wpQuiet_nil ?_
    intro _ hw'
    obtain ⟨⟨dq, osq⟩, hw''⟩ := hw'
    subst hw''
    have hbz := HB.out.trans ((below_regrown W1 dq osq).mono HB.out.size)
    have e3 : (⟨t1.toArray⟩ ++ ⟨#[45]⟩ ++ ⟨t2.toArray⟩ : ByteArray) = ⟨(t1 ++ [45] ++ t2).toArray⟩ := by simp [ByteArray.ext_iff]
    go_wp2
    go_ret
    exact ⟨congrArg (fun s => Ending.returned (.string s)) e3, hbz⟩

theorem join1_any (a : Addr) (cap : Nat) (sep s : ByteArray) (w : World) (h : w.cell? a = some (.string s)) :
    Calls Tryz.prog 17 #[.slice (some a) 1 cap, .string sep] w fun e w' => e = .returned (.string s) ∧ w' = w := by
  go_enter Tryz.func17, Tryz.ntmps17
  go_wp2
  go_ret
  exact ⟨rfl, rfl⟩
end Go.Proofs.YtphhdkffnboboaaGreatDoor
