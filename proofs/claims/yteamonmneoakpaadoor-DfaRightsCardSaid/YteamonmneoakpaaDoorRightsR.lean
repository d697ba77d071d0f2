/-
  DfaRights: of any table, right or not: whether it is, where any marks lead, what any state tells, and which come of the first one: for all inputs, in whatever memory.
  The walk of DfaRights: a right table.
  The walk of DfaRights: the main way.
  The walk of DfaRights.
  Contracts: the document's Reached: states are marked, round by round, till none is new.
  Contracts: the document's Right of a table.
-/
import Derived.Lib.QuietBelow
import Derived.Lay
import Derived.LaidOnce
import Derived.LaidMore
import Derived.ChangeOld
import Derived.SevenTiedAt
import Derived.Test.YteamonmneoakpaaDoorXqa
import Derived.Test.YteamonmneoakpaaDoorXqb
import Derived.Test.YteamonmneoakpaaDoorXqc
import Derived.Test.YteamonmneoakpaaDoorXqd
import Derived.Test.YteamonmneoakpaaDoorXqe
import Derived.Test.YteamonmneoakpaaDoorXqf
import Derived.Test.YteamonmneoakpaaDoorXqg
import Derived.Test.YteamonmneoakpaaDoorXqh
import Derived.Test.YteamonmneoakpaaDoorXqi
import Derived.Test.YteamonmneoakpaaDoorXqj
import Derived.Test.YteamonmneoakpaaDoorXqk
import Derived.Test.YteamonmneoakpaaDoorXql
import Derived.Test.YteamonmneoakpaaDoorXqm
import Derived.Test.YteamonmneoakpaaDoorXqn
import Derived.Test.YteamonmneoakpaaDoorXqo
import Derived.Test.YteamonmneoakpaaDoorTie
import Derived.Test.YteamonmneoakpaaDoorCards
import Derived.Test.YteamonmneoakpaaDoorChecked
namespace Go.Proofs.YteamonmneoakpaaDoor
open Go.RowKit Go.Shelf Go.Lib Go.Great Go.Maps

theorem okIx_iff (n : Nat) (y : Int) : okIx n y = (decide (0 ≤ y) && decide (y < (n : Int))) := rfl
set_option maxHeartbeats 8000000 in
set_option maxRecDepth 100000 in
theorem refRightD_any {R : List (List Int)} {T : List Nat} {v : Value} {w : World} (h : TbV w R T v) : Calls Tryd.prog 35 #[v] w fun r w' => r = .returned (.bool (rightT R T)) ∧ Below w.heap.size w w' := by
  obtain ⟨A, c, A2, c2, rfl, hR, hT⟩ := h
  obtain ⟨W0, hW0⟩ : ∃ W, w.alloc (.cells #[.slice A R.length c, .slice A2 T.length c2] 57) = W := ⟨_, rfl⟩
  have b0 : Below w.heap.size w W0 := by rw [← hW0]; exact below_new _ _
  have x0 : Cells W0 w.heap.size 57 #[.slice A R.length c, .slice A2 T.length c2] := by rw [← hW0]; exact cells_new _ _ _
  have n1 : R.length ≤ 9223372036854775807 := by have := hR.l; have := hR.m; unfold maxLen at this; omega
  have n2' : T.length ≤ 9223372036854775807 := by have := hT.l; have := hT.m; unfold maxLen at this; omega
  obtain ⟨X, hX⟩ : ∃ X, rightT R T = X := ⟨_, rfl⟩
  rw [hX]
  have hX1 : (R.length < 1 ∨ 1000 < R.length ∨ T.length ≠ R.length) → X = false := fun e => by
    rw [← hX]
    cases hq : rightT R T with
    | false => rfl
    | true => have := right_parts hq; omega
  have hX2 : 1 ≤ R.length → R.length ≤ 1000 → T.length = R.length → X = R.all (rowOk R.length) := fun e1 e2 e3 => by
    rw [← hX]; unfold rightT
    simp [e1, e2, e3]
  obtain ⟨n, hn⟩ : ∃ n, R.length = n := ⟨_, rfl⟩
  obtain ⟨n2, hn2⟩ : ∃ n, T.length = n := ⟨_, rfl⟩
  rw [hn, hn2] at x0 hW0 hX1 hX2 ⊢
  rw [hn] at n1
  rw [hn2] at n2'
  have e0 := x0.cell 0
  have e1 := x0.cell 1
  simp at e0 e1
  have H := Lib.hid (And.intro b0 (And.intro hR (And.intro hn (And.intro hX1 hX2))))
  have HW := Lib.hid hW0
  clear b0 x0 hW0 hR hT hn hn2 hX hX1 hX2
  by_cases h1 : 1 ≤ n
  · have i1 : (1 : Int) ≤ n := by omega
    have j1 : decide ((1 : Int) ≤ n) = true := by simpa using i1
    by_cases h2 : n ≤ 1000
    · have i2 : (n : Int) ≤ 1000 := by omega
      have j2 : decide ((n : Int) ≤ 1000) = true := by simpa using i2
      by_cases h3 : n2 = n
      · have hXX := Lib.hid (H.out.2.2.2.2 h1 h2 h3)
        subst h3
        have i3 : ((n2 : Int) == (n2 : Int)) = true := by simp
        go_enter Tryd.func35, Tryd.ntmps35
        go_wp2_with fail
        rw [HW.out]
        go_loopw [4, 5] (fun u4 u5 wr => ∃ (k : Nat) (b : Bool), u4 = .bool b ∧ u5 = .int .i64 (k : Int) ∧ k ≤ n2 ∧ (R.take k).all (rowOk n2) = b ∧ wr = W0) (fun _ u5 _ => n2 - (RowKit.intOf u5).toNat)
        case atStart => exact ⟨0, true, rfl, rfl, by omega, rfl, rfl⟩
        case round =>
          obtain ⟨k, b, rfl, rfl, hk, hall, hw⟩ := hrel
          obtain rfl := hw.symm
          clear hw
          by_cases hlt : k < n2
          · have i5 : (k : Int) < (n2 : Int) := by omega
            cases b with
            | false =>
              have hXf : X = false := by
                rw [hXX.out, List.all_eq_false]
                obtain ⟨r, hr1, hr2⟩ := List.all_eq_false.1 hall
                exact ⟨r, List.mem_of_mem_take hr1, hr2⟩
              have HF := Lib.hid hXf
              clear hall hXf
              go_wp2_with fail
              go_ret
              exact ⟨ret_bool HF.out.symm, H.out.1⟩
            | true =>
              obtain ⟨x, hx⟩ : ∃ x, R[k]? = some x := ⟨R[k]'(by rw [H.out.2.2.1]; exact hlt), List.getElem?_eq_getElem _⟩
              obtain ⟨bb, o, rfl, hbl, hc⟩ := H.out.2.1.r (by rintro rfl; simp at hx)
              obtain ⟨A', c', d0, his, _⟩ := hc k x hx
              have d1 := (H.out.1.cell (p := ⟨bb, o + k, none⟩) hbl).trans d0
              have his' := (his.below H.out.1).mono H.out.1.size
              have ht := allT_take (rowOk n2) hx
              rw [hall] at ht
              have hxl : x.length ≤ 9223372036854775807 := by have := his.l; have := his.m; unfold maxLen at this; omega
              obtain ⟨l, hl⟩ : ∃ l, x.length = l := ⟨_, rfl⟩
              rw [hl] at d1 hxl
              obtain ⟨b37, hb37⟩ : ∃ b, ((l : Int) == 37) = b := ⟨_, rfl⟩
              have hrow : rowOk n2 x = (b37 && x.all (okIx n2)) := by
                unfold rowOk
                rw [hl, ← hb37]
                congr 1
                rw [Bool.eq_iff_iff]
                simp
                omega
              have HK := Lib.hid (And.intro ht (And.intro hx (And.intro his' (And.intro hl hrow))))
              clear ht hx hc d0 his his' hl hall hrow
              go_wp2_with fail
              go_loopw [4, 6] (fun u4 u6 wi => ∃ (m : Nat) (b : Bool), u4 = .bool b ∧ u6 = .int .i64 (m : Int) ∧ m ≤ l ∧ (b37 && (x.take m).all (okIx n2)) = b ∧ wi = W0) (fun _ u6 _ => l - (RowKit.intOf u6).toNat)
              case atStart => exact ⟨0, b37, rfl, rfl, by omega, by simp, rfl⟩
              case round =>
                obtain ⟨m, b, rfl, rfl, hm, hb, hw⟩ := hrel
                obtain rfl := hw.symm
                clear hw
                by_cases hml : m < l
                · have i6 : (m : Int) < (l : Int) := by omega
                  obtain ⟨y, hy⟩ : ∃ y, x[m]? = some y := ⟨x[m]'(by have := HK.out.2.2.2.1; omega), List.getElem?_eq_getElem _⟩
                  have hty := allT_take (okIx n2) hy
                  cases b with
                  | false =>
                    have hend : (b37 && (x.take (m + 1)).all (okIx n2)) = false := by
                      rw [hty, ← Bool.and_assoc, hb]; rfl
                    have HEND := Lib.hid hend
                    clear hend hty hy hb
                    go_wp2_with fail
                    go_roundw
                    case rel => exact ⟨m + 1, false, rfl, by go_num, by omega, HEND.out, trivial⟩
                    case measure => simp [RowKit.intOf]; omega
                  | true =>
                    obtain ⟨b2, o2, rfl, hbl2, hc2⟩ := HK.out.2.2.1.r (by rintro rfl; simp at hy)
                    have d2 := hc2 m y hy
                    have hty2 : (b37 && (x.take (m + 1)).all (okIx n2)) = okIx n2 y := by
                      rw [hty, ← Bool.and_assoc, hb]; rfl
                    rw [okIx_iff] at hty2
                    have HEND := Lib.hid hty2
                    clear hty hty2 hy hb hc2
                    by_cases y0 : 0 ≤ y
                    · have k0 : decide (0 ≤ y) = true := by simpa using y0
                      by_cases y1 : y < (n2 : Int)
                      · have k1 : decide (y < (n2 : Int)) = true := by simpa using y1
                        go_wp2_with fail
                        go_roundw
                        case rel => exact ⟨m + 1, true, rfl, by go_num, by omega, by rw [HEND.out, k0, k1]; rfl, trivial⟩
                        case measure => simp [RowKit.intOf]; omega
                      · have k1 : decide (y < (n2 : Int)) = false := by simpa using y1
                        go_wp2_with fail
                        go_roundw
                        case rel => exact ⟨m + 1, false, rfl, by go_num, by omega, by rw [HEND.out, k0, k1]; rfl, trivial⟩
                        case measure => simp [RowKit.intOf]; omega
                    · have k0 : decide (0 ≤ y) = false := by simpa using y0
                      go_wp2_with fail
                      go_roundw
                      case rel => exact ⟨m + 1, false, rfl, by go_num, by omega, by rw [HEND.out, k0]; rfl, trivial⟩
                      case measure => simp [RowKit.intOf]; omega
                · obtain rfl : m = l := by omega
                  have i6 : ¬ (m : Int) < (m : Int) := by omega
                  have e1 : x.take m = x := by rw [← HK.out.2.2.2.1, List.take_length]
                  rw [e1] at hb
                  have hend : (R.take (k + 1)).all (rowOk n2) = b := by
                    rw [HK.out.1, HK.out.2.2.2.2, hb]; simp
                  have HEND := Lib.hid hend
                  clear hend hb e1
                  go_wp2_with fail
                  go_roundw
                  case rel => exact ⟨k + 1, b, rfl, by go_num, by omega, HEND.out, trivial⟩
                  case measure => simp [RowKit.intOf]; omega
          · obtain rfl : k = n2 := by omega
            have i5 : ¬ (k : Int) < (k : Int) := by omega
            have e1 : R.take k = R := by rw [← H.out.2.2.1, List.take_length]
            rw [e1] at hall
            have HF := Lib.hid hall
            clear e1 hall
            go_wp2_with fail
            go_ret
            exact ⟨ret_bool (by rw [hXX.out]; exact HF.out.symm), H.out.1⟩
      · have i3 : ((n2 : Int) == (n : Int)) = false := by simp; omega
        have hXf := Lib.hid (H.out.2.2.2.1 (.inr (.inr h3)))
        clear h3
        go_enter Tryd.func35, Tryd.ntmps35
        go_wp2_with fail
        rw [HW.out]
        go_loopw [4, 5] (fun u4 u5 wr => u4 = .bool false ∧ u5 = .int .i64 0 ∧ wr = W0) (fun _ _ _ => 0)
        case atStart => exact ⟨rfl, rfl, rfl⟩
        case round =>
          obtain ⟨rfl, rfl, hw⟩ := hrel
          obtain rfl := hw.symm
          clear hw
          have i5 : (0 : Int) < (n : Int) := by omega
          go_wp2_with fail
          go_ret
          exact ⟨ret_bool hXf.out.symm, H.out.1⟩
    · have i2 : ¬ (n : Int) ≤ 1000 := by omega
      have j2 : decide ((n : Int) ≤ 1000) = false := by simpa using i2
      have hXf := Lib.hid (H.out.2.2.2.1 (.inr (.inl (by omega))))
      go_enter Tryd.func35, Tryd.ntmps35
      go_wp2_with fail
      rw [HW.out]
      go_loopw [4, 5] (fun u4 u5 wr => u4 = .bool false ∧ u5 = .int .i64 0 ∧ wr = W0) (fun _ _ _ => 0)
      case atStart => exact ⟨rfl, rfl, rfl⟩
      case round =>
        obtain ⟨rfl, rfl, hw⟩ := hrel
        obtain rfl := hw.symm
        clear hw
        have i5 : (0 : Int) < (n : Int) := by omega
        go_wp2_with fail
        go_ret
        exact ⟨ret_bool hXf.out.symm, H.out.1⟩
  · have i1 : ¬ (1 : Int) ≤ n := by omega
    have j1 : decide ((1 : Int) ≤ n) = false := by simpa using i1
    have hXf := Lib.hid (H.out.2.2.2.1 (.inl (by omega)))
    go_enter Tryd.func35, Tryd.ntmps35
    go_wp2_with fail
    rw [HW.out]
    go_loopw [4, 5] (fun u4 u5 wr => u4 = .bool false ∧ u5 = .int .i64 0 ∧ wr = W0) (fun _ _ _ => 0)
    case atStart => exact ⟨rfl, rfl, rfl⟩
    case round =>
      obtain ⟨rfl, rfl, hw⟩ := hrel
      obtain rfl := hw.symm
      clear hw
      have i5 : ¬ (0 : Int) < (n : Int) := by omega
      go_wp2_with fail
      go_ret
      exact ⟨ret_bool hXf.out.symm, H.out.1⟩
end Go.Proofs.YteamonmneoakpaaDoor

namespace Go.Proofs.YteamonmneoakpaaDoor
open Go.RowKit Go.Shelf Go.Lib Go.Great Go.Maps

/-- What is marked. -/
structure FS (R : List (List Int)) (n : Nat) (F : List Nat) : Prop where
  nd : F.Nodup
  lt : ∀ i ∈ F, i < n ∧ Rch R i
  z : 0 ∈ F
theorem FS.begin {R : List (List Int)} {n : Nat} (h : 0 < n) : FS R n [0] := ⟨by simp, fun i hi => by simp at hi; subst hi; exact ⟨h, .z⟩, by simp⟩
theorem FS.snoc {R : List (List Int)} {n : Nat} {F : List Nat} (h : FS R n F) {j : Nat} (hj : j < n) (hr : Rch R j) (hn : j ∉ F) : FS R n (F ++ [j]) := by
  refine ⟨?_, fun i hi => ?_, List.mem_append.2 (.inl h.z)⟩
  · rw [List.nodup_append]
    exact ⟨h.nd, by simp, fun a ha b hb => by simp at hb; subst hb; intro e; subst e; exact hn ha⟩
  · rcases List.mem_append.1 hi with hi | hi
    · exact h.lt i hi
    · simp at hi; subst hi; exact ⟨hj, hr⟩
theorem FS.len {R : List (List Int)} {n : Nat} {F : List Nat} (h : FS R n F) : F.length ≤ n := nodup_len n F h.nd (fun i hi => (h.lt i hi).1)
/-- Where a state leads has been marked. -/
def ClAt (R : List (List Int)) (F : List Nat) (i : Nat) : Prop := i ∈ F → ∀ r, R[i]? = some r → ∀ m j : Nat, r[m]? = some (j : Int) → j ∈ F
theorem FS.all {R : List (List Int)} {n : Nat} {F : List Nat} (h : FS R n F) (hc : ∀ i, i < n → ClAt R F i) {i : Nat} : i ∈ F ↔ Rch R i := by
  refine ⟨fun hi => (h.lt i hi).2, fun hr => ?_⟩
  induction hr with
  | z => exact h.z
  | s _ h1 h2 ih => exact hc _ (h.lt _ ih).1 ih _ h1 _ _ h2
/-- How many are not marked. -/
def falsV : Value → Bool
  | .bool false => true
  | _ => false
def falsB (w : World) (g : Nat) : Nat := match w.heap[g]? with
  | some (.cells cs _ _) => cs.toList.countP falsV
  | _ => 0
theorem countP_range (F : List Nat) (n : Nat) (hn : F.Nodup) (h : ∀ i ∈ F, i < n) : (List.range n).countP (fun i => falsV (.bool (decide (i ∈ F)))) + F.length = n := by
  have h1 : (List.range n).countP (fun i => decide (i ∈ F)) = F.length := by
    rw [List.countP_eq_length_filter]
    have hp : ((List.range n).filter fun i => decide (i ∈ F)).Perm F := by
      rw [List.perm_ext_iff_of_nodup (List.nodup_range.filter _) hn]
      intro a
      simp
      exact fun ha => h a ha
    exact hp.length_eq
  have h2 := List.length_eq_countP_add_countP (fun i => decide (i ∈ F)) (l := List.range n)
  rw [List.length_range, h1] at h2
  have h3 : (List.range n).countP (fun i => falsV (.bool (decide (i ∈ F)))) = (List.range n).countP (fun i => decide (¬ (decide (i ∈ F)) = true)) := by
    congr 1
    funext i
    by_cases hi : i ∈ F <;> simp [hi, falsV]
  omega
theorem falsB_eq {w : World} {g n : Nat} {F : List Nat} (hc : Cells w g 4 (boolsC F n)) (hn : F.Nodup) (h : ∀ i ∈ F, i < n) : falsB w g + F.length = n := by
  unfold falsB
  rw [show w.heap[g]? = _ from hc]
  have := countP_range F n hn h
  unfold boolsC
  simp only [List.countP_map]
  exact this
def msr (u : Value) (w : World) (g : Nat) : Nat := (match u with | .bool true => 1 | _ => 0) + falsB w g
def RdOk (R : List (List Int)) (n : Nat) (w : World) (r : Ending) (w' : World) : Prop := ∃ g F, r = .returned (.slice (some ⟨g, 0, none⟩) n n) ∧ Cells w' g 4 (boolsC F n) ∧ (∀ i, i ∈ F ↔ Rch R i) ∧ Below w.heap.size w w'
theorem Cells.mark {w : World} {g n j : Nat} {F : List Nat} (h : Cells w g 4 (boolsC F n)) (hj : j < n) : Cells (w.setCell ⟨g, j, none⟩ (.bool true)) g 4 (boolsC (F ++ [j]) n) := by
  have := h.set j (.bool true)
  rw [boolsC_set _ _ _ hj] at this
  exact this
set_option maxHeartbeats 16000000 in
set_option maxRecDepth 100000 in
theorem refReached_any {R : List (List Int)} {T : List Nat} {v : Value} {w : World} (h : TbV w R T v) (hr : rightT R T = true) : Calls Tryd.prog 36 #[v] w (RdOk R R.length w) := by
  obtain ⟨A, c, A2, c2, rfl, hR, hT⟩ := h
  obtain ⟨p1, p2, p3, p4⟩ := right_parts hr
  obtain ⟨W0, hW0⟩ : ∃ W, w.alloc (.cells #[.slice A R.length c, .slice A2 T.length c2] 57) = W := ⟨_, rfl⟩
  have b0 : Below w.heap.size w W0 := by rw [← hW0]; exact below_new _ _
  have z0 : W0.heap.size = w.heap.size + 1 := by rw [← hW0]; simp
  have x0 : Cells W0 w.heap.size 57 #[.slice A R.length c, .slice A2 T.length c2] := by rw [← hW0]; exact cells_new _ _ _
  obtain ⟨n, hn⟩ : ∃ n, R.length = n := ⟨_, rfl⟩
  obtain ⟨n2, hn2⟩ : ∃ n, T.length = n := ⟨_, rfl⟩
  rw [hn, hn2] at x0 hW0
  rw [hn] at p1 p2 p4 ⊢
  rw [hn2]
  have e0 := x0.cell 0
  have e1 := x0.cell 1
  simp at e0 e1
  have mk3 := make_bools n p2
  have bz : (boolsC [] n)[0]? = some (.bool false) := by rw [boolsC_get _ _ _ (by omega)]; rfl
  have H := Lib.hid (And.intro b0 (And.intro z0 (And.intro x0 (And.intro hR (And.intro hn p4)))))
  have HW := Lib.hid hW0
  obtain ⟨W1, hW1⟩ : ∃ W, W0.alloc (.cells ((boolsC [] n).setIfInBounds 0 (.bool true)) 4) = W := ⟨_, rfl⟩
  have c1 : Cells W1 W0.heap.size 4 (boolsC [0] n) := by
    rw [← hW1]
    have := cells_new W0 ((boolsC [] n).setIfInBounds 0 (.bool true)) 4
    rw [boolsC_set [] n 0 (by omega)] at this
    rw [boolsC_set [] n 0 (by omega)]
    exact this
  have b1 : Below W0.heap.size W0 W1 := by rw [← hW1]; exact below_new _ _
  have HW1 := Lib.hid hW1
  have H1 := Lib.hid (And.intro c1 b1)
  clear b0 x0 hW0 hR hT hn hn2 p3 p4 hr hW1 c1 b1
  have HZ := Lib.hid z0
  clear z0
  have i0 : (0 : Int) < (n : Int) := by omega
  go_enter Tryd.func36, Tryd.ntmps36
  go_wp2_with fail
  rw [HW.out, HW1.out]
  have M1 := H1.out
  rw [HZ.out] at M1
  clear mk3 bz e0 e1
  obtain ⟨g, hg⟩ : ∃ g, w.heap.size + 1 = g := ⟨_, rfl⟩
  rw [hg] at M1
  rw [hg]
  have zg : w.heap.size < g := by omega
  have HG := Lib.hid hg
  have HM := Lib.hid M1
  clear hg M1
  go_loopw [4] (fun u4 wr => ∃ (b : Bool) (F : List Nat), u4 = .bool b ∧ FS R n F ∧ Cells wr g 4 (boolsC F n) ∧ Below g W0 wr ∧ (b = false → ∀ i, i < n → ClAt R F i)) (fun u4 wr => msr u4 wr g)
  case atStart => exact ⟨true, [0], rfl, FS.begin (by omega), HM.out.1, HM.out.2, fun h => by cases h⟩
  case round =>
    obtain ⟨b, F, rfl, hF, hC, hb, hcl⟩ := hrel
    cases b with
    | false =>
      have HE := Lib.hid (And.intro True.intro (And.intro hC (H.out.1.trans (hb.mono (show w.heap.size ≤ g by omega)))))
      have hall := Lib.hid (fun i => (hF.all (hcl rfl) : i ∈ F ↔ Rch R i))
      clear hF hC hb hcl
      go_wp2_with fail
      go_ret
      exact ⟨g, F, rfl, HE.out.2.1, hall.out, HE.out.2.2⟩
    | true =>
      have HM1 := Lib.hid (falsB_eq hC hF.nd (fun i hi => (hF.lt i hi).1))
      have HO := Lib.hid (And.intro hF (And.intro hC hb))
      clear hF hC hb hcl
      go_wp2_with fail
      go_loopw [4, 5] (fun u4 u5 wi => ∃ (k : Nat) (F' : List Nat) (b' : Bool), u4 = .bool b' ∧ u5 = .int .i64 (k : Int) ∧ k ≤ n ∧ FS R n F' ∧ Cells wi g 4 (boolsC F' n) ∧ Below g W0 wi ∧ F.length ≤ F'.length ∧ (b' = true → F.length < F'.length) ∧ (b' = false → ∀ i, i < k → ClAt R F' i)) (fun _ u5 _ => n - (RowKit.intOf u5).toNat)
      case atStart => exact ⟨0, F, false, rfl, rfl, by omega, HO.out.1, HO.out.2.1, HO.out.2.2, Nat.le_refl _, (fun h => by cases h), (fun _ i hi => by omega)⟩
      case round =>
        obtain ⟨k, F', b', rfl, rfl, hk, hF', hC', hb', hle, hlt', hcl'⟩ := hrel
        by_cases hlt : k < n
        · have i5 : (k : Int) < (n : Int) := by omega
          obtain ⟨r, hr⟩ : ∃ r, R[k]? = some r := ⟨R[k]'(by rw [H.out.2.2.2.2.1]; exact hlt), List.getElem?_eq_getElem _⟩
          obtain ⟨hr37, hrx⟩ := H.out.2.2.2.2.2 k r hr
          obtain ⟨bb, o, rfl, hbl, hc⟩ := H.out.2.2.2.1.r (by rintro rfl; simp at hr)
          obtain ⟨A', c', d0, his, _⟩ := hc k r hr
          have HK := Lib.hid (And.intro hF' (And.intro hC' (And.intro hb' (And.intro hle (And.intro hlt' (And.intro hcl' (And.intro hr (And.intro hr37 (And.intro hrx (And.intro his d0))))))))))
          clear hF' hC' hb' hle hlt' hcl' hr hrx his d0 hc
          go_wp2_with fail
          go_loopw [4, 6] (fun u4 u6 wj => ∃ (m : Nat) (G : List Nat) (b2 : Bool), u4 = .bool b2 ∧ u6 = .int .i64 (m : Int) ∧ m ≤ 37 ∧ FS R n G ∧ Cells wj g 4 (boolsC G n) ∧ Below g W0 wj ∧ F.length ≤ G.length ∧ (b2 = true → F.length < G.length) ∧ (b2 = false → (∀ i, i < k → ClAt R G i) ∧ (k ∈ G → ∀ m', m' < m → ∀ j : Nat, r[m']? = some (j : Int) → j ∈ G))) (fun _ u6 _ => 37 - (RowKit.intOf u6).toNat)
          case atStart => exact ⟨0, F', b', rfl, rfl, by omega, HK.out.1, HK.out.2.1, HK.out.2.2.1, HK.out.2.2.2.1, HK.out.2.2.2.2.1, fun hb0 => ⟨HK.out.2.2.2.2.2.1 hb0, fun _ m' h' => by omega⟩⟩
          case round =>
            obtain ⟨m, G, b2, rfl, rfl, hm, hG, hCG, hbG, hleG, hltG, hclG⟩ := hrel
            have fin : (b2 = false → ClAt R G k) → ∃ (k1 : Nat) (F1 : List Nat) (b1 : Bool), Value.bool b2 = .bool b1 ∧ Value.int .i64 ((k : Int) + 1) = .int .i64 (k1 : Int) ∧ k1 ≤ n ∧ FS R n F1 ∧ Cells wr g 4 (boolsC F1 n) ∧ Below g W0 wr ∧ F.length ≤ F1.length ∧ (b1 = true → F.length < F1.length) ∧ (b1 = false → ∀ i, i < k1 → ClAt R F1 i) := fun hcl =>
              ⟨k + 1, G, b2, rfl, by simp, by omega, hG, hCG, hbG, hleG, hltG, fun hb0 i hi => by
                rcases Nat.lt_or_ge i k with h1 | h1
                · exact (hclG hb0).1 i h1
                · obtain rfl : i = k := by omega
                  exact hcl hb0⟩
            by_cases hm37 : m < 37
            · have i7 : (m : Int) < 37 := by omega
              have j7 : decide ((m : Int) < 37) = true := by simpa using i7
              have dk : wr.cell? ⟨g, k, none⟩ = some (.bool (decide (k ∈ G))) := by rw [hCG.cell]; exact boolsC_get _ _ _ hlt
              by_cases hkG : k ∈ G
              · have hd : decide (k ∈ G) = true := by simpa using hkG
                rw [hd] at dk
                have bw : Below w.heap.size w wr := H.out.1.trans (hbG.mono (by omega))
                obtain ⟨x, hx⟩ : ∃ x, r[m]? = some x := ⟨r[m]'(by omega), List.getElem?_eq_getElem _⟩
                have hxr := HK.out.2.2.2.2.2.2.2.2.1 m x hx
                obtain ⟨j, rfl⟩ : ∃ j : Nat, x = (j : Int) := ⟨x.toNat, by omega⟩
                have hjn : j < n := by omega
                have i8 : (j : Int) < (n : Int) := by omega
                obtain ⟨b3, o3, rfl, hbl3, hc3⟩ := HK.out.2.2.2.2.2.2.2.2.2.1.r (by rintro rfl; simp at hx)
                have d1 := (bw.cell (p := ⟨bb, o + k, none⟩) hbl).trans HK.out.2.2.2.2.2.2.2.2.2.2
                rw [hr37] at d1
                have d2 := (bw.cell (p := ⟨b3, o3 + m, none⟩) hbl3).trans (hc3 m _ hx)
                have x0' : Cells wr w.heap.size 57 #[.slice (some ⟨bb, o, none⟩) n c, .slice A2 n2 c2] := (hbG.block _ zg).trans H.out.2.2.1
                have y0 := x0'.cell 0
                simp at y0
                have dj : wr.cell? ⟨g, j, none⟩ = some (.bool (decide (j ∈ G))) := by rw [hCG.cell]; exact boolsC_get _ _ _ hjn
                have fj := hCG.froz j
                by_cases hjG : j ∈ G
                · have hdj : decide (j ∈ G) = true := by simpa using hjG
                  rw [hdj] at dj
                  have hend : ∃ (m1 : Nat) (G1 : List Nat) (b3 : Bool), Value.bool b2 = .bool b3 ∧ Value.int .i64 ((m : Int) + 1) = .int .i64 (m1 : Int) ∧ m1 ≤ 37 ∧ FS R n G1 ∧ Cells wr g 4 (boolsC G1 n) ∧ Below g W0 wr ∧ F.length ≤ G1.length ∧ (b3 = true → F.length < G1.length) ∧ (b3 = false → (∀ i, i < k → ClAt R G1 i) ∧ (k ∈ G1 → ∀ m', m' < m1 → ∀ j : Nat, r[m']? = some (j : Int) → j ∈ G1)) :=
                    ⟨m + 1, G, b2, rfl, by simp, by omega, hG, hCG, hbG, hleG, hltG, fun hb0 => ⟨(hclG hb0).1, fun hk1 m' h' q hq => by
                      rcases Nat.lt_or_ge m' m with h1 | h1
                      · exact (hclG hb0).2 hk1 m' h1 q hq
                      · obtain rfl : m' = m := by omega
                        rw [hx] at hq
                        injection hq with hq
                        obtain rfl : j = q := by omega
                        exact hjG⟩⟩
                  have HEND := Lib.hid hend
                  clear hend fin hG hCG hbG hleG hltG hclG hd hkG bw hx hxr hc3 x0' hdj hjG
                  go_wp2_with fail
                  go_roundw
                  case rel => exact HEND.out
                  case measure => simp [RowKit.intOf]; omega
                · have hdj : decide (j ∈ G) = false := by simpa using hjG
                  rw [hdj] at dj
                  have hrch : Rch R j := .s (hG.lt k hkG).2 HK.out.2.2.2.2.2.2.1 hx
                  have hend : ∃ (m1 : Nat) (G1 : List Nat) (b3 : Bool), Value.bool true = .bool b3 ∧ Value.int .i64 ((m : Int) + 1) = .int .i64 (m1 : Int) ∧ m1 ≤ 37 ∧ FS R n G1 ∧ Cells (wr.setCell ⟨g, j, none⟩ (.bool true)) g 4 (boolsC G1 n) ∧ Below g W0 (wr.setCell ⟨g, j, none⟩ (.bool true)) ∧ F.length ≤ G1.length ∧ (b3 = true → F.length < G1.length) ∧ (b3 = false → (∀ i, i < k → ClAt R G1 i) ∧ (k ∈ G1 → ∀ m', m' < m1 → ∀ j : Nat, r[m']? = some (j : Int) → j ∈ G1)) :=
                    ⟨m + 1, G ++ [j], true, rfl, by simp, by omega, hG.snoc hjn hrch hjG, hCG.mark hjn, hbG.trans (set_below _ _ _ _ (Nat.le_refl _)), by simp; omega, fun _ => by simp; omega, fun hb0 => by cases hb0⟩
                  have HEND := Lib.hid hend
                  clear hend fin hG hCG hbG hleG hltG hclG hd hkG bw hx hxr hc3 x0' hdj hjG hrch
                  go_wp2_with fail
                  go_roundw
                  case rel => exact HEND.out
                  case measure => simp [RowKit.intOf]; omega
              · have hd : decide (k ∈ G) = false := by simpa using hkG
                rw [hd] at dk
                have HEND := Lib.hid (fin (fun _ h => absurd h hkG))
                clear fin hG hCG hbG hleG hltG hclG hd hkG
                go_wp2_with fail
                go_roundw
                case rel => exact HEND.out
                case measure => simp [RowKit.intOf]; omega
            · have i7 : ¬ (m : Int) < 37 := by omega
              have j7 : decide ((m : Int) < 37) = false := by simpa using i7
              have HEND := Lib.hid (fin (fun hb0 hk1 r' hr' q j hq => by
                rw [HK.out.2.2.2.2.2.2.1] at hr'
                injection hr' with hr'
                subst hr'
                have := (List.getElem?_eq_some_iff.1 hq).1
                exact (hclG hb0).2 hk1 q (by omega) j hq))
              clear fin hG hCG hbG hleG hltG hclG
              go_wp2_with fail
              go_roundw
              case rel => exact HEND.out
              case measure => simp [RowKit.intOf]; omega
        · obtain rfl : k = n := by omega
          have i5 : ¬ (k : Int) < (k : Int) := by omega
          have HM2 := Lib.hid (falsB_eq hC' hF'.nd (fun i hi => (hF'.lt i hi).1))
          have hend : ∃ (b1 : Bool) (F1 : List Nat), Value.bool b' = .bool b1 ∧ FS R k F1 ∧ Cells wr g 4 (boolsC F1 k) ∧ Below g W0 wr ∧ (b1 = false → ∀ i, i < k → ClAt R F1 i) := ⟨b', F', rfl, hF', hC', hb', hcl'⟩
          have HEND := Lib.hid hend
          have HLT := Lib.hid (And.intro hle hlt')
          clear hend hF' hC' hb' hcl' hle hlt'
          go_wp2_with fail
          go_roundw
          case rel => exact HEND.out
          case measure =>
            have a1 := HM1.out
            have a2 := HM2.out
            have a3 := HLT.out.1
            have a4 := HLT.out.2
            unfold msr
            cases b' with
            | false => simp; omega
            | true => have := a4 rfl; simp; omega
end Go.Proofs.YteamonmneoakpaaDoor

namespace Go.Proofs.YteamonmneoakpaaDoor
open Go.RowKit Go.Shelf Go.Lib Go.Great Go.Maps Go.Sort

structure GArg (w : World) (R : List (List Int)) (T : List Nat) (v : Value) (ms : List Int) (Am : Option Addr) (cm : Nat) : Prop where
  v : TbV w R T v
  m : IS w w.heap.size ms Am cm
  t : TZ w
  p : PW w
theorem GArg.below {w w' : World} {R : List (List Int)} {T : List Nat} {v : Value} {ms : List Int} {Am : Option Addr} {cm : Nat} (h : GArg w R T v ms Am cm) (hb : Below w.heap.size w w') : GArg w' R T v ms Am cm := ⟨h.v.on hb, h.m.on hb, h.t.below hb h.t.lt, h.p.below hb h.p.lt⟩
def GOk (w : World) (r : Ending) (w' : World) : Prop := r = .returned (.bool true) ∧ Below w.heap.size w w'
set_option maxHeartbeats 8000000 in
set_option maxRecDepth 100000 in
theorem rights_big {R : List (List Int)} {T : List Nat} {v : Value} (a : Int) (ms : List Int) (Am : Option Addr) (cm : Nat) (w : World) (h : GArg w R T v ms Am cm) (hbig : greatT R T = true ∨ 20 < ms.length) :
    Calls Tryd.prog 7 #[v, .int .i64 a, .slice Am ms.length cm] w (GOk w) := by
  have hm63 : ms.length ≤ 9223372036854775807 := by have := h.m.l; have := h.m.m; unfold maxLen at this; omega
  have hv := h.v
  obtain ⟨A, c, A2, c2, rfl, _, _⟩ := hv
  obtain ⟨W0, hW0⟩ : ∃ W, w.alloc (.cells #[.slice A R.length c, .slice A2 T.length c2] 57) = W := ⟨_, rfl⟩
  have b0 : Below w.heap.size w W0 := by rw [← hW0]; exact below_new _ _
  have C := great_tab (h.v.on b0)
  obtain ⟨n1, hn1⟩ : ∃ n, R.length = n := ⟨_, rfl⟩
  obtain ⟨n2, hn2⟩ : ∃ n, T.length = n := ⟨_, rfl⟩
  obtain ⟨nm, hnm⟩ : ∃ n, ms.length = n := ⟨_, rfl⟩
  rw [hn1, hn2] at C hW0 ⊢
  rw [hnm] at hbig hm63 ⊢
  have H := Lib.hid (And.intro h b0)
  have HW := Lib.hid hW0
  clear h hnm hn1 hn2 hW0 b0
  cases hg : greatT R T with
  | true =>
    rw [hg] at C
    have HC := Lib.hid C
    clear C hg hbig
    go_enter Tryd.func7, Tryd.ntmps7
    go_wp2_with fail
    rw [HW.out]
    refine HC.out.mono ?_
    rintro r w2 ⟨rfl, hb2⟩
    have b2 := H.out.2.trans (hb2.mono H.out.2.size)
    have a2 := H.out.1.below b2
    have C2 := Lib.hid (awake9_any w2 a2.t a2.p)
    have H2 := Lib.hid b2
    clear a2 hb2 b2
    go_wp2_with fail
    refine C2.out.mono ?_
    rintro r w3 ⟨rfl, hb3⟩
    have H3 := Lib.hid (H2.out.trans (hb3.mono H2.out.size))
    clear hb3
    go_wp2_with fail
    go_ret
    exact ⟨rfl, H3.out⟩
  | false =>
    rw [hg] at C
    have HC := Lib.hid C
    have h20 : 20 < nm := by
      rcases hbig with e | e
      · rw [hg] at e; cases e
      · exact e
    have i1 : (20 : Int) < (nm : Int) := by omega
    have j1 : decide ((20 : Int) < (nm : Int)) = true := by simpa using i1
    clear C hg hbig
    go_enter Tryd.func7, Tryd.ntmps7
    go_wp2_with fail
    rw [HW.out]
    refine HC.out.mono ?_
    rintro r w2 ⟨rfl, hb2⟩
    have b2 := H.out.2.trans (hb2.mono H.out.2.size)
    have a2 := H.out.1.below b2
    have C2 := Lib.hid (awake9_any w2 a2.t a2.p)
    have H2 := Lib.hid b2
    clear a2 hb2 b2
    go_wp2_with fail
    refine C2.out.mono ?_
    rintro r w3 ⟨rfl, hb3⟩
    have H3 := Lib.hid (H2.out.trans (hb3.mono H2.out.size))
    clear hb3
    go_wp2_with fail
    go_ret
    exact ⟨rfl, H3.out⟩
end Go.Proofs.YteamonmneoakpaaDoor

namespace Go.Proofs.YteamonmneoakpaaDoor
open Go.RowKit Go.Shelf Go.Lib Go.Great Go.Maps Go.Sort

def runD (R : List (List Int)) (T : List Nat) (a : Int) (ms : List Int) : Int := if rightT R T && okIx R.length a then runR R a ms else -1
theorem runD_any {R : List (List Int)} {T : List Nat} {v : Value} {w : World} (h : TbV w R T v) (a : Int) (ha : i64 a) (ms : List Int) (Am : Option Addr) (cm : Nat) (hms : IS w w.heap.size ms Am cm) :
    Calls Tryd.prog 29 #[v, .int .i64 a, .slice Am ms.length cm] w fun r w' => r = .returned (.int .i64 (runD R T a ms)) ∧ Below w.heap.size w w' := by
  unfold runD
  cases h1 : rightT R T with
  | false => exact run_wrong h a ha _ (.inl h1)
  | true =>
    cases h2 : okIx R.length a with
    | false => exact run_wrong h a ha _ (.inr h2)
    | true => exact run_right h a ha ms Am cm hms h1 h2
set_option maxHeartbeats 4000000 in
set_option maxRecDepth 100000 in
theorem reached_wrong {R : List (List Int)} {T : List Nat} {v : Value} {w : World} (h : TbV w R T v) (hr : rightT R T = false) : Calls Tryd.prog 32 #[v] w fun r w' => r = .returned (.slice none 0 0) ∧ Below w.heap.size w w' := by
  obtain ⟨A, c, A2, c2, rfl, hR, hT⟩ := h
  obtain ⟨W0, hW0⟩ : ∃ W, w.alloc (.cells #[.slice A R.length c, .slice A2 T.length c2] 54) = W := ⟨_, rfl⟩
  have b0 : Below w.heap.size w W0 := by rw [← hW0]; exact below_new _ _
  have C := rightD_any (R := R) (T := T) (v := .agg #[.slice A R.length c, .slice A2 T.length c2]) (w := W0) ⟨A, c, A2, c2, rfl, (hR.below b0).mono b0.size, (hT.below b0).mono b0.size⟩
  rw [hr] at C
  obtain ⟨n, hn⟩ : ∃ n, R.length = n := ⟨_, rfl⟩
  obtain ⟨n2, hn2⟩ : ∃ n, T.length = n := ⟨_, rfl⟩
  rw [hn, hn2] at C hW0 ⊢
  have H := Lib.hid b0
  have HW := Lib.hid hW0
  have HC := Lib.hid C
  clear b0 hW0 C hR hT hn hn2 hr
  go_enter Tryd.func32, Tryd.ntmps32
  go_wp2_with fail
  rw [HW.out]
  refine HC.out.mono ?_
  rintro r w2 ⟨rfl, hb⟩
  have HB := Lib.hid (H.out.trans (hb.mono H.out.size))
  clear hb
  go_wp2_with fail
  go_ret
  exact ⟨rfl, HB.out⟩
/-- How far a list that rises has been gone through. -/
structure Up (L : List Int) (i k : Nat) : Prop where
  le : k ≤ L.length
  lo : ∀ q x, q < k → L[q]? = some x → x < (i : Int)
  hi : ∀ q x, k ≤ q → L[q]? = some x → (i : Int) ≤ x
theorem up_get {L : List Int} (hu : L.Pairwise (· < ·)) {p q : Nat} {x y : Int} (hp : L[p]? = some x) (hq : L[q]? = some y) (h : p < q) : x < y := by
  obtain ⟨h1, e1⟩ := List.getElem?_eq_some_iff.1 hp
  obtain ⟨h2, e2⟩ := List.getElem?_eq_some_iff.1 hq
  have := List.pairwise_iff_getElem.1 hu p q h1 h2 h
  omega
theorem Up.begin {L : List Int} (h : ∀ x ∈ L, 0 ≤ x) : Up L 0 0 := ⟨by omega, fun q x hq _ => by omega, fun q x _ hx => h x (List.mem_of_getElem? hx)⟩
theorem Up.hit {L : List Int} {i k : Nat} (h : Up L i k) (hu : L.Pairwise (· < ·)) (hm : (i : Int) ∈ L) : L[k]? = some (i : Int) ∧ Up L (i + 1) (k + 1) := by
  obtain ⟨q, hq⟩ := List.getElem?_of_mem hm
  have hql := (List.getElem?_eq_some_iff.1 hq).1
  have hkq : k ≤ q := by
    rcases Nat.lt_or_ge q k with h1 | h1
    · have := h.lo q _ h1 hq; omega
    · exact h1
  have hk : L[k]? = some (L[k]'(by omega)) := List.getElem?_eq_getElem _
  have h1 := h.hi k _ (Nat.le_refl _) hk
  have hkk : q = k := by
    rcases Nat.lt_or_ge k q with h2 | h2
    · have := up_get hu hk hq h2; omega
    · omega
  subst hkk
  refine ⟨hq, ⟨by omega, fun p x hp hx => ?_, fun p x hp hx => ?_⟩⟩
  · rcases Nat.lt_or_ge p q with h2 | h2
    · have := h.lo p x h2 hx; omega
    · obtain rfl : p = q := by omega
      rw [hq] at hx
      injection hx with hx
      omega
  · have := up_get hu hq hx (by omega)
    omega
theorem Up.miss {L : List Int} {i k : Nat} (h : Up L i k) (hm : (i : Int) ∉ L) : Up L (i + 1) k :=
  ⟨h.le, fun q x hq hx => by have := h.lo q x hq hx; omega, fun q x hq hx => by
    have h1 := h.hi q x hq hx
    have h2 : x ≠ (i : Int) := fun e => hm (e ▸ List.mem_of_getElem? hx)
    omega⟩
theorem Up.done {L : List Int} {n k : Nat} (h : Up L n k) (hl : ∀ x ∈ L, x < (n : Int)) : k = L.length := by
  rcases Nat.lt_or_ge k L.length with h1 | h1
  · have h2 := h.hi k _ (Nat.le_refl _) (List.getElem?_eq_getElem h1)
    have h3 := hl _ (List.getElem_mem h1)
    omega
  · have := h.le; omega
set_option maxHeartbeats 16000000 in
set_option maxRecDepth 100000 in
theorem rights_wrong {R : List (List Int)} {T : List Nat} {v : Value} (a : Int) (ha : i64 a) (ms : List Int) (Am : Option Addr) (cm : Nat) (w : World) (h : GArg w R T v ms Am cm) (hg : greatT R T = false) (h20 : ms.length ≤ 20) (hr : rightT R T = false) :
    Calls Tryd.prog 7 #[v, .int .i64 a, .slice Am ms.length cm] w (GOk w) := by
  have hv := h.v
  obtain ⟨A, c, A2, c2, rfl, _, _⟩ := hv
  obtain ⟨W0, hW0⟩ : ∃ W, w.alloc (.cells #[.slice A R.length c, .slice A2 T.length c2] 57) = W := ⟨_, rfl⟩
  have b0 : Below w.heap.size w W0 := by rw [← hW0]; exact below_new _ _
  have x0 : Cells W0 w.heap.size 57 #[.slice A R.length c, .slice A2 T.length c2] := by rw [← hW0]; exact cells_new _ _ _
  have C := great_tab (h.v.on b0)
  have hrun : runD R T a ms = -1 := by unfold runD; rw [hr]; rfl
  have htel : tellR R T a = 0 := by unfold tellR; rw [hr]; rfl
  have hV := h.v
  obtain ⟨n1, hn1⟩ : ∃ n, R.length = n := ⟨_, rfl⟩
  obtain ⟨n2, hn2⟩ : ∃ n, T.length = n := ⟨_, rfl⟩
  obtain ⟨nm, hnm⟩ : ∃ n, ms.length = n := ⟨_, rfl⟩
  rw [hn1, hn2] at C hW0 x0 hV ⊢
  rw [hg] at C
  rw [hnm] at h20 ⊢
  have i1 : ¬ (20 : Int) < (nm : Int) := by omega
  have j1 : decide ((20 : Int) < (nm : Int)) = false := by simpa using i1
  have H := Lib.hid (And.intro h (And.intro b0 (And.intro x0 (And.intro hV (And.intro hr (And.intro hrun (And.intro htel (And.intro ha hnm))))))))
  have HW := Lib.hid hW0
  have HC := Lib.hid C
  clear h hnm hn1 hn2 hW0 b0 x0 hV hr hrun htel C hg ha
  go_enter Tryd.func7, Tryd.ntmps7
  go_wp2_with fail
  rw [HW.out]
  refine HC.out.mono ?_
  rintro r w2 ⟨rfl, hb2⟩
  have b2 := H.out.2.1.trans (hb2.mono H.out.2.1.size)
  have a2 := H.out.1.below b2
  have C2 := Lib.hid (awake9_any w2 a2.t a2.p)
  have x2 : Cells w2 w.heap.size 57 #[.slice A n1 c, .slice A2 n2 c2] := (hb2.block _ H.out.2.2.1.lt).trans H.out.2.2.1
  have H2 := Lib.hid (And.intro b2 x2)
  clear a2 hb2 b2 x2
  go_wp2_with fail
  refine C2.out.mono ?_
  rintro r w3 ⟨rfl, hb3⟩
  have b3 := H2.out.1.trans (hb3.mono H2.out.1.size)
  have x3 : Cells w3 w.heap.size 57 #[.slice A n1 c, .slice A2 n2 c2] := (hb3.block _ H2.out.2.lt).trans H2.out.2
  have e0 := x3.cell 0
  have e1 := x3.cell 1
  simp at e0 e1
  have H3 := Lib.hid (And.intro b3 x3)
  clear hb3 b3 x3
  go_wp2_with fail
  refine (to_tab A A2 n1 c n2 c2 w3).mono ?_
  rintro r w4 ⟨rfl, hb4⟩
  have b4 := H3.out.1.trans (hb4.mono H3.out.1.size)
  have x4 : Cells w4 w.heap.size 57 #[.slice A n1 c, .slice A2 n2 c2] := (hb4.block _ H3.out.2.lt).trans H3.out.2
  obtain ⟨W5, hW5⟩ : ∃ W, w4.alloc (.cells #[.slice A n1 c, .slice A2 n2 c2] 54) = W := ⟨_, rfl⟩
  have b5' : Below w4.heap.size w4 W5 := by rw [← hW5]; exact below_new _ _
  have b5 := b4.trans (b5'.mono b4.size)
  have x5 : Cells W5 w.heap.size 57 #[.slice A n1 c, .slice A2 n2 c2] := (b5'.block _ x4.lt).trans x4
  have y5 : Cells W5 w4.heap.size 54 #[.slice A n1 c, .slice A2 n2 c2] := by rw [← hW5]; exact cells_new _ _ _
  have C5 := Lib.hid (reached_wrong (H.out.2.2.2.1.on b5) H.out.2.2.2.2.1)
  have H5 := Lib.hid (And.intro b5 (And.intro x5 y5))
  have HW5 := Lib.hid hW5
  clear hb4 b4 x4 hW5 b5' b5 x5 y5 e0 e1
  go_wp2_with fail
  rw [HW5.out]
  refine C5.out.mono ?_
  rintro r w6 ⟨rfl, hb6⟩
  have b6 := H5.out.1.trans (hb6.mono H5.out.1.size)
  have x6 : Cells w6 w.heap.size 57 #[.slice A n1 c, .slice A2 n2 c2] := (hb6.block _ H5.out.2.1.lt).trans H5.out.2.1
  have y6 : Cells w6 w4.heap.size 54 #[.slice A n1 c, .slice A2 n2 c2] := (hb6.block _ H5.out.2.2.lt).trans H5.out.2.2
  have e0 := y6.cell 0
  have e1 := y6.cell 1
  simp at e0 e1
  have C6 := runD_any (H.out.2.2.2.1.on b6) a H.out.2.2.2.2.2.2.2.1 ms Am cm (H.out.1.m.on b6)
  rw [H.out.2.2.2.2.2.1, H.out.2.2.2.2.2.2.2.2] at C6
  have HC6 := Lib.hid C6
  have H6 := Lib.hid (And.intro b6 (And.intro x6 y6))
  clear hb6 b6 x6 y6 C6
  go_wp2_with fail
  refine HC6.out.mono ?_
  rintro r w7 ⟨rfl, hb7⟩
  have b7 := H6.out.1.trans (hb7.mono H6.out.1.size)
  have x7 : Cells w7 w.heap.size 57 #[.slice A n1 c, .slice A2 n2 c2] := (hb7.block _ H6.out.2.1.lt).trans H6.out.2.1
  have y7 : Cells w7 w4.heap.size 54 #[.slice A n1 c, .slice A2 n2 c2] := (hb7.block _ H6.out.2.2.lt).trans H6.out.2.2
  clear e0 e1
  have e0 := x7.cell 0
  have e1 := x7.cell 1
  simp at e0 e1
  have C7 := refRightD_any (H.out.2.2.2.1.on b7)
  rw [H.out.2.2.2.2.1] at C7
  have HC7 := Lib.hid C7
  have H7 := Lib.hid (And.intro b7 (And.intro x7 y7))
  clear hb7 b7 x7 y7 C7
  go_wp2_with fail
  refine HC7.out.mono ?_
  rintro r w8 ⟨rfl, hb8⟩
  have b8 := H7.out.1.trans (hb8.mono H7.out.1.size)
  have y8 : Cells w8 w4.heap.size 54 #[.slice A n1 c, .slice A2 n2 c2] := (hb8.block _ H7.out.2.2.lt).trans H7.out.2.2
  clear e0 e1
  have e0 := y8.cell 0
  have e1 := y8.cell 1
  simp at e0 e1
  have C8 := rightD_any (H.out.2.2.2.1.on b8)
  rw [H.out.2.2.2.2.1] at C8
  have HC8 := Lib.hid C8
  have H8 := Lib.hid (And.intro b8 y8)
  clear hb8 b8 y8 C8
  go_wp2_with fail
  refine HC8.out.mono ?_
  rintro r w9 ⟨rfl, hb9⟩
  have b9 := H8.out.1.trans (hb9.mono H8.out.1.size)
  have y9 : Cells w9 w4.heap.size 54 #[.slice A n1 c, .slice A2 n2 c2] := (hb9.block _ H8.out.2.lt).trans H8.out.2
  clear e0 e1
  have e0 := y9.cell 0
  have e1 := y9.cell 1
  simp at e0 e1
  have C9 := tellsD_any (H.out.2.2.2.1.on b9) a H.out.2.2.2.2.2.2.2.1
  rw [H.out.2.2.2.2.2.2.1] at C9
  have HC9 := Lib.hid C9
  have H9 := Lib.hid b9
  clear hb9 b9 y9 C9
  go_wp2_with fail
  refine HC9.out.mono ?_
  rintro r w10 ⟨rfl, hb10⟩
  have HF := Lib.hid (H9.out.trans (hb10.mono H9.out.size))
  clear hb10
  go_wp2_with fail
  go_ret
  exact ⟨rfl, HF.out⟩
end Go.Proofs.YteamonmneoakpaaDoor

namespace Go.Proofs.YteamonmneoakpaaDoor
open Go.RowKit Go.Shelf Go.Lib Go.Great Go.Maps Go.Sort

set_option maxHeartbeats 16000000 in
set_option maxRecDepth 100000 in
theorem rights_right {R : List (List Int)} {T : List Nat} {v : Value} (a : Int) (ha : i64 a) (ms : List Int) (Am : Option Addr) (cm : Nat) (w : World) (h : GArg w R T v ms Am cm) (hg : greatT R T = false) (h20 : ms.length ≤ 20) (hr : rightT R T = true) :
    Calls Tryd.prog 7 #[v, .int .i64 a, .slice Am ms.length cm] w (GOk w) := by
  have hv := h.v
  obtain ⟨A, c, A2, c2, rfl, _, _⟩ := hv
  obtain ⟨W0, hW0⟩ : ∃ W, w.alloc (.cells #[.slice A R.length c, .slice A2 T.length c2] 57) = W := ⟨_, rfl⟩
  have b0 : Below w.heap.size w W0 := by rw [← hW0]; exact below_new _ _
  have x0 : Cells W0 w.heap.size 57 #[.slice A R.length c, .slice A2 T.length c2] := by rw [← hW0]; exact cells_new _ _ _
  have C := great_tab (h.v.on b0)
  obtain ⟨Z, hrun⟩ : ∃ Z, runD R T a ms = Z := ⟨_, rfl⟩
  obtain ⟨Y, htel⟩ : ∃ Y, tellR R T a = Y := ⟨_, rfl⟩
  have hV := h.v
  obtain ⟨n1, hn1⟩ : ∃ n, R.length = n := ⟨_, rfl⟩
  obtain ⟨n2, hn2⟩ : ∃ n, T.length = n := ⟨_, rfl⟩
  obtain ⟨nm, hnm⟩ : ∃ n, ms.length = n := ⟨_, rfl⟩
  rw [hn1, hn2] at C hW0 x0 hV ⊢
  rw [hg] at C
  rw [hnm] at h20 ⊢
  have i1 : ¬ (20 : Int) < (nm : Int) := by omega
  have j1 : decide ((20 : Int) < (nm : Int)) = false := by simpa using i1
  have HN := Lib.hid (And.intro hn1 hn2)
  have H := Lib.hid (And.intro h (And.intro b0 (And.intro x0 (And.intro hV (And.intro hr (And.intro hrun (And.intro htel (And.intro ha hnm))))))))
  have hn1000 : n1 ≤ 1000 := by have := (right_parts hr).2.1; omega
  have HW := Lib.hid hW0
  have HC := Lib.hid C
  clear h hnm hn1 hn2 hW0 b0 x0 hV hr hrun htel C hg ha
  go_enter Tryd.func7, Tryd.ntmps7
  go_wp2_with fail
  rw [HW.out]
  refine HC.out.mono ?_
  rintro r w2 ⟨rfl, hb2⟩
  have b2 := H.out.2.1.trans (hb2.mono H.out.2.1.size)
  have a2 := H.out.1.below b2
  have C2 := Lib.hid (awake9_any w2 a2.t a2.p)
  have x2 : Cells w2 w.heap.size 57 #[.slice A n1 c, .slice A2 n2 c2] := (hb2.block _ H.out.2.2.1.lt).trans H.out.2.2.1
  have H2 := Lib.hid (And.intro b2 x2)
  clear a2 hb2 b2 x2
  go_wp2_with fail
  refine C2.out.mono ?_
  rintro r w3 ⟨rfl, hb3⟩
  have b3 := H2.out.1.trans (hb3.mono H2.out.1.size)
  have x3 : Cells w3 w.heap.size 57 #[.slice A n1 c, .slice A2 n2 c2] := (hb3.block _ H2.out.2.lt).trans H2.out.2
  have e0 := x3.cell 0
  have e1 := x3.cell 1
  simp at e0 e1
  have H3 := Lib.hid (And.intro b3 x3)
  clear hb3 b3 x3
  go_wp2_with fail
  refine (to_tab A A2 n1 c n2 c2 w3).mono ?_
  rintro r w4 ⟨rfl, hb4⟩
  have b4 := H3.out.1.trans (hb4.mono H3.out.1.size)
  have x4 : Cells w4 w.heap.size 57 #[.slice A n1 c, .slice A2 n2 c2] := (hb4.block _ H3.out.2.lt).trans H3.out.2
  obtain ⟨W5, hW5⟩ : ∃ W, w4.alloc (.cells #[.slice A n1 c, .slice A2 n2 c2] 54) = W := ⟨_, rfl⟩
  have b5' : Below w4.heap.size w4 W5 := by rw [← hW5]; exact below_new _ _
  have b5 := b4.trans (b5'.mono b4.size)
  have x5 : Cells W5 w.heap.size 57 #[.slice A n1 c, .slice A2 n2 c2] := (b5'.block _ x4.lt).trans x4
  have y5 : Cells W5 w4.heap.size 54 #[.slice A n1 c, .slice A2 n2 c2] := by rw [← hW5]; exact cells_new _ _ _
  have C5 := Lib.hid (reached_any (H.out.2.2.2.1.on b5) H.out.2.2.2.2.1)
  have H5 := Lib.hid (And.intro b5 (And.intro x5 y5))
  have HW5 := Lib.hid hW5
  clear hb4 b4 x4 hW5 b5' b5 x5 y5 e0 e1
  go_wp2_with fail
  rw [HW5.out]
  refine C5.out.mono ?_
  rintro r w6 ⟨L, AL, cL, rfl, hisL, hL, hb6⟩
  obtain ⟨nl, hnl⟩ : ∃ n, L.length = n := ⟨_, rfl⟩
  have hl63 : nl ≤ 9223372036854775807 := by have := hisL.l; have := hisL.m; unfold maxLen at this; omega
  rw [hnl]
  have b6 := H5.out.1.trans (hb6.mono H5.out.1.size)
  have x6 : Cells w6 w.heap.size 57 #[.slice A n1 c, .slice A2 n2 c2] := (hb6.block _ H5.out.2.1.lt).trans H5.out.2.1
  have y6 : Cells w6 w4.heap.size 54 #[.slice A n1 c, .slice A2 n2 c2] := (hb6.block _ H5.out.2.2.lt).trans H5.out.2.2
  have e0 := y6.cell 0
  have e1 := y6.cell 1
  simp at e0 e1
  have C6 := runD_any (H.out.2.2.2.1.on b6) a H.out.2.2.2.2.2.2.2.1 ms Am cm (H.out.1.m.on b6)
  rw [H.out.2.2.2.2.2.1, H.out.2.2.2.2.2.2.2.2] at C6
  have HC6 := Lib.hid C6
  have H6 := Lib.hid (And.intro b6 (And.intro x6 y6))
  have HL := Lib.hid (And.intro hisL (And.intro hL hnl))
  clear hb6 b6 x6 y6 C6 hisL hL hnl
  go_wp2_with fail
  refine HC6.out.mono ?_
  rintro r w7 ⟨rfl, hb7⟩
  have h67 := Lib.hid hb7
  have b7 := H6.out.1.trans (hb7.mono H6.out.1.size)
  have x7 : Cells w7 w.heap.size 57 #[.slice A n1 c, .slice A2 n2 c2] := (hb7.block _ H6.out.2.1.lt).trans H6.out.2.1
  have y7 : Cells w7 w4.heap.size 54 #[.slice A n1 c, .slice A2 n2 c2] := (hb7.block _ H6.out.2.2.lt).trans H6.out.2.2
  clear e0 e1
  have e0 := x7.cell 0
  have e1 := x7.cell 1
  simp at e0 e1
  have C7 := refRightD_any (H.out.2.2.2.1.on b7)
  rw [H.out.2.2.2.2.1] at C7
  have HC7 := Lib.hid C7
  have H7 := Lib.hid (And.intro b7 (And.intro x7 y7))
  clear hb7 b7 x7 y7 C7
  go_wp2_with fail
  refine HC7.out.mono ?_
  rintro r w8 ⟨rfl, hb8⟩
  have b8 := H7.out.1.trans (hb8.mono H7.out.1.size)
  have x8 : Cells w8 w.heap.size 57 #[.slice A n1 c, .slice A2 n2 c2] := (hb8.block _ H7.out.2.1.lt).trans H7.out.2.1
  have y8 : Cells w8 w4.heap.size 54 #[.slice A n1 c, .slice A2 n2 c2] := (hb8.block _ H7.out.2.2.lt).trans H7.out.2.2
  clear e0 e1
  have e0 := x8.cell 0
  have e1 := x8.cell 1
  simp at e0 e1
  have C8 := refReached_any (H.out.2.2.2.1.on b8) H.out.2.2.2.2.1
  have bL : Below w6.heap.size w6 w8 := (h67.out).trans (hb8.mono h67.out.size)
  have HC8 := Lib.hid C8
  have H8 := Lib.hid (And.intro b8 (And.intro x8 (And.intro y8 bL)))
  clear hb8 b8 x8 y8 C8 bL
  go_wp2_with fail
  refine HC8.out.mono ?_
  rintro r w9 ⟨g, F, rfl, hcF, hF, hb9⟩
  have b9 := H8.out.1.trans (hb9.mono H8.out.1.size)
  have x9 : Cells w9 w.heap.size 57 #[.slice A n1 c, .slice A2 n2 c2] := (hb9.block _ H8.out.2.1.lt).trans H8.out.2.1
  have y9 : Cells w9 w4.heap.size 54 #[.slice A n1 c, .slice A2 n2 c2] := (hb9.block _ H8.out.2.2.1.lt).trans H8.out.2.2.1
  have bL := H8.out.2.2.2.trans (hb9.mono H8.out.2.2.2.size)
  have his9 := HL.out.1.on bL
  rw [HN.out.1] at hcF
  have hlen : ∀ x ∈ L, x < (n1 : Int) := fun x hx => by
    obtain ⟨i, rfl, hi⟩ := (HL.out.2.1.m x).1 hx
    have := rch_lt H.out.2.2.2.2.1 hi
    rw [HN.out.1] at this
    omega
  have H9 := Lib.hid (And.intro b9 (And.intro x9 (And.intro y9 (And.intro his9 (And.intro hcF (And.intro hF hlen))))))
  rw [HN.out.1]
  clear hb9 b9 x9 y9 bL his9 hcF hF hlen e0 e1
  go_wp2_with fail
  go_loopw [11, 12] (fun u11 u12 wr => ∃ (i k : Nat), u12 = .int .i64 (i : Int) ∧ u11 = .int .i64 (k : Int) ∧ i ≤ n1 ∧ Up L i k ∧ wr = w9) (fun _ u12 _ => n1 - (RowKit.intOf u12).toNat)
  case atStart => exact ⟨0, 0, rfl, rfl, by omega, Up.begin (fun x hx => by obtain ⟨i, rfl, _⟩ := (HL.out.2.1.m x).1 hx; omega), rfl⟩
  case round =>
    obtain ⟨i, k, rfl, rfl, hi, hU, hw⟩ := hrel
    obtain rfl := hw.symm
    clear hw
    have hkl := hU.le
    rw [HL.out.2.2] at hkl
    by_cases hlt : i < n1
    · have i5 : (i : Int) < (n1 : Int) := by omega
      have dF : w9.cell? ⟨g, i, none⟩ = some (.bool (decide (i ∈ F))) := by rw [H9.out.2.2.2.2.1.cell]; exact boolsC_get _ _ _ hlt
      by_cases hmem : i ∈ F
      · have hd : decide (i ∈ F) = true := by simpa using hmem
        rw [hd] at dF
        have hmL : (i : Int) ∈ L := (HL.out.2.1.m _).2 ⟨i, rfl, (H9.out.2.2.2.2.2.1 i).1 hmem⟩
        obtain ⟨hq, hU2⟩ := hU.hit HL.out.2.1.up hmL
        have hkn : k < nl := by have := (List.getElem?_eq_some_iff.1 hq).1; have := HL.out.2.2; omega
        obtain ⟨b, o, rfl, hbl, hc⟩ := H9.out.2.2.2.1.r (by rintro rfl; simp at hq)
        have dL := hc k _ hq
        have k1 : ¬ (nl : Int) ≤ (k : Int) := by omega
        have k2 : decide ((nl : Int) ≤ (k : Int)) = false := by simpa using k1
        have k3 : ((i : Int) != (i : Int)) = false := by simp
        have k4 : ((i : Int) == (i : Int)) = true := by simp
        have k5 : (k : Int) < (nl : Int) := by omega
        have HU := Lib.hid hU2
        clear hU hU2 hq hmL hd hmem hc
        go_wp2_with fail
        go_roundw
        case rel => exact ⟨i + 1, k + 1, by go_num, by go_num, by omega, HU.out, trivial⟩
        case measure => simp [RowKit.intOf]; omega
      · have hd : decide (i ∈ F) = false := by simpa using hmem
        rw [hd] at dF
        have hmL : (i : Int) ∉ L := fun hx => by
          obtain ⟨q, e, hr⟩ := (HL.out.2.1.m _).1 hx
          obtain rfl : i = q := by omega
          exact hmem ((H9.out.2.2.2.2.2.1 i).2 hr)
        have HU := Lib.hid (hU.miss hmL)
        clear hU hmL hd hmem
        go_wp2_with fail
        go_roundw
        case rel => exact ⟨i + 1, k, by go_num, rfl, by omega, HU.out, trivial⟩
        case measure => simp [RowKit.intOf]; omega
    · obtain rfl : i = n1 := by omega
      have i5 : ¬ (i : Int) < (i : Int) := by omega
      have hk := hU.done H9.out.2.2.2.2.2.2
      rw [HL.out.2.2] at hk
      subst hk
      have k3 : ((k : Int) != (k : Int)) = false := by simp
      have k4 : ((k : Int) == (k : Int)) = true := by simp
      have e0 := H9.out.2.2.1.cell 0
      have e1 := H9.out.2.2.1.cell 1
      simp at e0 e1
      have C10 := rightD_any (H.out.2.2.2.1.on H9.out.1)
      rw [H.out.2.2.2.2.1] at C10
      have HC10 := Lib.hid C10
      clear C10 hU
      go_wp2_with fail
      refine HC10.out.mono ?_
      rintro r w10 ⟨rfl, hb10⟩
      have b10 := H9.out.1.trans (hb10.mono H9.out.1.size)
      have x10 : Cells w10 w.heap.size 57 #[.slice A i c, .slice A2 n2 c2] := (hb10.block _ H9.out.2.1.lt).trans H9.out.2.1
      have y10 : Cells w10 w4.heap.size 54 #[.slice A i c, .slice A2 n2 c2] := (hb10.block _ H9.out.2.2.1.lt).trans H9.out.2.2.1
      clear e0 e1
      have e0 := x10.cell 0
      have e1 := x10.cell 1
      have e2 := y10.cell 0
      have e3 := y10.cell 1
      simp at e0 e1 e2 e3
      have ha := H.out.2.2.2.2.2.2.2.1
      unfold i64 at ha
      have H10 := Lib.hid (And.intro b10 (And.intro x10 y10))
      clear hb10 b10 x10 y10
      by_cases hneg : a < 0
      · have j0 : decide (a < 0) = true := by simpa using hneg
        have hok : okIx R.length a = false := by unfold okIx; rw [show decide (0 ≤ a) = false by simp; omega]; rfl
        have hz : Z = -1 := by rw [← H.out.2.2.2.2.2.1]; unfold runD; rw [hok]; simp
        have hy : Y = 0 := by rw [← H.out.2.2.2.2.2.2.1]; unfold tellR; rw [hok]; simp
        subst hz hy
        have C11 := tellsD_any (H.out.2.2.2.1.on H10.out.1) a H.out.2.2.2.2.2.2.2.1
        rw [H.out.2.2.2.2.2.2.1] at C11
        have HC11 := Lib.hid C11
        clear hok C11
        go_wp2_with fail
        refine HC11.out.mono ?_
        rintro r w11 ⟨rfl, hb11⟩
        have HF := Lib.hid (H10.out.1.trans (hb11.mono H10.out.1.size))
        clear hb11
        go_wp2_with fail
        go_ret
        exact ⟨rfl, HF.out⟩
      · have j0 : decide (a < 0) = false := by simpa using hneg
        by_cases hge : (i : Int) ≤ a
        · have j1 : decide ((i : Int) ≤ a) = true := by simpa using hge
          have hok : okIx R.length a = false := by unfold okIx; rw [HN.out.1, show decide (a < (i : Int)) = false by simp; omega]; simp
          have hz : Z = -1 := by rw [← H.out.2.2.2.2.2.1]; unfold runD; rw [hok]; simp
          have hy : Y = 0 := by rw [← H.out.2.2.2.2.2.2.1]; unfold tellR; rw [hok]; simp
          subst hz hy
          have C11 := tellsD_any (H.out.2.2.2.1.on H10.out.1) a H.out.2.2.2.2.2.2.2.1
          rw [H.out.2.2.2.2.2.2.1] at C11
          have HC11 := Lib.hid C11
          clear hok C11
          go_wp2_with fail
          refine HC11.out.mono ?_
          rintro r w11 ⟨rfl, hb11⟩
          have HF := Lib.hid (H10.out.1.trans (hb11.mono H10.out.1.size))
          clear hb11
          go_wp2_with fail
          go_ret
          exact ⟨rfl, HF.out⟩
        · have j1 : decide ((i : Int) ≤ a) = false := by simpa using hge
          obtain ⟨an, rfl⟩ : ∃ an : Nat, a = (an : Int) := ⟨a.toNat, by omega⟩
          have hani : an < i := by omega
          have j2 : decide (i ≤ an) = false := by simp; omega
          have hok : okIx R.length (an : Int) = true := by unfold okIx; rw [HN.out.1]; simp; omega
          have hz : Z = runR R (an : Int) ms := by rw [← H.out.2.2.2.2.2.1]; unfold runD; rw [hok, H.out.2.2.2.2.1]; rfl
          have hz2 : T[an]? = some Y := by
            rw [← H.out.2.2.2.2.2.2.1]
            unfold tellR
            rw [hok, H.out.2.2.2.2.1]
            have : an < T.length := by have := (right_parts H.out.2.2.2.2.1).2.2.1; have := HN.out.1; omega
            simp [List.getD_eq_getElem?_getD, this]
          have HZ := Lib.hid (And.intro hok (And.intro hz hz2))
          clear hok hz hz2 e2 e3
          go_wp2_with fail
          clear e0 e1
          go_loopw [13, 14] (fun u13 u14 wr => ∃ (m : Nat) (x : Int), u14 = .int .i64 (m : Int) ∧ u13 = .int .i64 x ∧ m ≤ nm ∧ (ms.take m).all okM = true ∧ (ms.take m).foldl (stR R) (an : Int) = x ∧ okIx i x = true ∧ Below w10.heap.size w10 wr) (fun _ u14 _ => nm - (RowKit.intOf u14).toNat)
          case atStart => exact ⟨0, an, rfl, rfl, by omega, rfl, rfl, by have := HZ.out.1; rw [HN.out.1] at this; exact this, Below.refl _ _⟩
          case round =>
            obtain ⟨m, x, rfl, rfl, hm, hall, hfx, hxi, hb⟩ := hrel
            have bw := H10.out.1.trans (hb.mono H10.out.1.size)
            have x11 : Cells wr w.heap.size 57 #[.slice A i c, .slice A2 n2 c2] := (hb.block _ H10.out.2.1.lt).trans H10.out.2.1
            have y11 : Cells wr w4.heap.size 54 #[.slice A i c, .slice A2 n2 c2] := (hb.block _ H10.out.2.2.lt).trans H10.out.2.2
            have e0 := x11.cell 0
            have e1 := x11.cell 1
            have e2 := y11.cell 0
            have e3 := y11.cell 1
            simp at e0 e1 e2 e3
            by_cases hml : m < nm
            · have i6 : (m : Int) < (nm : Int) := by omega
              obtain ⟨y, hy⟩ : ∃ y, ms[m]? = some y := ⟨ms[m]'(by have := H.out.2.2.2.2.2.2.2.2; omega), List.getElem?_eq_getElem _⟩
              have his := H.out.1.m
              obtain ⟨b, o, rfl, hbl, hc⟩ := his.r (by rintro rfl; simp at hy)
              have d0 := (bw.cell (p := ⟨b, o + m, none⟩) hbl).trans (hc m y hy)
              have h64 := his.i y (List.mem_of_getElem? hy)
              unfold i64 at h64
              have ht := allT_take okM hy
              rw [hall] at ht
              cases hok : okM y with
              | false =>
                have hz1 : Z = -1 := by rw [HZ.out.2.1]; unfold runR; rw [allT_miss hy hok]; rfl
                subst hz1
                have hok' : ¬ (0 ≤ y ∧ y < 37) := fun hh => by simp [okM, hh.1, hh.2] at hok
                have HE := Lib.hid bw
                clear hall hfx hxi hb bw x11 y11 e0 e1 e2 e3 hy his hc ht hok
                by_cases hy0 : y < 0
                · have k0 : decide (y < 0) = true := by simpa using hy0
                  go_wp2_with fail
                  go_ret
                  exact ⟨rfl, HE.out⟩
                · have k0 : decide (y < 0) = false := by simpa using hy0
                  have k1 : (36 : Int) < y := by omega
                  have k2 : decide ((36 : Int) < y) = true := by simpa using k1
                  go_wp2_with fail
                  go_ret
                  exact ⟨rfl, HE.out⟩
              | true =>
                rw [hok] at ht
                have hy2 := hok
                unfold okM at hy2
                simp only [Bool.and_eq_true, decide_eq_true_eq] at hy2
                obtain ⟨y0, y1⟩ := hy2
                obtain ⟨r', z, hr1, hr2, hr3, hr4⟩ := stR_ok H.out.2.2.2.2.1 (a := x) (m := y) (by rw [HN.out.1]; exact hxi) hok
                rw [HN.out.1] at hr4
                have hft := foldl_take (R := R) (a := (an : Int)) hy
                rw [hfx, hr3] at hft
                obtain ⟨An, cn, A2n, c2n, ev, hRn, _⟩ := H.out.1.v
                injection ev with ev
                simp only [Array.mk.injEq, List.cons.injEq, and_true] at ev
                obtain ⟨ev1, ev2⟩ := ev
                injection ev1 with ev1 ev3 ev4
                subst ev1 ev4
                obtain ⟨b', o', rfl, hbl', hc'⟩ := hRn.r (by rintro rfl; simp at hr1)
                obtain ⟨A', c', d1, his', _⟩ := hc' x.toNat r' hr1
                obtain ⟨b2, o2, rfl, hbl2, hc2⟩ := his'.r (by rintro rfl; simp at hr2)
                have d2 := (bw.cell (p := ⟨b', o' + x.toNat, none⟩) hbl').trans d1
                have d3 := (bw.cell (p := ⟨b2, o2 + y.toNat, none⟩) hbl2).trans (hc2 y.toNat z hr2)
                have hrl : r'.length = 37 := ((right_parts H.out.2.2.2.2.1).2.2.2 _ _ hr1).1
                rw [hrl] at d2
                have hx' := hxi
                unfold okIx at hx'
                simp only [Bool.and_eq_true, decide_eq_true_eq] at hx'
                obtain ⟨x1, x2⟩ := hx'
                have k0 : decide (y < 0) = false := by simp; omega
                have k1 : decide ((36 : Int) < y) = false := by simp; omega
                have k2 : ¬ y < 0 := by omega
                have k3 : ¬ (36 : Int) < y := by omega
                have HK := Lib.hid (And.intro ht (And.intro hft (And.intro hr4 hb)))
                clear ht hft hr1 hr2 hr3 hr4 hall hfx hxi hb bw x11 y11 hy his hc hok hRn hc' d1 his' hc2 hrl e1 e2 e3
                go_wp2_with fail
                go_quiet (fail)
                rename_i nq _
                have HB2 := Lib.hid (below_drewN HK.out.2.2.2 nq)
                go_wp2_with fail
                go_roundw
                case rel => exact ⟨m + 1, z, by go_num, rfl, by omega, by rw [HK.out.1]; rfl, HK.out.2.1, HK.out.2.2.1, HB2.out⟩
                case measure => simp [RowKit.intOf]; omega
            · obtain rfl : m = nm := by omega
              have i6 : ¬ (m : Int) < (m : Int) := by omega
              have em : ms.take m = ms := by rw [← H.out.2.2.2.2.2.2.2.2, List.take_length]
              rw [em] at hall hfx
              have hz1 : Z = x := by rw [HZ.out.2.1]; unfold runR; rw [hall]; exact hfx
              subst hz1
              have hzz : (Z == Z) = true := by simp
              have hyy : ((Y : Int) == (Y : Int)) = true := by simp
              obtain ⟨An, cn, A2n, c2n, ev, _, hTn⟩ := H.out.1.v
              injection ev with ev
              simp only [Array.mk.injEq, List.cons.injEq, and_true] at ev
              obtain ⟨ev1, ev2⟩ := ev
              injection ev2 with ev2 ev3 ev4
              subst ev2 ev4
              obtain ⟨b, o, rfl, hbl, hc⟩ := hTn.r (by have := HZ.out.2.2; rintro rfl; simp at this)
              have d0 := (bw.cell (p := ⟨b, o + an, none⟩) hbl).trans (hc an Y HZ.out.2.2)
              have tv := H.out.2.2.2.1.on bw
              have D1 : ∀ d os, Calls Tryd.prog 31 #[.agg #[.slice A i c, .slice (some ⟨b, o, none⟩) n2 c2], .int .i64 (an : Int)] (grow (redrawn wr d) os) fun e w'' => e = .returned (.int .u64 (Y : Int)) ∧ ∃ p : Regrown, w'' = grow (redrawn wr p.d) p.os := fun d os => by
                have := tellsD_any (tv.on (below_regrown wr d os)) (an : Int) H.out.2.2.2.2.2.2.2.1
                rw [H.out.2.2.2.2.2.2.1] at this
                exact Calls.regrown_of this
              have g0 : wr.cell? ⟨w.heap.size, 1, none⟩ = some (.slice (some ⟨b, o, none⟩) n2 c2) := x11.cell 1
              have g1 : wr.cell? ⟨w4.heap.size, 0, none⟩ = some (.slice A i c) := y11.cell 0
              have g2 : wr.cell? ⟨w4.heap.size, 1, none⟩ = some (.slice (some ⟨b, o, none⟩) n2 c2) := y11.cell 1
              have q0 := cell_regrown g0
              have q1 := cell_regrown g1
              have q2 := cell_regrown g2
              have q3 := cell_regrown d0
              have hn2 : (an : Int) < (n2 : Int) := by have := (right_parts H.out.2.2.2.2.1).2.2.1; have := HN.out.1; have := HN.out.2; omega
              have HE := Lib.hid bw
              clear hall hfx hxi hb bw x11 y11 hTn hc tv em e0 e1 e2 e3 d0 g0 g1 g2
              go_wp2_with fail
              refine wp_region_quiet_below (by kernel_rfl) (by kernel_rfl) ?_
              repeat (go_big_quiet_step (exact D1 _ _))
              refine wpQuiet_nil ?_
              intro _ hw'
              obtain ⟨⟨dq, osq⟩, hw''⟩ := hw'
              subst hw''
              have HB2 := Lib.hid (HE.out.trans ((below_regrown wr dq osq).mono HE.out.size))
              clear q0 q1 q2 q3 D1
              go_wp2_with fail
              go_ret
              exact ⟨rfl, HB2.out⟩
end Go.Proofs.YteamonmneoakpaaDoor

namespace Go.Proofs.YteamonmneoakpaaDoor
open Go.ChangeShapes Go.WideShapes Go.ChangeAt Go.RowKit Go.Shelf
open Go.Lib

theorem rights_any {R : List (List Int)} {T : List Nat} {v : Value} (a : Int) (ha : i64 a) (ms : List Int) (Am : Option Addr) (cm : Nat) (w : World) (h : GArg w R T v ms Am cm) : Calls Tryd.prog 7 #[v, .int .i64 a, .slice Am ms.length cm] w (GOk w) := by
  by_cases hb : greatT R T = true ∨ 20 < ms.length
  · exact rights_big a ms Am cm w h hb
  · have hg : greatT R T = false := by
      cases hq : greatT R T with
      | false => rfl
      | true => exact absurd (.inl hq) hb
    have h20 : ms.length ≤ 20 := by omega
    cases hr : rightT R T with
    | false => exact rights_wrong a ha ms Am cm w h hg h20 hr
    | true => exact rights_right a ha ms Am cm w h hg h20 hr
set_option maxRecDepth 100000 in
theorem dfaRights_lifted (os : Os) (started : os.Started) (H : Type) (enc : TypeId × Value → H) :
    ReturnsInHanded {} Tryd.checked os 7 .any (fun w args => (Rows.dfaRightsSpec.pre enc Tryd.prog Tryd.f7 [] false w args ∧ laidMetH Tryd.prog laid3 w) ∧ sizedMet enc Tryd.prog Tryd.f7 (OpenSpec.ofChange Rows.dfaRightsSpec) false w args)
      (Rows.dfaRightsSpec.post enc Tryd.prog Tryd.f7 false true false false) := by
  refine returnsInHanded_of_change_and (C := Tryd.checked) (X := fun w _ => laidMetH Tryd.prog laid3 w) (fun _ _ _ hh h => h.of_heap hh) own started (by kernel_rfl) Tryd.func7
    (ChangeSpec.witness_shaped (enc := enc) (C := Tryd.checked) (os := os) (X := fun w _ => laidMetH Tryd.prog laid3 w) false (World.laidAll Tryd.prog os laid3) #[.agg #[.slice none 0 0, .slice none 0 0], .int .i64 0, .slice none 0 0] 8 (World.laidAll_os _ _ _)
      (World.shaped_of_ZipB (by kernel_rfl) (by kernel_rfl)) (by kernel_rfl) (by kernel_rfl) (by kernel_rfl)
      (by rw [MakeChecks.laidMetH_plain _ _ _ (by kernel_rfl)]; exact laidMet_laidAll _ (by kernel_rfl) (by kernel_rfl))) ?_
  intro W base args ds gs before hval0 hW _ _ hL _
  have hval : ∀ (j : Nat) t v, Tryd.f7.params[j]? = some t → args[j]? = some v → Value.okWide Tryd.prog W .any base t v := hval0
  have hW' := hW
  obtain ⟨p, q, hA0, hV, rfl, _, _⟩ := hW
  have hA : DataW.TrodAll enc Tryd.prog W 0 (fun _ => true) true Tryd.f7.params.toList args.toList ds p := hA0
  rw [Tryd.params7] at hA hval
  obtain ⟨v0, vs0, d0, ds0, p0, q0, hargs, rfl, rfl, h0, r0⟩ := trodAll_cons hA
  obtain ⟨v1, vs1, d1, ds1, p1, q1, rfl, rfl, rfl, h1, r1⟩ := trodAll_cons r0
  obtain ⟨v2, vs2, d2, ds2, p2, q2, rfl, rfl, rfl, h2, r2⟩ := trodAll_cons r1
  obtain ⟨rfl, rfl, rfl⟩ := trodAll_nil r2
  obtain rfl : args = #[v0, v1, v2] := by cases args; simp_all
  obtain ⟨rfl, rfl⟩ := trodVars_none hV
  have t0 := h0
  have lt0 : ∀ x ∈ p0, x.block < W.heap.size := by obtain ⟨m, hm⟩ := t0; exact DataW.trod_lt m _ _ _ hm
  have t2 := h2
  have lt2 : ∀ x ∈ p2, x.block < W.heap.size := by obtain ⟨m, hm⟩ := t2; exact DataW.trod_lt m _ _ _ hm
  obtain ⟨R, T, hv⟩ := tb_of_arg (hval 0 57 v0 rfl rfl) h0
  obtain ⟨a, rfl, rfl, rfl, wa⟩ := open_int Tryd.underlying3 (hval 1 3 v1 rfl rfl) h1
  have ba : i64 a := by
    have : -9223372036854775808 ≤ a ∧ a ≤ 9223372036854775807 := by simpa [Lit.wf, IntKind.min, IntKind.max, IntKind.signed, IntKind.bits] using wa
    exact this
  obtain ⟨ms, Am, cm, rfl, hm, _⟩ := is_of_arg (hval 2 23 v2 rfl rfl) h2
  rw [MakeChecks.laidMetH_plain _ _ _ (by kernel_rfl)] at hL
  have hZ : TZ W := tz_of_reads (Lib.laidMet.reads hL (.tail _ (.head _)))
  have hPw : PW W := pw_of_reads (Lib.laidMet.reads hL (.tail _ (.tail _ (.head _))))
  clear hA0 hval0
  refine (rights_any a ba ms Am cm W ⟨hv, hm, hZ, hPw⟩).mono fun e W' ⟨he, bel⟩ => ?_
  subst he
  exact ⟨_, rfl, _, _, _, [], _, [], hW', trodAll_mk1 (shut_bool Tryd.underlying4 _), (trodAll_cons_mk (Below.trod laidOut (by kernel_rfl) (of_decide_eq_true (by kernel_rfl)) t0 bel lt0) (trodAll_cons_mk (shut_int Tryd.underlying3 wa) (trodAll_cons_mk (Below.trod laidOut (by kernel_rfl) (of_decide_eq_true (by kernel_rfl)) t2 bel lt2) trodAll_mk0))), rfl, bel.frame _, fun h => by cases h⟩

theorem dfaRights_row : Rows.DfaRightsSaid :=
  OpenClaim.holds_of_wide 7 Tryd.f7 rfl rfl rfl rfl rfl rfl rfl ⟨rfl, rfl, rfl, rfl, rfl⟩ rfl rfl rfl rfl rfl (by kernel_rfl) Tryd.func7 (by kernel_rfl)
    (of_decide_eq_true (by kernel_rfl)) (by unfold Func.isWrapper; first | (rw [if_pos (by decide +kernel)]; kernel_rfl) | (rw [if_neg (by decide +kernel)]; exact ⟨rfl, rfl⟩))
    (fun os started H enc _ => dfaRights_lifted os started H enc)

/-- THE STATEMENT. -/
theorem dfaRights_holds : Rows.DfaRightsCardSaid :=
  Claim7.holds_tied_plain_at .later [] [.data, .data, .data] true (true, "ce949b5f571b8c1e328b4fea5526353e7f726185cc188170a27722b370ed44f0") false
    dfaRights_row (fun _ h => by cases h) (by kernel_rfl) (fun _ h => by cases h) dfaRights_row_tie rfl ⟨rfl, rfl⟩ (by kernel_rfl) rfl
    (fun f fn hf hfn => by
      obtain rfl : f = 7 := Option.some.inj ((show Tryd.prog.funcNamed Rows.dfaRightsRow.func = some 7 by kernel_rfl).symm.trans hf) |>.symm
      obtain rfl : fn = Tryd.f7 := (Option.some.inj (Tryd.func7.symm.trans hfn)).symm
      exact ⟨by kernel_rfl, fun j t ht => by
        rw [Tryd.params7] at ht
        have hm : t ∈ [57, 3, 23] := by simpa using Array.mem_of_getElem? ht
        have hall : ([57, 3, 23].all fun u => !Tryd.prog.wantsStandIn u) = true := by kernel_rfl
        exact (show Tryd.prog.wantsStandIn t = false by simpa using List.all_eq_true.1 hall t hm)⟩)
    (by kernel_rfl)
#print axioms dfaRights_holds
end Go.Proofs.YteamonmneoakpaaDoor

