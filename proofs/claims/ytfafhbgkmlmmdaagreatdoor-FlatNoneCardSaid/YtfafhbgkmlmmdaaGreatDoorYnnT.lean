/-
  FlatNone HOLDS: of nil nothing comes, and what is told is its own: for every input, in whatever memory in which the listed tables read as the library lays them.
  FlatNone's walk.
  Contract: Items.Is, of the same items.
  Contracts: flat.Item.
-/
import Derived.Deep.CutRange
import Derived.Laws.ResultCell
import Derived.Lay
import Derived.LaidOnce
import Derived.LaidMore
import Derived.ChangeOld
import Derived.ShutString
import Derived.SevenTiedAt
import Derived.Test.YtfafhbgkmlmmdaaGreatDoorYqa
import Derived.Test.YtfafhbgkmlmmdaaGreatDoorYqb
import Derived.Test.YtfafhbgkmlmmdaaGreatDoorYqc
import Derived.Test.YtfafhbgkmlmmdaaGreatDoorYqd
import Derived.Test.YtfafhbgkmlmmdaaGreatDoorYqe
import Derived.Test.YtfafhbgkmlmmdaaGreatDoorYqf
import Derived.Test.YtfafhbgkmlmmdaaGreatDoorYqg
import Derived.Test.YtfafhbgkmlmmdaaGreatDoorYqh
import Derived.Test.YtfafhbgkmlmmdaaGreatDoorYqi
import Derived.Test.YtfafhbgkmlmmdaaGreatDoorYqj
import Derived.Test.YtfafhbgkmlmmdaaGreatDoorYqk
import Derived.Test.YtfafhbgkmlmmdaaGreatDoorYql
import Derived.Test.YtfafhbgkmlmmdaaGreatDoorYqm
import Derived.Test.YtfafhbgkmlmmdaaGreatDoorYqn
import Derived.Test.YtfafhbgkmlmmdaaGreatDoorYqo
import Derived.Test.YtfafhbgkmlmmdaaGreatDoorYqp
import Derived.Test.YtfafhbgkmlmmdaaGreatDoorYqq
import Derived.Test.YtfafhbgkmlmmdaaGreatDoorYqr
import Derived.Test.YtfafhbgkmlmmdaaGreatDoorYqs
import Derived.Test.YtfafhbgkmlmmdaaGreatDoorYqt
import Derived.Test.YtfafhbgkmlmmdaaGreatDoorYqu
import Derived.Test.YtfafhbgkmlmmdaaGreatDoorYqv
import Derived.Test.YtfafhbgkmlmmdaaGreatDoorYqw
import Derived.Test.YtfafhbgkmlmmdaaGreatDoorCards
import Derived.Test.YtfafhbgkmlmmdaaGreatDoorTie
set_option maxRecDepth 100000
set_option maxHeartbeats 40000000
namespace Go.Proofs.YtfafhbgkmlmmdaaGreatDoor.K
open Go.RowKit Go.Shelf Go.Lib Go.Maps
attribute [local irreducible] nmL ofN
def it0 : IT := ⟨0, 0, 0, false, false, false, false⟩
def itemA (l : List IT) (a : Int) : Value := .tuple #[.agg (itA (if 0 ≤ a then (l[a.toNat]?).getD it0 else it0)), .bool (decide (0 ≤ a ∧ a < (l.length : Int)))]
theorem results_it {fn : Func} {p u : Tmp} (h : fn.results = #[.cell p 52, .tmp u]) (tmps : Array Value) (w : World) (g : Nat) (cs : Array Value)
  (hp : tmps.getD p undef = .pointer (some ⟨g, 0, none⟩)) (hg : Cells w g 52 cs) (hi : (Tryz.prog.info? 52).map (·.size) = some cs.size) (x : Value) (hx : tmps.getD u undef = x) :
  (results fn tmps).run Tryz.prog w = .ok (.tuple #[.agg cs, x]) w := by
 rw [results_cell_tmp h, hp, hx]
 have := run_loadVar_row (P := Tryz.prog) w g 52 52 cs (0, 0) _ hg Tryz.underlying52 rfl hi
 simp [asAddr, this, Result.andThen]
theorem fitem_any (g : Nat) (xs : List Nat) (l : List IT) (w : World) (h : FL w w.heap.size g xs l) (a : Int) :
  Calls Tryz.prog 28 #[.pointer (some ⟨g, 0, none⟩), .int .i64 a] w fun e w' => e = .returned (itemA l a) ∧ Below w.heap.size w w' := by
 obtain ⟨W1, hW1⟩ : ∃ V, w.alloc (.cells (itA it0) 52) = V := ⟨_, rfl⟩
 have b1 : Below w.heap.size w W1 := by rw [← hW1]; exact below_new _ _
 have x1 : Cells W1 w.heap.size 52 (itA it0) := by rw [← hW1]; exact cells_new _ _ _
 have h' := h.on b1
 obtain ⟨A, cap, A2, c2, h1, h2, _, h4⟩ := h'.c
 have CL := flen_any g xs l W1 h'
 unfold it0 itA at hW1 x1
 have HX := Lib.hid (And.intro x1 b1)
 have HW := Lib.hid hW1
 clear hW1 b1 x1 h h'
 by_cases c0 : a < 0
 ·have hv : itemA l a = .tuple #[.agg #[.int .i32 0, .int .i64 0, .int .i64 0, .bool false, .bool false, .bool false, .bool false], .bool false] := by unfold itemA; rw [if_neg (by omega), decide_eq_false (by omega)]; rfl
  rw [hv]
  clear hv h1 h2 h4 CL
  go_enter Tryz.func28, Tryz.ntmps28
  go_upto_region 1 with fail
  rw [HW.out]
  go_upto_region 2 with fail
  obtain ⟨f0, f1, f2, f3, f4, f5, f6⟩ := froz7 HX.out.1
  obtain ⟨y0, y1, y2, y3, y4, y5, y6⟩ := cell7 HX.out.1
  obtain ⟨W3, hW3, z7, kk⟩ := set7 HX.out.1 (.int .i32 0) (.int .i64 0) (.int .i64 0) (.bool false) (.bool false) (.bool false) (.bool false)
  have Z7 := Lib.hid (And.intro z7 (HX.out.2.trans (kk.below (B := w.heap.size) HX.out.2.size (fun k hk e => by omega))))
  have HW3 := Lib.hid hW3
  clear z7 kk hW3
  go_wp2_with fail
  rw [HW3.out]
  clear f0 f1 f2 f3 f4 f5 f6 y0 y1 y2 y3 y4 y5 y6
  refine bodyPost_ret (v := .tuple #[.agg #[.int .i32 0, .int .i64 0, .int .i64 0, .bool false, .bool false, .bool false, .bool false], .bool false]) (results_it rfl _ _ w.heap.size _ rfl Z7.out.1 (by kernel_rfl) _ rfl) rfl ⟨rfl, Z7.out.2⟩
 by_cases c1 : (l.length : Int) ≤ a
 ·have hv : itemA l a = .tuple #[.agg #[.int .i32 0, .int .i64 0, .int .i64 0, .bool false, .bool false, .bool false, .bool false], .bool false] := by
   unfold itemA
   rw [if_pos (by omega), decide_eq_false (by omega), List.getElem?_eq_none (by omega)]
   rfl
  rw [hv]
  obtain ⟨n, hn⟩ : ∃ q, l.length = q := ⟨_, rfl⟩
  rw [hn] at CL c1
  clear hv h1 h2 h4 hn
  go_enter Tryz.func28, Tryz.ntmps28
  go_upto_region 1 with fail
  rw [HW.out]
  go_upto_region 2 with fail
  refine CL.mono ?_
  rintro e _ ⟨rfl, rfl⟩
  clear CL
  go_upto_region 2 with fail
  obtain ⟨f0, f1, f2, f3, f4, f5, f6⟩ := froz7 HX.out.1
  obtain ⟨y0, y1, y2, y3, y4, y5, y6⟩ := cell7 HX.out.1
  obtain ⟨W3, hW3, z7, kk⟩ := set7 HX.out.1 (.int .i32 0) (.int .i64 0) (.int .i64 0) (.bool false) (.bool false) (.bool false) (.bool false)
  have Z7 := Lib.hid (And.intro z7 (HX.out.2.trans (kk.below (B := w.heap.size) HX.out.2.size (fun k hk e => by omega))))
  have HW3 := Lib.hid hW3
  clear z7 kk hW3
  go_wp2_with fail
  rw [HW3.out]
  clear f0 f1 f2 f3 f4 f5 f6 y0 y1 y2 y3 y4 y5 y6
  refine bodyPost_ret (v := .tuple #[.agg #[.int .i32 0, .int .i64 0, .int .i64 0, .bool false, .bool false, .bool false, .bool false], .bool false]) (results_it rfl _ _ w.heap.size _ rfl Z7.out.1 (by kernel_rfl) _ rfl) rfl ⟨rfl, Z7.out.2⟩
 obtain ⟨i, rfl⟩ : ∃ i : Nat, a = (i : Int) := ⟨a.toNat, by omega⟩
 obtain ⟨x, hx⟩ : ∃ x, l[i]? = some x := ⟨_, List.getElem?_eq_getElem (by omega)⟩
 have hle := h4.le
 obtain ⟨b, o, rfl, hbb, a0, a1, a2, a3, a4, a5, a6⟩ := isA_cells h4 hx
 have hv : itemA l (i : Int) = .tuple #[.agg (itA x), .bool true] := by
  unfold itemA
  rw [if_pos (by omega), decide_eq_true (by omega), Int.toNat_natCast, hx]
  rfl
 rw [hv]
 obtain ⟨n, hn⟩ : ∃ q, l.length = q := ⟨_, rfl⟩
 rw [hn] at CL c1 h2 hle
 have i1 : (i : Int) < (n : Int) := by omega
 obtain ⟨xr, xa, xz, xf, xx, xn, xp⟩ := x
 unfold itA
 simp only at a0 a1 a2 a3 a4 a5 a6 ⊢
 have aa1 : W1.cell? ⟨b, o + (i * 7 + 1), none⟩ = some (.int .i64 xa) := by rw [← Nat.add_assoc]; exact a1
 have aa2 : W1.cell? ⟨b, o + (i * 7 + 2), none⟩ = some (.int .i64 xz) := by rw [← Nat.add_assoc]; exact a2
 have aa3 : W1.cell? ⟨b, o + (i * 7 + 3), none⟩ = some (.bool xf) := by rw [← Nat.add_assoc]; exact a3
 have aa4 : W1.cell? ⟨b, o + (i * 7 + 4), none⟩ = some (.bool xx) := by rw [← Nat.add_assoc]; exact a4
 have aa5 : W1.cell? ⟨b, o + (i * 7 + 5), none⟩ = some (.bool xn) := by rw [← Nat.add_assoc]; exact a5
 have aa6 : W1.cell? ⟨b, o + (i * 7 + 6), none⟩ = some (.bool xp) := by rw [← Nat.add_assoc]; exact a6
 clear hv h1 h4 hn hx hbb
 go_enter Tryz.func28, Tryz.ntmps28
 go_upto_region 1 with fail
 rw [HW.out]
 go_upto_region 3 with fail
 refine CL.mono ?_
 rintro e _ ⟨rfl, rfl⟩
 clear CL
 go_upto_region 3 with fail
 obtain ⟨f0, f1, f2, f3, f4, f5, f6⟩ := froz7 HX.out.1
 obtain ⟨y0, y1, y2, y3, y4, y5, y6⟩ := cell7 HX.out.1
 obtain ⟨W3, hW3, z7, kk⟩ := set7 HX.out.1 (.int .i32 xr) (.int .i64 xa) (.int .i64 xz) (.bool xf) (.bool xx) (.bool xn) (.bool xp)
 have Z7 := Lib.hid (And.intro z7 (HX.out.2.trans (kk.below (B := w.heap.size) HX.out.2.size (fun k hk e => by omega))))
 have HW3 := Lib.hid hW3
 clear z7 kk hW3
 go_wp2_with fail
 rw [HW3.out]
 clear f0 f1 f2 f3 f4 f5 f6 y0 y1 y2 y3 y4 y5 y6
 refine bodyPost_ret (v := .tuple #[.agg #[.int .i32 xr, .int .i64 xa, .int .i64 xz, .bool xf, .bool xx, .bool xn, .bool xp], .bool true]) (results_it rfl _ _ w.heap.size _ rfl Z7.out.1 (by kernel_rfl) _ rfl) rfl ⟨rfl, Z7.out.2⟩
theorem items_is (l : List IT) (A A' : Option Addr) (c c' : Nat) (w : World) (h : IsA w w.heap.size l A c) (h' : R.IsA w w.heap.size l A' c') (hl : l.length ≤ 10000) :
  Calls Tryz.prog 29 #[.slice A l.length c, .slice A' l.length c'] w fun e w' => e = .returned (.bool true) ∧ Below w.heap.size w w' := by
 have hle := h.le
 have hmx := h.mx
 have hle' := h'.le
 have hmx' := h'.mx
 obtain ⟨n, hn⟩ : ∃ q, l.length = q := ⟨_, rfl⟩
 rw [hn] at hle hle' hl ⊢
 have HH := Lib.hid (And.intro h (And.intro h' (And.intro hn hl)))
 clear h h' hn hl
 go_enter Tryz.func29, Tryz.ntmps29
 go_wp2_with fail
 go_loopw [5, 6, 7] (fun i _ _ wr => ∃ k : Nat, k ≤ n ∧ i = .int .i64 (k : Int) ∧ Below w.heap.size w wr) (fun i _ _ _ => n - (RowKit.intOf i).toNat)
 case atStart => exact ⟨0, Nat.zero_le _, rfl, Below.refl _ _⟩
 case round =>
  obtain ⟨k, hk, rfl, hb⟩ := hrel
  by_cases hkn : k < n
  case neg =>
   obtain rfl : k = n := by omega
   have i1 : ¬ (k : Int) < (k : Int) := by omega
   have HZ := Lib.hid hb
   clear hb hkn hk
   go_wp2_with fail
   go_ret
   exact ⟨rfl, HZ.out⟩
  case pos =>
   have i1 : (k : Int) < (n : Int) := by omega
   have ik : (k : Int) ≤ 100000 := by have := HH.out.2.2.2; omega
   obtain ⟨x, hx⟩ : ∃ x, l[k]? = some x := ⟨_, List.getElem?_eq_getElem (by rw [HH.out.2.2.1]; exact hkn)⟩
   obtain ⟨b1, o1, rfl, hb1, a0, a1, a2, a3, a4, a5, a6⟩ := isA_cells (HH.out.1.below hb) hx
   obtain ⟨b2, o2, rfl, hb2, d0, d1, d2, d3, d4, d5, d6⟩ := R.isA_cells (HH.out.2.1.below hb) hx
   obtain ⟨xr, xa, xz, xf, xx, xn, xp⟩ := x
   simp only at a0 a1 a2 a3 a4 a5 a6 d0 d1 d2 d3 d4 d5 d6
   have HB := Lib.hid hb
   clear hb hx hb1 hb2
   go_upto_region 6 with fail
   go_cut [6, 7] from 19 to 26 (fun a b wx => ∃ g h : Nat, a = .pointer (some ⟨g, 0, none⟩) ∧ b = .pointer (some ⟨h, 0, none⟩) ∧ Cells wx g 52 #[.int .i32 xr, .int .i64 xa, .int .i64 xz, .bool xf, .bool xx, .bool xn, .bool xp] ∧ Cells wx h 51 #[.int .i32 xr, .int .i64 xa, .int .i64 xz, .bool xf, .bool xx, .bool xn, .bool xp] ∧ Below w.heap.size w wx)
   case first =>
    have ag0 : ∀ P : Later (fun _ => False) wr, P.W.cell? ⟨b1, o1 + k * 7, none⟩ = some (.int .i32 xr) := fun P => cell_later a0 (fun hf => hf) P
    have ag1 : ∀ P : Later (fun _ => False) wr, P.W.cell? ⟨b1, o1 + k * 7 + 1, none⟩ = some (.int .i64 xa) := fun P => cell_later a1 (fun hf => hf) P
    have ah1 : ∀ P : Later (fun _ => False) wr, P.W.cell? ⟨b1, o1 + (k * 7 + 1), none⟩ = some (.int .i64 xa) := fun P => by rw [← Nat.add_assoc]; exact ag1 P
    have ag2 : ∀ P : Later (fun _ => False) wr, P.W.cell? ⟨b1, o1 + k * 7 + 2, none⟩ = some (.int .i64 xz) := fun P => cell_later a2 (fun hf => hf) P
    have ah2 : ∀ P : Later (fun _ => False) wr, P.W.cell? ⟨b1, o1 + (k * 7 + 2), none⟩ = some (.int .i64 xz) := fun P => by rw [← Nat.add_assoc]; exact ag2 P
    have ag3 : ∀ P : Later (fun _ => False) wr, P.W.cell? ⟨b1, o1 + k * 7 + 3, none⟩ = some (.bool xf) := fun P => cell_later a3 (fun hf => hf) P
    have ah3 : ∀ P : Later (fun _ => False) wr, P.W.cell? ⟨b1, o1 + (k * 7 + 3), none⟩ = some (.bool xf) := fun P => by rw [← Nat.add_assoc]; exact ag3 P
    have ag4 : ∀ P : Later (fun _ => False) wr, P.W.cell? ⟨b1, o1 + k * 7 + 4, none⟩ = some (.bool xx) := fun P => cell_later a4 (fun hf => hf) P
    have ah4 : ∀ P : Later (fun _ => False) wr, P.W.cell? ⟨b1, o1 + (k * 7 + 4), none⟩ = some (.bool xx) := fun P => by rw [← Nat.add_assoc]; exact ag4 P
    have ag5 : ∀ P : Later (fun _ => False) wr, P.W.cell? ⟨b1, o1 + k * 7 + 5, none⟩ = some (.bool xn) := fun P => cell_later a5 (fun hf => hf) P
    have ah5 : ∀ P : Later (fun _ => False) wr, P.W.cell? ⟨b1, o1 + (k * 7 + 5), none⟩ = some (.bool xn) := fun P => by rw [← Nat.add_assoc]; exact ag5 P
    have ag6 : ∀ P : Later (fun _ => False) wr, P.W.cell? ⟨b1, o1 + k * 7 + 6, none⟩ = some (.bool xp) := fun P => cell_later a6 (fun hf => hf) P
    have ah6 : ∀ P : Later (fun _ => False) wr, P.W.cell? ⟨b1, o1 + (k * 7 + 6), none⟩ = some (.bool xp) := fun P => by rw [← Nat.add_assoc]; exact ag6 P
    have dg0 : ∀ P : Later (fun _ => False) wr, P.W.cell? ⟨b2, o2 + k * 7, none⟩ = some (.int .i32 xr) := fun P => cell_later d0 (fun hf => hf) P
    have dg1 : ∀ P : Later (fun _ => False) wr, P.W.cell? ⟨b2, o2 + k * 7 + 1, none⟩ = some (.int .i64 xa) := fun P => cell_later d1 (fun hf => hf) P
    have dh1 : ∀ P : Later (fun _ => False) wr, P.W.cell? ⟨b2, o2 + (k * 7 + 1), none⟩ = some (.int .i64 xa) := fun P => by rw [← Nat.add_assoc]; exact dg1 P
    have dg2 : ∀ P : Later (fun _ => False) wr, P.W.cell? ⟨b2, o2 + k * 7 + 2, none⟩ = some (.int .i64 xz) := fun P => cell_later d2 (fun hf => hf) P
    have dh2 : ∀ P : Later (fun _ => False) wr, P.W.cell? ⟨b2, o2 + (k * 7 + 2), none⟩ = some (.int .i64 xz) := fun P => by rw [← Nat.add_assoc]; exact dg2 P
    have dg3 : ∀ P : Later (fun _ => False) wr, P.W.cell? ⟨b2, o2 + k * 7 + 3, none⟩ = some (.bool xf) := fun P => cell_later d3 (fun hf => hf) P
    have dh3 : ∀ P : Later (fun _ => False) wr, P.W.cell? ⟨b2, o2 + (k * 7 + 3), none⟩ = some (.bool xf) := fun P => by rw [← Nat.add_assoc]; exact dg3 P
    have dg4 : ∀ P : Later (fun _ => False) wr, P.W.cell? ⟨b2, o2 + k * 7 + 4, none⟩ = some (.bool xx) := fun P => cell_later d4 (fun hf => hf) P
    have dh4 : ∀ P : Later (fun _ => False) wr, P.W.cell? ⟨b2, o2 + (k * 7 + 4), none⟩ = some (.bool xx) := fun P => by rw [← Nat.add_assoc]; exact dg4 P
    have dg5 : ∀ P : Later (fun _ => False) wr, P.W.cell? ⟨b2, o2 + k * 7 + 5, none⟩ = some (.bool xn) := fun P => cell_later d5 (fun hf => hf) P
    have dh5 : ∀ P : Later (fun _ => False) wr, P.W.cell? ⟨b2, o2 + (k * 7 + 5), none⟩ = some (.bool xn) := fun P => by rw [← Nat.add_assoc]; exact dg5 P
    have dg6 : ∀ P : Later (fun _ => False) wr, P.W.cell? ⟨b2, o2 + k * 7 + 6, none⟩ = some (.bool xp) := fun P => cell_later d6 (fun hf => hf) P
    have dh6 : ∀ P : Later (fun _ => False) wr, P.W.cell? ⟨b2, o2 + (k * 7 + 6), none⟩ = some (.bool xp) := fun P => by rw [← Nat.add_assoc]; exact dg6 P
    clear a0 a1 a2 a3 a4 a5 a6 d0 d1 d2 d3 d4 d5 d6
    refine wp_region_mixF (fun i => if 8 ≤ i then 2 else 0) [0, 1, 2, 3, 4, 5, 6, 7] 4 (fun w' => ∃ P : Later (fun _ => False) wr, w' = P.W) (by kernel_rfl) (by kernel_rfl) ⟨⟨_, Fz.drew wr⟩, rfl⟩ ?_
    simp only [opsAt, List.filterMap_cons, List.filterMap_nil, List.getElem?_toArray, List.getElem?_cons_zero, List.getElem?_cons_succ]
    change wpQuiet _ _ _ _ [_, _, _, _, _, _, _, _] _
    repeat (go_big_quiet_step (fail))
    refine wpQuiet_nil ?_
    clear ag0 ag1 ag2 ag3 ag4 ag5 ag6 ah1 ah2 ah3 ah4 ah5 ah6 dg0 dg1 dg2 dg3 dg4 dg5 dg6 dh1 dh2 dh3 dh4 dh5 dh6
    have zd : Fz (fun _ => False) wr { wr with drawn := wr.drawn + 1 } := Fz.drew wr
    obtain ⟨wd, hwd⟩ : ∃ V, ({ wr with drawn := wr.drawn + 1 } : World) = V := ⟨_, rfl⟩
    rw [hwd] at zd ⊢
    clear hwd
    have HD := Lib.hid zd
    clear zd
    refine wpFreeM_step [8, 9] (by kernel_rfl) ⟨?_, ?_, trivial⟩
    ·refine wpOp_of_list rfl ?_
     have t1 := cells_new wd #[.int .i32 0, .int .i64 0, .int .i64 0, .bool false, .bool false, .bool false, .bool false] 52
     have b1' := below_new wd (.cells #[.int .i32 0, .int .i64 0, .int .i64 0, .bool false, .bool false, .bool false, .bool false] 52)
     obtain ⟨W1, hW1⟩ : ∃ V, wd.alloc (.cells #[.int .i32 0, .int .i64 0, .int .i64 0, .bool false, .bool false, .bool false, .bool false] 52) = V := ⟨_, rfl⟩
     rw [hW1] at t1 b1'
     have t2 := cells_new W1 #[.int .i32 0, .int .i64 0, .int .i64 0, .bool false, .bool false, .bool false, .bool false] 51
     have b2' := below_new W1 (.cells #[.int .i32 0, .int .i64 0, .int .i64 0, .bool false, .bool false, .bool false, .bool false] 51)
     obtain ⟨W2, hW2⟩ : ∃ V, W1.alloc (.cells #[.int .i32 0, .int .i64 0, .int .i64 0, .bool false, .bool false, .bool false, .bool false] 51) = V := ⟨_, rfl⟩
     rw [hW2] at t2 b2'
     have z1 := HD.out.trans (Fz.of_below b1')
     have z2 := z1.trans (Fz.of_below b2')
     have s1 : wd.heap.size < W1.heap.size := t1.lt
     have t1' := t1.on b2'
     have sd : wr.heap.size ≤ wd.heap.size := HD.out.size
     have HW1 := Lib.hid hW1
     have HW2 := Lib.hid hW2
     have H2 := Lib.hid (And.intro z1 (And.intro z2 (And.intro t1' (And.intro t2 (And.intro s1 sd)))))
     clear t1 b1' t2 b2' z1 z2 s1 t1' sd hW1 hW2
     go_wp2_with fail
     rw [HW1.out]
     refine ⟨⟨⟨_, H2.out.1⟩, rfl⟩, ?_⟩
     refine wpFreeM_step [9] (by kernel_rfl) ⟨?_, trivial⟩
     refine wpOp_of_list rfl ?_
     go_wp2_with fail
     rw [HW2.out]
     refine ⟨⟨⟨_, H2.out.2.1⟩, rfl⟩, ?_⟩
     obtain ⟨f0, f1, f2, f3, f4, f5, f6⟩ := froz7 (H2.out.2.2.1)
     obtain ⟨y0, y1, y2, y3, y4, y5, y6⟩ := cell7 (H2.out.2.2.1)
     refine wpFreeM_step [10] (by kernel_rfl) ⟨?_, trivial⟩
     refine wpOp_of_list rfl ?_
     go_wp2_with fail
     obtain ⟨W3, hW3, z7, kk⟩ := set7 (H2.out.2.2.1) (.int .i32 xr) (.int .i64 xa) (.int .i64 xz) (.bool xf) (.bool xx) (.bool xn) (.bool xp)
     rw [hW3]
     clear hW3 f0 f1 f2 f3 f4 f5 f6 y0 y1 y2 y3 y4 y5 y6
     have zz : Fz (fun _ => False) wr W3 := ⟨kk.os.trans H2.out.2.1.os, kk.tape.trans H2.out.2.1.tape, kk.output.trans H2.out.2.1.output, Nat.le_trans H2.out.2.1.size kk.size, fun z hz hn => (kk.block z (Nat.lt_of_lt_of_le hz H2.out.2.1.size) (by have h1 := H2.out.2.2.2.2; omega)).trans (H2.out.2.1.block z hz hn)⟩
     have oo' : Cells W3 W1.heap.size 51 #[.int .i32 0, .int .i64 0, .int .i64 0, .bool false, .bool false, .bool false, .bool false] := kk.cellsK (show ¬ W1.heap.size = wd.heap.size by have h1 := H2.out.2.2.2.2; omega) H2.out.2.2.2.1
     have H3 := Lib.hid (And.intro zz (And.intro z7 oo'))
     clear zz z7 oo' kk
     refine ⟨⟨⟨_, H3.out.1⟩, rfl⟩, ?_⟩
     obtain ⟨f0, f1, f2, f3, f4, f5, f6⟩ := froz7 (H3.out.2.2)
     obtain ⟨y0, y1, y2, y3, y4, y5, y6⟩ := cell7 (H3.out.2.2)
     refine wpFreeM_step [11] (by kernel_rfl) ⟨?_, trivial⟩
     refine wpOp_of_list rfl ?_
     go_wp2_with fail
     obtain ⟨W4, hW4, z7, kk⟩ := set7 (H3.out.2.2) (.int .i32 xr) (.int .i64 xa) (.int .i64 xz) (.bool xf) (.bool xx) (.bool xn) (.bool xp)
     rw [hW4]
     clear hW4 f0 f1 f2 f3 f4 f5 f6 y0 y1 y2 y3 y4 y5 y6
     have zz : Fz (fun _ => False) wr W4 := ⟨kk.os.trans H3.out.1.os, kk.tape.trans H3.out.1.tape, kk.output.trans H3.out.1.output, Nat.le_trans H3.out.1.size kk.size, fun z hz hn => (kk.block z (Nat.lt_of_lt_of_le hz H3.out.1.size) (by have h1 := H2.out.2.2.2.2; omega)).trans (H3.out.1.block z hz hn)⟩
     have oo' : Cells W4 wd.heap.size 52 #[.int .i32 xr, .int .i64 xa, .int .i64 xz, .bool xf, .bool xx, .bool xn, .bool xp] := kk.cellsK (show ¬ wd.heap.size = W1.heap.size by have h1 := H2.out.2.2.2.2; omega) H3.out.2.1
     have H4 := Lib.hid (And.intro zz (And.intro z7 oo'))
     clear zz z7 oo' kk
     refine ⟨⟨⟨_, H4.out.1⟩, rfl⟩, ?_⟩
     unfold wpFreeM
     go_wp2_with fail
     go_meet
     exact ⟨_, _, rfl, rfl, H4.out.2.2, H4.out.2.1, HB.out.trans (H4.out.1.below HB.out.size (fun _ _ hf => hf))⟩
    ·refine wpOp_of_list rfl ?_
     have t1 := cells_new wd #[.int .i32 0, .int .i64 0, .int .i64 0, .bool false, .bool false, .bool false, .bool false] 51
     have b1' := below_new wd (.cells #[.int .i32 0, .int .i64 0, .int .i64 0, .bool false, .bool false, .bool false, .bool false] 51)
     obtain ⟨W1, hW1⟩ : ∃ V, wd.alloc (.cells #[.int .i32 0, .int .i64 0, .int .i64 0, .bool false, .bool false, .bool false, .bool false] 51) = V := ⟨_, rfl⟩
     rw [hW1] at t1 b1'
     have t2 := cells_new W1 #[.int .i32 0, .int .i64 0, .int .i64 0, .bool false, .bool false, .bool false, .bool false] 52
     have b2' := below_new W1 (.cells #[.int .i32 0, .int .i64 0, .int .i64 0, .bool false, .bool false, .bool false, .bool false] 52)
     obtain ⟨W2, hW2⟩ : ∃ V, W1.alloc (.cells #[.int .i32 0, .int .i64 0, .int .i64 0, .bool false, .bool false, .bool false, .bool false] 52) = V := ⟨_, rfl⟩
     rw [hW2] at t2 b2'
     have z1 := HD.out.trans (Fz.of_below b1')
     have z2 := z1.trans (Fz.of_below b2')
     have s1 : wd.heap.size < W1.heap.size := t1.lt
     have t1' := t1.on b2'
     have sd : wr.heap.size ≤ wd.heap.size := HD.out.size
     have HW1 := Lib.hid hW1
     have HW2 := Lib.hid hW2
     have H2 := Lib.hid (And.intro z1 (And.intro z2 (And.intro t1' (And.intro t2 (And.intro s1 sd)))))
     clear t1 b1' t2 b2' z1 z2 s1 t1' sd hW1 hW2
     go_wp2_with fail
     rw [HW1.out]
     refine ⟨⟨⟨_, H2.out.1⟩, rfl⟩, ?_⟩
     refine wpFreeM_step [8] (by kernel_rfl) ⟨?_, trivial⟩
     refine wpOp_of_list rfl ?_
     go_wp2_with fail
     rw [HW2.out]
     refine ⟨⟨⟨_, H2.out.2.1⟩, rfl⟩, ?_⟩
     obtain ⟨f0, f1, f2, f3, f4, f5, f6⟩ := froz7 (H2.out.2.2.2.1)
     obtain ⟨y0, y1, y2, y3, y4, y5, y6⟩ := cell7 (H2.out.2.2.2.1)
     refine wpFreeM_step [10] (by kernel_rfl) ⟨?_, trivial⟩
     refine wpOp_of_list rfl ?_
     go_wp2_with fail
     obtain ⟨W3, hW3, z7, kk⟩ := set7 (H2.out.2.2.2.1) (.int .i32 xr) (.int .i64 xa) (.int .i64 xz) (.bool xf) (.bool xx) (.bool xn) (.bool xp)
     rw [hW3]
     clear hW3 f0 f1 f2 f3 f4 f5 f6 y0 y1 y2 y3 y4 y5 y6
     have zz : Fz (fun _ => False) wr W3 := ⟨kk.os.trans H2.out.2.1.os, kk.tape.trans H2.out.2.1.tape, kk.output.trans H2.out.2.1.output, Nat.le_trans H2.out.2.1.size kk.size, fun z hz hn => (kk.block z (Nat.lt_of_lt_of_le hz H2.out.2.1.size) (by have h1 := H2.out.2.2.2.2; omega)).trans (H2.out.2.1.block z hz hn)⟩
     have oo' : Cells W3 wd.heap.size 51 #[.int .i32 0, .int .i64 0, .int .i64 0, .bool false, .bool false, .bool false, .bool false] := kk.cellsK (show ¬ wd.heap.size = W1.heap.size by have h1 := H2.out.2.2.2.2; omega) H2.out.2.2.1
     have H3 := Lib.hid (And.intro zz (And.intro z7 oo'))
     clear zz z7 oo' kk
     refine ⟨⟨⟨_, H3.out.1⟩, rfl⟩, ?_⟩
     obtain ⟨f0, f1, f2, f3, f4, f5, f6⟩ := froz7 (H3.out.2.2)
     obtain ⟨y0, y1, y2, y3, y4, y5, y6⟩ := cell7 (H3.out.2.2)
     refine wpFreeM_step [11] (by kernel_rfl) ⟨?_, trivial⟩
     refine wpOp_of_list rfl ?_
     go_wp2_with fail
     obtain ⟨W4, hW4, z7, kk⟩ := set7 (H3.out.2.2) (.int .i32 xr) (.int .i64 xa) (.int .i64 xz) (.bool xf) (.bool xx) (.bool xn) (.bool xp)
     rw [hW4]
     clear hW4 f0 f1 f2 f3 f4 f5 f6 y0 y1 y2 y3 y4 y5 y6
     have zz : Fz (fun _ => False) wr W4 := ⟨kk.os.trans H3.out.1.os, kk.tape.trans H3.out.1.tape, kk.output.trans H3.out.1.output, Nat.le_trans H3.out.1.size kk.size, fun z hz hn => (kk.block z (Nat.lt_of_lt_of_le hz H3.out.1.size) (by have h1 := H2.out.2.2.2.2; omega)).trans (H3.out.1.block z hz hn)⟩
     have oo' : Cells W4 W1.heap.size 52 #[.int .i32 xr, .int .i64 xa, .int .i64 xz, .bool xf, .bool xx, .bool xn, .bool xp] := kk.cellsK (show ¬ W1.heap.size = wd.heap.size by have h1 := H2.out.2.2.2.2; omega) H3.out.2.1
     have H4 := Lib.hid (And.intro zz (And.intro z7 oo'))
     clear zz z7 oo' kk
     refine ⟨⟨⟨_, H4.out.1⟩, rfl⟩, ?_⟩
     unfold wpFreeM
     go_wp2_with fail
     go_meet
     exact ⟨_, _, rfl, rfl, H4.out.2.2, H4.out.2.1, HB.out.trans (H4.out.1.below HB.out.size (fun _ _ hf => hf))⟩
   case rest =>
    obtain ⟨g, h, rfl, rfl, cg, ch, hb⟩ := hcut
    clear a0 a1 a2 a3 a4 a5 a6 d0 d1 d2 d3 d4 d5 d6
    have m0 : wc.cell? ⟨g, 0, none⟩ = some (.int .i32 xr) := cg.cell 0
    have m1 : wc.cell? ⟨g, 1, none⟩ = some (.int .i64 xa) := cg.cell 1
    have m2 : wc.cell? ⟨g, 2, none⟩ = some (.int .i64 xz) := cg.cell 2
    have m3 : wc.cell? ⟨g, 3, none⟩ = some (.bool xf) := cg.cell 3
    have m4 : wc.cell? ⟨g, 4, none⟩ = some (.bool xx) := cg.cell 4
    have m5 : wc.cell? ⟨g, 5, none⟩ = some (.bool xn) := cg.cell 5
    have m6 : wc.cell? ⟨g, 6, none⟩ = some (.bool xp) := cg.cell 6
    have p0 : wc.cell? ⟨h, 0, none⟩ = some (.int .i32 xr) := ch.cell 0
    have p1 : wc.cell? ⟨h, 1, none⟩ = some (.int .i64 xa) := ch.cell 1
    have p2 : wc.cell? ⟨h, 2, none⟩ = some (.int .i64 xz) := ch.cell 2
    have p3 : wc.cell? ⟨h, 3, none⟩ = some (.bool xf) := ch.cell 3
    have p4 : wc.cell? ⟨h, 4, none⟩ = some (.bool xx) := ch.cell 4
    have p5 : wc.cell? ⟨h, 5, none⟩ = some (.bool xn) := ch.cell 5
    have p6 : wc.cell? ⟨h, 6, none⟩ = some (.bool xp) := ch.cell 6
    have hend : ∃ j : Nat, j ≤ n ∧ Value.int .i64 ((k : Int) + 1) = .int .i64 (j : Int) ∧ Below w.heap.size w wc := ⟨k + 1, by omega, by simp, hb⟩
    have HEND := Lib.hid hend
    clear hend cg ch hb
    go_wp2_with fail
    go_roundw
    case rel => exact HEND.out
    case measure => simp [RowKit.intOf]; omega
theorem fitem_nil (a : Int) (w : World) : Calls Tryz.prog 28 #[.pointer none, .int .i64 a] w fun e w' => e = .returned (.tuple #[.agg (itA it0), .bool false]) ∧ Below w.heap.size w w' := by
 obtain ⟨W1, hW1⟩ : ∃ V, w.alloc (.cells (itA it0) 52) = V := ⟨_, rfl⟩
 have b1 : Below w.heap.size w W1 := by rw [← hW1]; exact below_new _ _
 have x1 : Cells W1 w.heap.size 52 (itA it0) := by rw [← hW1]; exact cells_new _ _ _
 have CL := flen_nil W1
 unfold it0 itA at hW1 x1 ⊢
 have HX := Lib.hid (And.intro x1 b1)
 have HW := Lib.hid hW1
 clear hW1 b1 x1
 by_cases c0 : a < 0
 ·clear CL
  go_enter Tryz.func28, Tryz.ntmps28
  go_upto_region 1 with fail
  rw [HW.out]
  go_upto_region 2 with fail
  obtain ⟨f0, f1, f2, f3, f4, f5, f6⟩ := froz7 HX.out.1
  obtain ⟨y0, y1, y2, y3, y4, y5, y6⟩ := cell7 HX.out.1
  obtain ⟨W3, hW3, z7, kk⟩ := set7 HX.out.1 (.int .i32 0) (.int .i64 0) (.int .i64 0) (.bool false) (.bool false) (.bool false) (.bool false)
  have Z7 := Lib.hid (And.intro z7 (HX.out.2.trans (kk.below (B := w.heap.size) HX.out.2.size (fun k hk e => by omega))))
  have HW3 := Lib.hid hW3
  clear z7 kk hW3
  go_wp2_with fail
  rw [HW3.out]
  clear f0 f1 f2 f3 f4 f5 f6 y0 y1 y2 y3 y4 y5 y6
  refine bodyPost_ret (v := .tuple #[.agg #[.int .i32 0, .int .i64 0, .int .i64 0, .bool false, .bool false, .bool false, .bool false], .bool false]) (results_it rfl _ _ w.heap.size _ rfl Z7.out.1 (by kernel_rfl) _ rfl) rfl ⟨rfl, Z7.out.2⟩
 ·have c1 : 0 ≤ a := by omega
  go_enter Tryz.func28, Tryz.ntmps28
  go_upto_region 1 with fail
  rw [HW.out]
  go_upto_region 2 with fail
  refine CL.mono ?_
  rintro e _ ⟨rfl, rfl⟩
  clear CL
  go_upto_region 2 with fail
  obtain ⟨f0, f1, f2, f3, f4, f5, f6⟩ := froz7 HX.out.1
  obtain ⟨y0, y1, y2, y3, y4, y5, y6⟩ := cell7 HX.out.1
  obtain ⟨W3, hW3, z7, kk⟩ := set7 HX.out.1 (.int .i32 0) (.int .i64 0) (.int .i64 0) (.bool false) (.bool false) (.bool false) (.bool false)
  have Z7 := Lib.hid (And.intro z7 (HX.out.2.trans (kk.below (B := w.heap.size) HX.out.2.size (fun k hk e => by omega))))
  have HW3 := Lib.hid hW3
  clear z7 kk hW3
  go_wp2_with fail
  rw [HW3.out]
  clear f0 f1 f2 f3 f4 f5 f6 y0 y1 y2 y3 y4 y5 y6
  refine bodyPost_ret (v := .tuple #[.agg #[.int .i32 0, .int .i64 0, .int .i64 0, .bool false, .bool false, .bool false, .bool false], .bool false]) (results_it rfl _ _ w.heap.size _ rfl Z7.out.1 (by kernel_rfl) _ rfl) rfl ⟨rfl, Z7.out.2⟩
theorem fnoneLaw (xs : List Nat) (A : Option Addr) (cap : Nat) (a b : Int) (w : World) (hb : BY w w.heap.size xs A cap) (hM : G.MX w) (hT : S.Tabs w) :
  Calls Tryz.prog 11 #[.slice A xs.length cap, .int .i64 a, .int .i64 b] w fun e w' => e = .returned (.bool true) ∧ Below w.heap.size w w' := by
 have CW := fawake_any w hM hT
 have hcap := hb.l
 have hmx := hb.m
 by_cases hl : xs.length ≤ 300
 case neg =>
  obtain ⟨N, hN⟩ : ∃ q, xs.length = q := ⟨_, rfl⟩
  rw [hN] at hcap hl ⊢
  have i0 : (300 : Int) < (N : Int) := by omega
  have HC := Lib.hid CW
  clear CW hb hM hT hN hl
  go_enter Tryz.func11, Tryz.ntmps11
  go_wp2_with fail
  refine HC.out.mono ?_
  rintro e w1 ⟨rfl, b1⟩
  go_wp2_with fail
  go_ret
  exact ⟨rfl, b1⟩
 have CG := fun W (h : Below w.heap.size w W) => fnew_any xs A cap W (hb.on h) (by omega) (hM.on hM.pos h) (hT.below h (by have := hT.2; omega))
 have CR := fun W (h : Below w.heap.size w W) => refAll_any xs A cap W (hb.on h) (by omega)
 have hrs := all_rise (bF xs) (eachL xs) es0 0 _ (eachL_tiles xs)
 obtain ⟨l, hAL⟩ : ∃ q, allI (bF xs) es0 (eachL xs) = q := ⟨_, rfl⟩
 simp only [hAL] at CG CR hrs
 have hln := rise_len _ _ _ hrs
 have hll : l.length ≤ 300 := by omega
 have CI := fun W g (h : FL W W.heap.size g xs l) => fitems_any g xs l W h (by omega)
 have CS := fun A2 A3 c2 c3 W (h : IsA W W.heap.size l A2 c2) (h' : R.IsA W W.heap.size l A3 c3) => items_is l A2 A3 c2 c3 W h h' (by omega)
 obtain ⟨N, hN⟩ : ∃ q, xs.length = q := ⟨_, rfl⟩
 obtain ⟨n, hn⟩ : ∃ q, l.length = q := ⟨_, rfl⟩
 have i0 : ¬ (300 : Int) < (N : Int) := by omega
 simp only [hN] at hcap hl CG CR ⊢
 simp only [hn] at CS hll
 have HG := Lib.hid (And.intro CG (And.intro CR (And.intro CI (And.intro CS (And.intro hn hll)))))
 clear CG CR CI CS hrs hln hb hM hT hAL hl hN hn hll
 go_enter Tryz.func11, Tryz.ntmps11
 go_wp2_with fail
 refine CW.mono ?_
 rintro e w1 ⟨rfl, b1⟩
 clear CW
 have CN := fitem_nil a w1
 unfold it0 itA at CN
 have H1 := Lib.hid b1
 clear b1
 go_wp2_with fail
 refine CN.mono ?_
 rintro e w2 ⟨rfl, b2⟩
 clear CN
 obtain ⟨W3, hW3⟩ : ∃ V, w2.alloc (.cells #[.int .i32 0, .int .i64 0, .int .i64 0, .bool false, .bool false, .bool false, .bool false] 52) = V := ⟨_, rfl⟩
 have b3 : Below w2.heap.size w2 W3 := by rw [← hW3]; exact below_new _ _
 have b13 := (H1.out.trans (b2.mono H1.out.size)).trans (b3.mono (by have := H1.out.size; have := b2.size; omega))
 have D1 := Raw_nil a W3
 have D2 := plain_nil a W3
 have HW := Lib.hid (And.intro hW3 b13)
 clear b2 b3 b13 hW3
 go_upto_region 5 with fail
 rw [HW.out.1]
 go_wp2_with fail
 refine D1.mono ?_
 rintro e _ ⟨rfl, rfl⟩
 clear D1
 go_wp2_with fail
 refine D2.mono ?_
 rintro e w4 ⟨rfl, b4⟩
 clear D2
 have E1 := flen_nil w4
 have E2 := fsize_nil w4
 have E3 := ftext_nil w4
 have E4 := fitems_nil w4
 have E5 := slice_nil a b w4
 have H4 := Lib.hid (HW.out.2.trans (b4.mono HW.out.2.size))
 clear b4
 go_wp2_with fail
 refine E1.mono ?_
 rintro e wx ⟨rfl, ex⟩
 obtain rfl := ex.symm
 clear ex
 go_wp2_with fail
 refine E2.mono ?_
 rintro e wx ⟨rfl, ex⟩
 obtain rfl := ex.symm
 clear ex
 go_wp2_with fail
 refine E3.mono ?_
 rintro e wx ⟨rfl, ex⟩
 obtain rfl := ex.symm
 clear ex
 go_wp2_with fail
 refine E4.mono ?_
 rintro e wx ⟨rfl, ex⟩
 obtain rfl := ex.symm
 clear ex
 go_wp2_with fail
 refine E5.mono ?_
 rintro e w4x ⟨rfl, e4⟩
 obtain rfl := e4.symm
 clear E1 E2 E3 E4 E5 e4
 have CG := HG.out.1 w4 H4.out
 go_wp2_with fail
 refine CG.mono ?_
 rintro e w5 ⟨g, rfl, hf, b5⟩
 clear CG
 have CI := HG.out.2.2.1 w5 g hf
 have H5 := Lib.hid (And.intro hf (H4.out.trans (b5.mono H4.out.size)))
 clear hf b5
 go_wp2_with fail
 refine CI.mono ?_
 rintro e w6 ⟨v6, rfl, o6, b6⟩
 clear CI
 have hn := HG.out.2.2.2.2.1
 rcases o6.2 with ⟨e1, e2⟩ | ⟨gI, cI, cur, e1, h2, h3, h4, h5, h6, h7⟩
 ·subst e1
  have CI := HG.out.2.2.1 w6 g (H5.out.1.on b6)
  have H6 := Lib.hid (And.intro b6 (H5.out.2.trans (b6.mono H5.out.2.size)))
  clear o6 b6 e2
  go_wp2_with fail
  refine CI.mono ?_
  rintro e w7 ⟨v7, rfl, o7, b7⟩
  clear CI
  obtain ⟨A7, c7, rfl, y7⟩ := IsA.of_own o7
  have b17 := H6.out.2.trans (b7.mono H6.out.2.size)
  have CR := HG.out.2.1 w7 b17
  rw [hn]
  have H7 := Lib.hid (And.intro y7 b17)
  clear o7 y7 b7 b17
  go_wp2_with fail
  refine CR.mono ?_
  rintro e w8 ⟨v8, rfl, o8, b8⟩
  clear CR
  obtain ⟨A8, c8, rfl, y8⟩ := R.IsA.of_own o8
  have CS := HG.out.2.2.2.1 A7 A8 c7 c8 w8 (H7.out.1.on b8) y8
  have H8 := Lib.hid (H7.out.2.trans (b8.mono H7.out.2.size))
  rw [hn]
  clear o8 y8 b8
  go_wp2_with fail
  refine CS.mono ?_
  rintro e w9 ⟨rfl, b9⟩
  have H9 := Lib.hid (H8.out.trans (b9.mono H8.out.size))
  clear b9 CS
  go_wp2_with fail
  go_ret
  exact ⟨rfl, H9.out⟩
 ·subst e1
  rw [hn] at h4 ⊢
  by_cases hn0 : n = 0
  ·have i3 : ¬ (0 : Int) < (n : Int) := by omega
   have CI := HG.out.2.2.1 w6 g (H5.out.1.on b6)
   have H6 := Lib.hid (And.intro b6 (H5.out.2.trans (b6.mono H5.out.2.size)))
   clear o6 b6 h2 h3 h4 h5 h6 h7 hn0
   go_wp2_with fail
   refine CI.mono ?_
   rintro e w7 ⟨v7, rfl, o7, b7⟩
   clear CI
   obtain ⟨A7, c7, rfl, y7⟩ := IsA.of_own o7
   have b17 := H6.out.2.trans (b7.mono H6.out.2.size)
   have CR := HG.out.2.1 w7 b17
   rw [hn]
   have H7 := Lib.hid (And.intro y7 b17)
   clear o7 y7 b7 b17
   go_wp2_with fail
   refine CR.mono ?_
   rintro e w8 ⟨v8, rfl, o8, b8⟩
   clear CR
   obtain ⟨A8, c8, rfl, y8⟩ := R.IsA.of_own o8
   have CS := HG.out.2.2.2.1 A7 A8 c7 c8 w8 (H7.out.1.on b8) y8
   have H8 := Lib.hid (H7.out.2.trans (b8.mono H7.out.2.size))
   rw [hn]
   clear o8 y8 b8
   go_wp2_with fail
   refine CS.mono ?_
   rintro e w9 ⟨rfl, b9⟩
   have H9 := Lib.hid (H8.out.trans (b9.mono H8.out.size))
   clear b9 CS
   go_wp2_with fail
   go_ret
   exact ⟨rfl, H9.out⟩
  ·have i3 : (0 : Int) < (n : Int) := by omega
   have i4 : 0 < n := by omega
   obtain ⟨x, hx⟩ : ∃ x, l[0]? = some x := ⟨_, List.getElem?_eq_getElem (by omega)⟩
   have hc0 : w6.cell? ⟨gI, 0, none⟩ = some (.int .i32 x.r) := by
    have := World.ownsRow.cells o6 (g := gI) rfl 0 (.int .i32 x.r) ((rowI_at l 0 x hx 0 (by decide)).trans rfl)
    rwa [add0] at this
   have hcl : Cells w6 gI 52 cur := h3
   have f0 := hcl.froz 0
   obtain ⟨RR, hRR⟩ : ∃ q, IntKind.i32.wrap (x.r + 1) = q := ⟨_, rfl⟩
   have b67 : Below w5.heap.size w5 (w6.setCell ⟨gI, 0, none⟩ (.int .i32 RR)) := b6.setCell (p := ⟨gI, 0, none⟩) h2 _
   obtain ⟨W7, hW7⟩ : ∃ V, w6.setCell ⟨gI, 0, none⟩ (.int .i32 RR) = V := ⟨_, rfl⟩
   rw [hW7] at b67
   have CI := HG.out.2.2.1 W7 g (H5.out.1.on b67)
   have H6 := Lib.hid (And.intro b67 (H5.out.2.trans (b67.mono H5.out.2.size)))
   have HW7 := Lib.hid hW7
   clear o6 b6 b67 h2 h3 h4 h5 h6 h7 hn0 hcl hx hW7
   go_upto_region 13 with fail
   rw [HW7.out]
   clear f0 hc0
   go_wp2_with fail
   refine CI.mono ?_
   rintro e w7 ⟨v7, rfl, o7, b7⟩
   clear CI
   obtain ⟨A7, c7, rfl, y7⟩ := IsA.of_own o7
   have b17 := H6.out.2.trans (b7.mono H6.out.2.size)
   have CR := HG.out.2.1 w7 b17
   rw [hn]
   have H7 := Lib.hid (And.intro y7 b17)
   clear o7 y7 b7 b17
   go_wp2_with fail
   refine CR.mono ?_
   rintro e w8 ⟨v8, rfl, o8, b8⟩
   clear CR
   obtain ⟨A8, c8, rfl, y8⟩ := R.IsA.of_own o8
   have CS := HG.out.2.2.2.1 A7 A8 c7 c8 w8 (H7.out.1.on b8) y8
   have H8 := Lib.hid (H7.out.2.trans (b8.mono H7.out.2.size))
   rw [hn]
   clear o8 y8 b8
   go_wp2_with fail
   refine CS.mono ?_
   rintro e w9 ⟨rfl, b9⟩
   have H9 := Lib.hid (H8.out.trans (b9.mono H8.out.size))
   clear b9 CS
   go_wp2_with fail
   go_ret
   exact ⟨rfl, H9.out⟩
end Go.Proofs.YtfafhbgkmlmmdaaGreatDoor.K
namespace Go.Proofs.YtfafhbgkmlmmdaaGreatDoor
open Go.ChangeShapes Go.WideShapes Go.ChangeAt Go.RowKit Go.Shelf
open Go.Lib
open Go.ChangeMaps (open_string shut_string)
theorem flatNone_lifted (os : Os) (started : os.Started) (H : Type) (enc : TypeId × Value → H) :
  ReturnsInHanded {} Tryz.checked os 11 .any (fun w args => (Rows.flatNoneSpec.pre enc Tryz.prog Tryz.f11 [] false w args ∧ laidMetH Tryz.prog laidAll7 w) ∧ sizedMet enc Tryz.prog Tryz.f11 (OpenSpec.ofChange Rows.flatNoneSpec) false w args)
   (Rows.flatNoneSpec.post enc Tryz.prog Tryz.f11 false true false false) := by
 refine handed_laid (C := Tryz.checked) (X := fun w _ => laidMetH Tryz.prog laidAll7 w) (fun _ _ _ hh h => h.of_heap hh) own started (by kernel_rfl) Tryz.func11
  (ChangeSpec.witness_shaped (enc := enc) (C := Tryz.checked) (os := os) (X := fun w _ => laidMetH Tryz.prog laidAll7 w) false (World.laidAll Tryz.prog os laidAll7) #[.slice none 0 0, .int .i64 0, .int .i64 0] 8 (World.laidAll_os _ _ _)
   (World.shaped_of_ZipB (by kernel_rfl) (by kernel_rfl)) (by kernel_rfl) (by kernel_rfl) (by kernel_rfl)
   (by rw [MakeChecks.laidMetH_plain _ _ _ (by kernel_rfl)]; exact laidMet_laidAll _ (by kernel_rfl) (by kernel_rfl))) ?_
 intro W base args ds gs before hsh hval0 hW hL _
 have hval : ∀ (j : Nat) t v, Tryz.f11.params[j]? = some t → args[j]? = some v → Value.okWide Tryz.prog W .any base t v := hval0
 have hW' := hW
 obtain ⟨p, q, hA0, hV, rfl, _, _⟩ := hW
 have hA : DataW.TrodAll enc Tryz.prog W 0 (fun _ => true) true Tryz.f11.params.toList args.toList ds p := hA0
 rw [Tryz.params11] at hA hval
 obtain ⟨v0, vs0, d0, ds0, p0, q0, hargs, rfl, rfl, h0, r0⟩ := trodAll_cons hA
 obtain ⟨v1, vs1, d1, ds1, p1, q1, rfl, rfl, rfl, h1, r1⟩ := trodAll_cons r0
 obtain ⟨v2, vs2, d2, ds2, p2, q2, rfl, rfl, rfl, h2, r2⟩ := trodAll_cons r1
 obtain ⟨rfl, rfl, rfl⟩ := trodAll_nil r2
 obtain rfl : args = #[v0, v1, v2] := by cases args; simp_all
 obtain ⟨rfl, rfl⟩ := trodVars_none hV
 have t0 := h0
 have lt0 : ∀ x ∈ p0, x.block < W.heap.size := by obtain ⟨m, hm⟩ := t0; exact DataW.trod_lt m _ _ _ hm
 obtain ⟨xs0, A0, cap0, rfl, hB0⟩ := by_of_arg (hval 0 22 v0 rfl rfl) h0
 obtain ⟨a1, rfl, rfl, rfl, w1⟩ := open_int Tryz.underlying3 (hval 1 3 v1 rfl rfl) h1
 obtain ⟨a2, rfl, rfl, rfl, w2⟩ := open_int Tryz.underlying3 (hval 2 3 v2 rfl rfl) h2
 rw [MakeChecks.laidMetH_plain _ _ _ (by kernel_rfl)] at hL
 have hT : S.Tabs W := tabs_of_reads (Lib.laidMet.reads hL (.tail _ (.tail _ (.tail _ (.tail _ (.tail _ (.tail _ (.head _)))))))) (Lib.laidMet.reads hL (.tail _ (.tail _ (.tail _ (.head _))))) (five_of_reads (Lib.laidMet.reads hL (.tail _ (.head _))))
 have hM : G.MX W := mx_of_shape hsh
 clear hA0 hval0
 refine (K.fnoneLaw xs0 A0 cap0 a1 a2 W hB0 hM hT).mono fun e W' ⟨he, bel⟩ => ?_
 subst he
 exact ⟨_, rfl, _, _, _, [], _, [], hW', trodAll_mk1 (shut_bool Tryz.underlying4 _), (trodAll_cons_mk (Below.trod laidOut (by kernel_rfl) (of_decide_eq_true (by kernel_rfl)) t0 bel lt0) (trodAll_cons_mk (shut_int Tryz.underlying3 w1) (trodAll_cons_mk (shut_int Tryz.underlying3 w2) trodAll_mk0))), rfl, bel.frame _, fun h => by cases h⟩
theorem flatNone_row : Rows.FlatNoneSaid :=
 OpenClaim.holds_of_wide 11 Tryz.f11 rfl rfl rfl rfl rfl rfl rfl ⟨rfl, rfl, rfl, rfl, rfl⟩ rfl rfl rfl rfl rfl (by kernel_rfl) Tryz.func11 (by kernel_rfl)
  (of_decide_eq_true (by kernel_rfl)) (by unfold Func.isWrapper; first | (rw [if_pos (by decide +kernel)]; kernel_rfl) | (rw [if_neg (by decide +kernel)]; exact ⟨rfl, rfl⟩))
  (fun os started H enc _ => flatNone_lifted os started H enc)
theorem flatNone_holds : Rows.FlatNoneCardSaid :=
 Claim7.holds_tied_plain_at .later [] [.data, .data, .data, .data, .sentinel, .sentinel, .pinned] true (true, "9dd68da2afada65e5683af715fdfcd92f67a78b54cba878728521e19227f40a4") true
  flatNone_row (fun _ h => by cases h) (by kernel_rfl) (fun _ h => by cases h) flatNone_row_tie rfl ⟨rfl, rfl⟩ (by kernel_rfl) rfl
  (fun f fn hf hfn => by
   obtain rfl : f = 11 := Option.some.inj ((show Tryz.prog.funcNamed Rows.flatNoneRow.func = some 11 by kernel_rfl).symm.trans hf) |>.symm
   obtain rfl : fn = Tryz.f11 := (Option.some.inj (Tryz.func11.symm.trans hfn)).symm
   exact ⟨by kernel_rfl, fun j t ht => by
    rw [Tryz.params11] at ht
    have hm : t ∈ [22, 3, 3] := by simpa using Array.mem_of_getElem? ht
    have hall : ([22, 3, 3].all fun u => !Tryz.prog.wantsStandIn u) = true := by kernel_rfl
    exact (show Tryz.prog.wantsStandIn t = false by simpa using List.all_eq_true.1 hall t hm)⟩)
  (by kernel_rfl)
#print axioms flatNone_holds
end Go.Proofs.YtfafhbgkmlmmdaaGreatDoor
