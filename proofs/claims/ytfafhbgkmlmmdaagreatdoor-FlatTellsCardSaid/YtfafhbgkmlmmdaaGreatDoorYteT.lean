/-
  FlatTells.
-/
import Derived.Laws.ResultCell
import Derived.Lay
import Derived.LaidOnce
import Derived.LaidMore
import Derived.ChangeOld
import Derived.ShutString
import Derived.SevenTiedAt
import Derived.Test.YtfafhbgkmlmmdaaGreatDoorYrw
import Derived.Test.YtfafhbgkmlmmdaaGreatDoorCards
import Derived.Test.YtfafhbgkmlmmdaaGreatDoorTie
set_option maxRecDepth 100000
set_option maxHeartbeats 40000000
namespace Go.Proofs.YtfafhbgkmlmmdaaGreatDoor
open Go.RowKit Go.Shelf Go.Lib Go.Maps
theorem rput_post (r : Int) (zs : List Int) (hz : encodeRuneZ r = zs) (w : World) : PutOk w r (.returned (.slice (some ⟨w.heap.size, 0, none⟩) zs.length zs.length)) (w.alloc (.cells (zs.map (Value.int .u8 ·)).toArray 5)) := by
 have hl : (putN r).length = zs.length := by rw [putN, hz, List.length_map]
 have h4 := encodeRuneZ_length r
 rw [hz] at h4
 refine ⟨_, _, by rw [hl], ⟨by omega, by unfold maxLen; omega, fun e => (by cases e), putN_lt r, fun _ => ⟨w.heap.size, 0, rfl, by simp, fun i x hx => ?_⟩⟩, below_new _ _⟩
 rw [World.cell?_alloc_mark, Nat.zero_add]
 unfold putN at hx
 rw [hz, List.getElem?_map] at hx
 cases e : zs[i]? with
 | none => rw [e] at hx; simp at hx
 | some z =>
  rw [e] at hx
  simp at hx
  subst hx
  have hb := encodeRuneZ_byte r z (by rw [hz]; exact List.mem_of_getElem? e)
  simp [e]
  omega
end Go.Proofs.YtfafhbgkmlmmdaaGreatDoor
namespace Go.Proofs.YtfafhbgkmlmmdaaGreatDoor.K
open Go.RowKit Go.Shelf Go.Lib Go.Maps
attribute [local irreducible] nmL ofN
theorem rput_any (r : Int) (h0 : -2147483648 ≤ r) (h1 : r ≤ 2147483647) (w : World) : Calls Tryz.prog 27 #[.int .i32 r] w (PutOk w r) := by
 have C := rr_any r w
 by_cases hv : Lib.validRune r = true
 ·obtain ⟨v0, v1, v2⟩ := (valid_iff r).1 hv
  rw [hv] at C
  have C := Lib.hid C
  by_cases c1 : r < 128
  ·have HP := Lib.hid (rput_post r [r] (encodeRuneZ_one v0 (by omega)) w)
   clear v2 hv
   go_enter Tryz.func27, Tryz.ntmps27
   go_wp2_with fail
   refine C.out.mono ?_
   rintro e w1 ⟨rfl, rfl⟩
   go_wp2
   go_ret
   exact HP.out
  ·have d1 : decide (r < 128) = false := by simpa using c1
   by_cases c2 : r < 2048
   ·have HP := Lib.hid (rput_post r _ (encodeRuneZ_two (by omega) (by omega)) w)
    clear v2 hv c1
    go_enter Tryz.func27, Tryz.ntmps27
    go_wp2_with fail
    refine C.out.mono ?_
    rintro e w1 ⟨rfl, rfl⟩
    go_wp2
    go_ret
    exact HP.out
   ·have d2 : decide (r < 2048) = false := by simpa using c2
    by_cases c3 : r < 65536
    ·have HP := Lib.hid (rput_post r _ (encodeRuneZ_three (by omega)) w)
     clear v2 hv c1 c2
     go_enter Tryz.func27, Tryz.ntmps27
     go_wp2_with fail
     refine C.out.mono ?_
     rintro e w1 ⟨rfl, rfl⟩
     go_wp2
     go_ret
     exact HP.out
    ·have d3 : decide (r < 65536) = false := by simpa using c3
     have HP := Lib.hid (rput_post r _ (encodeRuneZ_four (by omega) (by omega)) w)
     clear v2 hv c1 c2 c3
     go_enter Tryz.func27, Tryz.ntmps27
     go_wp2_with fail
     refine C.out.mono ?_
     rintro e w1 ⟨rfl, rfl⟩
     go_wp2
     go_ret
     exact HP.out
 ·have e : scR r = 65533 := if_neg hv
  have hz : encodeRuneZ r = [239, 191, 189] := by rw [encZ_scR, e]; decide
  have HP := Lib.hid (rput_post r _ hz w)
  rw [Bool.eq_false_iff.2 hv] at C
  have C := Lib.hid C
  clear hv e hz
  go_enter Tryz.func27, Tryz.ntmps27
  go_wp2_with fail
  refine C.out.mono ?_
  rintro e w1 ⟨rfl, rfl⟩
  go_wp2
  go_ret
  exact HP.out
theorem fsize_any (g : Nat) (xs : List Nat) (l : List IT) (w : World) (h : FL w w.heap.size g xs l) :
  Calls Tryz.prog 31 #[.pointer (some ⟨g, 0, none⟩)] w fun e w' => e = .returned (.int .i64 (xs.length : Int)) ∧ w' = w := by
 obtain ⟨A, cap, A2, c2, h1, h2, _, _⟩ := h.c
 clear h h2
 go_enter Tryz.func31, Tryz.ntmps31
 go_wp2_with fail
 go_ret
 exact ⟨rfl, rfl⟩
def it0 : IT := ⟨0, 0, 0, false, false, false, false⟩
def itemA (l : List IT) (a : Int) : Value := .tuple #[.agg (itA (if 0 ≤ a then (l[a.toNat]?).getD it0 else it0)), .bool (decide (0 ≤ a ∧ a < (l.length : Int)))]
theorem results_it {fn : Func} {p u : Tmp} (h : fn.results = #[.cell p 52, .tmp u]) (tmps : Array Value) (w : World) (g : Nat) (cs : Array Value)
  (hp : tmps.getD p undef = .pointer (some ⟨g, 0, none⟩)) (hg : Cells w g 52 cs) (hi : (Tryz.prog.info? 52).map (·.size) = some cs.size) (x : Value) (hx : tmps.getD u undef = x) :
  (results fn tmps).run Tryz.prog w = .ok (.tuple #[.agg cs, x]) w := by
 rw [results_cell_tmp h, hp, hx]
 have := run_loadVar_row (P := Tryz.prog) w g 52 52 cs (0, 0) _ hg Tryz.underlying52 rfl hi
 simp [asAddr, this, Result.andThen]
theorem fitem_any (g : Nat) (xs : List Nat) (l : List IT) (w : World) (h : FL w w.heap.size g xs l) (a : Int) :
  Calls Tryz.prog 28 #[.pointer (some ⟨g, 0, none⟩), .int .i64 a] w fun e w' => e = .returned (itemA l a) ∧ Below w.heap.size w w' := by
 obtain ⟨W1, hW1⟩ : ∃ V, w.alloc (.cells (itA it0) 52) = V := ⟨_, rfl⟩
 have b1 : Below w.heap.size w W1 := by rw [← hW1]; exact below_new _ _
 have x1 : Cells W1 w.heap.size 52 (itA it0) := by rw [← hW1]; exact cells_new _ _ _
 have h' := h.on b1
 obtain ⟨A, cap, A2, c2, h1, h2, _, h4⟩ := h'.c
 have CL := flen_any g xs l W1 h'
 unfold it0 itA at hW1 x1
 have HX := Lib.hid (And.intro x1 b1)
 have HW := Lib.hid hW1
 clear hW1 b1 x1 h h'
 by_cases c0 : a < 0
 ·have hv : itemA l a = .tuple #[.agg #[.int .i32 0, .int .i64 0, .int .i64 0, .bool false, .bool false, .bool false, .bool false], .bool false] := by unfold itemA; rw [if_neg (by omega), decide_eq_false (by omega)]; rfl
  rw [hv]
  clear hv h1 h2 h4 CL
  go_enter Tryz.func28, Tryz.ntmps28
  go_upto_region 1 with fail
  rw [HW.out]
  go_upto_region 2 with fail
  obtain ⟨f0, f1, f2, f3, f4, f5, f6⟩ := froz7 HX.out.1
  obtain ⟨y0, y1, y2, y3, y4, y5, y6⟩ := cell7 HX.out.1
  obtain ⟨W3, hW3, z7, kk⟩ := set7 HX.out.1 (.int .i32 0) (.int .i64 0) (.int .i64 0) (.bool false) (.bool false) (.bool false) (.bool false)
  have Z7 := Lib.hid (And.intro z7 (HX.out.2.trans (kk.below (B := w.heap.size) HX.out.2.size (fun k hk e => by omega))))
  have HW3 := Lib.hid hW3
  clear z7 kk hW3
  go_wp2_with fail
  rw [HW3.out]
  clear f0 f1 f2 f3 f4 f5 f6 y0 y1 y2 y3 y4 y5 y6
  refine bodyPost_ret (v := .tuple #[.agg #[.int .i32 0, .int .i64 0, .int .i64 0, .bool false, .bool false, .bool false, .bool false], .bool false]) (results_it rfl _ _ w.heap.size _ rfl Z7.out.1 (by kernel_rfl) _ rfl) rfl ⟨rfl, Z7.out.2⟩
 by_cases c1 : (l.length : Int) ≤ a
 ·have hv : itemA l a = .tuple #[.agg #[.int .i32 0, .int .i64 0, .int .i64 0, .bool false, .bool false, .bool false, .bool false], .bool false] := by
   unfold itemA
   rw [if_pos (by omega), decide_eq_false (by omega), List.getElem?_eq_none (by omega)]
   rfl
  rw [hv]
  obtain ⟨n, hn⟩ : ∃ q, l.length = q := ⟨_, rfl⟩
  rw [hn] at CL c1
  clear hv h1 h2 h4 hn
  go_enter Tryz.func28, Tryz.ntmps28
  go_upto_region 1 with fail
  rw [HW.out]
  go_upto_region 2 with fail
  refine CL.mono ?_
  rintro e _ ⟨rfl, rfl⟩
  clear CL
  go_upto_region 2 with fail
  obtain ⟨f0, f1, f2, f3, f4, f5, f6⟩ := froz7 HX.out.1
  obtain ⟨y0, y1, y2, y3, y4, y5, y6⟩ := cell7 HX.out.1
  obtain ⟨W3, hW3, z7, kk⟩ := set7 HX.out.1 (.int .i32 0) (.int .i64 0) (.int .i64 0) (.bool false) (.bool false) (.bool false) (.bool false)
  have Z7 := Lib.hid (And.intro z7 (HX.out.2.trans (kk.below (B := w.heap.size) HX.out.2.size (fun k hk e => by omega))))
  have HW3 := Lib.hid hW3
  clear z7 kk hW3
  go_wp2_with fail
  rw [HW3.out]
  clear f0 f1 f2 f3 f4 f5 f6 y0 y1 y2 y3 y4 y5 y6
  refine bodyPost_ret (v := .tuple #[.agg #[.int .i32 0, .int .i64 0, .int .i64 0, .bool false, .bool false, .bool false, .bool false], .bool false]) (results_it rfl _ _ w.heap.size _ rfl Z7.out.1 (by kernel_rfl) _ rfl) rfl ⟨rfl, Z7.out.2⟩
 obtain ⟨i, rfl⟩ : ∃ i : Nat, a = (i : Int) := ⟨a.toNat, by omega⟩
 obtain ⟨x, hx⟩ : ∃ x, l[i]? = some x := ⟨_, List.getElem?_eq_getElem (by omega)⟩
 have hle := h4.le
 obtain ⟨b, o, rfl, hbb, a0, a1, a2, a3, a4, a5, a6⟩ := isA_cells h4 hx
 have hv : itemA l (i : Int) = .tuple #[.agg (itA x), .bool true] := by
  unfold itemA
  rw [if_pos (by omega), decide_eq_true (by omega), Int.toNat_natCast, hx]
  rfl
 rw [hv]
 obtain ⟨n, hn⟩ : ∃ q, l.length = q := ⟨_, rfl⟩
 rw [hn] at CL c1 h2 hle
 have i1 : (i : Int) < (n : Int) := by omega
 obtain ⟨xr, xa, xz, xf, xx, xn, xp⟩ := x
 unfold itA
 simp only at a0 a1 a2 a3 a4 a5 a6 ⊢
 have aa1 : W1.cell? ⟨b, o + (i * 7 + 1), none⟩ = some (.int .i64 xa) := by rw [← Nat.add_assoc]; exact a1
 have aa2 : W1.cell? ⟨b, o + (i * 7 + 2), none⟩ = some (.int .i64 xz) := by rw [← Nat.add_assoc]; exact a2
 have aa3 : W1.cell? ⟨b, o + (i * 7 + 3), none⟩ = some (.bool xf) := by rw [← Nat.add_assoc]; exact a3
 have aa4 : W1.cell? ⟨b, o + (i * 7 + 4), none⟩ = some (.bool xx) := by rw [← Nat.add_assoc]; exact a4
 have aa5 : W1.cell? ⟨b, o + (i * 7 + 5), none⟩ = some (.bool xn) := by rw [← Nat.add_assoc]; exact a5
 have aa6 : W1.cell? ⟨b, o + (i * 7 + 6), none⟩ = some (.bool xp) := by rw [← Nat.add_assoc]; exact a6
 clear hv h1 h4 hn hx hbb
 go_enter Tryz.func28, Tryz.ntmps28
 go_upto_region 1 with fail
 rw [HW.out]
 go_upto_region 3 with fail
 refine CL.mono ?_
 rintro e _ ⟨rfl, rfl⟩
 clear CL
 go_upto_region 3 with fail
 obtain ⟨f0, f1, f2, f3, f4, f5, f6⟩ := froz7 HX.out.1
 obtain ⟨y0, y1, y2, y3, y4, y5, y6⟩ := cell7 HX.out.1
 obtain ⟨W3, hW3, z7, kk⟩ := set7 HX.out.1 (.int .i32 xr) (.int .i64 xa) (.int .i64 xz) (.bool xf) (.bool xx) (.bool xn) (.bool xp)
 have Z7 := Lib.hid (And.intro z7 (HX.out.2.trans (kk.below (B := w.heap.size) HX.out.2.size (fun k hk e => by omega))))
 have HW3 := Lib.hid hW3
 clear z7 kk hW3
 go_wp2_with fail
 rw [HW3.out]
 clear f0 f1 f2 f3 f4 f5 f6 y0 y1 y2 y3 y4 y5 y6
 refine bodyPost_ret (v := .tuple #[.agg #[.int .i32 xr, .int .i64 xa, .int .i64 xz, .bool xf, .bool xx, .bool xn, .bool xp], .bool true]) (results_it rfl _ _ w.heap.size _ rfl Z7.out.1 (by kernel_rfl) _ rfl) rfl ⟨rfl, Z7.out.2⟩
theorem lat7 {w : World} {b o k : Nat} {u : Value} (j : Nat) (h : w.cell? ⟨b, o + k * 7 + j, none⟩ = some u) : (∀ P : Later (fun _ => False) w, P.W.cell? ⟨b, o + k * 7 + j, none⟩ = some u) ∧ ∀ P : Later (fun _ => False) w, P.W.cell? ⟨b, o + (k * 7 + j), none⟩ = some u :=
 ⟨fun P => cell_later h (fun hf => hf) P, fun P => by rw [← Nat.add_assoc]; exact cell_later h (fun hf => hf) P⟩
theorem items_is (l : List IT) (A A' : Option Addr) (c c' : Nat) (w : World) (h : IsA w w.heap.size l A c) (h' : R.IsA w w.heap.size l A' c') (hl : l.length ≤ 10000) :
  Calls Tryz.prog 29 #[.slice A l.length c, .slice A' l.length c'] w fun e w' => e = .returned (.bool true) ∧ Below w.heap.size w w' := by
 have hle := h.le
 have hmx := h.mx
 have hle' := h'.le
 have hmx' := h'.mx
 obtain ⟨n, hn⟩ : ∃ q, l.length = q := ⟨_, rfl⟩
 rw [hn] at hle hle' hl ⊢
 have HH := Lib.hid (And.intro h (And.intro h' (And.intro hn hl)))
 clear h h' hn hl
 go_enter Tryz.func29, Tryz.ntmps29
 go_wp2_with fail
 go_loopw [5, 6, 7] (fun i _ _ wr => ∃ k : Nat, k ≤ n ∧ i = .int .i64 (k : Int) ∧ Below w.heap.size w wr) (fun i _ _ _ => n - (RowKit.intOf i).toNat)
 case atStart => exact ⟨0, Nat.zero_le _, rfl, Below.refl _ _⟩
 case round =>
  obtain ⟨k, hk, rfl, hb⟩ := hrel
  by_cases hkn : k < n
  case neg =>
   obtain rfl : k = n := by omega
   have i1 : ¬ (k : Int) < (k : Int) := by omega
   have HZ := Lib.hid hb
   clear hb hkn hk
   go_wp2_with fail
   go_ret
   exact ⟨rfl, HZ.out⟩
  case pos =>
   have i1 : (k : Int) < (n : Int) := by omega
   have ik : (k : Int) ≤ 100000 := by have := HH.out.2.2.2; omega
   obtain ⟨x, hx⟩ : ∃ x, l[k]? = some x := ⟨_, List.getElem?_eq_getElem (by rw [HH.out.2.2.1]; exact hkn)⟩
   obtain ⟨b1, o1, rfl, hb1, a0, a1, a2, a3, a4, a5, a6⟩ := isA_cells (HH.out.1.below hb) hx
   obtain ⟨b2, o2, rfl, hb2, d0, d1, d2, d3, d4, d5, d6⟩ := R.isA_cells (HH.out.2.1.below hb) hx
   obtain ⟨xr, xa, xz, xf, xx, xn, xp⟩ := x
   simp only at a0 a1 a2 a3 a4 a5 a6 d0 d1 d2 d3 d4 d5 d6
   have HB := Lib.hid hb
   clear hb hx hb1 hb2
   go_upto_region 6 with fail
   go_cut [6, 7] from 19 to 26 (fun a b wx => ∃ g h : Nat, a = .pointer (some ⟨g, 0, none⟩) ∧ b = .pointer (some ⟨h, 0, none⟩) ∧ Cells wx g 52 #[.int .i32 xr, .int .i64 xa, .int .i64 xz, .bool xf, .bool xx, .bool xn, .bool xp] ∧ Cells wx h 51 #[.int .i32 xr, .int .i64 xa, .int .i64 xz, .bool xf, .bool xx, .bool xn, .bool xp] ∧ Below w.heap.size w wx)
   case first =>
    have ag0 : ∀ P : Later (fun _ => False) wr, P.W.cell? ⟨b1, o1 + k * 7, none⟩ = some (.int .i32 xr) := fun P => cell_later a0 (fun hf => hf) P
    obtain ⟨ag1, ah1⟩ := lat7 1 a1
    obtain ⟨ag2, ah2⟩ := lat7 2 a2
    obtain ⟨ag3, ah3⟩ := lat7 3 a3
    obtain ⟨ag4, ah4⟩ := lat7 4 a4
    obtain ⟨ag5, ah5⟩ := lat7 5 a5
    obtain ⟨ag6, ah6⟩ := lat7 6 a6
    have dg0 : ∀ P : Later (fun _ => False) wr, P.W.cell? ⟨b2, o2 + k * 7, none⟩ = some (.int .i32 xr) := fun P => cell_later d0 (fun hf => hf) P
    obtain ⟨dg1, dh1⟩ := lat7 1 d1
    obtain ⟨dg2, dh2⟩ := lat7 2 d2
    obtain ⟨dg3, dh3⟩ := lat7 3 d3
    obtain ⟨dg4, dh4⟩ := lat7 4 d4
    obtain ⟨dg5, dh5⟩ := lat7 5 d5
    obtain ⟨dg6, dh6⟩ := lat7 6 d6
    clear a0 a1 a2 a3 a4 a5 a6 d0 d1 d2 d3 d4 d5 d6
    refine wp_region_mixF (fun i => if 8 ≤ i then 2 else 0) [0, 1, 2, 3, 4, 5, 6, 7] 4 (fun w' => ∃ P : Later (fun _ => False) wr, w' = P.W) (by kernel_rfl) (by kernel_rfl) ⟨⟨_, Fz.drew wr⟩, rfl⟩ ?_
    simp only [opsAt, List.filterMap_cons, List.filterMap_nil, List.getElem?_toArray, List.getElem?_cons_zero, List.getElem?_cons_succ]
    change wpQuiet _ _ _ _ [_, _, _, _, _, _, _, _] _
    repeat (go_big_quiet_step (fail))
    refine wpQuiet_nil ?_
    clear ag0 ag1 ag2 ag3 ag4 ag5 ag6 ah1 ah2 ah3 ah4 ah5 ah6 dg0 dg1 dg2 dg3 dg4 dg5 dg6 dh1 dh2 dh3 dh4 dh5 dh6
    have zd : Fz (fun _ => False) wr { wr with drawn := wr.drawn + 1 } := Fz.drew wr
    obtain ⟨wd, hwd⟩ : ∃ V, ({ wr with drawn := wr.drawn + 1 } : World) = V := ⟨_, rfl⟩
    rw [hwd] at zd ⊢
    clear hwd
    have HD := Lib.hid zd
    clear zd
    refine wpFreeM_step [8, 9] (by kernel_rfl) ⟨?_, ?_, trivial⟩
    ·refine wpOp_of_list rfl ?_
     have t1 := cells_new wd #[.int .i32 0, .int .i64 0, .int .i64 0, .bool false, .bool false, .bool false, .bool false] 52
     have b1' := below_new wd (.cells #[.int .i32 0, .int .i64 0, .int .i64 0, .bool false, .bool false, .bool false, .bool false] 52)
     obtain ⟨W1, hW1⟩ : ∃ V, wd.alloc (.cells #[.int .i32 0, .int .i64 0, .int .i64 0, .bool false, .bool false, .bool false, .bool false] 52) = V := ⟨_, rfl⟩
     rw [hW1] at t1 b1'
     have t2 := cells_new W1 #[.int .i32 0, .int .i64 0, .int .i64 0, .bool false, .bool false, .bool false, .bool false] 51
     have b2' := below_new W1 (.cells #[.int .i32 0, .int .i64 0, .int .i64 0, .bool false, .bool false, .bool false, .bool false] 51)
     obtain ⟨W2, hW2⟩ : ∃ V, W1.alloc (.cells #[.int .i32 0, .int .i64 0, .int .i64 0, .bool false, .bool false, .bool false, .bool false] 51) = V := ⟨_, rfl⟩
     rw [hW2] at t2 b2'
     have z1 := HD.out.trans (Fz.of_below b1')
     have z2 := z1.trans (Fz.of_below b2')
     have s1 : wd.heap.size < W1.heap.size := t1.lt
     have t1' := t1.on b2'
     have sd : wr.heap.size ≤ wd.heap.size := HD.out.size
     have HW1 := Lib.hid hW1
     have HW2 := Lib.hid hW2
     have H2 := Lib.hid (And.intro z1 (And.intro z2 (And.intro t1' (And.intro t2 (And.intro s1 sd)))))
     clear t1 b1' t2 b2' z1 z2 s1 t1' sd hW1 hW2
     go_wp2_with fail
     rw [HW1.out]
     refine ⟨⟨⟨_, H2.out.1⟩, rfl⟩, ?_⟩
     refine wpFreeM_step [9] (by kernel_rfl) ⟨?_, trivial⟩
     refine wpOp_of_list rfl ?_
     go_wp2_with fail
     rw [HW2.out]
     refine ⟨⟨⟨_, H2.out.2.1⟩, rfl⟩, ?_⟩
     obtain ⟨f0, f1, f2, f3, f4, f5, f6⟩ := froz7 (H2.out.2.2.1)
     obtain ⟨y0, y1, y2, y3, y4, y5, y6⟩ := cell7 (H2.out.2.2.1)
     refine wpFreeM_step [10] (by kernel_rfl) ⟨?_, trivial⟩
     refine wpOp_of_list rfl ?_
     go_wp2_with fail
     obtain ⟨W3, hW3, z7, kk⟩ := set7 (H2.out.2.2.1) (.int .i32 xr) (.int .i64 xa) (.int .i64 xz) (.bool xf) (.bool xx) (.bool xn) (.bool xp)
     rw [hW3]
     clear hW3 f0 f1 f2 f3 f4 f5 f6 y0 y1 y2 y3 y4 y5 y6
     have zz : Fz (fun _ => False) wr W3 := ⟨kk.os.trans H2.out.2.1.os, kk.tape.trans H2.out.2.1.tape, kk.output.trans H2.out.2.1.output, Nat.le_trans H2.out.2.1.size kk.size, fun z hz hn => (kk.block z (Nat.lt_of_lt_of_le hz H2.out.2.1.size) (by have h1 := H2.out.2.2.2.2; omega)).trans (H2.out.2.1.block z hz hn)⟩
     have oo' : Cells W3 W1.heap.size 51 #[.int .i32 0, .int .i64 0, .int .i64 0, .bool false, .bool false, .bool false, .bool false] := kk.cellsK (show ¬ W1.heap.size = wd.heap.size by have h1 := H2.out.2.2.2.2; omega) H2.out.2.2.2.1
     have H3 := Lib.hid (And.intro zz (And.intro z7 oo'))
     clear zz z7 oo' kk
     refine ⟨⟨⟨_, H3.out.1⟩, rfl⟩, ?_⟩
     obtain ⟨f0, f1, f2, f3, f4, f5, f6⟩ := froz7 (H3.out.2.2)
     obtain ⟨y0, y1, y2, y3, y4, y5, y6⟩ := cell7 (H3.out.2.2)
     refine wpFreeM_step [11] (by kernel_rfl) ⟨?_, trivial⟩
     refine wpOp_of_list rfl ?_
     go_wp2_with fail
     obtain ⟨W4, hW4, z7, kk⟩ := set7 (H3.out.2.2) (.int .i32 xr) (.int .i64 xa) (.int .i64 xz) (.bool xf) (.bool xx) (.bool xn) (.bool xp)
     rw [hW4]
     clear hW4 f0 f1 f2 f3 f4 f5 f6 y0 y1 y2 y3 y4 y5 y6
     have zz : Fz (fun _ => False) wr W4 := ⟨kk.os.trans H3.out.1.os, kk.tape.trans H3.out.1.tape, kk.output.trans H3.out.1.output, Nat.le_trans H3.out.1.size kk.size, fun z hz hn => (kk.block z (Nat.lt_of_lt_of_le hz H3.out.1.size) (by have h1 := H2.out.2.2.2.2; omega)).trans (H3.out.1.block z hz hn)⟩
     have oo' : Cells W4 wd.heap.size 52 #[.int .i32 xr, .int .i64 xa, .int .i64 xz, .bool xf, .bool xx, .bool xn, .bool xp] := kk.cellsK (show ¬ wd.heap.size = W1.heap.size by have h1 := H2.out.2.2.2.2; omega) H3.out.2.1
     have H4 := Lib.hid (And.intro zz (And.intro z7 oo'))
     clear zz z7 oo' kk
     refine ⟨⟨⟨_, H4.out.1⟩, rfl⟩, ?_⟩
     unfold wpFreeM
     go_wp2_with fail
     go_meet
     exact ⟨_, _, rfl, rfl, H4.out.2.2, H4.out.2.1, HB.out.trans (H4.out.1.below HB.out.size (fun _ _ hf => hf))⟩
    ·refine wpOp_of_list rfl ?_
     have t1 := cells_new wd #[.int .i32 0, .int .i64 0, .int .i64 0, .bool false, .bool false, .bool false, .bool false] 51
     have b1' := below_new wd (.cells #[.int .i32 0, .int .i64 0, .int .i64 0, .bool false, .bool false, .bool false, .bool false] 51)
     obtain ⟨W1, hW1⟩ : ∃ V, wd.alloc (.cells #[.int .i32 0, .int .i64 0, .int .i64 0, .bool false, .bool false, .bool false, .bool false] 51) = V := ⟨_, rfl⟩
     rw [hW1] at t1 b1'
     have t2 := cells_new W1 #[.int .i32 0, .int .i64 0, .int .i64 0, .bool false, .bool false, .bool false, .bool false] 52
     have b2' := below_new W1 (.cells #[.int .i32 0, .int .i64 0, .int .i64 0, .bool false, .bool false, .bool false, .bool false] 52)
     obtain ⟨W2, hW2⟩ : ∃ V, W1.alloc (.cells #[.int .i32 0, .int .i64 0, .int .i64 0, .bool false, .bool false, .bool false, .bool false] 52) = V := ⟨_, rfl⟩
     rw [hW2] at t2 b2'
     have z1 := HD.out.trans (Fz.of_below b1')
     have z2 := z1.trans (Fz.of_below b2')
     have s1 : wd.heap.size < W1.heap.size := t1.lt
     have t1' := t1.on b2'
     have sd : wr.heap.size ≤ wd.heap.size := HD.out.size
     have HW1 := Lib.hid hW1
     have HW2 := Lib.hid hW2
     have H2 := Lib.hid (And.intro z1 (And.intro z2 (And.intro t1' (And.intro t2 (And.intro s1 sd)))))
     clear t1 b1' t2 b2' z1 z2 s1 t1' sd hW1 hW2
     go_wp2_with fail
     rw [HW1.out]
     refine ⟨⟨⟨_, H2.out.1⟩, rfl⟩, ?_⟩
     refine wpFreeM_step [8] (by kernel_rfl) ⟨?_, trivial⟩
     refine wpOp_of_list rfl ?_
     go_wp2_with fail
     rw [HW2.out]
     refine ⟨⟨⟨_, H2.out.2.1⟩, rfl⟩, ?_⟩
     obtain ⟨f0, f1, f2, f3, f4, f5, f6⟩ := froz7 (H2.out.2.2.2.1)
     obtain ⟨y0, y1, y2, y3, y4, y5, y6⟩ := cell7 (H2.out.2.2.2.1)
     refine wpFreeM_step [10] (by kernel_rfl) ⟨?_, trivial⟩
     refine wpOp_of_list rfl ?_
     go_wp2_with fail
     obtain ⟨W3, hW3, z7, kk⟩ := set7 (H2.out.2.2.2.1) (.int .i32 xr) (.int .i64 xa) (.int .i64 xz) (.bool xf) (.bool xx) (.bool xn) (.bool xp)
     rw [hW3]
     clear hW3 f0 f1 f2 f3 f4 f5 f6 y0 y1 y2 y3 y4 y5 y6
     have zz : Fz (fun _ => False) wr W3 := ⟨kk.os.trans H2.out.2.1.os, kk.tape.trans H2.out.2.1.tape, kk.output.trans H2.out.2.1.output, Nat.le_trans H2.out.2.1.size kk.size, fun z hz hn => (kk.block z (Nat.lt_of_lt_of_le hz H2.out.2.1.size) (by have h1 := H2.out.2.2.2.2; omega)).trans (H2.out.2.1.block z hz hn)⟩
     have oo' : Cells W3 wd.heap.size 51 #[.int .i32 0, .int .i64 0, .int .i64 0, .bool false, .bool false, .bool false, .bool false] := kk.cellsK (show ¬ wd.heap.size = W1.heap.size by have h1 := H2.out.2.2.2.2; omega) H2.out.2.2.1
     have H3 := Lib.hid (And.intro zz (And.intro z7 oo'))
     clear zz z7 oo' kk
     refine ⟨⟨⟨_, H3.out.1⟩, rfl⟩, ?_⟩
     obtain ⟨f0, f1, f2, f3, f4, f5, f6⟩ := froz7 (H3.out.2.2)
     obtain ⟨y0, y1, y2, y3, y4, y5, y6⟩ := cell7 (H3.out.2.2)
     refine wpFreeM_step [11] (by kernel_rfl) ⟨?_, trivial⟩
     refine wpOp_of_list rfl ?_
     go_wp2_with fail
     obtain ⟨W4, hW4, z7, kk⟩ := set7 (H3.out.2.2) (.int .i32 xr) (.int .i64 xa) (.int .i64 xz) (.bool xf) (.bool xx) (.bool xn) (.bool xp)
     rw [hW4]
     clear hW4 f0 f1 f2 f3 f4 f5 f6 y0 y1 y2 y3 y4 y5 y6
     have zz : Fz (fun _ => False) wr W4 := ⟨kk.os.trans H3.out.1.os, kk.tape.trans H3.out.1.tape, kk.output.trans H3.out.1.output, Nat.le_trans H3.out.1.size kk.size, fun z hz hn => (kk.block z (Nat.lt_of_lt_of_le hz H3.out.1.size) (by have h1 := H2.out.2.2.2.2; omega)).trans (H3.out.1.block z hz hn)⟩
     have oo' : Cells W4 W1.heap.size 52 #[.int .i32 xr, .int .i64 xa, .int .i64 xz, .bool xf, .bool xx, .bool xn, .bool xp] := kk.cellsK (show ¬ W1.heap.size = wd.heap.size by have h1 := H2.out.2.2.2.2; omega) H3.out.2.1
     have H4 := Lib.hid (And.intro zz (And.intro z7 oo'))
     clear zz z7 oo' kk
     refine ⟨⟨⟨_, H4.out.1⟩, rfl⟩, ?_⟩
     unfold wpFreeM
     go_wp2_with fail
     go_meet
     exact ⟨_, _, rfl, rfl, H4.out.2.2, H4.out.2.1, HB.out.trans (H4.out.1.below HB.out.size (fun _ _ hf => hf))⟩
   case rest =>
    obtain ⟨g, h, rfl, rfl, cg, ch, hb⟩ := hcut
    clear a0 a1 a2 a3 a4 a5 a6 d0 d1 d2 d3 d4 d5 d6
    have m0 : wc.cell? ⟨g, 0, none⟩ = some (.int .i32 xr) := cg.cell 0
    have m1 : wc.cell? ⟨g, 1, none⟩ = some (.int .i64 xa) := cg.cell 1
    have m2 : wc.cell? ⟨g, 2, none⟩ = some (.int .i64 xz) := cg.cell 2
    have m3 : wc.cell? ⟨g, 3, none⟩ = some (.bool xf) := cg.cell 3
    have m4 : wc.cell? ⟨g, 4, none⟩ = some (.bool xx) := cg.cell 4
    have m5 : wc.cell? ⟨g, 5, none⟩ = some (.bool xn) := cg.cell 5
    have m6 : wc.cell? ⟨g, 6, none⟩ = some (.bool xp) := cg.cell 6
    have p0 : wc.cell? ⟨h, 0, none⟩ = some (.int .i32 xr) := ch.cell 0
    have p1 : wc.cell? ⟨h, 1, none⟩ = some (.int .i64 xa) := ch.cell 1
    have p2 : wc.cell? ⟨h, 2, none⟩ = some (.int .i64 xz) := ch.cell 2
    have p3 : wc.cell? ⟨h, 3, none⟩ = some (.bool xf) := ch.cell 3
    have p4 : wc.cell? ⟨h, 4, none⟩ = some (.bool xx) := ch.cell 4
    have p5 : wc.cell? ⟨h, 5, none⟩ = some (.bool xn) := ch.cell 5
    have p6 : wc.cell? ⟨h, 6, none⟩ = some (.bool xp) := ch.cell 6
    have hend : ∃ j : Nat, j ≤ n ∧ Value.int .i64 ((k : Int) + 1) = .int .i64 (j : Int) ∧ Below w.heap.size w wc := ⟨k + 1, by omega, by simp, hb⟩
    have HEND := Lib.hid hend
    clear hend cg ch hb
    go_wp2_with fail
    go_roundw
    case rel => exact HEND.out
    case measure => simp [RowKit.intOf]; omega
theorem nmE_rng : ∀ x ∈ nmE, (0 : Int) ≤ x.2 ∧ x.2 ≤ 1114111 := by decide +kernel
theorem nmR_rng (l : List UInt8) : 0 ≤ nmR l ∧ nmR l ≤ 1114111 := by
 unfold nmR
 cases h : nmE.find? (isNm l) with
 | none => exact ⟨by simp, by simp⟩
 | some x => simpa using nmE_rng x (List.mem_of_find?_eq_some h)
theorem scR_rng (r : Int) : 0 ≤ scR r ∧ scR r ≤ 1114111 := by
 have := (valid_iff (scR r)).1 (scR_valid r)
 omega
theorem mnR_rng (n : Nat) : 0 ≤ mnR n ∧ mnR n ≤ 1114111 := by
 unfold mnR
 split
 ·exact ⟨by omega, by omega⟩
 ·exact scR_rng _
theorem readS_rng : ∀ (L : List Sty), (∀ s ∈ L, ∀ l, 0 ≤ s.means l ∧ s.means l ≤ 1114111) → ∀ xs, 0 ≤ (readS L xs).1 ∧ (readS L xs).1 ≤ 1114111
 | [], _, xs => ⟨by simp [readS], by simp [readS]⟩
 | s :: r, h, xs => by
  unfold readS
  split
  ·exact h s (List.mem_cons_self ..) _
  ·exact readS_rng r (fun u hu => h u (List.mem_cons_of_mem _ hu)) xs
theorem readE_rng (xs : List Nat) (i : Int) : 0 ≤ (readE xs i).1 ∧ (readE xs i).1 ≤ 1114111 := by
 unfold readE
 split
 ·exact ⟨by simp, by simp⟩
 ·split
  ·refine readS_rng _ (fun s hs l => ?_) _
   unfold styL at hs
   simp at hs
   rcases hs with rfl | rfl | rfl | rfl
   ·exact nmR_rng _
   ·exact mnR_rng _
   ·exact mnR_rng _
   ·exact mnR_rng _
  ·exact ⟨by simp, by simp⟩
def inR32 (r : Int) : Prop := -2147483648 ≤ r ∧ r ≤ 2147483647
theorem each_r (xs : List Nat) : ∀ t ∈ eachL xs, inR32 t.r :=
 each_all (fun t => inR32 t.r) (fun _ _ => ⟨by show (-2147483648 : Int) ≤ 0; omega, by show (0 : Int) ≤ 2147483647; omega⟩) (fun _ _ => ⟨by show (-2147483648 : Int) ≤ 0; omega, by show (0 : Int) ≤ 2147483647; omega⟩) (fun k t _ h => by
  unfold markT at h
  split at h
  ·cases h
   exact ⟨by show (-2147483648 : Int) ≤ 0; omega, by show (0 : Int) ≤ 2147483647; omega⟩
  ·split at h
   ·cases h
    have := readE_rng xs k
    exact ⟨by show (-2147483648 : Int) ≤ (readE xs k).1; omega, by show (readE xs k).1 ≤ (2147483647 : Int); omega⟩
   ·split at h
    ·cases h
     exact ⟨by show (-2147483648 : Int) ≤ 0; omega, by show (0 : Int) ≤ 2147483647; omega⟩
    ·cases h)
theorem first_240 {b : Nat} (h : Lib.firstT b = 240) : b < 128 := by
 unfold Lib.firstT at h
 split at h
 ·assumption
 ·repeat' split at h
  all_goals omega
theorem pieceS_rng (n b0 b1 b2 b3 sz lo hi : Nat) : (S.M1.pieceS n b0 b1 b2 b3 sz lo hi).1 ≤ 2097151 := by
 unfold S.M1.pieceS
 repeat' split
 all_goals (simp; try omega)
theorem pieceB_rng (n b0 b1 b2 b3 : Nat) : (S.M1.pieceB n b0 b1 b2 b3).1 ≤ 2097151 := by
 unfold S.M1.pieceB
 split
 ·rename_i h
  have := first_240 h
  show b0 ≤ _
  omega
 ·split
  ·show 65533 ≤ _
   omega
  ·exact pieceS_rng _ _ _ _ _ _ _ _
theorem nxS_rng (n : Nat) (f : Nat → Nat) (k : Nat) : (nxS n f k).1 ≤ 2097151 := pieceB_rng _ _ _ _ _
theorem text_r (n : Nat) (f : Nat → Nat) (fr : Nat) (nb pb : Bool) : ∀ (d k : Nat) (fo x : Bool), ∀ y ∈ textF n f fr nb pb d k fo x, inR32 y.r
 | 0, k, fo, x, y, h => by simp [textF] at h
 | d + 1, k, fo, x, y, h => by
  unfold textF at h
  by_cases hk : k < n
  ·rw [if_pos hk] at h
   rcases List.mem_cons.1 h with rfl | h
   ·have := nxS_rng n f k
    exact ⟨by show (-2147483648 : Int) ≤ ((nxS n f k).1 : Int); omega, by show ((nxS n f k).1 : Int) ≤ 2147483647; omega⟩
   ·exact text_r n f fr nb pb d _ false false y h
  ·rw [if_neg hk] at h
   simp at h
theorem items_r (s : ES) (B : Nat → Nat) (t : TK) (h : inR32 t.r) : ∀ y ∈ s.items B t, inR32 y.r := fun y hy => by
 unfold ES.items tkI at hy
 split at hy
 ·simp at hy
 ·split at hy
  ·exact text_r _ _ _ _ _ _ _ _ _ y hy
  ·split at hy
   ·simp at hy
    subst hy
    exact h
   ·simp at hy
theorem all_r (B : Nat → Nat) : ∀ (l : List TK) (s : ES), (∀ t ∈ l, inR32 t.r) → ∀ y ∈ allI B s l, inR32 y.r
 | [], s, h, y, hy => by simp [allI] at hy
 | t :: r, s, h, y, hy => by
  rcases List.mem_append.1 (show y ∈ s.items B t ++ allI B (s.turn t) r from hy) with hy | hy
  ·exact items_r s B t (h t (List.mem_cons_self ..)) y hy
  ·exact all_r B r (s.turn t) (fun u hu => h u (List.mem_cons_of_mem _ hu)) y hy
end Go.Proofs.YtfafhbgkmlmmdaaGreatDoor.K
namespace Go.Proofs.YtfafhbgkmlmmdaaGreatDoor.K
open Go
variable {P : Program} {ops : Array Oper} {md : Region.Mode} {C : World → Prop} {κ : Nat → Nat}
theorem anyM_lexG {Q : Exit → Act → World → Prop} (hW : Waits md ops κ) (hs : Region.noSelect ops = true) (n : Nat) : ∀ (l : List Nat) (listed : Array Bool) (a : Act), Closed md ops listed → lexFB md ops κ n l listed = true →
  wpQuiet P ops C (fun a' => ∀ w', C w' → wpFreeM P md ops C κ Q n (l.foldl (fun s i => s.setIfInBounds i true) listed) a' w') (opsAt ops l) a → ∀ w, C w → wpAnyM P md ops C κ Q (l.length + n) listed a w
 | [], listed, a, _, hB, h, w, hC => by
  rw [List.length_nil, Nat.zero_add]
  exact anyM_of_free n listed a w (by simpa [lexFB] using hB) (h w hC)
 | i :: r, listed, a, hc, hB, h, w, hC => by
  simp only [lexFB, Bool.and_eq_true] at hB
  obtain ⟨⟨⟨hr, hf⟩, hk⟩, hB⟩ := hB
  have hr' : i ∈ Region.ready md ops listed := by simpa using hr
  obtain ⟨_, oi, hi, _⟩ := mem_ready.1 hr'
  have hfa : FreeAt md ops listed i oi := Region.free_spec hi hf
  simp only [hi, Bool.or_eq_true, Bool.and_eq_true, beq_iff_eq] at hk
  have hq : qOp P ops C i (wpQuiet P ops C (fun a' => ∀ w', C w' → wpFreeM P md ops C κ Q n (r.foldl (fun s i => s.setIfInBounds i true) (listed.setIfInBounds i true)) a' w') (opsAt ops r)) a := by
   unfold qOp
   simp only [hi]
   unfold opsAt at h
   rw [List.filterMap_cons, hi, List.foldl_cons] at h
   exact h
  rw [List.length_cons, show r.length + 1 + n = r.length + n + 1 by omega]
  rcases hk with ⟨hk, hp⟩ | hk
  ·obtain ⟨v, hy, hK⟩ := yP_of_pOp hi (pOp_of_qOp hi hp hq)
   exact first0 hW hi hk (Region.noSelect_spec hs) _ listed a w hc hfa hr' hC hy (anyM_lexG hW hs n r _ _ (hc.set hr') hB hK w hC)
  ·obtain ⟨v, hy, hK⟩ := yieldsIn_of_qOp hi hq
   exact first1 hW hi hk (Region.noSelect_spec hs) _ listed a hc hfa hr' hy (anyM_lexG hW hs n r _ _ (hc.set hr') hB hK) w hC
def mixGB (md : Region.Mode) (ops : Array Oper) (κ : Nat → Nat) (l1 : List Nat) (n : Nat) : Bool := Region.noSelect ops && decide (l1.length + n = ops.size) && waitsB md ops κ && lexFB md ops κ n l1 (Array.replicate ops.size false)
theorem wp_region_mixG {id : Nat} {Q : Exit → Act → World → Prop} {a : Act} {w : World} {l : List Oper} (κ : Nat → Nat) (l1 : List Nat) (n : Nat) (C : World → Prop) (hm : P.follows .mixedOrders = true) (hB : mixGB .any l.toArray κ l1 n = true) (hC : C { w with drawn := w.drawn + 1 })
  (h : wpQuiet P l.toArray C (fun a' => ∀ w', C w' → wpFreeM P .any l.toArray C κ Q n (l1.foldl (fun s i => s.setIfInBounds i true) (Array.replicate l.toArray.size false)) a' w') (opsAt l.toArray l1) a) : (Code.region id l.toArray true).wp P Q a w := by
 simp only [mixGB, Bool.and_eq_true, decide_eq_true_eq] at hB
 obtain ⟨⟨⟨hs, hn⟩, hw⟩, hB⟩ := hB
 have hW := waits_of hw
 have hc : Closed .any l.toArray (Array.replicate l.toArray.size false) := fun j oj _ hl => by rw [getD_replicate_false] at hl; cases hl
 have H := anyM_lexG (Q := Q) hW hs n l1 _ a hc hB h _ hC
 rw [hn] at H
 exact wp_region_any hm (wpAny_of_M hW _ _ _ _ hc (.inl hC) H)
end Go.Proofs.YtfafhbgkmlmmdaaGreatDoor.K
namespace Go.Proofs.YtfafhbgkmlmmdaaGreatDoor.K
open Go.RowKit Go.Shelf Go.Lib Go.Maps
attribute [local irreducible] nmL ofN
theorem fs {P : Program} {ops : Array Oper} {md : Region.Mode} {C : World → Prop} {κ : Nat → Nat} {Q : Exit → Act → World → Prop} {n : Nat} {listed : Array Bool} {a : Act} {w : World} (k : Nat) {o : Oper} (hk : ops[k]? = some o)
  (h : wpList P ops (fun ex a' w' => ex = .normal ∧ (κ k = 3 ∨ C w') ∧ wpFreeM P md ops C κ Q n (listed.setIfInBounds k true) a' w') [o] a w) (hr : Region.ready md ops listed = [k] := by kernel_rfl) : wpFreeM P md ops C κ Q (n + 1) listed a w :=
 wpFreeM_step [k] hr ⟨wpOp_of_list hk h, trivial⟩
theorem ftellsLaw (xs : List Nat) (A : Option Addr) (cap : Nat) (a : Int) (w : World) (hb : BY w w.heap.size xs A cap) (hM : G.MX w) (hT : S.Tabs w) :
  Calls Tryz.prog 7 #[.slice A xs.length cap, .int .i64 a] w fun e w' => e = .returned (.bool true) ∧ Below w.heap.size w w' := by
 have CW := fawake_any w hM hT
 have hcap := hb.l
 have hmx := hb.m
 by_cases hl : xs.length ≤ 300
 case neg =>
  obtain ⟨N, hN⟩ : ∃ q, xs.length = q := ⟨_, rfl⟩
  rw [hN] at hcap hl ⊢
  have i0 : (300 : Int) < (N : Int) := by omega
  have HC := Lib.hid CW
  clear CW hb hM hT hN hl
  go_enter Tryz.func7, Tryz.ntmps7
  go_wp2_with fail
  refine HC.out.mono ?_
  rintro e w1 ⟨rfl, b1⟩
  go_wp2_with fail
  go_ret
  exact ⟨rfl, b1⟩
 have CG := fun W (h : Below w.heap.size w W) => fnew_any xs A cap W (hb.on h) (by omega) (hM.on hM.pos h) (hT.below h (by have := hT.2; omega))
 have CR := fun W (h : Below w.heap.size w W) => refAll_any xs A cap W (hb.on h) (by omega)
 have hln := rise_len _ _ _ (all_rise (bF xs) (eachL xs) es0 0 _ (eachL_tiles xs))
 have hrr := all_r (bF xs) (eachL xs) es0 (each_r xs)
 obtain ⟨ALL, hALL⟩ : ∃ q, allI (bF xs) es0 (eachL xs) = q := ⟨_, rfl⟩
 simp only [hALL] at CG CR hln hrr
 have hmA : ALL.length ≤ 300 := by omega
 have CF := fun W g (h : FL W W.heap.size g xs ALL) => And.intro (fitem_any g xs ALL W h a) (And.intro (flen_any g xs ALL W h) (And.intro (fsize_any g xs ALL W h) (And.intro (ftext_any g xs ALL W h hrr (by omega)) (fitems_any g xs ALL W h (by omega)))))
 have CS := fun A2 A3 c2 c3 W (h : IsA W W.heap.size ALL A2 c2) (h' : R.IsA W W.heap.size ALL A3 c3) => items_is ALL A2 A3 c2 c3 W h h' (by omega)
 obtain ⟨N, hN⟩ : ∃ q, xs.length = q := ⟨_, rfl⟩
 obtain ⟨m, hm⟩ : ∃ q, ALL.length = q := ⟨_, rfl⟩
 rw [hN] at hl hcap hln ⊢
 rw [hm] at hmA
 simp only [hN] at CG CR CF
 simp only [hm] at CF CS
 have i0 : ¬ (300 : Int) < (N : Int) := by omega
 have HG := Lib.hid (And.intro CG CR)
 have HE := Lib.hid (And.intro hmA (And.intro hrr hm))
 have HF := Lib.hid (And.intro CF CS)
 clear CG CR hln hrr hALL hN hl hb hM hT hmA CF CS hm
 go_enter Tryz.func7, Tryz.ntmps7
 go_wp2_with fail
 refine CW.mono ?_
 rintro e w1 ⟨rfl, b1⟩
 clear CW
 have CG := HG.out.1 w1 b1
 have H1 := Lib.hid b1
 clear b1
 go_wp2_with fail
 refine CG.mono ?_
 rintro e w2 ⟨g, rfl, hf, b2⟩
 clear CG
 have b12 := H1.out.trans (b2.mono H1.out.size)
 have CR := HG.out.2 w2 b12
 have H2 := Lib.hid (And.intro hf b12)
 clear hf b2 b12
 go_wp2_with fail
 refine CR.mono ?_
 rintro e w3 ⟨v, rfl, ho, b3⟩
 clear CR
 obtain ⟨A3, c3, rfl, hI3⟩ := R.IsA.of_own ho
 have hle3 := hI3.le
 have hmx3 := hI3.mx
 rw [HE.out.2.2] at hle3 ⊢
 have H3 := Lib.hid (And.intro (H2.out.1.on b3) (And.intro hI3 (H2.out.2.trans (b3.mono H2.out.2.size))))
 clear ho b3 hI3
 go_wp2_with fail
 go_loopw [7, 8] (fun o i wr => ∃ k : Nat, k ≤ m ∧ i = .int .i64 (k : Int) ∧ OwnB wr w3.heap.size (putK ALL k) o ∧ Below w3.heap.size w3 wr) (fun _ i _ => m - (RowKit.intOf i).toNat)
 case atStart => exact ⟨0, Nat.zero_le _, rfl, ownB_nil _ _, Below.refl _ _⟩
 case round =>
  obtain ⟨k, hk, rfl, ho, hb⟩ := hrel
  by_cases hkm : k < m
  case pos =>
   have i1 : (k : Int) < (m : Int) := by omega
   have ik : (k : Int) ≤ 100000 := by have := HE.out.1; omega
   obtain ⟨x, hx⟩ : ∃ x, ALL[k]? = some x := ⟨_, List.getElem?_eq_getElem (by rw [HE.out.2.2]; exact hkm)⟩
   have hxr := HE.out.2.1 x (List.mem_of_getElem? hx)
   have hpk := putK_next hx
   obtain ⟨b, o, rfl, hbb, a0, a1, a2, a3, a4, a5, a6⟩ := R.isA_cells (H3.out.2.1.below hb) hx
   obtain ⟨xr, xa, xz, xf, xx, xn, xp⟩ := x
   simp only at a0 hxr hpk
   have C := rput_any xr hxr.1 hxr.2 wr
   have HK := Lib.hid (And.intro ho (And.intro hb hpk))
   clear ho hb hx hxr hpk hbb a1 a2 a3 a4 a5 a6
   go_wp2_with fail
   refine C.mono ?_
   rintro e w5 ⟨A5, c5, rfl, hB5, b5⟩
   have own5 := HK.out.1.below b5
   have b15 : Below w3.heap.size w3 w5 := HK.out.2.1.trans (b5.mono HK.out.2.1.size)
   have H5 := Lib.hid (And.intro own5 (And.intro hB5 (And.intro b15 (show (putK ALL k).length + (putN xr).length ≤ 1000000 by
    have h1 := putK_len ALL k
    have h2 := putN_len xr
    omega))))
   obtain ⟨P, hP⟩ : ∃ q, (putN xr).length = q := ⟨_, rfl⟩
   have HP := Lib.hid hP
   rw [hP]
   clear own5 hB5 b15 b5 C a0 hP
   go_wp2_with (at_builtin; refine wpList_appBs rfl (.tmp 29) (.tmp 35) rfl w3.heap.size _ (putK ALL k) (putN xr) rfl H5.out.1 A5 P c5 HP.out rfl H5.out.2.1 (by rw [← HP.out]; exact H5.out.2.2.2) H5.out.2.2.1.size ?_)
   intro v' w6 o6 b6
   have hend : ∃ j : Nat, j ≤ m ∧ Value.int .i64 ((k : Int) + 1) = .int .i64 (j : Int) ∧ OwnB w6 w3.heap.size (putK ALL j) v' ∧ Below w3.heap.size w3 w6 := ⟨k + 1, by omega, by simp, by rw [HK.out.2.2]; exact o6, H5.out.2.2.1.trans b6⟩
   have HEND := Lib.hid hend
   clear hend o6 b6
   go_wp2_with fail
   go_roundw
   case rel => exact HEND.out
   case measure => simp [RowKit.intOf]; omega
  case neg =>
   obtain rfl : k = m := by omega
   have i1 : ¬ (k : Int) < (k : Int) := by omega
   have hkk : putK ALL k = putL (ALL.map (·.r)) := by
    unfold putK
    rw [List.take_of_length_le (by rw [HE.out.2.2]; exact Nat.le_refl _)]
   rw [hkk] at ho
   obtain ⟨A5, c5, rfl, hB5⟩ := OwnB.by ho (putL_lt _)
   obtain ⟨SS, hSS⟩ : ∃ q : ByteArray, (⟨(u8s (putL (ALL.map (·.r)))).toArray⟩ : ByteArray) = q := ⟨_, rfl⟩
   obtain ⟨Q, hQ⟩ : ∃ q, (putL (ALL.map (·.r))).length = q := ⟨_, rfl⟩
   have hcv : ∀ W, Below wr.heap.size wr W → (convert 22 9 (.slice A5 Q c5)).run Tryz.prog W = .ok (.string SS) W := fun W h => by
    have h1 := conv_by (hB5.on h)
    rw [hSS, hQ] at h1
    exact h1
   have hst : ∀ W, FL W W.heap.size g xs ALL → Calls Tryz.prog 32 #[.pointer (some ⟨g, 0, none⟩)] W fun e w' => e = .returned (.string SS) ∧ Below W.heap.size W w' := fun W h => by rw [← hSS]; exact (HF.out.1 W g h).2.2.2.1
   have hfl := (H3.out.1.below hb).mono hb.size
   have hir := (H3.out.2.1.below hb).mono hb.size
   have bwr := H3.out.2.2.trans (hb.mono H3.out.2.2.size)
   have HZ := Lib.hid (And.intro bwr (And.intro hfl (And.intro hir (And.intro hcv hst))))
   rw [hQ]
   clear hb ho hB5 hkk hkm hk hcv hst hSS hQ hfl hir bwr
   go_upto_region 9 with fail
   obtain ⟨y, hy⟩ : ∃ y : IT, (if 0 ≤ a then (ALL[a.toNat]?).getD it0 else it0) = y := ⟨_, rfl⟩
   obtain ⟨OK, hOK⟩ : ∃ b : Bool, decide (0 ≤ a ∧ a < (k : Int)) = b := ⟨_, rfl⟩
   have hyo : OK = true → ∃ i : Nat, a = (i : Int) ∧ i < k ∧ ALL[i]? = some y := fun e => by
    rw [e, decide_eq_true_eq] at hOK
    obtain ⟨x, hx⟩ : ∃ x, ALL[a.toNat]? = some x := ⟨_, List.getElem?_eq_getElem (by rw [HE.out.2.2]; omega)⟩
    rw [if_pos hOK.1, hx] at hy
    exact ⟨a.toNat, by omega, by omega, by rw [hx, ← hy]; rfl⟩
   have hyn : OK = false → y = it0 := fun e => by
    rw [e, decide_eq_false_iff_not] at hOK
    rw [← hy]
    split
    ·rw [List.getElem?_eq_none (by rw [HE.out.2.2]; omega)]
     rfl
    ·rfl
   have hok : (OK = true ∧ 0 ≤ a ∧ a < (k : Int)) ∨ (OK = false ∧ ¬ (0 ≤ a ∧ a < (k : Int))) := by
    cases OK
    ·exact .inr ⟨rfl, by simpa using hOK⟩
    ·exact .inl ⟨rfl, by simpa using hOK⟩
   have hv : itemA ALL a = .tuple #[.agg (itA y), .bool OK] := by
    unfold itemA
    rw [HE.out.2.2, hy, hOK]
   have CI := (HF.out.1 wr g HZ.out.2.1).1
   rw [hv] at CI
   have HY := Lib.hid (And.intro hyo (And.intro hyn hok))
   clear hv hy hOK hyo hyn hok
   obtain ⟨xr, xa, xz, xf, xx, xn, xp⟩ := y
   unfold itA at CI
   go_cut [9, 10] from 37 to 42 (fun p o wx => ∃ G, p = .pointer (some ⟨G, 0, none⟩) ∧ o = .bool OK ∧ Cells wx G 52 #[.int .i32 xr, .int .i64 xa, .int .i64 xz, .bool xf, .bool xx, .bool xn, .bool xp] ∧ Below wr.heap.size wr wx)
   case first =>
    go_wp2_with fail
    refine CI.mono ?_
    rintro e w6 ⟨rfl, b6⟩
    have b7 := below_new w6 (.cells #[.int .i32 xr, .int .i64 xa, .int .i64 xz, .bool xf, .bool xx, .bool xn, .bool xp] 52)
    have t7 := cells_new w6 #[.int .i32 xr, .int .i64 xa, .int .i64 xz, .bool xf, .bool xx, .bool xn, .bool xp] 52
    have HQ := Lib.hid (And.intro t7 (b6.trans (b7.mono b6.size)))
    clear b6 b7 t7 CI
    go_wp2_with fail
    go_meet
    exact ⟨_, rfl, rfl, HQ.out.1, HQ.out.2⟩
   case rest =>
    obtain ⟨G, rfl, rfl, hG, b6⟩ := hcut
    obtain ⟨wz, rfl⟩ : ∃ W : World, W = wc := ⟨_, rfl⟩
    clear CI
    go_upto_region 10 with fail
    go_cut [75] from 43 to 75 (fun f wy => f = .bool false ∧ Below wr.heap.size wr wy)
    case first =>
     obtain ⟨y0, y1, y2, y3, y4, y5, y6⟩ := cell7 hG
     rcases HY.out.2.2 with ⟨hok, ha0, ha1⟩ | ⟨hok, hno⟩
     case inr =>
      have hy0 := HY.out.2.1 hok
      subst hok
      cases hy0
      have HB := Lib.hid b6
      clear hG b6
      by_cases h0 : 0 ≤ a
      ·have h1 : ¬ a < (k : Int) := fun h => hno ⟨h0, h⟩
       clear hno
       go_quiet (fail)
       go_wp2_with fail
       go_meet
       exact ⟨rfl, below_drewN HB.out _⟩
      ·clear hno
       go_quiet (fail)
       go_wp2_with fail
       go_meet
       exact ⟨rfl, below_drewN HB.out _⟩
     obtain ⟨i, rfl, hik, hx⟩ := HY.out.1 hok
     subst hok
     obtain ⟨b, o, rfl, hbb, _, _, _, _, _, _, _⟩ := R.isA_cells ((HZ.out.2.2.1.below b6).mono b6.size) hx
     have z0 := Fz.drew (X := fun _ => False) wz
     have P0 : ∀ j v, wz.cell? ⟨G, j, none⟩ = some v → ∀ P : Later (fun _ => False) wz, P.W.cell? ⟨G, j, none⟩ = some v := fun j v h P => cell_later h (fun hf => hf) P
     have d0 := P0 _ _ y0
     have d1 := P0 _ _ y1
     have d2 := P0 _ _ y2
     have d3 := P0 _ _ y3
     have d4 := P0 _ _ y4
     have d5 := P0 _ _ y5
     have d6 := P0 _ _ y6
     have j1 : (i : Int) + 1 ≤ (c3 : Int) := by have := hle3; omega
     have j2 : (i : Int) ≤ 100000 := by have := HE.out.1; omega
     have j3 : ¬ c3 - i = 0 := by have := hle3; omega
     have j4 : (i : Int) ≤ (i : Int) + 1 := by omega
     have j5 : (i : Int) < (k : Int) := by omega
     have HW := Lib.hid (And.intro z0 (And.intro b6 (And.intro hG hx)))
     clear z0 b6 hG hx ha0 ha1 P0 y0 y1 y2 y3 y4 y5 y6 hbb
     refine wp_region_mixF (fun i => if i = 14 ∨ 20 ≤ i then 2 else 0) [0, 1, 2, 3, 4, 5, 6, 7, 8, 9, 10, 11, 12, 13, 15, 16, 17, 18, 19] 14 (fun w' => ∃ P : Later (fun _ => False) wz, w' = P.W) (by kernel_rfl) (by kernel_rfl) ⟨⟨_, Fz.drew wz⟩, rfl⟩ ?_
     simp only [opsAt, List.filterMap_cons, List.filterMap_nil, List.getElem?_toArray, List.getElem?_cons_zero, List.getElem?_cons_succ]
     change wpQuiet _ _ _ _ (_ :: _ :: _ :: _ :: _ :: _ :: _ :: _ :: _ :: _ :: _ :: _ :: _ :: _ :: _ :: _ :: _ :: _ :: _ :: []) _
     repeat (go_big_quiet_step (fail))
     refine wpQuiet_nil ?_
     have bd : Below wz.heap.size wz { wz with drawn := wz.drawn + 1 } := ⟨rfl, rfl, rfl, Nat.le_refl _, fun _ _ => rfl⟩
     have zd : Fz (fun _ => False) wz { wz with drawn := wz.drawn + 1 } := Fz.drew wz
     obtain ⟨wd, hwd⟩ : ∃ V, ({ wz with drawn := wz.drawn + 1 } : World) = V := ⟨_, rfl⟩
     rw [hwd] at zd bd ⊢
     clear hwd d0 d1 d2 d3 d4 d5 d6
     have HD := Lib.hid (And.intro zd bd)
     clear zd bd
     refine fs 14 rfl ?_
     go_wp2_with fail
     have al := below_new wd (.cells #[.int .i32 xr, .int .i64 xa, .int .i64 xz, .bool xf, .bool xx, .bool xn, .bool xp] 52)
     have tl := cells_new wd #[.int .i32 xr, .int .i64 xa, .int .i64 xz, .bool xf, .bool xx, .bool xn, .bool xp] 52
     obtain ⟨W1, hW1⟩ : ∃ V, wd.alloc (.cells #[.int .i32 xr, .int .i64 xa, .int .i64 xz, .bool xf, .bool xx, .bool xn, .bool xp] 52) = V := ⟨_, rfl⟩
     rw [hW1] at al tl ⊢
     have b1d := HD.out.2.trans (al.mono HD.out.2.size)
     have hA1 : IsA W1 W1.heap.size [⟨xr, xa, xz, xf, xx, xn, xp⟩] (some ⟨wd.heap.size, 0, none⟩) 1 := ⟨Nat.le_refl _, by unfold maxLen; omega, fun j x hj => by
      match j, hj with
      | 0, hj =>
       simp at hj
       subst hj
       exact ⟨_, 0, rfl, tl.lt, fun q u hu => by rw [Nat.zero_mul, Nat.zero_add, Nat.zero_add]; exact (tl.cell q).trans hu⟩
      | j + 1, hj => simp at hj⟩
     have hR := ((HZ.out.2.2.1.below HW.out.2.1).mono HW.out.2.1.size).on b1d
     have hA2 : R.IsA W1 W1.heap.size [⟨xr, xa, xz, xf, xx, xn, xp⟩] (some ⟨b, o + i * 7, none⟩) (c3 - i) := ⟨by simp; omega, by have := hmx3; omega, fun j x hj => by
      match j, hj with
      | 0, hj =>
       simp at hj
       subst hj
       obtain ⟨b', o', e', h1, h2⟩ := hR.r i _ HW.out.2.2.2
       cases e'
       exact ⟨b, _, rfl, h1, fun q u hu => by rw [Nat.zero_mul, Nat.zero_add, Nat.add_assoc]; exact h2 q u hu⟩
      | j + 1, hj => simp at hj⟩
     have CI := items_is [⟨xr, xa, xz, xf, xx, xn, xp⟩] _ _ _ _ W1 hA1 hA2 (by simp)
     simp only [List.length_cons, List.length_nil, Nat.zero_add] at CI
     have H1d := Lib.hid (And.intro (HD.out.1.trans (Fz.of_below al)) b1d)
     clear al tl hW1 b1d hA1 hA2 hR
     refine ⟨⟨⟨_, H1d.out.1⟩, rfl⟩, ?_⟩
     refine fs 20 rfl ?_
     go_wp2_with fail
     refine CI.mono ?_
     rintro e w2d ⟨rfl, b2d⟩
     clear CI
     have H2d := Lib.hid (And.intro (H1d.out.1.trans (Fz.of_below b2d)) (H1d.out.2.trans (b2d.mono H1d.out.2.size)))
     clear b2d
     go_wp2_with fail
     refine ⟨⟨⟨_, H2d.out.1⟩, rfl⟩, ?_⟩
     refine fs 21 rfl ?_; go_wp2_with fail; refine ⟨⟨⟨_, H2d.out.1⟩, rfl⟩, ?_⟩
     refine fs 22 rfl ?_; go_wp2_with fail; refine ⟨⟨⟨_, H2d.out.1⟩, rfl⟩, ?_⟩
     refine fs 23 rfl ?_; go_wp2_with fail; refine ⟨⟨⟨_, H2d.out.1⟩, rfl⟩, ?_⟩
     refine fs 24 rfl ?_; go_wp2_with fail; refine ⟨⟨⟨_, H2d.out.1⟩, rfl⟩, ?_⟩
     refine fs 25 rfl ?_; go_wp2_with fail; refine ⟨⟨⟨_, H2d.out.1⟩, rfl⟩, ?_⟩
     refine fs 26 rfl ?_; go_wp2_with fail; refine ⟨⟨⟨_, H2d.out.1⟩, rfl⟩, ?_⟩
     refine fs 27 rfl ?_; go_wp2_with fail; refine ⟨⟨⟨_, H2d.out.1⟩, rfl⟩, ?_⟩
     refine wpFreeM_step [28, 29] (by kernel_rfl) ⟨?_, ?_, trivial⟩
     ·refine wpOp_of_list rfl ?_
      go_wp2_with fail
      refine ⟨⟨⟨_, H2d.out.1⟩, rfl⟩, ?_⟩
      refine fs 29 rfl ?_; go_wp2_with fail; refine ⟨⟨⟨_, H2d.out.1⟩, rfl⟩, ?_⟩
      refine fs 30 rfl ?_; go_wp2_with fail; refine ⟨⟨⟨_, H2d.out.1⟩, rfl⟩, ?_⟩
      refine fs 31 rfl ?_; go_wp2_with fail; refine ⟨⟨⟨_, H2d.out.1⟩, rfl⟩, ?_⟩
      refine fs 32 rfl ?_; go_wp2_with fail; refine ⟨⟨⟨_, H2d.out.1⟩, rfl⟩, ?_⟩
      unfold wpFreeM
      go_wp2_with fail
      go_meet
      exact ⟨rfl, HW.out.2.1.trans (H2d.out.2.mono HW.out.2.1.size)⟩
     ·refine wpOp_of_list rfl ?_
      go_wp2_with fail
      refine ⟨⟨⟨_, H2d.out.1⟩, rfl⟩, ?_⟩
      refine fs 28 rfl ?_; go_wp2_with fail; refine ⟨⟨⟨_, H2d.out.1⟩, rfl⟩, ?_⟩
      refine fs 30 rfl ?_; go_wp2_with fail; refine ⟨⟨⟨_, H2d.out.1⟩, rfl⟩, ?_⟩
      refine fs 31 rfl ?_; go_wp2_with fail; refine ⟨⟨⟨_, H2d.out.1⟩, rfl⟩, ?_⟩
      refine fs 32 rfl ?_; go_wp2_with fail; refine ⟨⟨⟨_, H2d.out.1⟩, rfl⟩, ?_⟩
      unfold wpFreeM
      go_wp2_with fail
      go_meet
      exact ⟨rfl, HW.out.2.1.trans (H2d.out.2.mono HW.out.2.1.size)⟩
    case rest =>
     obtain ⟨rfl, b7⟩ := hcut
     obtain ⟨wy, rfl⟩ : ∃ W : World, W = wc := ⟨_, rfl⟩
     have hf7 := (HZ.out.2.1.below b7).mono b7.size
     have hr7 := (HZ.out.2.2.1.below b7).mono b7.size
     have lat : ∀ P : Later (fun _ => False) wy, Below wy.heap.size wy P.W := fun P => ⟨P.h.os, P.h.tape, P.h.output, P.h.size, fun k hk => P.h.block k hk (fun h => h)⟩
     have Q1 : ∀ P : Later (fun _ => False) wy, Calls Tryz.prog 30 #[.pointer (some ⟨g, 0, none⟩)] P.W fun e w' => e = .returned (.int .i64 (k : Int)) ∧ ∃ q : Later (fun _ => False) wy, w' = q.W := fun P => by
      have := (HF.out.1 P.W g (hf7.on (lat P))).2.1
      exact this.mono fun e w' h => ⟨h.1, P, h.2⟩
     have Q2 : ∀ P : Later (fun _ => False) wy, Calls Tryz.prog 31 #[.pointer (some ⟨g, 0, none⟩)] P.W fun e w' => e = .returned (.int .i64 (N : Int)) ∧ ∃ q : Later (fun _ => False) wy, w' = q.W := fun P => by
      have := (HF.out.1 P.W g (hf7.on (lat P))).2.2.1
      exact this.mono fun e w' h => ⟨h.1, P, h.2⟩
     have HT := Lib.hid (And.intro hf7 (And.intro hr7 b7))
     clear hf7 hr7 b7 lat hG b6
     go_upto_region 12 with fail
     refine wp_region_mixG (fun i => if i = 1 ∨ i = 7 then 1 else if i = 14 ∨ 16 ≤ i then 2 else 0) [0, 1, 2, 3, 4, 5, 6, 7, 8, 9, 10, 11, 12, 13, 15] 11 (fun w' => ∃ P : Later (fun _ => False) wy, w' = P.W) (by kernel_rfl) (by kernel_rfl) ⟨⟨_, Fz.drew wy⟩, rfl⟩ ?_
     simp only [opsAt, List.filterMap_cons, List.filterMap_nil, List.getElem?_toArray, List.getElem?_cons_zero, List.getElem?_cons_succ]
     change wpQuiet _ _ _ _ (_ :: _ :: _ :: _ :: _ :: _ :: _ :: _ :: _ :: _ :: _ :: _ :: _ :: _ :: _ :: []) _
     iterate 3 (go_big_quiet_step (exact Q1 _))
     clear Q1
     repeat (go_big_quiet_step (exact Q2 _))
     refine wpQuiet_nil ?_
     clear Q2
     rintro _ ⟨P0, rfl⟩
     obtain ⟨wd, z0⟩ := P0
     dsimp only
     have bd : Below wy.heap.size wy wd := ⟨z0.os, z0.tape, z0.output, z0.size, fun k hk => z0.block k hk (fun h => h)⟩
     have CT := HZ.out.2.2.2.2 wd (HT.out.1.on bd)
     have cv := HZ.out.2.2.2.1 wd ((HT.out.2.2.trans (bd.mono HT.out.2.2.size)))
     have HX := Lib.hid (And.intro z0 bd)
     clear z0 bd
     have hq : (SS.toList == SS.toList) = true := by simp
     refine wpFreeM_step [14, 16] (by kernel_rfl) ⟨?_, ?_, trivial⟩
     all_goals refine wpOp_of_list rfl ?_
     all_goals go_wp2_with fail
     rotate_left
     refine ⟨⟨⟨_, HX.out.1⟩, rfl⟩, ?_⟩
     refine fs 14 rfl ?_
     go_wp2_with fail
     all_goals
      refine CT.mono ?_
      rintro e w8 ⟨rfl, b8⟩
      have b18 := HX.out.2.trans (b8.mono HX.out.2.size)
      have CT := (HF.out.1 w8 g (HT.out.1.on b18)).2.2.2.2
      have cv := HZ.out.2.2.2.1 w8 (HT.out.2.2.trans (b18.mono HT.out.2.2.size))
      have HX := Lib.hid (And.intro (HX.out.1.trans (Fz.of_below b8)) b18)
      clear b8 b18
      go_wp2_with fail
     all_goals refine ⟨⟨⟨_, HX.out.1⟩, rfl⟩, ?_⟩
     rotate_left
     refine fs 16 rfl ?_; go_wp2_with fail; refine ⟨⟨⟨_, HX.out.1⟩, rfl⟩, ?_⟩
     all_goals
      refine fs 17 rfl ?_; go_wp2_with fail; refine ⟨⟨⟨_, HX.out.1⟩, rfl⟩, ?_⟩
     all_goals
      refine fs 18 rfl ?_; go_wp2_with fail; refine ⟨⟨⟨_, HX.out.1⟩, rfl⟩, ?_⟩
     all_goals
      refine fs 19 rfl ?_; go_wp2_with fail; refine ⟨⟨⟨_, HX.out.1⟩, rfl⟩, ?_⟩
     all_goals
      refine wpFreeM_step [20, 22] (by kernel_rfl) ⟨?_, ?_, trivial⟩
      ·refine wpOp_of_list rfl ?_
       go_wp2_with fail
       refine ⟨⟨⟨_, HX.out.1⟩, rfl⟩, ?_⟩
       refine wpFreeM_step [21, 22] (by kernel_rfl) ⟨?_, ?_, trivial⟩
       ·refine wpOp_of_list rfl ?_
        go_wp2_with fail
        refine CT.mono ?_
        rintro e w9 ⟨v9, rfl, o9, b9⟩
        obtain ⟨A9, c9, rfl, y9⟩ := IsA.of_own o9
        have b19 := HX.out.2.trans (b9.mono HX.out.2.size)
        have CI := HF.out.2 A9 A3 c9 c3 w9 y9 (HT.out.2.1.on b19)
        have HX := Lib.hid (And.intro (HX.out.1.trans (Fz.of_below b9)) b19)
        rw [HE.out.2.2]
        clear o9 y9 b9 b19 CT cv
        go_wp2_with fail
        refine ⟨⟨⟨_, HX.out.1⟩, rfl⟩, ?_⟩
        refine fs 22 rfl ?_; go_wp2_with fail; refine ⟨⟨⟨_, HX.out.1⟩, rfl⟩, ?_⟩
        refine fs 23 rfl ?_
        go_wp2_with fail
        refine CI.mono ?_
        rintro e w10 ⟨rfl, b10⟩
        have HX := Lib.hid (And.intro (HX.out.1.trans (Fz.of_below b10)) (HX.out.2.trans (b10.mono HX.out.2.size)))
        clear b10 CI
        go_wp2_with fail
        refine ⟨⟨⟨_, HX.out.1⟩, rfl⟩, ?_⟩
        refine fs 24 rfl ?_; go_wp2_with fail; refine ⟨⟨⟨_, HX.out.1⟩, rfl⟩, ?_⟩
        refine fs 25 rfl ?_; go_wp2_with fail; refine ⟨⟨⟨_, HX.out.1⟩, rfl⟩, ?_⟩
        unfold wpFreeM
        go_wp2_with fail
        go_ret
        exact ⟨rfl, HZ.out.1.trans ((HT.out.2.2.trans (HX.out.2.mono HT.out.2.2.size)).mono HZ.out.1.size)⟩
       ·refine wpOp_of_list rfl ?_
        go_wp2_with fail
        refine ⟨⟨⟨_, HX.out.1⟩, rfl⟩, ?_⟩
        refine fs 21 rfl ?_
        go_wp2_with fail
        refine CT.mono ?_
        rintro e w9 ⟨v9, rfl, o9, b9⟩
        obtain ⟨A9, c9, rfl, y9⟩ := IsA.of_own o9
        have b19 := HX.out.2.trans (b9.mono HX.out.2.size)
        have CI := HF.out.2 A9 A3 c9 c3 w9 y9 (HT.out.2.1.on b19)
        have HX := Lib.hid (And.intro (HX.out.1.trans (Fz.of_below b9)) b19)
        rw [HE.out.2.2]
        clear o9 y9 b9 b19 CT cv
        go_wp2_with fail
        refine ⟨⟨⟨_, HX.out.1⟩, rfl⟩, ?_⟩
        refine fs 23 rfl ?_
        go_wp2_with fail
        refine CI.mono ?_
        rintro e w10 ⟨rfl, b10⟩
        have HX := Lib.hid (And.intro (HX.out.1.trans (Fz.of_below b10)) (HX.out.2.trans (b10.mono HX.out.2.size)))
        clear b10 CI
        go_wp2_with fail
        refine ⟨⟨⟨_, HX.out.1⟩, rfl⟩, ?_⟩
        refine fs 24 rfl ?_; go_wp2_with fail; refine ⟨⟨⟨_, HX.out.1⟩, rfl⟩, ?_⟩
        refine fs 25 rfl ?_; go_wp2_with fail; refine ⟨⟨⟨_, HX.out.1⟩, rfl⟩, ?_⟩
        unfold wpFreeM
        go_wp2_with fail
        go_ret
        exact ⟨rfl, HZ.out.1.trans ((HT.out.2.2.trans (HX.out.2.mono HT.out.2.2.size)).mono HZ.out.1.size)⟩
      ·refine wpOp_of_list rfl ?_
       go_wp2_with fail
       refine ⟨⟨⟨_, HX.out.1⟩, rfl⟩, ?_⟩
       refine fs 20 rfl ?_; go_wp2_with fail; refine ⟨⟨⟨_, HX.out.1⟩, rfl⟩, ?_⟩
       refine fs 21 rfl ?_
       go_wp2_with fail
       refine CT.mono ?_
       rintro e w9 ⟨v9, rfl, o9, b9⟩
       obtain ⟨A9, c9, rfl, y9⟩ := IsA.of_own o9
       have b19 := HX.out.2.trans (b9.mono HX.out.2.size)
       have CI := HF.out.2 A9 A3 c9 c3 w9 y9 (HT.out.2.1.on b19)
       have HX := Lib.hid (And.intro (HX.out.1.trans (Fz.of_below b9)) b19)
       rw [HE.out.2.2]
       clear o9 y9 b9 b19 CT cv
       go_wp2_with fail
       refine ⟨⟨⟨_, HX.out.1⟩, rfl⟩, ?_⟩
       refine fs 23 rfl ?_
       go_wp2_with fail
       refine CI.mono ?_
       rintro e w10 ⟨rfl, b10⟩
       have HX := Lib.hid (And.intro (HX.out.1.trans (Fz.of_below b10)) (HX.out.2.trans (b10.mono HX.out.2.size)))
       clear b10 CI
       go_wp2_with fail
       refine ⟨⟨⟨_, HX.out.1⟩, rfl⟩, ?_⟩
       refine fs 24 rfl ?_; go_wp2_with fail; refine ⟨⟨⟨_, HX.out.1⟩, rfl⟩, ?_⟩
       refine fs 25 rfl ?_; go_wp2_with fail; refine ⟨⟨⟨_, HX.out.1⟩, rfl⟩, ?_⟩
       unfold wpFreeM
       go_wp2_with fail
       go_ret
       exact ⟨rfl, HZ.out.1.trans ((HT.out.2.2.trans (HX.out.2.mono HT.out.2.2.size)).mono HZ.out.1.size)⟩
end Go.Proofs.YtfafhbgkmlmmdaaGreatDoor.K
namespace Go.Proofs.YtfafhbgkmlmmdaaGreatDoor
open Go.ChangeShapes Go.WideShapes Go.ChangeAt Go.RowKit Go.Shelf
open Go.Lib
open Go.ChangeMaps (open_string shut_string)
theorem flatTells_lifted (os : Os) (started : os.Started) (H : Type) (enc : TypeId × Value → H) :
  ReturnsInHanded {} Tryz.checked os 7 .any (fun w args => (Rows.flatTellsSpec.pre enc Tryz.prog Tryz.f7 [] false w args ∧ laidMetH Tryz.prog laidAll7 w) ∧ sizedMet enc Tryz.prog Tryz.f7 (OpenSpec.ofChange Rows.flatTellsSpec) false w args)
   (Rows.flatTellsSpec.post enc Tryz.prog Tryz.f7 false true false false) := by
 refine handed_laid (C := Tryz.checked) (X := fun w _ => laidMetH Tryz.prog laidAll7 w) (fun _ _ _ hh h => h.of_heap hh) own started (by kernel_rfl) Tryz.func7
  (ChangeSpec.witness_shaped (enc := enc) (C := Tryz.checked) (os := os) (X := fun w _ => laidMetH Tryz.prog laidAll7 w) false (World.laidAll Tryz.prog os laidAll7) #[.slice none 0 0, .int .i64 0] 8 (World.laidAll_os _ _ _)
   (World.shaped_of_ZipB (by kernel_rfl) (by kernel_rfl)) (by kernel_rfl) (by kernel_rfl) (by kernel_rfl)
   (by rw [MakeChecks.laidMetH_plain _ _ _ (by kernel_rfl)]; exact laidMet_laidAll _ (by kernel_rfl) (by kernel_rfl))) ?_
 intro W base args ds gs before hsh hval0 hW hL _
 have hval : ∀ (j : Nat) t v, Tryz.f7.params[j]? = some t → args[j]? = some v → Value.okWide Tryz.prog W .any base t v := hval0
 have hW' := hW
 obtain ⟨p, q, hA0, hV, rfl, _, _⟩ := hW
 have hA : DataW.TrodAll enc Tryz.prog W 0 (fun _ => true) true Tryz.f7.params.toList args.toList ds p := hA0
 rw [Tryz.params7] at hA hval
 obtain ⟨v0, vs0, d0, ds0, p0, q0, hargs, rfl, rfl, h0, r0⟩ := trodAll_cons hA
 obtain ⟨v1, vs1, d1, ds1, p1, q1, rfl, rfl, rfl, h1, r1⟩ := trodAll_cons r0
 obtain ⟨rfl, rfl, rfl⟩ := trodAll_nil r1
 obtain rfl : args = #[v0, v1] := by cases args; simp_all
 obtain ⟨rfl, rfl⟩ := trodVars_none hV
 have t0 := h0
 have lt0 : ∀ x ∈ p0, x.block < W.heap.size := by obtain ⟨m, hm⟩ := t0; exact DataW.trod_lt m _ _ _ hm
 obtain ⟨xs0, A0, cap0, rfl, hB0⟩ := by_of_arg (hval 0 22 v0 rfl rfl) h0
 obtain ⟨a1, rfl, rfl, rfl, w1⟩ := open_int Tryz.underlying3 (hval 1 3 v1 rfl rfl) h1
 rw [MakeChecks.laidMetH_plain _ _ _ (by kernel_rfl)] at hL
 have hT : S.Tabs W := tabs_of_reads (Lib.laidMet.reads hL (.tail _ (.tail _ (.tail _ (.tail _ (.tail _ (.tail _ (.head _)))))))) (Lib.laidMet.reads hL (.tail _ (.tail _ (.tail _ (.head _))))) (five_of_reads (Lib.laidMet.reads hL (.tail _ (.head _))))
 have hM : G.MX W := mx_of_shape hsh
 clear hA0 hval0
 refine (K.ftellsLaw xs0 A0 cap0 a1 W hB0 hM hT).mono fun e W' ⟨he, bel⟩ => ?_
 subst he
 exact ⟨_, rfl, _, _, _, [], _, [], hW', trodAll_mk1 (shut_bool Tryz.underlying4 _), (trodAll_cons_mk (Below.trod laidOut (by kernel_rfl) (of_decide_eq_true (by kernel_rfl)) t0 bel lt0) (trodAll_cons_mk (shut_int Tryz.underlying3 w1) trodAll_mk0)), rfl, bel.frame _, fun h => by cases h⟩
theorem flatTells_row : Rows.FlatTellsSaid :=
 OpenClaim.holds_of_wide 7 Tryz.f7 rfl rfl rfl rfl rfl rfl rfl ⟨rfl, rfl, rfl, rfl, rfl⟩ rfl rfl rfl rfl rfl (by kernel_rfl) Tryz.func7 (by kernel_rfl)
  (of_decide_eq_true (by kernel_rfl)) (by unfold Func.isWrapper; first | (rw [if_pos (by decide +kernel)]; kernel_rfl) | (rw [if_neg (by decide +kernel)]; exact ⟨rfl, rfl⟩))
  (fun os started H enc _ => flatTells_lifted os started H enc)
theorem flatTells_holds : Rows.FlatTellsCardSaid :=
 Claim7.holds_tied_plain_at .later [] [.data, .data, .data, .data, .sentinel, .sentinel, .pinned] true (true, "9dd68da2afada65e5683af715fdfcd92f67a78b54cba878728521e19227f40a4") true
  flatTells_row (fun _ h => by cases h) (by kernel_rfl) (fun _ h => by cases h) flatTells_row_tie rfl ⟨rfl, rfl⟩ (by kernel_rfl) rfl
  (fun f fn hf hfn => by
   obtain rfl : f = 7 := Option.some.inj ((show Tryz.prog.funcNamed Rows.flatTellsRow.func = some 7 by kernel_rfl).symm.trans hf) |>.symm
   obtain rfl : fn = Tryz.f7 := (Option.some.inj (Tryz.func7.symm.trans hfn)).symm
   exact ⟨by kernel_rfl, fun j t ht => by
    rw [Tryz.params7] at ht
    have hm : t ∈ [22, 3] := by simpa using Array.mem_of_getElem? ht
    have hall : ([22, 3].all fun u => !Tryz.prog.wantsStandIn u) = true := by kernel_rfl
    exact (show Tryz.prog.wantsStandIn t = false by simpa using List.all_eq_true.1 hall t hm)⟩)
  (by kernel_rfl)
end Go.Proofs.YtfafhbgkmlmmdaaGreatDoor
