/-
  NestFull's walk.
-/
import Derived.Test.YtojinnnpfjhifaaCte
namespace Go.Proofs.Ytojinnnpfjhifaa
open Go.RowKit Go.Shelf Go.Lib Go.Maps
attribute [local irreducible] nmL ofN

theorem name_title : nameN ⟨#[116, 105, 116, 108, 101]⟩ = 4 := by with_unfolding_all decide +kernel
/-- Only one count is other than 0. -/
def oneC (q x : Nat) : Ct := match q with
  | 0 => ⟨0, x, 0⟩
  | 1 => ⟨0, 0, x⟩
  | _ => ⟨x, 0, 0⟩
def qN (q : Nat) : Nat := match q with
  | 0 => 9
  | 1 => 16
  | _ => 4
theorem oneC_ok (q x : Nat) (h : x ≤ 255) : (oneC q x).ok := by
  match q with
  | 0 => exact ⟨Nat.zero_le _, h, Nat.zero_le _⟩
  | 1 => exact ⟨Nat.zero_le _, Nat.zero_le _, h⟩
  | q + 2 => exact ⟨h, Nat.zero_le _, Nat.zero_le _⟩
theorem take_turn (kd : Int) (hk : kd = 2 ∨ kd = 3) (q x : Nat) (hq : q < 3) : takeC (qN q) kd false (oneC q x) = oneC q (clampN x (if kd = 3 then -1 else 1)) := by
  unfold takeC
  rw [if_pos hk]
  obtain rfl | rfl | rfl : q = 0 ∨ q = 1 ∨ q = 2 := by omega
  · simp [qN, oneC, addN, byN, show isB 9 1 = false from rfl, show isB 9 2 = false from rfl, show isB 9 3 = true from rfl, show isB 9 4 = false from rfl]
  · simp [qN, oneC, addN, byN, show isB 16 1 = false from rfl, show isB 16 2 = false from rfl, show isB 16 3 = false from rfl, show isB 16 4 = true from rfl]
  · simp [qN, oneC, addN, byN, show isB 4 1 = false from rfl, show isB 4 2 = true from rfl, show isB 4 3 = false from rfl, show isB 4 4 = false from rfl]
theorem take_up (q x : Nat) (hq : q < 3) : takeC (qN q) 2 false (oneC q (min x 255)) = oneC q (min (x + 1) 255) := by
  rw [take_turn 2 (.inl rfl) q _ hq]
  have e : clampN (min x 255) (if (2 : Int) = 3 then -1 else 1) = min (x + 1) 255 := by
    simp only [show ¬ ((2 : Int) = 3) by omega, if_false]
    unfold clampN
    omega
  rw [e]
theorem take_down (q x : Nat) (hq : q < 3) (h : x ≤ 255) : takeC (qN q) 3 false (oneC q x) = oneC q (x - 1) := by
  rw [take_turn 3 (.inr rfl) q _ hq]
  have e : clampN x (if (3 : Int) = 3 then -1 else 1) = x - 1 := by
    simp only [if_true]
    unfold clampN
    omega
  rw [e]
def nmS (q : Nat) : ByteArray := match q with
  | 0 => ⟨#[112, 114, 101]⟩
  | 1 => ⟨#[110, 111, 98, 114]⟩
  | _ => ⟨#[116, 105, 116, 108, 101]⟩
theorem name_nmS (q : Nat) : nameN (nmS q) = qN q := by
  match q with
  | 0 => exact name_pre
  | 1 => exact name_nobr
  | q + 2 => exact name_title
theorem nmS_size (q : Nat) : (nmS q).size ≤ 100 := by
  match q with
  | 0 => exact (show 3 ≤ 100 by omega)
  | 1 => exact (show 4 ≤ 100 by omega)
  | q + 2 => exact (show 5 ≤ 100 by omega)
/-- The nest's block, and what lies about it. -/
structure NW (w : World) (g : Nat) (c : Ct) (wr : World) : Prop where
  n : NeAt wr g c
  b : Below w.heap.size w wr
  m : MX wr
theorem NW.take {w wr w' : World} {g : Nat} {c c' : Ct} (h : NW w g c wr) (hg : w.heap.size ≤ g) (h0 : 0 < w.heap.size) (hn : NeAt w' g c') (hf : Fz (fun k => k = g) wr w') : NW w g c' w' :=
  ⟨hn, fz_below h.b hf hg h.b.size, h.m.fz hf (by omega)⟩
theorem NW.on {w wr w' : World} {g : Nat} {c : Ct} (h : NW w g c wr) (hb : Below wr.heap.size wr w') : NW w g c w' :=
  ⟨Cells.on h.n hb, h.b.trans (hb.mono h.b.size), h.m.on h.m.pos hb⟩
theorem take_one (kd : Int) (q x : Nat) (w : World) (g : Nat) (hg : w.heap.size ≤ g) (h0 : 0 < w.heap.size) (wr : World) (h : NW w g (oneC q x) wr) (hx : x ≤ 255) :
    Calls Try.prog 9 #[.pointer (some ⟨g, 0, none⟩), .agg #[.int .i64 kd, .int .i64 0, .int .i64 0, .string (nmS q), .int .i32 0, .bool false]] wr fun e w' => (∃ a b, e = .returned (.tuple #[.bool a, .bool b])) ∧ NW w g (takeC (qN q) kd false (oneC q x)) w' := by
  have C := take_any kd 0 0 (nmS q) 0 false (nmS_size q) g _ (oneC_ok q x hx) wr h.n h.m
  rw [name_nmS] at C
  refine C.mono ?_
  rintro e w' ⟨rfl, hn, hf⟩
  exact ⟨⟨_, _, rfl⟩, h.take hg h0 hn hf⟩
theorem u16mod (n : Nat) : ∃ a : Nat, (n : Int) % 300 = (a : Int) ∧ a < 300 := ⟨n % 300, by omega, by omega⟩
set_option maxRecDepth 100000 in
set_option maxHeartbeats 8000000 in
theorem fullLaw (up down which : Nat) (w : World) (hM : MX w) :
    Calls Try.prog 4 #[.int .u16 (up : Int), .int .u16 (down : Int), .int .u8 (which : Int)] w fun e w' => e = .returned (.bool true) ∧ Below w.heap.size w w' := by
  have CA := awake_any w hM
  have HM := Lib.hid hM
  clear hM
  obtain ⟨a, ha, ha3⟩ := u16mod up
  obtain ⟨b, hb, hb3⟩ := u16mod down
  obtain hq | hq | hq : (which : Int) % 3 = 0 ∨ (which : Int) % 3 = 1 ∨ (which : Int) % 3 = 2 := by omega
  · go_enter Try.func4, Try.ntmps4
    go_wp2_with fail
    refine CA.mono ?_
    rintro e w1 ⟨rfl, b1⟩
    clear CA
    go_wp2_with fail
    obtain ⟨W2, hW2⟩ : ∃ V, w1.alloc (.cells #[.string ⟨#[112, 114, 101]⟩, .string ⟨#[110, 111, 98, 114]⟩, .string ⟨#[116, 105, 116, 108, 101]⟩] 9) = V := ⟨_, rfl⟩
    have b2 : Below w1.heap.size w1 W2 := by rw [← hW2]; exact below_new w1 _
    have CN := new_any W2
    obtain ⟨g, hge⟩ : ∃ g, W2.heap.size = g := ⟨_, rfl⟩
    have b12 := b1.trans (b2.mono b1.size)
    have hgw : w.heap.size ≤ g := by have := b12.size; omega
    have h0 : 0 < w.heap.size := HM.out.pos
    have b3 := below_new W2 (.cells (ctA ⟨0, 0, 0⟩) 47)
    have n3 : NW w g (oneC 0 (min 0 255)) (W2.alloc (.cells (ctA ⟨0, 0, 0⟩) 47)) := ⟨by rw [← hge]; exact cells_new _ _ _, b12.trans (b3.mono b12.size), (HM.out.on h0 b12).on (HM.out.on h0 b12).pos b3⟩
    rw [hge] at CN
    have H3 := Lib.hid n3
    have HG := Lib.hid (And.intro hgw h0)
    clear b1 b2 b12 hge hgw h0 b3 n3
    rw [hW2]
    clear hW2
    refine CN.mono ?_
    rintro e W3 ⟨rfl, hW3⟩
    clear CN
    rw [← hW3] at H3
    clear hW3
    go_wp2_with fail
    rw [ha, hb]
    go_wp2_with fail
    go_loopw [11] (fun i wr => ∃ k : Nat, k ≤ a ∧ i = .int .i64 (k : Int) ∧ NW w g (oneC 0 (min k 255)) wr) (fun i _ => a - (RowKit.intOf i).toNat)
    case atStart => exact ⟨0, by omega, rfl, H3.out⟩
    case round =>
      obtain ⟨k, hk, rfl, hn⟩ := hrel
      by_cases hka : k < a
      case pos =>
        have C := take_one 2 0 (min k 255) w g HG.out.1 HG.out.2 wr hn (by omega)
        rw [take_up 0 k (by omega)] at C
        have i1 : (k : Int) < (a : Int) := by omega
        clear hn
        go_wp2_with fail
        refine C.mono ?_
        rintro e w4 ⟨⟨x, y, rfl⟩, hn⟩
        have hend : ∃ j : Nat, j ≤ a ∧ Value.int .i64 ((k : Int) + 1) = .int .i64 (j : Int) ∧ NW w g (oneC 0 (min j 255)) w4 := ⟨k + 1, by omega, by simp, hn⟩
        have HEND := Lib.hid hend
        clear C hn hend
        go_wp2_with fail
        go_roundw
        case rel => exact HEND.out
        case measure => simp [RowKit.intOf]; omega
      case neg =>
        obtain rfl : k = a := by omega
        have i1 : ¬ (k : Int) < (k : Int) := by omega
        have H4 := Lib.hid hn
        clear hn hka hk
        go_wp2_with fail
        go_loopw [12] (fun i wr => ∃ j : Nat, j ≤ b ∧ i = .int .i64 (j : Int) ∧ NW w g (oneC 0 (min k 255 - j)) wr) (fun i _ => b - (RowKit.intOf i).toNat)
        case atStart => exact ⟨0, by omega, rfl, H4.out⟩
        case round =>
          obtain ⟨j, hj, rfl, hn⟩ := hrel
          by_cases hjb : j < b
          case pos =>
            have C := take_one 3 0 (min k 255 - j) w g HG.out.1 HG.out.2 wr hn (by omega)
            rw [take_down 0 (min k 255 - j) (by omega) (by omega), show min k 255 - j - 1 = min k 255 - (j + 1) by omega] at C
            have i2 : (j : Int) < (b : Int) := by omega
            clear hn i1
            go_wp2_with fail
            refine C.mono ?_
            rintro e w4 ⟨⟨x, y, rfl⟩, hn⟩
            have hend : ∃ i : Nat, i ≤ b ∧ Value.int .i64 ((j : Int) + 1) = .int .i64 (i : Int) ∧ NW w g (oneC 0 (min k 255 - i)) w4 := ⟨j + 1, by omega, by simp, hn⟩
            have HEND := Lib.hid hend
            clear C hn hend
            go_wp2_with fail
            go_roundw
            case rel => exact HEND.out
            case measure => simp [RowKit.intOf]; omega
          case neg =>
            obtain rfl : j = b := by omega
            have i2 : ¬ (j : Int) < (j : Int) := by omega
            obtain ⟨X, hX⟩ : ∃ X, min k 255 - j = X := ⟨_, rfl⟩
            have hXi : max (min (k : Int) 255 - (j : Int)) 0 = ((X : Nat) : Int) := by omega
            rw [hX] at hn
            have CP := pre_any _ _ _ hn.n
            have CB := nob_any _ _ _ hn.n
            have CH := hid_any _ _ _ hn.n
            have P1 : (oneC 0 X).p = X := rfl
            have P2 : (oneC 0 X).n = 0 := rfl
            have P3 : (oneC 0 X).h = 0 := rfl
            rw [P1] at CP
            rw [P2] at CB
            rw [P3] at CH
            have H5 := Lib.hid hn
            have hXE := Lib.hid hXi
            clear hn hjb hj hX P1 P2 P3 i1 hXi
            go_wp2_with fail
            rw [hXE.out]
            refine CP.mono ?_
            rintro e _ ⟨rfl, rfl⟩
            clear CP
            go_wp2_with fail
            refine CB.mono ?_
            rintro e _ ⟨rfl, rfl⟩
            clear CB
            go_wp2_with fail
            refine CH.mono ?_
            rintro e w6 ⟨rfl, rfl⟩
            clear CH
            go_wp2_with fail
            obtain ⟨W7, hW7⟩ : ∃ V, w6.alloc (.cells #[.int .i64 (X : Int), .int .i64 0, .int .i64 0] 3) = V := ⟨_, rfl⟩
            have b7 : Below w6.heap.size w6 W7 := by rw [← hW7]; exact below_new w6 _
            have x7 : Cells W7 w6.heap.size 3 #[.int .i64 (X : Int), .int .i64 0, .int .i64 0] := by rw [← hW7]; exact cells_new _ _ _
            have y0 := x7.cell 0
            have y1 := x7.cell 1
            have y2 := x7.cell 2
            simp at y0 y1 y2
            have b8 := H5.out.b.trans (b7.mono H5.out.b.size)
            have H7 := Lib.hid b8
            clear x7 b7 b8
            rw [hW7]
            clear hW7
            go_loopw [15] (fun i wr => (i = .int .i64 0 ∨ i = .int .i64 1 ∨ i = .int .i64 2 ∨ i = .int .i64 3) ∧ wr = W7) (fun i _ => 3 - (RowKit.intOf i).toNat)
            case atStart => exact ⟨.inl rfl, rfl⟩
            case round =>
              obtain ⟨hi, hwr⟩ := hrel
              obtain rfl := hwr.symm
              rcases hi with rfl | rfl | rfl | rfl
              · go_wp2_with fail
                exact ⟨⟨.inr (.inl rfl), trivial⟩, by simp [RowKit.intOf]⟩
              · go_wp2_with fail
                exact ⟨⟨.inr (.inr (.inl rfl)), trivial⟩, by simp [RowKit.intOf]⟩
              · go_wp2_with fail
                exact ⟨⟨.inr (.inr (.inr rfl)), trivial⟩, by simp [RowKit.intOf]⟩
              · go_wp2_with fail
                go_ret
                exact ⟨rfl, H7.out⟩
  · go_enter Try.func4, Try.ntmps4
    go_wp2_with fail
    refine CA.mono ?_
    rintro e w1 ⟨rfl, b1⟩
    clear CA
    go_wp2_with fail
    obtain ⟨W2, hW2⟩ : ∃ V, w1.alloc (.cells #[.string ⟨#[112, 114, 101]⟩, .string ⟨#[110, 111, 98, 114]⟩, .string ⟨#[116, 105, 116, 108, 101]⟩] 9) = V := ⟨_, rfl⟩
    have b2 : Below w1.heap.size w1 W2 := by rw [← hW2]; exact below_new w1 _
    have CN := new_any W2
    obtain ⟨g, hge⟩ : ∃ g, W2.heap.size = g := ⟨_, rfl⟩
    have b12 := b1.trans (b2.mono b1.size)
    have hgw : w.heap.size ≤ g := by have := b12.size; omega
    have h0 : 0 < w.heap.size := HM.out.pos
    have b3 := below_new W2 (.cells (ctA ⟨0, 0, 0⟩) 47)
    have n3 : NW w g (oneC 1 (min 0 255)) (W2.alloc (.cells (ctA ⟨0, 0, 0⟩) 47)) := ⟨by rw [← hge]; exact cells_new _ _ _, b12.trans (b3.mono b12.size), (HM.out.on h0 b12).on (HM.out.on h0 b12).pos b3⟩
    rw [hge] at CN
    have H3 := Lib.hid n3
    have HG := Lib.hid (And.intro hgw h0)
    clear b1 b2 b12 hge hgw h0 b3 n3
    rw [hW2]
    clear hW2
    refine CN.mono ?_
    rintro e W3 ⟨rfl, hW3⟩
    clear CN
    rw [← hW3] at H3
    clear hW3
    go_wp2_with fail
    rw [ha, hb]
    go_wp2_with fail
    go_loopw [11] (fun i wr => ∃ k : Nat, k ≤ a ∧ i = .int .i64 (k : Int) ∧ NW w g (oneC 1 (min k 255)) wr) (fun i _ => a - (RowKit.intOf i).toNat)
    case atStart => exact ⟨0, by omega, rfl, H3.out⟩
    case round =>
      obtain ⟨k, hk, rfl, hn⟩ := hrel
      by_cases hka : k < a
      case pos =>
        have C := take_one 2 1 (min k 255) w g HG.out.1 HG.out.2 wr hn (by omega)
        rw [take_up 1 k (by omega)] at C
        have i1 : (k : Int) < (a : Int) := by omega
        clear hn
        go_wp2_with fail
        refine C.mono ?_
        rintro e w4 ⟨⟨x, y, rfl⟩, hn⟩
        have hend : ∃ j : Nat, j ≤ a ∧ Value.int .i64 ((k : Int) + 1) = .int .i64 (j : Int) ∧ NW w g (oneC 1 (min j 255)) w4 := ⟨k + 1, by omega, by simp, hn⟩
        have HEND := Lib.hid hend
        clear C hn hend
        go_wp2_with fail
        go_roundw
        case rel => exact HEND.out
        case measure => simp [RowKit.intOf]; omega
      case neg =>
        obtain rfl : k = a := by omega
        have i1 : ¬ (k : Int) < (k : Int) := by omega
        have H4 := Lib.hid hn
        clear hn hka hk
        go_wp2_with fail
        go_loopw [12] (fun i wr => ∃ j : Nat, j ≤ b ∧ i = .int .i64 (j : Int) ∧ NW w g (oneC 1 (min k 255 - j)) wr) (fun i _ => b - (RowKit.intOf i).toNat)
        case atStart => exact ⟨0, by omega, rfl, H4.out⟩
        case round =>
          obtain ⟨j, hj, rfl, hn⟩ := hrel
          by_cases hjb : j < b
          case pos =>
            have C := take_one 3 1 (min k 255 - j) w g HG.out.1 HG.out.2 wr hn (by omega)
            rw [take_down 1 (min k 255 - j) (by omega) (by omega), show min k 255 - j - 1 = min k 255 - (j + 1) by omega] at C
            have i2 : (j : Int) < (b : Int) := by omega
            clear hn i1
            go_wp2_with fail
            refine C.mono ?_
            rintro e w4 ⟨⟨x, y, rfl⟩, hn⟩
            have hend : ∃ i : Nat, i ≤ b ∧ Value.int .i64 ((j : Int) + 1) = .int .i64 (i : Int) ∧ NW w g (oneC 1 (min k 255 - i)) w4 := ⟨j + 1, by omega, by simp, hn⟩
            have HEND := Lib.hid hend
            clear C hn hend
            go_wp2_with fail
            go_roundw
            case rel => exact HEND.out
            case measure => simp [RowKit.intOf]; omega
          case neg =>
            obtain rfl : j = b := by omega
            have i2 : ¬ (j : Int) < (j : Int) := by omega
            obtain ⟨X, hX⟩ : ∃ X, min k 255 - j = X := ⟨_, rfl⟩
            have hXi : max (min (k : Int) 255 - (j : Int)) 0 = ((X : Nat) : Int) := by omega
            rw [hX] at hn
            have CP := pre_any _ _ _ hn.n
            have CB := nob_any _ _ _ hn.n
            have CH := hid_any _ _ _ hn.n
            have P1 : (oneC 1 X).p = 0 := rfl
            have P2 : (oneC 1 X).n = X := rfl
            have P3 : (oneC 1 X).h = 0 := rfl
            rw [P1] at CP
            rw [P2] at CB
            rw [P3] at CH
            have H5 := Lib.hid hn
            have hXE := Lib.hid hXi
            clear hn hjb hj hX P1 P2 P3 i1 hXi
            go_wp2_with fail
            rw [hXE.out]
            refine CP.mono ?_
            rintro e _ ⟨rfl, rfl⟩
            clear CP
            go_wp2_with fail
            refine CB.mono ?_
            rintro e _ ⟨rfl, rfl⟩
            clear CB
            go_wp2_with fail
            refine CH.mono ?_
            rintro e w6 ⟨rfl, rfl⟩
            clear CH
            go_wp2_with fail
            obtain ⟨W7, hW7⟩ : ∃ V, w6.alloc (.cells #[.int .i64 0, .int .i64 (X : Int), .int .i64 0] 3) = V := ⟨_, rfl⟩
            have b7 : Below w6.heap.size w6 W7 := by rw [← hW7]; exact below_new w6 _
            have x7 : Cells W7 w6.heap.size 3 #[.int .i64 0, .int .i64 (X : Int), .int .i64 0] := by rw [← hW7]; exact cells_new _ _ _
            have y0 := x7.cell 0
            have y1 := x7.cell 1
            have y2 := x7.cell 2
            simp at y0 y1 y2
            have b8 := H5.out.b.trans (b7.mono H5.out.b.size)
            have H7 := Lib.hid b8
            clear x7 b7 b8
            rw [hW7]
            clear hW7
            go_loopw [15] (fun i wr => (i = .int .i64 0 ∨ i = .int .i64 1 ∨ i = .int .i64 2 ∨ i = .int .i64 3) ∧ wr = W7) (fun i _ => 3 - (RowKit.intOf i).toNat)
            case atStart => exact ⟨.inl rfl, rfl⟩
            case round =>
              obtain ⟨hi, hwr⟩ := hrel
              obtain rfl := hwr.symm
              rcases hi with rfl | rfl | rfl | rfl
              · go_wp2_with fail
                exact ⟨⟨.inr (.inl rfl), trivial⟩, by simp [RowKit.intOf]⟩
              · go_wp2_with fail
                exact ⟨⟨.inr (.inr (.inl rfl)), trivial⟩, by simp [RowKit.intOf]⟩
              · go_wp2_with fail
                exact ⟨⟨.inr (.inr (.inr rfl)), trivial⟩, by simp [RowKit.intOf]⟩
              · go_wp2_with fail
                go_ret
                exact ⟨rfl, H7.out⟩
  · go_enter Try.func4, Try.ntmps4
    go_wp2_with fail
    refine CA.mono ?_
    rintro e w1 ⟨rfl, b1⟩
    clear CA
    go_wp2_with fail
    obtain ⟨W2, hW2⟩ : ∃ V, w1.alloc (.cells #[.string ⟨#[112, 114, 101]⟩, .string ⟨#[110, 111, 98, 114]⟩, .string ⟨#[116, 105, 116, 108, 101]⟩] 9) = V := ⟨_, rfl⟩
    have b2 : Below w1.heap.size w1 W2 := by rw [← hW2]; exact below_new w1 _
    have CN := new_any W2
    obtain ⟨g, hge⟩ : ∃ g, W2.heap.size = g := ⟨_, rfl⟩
    have b12 := b1.trans (b2.mono b1.size)
    have hgw : w.heap.size ≤ g := by have := b12.size; omega
    have h0 : 0 < w.heap.size := HM.out.pos
    have b3 := below_new W2 (.cells (ctA ⟨0, 0, 0⟩) 47)
    have n3 : NW w g (oneC 2 (min 0 255)) (W2.alloc (.cells (ctA ⟨0, 0, 0⟩) 47)) := ⟨by rw [← hge]; exact cells_new _ _ _, b12.trans (b3.mono b12.size), (HM.out.on h0 b12).on (HM.out.on h0 b12).pos b3⟩
    rw [hge] at CN
    have H3 := Lib.hid n3
    have HG := Lib.hid (And.intro hgw h0)
    clear b1 b2 b12 hge hgw h0 b3 n3
    rw [hW2]
    clear hW2
    refine CN.mono ?_
    rintro e W3 ⟨rfl, hW3⟩
    clear CN
    rw [← hW3] at H3
    clear hW3
    go_wp2_with fail
    rw [ha, hb]
    go_wp2_with fail
    go_loopw [11] (fun i wr => ∃ k : Nat, k ≤ a ∧ i = .int .i64 (k : Int) ∧ NW w g (oneC 2 (min k 255)) wr) (fun i _ => a - (RowKit.intOf i).toNat)
    case atStart => exact ⟨0, by omega, rfl, H3.out⟩
    case round =>
      obtain ⟨k, hk, rfl, hn⟩ := hrel
      by_cases hka : k < a
      case pos =>
        have C := take_one 2 2 (min k 255) w g HG.out.1 HG.out.2 wr hn (by omega)
        rw [take_up 2 k (by omega)] at C
        have i1 : (k : Int) < (a : Int) := by omega
        clear hn
        go_wp2_with fail
        refine C.mono ?_
        rintro e w4 ⟨⟨x, y, rfl⟩, hn⟩
        have hend : ∃ j : Nat, j ≤ a ∧ Value.int .i64 ((k : Int) + 1) = .int .i64 (j : Int) ∧ NW w g (oneC 2 (min j 255)) w4 := ⟨k + 1, by omega, by simp, hn⟩
        have HEND := Lib.hid hend
        clear C hn hend
        go_wp2_with fail
        go_roundw
        case rel => exact HEND.out
        case measure => simp [RowKit.intOf]; omega
      case neg =>
        obtain rfl : k = a := by omega
        have i1 : ¬ (k : Int) < (k : Int) := by omega
        have H4 := Lib.hid hn
        clear hn hka hk
        go_wp2_with fail
        go_loopw [12] (fun i wr => ∃ j : Nat, j ≤ b ∧ i = .int .i64 (j : Int) ∧ NW w g (oneC 2 (min k 255 - j)) wr) (fun i _ => b - (RowKit.intOf i).toNat)
        case atStart => exact ⟨0, by omega, rfl, H4.out⟩
        case round =>
          obtain ⟨j, hj, rfl, hn⟩ := hrel
          by_cases hjb : j < b
          case pos =>
            have C := take_one 3 2 (min k 255 - j) w g HG.out.1 HG.out.2 wr hn (by omega)
            rw [take_down 2 (min k 255 - j) (by omega) (by omega), show min k 255 - j - 1 = min k 255 - (j + 1) by omega] at C
            have i2 : (j : Int) < (b : Int) := by omega
            clear hn i1
            go_wp2_with fail
            refine C.mono ?_
            rintro e w4 ⟨⟨x, y, rfl⟩, hn⟩
            have hend : ∃ i : Nat, i ≤ b ∧ Value.int .i64 ((j : Int) + 1) = .int .i64 (i : Int) ∧ NW w g (oneC 2 (min k 255 - i)) w4 := ⟨j + 1, by omega, by simp, hn⟩
            have HEND := Lib.hid hend
            clear C hn hend
            go_wp2_with fail
            go_roundw
            case rel => exact HEND.out
            case measure => simp [RowKit.intOf]; omega
          case neg =>
            obtain rfl : j = b := by omega
            have i2 : ¬ (j : Int) < (j : Int) := by omega
            obtain ⟨X, hX⟩ : ∃ X, min k 255 - j = X := ⟨_, rfl⟩
            have hXi : max (min (k : Int) 255 - (j : Int)) 0 = ((X : Nat) : Int) := by omega
            rw [hX] at hn
            have CP := pre_any _ _ _ hn.n
            have CB := nob_any _ _ _ hn.n
            have CH := hid_any _ _ _ hn.n
            have P1 : (oneC 2 X).p = 0 := rfl
            have P2 : (oneC 2 X).n = 0 := rfl
            have P3 : (oneC 2 X).h = X := rfl
            rw [P1] at CP
            rw [P2] at CB
            rw [P3] at CH
            have H5 := Lib.hid hn
            have hXE := Lib.hid hXi
            clear hn hjb hj hX P1 P2 P3 i1 hXi
            go_wp2_with fail
            rw [hXE.out]
            refine CP.mono ?_
            rintro e _ ⟨rfl, rfl⟩
            clear CP
            go_wp2_with fail
            refine CB.mono ?_
            rintro e _ ⟨rfl, rfl⟩
            clear CB
            go_wp2_with fail
            refine CH.mono ?_
            rintro e w6 ⟨rfl, rfl⟩
            clear CH
            go_wp2_with fail
            obtain ⟨W7, hW7⟩ : ∃ V, w6.alloc (.cells #[.int .i64 0, .int .i64 0, .int .i64 (X : Int)] 3) = V := ⟨_, rfl⟩
            have b7 : Below w6.heap.size w6 W7 := by rw [← hW7]; exact below_new w6 _
            have x7 : Cells W7 w6.heap.size 3 #[.int .i64 0, .int .i64 0, .int .i64 (X : Int)] := by rw [← hW7]; exact cells_new _ _ _
            have y0 := x7.cell 0
            have y1 := x7.cell 1
            have y2 := x7.cell 2
            simp at y0 y1 y2
            have b8 := H5.out.b.trans (b7.mono H5.out.b.size)
            have H7 := Lib.hid b8
            clear x7 b7 b8
            rw [hW7]
            clear hW7
            go_loopw [15] (fun i wr => (i = .int .i64 0 ∨ i = .int .i64 1 ∨ i = .int .i64 2 ∨ i = .int .i64 3) ∧ wr = W7) (fun i _ => 3 - (RowKit.intOf i).toNat)
            case atStart => exact ⟨.inl rfl, rfl⟩
            case round =>
              obtain ⟨hi, hwr⟩ := hrel
              obtain rfl := hwr.symm
              rcases hi with rfl | rfl | rfl | rfl
              · go_wp2_with fail
                exact ⟨⟨.inr (.inl rfl), trivial⟩, by simp [RowKit.intOf]⟩
              · go_wp2_with fail
                exact ⟨⟨.inr (.inr (.inl rfl)), trivial⟩, by simp [RowKit.intOf]⟩
              · go_wp2_with fail
                exact ⟨⟨.inr (.inr (.inr rfl)), trivial⟩, by simp [RowKit.intOf]⟩
              · go_wp2_with fail
                go_ret
                exact ⟨rfl, H7.out⟩
end Go.Proofs.Ytojinnnpfjhifaa
