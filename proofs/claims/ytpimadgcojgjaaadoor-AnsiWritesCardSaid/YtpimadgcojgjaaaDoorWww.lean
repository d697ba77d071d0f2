/-
  AnsiWrites: the walk of the law.
-/
import Derived.Test.YtpimadgcojgjaaaDoorWrm
import Derived.Test.YtpimadgcojgjaaaDoorGrw
namespace Go.Proofs.YtpimadgcojgjaaaDoor
open Go.RowKit Go.Shelf Go.Lib Go.Maps

theorem app_str (a b : List UInt8) : (⟨a.toArray⟩ ++ ⟨b.toArray⟩ : ByteArray) = ⟨(a ++ b).toArray⟩ := strB_append a b
theorem join_take {zs : List Int} {k : Nat} {z : Int} (hz : zs[k]? = some z) (t : List UInt8) (ht : t = 27 :: 91 :: Lib.join ((zs.take k).map Lib.itoa) [59]) :
    (k = 0 → t ++ Lib.itoa z = 27 :: 91 :: Lib.join ((zs.take (k + 1)).map Lib.itoa) [59]) ∧ (k ≠ 0 → t ++ [59] ++ Lib.itoa z = 27 :: 91 :: Lib.join ((zs.take (k + 1)).map Lib.itoa) [59]) := by
  have e : zs.take (k + 1) = zs.take k ++ [z] := by rw [List.take_add_one, hz]; rfl
  have hl : (zs.take k).length = k := by rw [List.length_take]; have := (List.getElem?_eq_some_iff.1 hz).1; omega
  constructor
  · rintro rfl
    rw [ht, e]
    simp [Lib.join_nil, Lib.join_one]
  · intro h0
    rw [ht, e, List.map_append, List.map_cons, List.map_nil, join_snoc _ _ (by
      intro h
      have := congrArg List.length h
      rw [List.length_map, hl] at this
      exact h0 this)]
    simp
set_option maxHeartbeats 16000000 in
set_option maxRecDepth 100000 in
theorem writesLaw_any (c : Nat) (hc : c < 256) (zs : List Int) (A : Option Addr) (cap : Nat) (ys : List Nat) (A' : Option Addr) (cap' : Nat) (w : World) (hm : MX w) (hT : PT w) (h : IS w w.heap.size zs A cap) (h' : BY w w.heap.size ys A' cap') :
    Calls Tryd.prog 10 #[.int .u8 (c : Int), .slice A zs.length cap, .slice A' ys.length cap'] w fun r w' => r = .returned (.bool true) ∧ Below w.heap.size w w' := by
  obtain ⟨X, hX⟩ : ∃ X : Int, (c : Int) = X := ⟨_, rfl⟩
  rw [hX]
  have hlen : zs.length ≤ 9223372036854775807 := by have := h.l; have := h.m; unfold maxLen at this; omega
  have hlen' := h'.len
  by_cases hl : 20 < zs.length ∨ 60 < ys.length
  · have hA := awake_any w hm
    obtain ⟨N, hN⟩ : ∃ N, zs.length = N := ⟨_, rfl⟩
    obtain ⟨M, hM⟩ : ∃ M, ys.length = M := ⟨_, rfl⟩
    rw [hN, hM] at hl
    rw [hN] at hlen ⊢
    rw [hM] at hlen' ⊢
    have HA := Lib.hid hA
    clear h h' hN hM hA hm hT hX
    by_cases h1 : 20 < N
    · have i1 : (20 : Int) < (N : Int) := by omega
      clear hl h1
      go_enter Tryd.func10, Tryd.ntmps10
      go_wp2_with fail
      refine HA.out.mono ?_
      rintro r w1 ⟨rfl, hb1⟩
      have HB := Lib.hid hb1
      clear hb1
      go_wp2_with fail
      go_ret
      exact ⟨rfl, HB.out⟩
    · have i1 : ¬ (20 : Int) < (N : Int) := by omega
      have i2 : (60 : Int) < (M : Int) := by omega
      clear hl h1
      go_enter Tryd.func10, Tryd.ntmps10
      go_wp2_with fail
      refine HA.out.mono ?_
      rintro r w1 ⟨rfl, hb1⟩
      have HB := Lib.hid hb1
      clear hb1
      go_wp2_with fail
      go_ret
      exact ⟨rfl, HB.out⟩
  have KW := fun W (hb : Below w.heap.size w W) => write_any c X hX.symm hc zs A cap W (h.on hb) (by omega) (hT.on hb)
  obtain ⟨U, hU⟩ : ∃ U, writeU c zs = U := ⟨_, rfl⟩
  rw [hU] at KW
  have hin := in_int (rfl : (64 : Int) = ((64 : Nat) : Int)) (rfl : (126 : Int) = ((126 : Nat) : Int)) hX.symm
  obtain ⟨R0, hR0⟩ : ∃ R0, inR 64 126 c = R0 := ⟨_, rfl⟩
  rw [hR0] at hin
  have hno : (R0 && zs.all okZ) = false → U = [] := fun h0 => by
    rw [← hU, writeU, if_neg]
    rintro ⟨h1, h2⟩
    rw [← hR0, h1, h2] at h0
    cases h0
  have hyes : R0 = true → zs.all okZ = true → (U = 27 :: 91 :: (Lib.join (zs.map Lib.itoa) [59] ++ [UInt8.ofNat c])) ∧ (∀ ys, readT (nats U ++ ys) = ⟨U.length, true, false, c⟩) ∧ numsAt (nats U) 0 = some (backL zs) := fun h1 h2 => by
    rw [h1] at hR0
    rw [← hU]
    exact ⟨writeU_yes hR0 h2, write_read hc hR0 h2, write_nums hc hR0 h2⟩
  obtain ⟨N, hN⟩ : ∃ N, zs.length = N := ⟨_, rfl⟩
  obtain ⟨M, hM⟩ : ∃ M, ys.length = M := ⟨_, rfl⟩
  rw [hN, hM] at hl
  rw [hN] at hlen KW ⊢
  rw [hM] at hlen' ⊢
  have i1 : ¬ (20 : Int) < (N : Int) := by omega
  have i2 : ¬ (60 : Int) < (M : Int) := by omega
  have HA := Lib.hid (And.intro (awake_any w hm) (And.intro KW (And.intro h (And.intro h' (And.intro hN (And.intro hM (And.intro hm (And.intro hno hyes))))))))
  have HX := Lib.hid hX
  have HR := Lib.hid hin
  clear h h' hN hM hl hm KW hU hR0 hno hyes hX hin hT
  by_cases h64 : 64 ≤ X
  case neg =>
    have a64 : decide (64 ≤ X) = false := by simpa using h64
    have hR0 : R0 = false := by rw [HR.out, a64]; rfl
    have HR0 := Lib.hid hR0
    clear hR0 h64
    go_enter Tryd.func10, Tryd.ntmps10
    go_wp2_with fail
    refine HA.out.1.mono ?_
    rintro r w1 ⟨rfl, hb1⟩
    have HB1 := Lib.hid hb1
    clear hb1
    go_wp2_with fail
    refine (HA.out.2.1 _ HB1.out).mono ?_
    rintro r w2 ⟨rfl, hb2⟩
    have HB2 := Lib.hid (HB1.out.trans (hb2.mono HB1.out.size))
    clear hb2
    unfold strB
    go_wp2_with fail
    go_loopw [8, 9, 10] (fun b s i wr => ∃ (k : Nat) (rt : Bool) (t : List UInt8), i = .int .i64 (k : Int) ∧ k ≤ N ∧ b = .bool rt ∧ s = .string ⟨t.toArray⟩ ∧ rt = (R0 && (zs.take k).all okZ) ∧ t.length ≤ 2 + 10 * k ∧ (rt = true → t = 27 :: 91 :: Lib.join ((zs.take k).map Lib.itoa) [59]) ∧ wr = w2) (fun _ _ i _ => N - (RowKit.intOf i).toNat)
    case atStart => exact ⟨0, R0, [27, 91], by go_num, by omega, by rw [HR0.out], rfl, by simp, by simp, fun _ => by simp [Lib.join_nil], rfl⟩
    case round =>
      obtain ⟨k, rt, t, rfl, hk, rfl, rfl, hrt, htl, ht, e⟩ := hrel
      obtain rfl := e.symm
      by_cases hlt : k < N
      case neg =>
        obtain rfl : k = N := by omega
        have i3 : ¬ (k : Int) < (k : Int) := by omega
        have hRR : rt = (R0 && zs.all okZ) := by rw [hrt, ← HA.out.2.2.2.2.1, List.take_length]
        rw [← HA.out.2.2.2.2.1, List.take_length] at ht
        cases rt with
        | false =>
          obtain rfl : U = [] := HA.out.2.2.2.2.2.2.2.1 hRR.symm
          clear hrt ht hRR htl
          go_wp2_with fail
          go_ret
          exact ⟨rfl, HB2.out⟩
        | true =>
          have hR1 : R0 = true := by cases R0 with | true => rfl | false => simp at hRR
          have hz1 : zs.all okZ = true := by rw [hR1] at hRR; simpa using hRR.symm
          obtain ⟨hU1, hU2, hU3⟩ := HA.out.2.2.2.2.2.2.2.2 hR1 hz1
          have hUt : U = t ++ [UInt8.ofNat c] := by rw [hU1, ht rfl]; rfl
          have hUl : U.length = t.length + 1 := by rw [hUt]; simp
          have hUl2 : U.length ≤ 1000 := by omega
          obtain ⟨NU, hNU⟩ : ∃ n, U.length = n := ⟨_, rfl⟩
          rw [hNU] at hUl hUl2
          have hU2 := hU2 ys
          rw [hNU] at hU2
          have HU := Lib.hid (And.intro hUt (And.intro hU2 (And.intro hU3 (And.intro hNU (And.intro hz1 hUl)))))
          clear hrt ht hRR htl hU1 hU2 hU3 hUt hz1 hUl
          obtain ⟨cap3, W3, q3, hr3, hb3⟩ := conv_str w2 U (by rw [HU.out.2.2.2.1]; omega)
          rw [hNU] at q3
          unfold strB at q3
          have b3 := HB2.out.trans (hb3.mono HB2.out.size)
          have H3 := Lib.hid (And.intro hr3 (And.intro hb3 (And.intro b3 (HA.out.2.2.2.1.on b3))))
          clear hr3 hb3 b3
          go_wp2_with (first
            | (at_builtin
               refine wpList_appM rfl (.tmp 75) (.tmp 76) rfl w2.heap.size w2.heap.size (Nat.le_refl _) (nats U) ys NU cap3 (by rw [nats_len, HU.out.2.2.2.1]) rfl H3.out.1 A' M cap' HA.out.2.2.2.2.2.1 rfl H3.out.2.2.2 (by omega) ?_)
            | fail)
          intro A4 cap4 w4 hB4 hb4
          have C4 := read_any (nats U ++ ys) A4 cap4 0 w4 hB4
          rw [readAt0, HU.out.2.1, List.length_append, nats_len, HU.out.2.2.2.1, HA.out.2.2.2.2.2.1] at C4
          unfold escV at C4
          dsimp only at C4
          rw [HX.out] at C4
          have b4 : Below w.heap.size w w4 := H3.out.2.2.1.trans (hb4.mono (by have := H3.out.2.2.1.size; have := HB2.out.size; omega))
          have H4 := Lib.hid (And.intro C4 b4)
          clear C4 hB4 hb4 b4 q3
          go_wp2_with fail
          refine H4.out.1.mono ?_
          rintro r w5 ⟨rfl, hb5⟩
          have b5 := H4.out.2.trans (hb5.mono H4.out.2.size)
          obtain ⟨W6, hW6⟩ : ∃ W, w5.alloc (.cells #[.int .i64 (NU : Int), .bool true, .bool false, .int .u8 X] 42) = W := ⟨_, rfl⟩
          have x6 : Cells W6 w5.heap.size 42 #[.int .i64 (NU : Int), .bool true, .bool false, .int .u8 X] := by rw [← hW6]; exact cells_new _ _ _
          have b6 : Below w.heap.size w W6 := by rw [← hW6]; exact below_lit b5 _
          obtain ⟨cap7, W7, q7, hr7, hb7⟩ := conv_str W6 U (by rw [HU.out.2.2.2.1]; omega)
          rw [HU.out.2.2.2.1] at q7
          unfold strB at q7
          have b7 := b6.trans (hb7.mono b6.size)
          have x7 := x6.on hb7
          have C7 := numbers_any (nats U) (some ⟨W6.heap.size, 0, none⟩) cap7 0 (by rw [nats_len, HU.out.2.2.2.1]; omega) W7 hr7.by (HA.out.2.2.2.2.2.2.1.on b7)
          have hop := fun r w' => NumsOk.open (w := W7) (xs := nats U) (I := 0) (r := r) (w' := w')
          rw [HU.out.2.2.1] at C7 hop
          rw [nats_len, HU.out.2.2.2.1] at C7
          have H7 := Lib.hid (And.intro C7 (And.intro hop (And.intro b7 x7)))
          clear C7 hop b5 b6 b7 x6 x7 hr7 hb7 hb5
          go_wp2_with fail
          refine H7.out.1.mono ?_
          intro r w8 h8
          obtain ⟨A8, c8, rfl, hi8, hb8⟩ := H7.out.2.1 _ _ h8
          dsimp only [Option.isSome, Option.getD]
          obtain ⟨LL, hLL⟩ : ∃ L, natI (backL zs) = L := ⟨_, rfl⟩
          have hi8 : IS w8 w8.heap.size LL A8 c8 := by rw [← hLL]; exact hi8
          have hLn : LL.length = max k 1 := by
            rw [← hLL, natI_len, backL]
            have := HA.out.2.2.2.2.1
            split
            · rename_i h0
              subst h0
              simp at this
              subst this
              rfl
            · rename_i h0
              rw [List.length_map, this]
              have : 0 < k := by rw [← this]; exact List.length_pos_iff.2 h0
              omega
          rw [hLL]
          obtain ⟨ML, hML⟩ : ∃ n, LL.length = n := ⟨_, rfl⟩
          rw [hML] at hLn ⊢
          have b8 := H7.out.2.2.1.trans (hb8.mono H7.out.2.2.1.size)
          have x8 := H7.out.2.2.2.on hb8
          have p0 := x8.cell 0
          have p1 := x8.cell 1
          have p2 := x8.cell 2
          have p3 := x8.cell 3
          simp at p0 p1 p2 p3
          have hlt8 := x8.lt
          have q8 : (convert 22 9 (.slice (some ⟨w8.heap.size, 0, none⟩) 1 1)).run Tryd.prog (w8.alloc (.cells #[.int .u8 X] 5)) = .ok (.string ⟨[UInt8.ofNat c].toArray⟩) (w8.alloc (.cells #[.int .u8 X] 5)) := by
            have := conv_cells (w := w8.alloc (.cells #[.int .u8 (c : Int)] 5)) (g := w8.heap.size) [c] (cells_new _ _ _) (by simpa using hc) (by simp)
            rw [HX.out] at this
            exact this
          have hkz : t.length ≤ 999 := by have := HU.out.2.2.2.2.2; omega
          have e1 : ((⟨t.toArray⟩ ++ ⟨#[UInt8.ofNat c]⟩ : ByteArray)).toList = U := by
            have h1 := app_str t [UInt8.ofNat c]
            rw [← HU.out.1] at h1
            have h2 := congrArg ByteArray.toList h1
            rw [Lib.toList_data ⟨U.toArray⟩] at h2
            exact h2
          have e2 : U.length = NU := HU.out.2.2.2.1
          have e3 : max (k : Int) 1 = (ML : Int) := by omega
          have hLz : ∀ (j : Nat) (z : Int), zs[j]? = some z → LL[j]? = some z := fun j z hz => by
            have hz0 := okZ_iff.1 (List.all_eq_true.1 HU.out.2.2.2.2.1 z (List.mem_of_getElem? hz))
            rw [← hLL, natI, backL, if_neg (by rintro rfl; simp at hz), List.getElem?_map, List.getElem?_map, hz]
            simp
            omega
          have H8 := Lib.hid (And.intro b8 (And.intro hi8 (And.intro hLz (And.intro hML hLn))))
          clear h8 hi8 hb8 b8 x8 hLL hML hLn q7 hW6 hLz
          have hkm : k ≤ ML := by have := H8.out.2.2.2.2; omega
          go_wp2_with fail
          clear p0 p1 p2 p3 e1 e2 e3
          obtain ⟨W9, hW9⟩ : ∃ W, w8.alloc (.cells #[.int .u8 X] 5) = W := ⟨_, rfl⟩
          have b9 : Below w8.heap.size w8 W9 := by rw [← hW9]; exact below_new _ _
          have H9 := Lib.hid b9
          rw [hW9]
          clear hW9 b9 q8
          go_loopw [14] (fun i wr => ∃ j : Nat, i = .int .i64 (j : Int) ∧ j ≤ k ∧ Below w8.heap.size w8 wr) (fun i _ => k - (RowKit.intOf i).toNat)
          case atStart => exact ⟨0, by go_num, by omega, H9.out⟩
          case round =>
            obtain ⟨j, rfl, hj, hb⟩ := hrel
            by_cases hlt2 : j < k
            · have i4 : (j : Int) < (k : Int) := by omega
              obtain ⟨z, hz⟩ := at_lt (l := zs) (k := j) (by rw [HA.out.2.2.2.2.1]; exact hlt2)
              obtain ⟨b, o, rfl, hbl, d0⟩ := HA.out.2.2.1.at hz
              obtain ⟨b', o', rfl, hbl', d1⟩ := H8.out.2.1.at (H8.out.2.2.1 j z hz)
              have d0 := (H8.out.1.cell (p := ⟨b, o + j, none⟩) hbl).trans d0
              have d0 := (hb.cell (p := ⟨b, o + j, none⟩) (by have := H8.out.1.size; show b < _; omega)).trans d0
              have d1 := (hb.cell (p := ⟨b', o' + j, none⟩) hbl').trans d1
              have i5 : (j : Int) < (ML : Int) := by omega
              have HK := Lib.hid hb
              clear hb hz hbl hbl'
              go_wp2_with fail
              go_region
              go_wp2_with fail
              go_roundw
              case rel => exact ⟨j + 1, by go_num, by omega, HK.out.drew⟩
              case measure => simp [RowKit.intOf]; omega
            · obtain rfl : j = k := by omega
              have i4 : ¬ (j : Int) < (j : Int) := by omega
              have HK := Lib.hid hb
              clear hb
              go_wp2_with fail
              go_ret
              exact ⟨rfl, H8.out.1.trans (HK.out.mono H8.out.1.size)⟩
      have i3 : (k : Int) < (N : Int) := by omega
      obtain ⟨z, hz⟩ := at_lt (l := zs) (k := k) (by rw [HA.out.2.2.2.2.1]; exact hlt)
      obtain ⟨b, o, rfl, hbl, d0⟩ := HA.out.2.2.1.at hz
      have d0 := (HB2.out.cell (p := ⟨b, o + k, none⟩) hbl).trans d0
      have hat : (zs.take (k + 1)).all okZ = ((zs.take k).all okZ && okZ z) := by
        rw [List.take_add_one, hz, Option.toList_some, List.all_append]
        simp
      have hjt := fun hr => join_take hz t (ht hr)
      have H1 := Lib.hid (And.intro hrt (And.intro hat hjt))
      have hoz : okZ z = (decide (0 ≤ z) && decide (z ≤ 99999)) := rfl
      have HZ := Lib.hid hoz
      clear hrt hat hjt ht hbl hz hoz
      have hkz : t.length ≤ 300 := by omega
      have HAP := Lib.hid app_str
      by_cases hk0 : k = 0
      · have j0 : ¬ (0 : Int) < (k : Int) := by omega
        have j1 : ¬ 0 < k := by omega
        cases rt with
        | false =>
          have HF := Lib.hid (show false = (R0 && (zs.take (k + 1)).all okZ) by rw [H1.out.2.1, ← Bool.and_assoc, ← H1.out.1]; rfl)
          clear hk0
          go_wp2_with fail
          go_roundw
          case rel => exact ⟨k + 1, false, t, by go_num, by omega, rfl, rfl, HF.out, by omega, fun h => (by cases h), trivial⟩
          case measure => simp [RowKit.intOf]; omega
        | true =>
          by_cases h0 : 0 ≤ z
          case neg =>
            have a0 : decide (0 ≤ z) = false := by simpa using h0
            have HF := Lib.hid (show false = (R0 && (zs.take (k + 1)).all okZ) by rw [H1.out.2.1, HZ.out, a0]; simp)
            clear hk0 h0
            go_wp2_with fail
            go_roundw
            case rel => exact ⟨k + 1, false, t, by go_num, by omega, rfl, rfl, HF.out, by omega, fun h => (by cases h), trivial⟩
            case measure => simp [RowKit.intOf]; omega
          have a0 : decide (0 ≤ z) = true := by simpa using h0
          by_cases h1 : z ≤ 99999
          case neg =>
            have a1 : decide (z ≤ 99999) = false := by simpa using h1
            have HF := Lib.hid (show false = (R0 && (zs.take (k + 1)).all okZ) by rw [H1.out.2.1, HZ.out, a1]; simp)
            clear hk0 h0 h1
            go_wp2_with fail
            go_roundw
            case rel => exact ⟨k + 1, false, t, by go_num, by omega, rfl, rfl, HF.out, by omega, fun h => (by cases h), trivial⟩
            case measure => simp [RowKit.intOf]; omega
          have a1 : decide (z ≤ 99999) = true := by simpa using h1
          have KD := fun W => digits_any z.toNat (by omega) W
          rw [show ((z.toNat : Nat) : Int) = z by omega] at KD
          have hDl : (Lib.itoa z).length ≤ 5 := itoa_len h0 h1
          have hj2 := H1.out.2.2 rfl
          rw [← itoa_pos h0] at KD
          generalize Lib.itoa z = D at *
          have HD := Lib.hid KD
          have HF := Lib.hid (And.intro (show true = (R0 && (zs.take (k + 1)).all okZ) by rw [H1.out.2.1, HZ.out, a0, a1, ← Bool.and_assoc, ← H1.out.1]; rfl) (hj2.1 hk0))
          clear KD hj2 hk0 h0 h1
          unfold strB at HD
          go_wp2_with fail
          refine (HD.out _).mono ?_
          rintro r w3 ⟨rfl, e3⟩
          obtain rfl := e3.symm
          go_wp2_with fail
          go_roundw
          case rel => exact ⟨k + 1, true, (t ++ D), by go_num, by omega, rfl, by rw [HAP.out], HF.out.1, by simp; omega, fun _ => HF.out.2, trivial⟩
          case measure => simp [RowKit.intOf]; omega
      · have j0 : (0 : Int) < (k : Int) := by omega
        have j1 : 0 < k := by omega
        cases rt with
        | false =>
          have HF := Lib.hid (show false = (R0 && (zs.take (k + 1)).all okZ) by rw [H1.out.2.1, ← Bool.and_assoc, ← H1.out.1]; rfl)
          clear hk0
          go_wp2_with fail
          go_roundw
          case rel => exact ⟨k + 1, false, (t ++ [59]), by go_num, by omega, rfl, by rw [HAP.out], HF.out, by simp; omega, fun h => (by cases h), trivial⟩
          case measure => simp [RowKit.intOf]; omega
        | true =>
          by_cases h0 : 0 ≤ z
          case neg =>
            have a0 : decide (0 ≤ z) = false := by simpa using h0
            have HF := Lib.hid (show false = (R0 && (zs.take (k + 1)).all okZ) by rw [H1.out.2.1, HZ.out, a0]; simp)
            clear hk0 h0
            go_wp2_with fail
            go_roundw
            case rel => exact ⟨k + 1, false, (t ++ [59]), by go_num, by omega, rfl, by rw [HAP.out], HF.out, by simp; omega, fun h => (by cases h), trivial⟩
            case measure => simp [RowKit.intOf]; omega
          have a0 : decide (0 ≤ z) = true := by simpa using h0
          by_cases h1 : z ≤ 99999
          case neg =>
            have a1 : decide (z ≤ 99999) = false := by simpa using h1
            have HF := Lib.hid (show false = (R0 && (zs.take (k + 1)).all okZ) by rw [H1.out.2.1, HZ.out, a1]; simp)
            clear hk0 h0 h1
            go_wp2_with fail
            go_roundw
            case rel => exact ⟨k + 1, false, (t ++ [59]), by go_num, by omega, rfl, by rw [HAP.out], HF.out, by simp; omega, fun h => (by cases h), trivial⟩
            case measure => simp [RowKit.intOf]; omega
          have a1 : decide (z ≤ 99999) = true := by simpa using h1
          have KD := fun W => digits_any z.toNat (by omega) W
          rw [show ((z.toNat : Nat) : Int) = z by omega] at KD
          have hDl : (Lib.itoa z).length ≤ 5 := itoa_len h0 h1
          have hj2 := H1.out.2.2 rfl
          rw [← itoa_pos h0] at KD
          generalize Lib.itoa z = D at *
          have HD := Lib.hid KD
          have HF := Lib.hid (And.intro (show true = (R0 && (zs.take (k + 1)).all okZ) by rw [H1.out.2.1, HZ.out, a0, a1, ← Bool.and_assoc, ← H1.out.1]; rfl) (hj2.2 hk0))
          clear KD hj2 hk0 h0 h1
          unfold strB at HD
          go_wp2_with fail
          refine (HD.out _).mono ?_
          rintro r w3 ⟨rfl, e3⟩
          obtain rfl := e3.symm
          go_wp2_with fail
          go_roundw
          case rel => exact ⟨k + 1, true, (t ++ [59] ++ D), by go_num, by omega, rfl, by rw [HAP.out, HAP.out], HF.out.1, by simp; omega, fun _ => HF.out.2, trivial⟩
          case measure => simp [RowKit.intOf]; omega
  case pos =>
    have a64 : decide (64 ≤ X) = true := by simpa using h64
    have hR0 : decide (X ≤ 126) = R0 := by rw [HR.out, a64]; simp
    clear h64
    go_enter Tryd.func10, Tryd.ntmps10
    go_wp2_with fail
    refine HA.out.1.mono ?_
    rintro r w1 ⟨rfl, hb1⟩
    have HB1 := Lib.hid hb1
    clear hb1
    go_wp2_with fail
    refine (HA.out.2.1 _ HB1.out).mono ?_
    rintro r w2 ⟨rfl, hb2⟩
    have HB2 := Lib.hid (HB1.out.trans (hb2.mono HB1.out.size))
    clear hb2
    unfold strB
    go_wp2_with fail
    go_loopw [8, 9, 10] (fun b s i wr => ∃ (k : Nat) (rt : Bool) (t : List UInt8), i = .int .i64 (k : Int) ∧ k ≤ N ∧ b = .bool rt ∧ s = .string ⟨t.toArray⟩ ∧ rt = (R0 && (zs.take k).all okZ) ∧ t.length ≤ 2 + 10 * k ∧ (rt = true → t = 27 :: 91 :: Lib.join ((zs.take k).map Lib.itoa) [59]) ∧ wr = w2) (fun _ _ i _ => N - (RowKit.intOf i).toNat)
    case atStart => exact ⟨0, R0, [27, 91], by go_num, by omega, rfl, rfl, by simp, by simp, fun _ => by simp [Lib.join_nil], rfl⟩
    case round =>
      obtain ⟨k, rt, t, rfl, hk, rfl, rfl, hrt, htl, ht, e⟩ := hrel
      obtain rfl := e.symm
      by_cases hlt : k < N
      case neg =>
        obtain rfl : k = N := by omega
        have i3 : ¬ (k : Int) < (k : Int) := by omega
        have hRR : rt = (R0 && zs.all okZ) := by rw [hrt, ← HA.out.2.2.2.2.1, List.take_length]
        rw [← HA.out.2.2.2.2.1, List.take_length] at ht
        cases rt with
        | false =>
          obtain rfl : U = [] := HA.out.2.2.2.2.2.2.2.1 hRR.symm
          clear hrt ht hRR htl
          go_wp2_with fail
          go_ret
          exact ⟨rfl, HB2.out⟩
        | true =>
          have hR1 : R0 = true := by cases R0 with | true => rfl | false => simp at hRR
          have hz1 : zs.all okZ = true := by rw [hR1] at hRR; simpa using hRR.symm
          obtain ⟨hU1, hU2, hU3⟩ := HA.out.2.2.2.2.2.2.2.2 hR1 hz1
          have hUt : U = t ++ [UInt8.ofNat c] := by rw [hU1, ht rfl]; rfl
          have hUl : U.length = t.length + 1 := by rw [hUt]; simp
          have hUl2 : U.length ≤ 1000 := by omega
          obtain ⟨NU, hNU⟩ : ∃ n, U.length = n := ⟨_, rfl⟩
          rw [hNU] at hUl hUl2
          have hU2 := hU2 ys
          rw [hNU] at hU2
          have HU := Lib.hid (And.intro hUt (And.intro hU2 (And.intro hU3 (And.intro hNU (And.intro hz1 hUl)))))
          clear hrt ht hRR htl hU1 hU2 hU3 hUt hz1 hUl
          obtain ⟨cap3, W3, q3, hr3, hb3⟩ := conv_str w2 U (by rw [HU.out.2.2.2.1]; omega)
          rw [hNU] at q3
          unfold strB at q3
          have b3 := HB2.out.trans (hb3.mono HB2.out.size)
          have H3 := Lib.hid (And.intro hr3 (And.intro hb3 (And.intro b3 (HA.out.2.2.2.1.on b3))))
          clear hr3 hb3 b3
          go_wp2_with (first
            | (at_builtin
               refine wpList_appM rfl (.tmp 75) (.tmp 76) rfl w2.heap.size w2.heap.size (Nat.le_refl _) (nats U) ys NU cap3 (by rw [nats_len, HU.out.2.2.2.1]) rfl H3.out.1 A' M cap' HA.out.2.2.2.2.2.1 rfl H3.out.2.2.2 (by omega) ?_)
            | fail)
          intro A4 cap4 w4 hB4 hb4
          have C4 := read_any (nats U ++ ys) A4 cap4 0 w4 hB4
          rw [readAt0, HU.out.2.1, List.length_append, nats_len, HU.out.2.2.2.1, HA.out.2.2.2.2.2.1] at C4
          unfold escV at C4
          dsimp only at C4
          rw [HX.out] at C4
          have b4 : Below w.heap.size w w4 := H3.out.2.2.1.trans (hb4.mono (by have := H3.out.2.2.1.size; have := HB2.out.size; omega))
          have H4 := Lib.hid (And.intro C4 b4)
          clear C4 hB4 hb4 b4 q3
          go_wp2_with fail
          refine H4.out.1.mono ?_
          rintro r w5 ⟨rfl, hb5⟩
          have b5 := H4.out.2.trans (hb5.mono H4.out.2.size)
          obtain ⟨W6, hW6⟩ : ∃ W, w5.alloc (.cells #[.int .i64 (NU : Int), .bool true, .bool false, .int .u8 X] 42) = W := ⟨_, rfl⟩
          have x6 : Cells W6 w5.heap.size 42 #[.int .i64 (NU : Int), .bool true, .bool false, .int .u8 X] := by rw [← hW6]; exact cells_new _ _ _
          have b6 : Below w.heap.size w W6 := by rw [← hW6]; exact below_lit b5 _
          obtain ⟨cap7, W7, q7, hr7, hb7⟩ := conv_str W6 U (by rw [HU.out.2.2.2.1]; omega)
          rw [HU.out.2.2.2.1] at q7
          unfold strB at q7
          have b7 := b6.trans (hb7.mono b6.size)
          have x7 := x6.on hb7
          have C7 := numbers_any (nats U) (some ⟨W6.heap.size, 0, none⟩) cap7 0 (by rw [nats_len, HU.out.2.2.2.1]; omega) W7 hr7.by (HA.out.2.2.2.2.2.2.1.on b7)
          have hop := fun r w' => NumsOk.open (w := W7) (xs := nats U) (I := 0) (r := r) (w' := w')
          rw [HU.out.2.2.1] at C7 hop
          rw [nats_len, HU.out.2.2.2.1] at C7
          have H7 := Lib.hid (And.intro C7 (And.intro hop (And.intro b7 x7)))
          clear C7 hop b5 b6 b7 x6 x7 hr7 hb7 hb5
          go_wp2_with fail
          refine H7.out.1.mono ?_
          intro r w8 h8
          obtain ⟨A8, c8, rfl, hi8, hb8⟩ := H7.out.2.1 _ _ h8
          dsimp only [Option.isSome, Option.getD]
          obtain ⟨LL, hLL⟩ : ∃ L, natI (backL zs) = L := ⟨_, rfl⟩
          have hi8 : IS w8 w8.heap.size LL A8 c8 := by rw [← hLL]; exact hi8
          have hLn : LL.length = max k 1 := by
            rw [← hLL, natI_len, backL]
            have := HA.out.2.2.2.2.1
            split
            · rename_i h0
              subst h0
              simp at this
              subst this
              rfl
            · rename_i h0
              rw [List.length_map, this]
              have : 0 < k := by rw [← this]; exact List.length_pos_iff.2 h0
              omega
          rw [hLL]
          obtain ⟨ML, hML⟩ : ∃ n, LL.length = n := ⟨_, rfl⟩
          rw [hML] at hLn ⊢
          have b8 := H7.out.2.2.1.trans (hb8.mono H7.out.2.2.1.size)
          have x8 := H7.out.2.2.2.on hb8
          have p0 := x8.cell 0
          have p1 := x8.cell 1
          have p2 := x8.cell 2
          have p3 := x8.cell 3
          simp at p0 p1 p2 p3
          have hlt8 := x8.lt
          have q8 : (convert 22 9 (.slice (some ⟨w8.heap.size, 0, none⟩) 1 1)).run Tryd.prog (w8.alloc (.cells #[.int .u8 X] 5)) = .ok (.string ⟨[UInt8.ofNat c].toArray⟩) (w8.alloc (.cells #[.int .u8 X] 5)) := by
            have := conv_cells (w := w8.alloc (.cells #[.int .u8 (c : Int)] 5)) (g := w8.heap.size) [c] (cells_new _ _ _) (by simpa using hc) (by simp)
            rw [HX.out] at this
            exact this
          have hkz : t.length ≤ 999 := by have := HU.out.2.2.2.2.2; omega
          have e1 : ((⟨t.toArray⟩ ++ ⟨#[UInt8.ofNat c]⟩ : ByteArray)).toList = U := by
            have h1 := app_str t [UInt8.ofNat c]
            rw [← HU.out.1] at h1
            have h2 := congrArg ByteArray.toList h1
            rw [Lib.toList_data ⟨U.toArray⟩] at h2
            exact h2
          have e2 : U.length = NU := HU.out.2.2.2.1
          have e3 : max (k : Int) 1 = (ML : Int) := by omega
          have hLz : ∀ (j : Nat) (z : Int), zs[j]? = some z → LL[j]? = some z := fun j z hz => by
            have hz0 := okZ_iff.1 (List.all_eq_true.1 HU.out.2.2.2.2.1 z (List.mem_of_getElem? hz))
            rw [← hLL, natI, backL, if_neg (by rintro rfl; simp at hz), List.getElem?_map, List.getElem?_map, hz]
            simp
            omega
          have H8 := Lib.hid (And.intro b8 (And.intro hi8 (And.intro hLz (And.intro hML hLn))))
          clear h8 hi8 hb8 b8 x8 hLL hML hLn q7 hW6 hLz
          have hkm : k ≤ ML := by have := H8.out.2.2.2.2; omega
          go_wp2_with fail
          clear p0 p1 p2 p3 e1 e2 e3
          obtain ⟨W9, hW9⟩ : ∃ W, w8.alloc (.cells #[.int .u8 X] 5) = W := ⟨_, rfl⟩
          have b9 : Below w8.heap.size w8 W9 := by rw [← hW9]; exact below_new _ _
          have H9 := Lib.hid b9
          rw [hW9]
          clear hW9 b9 q8
          go_loopw [14] (fun i wr => ∃ j : Nat, i = .int .i64 (j : Int) ∧ j ≤ k ∧ Below w8.heap.size w8 wr) (fun i _ => k - (RowKit.intOf i).toNat)
          case atStart => exact ⟨0, by go_num, by omega, H9.out⟩
          case round =>
            obtain ⟨j, rfl, hj, hb⟩ := hrel
            by_cases hlt2 : j < k
            · have i4 : (j : Int) < (k : Int) := by omega
              obtain ⟨z, hz⟩ := at_lt (l := zs) (k := j) (by rw [HA.out.2.2.2.2.1]; exact hlt2)
              obtain ⟨b, o, rfl, hbl, d0⟩ := HA.out.2.2.1.at hz
              obtain ⟨b', o', rfl, hbl', d1⟩ := H8.out.2.1.at (H8.out.2.2.1 j z hz)
              have d0 := (H8.out.1.cell (p := ⟨b, o + j, none⟩) hbl).trans d0
              have d0 := (hb.cell (p := ⟨b, o + j, none⟩) (by have := H8.out.1.size; show b < _; omega)).trans d0
              have d1 := (hb.cell (p := ⟨b', o' + j, none⟩) hbl').trans d1
              have i5 : (j : Int) < (ML : Int) := by omega
              have HK := Lib.hid hb
              clear hb hz hbl hbl'
              go_wp2_with fail
              go_region
              go_wp2_with fail
              go_roundw
              case rel => exact ⟨j + 1, by go_num, by omega, HK.out.drew⟩
              case measure => simp [RowKit.intOf]; omega
            · obtain rfl : j = k := by omega
              have i4 : ¬ (j : Int) < (j : Int) := by omega
              have HK := Lib.hid hb
              clear hb
              go_wp2_with fail
              go_ret
              exact ⟨rfl, H8.out.1.trans (HK.out.mono H8.out.1.size)⟩
      have i3 : (k : Int) < (N : Int) := by omega
      obtain ⟨z, hz⟩ := at_lt (l := zs) (k := k) (by rw [HA.out.2.2.2.2.1]; exact hlt)
      obtain ⟨b, o, rfl, hbl, d0⟩ := HA.out.2.2.1.at hz
      have d0 := (HB2.out.cell (p := ⟨b, o + k, none⟩) hbl).trans d0
      have hat : (zs.take (k + 1)).all okZ = ((zs.take k).all okZ && okZ z) := by
        rw [List.take_add_one, hz, Option.toList_some, List.all_append]
        simp
      have hjt := fun hr => join_take hz t (ht hr)
      have H1 := Lib.hid (And.intro hrt (And.intro hat hjt))
      have hoz : okZ z = (decide (0 ≤ z) && decide (z ≤ 99999)) := rfl
      have HZ := Lib.hid hoz
      clear hrt hat hjt ht hbl hz hoz
      have hkz : t.length ≤ 300 := by omega
      have HAP := Lib.hid app_str
      by_cases hk0 : k = 0
      · have j0 : ¬ (0 : Int) < (k : Int) := by omega
        have j1 : ¬ 0 < k := by omega
        cases rt with
        | false =>
          have HF := Lib.hid (show false = (R0 && (zs.take (k + 1)).all okZ) by rw [H1.out.2.1, ← Bool.and_assoc, ← H1.out.1]; rfl)
          clear hk0
          go_wp2_with fail
          go_roundw
          case rel => exact ⟨k + 1, false, t, by go_num, by omega, rfl, rfl, HF.out, by omega, fun h => (by cases h), trivial⟩
          case measure => simp [RowKit.intOf]; omega
        | true =>
          by_cases h0 : 0 ≤ z
          case neg =>
            have a0 : decide (0 ≤ z) = false := by simpa using h0
            have HF := Lib.hid (show false = (R0 && (zs.take (k + 1)).all okZ) by rw [H1.out.2.1, HZ.out, a0]; simp)
            clear hk0 h0
            go_wp2_with fail
            go_roundw
            case rel => exact ⟨k + 1, false, t, by go_num, by omega, rfl, rfl, HF.out, by omega, fun h => (by cases h), trivial⟩
            case measure => simp [RowKit.intOf]; omega
          have a0 : decide (0 ≤ z) = true := by simpa using h0
          by_cases h1 : z ≤ 99999
          case neg =>
            have a1 : decide (z ≤ 99999) = false := by simpa using h1
            have HF := Lib.hid (show false = (R0 && (zs.take (k + 1)).all okZ) by rw [H1.out.2.1, HZ.out, a1]; simp)
            clear hk0 h0 h1
            go_wp2_with fail
            go_roundw
            case rel => exact ⟨k + 1, false, t, by go_num, by omega, rfl, rfl, HF.out, by omega, fun h => (by cases h), trivial⟩
            case measure => simp [RowKit.intOf]; omega
          have a1 : decide (z ≤ 99999) = true := by simpa using h1
          have KD := fun W => digits_any z.toNat (by omega) W
          rw [show ((z.toNat : Nat) : Int) = z by omega] at KD
          have hDl : (Lib.itoa z).length ≤ 5 := itoa_len h0 h1
          have hj2 := H1.out.2.2 rfl
          rw [← itoa_pos h0] at KD
          generalize Lib.itoa z = D at *
          have HD := Lib.hid KD
          have HF := Lib.hid (And.intro (show true = (R0 && (zs.take (k + 1)).all okZ) by rw [H1.out.2.1, HZ.out, a0, a1, ← Bool.and_assoc, ← H1.out.1]; rfl) (hj2.1 hk0))
          clear KD hj2 hk0 h0 h1
          unfold strB at HD
          go_wp2_with fail
          refine (HD.out _).mono ?_
          rintro r w3 ⟨rfl, e3⟩
          obtain rfl := e3.symm
          go_wp2_with fail
          go_roundw
          case rel => exact ⟨k + 1, true, (t ++ D), by go_num, by omega, rfl, by rw [HAP.out], HF.out.1, by simp; omega, fun _ => HF.out.2, trivial⟩
          case measure => simp [RowKit.intOf]; omega
      · have j0 : (0 : Int) < (k : Int) := by omega
        have j1 : 0 < k := by omega
        cases rt with
        | false =>
          have HF := Lib.hid (show false = (R0 && (zs.take (k + 1)).all okZ) by rw [H1.out.2.1, ← Bool.and_assoc, ← H1.out.1]; rfl)
          clear hk0
          go_wp2_with fail
          go_roundw
          case rel => exact ⟨k + 1, false, (t ++ [59]), by go_num, by omega, rfl, by rw [HAP.out], HF.out, by simp; omega, fun h => (by cases h), trivial⟩
          case measure => simp [RowKit.intOf]; omega
        | true =>
          by_cases h0 : 0 ≤ z
          case neg =>
            have a0 : decide (0 ≤ z) = false := by simpa using h0
            have HF := Lib.hid (show false = (R0 && (zs.take (k + 1)).all okZ) by rw [H1.out.2.1, HZ.out, a0]; simp)
            clear hk0 h0
            go_wp2_with fail
            go_roundw
            case rel => exact ⟨k + 1, false, (t ++ [59]), by go_num, by omega, rfl, by rw [HAP.out], HF.out, by simp; omega, fun h => (by cases h), trivial⟩
            case measure => simp [RowKit.intOf]; omega
          have a0 : decide (0 ≤ z) = true := by simpa using h0
          by_cases h1 : z ≤ 99999
          case neg =>
            have a1 : decide (z ≤ 99999) = false := by simpa using h1
            have HF := Lib.hid (show false = (R0 && (zs.take (k + 1)).all okZ) by rw [H1.out.2.1, HZ.out, a1]; simp)
            clear hk0 h0 h1
            go_wp2_with fail
            go_roundw
            case rel => exact ⟨k + 1, false, (t ++ [59]), by go_num, by omega, rfl, by rw [HAP.out], HF.out, by simp; omega, fun h => (by cases h), trivial⟩
            case measure => simp [RowKit.intOf]; omega
          have a1 : decide (z ≤ 99999) = true := by simpa using h1
          have KD := fun W => digits_any z.toNat (by omega) W
          rw [show ((z.toNat : Nat) : Int) = z by omega] at KD
          have hDl : (Lib.itoa z).length ≤ 5 := itoa_len h0 h1
          have hj2 := H1.out.2.2 rfl
          rw [← itoa_pos h0] at KD
          generalize Lib.itoa z = D at *
          have HD := Lib.hid KD
          have HF := Lib.hid (And.intro (show true = (R0 && (zs.take (k + 1)).all okZ) by rw [H1.out.2.1, HZ.out, a0, a1, ← Bool.and_assoc, ← H1.out.1]; rfl) (hj2.2 hk0))
          clear KD hj2 hk0 h0 h1
          unfold strB at HD
          go_wp2_with fail
          refine (HD.out _).mono ?_
          rintro r w3 ⟨rfl, e3⟩
          obtain rfl := e3.symm
          go_wp2_with fail
          go_roundw
          case rel => exact ⟨k + 1, true, (t ++ [59] ++ D), by go_num, by omega, rfl, by rw [HAP.out, HAP.out], HF.out.1, by simp; omega, fun _ => HF.out.2, trivial⟩
          case measure => simp [RowKit.intOf]; omega
end Go.Proofs.YtpimadgcojgjaaaDoor
