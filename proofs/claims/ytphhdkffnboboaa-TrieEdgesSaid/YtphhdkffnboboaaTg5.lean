/-
  The law TrieEdges: the class of each number at which something begins or ends, and of those beside it; outside the other class.
-/
import Derived.BigQuiet
import Derived.Deep.QuietTactic
import Derived.IntWalk
import Derived.Test.YtphhdkffnboboaaTg4
namespace Go.Proofs.Ytphhdkffnboboaa
open Go.RowKit Go.Shelf
open Go.Lib Go.Great Go.Maps

set_option maxHeartbeats 2000000 in
set_option maxRecDepth 100000 in
theorem get_q (T : Nat) (o : Int) (G : Nat → Int) (r : Int) (w : World) (h : Tr w T o G) (hG : U8 G) (r0 : -2147483648 ≤ r) (r1 : r ≤ 2147483647) :
    Calls Try.prog 18 #[.pointer (some ⟨T, 0, none⟩), .int .i32 r] w fun e w' => e = .returned (.int .i64 (if r < 0 ∨ 1114111 < r then o else G r.toNat)) ∧ ∃ m, w' = w.drewN m := by
  obtain ⟨b, cap, u, h1, h2, h3, h4, h5⟩ := h
  generalize (dd G 4352).length = n at *
  by_cases c0 : r < 0
  · rw [if_pos (.inl c0)]
    go_enter Try.func18, Try.ntmps18
    go_wp2
    go_ret
    exact ⟨rfl, 0, rfl⟩
  · by_cases c1 : 1114111 < r
    · rw [if_pos (.inr c1)]
      go_enter Try.func18, Try.ntmps18
      go_wp2
      go_ret
      exact ⟨rfl, 0, rfl⟩
    · rw [if_neg (by omega)]
      obtain ⟨a, rfl⟩ := Int.eq_ofNat_of_zero_le (show 0 ≤ r by omega)
      have ha : a < 1114112 := by omega
      obtain ⟨p1, p2⟩ := h3 (a / 256) (by omega)
      have p3 := h4 (a / 256) (a % 256) (by omega) (by omega)
      have e1 : 256 * (a / 256) + a % 256 = a := by omega
      rw [e1] at p3
      have hg := hG a
      simp only [Int.toNat_natCast]
      generalize G a = ga at *
      generalize u (a / 256) = q at *
      have j1 : (0 : Int) ≤ (a : Int) / 256 := by omega
      have j2 : (a : Int) / 256 < 4352 := by omega
      have j3 : (0 : Int) ≤ (a : Int) % 256 := by omega
      have j4 : (a : Int) % 256 < 256 := by omega
      have j5 : (q : Int) < (n : Int) := by omega
      have i1 : ¬ (a : Int) < 0 := by omega
      have i2 : ¬ (1114111 : Int) < (a : Int) := by omega
      clear h3 h4 c0 c1 hG e1
      go_enter Try.func18, Try.ntmps18
      go_wp2
      go_region
      go_wp2
      go_ret
      exact ⟨rfl, 1, rfl⟩
set_option maxHeartbeats 1500000 in
set_option maxRecDepth 100000 in
theorem tedges_any (o : Int) (A : Option Addr) (cap : Nat) (es : List En) (w : World) (h : ES w w.heap.size A cap es) :
    Calls Try.prog 4 #[.int .i64 o, .slice A es.length cap] w fun e w' => e = .returned (.bool true) ∧ Below w.heap.size w w' := by
  have T := Lib.hid taw_any
  have G := Lib.hid (great_any A cap es w h)
  have HE := Lib.hid h
  obtain ⟨n, hn⟩ : ∃ n, es.length = n := ⟨_, rfl⟩
  have HN := Lib.hid hn
  rw [hn]
  rw [hn] at G
  obtain ⟨q, hq⟩ : ∃ q, greatE es = q := ⟨_, rfl⟩
  have HQ := Lib.hid hq
  rw [hq] at G
  have G := Lib.hid G.out
  clear h hn hq
  cases q with
  | true =>
    go_enter Try.func4, Try.ntmps4
    go_wp2_with fail
    refine G.out.mono ?_
    rintro e w1 ⟨rfl, rfl⟩
    go_wp2_with fail
    refine (T.out _).mono ?_
    rintro e w2 ⟨rfl, hb⟩
    go_wp2_with fail
    go_ret
    exact ⟨rfl, hb⟩
  | false =>
    have hg : es.length ≤ 12 ∧ ∀ e ∈ es, e.xs.length ≤ 12 := by
      have := HQ.out
      unfold greatE at this
      rw [Bool.or_eq_false_iff] at this
      have h12 : es.length ≤ 12 := by have := this.2; simp at this; omega
      refine ⟨h12, fun e he => ?_⟩
      have h1 := this.1
      rw [List.take_of_length_le h12, List.any_eq_false] at h1
      have := h1 e he
      simp at this
      omega
    have HG := Lib.hid hg
    clear hg
    go_enter Try.func4, Try.ntmps4
    go_wp2_with fail
    refine G.out.mono ?_
    rintro e w1 ⟨rfl, rfl⟩
    go_wp2_with fail
    refine (T.out _).mono ?_
    rintro e w2 ⟨rfl, hb⟩
    have C := Lib.hid (lawto_any A cap es w2 ((HE.out.below hb).mono hb.size) HG.out.1 HG.out.2)
    have HB := Lib.hid hb
    rw [HN.out] at C
    have C := Lib.hid C.out
    clear hb
    go_wp2_with fail
    refine C.out.mono ?_
    rintro e w3 ⟨A3, c3, es3, rfl, hl3, hs3, hES3, hF3, hb3⟩
    have hN := new_any o A3 c3 es3 w3 hES3 hF3 (by have := HG.out.1; have := HN.out; omega) (fun e he => by
      have : (e.xs, e.c) ∈ es.map (fun e => (e.xs, e.c)) := by rw [← hs3]; exact List.mem_map.2 ⟨e, he, rfl⟩
      obtain ⟨e', he', hee⟩ := List.mem_map.1 this
      simp only [Prod.mk.injEq] at hee
      rw [← hee.1]
      have := HG.out.2 e' he'
      omega)
    have e3 : es3.length = n := hl3
    rw [e3] at hN
    have NW := Lib.hid hN
    have hbz := HB.out.trans (hb3.mono HB.out.size)
    have HB := Lib.hid hbz
    have HS3 := Lib.hid hs3
    clear hbz hb3 hs3 hES3 hF3 hl3 hN e3
    go_wp2_with fail
    refine NW.out.mono ?_
    rintro e w4 ⟨hb4, hp⟩
    have hbz := HB.out.trans (hb4.mono HB.out.size)
    have HB := Lib.hid hbz
    have MY := Lib.hid (lawmay_any o A cap es w4 ((HE.out.below hbz).mono hbz.size))
    rw [mayE_wrong, ← same2_any _ _ HS3.out, HN.out] at MY
    have MY := Lib.hid MY.out
    clear hbz hb4
    by_cases hok : (cls o && !es3.any wrongE) = true
    · rw [if_pos hok] at hp
      rw [hok] at MY
      have MY := Lib.hid MY.out
      obtain ⟨T1, F, rfl, hF, hFi, hT1⟩ := hp
      have HT := Lib.hid (And.intro hT1 (And.intro hF hFi))
      have HOK : Hid (es3.any wrongE = false) := Lib.hid (by rw [Bool.and_eq_true] at hok; simpa using hok.2)
      clear hok hT1 hF hFi
      go_wp2_with fail
      refine MY.out.mono ?_
      rintro e w5 ⟨rfl, hb5⟩
      have hbz := HB.out.trans (hb5.mono HB.out.size)
      have hT5 := HT.out.1.below hb5
      have H5 := Lib.hid (And.intro hbz hT5)
      clear hbz hT5 hb5
      go_wp2_with fail
      have hmay : ∀ x ∈ es, ∀ y ∈ x.xs, 0 ≤ y.1 ∧ y.1 ≤ y.2 ∧ y.2 ≤ 1114111 := fun x hx y hy => by
        have h1 : es.any wrongE = false := by rw [← same2_any _ _ HS3.out]; exact HOK.out
        rw [List.any_eq_false] at h1
        have h2 := h1 x hx
        unfold wrongE at h2
        have h3 : right x.xs = true := by
          cases hr : right x.xs with
          | true => rfl
          | false => rw [hr] at h2; simp at h2
        exact (may_iff y).1 (right_may h3 y hy).1
      have HM := Lib.hid hmay
      clear hmay
      have hHE5 := (HE.out.below H5.out.1).mono H5.out.1.size
      have HE5 := Lib.hid hHE5
      have hn12 : n ≤ 12 := by have := HG.out.1; have := HN.out; omega
      clear hHE5
      go_loopw [7] (fun i wr => ∃ k : Nat, i = .int .i64 (k : Int) ∧ k ≤ n ∧ Below w5.heap.size w5 wr) (fun i _ => n - (RowKit.intOf i).toNat)
      case atStart => exact ⟨0, rfl, Nat.zero_le _, Below.refl _ _⟩
      case round =>
        obtain ⟨k, rfl, hk, hb⟩ := hrel
        by_cases hlt : k < n
        · obtain ⟨x, hx⟩ : ∃ x, es[k]? = some x := ⟨es[k]'(by rw [HN.out]; exact hlt), List.getElem?_eq_getElem _⟩
          obtain ⟨b, o', rfl, hbl, hE⟩ := HE5.out.2.2.2 (by intro e; rw [e] at hx; simp at hx)
          obtain ⟨q1, _⟩ := hE k x hx
          have p1 := (hb.cell (p := ⟨b, o' + k * 2, none⟩) hbl).trans q1
          have hmx := HM.out x (List.mem_of_getElem? hx)
          have hRS := HE5.out.2.2.1 x (List.mem_of_getElem? hx)
          have hl12 := HG.out.2 x (List.mem_of_getElem? hx)
          obtain ⟨Ax, capx, xs, cx⟩ := x
          simp only at *
          obtain ⟨mx, hmx'⟩ : ∃ mx, xs.length = mx := ⟨_, rfl⟩
          have HMX := Lib.hid hmx'
          rw [hmx'] at p1 hl12 q1
          have HRS := Lib.hid hRS
          have HMx := Lib.hid hmx
          have HB := Lib.hid hb
          have HQ1 := Lib.hid (And.intro q1 hbl)
          have i1 : (k : Int) < (n : Int) := by omega
          clear hE hRS hmx hb hmx' q1
          go_wp2_with fail
          obtain ⟨wo, rfl⟩ : ∃ wo : World, wo = wr := ⟨_, rfl⟩
          go_loopw [8] (fun i wr => ∃ j : Nat, i = .int .i64 (j : Int) ∧ j ≤ mx ∧ Below w5.heap.size w5 wr) (fun i _ => mx - (RowKit.intOf i).toNat)
          case atStart => exact ⟨0, rfl, Nat.zero_le _, HB.out⟩
          case round =>
            obtain ⟨j, rfl, hj, hb⟩ := hrel
            have p1 := (hb.cell (p := ⟨b, o' + k * 2, none⟩) HQ1.out.2).trans HQ1.out.1
            by_cases hlj : j < mx
            · obtain ⟨y, hy⟩ : ∃ y, xs[j]? = some y := ⟨xs[j]'(by rw [HMX.out]; exact hlj), List.getElem?_eq_getElem _⟩
              obtain ⟨bx, ox, rfl, hblx, hRG⟩ := HRS.out.2.2.2 (by intro e; rw [e] at hy; simp at hy)
              obtain ⟨r1, r2⟩ := hRG j y hy
              have p2 := (hb.cell (p := ⟨bx, ox + j * 2, none⟩) hblx).trans r1
              have p3 := (hb.cell (p := ⟨bx, ox + j * 2 + 1, none⟩) hblx).trans r2
              have hym := HMx.out y (List.mem_of_getElem? hy)
              obtain ⟨lo, hi⟩ := y
              simp only at *
              have i2 : (j : Int) < (mx : Int) := by omega
              have HB2 := Lib.hid hb
              clear hRG hy r1 r2 hb
              go_wp2_with fail
              have hbn := HB2.out.alloc HB2.out.size (.cells #[.int .i32 lo, .int .i32 hi] 40)
              have c0 := cell_of_row _ _ 0 _ _ _ (heap_alloc_new wr (.cells #[.int .i32 lo, .int .i32 hi] 40))
              have c1 := cell_of_row _ _ 1 _ _ _ (heap_alloc_new wr (.cells #[.int .i32 lo, .int .i32 hi] 40))
              have hz : wr.heap.size < (wr.alloc (.cells #[.int .i32 lo, .int .i32 hi] 40)).heap.size := by simp
              have hw5 := HB2.out.size
              obtain ⟨w6, hw6⟩ : ∃ w6, wr.alloc (.cells #[.int .i32 lo, .int .i32 hi] 40) = w6 := ⟨_, rfl⟩
              obtain ⟨tb, htb⟩ : ∃ tb, wr.heap.size = tb := ⟨_, rfl⟩
              rw [hw6] at hbn c0 c1 hz ⊢
              rw [htb] at c0 c1 hz hw5 ⊢
              have H6 := Lib.hid (And.intro hbn (And.intro c0 (And.intro c1 hz)))
              clear hbn c0 c1 hz hw6 htb p1 p2 p3
              go_loopw [10] (fun i wr => ∃ d : Int, i = .int .i32 d ∧ -1 ≤ d ∧ d ≤ 2 ∧ Below w6.heap.size w6 wr) (fun i _ => (2 - RowKit.intOf i).toNat)
              case atStart => exact ⟨-1, rfl, by omega, by omega, Below.refl _ _⟩
              case round =>
                obtain ⟨d, rfl, hd1, hd2, hb⟩ := hrel
                by_cases hld : d ≤ 1
                · obtain ⟨wd, rfl⟩ : ∃ wd : World, wd = wr := ⟨_, rfl⟩
                  have s0 := (hb.cell (p := ⟨tb, 0, none⟩) H6.out.2.2.2).trans H6.out.2.1
                  have s1 := (hb.cell (p := ⟨tb, 1, none⟩) H6.out.2.2.2).trans H6.out.2.2.1
                  have hb5 := H6.out.1.trans (hb.mono H6.out.1.size)
                  have CG : ∀ r, -2147483648 ≤ r → r ≤ 2147483647 → ∀ m, Calls Try.prog 18 #[.pointer (some ⟨T1, 0, none⟩), .int .i32 r] (wd.drewN m) fun e w' => e = .returned (.int .i64 (getE o es r)) ∧ ∃ m', w' = (wd.drewN m).drewN m' := fun r h0 h1 m => by
                    have := get_q T1 o F r (wd.drewN m) (H5.out.2.below (below_drewN hb5 m)) HT.out.2.1 h0 h1
                    rw [get_agree HS3.out HT.out.2.2 r] at this
                    exact this
                  have CR : ∀ r, -2147483648 ≤ r → r ≤ 2147483647 → ∀ m, Calls Try.prog 19 #[.int .i64 o, .slice (some ⟨b, o', none⟩) n cap, .int .i32 r] (wd.drewN m) fun e w' => e = .returned (.int .i64 (getE o es r)) ∧ w' = wd.drewN m := fun r h0 h1 m => by
                    have hES : ES wd wd.heap.size (some ⟨b, o', none⟩) cap es := (HE5.out.below hb5).mono hb5.size
                    have := rget_any o (some ⟨b, o', none⟩) cap es r (wd.drewN m) hES h0 h1
                    rw [HN.out] at this
                    exact this
                  have CG1 := Lib.hid (CG (lo + d) (by omega) (by omega))
                  have CG2 := Lib.hid (CG (hi + d) (by omega) (by omega))
                  have CR1 := Lib.hid (CR (lo + d) (by omega) (by omega))
                  have CR2 := Lib.hid (CR (hi + d) (by omega) (by omega))
                  generalize getE o es (lo + d) = g1 at *
                  generalize getE o es (hi + d) = g2 at *
                  have HB6 := Lib.hid hb
                  have e1 : IntKind.i32.wrap (lo + d) = lo + d := IntWalk.i32_in _ (by omega)
                  have e2 : IntKind.i32.wrap (hi + d) = hi + d := IntWalk.i32_in _ (by omega)
                  clear CG CR hb hb5
                  go_wp2_with fail
                  go_quiet ((first | (go_at_call 18; with_reducible (first | exact Calls.quiet_of (CG1.out _) | exact Calls.quiet_of (CG2.out _))) | (go_at_call 19; with_reducible (first | exact Calls.quiet_of_same (CR1.out _) | exact Calls.quiet_of_same (CR2.out _)))))
                  go_wp2_with fail
                  go_roundw
                  case rel => exact ⟨d + 1, by go_num, by omega, by omega, below_drewN HB6.out _⟩
                  case measure => simp [RowKit.intOf]; omega
                · have hd : decide (d ≤ 1) = false := by simpa using hld
                  have hbz := H6.out.1.trans (hb.mono H6.out.1.size)
                  go_wp2_with fail
                  go_roundw
                  case rel => exact ⟨j + 1, by go_num, by omega, hbz⟩
                  case measure => simp [RowKit.intOf]; omega
            · have i2 : ¬ (j : Int) < (mx : Int) := by omega
              have d2 : decide ((j : Int) < (mx : Int)) = false := by simp; omega
              go_wp2_with fail
              go_roundw
              case rel => exact ⟨k + 1, by go_num, by omega, hb⟩
              case measure => simp [RowKit.intOf]; omega
        · have i1 : ¬ (k : Int) < (n : Int) := by omega
          have d1 : decide ((k : Int) < (n : Int)) = false := by simp; omega
          have hb5 := H5.out.1.trans (hb.mono H5.out.1.size)
          have C1 := Lib.hid (get_any T1 o F (-1) wr (H5.out.2.below hb) HT.out.2.1 (by omega) (by omega))
          have C2 := Lib.hid (fun W (hW : Below wr.heap.size wr W) => get_any T1 o F 1114112 W ((H5.out.2.below hb).below hW) HT.out.2.1 (by omega) (by omega))
          rw [if_pos (by omega)] at C1 C2
          have HB5 := Lib.hid hb5
          clear hb hb5
          go_wp2_with fail
          refine C1.out.mono ?_
          rintro e w6 ⟨rfl, hb6⟩
          have HB6 := Lib.hid hb6
          clear hb6
          go_wp2_with fail
          refine (C2.out _ HB6.out).mono ?_
          rintro e w7 ⟨rfl, hb7⟩
          have hbz := (HB5.out.trans (HB6.out.mono HB5.out.size)).trans (hb7.mono (Nat.le_trans HB5.out.size HB6.out.size))
          clear hb7
          go_wp2_with fail
          go_ret
          exact ⟨rfl, hbz⟩
    · rw [if_neg hok] at hp
      have hok : (cls o && !es3.any wrongE) = false := by simpa using hok
      rw [hok] at MY
      have MY := Lib.hid MY.out
      subst hp
      clear hok
      go_wp2_with fail
      refine MY.out.mono ?_
      rintro e w5 ⟨rfl, hb5⟩
      have hbz := HB.out.trans (hb5.mono HB.out.size)
      go_wp2_with fail
      go_ret
      exact ⟨rfl, hbz⟩
end Go.Proofs.Ytphhdkffnboboaa
