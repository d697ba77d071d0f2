/-
  The law OverlayBreaks: its walk.
-/
import Derived.Test.YtflhdfbpafhjlaaObr
import Derived.Test.YtflhdfbpafhjlaaOcl
import Derived.Test.YtflhdfbpafhjlaaOli
import Derived.Test.YtflhdfbpafhjlaaOis
import Derived.Test.YtflhdfbpafhjlaaOaw
import Derived.Test.YtflhdfbpafhjlaaOrb
namespace Go.Proofs.Ytflhdfbpafhjlaa
open Go.RowKit Go.Shelf Go.Lib Go.Sort Go.Maps

theorem rows_35 : (rowsP.all fun x => decide (x.2.2 ≤ 35)) = true := by decide +kernel
theorem classR_35 (r : Int) : classR r ≤ 35 := by
  unfold classR
  split
  · omega
  · rename_i x hx
    split
    · omega
    · have h := List.all_eq_true.1 rows_35 x (List.mem_of_find?_eq_some hx)
      simp at h
      unfold atRow
      split <;> omega
theorem clsL_len (l : List IT) : (clsL l).length = l.length := by simp [clsL]
theorem clsL_64 (l : List IT) : ∀ x ∈ clsL l, i64 x := by
  intro x hx
  unfold clsL at hx
  obtain ⟨y, _, rfl⟩ := List.mem_map.1 hx
  have := classR_35 y.r
  unfold i64
  omega
theorem betw_64 (m : Int) (a b : IT) (q : Bool) : i64 (betw m a b q) := by
  unfold betw i64
  cases b.f <;> cases (m == 3) <;> cases tog a b <;> cases q <;> cases (b.x || a.r == 173) <;> simp
theorem brkAll_64 (m : Int) (l : List IT) (q : List Bool) : ∀ x ∈ brkAll m l q, i64 x := by
  have hz : i64 0 := by unfold i64; omega
  intro x hx
  unfold brkAll at hx
  split at hx
  · split at hx
    · simp at hx; subst hx; exact hz
    · unfold brkL at hx
      rcases List.mem_append.1 hx with h | h
      · rcases List.mem_cons.1 h with h | h
        · subst h; exact hz
        · obtain ⟨j, _, rfl⟩ := List.mem_map.1 h
          exact betw_64 _ _ _ _
      · simp at h; subst h; exact hz
  · simp at hx
theorem brkAll_no (m : Int) (l : List IT) (q : List Bool) (h : ¬ q.length = l.length + 1) : brkAll m l q = [] := by unfold brkAll; rw [if_neg h]

set_option maxRecDepth 100000 in
set_option maxHeartbeats 16000000 in
theorem breaksLaw (m : Int) (l : List IT) (q : List Bool) (A : Option Addr) (B : Option Addr) (c d : Nat) (w : World) (hA : IsA w w.heap.size l A c) (hR : ∀ x ∈ l, R32 x.r) (hB : BS w w.heap.size q B d) :
    Calls Try.prog 4 #[.int .i64 m, .slice A l.length c, .slice B q.length d] w fun e w' => e = .returned (.bool true) ∧ Below w.heap.size w w' := by
  have hq := hB.len
  have hlm : l.length ≤ 9223372036854775807 := by have := hA.le; have := hA.mx; unfold maxLen at this; omega
  have AW := Lib.hid awake_any
  by_cases h60 : 60 < l.length ∨ 70 < q.length
  case pos =>
    generalize l.length = n at *
    generalize q.length = N at *
    clear hA hR hB
    rcases (show 60 < n ∨ (¬ 60 < n ∧ 70 < N) by omega) with h1 | ⟨h1, h2⟩
    all_goals
      first
      | have i1 : (60 : Int) < (n : Int) := by omega
      | have i1 : ¬ (60 : Int) < (n : Int) := by omega
        have i2 : (70 : Int) < (N : Int) := by omega
      clear h60
      go_enter Try.func4, Try.ntmps4
      go_wp2_with fail
      refine (AW.out _).mono ?_
      rintro e w1 ⟨rfl, hb⟩
      go_wp2_with fail
      go_ret
      exact ⟨rfl, hb⟩
  case neg =>
  have h1 : l.length ≤ 60 := by omega
  have h2 : q.length ≤ 70 := by omega
  clear h60
  have C1 := Lib.hid (fun W (h : IsA W W.heap.size l A c) => list25_any l A c W h (by omega))
  have C2 := Lib.hid (fun W A' c' (h : IsA W W.heap.size l A' c') (h' : BS W W.heap.size q B d) => brk25_any m l A' c' q B d W h hR (by omega) h')
  have C3 := Lib.hid (fun W A' c' (h : IsA W W.heap.size l A' c') => cls25_any l A' c' W h hR (by omega))
  have C4 := Lib.hid (fun W (h : IsA W W.heap.size l A c) => rcls_any l A c W h hR (by omega))
  have C5 := Lib.hid (fun W A' c' A2 c2 (h : IS W W.heap.size (clsL l) A' c') (h' : IS W W.heap.size (clsL l) A2 c2) => ints_is (clsL l) (clsL l) A' A2 c' c2 W h h')
  have X1 := Lib.hid (And.intro (clsL_64 l) (brkAll_64 m l q))
  have X3 := Lib.hid (brkAll_no m l q)
  have X4 := Lib.hid (fun h i => brkAll_get m l q h (i := i))
  have X5 := Lib.hid (brkAll_len m l q)
  have X6 := Lib.hid (clsL_len l)
  obtain ⟨n, hn⟩ : ∃ n, l.length = n := ⟨_, rfl⟩
  obtain ⟨N, hN⟩ : ∃ N, q.length = N := ⟨_, rfl⟩
  rw [hn] at h1 hlm ⊢
  rw [hN] at h2 hq ⊢
  have i1 : ¬ (60 : Int) < (n : Int) := by omega
  have i2 : ¬ (70 : Int) < (N : Int) := by omega
  have HH := Lib.hid (And.intro hA (And.intro hB (And.intro hR (And.intro hn hN))))
  clear hA hB hR hn hN
  go_enter Try.func4, Try.ntmps4
  go_wp2_with fail
  refine (AW.out _).mono ?_
  rintro e w1 ⟨rfl, b1⟩
  have D1 := C1.out w1 (HH.out.1.on b1)
  rw [HH.out.2.2.2.1] at D1
  have H1 := Lib.hid b1
  clear b1
  go_wp2_with fail
  refine D1.mono ?_
  rintro e w2 ⟨v2, rfl, o2, b2⟩
  clear D1
  obtain ⟨A2, c2, rfl, s2⟩ := IsA.of_own o2
  have b2' := below_on H1.out b2
  have D2 := C2.out w2 A2 c2 s2 (HH.out.2.1.on b2')
  rw [HH.out.2.2.2.1, HH.out.2.2.2.2] at D2
  rw [HH.out.2.2.2.1]
  have H2 := Lib.hid b2'
  clear o2 s2 b2 b2'
  go_wp2_with fail
  refine D2.mono ?_
  rintro e w3 ⟨v3, rfl, o3, b3⟩
  clear D2
  have b3' := below_on H2.out b3
  obtain ⟨A3, c3, rfl, s3, _⟩ := OwnI.is o3 X1.out.2
  have D1 := C1.out w3 (HH.out.1.on b3')
  rw [HH.out.2.2.2.1] at D1
  obtain ⟨M, hM⟩ : ∃ M, (brkAll m l q).length = M := ⟨_, rfl⟩
  rw [hM]
  have H3 := Lib.hid (And.intro b3' (And.intro s3 hM))
  clear o3 s3 b3 b3' hM
  go_wp2_with fail
  refine D1.mono ?_
  rintro e w4 ⟨v4, rfl, o4, b4⟩
  clear D1
  obtain ⟨A4, c4, rfl, s4⟩ := IsA.of_own o4
  have b4' := below_on H3.out.1 b4
  have s34 := H3.out.2.1.on b4
  have D3 := C3.out w4 A4 c4 s4
  rw [HH.out.2.2.2.1] at D3
  rw [HH.out.2.2.2.1]
  have H4 := Lib.hid (And.intro b4' s34)
  clear o4 s4 b4 b4' s34
  go_wp2_with fail
  refine D3.mono ?_
  rintro e w5 ⟨v5, rfl, o5, b5⟩
  clear D3
  obtain ⟨A5, c5, rfl, s5, _⟩ := OwnI.is o5 X1.out.1
  have b5' := below_on H4.out.1 b5
  have D4 := C4.out w5 (HH.out.1.on b5')
  rw [HH.out.2.2.2.1] at D4
  rw [X6.out, HH.out.2.2.2.1]
  have H5 := Lib.hid (And.intro b5' (And.intro s5 (H4.out.2.on b5)))
  clear o5 s5 b5 b5'
  go_wp2_with fail
  refine D4.mono ?_
  rintro e w6 ⟨v6, rfl, o6, b6⟩
  clear D4
  obtain ⟨A6, c6, rfl, s6, _⟩ := OwnI.is o6 X1.out.1
  have b6' := below_on H5.out.1 b6
  have D5 := C5.out w6 A5 c5 A6 c6 (H5.out.2.1.on b6) s6
  rw [X6.out, HH.out.2.2.2.1] at D5
  simp only [decide_true] at D5
  rw [X6.out, HH.out.2.2.2.1]
  have H6 := Lib.hid (And.intro b6' (H5.out.2.2.on b6))
  clear o6 s6 b6 b6'
  go_wp2_with fail
  refine D5.mono ?_
  rintro e w7 ⟨rfl, b7⟩
  clear D5
  have H7 := Lib.hid (And.intro (below_on H6.out.1 b7) (H6.out.2.on b7))
  clear b7
  by_cases hNn : N = n + 1
  case neg =>
    have j1 : ((N : Int) != (n : Int) + 1) = true := by simp; omega
    have hM0 : M = 0 := by
      rw [← H3.out.2.2, X3.out (by rw [HH.out.2.2.2.1, HH.out.2.2.2.2]; exact hNn)]
      rfl
    subst hM0
    clear hNn
    go_wp2_with fail
    go_ret
    exact ⟨rfl, H7.out.1⟩
  case pos =>
    subst hNn
    have hM0 : M = n + 1 := by
      rw [← H3.out.2.2, X5.out (by rw [HH.out.2.2.2.1, HH.out.2.2.2.2])]
      rw [HH.out.2.2.2.1]
    subst hM0
    have j1 : (((n + 1 : Nat) : Int) != (n : Int) + 1) = false := by simp
    go_wp2_with fail
    go_loopw [8, 9] (fun i _ wr => ∃ k : Nat, i = .int .i64 (k : Int) ∧ k ≤ n + 1 ∧ Below w7.heap.size w7 wr) (fun i _ _ => n + 1 - (RowKit.intOf i).toNat)
    case atStart => exact ⟨0, rfl, Nat.zero_le _, Below.refl _ _⟩
    case round =>
      obtain ⟨k, rfl, hk, hb⟩ := hrel
      by_cases hlt : k < n + 1
      · have k1 : (k : Int) < (n : Int) + 1 := by omega
        have k2 : (k : Int) ≤ 1000 := by omega
        have hg := X4.out (by rw [HH.out.2.2.2.1, HH.out.2.2.2.2]) k (by rw [HH.out.2.2.2.2]; exact hlt)
        rw [HH.out.2.2.2.1] at hg
        have sw := H7.out.2.on hb
        obtain ⟨b3, o3, rfl, hl3, hr3⟩ := sw.r (by intro e; rw [e] at hg; simp at hg)
        have cg := hr3 k _ hg
        clear hr3 hg sw
        by_cases hin : 0 < k ∧ k < n
        case neg =>
          rw [if_neg hin] at cg
          have HB := Lib.hid (below_on H7.out.1 hb)
          have HB2 := Lib.hid hb
          clear hb
          rcases (show ¬ 0 < k ∨ (0 < k ∧ k = n) by omega) with hk0 | ⟨hk0, rfl⟩
          · have k3 : ¬ (0 : Int) < (k : Int) := by omega
            clear hin
            go_wp2_with fail
            go_roundw
            case rel => exact ⟨k + 1, by go_num, by omega, HB2.out⟩
            case measure => simp [RowKit.intOf]; omega
          · have k3 : (0 : Int) < (k : Int) := by omega
            have k4 : ¬ (k : Int) < (k : Int) := by omega
            clear hin
            go_wp2_with fail
            go_roundw
            case rel => exact ⟨k + 1, by go_num, by omega, HB2.out⟩
            case measure => simp [RowKit.intOf]
        case pos =>
          rw [if_pos hin] at cg
          obtain ⟨x, hx⟩ : ∃ x, l[k - 1]? = some x := ⟨l[k - 1]'(by rw [HH.out.2.2.2.1]; omega), List.getElem?_eq_getElem _⟩
          obtain ⟨y, hy⟩ : ∃ y, l[k]? = some y := ⟨l[k]'(by rw [HH.out.2.2.2.1]; omega), List.getElem?_eq_getElem _⟩
          obtain ⟨z, hz⟩ : ∃ z, q[k]? = some z := ⟨q[k]'(by rw [HH.out.2.2.2.2]; omega), List.getElem?_eq_getElem _⟩
          have hbw := below_on H7.out.1 hb
          obtain ⟨b, o, rfl, hbl, hc⟩ := (HH.out.1.on hbw).r (k - 1) x hx
          obtain ⟨b', o', e', _, hc'⟩ := (HH.out.1.on hbw).r k y hy
          injection e' with e'
          injection e' with e1 e2
          subst e1 e2
          obtain ⟨b2, o2, rfl, hbl2, hr2⟩ := (HH.out.2.1.on hbw).r (by rintro e; rw [e] at hz; simp at hz)
          have cz := hr2 k z hz
          have hr := HH.out.2.2.1 x (List.mem_of_getElem? hx)
          have hbt : btAt m l q k = betw m x y z := by
            unfold btAt
            rw [getD_of hx, getD_of hy, getD_of hz]
          rw [hbt] at cg
          have T := fun W => rbetw_any m x y z hr W
          generalize betw m x y z = R at T cg
          have k3 : (0 : Int) < (k : Int) := by omega
          have k4 : (k : Int) < (n : Int) := by omega
          have k5 : (1 : Int) ≤ (k : Int) := by omega
          have k6 : (R != R) = false := by simp
          obtain ⟨j, rfl⟩ : ∃ j, k = j + 1 := ⟨k - 1, by omega⟩
          rw [show j + 1 - 1 = j by omega] at hc
          obtain ⟨xr, xat, xsz, xf, xx, xn, xp⟩ := x
          obtain ⟨yr, yat, ysz, yf, yx, yn, yp⟩ := y
          unfold itA at T hc hc'
          simp only at T hc hc'
          have q0 := hc 0 _ rfl
          have q1 := hc 1 _ rfl
          have q2 := hc 2 _ rfl
          have q3 := hc 3 _ rfl
          have q4 := hc 4 _ rfl
          have q5 := hc 5 _ rfl
          have q6 := hc 6 _ rfl
          have p0 := hc' 0 _ rfl
          have p1 := hc' 1 _ rfl
          have p2 := hc' 2 _ rfl
          have p3 := hc' 3 _ rfl
          have p4 := hc' 4 _ rfl
          have p5 := hc' 5 _ rfl
          have p6 := hc' 6 _ rfl
          simp only [← Nat.add_assoc, Nat.add_zero] at q0 q1 q2 q3 q4 q5 q6 p0 p1 p2 p3 p4 p5 p6
          have r0 := cell_regrown q0
          have s0 := cell_regrown p0
          have r1 := cell_regrown q1
          have s1 := cell_regrown p1
          have r2 := cell_regrown q2
          have s2 := cell_regrown p2
          have r3 := cell_regrown q3
          have s3 := cell_regrown p3
          have r4 := cell_regrown q4
          have s4 := cell_regrown p4
          have r5 := cell_regrown q5
          have s5 := cell_regrown p5
          have r6 := cell_regrown q6
          have s6 := cell_regrown p6
          have z0 := cell_regrown cz
          have D1 : ∀ d os, Calls Try.prog 9 #[.int .i64 m, .agg #[.int .i32 xr, .int .i64 xat, .int .i64 xsz, .bool xf, .bool xx, .bool xn, .bool xp], .agg #[.int .i32 yr, .int .i64 yat, .int .i64 ysz, .bool yf, .bool yx, .bool yn, .bool yp], .bool z] (grow (redrawn wr d) os) fun e w'' => e = .returned (.int .i64 R) ∧ ∃ p : Regrown, w'' = grow (redrawn wr p.d) p.os := fun d os => Calls.regrown_of (T _)
          have H8 := Lib.hid (And.intro hb (And.intro cg hl3))
          clear hb hc hc' hx hy hz cz hr2 hr T hbt hbl hbl2 hbw q0 q1 q2 q3 q4 q5 q6 p0 p1 p2 p3 p4 p5 p6 cg hl3 hin
          go_wp2_with fail
          refine wp_region_quiet_below (by kernel_rfl) (by kernel_rfl) ?_
          repeat (go_big_quiet_step (with_reducible exact D1 _ _))
          refine wpQuiet_nil ?_
          intro _ hw'
          obtain ⟨⟨dq, osq⟩, hw''⟩ := hw'
          subst hw''
          have bg := below_regrown wr dq osq
          have cg : (grow (redrawn wr dq) osq).cell? ⟨b3, o3 + (j + 1), none⟩ = some (.int .i64 R) := (bg.cell (p := ⟨b3, o3 + (j + 1), none⟩) H8.out.2.2).trans H8.out.2.1
          have HB := Lib.hid (below_on H8.out.1 bg)
          clear bg D1 z0 r0 r1 r2 r3 r4 r5 r6 s0 s1 s2 s3 s4 s5 s6
          generalize grow (redrawn wr dq) osq = w8 at *
          go_wp2_with fail
          go_roundw
          case rel => exact ⟨j + 1 + 1, by go_num, by omega, HB.out⟩
          case measure => simp [RowKit.intOf]; omega
      · obtain rfl : k = n + 1 := by omega
        have k1 : ¬ ((n + 1 : Nat) : Int) < (n : Int) + 1 := by omega
        have HB := Lib.hid (below_on H7.out.1 hb)
        clear hb
        go_wp2_with fail
        go_ret
        exact ⟨rfl, HB.out⟩
end Go.Proofs.Ytflhdfbpafhjlaa
