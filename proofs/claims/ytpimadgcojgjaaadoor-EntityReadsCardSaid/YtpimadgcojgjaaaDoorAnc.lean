/-
  Contracts: ansi.readControl, Read.
-/
import Derived.Test.YtpimadgcojgjaaaDoorAnr
namespace Go.Proofs.YtpimadgcojgjaaaDoor
open Go.RowKit Go.Shelf Go.Lib Go.Maps

theorem ctl_none {n : Nat} {r : List Nat} (h : r = []) : ctlR n r = ⟨n, false, true, 0⟩ := by subst h; rfl
theorem ctl_final {n c : Nat} {r : List Nat} (h : inR 64 126 c = true) : ctlR n (c :: r) = ⟨n + 1, true, false, c⟩ := by simp only [ctlR, if_pos h]
theorem ctl_other {n c : Nat} {r : List Nat} (h : inR 64 126 c = false) : ctlR n (c :: r) = ⟨n, false, false, 0⟩ := by simp only [ctlR, h]; rfl
theorem readC_ends (xs : List Nat) (h2 : 2 ≤ xs.length) : ∃ E1 E2, 2 + skipN 48 63 (xs.drop 2) = E1 ∧ E1 + skipN 32 47 (xs.drop E1) = E2 ∧ E1 ≤ xs.length ∧ E2 ≤ xs.length ∧ readC (xs.drop 2) = ctlR E2 (xs.drop E2) := by
  refine ⟨_, _, rfl, rfl, ?_, ?_, ?_⟩
  · have := skipN_le 48 63 (xs.drop 2)
    simp at this
    omega
  · have := skipN_le 48 63 (xs.drop 2)
    have := skipN_le 32 47 (xs.drop (2 + skipN 48 63 (xs.drop 2)))
    simp at *
    omega
  · unfold readC
    rw [List.drop_drop, List.drop_drop, Nat.add_assoc 2]
set_option maxHeartbeats 4000000 in
set_option maxRecDepth 100000 in
theorem readControl_any (xs : List Nat) (A : Option Addr) (cap : Nat) (h2 : 2 ≤ xs.length) (w : World) (h : BY w w.heap.size xs A cap) :
    Calls Tryd.prog 45 #[.slice A xs.length cap] w fun r w' => r = .returned (escV (readC (xs.drop 2))) ∧ Below w.heap.size w w' := by
  have hlen := h.len
  obtain ⟨E1, E2, hE1, hE2, l1, l2, hR⟩ := readC_ends xs h2
  rw [hR]
  have C1 := fun W (h : BY W W.heap.size xs A cap) => skip_any xs A cap 48 63 48 63 rfl rfl 2 (by omega) W h
  rw [hE1] at C1
  have C2 := fun W (h : BY W W.heap.size xs A cap) => skip_any xs A cap 32 47 32 47 rfl rfl E1 l1 W h
  rw [hE2] at C2
  obtain ⟨N, hN⟩ : ∃ N, xs.length = N := ⟨_, rfl⟩
  rw [hN] at C1 C2 l1 l2 hlen
  rw [hN]
  have B0 := fun (o : Obj) => h.on (below_new w o)
  have HH := Lib.hid (And.intro h (And.intro hN hR))
  have HB := Lib.hid B0
  have HC1 := Lib.hid C1
  have HC2 := Lib.hid C2
  clear hR hE1 hE2 C1 C2 B0 h2
  by_cases hlt : E2 < N
  · have i1 : (E2 : Int) < (N : Int) := by omega
    obtain ⟨x, hx⟩ := at_lt (l := xs) (k := E2) (by rw [hN]; exact hlt)
    obtain ⟨b, o, rfl, hbl, d0⟩ := h.at hx
    have hin := in_int (rfl : (64 : Int) = ((64 : Nat) : Int)) (rfl : (126 : Int) = ((126 : Nat) : Int)) (rfl : (x : Int) = x)
    rw [drop_at hx]
    obtain ⟨X, hX⟩ : ∃ X : Int, (x : Int) = X := ⟨_, rfl⟩
    rw [hX] at hin d0
    have HF := Lib.hid (fun W => isFinal_any X W)
    have i3 : ((E2 : Int) == (N : Int)) = false := by rw [beq_eq_false_iff_ne]; omega
    cases hf : inR 64 126 x
    · rw [ctl_other hf]
      rw [hf] at hin
      have HI := Lib.hid hin.symm
      clear hin hf hx hN h hX
      go_enter Tryd.func45, Tryd.ntmps45
      go_wp2_with fail
      refine (HC1.out _ (HB.out _)).mono ?_
      rintro r w1 ⟨rfl, rfl⟩
      go_wp2_with fail
      refine (HC2.out _ (HB.out _)).mono ?_
      rintro r w2 ⟨rfl, rfl⟩
      go_wp2_with fail
      refine (HF.out _).mono ?_
      rintro r w1 ⟨rfl, rfl⟩
      rw [HI.out]
      go_wp2_with fail
      refine bodyPost_ret (v := .agg #[.int .i64 (E2 : Int), .bool false, .bool false, .int .u8 0]) (by simp [results, Tryd.results45, go_sem]) rfl ⟨rfl, below_new w _⟩
    · rw [ctl_final hf]
      rw [hf] at hin
      have HI := Lib.hid hin.symm
      have HX := Lib.hid hX
      clear hin hf hx hN h hX
      go_enter Tryd.func45, Tryd.ntmps45
      go_wp2_with fail
      refine (HC1.out _ (HB.out _)).mono ?_
      rintro r w1 ⟨rfl, rfl⟩
      go_wp2_with fail
      refine (HC2.out _ (HB.out _)).mono ?_
      rintro r w2 ⟨rfl, rfl⟩
      go_wp2_with fail
      refine (HF.out _).mono ?_
      rintro r w1 ⟨rfl, rfl⟩
      rw [HI.out]
      go_wp2_with fail
      refine bodyPost_ret (v := .agg #[.int .i64 ((E2 : Int) + 1), .bool true, .bool false, .int .u8 X]) (by simp [results, Tryd.results45, go_sem]) rfl ⟨by rw [← HX.out]; rfl, below_new w _⟩
  · obtain rfl : E2 = N := by omega
    have i1 : ¬ (E2 : Int) < (E2 : Int) := by omega
    have i3 : ((E2 : Int) == (E2 : Int)) = true := by simp
    rw [ctl_none (by rw [← hN, List.drop_length])]
    clear h hN
    go_enter Tryd.func45, Tryd.ntmps45
    go_wp2_with fail
    refine (HC1.out _ (HB.out _)).mono ?_
    rintro r w1 ⟨rfl, rfl⟩
    go_wp2_with fail
    refine (HC2.out _ (HB.out _)).mono ?_
    rintro r w2 ⟨rfl, rfl⟩
    go_wp2_with fail
    refine bodyPost_ret (v := .agg #[.int .i64 (E2 : Int), .bool false, .bool true, .int .u8 0]) (by simp [results, Tryd.results45, go_sem]) rfl ⟨rfl, below_new w _⟩

/-- What is read at a place. -/
def readAt (xs : List Nat) (i : Int) : Esc := if i < 0 then escNone else readT (xs.drop i.toNat)
theorem BY.drop0 {w : World} {B : Nat} {xs : List Nat} {A : Option Addr} {cap k x : Nat} (h : BY w B xs A cap) (hx : xs[k]? = some x) : ∃ b o, A = some ⟨b, o, none⟩ ∧ b < B ∧ BY w B (xs.drop k) (some ⟨b, o + k, none⟩) (cap - k) := by
  obtain ⟨b, o, rfl, hb, _⟩ := h.at hx
  exact ⟨b, o, rfl, hb, h.drop (List.getElem?_eq_some_iff.1 hx).1⟩
set_option maxHeartbeats 4000000 in
set_option maxRecDepth 100000 in
/-- ansi.Read. -/
theorem read_any (xs : List Nat) (A : Option Addr) (cap : Nat) (I : Int) (w : World) (h : BY w w.heap.size xs A cap) :
    Calls Tryd.prog 25 #[.slice A xs.length cap, .int .i64 I] w fun r w' => r = .returned (escV (readAt xs I)) ∧ Below w.heap.size w w' := by
  have hlen := h.len
  obtain ⟨N, hN⟩ : ∃ N, xs.length = N := ⟨_, rfl⟩
  rw [hN] at hlen ⊢
  by_cases h0 : I < 0
  · have d0 : decide (I < 0) = true := by simpa using h0
    rw [show readAt xs I = escNone by rw [readAt, if_pos h0]]
    clear h hN
    go_enter Tryd.func25, Tryd.ntmps25
    go_wp2_with fail
    refine bodyPost_ret (v := .agg #[.int .i64 0, .bool false, .bool false, .int .u8 0]) (by simp [results, Tryd.results25, go_sem]) rfl ⟨rfl, below_new w _⟩
  have d0 : decide (I < 0) = false := by simpa using h0
  obtain ⟨k, rfl⟩ := Int.eq_ofNat_of_zero_le (show 0 ≤ I by omega)
  rw [show readAt xs (k : Int) = readT (xs.drop k) by rw [readAt, if_neg h0, Int.toNat_natCast]]
  clear h0
  by_cases hlt : k < N
  case neg =>
    have d1 : decide ((N : Int) ≤ (k : Int)) = true := by simp; omega
    rw [List.drop_of_length_le (by omega)]
    clear h hN
    go_enter Tryd.func25, Tryd.ntmps25
    go_wp2_with fail
    refine bodyPost_ret (v := .agg #[.int .i64 0, .bool false, .bool false, .int .u8 0]) (by simp [results, Tryd.results25, go_sem]) rfl ⟨rfl, below_new w _⟩
  have d1 : decide ((N : Int) ≤ (k : Int)) = false := by simp; omega
  obtain ⟨x, hx⟩ := at_lt (l := xs) (k := k) (by rw [hN]; exact hlt)
  obtain ⟨b, o, rfl, hbl, hB⟩ := h.drop0 hx
  obtain ⟨b', o', e, _, e0⟩ := h.at hx
  obtain ⟨rfl, rfl⟩ : b = b' ∧ o = o' := by simpa using e
  have hcap := h.l
  have hmx := h.m
  unfold maxLen at hmx
  rw [hN] at hcap
  by_cases hc : x = 27
  case neg =>
    have d2 : ((x : Int) != 27) = true := by rw [bne_iff_ne]; omega
    rw [drop_at hx, readT_not _ hc]
    clear h hN hB hx hc e
    generalize (x : Int) = X at *
    go_enter Tryd.func25, Tryd.ntmps25
    go_wp2_with fail
    refine bodyPost_ret (v := .agg #[.int .i64 0, .bool false, .bool false, .int .u8 0]) (by simp [results, Tryd.results25, go_sem]) rfl ⟨rfl, below_new w _⟩
  subst hc
  have hl2 : (xs.drop k).length = N - k := by rw [List.length_drop, hN]
  have e0 : w.cell? ⟨b, o + k, none⟩ = some (.int .u8 27) := e0
  by_cases h1 : N - k = 1
  · obtain ⟨c, hc⟩ : ∃ c, xs.drop k = [c] := List.length_eq_one_iff.1 (by rw [hl2, h1])
    have hc2 := drop_at hx
    rw [hc] at hc2
    rw [hc, (List.cons.inj hc2).1]
    have i1 : ¬ (1 : Int) < ((N - k : Nat) : Int) := by omega
    have i2 : (((N - k : Nat) : Int) == 1) = true := by rw [h1]; rfl
    clear h hN hB hx e hl2 hc hc2 h1
    go_enter Tryd.func25, Tryd.ntmps25
    go_wp2_with fail
    refine bodyPost_ret (v := .agg #[.int .i64 1, .bool false, .bool true, .int .u8 0]) (by simp [results, Tryd.results25, go_sem]) rfl ⟨rfl, below_new w _⟩
  have i1 : (1 : Int) < ((N - k : Nat) : Int) := by omega
  have i2 : (((N - k : Nat) : Int) == 1) = false := by rw [beq_eq_false_iff_ne]; omega
  obtain ⟨d, hd⟩ := at_lt (l := xs) (k := k + 1) (by omega)
  have hdx : xs.drop k = 27 :: d :: xs.drop (k + 2) := by rw [drop_at hx, drop_at hd]
  have e1 : w.cell? ⟨b, o + k + 1, none⟩ = some (.int .u8 (d : Int)) := by
    obtain ⟨b', o', e', _, e1⟩ := hB.at (i := 1) (x := d) (by rw [hdx]; rfl)
    obtain ⟨rfl, rfl⟩ : b = b' ∧ o + k = o' := by simpa using e'
    exact e1
  have C := fun W (h : BY W W.heap.size (xs.drop k) (some ⟨b, o + k, none⟩) (cap - k)) => readControl_any (xs.drop k) (some ⟨b, o + k, none⟩) (cap - k) (by rw [hl2]; omega) W h
  rw [hl2] at C
  have BB := fun (o : Obj) => (hB.on (below_new w o))
  by_cases hd9 : d = 91
  · subst hd9
    have e1 : w.cell? ⟨b, o + k + 1, none⟩ = some (.int .u8 91) := e1
    have hrd : readT (xs.drop k) = readC ((xs.drop k).drop 2) := by rw [hdx]; rfl
    obtain ⟨⟨S, Wh, Op, La⟩, hR⟩ : ∃ R, readC ((xs.drop k).drop 2) = R := ⟨_, rfl⟩
    rw [hrd, hR]
    rw [hR] at C
    have HC := Lib.hid C
    have HBB := Lib.hid BB
    clear C BB h hN hB hx hd hdx hl2 h1 hR hrd
    go_enter Tryd.func25, Tryd.ntmps25
    go_wp2_with fail
    refine (HC.out _ (HBB.out _)).mono ?_
    rintro r w1 ⟨rfl, hb1⟩
    unfold escV
    dsimp only
    have hs1 := hb1.size
    rw [World.size_alloc] at hs1 hb1
    have x1 : Cells w1 w.heap.size 42 #[.int .i64 0, .bool false, .bool false, .int .u8 0] := (hb1.block _ (by omega)).trans (cells_new _ _ _)
    have q0 := x1.cell 0
    have q1 := x1.cell 1
    have q2 := x1.cell 2
    have q3 := x1.cell 3
    have f0 := x1.froz 0
    have f1 := x1.froz 1
    have f2 := x1.froz 2
    have f3 := x1.froz 3
    simp at q0 q1 q2 q3
    have hbw : Below w.heap.size w w1 := (below_new w _).trans (hb1.mono (by omega))
    have HBW := Lib.hid hbw
    clear hb1 x1 hbw
    go_wp2_with fail
    refine bodyPost_ret (v := .agg #[.int .i64 (S : Int), .bool Wh, .bool Op, .int .u8 (La : Int)]) ?_ rfl ⟨rfl, ?_⟩
    · simp [results, Tryd.results25, go_sem, q0, q1, q2, q3]
    · exact (((HBW.out.setCell (p := ⟨_, 0, none⟩) (Nat.le_refl _) _).setCell (p := ⟨_, 1, none⟩) (Nat.le_refl _) _).setCell (p := ⟨_, 2, none⟩) (Nat.le_refl _) _).setCell (p := ⟨_, 3, none⟩) (Nat.le_refl _) _
  · have d2 : ((d : Int) == 91) = false := by rw [beq_eq_false_iff_ne]; omega
    have hin := in_int (rfl : (64 : Int) = ((64 : Nat) : Int)) (rfl : (95 : Int) = ((95 : Nat) : Int)) (rfl : (d : Int) = d)
    obtain ⟨D, hD⟩ : ∃ D : Int, (d : Int) = D := ⟨_, rfl⟩
    rw [hD] at hin d2 e1
    have hr : readT (xs.drop k) = if inR 64 95 d = true then ⟨2, true, false, d⟩ else ⟨1, false, false, 0⟩ := by
      rw [hdx]
      simp only [readT, if_true, if_neg hd9]
    rw [hr]
    have HD := Lib.hid hD
    have HI := Lib.hid hin
    clear C BB h hN hB hx hd hdx hl2 h1 hr hD hin hd9
    by_cases c1 : 64 ≤ D
    · have d3 : decide (64 ≤ D) = true := by simpa using c1
      by_cases c2 : D ≤ 95
      · have d4 : decide (D ≤ 95) = true := by simpa using c2
        rw [if_pos (by rw [HI.out, d3, d4]; rfl)]
        clear c1 c2
        go_enter Tryd.func25, Tryd.ntmps25
        go_wp2_with fail
        refine bodyPost_ret (v := .agg #[.int .i64 2, .bool true, .bool false, .int .u8 D]) (by simp [results, Tryd.results25, go_sem]) rfl ⟨by rw [← HD.out]; rfl, below_new w _⟩
      · have d4 : decide (D ≤ 95) = false := by simpa using c2
        rw [if_neg (by rw [HI.out, d3, d4]; simp)]
        clear c1 c2
        go_enter Tryd.func25, Tryd.ntmps25
        go_wp2_with fail
        refine bodyPost_ret (v := .agg #[.int .i64 1, .bool false, .bool false, .int .u8 0]) (by simp [results, Tryd.results25, go_sem]) rfl ⟨rfl, below_new w _⟩
    · have d3 : decide (64 ≤ D) = false := by simpa using c1
      rw [if_neg (by rw [HI.out, d3]; simp)]
      clear c1
      go_enter Tryd.func25, Tryd.ntmps25
      go_wp2_with fail
      refine bodyPost_ret (v := .agg #[.int .i64 1, .bool false, .bool false, .int .u8 0]) (by simp [results, Tryd.results25, go_sem]) rfl ⟨rfl, below_new w _⟩
end Go.Proofs.YtpimadgcojgjaaaDoor
