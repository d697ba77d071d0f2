/-
  Contract: parser.value.
-/
import Derived.Test.YtplnkmojkdbbnaaNms
import Derived.Lib.SlBytesConst
namespace Go.Proofs.Ytplnkmojkdbbnaa
open Go.RowKit Go.Shelf Go.Lib Go.Maps Go.Sort

/-- The value that begins at n, and where it ends. -/
def qN (xs : List Nat) (n q : Nat) : Nat := tkN xs (n + 1 + rnN (eQ q) xs (n + 1)) q
def valL (xs : List Nat) (n : Nat) : List Nat := if tkB xs n 34 = true then runW (eQ 34) (xs.drop (n + 1)) else if tkB xs n 39 = true then runW (eQ 39) (xs.drop (n + 1)) else runW eVal (xs.drop n)
def valN (xs : List Nat) (n : Nat) : Nat := if tkB xs n 34 = true then qN xs n 34 else if tkB xs n 39 = true then qN xs n 39 else n + rnN eVal xs n
theorem tkB_drop {xs : List Nat} {n c : Nat} : tkB xs n c = ((xs.drop n).head? == some c) := by
  unfold tkB
  rw [List.head?_drop]
theorem tkN_drop (xs : List Nat) (n q : Nat) : xs.drop (tkN xs (n + rnN (eQ q) xs n) q) = (restW (eQ q) (xs.drop n)).drop 1 := by
  have h := rnN_drop (eQ q) xs n
  unfold tkN
  by_cases e : tkB xs (n + rnN (eQ q) xs n) q = true
  · rw [if_pos e, ← List.drop_drop, h]
  · rw [if_neg e, h]
    rw [tkB_drop, h] at e
    cases e2 : restW (eQ q) (xs.drop n) with
    | nil => rfl
    | cons c t =>
      have := restW_head e2
      have hc : c = q := by simpa [eQ] using this
      rw [e2, hc] at e
      simp at e
theorem valueR_at (xs : List Nat) (n : Nat) : valueR (xs.drop n) = (valL xs n, xs.drop (valN xs n)) := by
  unfold valL valN
  cases e : xs.drop n with
  | nil =>
    have h1 : tkB xs n 34 = false := by rw [tkB_drop, e]; rfl
    have h2 : tkB xs n 39 = false := by rw [tkB_drop, e]; rfl
    have hr : rnN eVal xs n = 0 := by unfold rnN; rw [e]; rfl
    rw [h1, h2, hr]
    simp only [Bool.false_eq_true, if_false, Nat.add_zero]
    rw [e]; rfl
  | cons c t =>
    have ht : t = xs.drop (n + 1) := by rw [← List.drop_drop, e]; rfl
    have hb : ∀ q, tkB xs n q = (c == q) := fun q => by rw [tkB_drop, e]; simp
    rw [hb, hb]
    unfold valueR
    by_cases h34 : c = 34
    · subst h34
      simp only [beq_self_eq_true, if_true, true_or]
      rw [ht, qN, tkN_drop]
    · by_cases h39 : c = 39
      · subst h39
        simp only [beq_self_eq_true, if_true, or_true, show (39 == 34) = false from rfl, Bool.false_eq_true, if_false]
        rw [ht, qN, tkN_drop]
      · simp only [beq_iff_eq, h34, h39, if_false, or_self]
        rw [rnN_drop, e]
/-- A block that is known but for what of it may be written. -/
def Cells' (W : World) (g t : Nat) (cs : Array Value) : Prop := ∃ fr, W.heap[g]? = some (.cells cs t fr)
theorem Cells'.cell {W : World} {g t : Nat} {cs : Array Value} (h : Cells' W g t cs) (i : Nat) : W.cell? ⟨g, i, none⟩ = cs[i]? := by
  obtain ⟨fr, h⟩ := h
  simp [World.cell?, show W.heap[g]? = _ from h]
theorem Cells'.lt {W : World} {g t : Nat} {cs : Array Value} (h : Cells' W g t cs) : g < W.heap.size := by
  obtain ⟨fr, h⟩ := h
  exact (Array.getElem?_eq_some_iff.1 h).1
theorem Cells'.on {W W' : World} {g t : Nat} {cs : Array Value} (h : Cells' W g t cs) (hb : Below W.heap.size W W') : Cells' W' g t cs := by
  have hl := h.lt
  obtain ⟨fr, h⟩ := h
  exact ⟨fr, (hb.block _ hl).trans h⟩
theorem Cells'.fz {X : Nat → Prop} {W W' : World} {g t : Nat} {cs : Array Value} (h : Cells' W g t cs) (hf : Fz X W W') (hn : ¬ X g) : Cells' W' g t cs := by
  have hl := h.lt
  obtain ⟨fr, h⟩ := h
  exact ⟨fr, (hf.block _ hl hn).trans h⟩
theorem Fz.ofDrew {X : Nat → Prop} {w w' : World} (h : Fz X w.drew w') : Fz X w w' := ⟨h.os, h.tape, h.output, h.size, h.block⟩
/-- What value answers. -/
def ValOk (w : World) (g b o cap n : Nat) (xs : List Nat) (k s nm ats sg cl : Value) (e : Ending) (w' : World) : Prop :=
  e = .returned (strV (valL xs n)) ∧ Fz (· = g) w w' ∧ PS w' g b o cap xs (valN xs n) k s nm ats sg cl
set_option maxHeartbeats 8000000 in
set_option maxRecDepth 100000 in
theorem value_any (g b o cap n : Nat) (xs : List Nat) (k s nm ats sg cl : Value) (w : World) (hp : PS w g b o cap xs n k s nm ats sg cl) :
    Calls Try.prog 44 #[.pointer (some ⟨g, 0, none⟩)] w (ValOk w g b o cap n xs k s nm ats sg cl) := by
  have CT := fun W (h : PS W g b o cap xs n k s nm ats sg cl) c => takeP_any W h c
  have hv34 : tkB xs n 34 = true → ∀ w', Fz (· = g) w w' → PS w' g b o cap xs (qN xs n 34) k s nm ats sg cl → ValOk w g b o cap n xs k s nm ats sg cl (.returned (strV (runW (eQ 34) (xs.drop (n + 1))))) w' := fun h w' h1 h2 => by
    refine ⟨?_, h1, ?_⟩
    · unfold valL; rw [if_pos h]
    · unfold valN; rw [if_pos h]; exact h2
  have hv39 : tkB xs n 34 = false → tkB xs n 39 = true → ∀ w', Fz (· = g) w w' → PS w' g b o cap xs (qN xs n 39) k s nm ats sg cl → ValOk w g b o cap n xs k s nm ats sg cl (.returned (strV (runW (eQ 39) (xs.drop (n + 1))))) w' := fun h0 h w' h1 h2 => by
    refine ⟨?_, h1, ?_⟩
    · unfold valL; rw [h0, if_pos h]; rfl
    · unfold valN; rw [h0, if_pos h]; exact h2
  have hvv : tkB xs n 34 = false → tkB xs n 39 = false → ∀ w', Fz (· = g) w w' → PS w' g b o cap xs (n + rnN eVal xs n) k s nm ats sg cl → ValOk w g b o cap n xs k s nm ats sg cl (.returned (strV (runW eVal (xs.drop n)))) w' := fun h0 h w' h1 h2 => by
    refine ⟨?_, h1, ?_⟩
    · unfold valL; rw [h0, h]; rfl
    · unfold valN; rw [h0, h]; exact h2
  obtain ⟨Q, hQ⟩ : ∃ Q, ValOk w g b o cap n xs k s nm ats sg cl = Q := ⟨_, rfl⟩
  rw [hQ] at hv34 hv39 hvv ⊢
  clear hQ
  have HH := Lib.hid (And.intro hv34 (And.intro hv39 (And.intro hvv (And.intro CT hp))))
  clear hv34 hv39 hvv CT
  have HG := Lib.hid hp.c.lt
  clear hp
  have v1 : (convert 22 22 (.slice (some ⟨w.heap.size, 0, none⟩) 2 2)).run Try.prog (w.alloc (.cells #[.int .u8 34, .int .u8 39] 5)) = .ok (.slice (some ⟨w.heap.size, 0, none⟩) 2 2) (w.alloc (.cells #[.int .u8 34, .int .u8 39] 5 (2, 3))) := Lib.run_convert_bytes_const w 22 5 _ 2 2 Try.underlying22 Try.underlying5
  obtain ⟨W0, hW0⟩ : ∃ W, w.alloc (.cells #[.int .u8 34, .int .u8 39] 5 (2, 3)) = W := ⟨_, rfl⟩
  rw [hW0] at v1
  have b0 : Below w.heap.size w W0 := by rw [← hW0]; exact below_new _ _
  have x0 : Cells' W0 w.heap.size 5 #[.int .u8 34, .int .u8 39] := ⟨_, by rw [← hW0]; exact heap_alloc_new w _⟩
  have hG := Lib.hid (And.intro b0 x0)
  clear b0 x0 hW0
  go_enter Try.func44, Try.ntmps44
  go_wp2_with fail
  go_loopw [4, 9] (fun _ i wr => ∃ j : Nat, i = .int .i64 (j : Int) ∧ j ≤ 2 ∧ (0 < j → tkB xs n 34 = false) ∧ (1 < j → tkB xs n 39 = false) ∧ Fz (· = g) w wr ∧ PS wr g b o cap xs n k s nm ats sg cl ∧ Cells' wr w.heap.size 5 #[.int .u8 34, .int .u8 39]) (fun _ i _ => 2 - (RowKit.intOf i).toNat)
  case atStart => exact ⟨0, by go_num, by omega, by omega, by omega, Fz.of_below hG.out.1, HH.out.2.2.2.2.on hG.out.1, hG.out.2⟩
  case round =>
    obtain ⟨j, rfl, hj, h34, h39, hfr, hpr, hq⟩ := hrel
    rcases (show j = 0 ∨ j = 1 ∨ j = 2 by omega) with rfl | rfl | rfl
    · -- 34
      have i1 : (0 : Int) < 2 := by decide
      have qk : wr.cell? ⟨w.heap.size, 0, none⟩ = some (.int .u8 34) := (Cells'.cell hq 0).trans rfl
      obtain ⟨W1, hW1⟩ : ∃ W, wr.alloc (.cells #[.int .u8 34] 5) = W := ⟨_, rfl⟩
      have b1 : Below wr.heap.size wr W1 := by rw [← hW1]; exact below_new _ _
      have x1 : Cells W1 wr.heap.size 5 #[.int .u8 34] := by rw [← hW1]; exact cells_new _ _ _
      obtain ⟨g1, hg1⟩ : ∃ g1, wr.heap.size = g1 := ⟨_, rfl⟩
      rw [hg1] at x1
      have p1 : PS W1 g b o cap xs n k s nm ats sg cl := hpr.on b1
      have f1 : Fz (· = g) w W1 := hfr.trans (Fz.of_below b1)
      have hq1 := hq.on b1
      have hne : ¬ g1 = g := fun e => by have := hpr.c.lt; omega
      have H1 := Lib.hid (And.intro hW1 (And.intro x1 (And.intro p1 (And.intro f1 (And.intro hq1 (And.intro hne hg1))))))
      have z1 := x1.cell 0
      simp at z1
      cases ht : tkB xs n 34 with
      | true =>
        have CT1 : ∀ W, PS W g b o cap xs n k s nm ats sg cl → Calls Try.prog 41 #[.pointer (some ⟨g, 0, none⟩), .int .u8 34] W fun e w' => e = .returned (.bool true) ∧ Fz (· = g) W w' ∧ PS w' g b o cap xs (n + 1) k s nm ats sg cl := fun W h => by
          have := HH.out.2.2.2.1 W h 34
          unfold tkN at this
          rw [ht] at this
          exact this
        have CT2 : ∀ W m, PS W g b o cap xs m k s nm ats sg cl → Calls Try.prog 41 #[.pointer (some ⟨g, 0, none⟩), .int .u8 34] W fun e w' => e = .returned (.bool (tkB xs m 34)) ∧ Fz (· = g) W w' ∧ PS w' g b o cap xs (tkN xs m 34) k s nm ats sg cl := fun W m h => takeP_any W h 34
        have hfin := HH.out.1 ht
        have HC := Lib.hid (And.intro CT1 (And.intro CT2 hfin))
        clear CT1 CT2 hfin ht x1 p1 f1 hq1 hne b1 hq hfr hpr h34 h39 hg1 hW1
        go_wp2_with fail
        go_region_with (first
          | (go_at_call 41; refine (HC.out.1 _ ?_).mono ?_; rw [H1.out.1]; exact H1.out.2.2.1.drew; rintro r w2 ⟨rfl, f2, p2⟩))
        rw [H1.out.1] at f2
        have f2 := f2.ofDrew
        have f12 : Fz (· = g) w w2 := H1.out.2.2.2.1.trans f2
        have x2 : Cells w2 g1 5 #[.int .u8 34] := f2.cells H1.out.2.2.2.2.2.1 H1.out.2.1
        have x2' : Cells w2 wr.heap.size 5 #[.int .u8 34] := by rw [H1.out.2.2.2.2.2.2]; exact x2
        have H2 := Lib.hid (And.intro f12 (And.intro x2 (And.intro p2 x2')))
        clear z1 f2 p2 x2 x2' f12
        go_wp2_with fail
        refine (untQ_any w2 H2.out.2.2.1 34 _ H2.out.2.2.2).mono ?_
        rintro r w3 ⟨A3, c3, rfl, hy3, f3, p3⟩
        have f13 : Fz (· = g) w w3 := H2.out.1.trans f3
        have x3 : Cells w3 wr.heap.size 5 #[.int .u8 34] := f3.cells (by rw [H1.out.2.2.2.2.2.2]; exact H1.out.2.2.2.2.2.1) H2.out.2.2.2
        have z3 := x3.cell 0
        simp at z3
        have H3 := Lib.hid (And.intro f13 (And.intro hy3 p3))
        clear f13 x3 f3 hy3 p3
        go_wp2_with fail
        go_region_with (first
          | (go_at_call 41; refine (HC.out.2.1 _ (n + 1 + rnN (eQ 34) xs (n + 1)) ?_).mono ?_; exact H3.out.2.2.drew; rintro r w4 ⟨rfl, f4, p4⟩))
        have f4 := f4.ofDrew
        have y4 := fzy (H3.out.2.1) f4 H3.out.2.2.c.lt
        have hcv : (convert 22 9 (.slice A3 (rnN (eQ 34) xs (n + 1)) c3)).run Try.prog w4 = .ok (.string ⟨(u8s (runW (eQ 34) (xs.drop (n + 1)))).toArray⟩) w4 := conv_by y4
        have H4 := Lib.hid (And.intro (H3.out.1.trans f4) p4)
        clear y4 f4 p4
        go_wp2_with fail
        exact HC.out.2.2 _ H4.out.1 H4.out.2
      | false =>
        have CT1 : ∀ W, PS W g b o cap xs n k s nm ats sg cl → Calls Try.prog 41 #[.pointer (some ⟨g, 0, none⟩), .int .u8 34] W fun e w' => e = .returned (.bool false) ∧ Fz (· = g) W w' ∧ PS w' g b o cap xs n k s nm ats sg cl := fun W h => by
          have := HH.out.2.2.2.1 W h 34
          unfold tkN at this
          rw [ht] at this
          exact this
        have HC := Lib.hid (And.intro CT1 (And.intro h34 (And.intro h39 ht)))
        clear CT1 ht x1 p1 f1 hq1 hne b1 hq hfr hpr h34 h39 hg1 hW1
        go_wp2_with fail
        go_region_with (first
          | (go_at_call 41; refine (HC.out.1 _ ?_).mono ?_; rw [H1.out.1]; exact H1.out.2.2.1.drew; rintro r w2 ⟨rfl, f2, p2⟩))
        rw [H1.out.1] at f2
        have f2 := f2.ofDrew
        have f12 : Fz (· = g) w w2 := H1.out.2.2.2.1.trans f2
        have q2 : Cells' w2 w.heap.size 5 #[.int .u8 34, .int .u8 39] := H1.out.2.2.2.2.1.fz f2 (fun e => by have := HG.out; omega)
        have H2 := Lib.hid (And.intro f12 (And.intro p2 q2))
        clear z1 f2 p2 f12 q2
        go_wp2_with fail
        go_roundw
        case rel => exact ⟨0 + 1, by go_num, by omega, fun _ => trivial, fun h => absurd h (by omega), H2.out.1, H2.out.2.1, H2.out.2.2⟩
        case measure => simp [RowKit.intOf]
    · -- 39
      have i1 : (1 : Int) < 2 := by decide
      have qk : wr.cell? ⟨w.heap.size, 1, none⟩ = some (.int .u8 39) := (Cells'.cell hq 1).trans rfl
      obtain ⟨W1, hW1⟩ : ∃ W, wr.alloc (.cells #[.int .u8 39] 5) = W := ⟨_, rfl⟩
      have b1 : Below wr.heap.size wr W1 := by rw [← hW1]; exact below_new _ _
      have x1 : Cells W1 wr.heap.size 5 #[.int .u8 39] := by rw [← hW1]; exact cells_new _ _ _
      obtain ⟨g1, hg1⟩ : ∃ g1, wr.heap.size = g1 := ⟨_, rfl⟩
      rw [hg1] at x1
      have p1 : PS W1 g b o cap xs n k s nm ats sg cl := hpr.on b1
      have f1 : Fz (· = g) w W1 := hfr.trans (Fz.of_below b1)
      have hq1 := hq.on b1
      have hne : ¬ g1 = g := fun e => by have := hpr.c.lt; omega
      have H1 := Lib.hid (And.intro hW1 (And.intro x1 (And.intro p1 (And.intro f1 (And.intro hq1 (And.intro hne hg1))))))
      have z1 := x1.cell 0
      simp at z1
      cases ht : tkB xs n 39 with
      | true =>
        have CT1 : ∀ W, PS W g b o cap xs n k s nm ats sg cl → Calls Try.prog 41 #[.pointer (some ⟨g, 0, none⟩), .int .u8 39] W fun e w' => e = .returned (.bool true) ∧ Fz (· = g) W w' ∧ PS w' g b o cap xs (n + 1) k s nm ats sg cl := fun W h => by
          have := HH.out.2.2.2.1 W h 39
          unfold tkN at this
          rw [ht] at this
          exact this
        have CT2 : ∀ W m, PS W g b o cap xs m k s nm ats sg cl → Calls Try.prog 41 #[.pointer (some ⟨g, 0, none⟩), .int .u8 39] W fun e w' => e = .returned (.bool (tkB xs m 39)) ∧ Fz (· = g) W w' ∧ PS w' g b o cap xs (tkN xs m 39) k s nm ats sg cl := fun W m h => takeP_any W h 39
        have hfin := HH.out.2.1 (h34 (by omega)) ht
        have HC := Lib.hid (And.intro CT1 (And.intro CT2 hfin))
        clear CT1 CT2 hfin ht x1 p1 f1 hq1 hne b1 hq hfr hpr h34 h39 hg1 hW1
        go_wp2_with fail
        go_region_with (first
          | (go_at_call 41; refine (HC.out.1 _ ?_).mono ?_; rw [H1.out.1]; exact H1.out.2.2.1.drew; rintro r w2 ⟨rfl, f2, p2⟩))
        rw [H1.out.1] at f2
        have f2 := f2.ofDrew
        have f12 : Fz (· = g) w w2 := H1.out.2.2.2.1.trans f2
        have x2 : Cells w2 g1 5 #[.int .u8 39] := f2.cells H1.out.2.2.2.2.2.1 H1.out.2.1
        have x2' : Cells w2 wr.heap.size 5 #[.int .u8 39] := by rw [H1.out.2.2.2.2.2.2]; exact x2
        have H2 := Lib.hid (And.intro f12 (And.intro x2 (And.intro p2 x2')))
        clear z1 f2 p2 x2 x2' f12
        go_wp2_with fail
        refine (untQ_any w2 H2.out.2.2.1 39 _ H2.out.2.2.2).mono ?_
        rintro r w3 ⟨A3, c3, rfl, hy3, f3, p3⟩
        have f13 : Fz (· = g) w w3 := H2.out.1.trans f3
        have x3 : Cells w3 wr.heap.size 5 #[.int .u8 39] := f3.cells (by rw [H1.out.2.2.2.2.2.2]; exact H1.out.2.2.2.2.2.1) H2.out.2.2.2
        have z3 := x3.cell 0
        simp at z3
        have H3 := Lib.hid (And.intro f13 (And.intro hy3 p3))
        clear f13 x3 f3 hy3 p3
        go_wp2_with fail
        go_region_with (first
          | (go_at_call 41; refine (HC.out.2.1 _ (n + 1 + rnN (eQ 39) xs (n + 1)) ?_).mono ?_; exact H3.out.2.2.drew; rintro r w4 ⟨rfl, f4, p4⟩))
        have f4 := f4.ofDrew
        have y4 := fzy (H3.out.2.1) f4 H3.out.2.2.c.lt
        have hcv : (convert 22 9 (.slice A3 (rnN (eQ 39) xs (n + 1)) c3)).run Try.prog w4 = .ok (.string ⟨(u8s (runW (eQ 39) (xs.drop (n + 1)))).toArray⟩) w4 := conv_by y4
        have H4 := Lib.hid (And.intro (H3.out.1.trans f4) p4)
        clear y4 f4 p4
        go_wp2_with fail
        exact HC.out.2.2 _ H4.out.1 H4.out.2
      | false =>
        have CT1 : ∀ W, PS W g b o cap xs n k s nm ats sg cl → Calls Try.prog 41 #[.pointer (some ⟨g, 0, none⟩), .int .u8 39] W fun e w' => e = .returned (.bool false) ∧ Fz (· = g) W w' ∧ PS w' g b o cap xs n k s nm ats sg cl := fun W h => by
          have := HH.out.2.2.2.1 W h 39
          unfold tkN at this
          rw [ht] at this
          exact this
        have HC := Lib.hid (And.intro CT1 (And.intro h34 (And.intro h39 ht)))
        clear CT1 ht x1 p1 f1 hq1 hne b1 hq hfr hpr h34 h39 hg1 hW1
        go_wp2_with fail
        go_region_with (first
          | (go_at_call 41; refine (HC.out.1 _ ?_).mono ?_; rw [H1.out.1]; exact H1.out.2.2.1.drew; rintro r w2 ⟨rfl, f2, p2⟩))
        rw [H1.out.1] at f2
        have f2 := f2.ofDrew
        have f12 : Fz (· = g) w w2 := H1.out.2.2.2.1.trans f2
        have q2 : Cells' w2 w.heap.size 5 #[.int .u8 34, .int .u8 39] := H1.out.2.2.2.2.1.fz f2 (fun e => by have := HG.out; omega)
        have H2 := Lib.hid (And.intro f12 (And.intro p2 q2))
        clear z1 f2 p2 f12 q2
        go_wp2_with fail
        go_roundw
        case rel => exact ⟨1 + 1, by go_num, by omega, fun _ => HC.out.2.1 (by omega), fun _ => trivial, H2.out.1, H2.out.2.1, H2.out.2.2⟩
        case measure => simp [RowKit.intOf]
    · have i1 : ¬ (2 : Int) < 2 := by decide
      have CM := fun W => mkO_any ⟨#[9, 10, 12, 13, 32, 62]⟩ W
      have CU := fun W gs (h : PS W g b o cap xs n k s nm ats sg cl) (hs : Cells W gs 9 #[strV [9, 10, 12, 13, 32, 62]]) => untO_any W h [9, 10, 12, 13, 32, 62] (by decide) eVal con_val gs hs
      have H1 := Lib.hid (And.intro CM (And.intro CU (And.intro (HH.out.2.2.1 (h34 (by omega)) (h39 (by omega))) (And.intro hfr hpr))))
      clear CM CU h34 h39 hfr hpr hq
      go_wp2_with fail
      go_region_with (first
        | (go_at_call 22; refine (H1.out.1 _).mono ?_; rintro r w1 ⟨gs, rfl, hx1, hb1⟩)
        | (go_at_call 39; refine (H1.out.2.1 _ _ ?_ ?_).mono ?_; exact H1.out.2.2.2.2.drew.on (by first | exact hb1 | exact hb1.drew); exact hx1; rintro r w2 ⟨A2, c2, rfl, hy2, f2, p2⟩; have hcv : (convert 22 9 (.slice A2 (rnN eVal xs n) c2)).run Try.prog w2 = .ok (.string ⟨(u8s (runW eVal (xs.drop n))).toArray⟩) w2 := conv_by hy2))
      have b1 : Below wr.heap.size wr w1 := by first | exact (Below.refl _ _).drew.trans hb1 | exact hb1
      have H2 := Lib.hid (And.intro (H1.out.2.2.2.1.trans ((Fz.of_below b1).trans f2)) p2)
      clear hx1 hb1 b1 f2 p2 hy2
      go_wp2_with fail
      go_ret
      exact H1.out.2.2.1 _ H2.out.1 H2.out.2
end Go.Proofs.Ytplnkmojkdbbnaa
