/-
  Contracts: position.until, for each of the three functions that are asked.
-/
import Derived.Test.YtplnkmojkdbbnaaPos
namespace Go.Proofs.Ytplnkmojkdbbnaa
open Go.RowKit Go.Shelf Go.Lib Go.Maps

/-- How far a run goes. -/
def rnN (p : Nat → Bool) (xs : List Nat) (n : Nat) : Nat := (runW p (xs.drop n)).length
theorem rnN_le (p : Nat → Bool) (xs : List Nat) (n : Nat) (h : n ≤ xs.length) : n + rnN p xs n ≤ xs.length := by
  have := runW_le p (xs.drop n)
  unfold rnN
  simp at this
  omega
theorem rnN_drop (p : Nat → Bool) (xs : List Nat) (n : Nat) : xs.drop (n + rnN p xs n) = restW p (xs.drop n) := by
  rw [restW_eq_drop, List.drop_drop]; rfl
/-- What a run is, in memory. -/
theorem BY.run {w : World} {B : Nat} {xs : List Nat} {b o cap n : Nat} (h : BY w B xs (some ⟨b, o, none⟩) cap) (hn : n ≤ xs.length) (p : Nat → Bool) : BY w B (runW p (xs.drop n)) (some ⟨b, o + n, none⟩) (cap - n) := by
  rw [runW_eq_take]
  exact (h.dropL hn).take _
/-- What until answers: a run, somewhere. -/
def UntOk (w : World) (g b o cap n : Nat) (p : Nat → Bool) (xs : List Nat) (k s nm ats sg cl : Value) (e : Ending) (w' : World) : Prop :=
  ∃ A c, e = .returned (.slice A (rnN p xs n) c) ∧ BY w' g (runW p (xs.drop n)) A c ∧ Fz (· = g) w w' ∧ Cells w' g 62 (PCs b o xs.length cap (n + rnN p xs n) k s nm ats sg cl)
theorem by_empty (w : World) (B : Nat) (a : Addr) {cap : Nat} (h : cap ≤ maxLen) : BY w B [] (some a) cap := ⟨Nat.zero_le _, h, (fun e => nomatch e), (fun _x hx => nomatch hx), fun hn => absurd rfl hn⟩
theorem Fz.size' {X : Nat → Prop} {w w' : World} (h : Fz X w w') {g : Nat} (hg : g < w.heap.size) : g < w'.heap.size := Nat.lt_of_lt_of_le hg h.size

theorem idxE35_any (c0 : Addr) (p : Nat → Bool) (a : Addr) (M cap : Nat) (w : World) (hM : M = 0) (hm : cap ≤ maxLen)
    (K : ∀ W, Below w.heap.size w W → ∀ c : Nat, c < 256 → Calls Try.prog 35 #[.int .u8 (c : Int), .pointer (some c0)] W fun e w' => e = .returned (.bool (p c)) ∧ Below W.heap.size W w') :
    Calls Try.prog 51 #[.slice (some a) M cap, .func (Fn.func 35) #[] #[.pointer (some c0)]] w fun e w' => e = .returned (.int .i64 (-1)) ∧ Below w.heap.size w w' := by
  subst hM
  exact idx35_any c0 p [] (some a) cap w (by_empty _ _ _ hm) K
set_option maxHeartbeats 4000000 in
set_option maxRecDepth 100000 in
theorem until35_any (g b o cap n : Nat) (c0 : Addr) (p : Nat → Bool) (xs : List Nat) (k s nm ats sg cl : Value) (w : World) (hc : Cells w g 62 (PCs b o xs.length cap n k s nm ats sg cl)) (hb : BY w g xs (some ⟨b, o, none⟩) cap) (hn : n ≤ xs.length)
    (K : ∀ W, Below w.heap.size w W → ∀ c : Nat, c < 256 → Calls Try.prog 35 #[.int .u8 (c : Int), .pointer (some c0)] W fun e w' => e = .returned (.bool (p c)) ∧ Below W.heap.size W w') :
    Calls Try.prog 39 #[.pointer (some ⟨g, 0, none⟩), .func (Fn.func 35) #[] #[.pointer (some c0)]] w (UntOk w g b o cap n p xs k s nm ats sg cl) := by
  have hlen := hb.len
  have hcap := hb.l
  have hmx := hb.m
  have hmx0 := hb.m
  unfold maxLen at hmx
  have q0 := hc.cell 0
  have q1 := hc.cell 1
  have hg := hc.lt
  simp [PCs] at q0 q1
  by_cases hlt : n < xs.length
  case neg =>
    obtain rfl : n = xs.length := by omega
    have hr0 : rnN p xs xs.length = 0 := by unfold rnN; simp [runW]
    have hend : ∀ (a : Addr) (c : Nat) (w' : World), c ≤ maxLen → Fz (· = g) w w' → Cells w' g 62 (PCs b o xs.length cap xs.length k s nm ats sg cl) → UntOk w g b o cap xs.length p xs k s nm ats sg cl (.returned (.slice (some a) 0 c)) w' := fun a c w' h1 h2 h3 => by
      refine ⟨some a, c, by rw [hr0], ?_, h2, by rw [hr0]; exact h3⟩
      rw [List.drop_length]
      exact by_empty _ _ _ h1
    have HK := Lib.hid (And.intro hc (And.intro hend K))
    clear hend hr0 hb hlt K hc
    generalize xs.length = N at *
    have e1 : IntKind.i64.wrap (N : Int) = (N : Int) := IntWalk.i64_in _ (by omega)
    have hz : N - N = 0 := by omega
    obtain ⟨Q, hQ⟩ : ∃ Q, UntOk w g b o cap N p xs k s nm ats sg cl = Q := ⟨_, rfl⟩
    rw [hQ] at HK ⊢
    clear hQ
    go_enter Try.func39, Try.ntmps39
    go_wp2_with go_quiet (fail)
    all_goals
      refine (idxE35_any c0 p _ _ _ _ (by omega) (by first | exact Nat.zero_le _ | (unfold maxLen; omega)) (fun W hW => HK.out.2.2 W ((below_drewN (Below.refl _ _) _).trans hW))).mono ?_
      rintro r w1 ⟨rfl, hb1⟩
      have x1 : Cells w1 g 62 _ := Cells.on (W := w.drewN _) HK.out.1 hb1
      have q1 := x1.cell 1
      have f1 := x1.froz 1
      simp [PCs] at q1
      have HF := Lib.hid (And.intro x1 (((Fz.refl (· = g) w).drewN _).trans (Fz.of_below hb1)))
      clear x1 hb1
      go_wp2_with fail
      refine HK.out.2.1 _ _ _ (by first | exact Nat.zero_le _ | (unfold maxLen; omega)) (HF.out.2.trans (Fz.set _ _ _ _ rfl)) ?_
      exact HF.out.1.set 1 _
  have C := fun m => idx35_any c0 p (xs.drop n) (some ⟨b, o + n, none⟩) (cap - n) (w.drewN m) (((hb.mono (Nat.le_of_lt hg)).dropL hn).on (below_drewN (Below.refl _ _) m)) (fun W hW => K W ((below_drewN (Below.refl _ _) m).trans hW))
  have hdl : (xs.drop n).length = xs.length - n := by simp
  rw [hdl] at C
  have hrun := idxL_run p (xs.drop n)
  have hle := rnN_le p xs n hn
  have hby : ∀ w', Fz (· = g) w w' → BY w' g (runW p (xs.drop n)) (some ⟨b, o + n, none⟩) (cap - n) := fun w' hf => (hb.run hn p).fz hf (Nat.le_of_lt hg) (fun k hk e => by omega)
  have hend : ∀ (w' : World), Fz (· = g) w w' → Cells w' g 62 (PCs b o xs.length cap (n + rnN p xs n) k s nm ats sg cl) → UntOk w g b o cap n p xs k s nm ats sg cl (.returned (.slice (some ⟨b, o + n, none⟩) (rnN p xs n) (cap - n))) w' := fun w' h2 h3 => ⟨_, _, rfl, hby w' h2, h2, h3⟩
  clear hby
  obtain ⟨R, hR⟩ : ∃ R, rnN p xs n = R := ⟨_, rfl⟩
  have hR' : (runW p (xs.drop n)).length = R := hR
  rw [hR] at hle hend
  rw [hR', hdl] at hrun
  have hall : runW p (xs.drop n) = xs.drop n → R = xs.length - n := fun e => by rw [← hR', e, hdl]
  have hC := hc
  obtain ⟨I, hI⟩ : ∃ I, idxL p (xs.drop n) = I := ⟨_, rfl⟩
  rw [hI] at C hrun
  obtain ⟨Q, hQ⟩ : ∃ Q, UntOk w g b o cap n p xs k s nm ats sg cl = Q := ⟨_, rfl⟩
  rw [hQ] at hend ⊢
  clear hdl hR hR' hI hb K hc hQ
  generalize xs.length = N at *
  have HK := Lib.hid (And.intro hC (And.intro C hend))
  clear hC C hend
  have e1 : IntKind.i64.wrap ((n : Int) + (R : Int)) = (n : Int) + (R : Int) := IntWalk.i64_in _ (by omega)
  rcases hrun with ⟨rfl, h2⟩ | ⟨rfl, h2⟩
  · obtain rfl := hall h2
    have HX := Lib.hid e1
    clear hall h2 e1
    go_enter Try.func39, Try.ntmps39
    go_wp2_with go_quiet (fail)
    refine (HK.out.2.1 _).mono ?_
    rintro r w1 ⟨rfl, hb1⟩
    have x1 : Cells w1 g 62 _ := Cells.on (W := w.drewN _) HK.out.1 hb1
    have q1 := x1.cell 1
    have f1 := x1.froz 1
    simp [PCs] at q1
    have HF := Lib.hid (And.intro x1 (((Fz.refl (· = g) w).drewN _).trans (Fz.of_below hb1)))
    clear x1 hb1
    go_wp2_with fail
    refine HK.out.2.2 _ (HF.out.2.trans (Fz.set _ _ _ _ rfl)) ?_
    exact HF.out.1.set 1 _
  · have HX := Lib.hid (And.intro hall e1)
    have i0 : (R : Int) ≤ ((N - n : Nat) : Int) := by omega
    clear hall e1
    go_enter Try.func39, Try.ntmps39
    go_wp2_with go_quiet (fail)
    refine (HK.out.2.1 _).mono ?_
    rintro r w1 ⟨rfl, hb1⟩
    have x1 : Cells w1 g 62 _ := Cells.on (W := w.drewN _) HK.out.1 hb1
    have q1 := x1.cell 1
    have f1 := x1.froz 1
    simp [PCs] at q1
    have HF := Lib.hid (And.intro x1 (((Fz.refl (· = g) w).drewN _).trans (Fz.of_below hb1)))
    clear x1 hb1
    go_wp2_with fail
    refine HK.out.2.2 _ (HF.out.2.trans (Fz.set _ _ _ _ rfl)) ?_
    exact HF.out.1.set 1 _

theorem idxE52_any (c0 : Addr) (p : Nat → Bool) (a : Addr) (M cap : Nat) (w : World) (hM : M = 0) (hm : cap ≤ maxLen)
    (K : ∀ W, Below w.heap.size w W → ∀ c : Nat, c < 256 → Calls Try.prog 52 #[.int .u8 (c : Int), .pointer (some c0)] W fun e w' => e = .returned (.bool (p c)) ∧ Below W.heap.size W w') :
    Calls Try.prog 51 #[.slice (some a) M cap, .func (Fn.func 52) #[] #[.pointer (some c0)]] w fun e w' => e = .returned (.int .i64 (-1)) ∧ Below w.heap.size w w' := by
  subst hM
  exact idx52_any c0 p [] (some a) cap w (by_empty _ _ _ hm) K
set_option maxHeartbeats 4000000 in
set_option maxRecDepth 100000 in
theorem until52_any (g b o cap n : Nat) (c0 : Addr) (p : Nat → Bool) (xs : List Nat) (k s nm ats sg cl : Value) (w : World) (hc : Cells w g 62 (PCs b o xs.length cap n k s nm ats sg cl)) (hb : BY w g xs (some ⟨b, o, none⟩) cap) (hn : n ≤ xs.length)
    (K : ∀ W, Below w.heap.size w W → ∀ c : Nat, c < 256 → Calls Try.prog 52 #[.int .u8 (c : Int), .pointer (some c0)] W fun e w' => e = .returned (.bool (p c)) ∧ Below W.heap.size W w') :
    Calls Try.prog 39 #[.pointer (some ⟨g, 0, none⟩), .func (Fn.func 52) #[] #[.pointer (some c0)]] w (UntOk w g b o cap n p xs k s nm ats sg cl) := by
  have hlen := hb.len
  have hcap := hb.l
  have hmx := hb.m
  have hmx0 := hb.m
  unfold maxLen at hmx
  have q0 := hc.cell 0
  have q1 := hc.cell 1
  have hg := hc.lt
  simp [PCs] at q0 q1
  by_cases hlt : n < xs.length
  case neg =>
    obtain rfl : n = xs.length := by omega
    have hr0 : rnN p xs xs.length = 0 := by unfold rnN; simp [runW]
    have hend : ∀ (a : Addr) (c : Nat) (w' : World), c ≤ maxLen → Fz (· = g) w w' → Cells w' g 62 (PCs b o xs.length cap xs.length k s nm ats sg cl) → UntOk w g b o cap xs.length p xs k s nm ats sg cl (.returned (.slice (some a) 0 c)) w' := fun a c w' h1 h2 h3 => by
      refine ⟨some a, c, by rw [hr0], ?_, h2, by rw [hr0]; exact h3⟩
      rw [List.drop_length]
      exact by_empty _ _ _ h1
    have HK := Lib.hid (And.intro hc (And.intro hend K))
    clear hend hr0 hb hlt K hc
    generalize xs.length = N at *
    have e1 : IntKind.i64.wrap (N : Int) = (N : Int) := IntWalk.i64_in _ (by omega)
    have hz : N - N = 0 := by omega
    obtain ⟨Q, hQ⟩ : ∃ Q, UntOk w g b o cap N p xs k s nm ats sg cl = Q := ⟨_, rfl⟩
    rw [hQ] at HK ⊢
    clear hQ
    go_enter Try.func39, Try.ntmps39
    go_wp2_with go_quiet (fail)
    all_goals
      refine (idxE52_any c0 p _ _ _ _ (by omega) (by first | exact Nat.zero_le _ | (unfold maxLen; omega)) (fun W hW => HK.out.2.2 W ((below_drewN (Below.refl _ _) _).trans hW))).mono ?_
      rintro r w1 ⟨rfl, hb1⟩
      have x1 : Cells w1 g 62 _ := Cells.on (W := w.drewN _) HK.out.1 hb1
      have q1 := x1.cell 1
      have f1 := x1.froz 1
      simp [PCs] at q1
      have HF := Lib.hid (And.intro x1 (((Fz.refl (· = g) w).drewN _).trans (Fz.of_below hb1)))
      clear x1 hb1
      go_wp2_with fail
      refine HK.out.2.1 _ _ _ (by first | exact Nat.zero_le _ | (unfold maxLen; omega)) (HF.out.2.trans (Fz.set _ _ _ _ rfl)) ?_
      exact HF.out.1.set 1 _
  have C := fun m => idx52_any c0 p (xs.drop n) (some ⟨b, o + n, none⟩) (cap - n) (w.drewN m) (((hb.mono (Nat.le_of_lt hg)).dropL hn).on (below_drewN (Below.refl _ _) m)) (fun W hW => K W ((below_drewN (Below.refl _ _) m).trans hW))
  have hdl : (xs.drop n).length = xs.length - n := by simp
  rw [hdl] at C
  have hrun := idxL_run p (xs.drop n)
  have hle := rnN_le p xs n hn
  have hby : ∀ w', Fz (· = g) w w' → BY w' g (runW p (xs.drop n)) (some ⟨b, o + n, none⟩) (cap - n) := fun w' hf => (hb.run hn p).fz hf (Nat.le_of_lt hg) (fun k hk e => by omega)
  have hend : ∀ (w' : World), Fz (· = g) w w' → Cells w' g 62 (PCs b o xs.length cap (n + rnN p xs n) k s nm ats sg cl) → UntOk w g b o cap n p xs k s nm ats sg cl (.returned (.slice (some ⟨b, o + n, none⟩) (rnN p xs n) (cap - n))) w' := fun w' h2 h3 => ⟨_, _, rfl, hby w' h2, h2, h3⟩
  clear hby
  obtain ⟨R, hR⟩ : ∃ R, rnN p xs n = R := ⟨_, rfl⟩
  have hR' : (runW p (xs.drop n)).length = R := hR
  rw [hR] at hle hend
  rw [hR', hdl] at hrun
  have hall : runW p (xs.drop n) = xs.drop n → R = xs.length - n := fun e => by rw [← hR', e, hdl]
  have hC := hc
  obtain ⟨I, hI⟩ : ∃ I, idxL p (xs.drop n) = I := ⟨_, rfl⟩
  rw [hI] at C hrun
  obtain ⟨Q, hQ⟩ : ∃ Q, UntOk w g b o cap n p xs k s nm ats sg cl = Q := ⟨_, rfl⟩
  rw [hQ] at hend ⊢
  clear hdl hR hR' hI hb K hc hQ
  generalize xs.length = N at *
  have HK := Lib.hid (And.intro hC (And.intro C hend))
  clear hC C hend
  have e1 : IntKind.i64.wrap ((n : Int) + (R : Int)) = (n : Int) + (R : Int) := IntWalk.i64_in _ (by omega)
  rcases hrun with ⟨rfl, h2⟩ | ⟨rfl, h2⟩
  · obtain rfl := hall h2
    have HX := Lib.hid e1
    clear hall h2 e1
    go_enter Try.func39, Try.ntmps39
    go_wp2_with go_quiet (fail)
    refine (HK.out.2.1 _).mono ?_
    rintro r w1 ⟨rfl, hb1⟩
    have x1 : Cells w1 g 62 _ := Cells.on (W := w.drewN _) HK.out.1 hb1
    have q1 := x1.cell 1
    have f1 := x1.froz 1
    simp [PCs] at q1
    have HF := Lib.hid (And.intro x1 (((Fz.refl (· = g) w).drewN _).trans (Fz.of_below hb1)))
    clear x1 hb1
    go_wp2_with fail
    refine HK.out.2.2 _ (HF.out.2.trans (Fz.set _ _ _ _ rfl)) ?_
    exact HF.out.1.set 1 _
  · have HX := Lib.hid (And.intro hall e1)
    have i0 : (R : Int) ≤ ((N - n : Nat) : Int) := by omega
    clear hall e1
    go_enter Try.func39, Try.ntmps39
    go_wp2_with go_quiet (fail)
    refine (HK.out.2.1 _).mono ?_
    rintro r w1 ⟨rfl, hb1⟩
    have x1 : Cells w1 g 62 _ := Cells.on (W := w.drewN _) HK.out.1 hb1
    have q1 := x1.cell 1
    have f1 := x1.froz 1
    simp [PCs] at q1
    have HF := Lib.hid (And.intro x1 (((Fz.refl (· = g) w).drewN _).trans (Fz.of_below hb1)))
    clear x1 hb1
    go_wp2_with fail
    refine HK.out.2.2 _ (HF.out.2.trans (Fz.set _ _ _ _ rfl)) ?_
    exact HF.out.1.set 1 _

theorem idxE53_any (c0 : Addr) (p : Nat → Bool) (a : Addr) (M cap : Nat) (w : World) (hM : M = 0) (hm : cap ≤ maxLen)
    (K : ∀ W, Below w.heap.size w W → ∀ c : Nat, c < 256 → Calls Try.prog 53 #[.int .u8 (c : Int), .pointer (some c0)] W fun e w' => e = .returned (.bool (p c)) ∧ Below W.heap.size W w') :
    Calls Try.prog 51 #[.slice (some a) M cap, .func (Fn.func 53) #[] #[.pointer (some c0)]] w fun e w' => e = .returned (.int .i64 (-1)) ∧ Below w.heap.size w w' := by
  subst hM
  exact idx53_any c0 p [] (some a) cap w (by_empty _ _ _ hm) K
set_option maxHeartbeats 4000000 in
set_option maxRecDepth 100000 in
theorem until53_any (g b o cap n : Nat) (c0 : Addr) (p : Nat → Bool) (xs : List Nat) (k s nm ats sg cl : Value) (w : World) (hc : Cells w g 62 (PCs b o xs.length cap n k s nm ats sg cl)) (hb : BY w g xs (some ⟨b, o, none⟩) cap) (hn : n ≤ xs.length)
    (K : ∀ W, Below w.heap.size w W → ∀ c : Nat, c < 256 → Calls Try.prog 53 #[.int .u8 (c : Int), .pointer (some c0)] W fun e w' => e = .returned (.bool (p c)) ∧ Below W.heap.size W w') :
    Calls Try.prog 39 #[.pointer (some ⟨g, 0, none⟩), .func (Fn.func 53) #[] #[.pointer (some c0)]] w (UntOk w g b o cap n p xs k s nm ats sg cl) := by
  have hlen := hb.len
  have hcap := hb.l
  have hmx := hb.m
  have hmx0 := hb.m
  unfold maxLen at hmx
  have q0 := hc.cell 0
  have q1 := hc.cell 1
  have hg := hc.lt
  simp [PCs] at q0 q1
  by_cases hlt : n < xs.length
  case neg =>
    obtain rfl : n = xs.length := by omega
    have hr0 : rnN p xs xs.length = 0 := by unfold rnN; simp [runW]
    have hend : ∀ (a : Addr) (c : Nat) (w' : World), c ≤ maxLen → Fz (· = g) w w' → Cells w' g 62 (PCs b o xs.length cap xs.length k s nm ats sg cl) → UntOk w g b o cap xs.length p xs k s nm ats sg cl (.returned (.slice (some a) 0 c)) w' := fun a c w' h1 h2 h3 => by
      refine ⟨some a, c, by rw [hr0], ?_, h2, by rw [hr0]; exact h3⟩
      rw [List.drop_length]
      exact by_empty _ _ _ h1
    have HK := Lib.hid (And.intro hc (And.intro hend K))
    clear hend hr0 hb hlt K hc
    generalize xs.length = N at *
    have e1 : IntKind.i64.wrap (N : Int) = (N : Int) := IntWalk.i64_in _ (by omega)
    have hz : N - N = 0 := by omega
    obtain ⟨Q, hQ⟩ : ∃ Q, UntOk w g b o cap N p xs k s nm ats sg cl = Q := ⟨_, rfl⟩
    rw [hQ] at HK ⊢
    clear hQ
    go_enter Try.func39, Try.ntmps39
    go_wp2_with go_quiet (fail)
    all_goals
      refine (idxE53_any c0 p _ _ _ _ (by omega) (by first | exact Nat.zero_le _ | (unfold maxLen; omega)) (fun W hW => HK.out.2.2 W ((below_drewN (Below.refl _ _) _).trans hW))).mono ?_
      rintro r w1 ⟨rfl, hb1⟩
      have x1 : Cells w1 g 62 _ := Cells.on (W := w.drewN _) HK.out.1 hb1
      have q1 := x1.cell 1
      have f1 := x1.froz 1
      simp [PCs] at q1
      have HF := Lib.hid (And.intro x1 (((Fz.refl (· = g) w).drewN _).trans (Fz.of_below hb1)))
      clear x1 hb1
      go_wp2_with fail
      refine HK.out.2.1 _ _ _ (by first | exact Nat.zero_le _ | (unfold maxLen; omega)) (HF.out.2.trans (Fz.set _ _ _ _ rfl)) ?_
      exact HF.out.1.set 1 _
  have C := fun m => idx53_any c0 p (xs.drop n) (some ⟨b, o + n, none⟩) (cap - n) (w.drewN m) (((hb.mono (Nat.le_of_lt hg)).dropL hn).on (below_drewN (Below.refl _ _) m)) (fun W hW => K W ((below_drewN (Below.refl _ _) m).trans hW))
  have hdl : (xs.drop n).length = xs.length - n := by simp
  rw [hdl] at C
  have hrun := idxL_run p (xs.drop n)
  have hle := rnN_le p xs n hn
  have hby : ∀ w', Fz (· = g) w w' → BY w' g (runW p (xs.drop n)) (some ⟨b, o + n, none⟩) (cap - n) := fun w' hf => (hb.run hn p).fz hf (Nat.le_of_lt hg) (fun k hk e => by omega)
  have hend : ∀ (w' : World), Fz (· = g) w w' → Cells w' g 62 (PCs b o xs.length cap (n + rnN p xs n) k s nm ats sg cl) → UntOk w g b o cap n p xs k s nm ats sg cl (.returned (.slice (some ⟨b, o + n, none⟩) (rnN p xs n) (cap - n))) w' := fun w' h2 h3 => ⟨_, _, rfl, hby w' h2, h2, h3⟩
  clear hby
  obtain ⟨R, hR⟩ : ∃ R, rnN p xs n = R := ⟨_, rfl⟩
  have hR' : (runW p (xs.drop n)).length = R := hR
  rw [hR] at hle hend
  rw [hR', hdl] at hrun
  have hall : runW p (xs.drop n) = xs.drop n → R = xs.length - n := fun e => by rw [← hR', e, hdl]
  have hC := hc
  obtain ⟨I, hI⟩ : ∃ I, idxL p (xs.drop n) = I := ⟨_, rfl⟩
  rw [hI] at C hrun
  obtain ⟨Q, hQ⟩ : ∃ Q, UntOk w g b o cap n p xs k s nm ats sg cl = Q := ⟨_, rfl⟩
  rw [hQ] at hend ⊢
  clear hdl hR hR' hI hb K hc hQ
  generalize xs.length = N at *
  have HK := Lib.hid (And.intro hC (And.intro C hend))
  clear hC C hend
  have e1 : IntKind.i64.wrap ((n : Int) + (R : Int)) = (n : Int) + (R : Int) := IntWalk.i64_in _ (by omega)
  rcases hrun with ⟨rfl, h2⟩ | ⟨rfl, h2⟩
  · obtain rfl := hall h2
    have HX := Lib.hid e1
    clear hall h2 e1
    go_enter Try.func39, Try.ntmps39
    go_wp2_with go_quiet (fail)
    refine (HK.out.2.1 _).mono ?_
    rintro r w1 ⟨rfl, hb1⟩
    have x1 : Cells w1 g 62 _ := Cells.on (W := w.drewN _) HK.out.1 hb1
    have q1 := x1.cell 1
    have f1 := x1.froz 1
    simp [PCs] at q1
    have HF := Lib.hid (And.intro x1 (((Fz.refl (· = g) w).drewN _).trans (Fz.of_below hb1)))
    clear x1 hb1
    go_wp2_with fail
    refine HK.out.2.2 _ (HF.out.2.trans (Fz.set _ _ _ _ rfl)) ?_
    exact HF.out.1.set 1 _
  · have HX := Lib.hid (And.intro hall e1)
    have i0 : (R : Int) ≤ ((N - n : Nat) : Int) := by omega
    clear hall e1
    go_enter Try.func39, Try.ntmps39
    go_wp2_with go_quiet (fail)
    refine (HK.out.2.1 _).mono ?_
    rintro r w1 ⟨rfl, hb1⟩
    have x1 : Cells w1 g 62 _ := Cells.on (W := w.drewN _) HK.out.1 hb1
    have q1 := x1.cell 1
    have f1 := x1.froz 1
    simp [PCs] at q1
    have HF := Lib.hid (And.intro x1 (((Fz.refl (· = g) w).drewN _).trans (Fz.of_below hb1)))
    clear x1 hb1
    go_wp2_with fail
    refine HK.out.2.2 _ (HF.out.2.trans (Fz.set _ _ _ _ rfl)) ?_
    exact HF.out.1.set 1 _
end Go.Proofs.Ytplnkmojkdbbnaa
