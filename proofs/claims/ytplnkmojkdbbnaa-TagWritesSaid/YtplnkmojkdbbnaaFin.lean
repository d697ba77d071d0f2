/-
  Contracts: bytes.HasSuffix, HasPrefix of bytes; parser.finish.
-/
import Derived.Test.YtplnkmojkdbbnaaVal
namespace Go.Proofs.Ytplnkmojkdbbnaa
open Go.RowKit Go.Shelf Go.Lib Go.Maps Go.Sort

theorem bytesOf_cast (l : List Nat) : Lib.bytesOf (l.map fun (x : Nat) => (x : Int)) = u8s l := by
  simp [Lib.bytesOf, u8s]
theorem BY.bin {w : World} {B : Nat} {xs : List Nat} {A : Option Addr} {cap : Nat} (h : BY w B xs A cap) : Lib.BytesIn w A xs.length (xs.map fun (x : Nat) => (x : Int)) := by
  cases xs with
  | nil => exact Lib.BytesIn.nil _ _ _
  | cons c t =>
    obtain ⟨b, o, rfl, _, hr⟩ := h.r (by simp)
    refine Lib.BytesIn.of_cells (fun i hi => ?_)
    obtain ⟨x, hx⟩ := at_lt hi
    have ea : (Addr.mk b o none).add i = ⟨b, o + i, none⟩ := by
      unfold Addr.add
      by_cases h0 : i = 0 <;> simp [h0]
    rw [ea, hr i x hx]
    have : (List.map (fun (x : Nat) => (x : Int)) (c :: t)).getD i 0 = (x : Int) := by
      rw [List.getD_eq_getElem?_getD, List.getElem?_map, hx]; rfl
    rw [this]
theorem suffix_one (l : List Nat) (hl : ∀ x ∈ l, x < 256) : Lib.hasSuffix (u8s l) (u8s [47]) = (l.getLast? == some 47) := by
  rw [Lib.hasSuffix, Bool.eq_iff_iff, List.isSuffixOf_iff_suffix]
  constructor
  · rintro ⟨t, ht⟩
    have e : l = nats t ++ [47] := by
      have := congrArg nats ht
      rw [nats_u8s l hl] at this
      rw [← this]
      simp [nats, u8s]
    rw [e]
    simp
  · intro h
    have h : l.getLast? = some 47 := by simpa using h
    obtain ⟨t, ht⟩ := List.getLast?_eq_some_iff.1 h
    subst ht
    exact ⟨u8s t, by simp [u8s]⟩
theorem hasSuf_any (w : World) (l : List Nat) (A A2 : Option Addr) (cap c2 B B2 : Nat) (h : BY w B l A cap) (h2 : BY w B2 [47] A2 c2) :
    Calls Try.prog 42 #[.slice A l.length cap, .slice A2 1 c2] w fun e w' => e = .returned (.bool (l.getLast? == some 47)) ∧ w' = w := by
  have C := Try.bytes_HasSuffix_all A A2 l.length cap 1 c2 _ _ w (by simp) (by simp) h.l (by have := h.len; omega) h.bin h2.bin
  rw [bytesOf_cast, bytesOf_cast, suffix_one l h.i] at C
  exact C
theorem PS.set {w : World} {g b o cap : Nat} {xs : List Nat} {n : Nat} {k s nm ats sg cl k' s' nm' ats' sg' cl' : Value} (h : PS w g b o cap xs n k s nm ats sg cl) (i : Nat) (v : Value)
    (hi : (PCs b o xs.length cap n k s nm ats sg cl).setIfInBounds i v = PCs b o xs.length cap n k' s' nm' ats' sg' cl') : PS (w.setCell ⟨g, i, none⟩ v) g b o cap xs n k' s' nm' ats' sg' cl' :=
  ⟨by rw [← hi]; exact h.c.set i v, fzy h.y (Fz.set _ _ _ _ rfl) h.c.lt, h.n⟩
/-- What finish answers. -/
def FinYes (w : World) (g b o cap n : Nat) (xs : List Nat) (k s nm ats : Value) (e : Ending) (w' : World) : Prop :=
  e = .returned (.bool true) ∧ Fz (· = g) w w' ∧ PS w' g b o cap xs (n + rnN eSep xs n + 1) k s nm ats (.bool ((runW eSep (xs.drop n)).getLast? == some 47)) (.bool true)
def FinNo (w : World) (g b o cap n : Nat) (xs : List Nat) (k s nm ats sg cl : Value) (e : Ending) (w' : World) : Prop :=
  e = .returned (.bool (((n + rnN eSep xs n : Nat) : Int) == (xs.length : Int))) ∧ Fz (· = g) w w' ∧ PS w' g b o cap xs (n + rnN eSep xs n) k s nm ats sg cl
set_option maxHeartbeats 8000000 in
set_option maxRecDepth 100000 in
theorem finNo_any (g b o cap n : Nat) (xs : List Nat) (k s nm ats sg cl : Value) (w : World) (hp : PS w g b o cap xs n k s nm ats sg cl) (ht : tkB xs (n + rnN eSep xs n) 62 = false) :
    Calls Try.prog 31 #[.pointer (some ⟨g, 0, none⟩)] w (FinNo w g b o cap n xs k s nm ats sg cl) := by
  have CM := fun W => mkN_any ⟨#[9, 10, 12, 13, 32, 47]⟩ W
  have CU := fun W gs (h : PS W g b o cap xs n k s nm ats sg cl) (hs : Cells W gs 9 #[strV [9, 10, 12, 13, 32, 47]]) => untN_any W h [9, 10, 12, 13, 32, 47] (by decide) eSep con_sep gs hs
  have CT : ∀ W, PS W g b o cap xs (n + rnN eSep xs n) k s nm ats sg cl → Calls Try.prog 41 #[.pointer (some ⟨g, 0, none⟩), .int .u8 62] W fun e w' => e = .returned (.bool false) ∧ Fz (· = g) W w' ∧ PS w' g b o cap xs (n + rnN eSep xs n) k s nm ats sg cl := fun W h => by
    have := takeP_any W h 62
    unfold tkN at this
    rw [ht] at this
    exact this
  have CD := fun W (h : PS W g b o cap xs (n + rnN eSep xs n) k s nm ats sg cl) => isDone_any g b o xs.length cap (n + rnN eSep xs n) k s nm ats sg cl W h.c
  have hok : ∀ w', Fz (· = g) w w' → PS w' g b o cap xs (n + rnN eSep xs n) k s nm ats sg cl → FinNo w g b o cap n xs k s nm ats sg cl (.returned (.bool (((n + rnN eSep xs n : Nat) : Int) == (xs.length : Int)))) w' := fun w' h1 h2 => ⟨rfl, h1, h2⟩
  obtain ⟨Q, hQ⟩ : ∃ Q, FinNo w g b o cap n xs k s nm ats sg cl = Q := ⟨_, rfl⟩
  rw [hQ] at hok ⊢
  obtain ⟨DN, hDN⟩ : ∃ b : Bool, (((n + rnN eSep xs n : Nat) : Int) == (xs.length : Int)) = b := ⟨_, rfl⟩
  rw [hDN] at hok
  simp only [hDN] at CD
  have HH := Lib.hid (And.intro CM (And.intro CU (And.intro CT (And.intro CD (And.intro hok hp)))))
  clear CM CU CT CD hok hp ht hQ hDN
  go_enter Try.func31, Try.ntmps31
  go_wp2_with fail
  go_region_with (first
    | (go_at_call 40; refine (HH.out.1 _).mono ?_; rintro r w1 ⟨gs, rfl, hx1, hb1⟩)
    | (go_at_call 39; refine (HH.out.2.1 _ _ ?_ ?_).mono ?_; exact HH.out.2.2.2.2.2.drew.on (by first | exact hb1 | exact hb1.drew); exact hx1; rintro r w2 ⟨A2, c2, rfl, hy2, f2, p2⟩))
  have b1 : Below w.heap.size w w1 := by first | exact (Below.refl _ _).drew.trans hb1 | exact hb1
  have H2 := Lib.hid (And.intro ((Fz.of_below (X := (· = g)) b1).trans f2) p2)
  clear hx1 hb1 b1 f2 p2 hy2
  go_wp2_with fail
  refine (HH.out.2.2.1 _ H2.out.2).mono ?_
  rintro r w3 ⟨rfl, f3, p3⟩
  have H3 := Lib.hid (And.intro (H2.out.1.trans f3) p3)
  clear f3 p3
  go_wp2_with fail
  refine (HH.out.2.2.2.1 _ H3.out.2).mono ?_
  rintro r w4 ⟨rfl, m, e⟩
  obtain rfl := e.symm
  go_wp2_with fail
  exact HH.out.2.2.2.2.1 _ (H3.out.1.drewN m) (H3.out.2.on (below_drewN (Below.refl _ _) m))
set_option maxHeartbeats 8000000 in
set_option maxRecDepth 100000 in
theorem finYes_any (g b o cap n : Nat) (xs : List Nat) (k s nm ats sg cl : Value) (w : World) (hp : PS w g b o cap xs n k s nm ats sg cl) (ht : tkB xs (n + rnN eSep xs n) 62 = true) :
    Calls Try.prog 31 #[.pointer (some ⟨g, 0, none⟩)] w (FinYes w g b o cap n xs k s nm ats) := by
  have CM := fun W => mkN_any ⟨#[9, 10, 12, 13, 32, 47]⟩ W
  have CU := fun W gs (h : PS W g b o cap xs n k s nm ats sg cl) (hs : Cells W gs 9 #[strV [9, 10, 12, 13, 32, 47]]) => untN_any W h [9, 10, 12, 13, 32, 47] (by decide) eSep con_sep gs hs
  have CT : ∀ W, PS W g b o cap xs (n + rnN eSep xs n) k s nm ats sg cl → Calls Try.prog 41 #[.pointer (some ⟨g, 0, none⟩), .int .u8 62] W fun e w' => e = .returned (.bool true) ∧ Fz (· = g) W w' ∧ PS w' g b o cap xs (n + rnN eSep xs n + 1) k s nm ats sg cl := fun W h => by
    have := takeP_any W h 62
    unfold tkN at this
    rw [ht] at this
    exact this
  have CS := fun W (A A2 : Option Addr) (cap c2 B B2 : Nat) (h : BY W B (runW eSep (xs.drop n)) A cap) (h2 : BY W B2 [47] A2 c2) => hasSuf_any W _ A A2 cap c2 B B2 h h2
  rw [show (runW eSep (xs.drop n)).length = rnN eSep xs n from rfl] at CS
  have hok : ∀ w', Fz (· = g) w w' → PS w' g b o cap xs (n + rnN eSep xs n + 1) k s nm ats (.bool ((runW eSep (xs.drop n)).getLast? == some 47)) (.bool true) → FinYes w g b o cap n xs k s nm ats (.returned (.bool true)) w' := fun w' h1 h2 => ⟨rfl, h1, h2⟩
  obtain ⟨Q, hQ⟩ : ∃ Q, FinYes w g b o cap n xs k s nm ats = Q := ⟨_, rfl⟩
  rw [hQ] at hok ⊢
  generalize ((runW eSep (xs.drop n)).getLast? == some 47) = SG at *
  have HH := Lib.hid (And.intro CM (And.intro CU (And.intro CT (And.intro CS (And.intro hok hp)))))
  clear CM CU CT CS hok hp ht hQ
  go_enter Try.func31, Try.ntmps31
  go_wp2_with fail
  go_region_with (first
    | (go_at_call 40; refine (HH.out.1 _).mono ?_; rintro r w1 ⟨gs, rfl, hx1, hb1⟩)
    | (go_at_call 39; refine (HH.out.2.1 _ _ ?_ ?_).mono ?_; exact HH.out.2.2.2.2.2.drew.on (by first | exact hb1 | exact hb1.drew); exact hx1; rintro r w2 ⟨A2, c2, rfl, hy2, f2, p2⟩))
  have b1 : Below w.heap.size w w1 := by first | exact (Below.refl _ _).drew.trans hb1 | exact hb1
  have H2 := Lib.hid (And.intro ((Fz.of_below (X := (· = g)) b1).trans f2) (And.intro p2 hy2))
  clear hx1 hb1 b1 f2 p2 hy2
  go_wp2_with fail
  refine (HH.out.2.2.1 _ H2.out.2.1).mono ?_
  rintro r w3 ⟨rfl, f3, p3⟩
  have y3 := fzy H2.out.2.2 f3 H2.out.2.1.c.lt
  have fr7 := p3.c.froz 7
  have q7 := p3.c.cell 7
  have fr6 := p3.c.froz 6
  have q6 := p3.c.cell 6
  simp [PCs] at q7 q6
  have hg3 := p3.c.lt
  obtain ⟨W4, hW4⟩ : ∃ W, w3.setCell ⟨g, 7, none⟩ (.bool true) = W := ⟨_, rfl⟩
  have p4 : PS W4 g b o cap xs (n + rnN eSep xs n + 1) k s nm ats sg (.bool true) := by rw [← hW4]; exact p3.set 7 _ rfl
  have f4 : Fz (· = g) w3 W4 := by rw [← hW4]; exact Fz.set _ _ _ _ rfl
  have y4 := fzy y3 f4 hg3
  have v1 : (convert 22 22 (.slice (some ⟨W4.heap.size, 0, none⟩) 1 1)).run Try.prog (W4.alloc (.cells #[.int .u8 47] 5)) = .ok (.slice (some ⟨W4.heap.size, 0, none⟩) 1 1) (W4.alloc (.cells #[.int .u8 47] 5 (1, 2))) := Lib.run_convert_bytes_const W4 22 5 _ 1 1 Try.underlying22 Try.underlying5
  obtain ⟨W5, hW5⟩ : ∃ W, W4.alloc (.cells #[.int .u8 47] 5 (1, 2)) = W := ⟨_, rfl⟩
  rw [hW5] at v1
  have b5 : Below W4.heap.size W4 W5 := by rw [← hW5]; exact below_new _ _
  have p5 := p4.on b5
  have y5 := y4.below (b5.mono (Nat.le_of_lt p4.c.lt))
  have z5 : BY W5 W5.heap.size [47] (some ⟨W4.heap.size, 0, none⟩) 1 := by
    refine ⟨Nat.le_refl _, by unfold maxLen; omega, (fun e => nomatch e), (by decide), fun _ => ⟨W4.heap.size, 0, rfl, by rw [← hW5]; simp, fun i x hx => ?_⟩⟩
    cases i with
    | zero =>
      simp at hx
      subst hx
      rw [← hW5]
      exact (Cells'.cell ⟨_, heap_alloc_new W4 _⟩ 0).trans rfl
    | succ i => simp at hx
  have C5 := HH.out.2.2.2.1 W5 A2 _ c2 1 g W5.heap.size y5 z5
  have fr6 := p5.c.froz 6
  have q6 := p5.c.cell 6
  simp [PCs] at q6
  have H5 := Lib.hid (And.intro (H2.out.1.trans (f3.trans (f4.trans (Fz.of_below b5)))) (And.intro p5 C5))
  clear f3 p3 y3 p4 y4 b5 p5 y5 z5 C5 f4 hW5
  go_wp2_with fail
  refine H5.out.2.2.mono ?_
  rintro r w6 ⟨rfl, e⟩
  obtain rfl := e.symm
  go_wp2_with fail
  exact HH.out.2.2.2.2.1 _ (H5.out.1.trans (Fz.set _ _ _ _ rfl)) (H5.out.2.1.set 6 _ rfl)
end Go.Proofs.Ytplnkmojkdbbnaa
