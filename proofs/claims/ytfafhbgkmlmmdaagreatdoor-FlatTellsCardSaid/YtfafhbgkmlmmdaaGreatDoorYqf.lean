/-
  What the rows of flat lean on, part f.
-/
import Derived.Test.YtfafhbgkmlmmdaaGreatDoorYqe
import Derived.Lib.SlBytesConst
set_option maxRecDepth 100000
set_option maxHeartbeats 40000000
namespace Go.Proofs.YtfafhbgkmlmmdaaGreatDoor.G
open Go.RowKit Go.Shelf Go.Lib Go.Maps Go.Sort
def NameOk (w : World) (g b o cap m n : Nat) (p : Nat → Bool) (xs : List Nat) (k s nm ats sg cl : Value) (e : Ending) (w' : World) : Prop :=
 e = .returned (strV (nameL p xs m n)) ∧ Fz (· = g) w w' ∧ PS w' g b o cap xs (n + rnN p xs n) k s nm ats sg cl
theorem nameT_any (g b o cap m n : Nat) (xs : List Nat) (k s nm ats sg cl : Value) (w : World) (hp : PS w g b o cap xs n k s nm ats sg cl) (hm : m ≤ n) (hmx : m < xs.length) (hl : xs.length ≤ 100000) :
  Calls Tryz.prog 162 #[.pointer (some ⟨g, 0, none⟩), .int .i64 (m : Int), .string ⟨#[47, 62]⟩] w (NameOk w g b o cap m n eName xs k s nm ats sg cl) := by
 have hcap := hp.y.l
 have CU := fun W gs (h : PS W g b o cap xs n k s nm ats sg cl) (hs : Cells W gs 9 #[strV [9, 10, 12, 13, 32, 47, 62]]) => untO_any W h [9, 10, 12, 13, 32, 47, 62] (by decide) eName con_name gs hs
 have CM := fun W => mkO_any (⟨#[9, 10, 12, 13, 32]⟩ ++ ⟨#[47, 62]⟩) W
 have es : (.string (⟨#[9, 10, 12, 13, 32]⟩ ++ ⟨#[47, 62]⟩) : Value) = strV [9, 10, 12, 13, 32, 47, 62] := by rfl
 have hle := rnN_le eName xs n hp.n
 have hnl : (xs.take (n + rnN eName xs n)).length = n + rnN eName xs n := by simp; omega
 have hll : ((xs.take (n + rnN eName xs n)).drop m).length = n + rnN eName xs n - m := by simp; omega
 have hsl := fun W => slice_win b o xs.length cap m (n + rnN eName xs n) (by omega) (by omega) (by omega) W
 have hok : ∀ w', Fz (· = g) w w' → PS w' g b o cap xs (n + rnN eName xs n) k s nm ats sg cl → NameOk w g b o cap m n eName xs k s nm ats sg cl (.returned (strV (nameL eName xs m n))) w' := fun w' h1 h2 => ⟨rfl, h1, h2⟩
 have hcv := fun W (h : PS W g b o cap xs (n + rnN eName xs n) k s nm ats sg cl) => conv_by (h.y.win m (n + rnN eName xs n) (by omega) hle)
 rw [hll] at hcv
 have h256 : ∀ x ∈ (xs.take (n + rnN eName xs n)).drop m, x < 256 := fun x hx => hp.y.i x (List.mem_of_mem_take (List.mem_of_mem_drop hx))
 have CL := fun W => lower_any ((xs.take (n + rnN eName xs n)).drop m) h256 (by omega) W
 unfold nameL at hok
 unfold UOk at CU
 obtain ⟨R, hR⟩ : ∃ R, n + rnN eName xs n = R := ⟨_, rfl⟩
 rw [hR] at hsl hok hcv CL
 simp only [hR] at CU
 obtain ⟨Q, hQ⟩ : ∃ Q, NameOk w g b o cap m n eName xs k s nm ats sg cl = Q := ⟨_, rfl⟩
 rw [hQ] at hok ⊢
 generalize (xs.take R).drop m = Y at *
 unfold strV at CL hok
 have HH := Lib.hid (And.intro CU (And.intro CM (And.intro es (And.intro CL (And.intro hok (And.intro hcv hp))))))
 have HS := Lib.hid (And.intro hsl (And.intro hR hcap))
 clear CU CM es CL hok hcv hp hsl hR hle hnl hll h256 hcap hQ hm hmx hl
 go_enter Tryz.func162, Tryz.ntmps162
 go_wp2_with fail
 go_region_with (first
  | (go_at_call 129; refine (HH.out.2.1 _).mono ?_; rintro r w1 ⟨gs, rfl, hx1, hb1⟩)
  | (go_at_call 184; refine (HH.out.1 _ _ ?_ ?_).mono ?_; exact HH.out.2.2.2.2.2.2.drew.on (by first | exact hb1 | exact hb1.drew); rw [← HH.out.2.2.1]; exact hx1; rintro r w2 ⟨A2, c2, rfl, hy2, hf2, hp2⟩))
 have b1 : Below w.heap.size w w1 := by first | exact (Below.refl _ _).drew.trans hb1 | exact hb1
 have hfz : Fz (· = g) w w2 := (Fz.of_below b1).trans hf2
 have q0 := hp2.c.cell 0
 have q1 := hp2.c.cell 1
 simp [PCs] at q0 q1
 have MC : ∀ d os, Calls Tryz.prog 185 #[.string ⟨(u8s Y).toArray⟩] (grow (redrawn w2 d) os) fun e w'' => e = .returned (.string ⟨(u8s (lowL Y)).toArray⟩) ∧ ∃ p : Regrown, w'' = grow (redrawn w2 p.d) p.os := fun d os => Calls.regrown_of (HH.out.2.2.2.1 _)
 have CV : ∀ d os, (convert 22 9 (.slice (some ⟨b, o + m, none⟩) (R - m) (cap - m))).run Tryz.prog (grow (redrawn w2 d) os) = .ok (.string ⟨(u8s Y).toArray⟩) (grow (redrawn w2 d) os) := fun d os => HH.out.2.2.2.2.2.1 _ (hp2.on (below_regrown w2 d os))
 have r0 := cell_regrown q0
 have r1 := cell_regrown q1
 have HF := Lib.hid (And.intro hfz hp2)
 have hsl := HS.out.1
 clear hy2 hf2 hp2 hx1 hb1 b1 hfz q0 q1
 go_wp2_with fail
 refine wp_region_quiet_below (by kernel_rfl) (by kernel_rfl) ?_
 repeat (go_big_quiet_step (exact MC _ _))
 refine wpQuiet_nil ?_
 intro _ hw'
 obtain ⟨⟨dq, osq⟩, hw''⟩ := hw'
 subst hw''
 clear r0 r1 MC CV hsl
 go_wp2_with fail
 exact HH.out.2.2.2.2.1 _ (HF.out.1.trans (Fz.of_below (below_regrown w2 dq osq))) (HF.out.2.on (below_regrown w2 dq osq))
theorem nameA_any (g b o cap m n : Nat) (xs : List Nat) (k s nm ats sg cl : Value) (w : World) (hp : PS w g b o cap xs n k s nm ats sg cl) (hm : m ≤ n) (hmx : m < xs.length) (hl : xs.length ≤ 100000) :
  Calls Tryz.prog 162 #[.pointer (some ⟨g, 0, none⟩), .int .i64 (m : Int), .string ⟨#[47, 62, 61]⟩] w (NameOk w g b o cap m n eAttr xs k s nm ats sg cl) := by
 have hcap := hp.y.l
 have CU := fun W gs (h : PS W g b o cap xs n k s nm ats sg cl) (hs : Cells W gs 9 #[strV [9, 10, 12, 13, 32, 47, 62, 61]]) => untO_any W h [9, 10, 12, 13, 32, 47, 62, 61] (by decide) eAttr con_attr gs hs
 have CM := fun W => mkO_any (⟨#[9, 10, 12, 13, 32]⟩ ++ ⟨#[47, 62, 61]⟩) W
 have es : (.string (⟨#[9, 10, 12, 13, 32]⟩ ++ ⟨#[47, 62, 61]⟩) : Value) = strV [9, 10, 12, 13, 32, 47, 62, 61] := by rfl
 have hle := rnN_le eAttr xs n hp.n
 have hnl : (xs.take (n + rnN eAttr xs n)).length = n + rnN eAttr xs n := by simp; omega
 have hll : ((xs.take (n + rnN eAttr xs n)).drop m).length = n + rnN eAttr xs n - m := by simp; omega
 have hsl := fun W => slice_win b o xs.length cap m (n + rnN eAttr xs n) (by omega) (by omega) (by omega) W
 have hok : ∀ w', Fz (· = g) w w' → PS w' g b o cap xs (n + rnN eAttr xs n) k s nm ats sg cl → NameOk w g b o cap m n eAttr xs k s nm ats sg cl (.returned (strV (nameL eAttr xs m n))) w' := fun w' h1 h2 => ⟨rfl, h1, h2⟩
 have hcv := fun W (h : PS W g b o cap xs (n + rnN eAttr xs n) k s nm ats sg cl) => conv_by (h.y.win m (n + rnN eAttr xs n) (by omega) hle)
 rw [hll] at hcv
 have h256 : ∀ x ∈ (xs.take (n + rnN eAttr xs n)).drop m, x < 256 := fun x hx => hp.y.i x (List.mem_of_mem_take (List.mem_of_mem_drop hx))
 have CL := fun W => lower_any ((xs.take (n + rnN eAttr xs n)).drop m) h256 (by omega) W
 unfold nameL at hok
 unfold UOk at CU
 obtain ⟨R, hR⟩ : ∃ R, n + rnN eAttr xs n = R := ⟨_, rfl⟩
 rw [hR] at hsl hok hcv CL
 simp only [hR] at CU
 obtain ⟨Q, hQ⟩ : ∃ Q, NameOk w g b o cap m n eAttr xs k s nm ats sg cl = Q := ⟨_, rfl⟩
 rw [hQ] at hok ⊢
 generalize (xs.take R).drop m = Y at *
 unfold strV at CL hok
 have HH := Lib.hid (And.intro CU (And.intro CM (And.intro es (And.intro CL (And.intro hok (And.intro hcv hp))))))
 have HS := Lib.hid (And.intro hsl (And.intro hR hcap))
 clear CU CM es CL hok hcv hp hsl hR hle hnl hll h256 hcap hQ hm hmx hl
 go_enter Tryz.func162, Tryz.ntmps162
 go_wp2_with fail
 go_region_with (first
  | (go_at_call 129; refine (HH.out.2.1 _).mono ?_; rintro r w1 ⟨gs, rfl, hx1, hb1⟩)
  | (go_at_call 184; refine (HH.out.1 _ _ ?_ ?_).mono ?_; exact HH.out.2.2.2.2.2.2.drew.on (by first | exact hb1 | exact hb1.drew); rw [← HH.out.2.2.1]; exact hx1; rintro r w2 ⟨A2, c2, rfl, hy2, hf2, hp2⟩))
 have b1 : Below w.heap.size w w1 := by first | exact (Below.refl _ _).drew.trans hb1 | exact hb1
 have hfz : Fz (· = g) w w2 := (Fz.of_below b1).trans hf2
 have q0 := hp2.c.cell 0
 have q1 := hp2.c.cell 1
 simp [PCs] at q0 q1
 have MC : ∀ d os, Calls Tryz.prog 185 #[.string ⟨(u8s Y).toArray⟩] (grow (redrawn w2 d) os) fun e w'' => e = .returned (.string ⟨(u8s (lowL Y)).toArray⟩) ∧ ∃ p : Regrown, w'' = grow (redrawn w2 p.d) p.os := fun d os => Calls.regrown_of (HH.out.2.2.2.1 _)
 have CV : ∀ d os, (convert 22 9 (.slice (some ⟨b, o + m, none⟩) (R - m) (cap - m))).run Tryz.prog (grow (redrawn w2 d) os) = .ok (.string ⟨(u8s Y).toArray⟩) (grow (redrawn w2 d) os) := fun d os => HH.out.2.2.2.2.2.1 _ (hp2.on (below_regrown w2 d os))
 have r0 := cell_regrown q0
 have r1 := cell_regrown q1
 have HF := Lib.hid (And.intro hfz hp2)
 have hsl := HS.out.1
 clear hy2 hf2 hp2 hx1 hb1 b1 hfz q0 q1
 go_wp2_with fail
 refine wp_region_quiet_below (by kernel_rfl) (by kernel_rfl) ?_
 repeat (go_big_quiet_step (exact MC _ _))
 refine wpQuiet_nil ?_
 intro _ hw'
 obtain ⟨⟨dq, osq⟩, hw''⟩ := hw'
 subst hw''
 clear r0 r1 MC CV hsl
 go_wp2_with fail
 exact HH.out.2.2.2.2.1 _ (HF.out.1.trans (Fz.of_below (below_regrown w2 dq osq))) (HF.out.2.on (below_regrown w2 dq osq))
def qN (xs : List Nat) (n q : Nat) : Nat := tkN xs (n + 1 + rnN (eQ q) xs (n + 1)) q
def valL (xs : List Nat) (n : Nat) : List Nat := if tkB xs n 34 = true then runW (eQ 34) (xs.drop (n + 1)) else if tkB xs n 39 = true then runW (eQ 39) (xs.drop (n + 1)) else runW eVal (xs.drop n)
def valN (xs : List Nat) (n : Nat) : Nat := if tkB xs n 34 = true then qN xs n 34 else if tkB xs n 39 = true then qN xs n 39 else n + rnN eVal xs n
theorem tkB_drop {xs : List Nat} {n c : Nat} : tkB xs n c = ((xs.drop n).head? == some c) := by
 unfold tkB
 rw [List.head?_drop]
theorem tkN_drop (xs : List Nat) (n q : Nat) : xs.drop (tkN xs (n + rnN (eQ q) xs n) q) = (restW (eQ q) (xs.drop n)).drop 1 := by
 have h := rnN_drop (eQ q) xs n
 unfold tkN
 by_cases e : tkB xs (n + rnN (eQ q) xs n) q = true
 ·rw [if_pos e, ← List.drop_drop, h]
 ·rw [if_neg e, h]
  rw [tkB_drop, h] at e
  cases e2 : restW (eQ q) (xs.drop n) with
  | nil => rfl
  | cons c t =>
   have := restW_head e2
   have hc : c = q := by simpa [eQ] using this
   rw [e2, hc] at e
   simp at e
theorem valueR_at (xs : List Nat) (n : Nat) : valueR (xs.drop n) = (valL xs n, xs.drop (valN xs n)) := by
 unfold valL valN
 cases e : xs.drop n with
 | nil =>
  have h1 : tkB xs n 34 = false := by rw [tkB_drop, e]; rfl
  have h2 : tkB xs n 39 = false := by rw [tkB_drop, e]; rfl
  have hr : rnN eVal xs n = 0 := by unfold rnN; rw [e]; rfl
  rw [h1, h2, hr]
  simp only [Bool.false_eq_true, if_false, Nat.add_zero]
  rw [e]; rfl
 | cons c t =>
  have ht : t = xs.drop (n + 1) := by rw [← List.drop_drop, e]; rfl
  have hb : ∀ q, tkB xs n q = (c == q) := fun q => by rw [tkB_drop, e]; simp
  rw [hb, hb]
  unfold valueR
  by_cases h34 : c = 34
  ·subst h34
   simp only [beq_self_eq_true, if_true, true_or]
   rw [ht, qN, tkN_drop]
  ·by_cases h39 : c = 39
   ·subst h39
    simp only [beq_self_eq_true, if_true, or_true, show (39 == 34) = false from rfl, Bool.false_eq_true, if_false]
    rw [ht, qN, tkN_drop]
   ·simp only [beq_iff_eq, h34, h39, if_false, or_self]
    rw [rnN_drop, e]
def Cells' (W : World) (g t : Nat) (cs : Array Value) : Prop := ∃ fr, W.heap[g]? = some (.cells cs t fr)
theorem Cells'.cell {W : World} {g t : Nat} {cs : Array Value} (h : Cells' W g t cs) (i : Nat) : W.cell? ⟨g, i, none⟩ = cs[i]? := by
 obtain ⟨fr, h⟩ := h
 simp [World.cell?, show W.heap[g]? = _ from h]
theorem Cells'.lt {W : World} {g t : Nat} {cs : Array Value} (h : Cells' W g t cs) : g < W.heap.size := by
 obtain ⟨fr, h⟩ := h
 exact (Array.getElem?_eq_some_iff.1 h).1
theorem Cells'.on {W W' : World} {g t : Nat} {cs : Array Value} (h : Cells' W g t cs) (hb : Below W.heap.size W W') : Cells' W' g t cs := by
 have hl := h.lt
 obtain ⟨fr, h⟩ := h
 exact ⟨fr, (hb.block _ hl).trans h⟩
theorem Cells'.fz {X : Nat → Prop} {W W' : World} {g t : Nat} {cs : Array Value} (h : Cells' W g t cs) (hf : Fz X W W') (hn : ¬ X g) : Cells' W' g t cs := by
 have hl := h.lt
 obtain ⟨fr, h⟩ := h
 exact ⟨fr, (hf.block _ hl hn).trans h⟩
theorem Fz.ofDrew {X : Nat → Prop} {w w' : World} (h : Fz X w.drew w') : Fz X w w' := ⟨h.os, h.tape, h.output, h.size, h.block⟩
def ValOk (w : World) (g b o cap n : Nat) (xs : List Nat) (k s nm ats sg cl : Value) (e : Ending) (w' : World) : Prop :=
 e = .returned (strV (valL xs n)) ∧ Fz (· = g) w w' ∧ PS w' g b o cap xs (valN xs n) k s nm ats sg cl
theorem value_any (g b o cap n : Nat) (xs : List Nat) (k s nm ats sg cl : Value) (w : World) (hp : PS w g b o cap xs n k s nm ats sg cl) :
  Calls Tryz.prog 190 #[.pointer (some ⟨g, 0, none⟩)] w (ValOk w g b o cap n xs k s nm ats sg cl) := by
 have CT := fun W (h : PS W g b o cap xs n k s nm ats sg cl) c => takeP_any W h c
 have hv34 : tkB xs n 34 = true → ∀ w', Fz (· = g) w w' → PS w' g b o cap xs (qN xs n 34) k s nm ats sg cl → ValOk w g b o cap n xs k s nm ats sg cl (.returned (strV (runW (eQ 34) (xs.drop (n + 1))))) w' := fun h w' h1 h2 => by
  refine ⟨?_, h1, ?_⟩
  ·unfold valL; rw [if_pos h]
  ·unfold valN; rw [if_pos h]; exact h2
 have hv39 : tkB xs n 34 = false → tkB xs n 39 = true → ∀ w', Fz (· = g) w w' → PS w' g b o cap xs (qN xs n 39) k s nm ats sg cl → ValOk w g b o cap n xs k s nm ats sg cl (.returned (strV (runW (eQ 39) (xs.drop (n + 1))))) w' := fun h0 h w' h1 h2 => by
  refine ⟨?_, h1, ?_⟩
  ·unfold valL; rw [h0, if_pos h]; rfl
  ·unfold valN; rw [h0, if_pos h]; exact h2
 have hvv : tkB xs n 34 = false → tkB xs n 39 = false → ∀ w', Fz (· = g) w w' → PS w' g b o cap xs (n + rnN eVal xs n) k s nm ats sg cl → ValOk w g b o cap n xs k s nm ats sg cl (.returned (strV (runW eVal (xs.drop n)))) w' := fun h0 h w' h1 h2 => by
  refine ⟨?_, h1, ?_⟩
  ·unfold valL; rw [h0, h]; rfl
  ·unfold valN; rw [h0, h]; exact h2
 obtain ⟨Q, hQ⟩ : ∃ Q, ValOk w g b o cap n xs k s nm ats sg cl = Q := ⟨_, rfl⟩
 rw [hQ] at hv34 hv39 hvv ⊢
 clear hQ
 have HH := Lib.hid (And.intro hv34 (And.intro hv39 (And.intro hvv (And.intro CT hp))))
 clear hv34 hv39 hvv CT
 have HG := Lib.hid hp.c.lt
 clear hp
 have v1 : (convert 22 22 (.slice (some ⟨w.heap.size, 0, none⟩) 2 2)).run Tryz.prog (w.alloc (.cells #[.int .u8 34, .int .u8 39] 5)) = .ok (.slice (some ⟨w.heap.size, 0, none⟩) 2 2) (w.alloc (.cells #[.int .u8 34, .int .u8 39] 5 (2, 3))) := Lib.run_convert_bytes_const w 22 5 _ 2 2 Tryz.underlying22 Tryz.underlying5
 obtain ⟨W0, hW0⟩ : ∃ W, w.alloc (.cells #[.int .u8 34, .int .u8 39] 5 (2, 3)) = W := ⟨_, rfl⟩
 rw [hW0] at v1
 have b0 : Below w.heap.size w W0 := by rw [← hW0]; exact below_new _ _
 have x0 : Cells' W0 w.heap.size 5 #[.int .u8 34, .int .u8 39] := ⟨_, by rw [← hW0]; exact heap_alloc_new w _⟩
 have hG := Lib.hid (And.intro b0 x0)
 clear b0 x0 hW0
 go_enter Tryz.func190, Tryz.ntmps190
 go_wp2_with fail
 go_loopw [4, 9] (fun _ i wr => ∃ j : Nat, i = .int .i64 (j : Int) ∧ j ≤ 2 ∧ (0 < j → tkB xs n 34 = false) ∧ (1 < j → tkB xs n 39 = false) ∧ Fz (· = g) w wr ∧ PS wr g b o cap xs n k s nm ats sg cl ∧ Cells' wr w.heap.size 5 #[.int .u8 34, .int .u8 39]) (fun _ i _ => 2 - (RowKit.intOf i).toNat)
 case atStart => exact ⟨0, by go_num, by omega, by omega, by omega, Fz.of_below hG.out.1, HH.out.2.2.2.2.on hG.out.1, hG.out.2⟩
 case round =>
  obtain ⟨j, rfl, hj, h34, h39, hfr, hpr, hq⟩ := hrel
  rcases (show j = 0 ∨ j = 1 ∨ j = 2 by omega) with rfl | rfl | rfl
  ·-- 34
   have i1 : (0 : Int) < 2 := by decide
   have qk : wr.cell? ⟨w.heap.size, 0, none⟩ = some (.int .u8 34) := (Cells'.cell hq 0).trans rfl
   obtain ⟨W1, hW1⟩ : ∃ W, wr.alloc (.cells #[.int .u8 34] 5) = W := ⟨_, rfl⟩
   have b1 : Below wr.heap.size wr W1 := by rw [← hW1]; exact below_new _ _
   have x1 : Cells W1 wr.heap.size 5 #[.int .u8 34] := by rw [← hW1]; exact cells_new _ _ _
   obtain ⟨g1, hg1⟩ : ∃ g1, wr.heap.size = g1 := ⟨_, rfl⟩
   rw [hg1] at x1
   have p1 : PS W1 g b o cap xs n k s nm ats sg cl := hpr.on b1
   have f1 : Fz (· = g) w W1 := hfr.trans (Fz.of_below b1)
   have hq1 := hq.on b1
   have hne : ¬ g1 = g := fun e => by have := hpr.c.lt; omega
   have H1 := Lib.hid (And.intro hW1 (And.intro x1 (And.intro p1 (And.intro f1 (And.intro hq1 (And.intro hne hg1))))))
   have z1 := x1.cell 0
   simp at z1
   cases ht : tkB xs n 34 with
   | true =>
    have CT1 : ∀ W, PS W g b o cap xs n k s nm ats sg cl → Calls Tryz.prog 187 #[.pointer (some ⟨g, 0, none⟩), .int .u8 34] W fun e w' => e = .returned (.bool true) ∧ Fz (· = g) W w' ∧ PS w' g b o cap xs (n + 1) k s nm ats sg cl := fun W h => by
     have := HH.out.2.2.2.1 W h 34
     unfold tkN at this
     rw [ht] at this
     exact this
    have CT2 : ∀ W m, PS W g b o cap xs m k s nm ats sg cl → Calls Tryz.prog 187 #[.pointer (some ⟨g, 0, none⟩), .int .u8 34] W fun e w' => e = .returned (.bool (tkB xs m 34)) ∧ Fz (· = g) W w' ∧ PS w' g b o cap xs (tkN xs m 34) k s nm ats sg cl := fun W m h => takeP_any W h 34
    have hfin := HH.out.1 ht
    have HC := Lib.hid (And.intro CT1 (And.intro CT2 hfin))
    clear CT1 CT2 hfin ht x1 p1 f1 hq1 hne b1 hq hfr hpr h34 h39 hg1 hW1
    go_wp2_with fail
    go_region_with (first
     | (go_at_call 187; refine (HC.out.1 _ ?_).mono ?_; rw [H1.out.1]; exact H1.out.2.2.1.drew; rintro r w2 ⟨rfl, f2, p2⟩))
    rw [H1.out.1] at f2
    have f2 := f2.ofDrew
    have f12 : Fz (· = g) w w2 := H1.out.2.2.2.1.trans f2
    have x2 : Cells w2 g1 5 #[.int .u8 34] := f2.cells H1.out.2.2.2.2.2.1 H1.out.2.1
    have x2' : Cells w2 wr.heap.size 5 #[.int .u8 34] := by rw [H1.out.2.2.2.2.2.2]; exact x2
    have H2 := Lib.hid (And.intro f12 (And.intro x2 (And.intro p2 x2')))
    clear z1 f2 p2 x2 x2' f12
    go_wp2_with fail
    refine (untQ_any w2 H2.out.2.2.1 34 _ H2.out.2.2.2).mono ?_
    rintro r w3 ⟨A3, c3, rfl, hy3, f3, p3⟩
    have f13 : Fz (· = g) w w3 := H2.out.1.trans f3
    have x3 : Cells w3 wr.heap.size 5 #[.int .u8 34] := f3.cells (by rw [H1.out.2.2.2.2.2.2]; exact H1.out.2.2.2.2.2.1) H2.out.2.2.2
    have z3 := x3.cell 0
    simp at z3
    have H3 := Lib.hid (And.intro f13 (And.intro hy3 p3))
    clear f13 x3 f3 hy3 p3
    go_wp2_with fail
    go_region_with (first
     | (go_at_call 187; refine (HC.out.2.1 _ (n + 1 + rnN (eQ 34) xs (n + 1)) ?_).mono ?_; exact H3.out.2.2.drew; rintro r w4 ⟨rfl, f4, p4⟩))
    have f4 := f4.ofDrew
    have y4 := fzy (H3.out.2.1) f4 H3.out.2.2.c.lt
    have hcv : (convert 22 9 (.slice A3 (rnN (eQ 34) xs (n + 1)) c3)).run Tryz.prog w4 = .ok (.string ⟨(u8s (runW (eQ 34) (xs.drop (n + 1)))).toArray⟩) w4 := conv_by y4
    have H4 := Lib.hid (And.intro (H3.out.1.trans f4) p4)
    clear y4 f4 p4
    go_wp2_with fail
    exact HC.out.2.2 _ H4.out.1 H4.out.2
   | false =>
    have CT1 : ∀ W, PS W g b o cap xs n k s nm ats sg cl → Calls Tryz.prog 187 #[.pointer (some ⟨g, 0, none⟩), .int .u8 34] W fun e w' => e = .returned (.bool false) ∧ Fz (· = g) W w' ∧ PS w' g b o cap xs n k s nm ats sg cl := fun W h => by
     have := HH.out.2.2.2.1 W h 34
     unfold tkN at this
     rw [ht] at this
     exact this
    have HC := Lib.hid (And.intro CT1 (And.intro h34 (And.intro h39 ht)))
    clear CT1 ht x1 p1 f1 hq1 hne b1 hq hfr hpr h34 h39 hg1 hW1
    go_wp2_with fail
    go_region_with (first
     | (go_at_call 187; refine (HC.out.1 _ ?_).mono ?_; rw [H1.out.1]; exact H1.out.2.2.1.drew; rintro r w2 ⟨rfl, f2, p2⟩))
    rw [H1.out.1] at f2
    have f2 := f2.ofDrew
    have f12 : Fz (· = g) w w2 := H1.out.2.2.2.1.trans f2
    have q2 : Cells' w2 w.heap.size 5 #[.int .u8 34, .int .u8 39] := H1.out.2.2.2.2.1.fz f2 (fun e => by have := HG.out; omega)
    have H2 := Lib.hid (And.intro f12 (And.intro p2 q2))
    clear z1 f2 p2 f12 q2
    go_wp2_with fail
    go_roundw
    case rel => exact ⟨0 + 1, by go_num, by omega, fun _ => trivial, fun h => absurd h (by omega), H2.out.1, H2.out.2.1, H2.out.2.2⟩
    case measure => simp [RowKit.intOf]
  ·-- 39
   have i1 : (1 : Int) < 2 := by decide
   have qk : wr.cell? ⟨w.heap.size, 1, none⟩ = some (.int .u8 39) := (Cells'.cell hq 1).trans rfl
   obtain ⟨W1, hW1⟩ : ∃ W, wr.alloc (.cells #[.int .u8 39] 5) = W := ⟨_, rfl⟩
   have b1 : Below wr.heap.size wr W1 := by rw [← hW1]; exact below_new _ _
   have x1 : Cells W1 wr.heap.size 5 #[.int .u8 39] := by rw [← hW1]; exact cells_new _ _ _
   obtain ⟨g1, hg1⟩ : ∃ g1, wr.heap.size = g1 := ⟨_, rfl⟩
   rw [hg1] at x1
   have p1 : PS W1 g b o cap xs n k s nm ats sg cl := hpr.on b1
   have f1 : Fz (· = g) w W1 := hfr.trans (Fz.of_below b1)
   have hq1 := hq.on b1
   have hne : ¬ g1 = g := fun e => by have := hpr.c.lt; omega
   have H1 := Lib.hid (And.intro hW1 (And.intro x1 (And.intro p1 (And.intro f1 (And.intro hq1 (And.intro hne hg1))))))
   have z1 := x1.cell 0
   simp at z1
   cases ht : tkB xs n 39 with
   | true =>
    have CT1 : ∀ W, PS W g b o cap xs n k s nm ats sg cl → Calls Tryz.prog 187 #[.pointer (some ⟨g, 0, none⟩), .int .u8 39] W fun e w' => e = .returned (.bool true) ∧ Fz (· = g) W w' ∧ PS w' g b o cap xs (n + 1) k s nm ats sg cl := fun W h => by
     have := HH.out.2.2.2.1 W h 39
     unfold tkN at this
     rw [ht] at this
     exact this
    have CT2 : ∀ W m, PS W g b o cap xs m k s nm ats sg cl → Calls Tryz.prog 187 #[.pointer (some ⟨g, 0, none⟩), .int .u8 39] W fun e w' => e = .returned (.bool (tkB xs m 39)) ∧ Fz (· = g) W w' ∧ PS w' g b o cap xs (tkN xs m 39) k s nm ats sg cl := fun W m h => takeP_any W h 39
    have hfin := HH.out.2.1 (h34 (by omega)) ht
    have HC := Lib.hid (And.intro CT1 (And.intro CT2 hfin))
    clear CT1 CT2 hfin ht x1 p1 f1 hq1 hne b1 hq hfr hpr h34 h39 hg1 hW1
    go_wp2_with fail
    go_region_with (first
     | (go_at_call 187; refine (HC.out.1 _ ?_).mono ?_; rw [H1.out.1]; exact H1.out.2.2.1.drew; rintro r w2 ⟨rfl, f2, p2⟩))
    rw [H1.out.1] at f2
    have f2 := f2.ofDrew
    have f12 : Fz (· = g) w w2 := H1.out.2.2.2.1.trans f2
    have x2 : Cells w2 g1 5 #[.int .u8 39] := f2.cells H1.out.2.2.2.2.2.1 H1.out.2.1
    have x2' : Cells w2 wr.heap.size 5 #[.int .u8 39] := by rw [H1.out.2.2.2.2.2.2]; exact x2
    have H2 := Lib.hid (And.intro f12 (And.intro x2 (And.intro p2 x2')))
    clear z1 f2 p2 x2 x2' f12
    go_wp2_with fail
    refine (untQ_any w2 H2.out.2.2.1 39 _ H2.out.2.2.2).mono ?_
    rintro r w3 ⟨A3, c3, rfl, hy3, f3, p3⟩
    have f13 : Fz (· = g) w w3 := H2.out.1.trans f3
    have x3 : Cells w3 wr.heap.size 5 #[.int .u8 39] := f3.cells (by rw [H1.out.2.2.2.2.2.2]; exact H1.out.2.2.2.2.2.1) H2.out.2.2.2
    have z3 := x3.cell 0
    simp at z3
    have H3 := Lib.hid (And.intro f13 (And.intro hy3 p3))
    clear f13 x3 f3 hy3 p3
    go_wp2_with fail
    go_region_with (first
     | (go_at_call 187; refine (HC.out.2.1 _ (n + 1 + rnN (eQ 39) xs (n + 1)) ?_).mono ?_; exact H3.out.2.2.drew; rintro r w4 ⟨rfl, f4, p4⟩))
    have f4 := f4.ofDrew
    have y4 := fzy (H3.out.2.1) f4 H3.out.2.2.c.lt
    have hcv : (convert 22 9 (.slice A3 (rnN (eQ 39) xs (n + 1)) c3)).run Tryz.prog w4 = .ok (.string ⟨(u8s (runW (eQ 39) (xs.drop (n + 1)))).toArray⟩) w4 := conv_by y4
    have H4 := Lib.hid (And.intro (H3.out.1.trans f4) p4)
    clear y4 f4 p4
    go_wp2_with fail
    exact HC.out.2.2 _ H4.out.1 H4.out.2
   | false =>
    have CT1 : ∀ W, PS W g b o cap xs n k s nm ats sg cl → Calls Tryz.prog 187 #[.pointer (some ⟨g, 0, none⟩), .int .u8 39] W fun e w' => e = .returned (.bool false) ∧ Fz (· = g) W w' ∧ PS w' g b o cap xs n k s nm ats sg cl := fun W h => by
     have := HH.out.2.2.2.1 W h 39
     unfold tkN at this
     rw [ht] at this
     exact this
    have HC := Lib.hid (And.intro CT1 (And.intro h34 (And.intro h39 ht)))
    clear CT1 ht x1 p1 f1 hq1 hne b1 hq hfr hpr h34 h39 hg1 hW1
    go_wp2_with fail
    go_region_with (first
     | (go_at_call 187; refine (HC.out.1 _ ?_).mono ?_; rw [H1.out.1]; exact H1.out.2.2.1.drew; rintro r w2 ⟨rfl, f2, p2⟩))
    rw [H1.out.1] at f2
    have f2 := f2.ofDrew
    have f12 : Fz (· = g) w w2 := H1.out.2.2.2.1.trans f2
    have q2 : Cells' w2 w.heap.size 5 #[.int .u8 34, .int .u8 39] := H1.out.2.2.2.2.1.fz f2 (fun e => by have := HG.out; omega)
    have H2 := Lib.hid (And.intro f12 (And.intro p2 q2))
    clear z1 f2 p2 f12 q2
    go_wp2_with fail
    go_roundw
    case rel => exact ⟨1 + 1, by go_num, by omega, fun _ => HC.out.2.1 (by omega), fun _ => trivial, H2.out.1, H2.out.2.1, H2.out.2.2⟩
    case measure => simp [RowKit.intOf]
  ·have i1 : ¬ (2 : Int) < 2 := by decide
   have CM := fun W => mkO_any ⟨#[9, 10, 12, 13, 32, 62]⟩ W
   have CU := fun W gs (h : PS W g b o cap xs n k s nm ats sg cl) (hs : Cells W gs 9 #[strV [9, 10, 12, 13, 32, 62]]) => untO_any W h [9, 10, 12, 13, 32, 62] (by decide) eVal con_val gs hs
   have H1 := Lib.hid (And.intro CM (And.intro CU (And.intro (HH.out.2.2.1 (h34 (by omega)) (h39 (by omega))) (And.intro hfr hpr))))
   clear CM CU h34 h39 hfr hpr hq
   go_wp2_with fail
   go_region_with (first
    | (go_at_call 129; refine (H1.out.1 _).mono ?_; rintro r w1 ⟨gs, rfl, hx1, hb1⟩)
    | (go_at_call 184; refine (H1.out.2.1 _ _ ?_ ?_).mono ?_; exact H1.out.2.2.2.2.drew.on (by first | exact hb1 | exact hb1.drew); exact hx1; rintro r w2 ⟨A2, c2, rfl, hy2, f2, p2⟩; have hcv : (convert 22 9 (.slice A2 (rnN eVal xs n) c2)).run Tryz.prog w2 = .ok (.string ⟨(u8s (runW eVal (xs.drop n))).toArray⟩) w2 := conv_by hy2))
   have b1 : Below wr.heap.size wr w1 := by first | exact (Below.refl _ _).drew.trans hb1 | exact hb1
   have H2 := Lib.hid (And.intro (H1.out.2.2.2.1.trans ((Fz.of_below b1).trans f2)) p2)
   clear hx1 hb1 b1 f2 p2 hy2
   go_wp2_with fail
   go_ret
   exact H1.out.2.2.1 _ H2.out.1 H2.out.2
theorem bytesOf_cast (l : List Nat) : Lib.bytesOf (l.map fun (x : Nat) => (x : Int)) = u8s l := by
 simp [Lib.bytesOf, u8s]
theorem BY.bin {w : World} {B : Nat} {xs : List Nat} {A : Option Addr} {cap : Nat} (h : BY w B xs A cap) : Lib.BytesIn w A xs.length (xs.map fun (x : Nat) => (x : Int)) := by
 cases xs with
 | nil => exact Lib.BytesIn.nil _ _ _
 | cons c t =>
  obtain ⟨b, o, rfl, _, hr⟩ := h.r (by simp)
  refine Lib.BytesIn.of_cells (fun i hi => ?_)
  obtain ⟨x, hx⟩ := at_lt hi
  have ea : (Addr.mk b o none).add i = ⟨b, o + i, none⟩ := by
   unfold Addr.add
   by_cases h0 : i = 0 <;> simp [h0]
  rw [ea, hr i x hx]
  have : (List.map (fun (x : Nat) => (x : Int)) (c :: t)).getD i 0 = (x : Int) := by
   rw [List.getD_eq_getElem?_getD, List.getElem?_map, hx]; rfl
  rw [this]
theorem suffix_one (l : List Nat) (hl : ∀ x ∈ l, x < 256) : Lib.hasSuffix (u8s l) (u8s [47]) = (l.getLast? == some 47) := by
 rw [Lib.hasSuffix, Bool.eq_iff_iff, List.isSuffixOf_iff_suffix]
 constructor
 ·rintro ⟨t, ht⟩
  have e : l = nats t ++ [47] := by
   have := congrArg nats ht
   rw [nats_u8s l hl] at this
   rw [← this]
   simp [nats, u8s]
  rw [e]
  simp
 ·intro h
  have h : l.getLast? = some 47 := by simpa using h
  obtain ⟨t, ht⟩ := List.getLast?_eq_some_iff.1 h
  subst ht
  exact ⟨u8s t, by simp [u8s]⟩
theorem hasSuf_any (w : World) (l : List Nat) (A A2 : Option Addr) (cap c2 B B2 : Nat) (h : BY w B l A cap) (h2 : BY w B2 [47] A2 c2) :
  Calls Tryz.prog 188 #[.slice A l.length cap, .slice A2 1 c2] w fun e w' => e = .returned (.bool (l.getLast? == some 47)) ∧ w' = w := by
 have C := Tryz.bytes_HasSuffix_all A A2 l.length cap 1 c2 _ _ w (by simp) (by simp) h.l (by have := h.len; omega) h.bin h2.bin
 rw [bytesOf_cast, bytesOf_cast, suffix_one l h.i] at C
 exact C
theorem PS.set {w : World} {g b o cap : Nat} {xs : List Nat} {n : Nat} {k s nm ats sg cl k' s' nm' ats' sg' cl' : Value} (h : PS w g b o cap xs n k s nm ats sg cl) (i : Nat) (v : Value)
  (hi : (PCs b o xs.length cap n k s nm ats sg cl).setIfInBounds i v = PCs b o xs.length cap n k' s' nm' ats' sg' cl') : PS (w.setCell ⟨g, i, none⟩ v) g b o cap xs n k' s' nm' ats' sg' cl' :=
 ⟨by rw [← hi]; exact h.c.set i v, fzy h.y (Fz.set _ _ _ _ rfl) h.c.lt, h.n⟩
def FinYes (w : World) (g b o cap n : Nat) (xs : List Nat) (k s nm ats : Value) (e : Ending) (w' : World) : Prop :=
 e = .returned (.bool true) ∧ Fz (· = g) w w' ∧ PS w' g b o cap xs (n + rnN eSep xs n + 1) k s nm ats (.bool ((runW eSep (xs.drop n)).getLast? == some 47)) (.bool true)
def FinNo (w : World) (g b o cap n : Nat) (xs : List Nat) (k s nm ats sg cl : Value) (e : Ending) (w' : World) : Prop :=
 e = .returned (.bool (((n + rnN eSep xs n : Nat) : Int) == (xs.length : Int))) ∧ Fz (· = g) w w' ∧ PS w' g b o cap xs (n + rnN eSep xs n) k s nm ats sg cl
theorem finNo_any (g b o cap n : Nat) (xs : List Nat) (k s nm ats sg cl : Value) (w : World) (hp : PS w g b o cap xs n k s nm ats sg cl) (ht : tkB xs (n + rnN eSep xs n) 62 = false) :
  Calls Tryz.prog 163 #[.pointer (some ⟨g, 0, none⟩)] w (FinNo w g b o cap n xs k s nm ats sg cl) := by
 have CM := fun W => mkN_any ⟨#[9, 10, 12, 13, 32, 47]⟩ W
 have CU := fun W gs (h : PS W g b o cap xs n k s nm ats sg cl) (hs : Cells W gs 9 #[strV [9, 10, 12, 13, 32, 47]]) => untN_any W h [9, 10, 12, 13, 32, 47] (by decide) eSep con_sep gs hs
 have CT : ∀ W, PS W g b o cap xs (n + rnN eSep xs n) k s nm ats sg cl → Calls Tryz.prog 187 #[.pointer (some ⟨g, 0, none⟩), .int .u8 62] W fun e w' => e = .returned (.bool false) ∧ Fz (· = g) W w' ∧ PS w' g b o cap xs (n + rnN eSep xs n) k s nm ats sg cl := fun W h => by
  have := takeP_any W h 62
  unfold tkN at this
  rw [ht] at this
  exact this
 have CD := fun W (h : PS W g b o cap xs (n + rnN eSep xs n) k s nm ats sg cl) => isDone_any g b o xs.length cap (n + rnN eSep xs n) k s nm ats sg cl W h.c
 have hok : ∀ w', Fz (· = g) w w' → PS w' g b o cap xs (n + rnN eSep xs n) k s nm ats sg cl → FinNo w g b o cap n xs k s nm ats sg cl (.returned (.bool (((n + rnN eSep xs n : Nat) : Int) == (xs.length : Int)))) w' := fun w' h1 h2 => ⟨rfl, h1, h2⟩
 obtain ⟨Q, hQ⟩ : ∃ Q, FinNo w g b o cap n xs k s nm ats sg cl = Q := ⟨_, rfl⟩
 rw [hQ] at hok ⊢
 obtain ⟨DN, hDN⟩ : ∃ b : Bool, (((n + rnN eSep xs n : Nat) : Int) == (xs.length : Int)) = b := ⟨_, rfl⟩
 rw [hDN] at hok
 simp only [hDN] at CD
 have HH := Lib.hid (And.intro CM (And.intro CU (And.intro CT (And.intro CD (And.intro hok hp)))))
 clear CM CU CT CD hok hp ht hQ hDN
 go_enter Tryz.func163, Tryz.ntmps163
 go_wp2_with fail
 go_region_with (first
  | (go_at_call 186; refine (HH.out.1 _).mono ?_; rintro r w1 ⟨gs, rfl, hx1, hb1⟩)
  | (go_at_call 184; refine (HH.out.2.1 _ _ ?_ ?_).mono ?_; exact HH.out.2.2.2.2.2.drew.on (by first | exact hb1 | exact hb1.drew); exact hx1; rintro r w2 ⟨A2, c2, rfl, hy2, f2, p2⟩))
 have b1 : Below w.heap.size w w1 := by first | exact (Below.refl _ _).drew.trans hb1 | exact hb1
 have H2 := Lib.hid (And.intro ((Fz.of_below (X := (· = g)) b1).trans f2) p2)
 clear hx1 hb1 b1 f2 p2 hy2
 go_wp2_with fail
 refine (HH.out.2.2.1 _ H2.out.2).mono ?_
 rintro r w3 ⟨rfl, f3, p3⟩
 have H3 := Lib.hid (And.intro (H2.out.1.trans f3) p3)
 clear f3 p3
 go_wp2_with fail
 refine (HH.out.2.2.2.1 _ H3.out.2).mono ?_
 rintro r w4 ⟨rfl, m, e⟩
 obtain rfl := e.symm
 go_wp2_with fail
 exact HH.out.2.2.2.2.1 _ (H3.out.1.drewN m) (H3.out.2.on (below_drewN (Below.refl _ _) m))
theorem finYes_any (g b o cap n : Nat) (xs : List Nat) (k s nm ats sg cl : Value) (w : World) (hp : PS w g b o cap xs n k s nm ats sg cl) (ht : tkB xs (n + rnN eSep xs n) 62 = true) :
  Calls Tryz.prog 163 #[.pointer (some ⟨g, 0, none⟩)] w (FinYes w g b o cap n xs k s nm ats) := by
 have CM := fun W => mkN_any ⟨#[9, 10, 12, 13, 32, 47]⟩ W
 have CU := fun W gs (h : PS W g b o cap xs n k s nm ats sg cl) (hs : Cells W gs 9 #[strV [9, 10, 12, 13, 32, 47]]) => untN_any W h [9, 10, 12, 13, 32, 47] (by decide) eSep con_sep gs hs
 have CT : ∀ W, PS W g b o cap xs (n + rnN eSep xs n) k s nm ats sg cl → Calls Tryz.prog 187 #[.pointer (some ⟨g, 0, none⟩), .int .u8 62] W fun e w' => e = .returned (.bool true) ∧ Fz (· = g) W w' ∧ PS w' g b o cap xs (n + rnN eSep xs n + 1) k s nm ats sg cl := fun W h => by
  have := takeP_any W h 62
  unfold tkN at this
  rw [ht] at this
  exact this
 have CS := fun W (A A2 : Option Addr) (cap c2 B B2 : Nat) (h : BY W B (runW eSep (xs.drop n)) A cap) (h2 : BY W B2 [47] A2 c2) => hasSuf_any W _ A A2 cap c2 B B2 h h2
 rw [show (runW eSep (xs.drop n)).length = rnN eSep xs n from rfl] at CS
 have hok : ∀ w', Fz (· = g) w w' → PS w' g b o cap xs (n + rnN eSep xs n + 1) k s nm ats (.bool ((runW eSep (xs.drop n)).getLast? == some 47)) (.bool true) → FinYes w g b o cap n xs k s nm ats (.returned (.bool true)) w' := fun w' h1 h2 => ⟨rfl, h1, h2⟩
 obtain ⟨Q, hQ⟩ : ∃ Q, FinYes w g b o cap n xs k s nm ats = Q := ⟨_, rfl⟩
 rw [hQ] at hok ⊢
 generalize ((runW eSep (xs.drop n)).getLast? == some 47) = SG at *
 have HH := Lib.hid (And.intro CM (And.intro CU (And.intro CT (And.intro CS (And.intro hok hp)))))
 clear CM CU CT CS hok hp ht hQ
 go_enter Tryz.func163, Tryz.ntmps163
 go_wp2_with fail
 go_region_with (first
  | (go_at_call 186; refine (HH.out.1 _).mono ?_; rintro r w1 ⟨gs, rfl, hx1, hb1⟩)
  | (go_at_call 184; refine (HH.out.2.1 _ _ ?_ ?_).mono ?_; exact HH.out.2.2.2.2.2.drew.on (by first | exact hb1 | exact hb1.drew); exact hx1; rintro r w2 ⟨A2, c2, rfl, hy2, f2, p2⟩))
 have b1 : Below w.heap.size w w1 := by first | exact (Below.refl _ _).drew.trans hb1 | exact hb1
 have H2 := Lib.hid (And.intro ((Fz.of_below (X := (· = g)) b1).trans f2) (And.intro p2 hy2))
 clear hx1 hb1 b1 f2 p2 hy2
 go_wp2_with fail
 refine (HH.out.2.2.1 _ H2.out.2.1).mono ?_
 rintro r w3 ⟨rfl, f3, p3⟩
 have y3 := fzy H2.out.2.2 f3 H2.out.2.1.c.lt
 have fr7 := p3.c.froz 7
 have q7 := p3.c.cell 7
 have fr6 := p3.c.froz 6
 have q6 := p3.c.cell 6
 simp [PCs] at q7 q6
 have hg3 := p3.c.lt
 obtain ⟨W4, hW4⟩ : ∃ W, w3.setCell ⟨g, 7, none⟩ (.bool true) = W := ⟨_, rfl⟩
 have p4 : PS W4 g b o cap xs (n + rnN eSep xs n + 1) k s nm ats sg (.bool true) := by rw [← hW4]; exact p3.set 7 _ rfl
 have f4 : Fz (· = g) w3 W4 := by rw [← hW4]; exact Fz.set _ _ _ _ rfl
 have y4 := fzy y3 f4 hg3
 have v1 : (convert 22 22 (.slice (some ⟨W4.heap.size, 0, none⟩) 1 1)).run Tryz.prog (W4.alloc (.cells #[.int .u8 47] 5)) = .ok (.slice (some ⟨W4.heap.size, 0, none⟩) 1 1) (W4.alloc (.cells #[.int .u8 47] 5 (1, 2))) := Lib.run_convert_bytes_const W4 22 5 _ 1 1 Tryz.underlying22 Tryz.underlying5
 obtain ⟨W5, hW5⟩ : ∃ W, W4.alloc (.cells #[.int .u8 47] 5 (1, 2)) = W := ⟨_, rfl⟩
 rw [hW5] at v1
 have b5 : Below W4.heap.size W4 W5 := by rw [← hW5]; exact below_new _ _
 have p5 := p4.on b5
 have y5 := y4.below (b5.mono (Nat.le_of_lt p4.c.lt))
 have z5 : BY W5 W5.heap.size [47] (some ⟨W4.heap.size, 0, none⟩) 1 := by
  refine ⟨Nat.le_refl _, by unfold maxLen; omega, (fun e => nomatch e), (by decide), fun _ => ⟨W4.heap.size, 0, rfl, by rw [← hW5]; simp, fun i x hx => ?_⟩⟩
  cases i with
  | zero =>
   simp at hx
   subst hx
   rw [← hW5]
   exact (Cells'.cell ⟨_, heap_alloc_new W4 _⟩ 0).trans rfl
  | succ i => simp at hx
 have C5 := HH.out.2.2.2.1 W5 A2 _ c2 1 g W5.heap.size y5 z5
 have fr6 := p5.c.froz 6
 have q6 := p5.c.cell 6
 simp [PCs] at q6
 have H5 := Lib.hid (And.intro (H2.out.1.trans (f3.trans (f4.trans (Fz.of_below b5)))) (And.intro p5 C5))
 clear f3 p3 y3 p4 y4 b5 p5 y5 z5 C5 f4 hW5
 go_wp2_with fail
 refine H5.out.2.2.mono ?_
 rintro r w6 ⟨rfl, e⟩
 obtain rfl := e.symm
 go_wp2_with fail
 exact HH.out.2.2.2.2.1 _ (H5.out.1.trans (Fz.set _ _ _ _ rfl)) (H5.out.2.1.set 6 _ rfl)
theorem isPrefixOf_map (l m : List Nat) (hl : ∀ x ∈ l, x < 256) (hm : ∀ x ∈ m, x < 256) : (u8s l).isPrefixOf (u8s m) = l.isPrefixOf m := by
 induction l generalizing m with
 | nil => rfl
 | cons a l ih =>
  cases m with
  | nil => rfl
  | cons b m =>
   have e : (UInt8.ofNat a == UInt8.ofNat b) = (a == b) := by
    rw [Bool.eq_iff_iff]
    simp only [beq_iff_eq]
    exact ⟨fun h => ofNat_inj (hl a (by simp)) (hm b (by simp)) h, fun h => by rw [h]⟩
   show (UInt8.ofNat a == UInt8.ofNat b && (u8s l).isPrefixOf (u8s m)) = (a == b && l.isPrefixOf m)
   rw [e, ih m (fun x hx => hl x (by simp [hx])) (fun x hx => hm x (by simp [hx]))]
def upGo (N kind : Nat) (e : List Nat) : List Nat → TG
 | [] => ⟨kind, N, [], [], false, false⟩
 | c :: t => if e.isPrefixOf (c :: t) = true then ⟨kind, N - (t.length + 1) + e.length, [], [], false, true⟩ else upGo N kind e t
theorem up_index (N kind : Nat) (e : List Nat) (he : e ≠ []) (h256 : ∀ x ∈ e, x < 256) : ∀ (l : List Nat), (∀ x ∈ l, x < 256) → l.length ≤ N →
  (Lib.index (u8s l) (u8s e) = -1 ∧ upGo N kind e l = ⟨kind, N, [], [], false, false⟩) ∨ (∃ k : Nat, Lib.index (u8s l) (u8s e) = (k : Int) ∧ upGo N kind e l = ⟨kind, N - l.length + k + e.length, [], [], false, true⟩ ∧ k + e.length ≤ l.length)
 | [], _, _ => by
  left
  refine ⟨?_, rfl⟩
  cases e with
  | nil => exact absurd rfl he
  | cons c t => rfl
 | c :: t, hl, hN => by
  have ih := up_index N kind e he h256 t (fun x hx => hl x (by simp [hx])) (by simp at hN; omega)
  have hp := isPrefixOf_map e (c :: t) h256 hl
  have hu : u8s (c :: t) = UInt8.ofNat c :: u8s t := rfl
  rw [hu] at hp ⊢
  rw [Lib.index, upGo, hp]
  by_cases h : e.isPrefixOf (c :: t) = true
  ·right
   refine ⟨0, by rw [if_pos h]; rfl, by rw [if_pos h]; simp, ?_⟩
   have := (List.isPrefixOf_iff_prefix.1 h).length_le
   omega
  ·rw [if_neg h, if_neg h]
   rcases ih with ⟨h1, h2⟩ | ⟨k, h1, h2, h3⟩
   ·left
    rw [h1]
    exact ⟨by simp, h2⟩
   ·right
    rw [h1]
    refine ⟨k + 1, ?_, ?_, by simp; omega⟩
    ·have : ((k : Int) == -1) = false := by rw [beq_eq_false_iff_ne]; omega
     rw [this]
     simp
    ·rw [h2]
     simp at hN ⊢
     omega
def rdT (l : List Nat) : Option TG := match l with
 | d :: c :: t => if d ≠ 60 then none
  else if ltrB c = true then some (refGo (t.length + 2) 0 rs0 (c :: t))
  else if c = 47 ∧ (t.head?.map ltrB) = some true then some (refGo (t.length + 2) 1 rs0 t)
  else if c = 33 ∧ t.take 2 = [45, 45] then some (upGo (t.length + 2) 2 [45, 45, 62] (t.drop 2))
  else if c = 33 ∨ c = 63 ∨ c = 47 then some (upGo (t.length + 2) 3 [62] t) else none
 | _ => none
def tg0 : TG := ⟨0, 0, [], [], false, false⟩
def declB (c : Nat) : Bool := ([33, 63, 47] : List Nat).contains c
def begB (pre : List Nat) (p : Nat → Bool) (l : List Nat) : Bool := l.take pre.length == pre && (l[pre.length]?.map p).getD false
theorem beginsL_any (b o cap : Nat) (xs : List Nat) (w : World) (hb : BY w w.heap.size xs (some ⟨b, o, none⟩) cap) :
  Calls Tryz.prog 124 #[.slice (some ⟨b, o, none⟩) xs.length cap, .string ⟨#[60]⟩, .func (Fn.func 125) #[] #[]] w fun e w' => e = .returned (.bool (begB [60] ltrB xs)) ∧ w' = w := by
 have hlen := hb.len
 have hcap := hb.l
 by_cases hl : 1 < xs.length
 ·obtain ⟨c, hc⟩ := at_lt (l := xs) (k := 1) hl
  obtain ⟨b', o', e', _, d1⟩ := hb.at hc
  obtain ⟨rfl, rfl⟩ : b = b' ∧ o = o' := by simpa using e'
  have htl : (xs.take 1).length = 1 := by simp; omega
  have hcv : (convert 22 9 (.slice (some ⟨b, o, none⟩) 1 cap)).run Tryz.prog w = .ok (.string ⟨(u8s (xs.take 1)).toArray⟩) w := by
   have h := conv_by (hb.take 1)
   rw [htl] at h
   exact h
  have h256 : ∀ x ∈ xs.take 1, x < 256 := fun x hx => hb.i x (List.mem_of_mem_take hx)
  have hR : begB [60] ltrB xs = (xs.take 1 == [60] && (ltrB) c) := by
   unfold begB
   rw [show ([60] : List Nat).length = 1 from rfl, hc]
   rfl
  rw [hR]
  have HC := Lib.hid (isLetter_any c)
  generalize xs.take 1 = tk at *
  generalize xs.length = N at *
  have i1 : (1 : Int) < (N : Int) := by omega
  have i2 : (1 : Int) ≤ (N : Int) := by omega
  clear hb hc e' hR htl
  generalize (ltrB) c = PC at *
  by_cases h60 : tk = [60]
  ·subst h60
   go_enter Tryz.func124, Tryz.ntmps124
   go_wp2_with (first | (go_at_call 125; refine (HC.out _).mono ?_; rintro r w1 ⟨rfl, e37⟩; obtain rfl := e37.symm; clear e37) | fail)
   go_ret
   exact ⟨rfl, rfl⟩
  ·have hbe : (tk == [60]) = false := by rw [beq_eq_false_iff_ne]; exact h60
   have hne : ¬ u8s tk = u8s [60] := fun e => h60 (u8s_inj h256 (by decide) e)
   rw [hbe]
   obtain ⟨SA, hSA⟩ : ∃ S : ByteArray, ⟨(u8s tk).toArray⟩ = S := ⟨_, rfl⟩
   rw [hSA] at hcv
   have hl1 : (SA.toList == [60]) = false := by
    rw [beq_eq_false_iff_ne, ← hSA]
    intro e
    apply hne
    have : (⟨(u8s tk).toArray⟩ : ByteArray).toList = u8s tk := by first | exact ByteArray.toList_mk _ | simp
    rw [← this, e]
    rfl
   clear hne h60 hbe h256 hSA
   go_enter Tryz.func124, Tryz.ntmps124
   go_wp2_with (first | (go_at_call 125; refine (HC.out _).mono ?_; rintro r w1 ⟨rfl, e37⟩; obtain rfl := e37.symm; clear e37) | fail)
   go_ret
   exact ⟨rfl, rfl⟩
 ·have hR : begB [60] ltrB xs = false := by
   unfold begB
   rw [show ([60] : List Nat).length = 1 from rfl, List.getElem?_eq_none (by omega)]
   simp
  rw [hR]
  generalize xs.length = N at *
  have i1 : ¬ (1 : Int) < (N : Int) := by omega
  clear hb hR
  go_enter Tryz.func124, Tryz.ntmps124
  go_wp2_with fail
  go_ret
  exact ⟨rfl, rfl⟩
theorem beginsE_any (b o cap : Nat) (xs : List Nat) (w : World) (hb : BY w w.heap.size xs (some ⟨b, o, none⟩) cap) :
  Calls Tryz.prog 124 #[.slice (some ⟨b, o, none⟩) xs.length cap, .string ⟨#[60, 47]⟩, .func (Fn.func 125) #[] #[]] w fun e w' => e = .returned (.bool (begB [60, 47] ltrB xs)) ∧ w' = w := by
 have hlen := hb.len
 have hcap := hb.l
 by_cases hl : 2 < xs.length
 ·obtain ⟨c, hc⟩ := at_lt (l := xs) (k := 2) hl
  obtain ⟨b', o', e', _, d1⟩ := hb.at hc
  obtain ⟨rfl, rfl⟩ : b = b' ∧ o = o' := by simpa using e'
  have htl : (xs.take 2).length = 2 := by simp; omega
  have hcv : (convert 22 9 (.slice (some ⟨b, o, none⟩) 2 cap)).run Tryz.prog w = .ok (.string ⟨(u8s (xs.take 2)).toArray⟩) w := by
   have h := conv_by (hb.take 2)
   rw [htl] at h
   exact h
  have h256 : ∀ x ∈ xs.take 2, x < 256 := fun x hx => hb.i x (List.mem_of_mem_take hx)
  have hR : begB [60, 47] ltrB xs = (xs.take 2 == [60, 47] && (ltrB) c) := by
   unfold begB
   rw [show ([60, 47] : List Nat).length = 2 from rfl, hc]
   rfl
  rw [hR]
  have HC := Lib.hid (isLetter_any c)
  generalize xs.take 2 = tk at *
  generalize xs.length = N at *
  have i1 : (2 : Int) < (N : Int) := by omega
  have i2 : (2 : Int) ≤ (N : Int) := by omega
  clear hb hc e' hR htl
  generalize (ltrB) c = PC at *
  by_cases h60 : tk = [60, 47]
  ·subst h60
   go_enter Tryz.func124, Tryz.ntmps124
   go_wp2_with (first | (go_at_call 125; refine (HC.out _).mono ?_; rintro r w1 ⟨rfl, e37⟩; obtain rfl := e37.symm; clear e37) | fail)
   go_ret
   exact ⟨rfl, rfl⟩
  ·have hbe : (tk == [60, 47]) = false := by rw [beq_eq_false_iff_ne]; exact h60
   have hne : ¬ u8s tk = u8s [60, 47] := fun e => h60 (u8s_inj h256 (by decide) e)
   rw [hbe]
   obtain ⟨SA, hSA⟩ : ∃ S : ByteArray, ⟨(u8s tk).toArray⟩ = S := ⟨_, rfl⟩
   rw [hSA] at hcv
   have hl1 : (SA.toList == [60, 47]) = false := by
    rw [beq_eq_false_iff_ne, ← hSA]
    intro e
    apply hne
    have : (⟨(u8s tk).toArray⟩ : ByteArray).toList = u8s tk := by first | exact ByteArray.toList_mk _ | simp
    rw [← this, e]
    rfl
   clear hne h60 hbe h256 hSA
   go_enter Tryz.func124, Tryz.ntmps124
   go_wp2_with (first | (go_at_call 125; refine (HC.out _).mono ?_; rintro r w1 ⟨rfl, e37⟩; obtain rfl := e37.symm; clear e37) | fail)
   go_ret
   exact ⟨rfl, rfl⟩
 ·have hR : begB [60, 47] ltrB xs = false := by
   unfold begB
   rw [show ([60, 47] : List Nat).length = 2 from rfl, List.getElem?_eq_none (by omega)]
   simp
  rw [hR]
  generalize xs.length = N at *
  have i1 : ¬ (2 : Int) < (N : Int) := by omega
  clear hb hR
  go_enter Tryz.func124, Tryz.ntmps124
  go_wp2_with fail
  go_ret
  exact ⟨rfl, rfl⟩
theorem beginsD_any (b o cap : Nat) (xs : List Nat) (w : World) (hb : BY w w.heap.size xs (some ⟨b, o, none⟩) cap) (gs : Nat) (hs : Cells w gs 9 #[strV [33, 63, 47]]) :
  Calls Tryz.prog 124 #[.slice (some ⟨b, o, none⟩) xs.length cap, .string ⟨#[60]⟩, .func (Fn.func 167) #[] #[.pointer (some ⟨gs, 0, none⟩)]] w fun e w' => e = .returned (.bool (begB [60] declB xs)) ∧ Below w.heap.size w w' := by
 have hlen := hb.len
 have hcap := hb.l
 by_cases hl : 1 < xs.length
 ·obtain ⟨c, hc⟩ := at_lt (l := xs) (k := 1) hl
  obtain ⟨b', o', e', _, d1⟩ := hb.at hc
  obtain ⟨rfl, rfl⟩ : b = b' ∧ o = o' := by simpa using e'
  have htl : (xs.take 1).length = 1 := by simp; omega
  have hcv : (convert 22 9 (.slice (some ⟨b, o, none⟩) 1 cap)).run Tryz.prog w = .ok (.string ⟨(u8s (xs.take 1)).toArray⟩) w := by
   have h := conv_by (hb.take 1)
   rw [htl] at h
   exact h
  have h256 : ∀ x ∈ xs.take 1, x < 256 := fun x hx => hb.i x (List.mem_of_mem_take hx)
  have hR : begB [60] declB xs = (xs.take 1 == [60] && (declB) c) := by
   unfold begB
   rw [show ([60] : List Nat).length = 1 from rfl, hc]
   rfl
  rw [hR]
  have HC := Lib.hid (show Calls Tryz.prog 167 #[.int .u8 (c : Int), .pointer (some ⟨gs, 0, none⟩)] w (fun e w' => e = .returned (.bool (declB c)) ∧ Below w.heap.size w w') from one_any [33, 63, 47] (by decide) gs w hs c (hb.lt hc))
  generalize xs.take 1 = tk at *
  generalize xs.length = N at *
  have i1 : (1 : Int) < (N : Int) := by omega
  have i2 : (1 : Int) ≤ (N : Int) := by omega
  clear hb hc e' hR htl
  generalize (declB) c = PC at *
  by_cases h60 : tk = [60]
  ·subst h60
   go_enter Tryz.func124, Tryz.ntmps124
   go_wp2_with (first | (go_at_call 167; refine HC.out.mono ?_; rintro r w1 ⟨rfl, hb1⟩) | fail)
   go_ret
   exact ⟨rfl, hb1⟩
  ·have hbe : (tk == [60]) = false := by rw [beq_eq_false_iff_ne]; exact h60
   have hne : ¬ u8s tk = u8s [60] := fun e => h60 (u8s_inj h256 (by decide) e)
   rw [hbe]
   obtain ⟨SA, hSA⟩ : ∃ S : ByteArray, ⟨(u8s tk).toArray⟩ = S := ⟨_, rfl⟩
   rw [hSA] at hcv
   have hl1 : (SA.toList == [60]) = false := by
    rw [beq_eq_false_iff_ne, ← hSA]
    intro e
    apply hne
    have : (⟨(u8s tk).toArray⟩ : ByteArray).toList = u8s tk := by first | exact ByteArray.toList_mk _ | simp
    rw [← this, e]
    rfl
   clear hne h60 hbe h256 hSA
   go_enter Tryz.func124, Tryz.ntmps124
   go_wp2_with (first | (go_at_call 167; refine HC.out.mono ?_; rintro r w1 ⟨rfl, hb1⟩) | fail)
   go_ret
   exact ⟨rfl, Below.refl _ _⟩
 ·have hR : begB [60] declB xs = false := by
   unfold begB
   rw [show ([60] : List Nat).length = 1 from rfl, List.getElem?_eq_none (by omega)]
   simp
  rw [hR]
  generalize xs.length = N at *
  have i1 : ¬ (1 : Int) < (N : Int) := by omega
  clear hb hR
  go_enter Tryz.func124, Tryz.ntmps124
  go_wp2_with fail
  go_ret
  exact ⟨rfl, Below.refl _ _⟩
def attP (xs : List Nat) (n : Nat) : Nat := n + 1 + rnN eAttr xs (n + 1) + rnN eBlk xs (n + 1 + rnN eAttr xs (n + 1))
def attV (xs : List Nat) (n : Nat) : Nat := attP xs n + 1 + rnN eBlk xs (attP xs n + 1)
theorem attN_at {xs : List Nat} {n : Nat} (_h : n < xs.length) : attrN (xs.drop n) = nameL eAttr xs n (n + 1) := by
 unfold attrN nameL
 congr 1
 have e1 : (xs.take (n + 1 + rnN eAttr xs (n + 1))).drop n = (xs.drop n).take (1 + rnN eAttr xs (n + 1)) := by
  rw [List.drop_take]
  congr 1
  omega
 rw [e1, List.take_add, List.drop_drop]
 congr 1
 exact runW_eq_take _ _
theorem attP_at (xs : List Nat) (n : Nat) : attrP (xs.drop n) = xs.drop (attP xs n) := by
 unfold attrP attP
 rw [rnN_drop, rnN_drop, List.drop_drop]
theorem attrR_at {xs : List Nat} {n : Nat} (h : n < xs.length) : attrR (xs.drop n) = if tkB xs (attP xs n) 61 = true then ((nameL eAttr xs n (n + 1), valL xs (attV xs n)), xs.drop (valN xs (attV xs n))) else ((nameL eAttr xs n (n + 1), []), xs.drop (attP xs n)) := by
 unfold attrR
 rw [attP_at, attN_at h]
 have hb : tkB xs (attP xs n) 61 = ((xs.drop (attP xs n)).head? == some 61) := tkB_drop
 rw [hb]
 cases e : xs.drop (attP xs n) with
 | nil => simp
 | cons c t =>
  have ht : t = xs.drop (attP xs n + 1) := by rw [← List.drop_drop, e]; rfl
  by_cases hc : c = 61
  ·subst hc
   simp only [if_true, List.head?_cons, beq_self_eq_true]
   rw [ht, ← rnN_drop]
   have := valueR_at xs (attV xs n)
   unfold attV at this
   rw [this]
   rfl
  ·simp [hc]
theorem Fz.setNew {X : Nat → Prop} {w w' : World} (h : Fz X w w') {k : Nat} (hk : w.heap.size ≤ k) (i : Nat) (v : Value) : Fz X w (w'.setCell ⟨k, i, none⟩ v) :=
 ⟨h.os, h.tape, h.output, by simpa using h.size, fun j hj hn => by
  rw [← h.block j hj hn]
  have : k ≠ j := by omega
  simp [World.setCell, Array.getElem?_modify, this]⟩
theorem PS.other {w w' : World} {X : Nat → Prop} {g b o cap : Nat} {xs : List Nat} {n : Nat} {k s nm ats sg cl : Value} (h : PS w g b o cap xs n k s nm ats sg cl) (hf : Fz X w w') (hX : ∀ j, j ≤ g → ¬ X j) : PS w' g b o cap xs n k s nm ats sg cl :=
 ⟨hf.cells (hX g (Nat.le_refl _)) h.c, h.y.fz hf (Nat.le_of_lt h.c.lt) (fun j hj => hX j (Nat.le_of_lt hj)), h.n⟩
theorem PS.setNew {w : World} {g b o cap : Nat} {xs : List Nat} {n : Nat} {k s nm ats sg cl : Value} (h : PS w g b o cap xs n k s nm ats sg cl) {j : Nat} (hj : g < j) (i : Nat) (v : Value) : PS (w.setCell ⟨j, i, none⟩ v) g b o cap xs n k s nm ats sg cl :=
 h.other (Fz.set (X := (· = j)) _ _ _ _ rfl) (fun m hm e => by omega)
def AttOk (w : World) (g b o cap : Nat) (xs : List Nat) (k s nm ats sg cl : Value) (N V : List Nat) (m : Nat) (e : Ending) (w' : World) : Prop :=
 e = .returned (.agg #[strV N, strV V]) ∧ Fz (· = g) w w' ∧ PS w' g b o cap xs m k s nm ats sg cl
theorem attNo_any (g b o cap n : Nat) (xs : List Nat) (k s nm ats sg cl : Value) (w : World) (hp : PS w g b o cap xs n k s nm ats sg cl) (hn : n < xs.length) (hl : xs.length ≤ 100000) (ht : tkB xs (attP xs n) 61 = false) :
  Calls Tryz.prog 164 #[.pointer (some ⟨g, 0, none⟩)] w (AttOk w g b o cap xs k s nm ats sg cl (nameL eAttr xs n (n + 1)) [] (attP xs n)) := by
 have CN := fun W (h : PS W g b o cap xs (n + 1) k s nm ats sg cl) => nameA_any g b o cap n (n + 1) xs k s nm ats sg cl W h (by omega) hn hl
 have CM := fun W => mkN_any ⟨#[9, 10, 12, 13, 32]⟩ W
 have CU := fun W gs (h : PS W g b o cap xs (n + 1 + rnN eAttr xs (n + 1)) k s nm ats sg cl) (hs : Cells W gs 9 #[strV [9, 10, 12, 13, 32]]) => untN_any W h [9, 10, 12, 13, 32] (by decide) eBlk con_blk gs hs
 have CT : ∀ W, PS W g b o cap xs (attP xs n) k s nm ats sg cl → Calls Tryz.prog 187 #[.pointer (some ⟨g, 0, none⟩), .int .u8 61] W fun e w' => e = .returned (.bool false) ∧ Fz (· = g) W w' ∧ PS w' g b o cap xs (attP xs n) k s nm ats sg cl := fun W h => by
  have := takeP_any W h 61
  unfold tkN at this
  rw [ht] at this
  exact this
 have hok : ∀ w', Fz (· = g) w w' → PS w' g b o cap xs (attP xs n) k s nm ats sg cl → AttOk w g b o cap xs k s nm ats sg cl (nameL eAttr xs n (n + 1)) [] (attP xs n) (.returned (.agg #[strV (nameL eAttr xs n (n + 1)), strV []])) w' := fun w' h1 h2 => ⟨rfl, h1, h2⟩
 obtain ⟨Q, hQ⟩ : ∃ Q, AttOk w g b o cap xs k s nm ats sg cl (nameL eAttr xs n (n + 1)) [] (attP xs n) = Q := ⟨_, rfl⟩
 rw [hQ] at hok ⊢
 unfold NameOk strV at CN
 unfold strV at hok
 generalize (⟨(u8s (nameL eAttr xs n (n + 1))).toArray⟩ : ByteArray) = NB at *
 have hlen := hp.y.len
 have e1 : IntKind.i64.wrap ((n : Int) + 1) = (n : Int) + 1 := IntWalk.i64_in _ (by omega)
 have q1 := hp.c.cell 1
 simp [PCs] at q1
 have fr1 := hp.c.froz 1
 have hg := hp.c.lt
 have hn1 : n + 1 ≤ xs.length := hn
 have HH := Lib.hid (And.intro CN (And.intro CM (And.intro CU (And.intro CT (And.intro hok (And.intro hp hn1))))))
 clear CN CM CU CT hok hp hQ ht hn hn1 hl hlen
 obtain ⟨W1, hW1⟩ : ∃ W, (w.setCell ⟨g, 1, none⟩ (.int .i64 ((n : Int) + 1))).alloc (.cells #[.string ⟨#[]⟩, .string ⟨#[]⟩] 212) = W := ⟨_, rfl⟩
 have f1 : Fz (· = g) w W1 := by rw [← hW1]; exact (Fz.set (X := (· = g)) _ _ _ _ rfl).trans (Fz.of_below (below_new _ _))
 have p1 : PS W1 g b o cap xs (n + 1) k s nm ats sg cl := by
  have h0 : PS (w.setCell ⟨g, 1, none⟩ (.int .i64 ((n : Int) + 1))) g b o cap xs (n + 1) k s nm ats sg cl := ⟨HH.out.2.2.2.2.2.1.c.set 1 _, fzy HH.out.2.2.2.2.2.1.y (Fz.set _ _ _ _ rfl) hg, HH.out.2.2.2.2.2.2⟩
  rw [← hW1]
  exact h0.on (below_new _ _)
 have x1 : Cells W1 w.heap.size 212 #[.string ⟨#[]⟩, .string ⟨#[]⟩] := by
  have := cells_new (w.setCell ⟨g, 1, none⟩ (.int .i64 ((n : Int) + 1))) #[.string ⟨#[]⟩, .string ⟨#[]⟩] 212
  rw [hW1, World.size_setCell] at this
  exact this
 have hne : ¬ w.heap.size = g := by omega
 have H1 := Lib.hid (And.intro f1 (And.intro p1 (And.intro x1 hne)))
 clear f1 p1 x1 hne
 go_enter Tryz.func164, Tryz.ntmps164
 go_wp2_with fail
 refine (HH.out.1 W1 H1.out.2.1).mono ?_
 rintro r w2 ⟨rfl, f2, p2⟩
 clear hW1 q1 fr1
 have b3 := below_new w2 (.cells #[.string NB, .string ⟨#[]⟩] 212)
 have y3 := cells_new w2 #[.string NB, .string ⟨#[]⟩] 212
 have f13 := f2.trans (Fz.of_below b3)
 have x3 := f13.cells H1.out.2.2.2 H1.out.2.2.1
 have hs2 : w.heap.size ≤ w2.heap.size := Nat.le_trans H1.out.1.size f2.size
 have hb2 : w.heap.size ≠ w2.heap.size := by have := (f2.cells H1.out.2.2.2 H1.out.2.2.1).lt; omega
 have hgb : ¬ w2.heap.size = g := by have := p2.c.lt; omega
 have H3 := Lib.hid (And.intro (H1.out.1.trans f13) (And.intro (p2.on b3) (And.intro x3 (And.intro y3 (And.intro hs2 (And.intro hb2 hgb))))))
 clear f2 p2 b3 y3 f13 x3 hs2 hgb hb2
 go_wp2_with fail
 go_region_with (first
  | (go_at_call 186; refine (HH.out.2.1 _).mono ?_; rintro r w4 ⟨gs, rfl, hx4, hb4⟩)
  | (go_at_call 184; refine (HH.out.2.2.1 _ _ ?_ ?_).mono ?_; exact H3.out.2.1.drew.on hb4; exact hx4; rintro r w5 ⟨A5, c5, rfl, hy5, f5, p5⟩))
 have f35 : Fz (· = g) (w2.alloc (.cells #[.string NB, .string ⟨#[]⟩] 212)) w5 := (Fz.ofDrew (Fz.of_below hb4)).trans f5
 have H5 := Lib.hid (And.intro (H3.out.1.trans f35) (And.intro p5 (And.intro (f35.cells H1.out.2.2.2 H3.out.2.2.1) (f35.cells H3.out.2.2.2.2.2.2 H3.out.2.2.2.1))))
 clear hx4 hb4 hy5 f5 p5 f35
 go_wp2_with fail
 refine (HH.out.2.2.2.1 _ H5.out.2.1).mono ?_
 rintro r w6 ⟨rfl, f6, p6⟩
 have x6 := f6.cells H1.out.2.2.2 H5.out.2.2.1
 have y6 := f6.cells H3.out.2.2.2.2.2.2 H5.out.2.2.2
 have r0 := y6.cell 0
 have r1 := y6.cell 1
 have s0 := x6.cell 0
 have s1 := x6.cell 1
 have t0 := x6.froz 0
 have t1 := x6.froz 1
 simp at r0 r1 s0 s1
 have hb2 := H3.out.2.2.2.2.2.1
 have H6 := Lib.hid (And.intro (H5.out.1.trans f6) p6)
 clear f6 p6 x6 y6
 go_wp2_with fail
 refine bodyPost_ret (v := .agg #[.string NB, .string ⟨#[]⟩]) ?_ rfl ?_
 ·simp [results, Tryz.results164, go_sem, s0, s1]
 ·exact HH.out.2.2.2.2.1 _ ((H6.out.1.setNew (Nat.le_refl _) _ _).setNew (Nat.le_refl _) _ _) ((H6.out.2.setNew hg _ _).setNew hg _ _)
theorem attYes_any (g b o cap n : Nat) (xs : List Nat) (k s nm ats sg cl : Value) (w : World) (hp : PS w g b o cap xs n k s nm ats sg cl) (hn : n < xs.length) (hl : xs.length ≤ 100000) (ht : tkB xs (attP xs n) 61 = true) :
  Calls Tryz.prog 164 #[.pointer (some ⟨g, 0, none⟩)] w (AttOk w g b o cap xs k s nm ats sg cl (nameL eAttr xs n (n + 1)) (valL xs (attV xs n)) (valN xs (attV xs n))) := by
 have CN := fun W (h : PS W g b o cap xs (n + 1) k s nm ats sg cl) => nameA_any g b o cap n (n + 1) xs k s nm ats sg cl W h (by omega) hn hl
 have CM := fun W => mkN_any ⟨#[9, 10, 12, 13, 32]⟩ W
 have CU := fun W gs (h : PS W g b o cap xs (n + 1 + rnN eAttr xs (n + 1)) k s nm ats sg cl) (hs : Cells W gs 9 #[strV [9, 10, 12, 13, 32]]) => untN_any W h [9, 10, 12, 13, 32] (by decide) eBlk con_blk gs hs
 have CT : ∀ W, PS W g b o cap xs (attP xs n) k s nm ats sg cl → Calls Tryz.prog 187 #[.pointer (some ⟨g, 0, none⟩), .int .u8 61] W fun e w' => e = .returned (.bool true) ∧ Fz (· = g) W w' ∧ PS w' g b o cap xs (attP xs n + 1) k s nm ats sg cl := fun W h => by
  have := takeP_any W h 61
  unfold tkN at this
  rw [ht] at this
  exact this
 have CW := fun W gs (h : PS W g b o cap xs (attP xs n + 1) k s nm ats sg cl) (hs : Cells W gs 9 #[strV [9, 10, 12, 13, 32]]) => untN_any W h [9, 10, 12, 13, 32] (by decide) eBlk con_blk gs hs
 have CV := fun W (h : PS W g b o cap xs (attV xs n) k s nm ats sg cl) => value_any g b o cap (attV xs n) xs k s nm ats sg cl W h
 have hok : ∀ w', Fz (· = g) w w' → PS w' g b o cap xs (valN xs (attV xs n)) k s nm ats sg cl → AttOk w g b o cap xs k s nm ats sg cl (nameL eAttr xs n (n + 1)) (valL xs (attV xs n)) (valN xs (attV xs n)) (.returned (.agg #[strV (nameL eAttr xs n (n + 1)), strV (valL xs (attV xs n))])) w' := fun w' h1 h2 => ⟨rfl, h1, h2⟩
 obtain ⟨Q, hQ⟩ : ∃ Q, AttOk w g b o cap xs k s nm ats sg cl (nameL eAttr xs n (n + 1)) (valL xs (attV xs n)) (valN xs (attV xs n)) = Q := ⟨_, rfl⟩
 rw [hQ] at hok ⊢
 unfold NameOk strV at CN
 unfold ValOk strV at CV
 unfold strV at hok
 generalize (⟨(u8s (nameL eAttr xs n (n + 1))).toArray⟩ : ByteArray) = NB at *
 generalize (⟨(u8s (valL xs (attV xs n))).toArray⟩ : ByteArray) = VB at *
 have hlen := hp.y.len
 have e1 : IntKind.i64.wrap ((n : Int) + 1) = (n : Int) + 1 := IntWalk.i64_in _ (by omega)
 have q1 := hp.c.cell 1
 simp [PCs] at q1
 have fr1 := hp.c.froz 1
 have hg := hp.c.lt
 have hn1 : n + 1 ≤ xs.length := hn
 have HH := Lib.hid (And.intro CN (And.intro CM (And.intro CU (And.intro CT (And.intro hok (And.intro hp (And.intro hn1 (And.intro CW CV))))))))
 clear CN CM CU CT CW CV hok hp hQ ht hn hn1 hl hlen
 obtain ⟨W1, hW1⟩ : ∃ W, (w.setCell ⟨g, 1, none⟩ (.int .i64 ((n : Int) + 1))).alloc (.cells #[.string ⟨#[]⟩, .string ⟨#[]⟩] 212) = W := ⟨_, rfl⟩
 have f1 : Fz (· = g) w W1 := by rw [← hW1]; exact (Fz.set (X := (· = g)) _ _ _ _ rfl).trans (Fz.of_below (below_new _ _))
 have p1 : PS W1 g b o cap xs (n + 1) k s nm ats sg cl := by
  have h0 : PS (w.setCell ⟨g, 1, none⟩ (.int .i64 ((n : Int) + 1))) g b o cap xs (n + 1) k s nm ats sg cl := ⟨HH.out.2.2.2.2.2.1.c.set 1 _, fzy HH.out.2.2.2.2.2.1.y (Fz.set _ _ _ _ rfl) hg, HH.out.2.2.2.2.2.2.1⟩
  rw [← hW1]
  exact h0.on (below_new _ _)
 have x1 : Cells W1 w.heap.size 212 #[.string ⟨#[]⟩, .string ⟨#[]⟩] := by
  have := cells_new (w.setCell ⟨g, 1, none⟩ (.int .i64 ((n : Int) + 1))) #[.string ⟨#[]⟩, .string ⟨#[]⟩] 212
  rw [hW1, World.size_setCell] at this
  exact this
 have hne : ¬ w.heap.size = g := by omega
 have H1 := Lib.hid (And.intro f1 (And.intro p1 (And.intro x1 hne)))
 clear f1 p1 x1 hne
 go_enter Tryz.func164, Tryz.ntmps164
 go_wp2_with fail
 refine (HH.out.1 W1 H1.out.2.1).mono ?_
 rintro r w2 ⟨rfl, f2, p2⟩
 clear hW1 q1 fr1
 have b3 := below_new w2 (.cells #[.string NB, .string ⟨#[]⟩] 212)
 have y3 := cells_new w2 #[.string NB, .string ⟨#[]⟩] 212
 have f13 := f2.trans (Fz.of_below b3)
 have x3 := f13.cells H1.out.2.2.2 H1.out.2.2.1
 have hs2 : w.heap.size ≤ w2.heap.size := Nat.le_trans H1.out.1.size f2.size
 have hb2 : w.heap.size ≠ w2.heap.size := by have := (f2.cells H1.out.2.2.2 H1.out.2.2.1).lt; omega
 have hgb : ¬ w2.heap.size = g := by have := p2.c.lt; omega
 have H3 := Lib.hid (And.intro (H1.out.1.trans f13) (And.intro (p2.on b3) (And.intro x3 (And.intro y3 (And.intro hs2 (And.intro hb2 hgb))))))
 clear f2 p2 b3 y3 f13 x3 hs2 hgb hb2
 go_wp2_with fail
 go_region_with (first
  | (go_at_call 186; refine (HH.out.2.1 _).mono ?_; rintro r w4 ⟨gs, rfl, hx4, hb4⟩)
  | (go_at_call 184; refine (HH.out.2.2.1 _ _ ?_ ?_).mono ?_; exact H3.out.2.1.drew.on hb4; exact hx4; rintro r w5 ⟨A5, c5, rfl, hy5, f5, p5⟩))
 have f35 : Fz (· = g) (w2.alloc (.cells #[.string NB, .string ⟨#[]⟩] 212)) w5 := (Fz.ofDrew (Fz.of_below hb4)).trans f5
 have H5 := Lib.hid (And.intro (H3.out.1.trans f35) (And.intro p5 (And.intro (f35.cells H1.out.2.2.2 H3.out.2.2.1) (f35.cells H3.out.2.2.2.2.2.2 H3.out.2.2.2.1))))
 clear hx4 hb4 hy5 f5 p5 f35
 go_wp2_with fail
 refine (HH.out.2.2.2.1 _ H5.out.2.1).mono ?_
 rintro r w6 ⟨rfl, f6, p6⟩
 have H6 := Lib.hid (And.intro (H5.out.1.trans f6) (And.intro p6 (And.intro (f6.cells H1.out.2.2.2 H5.out.2.2.1) (f6.cells H3.out.2.2.2.2.2.2 H5.out.2.2.2))))
 clear f6 p6
 go_wp2_with fail
 go_region_with (first
  | (go_at_call 186; refine (HH.out.2.1 _).mono ?_; rintro r w7 ⟨gs7, rfl, hx7, hb7⟩)
  | (go_at_call 184; refine (HH.out.2.2.2.2.2.2.2.1 _ _ ?_ ?_).mono ?_; exact H6.out.2.1.drew.on hb7; exact hx7; rintro r w8 ⟨A8, c8, rfl, hy8, f8, p8⟩))
 have f68 : Fz (· = g) w6 w8 := (Fz.ofDrew (Fz.of_below hb7)).trans f8
 have H8 := Lib.hid (And.intro (H6.out.1.trans f68) (And.intro (show PS w8 g b o cap xs (attV xs n) k s nm ats sg cl from p8) (And.intro (f68.cells H1.out.2.2.2 H6.out.2.2.1) (f68.cells H3.out.2.2.2.2.2.2 H6.out.2.2.2))))
 clear hx7 hb7 hy8 f8 p8 f68
 go_wp2_with fail
 refine (HH.out.2.2.2.2.2.2.2.2 _ H8.out.2.1).mono ?_
 rintro r w9 ⟨rfl, f9, p9⟩
 have x9 := f9.cells H1.out.2.2.2 H8.out.2.2.1
 have y9 := f9.cells H3.out.2.2.2.2.2.2 H8.out.2.2.2
 have r0 := y9.cell 0
 have r1 := y9.cell 1
 have u1 := y9.froz 1
 have s0 := x9.cell 0
 have s1 := x9.cell 1
 have t0 := x9.froz 0
 have t1 := x9.froz 1
 simp at r0 r1 s0 s1
 have hb2 := H3.out.2.2.2.2.2.1
 have hg9 : g < w2.heap.size := Nat.lt_of_lt_of_le hg H3.out.2.2.2.2.1
 have H9 := Lib.hid (And.intro (H8.out.1.trans f9) (And.intro p9 (And.intro hg9 H3.out.2.2.2.2.1)))
 clear f9 p9 x9 y9 hg9
 go_wp2_with fail
 refine bodyPost_ret (v := .agg #[.string NB, .string VB]) ?_ rfl ?_
 ·simp [results, Tryz.results164, go_sem, s0, s1]
 ·exact HH.out.2.2.2.2.1 _ (((H9.out.1.setNew H9.out.2.2.2 _ _).setNew (Nat.le_refl _) _ _).setNew (Nat.le_refl _) _ _) (((H9.out.2.1.setNew H9.out.2.2.1 _ _).setNew hg _ _).setNew hg _ _)
end Go.Proofs.YtfafhbgkmlmmdaaGreatDoor.G
