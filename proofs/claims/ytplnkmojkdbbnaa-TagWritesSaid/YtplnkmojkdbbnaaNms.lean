/-
  Contracts: parser.name, for both kinds of names.
-/
import Derived.Test.YtplnkmojkdbbnaaNam
namespace Go.Proofs.Ytplnkmojkdbbnaa
open Go.RowKit Go.Shelf Go.Lib Go.Maps Go.Sort

/-- What name answers. -/
def NameOk (w : World) (g b o cap m n : Nat) (p : Nat → Bool) (xs : List Nat) (k s nm ats sg cl : Value) (e : Ending) (w' : World) : Prop :=
  e = .returned (strV (nameL p xs m n)) ∧ Fz (· = g) w w' ∧ PS w' g b o cap xs (n + rnN p xs n) k s nm ats sg cl

set_option maxHeartbeats 8000000 in
set_option maxRecDepth 100000 in
theorem nameT_any (g b o cap m n : Nat) (xs : List Nat) (k s nm ats sg cl : Value) (w : World) (hp : PS w g b o cap xs n k s nm ats sg cl) (hm : m ≤ n) (hmx : m < xs.length) (hl : xs.length ≤ 100000) :
    Calls Try.prog 30 #[.pointer (some ⟨g, 0, none⟩), .int .i64 (m : Int), .string ⟨#[47, 62]⟩] w (NameOk w g b o cap m n eName xs k s nm ats sg cl) := by
  have hcap := hp.y.l
  have CU := fun W gs (h : PS W g b o cap xs n k s nm ats sg cl) (hs : Cells W gs 9 #[strV [9, 10, 12, 13, 32, 47, 62]]) => untO_any W h [9, 10, 12, 13, 32, 47, 62] (by decide) eName con_name gs hs
  have CM := fun W => mkO_any (⟨#[9, 10, 12, 13, 32]⟩ ++ ⟨#[47, 62]⟩) W
  have es : (.string (⟨#[9, 10, 12, 13, 32]⟩ ++ ⟨#[47, 62]⟩) : Value) = strV [9, 10, 12, 13, 32, 47, 62] := by rfl
  have hle := rnN_le eName xs n hp.n
  have hnl : (xs.take (n + rnN eName xs n)).length = n + rnN eName xs n := by simp; omega
  have hll : ((xs.take (n + rnN eName xs n)).drop m).length = n + rnN eName xs n - m := by simp; omega
  have hsl := fun W => slice_win b o xs.length cap m (n + rnN eName xs n) (by omega) (by omega) (by omega) W
  have hok : ∀ w', Fz (· = g) w w' → PS w' g b o cap xs (n + rnN eName xs n) k s nm ats sg cl → NameOk w g b o cap m n eName xs k s nm ats sg cl (.returned (strV (nameL eName xs m n))) w' := fun w' h1 h2 => ⟨rfl, h1, h2⟩
  have hcv := fun W (h : PS W g b o cap xs (n + rnN eName xs n) k s nm ats sg cl) => conv_by (h.y.win m (n + rnN eName xs n) (by omega) hle)
  rw [hll] at hcv
  have h256 : ∀ x ∈ (xs.take (n + rnN eName xs n)).drop m, x < 256 := fun x hx => hp.y.i x (List.mem_of_mem_take (List.mem_of_mem_drop hx))
  have CL := fun W => lower_any ((xs.take (n + rnN eName xs n)).drop m) h256 (by omega) W
  unfold nameL at hok
  unfold UOk at CU
  obtain ⟨R, hR⟩ : ∃ R, n + rnN eName xs n = R := ⟨_, rfl⟩
  rw [hR] at hsl hok hcv CL
  simp only [hR] at CU
  obtain ⟨Q, hQ⟩ : ∃ Q, NameOk w g b o cap m n eName xs k s nm ats sg cl = Q := ⟨_, rfl⟩
  rw [hQ] at hok ⊢
  generalize (xs.take R).drop m = Y at *
  unfold strV at CL hok
  have HH := Lib.hid (And.intro CU (And.intro CM (And.intro es (And.intro CL (And.intro hok (And.intro hcv hp))))))
  have HS := Lib.hid (And.intro hsl (And.intro hR hcap))
  clear CU CM es CL hok hcv hp hsl hR hle hnl hll h256 hcap hQ hm hmx hl
  go_enter Try.func30, Try.ntmps30
  go_wp2_with fail
  go_region_with (first
    | (go_at_call 22; refine (HH.out.2.1 _).mono ?_; rintro r w1 ⟨gs, rfl, hx1, hb1⟩)
    | (go_at_call 39; refine (HH.out.1 _ _ ?_ ?_).mono ?_; exact HH.out.2.2.2.2.2.2.drew.on (by first | exact hb1 | exact hb1.drew); rw [← HH.out.2.2.1]; exact hx1; rintro r w2 ⟨A2, c2, rfl, hy2, hf2, hp2⟩))
  have b1 : Below w.heap.size w w1 := by first | exact (Below.refl _ _).drew.trans hb1 | exact hb1
  have hfz : Fz (· = g) w w2 := (Fz.of_below b1).trans hf2
  have q0 := hp2.c.cell 0
  have q1 := hp2.c.cell 1
  simp [PCs] at q0 q1
  have MC : ∀ d os, Calls Try.prog 15 #[.string ⟨(u8s Y).toArray⟩] (grow (redrawn w2 d) os) fun e w'' => e = .returned (.string ⟨(u8s (lowL Y)).toArray⟩) ∧ ∃ p : Regrown, w'' = grow (redrawn w2 p.d) p.os := fun d os => Calls.regrown_of (HH.out.2.2.2.1 _)
  have CV : ∀ d os, (convert 22 9 (.slice (some ⟨b, o + m, none⟩) (R - m) (cap - m))).run Try.prog (grow (redrawn w2 d) os) = .ok (.string ⟨(u8s Y).toArray⟩) (grow (redrawn w2 d) os) := fun d os => HH.out.2.2.2.2.2.1 _ (hp2.on (below_regrown w2 d os))
  have r0 := cell_regrown q0
  have r1 := cell_regrown q1
  have HF := Lib.hid (And.intro hfz hp2)
  have hsl := HS.out.1
  clear hy2 hf2 hp2 hx1 hb1 b1 hfz q0 q1
  go_wp2_with fail
  refine wp_region_quiet_below (by kernel_rfl) (by kernel_rfl) ?_
  repeat (go_big_quiet_step (exact MC _ _))
  refine wpQuiet_nil ?_
  intro _ hw'
  obtain ⟨⟨dq, osq⟩, hw''⟩ := hw'
  subst hw''
  clear r0 r1 MC CV hsl
  go_wp2_with fail
  exact HH.out.2.2.2.2.1 _ (HF.out.1.trans (Fz.of_below (below_regrown w2 dq osq))) (HF.out.2.on (below_regrown w2 dq osq))

set_option maxHeartbeats 8000000 in
set_option maxRecDepth 100000 in
theorem nameA_any (g b o cap m n : Nat) (xs : List Nat) (k s nm ats sg cl : Value) (w : World) (hp : PS w g b o cap xs n k s nm ats sg cl) (hm : m ≤ n) (hmx : m < xs.length) (hl : xs.length ≤ 100000) :
    Calls Try.prog 30 #[.pointer (some ⟨g, 0, none⟩), .int .i64 (m : Int), .string ⟨#[47, 62, 61]⟩] w (NameOk w g b o cap m n eAttr xs k s nm ats sg cl) := by
  have hcap := hp.y.l
  have CU := fun W gs (h : PS W g b o cap xs n k s nm ats sg cl) (hs : Cells W gs 9 #[strV [9, 10, 12, 13, 32, 47, 62, 61]]) => untO_any W h [9, 10, 12, 13, 32, 47, 62, 61] (by decide) eAttr con_attr gs hs
  have CM := fun W => mkO_any (⟨#[9, 10, 12, 13, 32]⟩ ++ ⟨#[47, 62, 61]⟩) W
  have es : (.string (⟨#[9, 10, 12, 13, 32]⟩ ++ ⟨#[47, 62, 61]⟩) : Value) = strV [9, 10, 12, 13, 32, 47, 62, 61] := by rfl
  have hle := rnN_le eAttr xs n hp.n
  have hnl : (xs.take (n + rnN eAttr xs n)).length = n + rnN eAttr xs n := by simp; omega
  have hll : ((xs.take (n + rnN eAttr xs n)).drop m).length = n + rnN eAttr xs n - m := by simp; omega
  have hsl := fun W => slice_win b o xs.length cap m (n + rnN eAttr xs n) (by omega) (by omega) (by omega) W
  have hok : ∀ w', Fz (· = g) w w' → PS w' g b o cap xs (n + rnN eAttr xs n) k s nm ats sg cl → NameOk w g b o cap m n eAttr xs k s nm ats sg cl (.returned (strV (nameL eAttr xs m n))) w' := fun w' h1 h2 => ⟨rfl, h1, h2⟩
  have hcv := fun W (h : PS W g b o cap xs (n + rnN eAttr xs n) k s nm ats sg cl) => conv_by (h.y.win m (n + rnN eAttr xs n) (by omega) hle)
  rw [hll] at hcv
  have h256 : ∀ x ∈ (xs.take (n + rnN eAttr xs n)).drop m, x < 256 := fun x hx => hp.y.i x (List.mem_of_mem_take (List.mem_of_mem_drop hx))
  have CL := fun W => lower_any ((xs.take (n + rnN eAttr xs n)).drop m) h256 (by omega) W
  unfold nameL at hok
  unfold UOk at CU
  obtain ⟨R, hR⟩ : ∃ R, n + rnN eAttr xs n = R := ⟨_, rfl⟩
  rw [hR] at hsl hok hcv CL
  simp only [hR] at CU
  obtain ⟨Q, hQ⟩ : ∃ Q, NameOk w g b o cap m n eAttr xs k s nm ats sg cl = Q := ⟨_, rfl⟩
  rw [hQ] at hok ⊢
  generalize (xs.take R).drop m = Y at *
  unfold strV at CL hok
  have HH := Lib.hid (And.intro CU (And.intro CM (And.intro es (And.intro CL (And.intro hok (And.intro hcv hp))))))
  have HS := Lib.hid (And.intro hsl (And.intro hR hcap))
  clear CU CM es CL hok hcv hp hsl hR hle hnl hll h256 hcap hQ hm hmx hl
  go_enter Try.func30, Try.ntmps30
  go_wp2_with fail
  go_region_with (first
    | (go_at_call 22; refine (HH.out.2.1 _).mono ?_; rintro r w1 ⟨gs, rfl, hx1, hb1⟩)
    | (go_at_call 39; refine (HH.out.1 _ _ ?_ ?_).mono ?_; exact HH.out.2.2.2.2.2.2.drew.on (by first | exact hb1 | exact hb1.drew); rw [← HH.out.2.2.1]; exact hx1; rintro r w2 ⟨A2, c2, rfl, hy2, hf2, hp2⟩))
  have b1 : Below w.heap.size w w1 := by first | exact (Below.refl _ _).drew.trans hb1 | exact hb1
  have hfz : Fz (· = g) w w2 := (Fz.of_below b1).trans hf2
  have q0 := hp2.c.cell 0
  have q1 := hp2.c.cell 1
  simp [PCs] at q0 q1
  have MC : ∀ d os, Calls Try.prog 15 #[.string ⟨(u8s Y).toArray⟩] (grow (redrawn w2 d) os) fun e w'' => e = .returned (.string ⟨(u8s (lowL Y)).toArray⟩) ∧ ∃ p : Regrown, w'' = grow (redrawn w2 p.d) p.os := fun d os => Calls.regrown_of (HH.out.2.2.2.1 _)
  have CV : ∀ d os, (convert 22 9 (.slice (some ⟨b, o + m, none⟩) (R - m) (cap - m))).run Try.prog (grow (redrawn w2 d) os) = .ok (.string ⟨(u8s Y).toArray⟩) (grow (redrawn w2 d) os) := fun d os => HH.out.2.2.2.2.2.1 _ (hp2.on (below_regrown w2 d os))
  have r0 := cell_regrown q0
  have r1 := cell_regrown q1
  have HF := Lib.hid (And.intro hfz hp2)
  have hsl := HS.out.1
  clear hy2 hf2 hp2 hx1 hb1 b1 hfz q0 q1
  go_wp2_with fail
  refine wp_region_quiet_below (by kernel_rfl) (by kernel_rfl) ?_
  repeat (go_big_quiet_step (exact MC _ _))
  refine wpQuiet_nil ?_
  intro _ hw'
  obtain ⟨⟨dq, osq⟩, hw''⟩ := hw'
  subst hw''
  clear r0 r1 MC CV hsl
  go_wp2_with fail
  exact HH.out.2.2.2.2.1 _ (HF.out.1.trans (Fz.of_below (below_regrown w2 dq osq))) (HF.out.2.on (below_regrown w2 dq osq))
end Go.Proofs.Ytplnkmojkdbbnaa
