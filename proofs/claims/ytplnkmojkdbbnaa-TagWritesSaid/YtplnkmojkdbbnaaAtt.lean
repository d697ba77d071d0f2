/-
  Contract: parser.attr.
-/
import Derived.Test.YtplnkmojkdbbnaaFin
namespace Go.Proofs.Ytplnkmojkdbbnaa
open Go.RowKit Go.Shelf Go.Lib Go.Maps Go.Sort

/-- Where an attribute's name, and what blanks follow it, end. -/
def attP (xs : List Nat) (n : Nat) : Nat := n + 1 + rnN eAttr xs (n + 1) + rnN eBlk xs (n + 1 + rnN eAttr xs (n + 1))
/-- Where its value begins. -/
def attV (xs : List Nat) (n : Nat) : Nat := attP xs n + 1 + rnN eBlk xs (attP xs n + 1)
theorem attP_le {xs : List Nat} {n : Nat} (h : n < xs.length) : attP xs n ≤ xs.length := rnN_le eBlk xs _ (rnN_le eAttr xs (n + 1) h)
theorem attN_at {xs : List Nat} {n : Nat} (_h : n < xs.length) : attrN (xs.drop n) = nameL eAttr xs n (n + 1) := by
  unfold attrN nameL
  congr 1
  have e1 : (xs.take (n + 1 + rnN eAttr xs (n + 1))).drop n = (xs.drop n).take (1 + rnN eAttr xs (n + 1)) := by
    rw [List.drop_take]
    congr 1
    omega
  rw [e1, List.take_add, List.drop_drop]
  congr 1
  exact runW_eq_take _ _
theorem attP_at (xs : List Nat) (n : Nat) : attrP (xs.drop n) = xs.drop (attP xs n) := by
  unfold attrP attP
  rw [rnN_drop, rnN_drop, List.drop_drop]
theorem attrR_at {xs : List Nat} {n : Nat} (h : n < xs.length) : attrR (xs.drop n) = if tkB xs (attP xs n) 61 = true then ((nameL eAttr xs n (n + 1), valL xs (attV xs n)), xs.drop (valN xs (attV xs n))) else ((nameL eAttr xs n (n + 1), []), xs.drop (attP xs n)) := by
  unfold attrR
  rw [attP_at, attN_at h]
  have hb : tkB xs (attP xs n) 61 = ((xs.drop (attP xs n)).head? == some 61) := tkB_drop
  rw [hb]
  cases e : xs.drop (attP xs n) with
  | nil => simp
  | cons c t =>
    have ht : t = xs.drop (attP xs n + 1) := by rw [← List.drop_drop, e]; rfl
    by_cases hc : c = 61
    · subst hc
      simp only [if_true, List.head?_cons, beq_self_eq_true]
      rw [ht, ← rnN_drop]
      have := valueR_at xs (attV xs n)
      unfold attV at this
      rw [this]
      rfl
    · simp [hc]
theorem Fz.setNew {X : Nat → Prop} {w w' : World} (h : Fz X w w') {k : Nat} (hk : w.heap.size ≤ k) (i : Nat) (v : Value) : Fz X w (w'.setCell ⟨k, i, none⟩ v) :=
  ⟨h.os, h.tape, h.output, by simpa using h.size, fun j hj hn => by
    rw [← h.block j hj hn]
    have : k ≠ j := by omega
    simp [World.setCell, Array.getElem?_modify, this]⟩
theorem PS.other {w w' : World} {X : Nat → Prop} {g b o cap : Nat} {xs : List Nat} {n : Nat} {k s nm ats sg cl : Value} (h : PS w g b o cap xs n k s nm ats sg cl) (hf : Fz X w w') (hX : ∀ j, j ≤ g → ¬ X j) : PS w' g b o cap xs n k s nm ats sg cl :=
  ⟨hf.cells (hX g (Nat.le_refl _)) h.c, h.y.fz hf (Nat.le_of_lt h.c.lt) (fun j hj => hX j (Nat.le_of_lt hj)), h.n⟩
theorem PS.setNew {w : World} {g b o cap : Nat} {xs : List Nat} {n : Nat} {k s nm ats sg cl : Value} (h : PS w g b o cap xs n k s nm ats sg cl) {j : Nat} (hj : g < j) (i : Nat) (v : Value) : PS (w.setCell ⟨j, i, none⟩ v) g b o cap xs n k s nm ats sg cl :=
  h.other (Fz.set (X := (· = j)) _ _ _ _ rfl) (fun m hm e => by omega)
/-- What attr answers. -/
def AttOk (w : World) (g b o cap : Nat) (xs : List Nat) (k s nm ats sg cl : Value) (N V : List Nat) (m : Nat) (e : Ending) (w' : World) : Prop :=
  e = .returned (.agg #[strV N, strV V]) ∧ Fz (· = g) w w' ∧ PS w' g b o cap xs m k s nm ats sg cl
set_option maxHeartbeats 8000000 in
set_option maxRecDepth 100000 in
theorem attNo_any (g b o cap n : Nat) (xs : List Nat) (k s nm ats sg cl : Value) (w : World) (hp : PS w g b o cap xs n k s nm ats sg cl) (hn : n < xs.length) (hl : xs.length ≤ 100000) (ht : tkB xs (attP xs n) 61 = false) :
    Calls Try.prog 32 #[.pointer (some ⟨g, 0, none⟩)] w (AttOk w g b o cap xs k s nm ats sg cl (nameL eAttr xs n (n + 1)) [] (attP xs n)) := by
  have CN := fun W (h : PS W g b o cap xs (n + 1) k s nm ats sg cl) => nameA_any g b o cap n (n + 1) xs k s nm ats sg cl W h (by omega) hn hl
  have CM := fun W => mkN_any ⟨#[9, 10, 12, 13, 32]⟩ W
  have CU := fun W gs (h : PS W g b o cap xs (n + 1 + rnN eAttr xs (n + 1)) k s nm ats sg cl) (hs : Cells W gs 9 #[strV [9, 10, 12, 13, 32]]) => untN_any W h [9, 10, 12, 13, 32] (by decide) eBlk con_blk gs hs
  have CT : ∀ W, PS W g b o cap xs (attP xs n) k s nm ats sg cl → Calls Try.prog 41 #[.pointer (some ⟨g, 0, none⟩), .int .u8 61] W fun e w' => e = .returned (.bool false) ∧ Fz (· = g) W w' ∧ PS w' g b o cap xs (attP xs n) k s nm ats sg cl := fun W h => by
    have := takeP_any W h 61
    unfold tkN at this
    rw [ht] at this
    exact this
  have hok : ∀ w', Fz (· = g) w w' → PS w' g b o cap xs (attP xs n) k s nm ats sg cl → AttOk w g b o cap xs k s nm ats sg cl (nameL eAttr xs n (n + 1)) [] (attP xs n) (.returned (.agg #[strV (nameL eAttr xs n (n + 1)), strV []])) w' := fun w' h1 h2 => ⟨rfl, h1, h2⟩
  obtain ⟨Q, hQ⟩ : ∃ Q, AttOk w g b o cap xs k s nm ats sg cl (nameL eAttr xs n (n + 1)) [] (attP xs n) = Q := ⟨_, rfl⟩
  rw [hQ] at hok ⊢
  unfold NameOk strV at CN
  unfold strV at hok
  generalize (⟨(u8s (nameL eAttr xs n (n + 1))).toArray⟩ : ByteArray) = NB at *
  have hlen := hp.y.len
  have e1 : IntKind.i64.wrap ((n : Int) + 1) = (n : Int) + 1 := IntWalk.i64_in _ (by omega)
  have q1 := hp.c.cell 1
  simp [PCs] at q1
  have fr1 := hp.c.froz 1
  have hg := hp.c.lt
  have hn1 : n + 1 ≤ xs.length := hn
  have HH := Lib.hid (And.intro CN (And.intro CM (And.intro CU (And.intro CT (And.intro hok (And.intro hp hn1))))))
  clear CN CM CU CT hok hp hQ ht hn hn1 hl hlen
  obtain ⟨W1, hW1⟩ : ∃ W, (w.setCell ⟨g, 1, none⟩ (.int .i64 ((n : Int) + 1))).alloc (.cells #[.string ⟨#[]⟩, .string ⟨#[]⟩] 40) = W := ⟨_, rfl⟩
  have f1 : Fz (· = g) w W1 := by rw [← hW1]; exact (Fz.set (X := (· = g)) _ _ _ _ rfl).trans (Fz.of_below (below_new _ _))
  have p1 : PS W1 g b o cap xs (n + 1) k s nm ats sg cl := by
    have h0 : PS (w.setCell ⟨g, 1, none⟩ (.int .i64 ((n : Int) + 1))) g b o cap xs (n + 1) k s nm ats sg cl := ⟨HH.out.2.2.2.2.2.1.c.set 1 _, fzy HH.out.2.2.2.2.2.1.y (Fz.set _ _ _ _ rfl) hg, HH.out.2.2.2.2.2.2⟩
    rw [← hW1]
    exact h0.on (below_new _ _)
  have x1 : Cells W1 w.heap.size 40 #[.string ⟨#[]⟩, .string ⟨#[]⟩] := by
    have := cells_new (w.setCell ⟨g, 1, none⟩ (.int .i64 ((n : Int) + 1))) #[.string ⟨#[]⟩, .string ⟨#[]⟩] 40
    rw [hW1, World.size_setCell] at this
    exact this
  have hne : ¬ w.heap.size = g := by omega
  have H1 := Lib.hid (And.intro f1 (And.intro p1 (And.intro x1 hne)))
  clear f1 p1 x1 hne
  go_enter Try.func32, Try.ntmps32
  go_wp2_with fail
  refine (HH.out.1 W1 H1.out.2.1).mono ?_
  rintro r w2 ⟨rfl, f2, p2⟩
  clear hW1 q1 fr1
  have b3 := below_new w2 (.cells #[.string NB, .string ⟨#[]⟩] 40)
  have y3 := cells_new w2 #[.string NB, .string ⟨#[]⟩] 40
  have f13 := f2.trans (Fz.of_below b3)
  have x3 := f13.cells H1.out.2.2.2 H1.out.2.2.1
  have hs2 : w.heap.size ≤ w2.heap.size := Nat.le_trans H1.out.1.size f2.size
  have hb2 : w.heap.size ≠ w2.heap.size := by have := (f2.cells H1.out.2.2.2 H1.out.2.2.1).lt; omega
  have hgb : ¬ w2.heap.size = g := by have := p2.c.lt; omega
  have H3 := Lib.hid (And.intro (H1.out.1.trans f13) (And.intro (p2.on b3) (And.intro x3 (And.intro y3 (And.intro hs2 (And.intro hb2 hgb))))))
  clear f2 p2 b3 y3 f13 x3 hs2 hgb hb2
  go_wp2_with fail
  go_region_with (first
    | (go_at_call 40; refine (HH.out.2.1 _).mono ?_; rintro r w4 ⟨gs, rfl, hx4, hb4⟩)
    | (go_at_call 39; refine (HH.out.2.2.1 _ _ ?_ ?_).mono ?_; exact H3.out.2.1.drew.on hb4; exact hx4; rintro r w5 ⟨A5, c5, rfl, hy5, f5, p5⟩))
  have f35 : Fz (· = g) (w2.alloc (.cells #[.string NB, .string ⟨#[]⟩] 40)) w5 := (Fz.ofDrew (Fz.of_below hb4)).trans f5
  have H5 := Lib.hid (And.intro (H3.out.1.trans f35) (And.intro p5 (And.intro (f35.cells H1.out.2.2.2 H3.out.2.2.1) (f35.cells H3.out.2.2.2.2.2.2 H3.out.2.2.2.1))))
  clear hx4 hb4 hy5 f5 p5 f35
  go_wp2_with fail
  refine (HH.out.2.2.2.1 _ H5.out.2.1).mono ?_
  rintro r w6 ⟨rfl, f6, p6⟩
  have x6 := f6.cells H1.out.2.2.2 H5.out.2.2.1
  have y6 := f6.cells H3.out.2.2.2.2.2.2 H5.out.2.2.2
  have r0 := y6.cell 0
  have r1 := y6.cell 1
  have s0 := x6.cell 0
  have s1 := x6.cell 1
  have t0 := x6.froz 0
  have t1 := x6.froz 1
  simp at r0 r1 s0 s1
  have hb2 := H3.out.2.2.2.2.2.1
  have H6 := Lib.hid (And.intro (H5.out.1.trans f6) p6)
  clear f6 p6 x6 y6
  go_wp2_with fail
  refine bodyPost_ret (v := .agg #[.string NB, .string ⟨#[]⟩]) ?_ rfl ?_
  · simp [results, Try.results32, go_sem, s0, s1]
  · exact HH.out.2.2.2.2.1 _ ((H6.out.1.setNew (Nat.le_refl _) _ _).setNew (Nat.le_refl _) _ _) ((H6.out.2.setNew hg _ _).setNew hg _ _)
set_option maxHeartbeats 8000000 in
set_option maxRecDepth 100000 in
theorem attYes_any (g b o cap n : Nat) (xs : List Nat) (k s nm ats sg cl : Value) (w : World) (hp : PS w g b o cap xs n k s nm ats sg cl) (hn : n < xs.length) (hl : xs.length ≤ 100000) (ht : tkB xs (attP xs n) 61 = true) :
    Calls Try.prog 32 #[.pointer (some ⟨g, 0, none⟩)] w (AttOk w g b o cap xs k s nm ats sg cl (nameL eAttr xs n (n + 1)) (valL xs (attV xs n)) (valN xs (attV xs n))) := by
  have CN := fun W (h : PS W g b o cap xs (n + 1) k s nm ats sg cl) => nameA_any g b o cap n (n + 1) xs k s nm ats sg cl W h (by omega) hn hl
  have CM := fun W => mkN_any ⟨#[9, 10, 12, 13, 32]⟩ W
  have CU := fun W gs (h : PS W g b o cap xs (n + 1 + rnN eAttr xs (n + 1)) k s nm ats sg cl) (hs : Cells W gs 9 #[strV [9, 10, 12, 13, 32]]) => untN_any W h [9, 10, 12, 13, 32] (by decide) eBlk con_blk gs hs
  have CT : ∀ W, PS W g b o cap xs (attP xs n) k s nm ats sg cl → Calls Try.prog 41 #[.pointer (some ⟨g, 0, none⟩), .int .u8 61] W fun e w' => e = .returned (.bool true) ∧ Fz (· = g) W w' ∧ PS w' g b o cap xs (attP xs n + 1) k s nm ats sg cl := fun W h => by
    have := takeP_any W h 61
    unfold tkN at this
    rw [ht] at this
    exact this
  have CW := fun W gs (h : PS W g b o cap xs (attP xs n + 1) k s nm ats sg cl) (hs : Cells W gs 9 #[strV [9, 10, 12, 13, 32]]) => untN_any W h [9, 10, 12, 13, 32] (by decide) eBlk con_blk gs hs
  have CV := fun W (h : PS W g b o cap xs (attV xs n) k s nm ats sg cl) => value_any g b o cap (attV xs n) xs k s nm ats sg cl W h
  have hok : ∀ w', Fz (· = g) w w' → PS w' g b o cap xs (valN xs (attV xs n)) k s nm ats sg cl → AttOk w g b o cap xs k s nm ats sg cl (nameL eAttr xs n (n + 1)) (valL xs (attV xs n)) (valN xs (attV xs n)) (.returned (.agg #[strV (nameL eAttr xs n (n + 1)), strV (valL xs (attV xs n))])) w' := fun w' h1 h2 => ⟨rfl, h1, h2⟩
  obtain ⟨Q, hQ⟩ : ∃ Q, AttOk w g b o cap xs k s nm ats sg cl (nameL eAttr xs n (n + 1)) (valL xs (attV xs n)) (valN xs (attV xs n)) = Q := ⟨_, rfl⟩
  rw [hQ] at hok ⊢
  unfold NameOk strV at CN
  unfold ValOk strV at CV
  unfold strV at hok
  generalize (⟨(u8s (nameL eAttr xs n (n + 1))).toArray⟩ : ByteArray) = NB at *
  generalize (⟨(u8s (valL xs (attV xs n))).toArray⟩ : ByteArray) = VB at *
  have hlen := hp.y.len
  have e1 : IntKind.i64.wrap ((n : Int) + 1) = (n : Int) + 1 := IntWalk.i64_in _ (by omega)
  have q1 := hp.c.cell 1
  simp [PCs] at q1
  have fr1 := hp.c.froz 1
  have hg := hp.c.lt
  have hn1 : n + 1 ≤ xs.length := hn
  have HH := Lib.hid (And.intro CN (And.intro CM (And.intro CU (And.intro CT (And.intro hok (And.intro hp (And.intro hn1 (And.intro CW CV))))))))
  clear CN CM CU CT CW CV hok hp hQ ht hn hn1 hl hlen
  obtain ⟨W1, hW1⟩ : ∃ W, (w.setCell ⟨g, 1, none⟩ (.int .i64 ((n : Int) + 1))).alloc (.cells #[.string ⟨#[]⟩, .string ⟨#[]⟩] 40) = W := ⟨_, rfl⟩
  have f1 : Fz (· = g) w W1 := by rw [← hW1]; exact (Fz.set (X := (· = g)) _ _ _ _ rfl).trans (Fz.of_below (below_new _ _))
  have p1 : PS W1 g b o cap xs (n + 1) k s nm ats sg cl := by
    have h0 : PS (w.setCell ⟨g, 1, none⟩ (.int .i64 ((n : Int) + 1))) g b o cap xs (n + 1) k s nm ats sg cl := ⟨HH.out.2.2.2.2.2.1.c.set 1 _, fzy HH.out.2.2.2.2.2.1.y (Fz.set _ _ _ _ rfl) hg, HH.out.2.2.2.2.2.2.1⟩
    rw [← hW1]
    exact h0.on (below_new _ _)
  have x1 : Cells W1 w.heap.size 40 #[.string ⟨#[]⟩, .string ⟨#[]⟩] := by
    have := cells_new (w.setCell ⟨g, 1, none⟩ (.int .i64 ((n : Int) + 1))) #[.string ⟨#[]⟩, .string ⟨#[]⟩] 40
    rw [hW1, World.size_setCell] at this
    exact this
  have hne : ¬ w.heap.size = g := by omega
  have H1 := Lib.hid (And.intro f1 (And.intro p1 (And.intro x1 hne)))
  clear f1 p1 x1 hne
  go_enter Try.func32, Try.ntmps32
  go_wp2_with fail
  refine (HH.out.1 W1 H1.out.2.1).mono ?_
  rintro r w2 ⟨rfl, f2, p2⟩
  clear hW1 q1 fr1
  have b3 := below_new w2 (.cells #[.string NB, .string ⟨#[]⟩] 40)
  have y3 := cells_new w2 #[.string NB, .string ⟨#[]⟩] 40
  have f13 := f2.trans (Fz.of_below b3)
  have x3 := f13.cells H1.out.2.2.2 H1.out.2.2.1
  have hs2 : w.heap.size ≤ w2.heap.size := Nat.le_trans H1.out.1.size f2.size
  have hb2 : w.heap.size ≠ w2.heap.size := by have := (f2.cells H1.out.2.2.2 H1.out.2.2.1).lt; omega
  have hgb : ¬ w2.heap.size = g := by have := p2.c.lt; omega
  have H3 := Lib.hid (And.intro (H1.out.1.trans f13) (And.intro (p2.on b3) (And.intro x3 (And.intro y3 (And.intro hs2 (And.intro hb2 hgb))))))
  clear f2 p2 b3 y3 f13 x3 hs2 hgb hb2
  go_wp2_with fail
  go_region_with (first
    | (go_at_call 40; refine (HH.out.2.1 _).mono ?_; rintro r w4 ⟨gs, rfl, hx4, hb4⟩)
    | (go_at_call 39; refine (HH.out.2.2.1 _ _ ?_ ?_).mono ?_; exact H3.out.2.1.drew.on hb4; exact hx4; rintro r w5 ⟨A5, c5, rfl, hy5, f5, p5⟩))
  have f35 : Fz (· = g) (w2.alloc (.cells #[.string NB, .string ⟨#[]⟩] 40)) w5 := (Fz.ofDrew (Fz.of_below hb4)).trans f5
  have H5 := Lib.hid (And.intro (H3.out.1.trans f35) (And.intro p5 (And.intro (f35.cells H1.out.2.2.2 H3.out.2.2.1) (f35.cells H3.out.2.2.2.2.2.2 H3.out.2.2.2.1))))
  clear hx4 hb4 hy5 f5 p5 f35
  go_wp2_with fail
  refine (HH.out.2.2.2.1 _ H5.out.2.1).mono ?_
  rintro r w6 ⟨rfl, f6, p6⟩
  have H6 := Lib.hid (And.intro (H5.out.1.trans f6) (And.intro p6 (And.intro (f6.cells H1.out.2.2.2 H5.out.2.2.1) (f6.cells H3.out.2.2.2.2.2.2 H5.out.2.2.2))))
  clear f6 p6
  go_wp2_with fail
  go_region_with (first
    | (go_at_call 40; refine (HH.out.2.1 _).mono ?_; rintro r w7 ⟨gs7, rfl, hx7, hb7⟩)
    | (go_at_call 39; refine (HH.out.2.2.2.2.2.2.2.1 _ _ ?_ ?_).mono ?_; exact H6.out.2.1.drew.on hb7; exact hx7; rintro r w8 ⟨A8, c8, rfl, hy8, f8, p8⟩))
  have f68 : Fz (· = g) w6 w8 := (Fz.ofDrew (Fz.of_below hb7)).trans f8
  have H8 := Lib.hid (And.intro (H6.out.1.trans f68) (And.intro (show PS w8 g b o cap xs (attV xs n) k s nm ats sg cl from p8) (And.intro (f68.cells H1.out.2.2.2 H6.out.2.2.1) (f68.cells H3.out.2.2.2.2.2.2 H6.out.2.2.2))))
  clear hx7 hb7 hy8 f8 p8 f68
  go_wp2_with fail
  refine (HH.out.2.2.2.2.2.2.2.2 _ H8.out.2.1).mono ?_
  rintro r w9 ⟨rfl, f9, p9⟩
  have x9 := f9.cells H1.out.2.2.2 H8.out.2.2.1
  have y9 := f9.cells H3.out.2.2.2.2.2.2 H8.out.2.2.2
  have r0 := y9.cell 0
  have r1 := y9.cell 1
  have u1 := y9.froz 1
  have s0 := x9.cell 0
  have s1 := x9.cell 1
  have t0 := x9.froz 0
  have t1 := x9.froz 1
  simp at r0 r1 s0 s1
  have hb2 := H3.out.2.2.2.2.2.1
  have hg9 : g < w2.heap.size := Nat.lt_of_lt_of_le hg H3.out.2.2.2.2.1
  have H9 := Lib.hid (And.intro (H8.out.1.trans f9) (And.intro p9 (And.intro hg9 H3.out.2.2.2.2.1)))
  clear f9 p9 x9 y9 hg9
  go_wp2_with fail
  refine bodyPost_ret (v := .agg #[.string NB, .string VB]) ?_ rfl ?_
  · simp [results, Try.results32, go_sem, s0, s1]
  · exact HH.out.2.2.2.2.1 _ (((H9.out.1.setNew H9.out.2.2.2 _ _).setNew (Nat.le_refl _) _ _).setNew (Nat.le_refl _) _ _) (((H9.out.2.1.setNew H9.out.2.2.1 _ _).setNew hg _ _).setNew hg _ _)
end Go.Proofs.Ytplnkmojkdbbnaa
