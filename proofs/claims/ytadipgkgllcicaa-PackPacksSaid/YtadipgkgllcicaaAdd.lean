/-
  Contract: (*Packed).add.
-/
import Derived.Test.YtadipgkgllcicaaFlw
namespace Go.Proofs.Ytadipgkgllcicaa
open Go.RowKit Go.Shelf Go.Lib Go.Maps

def l4 (a b c d : List Int) : Nat → List Int := fun i => if i = 0 then a else if i = 1 then b else if i = 2 then c else d
theorem l4_fill (a b c d : List Int) (slot : Nat) (row el : Int) : ∀ i, i < 4 → fillL (l4 a b c d) slot row el i = l4 a b (fillR (c, d) slot row el).1 (fillR (c, d) slot row el).2 i := by
  intro i hi
  rcases (by omega : i = 0 ∨ i = 1 ∨ i = 2 ∨ i = 3) with rfl | rfl | rfl | rfl <;> rfl
theorem l4_app0 (a b c d : List Int) (x : Int) : ∀ i, i < 4 → upd (l4 a b c d) 0 (l4 a b c d 0 ++ [x]) i = l4 (a ++ [x]) b c d i := by
  intro i hi
  rcases (by omega : i = 0 ∨ i = 1 ∨ i = 2 ∨ i = 3) with rfl | rfl | rfl | rfl <;> rfl
theorem l4_app1 (a b c d : List Int) (x : Int) : ∀ i, i < 4 → upd (l4 a b c d) 1 (l4 a b c d 1 ++ [x]) i = l4 a (b ++ [x]) c d i := by
  intro i hi
  rcases (by omega : i = 0 ∨ i = 1 ∨ i = 2 ∨ i = 3) with rfl | rfl | rfl | rfl <;> rfl
def lp (p : Pk) : Nat → List Int := l4 p.us p.bs p.cs p.ns
/-- What holds between two rows. -/
structure Ad (w : World) (pb ub B k : Nat) (p : Pk) (v : Nat → Value) (T : List Nat) (vu : Value) : Prop where
  q : PkM w pb B p.w v (lp p)
  u : UsM w ub B T vu
  e : ∀ j, usedB T j = chkB p.cs j
  t : T.length ≤ k + 2
  d : Pd p k
theorem Xp_out {w : World} {pb B : Nat} {px : Int} {v : Nat → Value} {l : Nat → List Int} (h : PkM w pb B px v l) : ∀ k, k < pb → ¬ Xp pb v k := by
  intro k hk hx
  rcases hx with e | ⟨i, hi, e⟩
  · omega
  · have := own_block_lt (h.o i hi) k e; have := h.lt; omega
theorem use_len (T : List Nat) (b m : Nat) : (useR T b m).length = max T.length (b / 64 + 2) := by unfold useR; rw [List.length_set, List.length_set, padTo_len]
theorem us_of {w : World} {ub B n cap : Nat} {T : List Nat} {A : Option Addr} (h : UsM w ub B T (.slice A n cap)) : UsAt w w.heap.size T A cap := by
  rcases h.o.2 with ⟨h1, h2⟩ | ⟨g, cap', cur, h1, h2, h3, h4, h5, h6, h7⟩
  · have hn : T = [] := List.eq_nil_of_length_eq_zero h2
    injection h1 with a1 _ a2
    subst hn; subst a1; subst a2
    exact ⟨Nat.le_refl _, by unfold maxLen; omega, fun _ => rfl, (fun x hx => absurd hx (by simp)), fun hn => absurd rfl hn⟩
  · injection h1 with a1 _ a2
    subst a1; subst a2
    refine ⟨h4, h5, fun e => (by cases e), h.b, fun _ => ⟨g, 0, rfl, (Array.getElem?_eq_some_iff.1 h3).1, fun i x hx => ?_⟩⟩
    have hc := World.ownsRow.cells h.o (g := g) rfl i (.int .u64 (x : Int)) (by simp [u64C, hx])
    rw [add0] at hc
    rw [Nat.zero_add]
    exact hc
theorem apart' {w : World} {pb ub B : Nat} {px : Int} {v : Nat → Value} {l : Nat → List Int} {T : List Nat} {vu : Value} (h : PkM w pb B px v l) (hu : UsM w ub B T vu) (hne : pb ≠ ub) : ∀ k, Xp pb v k → k ≠ ub ∧ vu.ownBlock ≠ some k :=
  fun k hk => ⟨fun e => apart h hu hne k (.inl e) hk, fun e => apart h hu hne k (.inr e) hk⟩
theorem below_fz {w w' : World} {X : Nat → Prop} {D : Nat} (h : Fz X w w') (hD : D ≤ w.heap.size) (hX : ∀ k, k < D → ¬ X k) : Below D w w' := h.below hD hX
set_option maxHeartbeats 8000000 in
set_option maxRecDepth 100000 in
theorem add_any (pb ub B k : Nat) (p : Pk) (v0 : Nat → Value) (T : List Nat) (vu : Value) (row : List Int) (A : Option Addr) (cap D : Nat) (w : World) (h : Ad w pb ub B k p v0 T vu) (hk : k ≤ 1000) (hne : pb ≠ ub) (hD1 : D ≤ pb) (hD2 : D ≤ ub) (hB : B ≤ w.heap.size)
    (hr : IS w D row A cap) (h1 : 1 ≤ row.length) (h64 : row.length ≤ 64) :
    Calls Try.prog 25 #[.pointer (some ⟨pb, 0, none⟩), .slice A row.length cap, .pointer (some ⟨ub, 0, none⟩)] w fun r w' => r = .returned (.tuple #[]) ∧ Below D w w' ∧ ∃ v T' vu', Ad w' pb ub B (k + 1) (addR p row) v T' vu' := by
  obtain ⟨i3, h3, z3, s3, b3⟩ := info_parts info3
  have I3 := Lib.hid (And.intro h3 (And.intro z3 (And.intro s3 b3)))
  obtain ⟨n, hn⟩ : ∃ n, row.length = n := ⟨_, rfl⟩
  obtain ⟨U, hU⟩ : ∃ U, usualR row = U := ⟨_, rfl⟩
  have hlt := h.q.c.lt
  have hlu := h.u.c.lt
  have hDw : D ≤ w.heap.size := by omega
  have CU := usual_any row A cap h1 h64 w.drew ((hr.mono hDw).on (Below.refl _ _).drew)
  rw [hU, hn] at CU
  have Ui : i64 U := by
    rw [← hU]
    unfold usualR
    obtain ⟨x, hx⟩ := list_at (xs := row) (i := 0) (by omega)
    rw [getD_get hx]
    exact pick_mem x (hr.i x (List.mem_of_getElem? hx)) _ hr.i
  have hb0 := (baseR_spec p.cs row U)
  have hd := h.d
  have hadd : addR p row = ⟨p.w, p.us ++ [U], p.bs ++ [(baseR p.cs row U : Int)], (fillsR U (baseR p.cs row U) (p.us.length : Int) (p.cs, p.ns) row).1, (fillsR U (baseR p.cs row U) (p.us.length : Int) (p.cs, p.ns) row).2⟩ := by unfold addR; rw [hU]
  have hus := use_add (T := T) (p := p) (row := row) hd.c h64 h.e
  rw [hU] at hus
  have hpd := (hd.add h64).1
  obtain ⟨b, hb⟩ : ∃ b, baseR p.cs row U = b := ⟨_, rfl⟩
  obtain ⟨m, hm⟩ : ∃ m, maskR U row = m := ⟨_, rfl⟩
  have hm64 : m < 2 ^ 64 := by rw [← hm]; exact mask_lt U row h64
  have hfind : findR T m = b := by
    have hf : ∀ j, fitB T m j = freeR p.cs row U j := fun j => by
      rw [free_frm h.u.b h.e h64 j, hm]; rfl
    obtain ⟨a1, a2, a3, a4⟩ := leastB_spec (fitB T m) (64 * T.length) 0 (by rw [Nat.zero_add]; exact fitB_end T h.u.b m)
    unfold findR
    rw [← hb]
    exact least_unique (f := freeR p.cs row U) (by rw [← hf]; exact a1) (fun j hj => by rw [← hf]; exact a4 j (by omega) hj) hb0.1 hb0.2.2
  have hbl : b ≤ 64 * k := by have := hd.l; have := hb0.2.1; omega
  rw [hb] at hadd hus
  rw [hm] at hus
  have hul : p.us.length = k := hd.u
  rw [hul] at hadd
  have CC := fun (w' : World) (hb' : Below w.heap.size w w') => columns_any row A cap U h64 w' ((hr.mono hDw).on hb')
  obtain ⟨A5, c5, e5⟩ := own_form h.u.o
  have hT10 : T.length ≤ 10000 := by have := h.t; omega
  have CF := fun (w' : World) (hb' : Below w.heap.size w w') => find_any T A5 c5 m hm64 hT10 w' (us_of (by have := h.u.below hb'; rw [e5] at this; exact this))
  rw [hm, hn] at CC
  rw [hfind] at CF
  have d5 := h.u.c.cell 0
  simp at d5
  rw [e5] at d5
  obtain ⟨nT, hnT⟩ : ∃ n, T.length = n := ⟨_, rfl⟩
  rw [hnT] at d5 CF
  have HCC := Lib.hid (And.intro CC CF)
  have HT := Lib.hid (And.intro hnT e5)
  have H := Lib.hid (And.intro h (And.intro hr (And.intro hn (And.intro hadd (And.intro hus (And.intro hpd (And.intro hm (And.intro hfind Ui))))))))
  have HC := Lib.hid CU
  rw [hn] at h1 h64
  rw [hn]
  have d1 := h.q.c.cell 1
  simp at d1
  obtain ⟨A1, c1, e1⟩ := own_form (h.q.o 0 (by decide))
  rw [show (lp p 0).length = k from hul] at e1
  rw [e1] at d1
  have HE := Lib.hid (And.intro e1 hd)
  clear CC CF hnT e5 hT10
  clear h hr hn hU CU Ui hb0 hd hadd hus hpd hb hm hfind hul e1 h3 z3 s3 b3
  go_enter Try.func25, Try.ntmps25
  go_wp2_with fail
  go_region_with (go_at_call 33
                  refine HC.out.mono ?_
                  rintro r w1 ⟨rfl, hb1⟩
                  have hb1' : Below w.heap.size w w1 := (Below.refl _ _).drew.trans hb1
                  have p1 := H.out.1.q.below hb1'
                  have q1 := p1.c.cell 1
                  simp at q1
                  rw [HE.out.1] at q1
                  have z1 : pb < w1.heap.size := p1.c.lt
                  have HB1 := Lib.hid hb1'
                  clear hb1 hb1' p1)
  all_goals
    have q5 := (H.out.1.u.below HB1.out).c.cell 0
    simp at q5
    rw [HT.out.2, HT.out.1] at q5
    have zu : ub < w1.heap.size := (H.out.1.u.below HB1.out).c.lt
    go_wp2_with fail
    refine (HCC.out.1 w1 HB1.out).mono ?_
    rintro r w2 ⟨rfl, e⟩
    obtain rfl := e.symm
    clear e
    go_wp2_with fail
    refine (HCC.out.2 w1 HB1.out).mono ?_
    rintro r w3 ⟨rfl, hb3⟩
    have B3 := HB1.out.trans (hb3.mono HB1.out.size)
    have P3 := H.out.1.q.below B3
    have U3 := H.out.1.u.below B3
    have CUse := use_any ub B T vu b m hm64 (by omega) (by have := H.out.1.t; omega) w3 U3 (by have := B3.size; omega)
    have HP3 := Lib.hid (And.intro P3 (And.intro U3 B3))
    have HU := Lib.hid CUse
    clear hb3 B3 P3 U3 CUse q1 q5 z1 zu
    go_wp2_with fail
    refine HU.out.mono ?_
    rintro r w4 ⟨rfl, vu', hu4, hf4⟩
    have P4 := HP3.out.1.move hf4 (apart HP3.out.1 HP3.out.2.1 hne)
    have B4 : Below D w w4 := (HP3.out.2.2.mono hDw).trans (hf4.below (by have := HP3.out.2.2.size; omega) (fun k hk hx => by
      rcases hx with e | e
      · omega
      · have := own_block_lt HP3.out.2.1.o k e; have := HP3.out.2.1.lt; omega))
    have d1 := P4.c.cell 1
    have d2 := P4.c.cell 2
    simp at d1 d2
    obtain ⟨A2, c2, e2⟩ := own_form (P4.o 1 (by decide))
    rw [show (lp p 1).length = k from HE.out.2.b] at e2
    rw [HE.out.1] at d1
    rw [e2] at d2
    have f1 := P4.c.froz 1
    have f2 := P4.c.froz 2
    have hB4 : B ≤ w4.heap.size := by have := hf4.size; have := HP3.out.2.2.size; omega
    have z4 := P4.c.lt
    have o1 : (w4.alloc (.cells #[.int .i64 U] 3)).ownsRow B 3 1 (.slice A1 k c1) k (intsC p.us) := by
      have := (P4.o 0 (by decide)).alloc (.cells #[.int .i64 U] 3)
      rw [HE.out.1, show (lp p 0).length = k from HE.out.2.u] at this
      exact this
    have hnew : (w4.alloc (.cells #[.int .i64 U] 3)).cell? ⟨w4.heap.size, 0, none⟩ = some (.int .i64 U) := by rw [World.cell?_alloc_new]; rfl
    have hend : ∀ g cp w5, w5.ownsRow B 3 1 (.slice (some ⟨g, 0, none⟩) (k + 1) cp) (k + 1) (intsC p.us ++ [.int .i64 U]) → (w4.alloc (.cells #[.int .i64 U] 3)).grownBy w5 (Value.slice A1 k c1).ownBlock → ((Value.slice A1 k c1).ownBlock = some g ∨ g = w4.heap.size + 1) →
        w5.cell? ⟨pb, 1, none⟩ = some (.slice A1 k c1) ∧ w5.frozen? ⟨pb, 1, none⟩ = false ∧ w5.cell? ⟨pb, 2, none⟩ = some (.slice A2 k c2) ∧ w5.frozen? ⟨pb, 2, none⟩ = false ∧ pb < w5.heap.size ∧
          PkM (w5.setCell ⟨pb, 1, none⟩ (.slice (some ⟨g, 0, none⟩) (k + 1) cp)) pb B p.w (upd v0 0 (.slice (some ⟨g, 0, none⟩) (k + 1) cp)) (l4 (p.us ++ [U]) p.bs p.cs p.ns) ∧
          Fz (Xp pb v0) w4 (w5.setCell ⟨pb, 1, none⟩ (.slice (some ⟨g, 0, none⟩) (k + 1) cp)) := fun g cp w5 k1 k2 k3 => by
      rw [← HE.out.1] at k2 k3
      have ek : (lp p 0).length = k := HE.out.2.u
      have k1' : w5.ownsRow B 3 1 (.slice (some ⟨g, 0, none⟩) ((lp p 0).length + 1) cp) ((lp p 0).length + 1) (intsC (lp p 0) ++ [.int .i64 U]) := by rw [ek]; exact k1
      obtain ⟨m1, m2⟩ := P4.append (i := 0) (x := U) (by decide) H.out.2.2.2.2.2.2.2.2 k1' k2 k3
      rw [ek] at m2
      have q := m1.cell 1
      have q2 := m1.cell 2
      simp at q q2
      rw [HE.out.1] at q
      rw [e2] at q2
      exact ⟨q, m1.froz 1, q2, m1.froz 2, m1.lt, m2.congr (l4_app0 _ _ _ _ _), fz_app (Fz.refl _ _) (by decide) (AtV.refl _ _) k2 1 _⟩
    have HL := Lib.hid (And.intro o1 (And.intro hnew (And.intro hend (And.intro P4 (And.intro hu4 (And.intro B4 (And.intro e2 hB4)))))))
    clear o1 hnew hend P4 hu4 hf4 B4 e2 hB4
    go_wp2_with (first
      | (at_builtin
         refine wpList_append_one rfl (.tmp 35) (.tmp 37) 25 rfl B 3 i3 (.int .i64 0) 8 Try.underlying25 I3.out.1 I3.out.2.1 I3.out.2.2.1 I3.out.2.2.2 (by decide) rfl (.slice A1 k c1) k (intsC p.us) rfl HL.out.1 ⟨w4.heap.size, 0, none⟩ (.int .i64 U) rfl HL.out.2.1 rfl (by omega) (by have := HL.out.2.2.2.2.2.2.2; simp; omega) _ rfl ?_)
      | fail)
    intro g cp w5 ho5 hg5 hat5 hlt5
    obtain ⟨s1, s2, s3, s4, s5, s6, s7⟩ := HL.out.2.2.1 g cp w5 ho5 hg5 hat5
    have o2 : ((w5.setCell ⟨pb, 1, none⟩ (.slice (some ⟨g, 0, none⟩) (k + 1) cp)).alloc (.cells #[.int .i64 (b : Int)] 3)).ownsRow B 3 1 (.slice A2 k c2) k (intsC p.bs) := by
      have := (s6.o 1 (by decide)).alloc (.cells #[.int .i64 (b : Int)] 3)
      rw [show upd v0 0 (.slice (some ⟨g, 0, none⟩) (k + 1) cp) 1 = v0 1 from rfl, HL.out.2.2.2.2.2.2.1, show (l4 (p.us ++ [U]) p.bs p.cs p.ns 1).length = k from HE.out.2.b] at this
      exact this
    have hnew2 : ((w5.setCell ⟨pb, 1, none⟩ (.slice (some ⟨g, 0, none⟩) (k + 1) cp)).alloc (.cells #[.int .i64 (b : Int)] 3)).cell? ⟨w5.heap.size, 0, none⟩ = some (.int .i64 (b : Int)) := by
      rw [show w5.heap.size = (w5.setCell ⟨pb, 1, none⟩ (.slice (some ⟨g, 0, none⟩) (k + 1) cp)).heap.size by simp, World.cell?_alloc_new]; rfl
    have hB5 : B ≤ w5.heap.size := by have h7 := s7.size; rw [World.size_setCell] at h7; have := HL.out.2.2.2.2.2.2.2; omega
    have hend2 : ∀ g' cp' w6, w6.ownsRow B 3 1 (.slice (some ⟨g', 0, none⟩) (k + 1) cp') (k + 1) (intsC p.bs ++ [.int .i64 (b : Int)]) → ((w5.setCell ⟨pb, 1, none⟩ (.slice (some ⟨g, 0, none⟩) (k + 1) cp)).alloc (.cells #[.int .i64 (b : Int)] 3)).grownBy w6 (Value.slice A2 k c2).ownBlock → ((Value.slice A2 k c2).ownBlock = some g' ∨ g' = (w5.setCell ⟨pb, 1, none⟩ (.slice (some ⟨g, 0, none⟩) (k + 1) cp)).heap.size + 1) →
        w6.cell? ⟨pb, 2, none⟩ = some (.slice A2 k c2) ∧ w6.frozen? ⟨pb, 2, none⟩ = false ∧ pb < w6.heap.size ∧ ∃ v,
          PkM (w6.setCell ⟨pb, 2, none⟩ (.slice (some ⟨g', 0, none⟩) (k + 1) cp')) pb B p.w v (l4 (p.us ++ [U]) (p.bs ++ [(b : Int)]) p.cs p.ns) ∧ UsM (w6.setCell ⟨pb, 2, none⟩ (.slice (some ⟨g', 0, none⟩) (k + 1) cp')) ub B (useR T b m) vu' ∧
          Below D w (w6.setCell ⟨pb, 2, none⟩ (.slice (some ⟨g', 0, none⟩) (k + 1) cp')) := fun g' cp' w6 k1 k2 k3 => by
      rw [show Value.slice A2 k c2 = upd v0 0 (.slice (some ⟨g, 0, none⟩) (k + 1) cp) 1 from HL.out.2.2.2.2.2.2.1.symm] at k2 k3
      have ek : (l4 (p.us ++ [U]) p.bs p.cs p.ns 1).length = k := HE.out.2.b
      have k1' : w6.ownsRow B 3 1 (.slice (some ⟨g', 0, none⟩) ((l4 (p.us ++ [U]) p.bs p.cs p.ns 1).length + 1) cp') ((l4 (p.us ++ [U]) p.bs p.cs p.ns 1).length + 1) (intsC (l4 (p.us ++ [U]) p.bs p.cs p.ns 1) ++ [.int .i64 (b : Int)]) := by rw [ek]; exact k1
      obtain ⟨m1, m2⟩ := s6.append (i := 1) (x := (b : Int)) (by decide) (by unfold i64; omega) k1' k2 k3
      rw [ek] at m2
      have q2 := m1.cell 2
      simp at q2
      rw [show upd v0 0 (.slice (some ⟨g, 0, none⟩) (k + 1) cp) 1 = v0 1 from rfl, HL.out.2.2.2.2.2.2.1] at q2
      have F6 := fz_app (Fz.refl (Xp pb (upd v0 0 (.slice (some ⟨g, 0, none⟩) (k + 1) cp))) _) (i := 1) (by decide) (AtV.refl _ _) k2 2 (.slice (some ⟨g', 0, none⟩) (k + 1) cp')
      have U5 := HL.out.2.2.2.2.1.move s7 (apart' HL.out.2.2.2.1 HL.out.2.2.2.2.1 hne)
      have U6 := U5.move F6 (apart' s6 U5 hne)
      have B5 : Below D w (w5.setCell ⟨pb, 1, none⟩ (.slice (some ⟨g, 0, none⟩) (k + 1) cp)) := HL.out.2.2.2.2.2.1.trans (s7.below (by have := HL.out.2.2.2.2.2.1.size; omega) (fun k hk => Xp_out HL.out.2.2.2.1 k (by omega)))
      exact ⟨q2, m1.froz 2, m1.lt, _, m2.congr (l4_app1 _ _ _ _ _), U6, B5.trans (F6.below (by have := B5.size; omega) (fun k hk => Xp_out s6 k (by omega)))⟩
    have HM := Lib.hid (And.intro o2 (And.intro hnew2 (And.intro hB5 hend2)))
    clear s6 s7 o2 hnew2 hB5 hend2 ho5 hg5 hat5
    go_wp2_with (first
      | (at_builtin
         refine wpList_append_one rfl (.tmp 45) (.tmp 47) 25 rfl B 3 i3 (.int .i64 0) 8 Try.underlying25 I3.out.1 I3.out.2.1 I3.out.2.2.1 I3.out.2.2.2 (by decide) rfl (.slice A2 k c2) k (intsC p.bs) rfl HM.out.1 ⟨w5.heap.size, 0, none⟩ (.int .i64 (b : Int)) rfl HM.out.2.1 rfl (by omega) (by have := HM.out.2.2.1; simp; omega) _ rfl ?_)
      | fail)
    intro g' cp' w6 ho6 hg6 hat6 hlt6
    obtain ⟨r1, r2, r3, v6, r4, r5, r6⟩ := HM.out.2.2.2 g' cp' w6 ho6 hg6 (by rcases hat6 with e | e; exact .inl e; exact .inr (by rw [e]; simp))
    have H6 := Lib.hid (And.intro r4 (And.intro r5 r6))
    clear r4 r5 r6 ho6 hg6 hat6
    go_wp2_with fail
    have j0 : (0 : Int) ≤ (n : Int) := by omega
    go_loopw [53] (fun t wr => ∃ j : Nat, t = .int .i64 (j : Int) ∧ j ≤ n ∧ ∃ v, PkM wr pb B p.w v (l4 (p.us ++ [U]) (p.bs ++ [(b : Int)]) (fillsR U b (k : Int) (p.cs, p.ns) (row.take j)).1 (fillsR U b (k : Int) (p.cs, p.ns) (row.take j)).2) ∧ UsM wr ub B (useR T b m) vu' ∧ Below D w wr) (fun t _ => n - (RowKit.intOf t).toNat)
    case atStart => exact ⟨0, rfl, by omega, v6, H6.out.1, H6.out.2.1, H6.out.2.2⟩
    case round =>
      obtain ⟨j, rfl, hj, v, hP, hU2, hbl2⟩ := hrel
      by_cases hlt : j < n
      · have i1 : (j : Int) < (n : Int) := by omega
        obtain ⟨x, hx⟩ := list_at (xs := row) (i := j) (by rw [H.out.2.2.1]; exact hlt)
        obtain ⟨b0, o0, rfl, hbl, hc⟩ := H.out.2.1.r (by rintro rfl; simp at hx)
        have dx := (hbl2.cell (p := ⟨b0, o0 + j, none⟩) hbl).trans (hc j x hx)
        have xi := H.out.2.1.i x (List.mem_of_getElem? hx)
        have ht := foldI_take (fun s x c => if x = U then s else fillR s (b + c) (k : Int) x) (p.cs, p.ns) hx
        have ht' : fillsR U b (k : Int) (p.cs, p.ns) (row.take (j + 1)) = if x = U then fillsR U b (k : Int) (p.cs, p.ns) (row.take j) else fillR (fillsR U b (k : Int) (p.cs, p.ns) (row.take j)) (b + j) (k : Int) x := ht
        obtain ⟨l1, l2, l3, _⟩ := fills_take U b (k : Int) (by omega) (p.cs, p.ns) HE.out.2.c row j (by rw [H.out.2.2.1]; exact hj)
        have l4' := HE.out.2.l
        dsimp only at l2 l3
        obtain ⟨s0, hs0⟩ : ∃ s, fillsR U b (k : Int) (p.cs, p.ns) (row.take j) = s := ⟨_, rfl⟩
        rw [hs0] at hP ht' l1 l2 l3
        have HK := Lib.hid (And.intro hP (And.intro hU2 (And.intro hbl2 (And.intro ht' xi))))
        by_cases he : x = U
        · have hq : (x == U) = true := by simpa using he
          have hend : ∃ j' : Nat, Value.int .i64 ((j : Int) + 1) = .int .i64 (j' : Int) ∧ j' ≤ n ∧ ∃ v, PkM wr pb B p.w v (l4 (p.us ++ [U]) (p.bs ++ [(b : Int)]) (fillsR U b (k : Int) (p.cs, p.ns) (row.take j')).1 (fillsR U b (k : Int) (p.cs, p.ns) (row.take j')).2) ∧ UsM wr ub B (useR T b m) vu' ∧ Below D w wr :=
            ⟨j + 1, by simp, by omega, v, by rw [ht', if_pos he]; exact hP, hU2, hbl2⟩
          have HEN := Lib.hid hend
          clear hP hU2 hbl2 ht ht' l1 l2 l3 l4' hs0 he hend hx hbl hc
          go_wp2_with fail
          go_roundw
          case rel => exact HEN.out
          case measure => simp [RowKit.intOf]; omega
        · have hq : (x == U) = false := by simpa using he
          have CFill := fill_any pb B p.w v (l4 (p.us ++ [U]) (p.bs ++ [(b : Int)]) s0.1 s0.2) (b + j) (k : Int) x (by unfold i64; omega) xi (by omega) wr hP l1 (by show s0.1.length ≤ 100000; omega) (by have := hP.lt; have := hP.c.lt; have := hbl2.size; omega)
          rw [show ((b + j : Nat) : Int) = (b : Int) + (j : Int) by omega] at CFill
          have HF := Lib.hid CFill
          have HX := Lib.hid (And.intro he (And.intro (show fillsR U b (k : Int) (p.cs, p.ns) (row.take (j + 1)) = fillR s0 (b + j) (k : Int) x by rw [ht', if_neg he]) hne))
          clear hP hU2 hbl2 ht ht' l1 l2 l3 l4' hs0 he hx hbl hc CFill
          go_wp2_with fail
          refine HF.out.mono ?_
          rintro r w7 ⟨rfl, v7, p7, f7, _⟩
          have u7 := HK.out.2.1.move f7 (apart' HK.out.1 HK.out.2.1 HX.out.2.2)
          have b7 : Below D w w7 := HK.out.2.2.1.trans (f7.below (by have := HK.out.2.2.1.size; omega) (fun q hq => Xp_out HK.out.1 q (by omega)))
          have hend : ∃ j' : Nat, Value.int .i64 ((j : Int) + 1) = .int .i64 (j' : Int) ∧ j' ≤ n ∧ ∃ v, PkM w7 pb B p.w v (l4 (p.us ++ [U]) (p.bs ++ [(b : Int)]) (fillsR U b (k : Int) (p.cs, p.ns) (row.take j')).1 (fillsR U b (k : Int) (p.cs, p.ns) (row.take j')).2) ∧ UsM w7 ub B (useR T b m) vu' ∧ Below D w w7 :=
            ⟨j + 1, by simp, by omega, v7, by rw [HX.out.2.1]; exact p7.congr (l4_fill _ _ _ _ _ _ _), u7, b7⟩
          have HEN := Lib.hid hend
          clear p7 f7 u7 b7 hend
          go_wp2_with fail
          go_roundw
          case rel => exact HEN.out
          case measure => simp [RowKit.intOf]; omega
      · obtain rfl : j = n := by omega
        have i1 : ¬ (j : Int) < (j : Int) := by omega
        have e1 : row.take j = row := by rw [← H.out.2.2.1, List.take_length]
        rw [e1] at hP
        have hfin : Below D w wr ∧ ∃ v T' vu', Ad wr pb ub B (k + 1) (addR p row) v T' vu' := by
          refine ⟨hbl2, v, useR T b m, vu', ?_⟩
          have hpd := H.out.2.2.2.2.2.1
          have hus := H.out.2.2.2.2.1
          rw [H.out.2.2.2.1] at hpd hus ⊢
          exact ⟨hP, hU2, hus, by rw [use_len]; have := H.out.1.t; omega, hpd⟩
        have HEN := Lib.hid hfin
        clear hP hU2 hbl2 e1 hfin
        go_wp2_with fail
        go_end0
        exact ⟨rfl, HEN.out⟩
end Go.Proofs.Ytadipgkgllcicaa
