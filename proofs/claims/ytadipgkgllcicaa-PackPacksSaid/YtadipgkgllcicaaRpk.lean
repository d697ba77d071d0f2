/-
  Contract: the document's Pack.
-/
import Derived.Test.YtadipgkgllcicaaTkn
import Derived.Laws.Rows
namespace Go.Proofs.Ytadipgkgllcicaa
open Go.RowKit Go.Shelf Go.Lib Go.Maps

theorem info58 : (Try.prog.info? 58).map (fun i => (i.zero, i.size, i.bytes)) = some (some (.agg #[.int .i64 0, .int .i64 0, .int .i64 0]), 3, 24) := by kernel_rfl
/-- What holds between two rows of the document. -/
structure Rq (w0 wr : World) (pb B W i : Nat) (R : List (List Int)) (P : Pk) (v : Nat → Value) (all : List Sl) (vA : Value) : Prop where
  q : PkN wr pb B (W : Int) v (l4 P.us P.bs [] [])
  a : wr.ownsRow B 58 3 vA all.length (slsC all)
  f : runF ([], []) all = (P.cs, P.ns)
  g : ∀ a ∈ all, 0 ≤ a.row ∧ i64 a.row ∧ i64 a.n
  n : all.length ≤ 64 * i
  b : Below pb w0 wr
  d : Pd P i
  h : B ≤ wr.heap.size
theorem all_new {_w w' : World} {B g cap : Nat} {_vA : Value} {all : List Sl} {s : Sl} (h : w'.ownsRow B 58 3 (.slice (some ⟨g, 0, none⟩) (all.length + 1) cap) (all.length + 1) (slsC all ++ slC s)) : w'.ownsRow B 58 3 (.slice (some ⟨g, 0, none⟩) (all.length + 1) cap) (all ++ [s]).length (slsC (all ++ [s])) := by
  rw [slsC_snoc, List.length_append]
  exact h
/-- What holds while a row's slots are listed. -/
structure Rt (w0 wr : World) (pb B W i : Nat) (P : Pk) (v : Nat → Value) (row : List Int) (U : Int) (b c : Nat) (all : List Sl) (vA : Value) : Prop where
  q : PkN wr pb B (W : Int) v (l4 P.us P.bs [] [])
  a : wr.ownsRow B 58 3 vA all.length (slsC all)
  f : runF ([], []) all = fillsR U b (i : Int) (P.cs, P.ns) (row.take c)
  g : ∀ a ∈ all, 0 ≤ a.row ∧ i64 a.row ∧ i64 a.n
  n : all.length ≤ 64 * i + c
  b : Below pb w0 wr
  h : B ≤ wr.heap.size
theorem own_form3 {w : World} {B e z n : Nat} {v : Value} {xs : List Value} (h : w.ownsRow B e z v n xs) : ∃ A cap, v = .slice A n cap := by
  rcases h.2 with ⟨h1, h2⟩ | ⟨g, cap, cur, h1, _⟩
  · subst h2; exact ⟨none, 0, h1⟩
  · exact ⟨_, _, h1⟩
theorem own_pos3 {w : World} {B e z n : Nat} {v : Value} {xs : List Value} (h : w.ownsRow B e z v n xs) (hn : 0 < n) : ∃ g cap, v = .slice (some ⟨g, 0, none⟩) n cap ∧ B ≤ g ∧ n ≤ cap ∧ g < w.heap.size := own_pos h hn
theorem own_block_lt3 {w : World} {base e size n : Nat} {v : Value} {xs : List Value} (h : w.ownsRow base e size v n xs) : ∀ k, v.ownBlock = some k → base ≤ k ∧ k < w.heap.size := own_block_lt h
/-- Where a place was found. -/
def baseI (cs row : List Int) (U : Int) (bb cc : Nat) : Prop := (∀ c, c < cc → ¬ (otherB U row c = true ∧ chkB cs (bb + c) = true)) ∧ (∀ j, j < bb → freeR cs row U j = false) ∧ bb ≤ baseR cs row U
theorem baseI_start (cs row : List Int) (U : Int) : baseI cs row U 0 0 := ⟨fun c h => by omega, fun j h => by omega, Nat.zero_le _⟩
theorem baseI_hit {cs row : List Int} {U : Int} {bb cc : Nat} (h : baseI cs row U bb cc) (h1 : otherB U row cc = true) (h2 : chkB cs (bb + cc) = true) : bb < baseR cs row U ∧ baseI cs row U (bb + 1) 0 := by
  have hf : freeR cs row U bb = false := by
    cases e : freeR cs row U bb with
    | false => rfl
    | true => have := freeR_iff.1 e cc h1; rw [h2] at this; cases this
  have hs := baseR_spec cs row U
  have hne : bb ≠ baseR cs row U := fun e => by rw [← e, hf] at hs; cases hs.1
  have := h.2.2
  refine ⟨by omega, fun c h => by omega, fun j hj => ?_, by omega⟩
  by_cases e : j = bb
  · subst e; exact hf
  · exact h.2.1 j (by omega)
theorem baseI_next {cs row : List Int} {U : Int} {bb cc : Nat} (h : baseI cs row U bb cc) (h1 : ¬ (otherB U row cc = true ∧ chkB cs (bb + cc) = true)) : baseI cs row U bb (cc + 1) :=
  ⟨fun c hc => by
    by_cases e : c = cc
    · subst e; exact h1
    · exact h.1 c (by omega), h.2⟩
theorem baseI_end {cs row : List Int} {U : Int} {bb : Nat} (h : baseI cs row U bb row.length) : bb = baseR cs row U := by
  have hs := baseR_spec cs row U
  refine least_unique (f := freeR cs row U) ?_ h.2.1 hs.1 hs.2.2
  rw [freeR_iff]
  intro c hc
  rcases Nat.lt_or_ge c row.length with q | q
  · cases e : chkB cs (bb + c) with
    | false => rfl
    | true => exact absurd ⟨hc, e⟩ (h.1 c q)
  · simp [otherB, List.getElem?_eq_none q] at hc
theorem l4_app2 (a b c d : List Int) (x : Int) : ∀ i, i < 4 → upd (l4 a b c d) 2 (l4 a b c d 2 ++ [x]) i = l4 a b (c ++ [x]) d i := by
  intro i hi
  rcases (by omega : i = 0 ∨ i = 1 ∨ i = 2 ∨ i = 3) with rfl | rfl | rfl | rfl <;> rfl
theorem l4_app3 (a b c d : List Int) (x : Int) : ∀ i, i < 4 → upd (l4 a b c d) 3 (l4 a b c d 3 ++ [x]) i = l4 a b c (d ++ [x]) i := by
  intro i hi
  rcases (by omega : i = 0 ∨ i = 1 ∨ i = 2 ∨ i = 3) with rfl | rfl | rfl | rfl <;> rfl
theorem l4_set2 (a b c d : List Int) (k : Nat) (x : Int) : ∀ i, i < 4 → upd (l4 a b c d) 2 ((l4 a b c d 2).set k x) i = l4 a b (c.set k x) d i := by
  intro i hi
  rcases (by omega : i = 0 ∨ i = 1 ∨ i = 2 ∨ i = 3) with rfl | rfl | rfl | rfl <;> rfl
theorem l4_set3 (a b c d : List Int) (k : Nat) (x : Int) : ∀ i, i < 4 → upd (l4 a b c d) 3 ((l4 a b c d 3).set k x) i = l4 a b c (d.set k x) i := by
  intro i hi
  rcases (by omega : i = 0 ∨ i = 1 ∨ i = 2 ∨ i = 3) with rfl | rfl | rfl | rfl <;> rfl
theorem runF_ge : ∀ (l : List Sl) (s : List Int × List Int), s.2.length = s.1.length → s.1.length ≤ (runF s l).1.length ∧ ∀ a ∈ l, a.at_ < (runF s l).1.length := by
  intro l
  induction l with
  | nil => intro s _; exact ⟨Nat.le_refl _, fun a ha => by simp at ha⟩
  | cons b r ih =>
    intro s hs
    obtain ⟨l1, l2⟩ := fillR_len s b.at_ b.row b.n hs
    obtain ⟨h1, h2⟩ := ih (fillR s b.at_ b.row b.n) l1
    have e : runF s (b :: r) = runF (fillR s b.at_ b.row b.n) r := rfl
    rw [e]
    refine ⟨by omega, fun a ha => ?_⟩
    rcases List.mem_cons.1 ha with q | q
    · subst q; omega
    · exact h2 a q
theorem runG_len : ∀ (l : List Sl) (s : List Int × List Int), (runG s l).1.length = s.1.length ∧ (runG s l).2.length = s.2.length := by
  intro l
  induction l with
  | nil => intro s; exact ⟨rfl, rfl⟩
  | cons b r ih =>
    intro s
    obtain ⟨h1, h2⟩ := ih (setR s b)
    have e : runG s (b :: r) = runG (setR s b) r := rfl
    rw [e, h1, h2]
    simp [setR]
theorem runG_take {l : List Sl} {k : Nat} {a : Sl} (h : l[k]? = some a) (s : List Int × List Int) : runG s (l.take (k + 1)) = setR (runG s (l.take k)) a := by
  rw [List.take_add_one, h, Option.toList_some, runG_snoc]
theorem pack_doneN {w wr : World} {pb B C0 : Nat} {px : Int} {p : Pk} {v : Nat → Value} {A0 A1 A2 A3 : Option Addr} {c0 c1 c2 c3 n0 n1 n2 n3 : Nat} (h : PkN wr pb B px v (lp p)) (hpx : p.w = px) (hC : C0 < pb) (hw : i64 px) (hc : Cells wr C0 34 zeroPk)
    (e0 : v 0 = .slice A0 n0 c0) (e1 : v 1 = .slice A1 n1 c1) (e2 : v 2 = .slice A2 n2 c2) (e3 : v 3 = .slice A3 n3 c3) (l0 : n0 = p.us.length) (l1 : n1 = p.bs.length) (l2 : n2 = p.cs.length) (l3 : n3 = p.ns.length) (hb : Below C0 w wr) :
    Cells (((((wr.setCell ⟨C0, 0, none⟩ (.int .i64 px)).setCell ⟨C0, 1, none⟩ (.slice A0 n0 c0)).setCell ⟨C0, 2, none⟩ (.slice A1 n1 c1)).setCell ⟨C0, 3, none⟩ (.slice A2 n2 c2)).setCell ⟨C0, 4, none⟩ (.slice A3 n3 c3)) C0 34 #[.int .i64 px, .slice A0 n0 c0, .slice A1 n1 c1, .slice A2 n2 c2, .slice A3 n3 c3] ∧
    Below C0 w (((((wr.setCell ⟨C0, 0, none⟩ (.int .i64 px)).setCell ⟨C0, 1, none⟩ (.slice A0 n0 c0)).setCell ⟨C0, 2, none⟩ (.slice A1 n1 c1)).setCell ⟨C0, 3, none⟩ (.slice A2 n2 c2)).setCell ⟨C0, 4, none⟩ (.slice A3 n3 c3)) ∧
    PkV (((((wr.setCell ⟨C0, 0, none⟩ (.int .i64 px)).setCell ⟨C0, 1, none⟩ (.slice A0 n0 c0)).setCell ⟨C0, 2, none⟩ (.slice A1 n1 c1)).setCell ⟨C0, 3, none⟩ (.slice A2 n2 c2)).setCell ⟨C0, 4, none⟩ (.slice A3 n3 c3)) p (.agg #[.int .i64 px, .slice A0 n0 c0, .slice A1 n1 c1, .slice A2 n2 c2, .slice A3 n3 c3]) := by
  subst hpx
  have F : ∀ (j : Nat) (x : Value) (W : World), Fz (fun k => k = C0) wr W → Fz (fun k => k = C0) wr (W.setCell ⟨C0, j, none⟩ x) := fun j x W hf => fz_set hf C0 j x (.inl rfl)
  have hF := F 4 (.slice A3 n3 c3) _ (F 3 (.slice A2 n2 c2) _ (F 2 (.slice A1 n1 c1) _ (F 1 (.slice A0 n0 c0) _ (F 0 (.int .i64 p.w) wr (Fz.refl _ _)))))
  have P := h.move hF (fun k hk => by subst hk; exact Xq_out h _ hC)
  refine ⟨((((hc.set 0 _).set 1 _).set 2 _).set 3 _).set 4 _, ((((hb.setCell (Nat.le_refl _) _).setCell (Nat.le_refl _) _).setCell (Nat.le_refl _) _).setCell (Nat.le_refl _) _).setCell (Nat.le_refl _) _, hw, A0, c0, A1, c1, A2, c2, A3, c3, by rw [l0, l1, l2, l3], ?_, ?_, ?_, ?_⟩
  · exact own_is (P.o 0 (by decide)) e0 (P.n 0 (by decide))
  · exact own_is (P.o 1 (by decide)) e1 (P.n 1 (by decide))
  · exact own_is (P.o 2 (by decide)) e2 (P.n 2 (by decide))
  · exact own_is (P.o 3 (by decide)) e3 (P.n 3 (by decide))
set_option maxHeartbeats 16000000 in
set_option maxRecDepth 100000 in
theorem refPack_any (width : Int) (R : List (List Int)) (A : Option Addr) (cap : Nat) (w : World) (hR : RsAt w w.heap.size R A cap) (hok : packB width R = true) :
    Calls Try.prog 13 #[.int .i64 width, .slice A R.length cap] w fun e w' => (∃ v, e = .returned v ∧ PkV w' (packR width R) v) ∧ Below w.heap.size w w' := by
  obtain ⟨k1, k2, k3, k4, k5⟩ := packed_ok hok
  obtain ⟨W, rfl⟩ := Int.eq_ofNat_of_zero_le (show 0 ≤ width by omega)
  have hW1 : 1 ≤ W := by omega
  have hW64 : W ≤ 64 := by omega
  obtain ⟨N, hN⟩ : ∃ N, R.length = N := ⟨_, rfl⟩
  have hN1000 : N ≤ 1000 := by
    unfold packB at hok
    simp only [Bool.and_eq_true, decide_eq_true_eq] at hok
    omega
  obtain ⟨i3, h3, z3, s3, b3⟩ := info_parts info3
  have I3 := Lib.hid (And.intro h3 (And.intro z3 (And.intro s3 b3)))
  obtain ⟨i58, h58, z58, s58, b58⟩ := info_parts info58
  have I58 := Lib.hid (And.intro h58 (And.intro z58 (And.intro s58 b58)))
  obtain ⟨W0, hW0⟩ : ∃ W', (w.alloc (.cells zeroPk 34)).alloc (.cells #[.int .i64 (W : Int), .slice none 0 0, .slice none 0 0, .slice none 0 0, .slice none 0 0] 34) = W' := ⟨_, rfl⟩
  have b0 : Below w.heap.size w W0 := by rw [← hW0]; exact (below_new w _).trans ((below_new _ _).mono (by simp))
  have x0 : Cells W0 w.heap.size 34 zeroPk := by rw [← hW0]; exact (cells_new w _ 34).on (below_new _ _)
  have z0 : W0.heap.size = w.heap.size + 2 := by rw [← hW0]; simp
  have p0 : Cells W0 (w.heap.size + 1) 34 #[.int .i64 (W : Int), .slice none 0 0, .slice none 0 0, .slice none 0 0, .slice none 0 0] := by
    rw [← hW0]
    have := cells_new (w.alloc (.cells zeroPk 34)) #[.int .i64 (W : Int), .slice none 0 0, .slice none 0 0, .slice none 0 0, .slice none 0 0] 34
    rw [World.size_alloc] at this
    exact this
  have nil : ∀ (X : World) (e : TypeId) (sz : Nat), X.ownsRow (w.heap.size + 2) e sz (.slice none 0 0) 0 [] := fun X e sz => ⟨by simp, .inl ⟨rfl, rfl⟩⟩
  have Q0 : Rq W0 W0 (w.heap.size + 1) (w.heap.size + 2) W 0 R (packR (W : Int) (R.take 0)) (fun _ => .slice none 0 0) [] (.slice none 0 0) := by
    refine ⟨⟨p0, by omega, fun i hi => ?_, fun i j _ _ _ g hg => (by simp [Value.ownBlock] at hg), fun i hi x hx => ?_⟩, nil _ _ _, rfl, fun a ha => by simp at ha, by simp, Below.refl _ _, ⟨rfl, rfl, rfl, by simp [packR]⟩, by omega⟩
    · have : l4 (packR (W : Int) (R.take 0)).us (packR (W : Int) (R.take 0)).bs [] [] i = [] := by rcases (by omega : i = 0 ∨ i = 1 ∨ i = 2 ∨ i = 3) with rfl | rfl | rfl | rfl <;> rfl
      rw [this]; exact nil _ _ _
    · have : l4 (packR (W : Int) (R.take 0)).us (packR (W : Int) (R.take 0)).bs [] [] i = [] := by rcases (by omega : i = 0 ∨ i = 1 ∨ i = 2 ∨ i = 3) with rfl | rfl | rfl | rfl <;> rfl
      rw [this] at hx; simp at hx
  have hrows : ∀ (i : Nat) (r : List Int), R[i]? = some r → r.length = W ∧ ∀ x ∈ r, 0 ≤ x ∧ x ≤ 65535 := fun i r hr => by
    unfold packB rowsB at hok
    simp only [Bool.and_eq_true, decide_eq_true_eq] at hok
    have := List.all_eq_true.1 hok.2.2 r (List.mem_of_getElem? hr)
    unfold rowB at this
    simp only [Bool.and_eq_true, decide_eq_true_eq, inB_iff] at this
    exact ⟨by omega, this.2⟩
  have H := Lib.hid (And.intro hR (And.intro hN (And.intro hrows (And.intro b0 (And.intro x0 (And.intro z0 Q0))))))
  have HW := Lib.hid hW0
  rw [hN]
  clear hR hN hrows b0 x0 z0 p0 nil Q0 hW0 hok k1 k2 k3 k4 k5 h3 z3 s3 b3 h58 z58 s58 b58
  go_enter Try.func13, Try.ntmps13
  go_wp2_with fail
  go_loopw [6, 7, 8, 10, 11, 12] (fun vA ev iv _ _ _ wr => ∃ (i : Nat) (v : Nat → Value) (all : List Sl), iv = .int .i64 (i : Int) ∧ i ≤ N ∧ ev = .int .i64 ((packR (W : Int) (R.take i)).cs.length : Int) ∧ Rq W0 wr (w.heap.size + 1) (w.heap.size + 2) W i R (packR (W : Int) (R.take i)) v all vA) (fun _ _ iv _ _ _ _ => N - (RowKit.intOf iv).toNat)
  case atStart => exact ⟨0, _, [], rfl, by omega, rfl, by have e := HW.out; unfold zeroPk at e; rw [e]; exact H.out.2.2.2.2.2.2⟩
  case round =>
    obtain ⟨wo, rfl⟩ : ∃ wo : World, wo = wr := ⟨_, rfl⟩
    obtain ⟨i, v, all, rfl, hi, rfl, hQ⟩ := hrel
    by_cases hlt : i < N
    · have j1 : (i : Int) < (N : Int) := by omega
      obtain ⟨r, hr⟩ : ∃ r, R[i]? = some r := ⟨R[i]'(by rw [H.out.2.1]; exact hlt), List.getElem?_eq_getElem _⟩
      obtain ⟨hrl, hrx⟩ := H.out.2.2.1 i r hr
      have Bw : Below w.heap.size w wo := H.out.2.2.2.1.trans (hQ.b.mono (by omega))
      obtain ⟨bA, oA, rfl, hblA, hcA⟩ := H.out.1.r (by rintro rfl; simp at hr)
      obtain ⟨A', c', dr, hIr, _⟩ := hcA i r hr
      rw [hrl] at dr
      have d1 := (Bw.cell (p := ⟨bA, oA + i, none⟩) hblA).trans dr
      have CU := refUsual_any r A' c' (by omega) (by omega) wo (hIr.on Bw)
      obtain ⟨U, hU⟩ : ∃ U, usualR r = U := ⟨_, rfl⟩
      rw [hU, hrl] at CU
      have HI := Lib.hid (And.intro hQ (And.intro hr (And.intro hrl (And.intro hrx (And.intro Bw (And.intro hblA (And.intro dr (And.intro hIr hU))))))))
      have HCU := Lib.hid CU
      clear hQ hr hrl hrx Bw hcA dr hIr CU hU
      go_wp2_with fail
      refine HCU.out.mono ?_
      rintro e w2 ⟨rfl, hb2⟩
      have HB2 := Lib.hid hb2
      clear hb2 d1
      obtain ⟨P, hP⟩ : ∃ P, packR (W : Int) (R.take i) = P := ⟨_, rfl⟩
      rw [hP] at HI
      obtain ⟨b, hb⟩ : ∃ b, baseR P.cs r U = b := ⟨_, rfl⟩
      have hbl : b ≤ 64 * i := by rw [← hb]; exact Nat.le_trans (baseR_spec P.cs r U).2.1 HI.out.1.d.l
      have HPb := Lib.hid (And.intro hP hb)
      clear hP hb
      go_wp2_with fail
      go_loopw [10, 11] (fun bv cv ws => ∃ bb cc : Nat, bv = .int .i64 (bb : Int) ∧ cv = .int .i64 (cc : Int) ∧ cc ≤ W ∧ baseI P.cs r U bb cc ∧ ws = w2) (fun bv cv _ => (b - (RowKit.intOf bv).toNat) * (W + 1) + (W - (RowKit.intOf cv).toNat))
      case atStart => exact ⟨0, 0, rfl, rfl, by omega, baseI_start _ _ _, rfl⟩
      case round =>
        obtain ⟨bb, cc, rfl, rfl, hcc, hI, e⟩ := hrel
        obtain rfl := e
        have hbb : bb ≤ b := by have := hI.2.2; rw [HPb.out.2] at this; exact this
        by_cases hlt2 : cc < W
        · have j2 : (cc : Int) < (W : Int) := by omega
          obtain ⟨x, hx⟩ := list_at (xs := r) (i := cc) (by rw [HI.out.2.2.1]; exact hlt2)
          obtain ⟨bR, oR, rfl, hblR, hcR⟩ := HI.out.2.2.2.2.2.2.2.1.r (by rintro rfl; simp at hx)
          have Bw2 := HI.out.2.2.2.2.1.trans (HB2.out.mono HI.out.2.2.2.2.1.size)
          have g1 := (Bw2.cell (p := ⟨bA, oA + i, none⟩) hblA).trans HI.out.2.2.2.2.2.2.1
          have g2 := (Bw2.cell (p := ⟨bR, oR + cc, none⟩) hblR).trans (hcR cc x hx)
          have hoth : otherB U r cc = decide (x ≠ U) := by simp [otherB, hx]
          have CT := taken_any all u6 (w.heap.size + 2) (bb + cc) wr (ownsRow_below HI.out.1.a HB2.out)
          have hany : (all.any fun a => decide (a.at_ = bb + cc)) = chkB P.cs (bb + cc) := by
            have := runF_chk all ([], []) (bb + cc) (fun a ha => by have := (HI.out.1.g a ha).1; omega)
            rw [HI.out.1.f] at this
            rw [this]; simp [chkB]
          rw [hany, show ((bb + cc : Nat) : Int) = (bb : Int) + (cc : Int) by omega] at CT
          obtain ⟨t, ht⟩ : ∃ t, chkB P.cs (bb + cc) = t := ⟨_, rfl⟩
          rw [ht] at CT
          have HK := Lib.hid (And.intro hI (And.intro hoth ht))
          have HCT := Lib.hid CT
          clear hI hoth ht CT hany hx hcR Bw2
          by_cases he : x = U
          · have hq : (x == U) = true := by simpa using he
            have hq2 : (x != U) = false := by simp [he]
            have HE := Lib.hid (baseI_next HK.out.1 (by rw [HK.out.2.1]; simp [he]))
            clear he
            go_wp2_with fail
            go_roundw
            case rel => exact ⟨bb, cc + 1, rfl, by go_num, by omega, HE.out, trivial⟩
            case measure => simp [RowKit.intOf]; omega
          · have hq : (x == U) = false := by simpa using he
            have hq2 : (x != U) = true := by simpa using he
            have HO := Lib.hid (show otherB U r cc = true by rw [HK.out.2.1]; simpa using he)
            clear he
            go_wp2_with fail
            refine HCT.out.mono ?_
            rintro e w3 ⟨rfl, e⟩
            obtain rfl := e.symm
            clear e
            cases t
            · have HE := Lib.hid (baseI_next HK.out.1 (by rw [HK.out.2.2]; simp))
              go_wp2_with fail
              go_roundw
              case rel => exact ⟨bb, cc + 1, rfl, by go_num, by omega, HE.out, trivial⟩
              case measure => simp [RowKit.intOf]; omega
            · obtain ⟨q1, q2⟩ := baseI_hit HK.out.1 HO.out HK.out.2.2
              rw [HPb.out.2] at q1
              have HE := Lib.hid q2
              clear q2
              go_wp2_with fail
              go_roundw
              case rel => exact ⟨bb + 1, 0, by go_num, rfl, by omega, HE.out, trivial⟩
              case measure =>
                simp [RowKit.intOf]
                obtain ⟨d, hd⟩ : ∃ d, b = bb + 1 + d := ⟨b - (bb + 1), by omega⟩
                subst hd
                have z1 : bb + 1 + d - ((bb : Int) + 1).toNat = d := by omega
                have z2 : bb + 1 + d - bb = d + 1 := by omega
                first
                  | (rw [z1, z2, Nat.succ_mul]; omega)
                  | (rw [show bb + 1 + d - (bb + 1) = d by omega, z2, Nat.succ_mul]; omega)
        · obtain rfl : cc = W := by omega
          have j2 : ¬ (cc : Int) < (cc : Int) := by omega
          obtain rfl : bb = b := by rw [← HPb.out.2]; refine baseI_end ?_; rw [HI.out.2.2.1]; exact hI
          have HK := Lib.hid hI
          clear hI hbb
          go_wp2_with fail
          obtain ⟨w2, rfl⟩ : ∃ x : World, x = wr := ⟨_, rfl⟩
          have hQ := HI.out.1
          have hDL := hQ.d.l
          have F0 : fillsR U bb (i : Int) (P.cs, P.ns) (r.take 0) = (P.cs, P.ns) := by simp [fillsR, foldI]
          have S0 : Rt W0 w2 (w.heap.size + 1) (w.heap.size + 2) cc i P v r U bb 0 all u6 := ⟨hQ.q.below HB2.out, ownsRow_below hQ.a HB2.out, by rw [hQ.f, F0], hQ.g, by have := hQ.n; omega, hQ.b.trans (HB2.out.mono (by have := hQ.h; omega)), by have := hQ.h; have := HB2.out.size; omega⟩
          have hle : (packR (cc : Int) (R.take i)).cs.length = P.cs.length := by rw [HPb.out.1]
          rw [hle]
          rw [show (P.cs.length : Int) = ((fillsR U bb (i : Int) (P.cs, P.ns) (r.take 0)).1.length : Int) by rw [F0]]
          have HS0 := Lib.hid (And.intro S0 hQ.d)
          clear hQ F0 S0 hle hDL
          go_loopw [6, 7, 12] (fun vA ev cv ws => ∃ (c : Nat) (all' : List Sl), cv = .int .i64 (c : Int) ∧ c ≤ cc ∧ ev = .int .i64 ((fillsR U bb (i : Int) (P.cs, P.ns) (r.take c)).1.length : Int) ∧ Rt W0 ws (w.heap.size + 1) (w.heap.size + 2) cc i P v r U bb c all' vA) (fun _ _ cv _ => cc - (RowKit.intOf cv).toNat)
          case atStart => exact ⟨0, all, rfl, by omega, rfl, HS0.out.1⟩
          case round =>
            obtain ⟨c, all', rfl, hc, rfl, hT⟩ := hrel
            by_cases hlt3 : c < cc
            · have j3 : (c : Int) < (cc : Int) := by omega
              obtain ⟨x, hx⟩ := list_at (xs := r) (i := c) (by rw [HI.out.2.2.1]; exact hlt3)
              obtain ⟨bR, oR, rfl, hblR, hcR⟩ := HI.out.2.2.2.2.2.2.2.1.r (by rintro rfl; simp at hx)
              have Bw3 : Below w.heap.size w wr := H.out.2.2.2.1.trans (hT.b.mono (by omega))
              have g1 := (Bw3.cell (p := ⟨bA, oA + i, none⟩) hblA).trans HI.out.2.2.2.2.2.2.1
              have g2 := (Bw3.cell (p := ⟨bR, oR + c, none⟩) hblR).trans (hcR c x hx)
              have ht := foldI_take (fun s x c => if x = U then s else fillR s (bb + c) (i : Int) x) (P.cs, P.ns) hx
              have ht' : fillsR U bb (i : Int) (P.cs, P.ns) (r.take (c + 1)) = if x = U then fillsR U bb (i : Int) (P.cs, P.ns) (r.take c) else fillR (fillsR U bb (i : Int) (P.cs, P.ns) (r.take c)) (bb + c) (i : Int) x := ht
              have hf2 := fills_take U bb (i : Int) (by omega) (P.cs, P.ns) HS0.out.2.c r c (by rw [HI.out.2.2.1]; exact hc)
              obtain ⟨s0, hs0⟩ : ∃ s, fillsR U bb (i : Int) (P.cs, P.ns) (r.take c) = s := ⟨_, rfl⟩
              rw [hs0] at ht' hf2
              obtain ⟨l1, l2, l3, -⟩ := hf2
              have hDL := HS0.out.2.l
              have hDc := HS0.out.2.c
              dsimp only at l2 l3
              obtain ⟨e0, he0⟩ : ∃ e, s0.1.length = e := ⟨_, rfl⟩
              have he0l : e0 ≤ 200000 := by omega
              have xr := HI.out.2.2.2.1 x (List.mem_of_getElem? hx)
              rw [hs0, he0]
              have HK := Lib.hid (And.intro hT (And.intro ht' (And.intro hs0 (And.intro l1 (And.intro he0 xr)))))
              clear hT ht ht' hs0 l1 l2 l3 hDL hDc he0 hx hcR Bw3 xr
              by_cases he : x = U
              · have hq : (x == U) = true := by simpa using he
                have hend : ∃ (c' : Nat) (all2 : List Sl), Value.int .i64 ((c : Int) + 1) = .int .i64 (c' : Int) ∧ c' ≤ cc ∧ Value.int .i64 (e0 : Int) = .int .i64 ((fillsR U bb (i : Int) (P.cs, P.ns) (r.take c')).1.length : Int) ∧ Rt W0 wr (w.heap.size + 1) (w.heap.size + 2) cc i P v r U bb c' all2 u6 := by
                  have hT := HK.out.1
                  refine ⟨c + 1, all', by simp, by omega, by rw [HK.out.2.1, if_pos he, HK.out.2.2.2.2.1], hT.q, hT.a, by rw [hT.f, HK.out.2.2.1, HK.out.2.1, if_pos he], hT.g, by have := hT.n; omega, hT.b, hT.h⟩
                have HE := Lib.hid hend
                clear he hend
                go_wp2_with fail
                go_roundw
                case rel => exact HE.out
                case measure => simp [RowKit.intOf]; omega
              · have hq : (x == U) = false := by simpa using he
                have hT := HK.out.1
                obtain ⟨A6, c6, hA6⟩ : ∃ A c, u6 = .slice A all'.length c := own_form3 hT.a
                subst hA6
                obtain ⟨nA, hnA⟩ : ∃ n, all'.length = n := ⟨_, rfl⟩
                obtain ⟨o, ho⟩ : ∃ o : Obj, .cells #[.int .i64 ((bb : Int) + (c : Int)), .int .i64 (i : Int), .int .i64 x] 58 = o := ⟨_, rfl⟩
                have o1 : (wr.alloc o).ownsRow (w.heap.size + 2) 58 3 (.slice A6 nA c6) nA (slsC all') := by rw [← hnA]; exact hT.a.alloc o
                have hnews : ∀ (t : Nat) u, ([.int .i64 ((bb : Int) + (c : Int)), .int .i64 (i : Int), .int .i64 x] : List Value)[t]? = some u → (wr.alloc o).cell? ((⟨wr.heap.size, 0, none⟩ : Addr).add t) = some u := fun t u hu => by
                  rw [← ho]
                  have e0 : ((⟨wr.heap.size, 0, none⟩ : Addr).add t) = ⟨wr.heap.size, t, none⟩ := by rw [add0]
                  rw [e0, World.cell?_alloc_new]
                  simpa using hu
                have hone : ∀ u ∈ ([.int .i64 ((bb : Int) + (c : Int)), .int .i64 (i : Int), .int .i64 x] : List Value), u.oneCell' = true := fun u hu => by
                  simp at hu
                  rcases hu with rfl | rfl | rfl <;> rfl
                have hBs := hT.h
                have hnl := hT.n
                have hend : ∀ g cp w4, w4.ownsRow (w.heap.size + 2) 58 3 (.slice (some ⟨g, 0, none⟩) (nA + 1) cp) (nA + 1) (slsC all' ++ [.int .i64 ((bb : Int) + (c : Int)), .int .i64 (i : Int), .int .i64 x]) → (wr.alloc o).grownBy w4 (Value.slice A6 nA c6).ownBlock →
                    ∃ (c' : Nat) (all2 : List Sl), Value.int .i64 ((c : Int) + 1) = .int .i64 (c' : Int) ∧ c' ≤ cc ∧ Value.int .i64 (max (e0 : Int) ((bb : Int) + (c : Int) + 1)) = .int .i64 ((fillsR U bb (i : Int) (P.cs, P.ns) (r.take c')).1.length : Int) ∧ Rt W0 w4 (w.heap.size + 1) (w.heap.size + 2) cc i P v r U bb c' all2 (.slice (some ⟨g, 0, none⟩) (nA + 1) cp) := fun g cp w4 k1 k2 => by
                  have hs : (wr.alloc o).heap.size = wr.heap.size + 1 := by simp
                  rw [← hnA] at k2
                  have hFz : Fz (fun k => (Value.slice A6 all'.length c6).ownBlock = some k) wr w4 := ⟨k2.os, k2.tape, k2.output, by have := k2.size; omega, fun k hk hn => (k2.block k (by omega) (fun e => hn e.symm)).trans ((below_new wr o).block k hk)⟩
                  have hq2 := hT.q.move hFz (fun k hk hx => by
                    have hge := (own_block_lt3 hT.a k hk).1
                    rcases hx with e | ⟨j, hj, e⟩
                    · omega
                    · exact own_types hT.a (hT.q.o j hj) (by decide) k hk e)
                  obtain ⟨m1, m2⟩ := fillR_len s0 (bb + c) (i : Int) x HK.out.2.2.2.1
                  refine ⟨c + 1, all' ++ [⟨bb + c, (i : Int), x⟩], by simp, by omega, ?_, hq2, ?_, ?_, ?_, ?_, ?_, ?_⟩
                  · rw [HK.out.2.1, if_neg he, m2, HK.out.2.2.2.2.1, show max (e0 : Int) ((bb : Int) + (c : Int) + 1) = ((max e0 (bb + c + 1) : Nat) : Int) by omega]
                  · have e9 : slC ⟨bb + c, (i : Int), x⟩ = [.int .i64 ((bb : Int) + (c : Int)), .int .i64 (i : Int), .int .i64 x] := by simp [slC]
                    rw [← e9] at k1
                    rw [slsC_snoc, List.length_append, hnA]
                    exact k1
                  · rw [runF_snoc, hT.f, HK.out.2.2.1, HK.out.2.1, if_neg he]
                  · intro a ha
                    rcases List.mem_append.1 ha with q | q
                    · exact hT.g a q
                    · simp at q
                      subst q
                      have := HK.out.2.2.2.2.2
                      refine ⟨by show (0 : Int) ≤ (i : Int); omega, ?_, ?_⟩
                      · show i64 (i : Int); unfold i64; omega
                      · show i64 x; unfold i64; omega
                  · simp; omega
                  · exact hT.b.trans (hFz.below (by omega) (fun k hk hx => by have := (own_block_lt3 hT.a k hx).1; omega))
                  · have := hFz.size; omega
                have HL := Lib.hid (And.intro o1 (And.intro hnews (And.intro hone hend)))
                rw [← ho] at HL
                rw [hnA]
                rw [hnA] at hnl
                clear o1 hnews hone hend hT he ho
                go_wp2_with (first
                  | (at_builtin
                     refine wpList_append_lies _ rfl (.tmp 65) (.tmp 78) 54 rfl (w.heap.size + 2) 58 i58 (.agg #[.int .i64 0, .int .i64 0, .int .i64 0]) 3 24 Try.underlying54 I58.out.1 I58.out.2.1 I58.out.2.2.1 I58.out.2.2.2 rfl (by decide) (.slice A6 nA c6) nA (slsC all') rfl HL.out.1 ⟨wr.heap.size, 0, none⟩ 1 1 _ rfl rfl HL.out.2.1 HL.out.2.2.1 (by decide) (by unfold maxLen; omega) (by omega) (by simp; omega) _ rfl ?_)
                  | fail)
                intro g cp w4 ho4 hg4 _ _
                have HE := Lib.hid (HL.out.2.2.2 g cp w4 ho4 hg4)
                clear ho4 hg4
                go_wp2_with fail
                refine ⟨HE.out, ?_⟩
                simp [RowKit.intOf]; omega
            · obtain rfl : c = cc := by omega
              have j3 : ¬ (c : Int) < (c : Int) := by omega
              have e3 : r.take c = r := by rw [← HI.out.2.2.1, List.take_length]
              obtain ⟨w4, rfl⟩ : ∃ x : World, x = wr := ⟨_, rfl⟩
              have P4 := hT.q
              have hdP := HS0.out.2
              have d1 := P4.c.cell 1
              have d2 := P4.c.cell 2
              simp at d1 d2
              obtain ⟨A1, c1, e1⟩ := own_form (P4.o 0 (by decide))
              obtain ⟨A2, c2, e2⟩ := own_form (P4.o 1 (by decide))
              rw [show (l4 P.us P.bs [] [] 0).length = i from hdP.u] at e1
              rw [show (l4 P.us P.bs [] [] 1).length = i from hdP.b] at e2
              rw [e1] at d1
              rw [e2] at d2
              have f1 := P4.c.froz 1
              have f2 := P4.c.froz 2
              have hB4 := hT.h
              have z4 := P4.c.lt
              have o1 : (w4.alloc (.cells #[.int .i64 U] 3)).ownsRow (w.heap.size + 2) 3 1 (.slice A1 i c1) i (intsC P.us) := by
                have := (P4.o 0 (by decide)).alloc (.cells #[.int .i64 U] 3)
                rw [e1, show (l4 P.us P.bs [] [] 0).length = i from hdP.u] at this
                exact this
              have hnew : (w4.alloc (.cells #[.int .i64 U] 3)).cell? ⟨w4.heap.size, 0, none⟩ = some (.int .i64 U) := by rw [World.cell?_alloc_new]; rfl
              have Ui : i64 U := by
                have := usual_in (P := fun x => 0 ≤ x ∧ x ≤ 65535) HI.out.2.2.2.1 (by omega)
                rw [HI.out.2.2.2.2.2.2.2.2] at this
                unfold i64; omega
              have hend : ∀ g cp w5, w5.ownsRow (w.heap.size + 2) 3 1 (.slice (some ⟨g, 0, none⟩) (i + 1) cp) (i + 1) (intsC P.us ++ [.int .i64 U]) → (w4.alloc (.cells #[.int .i64 U] 3)).grownBy w5 (Value.slice A1 i c1).ownBlock → ((Value.slice A1 i c1).ownBlock = some g ∨ g = w4.heap.size + 1) →
                  w5.cell? ⟨(w.heap.size + 1), 1, none⟩ = some (.slice A1 i c1) ∧ w5.frozen? ⟨(w.heap.size + 1), 1, none⟩ = false ∧ w5.cell? ⟨(w.heap.size + 1), 2, none⟩ = some (.slice A2 i c2) ∧ w5.frozen? ⟨(w.heap.size + 1), 2, none⟩ = false ∧ (w.heap.size + 1) < w5.heap.size ∧
                    PkN (w5.setCell ⟨(w.heap.size + 1), 1, none⟩ (.slice (some ⟨g, 0, none⟩) (i + 1) cp)) (w.heap.size + 1) (w.heap.size + 2) (c : Int) (upd v 0 (.slice (some ⟨g, 0, none⟩) (i + 1) cp)) (l4 (P.us ++ [U]) P.bs [] []) ∧
                    Fz (Xp (w.heap.size + 1) v) w4 (w5.setCell ⟨(w.heap.size + 1), 1, none⟩ (.slice (some ⟨g, 0, none⟩) (i + 1) cp)) := fun g cp w5 k1 k2 k3 => by
                rw [← e1] at k2 k3
                have ek : (l4 P.us P.bs [] [] 0).length = i := hdP.u
                have k1' : w5.ownsRow (w.heap.size + 2) 3 1 (.slice (some ⟨g, 0, none⟩) ((l4 P.us P.bs [] [] 0).length + 1) cp) ((l4 P.us P.bs [] [] 0).length + 1) (intsC (l4 P.us P.bs [] [] 0) ++ [.int .i64 U]) := by rw [ek]; exact k1
                obtain ⟨m1, m2⟩ := P4.append (i := 0) (x := U) (by decide) Ui k1' k2 k3
                rw [ek] at m2
                have q := m1.cell 1
                have q2 := m1.cell 2
                simp at q q2
                rw [e1] at q
                rw [e2] at q2
                exact ⟨q, m1.froz 1, q2, m1.froz 2, m1.lt, m2.congr (l4_app0 _ _ _ _ _), fz_app (Fz.refl _ _) (by decide) (AtV.refl _ _) k2 1 _⟩
              have HL := Lib.hid (And.intro o1 (And.intro hnew (And.intro hend (And.intro hT (And.intro e2 (And.intro hB4 (And.intro hdP e3)))))))
              have hi1000 : i ≤ 1000 := by omega
              have hbl2 : (bb : Int) ≤ 64000 := by omega
              clear o1 hnew hend hT P4 e1 e2 hB4 hdP e3
              go_wp2_with (first
                | (at_builtin
                   refine wpList_append_one rfl (.tmp 87) (.tmp 89) 25 rfl (w.heap.size + 2) 3 i3 (.int .i64 0) 8 Try.underlying25 I3.out.1 I3.out.2.1 I3.out.2.2.1 I3.out.2.2.2 (by decide) rfl (.slice A1 i c1) i (intsC P.us) rfl HL.out.1 ⟨w4.heap.size, 0, none⟩ (.int .i64 U) rfl HL.out.2.1 rfl (by omega) (by have := HL.out.2.2.2.2.2.1; simp; omega) _ rfl ?_)
                | fail)
              intro g cp w5 ho5 hg5 hat5 hlt5
              obtain ⟨s1, s2, s3, s4, s5, s6, s7⟩ := HL.out.2.2.1 g cp w5 ho5 hg5 hat5
              have o2 : ((w5.setCell ⟨(w.heap.size + 1), 1, none⟩ (.slice (some ⟨g, 0, none⟩) (i + 1) cp)).alloc (.cells #[.int .i64 (bb : Int)] 3)).ownsRow (w.heap.size + 2) 3 1 (.slice A2 i c2) i (intsC P.bs) := by
                have := (s6.o 1 (by decide)).alloc (.cells #[.int .i64 (bb : Int)] 3)
                rw [show upd v 0 (.slice (some ⟨g, 0, none⟩) (i + 1) cp) 1 = v 1 from rfl, HL.out.2.2.2.2.1, show (l4 (P.us ++ [U]) P.bs [] [] 1).length = i from HL.out.2.2.2.2.2.2.1.b] at this
                exact this
              have hnew2 : ((w5.setCell ⟨(w.heap.size + 1), 1, none⟩ (.slice (some ⟨g, 0, none⟩) (i + 1) cp)).alloc (.cells #[.int .i64 (bb : Int)] 3)).cell? ⟨w5.heap.size, 0, none⟩ = some (.int .i64 (bb : Int)) := by
                rw [show w5.heap.size = (w5.setCell ⟨(w.heap.size + 1), 1, none⟩ (.slice (some ⟨g, 0, none⟩) (i + 1) cp)).heap.size by simp, World.cell?_alloc_new]; rfl
              have hB5 : (w.heap.size + 2) ≤ w5.heap.size := by have h7 := s7.size; rw [World.size_setCell] at h7; have := HL.out.2.2.2.2.2.1; omega
              have hend2 : ∀ g' cp' w6, w6.ownsRow (w.heap.size + 2) 3 1 (.slice (some ⟨g', 0, none⟩) (i + 1) cp') (i + 1) (intsC P.bs ++ [.int .i64 (bb : Int)]) → ((w5.setCell ⟨(w.heap.size + 1), 1, none⟩ (.slice (some ⟨g, 0, none⟩) (i + 1) cp)).alloc (.cells #[.int .i64 (bb : Int)] 3)).grownBy w6 (Value.slice A2 i c2).ownBlock → ((Value.slice A2 i c2).ownBlock = some g' ∨ g' = (w5.setCell ⟨(w.heap.size + 1), 1, none⟩ (.slice (some ⟨g, 0, none⟩) (i + 1) cp)).heap.size + 1) →
                  w6.cell? ⟨(w.heap.size + 1), 2, none⟩ = some (.slice A2 i c2) ∧ w6.frozen? ⟨(w.heap.size + 1), 2, none⟩ = false ∧ (w.heap.size + 1) < w6.heap.size ∧
                    ∃ (i' : Nat) (v' : Nat → Value) (all2 : List Sl), Value.int .i64 ((i : Int) + 1) = .int .i64 (i' : Int) ∧ i' ≤ N ∧ Value.int .i64 ((fillsR U bb (i : Int) (P.cs, P.ns) (r.take c)).1.length : Int) = .int .i64 ((packR (c : Int) (R.take i')).cs.length : Int) ∧
                      Rq W0 (w6.setCell ⟨(w.heap.size + 1), 2, none⟩ (.slice (some ⟨g', 0, none⟩) (i + 1) cp')) (w.heap.size + 1) (w.heap.size + 2) c i' R (packR (c : Int) (R.take i')) v' all2 u6 := fun g' cp' w6 k1 k2 k3 => by
                have hT := HL.out.2.2.2.1
                rw [show Value.slice A2 i c2 = upd v 0 (.slice (some ⟨g, 0, none⟩) (i + 1) cp) 1 from HL.out.2.2.2.2.1.symm] at k2 k3
                have ek : (l4 (P.us ++ [U]) P.bs [] [] 1).length = i := HL.out.2.2.2.2.2.2.1.b
                have k1' : w6.ownsRow (w.heap.size + 2) 3 1 (.slice (some ⟨g', 0, none⟩) ((l4 (P.us ++ [U]) P.bs [] [] 1).length + 1) cp') ((l4 (P.us ++ [U]) P.bs [] [] 1).length + 1) (intsC (l4 (P.us ++ [U]) P.bs [] [] 1) ++ [.int .i64 (bb : Int)]) := by rw [ek]; exact k1
                obtain ⟨m1, m2⟩ := s6.append (i := 1) (x := (bb : Int)) (by decide) (by unfold i64; omega) k1' k2 k3
                rw [ek] at m2
                have q2 := m1.cell 2
                simp at q2
                rw [show upd v 0 (.slice (some ⟨g, 0, none⟩) (i + 1) cp) 1 = v 1 from rfl, HL.out.2.2.2.2.1] at q2
                have F6 := fz_app (Fz.refl (Xp (w.heap.size + 1) (upd v 0 (.slice (some ⟨g, 0, none⟩) (i + 1) cp))) _) (i := 1) (by decide) (AtV.refl _ _) k2 2 (.slice (some ⟨g', 0, none⟩) (i + 1) cp')
                have npb : ∀ {X : World}, X.ownsRow (w.heap.size + 2) 58 3 u6 all'.length (slsC all') → ∀ k, k = (w.heap.size + 1) → u6.ownBlock ≠ some k := fun {X} hx k hk e => by have := (own_block_lt3 hx k e).1; omega
                have A5 : (w5.setCell ⟨(w.heap.size + 1), 1, none⟩ (.slice (some ⟨g, 0, none⟩) (i + 1) cp)).ownsRow (w.heap.size + 2) 58 3 u6 all'.length (slsC all') := own_fz s7 hT.a (fun k hk e => by
                  rcases hk with q | ⟨j, hj, q⟩
                  · exact npb hT.a k q e
                  · exact own_types hT.a (hT.q.o j hj) (by decide) k e q)
                have A6 := own_fz F6 A5 (fun k hk e => by
                  rcases hk with q | ⟨j, hj, q⟩
                  · exact npb A5 k q e
                  · exact own_types A5 (s6.o j hj) (by decide) k e q)
                have B5 : Below (w.heap.size + 1) W0 (w5.setCell ⟨(w.heap.size + 1), 1, none⟩ (.slice (some ⟨g, 0, none⟩) (i + 1) cp)) := hT.b.trans (s7.below (by omega) (fun k hk => Xq_out hT.q k hk))
                have B6 := B5.trans (F6.below (by have := B5.size; have := s6.c.lt; omega) (fun k hk => Xq_out s6 k hk))
                have hadd : packR (c : Int) (R.take (i + 1)) = ⟨P.w, P.us ++ [U], P.bs ++ [(bb : Int)], (fillsR U bb (i : Int) (P.cs, P.ns) r).1, (fillsR U bb (i : Int) (P.cs, P.ns) r).2⟩ := by
                  rw [packR_take _ HI.out.2.1, HPb.out.1]
                  unfold addR
                  rw [HI.out.2.2.2.2.2.2.2.2, HPb.out.2, HL.out.2.2.2.2.2.2.1.u]
                have hpd := (HL.out.2.2.2.2.2.2.1.add (row := r) (by rw [HI.out.2.2.1]; omega)).1
                have hadd2 : addR P r = packR (c : Int) (R.take (i + 1)) := by rw [packR_take _ HI.out.2.1, HPb.out.1]
                refine ⟨q2, m1.froz 2, m1.lt, i + 1, upd (upd v 0 (.slice (some ⟨g, 0, none⟩) (i + 1) cp)) 1 (.slice (some ⟨g', 0, none⟩) (i + 1) cp'), all', by simp, by omega, ?_, ?_⟩
                · rw [hadd, HL.out.2.2.2.2.2.2.2]
                · rw [hadd2] at hpd
                  rw [hadd] at hpd ⊢
                  refine ⟨m2.congr (l4_app1 _ _ _ _ _), A6, ?_, hT.g, by have := hT.n; omega, B6, hpd, ?_⟩
                  · rw [hT.f, HL.out.2.2.2.2.2.2.2]
                  · have := F6.size; have := s7.size; have := HL.out.2.2.2.2.2.1; omega
              have HM := Lib.hid (And.intro o2 (And.intro hnew2 (And.intro hB5 hend2)))
              clear s6 s7 o2 hnew2 hB5 hend2 ho5 hg5 hat5
              go_wp2_with (first
                | (at_builtin
                   refine wpList_append_one rfl (.tmp 93) (.tmp 95) 25 rfl (w.heap.size + 2) 3 i3 (.int .i64 0) 8 Try.underlying25 I3.out.1 I3.out.2.1 I3.out.2.2.1 I3.out.2.2.2 (by decide) rfl (.slice A2 i c2) i (intsC P.bs) rfl HM.out.1 ⟨w5.heap.size, 0, none⟩ (.int .i64 (bb : Int)) rfl HM.out.2.1 rfl (by omega) (by have := HM.out.2.2.1; simp; omega) _ rfl ?_)
                | fail)
              intro g' cp' w6 ho6 hg6 hat6 hlt6
              obtain ⟨r1, r2, r3, r4⟩ := HM.out.2.2.2 g' cp' w6 ho6 hg6 (by rcases hat6 with e | e; exact .inl e; exact .inr (by rw [e]; simp))
              have H6 := Lib.hid r4
              clear r4 ho6 hg6 hat6
              go_wp2_with fail
              go_roundw
              case rel => exact H6.out
              case measure => simp [RowKit.intOf]; omega
    · obtain rfl : i = N := by omega
      have j1 : ¬ (i : Int) < (i : Int) := by omega
      have e1 : R.take i = R := by rw [← H.out.2.1, List.take_length]
      rw [e1] at hQ ⊢
      obtain ⟨P, hP⟩ : ∃ P, packR (W : Int) R = P := ⟨_, rfl⟩
      rw [hP] at hQ ⊢
      have hPw : P.w = (W : Int) := by rw [← hP]; exact packR_w _ R _ rfl
      have hQd := hQ.d
      obtain ⟨E, hE⟩ : ∃ E, P.cs.length = E := ⟨_, rfl⟩
      have hE1 : E ≤ 64000 := by have := hQd.l; omega
      rw [hE]
      have hal := hQ.n
      obtain ⟨A6, c6, hA6⟩ : ∃ A c, u6 = .slice A all.length c := own_form3 hQ.a
      subst hA6
      have HQ := Lib.hid (And.intro hQ (And.intro hP (And.intro hPw (And.intro hE e1))))
      clear hP hPw hE e1 hQd
      have R0 : PkN wo (w.heap.size + 1) (w.heap.size + 2) (W : Int) v (l4 P.us P.bs (List.replicate 0 (-1)) (List.replicate 0 0)) := hQ.q
      have R0' := Lib.hid (And.intro R0 (And.intro hQ.a (And.intro hQ.b hQ.h)))
      clear hQ R0
      obtain ⟨nA, hnA⟩ : ∃ n, all.length = n := ⟨_, rfl⟩
      rw [hnA] at hal R0' HQ ⊢
      go_wp2_with fail
      go_loopw [13] (fun kv ws => ∃ (k : Nat) (v : Nat → Value), kv = .int .i64 (k : Int) ∧ k ≤ E ∧ PkN ws (w.heap.size + 1) (w.heap.size + 2) (W : Int) v (l4 P.us P.bs (List.replicate k (-1)) (List.replicate k 0)) ∧ ws.ownsRow (w.heap.size + 2) 58 3 (.slice A6 nA c6) nA (slsC all) ∧ Below (w.heap.size + 1) W0 ws ∧ (w.heap.size + 2) ≤ ws.heap.size) (fun kv _ => E - (RowKit.intOf kv).toNat)
      case atStart => exact ⟨0, v, rfl, by omega, R0'.out.1, R0'.out.2.1, R0'.out.2.2.1, R0'.out.2.2.2⟩
      case round =>
        obtain ⟨k, v, rfl, hk, hQk, hAk, hbk, hBk⟩ := hrel
        obtain ⟨w4, rfl⟩ : ∃ x : World, x = wr := ⟨_, rfl⟩
        by_cases hlt4 : k < E
        · have j4 : (k : Int) < (E : Int) := by omega
          have d1 := hQk.c.cell 3
          have d2 := hQk.c.cell 4
          simp at d1 d2
          obtain ⟨A1, c1, e1⟩ := own_form (hQk.o 2 (by decide))
          obtain ⟨A2, c2, e2⟩ := own_form (hQk.o 3 (by decide))
          have kl2 : (l4 P.us P.bs (List.replicate k (-1)) (List.replicate k 0) 2).length = k := by show (List.replicate k (-1 : Int)).length = k; simp
          have kl3 : (l4 P.us P.bs (List.replicate k (-1)) (List.replicate k 0) 3).length = k := by show (List.replicate k (0 : Int)).length = k; simp
          rw [kl2] at e1
          rw [kl3] at e2
          rw [e1] at d1
          rw [e2] at d2
          have f1 := hQk.c.froz 3
          have f2 := hQk.c.froz 4
          have z4 := hQk.c.lt
          have o1 : (w4.alloc (.cells #[.int .i64 (-1)] 3)).ownsRow (w.heap.size + 2) 3 1 (.slice A1 k c1) k (intsC (List.replicate k (-1))) := by
            have := (hQk.o 2 (by decide)).alloc (.cells #[.int .i64 (-1)] 3)
            rw [e1, kl2] at this
            exact this
          have hnew : (w4.alloc (.cells #[.int .i64 (-1)] 3)).cell? ⟨w4.heap.size, 0, none⟩ = some (.int .i64 (-1)) := by rw [World.cell?_alloc_new]; rfl
          have hend : ∀ g cp w5, w5.ownsRow (w.heap.size + 2) 3 1 (.slice (some ⟨g, 0, none⟩) (k + 1) cp) (k + 1) (intsC (List.replicate k (-1)) ++ [.int .i64 (-1)]) → (w4.alloc (.cells #[.int .i64 (-1)] 3)).grownBy w5 (Value.slice A1 k c1).ownBlock → ((Value.slice A1 k c1).ownBlock = some g ∨ g = w4.heap.size + 1) →
              w5.cell? ⟨(w.heap.size + 1), 3, none⟩ = some (.slice A1 k c1) ∧ w5.frozen? ⟨(w.heap.size + 1), 3, none⟩ = false ∧ w5.cell? ⟨(w.heap.size + 1), 4, none⟩ = some (.slice A2 k c2) ∧ w5.frozen? ⟨(w.heap.size + 1), 4, none⟩ = false ∧ (w.heap.size + 1) < w5.heap.size ∧
                PkN (w5.setCell ⟨(w.heap.size + 1), 3, none⟩ (.slice (some ⟨g, 0, none⟩) (k + 1) cp)) (w.heap.size + 1) (w.heap.size + 2) (W : Int) (upd v 2 (.slice (some ⟨g, 0, none⟩) (k + 1) cp)) (l4 P.us P.bs (List.replicate k (-1) ++ [-1]) (List.replicate k 0)) ∧
                Fz (Xp (w.heap.size + 1) v) w4 (w5.setCell ⟨(w.heap.size + 1), 3, none⟩ (.slice (some ⟨g, 0, none⟩) (k + 1) cp)) := fun g cp w5 k1 k2 k3 => by
            rw [← e1] at k2 k3
            have k1' : w5.ownsRow (w.heap.size + 2) 3 1 (.slice (some ⟨g, 0, none⟩) ((l4 P.us P.bs (List.replicate k (-1)) (List.replicate k 0) 2).length + 1) cp) ((l4 P.us P.bs (List.replicate k (-1)) (List.replicate k 0) 2).length + 1) (intsC (l4 P.us P.bs (List.replicate k (-1)) (List.replicate k 0) 2) ++ [.int .i64 (-1)]) := by rw [kl2]; exact k1
            obtain ⟨m1, m2⟩ := hQk.append (i := 2) (x := -1) (by decide) (by unfold i64; omega) k1' k2 k3
            rw [kl2] at m2
            have q := m1.cell 3
            have q2 := m1.cell 4
            simp at q q2
            rw [e1] at q
            rw [e2] at q2
            exact ⟨q, m1.froz 3, q2, m1.froz 4, m1.lt, m2.congr (l4_app2 _ _ _ _ _), fz_app (Fz.refl _ _) (by decide) (AtV.refl _ _) k2 3 _⟩
          have HL := Lib.hid (And.intro o1 (And.intro hnew (And.intro hend (And.intro hQk (And.intro e2 (And.intro hBk (And.intro hAk (And.intro hbk kl3))))))))
          clear o1 hnew hend hQk e1 e2 hBk hAk hbk kl2 kl3
          go_wp2_with (first
            | (at_builtin
               refine wpList_append_one rfl (.tmp 104) (.tmp 105) 25 rfl (w.heap.size + 2) 3 i3 (.int .i64 0) 8 Try.underlying25 I3.out.1 I3.out.2.1 I3.out.2.2.1 I3.out.2.2.2 (by decide) rfl (.slice A1 k c1) k (intsC (List.replicate k (-1))) rfl HL.out.1 ⟨w4.heap.size, 0, none⟩ (.int .i64 (-1)) rfl HL.out.2.1 rfl (by omega) (by have := HL.out.2.2.2.2.2.1; simp; omega) _ rfl ?_)
            | fail)
          intro g cp w5 ho5 hg5 hat5 hlt5
          obtain ⟨s1, s2, s3, s4, s5, s6, s7⟩ := HL.out.2.2.1 g cp w5 ho5 hg5 hat5
          have kl3' : (l4 P.us P.bs (List.replicate k (-1) ++ [-1]) (List.replicate k 0) 3).length = k := by show (List.replicate k (0 : Int)).length = k; simp
          have o2 : ((w5.setCell ⟨(w.heap.size + 1), 3, none⟩ (.slice (some ⟨g, 0, none⟩) (k + 1) cp)).alloc (.cells #[.int .i64 0] 3)).ownsRow (w.heap.size + 2) 3 1 (.slice A2 k c2) k (intsC (List.replicate k 0)) := by
            have := (s6.o 3 (by decide)).alloc (.cells #[.int .i64 0] 3)
            rw [show upd v 2 (.slice (some ⟨g, 0, none⟩) (k + 1) cp) 3 = v 3 from rfl, HL.out.2.2.2.2.1, kl3'] at this
            exact this
          have hnew2 : ((w5.setCell ⟨(w.heap.size + 1), 3, none⟩ (.slice (some ⟨g, 0, none⟩) (k + 1) cp)).alloc (.cells #[.int .i64 0] 3)).cell? ⟨w5.heap.size, 0, none⟩ = some (.int .i64 0) := by
            rw [show w5.heap.size = (w5.setCell ⟨(w.heap.size + 1), 3, none⟩ (.slice (some ⟨g, 0, none⟩) (k + 1) cp)).heap.size by simp, World.cell?_alloc_new]; rfl
          have hB5 : (w.heap.size + 2) ≤ w5.heap.size := by have h7 := s7.size; rw [World.size_setCell] at h7; have := HL.out.2.2.2.2.2.1; omega
          have hend2 : ∀ g' cp' w6, w6.ownsRow (w.heap.size + 2) 3 1 (.slice (some ⟨g', 0, none⟩) (k + 1) cp') (k + 1) (intsC (List.replicate k 0) ++ [.int .i64 0]) → ((w5.setCell ⟨(w.heap.size + 1), 3, none⟩ (.slice (some ⟨g, 0, none⟩) (k + 1) cp)).alloc (.cells #[.int .i64 0] 3)).grownBy w6 (Value.slice A2 k c2).ownBlock → ((Value.slice A2 k c2).ownBlock = some g' ∨ g' = (w5.setCell ⟨(w.heap.size + 1), 3, none⟩ (.slice (some ⟨g, 0, none⟩) (k + 1) cp)).heap.size + 1) →
              w6.cell? ⟨(w.heap.size + 1), 4, none⟩ = some (.slice A2 k c2) ∧ w6.frozen? ⟨(w.heap.size + 1), 4, none⟩ = false ∧ (w.heap.size + 1) < w6.heap.size ∧
                ∃ (k' : Nat) (v' : Nat → Value), Value.int .i64 ((k : Int) + 1) = .int .i64 (k' : Int) ∧ k' ≤ E ∧ PkN (w6.setCell ⟨(w.heap.size + 1), 4, none⟩ (.slice (some ⟨g', 0, none⟩) (k + 1) cp')) (w.heap.size + 1) (w.heap.size + 2) (W : Int) v' (l4 P.us P.bs (List.replicate k' (-1)) (List.replicate k' 0)) ∧
                  (w6.setCell ⟨(w.heap.size + 1), 4, none⟩ (.slice (some ⟨g', 0, none⟩) (k + 1) cp')).ownsRow (w.heap.size + 2) 58 3 (.slice A6 nA c6) nA (slsC all) ∧ Below (w.heap.size + 1) W0 (w6.setCell ⟨(w.heap.size + 1), 4, none⟩ (.slice (some ⟨g', 0, none⟩) (k + 1) cp')) ∧ (w.heap.size + 2) ≤ (w6.setCell ⟨(w.heap.size + 1), 4, none⟩ (.slice (some ⟨g', 0, none⟩) (k + 1) cp')).heap.size := fun g' cp' w6 k1 k2 k3 => by
            rw [show Value.slice A2 k c2 = upd v 2 (.slice (some ⟨g, 0, none⟩) (k + 1) cp) 3 from HL.out.2.2.2.2.1.symm] at k2 k3
            have k1' : w6.ownsRow (w.heap.size + 2) 3 1 (.slice (some ⟨g', 0, none⟩) ((l4 P.us P.bs (List.replicate k (-1) ++ [-1]) (List.replicate k 0) 3).length + 1) cp') ((l4 P.us P.bs (List.replicate k (-1) ++ [-1]) (List.replicate k 0) 3).length + 1) (intsC (l4 P.us P.bs (List.replicate k (-1) ++ [-1]) (List.replicate k 0) 3) ++ [.int .i64 0]) := by rw [kl3']; exact k1
            obtain ⟨m1, m2⟩ := s6.append (i := 3) (x := 0) (by decide) (by unfold i64; omega) k1' k2 k3
            rw [kl3'] at m2
            have q2 := m1.cell 4
            simp at q2
            rw [show upd v 2 (.slice (some ⟨g, 0, none⟩) (k + 1) cp) 3 = v 3 from rfl, HL.out.2.2.2.2.1] at q2
            have F6 := fz_app (Fz.refl (Xp (w.heap.size + 1) (upd v 2 (.slice (some ⟨g, 0, none⟩) (k + 1) cp))) _) (i := 3) (by decide) (AtV.refl _ _) k2 4 (.slice (some ⟨g', 0, none⟩) (k + 1) cp')
            have npb : ∀ {X : World}, X.ownsRow (w.heap.size + 2) 58 3 (.slice A6 nA c6) nA (slsC all) → ∀ q, q = (w.heap.size + 1) → (Value.slice A6 nA c6).ownBlock ≠ some q := fun {X} hx q hk e => by have := (own_block_lt3 hx q e).1; omega
            have A0 := HL.out.2.2.2.2.2.2.1
            have A5 : (w5.setCell ⟨(w.heap.size + 1), 3, none⟩ (.slice (some ⟨g, 0, none⟩) (k + 1) cp)).ownsRow (w.heap.size + 2) 58 3 (.slice A6 nA c6) nA (slsC all) := own_fz s7 A0 (fun q hk e => by
              rcases hk with z | ⟨j, hj, z⟩
              · exact npb A0 q z e
              · exact own_types A0 (HL.out.2.2.2.1.o j hj) (by decide) q e z)
            have A6' := own_fz F6 A5 (fun q hk e => by
              rcases hk with z | ⟨j, hj, z⟩
              · exact npb A5 q z e
              · exact own_types A5 (s6.o j hj) (by decide) q e z)
            have B5 : Below (w.heap.size + 1) W0 (w5.setCell ⟨(w.heap.size + 1), 3, none⟩ (.slice (some ⟨g, 0, none⟩) (k + 1) cp)) := HL.out.2.2.2.2.2.2.2.1.trans (s7.below (by have := HL.out.2.2.2.2.2.1; omega) (fun q hk => Xq_out HL.out.2.2.2.1 q hk))
            have B6 := B5.trans (F6.below (by have := s6.c.lt; omega) (fun q hk => Xq_out s6 q hk))
            refine ⟨q2, m1.froz 4, m1.lt, k + 1, upd (upd v 2 (.slice (some ⟨g, 0, none⟩) (k + 1) cp)) 3 (.slice (some ⟨g', 0, none⟩) (k + 1) cp'), by simp, by omega, ?_, A6', B6, ?_⟩
            · rw [List.replicate_succ', List.replicate_succ']
              exact m2.congr (l4_app3 _ _ _ _ _)
            · have := F6.size; have := s7.size; have := HL.out.2.2.2.2.2.1; omega
          have HM := Lib.hid (And.intro o2 (And.intro hnew2 (And.intro hB5 hend2)))
          clear s6 s7 o2 hnew2 hB5 hend2 ho5 hg5 hat5 kl3'
          go_wp2_with (first
            | (at_builtin
               refine wpList_append_one rfl (.tmp 109) (.tmp 110) 25 rfl (w.heap.size + 2) 3 i3 (.int .i64 0) 8 Try.underlying25 I3.out.1 I3.out.2.1 I3.out.2.2.1 I3.out.2.2.2 (by decide) rfl (.slice A2 k c2) k (intsC (List.replicate k 0)) rfl HM.out.1 ⟨w5.heap.size, 0, none⟩ (.int .i64 0) rfl HM.out.2.1 rfl (by omega) (by have := HM.out.2.2.1; simp; omega) _ rfl ?_)
            | fail)
          intro g' cp' w6 ho6 hg6 hat6 hlt6
          obtain ⟨r1, r2, r3, r4⟩ := HM.out.2.2.2 g' cp' w6 ho6 hg6 (by rcases hat6 with e | e; exact .inl e; exact .inr (by rw [e]; simp))
          have H6 := Lib.hid r4
          clear r4 ho6 hg6 hat6
          go_wp2_with fail
          go_roundw
          case rel => exact H6.out
          case measure => simp [RowKit.intOf]; omega
        · obtain rfl : k = E := by omega
          have j4 : ¬ (k : Int) < (k : Int) := by omega
          have HF := HQ.out.1.f
          have hge := runF_ge all ([], []) rfl
          rw [HF] at hge
          have hrg := runF_runG all
          rw [HF] at hrg
          dsimp only at hge hrg
          rw [HQ.out.2.2.2.1] at hge hrg
          have R5 := Lib.hid (And.intro hQk (And.intro hAk (And.intro hbk (And.intro hBk (And.intro hge.2 hrg)))))
          clear hQk hAk hbk hBk hge hrg HF
          go_wp2_with fail
          go_loopw [14] (fun mv ws => ∃ m : Nat, mv = .int .i64 (m : Int) ∧ m ≤ nA ∧ PkN ws (w.heap.size + 1) (w.heap.size + 2) (W : Int) v (l4 P.us P.bs (runG (List.replicate k (-1), List.replicate k 0) (all.take m)).1 (runG (List.replicate k (-1), List.replicate k 0) (all.take m)).2) ∧ ws.ownsRow (w.heap.size + 2) 58 3 (.slice A6 nA c6) nA (slsC all) ∧ Below (w.heap.size + 1) W0 ws) (fun mv _ => nA - (RowKit.intOf mv).toNat)
          case atStart => exact ⟨0, rfl, by omega, R5.out.1, R5.out.2.1, R5.out.2.2.1⟩
          case round =>
            obtain ⟨m, rfl, hm, hQm, hAm, hbm⟩ := hrel
            obtain ⟨lg1, lg2⟩ := runG_len (all.take m) (List.replicate k (-1), List.replicate k 0)
            rw [List.length_replicate] at lg1 lg2
            obtain ⟨s0, hs0⟩ : ∃ s, runG (List.replicate k (-1), List.replicate k 0) (all.take m) = s := ⟨_, rfl⟩
            rw [hs0] at hQm lg1 lg2
            have d1 := hQm.c.cell 3
            have d2 := hQm.c.cell 4
            simp at d1 d2
            have z4 := hQm.c.lt
            by_cases hlt5 : m < nA
            · have j5 : (m : Int) < (nA : Int) := by omega
              obtain ⟨a, ha⟩ : ∃ a, all[m]? = some a := ⟨all[m]'(by rw [hnA]; exact hlt5), List.getElem?_eq_getElem _⟩
              have hat := R5.out.2.2.2.2.1 a (List.mem_of_getElem? ha)
              have hga := HQ.out.1.g a (List.mem_of_getElem? ha)
              have ht := runG_take ha (List.replicate k (-1), List.replicate k 0)
              rw [hs0] at ht
              obtain ⟨gA, cA, hAA, _, _, _⟩ := own_pos3 hAm (by omega)
              injection hAA with hAA _ hAA2
              subst hAA; subst hAA2
              obtain ⟨t1, t2, t3⟩ := slsC_get all m a ha
              have x1 := World.ownsRow.cells hAm (g := gA) rfl (m * 3) _ t1
              have x2 := World.ownsRow.cells hAm (g := gA) rfl (m * 3 + 1) _ t2
              have x3 := World.ownsRow.cells hAm (g := gA) rfl (m * 3 + 2) _ t3
              rw [add0] at x1 x2 x3
              obtain ⟨g2, cp2, e2, _, hc2, hg2⟩ := own_pos (hQm.o 2 (by decide)) (by show 0 < s0.1.length; omega)
              obtain ⟨g3, cp3, e3, _, hc3, hg3⟩ := own_pos (hQm.o 3 (by decide)) (by show 0 < s0.2.length; omega)
              have kl2 : (l4 P.us P.bs s0.1 s0.2 2).length = k := lg1
              have kl3 : (l4 P.us P.bs s0.1 s0.2 3).length = k := lg2
              rw [kl2] at e2 hc2
              rw [kl3] at e3 hc3
              rw [e2] at d1
              rw [e3] at d2
              obtain ⟨y2, hy2⟩ := list_at (xs := s0.1) (i := a.at_) (by omega)
              obtain ⟨y3, hy3⟩ := list_at (xs := s0.2) (i := a.at_) (by omega)
              have q2 := World.ownsRow.cells (hQm.o 2 (by decide)) (g := g2) (by rw [e2]; rfl) a.at_ (.int .i64 y2) (by show (intsC s0.1)[a.at_]? = _; simp [intsC, hy2])
              have q3 := World.ownsRow.cells (hQm.o 3 (by decide)) (g := g3) (by rw [e3]; rfl) a.at_ (.int .i64 y3) (by show (intsC s0.2)[a.at_]? = _; simp [intsC, hy3])
              rw [add0] at q2 q3
              have k2 : wr.frozen? ⟨g2, a.at_, none⟩ = false := by
                have := hQm.o 2 (by decide); rw [e2, kl2] at this; exact this.frozenAt a.at_
              have k3 : wr.frozen? ⟨g3, a.at_, none⟩ = false := by
                have := hQm.o 3 (by decide); rw [e3, kl3] at this; exact this.frozenAt a.at_
              have hne : g2 ≠ g3 := fun e => hQm.d 2 3 (by decide) (by decide) (by decide) g2 (by rw [e2]; rfl) (by rw [e3, e]; rfl)
              have hne' : g3 ≠ g2 := fun e => hne e.symm
              have b2 := (own_block_lt (hQm.o 2 (by decide)) g2 (by rw [e2]; rfl)).1
              have b3 := (own_block_lt (hQm.o 3 (by decide)) g3 (by rw [e3]; rfl)).1
              have n2A : g2 ≠ gA := fun e => own_types hAm (hQm.o 2 (by decide)) (by decide) gA rfl (by rw [e2, e]; rfl)
              have n3A : g3 ≠ gA := fun e => own_types hAm (hQm.o 3 (by decide)) (by decide) gA rfl (by rw [e3, e]; rfl)
              have n2A' : gA ≠ g2 := fun e => n2A e.symm
              have n3A' : gA ≠ g3 := fun e => n3A e.symm
              have p1 : (w.heap.size + 1) ≠ g2 := by omega
              have p2 : (w.heap.size + 1) ≠ g3 := by omega
              have P2 := (hQm.put (i := 2) (k := a.at_) (x := a.row) (by decide) hga.2.1 e2).congr (l4_set2 _ _ _ _ _ _)
              have P3 := (P2.put (i := 3) (k := a.at_) (x := a.n) (by decide) hga.2.2 e3).congr (l4_set3 _ _ _ _ _ _)
              have A2 := own_fz (X := fun q => q = g2) (Fz.set wr g2 a.at_ (.int .i64 a.row) rfl) hAm (fun q hq e => by have e' : some gA = some q := e; injection e' with e'; exact n2A (hq.symm.trans e'.symm))
              have A3 := own_fz (X := fun q => q = g3) (Fz.set _ g3 a.at_ (.int .i64 a.n) rfl) A2 (fun q hq e => by have e' : some gA = some q := e; injection e' with e'; exact n3A (hq.symm.trans e'.symm))
              have B3 := (hbm.setCell (p := ⟨g2, a.at_, none⟩) (by show (w.heap.size + 1) ≤ g2; omega) (.int .i64 a.row)).setCell (p := ⟨g3, a.at_, none⟩) (by show (w.heap.size + 1) ≤ g3; omega) (.int .i64 a.n)
              have hst : setR s0 a = (s0.1.set a.at_ a.row, s0.2.set a.at_ a.n) := rfl
              have HE := Lib.hid (And.intro P3 (And.intro A3 (And.intro B3 (And.intro ht hst))))
              have hatl : a.at_ ≤ 100000 := by omega
              obtain ⟨at_, hat_⟩ : ∃ t, a.at_ = t := ⟨_, rfl⟩
              rw [hat_] at x1 q2 q3 k2 k3 hat hatl
              have j6 : (at_ : Int) < (k : Int) := by omega
              have HAt := Lib.hid hat_
              rw [hat_] at HE
              clear hQm hAm hbm ht hst P2 P3 A2 A3 B3 hs0 lg1 lg2 ha hga t1 t2 t3 e2 e3 kl2 kl3 hy2 hy3 hat_
              go_wp2_with fail
              go_region
              go_wp2_with fail
              go_region
              go_wp2_with fail
              refine ⟨⟨m + 1, by simp, by omega, ?_, HE.out.2.1, HE.out.2.2.1.drew.drew⟩, ?_⟩
              · rw [HE.out.2.2.2.1, HE.out.2.2.2.2]
                exact HE.out.1.drew.drew
              · simp [RowKit.intOf]; omega
            · obtain rfl : m = nA := by omega
              have j5 : ¬ (m : Int) < (m : Int) := by omega
              have e5 : all.take m = all := by rw [← hnA, List.take_length]
              rw [e5, ← R5.out.2.2.2.2.2] at hs0
              subst hs0
              have hz0 := H.out.2.2.2.2.2.1
              have x2 : Cells wr w.heap.size 34 zeroPk := (hbm.block _ (by omega)).trans H.out.2.2.2.2.1
              have bw2 : Below w.heap.size w wr := H.out.2.2.2.1.trans (hbm.mono (by omega))
              obtain ⟨A0, c0, e0⟩ := own_form (hQm.o 0 (by decide))
              obtain ⟨A1, c1, e1'⟩ := own_form (hQm.o 1 (by decide))
              obtain ⟨A2, c2, e2⟩ := own_form (hQm.o 2 (by decide))
              obtain ⟨A3, c3, e3⟩ := own_form (hQm.o 3 (by decide))
              obtain ⟨n0, hn0⟩ : ∃ n, (lp P 0).length = n := ⟨_, rfl⟩
              obtain ⟨n1, hn1⟩ : ∃ n, (lp P 1).length = n := ⟨_, rfl⟩
              obtain ⟨n2, hn2⟩ : ∃ n, (lp P 2).length = n := ⟨_, rfl⟩
              obtain ⟨n3, hn3⟩ : ∃ n, (lp P 3).length = n := ⟨_, rfl⟩
              rw [show (l4 P.us P.bs (P.cs, P.ns).1 (P.cs, P.ns).2 0).length = n0 from hn0] at e0
              rw [show (l4 P.us P.bs (P.cs, P.ns).1 (P.cs, P.ns).2 1).length = n1 from hn1] at e1'
              rw [show (l4 P.us P.bs (P.cs, P.ns).1 (P.cs, P.ns).2 2).length = n2 from hn2] at e2
              rw [show (l4 P.us P.bs (P.cs, P.ns).1 (P.cs, P.ns).2 3).length = n3 from hn3] at e3
              have y0 := hQm.c.cell 0
              have y1 := hQm.c.cell 1
              have y2 := hQm.c.cell 2
              have y3 := hQm.c.cell 3
              have y4 := hQm.c.cell 4
              simp at y0 y1 y2 y3 y4
              rw [e0] at y1
              rw [e1'] at y2
              rw [e2] at y3
              rw [e3] at y4
              have K := pack_doneN (w := w) (C0 := w.heap.size) (p := P) hQm HQ.out.2.2.1 (by omega) (by unfold i64; omega) x2 e0 e1' e2 e3 hn0.symm hn1.symm hn2.symm hn3.symm bw2
              have HKK := Lib.hid (And.intro K HQ.out.2.1)
              have a0 : wr.cell? ⟨w.heap.size, 0, none⟩ = some (.int .i64 0) := x2.cell 0
              have a1 : wr.cell? ⟨w.heap.size, 1, none⟩ = some (.slice none 0 0) := x2.cell 1
              have a2 : wr.cell? ⟨w.heap.size, 2, none⟩ = some (.slice none 0 0) := x2.cell 2
              have a3 : wr.cell? ⟨w.heap.size, 3, none⟩ = some (.slice none 0 0) := x2.cell 3
              have a4 : wr.cell? ⟨w.heap.size, 4, none⟩ = some (.slice none 0 0) := x2.cell 4
              have f0 := x2.froz 0
              have f1 := x2.froz 1
              have f2 := x2.froz 2
              have f3 := x2.froz 3
              have f4 := x2.froz 4
              clear K hQm hAm hbm bw2 x2 e0 e1' e2 e3 hn0 hn1 hn2 hn3 e5 lg1 lg2 d1 d2
              go_wp2_with fail
              rw [HKK.out.2]
              refine bodyPost_ret (v := .agg #[.int .i64 (W : Int), .slice A0 n0 c0, .slice A1 n1 c1, .slice A2 n2 c2, .slice A3 n3 c3]) (results_cell_row rfl _ _ w.heap.size 34 #[.int .i64 (W : Int), .slice A0 n0 c0, .slice A1 n1 c1, .slice A2 n2 c2, .slice A3 n3 c3] (0, 0) _ rfl HKK.out.1.1 Try.underlying34 rfl (by kernel_rfl)) rfl ⟨⟨_, rfl, HKK.out.1.2.2⟩, HKK.out.1.2.1⟩
end Go.Proofs.Ytadipgkgllcicaa
