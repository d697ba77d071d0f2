/-
  Contracts: (*NFA).readLeaf.
-/
import Derived.Test.YtlbcicoppglgjaaDoorMlf
namespace Go.Proofs.YtlbcicoppglgjaaDoor
open Go.RowKit Go.Shelf Go.Lib Go.Great Go.Maps

theorem right_leaf {k c : Int} (h9 : k ≠ 9) (h : rightE (.mk k c []) = true) : 0 ≤ k ∧ k ≤ 3 ∧ (k = 0 → 0 ≤ c ∧ c ≤ 35) := by
  rw [rightE_good (e := .mk k c []) h9, goodE_eq] at h
  simp only [E.k, E.c, E.ks, List.length_nil, Bool.and_eq_true] at h
  have hs := h.1.1.2
  unfold shapedK at hs
  by_cases c1 : k = 0 ∨ k = 2
  · rw [if_pos c1] at hs
    simp [isC] at hs
    omega
  · rw [if_neg c1] at hs
    by_cases c2 : k = 1 ∨ k = 3 ∨ k = 9
    · rw [if_pos c2] at hs; omega
    · rw [if_neg c2] at hs
      simp at hs
theorem takes_same {k c : Int} {m : Nat} (h0 : 0 ≤ k) (h3 : k ≤ 3) (hc : k = 0 → 0 ≤ c ∧ c ≤ 35) (hm : m ≤ 36) : takesG k c (m : Int) = takesE k c m := by
  have : k = 0 ∨ k = 1 ∨ k = 2 ∨ k = 3 := by omega
  rcases this with rfl | rfl | rfl | rfl
  · have := hc rfl
    unfold takesG takesE
    by_cases e : (m : Int) = c
    · have : m ≤ 35 := by omega
      simp [e, this]
    · simp [e]
  · unfold takesG takesE isC
    by_cases e : m ≤ 35
    · have h1 : (m : Int) < 36 := by omega
      simp [e, h1]
    · have h1 : ¬ (m : Int) < 36 := by omega
      simp [e, h1]
  · unfold takesG takesE isC
    by_cases e : m ≤ 35
    · have h1 : (m : Int) < 36 := by omega
      simp [e, h1]
    · have h1 : ¬ (m : Int) < 36 := by omega
      simp [e, h1]
  · unfold takesG takesE
    by_cases e : m = 36
    · subst e; simp
    · have h1 : ((m : Int) == 36) = false := by simp; omega
      have h2 : (m == 36) = false := by simp [e]
      simp [h1, h2]
/-- Behind some of the marks. -/
def leafU (s : St) (k c : Int) (i : Nat) : St := { s with count := s.count + 1, takers := fun m => if decide (m < i) && takesE k c m then s.takers m ||| 2 ^ s.count else s.takers m }
theorem leafU_zero (s : St) (k c : Int) : leafU s k c 0 = { s with count := s.count + 1 } := by simp [leafU]
theorem leafU_full (s : St) (k c : Int) : leafU s k c 37 = s.leaf k c := by
  unfold leafU St.leaf
  simp only [St.mk.injEq, true_and, and_true]
  funext m
  have : decide (m < 37) = decide (m ≤ 36) := by congr 1; simp; omega
  rw [this]
theorem leafU_no {s : St} {k c : Int} {i : Nat} (h : takesE k c i = false) : leafU s k c (i + 1) = leafU s k c i := by
  unfold leafU
  simp only [St.mk.injEq, true_and, and_true]
  funext m
  by_cases e : m = i
  · subst e; simp [h]
  · have : decide (m < i + 1) = decide (m < i) := by congr 1; simp; omega
    rw [this]
theorem leafU_yes {s : St} {k c : Int} {i : Nat} (h : takesE k c i = true) : (leafU s k c i).setT i (s.takers i ||| 2 ^ s.count) = leafU s k c (i + 1) := by
  unfold leafU St.setT
  simp only [St.mk.injEq, true_and, and_true]
  funext m
  by_cases e : m = i
  · subst e; simp [h]
  · have : decide (m < i + 1) = decide (m < i) := by congr 1; simp; omega
    rw [if_neg e, this]
theorem leafU_at (s : St) (k c : Int) (i : Nat) : (leafU s k c i).takers i = s.takers i := by simp [leafU]
theorem NfaAt.drew {w : World} {q : Np} {n : Nat} {se : Bool} {s : St} (h : NfaAt w q n se s) : NfaAt w.drew q n se s := ⟨h.c0, h.c1, h.c2, h.c3, h.c4, h.f1, h.mN, h.mT, h.mL, h.t⟩
theorem NfaAt.counted {w : World} {q : Np} {n B : Nat} {se : Bool} {s : St} (h : NfaAt w q n se s) (hq : q.Ok B) (m : Nat) : NfaAt (w.setCell ⟨q.b, 1, none⟩ (.int .i64 (m : Int))) q n se { s with count := m } := by
  have o := fun j (hj : j ≠ 1) => World.cell?_setCell_other (w := w) (a := ⟨q.b, 1, none⟩) (b := ⟨q.b, j, none⟩) (v := .int .i64 (m : Int)) (by intro h3; injection h3 with h4 h5; omega)
  have hb := fun k (hne : k ≠ q.b) => Below.heap_setCell w ⟨q.b, 1, none⟩ (.int .i64 (m : Int)) k hne
  exact ⟨(o 0 (by omega)).trans h.c0, World.cell?_setCell_same _ _ _ h.c1, (o 2 (by omega)).trans h.c2, (o 3 (by omega)).trans h.c3, (o 4 (by omega)).trans h.c4, by rw [World.frozen?_setCell]; exact h.f1,
    h.mN.block (hb _ (Ne.symm hq.d1)), h.mT.block (hb _ (Ne.symm hq.d2)), h.mL.block (hb _ (Ne.symm hq.d3)), h.t⟩

def ndC (k c : Int) (A : Option Addr) (n cap : Nat) : Array Value := #[.int .i64 k, .int .i64 c, .slice A n cap]
set_option maxHeartbeats 8000000 in
set_option maxRecDepth 100000 in
theorem leaf_any (q : Np) (B n : Nat) (se : Bool) (s : St) (k c : Int) (A : Option Addr) (cap : Nat) (w : World) (h : NfaAt w q n se s) (hq : q.Ok B) (hBw : B ≤ w.heap.size) (hN : Nd w B (.mk k c []) (.agg #[.int .i64 k, .int .i64 c, .slice A 0 cap]))
    (h9 : k ≠ 9) (hr : rightE (.mk k c []) = true) (hcnt : s.count < 1024) (hn : n ≤ 1000000000000) :
    Calls Tryd.prog 51 #[.pointer (some ⟨q.b, 0, none⟩), .agg #[.int .i64 k, .int .i64 c, .slice A 0 cap]] w fun e w' => e = .returned (.agg (spL ⟨2 ^ s.count, 2 ^ s.count, false⟩).toArray) ∧ Kp q w w' ∧ NfaAt w' q (n + 37) se (s.leaf k c) := by
  obtain ⟨k0, k3, kc⟩ := right_leaf h9 hr
  obtain ⟨W1, hW1⟩ : ∃ W, w.alloc (.cells #[.int .i64 k, .int .i64 c, .slice A 0 cap] 52) = W := ⟨_, rfl⟩
  obtain ⟨N1, hN1⟩ : ∃ N, W1.heap.size = N := ⟨_, rfl⟩
  obtain ⟨W2, hW2⟩ : ∃ W, W1.alloc (.cells Z80 80) = W := ⟨_, rfl⟩
  have hz1 : W1.heap.size = w.heap.size + 1 := by rw [← hW1]; simp
  have hz2 : W2.heap.size = w.heap.size + 2 := by rw [← hW2]; simp [hz1]
  have b1 : Below w.heap.size w W1 := by rw [← hW1]; exact below_new _ _
  have b2 : Below W1.heap.size W1 W2 := by rw [← hW2]; exact below_new _ _
  have x1 : Cells W2 w.heap.size 52 #[.int .i64 k, .int .i64 c, .slice A 0 cap] := (b2.block _ (by omega)).trans (by rw [← hW1]; exact cells_new _ _ _)
  have x2 : SpAt W2 N1 sp0 := by rw [← hN1, ← hW2]; exact spAt_new W1 sp0
  have b12 : Below w.heap.size w W2 := b1.trans (b2.mono (by omega))
  have n2 : NfaAt W2 q n se s := h.below b12
  have c1 := n2.c1
  have C1 := Lib.hid (only_any s.count W2 hcnt)
  have hqb := fun k (hk : q.In k) => h.lt hk
  have HQ := Lib.hid hqb
  have HS := Lib.hid (And.intro hW1 (And.intro hN1 (And.intro hW2 (And.intro hz1 hz2))))
  have H2 := Lib.hid (And.intro b12 (And.intro x1 (And.intro x2 n2)))
  have HN := Lib.hid (And.intro hN (And.intro hr (And.intro hBw (And.intro kc hn))))
  have HQK := Lib.hid hq
  clear h hN hr hW1 hN1 hW2 hz1 hz2 b1 b2 x1 x2 b12 n2 hqb hBw kc hn hq
  go_enter Tryd.func51, Tryd.ntmps51
  go_wp2_with (first
    | (refine wpList_alloc80 rfl 4 rfl rfl N1 (by rw [HS.out.1]; exact HS.out.2.1) W2 (by rw [HS.out.1]; exact HS.out.2.2.1) ?_)
    | (go_at_call 32; refine C1.out.mono ?_; rintro e W3 ⟨rfl, hb3⟩
       have p4 := plAt_new W3
       have b4 := below_new W3 (.cells Z70 70)
       obtain ⟨N3, hN3⟩ : ∃ N, W3.heap.size = N := ⟨_, rfl⟩
       obtain ⟨W4, hW4⟩ : ∃ W, W3.alloc (.cells Z70 70) = W := ⟨_, rfl⟩
       rw [hW4] at p4 b4
       rw [hN3] at p4
       have H4 := Lib.hid (And.intro hN3 (And.intro hW4 (And.intro p4 (And.intro b4 hb3))))
       clear p4 b4 hN3 hW4 hb3)
    | (refine wpList_alloc70 rfl 5 rfl rfl N3 H4.out.1 W4 H4.out.2.1 ?_)
    | (refine wpList_storePl rfl (.tmp 5) (.tmp 12) rfl rfl N3 0 0 (2 ^ s.count) rfl rfl H4.out.2.2.1 ?_
       intro W5 hW5
       have hng : ¬ q.In N3 := fun hin => by have := HQ.out _ hin; have := H4.out.1; have := H4.out.2.2.2.2.size; have := HS.out.2.2.2.2; omega
       have hb34 : Below W2.heap.size W2 W4 := H4.out.2.2.2.2.trans (H4.out.2.2.2.1.mono H4.out.2.2.2.2.size)
       have n5 : NfaAt W5 q n se s := (H2.out.2.2.2.below hb34).grown hW5.grown hng
       have k5 : Kp q w W5 := ((Kp.of_below H2.out.1).below hb34).grown hW5.grown (.inr (by have := H4.out.1; have := H4.out.2.2.2.2.size; have := HS.out.2.2.2.2; omega))
       have hbk : ∀ g, g < W2.heap.size → W5.heap[g]? = W2.heap[g]? := fun g hg => (hW5.grown.block g (by have := hb34.size; omega) (fun e => by injection e with e; have := H4.out.1; have := H4.out.2.2.2.2.size; omega)).trans (hb34.block g hg)
       have x5 : Cells W5 w.heap.size 52 #[.int .i64 k, .int .i64 c, .slice A 0 cap] := (hbk _ (by have := HS.out.2.2.2.2; omega)).trans H2.out.2.1
       have s5 : SpAt W5 N1 sp0 := H2.out.2.2.1.block (hbk _ H2.out.2.2.1.lt)
       have c1 := n5.c1
       have f1 := n5.f1
       have H5 := Lib.hid (And.intro hW5.at_ (And.intro n5 (And.intro k5 (And.intro x5 (And.intro s5 hng)))))
       clear hW5 hng hb34 n5 k5 hbk x5 s5)
    | fail)
  obtain ⟨W6, hW6⟩ : ∃ W, W5.setCell ⟨q.b, 1, none⟩ (.int .i64 ((s.count : Int) + 1)) = W := ⟨_, rfl⟩
  rw [hW6]
  have n6 : NfaAt W6 q n se { s with count := s.count + 1 } := by rw [← hW6]; exact H5.out.2.1.counted HQK.out (s.count + 1)
  have g6 : W5.grownBy W6 (some q.b) := by rw [← hW6]; exact grown_setc _ _ _ _
  have hbk : ∀ g, g < W5.heap.size → ¬ q.In g → W6.heap[g]? = W5.heap[g]? := fun g hg hn => g6.block g hg (fun e => hn (by injection e with e; exact .inl e))
  have hw5 : w.heap.size ≤ W5.heap.size := H5.out.2.2.1.size
  have hnw : ¬ q.In w.heap.size := fun hin => by have := HQ.out _ hin; omega
  have hn1 : ¬ q.In N1 := fun hin => by have := HQ.out _ hin; have := HS.out.2.1; have := HS.out.2.2.2.1; omega
  have x6 : Cells W6 w.heap.size 52 #[.int .i64 k, .int .i64 c, .slice A 0 cap] := (hbk _ H5.out.2.2.2.1.lt hnw).trans H5.out.2.2.2.1
  have s6 : SpAt W6 N1 sp0 := H5.out.2.2.2.2.1.block (hbk _ H5.out.2.2.2.2.1.lt hn1)
  have p6 : PlAt W6 N3 0 (2 ^ s.count) := H5.out.1.block (hbk _ H5.out.1.lt H5.out.2.2.2.2.2)
  have k6 : Kp q w W6 := H5.out.2.2.1.grown g6 (.inl (.inl rfl))
  have H6 := Lib.hid (And.intro n6 (And.intro k6 (And.intro x6 (And.intro s6 (And.intro p6 (And.intro hnw (And.intro hn1 H5.out.2.2.2.2.2)))))))
  clear hW6 n6 g6 hbk hw5 hnw hn1 x6 s6 p6 k6 c1 f1
  go_loopw [20] (fun v wr => ∃ i : Nat, v = .int .i64 (i : Int) ∧ i ≤ 37 ∧ Kp q W6 wr ∧ NfaAt wr q (n + i) se (leafU s k c i)) (fun v _ => 37 - (RowKit.intOf v).toNat)
  case atStart => exact ⟨0, rfl, by omega, Kp.refl _ _, by rw [leafU_zero]; exact H6.out.1⟩
  case round =>
    obtain ⟨i, rfl, hi, hkp, hnf⟩ := hrel
    by_cases hlt : i < 37
    · have i1 : (i : Int) < 37 := by omega
      have xr : Cells wr w.heap.size 52 #[.int .i64 k, .int .i64 c, .slice A 0 cap] := (hkp.block _ H6.out.2.2.1.lt H6.out.2.2.2.2.2.1).trans H6.out.2.2.1
      have d0 := xr.cell 0
      have d1 := xr.cell 1
      have d2 := xr.cell 2
      simp at d0 d1 d2
      obtain ⟨WM, hWM⟩ : ∃ W, wr.alloc (.cells #[.int .i64 (i : Int)] 3) = W := ⟨_, rfl⟩
      have bM : Below wr.heap.size wr WM := by rw [← hWM]; exact below_new _ _
      have bw : Below B w WM := (H6.out.2.1.under HQK.out HN.out.2.2.1).trans ((hkp.under HQK.out (by have := H6.out.2.1.size; have := HN.out.2.2.1; omega)).trans (bM.mono (by have := H6.out.2.1.size; have := hkp.size; have := HN.out.2.2.1; omega)))
      have hNM : Nd WM WM.heap.size (.mk k c []) (.agg #[.int .i64 k, .int .i64 c, .slice A 0 cap]) := (HN.out.1.below bw).mono (by have := bw.size; have := HN.out.2.2.1; omega)
      have hcM : WM.cell? ⟨wr.heap.size, 0, none⟩ = some (.int .i64 (i : Int)) := by rw [← hWM, World.cell?_alloc_new]; rfl
      have CM := Lib.hid (matchLeaf_any k c (i : Int) A cap wr.heap.size WM k0 k3 hNM HN.out.2.1 hcM)
      rw [takes_same k0 k3 HN.out.2.2.2.1 (by omega)] at CM
      have HWM := Lib.hid hWM
      have HK := Lib.hid (And.intro hkp (And.intro hnf bM))
      clear hkp hnf xr hWM bM bw hNM hcM
      go_wp2_with fail
      rw [HWM.out]
      refine CM.out.mono ?_
      rintro e WN ⟨rfl, hbN⟩
      have kN : Kp q W6 WN := (HK.out.1.below HK.out.2.2).below hbN
      have nN : NfaAt WN q (n + i) se (leafU s k c i) := (HK.out.2.1.below HK.out.2.2).below hbN
      by_cases ht : takesE k c i = true
      · rw [ht]
        have c3 := nN.c3
        have pN : PlAt WN N3 0 (2 ^ s.count) := kN.pl H6.out.2.2.2.2.2.2.2 H6.out.2.2.2.2.1
        obtain ⟨G, hG⟩ : ∃ G, WN.heap.size = G := ⟨_, rfl⟩
        obtain ⟨W7, hW7⟩ : ∃ W, WN.alloc (.cells Z70 70) = W := ⟨_, rfl⟩
        have p7 : PlAt W7 G 0 0 := by rw [← hW7, ← hG]; exact plAt_new WN
        have b7 : Below WN.heap.size WN W7 := by rw [← hW7]; exact below_new _ _
        have HT := Lib.hid ht
        have H7 := Lib.hid (And.intro hG (And.intro hW7 (And.intro p7 (And.intro b7 (And.intro kN (And.intro nN pN))))))
        clear hG hW7 p7 b7 kN nN pN hbN d0 d1 d2 ht
        go_wp2_with (first
          | (refine wpList_lookT rfl (.tmp 30) (.tmp 31) rfl H7.out.2.2.2.2.2.1 (i : Int) (nat64 (by omega)) (s.takers i) (by unfold takersI; rw [if_pos (by omega), Int.toNat_natCast]; exact leafU_at _ _ _ _) rfl rfl ?_)
          | (refine wpList_alloc70 rfl 7 rfl rfl G H7.out.1 W7 H7.out.2.1 ?_)
          | (refine wpList_storePl rfl (.tmp 7) (.tmp 32) rfl rfl G 0 0 (s.takers i) rfl rfl H7.out.2.2.1 ?_
             intro W8 hW8
             have k8 : Kp q W6 W8 := (H7.out.2.2.2.2.1.below H7.out.2.2.2.1).grown hW8.grown (.inr (by have := H7.out.1; have := H7.out.2.2.2.2.1.size; omega))
             have hng : ¬ q.In G := fun hin => by have := H7.out.2.2.2.2.2.1.lt hin; have := H7.out.1; omega
             have n8 : NfaAt W8 q (n + i) se (leafU s k c i) := (H7.out.2.2.2.2.2.1.below H7.out.2.2.2.1).grown hW8.grown hng
             have q8 : PlAt W8 N3 0 (2 ^ s.count) := k8.pl H6.out.2.2.2.2.2.2.2 H6.out.2.2.2.2.1
             have H8 := Lib.hid (And.intro hW8.at_ (And.intro k8 (And.intro n8 (And.intro q8 hng))))
             clear hW8 k8 n8 q8 hng)
          | (refine wpList_loadPl rfl (.tmp 5) rfl N3 0 (2 ^ s.count) rfl H8.out.2.2.2.1 ?_)
          | (go_at_call 30; refine (padd_any G 0 (s.takers i) (2 ^ s.count) W8 H8.out.1).mono ?_; rintro e W9 ⟨rfl, hW9⟩)
          | fail)
        have k9 : Kp q W6 W9 := H8.out.2.1.grown hW9.grown (.inr (by have := H7.out.1; have := H7.out.2.2.2.2.1.size; omega))
        have n9 : NfaAt W9 q (n + i) se (leafU s k c i) := H8.out.2.2.1.grown hW9.grown H8.out.2.2.2.2
        have hdw : PlAt W9.drew G 0 (s.takers i ||| 2 ^ s.count) := hW9.at_
        have c3' := n9.c3
        have H9 := Lib.hid (And.intro k9 n9)
        have HD := Lib.hid hdw
        clear k9 n9 hW9 hdw c3
        go_wp2_with fail
        go_still_tail 6, (by kernel_rfl)
        refine wpStill_loadPl (.tmp 7) rfl (by kernel_rfl) G 0 (s.takers i ||| 2 ^ s.count) rfl HD.out ?_
        refine wpStill_nil ?_
        change wpList _ _ _ _ _ W9.drew
        refine wpList_updT rfl (.tmp 38) (.tmp 39) (.tmp 40) rfl H9.out.2.drew HQK.out (by unfold maxLen; have := HN.out.2.2.2.2; omega) i (by omega) (s.takers i ||| 2 ^ s.count) rfl rfl rfl ?_
        intro Wt nt gt
        have hend : ∃ j : Nat, Value.int .i64 ((i : Int) + 1) = .int .i64 (j : Int) ∧ j ≤ 37 ∧ Kp q W6 Wt ∧ NfaAt Wt q (n + j) se (leafU s k c j) :=
          ⟨i + 1, by simp, by omega, H9.out.1.drew.grown gt (.inl (.inr (.inr (.inl rfl)))), by rw [← leafU_yes HT.out]; exact nt⟩
        have HEND := Lib.hid hend
        clear nt gt hend c3'
        go_wp2_with fail
        go_roundw
        case rel => exact HEND.out
        case measure => simp [RowKit.intOf]; omega
      · have ht : takesE k c i = false := by simpa using ht
        rw [ht]
        have hend : ∃ j : Nat, Value.int .i64 ((i : Int) + 1) = .int .i64 (j : Int) ∧ j ≤ 37 ∧ Kp q W6 WN ∧ NfaAt WN q (n + j) se (leafU s k c j) := ⟨i + 1, by simp, by omega, kN, by rw [leafU_no ht]; exact nN.mono (by omega)⟩
        have HEND := Lib.hid hend
        clear hend kN nN hbN d0 d1 d2
        go_wp2_with fail
        go_roundw
        case rel => exact HEND.out
        case measure => simp [RowKit.intOf]; omega
    · obtain rfl : i = 37 := by omega
      have d1 : ¬ ((37 : Nat) : Int) < 37 := by omega
      have pN : PlAt wr N3 0 (2 ^ s.count) := hkp.pl H6.out.2.2.2.2.2.2.2 H6.out.2.2.2.2.1
      have sN : SpAt wr N1 sp0 := H6.out.2.2.2.1.block (hkp.block _ H6.out.2.2.2.1.lt H6.out.2.2.2.2.2.2.1)
      have HK := Lib.hid (And.intro hkp (And.intro hnf (And.intro pN sN)))
      clear hkp hnf pN sN
      go_wp2_with (first
        | (refine wpList_loadPl rfl (.tmp 5) rfl N3 0 (2 ^ s.count) rfl HK.out.2.2.1 ?_)
        | (refine wpList_buildLeaf rfl (.tmp 42) (.tmp 43) rfl (2 ^ s.count) rfl rfl ?_)
        | (refine wpList_storeSp rfl (.tmp 4) (.tmp 44) rfl rfl N1 sp0 ⟨2 ^ s.count, 2 ^ s.count, false⟩ rfl rfl HK.out.2.2.2 ?_; intro W8 hW8; have H8 := Lib.hid hW8; clear hW8)
        | fail)
      refine bodyPost_ret (v := .agg (spL ⟨2 ^ s.count, 2 ^ s.count, false⟩).toArray) (results_sp rfl _ _ N1 _ rfl H8.out.at_) rfl ⟨rfl, ?_, ?_⟩
      · exact (H6.out.2.1.trans HK.out.1).grown H8.out.grown (.inr (by have := HS.out.2.1; have := HS.out.2.2.2.1; omega))
      · rw [← leafU_full]
        exact HK.out.2.1.grown H8.out.grown H6.out.2.2.2.2.2.2.1
end Go.Proofs.YtlbcicoppglgjaaDoor
