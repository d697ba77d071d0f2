/-
  DfaRuns: the mathematics; the ways that end early.
  The walk of DfaRuns.
  From what the rows list (the table of math/bits) to what the contracts ask.
  An argument that is a list of expressions, as it lies in memory; a list of numbers.
  An argument that is a table, as it lies in memory.
  From what the rows list (three tables) to what the contracts ask.
-/
import Derived.Test.YteamonmneoakpaaDoorXqk
import Derived.Test.YteamonmneoakpaaDoorXqj
import Derived.Test.YteamonmneoakpaaDoorXqn
import Derived.PinnedBridge
import Derived.Lib.LaidU8
import Derived.ProofKit
import Derived.OpenShut
import Derived.Test.YteamonmneoakpaaDoorRows
import Derived.Test.YteamonmneoakpaaDoorXqa
import Derived.Deep.Slices
import Derived.Test.YteamonmneoakpaaDoorXqf
import Derived.Test.YteamonmneoakpaaDoorXqh
namespace Go.Proofs.YteamonmneoakpaaDoor
open Go.RowKit Go.Shelf Go.Lib Go.Great Go.Maps Go.Sort

def setK (se : Bool) (s : St) (ms : List Int) (k : Nat) : List Int := (ms.take k).foldl (fun x m => nxt se s x m.toNat) [0]
theorem setK_succ {se : Bool} {s : St} {ms : List Int} {k : Nat} {m : Int} (h : ms[k]? = some m) : setK se s ms (k + 1) = nxt se s (setK se s ms k) m.toNat := by
  unfold setK
  rw [List.take_add_one, h, Option.toList_some, List.foldl_append]
  rfl
theorem okM_nat {m : Int} (h : okM m = true) : 0 ≤ m ∧ m < 37 := by
  unfold okM at h
  simpa only [Bool.and_eq_true, decide_eq_true_eq] using h
theorem runs_at {se : Bool} {s : St} {S R : List (List Int)} {T : List Nat} (h : Bf se s S R T) (hl : R.length = S.length) (ms : List Int) : ∀ k, k ≤ ms.length → (ms.take k).all okM = true → ∃ i : Nat, (ms.take k).foldl (stR R) 0 = (i : Int) ∧ S[i]? = some (setK se s ms k)
  | 0, _, _ => ⟨0, rfl, h.sv.z⟩
  | k + 1, hk, ha => by
    obtain ⟨m, hm⟩ : ∃ m, ms[k]? = some m := ⟨ms[k]'(by omega), List.getElem?_eq_getElem _⟩
    have ht := allT_take okM hm
    rw [ha] at ht
    simp at ht
    obtain ⟨i, h1, h2⟩ := runs_at h hl ms k (by omega) (by simpa using ht.1)
    have h3 := okM_nat ht.2
    have hi := (List.getElem?_eq_some_iff.1 h2).1
    obtain ⟨j, h4, h5⟩ := bf_get h h2 (m := m.toNat) (by omega) (by omega)
    refine ⟨j, ?_, ?_⟩
    · rw [foldl_take hm, h1, ← h4, Int.toNat_of_nonneg h3.1]
    · rw [setK_succ hm]; exact h5
theorem bf_rch {se : Bool} {s : St} {S R : List (List Int)} {T : List Nat} (h : Bf se s S R T) (hl : R.length = S.length) : ∀ j, j < R.length → Rch R j := by
  intro j
  induction j using Nat.strongRecOn with
  | ind j ih =>
    intro hj
    rcases Nat.eq_zero_or_pos j with rfl | h0
    · exact .z
    · obtain ⟨i, hi, x, hx, m, hm, he⟩ := h.sv.j j _ h0 (List.getElem?_eq_getElem (by omega))
      have hr : R[i]? = some (R[i]'(by omega)) := List.getElem?_eq_getElem _
      obtain ⟨hrl, y, hy, ho⟩ := h.r i _ hr
      rw [hx] at hy
      injection hy with hy
      subst hy
      have hv : (R[i]'(by omega))[m]? = some ((R[i]'(by omega))[m]'(by omega)) := List.getElem?_eq_getElem _
      obtain ⟨q, e, hq⟩ := ho m _ hv
      rw [← he] at hq
      have := nodup_get h.sv.nd hq (List.getElem?_eq_getElem (show j < S.length by omega))
      subst this
      rw [e] at hv
      exact .s (ih i hi (by omega)) hr hv
theorem rch_lt {R : List (List Int)} {T : List Nat} (h : rightT R T = true) {i : Nat} (hr : Rch R i) : i < R.length := by
  obtain ⟨h1, _, _, h4⟩ := right_parts h
  cases hr with
  | z => omega
  | s _ h5 h6 => have := ((h4 _ _ h5).2 _ _ h6).2; omega
theorem bf_len {se : Bool} {s : St} {S R : List (List Int)} {T : List Nat} (h : Bf se s S R T) (hl : R.length = S.length) (hs : S.length ≤ 1000) {L : List Int} (hL : RcL R L) : L.length = R.length :=
  up_len hL.up (fun x => by
    rw [hL.m x]
    constructor
    · rintro ⟨i, e, hr⟩; exact ⟨i, e, rch_lt (bf_right h hl hs) hr⟩
    · rintro ⟨i, e, hi⟩; exact ⟨i, e, bf_rch h hl i hi⟩)
theorem bf_tell {se : Bool} {s : St} {S R : List (List Int)} {T : List Nat} (h : Bf se s S R T) (hl : R.length = S.length) (hs : S.length ≤ 1000) {i : Nat} {x : List Int} (hx : S[i]? = some x) : tellR R T (i : Int) = tellsU s x := by
  have hi := (List.getElem?_eq_some_iff.1 hx).1
  have ht : T[i]? = some (T[i]'(by have := h.tl; omega)) := List.getElem?_eq_getElem _
  obtain ⟨y, hy, e⟩ := h.t i _ ht
  rw [hx] at hy
  injection hy with hy
  subst hy
  unfold tellR
  rw [bf_right h hl hs, show okIx R.length (i : Int) = true by unfold okIx; simp; omega]
  simp only [Bool.and_self, if_true, Int.toNat_natCast, List.getD_eq_getElem?_getD, ht, Option.getD_some]
  exact e
structure RArg (w : World) (ks : List E) (ms : List Int) (Ak Am : Option Addr) (ck cm : Nat) : Prop where
  k : KsAt w w.heap.size ks Ak ck
  m : IS w w.heap.size ms Am cm
  t : TZ w
  p : PW w
theorem RArg.below {w w' : World} {ks : List E} {ms : List Int} {Ak Am : Option Addr} {ck cm : Nat} (h : RArg w ks ms Ak Am ck cm) (hb : Below w.heap.size w w') : RArg w' ks ms Ak Am ck cm := ⟨h.k.on hb, h.m.on hb, h.t.below hb h.t.lt, h.p.below hb h.p.lt⟩
def TrOk (w : World) (r : Ending) (w' : World) : Prop := r = .returned (.bool true) ∧ Below w.heap.size w w'
set_option maxHeartbeats 8000000 in
set_option maxRecDepth 100000 in
theorem runs_big (se : Bool) (ks : List E) (ms : List Int) (Ak Am : Option Addr) (ck cm : Nat) (w : World) (h : RArg w ks ms Ak Am ck cm) (hbig : 80 < szL ks ∨ 12 < ms.length) :
    Calls Tryd.prog 6 #[.bool se, .slice Ak ks.length ck, .slice Am ms.length cm] w (TrOk w) := by
  have C := great_any ks Ak ck w h.k
  have hm63 : ms.length ≤ 9223372036854775807 := by have := h.m.l; have := h.m.m; unfold maxLen at this; omega
  obtain ⟨nm, hnm⟩ : ∃ n, ms.length = n := ⟨_, rfl⟩
  rw [hnm] at hbig hm63 ⊢
  have H := Lib.hid h
  clear h hnm
  cases hg : decide (80 < szL ks) with
  | true =>
    rw [hg] at C
    have HC := Lib.hid C
    clear C hg hbig
    go_enter Tryd.func6, Tryd.ntmps6
    go_wp2_with fail
    refine HC.out.mono ?_
    rintro r w2 ⟨rfl, hb2⟩
    have a2 := H.out.below hb2
    have C2 := Lib.hid (awake9_any w2 a2.t a2.p)
    have H2 := Lib.hid hb2
    clear a2 hb2
    go_wp2_with fail
    refine C2.out.mono ?_
    rintro r w3 ⟨rfl, hb3⟩
    have H3 := Lib.hid (H2.out.trans (hb3.mono H2.out.size))
    clear hb3
    go_wp2_with fail
    go_ret
    exact ⟨rfl, H3.out⟩
  | false =>
    rw [hg] at C
    have HC := Lib.hid C
    have h12 : 12 < nm := by
      simp at hg
      omega
    have i1 : (12 : Int) < (nm : Int) := by omega
    have j1 : decide ((12 : Int) < (nm : Int)) = true := by simpa using i1
    clear C hg hbig
    go_enter Tryd.func6, Tryd.ntmps6
    go_wp2_with fail
    refine HC.out.mono ?_
    rintro r w2 ⟨rfl, hb2⟩
    have a2 := H.out.below hb2
    have C2 := Lib.hid (awake9_any w2 a2.t a2.p)
    have H2 := Lib.hid hb2
    clear a2 hb2
    go_wp2_with fail
    refine C2.out.mono ?_
    rintro r w3 ⟨rfl, hb3⟩
    have H3 := Lib.hid (H2.out.trans (hb3.mono H2.out.size))
    clear hb3
    go_wp2_with fail
    go_ret
    exact ⟨rfl, H3.out⟩
set_option maxHeartbeats 8000000 in
set_option maxRecDepth 100000 in
theorem runs_wrong (se : Bool) (ks : List E) (ms : List Int) (Ak Am : Option Addr) (ck cm : Nat) (w : World) (h : RArg w ks ms Ak Am ck cm) (h80 : szL ks ≤ 80) (h12 : ms.length ≤ 12) (hr : (ks.all rightE && decide (ks.length ≤ 40)) = false) :
    Calls Tryd.prog 6 #[.bool se, .slice Ak ks.length ck, .slice Am ms.length cm] w (TrOk w) := by
  have C := great_any ks Ak ck w h.k
  rw [show decide (80 < szL ks) = false by simp; omega] at C
  obtain ⟨nm, hnm⟩ : ∃ n, ms.length = n := ⟨_, rfl⟩
  rw [hnm] at h12 ⊢
  have i1 : ¬ (12 : Int) < (nm : Int) := by omega
  have j1 : decide ((12 : Int) < (nm : Int)) = false := by simpa using i1
  have HC := Lib.hid C
  have H := Lib.hid (And.intro h (And.intro h80 hr))
  clear h hnm C h80 hr
  go_enter Tryd.func6, Tryd.ntmps6
  go_wp2_with fail
  refine HC.out.mono ?_
  rintro r w2 ⟨rfl, hb2⟩
  have a2 := H.out.1.below hb2
  have C2 := Lib.hid (awake9_any w2 a2.t a2.p)
  have H2 := Lib.hid hb2
  clear a2 hb2
  go_wp2_with fail
  refine C2.out.mono ?_
  rintro r w3 ⟨rfl, hb3⟩
  have b3 := H2.out.trans (hb3.mono H2.out.size)
  have C3 := allRight_any ks Ak ck w3 (H.out.1.k.on b3) (by have := H.out.2.1; omega)
  rw [H.out.2.2] at C3
  have HC3 := Lib.hid C3
  have H3 := Lib.hid b3
  clear hb3 b3 C3
  go_wp2_with fail
  refine HC3.out.mono ?_
  rintro r w4 ⟨rfl, hb4⟩
  have H4 := Lib.hid (H3.out.trans (hb4.mono H3.out.size))
  clear hb4
  go_wp2_with fail
  go_ret
  exact ⟨rfl, H4.out⟩
end Go.Proofs.YteamonmneoakpaaDoor

namespace Go.Proofs.YteamonmneoakpaaDoor
open Go.RowKit Go.Shelf Go.Lib Go.Great Go.Maps Go.Sort

theorem lv_le_sz : ∀ l : List E, lvL l ≤ szL l := by
  intro l
  induction l with
  | nil => simp [lvL, leavesE.lvL]
  | cons a r ih =>
    have := leaves_le _ a (Nat.le_refl _)
    simp only [lvL, leavesE.lvL, szL, szE.szL] at *
    omega
theorem fault_zero6 {ks : List E} (h1 : ks.all rightE = true) (h2 : ks.length ≤ 40) (h3 : szL ks ≤ 80) : faultL ks = 0 := by
  have := lv_le_sz ks
  unfold faultL
  rw [if_neg (by omega), if_neg (by simp [h1]), if_neg (by omega)]
theorem setK_zero (se : Bool) (s : St) (ms : List Int) : setK se s ms 0 = [0] := rfl
set_option maxHeartbeats 16000000 in
set_option maxRecDepth 100000 in
theorem runs_main (se : Bool) (ks : List E) (ms : List Int) (Ak Am : Option Addr) (ck cm : Nat) (w : World) (h : RArg w ks ms Ak Am ck cm) (h80 : szL ks ≤ 80) (h12 : ms.length ≤ 12) (hr : ks.all rightE = true) (h40 : ks.length ≤ 40) :
    Calls Tryd.prog 6 #[.bool se, .slice Ak ks.length ck, .slice Am ms.length cm] w (TrOk w) := by
  have C := great_any ks Ak ck w h.k
  rw [show decide (80 < szL ks) = false by simp; omega] at C
  obtain ⟨nm, hnm⟩ : ∃ n, ms.length = n := ⟨_, rfl⟩
  rw [hnm] at h12 ⊢
  have i1 : ¬ (12 : Int) < (nm : Int) := by omega
  have j1 : decide ((12 : Int) < (nm : Int)) = false := by simpa using i1
  have HC := Lib.hid C
  have H := Lib.hid (And.intro h (And.intro h80 (And.intro hr (And.intro h40 hnm))))
  clear h hnm C h80 hr h40
  go_enter Tryd.func6, Tryd.ntmps6
  go_wp2_with fail
  refine HC.out.mono ?_
  rintro r w2 ⟨rfl, hb2⟩
  have a2 := H.out.1.below hb2
  have C2 := Lib.hid (awake9_any w2 a2.t a2.p)
  have H2 := Lib.hid hb2
  clear a2 hb2
  go_wp2_with fail
  refine C2.out.mono ?_
  rintro r w3 ⟨rfl, hb3⟩
  have b3 := H2.out.trans (hb3.mono H2.out.size)
  have C3 := allRight_any ks Ak ck w3 (H.out.1.k.on b3) (by have := H.out.2.1; omega)
  rw [H.out.2.2.1, show decide (ks.length ≤ 40) = true by simpa using H.out.2.2.2.1] at C3
  have HC3 := Lib.hid C3
  have H3 := Lib.hid b3
  clear hb3 b3 C3
  go_wp2_with fail
  refine HC3.out.mono ?_
  rintro r w4 ⟨rfl, hb4⟩
  have b4 := H3.out.trans (hb4.mono H3.out.size)
  have C4 := Lib.hid (toL_any ks (by have := H.out.2.1; omega) Ak ck w4 (H.out.1.k.on b4))
  have H4 := Lib.hid b4
  clear hb4 b4
  go_wp2_with fail
  refine C4.out.mono ?_
  rintro r w5 ⟨A5, c5, rfl, hks5, hb5⟩
  have b5 := H4.out.trans (hb5.mono H4.out.size)
  have C5 := Lib.hid (new_any se ks A5 c5 w5 (hks5.ks (fun b hb => hb.2) (fun e v hN => NdP.nd (fun b hb => hb.2) _ e v (Nat.le_refl _) hN)) (fault_zero6 H.out.2.2.1 H.out.2.2.2.1 H.out.2.1) (H.out.1.t.below b5 H.out.1.t.lt))
  have H5 := Lib.hid b5
  clear hks5 hb5 b5
  go_wp2_with fail
  refine C5.out.mono ?_
  rintro r w6 ⟨q, nn, rfl, _, hn6, hb6⟩
  have b6 := H5.out.trans (hb6.mono H5.out.size)
  have C6 := Lib.hid (newD_any hn6 (H.out.1.t.below b6 H.out.1.t.lt) (H.out.1.p.below b6 H.out.1.p.lt))
  have H6 := Lib.hid (And.intro hn6 b6)
  clear hn6 hb6 b6
  go_wp2_with fail
  refine C6.out.mono ?_
  rintro r w7 ⟨R, T, v7, e7, rfl, hv7, hb7, hcase⟩
  have b7 := H6.out.2.trans (hb7.mono H6.out.2.size)
  rcases hcase with ⟨rfl, rfl, rfl, S, hS, h1000⟩ | ⟨rfl, S, hB, hl, hs⟩
  · obtain ⟨A, c, A2, c2, rfl, hR, hT⟩ := hv7
    have H7 := Lib.hid (And.intro b7 (below_new w7 (.cells #[.slice A 0 c, .slice A2 0 c2] 54)))
    clear b7 hb7 hR hT hS
    rw [show (List.length ([] : List (List Int))) = 0 from rfl, show (List.length ([] : List Nat)) = 0 from rfl]
    go_wp2_with fail
    go_ret
    exact ⟨rfl, H7.out.1.trans (H7.out.2.mono H7.out.1.size)⟩
  · have hrt := bf_right hB hl hs
    have hv7' := hv7
    obtain ⟨A, c, A2, c2, rfl, hR, hT⟩ := hv7
    obtain ⟨n1, hn1⟩ : ∃ n, R.length = n := ⟨_, rfl⟩
    obtain ⟨n2, hn2⟩ : ∃ n, T.length = n := ⟨_, rfl⟩
    rw [hn1, hn2] at hv7' ⊢
    obtain ⟨W8, hW8⟩ : ∃ W, w7.alloc (.cells #[.slice A n1 c, .slice A2 n2 c2] 54) = W := ⟨_, rfl⟩
    have b8 : Below w7.heap.size w7 W8 := by rw [← hW8]; exact below_new _ _
    have x8 : Cells W8 w7.heap.size 54 #[.slice A n1 c, .slice A2 n2 c2] := by rw [← hW8]; exact cells_new _ _ _
    have b08 := b7.trans (b8.mono b7.size)
    have n8 := H6.out.1.below (hb7.trans (b8.mono hb7.size))
    have H8 := Lib.hid (And.intro n8 (And.intro b08 (And.intro x8 (hv7'.on b8))))
    have HB := Lib.hid (And.intro hB (And.intro hl (And.intro hs (And.intro hrt (And.intro hn1 hn2)))))
    have HW8 := Lib.hid hW8
    clear hW8 b8 x8 b08 n8 hv7' hB hl hs hrt hn1 hn2 hR hT b7 hb7
    go_wp2_with fail
    rw [HW8.out]
    refine (begin_any q.b W8).mono ?_
    rintro r w9 ⟨rfl, hw9⟩
    have b9 : Below W8.heap.size W8 w9 := by rw [hw9]; exact below_new _ _
    have s9 : SlX w9 (fun _ => True) (setK se (mkN ks) ms 0) (.slice (some ⟨W8.heap.size, 0, none⟩) 1 1) := by
      rw [setK_zero, hw9]
      exact (slx_begin W8).move (Nat.le_refl _) (fun b _ _ => ⟨trivial, rfl⟩)
    have H9 := Lib.hid (And.intro b9 s9)
    clear hw9 b9 s9
    go_wp2_with fail
    go_loopw [11, 12] (fun u11 u12 wr => ∃ k : Nat, u12 = .int .i64 (k : Int) ∧ k ≤ nm ∧ (ms.take k).all okM = true ∧ Below W8.heap.size W8 wr ∧ SlX wr (fun _ => True) (setK se (mkN ks) ms k) u11) (fun _ u12 _ => nm - (RowKit.intOf u12).toNat)
    case atStart => exact ⟨0, rfl, by omega, rfl, H9.out.1, H9.out.2⟩
    case round =>
      obtain ⟨k, rfl, hk, hall, hb, hsl⟩ := hrel
      have x8 : Cells wr w7.heap.size 54 #[.slice A n1 c, .slice A2 n2 c2] := (hb.block _ H8.out.2.2.1.lt).trans H8.out.2.2.1
      have bw := H8.out.2.1.trans (hb.mono H8.out.2.1.size)
      by_cases hlt : k < nm
      · have i5 : (k : Int) < (nm : Int) := by omega
        obtain ⟨m, hm⟩ : ∃ m, ms[k]? = some m := ⟨ms[k]'(by have := H.out.2.2.2.2; omega), List.getElem?_eq_getElem _⟩
        have his := H.out.1.m
        obtain ⟨b, o, rfl, hbl, hc⟩ := his.r (by rintro rfl; simp at hm)
        have d0 := (bw.cell (p := ⟨b, o + k, none⟩) hbl).trans (hc k m hm)
        have h64 := his.i m (List.mem_of_getElem? hm)
        have ht := allT_take okM hm
        rw [hall] at ht
        unfold i64 at h64
        cases hok : okM m with
        | false =>
          have hmiss := allT_miss (p := okM) hm hok
          have hX : runR R 0 ms = -1 := by unfold runR; rw [hmiss]; rfl
          have C := run_right (H8.out.2.2.2.on hb) 0 (by unfold i64; omega) ms (some ⟨b, o, none⟩) cm (his.on bw) HB.out.2.2.2.1 (by have := (right_parts HB.out.2.2.2.1).1; unfold okIx; simp; omega)
          rw [hX, H.out.2.2.2.2] at C
          have HC7 := Lib.hid C
          have e0 := x8.cell 0
          have e1 := x8.cell 1
          simp at e0 e1
          have HE := Lib.hid bw
          have hok' : ¬ (0 ≤ m ∧ m < 37) := fun hh => by simp [okM, hh.1, hh.2] at hok
          clear C hX hmiss ht hok hall hm hc his x8 bw hb hsl
          by_cases h0 : m < 0
          · have j0 : decide (m < 0) = true := by simpa using h0
            go_wp2_with fail
            refine HC7.out.mono ?_
            rintro r w10 ⟨rfl, hb10⟩
            have HF := Lib.hid (HE.out.trans (hb10.mono HE.out.size))
            clear hb10
            go_wp2_with fail
            go_ret
            exact ⟨rfl, HF.out⟩
          · have j0 : decide (m < 0) = false := by simpa using h0
            have j3 : (36 : Int) < m := by omega
            have j2 : decide ((36 : Int) < m) = true := by simpa using j3
            go_wp2_with fail
            refine HC7.out.mono ?_
            rintro r w10 ⟨rfl, hb10⟩
            have HF := Lib.hid (HE.out.trans (hb10.mono HE.out.size))
            clear hb10
            go_wp2_with fail
            go_ret
            exact ⟨rfl, HF.out⟩
        | true =>
          have hm2 := okM_nat hok
          rw [hok] at ht
          have hst := setK_succ (se := se) (s := mkN ks) hm
          obtain ⟨mn, rfl⟩ : ∃ mn : Nat, m = (mn : Int) := ⟨m.toNat, by omega⟩
          simp only [Int.toNat_natCast] at hst
          have C := step_slx (H8.out.1.below hb) (H.out.1.t.below bw H.out.1.t.lt) hsl mn (by omega)
          have HC7 := Lib.hid C
          have j0 : decide ((mn : Int) < 0) = false := by simp
          have j2 : decide ((36 : Int) < (mn : Int)) = false := by simp; omega
          have j3 : ¬ (mn : Int) < 0 := by omega
          have j4 : ¬ (36 : Int) < (mn : Int) := by omega
          have HK := Lib.hid (And.intro ht (And.intro hst hb))
          clear C ht hok hall hm hc his x8 bw hb hsl hst hm2 h64
          go_wp2_with fail
          refine HC7.out.mono ?_
          rintro r w10 ⟨v10, rfl, hs10, hb10⟩
          have hend : ∃ k1 : Nat, Value.int .i64 ((k : Int) + 1) = .int .i64 (k1 : Int) ∧ k1 ≤ nm ∧ (ms.take k1).all okM = true ∧ Below W8.heap.size W8 w10 ∧ SlX w10 (fun _ => True) (setK se (mkN ks) ms k1) v10 :=
            ⟨k + 1, by simp, by omega, by rw [HK.out.1]; rfl, HK.out.2.2.trans (hb10.mono HK.out.2.2.size), by rw [HK.out.2.1]; exact hs10.move (Nat.le_refl _) (fun b _ _ => ⟨trivial, rfl⟩)⟩
          have HEND := Lib.hid hend
          clear hend hs10 hb10
          go_wp2_with fail
          go_roundw
          case rel => exact HEND.out
          case measure => simp [RowKit.intOf]; omega
      · obtain rfl : k = nm := by omega
        have i5 : ¬ (k : Int) < (k : Int) := by omega
        obtain ⟨i, hi1, hi2⟩ := runs_at HB.out.1 HB.out.2.1 ms k (by have := H.out.2.2.2.2; omega) hall
        have e1 : ms.take k = ms := by rw [← H.out.2.2.2.2, List.take_length]
        rw [e1] at hall hi1
        have hrun : runR R 0 ms = (i : Int) := by unfold runR; rw [hall]; exact hi1
        have hin := (List.getElem?_eq_some_iff.1 hi2).1
        have htl := bf_tell HB.out.1 HB.out.2.1 HB.out.2.2.1 hi2
        have hin2 : i ≤ 1000 := by have := HB.out.2.2.1; omega
        obtain ⟨t, ht⟩ : ∃ t : Nat, tellsU (mkN ks) (setK se (mkN ks) ms k) = t := ⟨_, rfl⟩
        rw [ht] at htl
        have tv := fun (W : World) (hb2 : Below wr.heap.size wr W) => (H8.out.2.2.2.on hb).on hb2
        have hok0 : okIx R.length (0 : Int) = true := by have := (right_parts HB.out.2.2.2.1).1; unfold okIx; simp; omega
        have K1 : ∀ W, Below wr.heap.size wr W → Calls Tryd.prog 30 #[.agg #[.slice A n1 c, .slice A2 n2 c2]] W fun r w' => r = .returned (.bool true) ∧ Below W.heap.size W w' := fun W hb2 => by
          have := rightD_any (tv W hb2)
          rw [HB.out.2.2.2.1] at this
          exact this
        have K2 : ∀ W, Below wr.heap.size wr W → Calls Tryd.prog 29 #[.agg #[.slice A n1 c, .slice A2 n2 c2], .int .i64 0, .slice Am k cm] W fun r w' => r = .returned (.int .i64 (i : Int)) ∧ Below W.heap.size W w' := fun W hb2 => by
          have := run_right (tv W hb2) 0 (by unfold i64; omega) ms Am cm ((H.out.1.m.on bw).on hb2) HB.out.2.2.2.1 hok0
          rw [hrun, H.out.2.2.2.2] at this
          exact this
        have K3 : ∀ W, Below wr.heap.size wr W → Calls Tryd.prog 31 #[.agg #[.slice A n1 c, .slice A2 n2 c2], .int .i64 (i : Int)] W fun r w' => r = .returned (.int .u64 (t : Int)) ∧ Below W.heap.size W w' := fun W hb2 => by
          have := tellsD_any (tv W hb2) (i : Int) (nat64 (by omega))
          rw [htl] at this
          exact this
        have K4 : ∀ W, Below wr.heap.size wr W → Calls Tryd.prog 19 #[.pointer (some ⟨q.b, 0, none⟩), u11] W fun r w' => r = .returned (.int .u64 (t : Int)) ∧ Below W.heap.size W w' := fun W hb2 => by
          have := tells_slx (H8.out.1.below (hb.trans (hb2.mono hb.size))) (hsl.move (X' := fun _ => True) hb2.size (fun b h1 hl => ⟨h1, hb2.block b hl⟩))
          rw [ht] at this
          refine this.mono ?_
          rintro r w' ⟨h1, h2⟩
          exact ⟨h1, by rw [h2]; exact Below.refl _ _⟩
        have K5 : ∀ W, Below wr.heap.size wr W → Calls Tryd.prog 32 #[.agg #[.slice A n1 c, .slice A2 n2 c2]] W fun r w' => ∃ AL cL, r = .returned (.slice AL n1 cL) ∧ Below W.heap.size W w' := fun W hb2 => by
          refine (reached_any (tv W hb2) HB.out.2.2.2.1).mono ?_
          rintro r w' ⟨L, AL, cL, rfl, _, hL, hb3⟩
          have := bf_len HB.out.1 HB.out.2.1 HB.out.2.2.1 hL
          exact ⟨AL, cL, by rw [this, HB.out.2.2.2.2.1], hb3⟩
        have KS := Lib.hid (And.intro K1 (And.intro K2 (And.intro K3 (And.intro K4 K5))))
        have HP := Lib.hid (And.intro x8.lt (And.intro (show wr.cell? ⟨w7.heap.size, 0, none⟩ = some (.slice A n1 c) from x8.cell 0) (show wr.cell? ⟨w7.heap.size, 1, none⟩ = some (.slice A2 n2 c2) from x8.cell 1)))
        have HB0 := Lib.hid bw
        have HS0 := Lib.hid (show Below wr.heap.size wr wr.drew from (Below.refl _ _).drew)
        obtain ⟨wd, hwd⟩ : ∃ W, wr.drew = W := ⟨_, rfl⟩
        have HWD := Lib.hid hwd
        have HSd := Lib.hid (show Below wr.heap.size wr wd by rw [← hwd]; exact HS0.out)
        have htt : ((t : Int) == (t : Int)) = true := by simp
        have hnn : ((n1 : Int) == (n1 : Int)) = true := by simp
        clear ht htl tv hok0 K1 K2 K3 K4 K5 x8 bw hb hsl hall hi1 hi2 e1 hrun hwd
        go_wp2_with fail
        refine wp_region_noPanic ?_
        refine wp_region_held_drew (S := fun W => Below wr.heap.size wr W) (by kernel_rfl) HS0.out (fun hH => ?_)
        rw [HWD.out]
        have hH := HSd.out
        refine wpAnyH_take (i := 0) (oi := { dst := some 81, op := Op.load 54 (Operand.tmp 9), type := 54, pos := "law.go:80", after := #[], guard := none }) (v := ?_) rfl (by kernel_rfl) (by kernel_rfl) (by kernel_rfl) (fun _ _ _ h => h) (Or.inl ⟨by rfl, ?_⟩) (by exact hH) ?_
        rotate_left
        · intro W hSw
          have p0 : W.cell? ⟨w7.heap.size, 0, none⟩ = some (.slice A n1 c) := (hSw.cell (p := ⟨w7.heap.size, 0, none⟩) HP.out.1).trans HP.out.2.1
          have p1 : W.cell? ⟨w7.heap.size, 1, none⟩ = some (.slice A2 n2 c2) := (hSw.cell (p := ⟨w7.heap.size, 1, none⟩) HP.out.1).trans HP.out.2.2
          go_simp
          try with_reducible rfl
        try simp only [Act.put, List.setIfInBounds_toArray, List.set_cons_zero, List.set_cons_succ]
        refine wpAnyH_ready (rs := [1]) (by kernel_rfl) (by simp) ?_
        refine AllReadyH.cons (o := { dst := some 82, op := Op.call { callee := Callee.value (Operand.func 30), args := #[Operand.tmp 81], argTypes := #[54] }, type := 4, pos := "law.go:80", after := #[{ on := 0, ground := Ground.data }], guard := none }) rfl (fun K hK => ?_) AllReadyH.nil
        go_simp
        go_at_call 30
        refine (KS.out.1 _ HSd.out).mono ?_
        rintro e W1 ⟨rfl, hbk⟩
        have HS1 := Lib.hid (HSd.out.trans (hbk.mono HSd.out.size))
        clear hbk
        try go_wp2_with fail
        refine hK.out _ _ HS1.out (fun hH => ?_)
        clear hK K
        try simp only [Act.put, List.setIfInBounds_toArray, List.set_cons_zero, List.set_cons_succ]
        refine wpAnyH_take (i := 2) (oi := { dst := some 83, op := Op.move (Operand.tmp 82), type := 4, pos := "law.go:80", after := #[{ on := 1, ground := Ground.data }, { on := 1, ground := Ground.chain }], guard := none }) (v := ?_) rfl (by kernel_rfl) (by kernel_rfl) (by kernel_rfl) (fun _ _ _ h => h) (Or.inl ⟨by rfl, ?_⟩) (by exact hH) ?_
        rotate_left
        · intro W hSw
          go_simp
          try with_reducible rfl
        try simp only [Act.put, List.setIfInBounds_toArray, List.set_cons_zero, List.set_cons_succ]
        refine wpAnyH_take (i := 3) (oi := { dst := some 84, op := Op.load 54 (Operand.tmp 9), type := 54, pos := "law.go:80", after := #[{ on := 2, ground := Ground.guard }], guard := some (2, true) }) (v := ?_) rfl (by kernel_rfl) (by kernel_rfl) (by kernel_rfl) (fun _ _ _ h => h) (Or.inl ⟨by rfl, ?_⟩) (by exact hH) ?_
        rotate_left
        · intro W hSw
          have p0 : W.cell? ⟨w7.heap.size, 0, none⟩ = some (.slice A n1 c) := (hSw.cell (p := ⟨w7.heap.size, 0, none⟩) HP.out.1).trans HP.out.2.1
          have p1 : W.cell? ⟨w7.heap.size, 1, none⟩ = some (.slice A2 n2 c2) := (hSw.cell (p := ⟨w7.heap.size, 1, none⟩) HP.out.1).trans HP.out.2.2
          go_simp
          try with_reducible rfl
        try simp only [Act.put, List.setIfInBounds_toArray, List.set_cons_zero, List.set_cons_succ]
        refine wpAnyH_take (i := 4) (oi := { dst := some 85, op := Op.load 54 (Operand.tmp 9), type := 54, pos := "law.go:80", after := #[{ on := 2, ground := Ground.guard }], guard := some (2, true) }) (v := ?_) rfl (by kernel_rfl) (by kernel_rfl) (by kernel_rfl) (fun _ _ _ h => h) (Or.inl ⟨by rfl, ?_⟩) (by exact hH) ?_
        rotate_left
        · intro W hSw
          have p0 : W.cell? ⟨w7.heap.size, 0, none⟩ = some (.slice A n1 c) := (hSw.cell (p := ⟨w7.heap.size, 0, none⟩) HP.out.1).trans HP.out.2.1
          have p1 : W.cell? ⟨w7.heap.size, 1, none⟩ = some (.slice A2 n2 c2) := (hSw.cell (p := ⟨w7.heap.size, 1, none⟩) HP.out.1).trans HP.out.2.2
          go_simp
          try with_reducible rfl
        try simp only [Act.put, List.setIfInBounds_toArray, List.set_cons_zero, List.set_cons_succ]
        refine wpAnyH_take (i := 5) (oi := { dst := some 86, op := Op.move (Operand.tmp 2), type := 23, pos := "law.go:80", after := #[{ on := 2, ground := Ground.guard }], guard := some (2, true) }) (v := ?_) rfl (by kernel_rfl) (by kernel_rfl) (by kernel_rfl) (fun _ _ _ h => h) (Or.inl ⟨by rfl, ?_⟩) (by exact hH) ?_
        rotate_left
        · intro W hSw
          go_simp
          try with_reducible rfl
        try simp only [Act.put, List.setIfInBounds_toArray, List.set_cons_zero, List.set_cons_succ]
        refine wpAnyH_take (i := 8) (oi := { dst := some 89, op := Op.move (Operand.tmp 7), type := 26, pos := "law.go:80", after := #[{ on := 2, ground := Ground.guard }], guard := some (2, true) }) (v := ?_) rfl (by kernel_rfl) (by kernel_rfl) (by kernel_rfl) (fun _ _ _ h => h) (Or.inl ⟨by rfl, ?_⟩) (by exact hH) ?_
        rotate_left
        · intro W hSw
          go_simp
          try with_reducible rfl
        try simp only [Act.put, List.setIfInBounds_toArray, List.set_cons_zero, List.set_cons_succ]
        refine wpAnyH_take (i := 9) (oi := { dst := some 90, op := Op.move (Operand.tmp 11), type := 23, pos := "law.go:80", after := #[{ on := 2, ground := Ground.guard }], guard := some (2, true) }) (v := ?_) rfl (by kernel_rfl) (by kernel_rfl) (by kernel_rfl) (fun _ _ _ h => h) (Or.inl ⟨by rfl, ?_⟩) (by exact hH) ?_
        rotate_left
        · intro W hSw
          go_simp
          try with_reducible rfl
        try simp only [Act.put, List.setIfInBounds_toArray, List.set_cons_zero, List.set_cons_succ]
        refine wpAnyH_ready (rs := [6]) (by kernel_rfl) (by simp) ?_
        refine AllReadyH.cons (o := { dst := some 87, op := Op.call { callee := Callee.value (Operand.func 29), args := #[Operand.tmp 85, Operand.const (Value.int IntKind.i64 0), Operand.tmp 86], argTypes := #[54, 3, 23] }, type := 3, pos := "law.go:80", after := #[{ on := 4, ground := Ground.data }, { on := 5, ground := Ground.data }, { on := 2, ground := Ground.chain }, { on := 2, ground := Ground.guard }], guard := some (2, true) }) rfl (fun K hK => ?_) AllReadyH.nil
        go_simp
        go_at_call 29
        refine (KS.out.2.1 _ HS1.out).mono ?_
        rintro e W2 ⟨rfl, hbk⟩
        have HS2 := Lib.hid (HS1.out.trans (hbk.mono HS1.out.size))
        clear hbk
        try go_wp2_with fail
        refine hK.out _ _ HS2.out (fun hH => ?_)
        clear hK K
        try simp only [Act.put, List.setIfInBounds_toArray, List.set_cons_zero, List.set_cons_succ]
        refine wpAnyH_ready (rs := [7]) (by kernel_rfl) (by simp) ?_
        refine AllReadyH.cons (o := { dst := some 88, op := Op.call { callee := Callee.value (Operand.func 31), args := #[Operand.tmp 84, Operand.tmp 87], argTypes := #[54, 3] }, type := 37, pos := "law.go:80", after := #[{ on := 3, ground := Ground.data }, { on := 6, ground := Ground.data }, { on := 6, ground := Ground.chain }, { on := 2, ground := Ground.guard }], guard := some (2, true) }) rfl (fun K hK => ?_) AllReadyH.nil
        go_simp
        go_at_call 31
        refine (KS.out.2.2.1 _ HS2.out).mono ?_
        rintro e W3 ⟨rfl, hbk⟩
        have HS3 := Lib.hid (HS2.out.trans (hbk.mono HS2.out.size))
        clear hbk
        try go_wp2_with fail
        refine hK.out _ _ HS3.out (fun hH => ?_)
        clear hK K
        try simp only [Act.put, List.setIfInBounds_toArray, List.set_cons_zero, List.set_cons_succ]
        refine wpAnyH_ready (rs := [10]) (by kernel_rfl) (by simp) ?_
        refine AllReadyH.cons (o := { dst := some 91, op := Op.call { callee := Callee.value (Operand.func 19), args := #[Operand.tmp 89, Operand.tmp 90], argTypes := #[26, 23] }, type := 37, pos := "law.go:80", after := #[{ on := 8, ground := Ground.data }, { on := 9, ground := Ground.data }, { on := 7, ground := Ground.chain }, { on := 2, ground := Ground.guard }], guard := some (2, true) }) rfl (fun K hK => ?_) AllReadyH.nil
        go_simp
        go_at_call 19
        refine (KS.out.2.2.2.1 _ HS3.out).mono ?_
        rintro e W4 ⟨rfl, hbk⟩
        have HS4 := Lib.hid (HS3.out.trans (hbk.mono HS3.out.size))
        clear hbk
        try go_wp2_with fail
        refine hK.out _ _ HS4.out (fun hH => ?_)
        clear hK K
        try simp only [Act.put, List.setIfInBounds_toArray, List.set_cons_zero, List.set_cons_succ]
        refine wpAnyH_take (i := 11) (oi := { dst := some 92, op := Op.binOp BinOp.eql 37 (Operand.tmp 88) (Operand.tmp 91) 37, type := 4, pos := "law.go:80", after := #[{ on := 7, ground := Ground.data }, { on := 10, ground := Ground.data }, { on := 2, ground := Ground.guard }], guard := some (2, true) }) (v := ?_) rfl (by kernel_rfl) (by kernel_rfl) (by kernel_rfl) (fun _ _ _ h => h) (Or.inl ⟨by rfl, ?_⟩) (by exact hH) ?_
        rotate_left
        · intro W hSw
          go_simp
          try with_reducible rfl
        try simp only [Act.put, List.setIfInBounds_toArray, List.set_cons_zero, List.set_cons_succ]
        refine wpAnyH_take (i := 12) (oi := { dst := some 93, op := Op.pick (Operand.tmp 83) (Operand.tmp 92) (Operand.const (Value.bool false)), type := 4, pos := "law.go:80", after := #[{ on := 2, ground := Ground.data }, { on := 11, ground := Ground.data }], guard := none }) (v := ?_) rfl (by kernel_rfl) (by kernel_rfl) (by kernel_rfl) (fun _ _ _ h => h) (Or.inl ⟨by rfl, ?_⟩) (by exact hH) ?_
        rotate_left
        · intro W hSw
          go_simp
          try with_reducible rfl
        try simp only [Act.put, List.setIfInBounds_toArray, List.set_cons_zero, List.set_cons_succ]
        refine wpAnyH_take (i := 13) (oi := { dst := some 94, op := Op.move (Operand.tmp 93), type := 4, pos := "law.go:80", after := #[{ on := 12, ground := Ground.data }, { on := 10, ground := Ground.chain }], guard := none }) (v := ?_) rfl (by kernel_rfl) (by kernel_rfl) (by kernel_rfl) (fun _ _ _ h => h) (Or.inl ⟨by rfl, ?_⟩) (by exact hH) ?_
        rotate_left
        · intro W hSw
          go_simp
          try with_reducible rfl
        try simp only [Act.put, List.setIfInBounds_toArray, List.set_cons_zero, List.set_cons_succ]
        refine wpAnyH_take (i := 14) (oi := { dst := some 95, op := Op.load 54 (Operand.tmp 9), type := 54, pos := "law.go:80", after := #[{ on := 13, ground := Ground.guard }], guard := some (13, true) }) (v := ?_) rfl (by kernel_rfl) (by kernel_rfl) (by kernel_rfl) (fun _ _ _ h => h) (Or.inl ⟨by rfl, ?_⟩) (by exact hH) ?_
        rotate_left
        · intro W hSw
          have p0 : W.cell? ⟨w7.heap.size, 0, none⟩ = some (.slice A n1 c) := (hSw.cell (p := ⟨w7.heap.size, 0, none⟩) HP.out.1).trans HP.out.2.1
          have p1 : W.cell? ⟨w7.heap.size, 1, none⟩ = some (.slice A2 n2 c2) := (hSw.cell (p := ⟨w7.heap.size, 1, none⟩) HP.out.1).trans HP.out.2.2
          go_simp
          try with_reducible rfl
        try simp only [Act.put, List.setIfInBounds_toArray, List.set_cons_zero, List.set_cons_succ]
        refine wpAnyH_take (i := 17) (oi := { dst := some 98, op := Op.fieldAddr 54 (Operand.tmp 9) 0, type := 0, pos := "law.go:80", after := #[{ on := 13, ground := Ground.guard }], guard := some (13, true) }) (v := ?_) rfl (by kernel_rfl) (by kernel_rfl) (by kernel_rfl) (fun _ _ _ h => h) (Or.inl ⟨by rfl, ?_⟩) (by exact hH) ?_
        rotate_left
        · intro W hSw
          go_simp
          try with_reducible rfl
        try simp only [Act.put, List.setIfInBounds_toArray, List.set_cons_zero, List.set_cons_succ]
        refine wpAnyH_take (i := 18) (oi := { dst := some 99, op := Op.load 51 (Operand.tmp 98), type := 51, pos := "law.go:80", after := #[{ on := 17, ground := Ground.data }, { on := 13, ground := Ground.guard }], guard := some (13, true) }) (v := ?_) rfl (by kernel_rfl) (by kernel_rfl) (by kernel_rfl) (fun _ _ _ h => h) (Or.inl ⟨by rfl, ?_⟩) (by exact hH) ?_
        rotate_left
        · intro W hSw
          have p0 : W.cell? ⟨w7.heap.size, 0, none⟩ = some (.slice A n1 c) := (hSw.cell (p := ⟨w7.heap.size, 0, none⟩) HP.out.1).trans HP.out.2.1
          have p1 : W.cell? ⟨w7.heap.size, 1, none⟩ = some (.slice A2 n2 c2) := (hSw.cell (p := ⟨w7.heap.size, 1, none⟩) HP.out.1).trans HP.out.2.2
          go_simp
          try with_reducible rfl
        try simp only [Act.put, List.setIfInBounds_toArray, List.set_cons_zero, List.set_cons_succ]
        refine wpAnyH_take (i := 19) (oi := { dst := some 100, op := Op.call { callee := Callee.builtin Builtin.len, args := #[Operand.tmp 99], argTypes := #[51] }, type := 3, pos := "law.go:80", after := #[{ on := 18, ground := Ground.data }, { on := 13, ground := Ground.guard }], guard := some (13, true) }) (v := ?_) rfl (by kernel_rfl) (by kernel_rfl) (by kernel_rfl) (fun _ _ _ h => h) (Or.inl ⟨by rfl, ?_⟩) (by exact hH) ?_
        rotate_left
        · intro W hSw
          go_simp
          try with_reducible rfl
        try simp only [Act.put, List.setIfInBounds_toArray, List.set_cons_zero, List.set_cons_succ]
        refine wpAnyH_ready (rs := [15]) (by kernel_rfl) (by simp) ?_
        refine AllReadyH.cons (o := { dst := some 96, op := Op.call { callee := Callee.value (Operand.func 32), args := #[Operand.tmp 95], argTypes := #[54] }, type := 23, pos := "law.go:80", after := #[{ on := 14, ground := Ground.data }, { on := 13, ground := Ground.chain }, { on := 13, ground := Ground.guard }], guard := some (13, true) }) rfl (fun K hK => ?_) AllReadyH.nil
        go_simp
        go_at_call 32
        refine (KS.out.2.2.2.2 _ HS4.out).mono ?_
        rintro e W5 ⟨AL, cL, rfl, hbk⟩
        have HS5 := Lib.hid (HS4.out.trans (hbk.mono HS4.out.size))
        clear hbk
        try go_wp2_with fail
        refine hK.out _ _ HS5.out (fun hH => ?_)
        clear hK K
        try simp only [Act.put, List.setIfInBounds_toArray, List.set_cons_zero, List.set_cons_succ]
        refine wpAnyH_take (i := 16) (oi := { dst := some 97, op := Op.call { callee := Callee.builtin Builtin.len, args := #[Operand.tmp 96], argTypes := #[23] }, type := 3, pos := "law.go:80", after := #[{ on := 15, ground := Ground.data }, { on := 13, ground := Ground.guard }], guard := some (13, true) }) (v := ?_) rfl (by kernel_rfl) (by kernel_rfl) (by kernel_rfl) (fun _ _ _ h => h) (Or.inl ⟨by rfl, ?_⟩) (by exact hH) ?_
        rotate_left
        · intro W hSw
          go_simp
          try with_reducible rfl
        try simp only [Act.put, List.setIfInBounds_toArray, List.set_cons_zero, List.set_cons_succ]
        refine wpAnyH_take (i := 20) (oi := { dst := some 101, op := Op.binOp BinOp.eql 3 (Operand.tmp 97) (Operand.tmp 100) 3, type := 4, pos := "law.go:80", after := #[{ on := 16, ground := Ground.data }, { on := 19, ground := Ground.data }, { on := 13, ground := Ground.guard }], guard := some (13, true) }) (v := ?_) rfl (by kernel_rfl) (by kernel_rfl) (by kernel_rfl) (fun _ _ _ h => h) (Or.inl ⟨by rfl, ?_⟩) (by exact hH) ?_
        rotate_left
        · intro W hSw
          go_simp
          try with_reducible rfl
        try simp only [Act.put, List.setIfInBounds_toArray, List.set_cons_zero, List.set_cons_succ]
        refine wpAnyH_take (i := 21) (oi := { dst := some 102, op := Op.pick (Operand.tmp 94) (Operand.tmp 101) (Operand.const (Value.bool false)), type := 4, pos := "law.go:80", after := #[{ on := 13, ground := Ground.data }, { on := 20, ground := Ground.data }], guard := none }) (v := ?_) rfl (by kernel_rfl) (by kernel_rfl) (by kernel_rfl) (fun _ _ _ h => h) (Or.inl ⟨by rfl, ?_⟩) (by exact hH) ?_
        rotate_left
        · intro W hSw
          go_simp
          try with_reducible rfl
        try simp only [Act.put, List.setIfInBounds_toArray, List.set_cons_zero, List.set_cons_succ]
        refine wpAnyH_take (i := 22) (oi := { dst := some 6, op := Op.assign (Operand.tmp 102), type := 4, pos := "law.go:80", after := #[{ on := 21, ground := Ground.data }, { on := 15, ground := Ground.chain }, { on := 0, ground := Ground.phase }, { on := 1, ground := Ground.phase }, { on := 2, ground := Ground.phase }, { on := 3, ground := Ground.phase }, { on := 4, ground := Ground.phase }, { on := 5, ground := Ground.phase }, { on := 6, ground := Ground.phase }, { on := 7, ground := Ground.phase }, { on := 8, ground := Ground.phase }, { on := 9, ground := Ground.phase }, { on := 10, ground := Ground.phase }, { on := 11, ground := Ground.phase }, { on := 12, ground := Ground.phase }, { on := 13, ground := Ground.phase }, { on := 14, ground := Ground.phase }, { on := 15, ground := Ground.phase }, { on := 16, ground := Ground.phase }, { on := 17, ground := Ground.phase }, { on := 18, ground := Ground.phase }, { on := 19, ground := Ground.phase }, { on := 20, ground := Ground.phase }, { on := 21, ground := Ground.phase }], guard := none }) (v := ?_) rfl (by kernel_rfl) (by kernel_rfl) (by kernel_rfl) (fun _ _ _ h => h) (Or.inl ⟨by rfl, ?_⟩) (by exact hH) ?_
        rotate_left
        · intro W hSw
          go_simp
          try with_reducible rfl
        try simp only [Act.put, List.setIfInBounds_toArray, List.set_cons_zero, List.set_cons_succ]
        refine wpAnyH_done (by kernel_rfl) ?_ _
        refine NoPanic.normal ?_
        go_wp2_with fail
        go_ret
        exact ⟨rfl, HB0.out.trans (HS5.out.mono HB0.out.size)⟩
end Go.Proofs.YteamonmneoakpaaDoor

namespace Go.Proofs.YteamonmneoakpaaDoor
open Go.ChangeShapes Go.WideShapes Go.ChangeAt Go.RowKit Go.Shelf
open Go.Lib

theorem own : ownKnob Tryd.prog.godebug = none := by kernel_rfl
theorem laidOut : laidOutB Tryd.prog = true := by kernel_rfl
theorem cells5 : Tryd.prog.cellsOf 5 = 1 := by kernel_rfl
def laidBits : List (String × DataW Unit) := [("math/bits.deBruijn64tab", Rows.laid_math_bits_deBruijn64tab)]
def bruijn64 : List Int := Lib.deBruijn64tab.map fun (n : Nat) => (n : Int)
theorem bruijn_eq : (Rows.laid_math_bits_deBruijn64tab : DataW Unit) = tabData .u8 bruijn64 := by kernel_rfl
theorem gBruijn : Tryd.prog.globalNamed "math/bits.deBruijn64tab" = some 0 := by kernel_rfl
theorem yBruijn : (Tryd.prog.globals[0]?).map (·.type) = some 120 := by kernel_rfl
theorem cells88 : Tryd.prog.cellsOf 120 = 64 := by kernel_rfl
theorem tz_of_reads {w : World} (h : VarReads Tryd.prog w "math/bits.deBruijn64tab" Rows.laid_math_bits_deBruijn64tab) : TZ w := by
  rw [bruijn_eq] at h
  obtain ⟨g, t, cs, fuel, p, hg, hty, hvar, hd⟩ := h
  obtain rfl := Option.some.inj (gBruijn.symm.trans hg)
  obtain rfl := Option.some.inj (yBruijn.symm.trans hty)
  have hcs := cells_of_tab Tryd.underlying120 Tryd.underlying5 cells5 cells88 hd
  intro j hj
  have h1 := World.var?_cell hg hvar j
  rw [← Array.getElem?_toList, hcs] at h1
  rw [h1]
  unfold bruijn64
  simp only [List.getElem?_map, List.getD_eq_getElem?_getD]
  rw [List.getElem?_eq_getElem hj]
  rfl
end Go.Proofs.YteamonmneoakpaaDoor

namespace Go.Proofs.YteamonmneoakpaaDoor
open Go.ChangeShapes Go.WideShapes Go.ChangeAt Go.RowKit Go.Shelf
open Go.Lib

instance : Inhabited E := ⟨.mk 0 0 []⟩
theorem cells48 : Tryd.prog.cellsOf 48 = 3 := by kernel_rfl
theorem cells3 : Tryd.prog.cellsOf 3 = 1 := by kernel_rfl
theorem cells22 : Tryd.prog.cellsOf 22 = 1 := by kernel_rfl
section
variable {H : Type} {enc : TypeId × Value → H} {W : World}
set_option maxRecDepth 100000 in
theorem int_cell {n : Nat} {v : Value} {x : DataW H × List MemPlace} (h : DataW.trod enc Tryd.prog W 0 (fun _ => true) true n 3 [v] = some x) : ∃ a, v = .int .i64 a ∧ i64 a := by
  obtain ⟨a, e, _, w⟩ := DataW.trod_int Tryd.underlying3 h
  have b : -9223372036854775808 ≤ a ∧ a ≤ 9223372036854775807 := by simpa [Lit.wf, IntKind.min, IntKind.max, IntKind.signed, IntKind.bits] using w
  exact ⟨a, by simpa using e, b⟩
set_option maxRecDepth 100000 in
/-- The cells of one expression. -/
theorem nd_cells : ∀ fuel, (∀ cs (x : DataW H × List MemPlace), DataW.trod enc Tryd.prog W 0 (fun _ => true) true fuel 48 cs = some x → ∃ (e : E) (A : Option Addr) (cap : Nat), cs = [.int .i64 e.k, .int .i64 e.c, .slice A e.ks.length cap] ∧ i64 e.k ∧ i64 e.c ∧ KsAt W W.heap.size e.ks A cap) ∧
    (∀ cs (x : DataW H × List MemPlace), DataW.trod enc Tryd.prog W 0 (fun _ => true) true fuel 22 cs = some x → ∃ (ks : List E) (A : Option Addr) (cap : Nat), cs = [.slice A ks.length cap] ∧ KsAt W W.heap.size ks A cap) := by
  intro fuel
  induction fuel with
  | zero => exact ⟨fun cs x h => by simp [DataW.trod] at h, fun cs x h => by simp [DataW.trod] at h⟩
  | succ n ih =>
    constructor
    · intro cs x h
      obtain ⟨xs, m, hm, _, hlen, hxl, hf⟩ := DataW.trod_struct Tryd.underlying48 h
      obtain rfl : m = n := by omega
      rw [cells48] at hlen
      have hxl : xs.length = 3 := hxl
      match cs, hlen, xs, hxl with
      | [c0, c1, c2], _, [x0, x1, x2], _ =>
        have h0 := hf 0 _ rfl
        have h1 := hf 1 _ rfl
        have h2 := hf 2 _ rfl
        simp [cells3] at h0 h1
        simp [cells22] at h2
        obtain ⟨k, rfl, hk⟩ := int_cell h0
        obtain ⟨c, rfl, hc⟩ := int_cell h1
        obtain ⟨ks, A, cap, he, hks⟩ := ih.2 _ _ h2
        simp at he
        subst he
        exact ⟨.mk k c ks, A, cap, rfl, hk, hc, hks⟩
    · intro cs x h
      rcases DataW.trod_slice Tryd.underlying22 h with ⟨rfl, _⟩ | ⟨a, len, cap, elems, rest, m, hm, rfl, _, _, hl, hcm, hlen, hel, _, _⟩
      · exact ⟨[], none, 0, rfl, ⟨by simp, by simp, by simp, fun hn => absurd rfl hn⟩⟩
      · obtain rfl : m = n := by omega
        rw [cells48] at hel
        have each : ∀ i, i < len → ∃ e : E, ∃ (A : Option Addr) (cp : Nat), W.cell? ((a.add (i * 3)).add 0) = some (.int .i64 e.k) ∧ W.cell? ((a.add (i * 3)).add 1) = some (.int .i64 e.c) ∧ W.cell? ((a.add (i * 3)).add 2) = some (.slice A e.ks.length cp) ∧ i64 e.k ∧ i64 e.c ∧ KsAt W W.heap.size e.ks A cp := by
          intro i hi
          have key := hel i hi
          rw [List.getElem?_eq_getElem (by omega)] at key
          obtain ⟨cs', h1, h2⟩ := Option.bind_eq_some_iff.1 key
          obtain ⟨e, A, cp, rfl, hk, hc, hks⟩ := ih.1 _ _ h2
          obtain ⟨_, _, hcell⟩ := World.cells?_some h1
          exact ⟨e, A, cp, by simpa using hcell 0 (by omega), by simpa using hcell 1 (by omega), by simpa using hcell 2 (by omega), hk, hc, hks⟩
        obtain ⟨f, hf⟩ := Go.Deep.choose_lt each
        have hfl : ((List.range len).map f).length = len := by simp
        refine ⟨(List.range len).map f, some a, cap, by rw [hfl], ⟨by rw [hfl]; exact hl, hcm, fun e => (by cases e), fun hn => ?_⟩⟩
        have h0 : 0 < len := by
          rcases Nat.eq_zero_or_pos len with e | e
          · subst e; exact absurd rfl hn
          · exact e
        obtain ⟨_, _, hc0, _⟩ := hf 0 h0
        obtain ⟨b, o, spot⟩ := a
        have hspot : spot = none := by simpa [Addr.add] using World.cell?_spot hc0
        subst hspot
        have hbl := cell_lt hc0
        refine ⟨b, o, rfl, by simpa [Addr.add] using hbl, row_of fun i e he => ?_⟩
        have hi : i < len := by have := (List.getElem?_eq_some_iff.1 he).1; omega
        simp [hi] at he
        subst he
        obtain ⟨A, cp, c0, c1, c2, hk, hc, hks⟩ := hf i hi
        have ad : ∀ j, ((⟨b, o, none⟩ : Addr).add (i * 3)).add j = ⟨b, o + i * 3 + j, none⟩ := fun j => by
          rw [Addr.add_mid, Addr.add_mid]
        rw [ad] at c0 c1 c2
        exact ⟨_, _, _, c0, c1, c2, Nd_iff.2 ⟨hk, hc, A, cp, rfl, hks⟩⟩
set_option maxRecDepth 100000 in
/-- An argument that is a list of expressions. -/
theorem ks_of_arg {b0 : Nat} {v : Value} {d : DataW H} {p : List MemPlace} (hv : Value.okWide Tryd.prog W .any b0 22 v) (h : DataW.Trod enc Tryd.prog W 0 (fun _ => true) true 22 v d p) :
    ∃ (ks : List E) (A : Option Addr) (cap : Nat), v = .slice A ks.length cap ∧ KsAt W W.heap.size ks A cap := by
  obtain ⟨a, len, cap, rfl⟩ := okWide_slice Tryd.underlying22 hv
  obtain ⟨fuel, hf⟩ := h
  obtain ⟨ks, A, cp, he, hk⟩ := (nd_cells fuel).2 _ _ hf
  simp [Value.cells] at he
  obtain ⟨rfl, rfl, rfl⟩ := he
  exact ⟨ks, a, cap, rfl, hk⟩
set_option maxRecDepth 100000 in
/-- An argument that is a list of numbers. -/
theorem is_of_arg {b0 : Nat} {v : Value} {d : DataW H} {p : List MemPlace} (hv : Value.okWide Tryd.prog W .any b0 23 v) (h : DataW.Trod enc Tryd.prog W 0 (fun _ => true) true 23 v d p) :
    ∃ (xs : List Int) (A : Option Addr) (cap : Nat), v = .slice A xs.length cap ∧ IS W W.heap.size xs A cap ∧ (A = none → cap = 0) := by
  obtain ⟨a, len, cap, rfl⟩ := okWide_slice Tryd.underlying23 hv
  obtain ⟨fuel, hf⟩ := h
  rcases open_ints Tryd.underlying23 Tryd.underlying3 (by kernel_rfl) hf with ⟨hcs, _⟩ | ⟨x, l, c, zs, hcs, _, hl, hm, hz, _, hcell, hwz⟩
  · simp [Value.cells] at hcs
    obtain ⟨rfl, rfl, rfl⟩ := hcs
    exact ⟨[], none, 0, rfl, ⟨by simp, by simp, fun x hx => by simp at hx, fun hn => absurd rfl hn⟩, fun _ => rfl⟩
  · simp [Value.cells] at hcs
    obtain ⟨rfl, rfl, rfl⟩ := hcs
    have hzl : zs.length = cap := by simpa using hz
    have htl : (zs.take len).length = len := by rw [List.length_take]; omega
    refine ⟨zs.take len, some x, cap, by rw [htl], ⟨by rw [htl]; exact hl, hm, fun y hy => ?_, fun hn => ?_⟩, fun e => by cases e⟩
    · have := hwz y (List.mem_of_mem_take hy)
      have b : -9223372036854775808 ≤ y ∧ y ≤ 9223372036854775807 := by simpa [Lit.wf, IntKind.min, IntKind.max, IntKind.signed, IntKind.bits] using this
      exact b
    · have h0 : 0 < len := by
        rcases Nat.eq_zero_or_pos len with e | e
        · subst e; simp at hn
        · exact e
      have hc0 := hcell 0 (by omega)
      obtain ⟨b, o, spot⟩ := x
      have hspot : spot = none := by simpa [Addr.add] using World.cell?_spot hc0
      subst hspot
      have hbl := cell_lt hc0
      refine ⟨b, o, rfl, by simpa [Addr.add] using hbl, fun i y hy => ?_⟩
      have hi : i < len := by have := (List.getElem?_eq_some_iff.1 hy).1; omega
      have := hcell i (by omega)
      rw [Addr.add_mid] at this
      rw [this]
      rw [List.getElem?_take, if_pos hi] at hy
      simp [List.getD, hy]
end
end Go.Proofs.YteamonmneoakpaaDoor

namespace Go.Proofs.YteamonmneoakpaaDoor
open Go.ChangeShapes Go.WideShapes Go.ChangeAt Go.RowKit Go.Shelf
open Go.Lib

theorem cells23 : Tryd.prog.cellsOf 23 = 1 := by kernel_rfl
theorem cells51 : Tryd.prog.cellsOf 51 = 1 := by kernel_rfl
theorem cells52 : Tryd.prog.cellsOf 52 = 1 := by kernel_rfl
theorem cells57 : Tryd.prog.cellsOf 57 = 2 := by kernel_rfl
section
variable {H : Type} {enc : TypeId × Value → H} {W : World}
set_option maxRecDepth 100000 in
theorem is_cells {fuel : Nat} {cs : List Value} {x : DataW H × List MemPlace} (hf : DataW.trod enc Tryd.prog W 0 (fun _ => true) true fuel 23 cs = some x) :
    ∃ (xs : List Int) (A : Option Addr) (cap : Nat), cs = [.slice A xs.length cap] ∧ IS W W.heap.size xs A cap ∧ (A = none → cap = 0) := by
  rcases open_ints Tryd.underlying23 Tryd.underlying3 (by kernel_rfl) hf with ⟨hcs, _⟩ | ⟨x, l, c, zs, hcs, _, hl, hm, hz, _, hcell, hwz⟩
  · exact ⟨[], none, 0, by simpa using hcs, ⟨by simp, by simp, fun x hx => by simp at hx, fun hn => absurd rfl hn⟩, fun _ => rfl⟩
  · have hzl : zs.length = c := by simpa using hz
    have htl : (zs.take l).length = l := by rw [List.length_take]; omega
    refine ⟨zs.take l, some x, c, by rw [htl]; simpa using hcs, ⟨by rw [htl]; exact hl, hm, fun y hy => ?_, fun hn => ?_⟩, fun e => by cases e⟩
    · have := hwz y (List.mem_of_mem_take hy)
      have b : -9223372036854775808 ≤ y ∧ y ≤ 9223372036854775807 := by simpa [Lit.wf, IntKind.min, IntKind.max, IntKind.signed, IntKind.bits] using this
      exact b
    · have h0 : 0 < l := by
        rcases Nat.eq_zero_or_pos l with e | e
        · subst e; simp at hn
        · exact e
      have hc0 := hcell 0 (by omega)
      obtain ⟨b, o, spot⟩ := x
      have hspot : spot = none := by simpa [Addr.add] using World.cell?_spot hc0
      subst hspot
      have hbl := cell_lt hc0
      refine ⟨b, o, rfl, by simpa [Addr.add] using hbl, fun i y hy => ?_⟩
      have hi : i < l := by have := (List.getElem?_eq_some_iff.1 hy).1; omega
      have := hcell i (by omega)
      rw [Addr.add_mid] at this
      rw [this]
      rw [List.getElem?_take, if_pos hi] at hy
      simp [List.getD, hy]
set_option maxRecDepth 100000 in
theorem us_cells {fuel : Nat} {cs : List Value} {x : DataW H × List MemPlace} (hf : DataW.trod enc Tryd.prog W 0 (fun _ => true) true fuel 52 cs = some x) :
    ∃ (T : List Nat) (A : Option Addr) (cap : Nat), cs = [.slice A T.length cap] ∧ UsAt W W.heap.size T A cap := by
  rcases open_ints Tryd.underlying52 Tryd.underlying37 (by kernel_rfl) hf with ⟨hcs, _⟩ | ⟨x, l, c, zs, hcs, _, hl, hm, hz, _, hcell, hwz⟩
  · exact ⟨[], none, 0, by simpa using hcs, ⟨by simp, by simp, fun _ => rfl, fun x hx => by simp at hx, fun hn => absurd rfl hn⟩⟩
  · have hzl : zs.length = c := by simpa using hz
    have htl : ((zs.take l).map Int.toNat).length = l := by rw [List.length_map, List.length_take]; omega
    have bz : ∀ y ∈ zs, 0 ≤ y ∧ y ≤ 18446744073709551615 := fun y hy => by
      have := hwz y hy
      simpa [Lit.wf, IntKind.min, IntKind.max, IntKind.signed, IntKind.bits] using this
    refine ⟨(zs.take l).map Int.toNat, some x, c, by rw [htl]; simpa using hcs, ⟨by rw [htl]; exact hl, hm, fun e => (by cases e), fun y hy => ?_, fun hn => ?_⟩⟩
    · obtain ⟨z, hz, rfl⟩ := List.mem_map.1 hy
      have := bz z (List.mem_of_mem_take hz)
      omega
    · have h0 : 0 < l := by
        rcases Nat.eq_zero_or_pos l with e | e
        · subst e; simp at hn
        · exact e
      have hc0 := hcell 0 (by omega)
      obtain ⟨b, o, spot⟩ := x
      have hspot : spot = none := by simpa [Addr.add] using World.cell?_spot hc0
      subst hspot
      have hbl := cell_lt hc0
      refine ⟨b, o, rfl, by simpa [Addr.add] using hbl, fun i y hy => ?_⟩
      have hi : i < l := by have := (List.getElem?_eq_some_iff.1 hy).1; omega
      have := hcell i (by omega)
      rw [Addr.add_mid] at this
      rw [this]
      rw [List.getElem?_map, List.getElem?_take, if_pos hi] at hy
      obtain ⟨z, hz, rfl⟩ := Option.map_eq_some_iff.1 hy
      have := bz z (List.mem_of_getElem? hz)
      simp [List.getD, hz]
      omega
set_option maxRecDepth 100000 in
theorem rs_cells {fuel : Nat} {cs : List Value} {x : DataW H × List MemPlace} (h : DataW.trod enc Tryd.prog W 0 (fun _ => true) true fuel 51 cs = some x) :
    ∃ (R : List (List Int)) (A : Option Addr) (cap : Nat), cs = [.slice A R.length cap] ∧ RsAt W W.heap.size R A cap := by
  rcases DataW.trod_slice Tryd.underlying51 h with ⟨rfl, _⟩ | ⟨a, len, cap, elems, rest, m, hm, rfl, _, _, hl, hcm, hlen, hel, _, _⟩
  · exact ⟨[], none, 0, rfl, ⟨by simp, by simp, fun _ => rfl, fun hn => absurd rfl hn⟩⟩
  · rw [cells23] at hel
    have each : ∀ i, i < len → ∃ r : List Int, ∃ (A : Option Addr) (cp : Nat), W.cell? (a.add i) = some (.slice A r.length cp) ∧ IS W W.heap.size r A cp ∧ (A = none → cp = 0) := by
      intro i hi
      have key := hel i hi
      rw [List.getElem?_eq_getElem (by omega)] at key
      obtain ⟨cs', h1, h2⟩ := Option.bind_eq_some_iff.1 key
      obtain ⟨r, A, cp, rfl, hr, hz⟩ := is_cells h2
      obtain ⟨_, _, hcell⟩ := World.cells?_some h1
      have := hcell 0 (by omega)
      exact ⟨r, A, cp, by simpa [add_none] using this, hr, hz⟩
    obtain ⟨f, hf⟩ := Go.Deep.choose_lt each
    have hfl : ((List.range len).map f).length = len := by simp
    refine ⟨(List.range len).map f, some a, cap, by rw [hfl], ⟨by rw [hfl]; exact hl, hcm, fun e => (by cases e), fun hn => ?_⟩⟩
    have h0 : 0 < len := by
      rcases Nat.eq_zero_or_pos len with e | e
      · subst e; exact absurd rfl hn
      · exact e
    obtain ⟨_, _, hc0, _⟩ := hf 0 h0
    obtain ⟨b, o, spot⟩ := a
    have hspot : spot = none := by simpa [Addr.add] using World.cell?_spot hc0
    subst hspot
    have hbl := cell_lt hc0
    refine ⟨b, o, rfl, by simpa [Addr.add] using hbl, fun i r hr => ?_⟩
    have hi : i < len := by have := (List.getElem?_eq_some_iff.1 hr).1; omega
    simp [hi] at hr
    subst hr
    obtain ⟨A, cp, c0, hr, hz⟩ := hf i hi
    rw [Addr.add_mid] at c0
    exact ⟨A, cp, c0, hr, hz⟩
set_option maxRecDepth 100000 in
theorem tb_of_arg {b0 : Nat} {v : Value} {d : DataW H} {p : List MemPlace} (hv : Value.okWide Tryd.prog W .any b0 57 v) (h : DataW.Trod enc Tryd.prog W 0 (fun _ => true) true 57 v d p) : ∃ R T, TbV W R T v := by
  obtain ⟨cs, rfl, hcs⟩ := okWide_struct Tryd.underlying57 hv
  obtain ⟨fuel, hf⟩ := h
  obtain ⟨xs, n, hn, _, hlen, hxl, hff⟩ := DataW.trod_struct Tryd.underlying57 hf
  rw [cells57] at hcs hlen
  have hxl : xs.length = 2 := hxl
  obtain ⟨l⟩ := cs
  match l, hcs, xs, hxl with
  | [c0, c1], _, [x0, x1], _ =>
    have h0 := hff 0 _ rfl
    have h1 := hff 1 _ rfl
    simp [cells51, Value.cells] at h0
    simp [cells52, Value.cells] at h1
    obtain ⟨R, A, c, e0, hR⟩ := rs_cells h0
    obtain ⟨T, A2, c2, e1, hT⟩ := us_cells h1
    simp at e0 e1
    subst e0 e1
    exact ⟨R, T, A, c, A2, c2, rfl, hR, hT⟩
end
end Go.Proofs.YteamonmneoakpaaDoor

namespace Go.Proofs.YteamonmneoakpaaDoor
open Go.ChangeShapes Go.WideShapes Go.ChangeAt Go.RowKit Go.Shelf
open Go.Lib

theorem cells37 : Tryd.prog.cellsOf 37 = 1 := by kernel_rfl
theorem cells160 : Tryd.prog.cellsOf 160 = 20 := by kernel_rfl
def laid3 : List (String × DataW Unit) := [("math/bits.deBruijn32tab", Rows.laid_math_bits_deBruijn32tab), ("math/bits.deBruijn64tab", Rows.laid_math_bits_deBruijn64tab), ("internal/strconv.uint64pow10", Rows.laid_internal_strconv_uint64pow10)]
theorem pow_eq : (Rows.laid_internal_strconv_uint64pow10 : DataW Unit) = tabData .u64 Lib.pow10Tab := by kernel_rfl
theorem yPow : (Tryd.prog.globals[1]?).map (·.type) = some 160 := by kernel_rfl
theorem pw_of_reads {w : World} (h : VarReads Tryd.prog w "internal/strconv.uint64pow10" Rows.laid_internal_strconv_uint64pow10) : PW w := by
  rw [pow_eq] at h
  obtain ⟨g, t, cs, fuel, p, hg, hty, hvar, hd⟩ := h
  obtain rfl := Option.some.inj (gPow.symm.trans hg)
  obtain rfl := Option.some.inj (yPow.symm.trans hty)
  have hcs := cells_of_tab Tryd.underlying160 Tryd.underlying37 cells37 cells160 hd
  unfold PW Lib.TabIs
  rw [hvar, ← hcs]
end Go.Proofs.YteamonmneoakpaaDoor

