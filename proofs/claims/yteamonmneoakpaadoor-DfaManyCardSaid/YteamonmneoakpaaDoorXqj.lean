/-
  Contracts: nfa.New.
  Contracts: virgulelaw09.awake: the document's example holds.
  Contracts: Ints.Is.
  Contracts: slices.Equal of numbers, the document's same.
  Contracts: Great, To, slices.EqualFunc of rows, dfa.Same.
  Contracts: slices.EqualFunc of rows, dfa.Same, the document's Same.
  Contracts: the document's Same.
-/
import Derived.Test.YteamonmneoakpaaDoorXqi
import Derived.Test.YteamonmneoakpaaDoorXqe
import Derived.Test.YteamonmneoakpaaDoorXqf
import Derived.Lib.QuietBelow
namespace Go.Proofs.YteamonmneoakpaaDoor
open Go.RowKit Go.Shelf Go.Lib Go.Great Go.Maps

theorem addE_count {e : E} (hr : rightE e = true) (s : St) (b : Nat) : (addE s e b).count = s.count + leavesE e := by
  rw [← leaves_right hr s]
  unfold addE
  dsimp only
  split <;> rfl
theorem mkL_count : ∀ (l : List E) (i : Nat) (s : St), l.all rightE = true → (mkL l i s).count = s.count + lvL l
  | [], _, _, _ => rfl
  | e :: r, i, s, h => by
    simp only [List.all_cons, Bool.and_eq_true] at h
    have h1 := mkL_count r (i + 1) (addE s e (2 ^ i)) h.2
    rw [addE_count h.1] at h1
    have e2 : lvL (e :: r) = leavesE e + lvL r := rfl
    show (mkL r (i + 1) (addE s e (2 ^ i))).count = _
    omega
theorem mkL_take {ks : List E} {i : Nat} {f : E} (h : ks[i]? = some f) (s : St) : mkL (ks.take (i + 1)) 0 s = addE (mkL (ks.take i) 0 s) f (2 ^ i) := by
  have hi : i < ks.length := (List.getElem?_eq_some_iff.1 h).1
  rw [List.take_add_one, h, Option.toList_some, mkL_append]
  have : (ks.take i).length = i := by rw [List.length_take]; omega
  rw [this, Nat.zero_add]
  rfl
/-- A new automaton. -/
theorem nfa_new (w : World) (se : Bool) (W : World) (hW : (((w.alloc (.map #[] 0)).alloc (.map #[] 0)).alloc (.map #[] 0)).alloc (.cells #[.bool se, .int .i64 1, .map (some w.heap.size), .map (some (w.heap.size + 1)), .map (some (w.heap.size + 1 + 1))] 78) = W) :
    Np.Ok ⟨w.heap.size + 1 + 1 + 1, w.heap.size, w.heap.size + 1, w.heap.size + 1 + 1⟩ w.heap.size ∧ NfaAt W ⟨w.heap.size + 1 + 1 + 1, w.heap.size, w.heap.size + 1, w.heap.size + 1 + 1⟩ 0 se st0 ∧ Below w.heap.size w W := by
  obtain ⟨W1, hW1⟩ : ∃ W1, w.alloc (.map #[] 0) = W1 := ⟨_, rfl⟩
  obtain ⟨W2, hW2⟩ : ∃ W2, W1.alloc (.map #[] 0) = W2 := ⟨_, rfl⟩
  obtain ⟨W3, hW3⟩ : ∃ W3, W2.alloc (.map #[] 0) = W3 := ⟨_, rfl⟩
  rw [hW1, hW2, hW3] at hW
  have z1 : W1.heap.size = w.heap.size + 1 := by rw [← hW1]; simp
  have z2 : W2.heap.size = w.heap.size + 1 + 1 := by rw [← hW2]; simp [z1]
  have z3 : W3.heap.size = w.heap.size + 1 + 1 + 1 := by rw [← hW3]; simp [z2]
  have b1 : Below w.heap.size w W1 := by rw [← hW1]; exact below_new _ _
  have b2 : Below W1.heap.size W1 W2 := by rw [← hW2]; exact below_new _ _
  have b3 : Below W2.heap.size W2 W3 := by rw [← hW3]; exact below_new _ _
  have b4 : Below W3.heap.size W3 W := by rw [← hW]; exact below_new _ _
  have m1 : MapF W1 w.heap.size 0 (plV 0) (fun _ => plV 0) := by rw [← hW1]; exact MapF.made w _
  have m2 : MapF W2 (w.heap.size + 1) 0 (plV 0) (fun _ => plV 0) := by rw [← hW2, ← z1]; exact MapF.made W1 _
  have m3 : MapF W3 (w.heap.size + 1 + 1) 0 (.int .u64 0) (fun _ => .int .u64 0) := by rw [← hW3, ← z2]; exact MapF.made W2 _
  have x : Cells W (w.heap.size + 1 + 1 + 1) 78 #[.bool se, .int .i64 1, .map (some w.heap.size), .map (some (w.heap.size + 1)), .map (some (w.heap.size + 1 + 1))] := by rw [← hW, ← z3]; exact cells_new _ _ _
  refine ⟨⟨by dsimp only; omega, by dsimp only; omega, by dsimp only; omega, by dsimp only; omega, by dsimp only; omega, by dsimp only; omega, by dsimp only; omega, by dsimp only; omega, by dsimp only; omega, by dsimp only; omega⟩, ⟨?_, ?_, ?_, ?_, ?_, ?_, ?_, ?_, ?_, fun _ => by simp [st0]⟩, ?_⟩
  · exact x.cell 0
  · exact x.cell 1
  · exact x.cell 2
  · exact x.cell 3
  · exact x.cell 4
  · exact x.froz 1
  · refine (m1.block ?_).congr fun k => ?_
    · exact (b4.block _ (by omega)).trans ((b3.block _ (by omega)).trans (b2.block _ (by omega)))
    · simp [st0]
  · refine (m2.block ?_).congr fun k => ?_
    · exact (b4.block _ (by omega)).trans (b3.block _ (by omega))
    · simp [takersI, st0]
  · refine (m3.block ?_).congr fun k => ?_
    · exact b4.block _ (by omega)
    · simp [st0]
  · exact b1.trans ((b2.mono (by omega)).trans ((b3.mono (by omega)).trans (b4.mono (by omega))))
theorem Np.Ok.mono {q : Np} {B B' : Nat} (h : q.Ok B) (hb : B' ≤ B) : q.Ok B' := ⟨Nat.le_trans hb h.b, Nat.le_trans hb h.nx, Nat.le_trans hb h.tk, Nat.le_trans hb h.tl, h.d1, h.d2, h.d3, h.d4, h.d5, h.d6⟩
theorem fault_ok {ks : List E} (h : faultL ks = 0) : ks.length ≤ 40 ∧ ks.all rightE = true ∧ 1 + lvL ks ≤ 1000 := by
  unfold faultL at h
  split at h
  · cases h
  · split at h
    · cases h
    · split at h
      · cases h
      · rename_i h1 h2 h3
        exact ⟨by omega, by simpa using h2, by omega⟩
set_option maxHeartbeats 4000000 in
set_option maxRecDepth 100000 in
theorem new_bad (se : Bool) (ks : List E) (A : Option Addr) (cap : Nat) (w : World) (hk : KsAt w w.heap.size ks A cap) (hf : faultL ks ≠ 0) :
    Calls Tryd.prog 12 #[.bool se, .slice A ks.length cap] w fun r w' => r = .returned (.tuple #[.pointer none, .int .i64 (faultL ks)]) ∧ Below w.heap.size w w' := by
  have C := Lib.hid (fault_any ks A cap w hk)
  generalize faultL ks = F at *
  have hF : (F == 0) = false := by simpa using hf
  go_enter Tryd.func12, Tryd.ntmps12
  go_wp2_with fail
  refine C.out.mono ?_
  rintro r w2 ⟨rfl, hb⟩
  have HB := Lib.hid hb
  clear hb
  go_wp2_with fail
  go_ret2
  exact ⟨rfl, HB.out⟩
/-- What New answers of right expressions. -/
def NewOk (w : World) (se : Bool) (ks : List E) (r : Ending) (w' : World) : Prop := ∃ (q : Np) (n : Nat), r = .returned (.tuple #[.pointer (some ⟨q.b, 0, none⟩), .int .i64 0]) ∧ q.Ok w.heap.size ∧ NfaAt w' q n se (mkN ks) ∧ Below w.heap.size w w'
set_option maxHeartbeats 8000000 in
set_option maxRecDepth 100000 in
theorem new_any (se : Bool) (ks : List E) (A : Option Addr) (cap : Nat) (w : World) (hk : KsAt w w.heap.size ks A cap) (hf : faultL ks = 0) (hT : TZ w) :
    Calls Tryd.prog 12 #[.bool se, .slice A ks.length cap] w (NewOk w se ks) := by
  obtain ⟨h40, hall, h1000⟩ := fault_ok hf
  have C := Lib.hid (fault_any ks A cap w hk)
  rw [hf] at C
  have hln : ks.length ≤ 9223372036854775807 := by omega
  obtain ⟨N, hN⟩ : ∃ N, ks.length = N := ⟨_, rfl⟩
  have HN := Lib.hid hN
  have HK := Lib.hid (And.intro hk (And.intro hall (And.intro h1000 hT)))
  rw [hN] at C h40 hln ⊢
  have hmm := @run_makeMap Tryd.prog
  clear hk hf hall h1000 hT hN
  go_enter Tryd.func12, Tryd.ntmps12
  go_wp2_with fail
  refine C.out.mono ?_
  rintro r w2 ⟨rfl, hb⟩
  have HB := Lib.hid hb
  clear hb
  go_wp2_with fail
  obtain ⟨W3, hW3⟩ : ∃ W, (((w2.alloc (.map #[] 0)).alloc (.map #[] 0)).alloc (.map #[] 0)).alloc (.cells #[.bool se, .int .i64 1, .map (some w2.heap.size), .map (some (w2.heap.size + 1)), .map (some (w2.heap.size + 1 + 1))] 78) = W := ⟨_, rfl⟩
  have hnew := nfa_new w2 se W3 hW3
  rw [hW3]
  obtain ⟨q, hq⟩ : ∃ q : Np, (⟨w2.heap.size + 1 + 1 + 1, w2.heap.size, w2.heap.size + 1, w2.heap.size + 1 + 1⟩ : Np) = q := ⟨_, rfl⟩
  rw [hq] at hnew
  have hqb : w2.heap.size + 1 + 1 + 1 = q.b := by rw [← hq]
  rw [hqb]
  have b03 : Below w.heap.size w W3 := HB.out.trans (hnew.2.2.mono HB.out.size)
  have hT3 : TZ W3 := HK.out.2.2.2.below b03 HK.out.2.2.2.lt
  have H3 := Lib.hid (And.intro hnew.1 (And.intro hnew.2.1 (And.intro b03 (And.intro hT3 HB.out.size))))
  clear hW3 hnew hq hqb b03 hT3 hmm
  generalize w2.heap.size = s2 at *
  go_loopw [23] (fun v wr => ∃ i : Nat, v = .int .i64 (i : Int) ∧ i ≤ N ∧ Kp q W3 wr ∧ NfaAt wr q (10003000 * i) se (mkL (ks.take i) 0 st0)) (fun v _ => N - (RowKit.intOf v).toNat)
  case atStart => exact ⟨0, rfl, by omega, Kp.refl _ _, H3.out.2.1⟩
  case round =>
    obtain ⟨i, rfl, hi, hkp, hnf⟩ := hrel
    by_cases hlt : i < N
    · have i1 : (i : Int) < (N : Int) := by omega
      obtain ⟨f, hf⟩ : ∃ f, ks[i]? = some f := ⟨ks[i]'(by rw [HN.out]; exact hlt), List.getElem?_eq_getElem _⟩
      obtain ⟨b, o, rfl, hbl, hr⟩ := HK.out.1.r (by rintro rfl; simp at hf)
      obtain ⟨A', cap', d0, d1, d2, hNd⟩ := row_get' hr hf
      have hq : q.Ok w.heap.size := H3.out.1.mono H3.out.2.2.2.2
      have hun : Below w.heap.size w wr := H3.out.2.2.1.trans (hkp.under hq H3.out.2.2.1.size)
      have d0' := (hun.cell (p := ⟨b, o + i * 3, none⟩) hbl).trans d0
      have d1' := (hun.cell (p := ⟨b, o + i * 3 + 1, none⟩) hbl).trans d1
      have d2' := (hun.cell (p := ⟨b, o + i * 3 + 2, none⟩) hbl).trans d2
      obtain ⟨wr', hwr'⟩ : ∃ W, wr.alloc (.cells #[.int .i64 f.k, .int .i64 f.c, .slice A' f.ks.length cap'] 71) = W := ⟨_, rfl⟩
      have bb : Below wr.heap.size wr wr' := by rw [← hwr']; exact below_new _ _
      have x1 : Cells wr' wr.heap.size 71 #[.int .i64 f.k, .int .i64 f.c, .slice A' f.ks.length cap'] := by rw [← hwr']; exact cells_new _ _ _
      have hbr := hun.trans (bb.mono hun.size)
      have hrf : rightE f = true := List.all_eq_true.1 HK.out.2.1 f (List.mem_of_getElem? hf)
      have hsz := right_size hrf
      have hcnt : (mkL (ks.take i) 0 st0).count = 1 + lvL (ks.take i) := by
        have h1 : (ks.take i).all rightE = true := by
          rw [List.all_eq_true]
          intro x hx
          exact List.all_eq_true.1 HK.out.2.1 x (List.mem_of_mem_take hx)
        exact mkL_count _ 0 st0 h1
      have hl1 := lvL_take hf
      have hl2 := lvL_take_le ks (i + 1)
      have hll := HK.out.2.2.1
      have hC := add_any f (2 ^ i) q w.heap.size (10003000 * i) se (mkL (ks.take i) 0 st0) (.agg #[.int .i64 f.k, .int .i64 f.c, .slice A' f.ks.length cap']) wr'.drew (hnf.below bb).drew hq (by have := hbr.size; exact this) HK.out.2.2.2.lt
        (show TZ wr' from HK.out.2.2.2.below hbr HK.out.2.2.2.lt) (hNd.below hbr.drew) hrf (by omega) (by omega) (Nat.pow_lt_pow_right (n := 64) (by omega) (by omega))
      have hst := mkL_take hf st0
      have hbud : 10003000 * i + 5000 * szE f + 3000 ≤ 10003000 * (i + 1) := by omega
      have hwp := wrap_pow i (by omega)
      rw [← hwp] at hC
      have f0 := x1.cell 0
      have f1 := x1.cell 1
      have f2 := x1.cell 2
      simp at f0 f1 f2
      have HC := Lib.hid hC
      have HH := Lib.hid (And.intro hkp (And.intro bb (And.intro hwr' (And.intro hst (And.intro hbud hwp)))))
      clear hkp hnf hun bb hwr' x1 hbr hrf hsz hcnt hl1 hl2 hll hC hst hbud hNd hr hbl d0 d1 d2 hf hwp
      go_wp2_with fail
      rw [HH.out.2.2.1]
      go_still_tail 4, (by kernel_rfl)
      change wpList _ _ _ _ _ wr'.drew
      go_wp2_with fail
      refine HC.out.mono ?_
      rintro r w4 ⟨rfl, hk4, hn4⟩
      have hend : ∃ j : Nat, Value.int .i64 ((i : Int) + 1) = .int .i64 (j : Int) ∧ j ≤ N ∧ Kp q W3 w4 ∧ NfaAt w4 q (10003000 * j) se (mkL (ks.take j) 0 st0) :=
        ⟨i + 1, by simp, by omega, ((HH.out.1.below HH.out.2.1).drew).trans hk4, by rw [HH.out.2.2.2.1]; exact hn4.mono HH.out.2.2.2.2.1⟩
      have HEND := Lib.hid hend
      clear hk4 hn4 hend f0 f1 f2
      go_wp2_with fail
      go_roundw
      case rel => exact HEND.out
      case measure => simp [RowKit.intOf]; omega
    · obtain rfl : i = N := by omega
      have d1 : ¬ (i : Int) < (i : Int) := by omega
      have e1 : ks.take i = ks := by rw [← HN.out, List.take_length]
      rw [e1] at hnf
      have HE := Lib.hid (And.intro hkp hnf)
      clear hkp hnf e1
      go_wp2_with fail
      go_ret2
      refine ⟨q, _, rfl, H3.out.1.mono H3.out.2.2.2.2, HE.out.2, ?_⟩
      exact H3.out.2.2.1.trans (HE.out.1.under (H3.out.1.mono H3.out.2.2.2.2) H3.out.2.2.1.size)
end Go.Proofs.YteamonmneoakpaaDoor

namespace Go.Proofs.YteamonmneoakpaaDoor
open Go.RowKit Go.Shelf Go.Lib Go.Great Go.Maps

theorem ks_nil (w : World) : KsAt w w.heap.size [] none 0 := ⟨Nat.le_refl _, by unfold maxLen; omega, fun _ => rfl, fun h => absurd rfl h⟩
theorem fault_nil : faultL [] = 0 := by decide +kernel
theorem is_ex (w : World) : IS (w.alloc (.cells #[.int .i64 36, .int .i64 5] 3)) (w.alloc (.cells #[.int .i64 36, .int .i64 5] 3)).heap.size [36, 5] (some ⟨w.heap.size, 0, none⟩) 2 :=
  ⟨by simp, by unfold maxLen; omega, fun x hx => by simp at hx; rcases hx with rfl | rfl <;> (unfold i64; omega), fun _ => ⟨_, 0, rfl, by simp, fun i x hx => by
    match i, hx with
    | 0, hx => simp at hx; subst hx; rw [World.cell?_alloc_new]; rfl
    | 1, hx => simp at hx; subst hx; rw [World.cell?_alloc_new]; rfl
    | i + 2, hx => simp at hx⟩⟩
set_option maxHeartbeats 4000000 in
set_option maxRecDepth 100000 in
theorem awake9_any (w : World) (hT : TZ w) (hP : PW w) : Calls Tryd.prog 25 #[] w fun r w' => r = .returned (.bool true) ∧ Below w.heap.size w w' := by
  have C1 := Lib.hid (new_any false [] none 0 w (ks_nil w) fault_nil hT)
  have H := Lib.hid (And.intro hT hP)
  clear hT hP
  go_enter Tryd.func25, Tryd.ntmps25
  go_wp2_with fail
  refine C1.out.mono ?_
  rintro r w1 ⟨q1, n1, rfl, _, hn1, hb1⟩
  have t1 := H.out.1.below hb1 H.out.1.lt
  have C2 := Lib.hid (new_any true [] none 0 w1 (ks_nil w1) fault_nil t1)
  have H1 := Lib.hid (And.intro hn1 (And.intro hb1 t1))
  clear hn1 hb1 t1
  go_wp2_with fail
  refine C2.out.mono ?_
  rintro r w2 ⟨q2, n2, rfl, _, hn2, hb2⟩
  have bw2 := H1.out.2.1.trans (hb2.mono H1.out.2.1.size)
  have C3 := Lib.hid (newD_any (H1.out.1.below hb2) (H1.out.2.2.below hb2 H1.out.2.2.lt) (H.out.2.below bw2 H.out.2.lt))
  have H2 := Lib.hid (And.intro hn2 bw2)
  clear hn2 hb2 bw2
  go_wp2_with fail
  refine C3.out.mono ?_
  rintro r w3 ⟨R1, T1, v1, e1, rfl, hv1, hb3, hc1⟩
  rw [mk_nil] at hc1
  rcases hc1 with ⟨_, _, _, S, hs, h1000⟩ | ⟨rfl, S1, hB1, hl1, hs1⟩
  · have := sv_false hs; omega
  obtain ⟨x1, x2, x3⟩ := ex_false hB1 hl1 hs1
  obtain ⟨A1, c1, A2, c2, rfl, hR1, hT1⟩ := hv1
  have l2 : T1.length = 2 := by rw [hB1.tl, x1]
  rw [x1, l2]
  have hv1 : TbV w3 R1 T1 (.agg #[.slice A1 2 c1, .slice A2 2 c2]) := ⟨A1, c1, A2, c2, by rw [x1, l2], hR1, hT1⟩
  have H3 := Lib.hid (And.intro hv1 (And.intro hb3 (And.intro x2 x3)))
  clear hv1 hb3 hB1 hl1 hs1 x1 x2 x3 hR1 hT1 l2
  obtain ⟨w4, hw4⟩ : ∃ W, w3.alloc (.cells #[.slice A1 2 c1, .slice A2 2 c2] 54) = W := ⟨_, rfl⟩
  have b4 : Below w3.heap.size w3 w4 := by rw [← hw4]; exact below_new _ _
  have y4 : Cells w4 w3.heap.size 54 #[.slice A1 2 c1, .slice A2 2 c2] := by rw [← hw4]; exact cells_new _ _ _
  have bw4 := H2.out.2.trans ((H3.out.2.1.trans (b4.mono H3.out.2.1.size)).mono H2.out.2.size)
  have HW4 := Lib.hid hw4
  have C5 := Lib.hid (newD_any (H2.out.1.below (H3.out.2.1.trans (b4.mono H3.out.2.1.size))) (H.out.1.below bw4 H.out.1.lt) (H.out.2.below bw4 H.out.2.lt))
  have H4 := Lib.hid (And.intro (H3.out.1.on b4) (And.intro y4 bw4))
  clear hw4 b4 y4 bw4
  go_wp2_with fail
  rw [HW4.out]
  refine C5.out.mono ?_
  rintro r w5 ⟨R2, T2, v2, e2, rfl, hv2, hb5, hc2⟩
  rw [mk_nil] at hc2
  rcases hc2 with ⟨_, _, _, S, hs, h1000⟩ | ⟨rfl, S2, hB2, hl2, hs2⟩
  · have := sv_true hs; omega
  have x1 := ex_true hB2 hl2
  obtain ⟨A3, c3, A4, c4, rfl, hR2, hT2⟩ := hv2
  have l1 : T2.length = 1 := by rw [hB2.tl, x1]
  rw [x1, l1]
  clear hB2 hl2 hs2 x1 hR2 hT2 l1
  have y5 : Cells w5 w3.heap.size 54 #[.slice A1 2 c1, .slice A2 2 c2] := (hb5.block _ H4.out.2.1.lt).trans H4.out.2.1
  have e0 := y5.cell 0
  have e1 := y5.cell 1
  simp at e0 e1
  have hv5 := H4.out.1.on hb5
  have bw5 := H4.out.2.2.trans (hb5.mono H4.out.2.2.size)
  obtain ⟨w6, hw6⟩ : ∃ W, w5.alloc (.cells #[.slice A3 1 c3, .slice A4 1 c4] 54) = W := ⟨_, rfl⟩
  have b6 : Below w5.heap.size w5 w6 := by rw [← hw6]; exact below_new _ _
  obtain ⟨w7, hw7⟩ : ∃ W, w6.alloc (.cells #[.int .i64 36, .int .i64 5] 3) = W := ⟨_, rfl⟩
  have b7 : Below w6.heap.size w6 w7 := by rw [← hw7]; exact below_new _ _
  have i7 := is_ex w6
  rw [hw7] at i7
  have C6 := run_right ((hv5.on b6).on b7) 0 (by unfold i64; omega) [36, 5] _ 2 i7 H3.out.2.2.1 (by
    have := (right_parts H3.out.2.2.1).1
    unfold okIx
    simp only [Bool.and_eq_true, decide_eq_true_eq]; omega)
  rw [H3.out.2.2.2] at C6
  have C6 : Calls Tryd.prog 29 #[.agg #[.slice A1 2 c1, .slice A2 2 c2], .int .i64 0, .slice (some ⟨w6.heap.size, 0, none⟩) 2 2] w7 fun r w' => r = .returned (.int .i64 1) ∧ Below w7.heap.size w7 w' := C6
  have z6 : w6.heap.size = w5.heap.size + 1 := by rw [← hw6]; simp
  rw [z6] at C6
  have HC6 := Lib.hid C6
  clear z6
  have HW := Lib.hid (And.intro hw6 hw7)
  have H5 := Lib.hid ((bw5.trans (b6.mono bw5.size)).trans (b7.mono (bw5.trans (b6.mono bw5.size)).size))
  have z5 : w3.heap.size < w5.heap.size := y5.lt
  clear C6 hw6 hw7 b6 b7 i7 hv5 bw5 y5 hb5
  go_wp2_with fail
  rw [HW.out.1, HW.out.2]
  refine HC6.out.mono ?_
  rintro r w8 ⟨rfl, hb8⟩
  have H8 := Lib.hid (H5.out.trans (hb8.mono H5.out.size))
  clear hb8
  go_wp2_with fail
  go_ret
  exact ⟨rfl, H8.out⟩
end Go.Proofs.YteamonmneoakpaaDoor

namespace Go.Proofs.YteamonmneoakpaaDoor
open Go.RowKit Go.Shelf Go.Lib Go.Great Go.Maps

theorem take_eq_snoc {xs ys : List Int} {k : Nat} {x y : Int} (h : xs.take k = ys.take k) (hx : xs[k]? = some x) (hy : ys[k]? = some y) (he : x = y) : xs.take (k + 1) = ys.take (k + 1) := by
  rw [List.take_add_one, List.take_add_one, h, hx, hy, he]
set_option maxHeartbeats 4000000 in
set_option maxRecDepth 100000 in
theorem is_any (xs ys : List Int) (A A' : Option Addr) (cap cap' : Nat) (w : World) (hx : IS w w.heap.size xs A cap) (hy : IS w w.heap.size ys A' cap') :
    Calls Tryd.prog 18 #[.slice A xs.length cap, .slice A' ys.length cap'] w fun r w' => r = .returned (.bool (decide (xs = ys))) ∧ Below w.heap.size w w' := by
  have hl1 : xs.length ≤ 9223372036854775807 := by have := hx.l; have := hx.m; unfold maxLen at this; omega
  obtain ⟨R, hR⟩ : ∃ R, decide (xs = ys) = R := ⟨_, rfl⟩
  obtain ⟨N, hN⟩ : ∃ N, xs.length = N := ⟨_, rfl⟩
  obtain ⟨M, hM⟩ : ∃ M, ys.length = M := ⟨_, rfl⟩
  rw [hN] at hl1
  rw [hR, hN, hM]
  have HH := Lib.hid (And.intro hx (And.intro hy (And.intro hR (And.intro hN hM))))
  clear hx hy hR hN hM
  by_cases hlen : N = M
  · subst hlen
    go_enter Tryd.func18, Tryd.ntmps18
    go_wp2_with fail
    go_loopw [5] (fun i wr => ∃ k : Nat, i = .int .i64 (k : Int) ∧ k ≤ N ∧ xs.take k = ys.take k ∧ Below w.heap.size w wr) (fun i _ => N - (RowKit.intOf i).toNat)
    case atStart => exact ⟨0, rfl, by omega, by simp, Below.refl _ _⟩
    case round =>
      obtain ⟨k, rfl, hk, htk, hb⟩ := hrel
      by_cases hlt : k < N
      · have i1 : (k : Int) < (N : Int) := by omega
        obtain ⟨x, hx⟩ : ∃ x, xs[k]? = some x := ⟨xs[k]'(by rw [HH.out.2.2.2.1]; exact hlt), List.getElem?_eq_getElem _⟩
        obtain ⟨y, hy⟩ : ∃ y, ys[k]? = some y := ⟨ys[k]'(by rw [HH.out.2.2.2.2]; exact hlt), List.getElem?_eq_getElem _⟩
        obtain ⟨b, o, rfl, hbl, hc⟩ := HH.out.1.r (by rintro rfl; simp at hx)
        obtain ⟨b', o', rfl, hbl', hc'⟩ := HH.out.2.1.r (by rintro rfl; simp at hy)
        have d0 : wr.cell? ⟨b, o + k, none⟩ = some (.int .i64 x) := (hb.cell (p := ⟨b, o + k, none⟩) hbl).trans (hc k x hx)
        have d1 : wr.cell? ⟨b', o' + k, none⟩ = some (.int .i64 y) := (hb.cell (p := ⟨b', o' + k, none⟩) hbl').trans (hc' k y hy)
        have HK := Lib.hid (And.intro htk (And.intro hb (And.intro hx hy)))
        clear htk hb hc hc' hx hy
        by_cases he : x = y
        · have hq : (x == y) = true := by simpa using he
          have HE := Lib.hid he
          clear he
          go_wp2_with fail
          go_region
          go_wp2_with fail
          go_roundw
          case rel => exact ⟨k + 1, by go_num, by omega, take_eq_snoc HK.out.1 HK.out.2.2.1 HK.out.2.2.2 HE.out, HK.out.2.1.drew⟩
          case measure => simp [RowKit.intOf]; omega
        · have hq : (x == y) = false := by simpa using he
          have : R = false := by
            rw [← HH.out.2.2.1]
            simp only [decide_eq_false_iff_not]
            intro e
            have h1 := HK.out.2.2.1
            rw [e, HK.out.2.2.2] at h1
            injection h1 with h1
            exact he h1.symm
          subst this
          clear he
          go_wp2_with fail
          go_region
          go_wp2_with fail
          go_ret
          exact ⟨rfl, HK.out.2.1.drew⟩
      · obtain rfl : k = N := by omega
        have i1 : ¬ (k : Int) < (k : Int) := by omega
        have : R = true := by
          rw [← HH.out.2.2.1]
          have e1 : xs.take k = xs := by rw [← HH.out.2.2.2.1, List.take_length]
          have e2 : ys.take k = ys := by rw [← HH.out.2.2.2.2, List.take_length]
          rw [e1, e2] at htk
          simp [htk]
        subst this
        have HB := Lib.hid hb
        clear hb htk
        go_wp2_with fail
        go_ret
        exact ⟨rfl, HB.out⟩
  · have hq : ((N : Int) == (M : Int)) = false := by simp; omega
    have : R = false := by
      rw [← HH.out.2.2.1]
      simp only [decide_eq_false_iff_not]
      intro e
      have := HH.out.2.2.2
      rw [e] at this
      omega
    subst this
    go_enter Tryd.func18, Tryd.ntmps18
    go_wp2_with fail
    go_ret
    exact ⟨rfl, Below.refl _ _⟩
end Go.Proofs.YteamonmneoakpaaDoor

namespace Go.Proofs.YteamonmneoakpaaDoor
open Go.RowKit Go.Shelf Go.Lib Go.Great Go.Maps

theorem take_eq_snocN {xs ys : List Nat} {k : Nat} {x y : Nat} (h : xs.take k = ys.take k) (hx : xs[k]? = some x) (hy : ys[k]? = some y) (he : x = y) : xs.take (k + 1) = ys.take (k + 1) := by
  rw [List.take_add_one, List.take_add_one, h, hx, hy, he]
set_option maxHeartbeats 4000000 in
set_option maxRecDepth 100000 in
theorem same55_any (xs ys : List Int) (A A' : Option Addr) (cap cap' : Nat) (w : World) (hx : IS w w.heap.size xs A cap) (hy : IS w w.heap.size ys A' cap') :
    Calls Tryd.prog 55 #[.slice A xs.length cap, .slice A' ys.length cap'] w fun r w' => r = .returned (.bool (decide (xs = ys))) ∧ Below w.heap.size w w' := by
  have hl1 : xs.length ≤ 9223372036854775807 := by have := hx.l; have := hx.m; unfold maxLen at this; omega
  obtain ⟨R, hR⟩ : ∃ R, decide (xs = ys) = R := ⟨_, rfl⟩
  obtain ⟨N, hN⟩ : ∃ N, xs.length = N := ⟨_, rfl⟩
  obtain ⟨M, hM⟩ : ∃ M, ys.length = M := ⟨_, rfl⟩
  rw [hN] at hl1
  rw [hR, hN, hM]
  have HH := Lib.hid (And.intro hx (And.intro hy (And.intro hR (And.intro hN hM))))
  clear hx hy hR hN hM
  by_cases hlen : N = M
  · subst hlen
    go_enter Tryd.func55, Tryd.ntmps55
    go_wp2_with fail
    go_loopw [5] (fun i wr => ∃ k : Nat, i = .int .i64 (k : Int) ∧ k ≤ N ∧ xs.take k = ys.take k ∧ Below w.heap.size w wr) (fun i _ => N - (RowKit.intOf i).toNat)
    case atStart => exact ⟨0, rfl, by omega, by simp, Below.refl _ _⟩
    case round =>
      obtain ⟨k, rfl, hk, htk, hb⟩ := hrel
      by_cases hlt : k < N
      · have i1 : (k : Int) < (N : Int) := by omega
        obtain ⟨x, hx⟩ : ∃ x, xs[k]? = some x := ⟨xs[k]'(by rw [HH.out.2.2.2.1]; exact hlt), List.getElem?_eq_getElem _⟩
        obtain ⟨y, hy⟩ : ∃ y, ys[k]? = some y := ⟨ys[k]'(by rw [HH.out.2.2.2.2]; exact hlt), List.getElem?_eq_getElem _⟩
        obtain ⟨b, o, rfl, hbl, hc⟩ := HH.out.1.r (by rintro rfl; simp at hx)
        obtain ⟨b', o', rfl, hbl', hc'⟩ := HH.out.2.1.r (by rintro rfl; simp at hy)
        have d0 : wr.cell? ⟨b, o + k, none⟩ = some (.int .i64 x) := (hb.cell (p := ⟨b, o + k, none⟩) hbl).trans (hc k x hx)
        have d1 : wr.cell? ⟨b', o' + k, none⟩ = some (.int .i64 y) := (hb.cell (p := ⟨b', o' + k, none⟩) hbl').trans (hc' k y hy)
        have HK := Lib.hid (And.intro htk (And.intro hb (And.intro hx hy)))
        clear htk hb hc hc' hx hy
        by_cases he : x = y
        · have hq : (x == y) = true := by simpa using he
          have HE := Lib.hid he
          clear he
          go_wp2_with fail
          go_region
          go_wp2_with fail
          go_roundw
          case rel => exact ⟨k + 1, by go_num, by omega, take_eq_snoc HK.out.1 HK.out.2.2.1 HK.out.2.2.2 HE.out, HK.out.2.1.drew⟩
          case measure => simp [RowKit.intOf]; omega
        · have hq : (x == y) = false := by simpa using he
          have : R = false := by
            rw [← HH.out.2.2.1]
            simp only [decide_eq_false_iff_not]
            intro e
            have h1 := HK.out.2.2.1
            rw [e, HK.out.2.2.2] at h1
            injection h1 with h1
            exact he h1.symm
          subst this
          clear he
          go_wp2_with fail
          go_region
          go_wp2_with fail
          go_ret
          exact ⟨rfl, HK.out.2.1.drew⟩
      · obtain rfl : k = N := by omega
        have i1 : ¬ (k : Int) < (k : Int) := by omega
        have : R = true := by
          rw [← HH.out.2.2.1]
          have e1 : xs.take k = xs := by rw [← HH.out.2.2.2.1, List.take_length]
          have e2 : ys.take k = ys := by rw [← HH.out.2.2.2.2, List.take_length]
          rw [e1, e2] at htk
          simp [htk]
        subst this
        have HB := Lib.hid hb
        clear hb htk
        go_wp2_with fail
        go_ret
        exact ⟨rfl, HB.out⟩
  · have hq : ((N : Int) == (M : Int)) = false := by simp; omega
    have : R = false := by
      rw [← HH.out.2.2.1]
      simp only [decide_eq_false_iff_not]
      intro e
      have := HH.out.2.2.2
      rw [e] at this
      omega
    subst this
    go_enter Tryd.func55, Tryd.ntmps55
    go_wp2_with fail
    go_ret
    exact ⟨rfl, Below.refl _ _⟩
set_option maxHeartbeats 4000000 in
set_option maxRecDepth 100000 in
theorem eq61_any (xs ys : List Int) (A A' : Option Addr) (cap cap' : Nat) (w : World) (hx : IS w w.heap.size xs A cap) (hy : IS w w.heap.size ys A' cap') :
    Calls Tryd.prog 61 #[.slice A xs.length cap, .slice A' ys.length cap'] w fun r w' => r = .returned (.bool (decide (xs = ys))) ∧ Below w.heap.size w w' := by
  have hl1 : xs.length ≤ 9223372036854775807 := by have := hx.l; have := hx.m; unfold maxLen at this; omega
  obtain ⟨R, hR⟩ : ∃ R, decide (xs = ys) = R := ⟨_, rfl⟩
  obtain ⟨N, hN⟩ : ∃ N, xs.length = N := ⟨_, rfl⟩
  obtain ⟨M, hM⟩ : ∃ M, ys.length = M := ⟨_, rfl⟩
  rw [hN] at hl1
  rw [hR, hN, hM]
  have HH := Lib.hid (And.intro hx (And.intro hy (And.intro hR (And.intro hN hM))))
  clear hx hy hR hN hM
  by_cases hlen : N = M
  · subst hlen
    go_enter Tryd.func61, Tryd.ntmps61
    go_wp2_with fail
    go_loopw [13] (fun i wr => ∃ k : Nat, i = .int .i64 (k : Int) ∧ k ≤ N ∧ xs.take k = ys.take k ∧ Below w.heap.size w wr) (fun i _ => N - (RowKit.intOf i).toNat)
    case atStart => exact ⟨0, rfl, by omega, by simp, Below.refl _ _⟩
    case round =>
      obtain ⟨k, rfl, hk, htk, hb⟩ := hrel
      by_cases hlt : k < N
      · have i1 : (k : Int) < (N : Int) := by omega
        obtain ⟨x, hx⟩ : ∃ x, xs[k]? = some x := ⟨xs[k]'(by rw [HH.out.2.2.2.1]; exact hlt), List.getElem?_eq_getElem _⟩
        obtain ⟨y, hy⟩ : ∃ y, ys[k]? = some y := ⟨ys[k]'(by rw [HH.out.2.2.2.2]; exact hlt), List.getElem?_eq_getElem _⟩
        obtain ⟨b, o, rfl, hbl, hc⟩ := HH.out.1.r (by rintro rfl; simp at hx)
        obtain ⟨b', o', rfl, hbl', hc'⟩ := HH.out.2.1.r (by rintro rfl; simp at hy)
        have d0 : wr.cell? ⟨b, o + k, none⟩ = some (.int .i64 x) := (hb.cell (p := ⟨b, o + k, none⟩) hbl).trans (hc k x hx)
        have d1 : wr.cell? ⟨b', o' + k, none⟩ = some (.int .i64 y) := (hb.cell (p := ⟨b', o' + k, none⟩) hbl').trans (hc' k y hy)
        have HK := Lib.hid (And.intro htk (And.intro hb (And.intro hx hy)))
        clear htk hb hc hc' hx hy
        by_cases he : x = y
        · have hq : (x == y) = true := by simpa using he
          have HE := Lib.hid he
          clear he
          go_wp2_with fail
          go_region
          go_wp2_with fail
          go_roundw
          case rel => exact ⟨k + 1, by go_num, by omega, take_eq_snoc HK.out.1 HK.out.2.2.1 HK.out.2.2.2 HE.out, HK.out.2.1.drew⟩
          case measure => simp [RowKit.intOf]; omega
        · have hq : (x == y) = false := by simpa using he
          have : R = false := by
            rw [← HH.out.2.2.1]
            simp only [decide_eq_false_iff_not]
            intro e
            have h1 := HK.out.2.2.1
            rw [e, HK.out.2.2.2] at h1
            injection h1 with h1
            exact he h1.symm
          subst this
          clear he
          go_wp2_with fail
          go_region
          go_wp2_with fail
          go_ret
          exact ⟨rfl, HK.out.2.1.drew⟩
      · obtain rfl : k = N := by omega
        have i1 : ¬ (k : Int) < (k : Int) := by omega
        have : R = true := by
          rw [← HH.out.2.2.1]
          have e1 : xs.take k = xs := by rw [← HH.out.2.2.2.1, List.take_length]
          have e2 : ys.take k = ys := by rw [← HH.out.2.2.2.2, List.take_length]
          rw [e1, e2] at htk
          simp [htk]
        subst this
        have HB := Lib.hid hb
        clear hb htk
        go_wp2_with fail
        go_ret
        exact ⟨rfl, HB.out⟩
  · have hq : ((N : Int) == (M : Int)) = false := by simp; omega
    have : R = false := by
      rw [← HH.out.2.2.1]
      simp only [decide_eq_false_iff_not]
      intro e
      have := HH.out.2.2.2
      rw [e] at this
      omega
    subst this
    go_enter Tryd.func61, Tryd.ntmps61
    go_wp2_with fail
    go_ret
    exact ⟨rfl, Below.refl _ _⟩
set_option maxHeartbeats 4000000 in
set_option maxRecDepth 100000 in
theorem eq62_any (xs ys : List Nat) (A A' : Option Addr) (cap cap' : Nat) (w : World) (hx : UsAt w w.heap.size xs A cap) (hy : UsAt w w.heap.size ys A' cap') :
    Calls Tryd.prog 62 #[.slice A xs.length cap, .slice A' ys.length cap'] w fun r w' => r = .returned (.bool (decide (xs = ys))) ∧ Below w.heap.size w w' := by
  have hl1 : xs.length ≤ 9223372036854775807 := by have := hx.l; have := hx.m; unfold maxLen at this; omega
  obtain ⟨R, hR⟩ : ∃ R, decide (xs = ys) = R := ⟨_, rfl⟩
  obtain ⟨N, hN⟩ : ∃ N, xs.length = N := ⟨_, rfl⟩
  obtain ⟨M, hM⟩ : ∃ M, ys.length = M := ⟨_, rfl⟩
  rw [hN] at hl1
  rw [hR, hN, hM]
  have HH := Lib.hid (And.intro hx (And.intro hy (And.intro hR (And.intro hN hM))))
  clear hx hy hR hN hM
  by_cases hlen : N = M
  · subst hlen
    go_enter Tryd.func62, Tryd.ntmps62
    go_wp2_with fail
    go_loopw [13] (fun i wr => ∃ k : Nat, i = .int .i64 (k : Int) ∧ k ≤ N ∧ xs.take k = ys.take k ∧ Below w.heap.size w wr) (fun i _ => N - (RowKit.intOf i).toNat)
    case atStart => exact ⟨0, rfl, by omega, by simp, Below.refl _ _⟩
    case round =>
      obtain ⟨k, rfl, hk, htk, hb⟩ := hrel
      by_cases hlt : k < N
      · have i1 : (k : Int) < (N : Int) := by omega
        obtain ⟨x, hx⟩ : ∃ x, xs[k]? = some x := ⟨xs[k]'(by rw [HH.out.2.2.2.1]; exact hlt), List.getElem?_eq_getElem _⟩
        obtain ⟨y, hy⟩ : ∃ y, ys[k]? = some y := ⟨ys[k]'(by rw [HH.out.2.2.2.2]; exact hlt), List.getElem?_eq_getElem _⟩
        obtain ⟨b, o, rfl, hbl, hc⟩ := HH.out.1.r (by rintro rfl; simp at hx)
        obtain ⟨b', o', rfl, hbl', hc'⟩ := HH.out.2.1.r (by rintro rfl; simp at hy)
        have d0 : wr.cell? ⟨b, o + k, none⟩ = some (.int .u64 (x : Int)) := (hb.cell (p := ⟨b, o + k, none⟩) hbl).trans (hc k x hx)
        have d1 : wr.cell? ⟨b', o' + k, none⟩ = some (.int .u64 (y : Int)) := (hb.cell (p := ⟨b', o' + k, none⟩) hbl').trans (hc' k y hy)
        have HK := Lib.hid (And.intro htk (And.intro hb (And.intro hx hy)))
        clear htk hb hc hc' hx hy
        by_cases he : x = y
        · have hq : ((x : Int) == (y : Int)) = true := by simp; omega
          have HE := Lib.hid he
          clear he
          go_wp2_with fail
          go_region
          go_wp2_with fail
          go_roundw
          case rel => exact ⟨k + 1, by go_num, by omega, take_eq_snocN HK.out.1 HK.out.2.2.1 HK.out.2.2.2 HE.out, HK.out.2.1.drew⟩
          case measure => simp [RowKit.intOf]; omega
        · have hq : ((x : Int) == (y : Int)) = false := by simp; omega
          have : R = false := by
            rw [← HH.out.2.2.1]
            simp only [decide_eq_false_iff_not]
            intro e
            have h1 := HK.out.2.2.1
            rw [e, HK.out.2.2.2] at h1
            injection h1 with h1
            exact he h1.symm
          subst this
          clear he
          go_wp2_with fail
          go_region
          go_wp2_with fail
          go_ret
          exact ⟨rfl, HK.out.2.1.drew⟩
      · obtain rfl : k = N := by omega
        have i1 : ¬ (k : Int) < (k : Int) := by omega
        have : R = true := by
          rw [← HH.out.2.2.1]
          have e1 : xs.take k = xs := by rw [← HH.out.2.2.2.1, List.take_length]
          have e2 : ys.take k = ys := by rw [← HH.out.2.2.2.2, List.take_length]
          rw [e1, e2] at htk
          simp [htk]
        subst this
        have HB := Lib.hid hb
        clear hb htk
        go_wp2_with fail
        go_ret
        exact ⟨rfl, HB.out⟩
  · have hq : ((N : Int) == (M : Int)) = false := by simp; omega
    have : R = false := by
      rw [← HH.out.2.2.1]
      simp only [decide_eq_false_iff_not]
      intro e
      have := HH.out.2.2.2
      rw [e] at this
      omega
    subst this
    go_enter Tryd.func62, Tryd.ntmps62
    go_wp2_with fail
    go_ret
    exact ⟨rfl, Below.refl _ _⟩
end Go.Proofs.YteamonmneoakpaaDoor

namespace Go.Proofs.YteamonmneoakpaaDoor
open Go.RowKit Go.Shelf Go.Lib Go.Great Go.Maps

def greatT (R : List (List Int)) (T : List Nat) : Bool := decide (20 < R.length) || decide (20 < T.length) || R.any fun r => decide (60 < r.length)
theorem anyT_take {α : Type} {xs : List α} {k : Nat} {x : α} (p : α → Bool) (h : xs[k]? = some x) : (xs.take (k + 1)).any p = ((xs.take k).any p || p x) := by
  rw [List.take_add_one, h, Option.toList_some, List.any_append]
  simp
set_option maxHeartbeats 4000000 in
set_option maxRecDepth 100000 in
theorem great_tab {R : List (List Int)} {T : List Nat} {v : Value} {w : World} (h : TbV w R T v) : Calls Tryd.prog 33 #[v] w fun r w' => r = .returned (.bool (greatT R T)) ∧ Below w.heap.size w w' := by
  obtain ⟨A, c, A2, c2, rfl, hR, hT⟩ := h
  obtain ⟨W0, hW0⟩ : ∃ W, w.alloc (.cells #[.slice A R.length c, .slice A2 T.length c2] 65) = W := ⟨_, rfl⟩
  have b0 : Below w.heap.size w W0 := by rw [← hW0]; exact below_new _ _
  have z0 : W0.heap.size = w.heap.size + 1 := by rw [← hW0]; simp
  have x0 : Cells W0 w.heap.size 65 #[.slice A R.length c, .slice A2 T.length c2] := by rw [← hW0]; exact cells_new _ _ _
  have n1 : R.length ≤ 9223372036854775807 := by have := hR.l; have := hR.m; unfold maxLen at this; omega
  have n2' : T.length ≤ 9223372036854775807 := by have := hT.l; have := hT.m; unfold maxLen at this; omega
  obtain ⟨X, hX⟩ : ∃ X, greatT R T = X := ⟨_, rfl⟩
  rw [hX]
  have hX1 : 20 < R.length ∨ 20 < T.length → X = true := fun e => by
    rw [← hX]; unfold greatT
    rcases e with e | e <;> simp [e]
  have hX2 : R.length ≤ 20 → T.length ≤ 20 → X = R.any fun r => decide (60 < r.length) := fun e1 e2 => by
    rw [← hX]; unfold greatT
    simp [show ¬ 20 < R.length by omega, show ¬ 20 < T.length by omega]
  obtain ⟨n, hn⟩ : ∃ n, R.length = n := ⟨_, rfl⟩
  obtain ⟨n2, hn2⟩ : ∃ n, T.length = n := ⟨_, rfl⟩
  rw [hn, hn2] at x0 hW0 hX1 hX2 ⊢
  rw [hn] at n1
  rw [hn2] at n2'
  have e0 := x0.cell 0
  have e1 := x0.cell 1
  simp at e0 e1
  have H := Lib.hid (And.intro b0 (And.intro z0 (And.intro x0 (And.intro hR (And.intro hn (And.intro hX1 hX2))))))
  have HW := Lib.hid hW0
  clear b0 z0 x0 hW0 hR hT hn hn2 hX hX1 hX2
  by_cases h1 : 20 < n
  · have i1 : (20 : Int) < n := by omega
    have j1 : decide ((20 : Int) < n) = true := by simpa using i1
    go_enter Tryd.func33, Tryd.ntmps33
    go_wp2_with fail
    rw [HW.out]
    go_ret
    exact ⟨ret_bool (H.out.2.2.2.2.2.1 (.inl h1)).symm, H.out.1⟩
  · have i1 : ¬ (20 : Int) < n := by omega
    have j1 : decide ((20 : Int) < n) = false := by simpa using i1
    by_cases h2 : 20 < n2
    · have i2 : (20 : Int) < n2 := by omega
      have j2 : decide ((20 : Int) < n2) = true := by simpa using i2
      go_enter Tryd.func33, Tryd.ntmps33
      go_wp2_with fail
      rw [HW.out]
      go_ret
      exact ⟨ret_bool (H.out.2.2.2.2.2.1 (.inr h2)).symm, H.out.1⟩
    · have i2 : ¬ (20 : Int) < n2 := by omega
      have j2 : decide ((20 : Int) < n2) = false := by simpa using i2
      have hXX := Lib.hid (H.out.2.2.2.2.2.2 (by omega) (by omega))
      go_enter Tryd.func33, Tryd.ntmps33
      go_wp2_with fail
      rw [HW.out]
      go_loopw [3] (fun i wr => ∃ k : Nat, i = .int .i64 (k : Int) ∧ k ≤ n ∧ ((R.take k).any fun r => decide (60 < r.length)) = false ∧ wr = W0) (fun i _ => n - (RowKit.intOf i).toNat)
      case atStart => exact ⟨0, rfl, by omega, rfl, rfl⟩
      case round =>
        obtain ⟨k, rfl, hk, hno, hw⟩ := hrel
        obtain rfl := hw.symm
        by_cases hlt : k < n
        · have i5 : (k : Int) < (n : Int) := by omega
          obtain ⟨x, hx⟩ : ∃ x, R[k]? = some x := ⟨R[k]'(by rw [H.out.2.2.2.2.1]; exact hlt), List.getElem?_eq_getElem _⟩
          obtain ⟨b, o, rfl, hbl, hc⟩ := H.out.2.2.2.1.r (by rintro rfl; simp at hx)
          obtain ⟨A', c', d0, his, _⟩ := hc k x hx
          have d1 := (H.out.1.cell (p := ⟨b, o + k, none⟩) hbl).trans d0
          have ht := anyT_take (fun r : List Int => decide (60 < r.length)) hx
          have hh : decide (60 < x.length) = true → (R.any fun r => decide (60 < r.length)) = true := fun hp => List.any_eq_true.2 ⟨x, List.mem_of_getElem? hx, hp⟩
          rw [hno] at ht
          have hxl : x.length ≤ 9223372036854775807 := by have := his.l; have := his.m; unfold maxLen at this; omega
          obtain ⟨l, hl⟩ : ∃ l, x.length = l := ⟨_, rfl⟩
          rw [hl] at d1 hxl hh
          have ht : ((R.take (k + 1)).any fun r => decide (60 < r.length)) = (false || decide (60 < l)) := by rw [ht, hl]
          have HK := Lib.hid (And.intro ht hh)
          clear ht hh hno hx hc d0 his hl hw
          by_cases h60 : 60 < l
          · have i6 : (60 : Int) < l := by omega
            go_wp2_with fail
            go_ret
            exact ⟨ret_bool (by rw [hXX.out]; exact (HK.out.2 (by simpa using h60)).symm), H.out.1⟩
          · have i6 : ¬ (60 : Int) < l := by omega
            go_wp2_with fail
            go_roundw
            case rel => exact ⟨k + 1, by go_num, by omega, by rw [HK.out.1]; simpa using h60, trivial⟩
            case measure => simp [RowKit.intOf]; omega
        · obtain rfl : k = n := by omega
          have i5 : ¬ (k : Int) < (k : Int) := by omega
          have e1 : R.take k = R := by rw [← H.out.2.2.2.2.1, List.take_length]
          rw [e1] at hno
          have HB := Lib.hid hno
          clear e1 hno hw
          go_wp2_with fail
          go_ret
          exact ⟨ret_bool (by rw [hXX.out]; exact HB.out.symm), H.out.1⟩
set_option maxHeartbeats 4000000 in
set_option maxRecDepth 100000 in
theorem to_tab (A A2 : Option Addr) (n c n2 c2 : Nat) (w : World) : Calls Tryd.prog 34 #[.agg #[.slice A n c, .slice A2 n2 c2]] w fun r w' => r = .returned (.agg #[.slice A n c, .slice A2 n2 c2]) ∧ Below w.heap.size w w' := by
  go_enter Tryd.func34, Tryd.ntmps34
  go_wp2_with fail
  refine bodyPost_ret (v := .agg #[.slice A n c, .slice A2 n2 c2]) (by simp [results, Tryd.results34, go_sem]) rfl ⟨rfl, ?_⟩
  exact (below_new w _).trans ((below_new _ _).mono (by simp))
end Go.Proofs.YteamonmneoakpaaDoor

namespace Go.Proofs.YteamonmneoakpaaDoor
open Go.RowKit Go.Shelf Go.Lib Go.Great Go.Maps

theorem take_eq_snocR {xs ys : List (List Int)} {k : Nat} {x y : List Int} (h : xs.take k = ys.take k) (hx : xs[k]? = some x) (hy : ys[k]? = some y) (he : x = y) : xs.take (k + 1) = ys.take (k + 1) := by
  rw [List.take_add_one, List.take_add_one, h, hx, hy, he]
set_option maxHeartbeats 4000000 in
set_option maxRecDepth 100000 in
theorem eqf_any (xs ys : List (List Int)) (A A' : Option Addr) (cap cap' : Nat) (w : World) (hx : RsAt w w.heap.size xs A cap) (hy : RsAt w w.heap.size ys A' cap') :
    Calls Tryd.prog 60 #[.slice A xs.length cap, .slice A' ys.length cap', .func (.func 61) #[] #[]] w fun r w' => r = .returned (.bool (decide (xs = ys))) ∧ Below w.heap.size w w' := by
  have hl1 : xs.length ≤ 9223372036854775807 := by have := hx.l; have := hx.m; unfold maxLen at this; omega
  obtain ⟨R, hR⟩ : ∃ R, decide (xs = ys) = R := ⟨_, rfl⟩
  obtain ⟨N, hN⟩ : ∃ N, xs.length = N := ⟨_, rfl⟩
  obtain ⟨M, hM⟩ : ∃ M, ys.length = M := ⟨_, rfl⟩
  rw [hN] at hl1
  rw [hR, hN, hM]
  have HH := Lib.hid (And.intro hx (And.intro hy (And.intro hR (And.intro hN hM))))
  clear hx hy hR hN hM
  by_cases hlen : N = M
  · subst hlen
    have hq0 : ((N : Int) == (N : Int)) = true := by simp
    go_enter Tryd.func60, Tryd.ntmps60
    go_wp2_with fail
    go_loopw [17] (fun i wr => ∃ k : Nat, i = .int .i64 (k : Int) ∧ k ≤ N ∧ xs.take k = ys.take k ∧ Below w.heap.size w wr) (fun i _ => N - (RowKit.intOf i).toNat)
    case atStart => exact ⟨0, rfl, by omega, by simp, Below.refl _ _⟩
    case round =>
      obtain ⟨k, rfl, hk, htk, hb⟩ := hrel
      by_cases hlt : k < N
      · have i1 : (k : Int) < (N : Int) := by omega
        obtain ⟨x, hx⟩ : ∃ x, xs[k]? = some x := ⟨xs[k]'(by rw [HH.out.2.2.2.1]; exact hlt), List.getElem?_eq_getElem _⟩
        obtain ⟨y, hy⟩ : ∃ y, ys[k]? = some y := ⟨ys[k]'(by rw [HH.out.2.2.2.2]; exact hlt), List.getElem?_eq_getElem _⟩
        obtain ⟨b, o, rfl, hbl, hc⟩ := HH.out.1.r (by rintro rfl; simp at hx)
        obtain ⟨b', o', rfl, hbl', hc'⟩ := HH.out.2.1.r (by rintro rfl; simp at hy)
        obtain ⟨A1, c1, x1, x2, _⟩ := hc k x hx
        obtain ⟨A2, c2, y1, y2, _⟩ := hc' k y hy
        have d0 := (hb.cell (p := ⟨b, o + k, none⟩) hbl).trans x1
        have d1 := (hb.cell (p := ⟨b', o' + k, none⟩) hbl').trans y1
        have C := eq61_any x y A1 A2 c1 c2 wr ((x2.below hb).mono hb.size) ((y2.below hb).mono hb.size)
        obtain ⟨lx, hlx⟩ : ∃ n, x.length = n := ⟨_, rfl⟩
        obtain ⟨ly, hly⟩ : ∃ n, y.length = n := ⟨_, rfl⟩
        rw [hlx] at C d0
        rw [hly] at C d1
        have HK := Lib.hid (And.intro htk (And.intro hb (And.intro hx hy)))
        by_cases he : x = y
        · have hq : decide (x = y) = true := by simpa using he
          rw [hq] at C
          have HC := Lib.hid C
          have HE := Lib.hid he
          clear he hq C htk hb hc hc' hx hy x1 x2 y1 y2 hlx hly
          go_wp2_with fail
          refine HC.out.mono ?_
          rintro r w2 ⟨rfl, hb2⟩
          have HB := Lib.hid (HK.out.2.1.trans (hb2.mono HK.out.2.1.size))
          clear hb2
          go_wp2_with fail
          go_roundw
          case rel => exact ⟨k + 1, by go_num, by omega, take_eq_snocR HK.out.1 HK.out.2.2.1 HK.out.2.2.2 HE.out, HB.out⟩
          case measure => simp [RowKit.intOf]; omega
        · have hq : decide (x = y) = false := by simpa using he
          rw [hq] at C
          have HC := Lib.hid C
          have : R = false := by
            rw [← HH.out.2.2.1]
            simp only [decide_eq_false_iff_not]
            intro e
            have h1 := HK.out.2.2.1
            rw [e, HK.out.2.2.2] at h1
            injection h1 with h1
            exact he h1.symm
          subst this
          clear he hq C htk hb hc hc' hx hy x1 x2 y1 y2 hlx hly
          go_wp2_with fail
          refine HC.out.mono ?_
          rintro r w2 ⟨rfl, hb2⟩
          have HB := Lib.hid (HK.out.2.1.trans (hb2.mono HK.out.2.1.size))
          clear hb2
          go_wp2_with fail
          go_ret
          exact ⟨rfl, HB.out⟩
      · obtain rfl : k = N := by omega
        have i1 : ¬ (k : Int) < (k : Int) := by omega
        have : R = true := by
          rw [← HH.out.2.2.1]
          have e1 : xs.take k = xs := by rw [← HH.out.2.2.2.1, List.take_length]
          have e2 : ys.take k = ys := by rw [← HH.out.2.2.2.2, List.take_length]
          rw [e1, e2] at htk
          simp [htk]
        subst this
        have HB := Lib.hid hb
        clear hb htk
        go_wp2_with fail
        go_ret
        exact ⟨rfl, HB.out⟩
  · have hq : ((N : Int) == (M : Int)) = false := by simp; omega
    have : R = false := by
      rw [← HH.out.2.2.1]
      simp only [decide_eq_false_iff_not]
      intro e
      have := HH.out.2.2.2
      rw [e] at this
      omega
    subst this
    go_enter Tryd.func60, Tryd.ntmps60
    go_wp2_with fail
    go_ret
    exact ⟨rfl, Below.refl _ _⟩
set_option maxHeartbeats 4000000 in
set_option maxRecDepth 100000 in
theorem sameD_any {R R' : List (List Int)} {T T' : List Nat} {v v' : Value} {w : World} (h : TbV w R T v) (h' : TbV w R' T' v') :
    Calls Tryd.prog 37 #[v, v'] w fun r w' => r = .returned (.bool (decide (R = R') && decide (T = T'))) ∧ Below w.heap.size w w' := by
  obtain ⟨A, c, A2, c2, rfl, hR, hT⟩ := h
  obtain ⟨A', c', A2', c2', rfl, hR', hT'⟩ := h'
  obtain ⟨W0, hW0⟩ : ∃ W, (w.alloc (.cells #[.slice A R.length c, .slice A2 T.length c2] 54)).alloc (.cells #[.slice A' R'.length c', .slice A2' T'.length c2'] 54) = W := ⟨_, rfl⟩
  have b0 : Below w.heap.size w W0 := by rw [← hW0]; exact (below_new w _).trans ((below_new _ _).mono (by simp))
  have z0 : W0.heap.size = w.heap.size + 1 + 1 := by rw [← hW0]; simp
  have x0 : Cells W0 w.heap.size 54 #[.slice A R.length c, .slice A2 T.length c2] := by rw [← hW0]; exact ((below_new _ _).block _ (by simp)).trans (cells_new _ _ _)
  have x1 : Cells W0 (w.heap.size + 1) 54 #[.slice A' R'.length c', .slice A2' T'.length c2'] := by
    rw [← hW0]
    have := cells_new (w.alloc (.cells #[.slice A R.length c, .slice A2 T.length c2] 54)) #[.slice A' R'.length c', .slice A2' T'.length c2'] 54
    simpa using this
  have C1 := eqf_any R R' A A' c c' W0 (hR.on b0) (hR'.on b0)
  have C2 := fun w' (hb : Below W0.heap.size W0 w') => eq62_any T T' A2 A2' c2 c2' w' ((hT.on b0).on hb) ((hT'.on b0).on hb)
  have e0 := x0.cell 0
  have e1 := x0.cell 1
  have e2 := x1.cell 0
  have e3 := x1.cell 1
  simp at e0 e1 e2 e3
  obtain ⟨n1, hn1⟩ : ∃ n, R.length = n := ⟨_, rfl⟩
  obtain ⟨n2, hn2⟩ : ∃ n, T.length = n := ⟨_, rfl⟩
  obtain ⟨n3, hn3⟩ : ∃ n, R'.length = n := ⟨_, rfl⟩
  obtain ⟨n4, hn4⟩ : ∃ n, T'.length = n := ⟨_, rfl⟩
  rw [hn1, hn2] at hW0 x0
  rw [hn1] at C1 e0
  rw [hn2] at C2 e1
  rw [hn3] at C1 e2
  rw [hn3, hn4] at hW0 x1
  rw [hn4] at C2 e3
  rw [hn1, hn2, hn3, hn4]
  generalize decide (R = R') = p at *
  generalize decide (T = T') = q at *
  have H := Lib.hid (And.intro b0 (And.intro z0 (And.intro x0 x1)))
  have HW := Lib.hid hW0
  have HC1 := Lib.hid C1
  have HC2 := Lib.hid C2
  clear b0 z0 x0 x1 hW0 C1 C2 hR hT hR' hT' hn1 hn2 hn3 hn4
  cases p
  · go_enter Tryd.func37, Tryd.ntmps37
    go_wp2_with fail
    rw [HW.out]
    refine HC1.out.mono ?_
    rintro r w2 ⟨rfl, hb⟩
    have HB := Lib.hid (H.out.1.trans (hb.mono H.out.1.size))
    clear hb
    go_wp2_with fail
    go_ret
    exact ⟨rfl, HB.out⟩
  · go_enter Tryd.func37, Tryd.ntmps37
    go_wp2_with fail
    rw [HW.out]
    refine HC1.out.mono ?_
    rintro r w2 ⟨rfl, hb⟩
    have y0 : Cells w2 w.heap.size 54 #[.slice A n1 c, .slice A2 n2 c2] := (hb.block _ H.out.2.2.1.lt).trans H.out.2.2.1
    have y1 : Cells w2 (w.heap.size + 1) 54 #[.slice A' n3 c', .slice A2' n4 c2'] := (hb.block _ H.out.2.2.2.lt).trans H.out.2.2.2
    have g0 := y0.cell 0
    have g1 := y0.cell 1
    have g2 := y1.cell 0
    have g3 := y1.cell 1
    simp at g0 g1 g2 g3
    have HB := Lib.hid hb
    clear hb y0 y1
    go_wp2_with fail
    refine (HC2.out w2 HB.out).mono ?_
    rintro r w3 ⟨rfl, hb3⟩
    have HB3 := Lib.hid (H.out.1.trans ((HB.out.trans (hb3.mono HB.out.size)).mono H.out.1.size))
    clear hb3
    go_wp2_with fail
    go_ret
    exact ⟨rfl, HB3.out⟩
end Go.Proofs.YteamonmneoakpaaDoor

namespace Go.Proofs.YteamonmneoakpaaDoor
open Go.RowKit Go.Shelf Go.Lib Go.Great Go.Maps Go.Sort

set_option maxHeartbeats 8000000 in
set_option maxRecDepth 100000 in
theorem refSame_any {R R' : List (List Int)} {T T' : List Nat} {v v' : Value} {w : World} (h : TbV w R T v) (h' : TbV w R' T' v') :
    Calls Tryd.prog 28 #[v, v'] w fun r w' => r = .returned (.bool (decide (R = R') && decide (T = T'))) ∧ Below w.heap.size w w' := by
  obtain ⟨A, c, A2, c2, rfl, hR, hT⟩ := h
  obtain ⟨A', c', A2', c2', rfl, hR', hT'⟩ := h'
  obtain ⟨W0, hW0⟩ : ∃ W, (w.alloc (.cells #[.slice A R.length c, .slice A2 T.length c2] 57)).alloc (.cells #[.slice A' R'.length c', .slice A2' T'.length c2'] 57) = W := ⟨_, rfl⟩
  have b0 : Below w.heap.size w W0 := by rw [← hW0]; exact (below_new w _).trans ((below_new _ _).mono (by simp))
  have z0 : W0.heap.size = w.heap.size + 1 + 1 := by rw [← hW0]; simp
  have x0 : Cells W0 w.heap.size 57 #[.slice A R.length c, .slice A2 T.length c2] := by rw [← hW0]; exact ((below_new _ _).block _ (by simp)).trans (cells_new _ _ _)
  have x1 : Cells W0 (w.heap.size + 1) 57 #[.slice A' R'.length c', .slice A2' T'.length c2'] := by
    rw [← hW0]
    have := cells_new (w.alloc (.cells #[.slice A R.length c, .slice A2 T.length c2] 57)) #[.slice A' R'.length c', .slice A2' T'.length c2'] 57
    simpa using this
  have e0 := x0.cell 0
  have e1 := x0.cell 1
  have e2 := x1.cell 0
  have e3 := x1.cell 1
  simp at e0 e1 e2 e3
  have l1 : R.length ≤ 9223372036854775807 := by have := hR.l; have := hR.m; unfold maxLen at this; omega
  have l2 : T.length ≤ 9223372036854775807 := by have := hT.l; have := hT.m; unfold maxLen at this; omega
  have l3 : R'.length ≤ 9223372036854775807 := by have := hR'.l; have := hR'.m; unfold maxLen at this; omega
  have l4 : T'.length ≤ 9223372036854775807 := by have := hT'.l; have := hT'.m; unfold maxLen at this; omega
  obtain ⟨X, hX⟩ : ∃ X, (decide (R = R') && decide (T = T')) = X := ⟨_, rfl⟩
  rw [hX]
  have hXf : R ≠ R' ∨ T ≠ T' → X = false := fun e => by
    rw [← hX]
    rcases e with e | e <;> simp [e]
  have hXt : R = R' → T = T' → X = true := fun e f => by rw [← hX]; simp [e, f]
  obtain ⟨n1, hn1⟩ : ∃ n, R.length = n := ⟨_, rfl⟩
  obtain ⟨n2, hn2⟩ : ∃ n, T.length = n := ⟨_, rfl⟩
  obtain ⟨n3, hn3⟩ : ∃ n, R'.length = n := ⟨_, rfl⟩
  obtain ⟨n4, hn4⟩ : ∃ n, T'.length = n := ⟨_, rfl⟩
  rw [hn1, hn2] at hW0 x0
  rw [hn1] at e0 l1
  rw [hn2] at e1 l2
  rw [hn3] at e2 l3
  rw [hn3, hn4] at hW0 x1
  rw [hn4] at e3 l4
  rw [hn1, hn2, hn3, hn4]
  have H := Lib.hid (And.intro b0 (And.intro z0 (And.intro x0 x1)))
  have HT := Lib.hid (And.intro hR (And.intro hT (And.intro hR' hT')))
  have HX := Lib.hid (And.intro hXf hXt)
  have HN := Lib.hid (And.intro hn1 (And.intro hn2 (And.intro hn3 hn4)))
  have HW := Lib.hid hW0
  clear b0 z0 x0 x1 hW0 hR hT hR' hT' hX hXf hXt
  by_cases h1 : n1 = n3
  · by_cases h2 : n2 = n4
    · have HNn := Lib.hid (And.intro hn1 (And.intro hn2 (And.intro hn3 hn4)))
      clear hn1 hn2 hn3 hn4
      subst h1 h2
      have i1 : ((n1 : Int) != (n1 : Int)) = false := by simp
      have i2 : ((n2 : Int) != (n2 : Int)) = false := by simp
      have i3 : ((n1 : Int) == (n1 : Int)) = true := by simp
      have i4 : ((n2 : Int) == (n2 : Int)) = true := by simp
      go_enter Tryd.func28, Tryd.ntmps28
      go_wp2_with fail
      rw [HW.out]
      clear e0 e1 e2 e3
      go_loopw [5] (fun i wr => ∃ k : Nat, i = .int .i64 (k : Int) ∧ k ≤ n1 ∧ R.take k = R'.take k ∧ Below W0.heap.size W0 wr) (fun i _ => n1 - (RowKit.intOf i).toNat)
      case atStart => exact ⟨0, rfl, by omega, by simp, Below.refl _ _⟩
      case round =>
        obtain ⟨k, rfl, hk, htk, hb⟩ := hrel
        have y0 : Cells wr w.heap.size 57 #[.slice A n1 c, .slice A2 n2 c2] := (hb.block _ H.out.2.2.1.lt).trans H.out.2.2.1
        have y1 : Cells wr (w.heap.size + 1) 57 #[.slice A' n1 c', .slice A2' n2 c2'] := (hb.block _ H.out.2.2.2.lt).trans H.out.2.2.2
        have g0 := y0.cell 0
        have g1 := y0.cell 1
        have g2 := y1.cell 0
        have g3 := y1.cell 1
        simp at g0 g1 g2 g3
        have bw : Below w.heap.size w wr := H.out.1.trans (hb.mono H.out.1.size)
        by_cases hlt : k < n1
        · have i5 : (k : Int) < (n1 : Int) := by omega
          obtain ⟨x, hx⟩ : ∃ x, R[k]? = some x := ⟨R[k]'(by rw [HN.out.1]; exact hlt), List.getElem?_eq_getElem _⟩
          obtain ⟨y, hy⟩ : ∃ y, R'[k]? = some y := ⟨R'[k]'(by rw [HN.out.2.2.1]; exact hlt), List.getElem?_eq_getElem _⟩
          obtain ⟨b, o, rfl, hbl, hc⟩ := HT.out.1.r (by rintro rfl; simp at hx)
          obtain ⟨b', o', rfl, hbl', hc'⟩ := HT.out.2.2.1.r (by rintro rfl; simp at hy)
          obtain ⟨A1, c1, x1, x2, _⟩ := hc k x hx
          obtain ⟨A3, c3, y1', y2, _⟩ := hc' k y hy
          have d0 := (bw.cell (p := ⟨b, o + k, none⟩) hbl).trans x1
          have d1 := (bw.cell (p := ⟨b', o' + k, none⟩) hbl').trans y1'
          have x2' := (x2.below bw).mono bw.size
          have y2' := (y2.below bw).mono bw.size
          have C : ∀ d os, Calls Tryd.prog 55 #[.slice A1 x.length c1, .slice A3 y.length c3] (grow (redrawn wr d) os) fun e w'' => e = .returned (.bool (decide (x = y))) ∧ ∃ p : Regrown, w'' = grow (redrawn wr p.d) p.os :=
            fun d os => Calls.regrown_of (same55_any x y A1 A3 c1 c3 _ (x2'.on (below_regrown wr d os)) (y2'.on (below_regrown wr d os)))
          obtain ⟨lx, hlx⟩ : ∃ n, x.length = n := ⟨_, rfl⟩
          obtain ⟨ly, hly⟩ : ∃ n, y.length = n := ⟨_, rfl⟩
          rw [hlx] at C d0
          rw [hly] at C d1
          have q0 := cell_regrown g0
          have q2 := cell_regrown g2
          have q4 := cell_regrown d0
          have q5 := cell_regrown d1
          have HK := Lib.hid (And.intro htk (And.intro hb (And.intro hx (And.intro hy bw))))
          by_cases he : x = y
          · have hq : decide (x = y) = true := by simpa using he
            rw [hq] at C
            have HE := Lib.hid he
            clear he hq htk hb hc hc' hx hy x1 x2 y1' y2 hlx hly x2' y2' bw y0 y1 d0 d1
            go_wp2_with fail
            clear g0 g1 g2 g3
            refine wp_region_quiet_below (by kernel_rfl) (by kernel_rfl) ?_
            repeat (go_big_quiet_step (exact C _ _))
            refine wpQuiet_nil ?_
            intro _ hw'
            obtain ⟨⟨dq, osq⟩, hw''⟩ := hw'
            subst hw''
            have HB := Lib.hid (HK.out.2.1.trans ((below_regrown wr dq osq).mono HK.out.2.1.size))
            clear q0 q2 q4 q5 C
            go_wp2_with fail
            go_roundw
            case rel => exact ⟨k + 1, by go_num, by omega, take_eq_snocR HK.out.1 HK.out.2.2.1 HK.out.2.2.2.1 HE.out, HB.out⟩
            case measure => simp [RowKit.intOf]; omega
          · have hq : decide (x = y) = false := by simpa using he
            rw [hq] at C
            have : X = false := HX.out.1 (.inl (fun e => by
              have h1 := HK.out.2.2.1
              rw [e, HK.out.2.2.2.1] at h1
              injection h1 with h1
              exact he h1.symm))
            subst this
            clear he hq htk hb hc hc' hx hy x1 x2 y1' y2 hlx hly x2' y2' bw y0 y1 d0 d1
            go_wp2_with fail
            clear g0 g1 g2 g3
            refine wp_region_quiet_below (by kernel_rfl) (by kernel_rfl) ?_
            repeat (go_big_quiet_step (exact C _ _))
            refine wpQuiet_nil ?_
            intro _ hw'
            obtain ⟨⟨dq, osq⟩, hw''⟩ := hw'
            subst hw''
            have HB := Lib.hid (HK.out.2.2.2.2.trans ((below_regrown wr dq osq).mono HK.out.2.2.2.2.size))
            clear q0 q2 q4 q5 C
            go_wp2_with fail
            go_ret
            exact ⟨rfl, HB.out⟩
        · obtain rfl : k = n1 := by omega
          have i5 : ¬ (k : Int) < (k : Int) := by omega
          have hRR : R = R' := by
            have e1 : R.take k = R := by rw [← HN.out.1, List.take_length]
            have e2 : R'.take k = R' := by rw [← HN.out.2.2.1, List.take_length]
            rw [e1, e2] at htk
            exact htk
          have HRR := Lib.hid hRR
          have HB := Lib.hid hb
          clear htk hRR hb bw y0 y1
          go_wp2_with fail
          clear g0 g1 g2 g3
          go_loopw [6] (fun i wr2 => ∃ m : Nat, i = .int .i64 (m : Int) ∧ m ≤ n2 ∧ T.take m = T'.take m ∧ Below W0.heap.size W0 wr2) (fun i _ => n2 - (RowKit.intOf i).toNat)
          case atStart => exact ⟨0, rfl, by omega, by simp, HB.out⟩
          case round =>
            rename_i wr2
            obtain ⟨m, rfl, hm, htm, hb⟩ := hrel
            have y0 : Cells wr w.heap.size 57 #[.slice A k c, .slice A2 n2 c2] := (hb.block _ H.out.2.2.1.lt).trans H.out.2.2.1
            have y1 : Cells wr (w.heap.size + 1) 57 #[.slice A' k c', .slice A2' n2 c2'] := (hb.block _ H.out.2.2.2.lt).trans H.out.2.2.2
            have g1 := y0.cell 1
            have g3 := y1.cell 1
            simp at g1 g3
            have bw : Below w.heap.size w wr := H.out.1.trans (hb.mono H.out.1.size)
            by_cases hlt2 : m < n2
            · have i6 : (m : Int) < (n2 : Int) := by omega
              obtain ⟨x, hx⟩ : ∃ x, T[m]? = some x := ⟨T[m]'(by rw [HN.out.2.1]; exact hlt2), List.getElem?_eq_getElem _⟩
              obtain ⟨y, hy⟩ : ∃ y, T'[m]? = some y := ⟨T'[m]'(by rw [HN.out.2.2.2]; exact hlt2), List.getElem?_eq_getElem _⟩
              obtain ⟨b, o, rfl, hbl, hc⟩ := HT.out.2.1.r (by rintro rfl; simp at hx)
              obtain ⟨b', o', rfl, hbl', hc'⟩ := HT.out.2.2.2.r (by rintro rfl; simp at hy)
              have d0 := (bw.cell (p := ⟨b, o + m, none⟩) hbl).trans (hc m x hx)
              have d1 := (bw.cell (p := ⟨b', o' + m, none⟩) hbl').trans (hc' m y hy)
              have HK := Lib.hid (And.intro htm (And.intro hb (And.intro hx (And.intro hy bw))))
              clear htm hb hc hc' hx hy bw y0 y1
              by_cases he : x = y
              · have hq : ((x : Int) == (y : Int)) = true := by simp; omega
                have hq' : ((x : Int) != (y : Int)) = false := by simp; omega
                have HE := Lib.hid he
                clear he
                go_wp2_with fail
                go_quiet (fail)
                rename_i nq _
                have HB2 := Lib.hid (below_drewN HK.out.2.1 nq)
                go_wp2_with fail
                go_roundw
                case rel => exact ⟨m + 1, by go_num, by omega, take_eq_snocN HK.out.1 HK.out.2.2.1 HK.out.2.2.2.1 HE.out, HB2.out⟩
                case measure => simp [RowKit.intOf]; omega
              · have hq : ((x : Int) == (y : Int)) = false := by simp; omega
                have hq' : ((x : Int) != (y : Int)) = true := by simp; omega
                have : X = false := HX.out.1 (.inr (fun e => by
                  have h1 := HK.out.2.2.1
                  rw [e, HK.out.2.2.2.1] at h1
                  injection h1 with h1
                  exact he h1.symm))
                subst this
                clear he
                go_wp2_with fail
                go_quiet (fail)
                rename_i nq _
                have HB2 := Lib.hid (below_drewN HK.out.2.2.2.2 nq)
                go_wp2_with fail
                go_ret
                exact ⟨rfl, HB2.out⟩
            · obtain rfl : m = n2 := by omega
              have i6 : ¬ (m : Int) < (m : Int) := by omega
              have : X = true := HX.out.2 HRR.out (by
                have e1 : T.take m = T := by rw [← HN.out.2.1, List.take_length]
                have e2 : T'.take m = T' := by rw [← HN.out.2.2.2, List.take_length]
                rw [e1, e2] at htm
                exact htm)
              subst this
              have HB2 := Lib.hid bw
              clear htm hb bw y0 y1
              go_wp2_with fail
              go_ret
              exact ⟨rfl, HB2.out⟩
    · have i1 : ((n1 : Int) != (n3 : Int)) = false := by simp; omega
      have j1 : ((n1 : Int) == (n3 : Int)) = true := by simp; omega
      have i2 : ((n2 : Int) != (n4 : Int)) = true := by simp; omega
      have j2 : ((n2 : Int) == (n4 : Int)) = false := by simp; omega
      have : X = false := HX.out.1 (.inr (fun e => by rw [e] at hn2; omega))
      subst this
      clear hn1 hn2 hn3 hn4 h1
      go_enter Tryd.func28, Tryd.ntmps28
      go_wp2_with fail
      rw [HW.out]
      go_ret
      exact ⟨rfl, H.out.1⟩
  · have i1 : ((n1 : Int) != (n3 : Int)) = true := by simp; omega
    have j1 : ((n1 : Int) == (n3 : Int)) = false := by simp; omega
    have : X = false := HX.out.1 (.inl (fun e => by rw [e] at hn1; omega))
    subst this
    clear hn1 hn2 hn3 hn4
    go_enter Tryd.func28, Tryd.ntmps28
    go_wp2_with fail
    rw [HW.out]
    go_ret
    exact ⟨rfl, H.out.1⟩
end Go.Proofs.YteamonmneoakpaaDoor

