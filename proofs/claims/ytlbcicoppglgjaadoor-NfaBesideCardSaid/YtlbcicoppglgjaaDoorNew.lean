/-
  Contracts: nfa.New.
-/
import Derived.Test.YtlbcicoppglgjaaDoorFlt
import Derived.Test.YtlbcicoppglgjaaDoorAdd
namespace Go.Proofs.YtlbcicoppglgjaaDoor
open Go.RowKit Go.Shelf Go.Lib Go.Great Go.Maps

theorem addE_count {e : E} (hr : rightE e = true) (s : St) (b : Nat) : (addE s e b).count = s.count + leavesE e := by
  rw [← leaves_right hr s]
  unfold addE
  dsimp only
  split <;> rfl
theorem mkL_count : ∀ (l : List E) (i : Nat) (s : St), l.all rightE = true → (mkL l i s).count = s.count + lvL l
  | [], _, _, _ => rfl
  | e :: r, i, s, h => by
    simp only [List.all_cons, Bool.and_eq_true] at h
    have h1 := mkL_count r (i + 1) (addE s e (2 ^ i)) h.2
    rw [addE_count h.1] at h1
    have e2 : lvL (e :: r) = leavesE e + lvL r := rfl
    show (mkL r (i + 1) (addE s e (2 ^ i))).count = _
    omega
theorem mkL_take {ks : List E} {i : Nat} {f : E} (h : ks[i]? = some f) (s : St) : mkL (ks.take (i + 1)) 0 s = addE (mkL (ks.take i) 0 s) f (2 ^ i) := by
  have hi : i < ks.length := (List.getElem?_eq_some_iff.1 h).1
  rw [List.take_add_one, h, Option.toList_some, mkL_append]
  have : (ks.take i).length = i := by rw [List.length_take]; omega
  rw [this, Nat.zero_add]
  rfl
/-- A new automaton. -/
theorem nfa_new (w : World) (se : Bool) (W : World) (hW : (((w.alloc (.map #[] 0)).alloc (.map #[] 0)).alloc (.map #[] 0)).alloc (.cells #[.bool se, .int .i64 1, .map (some w.heap.size), .map (some (w.heap.size + 1)), .map (some (w.heap.size + 1 + 1))] 60) = W) :
    Np.Ok ⟨w.heap.size + 1 + 1 + 1, w.heap.size, w.heap.size + 1, w.heap.size + 1 + 1⟩ w.heap.size ∧ NfaAt W ⟨w.heap.size + 1 + 1 + 1, w.heap.size, w.heap.size + 1, w.heap.size + 1 + 1⟩ 0 se st0 ∧ Below w.heap.size w W := by
  obtain ⟨W1, hW1⟩ : ∃ W1, w.alloc (.map #[] 0) = W1 := ⟨_, rfl⟩
  obtain ⟨W2, hW2⟩ : ∃ W2, W1.alloc (.map #[] 0) = W2 := ⟨_, rfl⟩
  obtain ⟨W3, hW3⟩ : ∃ W3, W2.alloc (.map #[] 0) = W3 := ⟨_, rfl⟩
  rw [hW1, hW2, hW3] at hW
  have z1 : W1.heap.size = w.heap.size + 1 := by rw [← hW1]; simp
  have z2 : W2.heap.size = w.heap.size + 1 + 1 := by rw [← hW2]; simp [z1]
  have z3 : W3.heap.size = w.heap.size + 1 + 1 + 1 := by rw [← hW3]; simp [z2]
  have b1 : Below w.heap.size w W1 := by rw [← hW1]; exact below_new _ _
  have b2 : Below W1.heap.size W1 W2 := by rw [← hW2]; exact below_new _ _
  have b3 : Below W2.heap.size W2 W3 := by rw [← hW3]; exact below_new _ _
  have b4 : Below W3.heap.size W3 W := by rw [← hW]; exact below_new _ _
  have m1 : MapF W1 w.heap.size 0 (plV 0) (fun _ => plV 0) := by rw [← hW1]; exact MapF.made w _
  have m2 : MapF W2 (w.heap.size + 1) 0 (plV 0) (fun _ => plV 0) := by rw [← hW2, ← z1]; exact MapF.made W1 _
  have m3 : MapF W3 (w.heap.size + 1 + 1) 0 (.int .u64 0) (fun _ => .int .u64 0) := by rw [← hW3, ← z2]; exact MapF.made W2 _
  have x : Cells W (w.heap.size + 1 + 1 + 1) 60 #[.bool se, .int .i64 1, .map (some w.heap.size), .map (some (w.heap.size + 1)), .map (some (w.heap.size + 1 + 1))] := by rw [← hW, ← z3]; exact cells_new _ _ _
  refine ⟨⟨by dsimp only; omega, by dsimp only; omega, by dsimp only; omega, by dsimp only; omega, by dsimp only; omega, by dsimp only; omega, by dsimp only; omega, by dsimp only; omega, by dsimp only; omega, by dsimp only; omega⟩, ⟨?_, ?_, ?_, ?_, ?_, ?_, ?_, ?_, ?_, fun _ => by simp [st0]⟩, ?_⟩
  · exact x.cell 0
  · exact x.cell 1
  · exact x.cell 2
  · exact x.cell 3
  · exact x.cell 4
  · exact x.froz 1
  · refine (m1.block ?_).congr fun k => ?_
    · exact (b4.block _ (by omega)).trans ((b3.block _ (by omega)).trans (b2.block _ (by omega)))
    · simp [st0]
  · refine (m2.block ?_).congr fun k => ?_
    · exact (b4.block _ (by omega)).trans (b3.block _ (by omega))
    · simp [takersI, st0]
  · refine (m3.block ?_).congr fun k => ?_
    · exact b4.block _ (by omega)
    · simp [st0]
  · exact b1.trans ((b2.mono (by omega)).trans ((b3.mono (by omega)).trans (b4.mono (by omega))))
theorem Np.Ok.mono {q : Np} {B B' : Nat} (h : q.Ok B) (hb : B' ≤ B) : q.Ok B' := ⟨Nat.le_trans hb h.b, Nat.le_trans hb h.nx, Nat.le_trans hb h.tk, Nat.le_trans hb h.tl, h.d1, h.d2, h.d3, h.d4, h.d5, h.d6⟩
theorem fault_ok {ks : List E} (h : faultL ks = 0) : ks.length ≤ 40 ∧ ks.all rightE = true ∧ 1 + lvL ks ≤ 1000 := by
  unfold faultL at h
  split at h
  · cases h
  · split at h
    · cases h
    · split at h
      · cases h
      · rename_i h1 h2 h3
        exact ⟨by omega, by simpa using h2, by omega⟩
set_option maxHeartbeats 4000000 in
set_option maxRecDepth 100000 in
theorem new_bad (se : Bool) (ks : List E) (A : Option Addr) (cap : Nat) (w : World) (hk : KsAt w w.heap.size ks A cap) (hf : faultL ks ≠ 0) :
    Calls Tryd.prog 10 #[.bool se, .slice A ks.length cap] w fun r w' => r = .returned (.tuple #[.pointer none, .int .i64 (faultL ks)]) ∧ Below w.heap.size w w' := by
  have C := Lib.hid (fault_any ks A cap w hk)
  generalize faultL ks = F at *
  have hF : (F == 0) = false := by simpa using hf
  go_enter Tryd.func10, Tryd.ntmps10
  go_wp2_with fail
  refine C.out.mono ?_
  rintro r w2 ⟨rfl, hb⟩
  have HB := Lib.hid hb
  clear hb
  go_wp2_with fail
  go_ret2
  exact ⟨rfl, HB.out⟩
/-- What New answers of right expressions. -/
def NewOk (w : World) (se : Bool) (ks : List E) (r : Ending) (w' : World) : Prop := ∃ (q : Np) (n : Nat), r = .returned (.tuple #[.pointer (some ⟨q.b, 0, none⟩), .int .i64 0]) ∧ q.Ok w.heap.size ∧ NfaAt w' q n se (mkN ks) ∧ Below w.heap.size w w'
set_option maxHeartbeats 8000000 in
set_option maxRecDepth 100000 in
theorem new_any (se : Bool) (ks : List E) (A : Option Addr) (cap : Nat) (w : World) (hk : KsAt w w.heap.size ks A cap) (hf : faultL ks = 0) (hT : TZ w) :
    Calls Tryd.prog 10 #[.bool se, .slice A ks.length cap] w (NewOk w se ks) := by
  obtain ⟨h40, hall, h1000⟩ := fault_ok hf
  have C := Lib.hid (fault_any ks A cap w hk)
  rw [hf] at C
  have hln : ks.length ≤ 9223372036854775807 := by omega
  obtain ⟨N, hN⟩ : ∃ N, ks.length = N := ⟨_, rfl⟩
  have HN := Lib.hid hN
  have HK := Lib.hid (And.intro hk (And.intro hall (And.intro h1000 hT)))
  rw [hN] at C h40 hln ⊢
  have hmm := @run_makeMap Tryd.prog
  clear hk hf hall h1000 hT hN
  go_enter Tryd.func10, Tryd.ntmps10
  go_wp2_with fail
  refine C.out.mono ?_
  rintro r w2 ⟨rfl, hb⟩
  have HB := Lib.hid hb
  clear hb
  go_wp2_with fail
  obtain ⟨W3, hW3⟩ : ∃ W, (((w2.alloc (.map #[] 0)).alloc (.map #[] 0)).alloc (.map #[] 0)).alloc (.cells #[.bool se, .int .i64 1, .map (some w2.heap.size), .map (some (w2.heap.size + 1)), .map (some (w2.heap.size + 1 + 1))] 60) = W := ⟨_, rfl⟩
  have hnew := nfa_new w2 se W3 hW3
  rw [hW3]
  obtain ⟨q, hq⟩ : ∃ q : Np, (⟨w2.heap.size + 1 + 1 + 1, w2.heap.size, w2.heap.size + 1, w2.heap.size + 1 + 1⟩ : Np) = q := ⟨_, rfl⟩
  rw [hq] at hnew
  have hqb : w2.heap.size + 1 + 1 + 1 = q.b := by rw [← hq]
  rw [hqb]
  have b03 : Below w.heap.size w W3 := HB.out.trans (hnew.2.2.mono HB.out.size)
  have hT3 : TZ W3 := HK.out.2.2.2.below b03 HK.out.2.2.2.lt
  have H3 := Lib.hid (And.intro hnew.1 (And.intro hnew.2.1 (And.intro b03 (And.intro hT3 HB.out.size))))
  clear hW3 hnew hq hqb b03 hT3 hmm
  generalize w2.heap.size = s2 at *
  go_loopw [23] (fun v wr => ∃ i : Nat, v = .int .i64 (i : Int) ∧ i ≤ N ∧ Kp q W3 wr ∧ NfaAt wr q (10003000 * i) se (mkL (ks.take i) 0 st0)) (fun v _ => N - (RowKit.intOf v).toNat)
  case atStart => exact ⟨0, rfl, by omega, Kp.refl _ _, H3.out.2.1⟩
  case round =>
    obtain ⟨i, rfl, hi, hkp, hnf⟩ := hrel
    by_cases hlt : i < N
    · have i1 : (i : Int) < (N : Int) := by omega
      obtain ⟨f, hf⟩ : ∃ f, ks[i]? = some f := ⟨ks[i]'(by rw [HN.out]; exact hlt), List.getElem?_eq_getElem _⟩
      obtain ⟨b, o, rfl, hbl, hr⟩ := HK.out.1.r (by rintro rfl; simp at hf)
      obtain ⟨A', cap', d0, d1, d2, hNd⟩ := row_get' hr hf
      have hq : q.Ok w.heap.size := H3.out.1.mono H3.out.2.2.2.2
      have hun : Below w.heap.size w wr := H3.out.2.2.1.trans (hkp.under hq H3.out.2.2.1.size)
      have d0' := (hun.cell (p := ⟨b, o + i * 3, none⟩) hbl).trans d0
      have d1' := (hun.cell (p := ⟨b, o + i * 3 + 1, none⟩) hbl).trans d1
      have d2' := (hun.cell (p := ⟨b, o + i * 3 + 2, none⟩) hbl).trans d2
      obtain ⟨wr', hwr'⟩ : ∃ W, wr.alloc (.cells #[.int .i64 f.k, .int .i64 f.c, .slice A' f.ks.length cap'] 52) = W := ⟨_, rfl⟩
      have bb : Below wr.heap.size wr wr' := by rw [← hwr']; exact below_new _ _
      have x1 : Cells wr' wr.heap.size 52 #[.int .i64 f.k, .int .i64 f.c, .slice A' f.ks.length cap'] := by rw [← hwr']; exact cells_new _ _ _
      have hbr := hun.trans (bb.mono hun.size)
      have hrf : rightE f = true := List.all_eq_true.1 HK.out.2.1 f (List.mem_of_getElem? hf)
      have hsz := right_size hrf
      have hcnt : (mkL (ks.take i) 0 st0).count = 1 + lvL (ks.take i) := by
        have h1 : (ks.take i).all rightE = true := by
          rw [List.all_eq_true]
          intro x hx
          exact List.all_eq_true.1 HK.out.2.1 x (List.mem_of_mem_take hx)
        exact mkL_count _ 0 st0 h1
      have hl1 := lvL_take hf
      have hl2 := lvL_take_le ks (i + 1)
      have hll := HK.out.2.2.1
      have hC := add_any f (2 ^ i) q w.heap.size (10003000 * i) se (mkL (ks.take i) 0 st0) (.agg #[.int .i64 f.k, .int .i64 f.c, .slice A' f.ks.length cap']) wr'.drew (hnf.below bb).drew hq (by have := hbr.size; exact this) HK.out.2.2.2.lt
        (show TZ wr' from HK.out.2.2.2.below hbr HK.out.2.2.2.lt) (hNd.below hbr.drew) hrf (by omega) (by omega) (Nat.pow_lt_pow_right (n := 64) (by omega) (by omega))
      have hst := mkL_take hf st0
      have hbud : 10003000 * i + 5000 * szE f + 3000 ≤ 10003000 * (i + 1) := by omega
      have hwp := wrap_pow i (by omega)
      rw [← hwp] at hC
      have f0 := x1.cell 0
      have f1 := x1.cell 1
      have f2 := x1.cell 2
      simp at f0 f1 f2
      have HC := Lib.hid hC
      have HH := Lib.hid (And.intro hkp (And.intro bb (And.intro hwr' (And.intro hst (And.intro hbud hwp)))))
      clear hkp hnf hun bb hwr' x1 hbr hrf hsz hcnt hl1 hl2 hll hC hst hbud hNd hr hbl d0 d1 d2 hf hwp
      go_wp2_with fail
      rw [HH.out.2.2.1]
      go_still_tail 4, (by kernel_rfl)
      change wpList _ _ _ _ _ wr'.drew
      go_wp2_with fail
      refine HC.out.mono ?_
      rintro r w4 ⟨rfl, hk4, hn4⟩
      have hend : ∃ j : Nat, Value.int .i64 ((i : Int) + 1) = .int .i64 (j : Int) ∧ j ≤ N ∧ Kp q W3 w4 ∧ NfaAt w4 q (10003000 * j) se (mkL (ks.take j) 0 st0) :=
        ⟨i + 1, by simp, by omega, ((HH.out.1.below HH.out.2.1).drew).trans hk4, by rw [HH.out.2.2.2.1]; exact hn4.mono HH.out.2.2.2.2.1⟩
      have HEND := Lib.hid hend
      clear hk4 hn4 hend f0 f1 f2
      go_wp2_with fail
      go_roundw
      case rel => exact HEND.out
      case measure => simp [RowKit.intOf]; omega
    · obtain rfl : i = N := by omega
      have d1 : ¬ (i : Int) < (i : Int) := by omega
      have e1 : ks.take i = ks := by rw [← HN.out, List.take_length]
      rw [e1] at hnf
      have HE := Lib.hid (And.intro hkp hnf)
      clear hkp hnf e1
      go_wp2_with fail
      go_ret2
      refine ⟨q, _, rfl, H3.out.1.mono H3.out.2.2.2.2, HE.out.2, ?_⟩
      exact H3.out.2.2.1.trans (HE.out.1.under (H3.out.1.mono H3.out.2.2.2.2) H3.out.2.2.1.size)
end Go.Proofs.YtlbcicoppglgjaaDoor
