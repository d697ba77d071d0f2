/-
  Contracts: (*NFA).read.
-/
import Derived.Test.YtlbcicoppglgjaaDoorSeq
import Derived.Test.YtlbcicoppglgjaaDoorAlt
namespace Go.Proofs.YtlbcicoppglgjaaDoor
open Go.RowKit Go.Shelf Go.Lib Go.Great Go.Maps

theorem readE_4 (c : Int) (ks : List E) (s : St) : readE (.mk 4 c ks) s = seqL ks s ⟨0, 0, true⟩ := by unfold readE; simp
theorem readE_5 (c : Int) (ks : List E) (s : St) : readE (.mk 5 c ks) s = altL ks s ⟨0, 0, false⟩ := by unfold readE; simp
theorem readE_6 (c : Int) (f : E) (s : St) : readE (.mk 6 c [f]) s = ((readE f s).1.link (readE f s).2.last (readE f s).2.first, ⟨(readE f s).2.first, (readE f s).2.last, true⟩) := by
  rw [readE]; simp [readE.headL]
theorem readE_7 (c : Int) (f : E) (s : St) : readE (.mk 7 c [f]) s = ((readE f s).1.link (readE f s).2.last (readE f s).2.first, (readE f s).2) := by
  rw [readE]; simp [readE.headL]
theorem readE_8 (c : Int) (f : E) (s : St) : readE (.mk 8 c [f]) s = ((readE f s).1, ⟨(readE f s).2.first, (readE f s).2.last, true⟩) := by
  rw [readE]; simp [readE.headL]
theorem readE_9 (c : Int) (ks : List E) (s : St) : readE (.mk 9 c ks) s = (s, ⟨0, 0, true⟩) := by unfold readE; simp
theorem readE_leaf {k : Int} (c : Int) (ks : List E) (s : St) (h4 : k ≠ 4) (h5 : k ≠ 5) (h6 : k ≠ 6) (h7 : k ≠ 7) (h8 : k ≠ 8) (h9 : k ≠ 9) : readE (.mk k c ks) s = (s.leaf k c, ⟨2 ^ s.count, 2 ^ s.count, false⟩) := by unfold readE; simp [h4, h5, h6, h7, h8, h9]
/-- Behind the first statement of read: the node in its box, the span that will be answered. -/
structure Rd0 (q : Np) (B : Nat) (w W2 : World) (N1 n : Nat) (se : Bool) (s : St) (k c : Int) (A : Option Addr) (ks : List E) (cap : Nat) : Prop where
  kp : Kp q w W2
  nf : NfaAt W2 q n se s
  x : Cells W2 w.heap.size 52 #[.int .i64 k, .int .i64 c, .slice A ks.length cap]
  r : SpAt W2 N1 sp0
  ks : KsAt W2 B ks A cap
  tz : TZ W2
  q0 : ¬ q.In w.heap.size
  q1 : ¬ q.In N1
  n1 : N1 = w.heap.size + 1
  hB : B ≤ W2.heap.size
  l1 : W2.heap.size = w.heap.size + 2
theorem rd0 {q : Np} {B n : Nat} {se : Bool} {s : St} {w W1 W2 : World} {k c : Int} {A : Option Addr} {ks : List E} {cap N1 : Nat} (h : NfaAt w q n se s) (hB : B ≤ w.heap.size) (hT : TZ w) (hk : KsAt w B ks A cap)
    (hW1 : w.alloc (.cells #[.int .i64 k, .int .i64 c, .slice A ks.length cap] 52) = W1) (hN1 : W1.heap.size = N1) (hW2 : W1.alloc (.cells Z80 80) = W2) : Rd0 q B w W2 N1 n se s k c A ks cap := by
  have hz1 : W1.heap.size = w.heap.size + 1 := by rw [← hW1]; simp
  have hz2 : W2.heap.size = w.heap.size + 2 := by rw [← hW2]; simp [hz1]
  have b1 : Below w.heap.size w W1 := by rw [← hW1]; exact below_new _ _
  have b2 : Below W1.heap.size W1 W2 := by rw [← hW2]; exact below_new _ _
  have b12 : Below w.heap.size w W2 := b1.trans (b2.mono (by omega))
  refine ⟨.of_below b12, h.below b12, (b2.block _ (by omega)).trans (by rw [← hW1]; exact cells_new _ _ _), by rw [← hN1, ← hW2]; exact spAt_new0 W1, hk.below (b12.mono hB), hT.below b12 hT.lt, fun hin => by have := h.lt hin; omega, fun hin => by have := h.lt hin; omega, by omega, by omega, hz2⟩

set_option maxHeartbeats 8000000 in
set_option maxRecDepth 100000 in
theorem read9 (c : Int) (ks : List E) (q : Np) (B n : Nat) (se : Bool) (s : St) (v : Value) (w : World) (h : NfaAt w q n se s) (_hq : q.Ok B) (hB : B ≤ w.heap.size) (_h0 : 0 < B) (hT : TZ w) (hN : Nd w B (.mk 9 c ks) v)
    (_hn : n ≤ 900000000000) :
    Calls Tryd.prog 41 #[.pointer (some ⟨q.b, 0, none⟩), v] w fun r w' => r = .returned (.agg (spL (readE (.mk 9 c ks) s).2).toArray) ∧ Kp q w w' ∧ NfaAt w' q (n + 0) se (readE (.mk 9 c ks) s).1 := by
  obtain ⟨_, _, A, cap, rfl, hk⟩ := Nd_iff.1 hN
  simp only [E.k, E.c, E.ks] at hk ⊢
  obtain ⟨W1, hW1⟩ : ∃ W, w.alloc (.cells #[.int .i64 9, .int .i64 c, .slice A ks.length cap] 52) = W := ⟨_, rfl⟩
  obtain ⟨N1, hN1⟩ : ∃ N, W1.heap.size = N := ⟨_, rfl⟩
  obtain ⟨W2, hW2⟩ : ∃ W, W1.alloc (.cells Z80 80) = W := ⟨_, rfl⟩
  have h2 := rd0 h hB hT hk hW1 hN1 hW2
  have d0 := h2.x.cell 0
  have d1 := h2.x.cell 1
  have d2 := h2.x.cell 2
  simp at d0 d1 d2
  have HS := Lib.hid (And.intro hW1 (And.intro hN1 hW2))
  have H2 := Lib.hid h2
  rw [readE_9]
  clear hW1 hN1 hW2 h2 hk hN
  go_enter Tryd.func41, Tryd.ntmps41
  go_wp2_with (first
    | (refine wpList_alloc80 rfl 4 rfl rfl N1 (by rw [HS.out.1]; exact HS.out.2.1) W2 (by rw [HS.out.1]; exact HS.out.2.2) ?_)
    | (refine wpList_buildEmpty rfl rfl ?_)
    | (refine wpList_storeSp rfl (.tmp 4) (.tmp 11) rfl rfl N1 sp0 ⟨0, 0, true⟩ rfl rfl H2.out.r ?_; intro W8 hW8; have H8 := Lib.hid hW8; clear hW8)
    | fail)
  refine bodyPost_ret (v := .agg (spL ⟨0, 0, true⟩).toArray) (results_sp rfl _ _ N1 _ rfl H8.out.at_) rfl ⟨rfl, ?_, ?_⟩
  · exact H2.out.kp.grown H8.out.grown (.inr (by have := H2.out.n1; omega))
  · exact H2.out.nf.grown H8.out.grown H2.out.q1

set_option maxHeartbeats 8000000 in
set_option maxRecDepth 100000 in
theorem read4 (c : Int) (ks : List E) (IH : ∀ e ∈ ks, ReadOk e) (q : Np) (B n : Nat) (se : Bool) (s : St) (v : Value) (w : World) (h : NfaAt w q n se s) (hq : q.Ok B) (hB : B ≤ w.heap.size) (h0 : 0 < B) (hT : TZ w) (hN : Nd w B (.mk 4 c ks) v)
    (hg : goodE.all ks = true) (hc : s.count + lvL ks ≤ 1000) (hn : n + 5000 * szL ks ≤ 900000000000) :
    Calls Tryd.prog 41 #[.pointer (some ⟨q.b, 0, none⟩), v] w fun r w' => r = .returned (.agg (spL (readE (.mk 4 c ks) s).2).toArray) ∧ Kp q w w' ∧ NfaAt w' q (n + 5000 * szL ks) se (readE (.mk 4 c ks) s).1 := by
  obtain ⟨_, _, A, cap, rfl, hk⟩ := Nd_iff.1 hN
  simp only [E.k, E.c, E.ks] at hk ⊢
  obtain ⟨W1, hW1⟩ : ∃ W, w.alloc (.cells #[.int .i64 4, .int .i64 c, .slice A ks.length cap] 52) = W := ⟨_, rfl⟩
  obtain ⟨N1, hN1⟩ : ∃ N, W1.heap.size = N := ⟨_, rfl⟩
  obtain ⟨W2, hW2⟩ : ∃ W, W1.alloc (.cells Z80 80) = W := ⟨_, rfl⟩
  have h2 := rd0 h hB hT hk hW1 hN1 hW2
  have d0 := h2.x.cell 0
  have d1 := h2.x.cell 1
  have d2 := h2.x.cell 2
  simp at d0 d1 d2
  have HS := Lib.hid (And.intro hW1 (And.intro hN1 hW2))
  have H2 := Lib.hid h2
  have C := Lib.hid (seq_any ks IH q B n se s A cap W2 h2.nf hq h2.hB h0 h2.tz h2.ks hg hc hn)
  rw [readE_4]
  obtain ⟨R, hR⟩ : ∃ R, seqL ks s ⟨0, 0, true⟩ = R := ⟨_, rfl⟩
  rw [hR] at C ⊢
  clear hW1 hN1 hW2 h2 hk hN IH hg hR
  go_enter Tryd.func41, Tryd.ntmps41
  go_wp2_with (first
    | (refine wpList_alloc80 rfl 4 rfl rfl N1 (by rw [HS.out.1]; exact HS.out.2.1) W2 (by rw [HS.out.1]; exact HS.out.2.2) ?_)
    | (go_at_call 49; refine C.out.mono ?_; rintro e W3 ⟨rfl, hk3, hn3⟩
       have r3 := H2.out.r.block (hk3.block _ H2.out.r.lt H2.out.q1)
       have H3 := Lib.hid (And.intro hk3 (And.intro hn3 r3))
       clear hk3 hn3 r3)
    | (refine wpList_storeSp rfl (.tmp 4) (.tmp 17) rfl rfl N1 sp0 R.2 rfl rfl H3.out.2.2 ?_; intro W8 hW8; have H8 := Lib.hid hW8; clear hW8)
    | fail)
  refine bodyPost_ret (v := .agg (spL R.2).toArray) (results_sp rfl _ _ N1 _ rfl H8.out.at_) rfl ⟨rfl, ?_, ?_⟩
  · exact (H2.out.kp.trans H3.out.1).grown H8.out.grown (.inr (by have := H2.out.n1; omega))
  · exact H3.out.2.1.grown H8.out.grown H2.out.q1

set_option maxHeartbeats 8000000 in
set_option maxRecDepth 100000 in
theorem read5 (c : Int) (ks : List E) (IH : ∀ e ∈ ks, ReadOk e) (q : Np) (B n : Nat) (se : Bool) (s : St) (v : Value) (w : World) (h : NfaAt w q n se s) (hq : q.Ok B) (hB : B ≤ w.heap.size) (h0 : 0 < B) (hT : TZ w) (hN : Nd w B (.mk 5 c ks) v)
    (hg : goodE.all ks = true) (hc : s.count + lvL ks ≤ 1000) (hn : n + 5000 * szL ks ≤ 900000000000) :
    Calls Tryd.prog 41 #[.pointer (some ⟨q.b, 0, none⟩), v] w fun r w' => r = .returned (.agg (spL (readE (.mk 5 c ks) s).2).toArray) ∧ Kp q w w' ∧ NfaAt w' q (n + 5000 * szL ks) se (readE (.mk 5 c ks) s).1 := by
  obtain ⟨_, _, A, cap, rfl, hk⟩ := Nd_iff.1 hN
  simp only [E.k, E.c, E.ks] at hk ⊢
  obtain ⟨W1, hW1⟩ : ∃ W, w.alloc (.cells #[.int .i64 5, .int .i64 c, .slice A ks.length cap] 52) = W := ⟨_, rfl⟩
  obtain ⟨N1, hN1⟩ : ∃ N, W1.heap.size = N := ⟨_, rfl⟩
  obtain ⟨W2, hW2⟩ : ∃ W, W1.alloc (.cells Z80 80) = W := ⟨_, rfl⟩
  have h2 := rd0 h hB hT hk hW1 hN1 hW2
  have d0 := h2.x.cell 0
  have d1 := h2.x.cell 1
  have d2 := h2.x.cell 2
  simp at d0 d1 d2
  have HS := Lib.hid (And.intro hW1 (And.intro hN1 hW2))
  have H2 := Lib.hid h2
  have C := Lib.hid (alt_any ks IH q B n se s A cap W2 h2.nf hq h2.hB h0 h2.tz h2.ks hg hc hn)
  rw [readE_5]
  obtain ⟨R, hR⟩ : ∃ R, altL ks s ⟨0, 0, false⟩ = R := ⟨_, rfl⟩
  rw [hR] at C ⊢
  clear hW1 hN1 hW2 h2 hk hN IH hg hR
  go_enter Tryd.func41, Tryd.ntmps41
  go_wp2_with (first
    | (refine wpList_alloc80 rfl 4 rfl rfl N1 (by rw [HS.out.1]; exact HS.out.2.1) W2 (by rw [HS.out.1]; exact HS.out.2.2) ?_)
    | (go_at_call 50; refine C.out.mono ?_; rintro e W3 ⟨rfl, hk3, hn3⟩
       have r3 := H2.out.r.block (hk3.block _ H2.out.r.lt H2.out.q1)
       have H3 := Lib.hid (And.intro hk3 (And.intro hn3 r3))
       clear hk3 hn3 r3)
    | (refine wpList_storeSp rfl (.tmp 4) (.tmp 23) rfl rfl N1 sp0 R.2 rfl rfl H3.out.2.2 ?_; intro W8 hW8; have H8 := Lib.hid hW8; clear hW8)
    | fail)
  refine bodyPost_ret (v := .agg (spL R.2).toArray) (results_sp rfl _ _ N1 _ rfl H8.out.at_) rfl ⟨rfl, ?_, ?_⟩
  · exact (H2.out.kp.trans H3.out.1).grown H8.out.grown (.inr (by have := H2.out.n1; omega))
  · exact H3.out.2.1.grown H8.out.grown H2.out.q1

set_option maxHeartbeats 8000000 in
set_option maxRecDepth 100000 in
theorem readLf (k c : Int) (q : Np) (B n : Nat) (se : Bool) (s : St) (v : Value) (w : World) (h : NfaAt w q n se s) (hq : q.Ok B) (hB : B ≤ w.heap.size) (_h0 : 0 < B) (hT : TZ w) (hN : Nd w B (.mk k c []) v)
    (k0 : 0 ≤ k) (k3 : k ≤ 3) (hr : rightE (.mk k c []) = true) (hc : s.count < 1024) (hn : n ≤ 900000000000) :
    Calls Tryd.prog 41 #[.pointer (some ⟨q.b, 0, none⟩), v] w fun r w' => r = .returned (.agg (spL (readE (.mk k c []) s).2).toArray) ∧ Kp q w w' ∧ NfaAt w' q (n + 37) se (readE (.mk k c []) s).1 := by
  obtain ⟨_, _, A, cap, rfl, hk⟩ := Nd_iff.1 hN
  simp only [E.k, E.c, E.ks] at hk ⊢
  obtain ⟨W1, hW1⟩ : ∃ W, w.alloc (.cells #[.int .i64 k, .int .i64 c, .slice A 0 cap] 52) = W := ⟨_, rfl⟩
  obtain ⟨N1, hN1⟩ : ∃ N, W1.heap.size = N := ⟨_, rfl⟩
  obtain ⟨W2, hW2⟩ : ∃ W, W1.alloc (.cells Z80 80) = W := ⟨_, rfl⟩
  have h2 := rd0 h hB hT hk hW1 hN1 hW2
  have d0 := h2.x.cell 0
  have d1 := h2.x.cell 1
  have d2 := h2.x.cell 2
  simp at d0 d1 d2
  have HS := Lib.hid (And.intro hW1 (And.intro hN1 hW2))
  have H2 := Lib.hid h2
  have C := Lib.hid (leaf_any q B n se s k c A cap W2 h2.nf hq h2.hB (Nd_iff.2 ⟨‹_›, ‹_›, A, cap, rfl, h2.ks⟩) (by omega) hr hc (by omega))
  rw [readE_leaf c [] s (by omega) (by omega) (by omega) (by omega) (by omega) (by omega)]
  have k4 : (k == 4) = false := by simp; omega
  have k5 : (k == 5) = false := by simp; omega
  have k6 : (k == 6) = false := by simp; omega
  have k7 : (k == 7) = false := by simp; omega
  have k8 : (k == 8) = false := by simp; omega
  have k9 : (k == 9) = false := by simp; omega
  clear hW1 hN1 hW2 h2 hk hN
  go_enter Tryd.func41, Tryd.ntmps41
  go_wp2_with (first
    | (refine wpList_alloc80 rfl 4 rfl rfl N1 (by rw [HS.out.1]; exact HS.out.2.1) W2 (by rw [HS.out.1]; exact HS.out.2.2) ?_)
    | (go_at_call 51; refine C.out.mono ?_; rintro e W3 ⟨rfl, hk3, hn3⟩
       have r3 := H2.out.r.block (hk3.block _ H2.out.r.lt H2.out.q1)
       have H3 := Lib.hid (And.intro hk3 (And.intro hn3 r3))
       clear hk3 hn3 r3)
    | (refine wpList_storeSp rfl (.tmp 4) (.tmp 60) rfl rfl N1 sp0 ⟨2 ^ s.count, 2 ^ s.count, false⟩ rfl rfl H3.out.2.2 ?_; intro W8 hW8; have H8 := Lib.hid hW8; clear hW8)
    | fail)
  refine bodyPost_ret (v := .agg (spL ⟨2 ^ s.count, 2 ^ s.count, false⟩).toArray) (results_sp rfl _ _ N1 _ rfl H8.out.at_) rfl ⟨rfl, ?_, ?_⟩
  · exact (H2.out.kp.trans H3.out.1).grown H8.out.grown (.inr (by have := H2.out.n1; omega))
  · exact H3.out.2.1.grown H8.out.grown H2.out.q1

set_option maxHeartbeats 8000000 in
set_option maxRecDepth 100000 in
theorem read6 (c : Int) (f : E) (IH : ReadOk f) (q : Np) (B n : Nat) (se : Bool) (s : St) (v : Value) (w : World) (h : NfaAt w q n se s) (hq : q.Ok B) (hB : B ≤ w.heap.size) (h0 : 0 < B) (hT : TZ w) (hN : Nd w B (.mk 6 c [f]) v)
    (hg : goodE f = true) (hc : s.count + leavesE f ≤ 1000) (hn : n + 5000 * szE f ≤ 900000000000) :
    Calls Tryd.prog 41 #[.pointer (some ⟨q.b, 0, none⟩), v] w fun r w' => r = .returned (.agg (spL (readE (.mk 6 c [f]) s).2).toArray) ∧ Kp q w w' ∧ NfaAt w' q (n + (5000 * szE f - 2500) + 1024) se (readE (.mk 6 c [f]) s).1 := by
  obtain ⟨_, _, A, cap, rfl, hk⟩ := Nd_iff.1 hN
  simp only [E.k, E.c, E.ks] at hk ⊢
  obtain ⟨W1, hW1⟩ : ∃ W, w.alloc (.cells #[.int .i64 6, .int .i64 c, .slice A 1 cap] 52) = W := ⟨_, rfl⟩
  obtain ⟨N1, hN1⟩ : ∃ N, W1.heap.size = N := ⟨_, rfl⟩
  obtain ⟨W2, hW2⟩ : ∃ W, W1.alloc (.cells Z80 80) = W := ⟨_, rfl⟩
  have h2 := rd0 h hB hT hk hW1 hN1 hW2
  have d0 := h2.x.cell 0
  have d1 := h2.x.cell 1
  have d2 := h2.x.cell 2
  simp at d0 d1 d2
  have HS := Lib.hid (And.intro hW1 (And.intro hN1 hW2))
  have H2 := Lib.hid h2
  obtain ⟨b, o, rfl, hbl, hrow⟩ := h2.ks.r (by simp)
  obtain ⟨A', cap', e0, e1, e2, hNd⟩ := row_get' (i := 0) hrow rfl
  rw [show o + 0 * 3 = o by omega] at e0 e1 e2
  have C := Lib.hid (IH q B n se s _ W2 h2.nf hq h2.hB h0 h2.tz hNd hg hc (by omega))
  have HQ := Lib.hid (And.intro hq h0)
  rw [readE_6]
  obtain ⟨R, hR⟩ : ∃ R, readE f s = R := ⟨_, rfl⟩
  rw [hR] at C ⊢
  have hbud : n + (5000 * szE f - 2500) ≤ 1000000000000 := by omega
  generalize n + (5000 * szE f - 2500) = n1 at *
  clear hW1 hN1 hW2 h2 hk hN IH hg hR hbl hrow hNd hq
  obtain ⟨S2, qf, ql, qe⟩ := R
  cases qe
  · go_enter Tryd.func41, Tryd.ntmps41
    go_wp2_with (first
      | (refine wpList_alloc80 rfl 4 rfl rfl N1 (by rw [HS.out.1]; exact HS.out.2.1) W2 (by rw [HS.out.1]; exact HS.out.2.2) ?_)
      | (go_at_call 41; refine C.out.mono ?_; rintro e W3 ⟨rfl, hk3, hn3⟩
         have r3 := H2.out.r.block (hk3.block _ H2.out.r.lt H2.out.q1)
         have x3 := (hk3.block _ H2.out.x.lt H2.out.q0).trans H2.out.x
         have t3 := hk3.tz H2.out.tz (HQ.out.1.out HQ.out.2)
         obtain ⟨W4, hW4⟩ : ∃ W, W3.alloc (.cells Z80 80) = W := ⟨_, rfl⟩
         obtain ⟨N5, hN5⟩ : ∃ N, W3.heap.size = N := ⟨_, rfl⟩
         have b4 : Below W3.heap.size W3 W4 := by rw [← hW4]; exact below_new _ _
         have s4 : SpAt W4 N5 sp0 := by rw [← hW4, ← hN5]; exact spAt_new0 W3
         have q5 : ¬ q.In N5 := fun hin => by have := hn3.lt hin; omega
         have l5 : w.heap.size + 2 ≤ N5 := by have := hk3.size; have := H2.out.l1; omega
         have H4 := Lib.hid (And.intro hW4 (And.intro hN5 (And.intro s4 (And.intro q5 (And.intro l5 (And.intro ((H2.out.kp.trans hk3).below b4) (And.intro (hn3.below b4) (And.intro (r3.block (b4.block _ r3.lt)) (And.intro (show Cells W4 w.heap.size 52 _ from (b4.block _ (Nat.lt_of_lt_of_le H2.out.x.lt hk3.size)).trans x3) (t3.below b4 t3.lt))))))))))
         clear hk3 hn3 r3 x3 t3 hW4 hN5 b4 s4 q5 l5)
      | (refine wpList_alloc80 rfl 5 rfl rfl N5 H4.out.2.1 W4 H4.out.1 ?_)
      | (refine wpList_storeSp rfl (.tmp 5) (.tmp 32) rfl rfl N5 sp0 ⟨qf, ql, false⟩ rfl rfl H4.out.2.2.1 ?_
         intro W5 hW5
         have n5 := H4.out.2.2.2.2.2.2.1.grown hW5.grown H4.out.2.2.2.1
         have k5 := H4.out.2.2.2.2.2.1.grown hW5.grown (.inr (by have := H4.out.2.2.2.2.1; omega))
         have r5 := H4.out.2.2.2.2.2.2.2.1.grown hW5.grown (by have := H4.out.2.2.2.2.1; have := H2.out.n1; omega)
         have x5 : Cells W5 w.heap.size 52 _ := (hW5.grown.block _ H4.out.2.2.2.2.2.2.2.2.1.lt (fun e => by injection e with e; have := H4.out.2.2.2.2.1; omega)).trans H4.out.2.2.2.2.2.2.2.2.1
         have t5 := H4.out.2.2.2.2.2.2.2.2.2.grown hW5.grown (by have := H4.out.2.2.2.2.1; omega)
         have H5 := Lib.hid (And.intro hW5.at_ (And.intro n5 (And.intro k5 (And.intro r5 (And.intro x5 t5)))))
         clear n5 k5 r5 x5 t5 hW5
         clear d0 d1 d2)
      | (refine wpList_loadPl rfl (.tmp 34) rfl N5 16 ql rfl H5.out.1.l ?_)
      | (refine wpList_loadPl rfl (.tmp 36) rfl N5 0 qf rfl H5.out.1.f ?_)
      | (go_at_call 42; refine (link_any q B n1 se S2 ql qf W5 H5.out.2.1 HQ.out.1 HQ.out.2 H5.out.2.2.2.2.2 (by omega)).mono ?_; rintro e W6 ⟨rfl, hk6, hn6⟩
         have s6 := H5.out.1.block (hk6.block _ H5.out.1.lt H4.out.2.2.2.1)
         have r6 := H5.out.2.2.2.1.block (hk6.block _ H5.out.2.2.2.1.lt H2.out.q1)
         have x6 : Cells W6 w.heap.size 52 _ := (hk6.block _ H5.out.2.2.2.2.1.lt H2.out.q0).trans H5.out.2.2.2.2.1
         have H6 := Lib.hid (And.intro s6 (And.intro hn6 (And.intro (H5.out.2.2.1.trans hk6) r6)))
         have d0 := x6.cell 0
         simp at d0
         have e5 := s6.e
         have z5 := s6.z
         clear hk6 hn6 s6 r6 x6)
      | (refine wpList_loadSp rfl (.tmp 5) rfl N5 ⟨qf, ql, true⟩ rfl (H6.out.1.empty true) ?_)
      | (refine wpList_storeSp rfl (.tmp 4) (.tmp 47) rfl rfl N1 sp0 ⟨qf, ql, true⟩ rfl rfl (H6.out.2.2.2.grown (grown_setc W6 N5 32 _) (by have := H4.out.2.2.2.2.1; have := H2.out.n1; omega)) ?_; intro W8 hW8; have H8 := Lib.hid hW8; clear hW8)
      | fail)
    refine bodyPost_ret (v := .agg (spL ⟨qf, ql, true⟩).toArray) (results_sp rfl _ _ N1 _ rfl H8.out.at_) rfl ⟨rfl, ?_, ?_⟩
    · exact (H6.out.2.2.1.grown (grown_setc W6 N5 32 _) (.inr (by have := H4.out.2.2.2.2.1; omega))).grown H8.out.grown (.inr (by have := H2.out.n1; omega))
    · exact ((H6.out.2.1.grown (grown_setc W6 N5 32 _) H4.out.2.2.2.1).grown H8.out.grown H2.out.q1).mono (by omega)
  · go_enter Tryd.func41, Tryd.ntmps41
    go_wp2_with (first
      | (refine wpList_alloc80 rfl 4 rfl rfl N1 (by rw [HS.out.1]; exact HS.out.2.1) W2 (by rw [HS.out.1]; exact HS.out.2.2) ?_)
      | (go_at_call 41; refine C.out.mono ?_; rintro e W3 ⟨rfl, hk3, hn3⟩
         have r3 := H2.out.r.block (hk3.block _ H2.out.r.lt H2.out.q1)
         have x3 := (hk3.block _ H2.out.x.lt H2.out.q0).trans H2.out.x
         have t3 := hk3.tz H2.out.tz (HQ.out.1.out HQ.out.2)
         obtain ⟨W4, hW4⟩ : ∃ W, W3.alloc (.cells Z80 80) = W := ⟨_, rfl⟩
         obtain ⟨N5, hN5⟩ : ∃ N, W3.heap.size = N := ⟨_, rfl⟩
         have b4 : Below W3.heap.size W3 W4 := by rw [← hW4]; exact below_new _ _
         have s4 : SpAt W4 N5 sp0 := by rw [← hW4, ← hN5]; exact spAt_new0 W3
         have q5 : ¬ q.In N5 := fun hin => by have := hn3.lt hin; omega
         have l5 : w.heap.size + 2 ≤ N5 := by have := hk3.size; have := H2.out.l1; omega
         have H4 := Lib.hid (And.intro hW4 (And.intro hN5 (And.intro s4 (And.intro q5 (And.intro l5 (And.intro ((H2.out.kp.trans hk3).below b4) (And.intro (hn3.below b4) (And.intro (r3.block (b4.block _ r3.lt)) (And.intro (show Cells W4 w.heap.size 52 _ from (b4.block _ (Nat.lt_of_lt_of_le H2.out.x.lt hk3.size)).trans x3) (t3.below b4 t3.lt))))))))))
         clear hk3 hn3 r3 x3 t3 hW4 hN5 b4 s4 q5 l5)
      | (refine wpList_alloc80 rfl 5 rfl rfl N5 H4.out.2.1 W4 H4.out.1 ?_)
      | (refine wpList_storeSp rfl (.tmp 5) (.tmp 32) rfl rfl N5 sp0 ⟨qf, ql, true⟩ rfl rfl H4.out.2.2.1 ?_
         intro W5 hW5
         have n5 := H4.out.2.2.2.2.2.2.1.grown hW5.grown H4.out.2.2.2.1
         have k5 := H4.out.2.2.2.2.2.1.grown hW5.grown (.inr (by have := H4.out.2.2.2.2.1; omega))
         have r5 := H4.out.2.2.2.2.2.2.2.1.grown hW5.grown (by have := H4.out.2.2.2.2.1; have := H2.out.n1; omega)
         have x5 : Cells W5 w.heap.size 52 _ := (hW5.grown.block _ H4.out.2.2.2.2.2.2.2.2.1.lt (fun e => by injection e with e; have := H4.out.2.2.2.2.1; omega)).trans H4.out.2.2.2.2.2.2.2.2.1
         have t5 := H4.out.2.2.2.2.2.2.2.2.2.grown hW5.grown (by have := H4.out.2.2.2.2.1; omega)
         have H5 := Lib.hid (And.intro hW5.at_ (And.intro n5 (And.intro k5 (And.intro r5 (And.intro x5 t5)))))
         clear n5 k5 r5 x5 t5 hW5
         clear d0 d1 d2)
      | (refine wpList_loadPl rfl (.tmp 34) rfl N5 16 ql rfl H5.out.1.l ?_)
      | (refine wpList_loadPl rfl (.tmp 36) rfl N5 0 qf rfl H5.out.1.f ?_)
      | (go_at_call 42; refine (link_any q B n1 se S2 ql qf W5 H5.out.2.1 HQ.out.1 HQ.out.2 H5.out.2.2.2.2.2 (by omega)).mono ?_; rintro e W6 ⟨rfl, hk6, hn6⟩
         have s6 := H5.out.1.block (hk6.block _ H5.out.1.lt H4.out.2.2.2.1)
         have r6 := H5.out.2.2.2.1.block (hk6.block _ H5.out.2.2.2.1.lt H2.out.q1)
         have x6 : Cells W6 w.heap.size 52 _ := (hk6.block _ H5.out.2.2.2.2.1.lt H2.out.q0).trans H5.out.2.2.2.2.1
         have H6 := Lib.hid (And.intro s6 (And.intro hn6 (And.intro (H5.out.2.2.1.trans hk6) r6)))
         have d0 := x6.cell 0
         simp at d0
         have e5 := s6.e
         have z5 := s6.z
         clear hk6 hn6 s6 r6 x6)
      | (refine wpList_loadSp rfl (.tmp 5) rfl N5 ⟨qf, ql, true⟩ rfl (H6.out.1.empty true) ?_)
      | (refine wpList_storeSp rfl (.tmp 4) (.tmp 47) rfl rfl N1 sp0 ⟨qf, ql, true⟩ rfl rfl (H6.out.2.2.2.grown (grown_setc W6 N5 32 _) (by have := H4.out.2.2.2.2.1; have := H2.out.n1; omega)) ?_; intro W8 hW8; have H8 := Lib.hid hW8; clear hW8)
      | fail)
    refine bodyPost_ret (v := .agg (spL ⟨qf, ql, true⟩).toArray) (results_sp rfl _ _ N1 _ rfl H8.out.at_) rfl ⟨rfl, ?_, ?_⟩
    · exact (H6.out.2.2.1.grown (grown_setc W6 N5 32 _) (.inr (by have := H4.out.2.2.2.2.1; omega))).grown H8.out.grown (.inr (by have := H2.out.n1; omega))
    · exact ((H6.out.2.1.grown (grown_setc W6 N5 32 _) H4.out.2.2.2.1).grown H8.out.grown H2.out.q1).mono (by omega)

set_option maxHeartbeats 8000000 in
set_option maxRecDepth 100000 in
theorem read7 (c : Int) (f : E) (IH : ReadOk f) (q : Np) (B n : Nat) (se : Bool) (s : St) (v : Value) (w : World) (h : NfaAt w q n se s) (hq : q.Ok B) (hB : B ≤ w.heap.size) (h0 : 0 < B) (hT : TZ w) (hN : Nd w B (.mk 7 c [f]) v)
    (hg : goodE f = true) (hc : s.count + leavesE f ≤ 1000) (hn : n + 5000 * szE f ≤ 900000000000) :
    Calls Tryd.prog 41 #[.pointer (some ⟨q.b, 0, none⟩), v] w fun r w' => r = .returned (.agg (spL (readE (.mk 7 c [f]) s).2).toArray) ∧ Kp q w w' ∧ NfaAt w' q (n + (5000 * szE f - 2500) + 1024) se (readE (.mk 7 c [f]) s).1 := by
  obtain ⟨_, _, A, cap, rfl, hk⟩ := Nd_iff.1 hN
  simp only [E.k, E.c, E.ks] at hk ⊢
  obtain ⟨W1, hW1⟩ : ∃ W, w.alloc (.cells #[.int .i64 7, .int .i64 c, .slice A 1 cap] 52) = W := ⟨_, rfl⟩
  obtain ⟨N1, hN1⟩ : ∃ N, W1.heap.size = N := ⟨_, rfl⟩
  obtain ⟨W2, hW2⟩ : ∃ W, W1.alloc (.cells Z80 80) = W := ⟨_, rfl⟩
  have h2 := rd0 h hB hT hk hW1 hN1 hW2
  have d0 := h2.x.cell 0
  have d1 := h2.x.cell 1
  have d2 := h2.x.cell 2
  simp at d0 d1 d2
  have HS := Lib.hid (And.intro hW1 (And.intro hN1 hW2))
  have H2 := Lib.hid h2
  obtain ⟨b, o, rfl, hbl, hrow⟩ := h2.ks.r (by simp)
  obtain ⟨A', cap', e0, e1, e2, hNd⟩ := row_get' (i := 0) hrow rfl
  rw [show o + 0 * 3 = o by omega] at e0 e1 e2
  have C := Lib.hid (IH q B n se s _ W2 h2.nf hq h2.hB h0 h2.tz hNd hg hc (by omega))
  have HQ := Lib.hid (And.intro hq h0)
  rw [readE_7]
  obtain ⟨R, hR⟩ : ∃ R, readE f s = R := ⟨_, rfl⟩
  rw [hR] at C ⊢
  have hbud : n + (5000 * szE f - 2500) ≤ 1000000000000 := by omega
  generalize n + (5000 * szE f - 2500) = n1 at *
  clear hW1 hN1 hW2 h2 hk hN IH hg hR hbl hrow hNd hq
  obtain ⟨S2, qf, ql, qe⟩ := R
  cases qe
  · go_enter Tryd.func41, Tryd.ntmps41
    go_wp2_with (first
      | (refine wpList_alloc80 rfl 4 rfl rfl N1 (by rw [HS.out.1]; exact HS.out.2.1) W2 (by rw [HS.out.1]; exact HS.out.2.2) ?_)
      | (go_at_call 41; refine C.out.mono ?_; rintro e W3 ⟨rfl, hk3, hn3⟩
         have r3 := H2.out.r.block (hk3.block _ H2.out.r.lt H2.out.q1)
         have x3 := (hk3.block _ H2.out.x.lt H2.out.q0).trans H2.out.x
         have t3 := hk3.tz H2.out.tz (HQ.out.1.out HQ.out.2)
         obtain ⟨W4, hW4⟩ : ∃ W, W3.alloc (.cells Z80 80) = W := ⟨_, rfl⟩
         obtain ⟨N5, hN5⟩ : ∃ N, W3.heap.size = N := ⟨_, rfl⟩
         have b4 : Below W3.heap.size W3 W4 := by rw [← hW4]; exact below_new _ _
         have s4 : SpAt W4 N5 sp0 := by rw [← hW4, ← hN5]; exact spAt_new0 W3
         have q5 : ¬ q.In N5 := fun hin => by have := hn3.lt hin; omega
         have l5 : w.heap.size + 2 ≤ N5 := by have := hk3.size; have := H2.out.l1; omega
         have H4 := Lib.hid (And.intro hW4 (And.intro hN5 (And.intro s4 (And.intro q5 (And.intro l5 (And.intro ((H2.out.kp.trans hk3).below b4) (And.intro (hn3.below b4) (And.intro (r3.block (b4.block _ r3.lt)) (And.intro (show Cells W4 w.heap.size 52 _ from (b4.block _ (Nat.lt_of_lt_of_le H2.out.x.lt hk3.size)).trans x3) (t3.below b4 t3.lt))))))))))
         clear hk3 hn3 r3 x3 t3 hW4 hN5 b4 s4 q5 l5)
      | (refine wpList_alloc80 rfl 5 rfl rfl N5 H4.out.2.1 W4 H4.out.1 ?_)
      | (refine wpList_storeSp rfl (.tmp 5) (.tmp 32) rfl rfl N5 sp0 ⟨qf, ql, false⟩ rfl rfl H4.out.2.2.1 ?_
         intro W5 hW5
         have n5 := H4.out.2.2.2.2.2.2.1.grown hW5.grown H4.out.2.2.2.1
         have k5 := H4.out.2.2.2.2.2.1.grown hW5.grown (.inr (by have := H4.out.2.2.2.2.1; omega))
         have r5 := H4.out.2.2.2.2.2.2.2.1.grown hW5.grown (by have := H4.out.2.2.2.2.1; have := H2.out.n1; omega)
         have x5 : Cells W5 w.heap.size 52 _ := (hW5.grown.block _ H4.out.2.2.2.2.2.2.2.2.1.lt (fun e => by injection e with e; have := H4.out.2.2.2.2.1; omega)).trans H4.out.2.2.2.2.2.2.2.2.1
         have t5 := H4.out.2.2.2.2.2.2.2.2.2.grown hW5.grown (by have := H4.out.2.2.2.2.1; omega)
         have H5 := Lib.hid (And.intro hW5.at_ (And.intro n5 (And.intro k5 (And.intro r5 (And.intro x5 t5)))))
         clear n5 k5 r5 x5 t5 hW5
         clear d0 d1 d2)
      | (refine wpList_loadPl rfl (.tmp 34) rfl N5 16 ql rfl H5.out.1.l ?_)
      | (refine wpList_loadPl rfl (.tmp 36) rfl N5 0 qf rfl H5.out.1.f ?_)
      | (go_at_call 42; refine (link_any q B n1 se S2 ql qf W5 H5.out.2.1 HQ.out.1 HQ.out.2 H5.out.2.2.2.2.2 (by omega)).mono ?_; rintro e W6 ⟨rfl, hk6, hn6⟩
         have s6 := H5.out.1.block (hk6.block _ H5.out.1.lt H4.out.2.2.2.1)
         have r6 := H5.out.2.2.2.1.block (hk6.block _ H5.out.2.2.2.1.lt H2.out.q1)
         have x6 : Cells W6 w.heap.size 52 _ := (hk6.block _ H5.out.2.2.2.2.1.lt H2.out.q0).trans H5.out.2.2.2.2.1
         have H6 := Lib.hid (And.intro s6 (And.intro hn6 (And.intro (H5.out.2.2.1.trans hk6) r6)))
         have d0 := x6.cell 0
         simp at d0
         have e5 := s6.e
         have z5 := s6.z
         clear hk6 hn6 s6 r6 x6)
      | (refine wpList_loadSp rfl (.tmp 5) rfl N5 ⟨qf, ql, false⟩ rfl (H6.out.1.empty false) ?_)
      | (refine wpList_storeSp rfl (.tmp 4) (.tmp 47) rfl rfl N1 sp0 ⟨qf, ql, false⟩ rfl rfl (H6.out.2.2.2.grown (grown_setc W6 N5 32 _) (by have := H4.out.2.2.2.2.1; have := H2.out.n1; omega)) ?_; intro W8 hW8; have H8 := Lib.hid hW8; clear hW8)
      | fail)
    refine bodyPost_ret (v := .agg (spL ⟨qf, ql, false⟩).toArray) (results_sp rfl _ _ N1 _ rfl H8.out.at_) rfl ⟨rfl, ?_, ?_⟩
    · exact (H6.out.2.2.1.grown (grown_setc W6 N5 32 _) (.inr (by have := H4.out.2.2.2.2.1; omega))).grown H8.out.grown (.inr (by have := H2.out.n1; omega))
    · exact ((H6.out.2.1.grown (grown_setc W6 N5 32 _) H4.out.2.2.2.1).grown H8.out.grown H2.out.q1).mono (by omega)
  · go_enter Tryd.func41, Tryd.ntmps41
    go_wp2_with (first
      | (refine wpList_alloc80 rfl 4 rfl rfl N1 (by rw [HS.out.1]; exact HS.out.2.1) W2 (by rw [HS.out.1]; exact HS.out.2.2) ?_)
      | (go_at_call 41; refine C.out.mono ?_; rintro e W3 ⟨rfl, hk3, hn3⟩
         have r3 := H2.out.r.block (hk3.block _ H2.out.r.lt H2.out.q1)
         have x3 := (hk3.block _ H2.out.x.lt H2.out.q0).trans H2.out.x
         have t3 := hk3.tz H2.out.tz (HQ.out.1.out HQ.out.2)
         obtain ⟨W4, hW4⟩ : ∃ W, W3.alloc (.cells Z80 80) = W := ⟨_, rfl⟩
         obtain ⟨N5, hN5⟩ : ∃ N, W3.heap.size = N := ⟨_, rfl⟩
         have b4 : Below W3.heap.size W3 W4 := by rw [← hW4]; exact below_new _ _
         have s4 : SpAt W4 N5 sp0 := by rw [← hW4, ← hN5]; exact spAt_new0 W3
         have q5 : ¬ q.In N5 := fun hin => by have := hn3.lt hin; omega
         have l5 : w.heap.size + 2 ≤ N5 := by have := hk3.size; have := H2.out.l1; omega
         have H4 := Lib.hid (And.intro hW4 (And.intro hN5 (And.intro s4 (And.intro q5 (And.intro l5 (And.intro ((H2.out.kp.trans hk3).below b4) (And.intro (hn3.below b4) (And.intro (r3.block (b4.block _ r3.lt)) (And.intro (show Cells W4 w.heap.size 52 _ from (b4.block _ (Nat.lt_of_lt_of_le H2.out.x.lt hk3.size)).trans x3) (t3.below b4 t3.lt))))))))))
         clear hk3 hn3 r3 x3 t3 hW4 hN5 b4 s4 q5 l5)
      | (refine wpList_alloc80 rfl 5 rfl rfl N5 H4.out.2.1 W4 H4.out.1 ?_)
      | (refine wpList_storeSp rfl (.tmp 5) (.tmp 32) rfl rfl N5 sp0 ⟨qf, ql, true⟩ rfl rfl H4.out.2.2.1 ?_
         intro W5 hW5
         have n5 := H4.out.2.2.2.2.2.2.1.grown hW5.grown H4.out.2.2.2.1
         have k5 := H4.out.2.2.2.2.2.1.grown hW5.grown (.inr (by have := H4.out.2.2.2.2.1; omega))
         have r5 := H4.out.2.2.2.2.2.2.2.1.grown hW5.grown (by have := H4.out.2.2.2.2.1; have := H2.out.n1; omega)
         have x5 : Cells W5 w.heap.size 52 _ := (hW5.grown.block _ H4.out.2.2.2.2.2.2.2.2.1.lt (fun e => by injection e with e; have := H4.out.2.2.2.2.1; omega)).trans H4.out.2.2.2.2.2.2.2.2.1
         have t5 := H4.out.2.2.2.2.2.2.2.2.2.grown hW5.grown (by have := H4.out.2.2.2.2.1; omega)
         have H5 := Lib.hid (And.intro hW5.at_ (And.intro n5 (And.intro k5 (And.intro r5 (And.intro x5 t5)))))
         clear n5 k5 r5 x5 t5 hW5
         clear d0 d1 d2)
      | (refine wpList_loadPl rfl (.tmp 34) rfl N5 16 ql rfl H5.out.1.l ?_)
      | (refine wpList_loadPl rfl (.tmp 36) rfl N5 0 qf rfl H5.out.1.f ?_)
      | (go_at_call 42; refine (link_any q B n1 se S2 ql qf W5 H5.out.2.1 HQ.out.1 HQ.out.2 H5.out.2.2.2.2.2 (by omega)).mono ?_; rintro e W6 ⟨rfl, hk6, hn6⟩
         have s6 := H5.out.1.block (hk6.block _ H5.out.1.lt H4.out.2.2.2.1)
         have r6 := H5.out.2.2.2.1.block (hk6.block _ H5.out.2.2.2.1.lt H2.out.q1)
         have x6 : Cells W6 w.heap.size 52 _ := (hk6.block _ H5.out.2.2.2.2.1.lt H2.out.q0).trans H5.out.2.2.2.2.1
         have H6 := Lib.hid (And.intro s6 (And.intro hn6 (And.intro (H5.out.2.2.1.trans hk6) r6)))
         have d0 := x6.cell 0
         simp at d0
         have e5 := s6.e
         have z5 := s6.z
         clear hk6 hn6 s6 r6 x6)
      | (refine wpList_loadSp rfl (.tmp 5) rfl N5 ⟨qf, ql, true⟩ rfl (H6.out.1.empty true) ?_)
      | (refine wpList_storeSp rfl (.tmp 4) (.tmp 47) rfl rfl N1 sp0 ⟨qf, ql, true⟩ rfl rfl (H6.out.2.2.2.grown (grown_setc W6 N5 32 _) (by have := H4.out.2.2.2.2.1; have := H2.out.n1; omega)) ?_; intro W8 hW8; have H8 := Lib.hid hW8; clear hW8)
      | fail)
    refine bodyPost_ret (v := .agg (spL ⟨qf, ql, true⟩).toArray) (results_sp rfl _ _ N1 _ rfl H8.out.at_) rfl ⟨rfl, ?_, ?_⟩
    · exact (H6.out.2.2.1.grown (grown_setc W6 N5 32 _) (.inr (by have := H4.out.2.2.2.2.1; omega))).grown H8.out.grown (.inr (by have := H2.out.n1; omega))
    · exact ((H6.out.2.1.grown (grown_setc W6 N5 32 _) H4.out.2.2.2.1).grown H8.out.grown H2.out.q1).mono (by omega)

set_option maxHeartbeats 8000000 in
set_option maxRecDepth 100000 in
theorem read8 (c : Int) (f : E) (IH : ReadOk f) (q : Np) (B n : Nat) (se : Bool) (s : St) (v : Value) (w : World) (h : NfaAt w q n se s) (hq : q.Ok B) (hB : B ≤ w.heap.size) (h0 : 0 < B) (hT : TZ w) (hN : Nd w B (.mk 8 c [f]) v)
    (hg : goodE f = true) (hc : s.count + leavesE f ≤ 1000) (hn : n + 5000 * szE f ≤ 900000000000) :
    Calls Tryd.prog 41 #[.pointer (some ⟨q.b, 0, none⟩), v] w fun r w' => r = .returned (.agg (spL (readE (.mk 8 c [f]) s).2).toArray) ∧ Kp q w w' ∧ NfaAt w' q (n + (5000 * szE f - 2500) + 1024) se (readE (.mk 8 c [f]) s).1 := by
  obtain ⟨_, _, A, cap, rfl, hk⟩ := Nd_iff.1 hN
  simp only [E.k, E.c, E.ks] at hk ⊢
  obtain ⟨W1, hW1⟩ : ∃ W, w.alloc (.cells #[.int .i64 8, .int .i64 c, .slice A 1 cap] 52) = W := ⟨_, rfl⟩
  obtain ⟨N1, hN1⟩ : ∃ N, W1.heap.size = N := ⟨_, rfl⟩
  obtain ⟨W2, hW2⟩ : ∃ W, W1.alloc (.cells Z80 80) = W := ⟨_, rfl⟩
  have h2 := rd0 h hB hT hk hW1 hN1 hW2
  have d0 := h2.x.cell 0
  have d1 := h2.x.cell 1
  have d2 := h2.x.cell 2
  simp at d0 d1 d2
  have HS := Lib.hid (And.intro hW1 (And.intro hN1 hW2))
  have H2 := Lib.hid h2
  obtain ⟨b, o, rfl, hbl, hrow⟩ := h2.ks.r (by simp)
  obtain ⟨A', cap', e0, e1, e2, hNd⟩ := row_get' (i := 0) hrow rfl
  rw [show o + 0 * 3 = o by omega] at e0 e1 e2
  have C := Lib.hid (IH q B n se s _ W2 h2.nf hq h2.hB h0 h2.tz hNd hg hc (by omega))
  have HQ := Lib.hid (And.intro hq h0)
  rw [readE_8]
  obtain ⟨R, hR⟩ : ∃ R, readE f s = R := ⟨_, rfl⟩
  rw [hR] at C ⊢
  have hbud : n + (5000 * szE f - 2500) ≤ 1000000000000 := by omega
  generalize n + (5000 * szE f - 2500) = n1 at *
  clear hW1 hN1 hW2 h2 hk hN IH hg hR hbl hrow hNd hq
  obtain ⟨S2, qf, ql, qe⟩ := R
  cases qe
  · go_enter Tryd.func41, Tryd.ntmps41
    go_wp2_with (first
      | (refine wpList_alloc80 rfl 4 rfl rfl N1 (by rw [HS.out.1]; exact HS.out.2.1) W2 (by rw [HS.out.1]; exact HS.out.2.2) ?_)
      | (go_at_call 41; refine C.out.mono ?_; rintro e W3 ⟨rfl, hk3, hn3⟩
         have r3 := H2.out.r.block (hk3.block _ H2.out.r.lt H2.out.q1)
         have x3 := (hk3.block _ H2.out.x.lt H2.out.q0).trans H2.out.x
         have t3 := hk3.tz H2.out.tz (HQ.out.1.out HQ.out.2)
         obtain ⟨W4, hW4⟩ : ∃ W, W3.alloc (.cells Z80 80) = W := ⟨_, rfl⟩
         obtain ⟨N5, hN5⟩ : ∃ N, W3.heap.size = N := ⟨_, rfl⟩
         have b4 : Below W3.heap.size W3 W4 := by rw [← hW4]; exact below_new _ _
         have s4 : SpAt W4 N5 sp0 := by rw [← hW4, ← hN5]; exact spAt_new0 W3
         have q5 : ¬ q.In N5 := fun hin => by have := hn3.lt hin; omega
         have l5 : w.heap.size + 2 ≤ N5 := by have := hk3.size; have := H2.out.l1; omega
         have H4 := Lib.hid (And.intro hW4 (And.intro hN5 (And.intro s4 (And.intro q5 (And.intro l5 (And.intro ((H2.out.kp.trans hk3).below b4) (And.intro (hn3.below b4) (And.intro (r3.block (b4.block _ r3.lt)) (And.intro (show Cells W4 w.heap.size 52 _ from (b4.block _ (Nat.lt_of_lt_of_le H2.out.x.lt hk3.size)).trans x3) (t3.below b4 t3.lt))))))))))
         clear hk3 hn3 r3 x3 t3 hW4 hN5 b4 s4 q5 l5)
      | (refine wpList_alloc80 rfl 6 rfl rfl N5 H4.out.2.1 W4 H4.out.1 ?_)
      | (refine wpList_storeSp rfl (.tmp 6) (.tmp 55) rfl rfl N5 sp0 ⟨qf, ql, false⟩ rfl rfl H4.out.2.2.1 ?_
         intro W5 hW5
         have n5 := H4.out.2.2.2.2.2.2.1.grown hW5.grown H4.out.2.2.2.1
         have k5 := H4.out.2.2.2.2.2.1.grown hW5.grown (.inr (by have := H4.out.2.2.2.2.1; omega))
         have r5 := H4.out.2.2.2.2.2.2.2.1.grown hW5.grown (by have := H4.out.2.2.2.2.1; have := H2.out.n1; omega)
         have x5 : Cells W5 w.heap.size 52 _ := (hW5.grown.block _ H4.out.2.2.2.2.2.2.2.2.1.lt (fun e => by injection e with e; have := H4.out.2.2.2.2.1; omega)).trans H4.out.2.2.2.2.2.2.2.2.1
         have t5 := H4.out.2.2.2.2.2.2.2.2.2.grown hW5.grown (by have := H4.out.2.2.2.2.1; omega)
         have H5 := Lib.hid (And.intro hW5.at_ (And.intro n5 (And.intro k5 (And.intro r5 (And.intro x5 t5)))))
         clear n5 k5 r5 x5 t5 hW5
         have e5 := H5.out.1.e
         have z5 := H5.out.1.z)
      | (refine wpList_loadSp rfl (.tmp 6) rfl N5 ⟨qf, ql, true⟩ rfl (H5.out.1.empty true) ?_)
      | (refine wpList_storeSp rfl (.tmp 4) (.tmp 57) rfl rfl N1 sp0 ⟨qf, ql, true⟩ rfl rfl (H5.out.2.2.2.1.grown (grown_setc W5 N5 32 _) (by have := H4.out.2.2.2.2.1; have := H2.out.n1; omega)) ?_; intro W8 hW8; have H8 := Lib.hid hW8; clear hW8)
      | fail)
    refine bodyPost_ret (v := .agg (spL ⟨qf, ql, true⟩).toArray) (results_sp rfl _ _ N1 _ rfl H8.out.at_) rfl ⟨rfl, ?_, ?_⟩
    · exact (H5.out.2.2.1.grown (grown_setc W5 N5 32 _) (.inr (by have := H4.out.2.2.2.2.1; omega))).grown H8.out.grown (.inr (by have := H2.out.n1; omega))
    · exact ((H5.out.2.1.grown (grown_setc W5 N5 32 _) H4.out.2.2.2.1).grown H8.out.grown H2.out.q1).mono (by omega)
  · go_enter Tryd.func41, Tryd.ntmps41
    go_wp2_with (first
      | (refine wpList_alloc80 rfl 4 rfl rfl N1 (by rw [HS.out.1]; exact HS.out.2.1) W2 (by rw [HS.out.1]; exact HS.out.2.2) ?_)
      | (go_at_call 41; refine C.out.mono ?_; rintro e W3 ⟨rfl, hk3, hn3⟩
         have r3 := H2.out.r.block (hk3.block _ H2.out.r.lt H2.out.q1)
         have x3 := (hk3.block _ H2.out.x.lt H2.out.q0).trans H2.out.x
         have t3 := hk3.tz H2.out.tz (HQ.out.1.out HQ.out.2)
         obtain ⟨W4, hW4⟩ : ∃ W, W3.alloc (.cells Z80 80) = W := ⟨_, rfl⟩
         obtain ⟨N5, hN5⟩ : ∃ N, W3.heap.size = N := ⟨_, rfl⟩
         have b4 : Below W3.heap.size W3 W4 := by rw [← hW4]; exact below_new _ _
         have s4 : SpAt W4 N5 sp0 := by rw [← hW4, ← hN5]; exact spAt_new0 W3
         have q5 : ¬ q.In N5 := fun hin => by have := hn3.lt hin; omega
         have l5 : w.heap.size + 2 ≤ N5 := by have := hk3.size; have := H2.out.l1; omega
         have H4 := Lib.hid (And.intro hW4 (And.intro hN5 (And.intro s4 (And.intro q5 (And.intro l5 (And.intro ((H2.out.kp.trans hk3).below b4) (And.intro (hn3.below b4) (And.intro (r3.block (b4.block _ r3.lt)) (And.intro (show Cells W4 w.heap.size 52 _ from (b4.block _ (Nat.lt_of_lt_of_le H2.out.x.lt hk3.size)).trans x3) (t3.below b4 t3.lt))))))))))
         clear hk3 hn3 r3 x3 t3 hW4 hN5 b4 s4 q5 l5)
      | (refine wpList_alloc80 rfl 6 rfl rfl N5 H4.out.2.1 W4 H4.out.1 ?_)
      | (refine wpList_storeSp rfl (.tmp 6) (.tmp 55) rfl rfl N5 sp0 ⟨qf, ql, true⟩ rfl rfl H4.out.2.2.1 ?_
         intro W5 hW5
         have n5 := H4.out.2.2.2.2.2.2.1.grown hW5.grown H4.out.2.2.2.1
         have k5 := H4.out.2.2.2.2.2.1.grown hW5.grown (.inr (by have := H4.out.2.2.2.2.1; omega))
         have r5 := H4.out.2.2.2.2.2.2.2.1.grown hW5.grown (by have := H4.out.2.2.2.2.1; have := H2.out.n1; omega)
         have x5 : Cells W5 w.heap.size 52 _ := (hW5.grown.block _ H4.out.2.2.2.2.2.2.2.2.1.lt (fun e => by injection e with e; have := H4.out.2.2.2.2.1; omega)).trans H4.out.2.2.2.2.2.2.2.2.1
         have t5 := H4.out.2.2.2.2.2.2.2.2.2.grown hW5.grown (by have := H4.out.2.2.2.2.1; omega)
         have H5 := Lib.hid (And.intro hW5.at_ (And.intro n5 (And.intro k5 (And.intro r5 (And.intro x5 t5)))))
         clear n5 k5 r5 x5 t5 hW5
         have e5 := H5.out.1.e
         have z5 := H5.out.1.z)
      | (refine wpList_loadSp rfl (.tmp 6) rfl N5 ⟨qf, ql, true⟩ rfl (H5.out.1.empty true) ?_)
      | (refine wpList_storeSp rfl (.tmp 4) (.tmp 57) rfl rfl N1 sp0 ⟨qf, ql, true⟩ rfl rfl (H5.out.2.2.2.1.grown (grown_setc W5 N5 32 _) (by have := H4.out.2.2.2.2.1; have := H2.out.n1; omega)) ?_; intro W8 hW8; have H8 := Lib.hid hW8; clear hW8)
      | fail)
    refine bodyPost_ret (v := .agg (spL ⟨qf, ql, true⟩).toArray) (results_sp rfl _ _ N1 _ rfl H8.out.at_) rfl ⟨rfl, ?_, ?_⟩
    · exact (H5.out.2.2.1.grown (grown_setc W5 N5 32 _) (.inr (by have := H4.out.2.2.2.2.1; omega))).grown H8.out.grown (.inr (by have := H2.out.n1; omega))
    · exact ((H5.out.2.1.grown (grown_setc W5 N5 32 _) H4.out.2.2.2.1).grown H8.out.grown H2.out.q1).mono (by omega)
end Go.Proofs.YtlbcicoppglgjaaDoor
