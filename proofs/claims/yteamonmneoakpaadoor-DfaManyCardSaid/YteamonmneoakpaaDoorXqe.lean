/-
  Contracts: (*NFA).read.
  Contracts: read of any right expression.
  Contracts: (*NFA).add.
-/
import Derived.Test.YteamonmneoakpaaDoorXqd
import Derived.Deep.RegionHeld3
namespace Go.Proofs.YteamonmneoakpaaDoor
open Go.RowKit Go.Shelf Go.Lib Go.Great Go.Maps

theorem readE_4 (c : Int) (ks : List E) (s : St) : readE (.mk 4 c ks) s = seqL ks s ⟨0, 0, true⟩ := by unfold readE; simp
theorem readE_5 (c : Int) (ks : List E) (s : St) : readE (.mk 5 c ks) s = altL ks s ⟨0, 0, false⟩ := by unfold readE; simp
theorem readE_6 (c : Int) (f : E) (s : St) : readE (.mk 6 c [f]) s = ((readE f s).1.link (readE f s).2.last (readE f s).2.first, ⟨(readE f s).2.first, (readE f s).2.last, true⟩) := by
  rw [readE]; simp [readE.headL]
theorem readE_7 (c : Int) (f : E) (s : St) : readE (.mk 7 c [f]) s = ((readE f s).1.link (readE f s).2.last (readE f s).2.first, (readE f s).2) := by
  rw [readE]; simp [readE.headL]
theorem readE_8 (c : Int) (f : E) (s : St) : readE (.mk 8 c [f]) s = ((readE f s).1, ⟨(readE f s).2.first, (readE f s).2.last, true⟩) := by
  rw [readE]; simp [readE.headL]
theorem readE_9 (c : Int) (ks : List E) (s : St) : readE (.mk 9 c ks) s = (s, ⟨0, 0, true⟩) := by unfold readE; simp
theorem readE_leaf {k : Int} (c : Int) (ks : List E) (s : St) (h4 : k ≠ 4) (h5 : k ≠ 5) (h6 : k ≠ 6) (h7 : k ≠ 7) (h8 : k ≠ 8) (h9 : k ≠ 9) : readE (.mk k c ks) s = (s.leaf k c, ⟨2 ^ s.count, 2 ^ s.count, false⟩) := by unfold readE; simp [h4, h5, h6, h7, h8, h9]
/-- Behind the first statement of read: the node in its box, the span that will be answered. -/
structure Rd0 (q : Np) (B : Nat) (w W2 : World) (N1 n : Nat) (se : Bool) (s : St) (k c : Int) (A : Option Addr) (ks : List E) (cap : Nat) : Prop where
  kp : Kp q w W2
  nf : NfaAt W2 q n se s
  x : Cells W2 w.heap.size 71 #[.int .i64 k, .int .i64 c, .slice A ks.length cap]
  r : SpAt W2 N1 sp0
  ks : KsAt W2 B ks A cap
  tz : TZ W2
  q0 : ¬ q.In w.heap.size
  q1 : ¬ q.In N1
  n1 : N1 = w.heap.size + 1
  hB : B ≤ W2.heap.size
  l1 : W2.heap.size = w.heap.size + 2
theorem rd0 {q : Np} {B n : Nat} {se : Bool} {s : St} {w W1 W2 : World} {k c : Int} {A : Option Addr} {ks : List E} {cap N1 : Nat} (h : NfaAt w q n se s) (hB : B ≤ w.heap.size) (hT : TZ w) (hk : KsAt w B ks A cap)
    (hW1 : w.alloc (.cells #[.int .i64 k, .int .i64 c, .slice A ks.length cap] 71) = W1) (hN1 : W1.heap.size = N1) (hW2 : W1.alloc (.cells Z80 103) = W2) : Rd0 q B w W2 N1 n se s k c A ks cap := by
  have hz1 : W1.heap.size = w.heap.size + 1 := by rw [← hW1]; simp
  have hz2 : W2.heap.size = w.heap.size + 2 := by rw [← hW2]; simp [hz1]
  have b1 : Below w.heap.size w W1 := by rw [← hW1]; exact below_new _ _
  have b2 : Below W1.heap.size W1 W2 := by rw [← hW2]; exact below_new _ _
  have b12 : Below w.heap.size w W2 := b1.trans (b2.mono (by omega))
  refine ⟨.of_below b12, h.below b12, (b2.block _ (by omega)).trans (by rw [← hW1]; exact cells_new _ _ _), by rw [← hN1, ← hW2]; exact spAt_new0 W1, hk.below (b12.mono hB), hT.below b12 hT.lt, fun hin => by have := h.lt hin; omega, fun hin => by have := h.lt hin; omega, by omega, by omega, hz2⟩

set_option maxHeartbeats 8000000 in
set_option maxRecDepth 100000 in
theorem read9 (c : Int) (ks : List E) (q : Np) (B n : Nat) (se : Bool) (s : St) (v : Value) (w : World) (h : NfaAt w q n se s) (_hq : q.Ok B) (hB : B ≤ w.heap.size) (_h0 : 0 < B) (hT : TZ w) (hN : Nd w B (.mk 9 c ks) v)
    (_hn : n ≤ 900000000000) :
    Calls Tryd.prog 65 #[.pointer (some ⟨q.b, 0, none⟩), v] w fun r w' => r = .returned (.agg (spL (readE (.mk 9 c ks) s).2).toArray) ∧ Kp q w w' ∧ NfaAt w' q (n + 0) se (readE (.mk 9 c ks) s).1 := by
  obtain ⟨_, _, A, cap, rfl, hk⟩ := Nd_iff.1 hN
  simp only [E.k, E.c, E.ks] at hk ⊢
  obtain ⟨W1, hW1⟩ : ∃ W, w.alloc (.cells #[.int .i64 9, .int .i64 c, .slice A ks.length cap] 71) = W := ⟨_, rfl⟩
  obtain ⟨N1, hN1⟩ : ∃ N, W1.heap.size = N := ⟨_, rfl⟩
  obtain ⟨W2, hW2⟩ : ∃ W, W1.alloc (.cells Z80 103) = W := ⟨_, rfl⟩
  have h2 := rd0 h hB hT hk hW1 hN1 hW2
  have d0 := h2.x.cell 0
  have d1 := h2.x.cell 1
  have d2 := h2.x.cell 2
  simp at d0 d1 d2
  have HS := Lib.hid (And.intro hW1 (And.intro hN1 hW2))
  have H2 := Lib.hid h2
  rw [readE_9]
  clear hW1 hN1 hW2 h2 hk hN
  go_enter Tryd.func65, Tryd.ntmps65
  go_wp2_with (first
    | (refine wpList_alloc80 rfl 4 rfl rfl N1 (by rw [HS.out.1]; exact HS.out.2.1) W2 (by rw [HS.out.1]; exact HS.out.2.2) ?_)
    | (refine wpList_buildEmpty rfl rfl ?_)
    | (refine wpList_storeSp rfl (.tmp 4) (.tmp 11) rfl rfl N1 sp0 ⟨0, 0, true⟩ rfl rfl H2.out.r ?_; intro W8 hW8; have H8 := Lib.hid hW8; clear hW8)
    | fail)
  refine bodyPost_ret (v := .agg (spL ⟨0, 0, true⟩).toArray) (results_sp rfl _ _ N1 _ rfl H8.out.at_) rfl ⟨rfl, ?_, ?_⟩
  · exact H2.out.kp.grown H8.out.grown (.inr (by have := H2.out.n1; omega))
  · exact H2.out.nf.grown H8.out.grown H2.out.q1

set_option maxHeartbeats 8000000 in
set_option maxRecDepth 100000 in
theorem read4 (c : Int) (ks : List E) (IH : ∀ e ∈ ks, ReadOk e) (q : Np) (B n : Nat) (se : Bool) (s : St) (v : Value) (w : World) (h : NfaAt w q n se s) (hq : q.Ok B) (hB : B ≤ w.heap.size) (h0 : 0 < B) (hT : TZ w) (hN : Nd w B (.mk 4 c ks) v)
    (hg : goodE.all ks = true) (hc : s.count + lvL ks ≤ 1000) (hn : n + 5000 * szL ks ≤ 900000000000) :
    Calls Tryd.prog 65 #[.pointer (some ⟨q.b, 0, none⟩), v] w fun r w' => r = .returned (.agg (spL (readE (.mk 4 c ks) s).2).toArray) ∧ Kp q w w' ∧ NfaAt w' q (n + 5000 * szL ks) se (readE (.mk 4 c ks) s).1 := by
  obtain ⟨_, _, A, cap, rfl, hk⟩ := Nd_iff.1 hN
  simp only [E.k, E.c, E.ks] at hk ⊢
  obtain ⟨W1, hW1⟩ : ∃ W, w.alloc (.cells #[.int .i64 4, .int .i64 c, .slice A ks.length cap] 71) = W := ⟨_, rfl⟩
  obtain ⟨N1, hN1⟩ : ∃ N, W1.heap.size = N := ⟨_, rfl⟩
  obtain ⟨W2, hW2⟩ : ∃ W, W1.alloc (.cells Z80 103) = W := ⟨_, rfl⟩
  have h2 := rd0 h hB hT hk hW1 hN1 hW2
  have d0 := h2.x.cell 0
  have d1 := h2.x.cell 1
  have d2 := h2.x.cell 2
  simp at d0 d1 d2
  have HS := Lib.hid (And.intro hW1 (And.intro hN1 hW2))
  have H2 := Lib.hid h2
  have C := Lib.hid (seq_any ks IH q B n se s A cap W2 h2.nf hq h2.hB h0 h2.tz h2.ks hg hc hn)
  rw [readE_4]
  obtain ⟨R, hR⟩ : ∃ R, seqL ks s ⟨0, 0, true⟩ = R := ⟨_, rfl⟩
  rw [hR] at C ⊢
  clear hW1 hN1 hW2 h2 hk hN IH hg hR
  go_enter Tryd.func65, Tryd.ntmps65
  go_wp2_with (first
    | (refine wpList_alloc80 rfl 4 rfl rfl N1 (by rw [HS.out.1]; exact HS.out.2.1) W2 (by rw [HS.out.1]; exact HS.out.2.2) ?_)
    | (go_at_call 77; refine C.out.mono ?_; rintro e W3 ⟨rfl, hk3, hn3⟩
       have r3 := H2.out.r.block (hk3.block _ H2.out.r.lt H2.out.q1)
       have H3 := Lib.hid (And.intro hk3 (And.intro hn3 r3))
       clear hk3 hn3 r3)
    | (refine wpList_storeSp rfl (.tmp 4) (.tmp 17) rfl rfl N1 sp0 R.2 rfl rfl H3.out.2.2 ?_; intro W8 hW8; have H8 := Lib.hid hW8; clear hW8)
    | fail)
  refine bodyPost_ret (v := .agg (spL R.2).toArray) (results_sp rfl _ _ N1 _ rfl H8.out.at_) rfl ⟨rfl, ?_, ?_⟩
  · exact (H2.out.kp.trans H3.out.1).grown H8.out.grown (.inr (by have := H2.out.n1; omega))
  · exact H3.out.2.1.grown H8.out.grown H2.out.q1

set_option maxHeartbeats 8000000 in
set_option maxRecDepth 100000 in
theorem read5 (c : Int) (ks : List E) (IH : ∀ e ∈ ks, ReadOk e) (q : Np) (B n : Nat) (se : Bool) (s : St) (v : Value) (w : World) (h : NfaAt w q n se s) (hq : q.Ok B) (hB : B ≤ w.heap.size) (h0 : 0 < B) (hT : TZ w) (hN : Nd w B (.mk 5 c ks) v)
    (hg : goodE.all ks = true) (hc : s.count + lvL ks ≤ 1000) (hn : n + 5000 * szL ks ≤ 900000000000) :
    Calls Tryd.prog 65 #[.pointer (some ⟨q.b, 0, none⟩), v] w fun r w' => r = .returned (.agg (spL (readE (.mk 5 c ks) s).2).toArray) ∧ Kp q w w' ∧ NfaAt w' q (n + 5000 * szL ks) se (readE (.mk 5 c ks) s).1 := by
  obtain ⟨_, _, A, cap, rfl, hk⟩ := Nd_iff.1 hN
  simp only [E.k, E.c, E.ks] at hk ⊢
  obtain ⟨W1, hW1⟩ : ∃ W, w.alloc (.cells #[.int .i64 5, .int .i64 c, .slice A ks.length cap] 71) = W := ⟨_, rfl⟩
  obtain ⟨N1, hN1⟩ : ∃ N, W1.heap.size = N := ⟨_, rfl⟩
  obtain ⟨W2, hW2⟩ : ∃ W, W1.alloc (.cells Z80 103) = W := ⟨_, rfl⟩
  have h2 := rd0 h hB hT hk hW1 hN1 hW2
  have d0 := h2.x.cell 0
  have d1 := h2.x.cell 1
  have d2 := h2.x.cell 2
  simp at d0 d1 d2
  have HS := Lib.hid (And.intro hW1 (And.intro hN1 hW2))
  have H2 := Lib.hid h2
  have C := Lib.hid (alt_any ks IH q B n se s A cap W2 h2.nf hq h2.hB h0 h2.tz h2.ks hg hc hn)
  rw [readE_5]
  obtain ⟨R, hR⟩ : ∃ R, altL ks s ⟨0, 0, false⟩ = R := ⟨_, rfl⟩
  rw [hR] at C ⊢
  clear hW1 hN1 hW2 h2 hk hN IH hg hR
  go_enter Tryd.func65, Tryd.ntmps65
  go_wp2_with (first
    | (refine wpList_alloc80 rfl 4 rfl rfl N1 (by rw [HS.out.1]; exact HS.out.2.1) W2 (by rw [HS.out.1]; exact HS.out.2.2) ?_)
    | (go_at_call 78; refine C.out.mono ?_; rintro e W3 ⟨rfl, hk3, hn3⟩
       have r3 := H2.out.r.block (hk3.block _ H2.out.r.lt H2.out.q1)
       have H3 := Lib.hid (And.intro hk3 (And.intro hn3 r3))
       clear hk3 hn3 r3)
    | (refine wpList_storeSp rfl (.tmp 4) (.tmp 23) rfl rfl N1 sp0 R.2 rfl rfl H3.out.2.2 ?_; intro W8 hW8; have H8 := Lib.hid hW8; clear hW8)
    | fail)
  refine bodyPost_ret (v := .agg (spL R.2).toArray) (results_sp rfl _ _ N1 _ rfl H8.out.at_) rfl ⟨rfl, ?_, ?_⟩
  · exact (H2.out.kp.trans H3.out.1).grown H8.out.grown (.inr (by have := H2.out.n1; omega))
  · exact H3.out.2.1.grown H8.out.grown H2.out.q1

set_option maxHeartbeats 8000000 in
set_option maxRecDepth 100000 in
theorem readLf (k c : Int) (q : Np) (B n : Nat) (se : Bool) (s : St) (v : Value) (w : World) (h : NfaAt w q n se s) (hq : q.Ok B) (hB : B ≤ w.heap.size) (_h0 : 0 < B) (hT : TZ w) (hN : Nd w B (.mk k c []) v)
    (k0 : 0 ≤ k) (k3 : k ≤ 3) (hr : rightE (.mk k c []) = true) (hc : s.count < 1024) (hn : n ≤ 900000000000) :
    Calls Tryd.prog 65 #[.pointer (some ⟨q.b, 0, none⟩), v] w fun r w' => r = .returned (.agg (spL (readE (.mk k c []) s).2).toArray) ∧ Kp q w w' ∧ NfaAt w' q (n + 37) se (readE (.mk k c []) s).1 := by
  obtain ⟨_, _, A, cap, rfl, hk⟩ := Nd_iff.1 hN
  simp only [E.k, E.c, E.ks] at hk ⊢
  obtain ⟨W1, hW1⟩ : ∃ W, w.alloc (.cells #[.int .i64 k, .int .i64 c, .slice A 0 cap] 71) = W := ⟨_, rfl⟩
  obtain ⟨N1, hN1⟩ : ∃ N, W1.heap.size = N := ⟨_, rfl⟩
  obtain ⟨W2, hW2⟩ : ∃ W, W1.alloc (.cells Z80 103) = W := ⟨_, rfl⟩
  have h2 := rd0 h hB hT hk hW1 hN1 hW2
  have d0 := h2.x.cell 0
  have d1 := h2.x.cell 1
  have d2 := h2.x.cell 2
  simp at d0 d1 d2
  have HS := Lib.hid (And.intro hW1 (And.intro hN1 hW2))
  have H2 := Lib.hid h2
  have C := Lib.hid (leaf_any q B n se s k c A cap W2 h2.nf hq h2.hB (Nd_iff.2 ⟨‹_›, ‹_›, A, cap, rfl, h2.ks⟩) (by omega) hr hc (by omega))
  rw [readE_leaf c [] s (by omega) (by omega) (by omega) (by omega) (by omega) (by omega)]
  have k4 : (k == 4) = false := by simp; omega
  have k5 : (k == 5) = false := by simp; omega
  have k6 : (k == 6) = false := by simp; omega
  have k7 : (k == 7) = false := by simp; omega
  have k8 : (k == 8) = false := by simp; omega
  have k9 : (k == 9) = false := by simp; omega
  clear hW1 hN1 hW2 h2 hk hN
  go_enter Tryd.func65, Tryd.ntmps65
  go_wp2_with (first
    | (refine wpList_alloc80 rfl 4 rfl rfl N1 (by rw [HS.out.1]; exact HS.out.2.1) W2 (by rw [HS.out.1]; exact HS.out.2.2) ?_)
    | (go_at_call 79; refine C.out.mono ?_; rintro e W3 ⟨rfl, hk3, hn3⟩
       have r3 := H2.out.r.block (hk3.block _ H2.out.r.lt H2.out.q1)
       have H3 := Lib.hid (And.intro hk3 (And.intro hn3 r3))
       clear hk3 hn3 r3)
    | (refine wpList_storeSp rfl (.tmp 4) (.tmp 60) rfl rfl N1 sp0 ⟨2 ^ s.count, 2 ^ s.count, false⟩ rfl rfl H3.out.2.2 ?_; intro W8 hW8; have H8 := Lib.hid hW8; clear hW8)
    | fail)
  refine bodyPost_ret (v := .agg (spL ⟨2 ^ s.count, 2 ^ s.count, false⟩).toArray) (results_sp rfl _ _ N1 _ rfl H8.out.at_) rfl ⟨rfl, ?_, ?_⟩
  · exact (H2.out.kp.trans H3.out.1).grown H8.out.grown (.inr (by have := H2.out.n1; omega))
  · exact H3.out.2.1.grown H8.out.grown H2.out.q1

set_option maxHeartbeats 8000000 in
set_option maxRecDepth 100000 in
theorem read6 (c : Int) (f : E) (IH : ReadOk f) (q : Np) (B n : Nat) (se : Bool) (s : St) (v : Value) (w : World) (h : NfaAt w q n se s) (hq : q.Ok B) (hB : B ≤ w.heap.size) (h0 : 0 < B) (hT : TZ w) (hN : Nd w B (.mk 6 c [f]) v)
    (hg : goodE f = true) (hc : s.count + leavesE f ≤ 1000) (hn : n + 5000 * szE f ≤ 900000000000) :
    Calls Tryd.prog 65 #[.pointer (some ⟨q.b, 0, none⟩), v] w fun r w' => r = .returned (.agg (spL (readE (.mk 6 c [f]) s).2).toArray) ∧ Kp q w w' ∧ NfaAt w' q (n + (5000 * szE f - 2500) + 1024) se (readE (.mk 6 c [f]) s).1 := by
  obtain ⟨_, _, A, cap, rfl, hk⟩ := Nd_iff.1 hN
  simp only [E.k, E.c, E.ks] at hk ⊢
  obtain ⟨W1, hW1⟩ : ∃ W, w.alloc (.cells #[.int .i64 6, .int .i64 c, .slice A 1 cap] 71) = W := ⟨_, rfl⟩
  obtain ⟨N1, hN1⟩ : ∃ N, W1.heap.size = N := ⟨_, rfl⟩
  obtain ⟨W2, hW2⟩ : ∃ W, W1.alloc (.cells Z80 103) = W := ⟨_, rfl⟩
  have h2 := rd0 h hB hT hk hW1 hN1 hW2
  have d0 := h2.x.cell 0
  have d1 := h2.x.cell 1
  have d2 := h2.x.cell 2
  simp at d0 d1 d2
  have HS := Lib.hid (And.intro hW1 (And.intro hN1 hW2))
  have H2 := Lib.hid h2
  obtain ⟨b, o, rfl, hbl, hrow⟩ := h2.ks.r (by simp)
  obtain ⟨A', cap', e0, e1, e2, hNd⟩ := row_get' (i := 0) hrow rfl
  rw [show o + 0 * 3 = o by omega] at e0 e1 e2
  have C := Lib.hid (IH q B n se s _ W2 h2.nf hq h2.hB h0 h2.tz hNd hg hc (by omega))
  have HQ := Lib.hid (And.intro hq h0)
  rw [readE_6]
  obtain ⟨R, hR⟩ : ∃ R, readE f s = R := ⟨_, rfl⟩
  rw [hR] at C ⊢
  have hbud : n + (5000 * szE f - 2500) ≤ 1000000000000 := by omega
  generalize n + (5000 * szE f - 2500) = n1 at *
  clear hW1 hN1 hW2 h2 hk hN IH hg hR hbl hrow hNd hq
  obtain ⟨S2, qf, ql, qe⟩ := R
  cases qe
  · go_enter Tryd.func65, Tryd.ntmps65
    go_wp2_with (first
      | (refine wpList_alloc80 rfl 4 rfl rfl N1 (by rw [HS.out.1]; exact HS.out.2.1) W2 (by rw [HS.out.1]; exact HS.out.2.2) ?_)
      | (go_at_call 65; refine C.out.mono ?_; rintro e W3 ⟨rfl, hk3, hn3⟩
         have r3 := H2.out.r.block (hk3.block _ H2.out.r.lt H2.out.q1)
         have x3 := (hk3.block _ H2.out.x.lt H2.out.q0).trans H2.out.x
         have t3 := hk3.tz H2.out.tz (HQ.out.1.out HQ.out.2)
         obtain ⟨W4, hW4⟩ : ∃ W, W3.alloc (.cells Z80 103) = W := ⟨_, rfl⟩
         obtain ⟨N5, hN5⟩ : ∃ N, W3.heap.size = N := ⟨_, rfl⟩
         have b4 : Below W3.heap.size W3 W4 := by rw [← hW4]; exact below_new _ _
         have s4 : SpAt W4 N5 sp0 := by rw [← hW4, ← hN5]; exact spAt_new0 W3
         have q5 : ¬ q.In N5 := fun hin => by have := hn3.lt hin; omega
         have l5 : w.heap.size + 2 ≤ N5 := by have := hk3.size; have := H2.out.l1; omega
         have H4 := Lib.hid (And.intro hW4 (And.intro hN5 (And.intro s4 (And.intro q5 (And.intro l5 (And.intro ((H2.out.kp.trans hk3).below b4) (And.intro (hn3.below b4) (And.intro (r3.block (b4.block _ r3.lt)) (And.intro (show Cells W4 w.heap.size 71 _ from (b4.block _ (Nat.lt_of_lt_of_le H2.out.x.lt hk3.size)).trans x3) (t3.below b4 t3.lt))))))))))
         clear hk3 hn3 r3 x3 t3 hW4 hN5 b4 s4 q5 l5)
      | (refine wpList_alloc80 rfl 5 rfl rfl N5 H4.out.2.1 W4 H4.out.1 ?_)
      | (refine wpList_storeSp rfl (.tmp 5) (.tmp 32) rfl rfl N5 sp0 ⟨qf, ql, false⟩ rfl rfl H4.out.2.2.1 ?_
         intro W5 hW5
         have n5 := H4.out.2.2.2.2.2.2.1.grown hW5.grown H4.out.2.2.2.1
         have k5 := H4.out.2.2.2.2.2.1.grown hW5.grown (.inr (by have := H4.out.2.2.2.2.1; omega))
         have r5 := H4.out.2.2.2.2.2.2.2.1.grown hW5.grown (by have := H4.out.2.2.2.2.1; have := H2.out.n1; omega)
         have x5 : Cells W5 w.heap.size 71 _ := (hW5.grown.block _ H4.out.2.2.2.2.2.2.2.2.1.lt (fun e => by injection e with e; have := H4.out.2.2.2.2.1; omega)).trans H4.out.2.2.2.2.2.2.2.2.1
         have t5 := H4.out.2.2.2.2.2.2.2.2.2.grown hW5.grown (by have := H4.out.2.2.2.2.1; omega)
         have H5 := Lib.hid (And.intro hW5.at_ (And.intro n5 (And.intro k5 (And.intro r5 (And.intro x5 t5)))))
         clear n5 k5 r5 x5 t5 hW5
         clear d0 d1 d2)
      | (refine wpList_loadPl rfl (.tmp 34) rfl N5 16 ql rfl H5.out.1.l ?_)
      | (refine wpList_loadPl rfl (.tmp 36) rfl N5 0 qf rfl H5.out.1.f ?_)
      | (go_at_call 66; refine (link_any q B n1 se S2 ql qf W5 H5.out.2.1 HQ.out.1 HQ.out.2 H5.out.2.2.2.2.2 (by omega)).mono ?_; rintro e W6 ⟨rfl, hk6, hn6⟩
         have s6 := H5.out.1.block (hk6.block _ H5.out.1.lt H4.out.2.2.2.1)
         have r6 := H5.out.2.2.2.1.block (hk6.block _ H5.out.2.2.2.1.lt H2.out.q1)
         have x6 : Cells W6 w.heap.size 71 _ := (hk6.block _ H5.out.2.2.2.2.1.lt H2.out.q0).trans H5.out.2.2.2.2.1
         have H6 := Lib.hid (And.intro s6 (And.intro hn6 (And.intro (H5.out.2.2.1.trans hk6) r6)))
         have d0 := x6.cell 0
         simp at d0
         have e5 := s6.e
         have z5 := s6.z
         clear hk6 hn6 s6 r6 x6)
      | (refine wpList_loadSp rfl (.tmp 5) rfl N5 ⟨qf, ql, true⟩ rfl (H6.out.1.empty true) ?_)
      | (refine wpList_storeSp rfl (.tmp 4) (.tmp 47) rfl rfl N1 sp0 ⟨qf, ql, true⟩ rfl rfl (H6.out.2.2.2.grown (grown_setc W6 N5 32 _) (by have := H4.out.2.2.2.2.1; have := H2.out.n1; omega)) ?_; intro W8 hW8; have H8 := Lib.hid hW8; clear hW8)
      | fail)
    refine bodyPost_ret (v := .agg (spL ⟨qf, ql, true⟩).toArray) (results_sp rfl _ _ N1 _ rfl H8.out.at_) rfl ⟨rfl, ?_, ?_⟩
    · exact (H6.out.2.2.1.grown (grown_setc W6 N5 32 _) (.inr (by have := H4.out.2.2.2.2.1; omega))).grown H8.out.grown (.inr (by have := H2.out.n1; omega))
    · exact ((H6.out.2.1.grown (grown_setc W6 N5 32 _) H4.out.2.2.2.1).grown H8.out.grown H2.out.q1).mono (by omega)
  · go_enter Tryd.func65, Tryd.ntmps65
    go_wp2_with (first
      | (refine wpList_alloc80 rfl 4 rfl rfl N1 (by rw [HS.out.1]; exact HS.out.2.1) W2 (by rw [HS.out.1]; exact HS.out.2.2) ?_)
      | (go_at_call 65; refine C.out.mono ?_; rintro e W3 ⟨rfl, hk3, hn3⟩
         have r3 := H2.out.r.block (hk3.block _ H2.out.r.lt H2.out.q1)
         have x3 := (hk3.block _ H2.out.x.lt H2.out.q0).trans H2.out.x
         have t3 := hk3.tz H2.out.tz (HQ.out.1.out HQ.out.2)
         obtain ⟨W4, hW4⟩ : ∃ W, W3.alloc (.cells Z80 103) = W := ⟨_, rfl⟩
         obtain ⟨N5, hN5⟩ : ∃ N, W3.heap.size = N := ⟨_, rfl⟩
         have b4 : Below W3.heap.size W3 W4 := by rw [← hW4]; exact below_new _ _
         have s4 : SpAt W4 N5 sp0 := by rw [← hW4, ← hN5]; exact spAt_new0 W3
         have q5 : ¬ q.In N5 := fun hin => by have := hn3.lt hin; omega
         have l5 : w.heap.size + 2 ≤ N5 := by have := hk3.size; have := H2.out.l1; omega
         have H4 := Lib.hid (And.intro hW4 (And.intro hN5 (And.intro s4 (And.intro q5 (And.intro l5 (And.intro ((H2.out.kp.trans hk3).below b4) (And.intro (hn3.below b4) (And.intro (r3.block (b4.block _ r3.lt)) (And.intro (show Cells W4 w.heap.size 71 _ from (b4.block _ (Nat.lt_of_lt_of_le H2.out.x.lt hk3.size)).trans x3) (t3.below b4 t3.lt))))))))))
         clear hk3 hn3 r3 x3 t3 hW4 hN5 b4 s4 q5 l5)
      | (refine wpList_alloc80 rfl 5 rfl rfl N5 H4.out.2.1 W4 H4.out.1 ?_)
      | (refine wpList_storeSp rfl (.tmp 5) (.tmp 32) rfl rfl N5 sp0 ⟨qf, ql, true⟩ rfl rfl H4.out.2.2.1 ?_
         intro W5 hW5
         have n5 := H4.out.2.2.2.2.2.2.1.grown hW5.grown H4.out.2.2.2.1
         have k5 := H4.out.2.2.2.2.2.1.grown hW5.grown (.inr (by have := H4.out.2.2.2.2.1; omega))
         have r5 := H4.out.2.2.2.2.2.2.2.1.grown hW5.grown (by have := H4.out.2.2.2.2.1; have := H2.out.n1; omega)
         have x5 : Cells W5 w.heap.size 71 _ := (hW5.grown.block _ H4.out.2.2.2.2.2.2.2.2.1.lt (fun e => by injection e with e; have := H4.out.2.2.2.2.1; omega)).trans H4.out.2.2.2.2.2.2.2.2.1
         have t5 := H4.out.2.2.2.2.2.2.2.2.2.grown hW5.grown (by have := H4.out.2.2.2.2.1; omega)
         have H5 := Lib.hid (And.intro hW5.at_ (And.intro n5 (And.intro k5 (And.intro r5 (And.intro x5 t5)))))
         clear n5 k5 r5 x5 t5 hW5
         clear d0 d1 d2)
      | (refine wpList_loadPl rfl (.tmp 34) rfl N5 16 ql rfl H5.out.1.l ?_)
      | (refine wpList_loadPl rfl (.tmp 36) rfl N5 0 qf rfl H5.out.1.f ?_)
      | (go_at_call 66; refine (link_any q B n1 se S2 ql qf W5 H5.out.2.1 HQ.out.1 HQ.out.2 H5.out.2.2.2.2.2 (by omega)).mono ?_; rintro e W6 ⟨rfl, hk6, hn6⟩
         have s6 := H5.out.1.block (hk6.block _ H5.out.1.lt H4.out.2.2.2.1)
         have r6 := H5.out.2.2.2.1.block (hk6.block _ H5.out.2.2.2.1.lt H2.out.q1)
         have x6 : Cells W6 w.heap.size 71 _ := (hk6.block _ H5.out.2.2.2.2.1.lt H2.out.q0).trans H5.out.2.2.2.2.1
         have H6 := Lib.hid (And.intro s6 (And.intro hn6 (And.intro (H5.out.2.2.1.trans hk6) r6)))
         have d0 := x6.cell 0
         simp at d0
         have e5 := s6.e
         have z5 := s6.z
         clear hk6 hn6 s6 r6 x6)
      | (refine wpList_loadSp rfl (.tmp 5) rfl N5 ⟨qf, ql, true⟩ rfl (H6.out.1.empty true) ?_)
      | (refine wpList_storeSp rfl (.tmp 4) (.tmp 47) rfl rfl N1 sp0 ⟨qf, ql, true⟩ rfl rfl (H6.out.2.2.2.grown (grown_setc W6 N5 32 _) (by have := H4.out.2.2.2.2.1; have := H2.out.n1; omega)) ?_; intro W8 hW8; have H8 := Lib.hid hW8; clear hW8)
      | fail)
    refine bodyPost_ret (v := .agg (spL ⟨qf, ql, true⟩).toArray) (results_sp rfl _ _ N1 _ rfl H8.out.at_) rfl ⟨rfl, ?_, ?_⟩
    · exact (H6.out.2.2.1.grown (grown_setc W6 N5 32 _) (.inr (by have := H4.out.2.2.2.2.1; omega))).grown H8.out.grown (.inr (by have := H2.out.n1; omega))
    · exact ((H6.out.2.1.grown (grown_setc W6 N5 32 _) H4.out.2.2.2.1).grown H8.out.grown H2.out.q1).mono (by omega)

set_option maxHeartbeats 8000000 in
set_option maxRecDepth 100000 in
theorem read7 (c : Int) (f : E) (IH : ReadOk f) (q : Np) (B n : Nat) (se : Bool) (s : St) (v : Value) (w : World) (h : NfaAt w q n se s) (hq : q.Ok B) (hB : B ≤ w.heap.size) (h0 : 0 < B) (hT : TZ w) (hN : Nd w B (.mk 7 c [f]) v)
    (hg : goodE f = true) (hc : s.count + leavesE f ≤ 1000) (hn : n + 5000 * szE f ≤ 900000000000) :
    Calls Tryd.prog 65 #[.pointer (some ⟨q.b, 0, none⟩), v] w fun r w' => r = .returned (.agg (spL (readE (.mk 7 c [f]) s).2).toArray) ∧ Kp q w w' ∧ NfaAt w' q (n + (5000 * szE f - 2500) + 1024) se (readE (.mk 7 c [f]) s).1 := by
  obtain ⟨_, _, A, cap, rfl, hk⟩ := Nd_iff.1 hN
  simp only [E.k, E.c, E.ks] at hk ⊢
  obtain ⟨W1, hW1⟩ : ∃ W, w.alloc (.cells #[.int .i64 7, .int .i64 c, .slice A 1 cap] 71) = W := ⟨_, rfl⟩
  obtain ⟨N1, hN1⟩ : ∃ N, W1.heap.size = N := ⟨_, rfl⟩
  obtain ⟨W2, hW2⟩ : ∃ W, W1.alloc (.cells Z80 103) = W := ⟨_, rfl⟩
  have h2 := rd0 h hB hT hk hW1 hN1 hW2
  have d0 := h2.x.cell 0
  have d1 := h2.x.cell 1
  have d2 := h2.x.cell 2
  simp at d0 d1 d2
  have HS := Lib.hid (And.intro hW1 (And.intro hN1 hW2))
  have H2 := Lib.hid h2
  obtain ⟨b, o, rfl, hbl, hrow⟩ := h2.ks.r (by simp)
  obtain ⟨A', cap', e0, e1, e2, hNd⟩ := row_get' (i := 0) hrow rfl
  rw [show o + 0 * 3 = o by omega] at e0 e1 e2
  have C := Lib.hid (IH q B n se s _ W2 h2.nf hq h2.hB h0 h2.tz hNd hg hc (by omega))
  have HQ := Lib.hid (And.intro hq h0)
  rw [readE_7]
  obtain ⟨R, hR⟩ : ∃ R, readE f s = R := ⟨_, rfl⟩
  rw [hR] at C ⊢
  have hbud : n + (5000 * szE f - 2500) ≤ 1000000000000 := by omega
  generalize n + (5000 * szE f - 2500) = n1 at *
  clear hW1 hN1 hW2 h2 hk hN IH hg hR hbl hrow hNd hq
  obtain ⟨S2, qf, ql, qe⟩ := R
  cases qe
  · go_enter Tryd.func65, Tryd.ntmps65
    go_wp2_with (first
      | (refine wpList_alloc80 rfl 4 rfl rfl N1 (by rw [HS.out.1]; exact HS.out.2.1) W2 (by rw [HS.out.1]; exact HS.out.2.2) ?_)
      | (go_at_call 65; refine C.out.mono ?_; rintro e W3 ⟨rfl, hk3, hn3⟩
         have r3 := H2.out.r.block (hk3.block _ H2.out.r.lt H2.out.q1)
         have x3 := (hk3.block _ H2.out.x.lt H2.out.q0).trans H2.out.x
         have t3 := hk3.tz H2.out.tz (HQ.out.1.out HQ.out.2)
         obtain ⟨W4, hW4⟩ : ∃ W, W3.alloc (.cells Z80 103) = W := ⟨_, rfl⟩
         obtain ⟨N5, hN5⟩ : ∃ N, W3.heap.size = N := ⟨_, rfl⟩
         have b4 : Below W3.heap.size W3 W4 := by rw [← hW4]; exact below_new _ _
         have s4 : SpAt W4 N5 sp0 := by rw [← hW4, ← hN5]; exact spAt_new0 W3
         have q5 : ¬ q.In N5 := fun hin => by have := hn3.lt hin; omega
         have l5 : w.heap.size + 2 ≤ N5 := by have := hk3.size; have := H2.out.l1; omega
         have H4 := Lib.hid (And.intro hW4 (And.intro hN5 (And.intro s4 (And.intro q5 (And.intro l5 (And.intro ((H2.out.kp.trans hk3).below b4) (And.intro (hn3.below b4) (And.intro (r3.block (b4.block _ r3.lt)) (And.intro (show Cells W4 w.heap.size 71 _ from (b4.block _ (Nat.lt_of_lt_of_le H2.out.x.lt hk3.size)).trans x3) (t3.below b4 t3.lt))))))))))
         clear hk3 hn3 r3 x3 t3 hW4 hN5 b4 s4 q5 l5)
      | (refine wpList_alloc80 rfl 5 rfl rfl N5 H4.out.2.1 W4 H4.out.1 ?_)
      | (refine wpList_storeSp rfl (.tmp 5) (.tmp 32) rfl rfl N5 sp0 ⟨qf, ql, false⟩ rfl rfl H4.out.2.2.1 ?_
         intro W5 hW5
         have n5 := H4.out.2.2.2.2.2.2.1.grown hW5.grown H4.out.2.2.2.1
         have k5 := H4.out.2.2.2.2.2.1.grown hW5.grown (.inr (by have := H4.out.2.2.2.2.1; omega))
         have r5 := H4.out.2.2.2.2.2.2.2.1.grown hW5.grown (by have := H4.out.2.2.2.2.1; have := H2.out.n1; omega)
         have x5 : Cells W5 w.heap.size 71 _ := (hW5.grown.block _ H4.out.2.2.2.2.2.2.2.2.1.lt (fun e => by injection e with e; have := H4.out.2.2.2.2.1; omega)).trans H4.out.2.2.2.2.2.2.2.2.1
         have t5 := H4.out.2.2.2.2.2.2.2.2.2.grown hW5.grown (by have := H4.out.2.2.2.2.1; omega)
         have H5 := Lib.hid (And.intro hW5.at_ (And.intro n5 (And.intro k5 (And.intro r5 (And.intro x5 t5)))))
         clear n5 k5 r5 x5 t5 hW5
         clear d0 d1 d2)
      | (refine wpList_loadPl rfl (.tmp 34) rfl N5 16 ql rfl H5.out.1.l ?_)
      | (refine wpList_loadPl rfl (.tmp 36) rfl N5 0 qf rfl H5.out.1.f ?_)
      | (go_at_call 66; refine (link_any q B n1 se S2 ql qf W5 H5.out.2.1 HQ.out.1 HQ.out.2 H5.out.2.2.2.2.2 (by omega)).mono ?_; rintro e W6 ⟨rfl, hk6, hn6⟩
         have s6 := H5.out.1.block (hk6.block _ H5.out.1.lt H4.out.2.2.2.1)
         have r6 := H5.out.2.2.2.1.block (hk6.block _ H5.out.2.2.2.1.lt H2.out.q1)
         have x6 : Cells W6 w.heap.size 71 _ := (hk6.block _ H5.out.2.2.2.2.1.lt H2.out.q0).trans H5.out.2.2.2.2.1
         have H6 := Lib.hid (And.intro s6 (And.intro hn6 (And.intro (H5.out.2.2.1.trans hk6) r6)))
         have d0 := x6.cell 0
         simp at d0
         have e5 := s6.e
         have z5 := s6.z
         clear hk6 hn6 s6 r6 x6)
      | (refine wpList_loadSp rfl (.tmp 5) rfl N5 ⟨qf, ql, false⟩ rfl (H6.out.1.empty false) ?_)
      | (refine wpList_storeSp rfl (.tmp 4) (.tmp 47) rfl rfl N1 sp0 ⟨qf, ql, false⟩ rfl rfl (H6.out.2.2.2.grown (grown_setc W6 N5 32 _) (by have := H4.out.2.2.2.2.1; have := H2.out.n1; omega)) ?_; intro W8 hW8; have H8 := Lib.hid hW8; clear hW8)
      | fail)
    refine bodyPost_ret (v := .agg (spL ⟨qf, ql, false⟩).toArray) (results_sp rfl _ _ N1 _ rfl H8.out.at_) rfl ⟨rfl, ?_, ?_⟩
    · exact (H6.out.2.2.1.grown (grown_setc W6 N5 32 _) (.inr (by have := H4.out.2.2.2.2.1; omega))).grown H8.out.grown (.inr (by have := H2.out.n1; omega))
    · exact ((H6.out.2.1.grown (grown_setc W6 N5 32 _) H4.out.2.2.2.1).grown H8.out.grown H2.out.q1).mono (by omega)
  · go_enter Tryd.func65, Tryd.ntmps65
    go_wp2_with (first
      | (refine wpList_alloc80 rfl 4 rfl rfl N1 (by rw [HS.out.1]; exact HS.out.2.1) W2 (by rw [HS.out.1]; exact HS.out.2.2) ?_)
      | (go_at_call 65; refine C.out.mono ?_; rintro e W3 ⟨rfl, hk3, hn3⟩
         have r3 := H2.out.r.block (hk3.block _ H2.out.r.lt H2.out.q1)
         have x3 := (hk3.block _ H2.out.x.lt H2.out.q0).trans H2.out.x
         have t3 := hk3.tz H2.out.tz (HQ.out.1.out HQ.out.2)
         obtain ⟨W4, hW4⟩ : ∃ W, W3.alloc (.cells Z80 103) = W := ⟨_, rfl⟩
         obtain ⟨N5, hN5⟩ : ∃ N, W3.heap.size = N := ⟨_, rfl⟩
         have b4 : Below W3.heap.size W3 W4 := by rw [← hW4]; exact below_new _ _
         have s4 : SpAt W4 N5 sp0 := by rw [← hW4, ← hN5]; exact spAt_new0 W3
         have q5 : ¬ q.In N5 := fun hin => by have := hn3.lt hin; omega
         have l5 : w.heap.size + 2 ≤ N5 := by have := hk3.size; have := H2.out.l1; omega
         have H4 := Lib.hid (And.intro hW4 (And.intro hN5 (And.intro s4 (And.intro q5 (And.intro l5 (And.intro ((H2.out.kp.trans hk3).below b4) (And.intro (hn3.below b4) (And.intro (r3.block (b4.block _ r3.lt)) (And.intro (show Cells W4 w.heap.size 71 _ from (b4.block _ (Nat.lt_of_lt_of_le H2.out.x.lt hk3.size)).trans x3) (t3.below b4 t3.lt))))))))))
         clear hk3 hn3 r3 x3 t3 hW4 hN5 b4 s4 q5 l5)
      | (refine wpList_alloc80 rfl 5 rfl rfl N5 H4.out.2.1 W4 H4.out.1 ?_)
      | (refine wpList_storeSp rfl (.tmp 5) (.tmp 32) rfl rfl N5 sp0 ⟨qf, ql, true⟩ rfl rfl H4.out.2.2.1 ?_
         intro W5 hW5
         have n5 := H4.out.2.2.2.2.2.2.1.grown hW5.grown H4.out.2.2.2.1
         have k5 := H4.out.2.2.2.2.2.1.grown hW5.grown (.inr (by have := H4.out.2.2.2.2.1; omega))
         have r5 := H4.out.2.2.2.2.2.2.2.1.grown hW5.grown (by have := H4.out.2.2.2.2.1; have := H2.out.n1; omega)
         have x5 : Cells W5 w.heap.size 71 _ := (hW5.grown.block _ H4.out.2.2.2.2.2.2.2.2.1.lt (fun e => by injection e with e; have := H4.out.2.2.2.2.1; omega)).trans H4.out.2.2.2.2.2.2.2.2.1
         have t5 := H4.out.2.2.2.2.2.2.2.2.2.grown hW5.grown (by have := H4.out.2.2.2.2.1; omega)
         have H5 := Lib.hid (And.intro hW5.at_ (And.intro n5 (And.intro k5 (And.intro r5 (And.intro x5 t5)))))
         clear n5 k5 r5 x5 t5 hW5
         clear d0 d1 d2)
      | (refine wpList_loadPl rfl (.tmp 34) rfl N5 16 ql rfl H5.out.1.l ?_)
      | (refine wpList_loadPl rfl (.tmp 36) rfl N5 0 qf rfl H5.out.1.f ?_)
      | (go_at_call 66; refine (link_any q B n1 se S2 ql qf W5 H5.out.2.1 HQ.out.1 HQ.out.2 H5.out.2.2.2.2.2 (by omega)).mono ?_; rintro e W6 ⟨rfl, hk6, hn6⟩
         have s6 := H5.out.1.block (hk6.block _ H5.out.1.lt H4.out.2.2.2.1)
         have r6 := H5.out.2.2.2.1.block (hk6.block _ H5.out.2.2.2.1.lt H2.out.q1)
         have x6 : Cells W6 w.heap.size 71 _ := (hk6.block _ H5.out.2.2.2.2.1.lt H2.out.q0).trans H5.out.2.2.2.2.1
         have H6 := Lib.hid (And.intro s6 (And.intro hn6 (And.intro (H5.out.2.2.1.trans hk6) r6)))
         have d0 := x6.cell 0
         simp at d0
         have e5 := s6.e
         have z5 := s6.z
         clear hk6 hn6 s6 r6 x6)
      | (refine wpList_loadSp rfl (.tmp 5) rfl N5 ⟨qf, ql, true⟩ rfl (H6.out.1.empty true) ?_)
      | (refine wpList_storeSp rfl (.tmp 4) (.tmp 47) rfl rfl N1 sp0 ⟨qf, ql, true⟩ rfl rfl (H6.out.2.2.2.grown (grown_setc W6 N5 32 _) (by have := H4.out.2.2.2.2.1; have := H2.out.n1; omega)) ?_; intro W8 hW8; have H8 := Lib.hid hW8; clear hW8)
      | fail)
    refine bodyPost_ret (v := .agg (spL ⟨qf, ql, true⟩).toArray) (results_sp rfl _ _ N1 _ rfl H8.out.at_) rfl ⟨rfl, ?_, ?_⟩
    · exact (H6.out.2.2.1.grown (grown_setc W6 N5 32 _) (.inr (by have := H4.out.2.2.2.2.1; omega))).grown H8.out.grown (.inr (by have := H2.out.n1; omega))
    · exact ((H6.out.2.1.grown (grown_setc W6 N5 32 _) H4.out.2.2.2.1).grown H8.out.grown H2.out.q1).mono (by omega)

set_option maxHeartbeats 8000000 in
set_option maxRecDepth 100000 in
theorem read8 (c : Int) (f : E) (IH : ReadOk f) (q : Np) (B n : Nat) (se : Bool) (s : St) (v : Value) (w : World) (h : NfaAt w q n se s) (hq : q.Ok B) (hB : B ≤ w.heap.size) (h0 : 0 < B) (hT : TZ w) (hN : Nd w B (.mk 8 c [f]) v)
    (hg : goodE f = true) (hc : s.count + leavesE f ≤ 1000) (hn : n + 5000 * szE f ≤ 900000000000) :
    Calls Tryd.prog 65 #[.pointer (some ⟨q.b, 0, none⟩), v] w fun r w' => r = .returned (.agg (spL (readE (.mk 8 c [f]) s).2).toArray) ∧ Kp q w w' ∧ NfaAt w' q (n + (5000 * szE f - 2500) + 1024) se (readE (.mk 8 c [f]) s).1 := by
  obtain ⟨_, _, A, cap, rfl, hk⟩ := Nd_iff.1 hN
  simp only [E.k, E.c, E.ks] at hk ⊢
  obtain ⟨W1, hW1⟩ : ∃ W, w.alloc (.cells #[.int .i64 8, .int .i64 c, .slice A 1 cap] 71) = W := ⟨_, rfl⟩
  obtain ⟨N1, hN1⟩ : ∃ N, W1.heap.size = N := ⟨_, rfl⟩
  obtain ⟨W2, hW2⟩ : ∃ W, W1.alloc (.cells Z80 103) = W := ⟨_, rfl⟩
  have h2 := rd0 h hB hT hk hW1 hN1 hW2
  have d0 := h2.x.cell 0
  have d1 := h2.x.cell 1
  have d2 := h2.x.cell 2
  simp at d0 d1 d2
  have HS := Lib.hid (And.intro hW1 (And.intro hN1 hW2))
  have H2 := Lib.hid h2
  obtain ⟨b, o, rfl, hbl, hrow⟩ := h2.ks.r (by simp)
  obtain ⟨A', cap', e0, e1, e2, hNd⟩ := row_get' (i := 0) hrow rfl
  rw [show o + 0 * 3 = o by omega] at e0 e1 e2
  have C := Lib.hid (IH q B n se s _ W2 h2.nf hq h2.hB h0 h2.tz hNd hg hc (by omega))
  have HQ := Lib.hid (And.intro hq h0)
  rw [readE_8]
  obtain ⟨R, hR⟩ : ∃ R, readE f s = R := ⟨_, rfl⟩
  rw [hR] at C ⊢
  have hbud : n + (5000 * szE f - 2500) ≤ 1000000000000 := by omega
  generalize n + (5000 * szE f - 2500) = n1 at *
  clear hW1 hN1 hW2 h2 hk hN IH hg hR hbl hrow hNd hq
  obtain ⟨S2, qf, ql, qe⟩ := R
  cases qe
  · go_enter Tryd.func65, Tryd.ntmps65
    go_wp2_with (first
      | (refine wpList_alloc80 rfl 4 rfl rfl N1 (by rw [HS.out.1]; exact HS.out.2.1) W2 (by rw [HS.out.1]; exact HS.out.2.2) ?_)
      | (go_at_call 65; refine C.out.mono ?_; rintro e W3 ⟨rfl, hk3, hn3⟩
         have r3 := H2.out.r.block (hk3.block _ H2.out.r.lt H2.out.q1)
         have x3 := (hk3.block _ H2.out.x.lt H2.out.q0).trans H2.out.x
         have t3 := hk3.tz H2.out.tz (HQ.out.1.out HQ.out.2)
         obtain ⟨W4, hW4⟩ : ∃ W, W3.alloc (.cells Z80 103) = W := ⟨_, rfl⟩
         obtain ⟨N5, hN5⟩ : ∃ N, W3.heap.size = N := ⟨_, rfl⟩
         have b4 : Below W3.heap.size W3 W4 := by rw [← hW4]; exact below_new _ _
         have s4 : SpAt W4 N5 sp0 := by rw [← hW4, ← hN5]; exact spAt_new0 W3
         have q5 : ¬ q.In N5 := fun hin => by have := hn3.lt hin; omega
         have l5 : w.heap.size + 2 ≤ N5 := by have := hk3.size; have := H2.out.l1; omega
         have H4 := Lib.hid (And.intro hW4 (And.intro hN5 (And.intro s4 (And.intro q5 (And.intro l5 (And.intro ((H2.out.kp.trans hk3).below b4) (And.intro (hn3.below b4) (And.intro (r3.block (b4.block _ r3.lt)) (And.intro (show Cells W4 w.heap.size 71 _ from (b4.block _ (Nat.lt_of_lt_of_le H2.out.x.lt hk3.size)).trans x3) (t3.below b4 t3.lt))))))))))
         clear hk3 hn3 r3 x3 t3 hW4 hN5 b4 s4 q5 l5)
      | (refine wpList_alloc80 rfl 6 rfl rfl N5 H4.out.2.1 W4 H4.out.1 ?_)
      | (refine wpList_storeSp rfl (.tmp 6) (.tmp 55) rfl rfl N5 sp0 ⟨qf, ql, false⟩ rfl rfl H4.out.2.2.1 ?_
         intro W5 hW5
         have n5 := H4.out.2.2.2.2.2.2.1.grown hW5.grown H4.out.2.2.2.1
         have k5 := H4.out.2.2.2.2.2.1.grown hW5.grown (.inr (by have := H4.out.2.2.2.2.1; omega))
         have r5 := H4.out.2.2.2.2.2.2.2.1.grown hW5.grown (by have := H4.out.2.2.2.2.1; have := H2.out.n1; omega)
         have x5 : Cells W5 w.heap.size 71 _ := (hW5.grown.block _ H4.out.2.2.2.2.2.2.2.2.1.lt (fun e => by injection e with e; have := H4.out.2.2.2.2.1; omega)).trans H4.out.2.2.2.2.2.2.2.2.1
         have t5 := H4.out.2.2.2.2.2.2.2.2.2.grown hW5.grown (by have := H4.out.2.2.2.2.1; omega)
         have H5 := Lib.hid (And.intro hW5.at_ (And.intro n5 (And.intro k5 (And.intro r5 (And.intro x5 t5)))))
         clear n5 k5 r5 x5 t5 hW5
         have e5 := H5.out.1.e
         have z5 := H5.out.1.z)
      | (refine wpList_loadSp rfl (.tmp 6) rfl N5 ⟨qf, ql, true⟩ rfl (H5.out.1.empty true) ?_)
      | (refine wpList_storeSp rfl (.tmp 4) (.tmp 57) rfl rfl N1 sp0 ⟨qf, ql, true⟩ rfl rfl (H5.out.2.2.2.1.grown (grown_setc W5 N5 32 _) (by have := H4.out.2.2.2.2.1; have := H2.out.n1; omega)) ?_; intro W8 hW8; have H8 := Lib.hid hW8; clear hW8)
      | fail)
    refine bodyPost_ret (v := .agg (spL ⟨qf, ql, true⟩).toArray) (results_sp rfl _ _ N1 _ rfl H8.out.at_) rfl ⟨rfl, ?_, ?_⟩
    · exact (H5.out.2.2.1.grown (grown_setc W5 N5 32 _) (.inr (by have := H4.out.2.2.2.2.1; omega))).grown H8.out.grown (.inr (by have := H2.out.n1; omega))
    · exact ((H5.out.2.1.grown (grown_setc W5 N5 32 _) H4.out.2.2.2.1).grown H8.out.grown H2.out.q1).mono (by omega)
  · go_enter Tryd.func65, Tryd.ntmps65
    go_wp2_with (first
      | (refine wpList_alloc80 rfl 4 rfl rfl N1 (by rw [HS.out.1]; exact HS.out.2.1) W2 (by rw [HS.out.1]; exact HS.out.2.2) ?_)
      | (go_at_call 65; refine C.out.mono ?_; rintro e W3 ⟨rfl, hk3, hn3⟩
         have r3 := H2.out.r.block (hk3.block _ H2.out.r.lt H2.out.q1)
         have x3 := (hk3.block _ H2.out.x.lt H2.out.q0).trans H2.out.x
         have t3 := hk3.tz H2.out.tz (HQ.out.1.out HQ.out.2)
         obtain ⟨W4, hW4⟩ : ∃ W, W3.alloc (.cells Z80 103) = W := ⟨_, rfl⟩
         obtain ⟨N5, hN5⟩ : ∃ N, W3.heap.size = N := ⟨_, rfl⟩
         have b4 : Below W3.heap.size W3 W4 := by rw [← hW4]; exact below_new _ _
         have s4 : SpAt W4 N5 sp0 := by rw [← hW4, ← hN5]; exact spAt_new0 W3
         have q5 : ¬ q.In N5 := fun hin => by have := hn3.lt hin; omega
         have l5 : w.heap.size + 2 ≤ N5 := by have := hk3.size; have := H2.out.l1; omega
         have H4 := Lib.hid (And.intro hW4 (And.intro hN5 (And.intro s4 (And.intro q5 (And.intro l5 (And.intro ((H2.out.kp.trans hk3).below b4) (And.intro (hn3.below b4) (And.intro (r3.block (b4.block _ r3.lt)) (And.intro (show Cells W4 w.heap.size 71 _ from (b4.block _ (Nat.lt_of_lt_of_le H2.out.x.lt hk3.size)).trans x3) (t3.below b4 t3.lt))))))))))
         clear hk3 hn3 r3 x3 t3 hW4 hN5 b4 s4 q5 l5)
      | (refine wpList_alloc80 rfl 6 rfl rfl N5 H4.out.2.1 W4 H4.out.1 ?_)
      | (refine wpList_storeSp rfl (.tmp 6) (.tmp 55) rfl rfl N5 sp0 ⟨qf, ql, true⟩ rfl rfl H4.out.2.2.1 ?_
         intro W5 hW5
         have n5 := H4.out.2.2.2.2.2.2.1.grown hW5.grown H4.out.2.2.2.1
         have k5 := H4.out.2.2.2.2.2.1.grown hW5.grown (.inr (by have := H4.out.2.2.2.2.1; omega))
         have r5 := H4.out.2.2.2.2.2.2.2.1.grown hW5.grown (by have := H4.out.2.2.2.2.1; have := H2.out.n1; omega)
         have x5 : Cells W5 w.heap.size 71 _ := (hW5.grown.block _ H4.out.2.2.2.2.2.2.2.2.1.lt (fun e => by injection e with e; have := H4.out.2.2.2.2.1; omega)).trans H4.out.2.2.2.2.2.2.2.2.1
         have t5 := H4.out.2.2.2.2.2.2.2.2.2.grown hW5.grown (by have := H4.out.2.2.2.2.1; omega)
         have H5 := Lib.hid (And.intro hW5.at_ (And.intro n5 (And.intro k5 (And.intro r5 (And.intro x5 t5)))))
         clear n5 k5 r5 x5 t5 hW5
         have e5 := H5.out.1.e
         have z5 := H5.out.1.z)
      | (refine wpList_loadSp rfl (.tmp 6) rfl N5 ⟨qf, ql, true⟩ rfl (H5.out.1.empty true) ?_)
      | (refine wpList_storeSp rfl (.tmp 4) (.tmp 57) rfl rfl N1 sp0 ⟨qf, ql, true⟩ rfl rfl (H5.out.2.2.2.1.grown (grown_setc W5 N5 32 _) (by have := H4.out.2.2.2.2.1; have := H2.out.n1; omega)) ?_; intro W8 hW8; have H8 := Lib.hid hW8; clear hW8)
      | fail)
    refine bodyPost_ret (v := .agg (spL ⟨qf, ql, true⟩).toArray) (results_sp rfl _ _ N1 _ rfl H8.out.at_) rfl ⟨rfl, ?_, ?_⟩
    · exact (H5.out.2.2.1.grown (grown_setc W5 N5 32 _) (.inr (by have := H4.out.2.2.2.2.1; omega))).grown H8.out.grown (.inr (by have := H2.out.n1; omega))
    · exact ((H5.out.2.1.grown (grown_setc W5 N5 32 _) H4.out.2.2.2.1).grown H8.out.grown H2.out.q1).mono (by omega)
end Go.Proofs.YteamonmneoakpaaDoor

namespace Go.Proofs.YteamonmneoakpaaDoor
open Go.RowKit Go.Shelf Go.Lib Go.Great Go.Maps

theorem kids_lt {k c : Int} {ks : List E} {e : E} (h : e ∈ ks) : szE e < szE (.mk k c ks) := szE_kid (e := .mk k c ks) h
theorem shaped_kind {k c : Int} {n : Nat} (h : shapedK k c n = true) : 0 ≤ k ∧ k ≤ 9 := by
  unfold shapedK at h
  by_cases c1 : k = 0 ∨ k = 2
  · omega
  · rw [if_neg c1] at h
    by_cases c2 : k = 1 ∨ k = 3 ∨ k = 9
    · omega
    · rw [if_neg c2] at h
      by_cases c3 : k = 4 ∨ k = 5
      · omega
      · rw [if_neg c3] at h
        by_cases c4 : k = 6 ∨ k = 7 ∨ k = 8
        · omega
        · rw [if_neg c4] at h; cases h
theorem readOk_all : ∀ N e, szE e ≤ N → ReadOk e := by
  intro N
  induction N with
  | zero => intro e h; have := szE_pos e; omega
  | succ N ih =>
    intro e he
    obtain ⟨k, c, ks⟩ := e
    intro q B n se s v w h hq hB h0 hT hN hg hc hn
    obtain ⟨h9, hs, ha⟩ := good_parts hg
    have hz := szE_eq (.mk k c ks)
    simp only [E.ks] at hz
    have IH : ∀ e ∈ ks, ReadOk e := fun e hm => ih e (by have := kids_lt (k := k) (c := c) hm; omega)
    have hk := shaped_kind hs
    by_cases h4 : k = 4
    · subst h4
      have hne : ks ≠ [] := by rintro rfl; have := shaped_many hs (.inl rfl); simp at this
      refine (read4 c ks IH q B n se s v w h hq hB h0 hT hN ha (by rw [leaves_kids hne] at hc; exact hc) (by omega)).mono ?_
      rintro r w' ⟨h1, h2, h3⟩
      exact ⟨h1, h2, h3.mono (by omega)⟩
    · by_cases h5 : k = 5
      · subst h5
        have hne : ks ≠ [] := by rintro rfl; have := shaped_many hs (.inr rfl); simp at this
        refine (read5 c ks IH q B n se s v w h hq hB h0 hT hN ha (by rw [leaves_kids hne] at hc; exact hc) (by omega)).mono ?_
        rintro r w' ⟨h1, h2, h3⟩
        exact ⟨h1, h2, h3.mono (by omega)⟩
      · by_cases h678 : k = 6 ∨ k = 7 ∨ k = 8
        · have h1 := shaped_one hs h678
          obtain ⟨f, rfl⟩ : ∃ f, ks = [f] := by
            match ks, h1 with
            | [f], _ => exact ⟨f, rfl⟩
          have hgf := good_all ha f (by simp)
          have hcf : s.count + leavesE f ≤ 1000 := by rw [leaves_kids (by simp)] at hc; exact hc
          have hzf : szL [f] = szE f := by simp [szL, szE.szL]
          rw [hzf] at hz
          rcases h678 with rfl | rfl | rfl
          · refine (read6 c f (IH f (by simp)) q B n se s v w h hq hB h0 hT hN hgf hcf (by omega)).mono ?_
            rintro r w' ⟨h1, h2, h3⟩
            exact ⟨h1, h2, h3.mono (by omega)⟩
          · refine (read7 c f (IH f (by simp)) q B n se s v w h hq hB h0 hT hN hgf hcf (by omega)).mono ?_
            rintro r w' ⟨h1, h2, h3⟩
            exact ⟨h1, h2, h3.mono (by omega)⟩
          · refine (read8 c f (IH f (by simp)) q B n se s v w h hq hB h0 hT hN hgf hcf (by omega)).mono ?_
            rintro r w' ⟨h1, h2, h3⟩
            exact ⟨h1, h2, h3.mono (by omega)⟩
        · have hl := List.eq_nil_of_length_eq_zero (shaped_leaf hs h4 h5 (by omega) (by omega) (by omega))
          subst hl
          have hsz : szE (.mk k c []) = 1 := by rw [szE_eq]; rfl
          have hr : rightE (.mk k c []) = true := by rw [rightE_good (e := .mk k c []) h9, hg, hsz]; rfl
          have hlv : leavesE (.mk k c []) = 1 := by unfold leavesE; rw [if_pos rfl, if_neg h9]
          refine (readLf k c q B n se s v w h hq hB h0 hT hN (by omega) (by omega) hr (by omega) (by omega)).mono ?_
          rintro r w' ⟨h1, h2, h3⟩
          exact ⟨h1, h2, h3.mono (by omega)⟩
/-- Any right expression. -/
theorem read_any (e : E) (q : Np) (B n : Nat) (se : Bool) (s : St) (v : Value) (w : World) (h : NfaAt w q n se s) (hq : q.Ok B) (hB : B ≤ w.heap.size) (h0 : 0 < B) (hT : TZ w) (hN : Nd w B e v) (hr : rightE e = true) (hc : s.count + leavesE e ≤ 1000)
    (hn : n + 5000 * szE e ≤ 900000000000) : Calls Tryd.prog 65 #[.pointer (some ⟨q.b, 0, none⟩), v] w fun r w' => r = .returned (.agg (spL (readE e s).2).toArray) ∧ Kp q w w' ∧ NfaAt w' q (n + 5000 * szE e) se (readE e s).1 := by
  by_cases h9 : e.k = 9
  · obtain ⟨k, c, ks⟩ := e
    simp only [E.k] at h9
    subst h9
    refine (read9 c ks q B n se s v w h hq hB h0 hT hN (by omega)).mono ?_
    rintro r w' ⟨h1, h2, h3⟩
    exact ⟨h1, h2, h3.mono (by omega)⟩
  · rw [rightE_good h9] at hr
    simp only [Bool.and_eq_true] at hr
    refine (readOk_all _ e (Nat.le_refl _) q B n se s v w h hq hB h0 hT hN hr.1 hc hn).mono ?_
    rintro r w' ⟨h1, h2, h3⟩
    exact ⟨h1, h2, h3.mono (by omega)⟩
theorem leaves_right {e : E} (hr : rightE e = true) (s : St) : (readE e s).1.count = s.count + leavesE e := by
  by_cases h9 : e.k = 9
  · obtain ⟨k, c, ks⟩ := e
    simp only [E.k] at h9
    subst h9
    have hr : shapedK 9 c ks.length = true := by simpa [rightE, E.k, E.c, E.ks] using hr
    have hl := List.eq_nil_of_length_eq_zero (shaped_leaf hr (by decide) (by decide) (by decide) (by decide) (by decide))
    subst hl
    rw [readE_9]
    unfold leavesE
    rw [if_pos rfl, if_pos rfl]
    rfl
  · rw [rightE_good h9] at hr
    simp only [Bool.and_eq_true] at hr
    exact count_readE e s hr.1
end Go.Proofs.YteamonmneoakpaaDoor

namespace Go.Proofs.YteamonmneoakpaaDoor
open Go.RowKit Go.Shelf Go.Lib Go.Great Go.Maps

/-- The first places of a list tell an expression. -/
def tellL (s : St) (l : List Nat) (b : Nat) : St := { s with tells := fun p => if p ∈ l then s.tells p ||| b else s.tells p }
theorem tellL_nil (s : St) (b : Nat) : tellL s [] b = s := by simp [tellL]
theorem tellL_snoc (s : St) (l : List Nat) (p b : Nat) : (tellL s l b).setL p ((tellL s l b).tells p ||| b) = tellL s (l ++ [p]) b := by
  unfold tellL St.setL
  simp only [St.mk.injEq, true_and]
  funext r
  by_cases e : r = p
  · subst e
    simp only [if_true, List.mem_append, List.mem_singleton, or_true]
    by_cases h : r ∈ l
    · rw [if_pos h, or_again]
    · rw [if_neg h]
  · rw [if_neg e]
    simp [e]
theorem tellL_full (s : St) (a b : Nat) : tellL s (posL a) b = s.tell a b := by
  unfold tellL St.tell
  simp only [St.mk.injEq, true_and]
  funext r
  by_cases h : inM a r = true
  · rw [if_pos (mem_posL.2 h), if_pos h]
  · rw [if_neg (fun h2 => h (mem_posL.1 h2)), if_neg h]
theorem inM_one (r : Nat) : inM 1 r = decide (r = 0) := by
  unfold inM
  cases r with
  | zero => simp
  | succ n => simp [Nat.testBit_succ]
theorem tell_one (s : St) (b : Nat) : s.setL 0 (s.tells 0 ||| b) = s.tell 1 b := by
  unfold St.tell St.setL
  simp only [St.mk.injEq, true_and]
  funext r
  rw [inM_one]
  by_cases e : r = 0
  · subst e; simp
  · simp [e]
theorem only0_any (w : World) : Calls Tryd.prog 47 #[.int .i64 0] w fun e w' => e = .returned (.agg (plL 1).toArray) ∧ Below w.heap.size w w' := only_any 0 w (by omega)


set_option maxHeartbeats 8000000 in
set_option maxRecDepth 100000 in
theorem add_any (e : E) (bit : Nat) (q : Np) (B n : Nat) (se : Bool) (s : St) (v : Value) (w : World) (h : NfaAt w q n se s) (hq : q.Ok B) (hB : B ≤ w.heap.size) (h0 : 0 < B) (hT : TZ w) (hN : Nd w B e v) (hr : rightE e = true) (hc : s.count + leavesE e ≤ 1000)
    (hn : n + 5000 * szE e ≤ 800000000000) (hbit : bit < 18446744073709551616) : Calls Tryd.prog 39 #[.pointer (some ⟨q.b, 0, none⟩), v, .int .u64 (bit : Int)] w fun r w' => r = .returned (.tuple #[]) ∧ Kp q w w' ∧ NfaAt w' q (n + 5000 * szE e + 3000) se (addE s e bit) := by
  obtain ⟨_, _, A, cap, rfl, hk⟩ := Nd_iff.1 hN
  obtain ⟨W1, hW1⟩ : ∃ W, w.alloc (.cells #[.int .i64 e.k, .int .i64 e.c, .slice A e.ks.length cap] 71) = W := ⟨_, rfl⟩
  have b1 : Below w.heap.size w W1 := by rw [← hW1]; exact below_new _ _
  have x1 : Cells W1 w.heap.size 71 #[.int .i64 e.k, .int .i64 e.c, .slice A e.ks.length cap] := by rw [← hW1]; exact cells_new _ _ _
  have d0 := x1.cell 0
  have d1 := x1.cell 1
  have d2 := x1.cell 2
  simp at d0 d1 d2
  have C := Lib.hid (read_any e q B n se s _ W1 (h.below b1) hq (by have := b1.size; omega) h0 (hT.below b1 hT.lt) (hN.below (b1.mono hB)) hr hc (by omega))
  have HW1 := Lib.hid hW1
  have H1 := Lib.hid (And.intro b1 (And.intro (hT.below b1 hT.lt) hq))
  obtain ⟨R, hR⟩ : ∃ R, readE e s = R := ⟨_, rfl⟩
  have HA := Lib.hid (show addE s e bit = _ from rfl)
  rw [hR] at C
  have HR := Lib.hid hR
  obtain ⟨n1, hn1⟩ : ∃ n1, n + 5000 * szE e = n1 := ⟨_, rfl⟩
  rw [hn1] at C hn ⊢
  have HQ := Lib.hid (fun k (hk : q.In k) => h.lt hk)
  clear h hT hN hr hc hk hW1 b1 x1 hR hn1 hq
  obtain ⟨S2, qf, ql, qe⟩ := R
  go_enter Tryd.func39, Tryd.ntmps39
  go_wp2_with fail
  rw [HW1.out]
  go_wp2_with (first
    | (go_at_call 65; refine C.out.mono ?_; rintro r W3 ⟨rfl, hk3, hn3⟩
       have t3 := hk3.tz H1.out.2.1 (H1.out.2.2.out h0)
       obtain ⟨W4, hW4⟩ : ∃ W, W3.alloc (.cells Z80 103) = W := ⟨_, rfl⟩
       obtain ⟨N5, hN5⟩ : ∃ N, W3.heap.size = N := ⟨_, rfl⟩
       have b4 : Below W3.heap.size W3 W4 := by rw [← hW4]; exact below_new _ _
       have s4 : SpAt W4 N5 sp0 := by rw [← hW4, ← hN5]; exact spAt_new0 W3
       have q5 : ¬ q.In N5 := fun hin => by have := hn3.lt hin; omega
       have l5 : w.heap.size ≤ N5 := by have := hk3.size; have := H1.out.1.size; omega
       have H4 := Lib.hid (And.intro hW4 (And.intro hN5 (And.intro s4 (And.intro q5 (And.intro l5 (And.intro (((Kp.of_below H1.out.1).trans hk3).below b4) (And.intro (hn3.below b4) (t3.below b4 t3.lt))))))))
       clear hk3 hn3 t3 hW4 hN5 b4 s4 q5 l5 d0 d1 d2)
    | (refine wpList_alloc80 rfl 6 rfl rfl N5 H4.out.2.1 W4 H4.out.1 ?_)
    | (refine wpList_storeSp rfl (.tmp 6) (.tmp 11) rfl rfl N5 sp0 ⟨qf, ql, qe⟩ rfl rfl H4.out.2.2.1 ?_
       intro W5 hW5
       have n5 := H4.out.2.2.2.2.2.2.1.grown hW5.grown H4.out.2.2.2.1
       have k5 := H4.out.2.2.2.2.2.1.grown hW5.grown (.inr H4.out.2.2.2.2.1)
       have t5 := H4.out.2.2.2.2.2.2.2.grown hW5.grown (by have := H4.out.2.2.2.2.1; omega)
       have H5 := Lib.hid (And.intro hW5.at_ (And.intro n5 (And.intro k5 t5)))
       clear n5 k5 t5 hW5)
    | fail)
  -- HAND
  go_wp2_with fail
  refine wp_region_noPanic ?_
  refine wp_region_held_drew (S := fun W => PlAt W N5 0 qf) (by kernel_rfl) H5.out.1.f (fun hH => ?_)
  refine wpAnyH_take (i := 0) (oi := { dst := some 12, op := Op.move (Operand.tmp 0), type := 26, pos := "build.go:17", after := #[], guard := none }) (v := ?_) rfl (by kernel_rfl) (by kernel_rfl) (by kernel_rfl) (fun _ _ _ h => h) (Or.inl ⟨by rfl, ?_⟩) (by exact hH) ?_
  rotate_left
  · intro W hSw
    go_simp
    try with_reducible rfl
  try simp only [Act.put, List.setIfInBounds_toArray, List.set_cons_zero, List.set_cons_succ]
  refine wpAnyH_take (i := 2) (oi := { dst := some 14, op := Op.fieldAddr 103 (Operand.tmp 6) 0, type := 0, pos := "build.go:17", after := #[], guard := none }) (v := ?_) rfl (by kernel_rfl) (by kernel_rfl) (by kernel_rfl) (fun _ _ _ h => h) (Or.inl ⟨by rfl, ?_⟩) (by exact hH) ?_
  rotate_left
  · intro W hSw
    go_simp
    try with_reducible rfl
  try simp only [Act.put, List.setIfInBounds_toArray, List.set_cons_zero, List.set_cons_succ]
  refine wpAnyH_take (i := 3) (oi := { dst := some 15, op := Op.load 88 (Operand.tmp 14), type := 88, pos := "build.go:17", after := #[{ on := 2, ground := Ground.data }], guard := none }) (v := .agg (plL qf).toArray) rfl (by kernel_rfl) (by kernel_rfl) (by kernel_rfl) (fun _ _ _ h => h) (yieldsIf_load_mid (by rfl) 88 (.tmp 14) rfl N5 0 rfl (plL qf) (.array 16 37) (fun W hSw => PlAt.range hSw) Tryd.underlying88 rfl (by rw [plL_len]; exact size70)) (by exact hH) ?_
  try simp only [Act.put, List.setIfInBounds_toArray, List.set_cons_zero, List.set_cons_succ]
  refine wpAnyH_ready (rs := [1]) (by kernel_rfl) (by simp) ?_
  refine AllReadyH.cons (o := { dst := some 13, op := Op.call { callee := Callee.value (Operand.func 47), args := #[Operand.const (Value.int IntKind.i64 0)], argTypes := #[3] }, type := 88, pos := "build.go:17", after := #[], guard := none }) rfl (fun K hK => ?_) AllReadyH.nil
  go_simp
  go_at_call 47
  refine (only0_any W5.drew).mono ?_
  rintro r W6 ⟨rfl, hb6⟩
  have n6 : NfaAt W6 q n1 se S2 := H5.out.2.1.drew.below hb6
  have k6 : Kp q w W6 := H5.out.2.2.1.drew.below hb6
  have t6 : TZ W6 := (show TZ W5.drew from H5.out.2.2.2).below hb6 H5.out.2.2.2.lt
  have s6 : SpAt W6 N5 ⟨qf, ql, qe⟩ := SpAt.block (w := W5) H5.out.1 (hb6.block _ H5.out.1.lt)
  have H6 := Lib.hid (And.intro n6 (And.intro k6 (And.intro t6 s6)))
  clear hb6 n6 k6 t6 s6
  refine hK.out _ _ H6.out.2.2.2.f (fun hH => ?_)
  clear hK K
  try simp only [Act.put, List.setIfInBounds_toArray, List.set_cons_zero, List.set_cons_succ]
  refine wpAnyH_ready (rs := [4]) (by kernel_rfl) (by simp) ?_
  refine AllReadyH.cons (o := { dst := some 16, op := Op.call { callee := Callee.value (Operand.func 66), args := #[Operand.tmp 12, Operand.tmp 13, Operand.tmp 15], argTypes := #[26, 88, 88] }, type := 0, pos := "build.go:17", after := #[{ on := 0, ground := Ground.data }, { on := 1, ground := Ground.data }, { on := 3, ground := Ground.data }, { on := 1, ground := Ground.chain }], guard := none }) rfl (fun K hK => ?_) AllReadyH.nil
  go_simp
  go_at_call 66
  refine (link_any q B n1 se S2 1 qf W6 H6.out.1 H1.out.2.2 h0 H6.out.2.2.1 (by omega)).mono ?_
  rintro r W7 ⟨rfl, hk7, hn7⟩
  have t7 : TZ W7 := hk7.tz H6.out.2.2.1 (H1.out.2.2.out h0)
  have s7 : SpAt W7 N5 ⟨qf, ql, qe⟩ := H6.out.2.2.2.block (hk7.block _ H6.out.2.2.2.lt H4.out.2.2.2.1)
  have H7 := Lib.hid (And.intro hn7 (And.intro (H6.out.2.1.trans hk7) (And.intro t7 s7)))
  clear hk7 hn7 t7 s7
  try go_wp2_with fail
  refine hK.out _ _ H7.out.2.2.2.f (fun hH => ?_)
  clear hK K
  try simp only [Act.put, List.setIfInBounds_toArray, List.set_cons_zero, List.set_cons_succ]
  refine wpAnyH_done (by kernel_rfl) ?_ _
  refine NoPanic.normal ?_
  go_wp2_with fail
  refine (list_any N5 16 ql W7 H7.out.2.2.2.l H7.out.2.2.1).mono ?_
  rintro r W8 ⟨v8, rfl, hown, hb8⟩
  obtain ⟨A8, cap8, rfl, hlc, hcm, hcell⟩ := hown.form
  have hlen : (posL ql).length ≤ 1024 := by rw [posL_eq]; exact posN_len _ _
  have k8 : Kp q w W8 := H7.out.2.1.below hb8
  have n8 : NfaAt W8 q (n1 + 1024) se (S2.link 1 qf) := H7.out.1.below hb8
  have s8 : SpAt W8 N5 ⟨qf, ql, qe⟩ := H7.out.2.2.2.block (hb8.block _ H7.out.2.2.2.lt)
  obtain ⟨S3, hS3⟩ : ∃ S3, S2.link 1 qf = S3 := ⟨_, rfl⟩
  rw [hS3] at n8
  obtain ⟨l, hl⟩ : ∃ l, posL ql = l := ⟨_, rfl⟩
  have hpl := fun (i p : Nat) (hp : (posL ql)[i]? = some p) => posL_lt hp
  rw [hl] at hlen hcell hpl
  simp only [hl]
  obtain ⟨N, hN⟩ : ∃ N, l.length = N := ⟨_, rfl⟩
  rw [hN] at hlen ⊢
  have HL := Lib.hid (And.intro hl (And.intro hN (And.intro hlen (And.intro hcell (And.intro hpl (And.intro hb8.size hS3))))))
  have H8 := Lib.hid (And.intro k8 (And.intro n8 s8))
  clear hown hb8 hlc hcell hl hN hS3 k8 n8 s8 hpl hcm
  go_wp2_with fail
  go_loopw [20] (fun i wr => ∃ k : Nat, i = .int .i64 (k : Int) ∧ k ≤ N ∧ Kp q W8 wr ∧ NfaAt wr q (n1 + 1024 + k) se (tellL S3 (l.take k) bit)) (fun i _ => N - (RowKit.intOf i).toNat)
  case atStart => exact ⟨0, rfl, by omega, Kp.refl _ _, by rw [List.take_zero, tellL_nil]; exact H8.out.2.1⟩
  case round =>
    obtain ⟨k, rfl, hk, hkp, hnf⟩ := hrel
    by_cases hlt : k < N
    · have i1 : (k : Int) < (N : Int) := by omega
      obtain ⟨p, hp⟩ : ∃ p, l[k]? = some p := ⟨l[k]'(by rw [HL.out.2.1]; exact hlt), List.getElem?_eq_getElem _⟩
      obtain ⟨g, rfl, hg1, hg2, hgc⟩ := HL.out.2.2.2.1 (by rintro rfl; simp at hp)
      have hng : ¬ q.In g := fun hin => by have := H7.out.1.lt hin; omega
      have d0 : wr.cell? ⟨g, k, none⟩ = some (.int .i64 (p : Int)) := (World.cell?_of_block (w := W8) (w' := wr) (a := ⟨g, k, none⟩) (hkp.block g hg2 hng)).trans (hgc k p hp)
      have c4 := hnf.c4
      have hp1 := HL.out.2.2.2.2.1 k p hp
      obtain ⟨X, hX⟩ : ∃ X, (tellL S3 (l.take k) bit).tells p = X := ⟨_, rfl⟩
      have hX64 : X < 18446744073709551616 := by rw [← hX]; exact hnf.t p
      have HB := Lib.hid (show bits .or .u64 (X : Int) (bit : Int) = ((X ||| bit : Nat) : Int) from bits_or_u64_nat _ _ hX64 hbit)
      have hXb : X ||| bit < 18446744073709551616 := Nat.or_lt_two_pow (n := 64) hX64 hbit
      have HX := Lib.hid (And.intro hX (And.intro hXb hp1))
      have HK := Lib.hid (And.intro hkp (And.intro hnf hp))
      clear hkp hnf hp hX hng hgc hX64 hXb
      go_wp2_with (first
        | (refine wpList_lookL rfl (.tmp 27) (.tmp 28) rfl HK.out.2.1 (p : Int) (nat64 (by omega)) X (by rw [if_pos (by omega), Int.toNat_natCast]; exact HX.out.1) rfl rfl ?_)
        | (refine wpList_updL rfl (.tmp 27) (.tmp 28) (.tmp 31) rfl HK.out.2.1 H1.out.2.2 (by unfold maxLen; omega) p (by omega) (X ||| bit) HX.out.2.1 _ HB.out rfl rfl rfl ?_
           intro W9 n9 g9
           have hs9 : tellL S3 (l.take (k + 1)) bit = (tellL S3 (l.take k) bit).setL p (X ||| bit) := by
             rw [List.take_add_one, HK.out.2.2]
             simp only [Option.toList_some]
             rw [← tellL_snoc, HX.out.1]
           have hend : ∃ j : Nat, Value.int .i64 ((k : Int) + 1) = .int .i64 (j : Int) ∧ j ≤ N ∧ Kp q W8 W9 ∧ NfaAt W9 q (n1 + 1024 + j) se (tellL S3 (l.take j) bit) :=
             ⟨k + 1, by simp, by omega, HK.out.1.grown g9 (.inl (.inr (.inr (.inr rfl)))), by rw [hs9]; exact n9⟩
           have HEND := Lib.hid hend
           clear n9 g9 hs9 hend)
        | fail)
      go_roundw
      case rel => exact HEND.out
      case measure => simp [RowKit.intOf]; omega
    · obtain rfl : k = N := by omega
      have d1 : ¬ (k : Int) < (k : Int) := by omega
      have e1 : l.take k = l := by rw [← HL.out.2.1, List.take_length]
      rw [e1, ← HL.out.1, tellL_full] at hnf
      have s9 : SpAt wr N5 ⟨qf, ql, qe⟩ := H8.out.2.2.block (hkp.block _ H8.out.2.2.lt H4.out.2.2.2.1)
      have e5 := s9.e
      have c4 := hnf.c4
      have HF : addE s e bit = if qe then (S3.tell ql bit).tell 1 bit else S3.tell ql bit := by
        unfold addE
        rw [HR.out]
        dsimp only
        rw [HL.out.2.2.2.2.2.2]
      have HF := Lib.hid HF
      have HK := Lib.hid (And.intro (H8.out.1.trans hkp) hnf)
      obtain ⟨X, hX⟩ : ∃ X, (S3.tell ql bit).tells 0 = X := ⟨_, rfl⟩
      have hX64 : X < 18446744073709551616 := by rw [← hX]; exact hnf.t 0
      have HB := Lib.hid (show bits .or .u64 (X : Int) (bit : Int) = ((X ||| bit : Nat) : Int) from bits_or_u64_nat _ _ hX64 hbit)
      have hXb : X ||| bit < 18446744073709551616 := Nat.or_lt_two_pow (n := 64) hX64 hbit
      have HX := Lib.hid (And.intro hX hXb)
      clear hkp hnf s9 e1 hX hX64 hXb
      cases qe
      · go_wp2_with fail
        go_end0
        exact ⟨rfl, HK.out.1, HK.out.2.mono (by omega)⟩
      · go_wp2_with (first
          | (refine wpList_lookL rfl (.tmp 38) (.const (.int .i64 0)) rfl HK.out.2 0 (by unfold i64; omega) X (by rw [if_pos (by omega)]; exact HX.out.1) rfl rfl ?_)
          | (refine wpList_updL rfl (.tmp 38) (.const (.int .i64 0)) (.tmp 41) rfl HK.out.2 H1.out.2.2 (by unfold maxLen; omega) 0 (by omega) (X ||| bit) HX.out.2 _ HB.out rfl rfl rfl ?_
             intro W9 n9 g9
             have H9 := Lib.hid (And.intro n9 g9)
             clear n9 g9)
          | fail)
        go_end0
        refine ⟨rfl, HK.out.1.grown H9.out.2 (.inl (.inr (.inr (.inr rfl)))), ?_⟩
        rw [← tell_one, HX.out.1]
        exact H9.out.1.mono (by omega)
end Go.Proofs.YteamonmneoakpaaDoor

