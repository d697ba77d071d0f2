/-
  Contracts: (*NFA).readSeq.
  Contracts: (*NFA).readAlt.
-/
import Derived.Test.YteamonmneoakpaaDoorXqc
namespace Go.Proofs.YteamonmneoakpaaDoor
open Go.RowKit Go.Shelf Go.Lib Go.Great Go.Maps

/-- Some parts have been read. -/
def Lq (q : Np) (w : World) (_B n : Nat) (se : Bool) (s : St) (ks : List E) (N4 N5 i : Nat) (W : World) : Prop :=
  Kp q w W ∧ NfaAt W q (n + 5000 * szL (ks.take i)) se (seqL (ks.take i) s ⟨0, 0, true⟩).1 ∧ SpAt W N4 sp0 ∧ SpAt W N5 (seqL (ks.take i) s ⟨0, 0, true⟩).2
theorem lq_step {q : Np} {w W : World} {B n : Nat} {se : Bool} {s : St} {ks : List E} {N4 N5 N8 i n' : Nat} {f : E} {P Q Q' : Sp} {S S2 : St} {x : Sp} (_ : Fx q w N4 N5 N8) (hf : ks[i]? = some f)
    (hS : seqL (ks.take i) s ⟨0, 0, true⟩ = (S, P) ∧ readE f S = (S2, Q) ∧ n' ≤ n + 5000 * szL (ks.take (i + 1)))
    (h : Sq q w W N4 N5 N8 n' se (S2.link P.last Q.first) x Q')
    (hx : x = ⟨if P.empty then P.first ||| Q.first else P.first, if Q.empty then Q.last ||| P.last else Q.last, P.empty && Q.empty⟩ := by rfl) : Lq q w B n se s ks N4 N5 (i + 1) W := by
  have e1 := seqL_take hf s ⟨0, 0, true⟩
  rw [hS.1] at e1
  have e2 : seqL [f] S P = ((readE f S).1.link P.last (readE f S).2.first, ⟨if P.empty then P.first ||| (readE f S).2.first else P.first, if (readE f S).2.empty then (readE f S).2.last ||| P.last else (readE f S).2.last, P.empty && (readE f S).2.empty⟩) := rfl
  rw [hS.2.1] at e2
  have e3 := e1.trans e2
  unfold Lq
  rw [e3]
  dsimp only
  rw [← hx]
  exact ⟨h.kp, h.nf.mono hS.2.2, h.r, h.a⟩
set_option maxHeartbeats 16000000 in
set_option maxRecDepth 100000 in
theorem seq_any (ks : List E) (IH : ∀ e ∈ ks, ReadOk e) (q : Np) (B n : Nat) (se : Bool) (s : St) (A : Option Addr) (cap : Nat) (w : World) (h : NfaAt w q n se s) (hq : q.Ok B) (hB : B ≤ w.heap.size) (h0 : 0 < B) (hT : TZ w) (hk : KsAt w B ks A cap)
    (hg : goodE.all ks = true) (hc : s.count + lvL ks ≤ 1000) (hn : n + 5000 * szL ks ≤ 900000000000) :
    Calls Tryd.prog 77 #[.pointer (some ⟨q.b, 0, none⟩), .slice A ks.length cap] w fun r w' => r = .returned (.agg (spL (seqL ks s ⟨0, 0, true⟩).2).toArray) ∧ Kp q w w' ∧ NfaAt w' q (n + 5000 * szL ks) se (seqL ks s ⟨0, 0, true⟩).1 := by
  obtain ⟨N4, hN4⟩ : ∃ N, w.heap.size = N := ⟨_, rfl⟩
  obtain ⟨W1, hW1⟩ : ∃ W, w.alloc (.cells Z80 103) = W := ⟨_, rfl⟩
  obtain ⟨N5, hN5⟩ : ∃ N, W1.heap.size = N := ⟨_, rfl⟩
  obtain ⟨W2, hW2⟩ : ∃ W, W1.alloc (.cells Z80 103) = W := ⟨_, rfl⟩
  have hz1 : W1.heap.size = w.heap.size + 1 := by rw [← hW1]; simp
  have b1 : Below w.heap.size w W1 := by rw [← hW1]; exact below_new _ _
  have b2 : Below W1.heap.size W1 W2 := by rw [← hW2]; exact below_new _ _
  have x4 : SpAt W2 N4 sp0 := by
    have : SpAt W1 N4 sp0 := by rw [← hW1, ← hN4]; exact spAt_new0 w
    exact this.block (b2.block _ this.lt)
  have x5 : SpAt W2 N5 sp0 := by rw [← hW2, ← hN5]; exact spAt_new0 W1
  have k2 : Kp q w W2 := (Kp.of_below b1).below b2
  have n2 : NfaAt W2 q n se s := (h.below b1).below b2
  have q4 : ¬ q.In N4 := fun hin => by have := h.lt hin; omega
  have q5 : ¬ q.In N5 := fun hin => by have := h.lt hin; omega
  have hlen : ks.length ≤ 9223372036854775807 := by have := hk.l; have := hk.m; unfold maxLen at this; omega
  have HA := Lib.hid (And.intro hN4 (And.intro hW1 (And.intro hN5 hW2)))
  have H2 := Lib.hid (And.intro x4 (And.intro x5 (And.intro k2 n2)))
  have HQ := Lib.hid (And.intro q4 (And.intro q5 (And.intro (show w.heap.size ≤ N4 by omega) (And.intro (show w.heap.size ≤ N5 by omega) (show N4 ≠ N5 by omega)))))
  have HK := Lib.hid (And.intro hk (And.intro hg (And.intro hc (And.intro hn (And.intro hq (And.intro hB (And.intro h0 hT)))))))
  have HI := Lib.hid IH
  obtain ⟨N, hN⟩ : ∃ N, ks.length = N := ⟨_, rfl⟩
  obtain ⟨R, hR⟩ : ∃ R, seqL ks s ⟨0, 0, true⟩ = R := ⟨_, rfl⟩
  rw [hR]
  have HR := Lib.hid hR
  rw [hN] at hlen ⊢
  have HN := Lib.hid hN
  clear hN4 hW1 hN5 hW2 hz1 b1 b2 x4 x5 k2 n2 q4 q5 hk hg hc hn hq hB h0 hT IH hN h hR
  go_enter Tryd.func77, Tryd.ntmps77
  go_wp2_with (first
    | (refine wpList_alloc80 rfl 4 rfl rfl N4 HA.out.1 W1 HA.out.2.1 ?_)
    | (refine wpList_buildEmpty rfl rfl ?_)
    | (refine wpList_alloc80 rfl 5 rfl rfl N5 HA.out.2.2.1 W2 HA.out.2.2.2 ?_)
    | (refine wpList_storeSp rfl (.tmp 5) (.tmp 9) rfl rfl N5 sp0 ⟨0, 0, true⟩ rfl rfl H2.out.2.1 ?_; intro W3 hW3; have H3 := Lib.hid hW3; clear hW3)
    | fail)
  have k3 : Kp q w W3 := H2.out.2.2.1.grown H3.out.grown (.inr HQ.out.2.2.2.1)
  have n3 : NfaAt W3 q n se s := H2.out.2.2.2.grown H3.out.grown HQ.out.2.1
  have s4 : SpAt W3 N4 sp0 := H2.out.1.grown H3.out.grown HQ.out.2.2.2.2
  have H4 := Lib.hid (show Lq q w B n se s ks N4 N5 0 W3 from ⟨k3, by simpa [szL, szE.szL, seqL, readE.seqL] using n3, s4, H3.out.at_⟩)
  clear k3 n3 s4
  go_loopw [12] (fun v wr => ∃ i : Nat, v = .int .i64 (i : Int) ∧ i ≤ N ∧ Lq q w B n se s ks N4 N5 i wr) (fun v _ => N - (RowKit.intOf v).toNat)
  case atStart => exact ⟨0, rfl, by omega, H4.out⟩
  case round =>
    obtain ⟨i, rfl, hi, hkp, hnf, hs4, hs5⟩ := hrel
    by_cases hlt : i < N
    · have i1 : (i : Int) < (N : Int) := by omega
      obtain ⟨f, hf⟩ : ∃ f, ks[i]? = some f := ⟨ks[i]'(by rw [HN.out]; exact hlt), List.getElem?_eq_getElem _⟩
      obtain ⟨b, o, rfl, hbl, hr⟩ := HK.out.1.r (by rintro rfl; simp at hf)
      obtain ⟨A', cap', d0, d1, d2, hNd⟩ := row_get' hr hf
      have hun : Below B w wr := hkp.under HK.out.2.2.2.2.1 HK.out.2.2.2.2.2.1
      have d0' := (hun.cell (p := ⟨b, o + i * 3, none⟩) hbl).trans d0
      have d1' := (hun.cell (p := ⟨b, o + i * 3 + 1, none⟩) hbl).trans d1
      have d2' := (hun.cell (p := ⟨b, o + i * 3 + 2, none⟩) hbl).trans d2
      obtain ⟨wr', hwr'⟩ : ∃ W, wr.alloc (.cells #[.int .i64 f.k, .int .i64 f.c, .slice A' f.ks.length cap'] 71) = W := ⟨_, rfl⟩
      have bb : Below wr.heap.size wr wr' := by rw [← hwr']; exact below_new _ _
      have hmem := List.mem_of_getElem? hf
      have hgf := good_all HK.out.2.1 f hmem
      obtain ⟨SP, hSP⟩ : ∃ r, seqL (ks.take i) s ⟨0, 0, true⟩ = r := ⟨_, rfl⟩
      rw [hSP] at hnf hs5
      obtain ⟨S, P⟩ := SP
      have hcount : S.count = s.count + lvL (ks.take i) := by
        have := count_seqL (ks.take i) s ⟨0, 0, true⟩ (good_taken HK.out.2.1 i)
        have e : seqL (ks.take i) s ⟨0, 0, true⟩ = readE.seqL (ks.take i) s ⟨0, 0, true⟩ := rfl
        rw [← e, hSP] at this
        exact this
      have hl1 := lvL_take hf
      have hl2 := lvL_take_le ks (i + 1)
      have hz1 := szL_take hf
      have hz2 := szL_take_le ks (i + 1)
      have hcn := HK.out.2.2.1
      have hnn := HK.out.2.2.2.1
      have hwB := HK.out.2.2.2.2.2.1
      have hsz := hkp.size
      have hTr : TZ wr' := (hun.trans (bb.mono (by omega))).block 0 HK.out.2.2.2.2.2.2.1 |> HK.out.2.2.2.2.2.2.2.block
      have hC := HI.out f hmem q B (n + 5000 * szL (ks.take i)) se S (.agg #[.int .i64 f.k, .int .i64 f.c, .slice A' f.ks.length cap']) wr' (hnf.below bb) HK.out.2.2.2.2.1 (by have := bb.size; omega) HK.out.2.2.2.2.2.2.1 hTr
        (hNd.below (hun.trans (bb.mono (by omega)))) hgf (by omega) (by omega)
      obtain ⟨S2Q, hS2Q⟩ : ∃ r, readE f S = r := ⟨_, rfl⟩
      rw [hS2Q] at hC
      obtain ⟨S2, Q⟩ := S2Q
      have hC := Lib.hid hC
      have hbud : n + 5000 * szL (ks.take i) + (5000 * szE f - 2500) + 1024 ≤ n + 5000 * szL (ks.take (i + 1)) := by have := szE_pos f; omega
      have HS := Lib.hid (And.intro hf (And.intro hSP (And.intro hS2Q hbud)))
      have HW := Lib.hid (And.intro hwr' bb)
      have HM := Lib.hid (And.intro hkp (And.intro hs4 (And.intro hs5 (And.intro hTr (show n + 5000 * szL (ks.take i) + (5000 * szE f - 2500) ≤ 1000000000000 by omega)))))
      generalize n + 5000 * szL (ks.take i) + (5000 * szE f - 2500) = n1 at *
      clear hkp hnf hs4 hs5 hun bb hmem hgf hSP hcount hl1 hl2 hz1 hz2 hcn hnn hwB hsz hTr hS2Q hbud hwr' hNd hr hbl d0 d1 d2 hf
      go_wp2_with fail
      rw [HW.out.1]
      refine hC.out.mono ?_
      rintro e w2 ⟨rfl, hk2, hn2⟩
      obtain ⟨W3, hW3⟩ : ∃ W, w2.alloc (.cells Z80 103) = W := ⟨_, rfl⟩
      obtain ⟨N8, hN8⟩ : ∃ N, w2.heap.size = N := ⟨_, rfl⟩
      have kk : Kp q w w2 := (HM.out.1.below HW.out.2).trans hk2
      have t4 : SpAt w2 N4 sp0 := (HM.out.2.1.block (HW.out.2.block _ HM.out.2.1.lt)).block (hk2.block _ (Nat.lt_of_lt_of_le HM.out.2.1.lt HW.out.2.size) HQ.out.1)
      have t5 : SpAt w2 N5 P := (HM.out.2.2.1.block (HW.out.2.block _ HM.out.2.2.1.lt)).block (hk2.block _ (Nat.lt_of_lt_of_le HM.out.2.2.1.lt HW.out.2.size) HQ.out.2.1)
      have t8 : SpAt W3 N8 sp0 := by rw [← hW3, ← hN8]; exact spAt_new0 w2
      have hTw2 : TZ w2 := hk2.tz HM.out.2.2.2.1 (HK.out.2.2.2.2.1.out HK.out.2.2.2.2.2.2.1)
      have HX := Lib.hid (And.intro hW3 (And.intro hN8 (And.intro kk (And.intro t4 (And.intro t5 (And.intro t8 (And.intro hn2 hTw2)))))))
      clear hW3 hN8 kk t4 t5 t8 hn2 hk2 hTw2 d0' d1' d2'
      obtain ⟨pf, pl, pe⟩ := P
      obtain ⟨qf, ql, qe⟩ := Q
      cases pe
      · cases qe
        · skip
          go_wp2_with (first
            | (refine wpList_alloc80 rfl 8 rfl rfl N8 HX.out.2.1 W3 HX.out.1 ?_)
            | (refine wpList_storeSp rfl (.tmp 8) (.tmp 18) rfl rfl N8 sp0 ⟨qf, ql, false⟩ rfl rfl HX.out.2.2.2.2.2.1 ?_
               intro W4 hW4
               have hnew := sq_new HX.out.2.2.1 HX.out.2.2.2.2.2.2.1 HX.out.2.2.2.1 HX.out.2.2.2.2.1 HQ.out.1 HQ.out.2.1 HQ.out.2.2.1 HQ.out.2.2.2.1 HQ.out.2.2.2.2 HX.out.1 (by rw [HX.out.2.1]; exact hW4)
               rw [HX.out.2.1] at hnew
               have HF := Lib.hid hnew.1
               have hT4 : TZ W4 := hnew.2.kp.tz HK.out.2.2.2.2.2.2.2 (HK.out.2.2.2.2.1.out HK.out.2.2.2.2.2.2.1)
               have H4 := Lib.hid (And.intro hnew.2 hT4)
               clear hW4 hnew hT4)
            | (refine wpList_loadPl rfl (.tmp 20) rfl N5 16 pl rfl H4.out.1.a.l ?_)
            | (refine wpList_loadPl rfl (.tmp 22) rfl N8 0 qf rfl H4.out.1.s.f ?_)
            | (go_at_call 66; refine (link_any q B n1 se S2 pl qf W4 H4.out.1.nf HK.out.2.2.2.2.1 HK.out.2.2.2.2.2.2.1 H4.out.2 HM.out.2.2.2.2).mono ?_; rintro e W6 ⟨rfl, hk6, hn6⟩
               have H6 := Lib.hid (H4.out.1.keep HF.out hk6 hn6)
               have e5 := H6.out.a.e
               have z5 := H6.out.a.z
               have e8 := H6.out.s.e
               clear hk6 hn6)
            | (refine wpList_loadPl rfl (.tmp 37) rfl N8 16 ql rfl H6.out.s.l ?_)
            | (refine wpList_storePl rfl (.tmp 39) (.tmp 38) rfl rfl N5 16 pl ql rfl rfl H6.out.a.l ?_
               intro W9 hW9
               have H9 := Lib.hid (H6.out.a2 HF.out hW9)
               clear hW9 e5 z5 e8
               have e5 := H9.out.a.e
               have z5 := H9.out.a.z
               have e8 := H9.out.s.e)
            | fail)
          have s10 := H9.out.a3 HF.out (false && false)
          have hend : ∃ j : Nat, Value.int .i64 ((i : Int) + 1) = .int .i64 (j : Int) ∧ j ≤ N ∧ Lq q w B n se s ks N4 N5 j (W9.setCell ⟨N5, 32, none⟩ (.bool (false && false))) :=
            ⟨i + 1, by simp, by omega, lq_step HF.out HS.out.1 HS.out.2 s10⟩
          have HEND := Lib.hid hend
          clear s10 hend e5 z5 e8
          go_roundw
          case rel => exact HEND.out
          case measure => simp [RowKit.intOf]; omega
        · skip
          go_wp2_with (first
            | (refine wpList_alloc80 rfl 8 rfl rfl N8 HX.out.2.1 W3 HX.out.1 ?_)
            | (refine wpList_storeSp rfl (.tmp 8) (.tmp 18) rfl rfl N8 sp0 ⟨qf, ql, true⟩ rfl rfl HX.out.2.2.2.2.2.1 ?_
               intro W4 hW4
               have hnew := sq_new HX.out.2.2.1 HX.out.2.2.2.2.2.2.1 HX.out.2.2.2.1 HX.out.2.2.2.2.1 HQ.out.1 HQ.out.2.1 HQ.out.2.2.1 HQ.out.2.2.2.1 HQ.out.2.2.2.2 HX.out.1 (by rw [HX.out.2.1]; exact hW4)
               rw [HX.out.2.1] at hnew
               have HF := Lib.hid hnew.1
               have hT4 : TZ W4 := hnew.2.kp.tz HK.out.2.2.2.2.2.2.2 (HK.out.2.2.2.2.1.out HK.out.2.2.2.2.2.2.1)
               have H4 := Lib.hid (And.intro hnew.2 hT4)
               clear hW4 hnew hT4)
            | (refine wpList_loadPl rfl (.tmp 20) rfl N5 16 pl rfl H4.out.1.a.l ?_)
            | (refine wpList_loadPl rfl (.tmp 22) rfl N8 0 qf rfl H4.out.1.s.f ?_)
            | (go_at_call 66; refine (link_any q B n1 se S2 pl qf W4 H4.out.1.nf HK.out.2.2.2.2.1 HK.out.2.2.2.2.2.2.1 H4.out.2 HM.out.2.2.2.2).mono ?_; rintro e W6 ⟨rfl, hk6, hn6⟩
               have H6 := Lib.hid (H4.out.1.keep HF.out hk6 hn6)
               have e5 := H6.out.a.e
               have z5 := H6.out.a.z
               have e8 := H6.out.s.e
               clear hk6 hn6)
            | (refine wpList_loadPl rfl (.tmp 34) rfl N5 16 pl rfl H6.out.a.l ?_)
            | (go_at_call 45; refine (padd_any N8 16 ql pl W6 H6.out.s.l).mono ?_; rintro e W8 ⟨rfl, hW8⟩
               have H8 := Lib.hid (H6.out.s2 HF.out hW8)
               clear hW8 e5 z5 e8
               have e5 := H8.out.a.e
               have z5 := H8.out.a.z
               have e8 := H8.out.s.e)
            | (refine wpList_loadPl rfl (.tmp 37) rfl N8 16 (ql ||| pl) rfl H8.out.s.l ?_)
            | (refine wpList_storePl rfl (.tmp 39) (.tmp 38) rfl rfl N5 16 pl (ql ||| pl) rfl rfl H8.out.a.l ?_
               intro W9 hW9
               have H9 := Lib.hid (H8.out.a2 HF.out hW9)
               clear hW9 e5 z5 e8
               have e5 := H9.out.a.e
               have z5 := H9.out.a.z
               have e8 := H9.out.s.e)
            | fail)
          have s10 := H9.out.a3 HF.out (false && true)
          have hend : ∃ j : Nat, Value.int .i64 ((i : Int) + 1) = .int .i64 (j : Int) ∧ j ≤ N ∧ Lq q w B n se s ks N4 N5 j (W9.setCell ⟨N5, 32, none⟩ (.bool (false && true))) :=
            ⟨i + 1, by simp, by omega, lq_step HF.out HS.out.1 HS.out.2 s10⟩
          have HEND := Lib.hid hend
          clear s10 hend e5 z5 e8
          go_roundw
          case rel => exact HEND.out
          case measure => simp [RowKit.intOf]; omega
      · cases qe
        · skip
          go_wp2_with (first
            | (refine wpList_alloc80 rfl 8 rfl rfl N8 HX.out.2.1 W3 HX.out.1 ?_)
            | (refine wpList_storeSp rfl (.tmp 8) (.tmp 18) rfl rfl N8 sp0 ⟨qf, ql, false⟩ rfl rfl HX.out.2.2.2.2.2.1 ?_
               intro W4 hW4
               have hnew := sq_new HX.out.2.2.1 HX.out.2.2.2.2.2.2.1 HX.out.2.2.2.1 HX.out.2.2.2.2.1 HQ.out.1 HQ.out.2.1 HQ.out.2.2.1 HQ.out.2.2.2.1 HQ.out.2.2.2.2 HX.out.1 (by rw [HX.out.2.1]; exact hW4)
               rw [HX.out.2.1] at hnew
               have HF := Lib.hid hnew.1
               have hT4 : TZ W4 := hnew.2.kp.tz HK.out.2.2.2.2.2.2.2 (HK.out.2.2.2.2.1.out HK.out.2.2.2.2.2.2.1)
               have H4 := Lib.hid (And.intro hnew.2 hT4)
               clear hW4 hnew hT4)
            | (refine wpList_loadPl rfl (.tmp 20) rfl N5 16 pl rfl H4.out.1.a.l ?_)
            | (refine wpList_loadPl rfl (.tmp 22) rfl N8 0 qf rfl H4.out.1.s.f ?_)
            | (go_at_call 66; refine (link_any q B n1 se S2 pl qf W4 H4.out.1.nf HK.out.2.2.2.2.1 HK.out.2.2.2.2.2.2.1 H4.out.2 HM.out.2.2.2.2).mono ?_; rintro e W6 ⟨rfl, hk6, hn6⟩
               have H6 := Lib.hid (H4.out.1.keep HF.out hk6 hn6)
               have e5 := H6.out.a.e
               have z5 := H6.out.a.z
               have e8 := H6.out.s.e
               clear hk6 hn6)
            | (refine wpList_loadPl rfl (.tmp 28) rfl N8 0 qf rfl H6.out.s.f ?_)
            | (go_at_call 45; refine (padd_any N5 0 pf qf W6 H6.out.a.f).mono ?_; rintro e W7 ⟨rfl, hW7⟩
               have H7 := Lib.hid (H6.out.a1 HF.out hW7)
               clear hW7 e5 z5 e8
               have e5 := H7.out.a.e
               have z5 := H7.out.a.z
               have e8 := H7.out.s.e)
            | (refine wpList_loadPl rfl (.tmp 37) rfl N8 16 ql rfl H7.out.s.l ?_)
            | (refine wpList_storePl rfl (.tmp 39) (.tmp 38) rfl rfl N5 16 pl ql rfl rfl H7.out.a.l ?_
               intro W9 hW9
               have H9 := Lib.hid (H7.out.a2 HF.out hW9)
               clear hW9 e5 z5 e8
               have e5 := H9.out.a.e
               have z5 := H9.out.a.z
               have e8 := H9.out.s.e)
            | fail)
          have s10 := H9.out.a3 HF.out (true && false)
          have hend : ∃ j : Nat, Value.int .i64 ((i : Int) + 1) = .int .i64 (j : Int) ∧ j ≤ N ∧ Lq q w B n se s ks N4 N5 j (W9.setCell ⟨N5, 32, none⟩ (.bool (true && false))) :=
            ⟨i + 1, by simp, by omega, lq_step HF.out HS.out.1 HS.out.2 s10⟩
          have HEND := Lib.hid hend
          clear s10 hend e5 z5 e8
          go_roundw
          case rel => exact HEND.out
          case measure => simp [RowKit.intOf]; omega
        · skip
          go_wp2_with (first
            | (refine wpList_alloc80 rfl 8 rfl rfl N8 HX.out.2.1 W3 HX.out.1 ?_)
            | (refine wpList_storeSp rfl (.tmp 8) (.tmp 18) rfl rfl N8 sp0 ⟨qf, ql, true⟩ rfl rfl HX.out.2.2.2.2.2.1 ?_
               intro W4 hW4
               have hnew := sq_new HX.out.2.2.1 HX.out.2.2.2.2.2.2.1 HX.out.2.2.2.1 HX.out.2.2.2.2.1 HQ.out.1 HQ.out.2.1 HQ.out.2.2.1 HQ.out.2.2.2.1 HQ.out.2.2.2.2 HX.out.1 (by rw [HX.out.2.1]; exact hW4)
               rw [HX.out.2.1] at hnew
               have HF := Lib.hid hnew.1
               have hT4 : TZ W4 := hnew.2.kp.tz HK.out.2.2.2.2.2.2.2 (HK.out.2.2.2.2.1.out HK.out.2.2.2.2.2.2.1)
               have H4 := Lib.hid (And.intro hnew.2 hT4)
               clear hW4 hnew hT4)
            | (refine wpList_loadPl rfl (.tmp 20) rfl N5 16 pl rfl H4.out.1.a.l ?_)
            | (refine wpList_loadPl rfl (.tmp 22) rfl N8 0 qf rfl H4.out.1.s.f ?_)
            | (go_at_call 66; refine (link_any q B n1 se S2 pl qf W4 H4.out.1.nf HK.out.2.2.2.2.1 HK.out.2.2.2.2.2.2.1 H4.out.2 HM.out.2.2.2.2).mono ?_; rintro e W6 ⟨rfl, hk6, hn6⟩
               have H6 := Lib.hid (H4.out.1.keep HF.out hk6 hn6)
               have e5 := H6.out.a.e
               have z5 := H6.out.a.z
               have e8 := H6.out.s.e
               clear hk6 hn6)
            | (refine wpList_loadPl rfl (.tmp 34) rfl N5 16 pl rfl H7.out.a.l ?_)
            | (go_at_call 45; refine (padd_any N8 16 ql pl W7 H7.out.s.l).mono ?_; rintro e W8 ⟨rfl, hW8⟩
               have H8 := Lib.hid (H7.out.s2 HF.out hW8)
               clear hW8 e5 z5 e8
               have e5 := H8.out.a.e
               have z5 := H8.out.a.z
               have e8 := H8.out.s.e)
            | (refine wpList_loadPl rfl (.tmp 28) rfl N8 0 qf rfl H6.out.s.f ?_)
            | (go_at_call 45; refine (padd_any N5 0 pf qf W6 H6.out.a.f).mono ?_; rintro e W7 ⟨rfl, hW7⟩
               have H7 := Lib.hid (H6.out.a1 HF.out hW7)
               clear hW7 e5 z5 e8
               have e5 := H7.out.a.e
               have z5 := H7.out.a.z
               have e8 := H7.out.s.e)
            | (refine wpList_loadPl rfl (.tmp 37) rfl N8 16 (ql ||| pl) rfl H8.out.s.l ?_)
            | (refine wpList_storePl rfl (.tmp 39) (.tmp 38) rfl rfl N5 16 pl (ql ||| pl) rfl rfl H8.out.a.l ?_
               intro W9 hW9
               have H9 := Lib.hid (H8.out.a2 HF.out hW9)
               clear hW9 e5 z5 e8
               have e5 := H9.out.a.e
               have z5 := H9.out.a.z
               have e8 := H9.out.s.e)
            | fail)
          have s10 := H9.out.a3 HF.out (true && true)
          have hend : ∃ j : Nat, Value.int .i64 ((i : Int) + 1) = .int .i64 (j : Int) ∧ j ≤ N ∧ Lq q w B n se s ks N4 N5 j (W9.setCell ⟨N5, 32, none⟩ (.bool (true && true))) :=
            ⟨i + 1, by simp, by omega, lq_step HF.out HS.out.1 HS.out.2 s10⟩
          have HEND := Lib.hid hend
          clear s10 hend e5 z5 e8
          go_roundw
          case rel => exact HEND.out
          case measure => simp [RowKit.intOf]; omega
    · obtain rfl : i = N := by omega
      have d1 : ¬ (i : Int) < (i : Int) := by omega
      have e1 : ks.take i = ks := by rw [← HN.out, List.take_length]
      rw [e1, HR.out] at hnf hs5
      have HE := Lib.hid (And.intro hkp (And.intro hnf (And.intro hs4 hs5)))
      clear hkp hnf hs4 hs5 e1
      go_wp2_with (first
        | (refine wpList_loadSp rfl (.tmp 5) rfl N5 R.2 rfl HE.out.2.2.2 ?_)
        | (refine wpList_storeSp rfl (.tmp 4) (.tmp 48) rfl rfl N4 sp0 R.2 rfl rfl HE.out.2.2.1 ?_; intro W8 hW8; have H8 := Lib.hid hW8; clear hW8)
        | fail)
      refine bodyPost_ret (v := .agg (spL R.2).toArray) (results_sp rfl _ _ N4 _ rfl H8.out.at_) rfl ⟨rfl, ?_, ?_⟩
      · exact HE.out.1.grown H8.out.grown (.inr HQ.out.2.2.1)
      · exact HE.out.2.1.grown H8.out.grown HQ.out.1
end Go.Proofs.YteamonmneoakpaaDoor

namespace Go.Proofs.YteamonmneoakpaaDoor
open Go.RowKit Go.Shelf Go.Lib Go.Great Go.Maps

/-- Some parts have been read. -/
def Aq (q : Np) (w : World) (_B n : Nat) (se : Bool) (s : St) (ks : List E) (N4 N5 i : Nat) (W : World) : Prop :=
  Kp q w W ∧ NfaAt W q (n + 5000 * szL (ks.take i)) se (altL (ks.take i) s ⟨0, 0, false⟩).1 ∧ SpAt W N4 sp0 ∧ SpAt W N5 (altL (ks.take i) s ⟨0, 0, false⟩).2
theorem aq_step {q : Np} {w W : World} {B n : Nat} {se : Bool} {s : St} {ks : List E} {N4 N5 N8 i n' : Nat} {f : E} {P Q Q' : Sp} {S S2 : St} {x : Sp} (hf : ks[i]? = some f)
    (hS : altL (ks.take i) s ⟨0, 0, false⟩ = (S, P) ∧ readE f S = (S2, Q) ∧ n' ≤ n + 5000 * szL (ks.take (i + 1)))
    (h : Sq q w W N4 N5 N8 n' se S2 x Q')
    (hx : x = ⟨P.first ||| Q.first, P.last ||| Q.last, P.empty || Q.empty⟩ := by rfl) : Aq q w B n se s ks N4 N5 (i + 1) W := by
  have e1 := altL_take hf s ⟨0, 0, false⟩
  rw [hS.1] at e1
  have e2 : altL [f] S P = ((readE f S).1, ⟨P.first ||| (readE f S).2.first, P.last ||| (readE f S).2.last, P.empty || (readE f S).2.empty⟩) := rfl
  rw [hS.2.1] at e2
  have e3 := e1.trans e2
  unfold Aq
  rw [e3]
  dsimp only
  rw [← hx]
  exact ⟨h.kp, h.nf.mono hS.2.2, h.r, h.a⟩
set_option maxHeartbeats 16000000 in
set_option maxRecDepth 100000 in
theorem alt_any (ks : List E) (IH : ∀ e ∈ ks, ReadOk e) (q : Np) (B n : Nat) (se : Bool) (s : St) (A : Option Addr) (cap : Nat) (w : World) (h : NfaAt w q n se s) (hq : q.Ok B) (hB : B ≤ w.heap.size) (h0 : 0 < B) (hT : TZ w) (hk : KsAt w B ks A cap)
    (hg : goodE.all ks = true) (hc : s.count + lvL ks ≤ 1000) (hn : n + 5000 * szL ks ≤ 900000000000) :
    Calls Tryd.prog 78 #[.pointer (some ⟨q.b, 0, none⟩), .slice A ks.length cap] w fun r w' => r = .returned (.agg (spL (altL ks s ⟨0, 0, false⟩).2).toArray) ∧ Kp q w w' ∧ NfaAt w' q (n + 5000 * szL ks) se (altL ks s ⟨0, 0, false⟩).1 := by
  obtain ⟨N4, hN4⟩ : ∃ N, w.heap.size = N := ⟨_, rfl⟩
  obtain ⟨W1, hW1⟩ : ∃ W, w.alloc (.cells Z80 103) = W := ⟨_, rfl⟩
  obtain ⟨N5, hN5⟩ : ∃ N, W1.heap.size = N := ⟨_, rfl⟩
  obtain ⟨W2, hW2⟩ : ∃ W, W1.alloc (.cells Z80 103) = W := ⟨_, rfl⟩
  have hz1 : W1.heap.size = w.heap.size + 1 := by rw [← hW1]; simp
  have b1 : Below w.heap.size w W1 := by rw [← hW1]; exact below_new _ _
  have b2 : Below W1.heap.size W1 W2 := by rw [← hW2]; exact below_new _ _
  have x4 : SpAt W2 N4 sp0 := by
    have : SpAt W1 N4 sp0 := by rw [← hW1, ← hN4]; exact spAt_new0 w
    exact this.block (b2.block _ this.lt)
  have x5 : SpAt W2 N5 sp0 := by rw [← hW2, ← hN5]; exact spAt_new0 W1
  have k2 : Kp q w W2 := (Kp.of_below b1).below b2
  have n2 : NfaAt W2 q n se s := (h.below b1).below b2
  have q4 : ¬ q.In N4 := fun hin => by have := h.lt hin; omega
  have q5 : ¬ q.In N5 := fun hin => by have := h.lt hin; omega
  have hlen : ks.length ≤ 9223372036854775807 := by have := hk.l; have := hk.m; unfold maxLen at this; omega
  have HA := Lib.hid (And.intro hN4 (And.intro hW1 (And.intro hN5 hW2)))
  have H2 := Lib.hid (And.intro x4 (And.intro x5 (And.intro k2 n2)))
  have HQ := Lib.hid (And.intro q4 (And.intro q5 (And.intro (show w.heap.size ≤ N4 by omega) (And.intro (show w.heap.size ≤ N5 by omega) (show N4 ≠ N5 by omega)))))
  have HK := Lib.hid (And.intro hk (And.intro hg (And.intro hc (And.intro hn (And.intro hq (And.intro hB (And.intro h0 hT)))))))
  have HI := Lib.hid IH
  obtain ⟨N, hN⟩ : ∃ N, ks.length = N := ⟨_, rfl⟩
  obtain ⟨R, hR⟩ : ∃ R, altL ks s ⟨0, 0, false⟩ = R := ⟨_, rfl⟩
  rw [hR]
  have HR := Lib.hid hR
  rw [hN] at hlen ⊢
  have HN := Lib.hid hN
  clear hN4 hW1 hN5 hW2 hz1 b1 b2 x4 x5 k2 n2 q4 q5 hk hg hc hn hq hB h0 hT IH hN h hR
  go_enter Tryd.func78, Tryd.ntmps78
  go_wp2_with (first
    | (refine wpList_alloc80 rfl 4 rfl rfl N4 HA.out.1 W1 HA.out.2.1 ?_)
    | (refine wpList_alloc80 rfl 5 rfl rfl N5 HA.out.2.2.1 W2 HA.out.2.2.2 ?_)
    | fail)
  have H4 := Lib.hid (show Aq q w B n se s ks N4 N5 0 W2 from ⟨H2.out.2.2.1, by simpa [szL, szE.szL, altL, readE.altL] using H2.out.2.2.2, H2.out.1, H2.out.2.1⟩)
  go_loopw [11] (fun v wr => ∃ i : Nat, v = .int .i64 (i : Int) ∧ i ≤ N ∧ Aq q w B n se s ks N4 N5 i wr) (fun v _ => N - (RowKit.intOf v).toNat)
  case atStart => exact ⟨0, rfl, by omega, H4.out⟩
  case round =>
    obtain ⟨i, rfl, hi, hkp, hnf, hs4, hs5⟩ := hrel
    by_cases hlt : i < N
    · have i1 : (i : Int) < (N : Int) := by omega
      obtain ⟨f, hf⟩ : ∃ f, ks[i]? = some f := ⟨ks[i]'(by rw [HN.out]; exact hlt), List.getElem?_eq_getElem _⟩
      obtain ⟨b, o, rfl, hbl, hr⟩ := HK.out.1.r (by rintro rfl; simp at hf)
      obtain ⟨A', cap', d0, d1, d2, hNd⟩ := row_get' hr hf
      have hun : Below B w wr := hkp.under HK.out.2.2.2.2.1 HK.out.2.2.2.2.2.1
      have d0' := (hun.cell (p := ⟨b, o + i * 3, none⟩) hbl).trans d0
      have d1' := (hun.cell (p := ⟨b, o + i * 3 + 1, none⟩) hbl).trans d1
      have d2' := (hun.cell (p := ⟨b, o + i * 3 + 2, none⟩) hbl).trans d2
      obtain ⟨wr', hwr'⟩ : ∃ W, wr.alloc (.cells #[.int .i64 f.k, .int .i64 f.c, .slice A' f.ks.length cap'] 71) = W := ⟨_, rfl⟩
      have bb : Below wr.heap.size wr wr' := by rw [← hwr']; exact below_new _ _
      have hmem := List.mem_of_getElem? hf
      have hgf := good_all HK.out.2.1 f hmem
      obtain ⟨SP, hSP⟩ : ∃ r, altL (ks.take i) s ⟨0, 0, false⟩ = r := ⟨_, rfl⟩
      rw [hSP] at hnf hs5
      obtain ⟨S, P⟩ := SP
      have hcount : S.count = s.count + lvL (ks.take i) := by
        have := count_altL (ks.take i) s ⟨0, 0, false⟩ (good_taken HK.out.2.1 i)
        have e : altL (ks.take i) s ⟨0, 0, false⟩ = readE.altL (ks.take i) s ⟨0, 0, false⟩ := rfl
        rw [← e, hSP] at this
        exact this
      have hl1 := lvL_take hf
      have hl2 := lvL_take_le ks (i + 1)
      have hz1 := szL_take hf
      have hz2 := szL_take_le ks (i + 1)
      have hcn := HK.out.2.2.1
      have hnn := HK.out.2.2.2.1
      have hwB := HK.out.2.2.2.2.2.1
      have hsz := hkp.size
      have hTr : TZ wr' := (hun.trans (bb.mono (by omega))).block 0 HK.out.2.2.2.2.2.2.1 |> HK.out.2.2.2.2.2.2.2.block
      have hC := HI.out f hmem q B (n + 5000 * szL (ks.take i)) se S (.agg #[.int .i64 f.k, .int .i64 f.c, .slice A' f.ks.length cap']) wr' (hnf.below bb) HK.out.2.2.2.2.1 (by have := bb.size; omega) HK.out.2.2.2.2.2.2.1 hTr
        (hNd.below (hun.trans (bb.mono (by omega)))) hgf (by omega) (by omega)
      obtain ⟨S2Q, hS2Q⟩ : ∃ r, readE f S = r := ⟨_, rfl⟩
      rw [hS2Q] at hC
      obtain ⟨S2, Q⟩ := S2Q
      have hC := Lib.hid hC
      have hbud : n + 5000 * szL (ks.take i) + (5000 * szE f - 2500) ≤ n + 5000 * szL (ks.take (i + 1)) := by have := szE_pos f; omega
      have HS := Lib.hid (And.intro hf (And.intro hSP (And.intro hS2Q hbud)))
      have HW := Lib.hid (And.intro hwr' bb)
      have HM := Lib.hid (And.intro hkp (And.intro hs4 (And.intro hs5 (And.intro hTr (show n + 5000 * szL (ks.take i) + (5000 * szE f - 2500) ≤ 1000000000000 by omega)))))
      generalize n + 5000 * szL (ks.take i) + (5000 * szE f - 2500) = n1 at *
      clear hkp hnf hs4 hs5 hun bb hmem hgf hSP hcount hl1 hl2 hz1 hz2 hcn hnn hwB hsz hTr hS2Q hbud hwr' hNd hr hbl d0 d1 d2 hf
      go_wp2_with fail
      rw [HW.out.1]
      refine hC.out.mono ?_
      rintro e w2 ⟨rfl, hk2, hn2⟩
      obtain ⟨W3, hW3⟩ : ∃ W, w2.alloc (.cells Z80 103) = W := ⟨_, rfl⟩
      obtain ⟨N8, hN8⟩ : ∃ N, w2.heap.size = N := ⟨_, rfl⟩
      have kk : Kp q w w2 := (HM.out.1.below HW.out.2).trans hk2
      have t4 : SpAt w2 N4 sp0 := (HM.out.2.1.block (HW.out.2.block _ HM.out.2.1.lt)).block (hk2.block _ (Nat.lt_of_lt_of_le HM.out.2.1.lt HW.out.2.size) HQ.out.1)
      have t5 : SpAt w2 N5 P := (HM.out.2.2.1.block (HW.out.2.block _ HM.out.2.2.1.lt)).block (hk2.block _ (Nat.lt_of_lt_of_le HM.out.2.2.1.lt HW.out.2.size) HQ.out.2.1)
      have t8 : SpAt W3 N8 sp0 := by rw [← hW3, ← hN8]; exact spAt_new0 w2
      have hTw2 : TZ w2 := hk2.tz HM.out.2.2.2.1 (HK.out.2.2.2.2.1.out HK.out.2.2.2.2.2.2.1)
      have HX := Lib.hid (And.intro hW3 (And.intro hN8 (And.intro kk (And.intro t4 (And.intro t5 (And.intro t8 (And.intro hn2 hTw2)))))))
      clear hW3 hN8 kk t4 t5 t8 hn2 hk2 hTw2 d0' d1' d2'
      obtain ⟨pf, pl, pe⟩ := P
      obtain ⟨qf, ql, qe⟩ := Q
      cases pe
      · cases qe
        · skip
          go_wp2_with (first
            | (refine wpList_alloc80 rfl 8 rfl rfl N8 HX.out.2.1 W3 HX.out.1 ?_)
            | (refine wpList_storeSp rfl (.tmp 8) (.tmp 17) rfl rfl N8 sp0 ⟨qf, ql, false⟩ rfl rfl HX.out.2.2.2.2.2.1 ?_
               intro W4 hW4
               have hnew := sq_new HX.out.2.2.1 HX.out.2.2.2.2.2.2.1 HX.out.2.2.2.1 HX.out.2.2.2.2.1 HQ.out.1 HQ.out.2.1 HQ.out.2.2.1 HQ.out.2.2.2.1 HQ.out.2.2.2.2 HX.out.1 (by rw [HX.out.2.1]; exact hW4)
               rw [HX.out.2.1] at hnew
               have HF := Lib.hid hnew.1
               have H6 := Lib.hid hnew.2
               clear hW4 hnew)
            | (refine wpList_loadPl rfl (.tmp 23) rfl N8 16 ql rfl H7.out.s.l ?_)
            | (go_at_call 45; refine (padd_any N5 16 pl ql W7 H7.out.a.l).mono ?_; rintro e W9 ⟨rfl, hW9⟩
               have H9 := Lib.hid (H7.out.a2 HF.out hW9)
               clear hW9
               have e5 := H9.out.a.e
               have z5 := H9.out.a.z
               have e8 := H9.out.s.e)
            | (refine wpList_loadPl rfl (.tmp 19) rfl N8 0 qf rfl H6.out.s.f ?_)
            | (go_at_call 45; refine (padd_any N5 0 pf qf W4 H6.out.a.f).mono ?_; rintro e W7 ⟨rfl, hW7⟩
               have H7 := Lib.hid (H6.out.a1 HF.out hW7)
               clear hW7)
            | fail)
          have s10 := H9.out.a3 HF.out (false || false)
          have hend : ∃ j : Nat, Value.int .i64 ((i : Int) + 1) = .int .i64 (j : Int) ∧ j ≤ N ∧ Aq q w B n se s ks N4 N5 j (W9.setCell ⟨N5, 32, none⟩ (.bool (false || false))) :=
            ⟨i + 1, by simp, by omega, aq_step HS.out.1 HS.out.2 s10⟩
          have HEND := Lib.hid hend
          clear s10 hend e5 z5 e8
          go_roundw
          case rel => exact HEND.out
          case measure => simp [RowKit.intOf]; omega
        · skip
          go_wp2_with (first
            | (refine wpList_alloc80 rfl 8 rfl rfl N8 HX.out.2.1 W3 HX.out.1 ?_)
            | (refine wpList_storeSp rfl (.tmp 8) (.tmp 17) rfl rfl N8 sp0 ⟨qf, ql, true⟩ rfl rfl HX.out.2.2.2.2.2.1 ?_
               intro W4 hW4
               have hnew := sq_new HX.out.2.2.1 HX.out.2.2.2.2.2.2.1 HX.out.2.2.2.1 HX.out.2.2.2.2.1 HQ.out.1 HQ.out.2.1 HQ.out.2.2.1 HQ.out.2.2.2.1 HQ.out.2.2.2.2 HX.out.1 (by rw [HX.out.2.1]; exact hW4)
               rw [HX.out.2.1] at hnew
               have HF := Lib.hid hnew.1
               have H6 := Lib.hid hnew.2
               clear hW4 hnew)
            | (refine wpList_loadPl rfl (.tmp 23) rfl N8 16 ql rfl H7.out.s.l ?_)
            | (go_at_call 45; refine (padd_any N5 16 pl ql W7 H7.out.a.l).mono ?_; rintro e W9 ⟨rfl, hW9⟩
               have H9 := Lib.hid (H7.out.a2 HF.out hW9)
               clear hW9
               have e5 := H9.out.a.e
               have z5 := H9.out.a.z
               have e8 := H9.out.s.e)
            | (refine wpList_loadPl rfl (.tmp 19) rfl N8 0 qf rfl H6.out.s.f ?_)
            | (go_at_call 45; refine (padd_any N5 0 pf qf W4 H6.out.a.f).mono ?_; rintro e W7 ⟨rfl, hW7⟩
               have H7 := Lib.hid (H6.out.a1 HF.out hW7)
               clear hW7)
            | fail)
          have s10 := H9.out.a3 HF.out (false || true)
          have hend : ∃ j : Nat, Value.int .i64 ((i : Int) + 1) = .int .i64 (j : Int) ∧ j ≤ N ∧ Aq q w B n se s ks N4 N5 j (W9.setCell ⟨N5, 32, none⟩ (.bool (false || true))) :=
            ⟨i + 1, by simp, by omega, aq_step HS.out.1 HS.out.2 s10⟩
          have HEND := Lib.hid hend
          clear s10 hend e5 z5 e8
          go_roundw
          case rel => exact HEND.out
          case measure => simp [RowKit.intOf]; omega
      · cases qe
        · skip
          go_wp2_with (first
            | (refine wpList_alloc80 rfl 8 rfl rfl N8 HX.out.2.1 W3 HX.out.1 ?_)
            | (refine wpList_storeSp rfl (.tmp 8) (.tmp 17) rfl rfl N8 sp0 ⟨qf, ql, false⟩ rfl rfl HX.out.2.2.2.2.2.1 ?_
               intro W4 hW4
               have hnew := sq_new HX.out.2.2.1 HX.out.2.2.2.2.2.2.1 HX.out.2.2.2.1 HX.out.2.2.2.2.1 HQ.out.1 HQ.out.2.1 HQ.out.2.2.1 HQ.out.2.2.2.1 HQ.out.2.2.2.2 HX.out.1 (by rw [HX.out.2.1]; exact hW4)
               rw [HX.out.2.1] at hnew
               have HF := Lib.hid hnew.1
               have H6 := Lib.hid hnew.2
               clear hW4 hnew)
            | (refine wpList_loadPl rfl (.tmp 23) rfl N8 16 ql rfl H7.out.s.l ?_)
            | (go_at_call 45; refine (padd_any N5 16 pl ql W7 H7.out.a.l).mono ?_; rintro e W9 ⟨rfl, hW9⟩
               have H9 := Lib.hid (H7.out.a2 HF.out hW9)
               clear hW9
               have e5 := H9.out.a.e
               have z5 := H9.out.a.z
               have e8 := H9.out.s.e)
            | (refine wpList_loadPl rfl (.tmp 19) rfl N8 0 qf rfl H6.out.s.f ?_)
            | (go_at_call 45; refine (padd_any N5 0 pf qf W4 H6.out.a.f).mono ?_; rintro e W7 ⟨rfl, hW7⟩
               have H7 := Lib.hid (H6.out.a1 HF.out hW7)
               clear hW7)
            | fail)
          have s10 := H9.out.a3 HF.out (true || false)
          have hend : ∃ j : Nat, Value.int .i64 ((i : Int) + 1) = .int .i64 (j : Int) ∧ j ≤ N ∧ Aq q w B n se s ks N4 N5 j (W9.setCell ⟨N5, 32, none⟩ (.bool (true || false))) :=
            ⟨i + 1, by simp, by omega, aq_step HS.out.1 HS.out.2 s10⟩
          have HEND := Lib.hid hend
          clear s10 hend e5 z5 e8
          go_roundw
          case rel => exact HEND.out
          case measure => simp [RowKit.intOf]; omega
        · skip
          go_wp2_with (first
            | (refine wpList_alloc80 rfl 8 rfl rfl N8 HX.out.2.1 W3 HX.out.1 ?_)
            | (refine wpList_storeSp rfl (.tmp 8) (.tmp 17) rfl rfl N8 sp0 ⟨qf, ql, true⟩ rfl rfl HX.out.2.2.2.2.2.1 ?_
               intro W4 hW4
               have hnew := sq_new HX.out.2.2.1 HX.out.2.2.2.2.2.2.1 HX.out.2.2.2.1 HX.out.2.2.2.2.1 HQ.out.1 HQ.out.2.1 HQ.out.2.2.1 HQ.out.2.2.2.1 HQ.out.2.2.2.2 HX.out.1 (by rw [HX.out.2.1]; exact hW4)
               rw [HX.out.2.1] at hnew
               have HF := Lib.hid hnew.1
               have H6 := Lib.hid hnew.2
               clear hW4 hnew)
            | (refine wpList_loadPl rfl (.tmp 23) rfl N8 16 ql rfl H7.out.s.l ?_)
            | (go_at_call 45; refine (padd_any N5 16 pl ql W7 H7.out.a.l).mono ?_; rintro e W9 ⟨rfl, hW9⟩
               have H9 := Lib.hid (H7.out.a2 HF.out hW9)
               clear hW9
               have e5 := H9.out.a.e
               have z5 := H9.out.a.z
               have e8 := H9.out.s.e)
            | (refine wpList_loadPl rfl (.tmp 19) rfl N8 0 qf rfl H6.out.s.f ?_)
            | (go_at_call 45; refine (padd_any N5 0 pf qf W4 H6.out.a.f).mono ?_; rintro e W7 ⟨rfl, hW7⟩
               have H7 := Lib.hid (H6.out.a1 HF.out hW7)
               clear hW7)
            | fail)
          have s10 := H9.out.a3 HF.out (true || true)
          have hend : ∃ j : Nat, Value.int .i64 ((i : Int) + 1) = .int .i64 (j : Int) ∧ j ≤ N ∧ Aq q w B n se s ks N4 N5 j (W9.setCell ⟨N5, 32, none⟩ (.bool (true || true))) :=
            ⟨i + 1, by simp, by omega, aq_step HS.out.1 HS.out.2 s10⟩
          have HEND := Lib.hid hend
          clear s10 hend e5 z5 e8
          go_roundw
          case rel => exact HEND.out
          case measure => simp [RowKit.intOf]; omega
    · obtain rfl : i = N := by omega
      have d1 : ¬ (i : Int) < (i : Int) := by omega
      have e1 : ks.take i = ks := by rw [← HN.out, List.take_length]
      rw [e1, HR.out] at hnf hs5
      have HE := Lib.hid (And.intro hkp (And.intro hnf (And.intro hs4 hs5)))
      clear hkp hnf hs4 hs5 e1
      go_wp2_with (first
        | (refine wpList_loadSp rfl (.tmp 5) rfl N5 R.2 rfl HE.out.2.2.2 ?_)
        | (refine wpList_storeSp rfl (.tmp 4) (.tmp 34) rfl rfl N4 sp0 R.2 rfl rfl HE.out.2.2.1 ?_; intro W8 hW8; have H8 := Lib.hid hW8; clear hW8)
        | fail)
      refine bodyPost_ret (v := .agg (spL R.2).toArray) (results_sp rfl _ _ N4 _ rfl H8.out.at_) rfl ⟨rfl, ?_, ?_⟩
      · exact HE.out.1.grown H8.out.grown (.inr HQ.out.2.2.1)
      · exact HE.out.2.1.grown H8.out.grown HQ.out.1
end Go.Proofs.YteamonmneoakpaaDoor

