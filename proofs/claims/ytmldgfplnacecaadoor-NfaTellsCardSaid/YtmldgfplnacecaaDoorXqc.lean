/-
  Contracts: (*NFA).readSeq.
  Contracts: (*NFA).readAlt.
  Contracts: (*NFA).read.
  Contracts: read of any right expression.
-/
import Derived.Test.YtmldgfplnacecaaDoorXqb
namespace Go.Proofs.YtmldgfplnacecaaDoor
open Go.RowKit Go.Shelf Go.Lib Go.Great Go.Maps

/-- Some parts have been read. -/
def Lq (q : Np) (w : World) (_B n : Nat) (se : Bool) (s : St) (ks : List E) (N4 N5 i : Nat) (W : World) : Prop :=
  Kp q w W ∧ NfaAt W q (n + 5000 * szL (ks.take i)) se (seqL (ks.take i) s ⟨0, 0, true⟩).1 ∧ SpAt W N4 sp0 ∧ SpAt W N5 (seqL (ks.take i) s ⟨0, 0, true⟩).2
theorem lq_step {q : Np} {w W : World} {B n : Nat} {se : Bool} {s : St} {ks : List E} {N4 N5 N8 i n' : Nat} {f : E} {P Q Q' : Sp} {S S2 : St} {x : Sp} (_ : Fx q w N4 N5 N8) (hf : ks[i]? = some f)
    (hS : seqL (ks.take i) s ⟨0, 0, true⟩ = (S, P) ∧ readE f S = (S2, Q) ∧ n' ≤ n + 5000 * szL (ks.take (i + 1)))
    (h : Sq q w W N4 N5 N8 n' se (S2.link P.last Q.first) x Q')
    (hx : x = ⟨if P.empty then P.first ||| Q.first else P.first, if Q.empty then Q.last ||| P.last else Q.last, P.empty && Q.empty⟩ := by rfl) : Lq q w B n se s ks N4 N5 (i + 1) W := by
  have e1 := seqL_take hf s ⟨0, 0, true⟩
  rw [hS.1] at e1
  have e2 : seqL [f] S P = ((readE f S).1.link P.last (readE f S).2.first, ⟨if P.empty then P.first ||| (readE f S).2.first else P.first, if (readE f S).2.empty then (readE f S).2.last ||| P.last else (readE f S).2.last, P.empty && (readE f S).2.empty⟩) := rfl
  rw [hS.2.1] at e2
  have e3 := e1.trans e2
  unfold Lq
  rw [e3]
  dsimp only
  rw [← hx]
  exact ⟨h.kp, h.nf.mono hS.2.2, h.r, h.a⟩
set_option maxHeartbeats 16000000 in
set_option maxRecDepth 100000 in
theorem seq_any (ks : List E) (IH : ∀ e ∈ ks, ReadOk e) (q : Np) (B n : Nat) (se : Bool) (s : St) (A : Option Addr) (cap : Nat) (w : World) (h : NfaAt w q n se s) (hq : q.Ok B) (hB : B ≤ w.heap.size) (h0 : 0 < B) (hT : TZ w) (hk : KsAt w B ks A cap)
    (hg : goodE.all ks = true) (hc : s.count + lvL ks ≤ 1000) (hn : n + 5000 * szL ks ≤ 900000000000) :
    Calls Tryd.prog 94 #[.pointer (some ⟨q.b, 0, none⟩), .slice A ks.length cap] w fun r w' => r = .returned (.agg (spL (seqL ks s ⟨0, 0, true⟩).2).toArray) ∧ Kp q w w' ∧ NfaAt w' q (n + 5000 * szL ks) se (seqL ks s ⟨0, 0, true⟩).1 := by
  obtain ⟨N4, hN4⟩ : ∃ N, w.heap.size = N := ⟨_, rfl⟩
  obtain ⟨W1, hW1⟩ : ∃ W, w.alloc (.cells Z80 125) = W := ⟨_, rfl⟩
  obtain ⟨N5, hN5⟩ : ∃ N, W1.heap.size = N := ⟨_, rfl⟩
  obtain ⟨W2, hW2⟩ : ∃ W, W1.alloc (.cells Z80 125) = W := ⟨_, rfl⟩
  have hz1 : W1.heap.size = w.heap.size + 1 := by rw [← hW1]; simp
  have b1 : Below w.heap.size w W1 := by rw [← hW1]; exact below_new _ _
  have b2 : Below W1.heap.size W1 W2 := by rw [← hW2]; exact below_new _ _
  have x4 : SpAt W2 N4 sp0 := by
    have : SpAt W1 N4 sp0 := by rw [← hW1, ← hN4]; exact spAt_new0 w
    exact this.block (b2.block _ this.lt)
  have x5 : SpAt W2 N5 sp0 := by rw [← hW2, ← hN5]; exact spAt_new0 W1
  have k2 : Kp q w W2 := (Kp.of_below b1).below b2
  have n2 : NfaAt W2 q n se s := (h.below b1).below b2
  have q4 : ¬ q.In N4 := fun hin => by have := h.lt hin; omega
  have q5 : ¬ q.In N5 := fun hin => by have := h.lt hin; omega
  have hlen : ks.length ≤ 9223372036854775807 := by have := hk.l; have := hk.m; unfold maxLen at this; omega
  have HA := Lib.hid (And.intro hN4 (And.intro hW1 (And.intro hN5 hW2)))
  have H2 := Lib.hid (And.intro x4 (And.intro x5 (And.intro k2 n2)))
  have HQ := Lib.hid (And.intro q4 (And.intro q5 (And.intro (show w.heap.size ≤ N4 by omega) (And.intro (show w.heap.size ≤ N5 by omega) (show N4 ≠ N5 by omega)))))
  have HK := Lib.hid (And.intro hk (And.intro hg (And.intro hc (And.intro hn (And.intro hq (And.intro hB (And.intro h0 hT)))))))
  have HI := Lib.hid IH
  obtain ⟨N, hN⟩ : ∃ N, ks.length = N := ⟨_, rfl⟩
  obtain ⟨R, hR⟩ : ∃ R, seqL ks s ⟨0, 0, true⟩ = R := ⟨_, rfl⟩
  rw [hR]
  have HR := Lib.hid hR
  rw [hN] at hlen ⊢
  have HN := Lib.hid hN
  clear hN4 hW1 hN5 hW2 hz1 b1 b2 x4 x5 k2 n2 q4 q5 hk hg hc hn hq hB h0 hT IH hN h hR
  go_enter Tryd.func94, Tryd.ntmps94
  go_wp2_with (first
    | (refine wpList_alloc80 rfl 4 rfl rfl N4 HA.out.1 W1 HA.out.2.1 ?_)
    | (refine wpList_buildEmpty rfl rfl ?_)
    | (refine wpList_alloc80 rfl 5 rfl rfl N5 HA.out.2.2.1 W2 HA.out.2.2.2 ?_)
    | (refine wpList_storeSp rfl (.tmp 5) (.tmp 9) rfl rfl N5 sp0 ⟨0, 0, true⟩ rfl rfl H2.out.2.1 ?_; intro W3 hW3; have H3 := Lib.hid hW3; clear hW3)
    | fail)
  have k3 : Kp q w W3 := H2.out.2.2.1.grown H3.out.grown (.inr HQ.out.2.2.2.1)
  have n3 : NfaAt W3 q n se s := H2.out.2.2.2.grown H3.out.grown HQ.out.2.1
  have s4 : SpAt W3 N4 sp0 := H2.out.1.grown H3.out.grown HQ.out.2.2.2.2
  have H4 := Lib.hid (show Lq q w B n se s ks N4 N5 0 W3 from ⟨k3, by simpa [szL, szE.szL, seqL, readE.seqL] using n3, s4, H3.out.at_⟩)
  clear k3 n3 s4
  go_loopw [12] (fun v wr => ∃ i : Nat, v = .int .i64 (i : Int) ∧ i ≤ N ∧ Lq q w B n se s ks N4 N5 i wr) (fun v _ => N - (RowKit.intOf v).toNat)
  case atStart => exact ⟨0, rfl, by omega, H4.out⟩
  case round =>
    obtain ⟨i, rfl, hi, hkp, hnf, hs4, hs5⟩ := hrel
    by_cases hlt : i < N
    · have i1 : (i : Int) < (N : Int) := by omega
      obtain ⟨f, hf⟩ : ∃ f, ks[i]? = some f := ⟨ks[i]'(by rw [HN.out]; exact hlt), List.getElem?_eq_getElem _⟩
      obtain ⟨b, o, rfl, hbl, hr⟩ := HK.out.1.r (by rintro rfl; simp at hf)
      obtain ⟨A', cap', d0, d1, d2, hNd⟩ := row_get' hr hf
      have hun : Below B w wr := hkp.under HK.out.2.2.2.2.1 HK.out.2.2.2.2.2.1
      have d0' := (hun.cell (p := ⟨b, o + i * 3, none⟩) hbl).trans d0
      have d1' := (hun.cell (p := ⟨b, o + i * 3 + 1, none⟩) hbl).trans d1
      have d2' := (hun.cell (p := ⟨b, o + i * 3 + 2, none⟩) hbl).trans d2
      obtain ⟨wr', hwr'⟩ : ∃ W, wr.alloc (.cells #[.int .i64 f.k, .int .i64 f.c, .slice A' f.ks.length cap'] 91) = W := ⟨_, rfl⟩
      have bb : Below wr.heap.size wr wr' := by rw [← hwr']; exact below_new _ _
      have hmem := List.mem_of_getElem? hf
      have hgf := good_all HK.out.2.1 f hmem
      obtain ⟨SP, hSP⟩ : ∃ r, seqL (ks.take i) s ⟨0, 0, true⟩ = r := ⟨_, rfl⟩
      rw [hSP] at hnf hs5
      obtain ⟨S, P⟩ := SP
      have hcount : S.count = s.count + lvL (ks.take i) := by
        have := count_seqL (ks.take i) s ⟨0, 0, true⟩ (good_taken HK.out.2.1 i)
        have e : seqL (ks.take i) s ⟨0, 0, true⟩ = readE.seqL (ks.take i) s ⟨0, 0, true⟩ := rfl
        rw [← e, hSP] at this
        exact this
      have hl1 := lvL_take hf
      have hl2 := lvL_take_le ks (i + 1)
      have hz1 := szL_take hf
      have hz2 := szL_take_le ks (i + 1)
      have hcn := HK.out.2.2.1
      have hnn := HK.out.2.2.2.1
      have hwB := HK.out.2.2.2.2.2.1
      have hsz := hkp.size
      have hTr : TZ wr' := (hun.trans (bb.mono (by omega))).block 0 HK.out.2.2.2.2.2.2.1 |> HK.out.2.2.2.2.2.2.2.block
      have hC := HI.out f hmem q B (n + 5000 * szL (ks.take i)) se S (.agg #[.int .i64 f.k, .int .i64 f.c, .slice A' f.ks.length cap']) wr' (hnf.below bb) HK.out.2.2.2.2.1 (by have := bb.size; omega) HK.out.2.2.2.2.2.2.1 hTr
        (hNd.below (hun.trans (bb.mono (by omega)))) hgf (by omega) (by omega)
      obtain ⟨S2Q, hS2Q⟩ : ∃ r, readE f S = r := ⟨_, rfl⟩
      rw [hS2Q] at hC
      obtain ⟨S2, Q⟩ := S2Q
      have hC := Lib.hid hC
      have hbud : n + 5000 * szL (ks.take i) + (5000 * szE f - 2500) + 1024 ≤ n + 5000 * szL (ks.take (i + 1)) := by have := szE_pos f; omega
      have HS := Lib.hid (And.intro hf (And.intro hSP (And.intro hS2Q hbud)))
      have HW := Lib.hid (And.intro hwr' bb)
      have HM := Lib.hid (And.intro hkp (And.intro hs4 (And.intro hs5 (And.intro hTr (show n + 5000 * szL (ks.take i) + (5000 * szE f - 2500) ≤ 1000000000000 by omega)))))
      generalize n + 5000 * szL (ks.take i) + (5000 * szE f - 2500) = n1 at *
      clear hkp hnf hs4 hs5 hun bb hmem hgf hSP hcount hl1 hl2 hz1 hz2 hcn hnn hwB hsz hTr hS2Q hbud hwr' hNd hr hbl d0 d1 d2 hf
      go_wp2_with fail
      rw [HW.out.1]
      refine hC.out.mono ?_
      rintro e w2 ⟨rfl, hk2, hn2⟩
      obtain ⟨W3, hW3⟩ : ∃ W, w2.alloc (.cells Z80 125) = W := ⟨_, rfl⟩
      obtain ⟨N8, hN8⟩ : ∃ N, w2.heap.size = N := ⟨_, rfl⟩
      have kk : Kp q w w2 := (HM.out.1.below HW.out.2).trans hk2
      have t4 : SpAt w2 N4 sp0 := (HM.out.2.1.block (HW.out.2.block _ HM.out.2.1.lt)).block (hk2.block _ (Nat.lt_of_lt_of_le HM.out.2.1.lt HW.out.2.size) HQ.out.1)
      have t5 : SpAt w2 N5 P := (HM.out.2.2.1.block (HW.out.2.block _ HM.out.2.2.1.lt)).block (hk2.block _ (Nat.lt_of_lt_of_le HM.out.2.2.1.lt HW.out.2.size) HQ.out.2.1)
      have t8 : SpAt W3 N8 sp0 := by rw [← hW3, ← hN8]; exact spAt_new0 w2
      have hTw2 : TZ w2 := hk2.tz HM.out.2.2.2.1 (HK.out.2.2.2.2.1.out HK.out.2.2.2.2.2.2.1)
      have HX := Lib.hid (And.intro hW3 (And.intro hN8 (And.intro kk (And.intro t4 (And.intro t5 (And.intro t8 (And.intro hn2 hTw2)))))))
      clear hW3 hN8 kk t4 t5 t8 hn2 hk2 hTw2 d0' d1' d2'
      obtain ⟨pf, pl, pe⟩ := P
      obtain ⟨qf, ql, qe⟩ := Q
      cases pe
      · cases qe
        · skip
          go_wp2_with (first
            | (refine wpList_alloc80 rfl 8 rfl rfl N8 HX.out.2.1 W3 HX.out.1 ?_)
            | (refine wpList_storeSp rfl (.tmp 8) (.tmp 18) rfl rfl N8 sp0 ⟨qf, ql, false⟩ rfl rfl HX.out.2.2.2.2.2.1 ?_
               intro W4 hW4
               have hnew := sq_new HX.out.2.2.1 HX.out.2.2.2.2.2.2.1 HX.out.2.2.2.1 HX.out.2.2.2.2.1 HQ.out.1 HQ.out.2.1 HQ.out.2.2.1 HQ.out.2.2.2.1 HQ.out.2.2.2.2 HX.out.1 (by rw [HX.out.2.1]; exact hW4)
               rw [HX.out.2.1] at hnew
               have HF := Lib.hid hnew.1
               have hT4 : TZ W4 := hnew.2.kp.tz HK.out.2.2.2.2.2.2.2 (HK.out.2.2.2.2.1.out HK.out.2.2.2.2.2.2.1)
               have H4 := Lib.hid (And.intro hnew.2 hT4)
               clear hW4 hnew hT4)
            | (refine wpList_loadPl rfl (.tmp 20) rfl N5 16 pl rfl H4.out.1.a.l ?_)
            | (refine wpList_loadPl rfl (.tmp 22) rfl N8 0 qf rfl H4.out.1.s.f ?_)
            | (go_at_call 83; refine (link_any q B n1 se S2 pl qf W4 H4.out.1.nf HK.out.2.2.2.2.1 HK.out.2.2.2.2.2.2.1 H4.out.2 HM.out.2.2.2.2).mono ?_; rintro e W6 ⟨rfl, hk6, hn6⟩
               have H6 := Lib.hid (H4.out.1.keep HF.out hk6 hn6)
               have e5 := H6.out.a.e
               have z5 := H6.out.a.z
               have e8 := H6.out.s.e
               clear hk6 hn6)
            | (refine wpList_loadPl rfl (.tmp 37) rfl N8 16 ql rfl H6.out.s.l ?_)
            | (refine wpList_storePl rfl (.tmp 39) (.tmp 38) rfl rfl N5 16 pl ql rfl rfl H6.out.a.l ?_
               intro W9 hW9
               have H9 := Lib.hid (H6.out.a2 HF.out hW9)
               clear hW9 e5 z5 e8
               have e5 := H9.out.a.e
               have z5 := H9.out.a.z
               have e8 := H9.out.s.e)
            | fail)
          have s10 := H9.out.a3 HF.out (false && false)
          have hend : ∃ j : Nat, Value.int .i64 ((i : Int) + 1) = .int .i64 (j : Int) ∧ j ≤ N ∧ Lq q w B n se s ks N4 N5 j (W9.setCell ⟨N5, 32, none⟩ (.bool (false && false))) :=
            ⟨i + 1, by simp, by omega, lq_step HF.out HS.out.1 HS.out.2 s10⟩
          have HEND := Lib.hid hend
          clear s10 hend e5 z5 e8
          go_roundw
          case rel => exact HEND.out
          case measure => simp [RowKit.intOf]; omega
        · skip
          go_wp2_with (first
            | (refine wpList_alloc80 rfl 8 rfl rfl N8 HX.out.2.1 W3 HX.out.1 ?_)
            | (refine wpList_storeSp rfl (.tmp 8) (.tmp 18) rfl rfl N8 sp0 ⟨qf, ql, true⟩ rfl rfl HX.out.2.2.2.2.2.1 ?_
               intro W4 hW4
               have hnew := sq_new HX.out.2.2.1 HX.out.2.2.2.2.2.2.1 HX.out.2.2.2.1 HX.out.2.2.2.2.1 HQ.out.1 HQ.out.2.1 HQ.out.2.2.1 HQ.out.2.2.2.1 HQ.out.2.2.2.2 HX.out.1 (by rw [HX.out.2.1]; exact hW4)
               rw [HX.out.2.1] at hnew
               have HF := Lib.hid hnew.1
               have hT4 : TZ W4 := hnew.2.kp.tz HK.out.2.2.2.2.2.2.2 (HK.out.2.2.2.2.1.out HK.out.2.2.2.2.2.2.1)
               have H4 := Lib.hid (And.intro hnew.2 hT4)
               clear hW4 hnew hT4)
            | (refine wpList_loadPl rfl (.tmp 20) rfl N5 16 pl rfl H4.out.1.a.l ?_)
            | (refine wpList_loadPl rfl (.tmp 22) rfl N8 0 qf rfl H4.out.1.s.f ?_)
            | (go_at_call 83; refine (link_any q B n1 se S2 pl qf W4 H4.out.1.nf HK.out.2.2.2.2.1 HK.out.2.2.2.2.2.2.1 H4.out.2 HM.out.2.2.2.2).mono ?_; rintro e W6 ⟨rfl, hk6, hn6⟩
               have H6 := Lib.hid (H4.out.1.keep HF.out hk6 hn6)
               have e5 := H6.out.a.e
               have z5 := H6.out.a.z
               have e8 := H6.out.s.e
               clear hk6 hn6)
            | (refine wpList_loadPl rfl (.tmp 34) rfl N5 16 pl rfl H6.out.a.l ?_)
            | (go_at_call 55; refine (padd_any N8 16 ql pl W6 H6.out.s.l).mono ?_; rintro e W8 ⟨rfl, hW8⟩
               have H8 := Lib.hid (H6.out.s2 HF.out hW8)
               clear hW8 e5 z5 e8
               have e5 := H8.out.a.e
               have z5 := H8.out.a.z
               have e8 := H8.out.s.e)
            | (refine wpList_loadPl rfl (.tmp 37) rfl N8 16 (ql ||| pl) rfl H8.out.s.l ?_)
            | (refine wpList_storePl rfl (.tmp 39) (.tmp 38) rfl rfl N5 16 pl (ql ||| pl) rfl rfl H8.out.a.l ?_
               intro W9 hW9
               have H9 := Lib.hid (H8.out.a2 HF.out hW9)
               clear hW9 e5 z5 e8
               have e5 := H9.out.a.e
               have z5 := H9.out.a.z
               have e8 := H9.out.s.e)
            | fail)
          have s10 := H9.out.a3 HF.out (false && true)
          have hend : ∃ j : Nat, Value.int .i64 ((i : Int) + 1) = .int .i64 (j : Int) ∧ j ≤ N ∧ Lq q w B n se s ks N4 N5 j (W9.setCell ⟨N5, 32, none⟩ (.bool (false && true))) :=
            ⟨i + 1, by simp, by omega, lq_step HF.out HS.out.1 HS.out.2 s10⟩
          have HEND := Lib.hid hend
          clear s10 hend e5 z5 e8
          go_roundw
          case rel => exact HEND.out
          case measure => simp [RowKit.intOf]; omega
      · cases qe
        · skip
          go_wp2_with (first
            | (refine wpList_alloc80 rfl 8 rfl rfl N8 HX.out.2.1 W3 HX.out.1 ?_)
            | (refine wpList_storeSp rfl (.tmp 8) (.tmp 18) rfl rfl N8 sp0 ⟨qf, ql, false⟩ rfl rfl HX.out.2.2.2.2.2.1 ?_
               intro W4 hW4
               have hnew := sq_new HX.out.2.2.1 HX.out.2.2.2.2.2.2.1 HX.out.2.2.2.1 HX.out.2.2.2.2.1 HQ.out.1 HQ.out.2.1 HQ.out.2.2.1 HQ.out.2.2.2.1 HQ.out.2.2.2.2 HX.out.1 (by rw [HX.out.2.1]; exact hW4)
               rw [HX.out.2.1] at hnew
               have HF := Lib.hid hnew.1
               have hT4 : TZ W4 := hnew.2.kp.tz HK.out.2.2.2.2.2.2.2 (HK.out.2.2.2.2.1.out HK.out.2.2.2.2.2.2.1)
               have H4 := Lib.hid (And.intro hnew.2 hT4)
               clear hW4 hnew hT4)
            | (refine wpList_loadPl rfl (.tmp 20) rfl N5 16 pl rfl H4.out.1.a.l ?_)
            | (refine wpList_loadPl rfl (.tmp 22) rfl N8 0 qf rfl H4.out.1.s.f ?_)
            | (go_at_call 83; refine (link_any q B n1 se S2 pl qf W4 H4.out.1.nf HK.out.2.2.2.2.1 HK.out.2.2.2.2.2.2.1 H4.out.2 HM.out.2.2.2.2).mono ?_; rintro e W6 ⟨rfl, hk6, hn6⟩
               have H6 := Lib.hid (H4.out.1.keep HF.out hk6 hn6)
               have e5 := H6.out.a.e
               have z5 := H6.out.a.z
               have e8 := H6.out.s.e
               clear hk6 hn6)
            | (refine wpList_loadPl rfl (.tmp 28) rfl N8 0 qf rfl H6.out.s.f ?_)
            | (go_at_call 55; refine (padd_any N5 0 pf qf W6 H6.out.a.f).mono ?_; rintro e W7 ⟨rfl, hW7⟩
               have H7 := Lib.hid (H6.out.a1 HF.out hW7)
               clear hW7 e5 z5 e8
               have e5 := H7.out.a.e
               have z5 := H7.out.a.z
               have e8 := H7.out.s.e)
            | (refine wpList_loadPl rfl (.tmp 37) rfl N8 16 ql rfl H7.out.s.l ?_)
            | (refine wpList_storePl rfl (.tmp 39) (.tmp 38) rfl rfl N5 16 pl ql rfl rfl H7.out.a.l ?_
               intro W9 hW9
               have H9 := Lib.hid (H7.out.a2 HF.out hW9)
               clear hW9 e5 z5 e8
               have e5 := H9.out.a.e
               have z5 := H9.out.a.z
               have e8 := H9.out.s.e)
            | fail)
          have s10 := H9.out.a3 HF.out (true && false)
          have hend : ∃ j : Nat, Value.int .i64 ((i : Int) + 1) = .int .i64 (j : Int) ∧ j ≤ N ∧ Lq q w B n se s ks N4 N5 j (W9.setCell ⟨N5, 32, none⟩ (.bool (true && false))) :=
            ⟨i + 1, by simp, by omega, lq_step HF.out HS.out.1 HS.out.2 s10⟩
          have HEND := Lib.hid hend
          clear s10 hend e5 z5 e8
          go_roundw
          case rel => exact HEND.out
          case measure => simp [RowKit.intOf]; omega
        · skip
          go_wp2_with (first
            | (refine wpList_alloc80 rfl 8 rfl rfl N8 HX.out.2.1 W3 HX.out.1 ?_)
            | (refine wpList_storeSp rfl (.tmp 8) (.tmp 18) rfl rfl N8 sp0 ⟨qf, ql, true⟩ rfl rfl HX.out.2.2.2.2.2.1 ?_
               intro W4 hW4
               have hnew := sq_new HX.out.2.2.1 HX.out.2.2.2.2.2.2.1 HX.out.2.2.2.1 HX.out.2.2.2.2.1 HQ.out.1 HQ.out.2.1 HQ.out.2.2.1 HQ.out.2.2.2.1 HQ.out.2.2.2.2 HX.out.1 (by rw [HX.out.2.1]; exact hW4)
               rw [HX.out.2.1] at hnew
               have HF := Lib.hid hnew.1
               have hT4 : TZ W4 := hnew.2.kp.tz HK.out.2.2.2.2.2.2.2 (HK.out.2.2.2.2.1.out HK.out.2.2.2.2.2.2.1)
               have H4 := Lib.hid (And.intro hnew.2 hT4)
               clear hW4 hnew hT4)
            | (refine wpList_loadPl rfl (.tmp 20) rfl N5 16 pl rfl H4.out.1.a.l ?_)
            | (refine wpList_loadPl rfl (.tmp 22) rfl N8 0 qf rfl H4.out.1.s.f ?_)
            | (go_at_call 83; refine (link_any q B n1 se S2 pl qf W4 H4.out.1.nf HK.out.2.2.2.2.1 HK.out.2.2.2.2.2.2.1 H4.out.2 HM.out.2.2.2.2).mono ?_; rintro e W6 ⟨rfl, hk6, hn6⟩
               have H6 := Lib.hid (H4.out.1.keep HF.out hk6 hn6)
               have e5 := H6.out.a.e
               have z5 := H6.out.a.z
               have e8 := H6.out.s.e
               clear hk6 hn6)
            | (refine wpList_loadPl rfl (.tmp 34) rfl N5 16 pl rfl H7.out.a.l ?_)
            | (go_at_call 55; refine (padd_any N8 16 ql pl W7 H7.out.s.l).mono ?_; rintro e W8 ⟨rfl, hW8⟩
               have H8 := Lib.hid (H7.out.s2 HF.out hW8)
               clear hW8 e5 z5 e8
               have e5 := H8.out.a.e
               have z5 := H8.out.a.z
               have e8 := H8.out.s.e)
            | (refine wpList_loadPl rfl (.tmp 28) rfl N8 0 qf rfl H6.out.s.f ?_)
            | (go_at_call 55; refine (padd_any N5 0 pf qf W6 H6.out.a.f).mono ?_; rintro e W7 ⟨rfl, hW7⟩
               have H7 := Lib.hid (H6.out.a1 HF.out hW7)
               clear hW7 e5 z5 e8
               have e5 := H7.out.a.e
               have z5 := H7.out.a.z
               have e8 := H7.out.s.e)
            | (refine wpList_loadPl rfl (.tmp 37) rfl N8 16 (ql ||| pl) rfl H8.out.s.l ?_)
            | (refine wpList_storePl rfl (.tmp 39) (.tmp 38) rfl rfl N5 16 pl (ql ||| pl) rfl rfl H8.out.a.l ?_
               intro W9 hW9
               have H9 := Lib.hid (H8.out.a2 HF.out hW9)
               clear hW9 e5 z5 e8
               have e5 := H9.out.a.e
               have z5 := H9.out.a.z
               have e8 := H9.out.s.e)
            | fail)
          have s10 := H9.out.a3 HF.out (true && true)
          have hend : ∃ j : Nat, Value.int .i64 ((i : Int) + 1) = .int .i64 (j : Int) ∧ j ≤ N ∧ Lq q w B n se s ks N4 N5 j (W9.setCell ⟨N5, 32, none⟩ (.bool (true && true))) :=
            ⟨i + 1, by simp, by omega, lq_step HF.out HS.out.1 HS.out.2 s10⟩
          have HEND := Lib.hid hend
          clear s10 hend e5 z5 e8
          go_roundw
          case rel => exact HEND.out
          case measure => simp [RowKit.intOf]; omega
    · obtain rfl : i = N := by omega
      have d1 : ¬ (i : Int) < (i : Int) := by omega
      have e1 : ks.take i = ks := by rw [← HN.out, List.take_length]
      rw [e1, HR.out] at hnf hs5
      have HE := Lib.hid (And.intro hkp (And.intro hnf (And.intro hs4 hs5)))
      clear hkp hnf hs4 hs5 e1
      go_wp2_with (first
        | (refine wpList_loadSp rfl (.tmp 5) rfl N5 R.2 rfl HE.out.2.2.2 ?_)
        | (refine wpList_storeSp rfl (.tmp 4) (.tmp 48) rfl rfl N4 sp0 R.2 rfl rfl HE.out.2.2.1 ?_; intro W8 hW8; have H8 := Lib.hid hW8; clear hW8)
        | fail)
      refine bodyPost_ret (v := .agg (spL R.2).toArray) (results_sp rfl _ _ N4 _ rfl H8.out.at_) rfl ⟨rfl, ?_, ?_⟩
      · exact HE.out.1.grown H8.out.grown (.inr HQ.out.2.2.1)
      · exact HE.out.2.1.grown H8.out.grown HQ.out.1
end Go.Proofs.YtmldgfplnacecaaDoor

namespace Go.Proofs.YtmldgfplnacecaaDoor
open Go.RowKit Go.Shelf Go.Lib Go.Great Go.Maps

/-- Some parts have been read. -/
def Aq (q : Np) (w : World) (_B n : Nat) (se : Bool) (s : St) (ks : List E) (N4 N5 i : Nat) (W : World) : Prop :=
  Kp q w W ∧ NfaAt W q (n + 5000 * szL (ks.take i)) se (altL (ks.take i) s ⟨0, 0, false⟩).1 ∧ SpAt W N4 sp0 ∧ SpAt W N5 (altL (ks.take i) s ⟨0, 0, false⟩).2
theorem aq_step {q : Np} {w W : World} {B n : Nat} {se : Bool} {s : St} {ks : List E} {N4 N5 N8 i n' : Nat} {f : E} {P Q Q' : Sp} {S S2 : St} {x : Sp} (hf : ks[i]? = some f)
    (hS : altL (ks.take i) s ⟨0, 0, false⟩ = (S, P) ∧ readE f S = (S2, Q) ∧ n' ≤ n + 5000 * szL (ks.take (i + 1)))
    (h : Sq q w W N4 N5 N8 n' se S2 x Q')
    (hx : x = ⟨P.first ||| Q.first, P.last ||| Q.last, P.empty || Q.empty⟩ := by rfl) : Aq q w B n se s ks N4 N5 (i + 1) W := by
  have e1 := altL_take hf s ⟨0, 0, false⟩
  rw [hS.1] at e1
  have e2 : altL [f] S P = ((readE f S).1, ⟨P.first ||| (readE f S).2.first, P.last ||| (readE f S).2.last, P.empty || (readE f S).2.empty⟩) := rfl
  rw [hS.2.1] at e2
  have e3 := e1.trans e2
  unfold Aq
  rw [e3]
  dsimp only
  rw [← hx]
  exact ⟨h.kp, h.nf.mono hS.2.2, h.r, h.a⟩
set_option maxHeartbeats 16000000 in
set_option maxRecDepth 100000 in
theorem alt_any (ks : List E) (IH : ∀ e ∈ ks, ReadOk e) (q : Np) (B n : Nat) (se : Bool) (s : St) (A : Option Addr) (cap : Nat) (w : World) (h : NfaAt w q n se s) (hq : q.Ok B) (hB : B ≤ w.heap.size) (h0 : 0 < B) (hT : TZ w) (hk : KsAt w B ks A cap)
    (hg : goodE.all ks = true) (hc : s.count + lvL ks ≤ 1000) (hn : n + 5000 * szL ks ≤ 900000000000) :
    Calls Tryd.prog 95 #[.pointer (some ⟨q.b, 0, none⟩), .slice A ks.length cap] w fun r w' => r = .returned (.agg (spL (altL ks s ⟨0, 0, false⟩).2).toArray) ∧ Kp q w w' ∧ NfaAt w' q (n + 5000 * szL ks) se (altL ks s ⟨0, 0, false⟩).1 := by
  obtain ⟨N4, hN4⟩ : ∃ N, w.heap.size = N := ⟨_, rfl⟩
  obtain ⟨W1, hW1⟩ : ∃ W, w.alloc (.cells Z80 125) = W := ⟨_, rfl⟩
  obtain ⟨N5, hN5⟩ : ∃ N, W1.heap.size = N := ⟨_, rfl⟩
  obtain ⟨W2, hW2⟩ : ∃ W, W1.alloc (.cells Z80 125) = W := ⟨_, rfl⟩
  have hz1 : W1.heap.size = w.heap.size + 1 := by rw [← hW1]; simp
  have b1 : Below w.heap.size w W1 := by rw [← hW1]; exact below_new _ _
  have b2 : Below W1.heap.size W1 W2 := by rw [← hW2]; exact below_new _ _
  have x4 : SpAt W2 N4 sp0 := by
    have : SpAt W1 N4 sp0 := by rw [← hW1, ← hN4]; exact spAt_new0 w
    exact this.block (b2.block _ this.lt)
  have x5 : SpAt W2 N5 sp0 := by rw [← hW2, ← hN5]; exact spAt_new0 W1
  have k2 : Kp q w W2 := (Kp.of_below b1).below b2
  have n2 : NfaAt W2 q n se s := (h.below b1).below b2
  have q4 : ¬ q.In N4 := fun hin => by have := h.lt hin; omega
  have q5 : ¬ q.In N5 := fun hin => by have := h.lt hin; omega
  have hlen : ks.length ≤ 9223372036854775807 := by have := hk.l; have := hk.m; unfold maxLen at this; omega
  have HA := Lib.hid (And.intro hN4 (And.intro hW1 (And.intro hN5 hW2)))
  have H2 := Lib.hid (And.intro x4 (And.intro x5 (And.intro k2 n2)))
  have HQ := Lib.hid (And.intro q4 (And.intro q5 (And.intro (show w.heap.size ≤ N4 by omega) (And.intro (show w.heap.size ≤ N5 by omega) (show N4 ≠ N5 by omega)))))
  have HK := Lib.hid (And.intro hk (And.intro hg (And.intro hc (And.intro hn (And.intro hq (And.intro hB (And.intro h0 hT)))))))
  have HI := Lib.hid IH
  obtain ⟨N, hN⟩ : ∃ N, ks.length = N := ⟨_, rfl⟩
  obtain ⟨R, hR⟩ : ∃ R, altL ks s ⟨0, 0, false⟩ = R := ⟨_, rfl⟩
  rw [hR]
  have HR := Lib.hid hR
  rw [hN] at hlen ⊢
  have HN := Lib.hid hN
  clear hN4 hW1 hN5 hW2 hz1 b1 b2 x4 x5 k2 n2 q4 q5 hk hg hc hn hq hB h0 hT IH hN h hR
  go_enter Tryd.func95, Tryd.ntmps95
  go_wp2_with (first
    | (refine wpList_alloc80 rfl 4 rfl rfl N4 HA.out.1 W1 HA.out.2.1 ?_)
    | (refine wpList_alloc80 rfl 5 rfl rfl N5 HA.out.2.2.1 W2 HA.out.2.2.2 ?_)
    | fail)
  have H4 := Lib.hid (show Aq q w B n se s ks N4 N5 0 W2 from ⟨H2.out.2.2.1, by simpa [szL, szE.szL, altL, readE.altL] using H2.out.2.2.2, H2.out.1, H2.out.2.1⟩)
  go_loopw [11] (fun v wr => ∃ i : Nat, v = .int .i64 (i : Int) ∧ i ≤ N ∧ Aq q w B n se s ks N4 N5 i wr) (fun v _ => N - (RowKit.intOf v).toNat)
  case atStart => exact ⟨0, rfl, by omega, H4.out⟩
  case round =>
    obtain ⟨i, rfl, hi, hkp, hnf, hs4, hs5⟩ := hrel
    by_cases hlt : i < N
    · have i1 : (i : Int) < (N : Int) := by omega
      obtain ⟨f, hf⟩ : ∃ f, ks[i]? = some f := ⟨ks[i]'(by rw [HN.out]; exact hlt), List.getElem?_eq_getElem _⟩
      obtain ⟨b, o, rfl, hbl, hr⟩ := HK.out.1.r (by rintro rfl; simp at hf)
      obtain ⟨A', cap', d0, d1, d2, hNd⟩ := row_get' hr hf
      have hun : Below B w wr := hkp.under HK.out.2.2.2.2.1 HK.out.2.2.2.2.2.1
      have d0' := (hun.cell (p := ⟨b, o + i * 3, none⟩) hbl).trans d0
      have d1' := (hun.cell (p := ⟨b, o + i * 3 + 1, none⟩) hbl).trans d1
      have d2' := (hun.cell (p := ⟨b, o + i * 3 + 2, none⟩) hbl).trans d2
      obtain ⟨wr', hwr'⟩ : ∃ W, wr.alloc (.cells #[.int .i64 f.k, .int .i64 f.c, .slice A' f.ks.length cap'] 91) = W := ⟨_, rfl⟩
      have bb : Below wr.heap.size wr wr' := by rw [← hwr']; exact below_new _ _
      have hmem := List.mem_of_getElem? hf
      have hgf := good_all HK.out.2.1 f hmem
      obtain ⟨SP, hSP⟩ : ∃ r, altL (ks.take i) s ⟨0, 0, false⟩ = r := ⟨_, rfl⟩
      rw [hSP] at hnf hs5
      obtain ⟨S, P⟩ := SP
      have hcount : S.count = s.count + lvL (ks.take i) := by
        have := count_altL (ks.take i) s ⟨0, 0, false⟩ (good_taken HK.out.2.1 i)
        have e : altL (ks.take i) s ⟨0, 0, false⟩ = readE.altL (ks.take i) s ⟨0, 0, false⟩ := rfl
        rw [← e, hSP] at this
        exact this
      have hl1 := lvL_take hf
      have hl2 := lvL_take_le ks (i + 1)
      have hz1 := szL_take hf
      have hz2 := szL_take_le ks (i + 1)
      have hcn := HK.out.2.2.1
      have hnn := HK.out.2.2.2.1
      have hwB := HK.out.2.2.2.2.2.1
      have hsz := hkp.size
      have hTr : TZ wr' := (hun.trans (bb.mono (by omega))).block 0 HK.out.2.2.2.2.2.2.1 |> HK.out.2.2.2.2.2.2.2.block
      have hC := HI.out f hmem q B (n + 5000 * szL (ks.take i)) se S (.agg #[.int .i64 f.k, .int .i64 f.c, .slice A' f.ks.length cap']) wr' (hnf.below bb) HK.out.2.2.2.2.1 (by have := bb.size; omega) HK.out.2.2.2.2.2.2.1 hTr
        (hNd.below (hun.trans (bb.mono (by omega)))) hgf (by omega) (by omega)
      obtain ⟨S2Q, hS2Q⟩ : ∃ r, readE f S = r := ⟨_, rfl⟩
      rw [hS2Q] at hC
      obtain ⟨S2, Q⟩ := S2Q
      have hC := Lib.hid hC
      have hbud : n + 5000 * szL (ks.take i) + (5000 * szE f - 2500) ≤ n + 5000 * szL (ks.take (i + 1)) := by have := szE_pos f; omega
      have HS := Lib.hid (And.intro hf (And.intro hSP (And.intro hS2Q hbud)))
      have HW := Lib.hid (And.intro hwr' bb)
      have HM := Lib.hid (And.intro hkp (And.intro hs4 (And.intro hs5 (And.intro hTr (show n + 5000 * szL (ks.take i) + (5000 * szE f - 2500) ≤ 1000000000000 by omega)))))
      generalize n + 5000 * szL (ks.take i) + (5000 * szE f - 2500) = n1 at *
      clear hkp hnf hs4 hs5 hun bb hmem hgf hSP hcount hl1 hl2 hz1 hz2 hcn hnn hwB hsz hTr hS2Q hbud hwr' hNd hr hbl d0 d1 d2 hf
      go_wp2_with fail
      rw [HW.out.1]
      refine hC.out.mono ?_
      rintro e w2 ⟨rfl, hk2, hn2⟩
      obtain ⟨W3, hW3⟩ : ∃ W, w2.alloc (.cells Z80 125) = W := ⟨_, rfl⟩
      obtain ⟨N8, hN8⟩ : ∃ N, w2.heap.size = N := ⟨_, rfl⟩
      have kk : Kp q w w2 := (HM.out.1.below HW.out.2).trans hk2
      have t4 : SpAt w2 N4 sp0 := (HM.out.2.1.block (HW.out.2.block _ HM.out.2.1.lt)).block (hk2.block _ (Nat.lt_of_lt_of_le HM.out.2.1.lt HW.out.2.size) HQ.out.1)
      have t5 : SpAt w2 N5 P := (HM.out.2.2.1.block (HW.out.2.block _ HM.out.2.2.1.lt)).block (hk2.block _ (Nat.lt_of_lt_of_le HM.out.2.2.1.lt HW.out.2.size) HQ.out.2.1)
      have t8 : SpAt W3 N8 sp0 := by rw [← hW3, ← hN8]; exact spAt_new0 w2
      have hTw2 : TZ w2 := hk2.tz HM.out.2.2.2.1 (HK.out.2.2.2.2.1.out HK.out.2.2.2.2.2.2.1)
      have HX := Lib.hid (And.intro hW3 (And.intro hN8 (And.intro kk (And.intro t4 (And.intro t5 (And.intro t8 (And.intro hn2 hTw2)))))))
      clear hW3 hN8 kk t4 t5 t8 hn2 hk2 hTw2 d0' d1' d2'
      obtain ⟨pf, pl, pe⟩ := P
      obtain ⟨qf, ql, qe⟩ := Q
      cases pe
      · cases qe
        · skip
          go_wp2_with (first
            | (refine wpList_alloc80 rfl 8 rfl rfl N8 HX.out.2.1 W3 HX.out.1 ?_)
            | (refine wpList_storeSp rfl (.tmp 8) (.tmp 17) rfl rfl N8 sp0 ⟨qf, ql, false⟩ rfl rfl HX.out.2.2.2.2.2.1 ?_
               intro W4 hW4
               have hnew := sq_new HX.out.2.2.1 HX.out.2.2.2.2.2.2.1 HX.out.2.2.2.1 HX.out.2.2.2.2.1 HQ.out.1 HQ.out.2.1 HQ.out.2.2.1 HQ.out.2.2.2.1 HQ.out.2.2.2.2 HX.out.1 (by rw [HX.out.2.1]; exact hW4)
               rw [HX.out.2.1] at hnew
               have HF := Lib.hid hnew.1
               have H6 := Lib.hid hnew.2
               clear hW4 hnew)
            | (refine wpList_loadPl rfl (.tmp 23) rfl N8 16 ql rfl H7.out.s.l ?_)
            | (go_at_call 55; refine (padd_any N5 16 pl ql W7 H7.out.a.l).mono ?_; rintro e W9 ⟨rfl, hW9⟩
               have H9 := Lib.hid (H7.out.a2 HF.out hW9)
               clear hW9
               have e5 := H9.out.a.e
               have z5 := H9.out.a.z
               have e8 := H9.out.s.e)
            | (refine wpList_loadPl rfl (.tmp 19) rfl N8 0 qf rfl H6.out.s.f ?_)
            | (go_at_call 55; refine (padd_any N5 0 pf qf W4 H6.out.a.f).mono ?_; rintro e W7 ⟨rfl, hW7⟩
               have H7 := Lib.hid (H6.out.a1 HF.out hW7)
               clear hW7)
            | fail)
          have s10 := H9.out.a3 HF.out (false || false)
          have hend : ∃ j : Nat, Value.int .i64 ((i : Int) + 1) = .int .i64 (j : Int) ∧ j ≤ N ∧ Aq q w B n se s ks N4 N5 j (W9.setCell ⟨N5, 32, none⟩ (.bool (false || false))) :=
            ⟨i + 1, by simp, by omega, aq_step HS.out.1 HS.out.2 s10⟩
          have HEND := Lib.hid hend
          clear s10 hend e5 z5 e8
          go_roundw
          case rel => exact HEND.out
          case measure => simp [RowKit.intOf]; omega
        · skip
          go_wp2_with (first
            | (refine wpList_alloc80 rfl 8 rfl rfl N8 HX.out.2.1 W3 HX.out.1 ?_)
            | (refine wpList_storeSp rfl (.tmp 8) (.tmp 17) rfl rfl N8 sp0 ⟨qf, ql, true⟩ rfl rfl HX.out.2.2.2.2.2.1 ?_
               intro W4 hW4
               have hnew := sq_new HX.out.2.2.1 HX.out.2.2.2.2.2.2.1 HX.out.2.2.2.1 HX.out.2.2.2.2.1 HQ.out.1 HQ.out.2.1 HQ.out.2.2.1 HQ.out.2.2.2.1 HQ.out.2.2.2.2 HX.out.1 (by rw [HX.out.2.1]; exact hW4)
               rw [HX.out.2.1] at hnew
               have HF := Lib.hid hnew.1
               have H6 := Lib.hid hnew.2
               clear hW4 hnew)
            | (refine wpList_loadPl rfl (.tmp 23) rfl N8 16 ql rfl H7.out.s.l ?_)
            | (go_at_call 55; refine (padd_any N5 16 pl ql W7 H7.out.a.l).mono ?_; rintro e W9 ⟨rfl, hW9⟩
               have H9 := Lib.hid (H7.out.a2 HF.out hW9)
               clear hW9
               have e5 := H9.out.a.e
               have z5 := H9.out.a.z
               have e8 := H9.out.s.e)
            | (refine wpList_loadPl rfl (.tmp 19) rfl N8 0 qf rfl H6.out.s.f ?_)
            | (go_at_call 55; refine (padd_any N5 0 pf qf W4 H6.out.a.f).mono ?_; rintro e W7 ⟨rfl, hW7⟩
               have H7 := Lib.hid (H6.out.a1 HF.out hW7)
               clear hW7)
            | fail)
          have s10 := H9.out.a3 HF.out (false || true)
          have hend : ∃ j : Nat, Value.int .i64 ((i : Int) + 1) = .int .i64 (j : Int) ∧ j ≤ N ∧ Aq q w B n se s ks N4 N5 j (W9.setCell ⟨N5, 32, none⟩ (.bool (false || true))) :=
            ⟨i + 1, by simp, by omega, aq_step HS.out.1 HS.out.2 s10⟩
          have HEND := Lib.hid hend
          clear s10 hend e5 z5 e8
          go_roundw
          case rel => exact HEND.out
          case measure => simp [RowKit.intOf]; omega
      · cases qe
        · skip
          go_wp2_with (first
            | (refine wpList_alloc80 rfl 8 rfl rfl N8 HX.out.2.1 W3 HX.out.1 ?_)
            | (refine wpList_storeSp rfl (.tmp 8) (.tmp 17) rfl rfl N8 sp0 ⟨qf, ql, false⟩ rfl rfl HX.out.2.2.2.2.2.1 ?_
               intro W4 hW4
               have hnew := sq_new HX.out.2.2.1 HX.out.2.2.2.2.2.2.1 HX.out.2.2.2.1 HX.out.2.2.2.2.1 HQ.out.1 HQ.out.2.1 HQ.out.2.2.1 HQ.out.2.2.2.1 HQ.out.2.2.2.2 HX.out.1 (by rw [HX.out.2.1]; exact hW4)
               rw [HX.out.2.1] at hnew
               have HF := Lib.hid hnew.1
               have H6 := Lib.hid hnew.2
               clear hW4 hnew)
            | (refine wpList_loadPl rfl (.tmp 23) rfl N8 16 ql rfl H7.out.s.l ?_)
            | (go_at_call 55; refine (padd_any N5 16 pl ql W7 H7.out.a.l).mono ?_; rintro e W9 ⟨rfl, hW9⟩
               have H9 := Lib.hid (H7.out.a2 HF.out hW9)
               clear hW9
               have e5 := H9.out.a.e
               have z5 := H9.out.a.z
               have e8 := H9.out.s.e)
            | (refine wpList_loadPl rfl (.tmp 19) rfl N8 0 qf rfl H6.out.s.f ?_)
            | (go_at_call 55; refine (padd_any N5 0 pf qf W4 H6.out.a.f).mono ?_; rintro e W7 ⟨rfl, hW7⟩
               have H7 := Lib.hid (H6.out.a1 HF.out hW7)
               clear hW7)
            | fail)
          have s10 := H9.out.a3 HF.out (true || false)
          have hend : ∃ j : Nat, Value.int .i64 ((i : Int) + 1) = .int .i64 (j : Int) ∧ j ≤ N ∧ Aq q w B n se s ks N4 N5 j (W9.setCell ⟨N5, 32, none⟩ (.bool (true || false))) :=
            ⟨i + 1, by simp, by omega, aq_step HS.out.1 HS.out.2 s10⟩
          have HEND := Lib.hid hend
          clear s10 hend e5 z5 e8
          go_roundw
          case rel => exact HEND.out
          case measure => simp [RowKit.intOf]; omega
        · skip
          go_wp2_with (first
            | (refine wpList_alloc80 rfl 8 rfl rfl N8 HX.out.2.1 W3 HX.out.1 ?_)
            | (refine wpList_storeSp rfl (.tmp 8) (.tmp 17) rfl rfl N8 sp0 ⟨qf, ql, true⟩ rfl rfl HX.out.2.2.2.2.2.1 ?_
               intro W4 hW4
               have hnew := sq_new HX.out.2.2.1 HX.out.2.2.2.2.2.2.1 HX.out.2.2.2.1 HX.out.2.2.2.2.1 HQ.out.1 HQ.out.2.1 HQ.out.2.2.1 HQ.out.2.2.2.1 HQ.out.2.2.2.2 HX.out.1 (by rw [HX.out.2.1]; exact hW4)
               rw [HX.out.2.1] at hnew
               have HF := Lib.hid hnew.1
               have H6 := Lib.hid hnew.2
               clear hW4 hnew)
            | (refine wpList_loadPl rfl (.tmp 23) rfl N8 16 ql rfl H7.out.s.l ?_)
            | (go_at_call 55; refine (padd_any N5 16 pl ql W7 H7.out.a.l).mono ?_; rintro e W9 ⟨rfl, hW9⟩
               have H9 := Lib.hid (H7.out.a2 HF.out hW9)
               clear hW9
               have e5 := H9.out.a.e
               have z5 := H9.out.a.z
               have e8 := H9.out.s.e)
            | (refine wpList_loadPl rfl (.tmp 19) rfl N8 0 qf rfl H6.out.s.f ?_)
            | (go_at_call 55; refine (padd_any N5 0 pf qf W4 H6.out.a.f).mono ?_; rintro e W7 ⟨rfl, hW7⟩
               have H7 := Lib.hid (H6.out.a1 HF.out hW7)
               clear hW7)
            | fail)
          have s10 := H9.out.a3 HF.out (true || true)
          have hend : ∃ j : Nat, Value.int .i64 ((i : Int) + 1) = .int .i64 (j : Int) ∧ j ≤ N ∧ Aq q w B n se s ks N4 N5 j (W9.setCell ⟨N5, 32, none⟩ (.bool (true || true))) :=
            ⟨i + 1, by simp, by omega, aq_step HS.out.1 HS.out.2 s10⟩
          have HEND := Lib.hid hend
          clear s10 hend e5 z5 e8
          go_roundw
          case rel => exact HEND.out
          case measure => simp [RowKit.intOf]; omega
    · obtain rfl : i = N := by omega
      have d1 : ¬ (i : Int) < (i : Int) := by omega
      have e1 : ks.take i = ks := by rw [← HN.out, List.take_length]
      rw [e1, HR.out] at hnf hs5
      have HE := Lib.hid (And.intro hkp (And.intro hnf (And.intro hs4 hs5)))
      clear hkp hnf hs4 hs5 e1
      go_wp2_with (first
        | (refine wpList_loadSp rfl (.tmp 5) rfl N5 R.2 rfl HE.out.2.2.2 ?_)
        | (refine wpList_storeSp rfl (.tmp 4) (.tmp 34) rfl rfl N4 sp0 R.2 rfl rfl HE.out.2.2.1 ?_; intro W8 hW8; have H8 := Lib.hid hW8; clear hW8)
        | fail)
      refine bodyPost_ret (v := .agg (spL R.2).toArray) (results_sp rfl _ _ N4 _ rfl H8.out.at_) rfl ⟨rfl, ?_, ?_⟩
      · exact HE.out.1.grown H8.out.grown (.inr HQ.out.2.2.1)
      · exact HE.out.2.1.grown H8.out.grown HQ.out.1
end Go.Proofs.YtmldgfplnacecaaDoor

namespace Go.Proofs.YtmldgfplnacecaaDoor
open Go.RowKit Go.Shelf Go.Lib Go.Great Go.Maps

theorem readE_4 (c : Int) (ks : List E) (s : St) : readE (.mk 4 c ks) s = seqL ks s ⟨0, 0, true⟩ := by unfold readE; simp
theorem readE_5 (c : Int) (ks : List E) (s : St) : readE (.mk 5 c ks) s = altL ks s ⟨0, 0, false⟩ := by unfold readE; simp
theorem readE_6 (c : Int) (f : E) (s : St) : readE (.mk 6 c [f]) s = ((readE f s).1.link (readE f s).2.last (readE f s).2.first, ⟨(readE f s).2.first, (readE f s).2.last, true⟩) := by
  rw [readE]; simp [readE.headL]
theorem readE_7 (c : Int) (f : E) (s : St) : readE (.mk 7 c [f]) s = ((readE f s).1.link (readE f s).2.last (readE f s).2.first, (readE f s).2) := by
  rw [readE]; simp [readE.headL]
theorem readE_8 (c : Int) (f : E) (s : St) : readE (.mk 8 c [f]) s = ((readE f s).1, ⟨(readE f s).2.first, (readE f s).2.last, true⟩) := by
  rw [readE]; simp [readE.headL]
theorem readE_9 (c : Int) (ks : List E) (s : St) : readE (.mk 9 c ks) s = (s, ⟨0, 0, true⟩) := by unfold readE; simp
theorem readE_leaf {k : Int} (c : Int) (ks : List E) (s : St) (h4 : k ≠ 4) (h5 : k ≠ 5) (h6 : k ≠ 6) (h7 : k ≠ 7) (h8 : k ≠ 8) (h9 : k ≠ 9) : readE (.mk k c ks) s = (s.leaf k c, ⟨2 ^ s.count, 2 ^ s.count, false⟩) := by unfold readE; simp [h4, h5, h6, h7, h8, h9]
/-- Behind the first statement of read: the node in its box, the span that will be answered. -/
structure Rd0 (q : Np) (B : Nat) (w W2 : World) (N1 n : Nat) (se : Bool) (s : St) (k c : Int) (A : Option Addr) (ks : List E) (cap : Nat) : Prop where
  kp : Kp q w W2
  nf : NfaAt W2 q n se s
  x : Cells W2 w.heap.size 91 #[.int .i64 k, .int .i64 c, .slice A ks.length cap]
  r : SpAt W2 N1 sp0
  ks : KsAt W2 B ks A cap
  tz : TZ W2
  q0 : ¬ q.In w.heap.size
  q1 : ¬ q.In N1
  n1 : N1 = w.heap.size + 1
  hB : B ≤ W2.heap.size
  l1 : W2.heap.size = w.heap.size + 2
theorem rd0 {q : Np} {B n : Nat} {se : Bool} {s : St} {w W1 W2 : World} {k c : Int} {A : Option Addr} {ks : List E} {cap N1 : Nat} (h : NfaAt w q n se s) (hB : B ≤ w.heap.size) (hT : TZ w) (hk : KsAt w B ks A cap)
    (hW1 : w.alloc (.cells #[.int .i64 k, .int .i64 c, .slice A ks.length cap] 91) = W1) (hN1 : W1.heap.size = N1) (hW2 : W1.alloc (.cells Z80 125) = W2) : Rd0 q B w W2 N1 n se s k c A ks cap := by
  have hz1 : W1.heap.size = w.heap.size + 1 := by rw [← hW1]; simp
  have hz2 : W2.heap.size = w.heap.size + 2 := by rw [← hW2]; simp [hz1]
  have b1 : Below w.heap.size w W1 := by rw [← hW1]; exact below_new _ _
  have b2 : Below W1.heap.size W1 W2 := by rw [← hW2]; exact below_new _ _
  have b12 : Below w.heap.size w W2 := b1.trans (b2.mono (by omega))
  refine ⟨.of_below b12, h.below b12, (b2.block _ (by omega)).trans (by rw [← hW1]; exact cells_new _ _ _), by rw [← hN1, ← hW2]; exact spAt_new0 W1, hk.below (b12.mono hB), hT.below b12 hT.lt, fun hin => by have := h.lt hin; omega, fun hin => by have := h.lt hin; omega, by omega, by omega, hz2⟩

set_option maxHeartbeats 8000000 in
set_option maxRecDepth 100000 in
theorem read9 (c : Int) (ks : List E) (q : Np) (B n : Nat) (se : Bool) (s : St) (v : Value) (w : World) (h : NfaAt w q n se s) (_hq : q.Ok B) (hB : B ≤ w.heap.size) (_h0 : 0 < B) (hT : TZ w) (hN : Nd w B (.mk 9 c ks) v)
    (_hn : n ≤ 900000000000) :
    Calls Tryd.prog 82 #[.pointer (some ⟨q.b, 0, none⟩), v] w fun r w' => r = .returned (.agg (spL (readE (.mk 9 c ks) s).2).toArray) ∧ Kp q w w' ∧ NfaAt w' q (n + 0) se (readE (.mk 9 c ks) s).1 := by
  obtain ⟨_, _, A, cap, rfl, hk⟩ := Nd_iff.1 hN
  simp only [E.k, E.c, E.ks] at hk ⊢
  obtain ⟨W1, hW1⟩ : ∃ W, w.alloc (.cells #[.int .i64 9, .int .i64 c, .slice A ks.length cap] 91) = W := ⟨_, rfl⟩
  obtain ⟨N1, hN1⟩ : ∃ N, W1.heap.size = N := ⟨_, rfl⟩
  obtain ⟨W2, hW2⟩ : ∃ W, W1.alloc (.cells Z80 125) = W := ⟨_, rfl⟩
  have h2 := rd0 h hB hT hk hW1 hN1 hW2
  have d0 := h2.x.cell 0
  have d1 := h2.x.cell 1
  have d2 := h2.x.cell 2
  simp at d0 d1 d2
  have HS := Lib.hid (And.intro hW1 (And.intro hN1 hW2))
  have H2 := Lib.hid h2
  rw [readE_9]
  clear hW1 hN1 hW2 h2 hk hN
  go_enter Tryd.func82, Tryd.ntmps82
  go_wp2_with (first
    | (refine wpList_alloc80 rfl 4 rfl rfl N1 (by rw [HS.out.1]; exact HS.out.2.1) W2 (by rw [HS.out.1]; exact HS.out.2.2) ?_)
    | (refine wpList_buildEmpty rfl rfl ?_)
    | (refine wpList_storeSp rfl (.tmp 4) (.tmp 11) rfl rfl N1 sp0 ⟨0, 0, true⟩ rfl rfl H2.out.r ?_; intro W8 hW8; have H8 := Lib.hid hW8; clear hW8)
    | fail)
  refine bodyPost_ret (v := .agg (spL ⟨0, 0, true⟩).toArray) (results_sp rfl _ _ N1 _ rfl H8.out.at_) rfl ⟨rfl, ?_, ?_⟩
  · exact H2.out.kp.grown H8.out.grown (.inr (by have := H2.out.n1; omega))
  · exact H2.out.nf.grown H8.out.grown H2.out.q1

set_option maxHeartbeats 8000000 in
set_option maxRecDepth 100000 in
theorem read4 (c : Int) (ks : List E) (IH : ∀ e ∈ ks, ReadOk e) (q : Np) (B n : Nat) (se : Bool) (s : St) (v : Value) (w : World) (h : NfaAt w q n se s) (hq : q.Ok B) (hB : B ≤ w.heap.size) (h0 : 0 < B) (hT : TZ w) (hN : Nd w B (.mk 4 c ks) v)
    (hg : goodE.all ks = true) (hc : s.count + lvL ks ≤ 1000) (hn : n + 5000 * szL ks ≤ 900000000000) :
    Calls Tryd.prog 82 #[.pointer (some ⟨q.b, 0, none⟩), v] w fun r w' => r = .returned (.agg (spL (readE (.mk 4 c ks) s).2).toArray) ∧ Kp q w w' ∧ NfaAt w' q (n + 5000 * szL ks) se (readE (.mk 4 c ks) s).1 := by
  obtain ⟨_, _, A, cap, rfl, hk⟩ := Nd_iff.1 hN
  simp only [E.k, E.c, E.ks] at hk ⊢
  obtain ⟨W1, hW1⟩ : ∃ W, w.alloc (.cells #[.int .i64 4, .int .i64 c, .slice A ks.length cap] 91) = W := ⟨_, rfl⟩
  obtain ⟨N1, hN1⟩ : ∃ N, W1.heap.size = N := ⟨_, rfl⟩
  obtain ⟨W2, hW2⟩ : ∃ W, W1.alloc (.cells Z80 125) = W := ⟨_, rfl⟩
  have h2 := rd0 h hB hT hk hW1 hN1 hW2
  have d0 := h2.x.cell 0
  have d1 := h2.x.cell 1
  have d2 := h2.x.cell 2
  simp at d0 d1 d2
  have HS := Lib.hid (And.intro hW1 (And.intro hN1 hW2))
  have H2 := Lib.hid h2
  have C := Lib.hid (seq_any ks IH q B n se s A cap W2 h2.nf hq h2.hB h0 h2.tz h2.ks hg hc hn)
  rw [readE_4]
  obtain ⟨R, hR⟩ : ∃ R, seqL ks s ⟨0, 0, true⟩ = R := ⟨_, rfl⟩
  rw [hR] at C ⊢
  clear hW1 hN1 hW2 h2 hk hN IH hg hR
  go_enter Tryd.func82, Tryd.ntmps82
  go_wp2_with (first
    | (refine wpList_alloc80 rfl 4 rfl rfl N1 (by rw [HS.out.1]; exact HS.out.2.1) W2 (by rw [HS.out.1]; exact HS.out.2.2) ?_)
    | (go_at_call 94; refine C.out.mono ?_; rintro e W3 ⟨rfl, hk3, hn3⟩
       have r3 := H2.out.r.block (hk3.block _ H2.out.r.lt H2.out.q1)
       have H3 := Lib.hid (And.intro hk3 (And.intro hn3 r3))
       clear hk3 hn3 r3)
    | (refine wpList_storeSp rfl (.tmp 4) (.tmp 17) rfl rfl N1 sp0 R.2 rfl rfl H3.out.2.2 ?_; intro W8 hW8; have H8 := Lib.hid hW8; clear hW8)
    | fail)
  refine bodyPost_ret (v := .agg (spL R.2).toArray) (results_sp rfl _ _ N1 _ rfl H8.out.at_) rfl ⟨rfl, ?_, ?_⟩
  · exact (H2.out.kp.trans H3.out.1).grown H8.out.grown (.inr (by have := H2.out.n1; omega))
  · exact H3.out.2.1.grown H8.out.grown H2.out.q1

set_option maxHeartbeats 8000000 in
set_option maxRecDepth 100000 in
theorem read5 (c : Int) (ks : List E) (IH : ∀ e ∈ ks, ReadOk e) (q : Np) (B n : Nat) (se : Bool) (s : St) (v : Value) (w : World) (h : NfaAt w q n se s) (hq : q.Ok B) (hB : B ≤ w.heap.size) (h0 : 0 < B) (hT : TZ w) (hN : Nd w B (.mk 5 c ks) v)
    (hg : goodE.all ks = true) (hc : s.count + lvL ks ≤ 1000) (hn : n + 5000 * szL ks ≤ 900000000000) :
    Calls Tryd.prog 82 #[.pointer (some ⟨q.b, 0, none⟩), v] w fun r w' => r = .returned (.agg (spL (readE (.mk 5 c ks) s).2).toArray) ∧ Kp q w w' ∧ NfaAt w' q (n + 5000 * szL ks) se (readE (.mk 5 c ks) s).1 := by
  obtain ⟨_, _, A, cap, rfl, hk⟩ := Nd_iff.1 hN
  simp only [E.k, E.c, E.ks] at hk ⊢
  obtain ⟨W1, hW1⟩ : ∃ W, w.alloc (.cells #[.int .i64 5, .int .i64 c, .slice A ks.length cap] 91) = W := ⟨_, rfl⟩
  obtain ⟨N1, hN1⟩ : ∃ N, W1.heap.size = N := ⟨_, rfl⟩
  obtain ⟨W2, hW2⟩ : ∃ W, W1.alloc (.cells Z80 125) = W := ⟨_, rfl⟩
  have h2 := rd0 h hB hT hk hW1 hN1 hW2
  have d0 := h2.x.cell 0
  have d1 := h2.x.cell 1
  have d2 := h2.x.cell 2
  simp at d0 d1 d2
  have HS := Lib.hid (And.intro hW1 (And.intro hN1 hW2))
  have H2 := Lib.hid h2
  have C := Lib.hid (alt_any ks IH q B n se s A cap W2 h2.nf hq h2.hB h0 h2.tz h2.ks hg hc hn)
  rw [readE_5]
  obtain ⟨R, hR⟩ : ∃ R, altL ks s ⟨0, 0, false⟩ = R := ⟨_, rfl⟩
  rw [hR] at C ⊢
  clear hW1 hN1 hW2 h2 hk hN IH hg hR
  go_enter Tryd.func82, Tryd.ntmps82
  go_wp2_with (first
    | (refine wpList_alloc80 rfl 4 rfl rfl N1 (by rw [HS.out.1]; exact HS.out.2.1) W2 (by rw [HS.out.1]; exact HS.out.2.2) ?_)
    | (go_at_call 95; refine C.out.mono ?_; rintro e W3 ⟨rfl, hk3, hn3⟩
       have r3 := H2.out.r.block (hk3.block _ H2.out.r.lt H2.out.q1)
       have H3 := Lib.hid (And.intro hk3 (And.intro hn3 r3))
       clear hk3 hn3 r3)
    | (refine wpList_storeSp rfl (.tmp 4) (.tmp 23) rfl rfl N1 sp0 R.2 rfl rfl H3.out.2.2 ?_; intro W8 hW8; have H8 := Lib.hid hW8; clear hW8)
    | fail)
  refine bodyPost_ret (v := .agg (spL R.2).toArray) (results_sp rfl _ _ N1 _ rfl H8.out.at_) rfl ⟨rfl, ?_, ?_⟩
  · exact (H2.out.kp.trans H3.out.1).grown H8.out.grown (.inr (by have := H2.out.n1; omega))
  · exact H3.out.2.1.grown H8.out.grown H2.out.q1

set_option maxHeartbeats 8000000 in
set_option maxRecDepth 100000 in
theorem readLf (k c : Int) (q : Np) (B n : Nat) (se : Bool) (s : St) (v : Value) (w : World) (h : NfaAt w q n se s) (hq : q.Ok B) (hB : B ≤ w.heap.size) (_h0 : 0 < B) (hT : TZ w) (hN : Nd w B (.mk k c []) v)
    (k0 : 0 ≤ k) (k3 : k ≤ 3) (hr : rightE (.mk k c []) = true) (hc : s.count < 1024) (hn : n ≤ 900000000000) :
    Calls Tryd.prog 82 #[.pointer (some ⟨q.b, 0, none⟩), v] w fun r w' => r = .returned (.agg (spL (readE (.mk k c []) s).2).toArray) ∧ Kp q w w' ∧ NfaAt w' q (n + 37) se (readE (.mk k c []) s).1 := by
  obtain ⟨_, _, A, cap, rfl, hk⟩ := Nd_iff.1 hN
  simp only [E.k, E.c, E.ks] at hk ⊢
  obtain ⟨W1, hW1⟩ : ∃ W, w.alloc (.cells #[.int .i64 k, .int .i64 c, .slice A 0 cap] 91) = W := ⟨_, rfl⟩
  obtain ⟨N1, hN1⟩ : ∃ N, W1.heap.size = N := ⟨_, rfl⟩
  obtain ⟨W2, hW2⟩ : ∃ W, W1.alloc (.cells Z80 125) = W := ⟨_, rfl⟩
  have h2 := rd0 h hB hT hk hW1 hN1 hW2
  have d0 := h2.x.cell 0
  have d1 := h2.x.cell 1
  have d2 := h2.x.cell 2
  simp at d0 d1 d2
  have HS := Lib.hid (And.intro hW1 (And.intro hN1 hW2))
  have H2 := Lib.hid h2
  have C := Lib.hid (leaf_any q B n se s k c A cap W2 h2.nf hq h2.hB (Nd_iff.2 ⟨‹_›, ‹_›, A, cap, rfl, h2.ks⟩) (by omega) hr hc (by omega))
  rw [readE_leaf c [] s (by omega) (by omega) (by omega) (by omega) (by omega) (by omega)]
  have k4 : (k == 4) = false := by simp; omega
  have k5 : (k == 5) = false := by simp; omega
  have k6 : (k == 6) = false := by simp; omega
  have k7 : (k == 7) = false := by simp; omega
  have k8 : (k == 8) = false := by simp; omega
  have k9 : (k == 9) = false := by simp; omega
  clear hW1 hN1 hW2 h2 hk hN
  go_enter Tryd.func82, Tryd.ntmps82
  go_wp2_with (first
    | (refine wpList_alloc80 rfl 4 rfl rfl N1 (by rw [HS.out.1]; exact HS.out.2.1) W2 (by rw [HS.out.1]; exact HS.out.2.2) ?_)
    | (go_at_call 96; refine C.out.mono ?_; rintro e W3 ⟨rfl, hk3, hn3⟩
       have r3 := H2.out.r.block (hk3.block _ H2.out.r.lt H2.out.q1)
       have H3 := Lib.hid (And.intro hk3 (And.intro hn3 r3))
       clear hk3 hn3 r3)
    | (refine wpList_storeSp rfl (.tmp 4) (.tmp 60) rfl rfl N1 sp0 ⟨2 ^ s.count, 2 ^ s.count, false⟩ rfl rfl H3.out.2.2 ?_; intro W8 hW8; have H8 := Lib.hid hW8; clear hW8)
    | fail)
  refine bodyPost_ret (v := .agg (spL ⟨2 ^ s.count, 2 ^ s.count, false⟩).toArray) (results_sp rfl _ _ N1 _ rfl H8.out.at_) rfl ⟨rfl, ?_, ?_⟩
  · exact (H2.out.kp.trans H3.out.1).grown H8.out.grown (.inr (by have := H2.out.n1; omega))
  · exact H3.out.2.1.grown H8.out.grown H2.out.q1

set_option maxHeartbeats 8000000 in
set_option maxRecDepth 100000 in
theorem read6 (c : Int) (f : E) (IH : ReadOk f) (q : Np) (B n : Nat) (se : Bool) (s : St) (v : Value) (w : World) (h : NfaAt w q n se s) (hq : q.Ok B) (hB : B ≤ w.heap.size) (h0 : 0 < B) (hT : TZ w) (hN : Nd w B (.mk 6 c [f]) v)
    (hg : goodE f = true) (hc : s.count + leavesE f ≤ 1000) (hn : n + 5000 * szE f ≤ 900000000000) :
    Calls Tryd.prog 82 #[.pointer (some ⟨q.b, 0, none⟩), v] w fun r w' => r = .returned (.agg (spL (readE (.mk 6 c [f]) s).2).toArray) ∧ Kp q w w' ∧ NfaAt w' q (n + (5000 * szE f - 2500) + 1024) se (readE (.mk 6 c [f]) s).1 := by
  obtain ⟨_, _, A, cap, rfl, hk⟩ := Nd_iff.1 hN
  simp only [E.k, E.c, E.ks] at hk ⊢
  obtain ⟨W1, hW1⟩ : ∃ W, w.alloc (.cells #[.int .i64 6, .int .i64 c, .slice A 1 cap] 91) = W := ⟨_, rfl⟩
  obtain ⟨N1, hN1⟩ : ∃ N, W1.heap.size = N := ⟨_, rfl⟩
  obtain ⟨W2, hW2⟩ : ∃ W, W1.alloc (.cells Z80 125) = W := ⟨_, rfl⟩
  have h2 := rd0 h hB hT hk hW1 hN1 hW2
  have d0 := h2.x.cell 0
  have d1 := h2.x.cell 1
  have d2 := h2.x.cell 2
  simp at d0 d1 d2
  have HS := Lib.hid (And.intro hW1 (And.intro hN1 hW2))
  have H2 := Lib.hid h2
  obtain ⟨b, o, rfl, hbl, hrow⟩ := h2.ks.r (by simp)
  obtain ⟨A', cap', e0, e1, e2, hNd⟩ := row_get' (i := 0) hrow rfl
  rw [show o + 0 * 3 = o by omega] at e0 e1 e2
  have C := Lib.hid (IH q B n se s _ W2 h2.nf hq h2.hB h0 h2.tz hNd hg hc (by omega))
  have HQ := Lib.hid (And.intro hq h0)
  rw [readE_6]
  obtain ⟨R, hR⟩ : ∃ R, readE f s = R := ⟨_, rfl⟩
  rw [hR] at C ⊢
  have hbud : n + (5000 * szE f - 2500) ≤ 1000000000000 := by omega
  generalize n + (5000 * szE f - 2500) = n1 at *
  clear hW1 hN1 hW2 h2 hk hN IH hg hR hbl hrow hNd hq
  obtain ⟨S2, qf, ql, qe⟩ := R
  cases qe
  · go_enter Tryd.func82, Tryd.ntmps82
    go_wp2_with (first
      | (refine wpList_alloc80 rfl 4 rfl rfl N1 (by rw [HS.out.1]; exact HS.out.2.1) W2 (by rw [HS.out.1]; exact HS.out.2.2) ?_)
      | (go_at_call 82; refine C.out.mono ?_; rintro e W3 ⟨rfl, hk3, hn3⟩
         have r3 := H2.out.r.block (hk3.block _ H2.out.r.lt H2.out.q1)
         have x3 := (hk3.block _ H2.out.x.lt H2.out.q0).trans H2.out.x
         have t3 := hk3.tz H2.out.tz (HQ.out.1.out HQ.out.2)
         obtain ⟨W4, hW4⟩ : ∃ W, W3.alloc (.cells Z80 125) = W := ⟨_, rfl⟩
         obtain ⟨N5, hN5⟩ : ∃ N, W3.heap.size = N := ⟨_, rfl⟩
         have b4 : Below W3.heap.size W3 W4 := by rw [← hW4]; exact below_new _ _
         have s4 : SpAt W4 N5 sp0 := by rw [← hW4, ← hN5]; exact spAt_new0 W3
         have q5 : ¬ q.In N5 := fun hin => by have := hn3.lt hin; omega
         have l5 : w.heap.size + 2 ≤ N5 := by have := hk3.size; have := H2.out.l1; omega
         have H4 := Lib.hid (And.intro hW4 (And.intro hN5 (And.intro s4 (And.intro q5 (And.intro l5 (And.intro ((H2.out.kp.trans hk3).below b4) (And.intro (hn3.below b4) (And.intro (r3.block (b4.block _ r3.lt)) (And.intro (show Cells W4 w.heap.size 91 _ from (b4.block _ (Nat.lt_of_lt_of_le H2.out.x.lt hk3.size)).trans x3) (t3.below b4 t3.lt))))))))))
         clear hk3 hn3 r3 x3 t3 hW4 hN5 b4 s4 q5 l5)
      | (refine wpList_alloc80 rfl 5 rfl rfl N5 H4.out.2.1 W4 H4.out.1 ?_)
      | (refine wpList_storeSp rfl (.tmp 5) (.tmp 32) rfl rfl N5 sp0 ⟨qf, ql, false⟩ rfl rfl H4.out.2.2.1 ?_
         intro W5 hW5
         have n5 := H4.out.2.2.2.2.2.2.1.grown hW5.grown H4.out.2.2.2.1
         have k5 := H4.out.2.2.2.2.2.1.grown hW5.grown (.inr (by have := H4.out.2.2.2.2.1; omega))
         have r5 := H4.out.2.2.2.2.2.2.2.1.grown hW5.grown (by have := H4.out.2.2.2.2.1; have := H2.out.n1; omega)
         have x5 : Cells W5 w.heap.size 91 _ := (hW5.grown.block _ H4.out.2.2.2.2.2.2.2.2.1.lt (fun e => by injection e with e; have := H4.out.2.2.2.2.1; omega)).trans H4.out.2.2.2.2.2.2.2.2.1
         have t5 := H4.out.2.2.2.2.2.2.2.2.2.grown hW5.grown (by have := H4.out.2.2.2.2.1; omega)
         have H5 := Lib.hid (And.intro hW5.at_ (And.intro n5 (And.intro k5 (And.intro r5 (And.intro x5 t5)))))
         clear n5 k5 r5 x5 t5 hW5
         clear d0 d1 d2)
      | (refine wpList_loadPl rfl (.tmp 34) rfl N5 16 ql rfl H5.out.1.l ?_)
      | (refine wpList_loadPl rfl (.tmp 36) rfl N5 0 qf rfl H5.out.1.f ?_)
      | (go_at_call 83; refine (link_any q B n1 se S2 ql qf W5 H5.out.2.1 HQ.out.1 HQ.out.2 H5.out.2.2.2.2.2 (by omega)).mono ?_; rintro e W6 ⟨rfl, hk6, hn6⟩
         have s6 := H5.out.1.block (hk6.block _ H5.out.1.lt H4.out.2.2.2.1)
         have r6 := H5.out.2.2.2.1.block (hk6.block _ H5.out.2.2.2.1.lt H2.out.q1)
         have x6 : Cells W6 w.heap.size 91 _ := (hk6.block _ H5.out.2.2.2.2.1.lt H2.out.q0).trans H5.out.2.2.2.2.1
         have H6 := Lib.hid (And.intro s6 (And.intro hn6 (And.intro (H5.out.2.2.1.trans hk6) r6)))
         have d0 := x6.cell 0
         simp at d0
         have e5 := s6.e
         have z5 := s6.z
         clear hk6 hn6 s6 r6 x6)
      | (refine wpList_loadSp rfl (.tmp 5) rfl N5 ⟨qf, ql, true⟩ rfl (H6.out.1.empty true) ?_)
      | (refine wpList_storeSp rfl (.tmp 4) (.tmp 47) rfl rfl N1 sp0 ⟨qf, ql, true⟩ rfl rfl (H6.out.2.2.2.grown (grown_setc W6 N5 32 _) (by have := H4.out.2.2.2.2.1; have := H2.out.n1; omega)) ?_; intro W8 hW8; have H8 := Lib.hid hW8; clear hW8)
      | fail)
    refine bodyPost_ret (v := .agg (spL ⟨qf, ql, true⟩).toArray) (results_sp rfl _ _ N1 _ rfl H8.out.at_) rfl ⟨rfl, ?_, ?_⟩
    · exact (H6.out.2.2.1.grown (grown_setc W6 N5 32 _) (.inr (by have := H4.out.2.2.2.2.1; omega))).grown H8.out.grown (.inr (by have := H2.out.n1; omega))
    · exact ((H6.out.2.1.grown (grown_setc W6 N5 32 _) H4.out.2.2.2.1).grown H8.out.grown H2.out.q1).mono (by omega)
  · go_enter Tryd.func82, Tryd.ntmps82
    go_wp2_with (first
      | (refine wpList_alloc80 rfl 4 rfl rfl N1 (by rw [HS.out.1]; exact HS.out.2.1) W2 (by rw [HS.out.1]; exact HS.out.2.2) ?_)
      | (go_at_call 82; refine C.out.mono ?_; rintro e W3 ⟨rfl, hk3, hn3⟩
         have r3 := H2.out.r.block (hk3.block _ H2.out.r.lt H2.out.q1)
         have x3 := (hk3.block _ H2.out.x.lt H2.out.q0).trans H2.out.x
         have t3 := hk3.tz H2.out.tz (HQ.out.1.out HQ.out.2)
         obtain ⟨W4, hW4⟩ : ∃ W, W3.alloc (.cells Z80 125) = W := ⟨_, rfl⟩
         obtain ⟨N5, hN5⟩ : ∃ N, W3.heap.size = N := ⟨_, rfl⟩
         have b4 : Below W3.heap.size W3 W4 := by rw [← hW4]; exact below_new _ _
         have s4 : SpAt W4 N5 sp0 := by rw [← hW4, ← hN5]; exact spAt_new0 W3
         have q5 : ¬ q.In N5 := fun hin => by have := hn3.lt hin; omega
         have l5 : w.heap.size + 2 ≤ N5 := by have := hk3.size; have := H2.out.l1; omega
         have H4 := Lib.hid (And.intro hW4 (And.intro hN5 (And.intro s4 (And.intro q5 (And.intro l5 (And.intro ((H2.out.kp.trans hk3).below b4) (And.intro (hn3.below b4) (And.intro (r3.block (b4.block _ r3.lt)) (And.intro (show Cells W4 w.heap.size 91 _ from (b4.block _ (Nat.lt_of_lt_of_le H2.out.x.lt hk3.size)).trans x3) (t3.below b4 t3.lt))))))))))
         clear hk3 hn3 r3 x3 t3 hW4 hN5 b4 s4 q5 l5)
      | (refine wpList_alloc80 rfl 5 rfl rfl N5 H4.out.2.1 W4 H4.out.1 ?_)
      | (refine wpList_storeSp rfl (.tmp 5) (.tmp 32) rfl rfl N5 sp0 ⟨qf, ql, true⟩ rfl rfl H4.out.2.2.1 ?_
         intro W5 hW5
         have n5 := H4.out.2.2.2.2.2.2.1.grown hW5.grown H4.out.2.2.2.1
         have k5 := H4.out.2.2.2.2.2.1.grown hW5.grown (.inr (by have := H4.out.2.2.2.2.1; omega))
         have r5 := H4.out.2.2.2.2.2.2.2.1.grown hW5.grown (by have := H4.out.2.2.2.2.1; have := H2.out.n1; omega)
         have x5 : Cells W5 w.heap.size 91 _ := (hW5.grown.block _ H4.out.2.2.2.2.2.2.2.2.1.lt (fun e => by injection e with e; have := H4.out.2.2.2.2.1; omega)).trans H4.out.2.2.2.2.2.2.2.2.1
         have t5 := H4.out.2.2.2.2.2.2.2.2.2.grown hW5.grown (by have := H4.out.2.2.2.2.1; omega)
         have H5 := Lib.hid (And.intro hW5.at_ (And.intro n5 (And.intro k5 (And.intro r5 (And.intro x5 t5)))))
         clear n5 k5 r5 x5 t5 hW5
         clear d0 d1 d2)
      | (refine wpList_loadPl rfl (.tmp 34) rfl N5 16 ql rfl H5.out.1.l ?_)
      | (refine wpList_loadPl rfl (.tmp 36) rfl N5 0 qf rfl H5.out.1.f ?_)
      | (go_at_call 83; refine (link_any q B n1 se S2 ql qf W5 H5.out.2.1 HQ.out.1 HQ.out.2 H5.out.2.2.2.2.2 (by omega)).mono ?_; rintro e W6 ⟨rfl, hk6, hn6⟩
         have s6 := H5.out.1.block (hk6.block _ H5.out.1.lt H4.out.2.2.2.1)
         have r6 := H5.out.2.2.2.1.block (hk6.block _ H5.out.2.2.2.1.lt H2.out.q1)
         have x6 : Cells W6 w.heap.size 91 _ := (hk6.block _ H5.out.2.2.2.2.1.lt H2.out.q0).trans H5.out.2.2.2.2.1
         have H6 := Lib.hid (And.intro s6 (And.intro hn6 (And.intro (H5.out.2.2.1.trans hk6) r6)))
         have d0 := x6.cell 0
         simp at d0
         have e5 := s6.e
         have z5 := s6.z
         clear hk6 hn6 s6 r6 x6)
      | (refine wpList_loadSp rfl (.tmp 5) rfl N5 ⟨qf, ql, true⟩ rfl (H6.out.1.empty true) ?_)
      | (refine wpList_storeSp rfl (.tmp 4) (.tmp 47) rfl rfl N1 sp0 ⟨qf, ql, true⟩ rfl rfl (H6.out.2.2.2.grown (grown_setc W6 N5 32 _) (by have := H4.out.2.2.2.2.1; have := H2.out.n1; omega)) ?_; intro W8 hW8; have H8 := Lib.hid hW8; clear hW8)
      | fail)
    refine bodyPost_ret (v := .agg (spL ⟨qf, ql, true⟩).toArray) (results_sp rfl _ _ N1 _ rfl H8.out.at_) rfl ⟨rfl, ?_, ?_⟩
    · exact (H6.out.2.2.1.grown (grown_setc W6 N5 32 _) (.inr (by have := H4.out.2.2.2.2.1; omega))).grown H8.out.grown (.inr (by have := H2.out.n1; omega))
    · exact ((H6.out.2.1.grown (grown_setc W6 N5 32 _) H4.out.2.2.2.1).grown H8.out.grown H2.out.q1).mono (by omega)

set_option maxHeartbeats 8000000 in
set_option maxRecDepth 100000 in
theorem read7 (c : Int) (f : E) (IH : ReadOk f) (q : Np) (B n : Nat) (se : Bool) (s : St) (v : Value) (w : World) (h : NfaAt w q n se s) (hq : q.Ok B) (hB : B ≤ w.heap.size) (h0 : 0 < B) (hT : TZ w) (hN : Nd w B (.mk 7 c [f]) v)
    (hg : goodE f = true) (hc : s.count + leavesE f ≤ 1000) (hn : n + 5000 * szE f ≤ 900000000000) :
    Calls Tryd.prog 82 #[.pointer (some ⟨q.b, 0, none⟩), v] w fun r w' => r = .returned (.agg (spL (readE (.mk 7 c [f]) s).2).toArray) ∧ Kp q w w' ∧ NfaAt w' q (n + (5000 * szE f - 2500) + 1024) se (readE (.mk 7 c [f]) s).1 := by
  obtain ⟨_, _, A, cap, rfl, hk⟩ := Nd_iff.1 hN
  simp only [E.k, E.c, E.ks] at hk ⊢
  obtain ⟨W1, hW1⟩ : ∃ W, w.alloc (.cells #[.int .i64 7, .int .i64 c, .slice A 1 cap] 91) = W := ⟨_, rfl⟩
  obtain ⟨N1, hN1⟩ : ∃ N, W1.heap.size = N := ⟨_, rfl⟩
  obtain ⟨W2, hW2⟩ : ∃ W, W1.alloc (.cells Z80 125) = W := ⟨_, rfl⟩
  have h2 := rd0 h hB hT hk hW1 hN1 hW2
  have d0 := h2.x.cell 0
  have d1 := h2.x.cell 1
  have d2 := h2.x.cell 2
  simp at d0 d1 d2
  have HS := Lib.hid (And.intro hW1 (And.intro hN1 hW2))
  have H2 := Lib.hid h2
  obtain ⟨b, o, rfl, hbl, hrow⟩ := h2.ks.r (by simp)
  obtain ⟨A', cap', e0, e1, e2, hNd⟩ := row_get' (i := 0) hrow rfl
  rw [show o + 0 * 3 = o by omega] at e0 e1 e2
  have C := Lib.hid (IH q B n se s _ W2 h2.nf hq h2.hB h0 h2.tz hNd hg hc (by omega))
  have HQ := Lib.hid (And.intro hq h0)
  rw [readE_7]
  obtain ⟨R, hR⟩ : ∃ R, readE f s = R := ⟨_, rfl⟩
  rw [hR] at C ⊢
  have hbud : n + (5000 * szE f - 2500) ≤ 1000000000000 := by omega
  generalize n + (5000 * szE f - 2500) = n1 at *
  clear hW1 hN1 hW2 h2 hk hN IH hg hR hbl hrow hNd hq
  obtain ⟨S2, qf, ql, qe⟩ := R
  cases qe
  · go_enter Tryd.func82, Tryd.ntmps82
    go_wp2_with (first
      | (refine wpList_alloc80 rfl 4 rfl rfl N1 (by rw [HS.out.1]; exact HS.out.2.1) W2 (by rw [HS.out.1]; exact HS.out.2.2) ?_)
      | (go_at_call 82; refine C.out.mono ?_; rintro e W3 ⟨rfl, hk3, hn3⟩
         have r3 := H2.out.r.block (hk3.block _ H2.out.r.lt H2.out.q1)
         have x3 := (hk3.block _ H2.out.x.lt H2.out.q0).trans H2.out.x
         have t3 := hk3.tz H2.out.tz (HQ.out.1.out HQ.out.2)
         obtain ⟨W4, hW4⟩ : ∃ W, W3.alloc (.cells Z80 125) = W := ⟨_, rfl⟩
         obtain ⟨N5, hN5⟩ : ∃ N, W3.heap.size = N := ⟨_, rfl⟩
         have b4 : Below W3.heap.size W3 W4 := by rw [← hW4]; exact below_new _ _
         have s4 : SpAt W4 N5 sp0 := by rw [← hW4, ← hN5]; exact spAt_new0 W3
         have q5 : ¬ q.In N5 := fun hin => by have := hn3.lt hin; omega
         have l5 : w.heap.size + 2 ≤ N5 := by have := hk3.size; have := H2.out.l1; omega
         have H4 := Lib.hid (And.intro hW4 (And.intro hN5 (And.intro s4 (And.intro q5 (And.intro l5 (And.intro ((H2.out.kp.trans hk3).below b4) (And.intro (hn3.below b4) (And.intro (r3.block (b4.block _ r3.lt)) (And.intro (show Cells W4 w.heap.size 91 _ from (b4.block _ (Nat.lt_of_lt_of_le H2.out.x.lt hk3.size)).trans x3) (t3.below b4 t3.lt))))))))))
         clear hk3 hn3 r3 x3 t3 hW4 hN5 b4 s4 q5 l5)
      | (refine wpList_alloc80 rfl 5 rfl rfl N5 H4.out.2.1 W4 H4.out.1 ?_)
      | (refine wpList_storeSp rfl (.tmp 5) (.tmp 32) rfl rfl N5 sp0 ⟨qf, ql, false⟩ rfl rfl H4.out.2.2.1 ?_
         intro W5 hW5
         have n5 := H4.out.2.2.2.2.2.2.1.grown hW5.grown H4.out.2.2.2.1
         have k5 := H4.out.2.2.2.2.2.1.grown hW5.grown (.inr (by have := H4.out.2.2.2.2.1; omega))
         have r5 := H4.out.2.2.2.2.2.2.2.1.grown hW5.grown (by have := H4.out.2.2.2.2.1; have := H2.out.n1; omega)
         have x5 : Cells W5 w.heap.size 91 _ := (hW5.grown.block _ H4.out.2.2.2.2.2.2.2.2.1.lt (fun e => by injection e with e; have := H4.out.2.2.2.2.1; omega)).trans H4.out.2.2.2.2.2.2.2.2.1
         have t5 := H4.out.2.2.2.2.2.2.2.2.2.grown hW5.grown (by have := H4.out.2.2.2.2.1; omega)
         have H5 := Lib.hid (And.intro hW5.at_ (And.intro n5 (And.intro k5 (And.intro r5 (And.intro x5 t5)))))
         clear n5 k5 r5 x5 t5 hW5
         clear d0 d1 d2)
      | (refine wpList_loadPl rfl (.tmp 34) rfl N5 16 ql rfl H5.out.1.l ?_)
      | (refine wpList_loadPl rfl (.tmp 36) rfl N5 0 qf rfl H5.out.1.f ?_)
      | (go_at_call 83; refine (link_any q B n1 se S2 ql qf W5 H5.out.2.1 HQ.out.1 HQ.out.2 H5.out.2.2.2.2.2 (by omega)).mono ?_; rintro e W6 ⟨rfl, hk6, hn6⟩
         have s6 := H5.out.1.block (hk6.block _ H5.out.1.lt H4.out.2.2.2.1)
         have r6 := H5.out.2.2.2.1.block (hk6.block _ H5.out.2.2.2.1.lt H2.out.q1)
         have x6 : Cells W6 w.heap.size 91 _ := (hk6.block _ H5.out.2.2.2.2.1.lt H2.out.q0).trans H5.out.2.2.2.2.1
         have H6 := Lib.hid (And.intro s6 (And.intro hn6 (And.intro (H5.out.2.2.1.trans hk6) r6)))
         have d0 := x6.cell 0
         simp at d0
         have e5 := s6.e
         have z5 := s6.z
         clear hk6 hn6 s6 r6 x6)
      | (refine wpList_loadSp rfl (.tmp 5) rfl N5 ⟨qf, ql, false⟩ rfl (H6.out.1.empty false) ?_)
      | (refine wpList_storeSp rfl (.tmp 4) (.tmp 47) rfl rfl N1 sp0 ⟨qf, ql, false⟩ rfl rfl (H6.out.2.2.2.grown (grown_setc W6 N5 32 _) (by have := H4.out.2.2.2.2.1; have := H2.out.n1; omega)) ?_; intro W8 hW8; have H8 := Lib.hid hW8; clear hW8)
      | fail)
    refine bodyPost_ret (v := .agg (spL ⟨qf, ql, false⟩).toArray) (results_sp rfl _ _ N1 _ rfl H8.out.at_) rfl ⟨rfl, ?_, ?_⟩
    · exact (H6.out.2.2.1.grown (grown_setc W6 N5 32 _) (.inr (by have := H4.out.2.2.2.2.1; omega))).grown H8.out.grown (.inr (by have := H2.out.n1; omega))
    · exact ((H6.out.2.1.grown (grown_setc W6 N5 32 _) H4.out.2.2.2.1).grown H8.out.grown H2.out.q1).mono (by omega)
  · go_enter Tryd.func82, Tryd.ntmps82
    go_wp2_with (first
      | (refine wpList_alloc80 rfl 4 rfl rfl N1 (by rw [HS.out.1]; exact HS.out.2.1) W2 (by rw [HS.out.1]; exact HS.out.2.2) ?_)
      | (go_at_call 82; refine C.out.mono ?_; rintro e W3 ⟨rfl, hk3, hn3⟩
         have r3 := H2.out.r.block (hk3.block _ H2.out.r.lt H2.out.q1)
         have x3 := (hk3.block _ H2.out.x.lt H2.out.q0).trans H2.out.x
         have t3 := hk3.tz H2.out.tz (HQ.out.1.out HQ.out.2)
         obtain ⟨W4, hW4⟩ : ∃ W, W3.alloc (.cells Z80 125) = W := ⟨_, rfl⟩
         obtain ⟨N5, hN5⟩ : ∃ N, W3.heap.size = N := ⟨_, rfl⟩
         have b4 : Below W3.heap.size W3 W4 := by rw [← hW4]; exact below_new _ _
         have s4 : SpAt W4 N5 sp0 := by rw [← hW4, ← hN5]; exact spAt_new0 W3
         have q5 : ¬ q.In N5 := fun hin => by have := hn3.lt hin; omega
         have l5 : w.heap.size + 2 ≤ N5 := by have := hk3.size; have := H2.out.l1; omega
         have H4 := Lib.hid (And.intro hW4 (And.intro hN5 (And.intro s4 (And.intro q5 (And.intro l5 (And.intro ((H2.out.kp.trans hk3).below b4) (And.intro (hn3.below b4) (And.intro (r3.block (b4.block _ r3.lt)) (And.intro (show Cells W4 w.heap.size 91 _ from (b4.block _ (Nat.lt_of_lt_of_le H2.out.x.lt hk3.size)).trans x3) (t3.below b4 t3.lt))))))))))
         clear hk3 hn3 r3 x3 t3 hW4 hN5 b4 s4 q5 l5)
      | (refine wpList_alloc80 rfl 5 rfl rfl N5 H4.out.2.1 W4 H4.out.1 ?_)
      | (refine wpList_storeSp rfl (.tmp 5) (.tmp 32) rfl rfl N5 sp0 ⟨qf, ql, true⟩ rfl rfl H4.out.2.2.1 ?_
         intro W5 hW5
         have n5 := H4.out.2.2.2.2.2.2.1.grown hW5.grown H4.out.2.2.2.1
         have k5 := H4.out.2.2.2.2.2.1.grown hW5.grown (.inr (by have := H4.out.2.2.2.2.1; omega))
         have r5 := H4.out.2.2.2.2.2.2.2.1.grown hW5.grown (by have := H4.out.2.2.2.2.1; have := H2.out.n1; omega)
         have x5 : Cells W5 w.heap.size 91 _ := (hW5.grown.block _ H4.out.2.2.2.2.2.2.2.2.1.lt (fun e => by injection e with e; have := H4.out.2.2.2.2.1; omega)).trans H4.out.2.2.2.2.2.2.2.2.1
         have t5 := H4.out.2.2.2.2.2.2.2.2.2.grown hW5.grown (by have := H4.out.2.2.2.2.1; omega)
         have H5 := Lib.hid (And.intro hW5.at_ (And.intro n5 (And.intro k5 (And.intro r5 (And.intro x5 t5)))))
         clear n5 k5 r5 x5 t5 hW5
         clear d0 d1 d2)
      | (refine wpList_loadPl rfl (.tmp 34) rfl N5 16 ql rfl H5.out.1.l ?_)
      | (refine wpList_loadPl rfl (.tmp 36) rfl N5 0 qf rfl H5.out.1.f ?_)
      | (go_at_call 83; refine (link_any q B n1 se S2 ql qf W5 H5.out.2.1 HQ.out.1 HQ.out.2 H5.out.2.2.2.2.2 (by omega)).mono ?_; rintro e W6 ⟨rfl, hk6, hn6⟩
         have s6 := H5.out.1.block (hk6.block _ H5.out.1.lt H4.out.2.2.2.1)
         have r6 := H5.out.2.2.2.1.block (hk6.block _ H5.out.2.2.2.1.lt H2.out.q1)
         have x6 : Cells W6 w.heap.size 91 _ := (hk6.block _ H5.out.2.2.2.2.1.lt H2.out.q0).trans H5.out.2.2.2.2.1
         have H6 := Lib.hid (And.intro s6 (And.intro hn6 (And.intro (H5.out.2.2.1.trans hk6) r6)))
         have d0 := x6.cell 0
         simp at d0
         have e5 := s6.e
         have z5 := s6.z
         clear hk6 hn6 s6 r6 x6)
      | (refine wpList_loadSp rfl (.tmp 5) rfl N5 ⟨qf, ql, true⟩ rfl (H6.out.1.empty true) ?_)
      | (refine wpList_storeSp rfl (.tmp 4) (.tmp 47) rfl rfl N1 sp0 ⟨qf, ql, true⟩ rfl rfl (H6.out.2.2.2.grown (grown_setc W6 N5 32 _) (by have := H4.out.2.2.2.2.1; have := H2.out.n1; omega)) ?_; intro W8 hW8; have H8 := Lib.hid hW8; clear hW8)
      | fail)
    refine bodyPost_ret (v := .agg (spL ⟨qf, ql, true⟩).toArray) (results_sp rfl _ _ N1 _ rfl H8.out.at_) rfl ⟨rfl, ?_, ?_⟩
    · exact (H6.out.2.2.1.grown (grown_setc W6 N5 32 _) (.inr (by have := H4.out.2.2.2.2.1; omega))).grown H8.out.grown (.inr (by have := H2.out.n1; omega))
    · exact ((H6.out.2.1.grown (grown_setc W6 N5 32 _) H4.out.2.2.2.1).grown H8.out.grown H2.out.q1).mono (by omega)

set_option maxHeartbeats 8000000 in
set_option maxRecDepth 100000 in
theorem read8 (c : Int) (f : E) (IH : ReadOk f) (q : Np) (B n : Nat) (se : Bool) (s : St) (v : Value) (w : World) (h : NfaAt w q n se s) (hq : q.Ok B) (hB : B ≤ w.heap.size) (h0 : 0 < B) (hT : TZ w) (hN : Nd w B (.mk 8 c [f]) v)
    (hg : goodE f = true) (hc : s.count + leavesE f ≤ 1000) (hn : n + 5000 * szE f ≤ 900000000000) :
    Calls Tryd.prog 82 #[.pointer (some ⟨q.b, 0, none⟩), v] w fun r w' => r = .returned (.agg (spL (readE (.mk 8 c [f]) s).2).toArray) ∧ Kp q w w' ∧ NfaAt w' q (n + (5000 * szE f - 2500) + 1024) se (readE (.mk 8 c [f]) s).1 := by
  obtain ⟨_, _, A, cap, rfl, hk⟩ := Nd_iff.1 hN
  simp only [E.k, E.c, E.ks] at hk ⊢
  obtain ⟨W1, hW1⟩ : ∃ W, w.alloc (.cells #[.int .i64 8, .int .i64 c, .slice A 1 cap] 91) = W := ⟨_, rfl⟩
  obtain ⟨N1, hN1⟩ : ∃ N, W1.heap.size = N := ⟨_, rfl⟩
  obtain ⟨W2, hW2⟩ : ∃ W, W1.alloc (.cells Z80 125) = W := ⟨_, rfl⟩
  have h2 := rd0 h hB hT hk hW1 hN1 hW2
  have d0 := h2.x.cell 0
  have d1 := h2.x.cell 1
  have d2 := h2.x.cell 2
  simp at d0 d1 d2
  have HS := Lib.hid (And.intro hW1 (And.intro hN1 hW2))
  have H2 := Lib.hid h2
  obtain ⟨b, o, rfl, hbl, hrow⟩ := h2.ks.r (by simp)
  obtain ⟨A', cap', e0, e1, e2, hNd⟩ := row_get' (i := 0) hrow rfl
  rw [show o + 0 * 3 = o by omega] at e0 e1 e2
  have C := Lib.hid (IH q B n se s _ W2 h2.nf hq h2.hB h0 h2.tz hNd hg hc (by omega))
  have HQ := Lib.hid (And.intro hq h0)
  rw [readE_8]
  obtain ⟨R, hR⟩ : ∃ R, readE f s = R := ⟨_, rfl⟩
  rw [hR] at C ⊢
  have hbud : n + (5000 * szE f - 2500) ≤ 1000000000000 := by omega
  generalize n + (5000 * szE f - 2500) = n1 at *
  clear hW1 hN1 hW2 h2 hk hN IH hg hR hbl hrow hNd hq
  obtain ⟨S2, qf, ql, qe⟩ := R
  cases qe
  · go_enter Tryd.func82, Tryd.ntmps82
    go_wp2_with (first
      | (refine wpList_alloc80 rfl 4 rfl rfl N1 (by rw [HS.out.1]; exact HS.out.2.1) W2 (by rw [HS.out.1]; exact HS.out.2.2) ?_)
      | (go_at_call 82; refine C.out.mono ?_; rintro e W3 ⟨rfl, hk3, hn3⟩
         have r3 := H2.out.r.block (hk3.block _ H2.out.r.lt H2.out.q1)
         have x3 := (hk3.block _ H2.out.x.lt H2.out.q0).trans H2.out.x
         have t3 := hk3.tz H2.out.tz (HQ.out.1.out HQ.out.2)
         obtain ⟨W4, hW4⟩ : ∃ W, W3.alloc (.cells Z80 125) = W := ⟨_, rfl⟩
         obtain ⟨N5, hN5⟩ : ∃ N, W3.heap.size = N := ⟨_, rfl⟩
         have b4 : Below W3.heap.size W3 W4 := by rw [← hW4]; exact below_new _ _
         have s4 : SpAt W4 N5 sp0 := by rw [← hW4, ← hN5]; exact spAt_new0 W3
         have q5 : ¬ q.In N5 := fun hin => by have := hn3.lt hin; omega
         have l5 : w.heap.size + 2 ≤ N5 := by have := hk3.size; have := H2.out.l1; omega
         have H4 := Lib.hid (And.intro hW4 (And.intro hN5 (And.intro s4 (And.intro q5 (And.intro l5 (And.intro ((H2.out.kp.trans hk3).below b4) (And.intro (hn3.below b4) (And.intro (r3.block (b4.block _ r3.lt)) (And.intro (show Cells W4 w.heap.size 91 _ from (b4.block _ (Nat.lt_of_lt_of_le H2.out.x.lt hk3.size)).trans x3) (t3.below b4 t3.lt))))))))))
         clear hk3 hn3 r3 x3 t3 hW4 hN5 b4 s4 q5 l5)
      | (refine wpList_alloc80 rfl 6 rfl rfl N5 H4.out.2.1 W4 H4.out.1 ?_)
      | (refine wpList_storeSp rfl (.tmp 6) (.tmp 55) rfl rfl N5 sp0 ⟨qf, ql, false⟩ rfl rfl H4.out.2.2.1 ?_
         intro W5 hW5
         have n5 := H4.out.2.2.2.2.2.2.1.grown hW5.grown H4.out.2.2.2.1
         have k5 := H4.out.2.2.2.2.2.1.grown hW5.grown (.inr (by have := H4.out.2.2.2.2.1; omega))
         have r5 := H4.out.2.2.2.2.2.2.2.1.grown hW5.grown (by have := H4.out.2.2.2.2.1; have := H2.out.n1; omega)
         have x5 : Cells W5 w.heap.size 91 _ := (hW5.grown.block _ H4.out.2.2.2.2.2.2.2.2.1.lt (fun e => by injection e with e; have := H4.out.2.2.2.2.1; omega)).trans H4.out.2.2.2.2.2.2.2.2.1
         have t5 := H4.out.2.2.2.2.2.2.2.2.2.grown hW5.grown (by have := H4.out.2.2.2.2.1; omega)
         have H5 := Lib.hid (And.intro hW5.at_ (And.intro n5 (And.intro k5 (And.intro r5 (And.intro x5 t5)))))
         clear n5 k5 r5 x5 t5 hW5
         have e5 := H5.out.1.e
         have z5 := H5.out.1.z)
      | (refine wpList_loadSp rfl (.tmp 6) rfl N5 ⟨qf, ql, true⟩ rfl (H5.out.1.empty true) ?_)
      | (refine wpList_storeSp rfl (.tmp 4) (.tmp 57) rfl rfl N1 sp0 ⟨qf, ql, true⟩ rfl rfl (H5.out.2.2.2.1.grown (grown_setc W5 N5 32 _) (by have := H4.out.2.2.2.2.1; have := H2.out.n1; omega)) ?_; intro W8 hW8; have H8 := Lib.hid hW8; clear hW8)
      | fail)
    refine bodyPost_ret (v := .agg (spL ⟨qf, ql, true⟩).toArray) (results_sp rfl _ _ N1 _ rfl H8.out.at_) rfl ⟨rfl, ?_, ?_⟩
    · exact (H5.out.2.2.1.grown (grown_setc W5 N5 32 _) (.inr (by have := H4.out.2.2.2.2.1; omega))).grown H8.out.grown (.inr (by have := H2.out.n1; omega))
    · exact ((H5.out.2.1.grown (grown_setc W5 N5 32 _) H4.out.2.2.2.1).grown H8.out.grown H2.out.q1).mono (by omega)
  · go_enter Tryd.func82, Tryd.ntmps82
    go_wp2_with (first
      | (refine wpList_alloc80 rfl 4 rfl rfl N1 (by rw [HS.out.1]; exact HS.out.2.1) W2 (by rw [HS.out.1]; exact HS.out.2.2) ?_)
      | (go_at_call 82; refine C.out.mono ?_; rintro e W3 ⟨rfl, hk3, hn3⟩
         have r3 := H2.out.r.block (hk3.block _ H2.out.r.lt H2.out.q1)
         have x3 := (hk3.block _ H2.out.x.lt H2.out.q0).trans H2.out.x
         have t3 := hk3.tz H2.out.tz (HQ.out.1.out HQ.out.2)
         obtain ⟨W4, hW4⟩ : ∃ W, W3.alloc (.cells Z80 125) = W := ⟨_, rfl⟩
         obtain ⟨N5, hN5⟩ : ∃ N, W3.heap.size = N := ⟨_, rfl⟩
         have b4 : Below W3.heap.size W3 W4 := by rw [← hW4]; exact below_new _ _
         have s4 : SpAt W4 N5 sp0 := by rw [← hW4, ← hN5]; exact spAt_new0 W3
         have q5 : ¬ q.In N5 := fun hin => by have := hn3.lt hin; omega
         have l5 : w.heap.size + 2 ≤ N5 := by have := hk3.size; have := H2.out.l1; omega
         have H4 := Lib.hid (And.intro hW4 (And.intro hN5 (And.intro s4 (And.intro q5 (And.intro l5 (And.intro ((H2.out.kp.trans hk3).below b4) (And.intro (hn3.below b4) (And.intro (r3.block (b4.block _ r3.lt)) (And.intro (show Cells W4 w.heap.size 91 _ from (b4.block _ (Nat.lt_of_lt_of_le H2.out.x.lt hk3.size)).trans x3) (t3.below b4 t3.lt))))))))))
         clear hk3 hn3 r3 x3 t3 hW4 hN5 b4 s4 q5 l5)
      | (refine wpList_alloc80 rfl 6 rfl rfl N5 H4.out.2.1 W4 H4.out.1 ?_)
      | (refine wpList_storeSp rfl (.tmp 6) (.tmp 55) rfl rfl N5 sp0 ⟨qf, ql, true⟩ rfl rfl H4.out.2.2.1 ?_
         intro W5 hW5
         have n5 := H4.out.2.2.2.2.2.2.1.grown hW5.grown H4.out.2.2.2.1
         have k5 := H4.out.2.2.2.2.2.1.grown hW5.grown (.inr (by have := H4.out.2.2.2.2.1; omega))
         have r5 := H4.out.2.2.2.2.2.2.2.1.grown hW5.grown (by have := H4.out.2.2.2.2.1; have := H2.out.n1; omega)
         have x5 : Cells W5 w.heap.size 91 _ := (hW5.grown.block _ H4.out.2.2.2.2.2.2.2.2.1.lt (fun e => by injection e with e; have := H4.out.2.2.2.2.1; omega)).trans H4.out.2.2.2.2.2.2.2.2.1
         have t5 := H4.out.2.2.2.2.2.2.2.2.2.grown hW5.grown (by have := H4.out.2.2.2.2.1; omega)
         have H5 := Lib.hid (And.intro hW5.at_ (And.intro n5 (And.intro k5 (And.intro r5 (And.intro x5 t5)))))
         clear n5 k5 r5 x5 t5 hW5
         have e5 := H5.out.1.e
         have z5 := H5.out.1.z)
      | (refine wpList_loadSp rfl (.tmp 6) rfl N5 ⟨qf, ql, true⟩ rfl (H5.out.1.empty true) ?_)
      | (refine wpList_storeSp rfl (.tmp 4) (.tmp 57) rfl rfl N1 sp0 ⟨qf, ql, true⟩ rfl rfl (H5.out.2.2.2.1.grown (grown_setc W5 N5 32 _) (by have := H4.out.2.2.2.2.1; have := H2.out.n1; omega)) ?_; intro W8 hW8; have H8 := Lib.hid hW8; clear hW8)
      | fail)
    refine bodyPost_ret (v := .agg (spL ⟨qf, ql, true⟩).toArray) (results_sp rfl _ _ N1 _ rfl H8.out.at_) rfl ⟨rfl, ?_, ?_⟩
    · exact (H5.out.2.2.1.grown (grown_setc W5 N5 32 _) (.inr (by have := H4.out.2.2.2.2.1; omega))).grown H8.out.grown (.inr (by have := H2.out.n1; omega))
    · exact ((H5.out.2.1.grown (grown_setc W5 N5 32 _) H4.out.2.2.2.1).grown H8.out.grown H2.out.q1).mono (by omega)
end Go.Proofs.YtmldgfplnacecaaDoor

namespace Go.Proofs.YtmldgfplnacecaaDoor
open Go.RowKit Go.Shelf Go.Lib Go.Great Go.Maps

theorem kids_lt {k c : Int} {ks : List E} {e : E} (h : e ∈ ks) : szE e < szE (.mk k c ks) := szE_kid (e := .mk k c ks) h
theorem shaped_kind {k c : Int} {n : Nat} (h : shapedK k c n = true) : 0 ≤ k ∧ k ≤ 9 := by
  unfold shapedK at h
  by_cases c1 : k = 0 ∨ k = 2
  · omega
  · rw [if_neg c1] at h
    by_cases c2 : k = 1 ∨ k = 3 ∨ k = 9
    · omega
    · rw [if_neg c2] at h
      by_cases c3 : k = 4 ∨ k = 5
      · omega
      · rw [if_neg c3] at h
        by_cases c4 : k = 6 ∨ k = 7 ∨ k = 8
        · omega
        · rw [if_neg c4] at h; cases h
theorem readOk_all : ∀ N e, szE e ≤ N → ReadOk e := by
  intro N
  induction N with
  | zero => intro e h; have := szE_pos e; omega
  | succ N ih =>
    intro e he
    obtain ⟨k, c, ks⟩ := e
    intro q B n se s v w h hq hB h0 hT hN hg hc hn
    obtain ⟨h9, hs, ha⟩ := good_parts hg
    have hz := szE_eq (.mk k c ks)
    simp only [E.ks] at hz
    have IH : ∀ e ∈ ks, ReadOk e := fun e hm => ih e (by have := kids_lt (k := k) (c := c) hm; omega)
    have hk := shaped_kind hs
    by_cases h4 : k = 4
    · subst h4
      have hne : ks ≠ [] := by rintro rfl; have := shaped_many hs (.inl rfl); simp at this
      refine (read4 c ks IH q B n se s v w h hq hB h0 hT hN ha (by rw [leaves_kids hne] at hc; exact hc) (by omega)).mono ?_
      rintro r w' ⟨h1, h2, h3⟩
      exact ⟨h1, h2, h3.mono (by omega)⟩
    · by_cases h5 : k = 5
      · subst h5
        have hne : ks ≠ [] := by rintro rfl; have := shaped_many hs (.inr rfl); simp at this
        refine (read5 c ks IH q B n se s v w h hq hB h0 hT hN ha (by rw [leaves_kids hne] at hc; exact hc) (by omega)).mono ?_
        rintro r w' ⟨h1, h2, h3⟩
        exact ⟨h1, h2, h3.mono (by omega)⟩
      · by_cases h678 : k = 6 ∨ k = 7 ∨ k = 8
        · have h1 := shaped_one hs h678
          obtain ⟨f, rfl⟩ : ∃ f, ks = [f] := by
            match ks, h1 with
            | [f], _ => exact ⟨f, rfl⟩
          have hgf := good_all ha f (by simp)
          have hcf : s.count + leavesE f ≤ 1000 := by rw [leaves_kids (by simp)] at hc; exact hc
          have hzf : szL [f] = szE f := by simp [szL, szE.szL]
          rw [hzf] at hz
          rcases h678 with rfl | rfl | rfl
          · refine (read6 c f (IH f (by simp)) q B n se s v w h hq hB h0 hT hN hgf hcf (by omega)).mono ?_
            rintro r w' ⟨h1, h2, h3⟩
            exact ⟨h1, h2, h3.mono (by omega)⟩
          · refine (read7 c f (IH f (by simp)) q B n se s v w h hq hB h0 hT hN hgf hcf (by omega)).mono ?_
            rintro r w' ⟨h1, h2, h3⟩
            exact ⟨h1, h2, h3.mono (by omega)⟩
          · refine (read8 c f (IH f (by simp)) q B n se s v w h hq hB h0 hT hN hgf hcf (by omega)).mono ?_
            rintro r w' ⟨h1, h2, h3⟩
            exact ⟨h1, h2, h3.mono (by omega)⟩
        · have hl := List.eq_nil_of_length_eq_zero (shaped_leaf hs h4 h5 (by omega) (by omega) (by omega))
          subst hl
          have hsz : szE (.mk k c []) = 1 := by rw [szE_eq]; rfl
          have hr : rightE (.mk k c []) = true := by rw [rightE_good (e := .mk k c []) h9, hg, hsz]; rfl
          have hlv : leavesE (.mk k c []) = 1 := by unfold leavesE; rw [if_pos rfl, if_neg h9]
          refine (readLf k c q B n se s v w h hq hB h0 hT hN (by omega) (by omega) hr (by omega) (by omega)).mono ?_
          rintro r w' ⟨h1, h2, h3⟩
          exact ⟨h1, h2, h3.mono (by omega)⟩
/-- Any right expression. -/
theorem read_any (e : E) (q : Np) (B n : Nat) (se : Bool) (s : St) (v : Value) (w : World) (h : NfaAt w q n se s) (hq : q.Ok B) (hB : B ≤ w.heap.size) (h0 : 0 < B) (hT : TZ w) (hN : Nd w B e v) (hr : rightE e = true) (hc : s.count + leavesE e ≤ 1000)
    (hn : n + 5000 * szE e ≤ 900000000000) : Calls Tryd.prog 82 #[.pointer (some ⟨q.b, 0, none⟩), v] w fun r w' => r = .returned (.agg (spL (readE e s).2).toArray) ∧ Kp q w w' ∧ NfaAt w' q (n + 5000 * szE e) se (readE e s).1 := by
  by_cases h9 : e.k = 9
  · obtain ⟨k, c, ks⟩ := e
    simp only [E.k] at h9
    subst h9
    refine (read9 c ks q B n se s v w h hq hB h0 hT hN (by omega)).mono ?_
    rintro r w' ⟨h1, h2, h3⟩
    exact ⟨h1, h2, h3.mono (by omega)⟩
  · rw [rightE_good h9] at hr
    simp only [Bool.and_eq_true] at hr
    refine (readOk_all _ e (Nat.le_refl _) q B n se s v w h hq hB h0 hT hN hr.1 hc hn).mono ?_
    rintro r w' ⟨h1, h2, h3⟩
    exact ⟨h1, h2, h3.mono (by omega)⟩
theorem leaves_right {e : E} (hr : rightE e = true) (s : St) : (readE e s).1.count = s.count + leavesE e := by
  by_cases h9 : e.k = 9
  · obtain ⟨k, c, ks⟩ := e
    simp only [E.k] at h9
    subst h9
    have hr : shapedK 9 c ks.length = true := by simpa [rightE, E.k, E.c, E.ks] using hr
    have hl := List.eq_nil_of_length_eq_zero (shaped_leaf hr (by decide) (by decide) (by decide) (by decide) (by decide))
    subst hl
    rw [readE_9]
    unfold leavesE
    rw [if_pos rfl, if_pos rfl]
    rfl
  · rw [rightE_good h9] at hr
    simp only [Bool.and_eq_true] at hr
    exact count_readE e s hr.1
end Go.Proofs.YtmldgfplnacecaaDoor

