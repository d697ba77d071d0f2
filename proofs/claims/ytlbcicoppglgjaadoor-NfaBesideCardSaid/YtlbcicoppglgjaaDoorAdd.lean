/-
  Contracts: (*NFA).add.
-/
import Derived.Test.YtlbcicoppglgjaaDoorRdt
import Derived.Deep.RegionHeld3
namespace Go.Proofs.YtlbcicoppglgjaaDoor
open Go.RowKit Go.Shelf Go.Lib Go.Great Go.Maps

/-- The first places of a list tell an expression. -/
def tellL (s : St) (l : List Nat) (b : Nat) : St := { s with tells := fun p => if p ∈ l then s.tells p ||| b else s.tells p }
theorem tellL_nil (s : St) (b : Nat) : tellL s [] b = s := by simp [tellL]
theorem tellL_snoc (s : St) (l : List Nat) (p b : Nat) : (tellL s l b).setL p ((tellL s l b).tells p ||| b) = tellL s (l ++ [p]) b := by
  unfold tellL St.setL
  simp only [St.mk.injEq, true_and]
  funext r
  by_cases e : r = p
  · subst e
    simp only [if_true, List.mem_append, List.mem_singleton, or_true]
    by_cases h : r ∈ l
    · rw [if_pos h, or_again]
    · rw [if_neg h]
  · rw [if_neg e]
    simp [e]
theorem tellL_full (s : St) (a b : Nat) : tellL s (posL a) b = s.tell a b := by
  unfold tellL St.tell
  simp only [St.mk.injEq, true_and]
  funext r
  by_cases h : inM a r = true
  · rw [if_pos (mem_posL.2 h), if_pos h]
  · rw [if_neg (fun h2 => h (mem_posL.1 h2)), if_neg h]
theorem inM_one (r : Nat) : inM 1 r = decide (r = 0) := by
  unfold inM
  cases r with
  | zero => simp
  | succ n => simp [Nat.testBit_succ]
theorem tell_one (s : St) (b : Nat) : s.setL 0 (s.tells 0 ||| b) = s.tell 1 b := by
  unfold St.tell St.setL
  simp only [St.mk.injEq, true_and]
  funext r
  rw [inM_one]
  by_cases e : r = 0
  · subst e; simp
  · simp [e]
theorem only0_any (w : World) : Calls Tryd.prog 32 #[.int .i64 0] w fun e w' => e = .returned (.agg (plL 1).toArray) ∧ Below w.heap.size w w' := only_any 0 w (by omega)


set_option maxHeartbeats 8000000 in
set_option maxRecDepth 100000 in
theorem add_any (e : E) (bit : Nat) (q : Np) (B n : Nat) (se : Bool) (s : St) (v : Value) (w : World) (h : NfaAt w q n se s) (hq : q.Ok B) (hB : B ≤ w.heap.size) (h0 : 0 < B) (hT : TZ w) (hN : Nd w B e v) (hr : rightE e = true) (hc : s.count + leavesE e ≤ 1000)
    (hn : n + 5000 * szE e ≤ 800000000000) (hbit : bit < 18446744073709551616) : Calls Tryd.prog 24 #[.pointer (some ⟨q.b, 0, none⟩), v, .int .u64 (bit : Int)] w fun r w' => r = .returned (.tuple #[]) ∧ Kp q w w' ∧ NfaAt w' q (n + 5000 * szE e + 3000) se (addE s e bit) := by
  obtain ⟨_, _, A, cap, rfl, hk⟩ := Nd_iff.1 hN
  obtain ⟨W1, hW1⟩ : ∃ W, w.alloc (.cells #[.int .i64 e.k, .int .i64 e.c, .slice A e.ks.length cap] 52) = W := ⟨_, rfl⟩
  have b1 : Below w.heap.size w W1 := by rw [← hW1]; exact below_new _ _
  have x1 : Cells W1 w.heap.size 52 #[.int .i64 e.k, .int .i64 e.c, .slice A e.ks.length cap] := by rw [← hW1]; exact cells_new _ _ _
  have d0 := x1.cell 0
  have d1 := x1.cell 1
  have d2 := x1.cell 2
  simp at d0 d1 d2
  have C := Lib.hid (read_any e q B n se s _ W1 (h.below b1) hq (by have := b1.size; omega) h0 (hT.below b1 hT.lt) (hN.below (b1.mono hB)) hr hc (by omega))
  have HW1 := Lib.hid hW1
  have H1 := Lib.hid (And.intro b1 (And.intro (hT.below b1 hT.lt) hq))
  obtain ⟨R, hR⟩ : ∃ R, readE e s = R := ⟨_, rfl⟩
  have HA := Lib.hid (show addE s e bit = _ from rfl)
  rw [hR] at C
  have HR := Lib.hid hR
  obtain ⟨n1, hn1⟩ : ∃ n1, n + 5000 * szE e = n1 := ⟨_, rfl⟩
  rw [hn1] at C hn ⊢
  have HQ := Lib.hid (fun k (hk : q.In k) => h.lt hk)
  clear h hT hN hr hc hk hW1 b1 x1 hR hn1 hq
  obtain ⟨S2, qf, ql, qe⟩ := R
  go_enter Tryd.func24, Tryd.ntmps24
  go_wp2_with fail
  rw [HW1.out]
  go_wp2_with (first
    | (go_at_call 41; refine C.out.mono ?_; rintro r W3 ⟨rfl, hk3, hn3⟩
       have t3 := hk3.tz H1.out.2.1 (H1.out.2.2.out h0)
       obtain ⟨W4, hW4⟩ : ∃ W, W3.alloc (.cells Z80 80) = W := ⟨_, rfl⟩
       obtain ⟨N5, hN5⟩ : ∃ N, W3.heap.size = N := ⟨_, rfl⟩
       have b4 : Below W3.heap.size W3 W4 := by rw [← hW4]; exact below_new _ _
       have s4 : SpAt W4 N5 sp0 := by rw [← hW4, ← hN5]; exact spAt_new0 W3
       have q5 : ¬ q.In N5 := fun hin => by have := hn3.lt hin; omega
       have l5 : w.heap.size ≤ N5 := by have := hk3.size; have := H1.out.1.size; omega
       have H4 := Lib.hid (And.intro hW4 (And.intro hN5 (And.intro s4 (And.intro q5 (And.intro l5 (And.intro (((Kp.of_below H1.out.1).trans hk3).below b4) (And.intro (hn3.below b4) (t3.below b4 t3.lt))))))))
       clear hk3 hn3 t3 hW4 hN5 b4 s4 q5 l5 d0 d1 d2)
    | (refine wpList_alloc80 rfl 6 rfl rfl N5 H4.out.2.1 W4 H4.out.1 ?_)
    | (refine wpList_storeSp rfl (.tmp 6) (.tmp 11) rfl rfl N5 sp0 ⟨qf, ql, qe⟩ rfl rfl H4.out.2.2.1 ?_
       intro W5 hW5
       have n5 := H4.out.2.2.2.2.2.2.1.grown hW5.grown H4.out.2.2.2.1
       have k5 := H4.out.2.2.2.2.2.1.grown hW5.grown (.inr H4.out.2.2.2.2.1)
       have t5 := H4.out.2.2.2.2.2.2.2.grown hW5.grown (by have := H4.out.2.2.2.2.1; omega)
       have H5 := Lib.hid (And.intro hW5.at_ (And.intro n5 (And.intro k5 t5)))
       clear n5 k5 t5 hW5)
    | fail)
  -- HAND
  go_wp2_with fail
  refine wp_region_noPanic ?_
  refine wp_region_held_drew (S := fun W => PlAt W N5 0 qf) (by kernel_rfl) H5.out.1.f (fun hH => ?_)
  refine wpAnyH_take (i := 0) (oi := { dst := some 12, op := Op.move (Operand.tmp 0), type := 26, pos := "build.go:17", after := #[], guard := none }) (v := ?_) rfl (by kernel_rfl) (by kernel_rfl) (by kernel_rfl) (fun _ _ _ h => h) (Or.inl ⟨by rfl, ?_⟩) (by exact hH) ?_
  rotate_left
  · intro W hSw
    go_simp
    try with_reducible rfl
  try simp only [Act.put, List.setIfInBounds_toArray, List.set_cons_zero, List.set_cons_succ]
  refine wpAnyH_take (i := 2) (oi := { dst := some 14, op := Op.fieldAddr 80 (Operand.tmp 6) 0, type := 0, pos := "build.go:17", after := #[], guard := none }) (v := ?_) rfl (by kernel_rfl) (by kernel_rfl) (by kernel_rfl) (fun _ _ _ h => h) (Or.inl ⟨by rfl, ?_⟩) (by exact hH) ?_
  rotate_left
  · intro W hSw
    go_simp
    try with_reducible rfl
  try simp only [Act.put, List.setIfInBounds_toArray, List.set_cons_zero, List.set_cons_succ]
  refine wpAnyH_take (i := 3) (oi := { dst := some 15, op := Op.load 70 (Operand.tmp 14), type := 70, pos := "build.go:17", after := #[{ on := 2, ground := Ground.data }], guard := none }) (v := .agg (plL qf).toArray) rfl (by kernel_rfl) (by kernel_rfl) (by kernel_rfl) (fun _ _ _ h => h) (yieldsIf_load_mid (by rfl) 70 (.tmp 14) rfl N5 0 rfl (plL qf) (.array 16 37) (fun W hSw => PlAt.range hSw) Tryd.underlying70 rfl (by rw [plL_len]; exact size70)) (by exact hH) ?_
  try simp only [Act.put, List.setIfInBounds_toArray, List.set_cons_zero, List.set_cons_succ]
  refine wpAnyH_ready (rs := [1]) (by kernel_rfl) (by simp) ?_
  refine AllReadyH.cons (o := { dst := some 13, op := Op.call { callee := Callee.value (Operand.func 32), args := #[Operand.const (Value.int IntKind.i64 0)], argTypes := #[3] }, type := 70, pos := "build.go:17", after := #[], guard := none }) rfl (fun K hK => ?_) AllReadyH.nil
  go_simp
  go_at_call 32
  refine (only0_any W5.drew).mono ?_
  rintro r W6 ⟨rfl, hb6⟩
  have n6 : NfaAt W6 q n1 se S2 := H5.out.2.1.drew.below hb6
  have k6 : Kp q w W6 := H5.out.2.2.1.drew.below hb6
  have t6 : TZ W6 := (show TZ W5.drew from H5.out.2.2.2).below hb6 H5.out.2.2.2.lt
  have s6 : SpAt W6 N5 ⟨qf, ql, qe⟩ := SpAt.block (w := W5) H5.out.1 (hb6.block _ H5.out.1.lt)
  have H6 := Lib.hid (And.intro n6 (And.intro k6 (And.intro t6 s6)))
  clear hb6 n6 k6 t6 s6
  refine hK.out _ _ H6.out.2.2.2.f (fun hH => ?_)
  clear hK K
  try simp only [Act.put, List.setIfInBounds_toArray, List.set_cons_zero, List.set_cons_succ]
  refine wpAnyH_ready (rs := [4]) (by kernel_rfl) (by simp) ?_
  refine AllReadyH.cons (o := { dst := some 16, op := Op.call { callee := Callee.value (Operand.func 42), args := #[Operand.tmp 12, Operand.tmp 13, Operand.tmp 15], argTypes := #[26, 70, 70] }, type := 0, pos := "build.go:17", after := #[{ on := 0, ground := Ground.data }, { on := 1, ground := Ground.data }, { on := 3, ground := Ground.data }, { on := 1, ground := Ground.chain }], guard := none }) rfl (fun K hK => ?_) AllReadyH.nil
  go_simp
  go_at_call 42
  refine (link_any q B n1 se S2 1 qf W6 H6.out.1 H1.out.2.2 h0 H6.out.2.2.1 (by omega)).mono ?_
  rintro r W7 ⟨rfl, hk7, hn7⟩
  have t7 : TZ W7 := hk7.tz H6.out.2.2.1 (H1.out.2.2.out h0)
  have s7 : SpAt W7 N5 ⟨qf, ql, qe⟩ := H6.out.2.2.2.block (hk7.block _ H6.out.2.2.2.lt H4.out.2.2.2.1)
  have H7 := Lib.hid (And.intro hn7 (And.intro (H6.out.2.1.trans hk7) (And.intro t7 s7)))
  clear hk7 hn7 t7 s7
  try go_wp2_with fail
  refine hK.out _ _ H7.out.2.2.2.f (fun hH => ?_)
  clear hK K
  try simp only [Act.put, List.setIfInBounds_toArray, List.set_cons_zero, List.set_cons_succ]
  refine wpAnyH_done (by kernel_rfl) ?_ _
  refine NoPanic.normal ?_
  go_wp2_with fail
  refine (list_any N5 16 ql W7 H7.out.2.2.2.l H7.out.2.2.1).mono ?_
  rintro r W8 ⟨v8, rfl, hown, hb8⟩
  obtain ⟨A8, cap8, rfl, hlc, hcm, hcell⟩ := hown.form
  have hlen : (posL ql).length ≤ 1024 := by rw [posL_eq]; exact posN_len _ _
  have k8 : Kp q w W8 := H7.out.2.1.below hb8
  have n8 : NfaAt W8 q (n1 + 1024) se (S2.link 1 qf) := H7.out.1.below hb8
  have s8 : SpAt W8 N5 ⟨qf, ql, qe⟩ := H7.out.2.2.2.block (hb8.block _ H7.out.2.2.2.lt)
  obtain ⟨S3, hS3⟩ : ∃ S3, S2.link 1 qf = S3 := ⟨_, rfl⟩
  rw [hS3] at n8
  obtain ⟨l, hl⟩ : ∃ l, posL ql = l := ⟨_, rfl⟩
  have hpl := fun (i p : Nat) (hp : (posL ql)[i]? = some p) => posL_lt hp
  rw [hl] at hlen hcell hpl
  simp only [hl]
  obtain ⟨N, hN⟩ : ∃ N, l.length = N := ⟨_, rfl⟩
  rw [hN] at hlen ⊢
  have HL := Lib.hid (And.intro hl (And.intro hN (And.intro hlen (And.intro hcell (And.intro hpl (And.intro hb8.size hS3))))))
  have H8 := Lib.hid (And.intro k8 (And.intro n8 s8))
  clear hown hb8 hlc hcell hl hN hS3 k8 n8 s8 hpl hcm
  go_wp2_with fail
  go_loopw [20] (fun i wr => ∃ k : Nat, i = .int .i64 (k : Int) ∧ k ≤ N ∧ Kp q W8 wr ∧ NfaAt wr q (n1 + 1024 + k) se (tellL S3 (l.take k) bit)) (fun i _ => N - (RowKit.intOf i).toNat)
  case atStart => exact ⟨0, rfl, by omega, Kp.refl _ _, by rw [List.take_zero, tellL_nil]; exact H8.out.2.1⟩
  case round =>
    obtain ⟨k, rfl, hk, hkp, hnf⟩ := hrel
    by_cases hlt : k < N
    · have i1 : (k : Int) < (N : Int) := by omega
      obtain ⟨p, hp⟩ : ∃ p, l[k]? = some p := ⟨l[k]'(by rw [HL.out.2.1]; exact hlt), List.getElem?_eq_getElem _⟩
      obtain ⟨g, rfl, hg1, hg2, hgc⟩ := HL.out.2.2.2.1 (by rintro rfl; simp at hp)
      have hng : ¬ q.In g := fun hin => by have := H7.out.1.lt hin; omega
      have d0 : wr.cell? ⟨g, k, none⟩ = some (.int .i64 (p : Int)) := (World.cell?_of_block (w := W8) (w' := wr) (a := ⟨g, k, none⟩) (hkp.block g hg2 hng)).trans (hgc k p hp)
      have c4 := hnf.c4
      have hp1 := HL.out.2.2.2.2.1 k p hp
      obtain ⟨X, hX⟩ : ∃ X, (tellL S3 (l.take k) bit).tells p = X := ⟨_, rfl⟩
      have hX64 : X < 18446744073709551616 := by rw [← hX]; exact hnf.t p
      have HB := Lib.hid (show bits .or .u64 (X : Int) (bit : Int) = ((X ||| bit : Nat) : Int) from bits_or_u64_nat _ _ hX64 hbit)
      have hXb : X ||| bit < 18446744073709551616 := Nat.or_lt_two_pow (n := 64) hX64 hbit
      have HX := Lib.hid (And.intro hX (And.intro hXb hp1))
      have HK := Lib.hid (And.intro hkp (And.intro hnf hp))
      clear hkp hnf hp hX hng hgc hX64 hXb
      go_wp2_with (first
        | (refine wpList_lookL rfl (.tmp 27) (.tmp 28) rfl HK.out.2.1 (p : Int) (nat64 (by omega)) X (by rw [if_pos (by omega), Int.toNat_natCast]; exact HX.out.1) rfl rfl ?_)
        | (refine wpList_updL rfl (.tmp 27) (.tmp 28) (.tmp 31) rfl HK.out.2.1 H1.out.2.2 (by unfold maxLen; omega) p (by omega) (X ||| bit) HX.out.2.1 _ HB.out rfl rfl rfl ?_
           intro W9 n9 g9
           have hs9 : tellL S3 (l.take (k + 1)) bit = (tellL S3 (l.take k) bit).setL p (X ||| bit) := by
             rw [List.take_add_one, HK.out.2.2]
             simp only [Option.toList_some]
             rw [← tellL_snoc, HX.out.1]
           have hend : ∃ j : Nat, Value.int .i64 ((k : Int) + 1) = .int .i64 (j : Int) ∧ j ≤ N ∧ Kp q W8 W9 ∧ NfaAt W9 q (n1 + 1024 + j) se (tellL S3 (l.take j) bit) :=
             ⟨k + 1, by simp, by omega, HK.out.1.grown g9 (.inl (.inr (.inr (.inr rfl)))), by rw [hs9]; exact n9⟩
           have HEND := Lib.hid hend
           clear n9 g9 hs9 hend)
        | fail)
      go_roundw
      case rel => exact HEND.out
      case measure => simp [RowKit.intOf]; omega
    · obtain rfl : k = N := by omega
      have d1 : ¬ (k : Int) < (k : Int) := by omega
      have e1 : l.take k = l := by rw [← HL.out.2.1, List.take_length]
      rw [e1, ← HL.out.1, tellL_full] at hnf
      have s9 : SpAt wr N5 ⟨qf, ql, qe⟩ := H8.out.2.2.block (hkp.block _ H8.out.2.2.lt H4.out.2.2.2.1)
      have e5 := s9.e
      have c4 := hnf.c4
      have HF : addE s e bit = if qe then (S3.tell ql bit).tell 1 bit else S3.tell ql bit := by
        unfold addE
        rw [HR.out]
        dsimp only
        rw [HL.out.2.2.2.2.2.2]
      have HF := Lib.hid HF
      have HK := Lib.hid (And.intro (H8.out.1.trans hkp) hnf)
      obtain ⟨X, hX⟩ : ∃ X, (S3.tell ql bit).tells 0 = X := ⟨_, rfl⟩
      have hX64 : X < 18446744073709551616 := by rw [← hX]; exact hnf.t 0
      have HB := Lib.hid (show bits .or .u64 (X : Int) (bit : Int) = ((X ||| bit : Nat) : Int) from bits_or_u64_nat _ _ hX64 hbit)
      have hXb : X ||| bit < 18446744073709551616 := Nat.or_lt_two_pow (n := 64) hX64 hbit
      have HX := Lib.hid (And.intro hX hXb)
      clear hkp hnf s9 e1 hX hX64 hXb
      cases qe
      · go_wp2_with fail
        go_end0
        exact ⟨rfl, HK.out.1, HK.out.2.mono (by omega)⟩
      · go_wp2_with (first
          | (refine wpList_lookL rfl (.tmp 38) (.const (.int .i64 0)) rfl HK.out.2 0 (by unfold i64; omega) X (by rw [if_pos (by omega)]; exact HX.out.1) rfl rfl ?_)
          | (refine wpList_updL rfl (.tmp 38) (.const (.int .i64 0)) (.tmp 41) rfl HK.out.2 H1.out.2.2 (by unfold maxLen; omega) 0 (by omega) (X ||| bit) HX.out.2 _ HB.out rfl rfl rfl ?_
             intro W9 n9 g9
             have H9 := Lib.hid (And.intro n9 g9)
             clear n9 g9)
          | fail)
        go_end0
        refine ⟨rfl, HK.out.1.grown H9.out.2 (.inl (.inr (.inr (.inr rfl)))), ?_⟩
        rw [← tell_one, HX.out.1]
        exact H9.out.1.mono (by omega)
end Go.Proofs.YtlbcicoppglgjaaDoor
