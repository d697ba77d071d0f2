/-
  Contracts: (*NFA).add.
  Contracts: Begin, Count, Tells, Step.
  The table of an automaton, as lists: sets in the order in which they are found; the text of a set, which no other set has. No program.
  DERIVED: THE SHELF's CONTRACTS AT THIS DUMP, IN PLAIN WORDS (tools/lay-plain.mjs out of 'TrydShelf.lean', which tools/lay-shelf.mjs wrote): THE SAME DECLARATIONS UNDER THE SAME NAMES: 'import', 'namespace', 'open', 'def', 'theorem' AND NOTHING ELSE: no command of the shelf's: FOR A HAND-IN. Each laying: the table of numbers ('.._ren') and one theorem, a field a fact of the dump's own or the kernel's comparison; each contract: ONE APPLICATION.
  Contracts: the text of a set.
  What dfa's builder holds in memory: the sets' numbers, the sets that wait, the rows.
  Contracts: the state of a set.
-/
import Derived.Test.YtmldgfplnacecaaDoorXqc
import Derived.Deep.RegionHeld3
import Derived.Lib.ItoaNum
import Derived.Test.YtmldgfplnacecaaDoorXqa
import Derived.Shelf.Strconv.Itoa0
import Derived.Shelf.Strconv.Itoa1
import Derived.Shelf.LaysM
import Derived.Shelf.Strconv.Itoa2
import Derived.Shelf.Strconv.AppendUint10
import Derived.Shelf.Strconv.AppendInt10
import Derived.Shelf.Strconv.AppendIntPublic10
import Derived.Test.YtmldgfplnacecaaDoorProg
import Derived.Lib.LaidTab
import Derived.Laws.AppendOwnNone
import Derived.StringKeys
namespace Go.Proofs.YtmldgfplnacecaaDoor
open Go.RowKit Go.Shelf Go.Lib Go.Great Go.Maps

/-- The first places of a list tell an expression. -/
def tellL (s : St) (l : List Nat) (b : Nat) : St := { s with tells := fun p => if p ∈ l then s.tells p ||| b else s.tells p }
theorem tellL_nil (s : St) (b : Nat) : tellL s [] b = s := by simp [tellL]
theorem tellL_snoc (s : St) (l : List Nat) (p b : Nat) : (tellL s l b).setL p ((tellL s l b).tells p ||| b) = tellL s (l ++ [p]) b := by
  unfold tellL St.setL
  simp only [St.mk.injEq, true_and]
  funext r
  by_cases e : r = p
  · subst e
    simp only [if_true, List.mem_append, List.mem_singleton, or_true]
    by_cases h : r ∈ l
    · rw [if_pos h, or_again]
    · rw [if_neg h]
  · rw [if_neg e]
    simp [e]
theorem tellL_full (s : St) (a b : Nat) : tellL s (posL a) b = s.tell a b := by
  unfold tellL St.tell
  simp only [St.mk.injEq, true_and]
  funext r
  by_cases h : inM a r = true
  · rw [if_pos (mem_posL.2 h), if_pos h]
  · rw [if_neg (fun h2 => h (mem_posL.1 h2)), if_neg h]
theorem inM_one (r : Nat) : inM 1 r = decide (r = 0) := by
  unfold inM
  cases r with
  | zero => simp
  | succ n => simp [Nat.testBit_succ]
theorem tell_one (s : St) (b : Nat) : s.setL 0 (s.tells 0 ||| b) = s.tell 1 b := by
  unfold St.tell St.setL
  simp only [St.mk.injEq, true_and]
  funext r
  rw [inM_one]
  by_cases e : r = 0
  · subst e; simp
  · simp [e]
theorem only0_any (w : World) : Calls Tryd.prog 57 #[.int .i64 0] w fun e w' => e = .returned (.agg (plL 1).toArray) ∧ Below w.heap.size w w' := only_any 0 w (by omega)


set_option maxHeartbeats 8000000 in
set_option maxRecDepth 100000 in
theorem add_any (e : E) (bit : Nat) (q : Np) (B n : Nat) (se : Bool) (s : St) (v : Value) (w : World) (h : NfaAt w q n se s) (hq : q.Ok B) (hB : B ≤ w.heap.size) (h0 : 0 < B) (hT : TZ w) (hN : Nd w B e v) (hr : rightE e = true) (hc : s.count + leavesE e ≤ 1000)
    (hn : n + 5000 * szE e ≤ 800000000000) (hbit : bit < 18446744073709551616) : Calls Tryd.prog 49 #[.pointer (some ⟨q.b, 0, none⟩), v, .int .u64 (bit : Int)] w fun r w' => r = .returned (.tuple #[]) ∧ Kp q w w' ∧ NfaAt w' q (n + 5000 * szE e + 3000) se (addE s e bit) := by
  obtain ⟨_, _, A, cap, rfl, hk⟩ := Nd_iff.1 hN
  obtain ⟨W1, hW1⟩ : ∃ W, w.alloc (.cells #[.int .i64 e.k, .int .i64 e.c, .slice A e.ks.length cap] 91) = W := ⟨_, rfl⟩
  have b1 : Below w.heap.size w W1 := by rw [← hW1]; exact below_new _ _
  have x1 : Cells W1 w.heap.size 91 #[.int .i64 e.k, .int .i64 e.c, .slice A e.ks.length cap] := by rw [← hW1]; exact cells_new _ _ _
  have d0 := x1.cell 0
  have d1 := x1.cell 1
  have d2 := x1.cell 2
  simp at d0 d1 d2
  have C := Lib.hid (read_any e q B n se s _ W1 (h.below b1) hq (by have := b1.size; omega) h0 (hT.below b1 hT.lt) (hN.below (b1.mono hB)) hr hc (by omega))
  have HW1 := Lib.hid hW1
  have H1 := Lib.hid (And.intro b1 (And.intro (hT.below b1 hT.lt) hq))
  obtain ⟨R, hR⟩ : ∃ R, readE e s = R := ⟨_, rfl⟩
  have HA := Lib.hid (show addE s e bit = _ from rfl)
  rw [hR] at C
  have HR := Lib.hid hR
  obtain ⟨n1, hn1⟩ : ∃ n1, n + 5000 * szE e = n1 := ⟨_, rfl⟩
  rw [hn1] at C hn ⊢
  have HQ := Lib.hid (fun k (hk : q.In k) => h.lt hk)
  clear h hT hN hr hc hk hW1 b1 x1 hR hn1 hq
  obtain ⟨S2, qf, ql, qe⟩ := R
  go_enter Tryd.func49, Tryd.ntmps49
  go_wp2_with fail
  rw [HW1.out]
  go_wp2_with (first
    | (go_at_call 82; refine C.out.mono ?_; rintro r W3 ⟨rfl, hk3, hn3⟩
       have t3 := hk3.tz H1.out.2.1 (H1.out.2.2.out h0)
       obtain ⟨W4, hW4⟩ : ∃ W, W3.alloc (.cells Z80 125) = W := ⟨_, rfl⟩
       obtain ⟨N5, hN5⟩ : ∃ N, W3.heap.size = N := ⟨_, rfl⟩
       have b4 : Below W3.heap.size W3 W4 := by rw [← hW4]; exact below_new _ _
       have s4 : SpAt W4 N5 sp0 := by rw [← hW4, ← hN5]; exact spAt_new0 W3
       have q5 : ¬ q.In N5 := fun hin => by have := hn3.lt hin; omega
       have l5 : w.heap.size ≤ N5 := by have := hk3.size; have := H1.out.1.size; omega
       have H4 := Lib.hid (And.intro hW4 (And.intro hN5 (And.intro s4 (And.intro q5 (And.intro l5 (And.intro (((Kp.of_below H1.out.1).trans hk3).below b4) (And.intro (hn3.below b4) (t3.below b4 t3.lt))))))))
       clear hk3 hn3 t3 hW4 hN5 b4 s4 q5 l5 d0 d1 d2)
    | (refine wpList_alloc80 rfl 6 rfl rfl N5 H4.out.2.1 W4 H4.out.1 ?_)
    | (refine wpList_storeSp rfl (.tmp 6) (.tmp 11) rfl rfl N5 sp0 ⟨qf, ql, qe⟩ rfl rfl H4.out.2.2.1 ?_
       intro W5 hW5
       have n5 := H4.out.2.2.2.2.2.2.1.grown hW5.grown H4.out.2.2.2.1
       have k5 := H4.out.2.2.2.2.2.1.grown hW5.grown (.inr H4.out.2.2.2.2.1)
       have t5 := H4.out.2.2.2.2.2.2.2.grown hW5.grown (by have := H4.out.2.2.2.2.1; omega)
       have H5 := Lib.hid (And.intro hW5.at_ (And.intro n5 (And.intro k5 t5)))
       clear n5 k5 t5 hW5)
    | fail)
  -- HAND
  go_wp2_with fail
  refine wp_region_noPanic ?_
  refine wp_region_held_drew (S := fun W => PlAt W N5 0 qf) (by kernel_rfl) H5.out.1.f (fun hH => ?_)
  refine wpAnyH_take (i := 0) (oi := { dst := some 12, op := Op.move (Operand.tmp 0), type := 26, pos := "build.go:17", after := #[], guard := none }) (v := ?_) rfl (by kernel_rfl) (by kernel_rfl) (by kernel_rfl) (fun _ _ _ h => h) (Or.inl ⟨by rfl, ?_⟩) (by exact hH) ?_
  rotate_left
  · intro W hSw
    go_simp
    try with_reducible rfl
  try simp only [Act.put, List.setIfInBounds_toArray, List.set_cons_zero, List.set_cons_succ]
  refine wpAnyH_take (i := 2) (oi := { dst := some 14, op := Op.fieldAddr 125 (Operand.tmp 6) 0, type := 0, pos := "build.go:17", after := #[], guard := none }) (v := ?_) rfl (by kernel_rfl) (by kernel_rfl) (by kernel_rfl) (fun _ _ _ h => h) (Or.inl ⟨by rfl, ?_⟩) (by exact hH) ?_
  rotate_left
  · intro W hSw
    go_simp
    try with_reducible rfl
  try simp only [Act.put, List.setIfInBounds_toArray, List.set_cons_zero, List.set_cons_succ]
  refine wpAnyH_take (i := 3) (oi := { dst := some 15, op := Op.load 106 (Operand.tmp 14), type := 106, pos := "build.go:17", after := #[{ on := 2, ground := Ground.data }], guard := none }) (v := .agg (plL qf).toArray) rfl (by kernel_rfl) (by kernel_rfl) (by kernel_rfl) (fun _ _ _ h => h) (yieldsIf_load_mid (by rfl) 106 (.tmp 14) rfl N5 0 rfl (plL qf) (.array 16 37) (fun W hSw => PlAt.range hSw) Tryd.underlying106 rfl (by rw [plL_len]; exact size70)) (by exact hH) ?_
  try simp only [Act.put, List.setIfInBounds_toArray, List.set_cons_zero, List.set_cons_succ]
  refine wpAnyH_ready (rs := [1]) (by kernel_rfl) (by simp) ?_
  refine AllReadyH.cons (o := { dst := some 13, op := Op.call { callee := Callee.value (Operand.func 57), args := #[Operand.const (Value.int IntKind.i64 0)], argTypes := #[3] }, type := 106, pos := "build.go:17", after := #[], guard := none }) rfl (fun K hK => ?_) AllReadyH.nil
  go_simp
  go_at_call 57
  refine (only0_any W5.drew).mono ?_
  rintro r W6 ⟨rfl, hb6⟩
  have n6 : NfaAt W6 q n1 se S2 := H5.out.2.1.drew.below hb6
  have k6 : Kp q w W6 := H5.out.2.2.1.drew.below hb6
  have t6 : TZ W6 := (show TZ W5.drew from H5.out.2.2.2).below hb6 H5.out.2.2.2.lt
  have s6 : SpAt W6 N5 ⟨qf, ql, qe⟩ := SpAt.block (w := W5) H5.out.1 (hb6.block _ H5.out.1.lt)
  have H6 := Lib.hid (And.intro n6 (And.intro k6 (And.intro t6 s6)))
  clear hb6 n6 k6 t6 s6
  refine hK.out _ _ H6.out.2.2.2.f (fun hH => ?_)
  clear hK K
  try simp only [Act.put, List.setIfInBounds_toArray, List.set_cons_zero, List.set_cons_succ]
  refine wpAnyH_ready (rs := [4]) (by kernel_rfl) (by simp) ?_
  refine AllReadyH.cons (o := { dst := some 16, op := Op.call { callee := Callee.value (Operand.func 83), args := #[Operand.tmp 12, Operand.tmp 13, Operand.tmp 15], argTypes := #[26, 106, 106] }, type := 0, pos := "build.go:17", after := #[{ on := 0, ground := Ground.data }, { on := 1, ground := Ground.data }, { on := 3, ground := Ground.data }, { on := 1, ground := Ground.chain }], guard := none }) rfl (fun K hK => ?_) AllReadyH.nil
  go_simp
  go_at_call 83
  refine (link_any q B n1 se S2 1 qf W6 H6.out.1 H1.out.2.2 h0 H6.out.2.2.1 (by omega)).mono ?_
  rintro r W7 ⟨rfl, hk7, hn7⟩
  have t7 : TZ W7 := hk7.tz H6.out.2.2.1 (H1.out.2.2.out h0)
  have s7 : SpAt W7 N5 ⟨qf, ql, qe⟩ := H6.out.2.2.2.block (hk7.block _ H6.out.2.2.2.lt H4.out.2.2.2.1)
  have H7 := Lib.hid (And.intro hn7 (And.intro (H6.out.2.1.trans hk7) (And.intro t7 s7)))
  clear hk7 hn7 t7 s7
  try go_wp2_with fail
  refine hK.out _ _ H7.out.2.2.2.f (fun hH => ?_)
  clear hK K
  try simp only [Act.put, List.setIfInBounds_toArray, List.set_cons_zero, List.set_cons_succ]
  refine wpAnyH_done (by kernel_rfl) ?_ _
  refine NoPanic.normal ?_
  go_wp2_with fail
  refine (list_any N5 16 ql W7 H7.out.2.2.2.l H7.out.2.2.1).mono ?_
  rintro r W8 ⟨v8, rfl, hown, hb8⟩
  obtain ⟨A8, cap8, rfl, hlc, hcm, hcell⟩ := hown.form
  have hlen : (posL ql).length ≤ 1024 := by rw [posL_eq]; exact posN_len _ _
  have k8 : Kp q w W8 := H7.out.2.1.below hb8
  have n8 : NfaAt W8 q (n1 + 1024) se (S2.link 1 qf) := H7.out.1.below hb8
  have s8 : SpAt W8 N5 ⟨qf, ql, qe⟩ := H7.out.2.2.2.block (hb8.block _ H7.out.2.2.2.lt)
  obtain ⟨S3, hS3⟩ : ∃ S3, S2.link 1 qf = S3 := ⟨_, rfl⟩
  rw [hS3] at n8
  obtain ⟨l, hl⟩ : ∃ l, posL ql = l := ⟨_, rfl⟩
  have hpl := fun (i p : Nat) (hp : (posL ql)[i]? = some p) => posL_lt hp
  rw [hl] at hlen hcell hpl
  simp only [hl]
  obtain ⟨N, hN⟩ : ∃ N, l.length = N := ⟨_, rfl⟩
  rw [hN] at hlen ⊢
  have HL := Lib.hid (And.intro hl (And.intro hN (And.intro hlen (And.intro hcell (And.intro hpl (And.intro hb8.size hS3))))))
  have H8 := Lib.hid (And.intro k8 (And.intro n8 s8))
  clear hown hb8 hlc hcell hl hN hS3 k8 n8 s8 hpl hcm
  go_wp2_with fail
  go_loopw [20] (fun i wr => ∃ k : Nat, i = .int .i64 (k : Int) ∧ k ≤ N ∧ Kp q W8 wr ∧ NfaAt wr q (n1 + 1024 + k) se (tellL S3 (l.take k) bit)) (fun i _ => N - (RowKit.intOf i).toNat)
  case atStart => exact ⟨0, rfl, by omega, Kp.refl _ _, by rw [List.take_zero, tellL_nil]; exact H8.out.2.1⟩
  case round =>
    obtain ⟨k, rfl, hk, hkp, hnf⟩ := hrel
    by_cases hlt : k < N
    · have i1 : (k : Int) < (N : Int) := by omega
      obtain ⟨p, hp⟩ : ∃ p, l[k]? = some p := ⟨l[k]'(by rw [HL.out.2.1]; exact hlt), List.getElem?_eq_getElem _⟩
      obtain ⟨g, rfl, hg1, hg2, hgc⟩ := HL.out.2.2.2.1 (by rintro rfl; simp at hp)
      have hng : ¬ q.In g := fun hin => by have := H7.out.1.lt hin; omega
      have d0 : wr.cell? ⟨g, k, none⟩ = some (.int .i64 (p : Int)) := (World.cell?_of_block (w := W8) (w' := wr) (a := ⟨g, k, none⟩) (hkp.block g hg2 hng)).trans (hgc k p hp)
      have c4 := hnf.c4
      have hp1 := HL.out.2.2.2.2.1 k p hp
      obtain ⟨X, hX⟩ : ∃ X, (tellL S3 (l.take k) bit).tells p = X := ⟨_, rfl⟩
      have hX64 : X < 18446744073709551616 := by rw [← hX]; exact hnf.t p
      have HB := Lib.hid (show bits .or .u64 (X : Int) (bit : Int) = ((X ||| bit : Nat) : Int) from bits_or_u64_nat _ _ hX64 hbit)
      have hXb : X ||| bit < 18446744073709551616 := Nat.or_lt_two_pow (n := 64) hX64 hbit
      have HX := Lib.hid (And.intro hX (And.intro hXb hp1))
      have HK := Lib.hid (And.intro hkp (And.intro hnf hp))
      clear hkp hnf hp hX hng hgc hX64 hXb
      go_wp2_with (first
        | (refine wpList_lookL rfl (.tmp 27) (.tmp 28) rfl HK.out.2.1 (p : Int) (nat64 (by omega)) X (by rw [if_pos (by omega), Int.toNat_natCast]; exact HX.out.1) rfl rfl ?_)
        | (refine wpList_updL rfl (.tmp 27) (.tmp 28) (.tmp 31) rfl HK.out.2.1 H1.out.2.2 (by unfold maxLen; omega) p (by omega) (X ||| bit) HX.out.2.1 _ HB.out rfl rfl rfl ?_
           intro W9 n9 g9
           have hs9 : tellL S3 (l.take (k + 1)) bit = (tellL S3 (l.take k) bit).setL p (X ||| bit) := by
             rw [List.take_add_one, HK.out.2.2]
             simp only [Option.toList_some]
             rw [← tellL_snoc, HX.out.1]
           have hend : ∃ j : Nat, Value.int .i64 ((k : Int) + 1) = .int .i64 (j : Int) ∧ j ≤ N ∧ Kp q W8 W9 ∧ NfaAt W9 q (n1 + 1024 + j) se (tellL S3 (l.take j) bit) :=
             ⟨k + 1, by simp, by omega, HK.out.1.grown g9 (.inl (.inr (.inr (.inr rfl)))), by rw [hs9]; exact n9⟩
           have HEND := Lib.hid hend
           clear n9 g9 hs9 hend)
        | fail)
      go_roundw
      case rel => exact HEND.out
      case measure => simp [RowKit.intOf]; omega
    · obtain rfl : k = N := by omega
      have d1 : ¬ (k : Int) < (k : Int) := by omega
      have e1 : l.take k = l := by rw [← HL.out.2.1, List.take_length]
      rw [e1, ← HL.out.1, tellL_full] at hnf
      have s9 : SpAt wr N5 ⟨qf, ql, qe⟩ := H8.out.2.2.block (hkp.block _ H8.out.2.2.lt H4.out.2.2.2.1)
      have e5 := s9.e
      have c4 := hnf.c4
      have HF : addE s e bit = if qe then (S3.tell ql bit).tell 1 bit else S3.tell ql bit := by
        unfold addE
        rw [HR.out]
        dsimp only
        rw [HL.out.2.2.2.2.2.2]
      have HF := Lib.hid HF
      have HK := Lib.hid (And.intro (H8.out.1.trans hkp) hnf)
      obtain ⟨X, hX⟩ : ∃ X, (S3.tell ql bit).tells 0 = X := ⟨_, rfl⟩
      have hX64 : X < 18446744073709551616 := by rw [← hX]; exact hnf.t 0
      have HB := Lib.hid (show bits .or .u64 (X : Int) (bit : Int) = ((X ||| bit : Nat) : Int) from bits_or_u64_nat _ _ hX64 hbit)
      have hXb : X ||| bit < 18446744073709551616 := Nat.or_lt_two_pow (n := 64) hX64 hbit
      have HX := Lib.hid (And.intro hX hXb)
      clear hkp hnf s9 e1 hX hX64 hXb
      cases qe
      · go_wp2_with fail
        go_end0
        exact ⟨rfl, HK.out.1, HK.out.2.mono (by omega)⟩
      · go_wp2_with (first
          | (refine wpList_lookL rfl (.tmp 38) (.const (.int .i64 0)) rfl HK.out.2 0 (by unfold i64; omega) X (by rw [if_pos (by omega)]; exact HX.out.1) rfl rfl ?_)
          | (refine wpList_updL rfl (.tmp 38) (.const (.int .i64 0)) (.tmp 41) rfl HK.out.2 H1.out.2.2 (by unfold maxLen; omega) 0 (by omega) (X ||| bit) HX.out.2 _ HB.out rfl rfl rfl ?_
             intro W9 n9 g9
             have H9 := Lib.hid (And.intro n9 g9)
             clear n9 g9)
          | fail)
        go_end0
        refine ⟨rfl, HK.out.1.grown H9.out.2 (.inl (.inr (.inr (.inr rfl)))), ?_⟩
        rw [← tell_one, HX.out.1]
        exact H9.out.1.mono (by omega)
end Go.Proofs.YtmldgfplnacecaaDoor

namespace Go.Proofs.YtmldgfplnacecaaDoor
open Go.RowKit Go.Shelf Go.Lib Go.Great Go.Maps

/-- A slice of numbers. -/
structure IS (w : World) (B : Nat) (xs : List Int) (A : Option Addr) (cap : Nat) : Prop where
  l : xs.length ≤ cap
  m : cap ≤ maxLen
  i : ∀ x ∈ xs, i64 x
  r : xs ≠ [] → ∃ b o, A = some ⟨b, o, none⟩ ∧ b < B ∧ ∀ i x, xs[i]? = some x → w.cell? ⟨b, o + i, none⟩ = some (.int .i64 x)
theorem IS.below {w w' : World} {B : Nat} {xs : List Int} {A : Option Addr} {cap : Nat} (h : IS w B xs A cap) (hb : Below B w w') : IS w' B xs A cap :=
  ⟨h.l, h.m, h.i, fun hne => by
    obtain ⟨b, o, rfl, hl, hr⟩ := h.r hne
    exact ⟨b, o, rfl, hl, fun i x hx => (hb.cell (p := ⟨b, _, none⟩) hl).trans (hr i x hx)⟩⟩
theorem IS.mono {w : World} {B B' : Nat} {xs : List Int} {A : Option Addr} {cap : Nat} (h : IS w B xs A cap) (hB : B ≤ B') : IS w B' xs A cap :=
  ⟨h.l, h.m, h.i, fun hne => by
    obtain ⟨b, o, rfl, hl, hr⟩ := h.r hne
    exact ⟨b, o, rfl, by omega, hr⟩⟩
theorem IS.on {w w' : World} {xs : List Int} {A : Option Addr} {cap : Nat} (h : IS w w.heap.size xs A cap) (hb : Below w.heap.size w w') : IS w' w'.heap.size xs A cap := (h.below hb).mono hb.size
theorem OwnP.is {w : World} {base m : Nat} {v : Value} (h : OwnP w base (posL m) v) : ∃ A cap, v = .slice A (posI m).length cap ∧ IS w w.heap.size (posI m) A cap := by
  obtain ⟨A, cap, rfl, h1, h2, h3⟩ := h.form
  have hl : (posI m).length = (posL m).length := by unfold posI; rw [List.length_map]
  refine ⟨A, cap, by rw [hl], by rw [hl]; exact h1, h2, fun x hx => ?_, fun hne => ?_⟩
  · obtain ⟨p, rfl, hp⟩ := mem_posI.1 hx
    unfold inM at hp; simp at hp
    exact nat64 (by omega)
  · obtain ⟨g, rfl, _, hg, hc⟩ := h3 (by intro e; apply hne; unfold posI; rw [e]; rfl)
    refine ⟨g, 0, rfl, hg, fun i x hx => ?_⟩
    unfold posI at hx
    rw [List.getElem?_map] at hx
    obtain ⟨p, hp, rfl⟩ := Option.map_eq_some_iff.1 hx
    rw [Nat.zero_add]
    exact hc i p hp
set_option maxHeartbeats 4000000 in
set_option maxRecDepth 100000 in
theorem begin_any (b : Nat) (w : World) : Calls Tryd.prog 17 #[.pointer (some ⟨b, 0, none⟩)] w fun r w' => r = .returned (.slice (some ⟨w.heap.size, 0, none⟩) 1 1) ∧ w' = w.alloc (.cells #[.int .i64 0] 3) := by
  go_enter Tryd.func17, Tryd.ntmps17
  go_wp2_with fail
  go_ret
  exact ⟨rfl, rfl⟩
theorem is_begin (w : World) : IS (w.alloc (.cells #[.int .i64 0] 3)) (w.alloc (.cells #[.int .i64 0] 3)).heap.size [0] (some ⟨w.heap.size, 0, none⟩) 1 :=
  ⟨by simp, by unfold maxLen; omega, fun x hx => by simp at hx; subst hx; unfold i64; omega, fun _ => ⟨_, 0, rfl, by simp, fun i x hx => by
    cases i with
    | zero => simp at hx; subst hx; rw [World.cell?_alloc_new]; rfl
    | succ i => simp at hx⟩⟩
set_option maxHeartbeats 4000000 in
set_option maxRecDepth 100000 in
theorem count_nfa {q : Np} {n : Nat} {se : Bool} {s : St} {w : World} (h : NfaAt w q n se s) : Calls Tryd.prog 18 #[.pointer (some ⟨q.b, 0, none⟩)] w fun r w' => r = .returned (.int .i64 (s.count : Int)) ∧ w' = w := by
  have c1 := h.c1
  clear h
  go_enter Tryd.func18, Tryd.ntmps18
  go_wp2_with fail
  go_ret
  exact ⟨rfl, rfl⟩
theorem tellsU_lt {s : St} (h : ∀ p, s.tells p < 18446744073709551616) (l : List Int) : tellsU s l < 18446744073709551616 := by
  induction l with
  | nil => simp [tellsU]
  | cons x r ih =>
    unfold tellsU
    refine Nat.or_lt_two_pow (n := 64) ?_ ih
    split
    · exact h _
    · decide
theorem tellsU_take {xs : List Int} {i : Nat} {x : Int} (h : xs[i]? = some x) (s : St) : tellsU s (xs.take (i + 1)) = tellsU s (xs.take i) ||| (if 0 ≤ x then s.tells x.toNat else 0) := by
  rw [List.take_add_one, h, Option.toList_some, tellsU_append]
  simp [tellsU]
theorem nextU_take {xs : List Int} {i : Nat} {x : Int} (h : xs[i]? = some x) (s : St) : nextU s (xs.take (i + 1)) = nextU s (xs.take i) ||| (if 0 ≤ x then s.next x.toNat else 0) := by
  rw [List.take_add_one, h, Option.toList_some, nextU_append]
  simp [nextU]
set_option maxHeartbeats 4000000 in
set_option maxRecDepth 100000 in
theorem tells_any {q : Np} {n : Nat} {se : Bool} {s : St} {w : World} (h : NfaAt w q n se s) (xs : List Int) (A : Option Addr) (cap : Nat) (hx : IS w w.heap.size xs A cap) :
    Calls Tryd.prog 20 #[.pointer (some ⟨q.b, 0, none⟩), .slice A xs.length cap] w fun r w' => r = .returned (.int .u64 (tellsU s xs : Nat)) ∧ w' = w := by
  have hln : xs.length ≤ 9223372036854775807 := by have := hx.l; have := hx.m; unfold maxLen at this; omega
  have c4 := h.c4
  obtain ⟨N, hN⟩ : ∃ N, xs.length = N := ⟨_, rfl⟩
  have HN := Lib.hid hN
  have H := Lib.hid (And.intro h hx)
  rw [hN] at hln ⊢
  clear h hx hN
  go_enter Tryd.func20, Tryd.ntmps20
  go_wp2_with fail
  go_loopw [5, 12] (fun v i wr => ∃ k : Nat, i = .int .i64 (k : Int) ∧ k ≤ N ∧ v = .int .u64 ((tellsU s (xs.take k) : Nat) : Int) ∧ wr = w) (fun _ i _ => N - (RowKit.intOf i).toNat)
  case atStart => exact ⟨0, rfl, by omega, rfl, rfl⟩
  case round =>
    obtain ⟨k, rfl, hk, rfl, rfl⟩ := hrel
    by_cases hlt : k < N
    · have i1 : (k : Int) < (N : Int) := by omega
      obtain ⟨x, hx⟩ : ∃ x, xs[k]? = some x := ⟨xs[k]'(by rw [HN.out]; exact hlt), List.getElem?_eq_getElem _⟩
      obtain ⟨b, o, rfl, hbl, hc⟩ := H.out.2.r (by rintro rfl; simp at hx)
      have d0 := hc k x hx
      have ht := tellsU_take hx s
      have h64 := H.out.2.i x (List.mem_of_getElem? hx)
      obtain ⟨X, hX⟩ : ∃ X, (if 0 ≤ x then s.tells x.toNat else 0) = X := ⟨_, rfl⟩
      have hXl : X < 18446744073709551616 := by
        rw [← hX]
        split
        · exact H.out.1.t _
        · decide
      have hT := tellsU_lt H.out.1.t (xs.take k)
      generalize tellsU s (xs.take k) = T at *
      rw [hX] at ht
      have HB := Lib.hid (show bits .or .u64 (T : Int) (X : Int) = ((T ||| X : Nat) : Int) from bits_or_u64_nat _ _ hT hXl)
      have HX := Lib.hid (And.intro hX (And.intro ht h64))
      clear hX ht h64 hXl hT hc hx
      go_wp2_with (first
        | (refine wpList_lookL rfl (.tmp 20) (.tmp 21) rfl H.out.1 x HX.out.2.2 X HX.out.1 rfl rfl ?_)
        | fail)
      go_roundw
      case rel => exact ⟨k + 1, by go_num, by omega, by rw [HX.out.2.1, HB.out], trivial⟩
      case measure => simp [RowKit.intOf]; omega
    · obtain rfl : k = N := by omega
      have i1 : ¬ (k : Int) < (k : Int) := by omega
      have e1 : xs.take k = xs := by rw [← HN.out, List.take_length]
      rw [e1]
      clear e1
      go_wp2_with fail
      go_ret
      exact ⟨rfl, rfl⟩
set_option maxHeartbeats 4000000 in
set_option maxRecDepth 100000 in
theorem step_any {q : Np} {n : Nat} {se : Bool} {s : St} {w : World} (h : NfaAt w q n se s) (hT : TZ w) (xs : List Int) (A : Option Addr) (cap : Nat) (hx : IS w w.heap.size xs A cap) (m : Int) (hm : i64 m) :
    Calls Tryd.prog 22 #[.pointer (some ⟨q.b, 0, none⟩), .slice A xs.length cap, .int .i64 m] w fun r w' => ∃ v, r = .returned v ∧ OwnP w' w.heap.size (posL (stepM se s xs m)) v ∧ Below w.heap.size w w' := by
  have hln : xs.length ≤ 9223372036854775807 := by have := hx.l; have := hx.m; unfold maxLen at this; omega
  obtain ⟨G, hG⟩ : ∃ G, w.heap.size = G := ⟨_, rfl⟩
  obtain ⟨W1, hW1⟩ : ∃ W, w.alloc (.cells Z70 106) = W := ⟨_, rfl⟩
  have p1 : PlAt W1 G 0 0 := by rw [← hW1, ← hG]; exact plAt_new w
  have b1 : Below w.heap.size w W1 := by rw [← hW1]; exact below_new _ _
  obtain ⟨N, hN⟩ : ∃ N, xs.length = N := ⟨_, rfl⟩
  have HN := Lib.hid hN
  have H := Lib.hid (And.intro h (And.intro hx (And.intro hT hm)))
  have HA := Lib.hid (And.intro hG hW1)
  have H1 := Lib.hid (And.intro p1 b1)
  rw [hN] at hln ⊢
  clear h hx hN hG hW1 p1 b1 hT hm
  go_enter Tryd.func22, Tryd.ntmps22
  go_wp2_with (first
    | (refine wpList_alloc70 rfl 7 rfl rfl G HA.out.1 W1 HA.out.2 ?_)
    | fail)
  go_loopw [14] (fun i wr => ∃ k : Nat, i = .int .i64 (k : Int) ∧ k ≤ N ∧ PlAt wr G 0 (nextU s (xs.take k)) ∧ Below w.heap.size w wr) (fun i _ => N - (RowKit.intOf i).toNat)
  case atStart => exact ⟨0, rfl, by omega, H1.out.1, H1.out.2⟩
  case round =>
    obtain ⟨k, rfl, hk, hpl, hb⟩ := hrel
    have hnf : NfaAt wr q n se s := H.out.1.below hb
    by_cases hlt : k < N
    · have i1 : (k : Int) < (N : Int) := by omega
      obtain ⟨x, hx⟩ : ∃ x, xs[k]? = some x := ⟨xs[k]'(by rw [HN.out]; exact hlt), List.getElem?_eq_getElem _⟩
      obtain ⟨b, o, rfl, hbl, hc⟩ := H.out.2.1.r (by rintro rfl; simp at hx)
      have d0 := (hb.cell (p := ⟨b, o + k, none⟩) hbl).trans (hc k x hx)
      have c2 := hnf.c2
      have ht := nextU_take hx s
      have h64 := H.out.2.1.i x (List.mem_of_getElem? hx)
      obtain ⟨X, hX⟩ : ∃ X, (if 0 ≤ x then s.next x.toNat else 0) = X := ⟨_, rfl⟩
      rw [hX] at ht
      generalize nextU s (xs.take k) = T at *
      have HX := Lib.hid (And.intro hX (And.intro ht (And.intro h64 (And.intro hpl (And.intro hb hnf)))))
      clear hX ht h64 hc hx hpl hb hnf
      go_wp2_with (first
        | (refine wpList_lookN rfl (.tmp 21) (.tmp 22) rfl HX.out.2.2.2.2.2 x HX.out.2.2.1 X HX.out.1 rfl rfl ?_)
        | (go_at_call 55; refine (padd_any G 0 T X wr HX.out.2.2.2.1).mono ?_; rintro e W2 ⟨rfl, hW2⟩
           have hend : ∃ j : Nat, Value.int .i64 ((k : Int) + 1) = .int .i64 (j : Int) ∧ j ≤ N ∧ PlAt W2 G 0 (nextU s (xs.take j)) ∧ Below w.heap.size w W2 :=
             ⟨k + 1, by simp, by omega, by rw [HX.out.2.1]; exact hW2.at_, HX.out.2.2.2.2.1.trans (below_grown hW2.grown (by rw [HA.out.1]; exact Nat.le_refl _) HX.out.2.2.2.2.1.size)⟩
           have HEND := Lib.hid hend
           clear hend hW2)
        | fail)
      go_roundw
      case rel => exact HEND.out
      case measure => simp [RowKit.intOf]; omega
    · obtain rfl : k = N := by omega
      have i1 : ¬ (k : Int) < (k : Int) := by omega
      have e1 : xs.take k = xs := by rw [← HN.out, List.take_length]
      rw [e1] at hpl
      have c3 := hnf.c3
      obtain ⟨T, hT⟩ : ∃ T, nextU s xs = T := ⟨_, rfl⟩
      obtain ⟨X, hX⟩ : ∃ X, takersI s m = X := ⟨_, rfl⟩
      rw [hT] at hpl
      have HX := Lib.hid (And.intro hT (And.intro hX (And.intro hpl (And.intro hb hnf))))
      clear e1 hT hX hpl hb hnf
      have hq : ¬ q.In G := fun hin => by have := H.out.1.lt hin; have := HA.out.1; omega
      cases se
      · go_wp2_with (first
          | (refine wpList_lookT rfl (.tmp 29) (.tmp 30) rfl HX.out.2.2.2.2 m H.out.2.2.2 X HX.out.2.1 rfl rfl ?_)
          | (go_at_call 56; refine (pkeep_any G 0 T X wr HX.out.2.2.1).mono ?_; rintro e W2 ⟨rfl, hW2⟩
             have b2 := HX.out.2.2.2.1.trans (below_grown hW2.grown (by rw [HA.out.1]; exact Nat.le_refl _) HX.out.2.2.2.1.size)
             have n2 := HX.out.2.2.2.2.grown hW2.grown hq
             have c0 := n2.c0
             have t2 := H.out.2.2.1.below b2 H.out.2.2.1.lt
             have H2 := Lib.hid (And.intro hW2.at_ (And.intro b2 (And.intro n2 t2)))
             clear hW2 b2 n2 t2)
          | (go_at_call 58; refine (list_any G 0 (T &&& X) W2 H2.out.1 H2.out.2.2.2).mono ?_; rintro e W3 ⟨v, rfl, ho, hb3⟩
             have H3 := Lib.hid (And.intro ho hb3)
             clear ho hb3)
          | fail)
        go_ret
        refine ⟨_, rfl, ?_, H2.out.2.1.trans (H3.out.2.mono H2.out.2.1.size)⟩
        have e2 : stepM false s xs m = T &&& X := by unfold stepM; rw [HX.out.1, HX.out.2.1]; rfl
        rw [e2]
        refine ⟨H3.out.1.1, ?_⟩
        rcases H3.out.1.2 with h1 | ⟨g, cap', cur, h1, h2, h3⟩
        · exact .inl h1
        · exact .inr ⟨g, cap', cur, h1, by have := H2.out.2.1.size; omega, h3⟩
      · go_wp2_with (first
          | (refine wpList_lookT rfl (.tmp 29) (.tmp 30) rfl HX.out.2.2.2.2 m H.out.2.2.2 X HX.out.2.1 rfl rfl ?_)
          | (go_at_call 56; refine (pkeep_any G 0 T X wr HX.out.2.2.1).mono ?_; rintro e W2 ⟨rfl, hW2⟩
             have b2 := HX.out.2.2.2.1.trans (below_grown hW2.grown (by rw [HA.out.1]; exact Nat.le_refl _) HX.out.2.2.2.1.size)
             have n2 := HX.out.2.2.2.2.grown hW2.grown hq
             have c0 := n2.c0
             have t2 := H.out.2.2.1.below b2 H.out.2.2.1.lt
             have H2 := Lib.hid (And.intro hW2.at_ (And.intro b2 (And.intro n2 t2)))
             clear hW2 b2 n2 t2)
          | (go_at_call 57; refine (only0_any W2).mono ?_; rintro e W3 ⟨rfl, hb3⟩
             have p3 := H2.out.1.block (hb3.block _ H2.out.1.lt)
             have b3 := H2.out.2.1.trans (hb3.mono H2.out.2.1.size)
             have H3 := Lib.hid (And.intro p3 b3)
             clear hb3 p3 b3)
          | (go_at_call 55; refine (padd_any G 0 (T &&& X) 1 W3 H3.out.1).mono ?_; rintro e W4 ⟨rfl, hW4⟩
             have b4 := H3.out.2.trans (below_grown hW4.grown (by rw [HA.out.1]; exact Nat.le_refl _) H3.out.2.size)
             have t4 := H.out.2.2.1.below b4 H.out.2.2.1.lt
             have H4 := Lib.hid (And.intro hW4.at_ (And.intro b4 t4))
             clear hW4 b4 t4)
          | (go_at_call 58; refine (list_any G 0 ((T &&& X) ||| 1) W4 H4.out.1 H4.out.2.2).mono ?_; rintro e W5 ⟨v, rfl, ho, hb5⟩
             have H5 := Lib.hid (And.intro ho hb5)
             clear ho hb5)
          | fail)
        go_ret
        refine ⟨_, rfl, ?_, H4.out.2.1.trans (H5.out.2.mono H4.out.2.1.size)⟩
        have e2 : stepM true s xs m = (T &&& X) ||| 1 := by unfold stepM; rw [HX.out.1, HX.out.2.1]; rfl
        rw [e2]
        refine ⟨H5.out.1.1, ?_⟩
        rcases H5.out.1.2 with h1 | ⟨g, cap', cur, h1, h2, h3⟩
        · exact .inl h1
        · exact .inr ⟨g, cap', cur, h1, by have := H4.out.2.1.size; omega, h3⟩
end Go.Proofs.YtmldgfplnacecaaDoor

namespace Go.Proofs.YtmldgfplnacecaaDoor
open Go.Lib

/-- The text of a set. -/
def txt : List Int → List UInt8
  | [] => []
  | p :: r => itoa p ++ 44 :: txt r
theorem txt_append (a b : List Int) : txt (a ++ b) = txt a ++ txt b := by
  induction a with
  | nil => rfl
  | cons p r ih => simp [txt, ih]
theorem txt_take {xs : List Int} {i : Nat} {x : Int} (h : xs[i]? = some x) : txt (xs.take (i + 1)) = txt (xs.take i) ++ itoa x ++ [44] := by
  rw [List.take_add_one, h, Option.toList_some, txt_append]
  simp [txt]
def decB (l : List UInt8) : Nat := l.foldl (fun a d => a * 10 + (d.toNat - 48)) 0
theorem digits_ok : ∀ u, ∀ d ∈ decDigits u, 48 ≤ d.toNat ∧ d.toNat ≤ 57 := by
  intro u
  induction u using Nat.strongRecOn with
  | ind u ih =>
    rw [decDigits]
    split
    · intro d hd
      simp only [List.mem_singleton] at hd
      subst hd
      rw [UInt8.toNat_ofNat']; omega
    · intro d hd
      rcases List.mem_append.1 hd with hd | hd
      · exact ih _ (by omega) d hd
      · simp only [List.mem_singleton] at hd
        subst hd
        rw [UInt8.toNat_ofNat']; omega
theorem dec_digits : ∀ u, decB (decDigits u) = u := by
  intro u
  induction u using Nat.strongRecOn with
  | ind u ih =>
    rw [decDigits]
    split
    · simp only [decB, List.foldl_cons, List.foldl_nil]
      rw [UInt8.toNat_ofNat']; omega
    · have := ih (u / 10) (by omega)
      unfold decB at *
      rw [List.foldl_append, this]
      simp only [List.foldl_cons, List.foldl_nil]
      rw [UInt8.toNat_ofNat']; omega
theorem digits_len : ∀ u, u < 10000 → (decDigits u).length ≤ 4 := by
  intro u hu
  rw [decDigits]
  split
  · simp
  · rw [decDigits]
    split
    · simp
    · rw [decDigits]
      split
      · simp
      · rw [decDigits, dif_pos (by omega)]; simp
theorem cut44 {a b r s : List UInt8} (ha : ∀ d ∈ a, d ≠ 44) (hb : ∀ d ∈ b, d ≠ 44) (h : a ++ 44 :: r = b ++ 44 :: s) : a = b ∧ r = s := by
  induction a generalizing b with
  | nil =>
    cases b with
    | nil => simp at h; exact ⟨rfl, h⟩
    | cons y t => simp at h; exact absurd h.1.symm (hb y (by simp))
  | cons x t ih =>
    cases b with
    | nil => simp at h; exact absurd h.1 (ha x (by simp))
    | cons y u =>
      simp at h
      obtain ⟨h1, h2⟩ := ih (fun d hd => ha d (by simp [hd])) (fun d hd => hb d (by simp [hd])) h.2
      exact ⟨by rw [h.1, h1], h2⟩
theorem itoa_pos {p : Int} (h : 0 ≤ p) : itoa p = decDigits p.toNat := by unfold itoa; rw [if_neg (by omega)]
theorem itoa_no44 {p : Int} (h : 0 ≤ p) : ∀ d ∈ itoa p, d ≠ 44 := by
  rw [itoa_pos h]
  intro d hd e
  have := digits_ok _ d hd
  subst e
  simp at this
theorem itoa_inj {p q : Int} (hp : 0 ≤ p) (hq : 0 ≤ q) (h : itoa p = itoa q) : p = q := by
  rw [itoa_pos hp, itoa_pos hq] at h
  have := congrArg decB h
  rw [dec_digits, dec_digits] at this
  omega
theorem txt_inj : ∀ x y : List Int, (∀ p ∈ x, 0 ≤ p) → (∀ p ∈ y, 0 ≤ p) → txt x = txt y → x = y
  | [], [], _, _, _ => rfl
  | [], q :: s, _, _, h => by simp [txt] at h
  | p :: r, [], _, _, h => by simp [txt] at h
  | p :: r, q :: s, hx, hy, h => by
    unfold txt at h
    obtain ⟨h1, h2⟩ := cut44 (itoa_no44 (hx p (by simp))) (itoa_no44 (hy q (by simp))) h
    rw [itoa_inj (hx p (by simp)) (hy q (by simp)) h1, txt_inj r s (fun a ha => hx a (by simp [ha])) (fun a ha => hy a (by simp [ha])) h2]

/-- Where a set leads by a symbol. -/
def nxt (se : Bool) (s : St) (x : List Int) (m : Nat) : List Int := posI (stepM se s x m)
theorem posI_nn {m : Nat} : ∀ p ∈ posI m, 0 ≤ p ∧ p < 1024 := by
  intro p hp
  unfold posI posL at hp
  obtain ⟨n, hn, rfl⟩ := List.mem_map.1 hp
  have := List.mem_range.1 (List.mem_filter.1 hn).1
  omega
theorem nxt_nn {se : Bool} {s : St} {x : List Int} {m : Nat} : ∀ p ∈ nxt se s x m, 0 ≤ p ∧ p < 1024 := posI_nn
attribute [irreducible] nxt
/-- Sets in the order in which they are found. -/
structure Sv (se : Bool) (s : St) (S : List (List Int)) : Prop where
  nd : S.Nodup
  z : S[0]? = some [0]
  j : ∀ j y, 0 < j → S[j]? = some y → ∃ i, i < j ∧ ∃ x, S[i]? = some x ∧ ∃ m, m < 37 ∧ y = nxt se s x m
  o : ∀ j y, 0 < j → S[j]? = some y → ∃ i m x, i < j ∧ m < 37 ∧ S[i]? = some x ∧ y = nxt se s x m ∧ ∀ i' m' x', (i' < i ∨ i' = i ∧ m' < m) → m' < 37 → S[i']? = some x' → nxt se s x' m' ∈ S.take j
theorem Sv.nn {se : Bool} {s : St} {S : List (List Int)} (h : Sv se s S) {i : Nat} {x : List Int} (hx : S[i]? = some x) : ∀ p ∈ x, 0 ≤ p ∧ p < 1024 := by
  rcases Nat.eq_zero_or_pos i with rfl | h0
  · rw [h.z] at hx
    injection hx with hx
    subst hx
    intro p hp; simp at hp; omega
  · obtain ⟨_, _, y, _, m, _, he⟩ := h.j i x h0 hx
    intro p hp
    rw [he] at hp
    exact nxt_nn p hp
theorem Sv.pos {se : Bool} {s : St} {S : List (List Int)} (h : Sv se s S) : 0 < S.length := by
  have := (List.getElem?_eq_some_iff.1 h.z).1
  omega
theorem Sv.one (se : Bool) (s : St) : Sv se s [[0]] :=
  ⟨by simp, rfl, fun j y hj hy => by
    have := (List.getElem?_eq_some_iff.1 hy).1
    simp at this; omega, fun j y hj hy => by
    have := (List.getElem?_eq_some_iff.1 hy).1
    simp at this; omega⟩
theorem Sv.snoc {se : Bool} {s : St} {S : List (List Int)} (h : Sv se s S) {i m : Nat} {x : List Int} (hx : S[i]? = some x) (hm : m < 37) (hn : nxt se s x m ∉ S) (hE : ∀ i' m' x', (i' < i ∨ i' = i ∧ m' < m) → m' < 37 → S[i']? = some x' → nxt se s x' m' ∈ S) : Sv se s (S ++ [nxt se s x m]) := by
  have hi := (List.getElem?_eq_some_iff.1 hx).1
  refine ⟨?_, ?_, ?_, ?_⟩
  · rw [List.nodup_append]
    exact ⟨h.nd, by simp, fun a ha b hb => by simp at hb; subst hb; intro e; subst e; exact hn ha⟩
  · rw [List.getElem?_append_left h.pos]; exact h.z
  · intro j y hj hy
    rcases Nat.lt_or_ge j S.length with hl | hl
    · rw [List.getElem?_append_left hl] at hy
      obtain ⟨i', hi', x', hx', m', hm', e⟩ := h.j j y hj hy
      exact ⟨i', hi', x', by rw [List.getElem?_append_left (by omega)]; exact hx', m', hm', e⟩
    · have hl2 := (List.getElem?_eq_some_iff.1 hy).1
      simp at hl2
      obtain rfl : j = S.length := by omega
      rw [List.getElem?_append_right (Nat.le_refl _)] at hy
      simp at hy
      exact ⟨i, hi, x, by rw [List.getElem?_append_left hi]; exact hx, m, hm, hy.symm⟩
  · intro j y hj hy
    rcases Nat.lt_or_ge j S.length with hl | hl
    · rw [List.getElem?_append_left hl] at hy
      obtain ⟨i', m', x', hi', hm', hx', e, hq⟩ := h.o j y hj hy
      refine ⟨i', m', x', hi', hm', by rw [List.getElem?_append_left (by omega)]; exact hx', e, fun i2 m2 x2 hh h37 h2 => ?_⟩
      rw [List.take_append_of_le_length (by omega)]
      rw [List.getElem?_append_left (by omega)] at h2
      exact hq i2 m2 x2 hh h37 h2
    · have hl2 := (List.getElem?_eq_some_iff.1 hy).1
      simp at hl2
      obtain rfl : j = S.length := by omega
      rw [List.getElem?_append_right (Nat.le_refl _)] at hy
      simp at hy
      refine ⟨i, m, x, hi, hm, by rw [List.getElem?_append_left hi]; exact hx, hy.symm, fun i2 m2 x2 hh h37 h2 => ?_⟩
      rw [List.take_append_of_le_length (Nat.le_refl _), List.take_length]
      rw [List.getElem?_append_left (by omega)] at h2
      exact hE i2 m2 x2 hh h37 h2
/-- What has been found stays. -/
def Ext (S S' : List (List Int)) : Prop := ∃ t, S' = S ++ t
theorem Ext.refl (S : List (List Int)) : Ext S S := ⟨[], by simp⟩
theorem Ext.trans {a b c : List (List Int)} (h : Ext a b) (k : Ext b c) : Ext a c := by
  obtain ⟨t, rfl⟩ := h; obtain ⟨u, rfl⟩ := k; exact ⟨t ++ u, by simp⟩
theorem Ext.get {S S' : List (List Int)} (h : Ext S S') {i : Nat} {x : List Int} (hx : S[i]? = some x) : S'[i]? = some x := by
  obtain ⟨t, rfl⟩ := h
  rw [List.getElem?_append_left (List.getElem?_eq_some_iff.1 hx).1]; exact hx
theorem Ext.len {S S' : List (List Int)} (h : Ext S S') : S.length ≤ S'.length := by obtain ⟨t, rfl⟩ := h; simp
/-- A row, as far as it goes. -/
def RowOk (se : Bool) (s : St) (S : List (List Int)) (x : List Int) (r : List Int) : Prop := ∀ m v, r[m]? = some v → ∃ j : Nat, v = (j : Int) ∧ S[j]? = some (nxt se s x m)
theorem RowOk.ext {se : Bool} {s : St} {S S' : List (List Int)} {x r : List Int} (h : RowOk se s S x r) (e : Ext S S') : RowOk se s S' x r := fun m v hv => by
  obtain ⟨j, h1, h2⟩ := h m v hv
  exact ⟨j, h1, e.get h2⟩
theorem RowOk.snoc {se : Bool} {s : St} {S : List (List Int)} {x r : List Int} (h : RowOk se s S x r) {j : Nat} (hj : S[j]? = some (nxt se s x r.length)) : RowOk se s S x (r ++ [(j : Int)]) := fun m v hv => by
  rcases Nat.lt_or_ge m r.length with hl | hl
  · rw [List.getElem?_append_left hl] at hv; exact h m v hv
  · have hl2 := (List.getElem?_eq_some_iff.1 hv).1
    simp at hl2
    obtain rfl : m = r.length := by omega
    simp at hv
    exact ⟨j, hv.symm, hj⟩
/-- The rows of the first states. -/
structure Bf (se : Bool) (s : St) (S : List (List Int)) (R : List (List Int)) (T : List Nat) : Prop where
  sv : Sv se s S
  tl : T.length = R.length
  le : R.length ≤ S.length
  r : ∀ (i : Nat) (r : List Int), R[i]? = some r → r.length = 37 ∧ ∃ x, S[i]? = some x ∧ RowOk se s S x r
  t : ∀ (i : Nat) (t : Nat), T[i]? = some t → ∃ x, S[i]? = some x ∧ t = tellsU s x
theorem Bf.begin (se : Bool) (s : St) : Bf se s [[0]] [] [] := ⟨Sv.one se s, rfl, by simp, fun i r h => by simp at h, fun i t h => by simp at h⟩
theorem Bf.snoc {se : Bool} {s : St} {S S' R : List (List Int)} {T : List Nat} (h : Bf se s S R T) (e : Ext S S') (hs : Sv se s S') {x r : List Int} (hx : S[R.length]? = some x) (hr : r.length = 37) (ho : RowOk se s S' x r) :
    Bf se s S' (R ++ [r]) (T ++ [tellsU s x]) := by
  have hk := (List.getElem?_eq_some_iff.1 hx).1
  refine ⟨hs, by simp [h.tl], by have := e.len; simp; omega, ?_, ?_⟩
  · intro i q hq
    rcases Nat.lt_or_ge i R.length with hl | hl
    · rw [List.getElem?_append_left hl] at hq
      obtain ⟨h1, y, h2, h3⟩ := h.r i q hq
      exact ⟨h1, y, e.get h2, h3.ext e⟩
    · have hl2 := (List.getElem?_eq_some_iff.1 hq).1
      simp at hl2
      obtain rfl : i = R.length := by omega
      simp at hq
      subst hq
      exact ⟨hr, x, e.get hx, ho⟩
  · intro i q hq
    rcases Nat.lt_or_ge i T.length with hl | hl
    · rw [List.getElem?_append_left hl] at hq
      obtain ⟨y, h2, h3⟩ := h.t i q hq
      exact ⟨y, e.get h2, h3⟩
    · have hl2 := (List.getElem?_eq_some_iff.1 hq).1
      simp at hl2
      obtain rfl : i = T.length := by omega
      simp at hq
      exact ⟨x, by rw [h.tl]; exact e.get hx, hq.symm⟩
end Go.Proofs.YtmldgfplnacecaaDoor

namespace Go.Proofs
open Go.Shelf
def Tryd.lays129_ren : Go.Shelf.Ren := ⟨fun | 129 => 114 | n => n, fun | 53 => 37 | 3 => 3 | 4 => 4 | 46 => 146 | 5 => 5 | 9 => 9 | n => n, fun | n => n⟩
theorem Tryd.lays129 : Go.Proofs.Lays.n129 Tryd.prog Tryd.lays129_ren := {
  mixed := by kernel_rfl
  f129 := Tryd.func114.trans (congrArg some (by kernel_rfl))
  t3 := Tryd.underlying3
  a3 := Tryd.isAgg3
  z3 := Tryd.sizeOf3
  v3 := Tryd.zeroValue3
  t4 := Tryd.underlying4
  a4 := Tryd.isAgg4
  z4 := Tryd.sizeOf4
  v4 := Tryd.zeroValue4
  t5 := Tryd.underlying5
  a5 := Tryd.isAgg5
  z5 := Tryd.sizeOf5
  v5 := Tryd.zeroValue5
  t9 := Tryd.underlying9
  a9 := Tryd.isAgg9
  z9 := Tryd.sizeOf9
  v9 := Tryd.zeroValue9
  t46 := Tryd.underlying146
  a46 := Tryd.isAgg146
  z46 := Tryd.sizeOf146
  v46 := Tryd.zeroValue146
  t53 := Tryd.underlying37
  a53 := Tryd.isAgg37
  z53 := Tryd.sizeOf37
  v53 := Tryd.zeroValue37 }
/-- bits.Len64: "Len64 returns the minimum number of bits required to represent x; the result is 0 for x == 0.": IT RETURNS 'Lib.bitLen x'; the world is as it was. ('h0', 'h1': x is a uint64.) (LAID: no walk: one application.) -/
theorem Tryd.bits_Len64 (x : Int) (w : World) (h0 : 0 ≤ x) (h1 : x ≤ 18446744073709551615) :
    Calls Tryd.prog 114 #[.int .u64 x] w fun e w' => e = .returned (.int .i64 (Lib.bitLen x.toNat)) ∧ w' = w := Any.bits_Len64 Tryd.lays129 x w h0 h1
def Tryd.lays317_ren : Go.Shelf.Ren := ⟨fun | 317 => 113 | n => n, fun | 3 => 3 | 46 => 146 | n => n, fun | n => n⟩
theorem Tryd.lays317 : Go.Proofs.Lays.n317 Tryd.prog Tryd.lays317_ren := {
  mixed := by kernel_rfl
  f317 := Tryd.func113.trans (congrArg some (by kernel_rfl))
  t3 := Tryd.underlying3
  a3 := Tryd.isAgg3
  z3 := Tryd.sizeOf3
  v3 := Tryd.zeroValue3
  t46 := Tryd.underlying146
  a46 := Tryd.isAgg146
  z46 := Tryd.sizeOf146
  v46 := Tryd.zeroValue146 }
open Go.Lib in
/-- internal/strconv.log10Pow2: "log10Pow2(x) returns ⌊log₁₀ 2**x⌋ = ⌊x * log₁₀ 2⌋.": '(x * 78913) >> 18', at an x up to 64 (a length in bits). The world is as it was. (LAID: no walk: one application.) -/
theorem Tryd.internal_strconv_log10Pow2 (x : Nat) (h : x ≤ 64) (w : World) :
    Calls Tryd.prog 113 #[.int .i64 x] w fun e w' => e = .returned (.int .i64 (Lib.l10 x)) ∧ w' = w := Any.internal_strconv_log10Pow2 Tryd.lays317 x h w
def Tryd.lays318_ren : Go.Shelf.Ren := ⟨fun | 318 => 115 | n => n, fun | 3 => 3 | 4 => 4 | n => n, fun | n => n⟩
theorem Tryd.lays318 : Go.Proofs.Lays.n318 Tryd.prog Tryd.lays318_ren := {
  mixed := by kernel_rfl
  f318 := Tryd.func115.trans (congrArg some (by kernel_rfl))
  t3 := Tryd.underlying3
  a3 := Tryd.isAgg3
  z3 := Tryd.sizeOf3
  v3 := Tryd.zeroValue3
  t4 := Tryd.underlying4
  a4 := Tryd.isAgg4
  z4 := Tryd.sizeOf4
  v4 := Tryd.zeroValue4 }
open Go.Lib in
/-- internal/strconv.bool2: "bool2 converts b to an integer: 1 for true, 0 for false." The world is as it was. (LAID: no walk: one application.) -/
theorem Tryd.internal_strconv_bool2_int (b : Bool) (w : World) :
    Calls Tryd.prog 115 #[.bool b] w fun e w' => e = .returned (.int .i64 (if b then 1 else 0)) ∧ w' = w := Any.internal_strconv_bool2_int Tryd.lays318 b w
def Tryd.lays283_ren : Go.Shelf.Ren := ⟨fun | 283 => 109 | n => n, fun | 3 => 3 | 9 => 9 | 4 => 4 | n => n, fun | n => n⟩
theorem Tryd.lays283 : Go.Proofs.Lays.n283 Tryd.prog Tryd.lays283_ren := {
  mixed := by kernel_rfl
  f283 := Tryd.func109.trans (congrArg some (by kernel_rfl))
  t3 := Tryd.underlying3
  a3 := Tryd.isAgg3
  z3 := Tryd.sizeOf3
  v3 := Tryd.zeroValue3
  t4 := Tryd.underlying4
  a4 := Tryd.isAgg4
  z4 := Tryd.sizeOf4
  v4 := Tryd.zeroValue4
  t9 := Tryd.underlying9
  a9 := Tryd.isAgg9
  z9 := Tryd.sizeOf9
  v9 := Tryd.zeroValue9 }
open Go.Lib in
/-- internal/strconv.small: "small returns the string for an i with 0 <= i < nSmalls.": i's decimal numeral. The world is as it was. (LAID: no walk: one application.) -/
theorem Tryd.internal_strconv_small (i : Nat) (h : i < 100) (w : World) :
    Calls Tryd.prog 109 #[.int .i64 i] w fun e w' => e = .returned (.string ⟨(Lib.decDigits i).toArray⟩) ∧ w' = w := Any.internal_strconv_small Tryd.lays283 i h w
def Tryd.laysM284_ren : Go.Shelf.Ren := ⟨fun | 284 => 110 | 129 => 114 | 317 => 113 | 318 => 115 | n => n, fun | 53 => 37 | 3 => 3 | 212 => 167 | 0 => 0 | 4 => 4 | 46 => 146 | 5 => 5 | 9 => 9 | n => n, fun | 17 => 1 | n => n⟩
theorem Tryd.laysM284 : Go.Proofs.LaysM.n284 Tryd.prog Tryd.laysM284_ren := {
  mixed := by kernel_rfl
  f129 := Tryd.func114.trans (congrArg some (by kernel_rfl))
  f284 := Tryd.func110.trans (congrArg some (by kernel_rfl))
  f317 := Tryd.func113.trans (congrArg some (by kernel_rfl))
  f318 := Tryd.func115.trans (congrArg some (by kernel_rfl))
  t0 := Tryd.underlying0
  a0 := Tryd.isAgg0
  z0 := Tryd.sizeOf0
  v0 := Tryd.zeroValue0
  t3 := Tryd.underlying3
  a3 := Tryd.isAgg3
  z3 := Tryd.sizeOf3
  v3 := Tryd.zeroValue3
  t4 := Tryd.underlying4
  a4 := Tryd.isAgg4
  z4 := Tryd.sizeOf4
  v4 := Tryd.zeroValue4
  t5 := Tryd.underlying5
  a5 := Tryd.isAgg5
  z5 := Tryd.sizeOf5
  v5 := Tryd.zeroValue5
  t9 := Tryd.underlying9
  a9 := Tryd.isAgg9
  z9 := Tryd.sizeOf9
  v9 := Tryd.zeroValue9
  t46 := Tryd.underlying146
  a46 := Tryd.isAgg146
  z46 := Tryd.sizeOf146
  v46 := Tryd.zeroValue146
  t53 := Tryd.underlying37
  a53 := Tryd.isAgg37
  z53 := Tryd.sizeOf37
  v53 := Tryd.zeroValue37
  t212 := Tryd.underlying167
  a212 := Tryd.isAgg167
  z212 := Tryd.sizeOf167
  v212 := Tryd.zeroValue167
  g17 := by kernel_rfl
  i0 := by kernel_rfl
  i3 := by kernel_rfl
  i4 := by kernel_rfl
  i5 := by kernel_rfl
  i9 := by kernel_rfl
  i46 := by kernel_rfl
  i53 := by kernel_rfl
  i212 := by kernel_rfl
  m17 := by kernel_rfl }
open Go.Lib in
/-- internal/strconv.numDigits, at a d that is not 0: THE NUMBER OF d's DECIMAL DIGITS. The world is as it was. (LAID: no walk: one application.) -/
theorem Tryd.internal_strconv_numDigits (u : Nat) (h1 : 1 ≤ u) (h2 : u < 18446744073709551616) (w : World) (htab : Lib.TabIs Tryd.prog w "internal/strconv.uint64pow10" .u64 Lib.pow10Tab) :
    Calls Tryd.prog 110 #[.int .u64 u] w fun e w' => e = .returned (.int .i64 (Lib.nDigits u)) ∧ w' = w := Any.internal_strconv_numDigits Tryd.laysM284 u h1 h2 w htab
def Tryd.lays285_ren : Go.Shelf.Ren := ⟨fun | 285 => 111 | n => n, fun | 37 => 149 | 53 => 37 | 3 => 3 | 4 => 4 | 51 => 168 | 9 => 9 | 5 => 5 | 0 => 0 | n => n, fun | n => n⟩
theorem Tryd.lays285 : Go.Proofs.Lays.n285 Tryd.prog Tryd.lays285_ren := {
  mixed := by kernel_rfl
  f285 := Tryd.func111.trans (congrArg some (by kernel_rfl))
  t0 := Tryd.underlying0
  a0 := Tryd.isAgg0
  z0 := Tryd.sizeOf0
  v0 := Tryd.zeroValue0
  t3 := Tryd.underlying3
  a3 := Tryd.isAgg3
  z3 := Tryd.sizeOf3
  v3 := Tryd.zeroValue3
  t4 := Tryd.underlying4
  a4 := Tryd.isAgg4
  z4 := Tryd.sizeOf4
  v4 := Tryd.zeroValue4
  t5 := Tryd.underlying5
  a5 := Tryd.isAgg5
  z5 := Tryd.sizeOf5
  v5 := Tryd.zeroValue5
  t9 := Tryd.underlying9
  a9 := Tryd.isAgg9
  z9 := Tryd.sizeOf9
  v9 := Tryd.zeroValue9
  t37 := Tryd.underlying149
  a37 := Tryd.isAgg149
  z37 := Tryd.sizeOf149
  v37 := Tryd.zeroValue149
  t51 := Tryd.underlying168
  a51 := Tryd.isAgg168
  z51 := Tryd.sizeOf168
  v51 := Tryd.zeroValue168
  t53 := Tryd.underlying37
  a53 := Tryd.isAgg37
  z53 := Tryd.sizeOf37
  v53 := Tryd.zeroValue37 }
open Go.RowKit Go.Sort Go.Lib in
/-- internal/strconv.formatBase10: "formatBase10 formats the decimal representation of u into a. The caller is responsible for ensuring that a is big enough to hold u. If a is too big, leading zeros will be filled in as needed.": THE ROW HOLDS u's DIGITS ('FmtInv .. 0 ..': every place t holds 'dg u (len - 1 - t)'); all else is as it was but for the count of draws. (LAID: no walk: one application.) -/
theorem Tryd.internal_strconv_formatBase10 (blk off cap : Nat) (u : Nat) (d : Array UInt8) (w : World) (hH : Holds (fun (b : UInt8) => Value.int .u8 (b.toNat : Int)) w blk off d) (hu : u < 10 ^ d.size) (hu64 : u < 18446744073709551616) (hsz : d.size < 4611686018427387904) :
    Calls Tryd.prog 111 #[.slice (some ⟨blk, off, none⟩) d.size cap, .int .u64 u] w fun e w' =>
      e = .returned (.tuple #[]) ∧ ∃ (n v' : Nat) (dk : Array UInt8), w' = (putRow (fun (b : UInt8) => Value.int .u8 (b.toNat : Int)) w blk off dk).drewN n ∧ FmtInv d.size u 0 v' dk := Any.internal_strconv_formatBase10 Tryd.lays285 blk off cap u d w hH hu hu64 hsz
def Tryd.laysM288_ren : Go.Shelf.Ren := ⟨fun | 288 => 105 | 283 => 109 | 284 => 110 | 285 => 111 | 286 => 112 | 129 => 114 | 317 => 113 | 318 => 115 | 319 => 116 | 320 => 117 | 337 => 118 | 338 => 86 | n => n, fun | 37 => 149 | 53 => 37 | 3 => 3 | 4 => 4 | 9 => 9 | 171 => 161 | 0 => 0 | 173 => 163 | 212 => 167 | 51 => 168 | 5 => 5 | 20 => 20 | 213 => 169 | 46 => 146 | 232 => 172 | 233 => 145 | n => n, fun | 17 => 1 | 18 => 2 | 19 => 0 | n => n⟩
theorem Tryd.laysM288 : Go.Proofs.LaysM.n288 Tryd.prog Tryd.laysM288_ren := {
  mixed := by kernel_rfl
  f129 := Tryd.func114.trans (congrArg some (by kernel_rfl))
  f283 := Tryd.func109.trans (congrArg some (by kernel_rfl))
  f284 := Tryd.func110.trans (congrArg some (by kernel_rfl))
  f285 := Tryd.func111.trans (congrArg some (by kernel_rfl))
  f286 := Tryd.func112.trans (congrArg some (by kernel_rfl))
  f288 := Tryd.func105.trans (congrArg some (by kernel_rfl))
  f317 := Tryd.func113.trans (congrArg some (by kernel_rfl))
  f318 := Tryd.func115.trans (congrArg some (by kernel_rfl))
  f319 := Tryd.func116.trans (congrArg some (by kernel_rfl))
  f320 := Tryd.func117.trans (congrArg some (by kernel_rfl))
  f337 := Tryd.func118.trans (congrArg some (by kernel_rfl))
  f338 := Tryd.func86.trans (congrArg some (by kernel_rfl))
  t0 := Tryd.underlying0
  a0 := Tryd.isAgg0
  z0 := Tryd.sizeOf0
  v0 := Tryd.zeroValue0
  t3 := Tryd.underlying3
  a3 := Tryd.isAgg3
  z3 := Tryd.sizeOf3
  v3 := Tryd.zeroValue3
  t4 := Tryd.underlying4
  a4 := Tryd.isAgg4
  z4 := Tryd.sizeOf4
  v4 := Tryd.zeroValue4
  t5 := Tryd.underlying5
  a5 := Tryd.isAgg5
  z5 := Tryd.sizeOf5
  v5 := Tryd.zeroValue5
  t9 := Tryd.underlying9
  a9 := Tryd.isAgg9
  z9 := Tryd.sizeOf9
  v9 := Tryd.zeroValue9
  t20 := Tryd.underlying20
  a20 := Tryd.isAgg20
  z20 := Tryd.sizeOf20
  v20 := Tryd.zeroValue20
  t37 := Tryd.underlying149
  a37 := Tryd.isAgg149
  z37 := Tryd.sizeOf149
  v37 := Tryd.zeroValue149
  t46 := Tryd.underlying146
  a46 := Tryd.isAgg146
  z46 := Tryd.sizeOf146
  v46 := Tryd.zeroValue146
  t51 := Tryd.underlying168
  a51 := Tryd.isAgg168
  z51 := Tryd.sizeOf168
  v51 := Tryd.zeroValue168
  t53 := Tryd.underlying37
  a53 := Tryd.isAgg37
  z53 := Tryd.sizeOf37
  v53 := Tryd.zeroValue37
  t171 := Tryd.underlying161
  a171 := Tryd.isAgg161
  z171 := Tryd.sizeOf161
  v171 := Tryd.zeroValue161
  t173 := Tryd.underlying163
  a173 := Tryd.isAgg163
  z173 := Tryd.sizeOf163
  v173 := Tryd.zeroValue163
  t212 := Tryd.underlying167
  a212 := Tryd.isAgg167
  z212 := Tryd.sizeOf167
  v212 := Tryd.zeroValue167
  t213 := Tryd.underlying169
  a213 := Tryd.isAgg169
  z213 := Tryd.sizeOf169
  t232 := Tryd.underlying172
  a232 := Tryd.isAgg172
  z232 := Tryd.sizeOf172
  v232 := Tryd.zeroValue172
  t233 := Tryd.underlying145
  a233 := Tryd.isAgg145
  z233 := Tryd.sizeOf145
  v233 := Tryd.zeroValue145
  g17 := by kernel_rfl
  g18 := by kernel_rfl
  g19 := by kernel_rfl
  i0 := by kernel_rfl
  i3 := by kernel_rfl
  i4 := by kernel_rfl
  i5 := by kernel_rfl
  i9 := by kernel_rfl
  i20 := by kernel_rfl
  i37 := by kernel_rfl
  i46 := by kernel_rfl
  i51 := by kernel_rfl
  i53 := by kernel_rfl
  i171 := by kernel_rfl
  i173 := by kernel_rfl
  i212 := by kernel_rfl
  i232 := by kernel_rfl
  i233 := by kernel_rfl
  m17 := by kernel_rfl
  m18 := by kernel_rfl
  m19 := by kernel_rfl }
open Go.RowKit Go.Sort Go.Lib in
/-- internal/strconv.AppendUint(dst, i, 10), i BELOW 100: WHAT COMES BACK OWNS dst's CELLS AND, BEHIND THEM, i's DECIMAL NUMERAL. No table is read. Below the call's own blocks nothing has turned. (LAID: no walk: one application.) -/
theorem Tryd.internal_strconv_AppendUint_10_small (B n u : Nat) (hu : u < 100) (sv : Value) (xs : List Value) (w : World) (hown : w.ownsRow B 5 1 sv n xs) (hBw : B ≤ w.heap.size) (hlim : n + 20 ≤ 140737488355328) :
    Calls Tryd.prog 105 #[sv, .int .u64 u, .int .i64 10] w fun e w' => ∃ v', e = .returned v' ∧ w'.ownsRow B 5 1 v' (n + (Lib.decDigits u).length) (xs ++ Lib.byteCells (Lib.decDigits u)) ∧ Below B w w' ∧ Lib.OthersKept 5 none w w' := Any.internal_strconv_AppendUint_10_small Tryd.laysM288 B n u hu sv xs w hown hBw hlim
open Go.RowKit Go.Sort Go.Lib in
/-- internal/strconv.AppendUint(dst, i, 10), i FROM 100 ON: likewise; the digits are laid in an array of the call's own and appended. (LAID: no walk: one application.) -/
theorem Tryd.internal_strconv_AppendUint_10_big (B n u : Nat) (hu : 100 ≤ u) (hu64 : u < 18446744073709551616) (sv : Value) (xs : List Value) (w : World) (hown : w.ownsRow B 5 1 sv n xs) (hBw : B ≤ w.heap.size) (hlim : n + 20 ≤ 140737488355328) (htab : Lib.TabIs Tryd.prog w "internal/strconv.uint64pow10" .u64 Lib.pow10Tab) :
    Calls Tryd.prog 105 #[sv, .int .u64 u, .int .i64 10] w fun e w' => ∃ v', e = .returned v' ∧ w'.ownsRow B 5 1 v' (n + (Lib.decDigits u).length) (xs ++ Lib.byteCells (Lib.decDigits u)) ∧ Below B w w' ∧ Lib.OthersKept 5 none w w' := Any.internal_strconv_AppendUint_10_big Tryd.laysM288 B n u hu hu64 sv xs w hown hBw hlim htab
open Go.RowKit Go.Sort Go.Lib in
/-- internal/strconv.AppendUint(dst, i, 10): the two contracts as one. NO WALK. (LAID: no walk: one application.) -/
theorem Tryd.internal_strconv_AppendUint_10 (B n u : Nat) (hu64 : u < 18446744073709551616) (sv : Value) (xs : List Value) (w : World) (hown : w.ownsRow B 5 1 sv n xs) (hBw : B ≤ w.heap.size) (hlim : n + 20 ≤ 140737488355328) (htab : Lib.TabIs Tryd.prog w "internal/strconv.uint64pow10" .u64 Lib.pow10Tab) :
    Calls Tryd.prog 105 #[sv, .int .u64 u, .int .i64 10] w fun e w' => ∃ v', e = .returned v' ∧ w'.ownsRow B 5 1 v' (n + (Lib.decDigits u).length) (xs ++ Lib.byteCells (Lib.decDigits u)) ∧ Below B w w' ∧ Lib.OthersKept 5 none w w' := Any.internal_strconv_AppendUint_10 Tryd.laysM288 B n u hu64 sv xs w hown hBw hlim htab
def Tryd.laysM249_ren : Go.Shelf.Ren := ⟨fun | 249 => 102 | 288 => 105 | 283 => 109 | 284 => 110 | 285 => 111 | 286 => 112 | 129 => 114 | 317 => 113 | 318 => 115 | 319 => 116 | 320 => 117 | 337 => 118 | 338 => 86 | n => n, fun | 37 => 149 | 2 => 2 | 3 => 3 | 53 => 37 | 4 => 4 | 9 => 9 | 171 => 161 | 0 => 0 | 173 => 163 | 212 => 167 | 51 => 168 | 5 => 5 | 20 => 20 | 213 => 169 | 46 => 146 | 232 => 172 | 233 => 145 | n => n, fun | 17 => 1 | 18 => 2 | 19 => 0 | n => n⟩
theorem Tryd.laysM249 : Go.Proofs.LaysM.n249 Tryd.prog Tryd.laysM249_ren := {
  mixed := by kernel_rfl
  f129 := Tryd.func114.trans (congrArg some (by kernel_rfl))
  f249 := Tryd.func102.trans (congrArg some (by kernel_rfl))
  f283 := Tryd.func109.trans (congrArg some (by kernel_rfl))
  f284 := Tryd.func110.trans (congrArg some (by kernel_rfl))
  f285 := Tryd.func111.trans (congrArg some (by kernel_rfl))
  f286 := Tryd.func112.trans (congrArg some (by kernel_rfl))
  f288 := Tryd.func105.trans (congrArg some (by kernel_rfl))
  f317 := Tryd.func113.trans (congrArg some (by kernel_rfl))
  f318 := Tryd.func115.trans (congrArg some (by kernel_rfl))
  f319 := Tryd.func116.trans (congrArg some (by kernel_rfl))
  f320 := Tryd.func117.trans (congrArg some (by kernel_rfl))
  f337 := Tryd.func118.trans (congrArg some (by kernel_rfl))
  f338 := Tryd.func86.trans (congrArg some (by kernel_rfl))
  t0 := Tryd.underlying0
  a0 := Tryd.isAgg0
  z0 := Tryd.sizeOf0
  v0 := Tryd.zeroValue0
  t2 := Tryd.underlying2
  a2 := Tryd.isAgg2
  z2 := Tryd.sizeOf2
  v2 := Tryd.zeroValue2
  t3 := Tryd.underlying3
  a3 := Tryd.isAgg3
  z3 := Tryd.sizeOf3
  v3 := Tryd.zeroValue3
  t4 := Tryd.underlying4
  a4 := Tryd.isAgg4
  z4 := Tryd.sizeOf4
  v4 := Tryd.zeroValue4
  t5 := Tryd.underlying5
  a5 := Tryd.isAgg5
  z5 := Tryd.sizeOf5
  v5 := Tryd.zeroValue5
  t9 := Tryd.underlying9
  a9 := Tryd.isAgg9
  z9 := Tryd.sizeOf9
  v9 := Tryd.zeroValue9
  t20 := Tryd.underlying20
  a20 := Tryd.isAgg20
  z20 := Tryd.sizeOf20
  v20 := Tryd.zeroValue20
  t37 := Tryd.underlying149
  a37 := Tryd.isAgg149
  z37 := Tryd.sizeOf149
  v37 := Tryd.zeroValue149
  t46 := Tryd.underlying146
  a46 := Tryd.isAgg146
  z46 := Tryd.sizeOf146
  v46 := Tryd.zeroValue146
  t51 := Tryd.underlying168
  a51 := Tryd.isAgg168
  z51 := Tryd.sizeOf168
  v51 := Tryd.zeroValue168
  t53 := Tryd.underlying37
  a53 := Tryd.isAgg37
  z53 := Tryd.sizeOf37
  v53 := Tryd.zeroValue37
  t171 := Tryd.underlying161
  a171 := Tryd.isAgg161
  z171 := Tryd.sizeOf161
  v171 := Tryd.zeroValue161
  t173 := Tryd.underlying163
  a173 := Tryd.isAgg163
  z173 := Tryd.sizeOf163
  v173 := Tryd.zeroValue163
  t212 := Tryd.underlying167
  a212 := Tryd.isAgg167
  z212 := Tryd.sizeOf167
  v212 := Tryd.zeroValue167
  t213 := Tryd.underlying169
  a213 := Tryd.isAgg169
  z213 := Tryd.sizeOf169
  t232 := Tryd.underlying172
  a232 := Tryd.isAgg172
  z232 := Tryd.sizeOf172
  v232 := Tryd.zeroValue172
  t233 := Tryd.underlying145
  a233 := Tryd.isAgg145
  z233 := Tryd.sizeOf145
  v233 := Tryd.zeroValue145
  g17 := by kernel_rfl
  g18 := by kernel_rfl
  g19 := by kernel_rfl
  i0 := by kernel_rfl
  i2 := by kernel_rfl
  i3 := by kernel_rfl
  i4 := by kernel_rfl
  i5 := by kernel_rfl
  i9 := by kernel_rfl
  i20 := by kernel_rfl
  i37 := by kernel_rfl
  i46 := by kernel_rfl
  i51 := by kernel_rfl
  i53 := by kernel_rfl
  i171 := by kernel_rfl
  i173 := by kernel_rfl
  i212 := by kernel_rfl
  i232 := by kernel_rfl
  i233 := by kernel_rfl
  m17 := by kernel_rfl
  m18 := by kernel_rfl
  m19 := by kernel_rfl }
open Go.RowKit Go.Sort Go.Lib in
/-- internal/strconv.AppendInt: "AppendInt appends the string form of the integer i, as generated by FormatInt, to dst and returns the extended buffer.": AT BASE 10: WHAT COMES BACK OWNS dst's CELLS AND, BEHIND THEM, i's DECIMAL NUMERAL ('Lib.itoa i': at most 20 bytes), for every int64. Below the call's own blocks nothing has turned. (LAID: no walk: one application.) -/
theorem Tryd.internal_strconv_AppendInt_10 (B n : Nat) (i : Int) (h0 : -9223372036854775808 ≤ i) (h1 : i ≤ 9223372036854775807) (sv : Value) (xs : List Value) (w : World) (hown : w.ownsRow B 5 1 sv n xs) (hBw : B ≤ w.heap.size) (hlim : n + 21 ≤ 140737488355328) (htab : Lib.TabBelow Tryd.prog B w "internal/strconv.uint64pow10" .u64 Lib.pow10Tab) :
    Calls Tryd.prog 102 #[sv, .int .i64 i, .int .i64 10] w fun e w' => ∃ v', e = .returned v' ∧ w'.ownsRow B 5 1 v' (n + (Lib.itoa i).length) (xs ++ Lib.byteCells (Lib.itoa i)) ∧ Below B w w' ∧ Lib.OthersKept 5 none w w' := Any.internal_strconv_AppendInt_10 Tryd.laysM249 B n i h0 h1 sv xs w hown hBw hlim htab
def Tryd.laysM176_ren : Go.Shelf.Ren := ⟨fun | 176 => 99 | 249 => 102 | 288 => 105 | 283 => 109 | 284 => 110 | 285 => 111 | 286 => 112 | 129 => 114 | 317 => 113 | 318 => 115 | 319 => 116 | 320 => 117 | 337 => 118 | 338 => 86 | n => n, fun | 37 => 149 | 2 => 2 | 3 => 3 | 53 => 37 | 4 => 4 | 9 => 9 | 171 => 161 | 0 => 0 | 173 => 163 | 212 => 167 | 51 => 168 | 5 => 5 | 20 => 20 | 213 => 169 | 46 => 146 | 232 => 172 | 233 => 145 | n => n, fun | 17 => 1 | 18 => 2 | 19 => 0 | n => n⟩
theorem Tryd.laysM176 : Go.Proofs.LaysM.n176 Tryd.prog Tryd.laysM176_ren := {
  mixed := by kernel_rfl
  f129 := Tryd.func114.trans (congrArg some (by kernel_rfl))
  f176 := Tryd.func99.trans (congrArg some (by kernel_rfl))
  f249 := Tryd.func102.trans (congrArg some (by kernel_rfl))
  f283 := Tryd.func109.trans (congrArg some (by kernel_rfl))
  f284 := Tryd.func110.trans (congrArg some (by kernel_rfl))
  f285 := Tryd.func111.trans (congrArg some (by kernel_rfl))
  f286 := Tryd.func112.trans (congrArg some (by kernel_rfl))
  f288 := Tryd.func105.trans (congrArg some (by kernel_rfl))
  f317 := Tryd.func113.trans (congrArg some (by kernel_rfl))
  f318 := Tryd.func115.trans (congrArg some (by kernel_rfl))
  f319 := Tryd.func116.trans (congrArg some (by kernel_rfl))
  f320 := Tryd.func117.trans (congrArg some (by kernel_rfl))
  f337 := Tryd.func118.trans (congrArg some (by kernel_rfl))
  f338 := Tryd.func86.trans (congrArg some (by kernel_rfl))
  t0 := Tryd.underlying0
  a0 := Tryd.isAgg0
  z0 := Tryd.sizeOf0
  v0 := Tryd.zeroValue0
  t2 := Tryd.underlying2
  a2 := Tryd.isAgg2
  z2 := Tryd.sizeOf2
  v2 := Tryd.zeroValue2
  t3 := Tryd.underlying3
  a3 := Tryd.isAgg3
  z3 := Tryd.sizeOf3
  v3 := Tryd.zeroValue3
  t4 := Tryd.underlying4
  a4 := Tryd.isAgg4
  z4 := Tryd.sizeOf4
  v4 := Tryd.zeroValue4
  t5 := Tryd.underlying5
  a5 := Tryd.isAgg5
  z5 := Tryd.sizeOf5
  v5 := Tryd.zeroValue5
  t9 := Tryd.underlying9
  a9 := Tryd.isAgg9
  z9 := Tryd.sizeOf9
  v9 := Tryd.zeroValue9
  t20 := Tryd.underlying20
  a20 := Tryd.isAgg20
  z20 := Tryd.sizeOf20
  v20 := Tryd.zeroValue20
  t37 := Tryd.underlying149
  a37 := Tryd.isAgg149
  z37 := Tryd.sizeOf149
  v37 := Tryd.zeroValue149
  t46 := Tryd.underlying146
  a46 := Tryd.isAgg146
  z46 := Tryd.sizeOf146
  v46 := Tryd.zeroValue146
  t51 := Tryd.underlying168
  a51 := Tryd.isAgg168
  z51 := Tryd.sizeOf168
  v51 := Tryd.zeroValue168
  t53 := Tryd.underlying37
  a53 := Tryd.isAgg37
  z53 := Tryd.sizeOf37
  v53 := Tryd.zeroValue37
  t171 := Tryd.underlying161
  a171 := Tryd.isAgg161
  z171 := Tryd.sizeOf161
  v171 := Tryd.zeroValue161
  t173 := Tryd.underlying163
  a173 := Tryd.isAgg163
  z173 := Tryd.sizeOf163
  v173 := Tryd.zeroValue163
  t212 := Tryd.underlying167
  a212 := Tryd.isAgg167
  z212 := Tryd.sizeOf167
  v212 := Tryd.zeroValue167
  t213 := Tryd.underlying169
  a213 := Tryd.isAgg169
  z213 := Tryd.sizeOf169
  t232 := Tryd.underlying172
  a232 := Tryd.isAgg172
  z232 := Tryd.sizeOf172
  v232 := Tryd.zeroValue172
  t233 := Tryd.underlying145
  a233 := Tryd.isAgg145
  z233 := Tryd.sizeOf145
  v233 := Tryd.zeroValue145
  g17 := by kernel_rfl
  g18 := by kernel_rfl
  g19 := by kernel_rfl
  i0 := by kernel_rfl
  i2 := by kernel_rfl
  i3 := by kernel_rfl
  i4 := by kernel_rfl
  i5 := by kernel_rfl
  i9 := by kernel_rfl
  i20 := by kernel_rfl
  i37 := by kernel_rfl
  i46 := by kernel_rfl
  i51 := by kernel_rfl
  i53 := by kernel_rfl
  i171 := by kernel_rfl
  i173 := by kernel_rfl
  i212 := by kernel_rfl
  i232 := by kernel_rfl
  i233 := by kernel_rfl
  m17 := by kernel_rfl
  m18 := by kernel_rfl
  m19 := by kernel_rfl }
open Go.RowKit Go.Sort Go.Lib in
/-- strconv.AppendInt: "AppendInt appends the string form of the integer i, as generated by FormatInt, to dst and returns the extended buffer.": AT BASE 10: WHAT COMES BACK OWNS dst's CELLS AND, BEHIND THEM, i's DECIMAL NUMERAL ('Lib.itoa i': at most 20 bytes), for every int64. Below the call's own blocks nothing has turned. (LAID: no walk: one application.) -/
theorem Tryd.strconv_AppendInt_10 (B n : Nat) (i : Int) (h0 : -9223372036854775808 ≤ i) (h1 : i ≤ 9223372036854775807) (sv : Value) (xs : List Value) (w : World) (hown : w.ownsRow B 5 1 sv n xs) (hBw : B ≤ w.heap.size) (hlim : n + 21 ≤ 140737488355328) (htab : Lib.TabBelow Tryd.prog B w "internal/strconv.uint64pow10" .u64 Lib.pow10Tab) :
    Calls Tryd.prog 99 #[sv, .int .i64 i, .int .i64 10] w fun e w' => ∃ v', e = .returned v' ∧ w'.ownsRow B 5 1 v' (n + (Lib.itoa i).length) (xs ++ Lib.byteCells (Lib.itoa i)) ∧ Below B w w' ∧ Lib.OthersKept 5 none w w' := Any.strconv_AppendInt_10 Tryd.laysM176 B n i h0 h1 sv xs w hown hBw hlim htab
end Go.Proofs

namespace Go.Proofs.YtmldgfplnacecaaDoor
open Go.RowKit Go.Shelf Go.Lib

/-- The table of powers of ten. -/
def PW (w : World) : Prop := Lib.TabIs Tryd.prog w "internal/strconv.uint64pow10" .u64 Lib.pow10Tab
theorem gPow : Tryd.prog.globalNamed "internal/strconv.uint64pow10" = some 1 := by kernel_rfl
theorem PW.lt {w : World} (h : PW w) : 1 < w.heap.size := by
  unfold PW Lib.TabIs World.var? at h
  rw [gPow] at h
  simp only [Option.bind_some] at h
  rcases Nat.lt_or_ge 1 w.heap.size with h' | h'
  · exact h'
  · rw [Array.getElem?_eq_none h'] at h; simp at h
theorem PW.block {w w' : World} (h : PW w) (hb : w'.heap[1]? = w.heap[1]?) : PW w' := by
  unfold PW Lib.TabIs World.var? at *
  rw [gPow] at h ⊢
  simp only [Option.bind_some] at h ⊢
  rw [hb]; exact h
theorem PW.below {w w' : World} {B : Nat} (h : PW w) (hb : Below B w w') (hB : 1 < B) : PW w' := h.block (hb.block 1 hB)

theorem txt_len : ∀ xs : List Int, (∀ p ∈ xs, 0 ≤ p ∧ p < 1024) → (txt xs).length ≤ 5 * xs.length
  | [], _ => by simp [txt]
  | p :: r, h => by
    have h1 := txt_len r (fun q hq => h q (by simp [hq]))
    have h2 := h p (by simp)
    have h3 := digits_len p.toNat (by omega)
    rw [txt, List.length_append, itoa_pos h2.1]
    simp only [List.length_cons]
    omega
theorem add_none (ad : Addr) : ad.add 0 = ad := by
  unfold Addr.add
  simp
/-- One cell more at a row of the call's own. -/
theorem wpList_append_one {ops : Array Oper} {rest : List Oper} {o : Oper} {a : Act} {w : World} {Q : Exit → Act → World → Prop} (hgd : o.guard = none) (s x : Operand) (t : TypeId)
    (ho : o.op = .call { callee := .builtin .append, args := #[s, x], argTypes := #[t, t] }) (base : Nat) (e : TypeId) (i : TypeInfo) (z : Value) (bytes : Nat) (ht : Tryd.prog.underlying t = some (.slice e)) (hi : Tryd.prog.info? e = some i)
    (hz : i.zero = some z) (hsize : i.size = 1) (hby : i.bytes = bytes) (hb24 : bytes ≤ 24) (hzs : z.cells.size = 1) (v : Value) (n : Nat) (xs : List Value) (hs : a.eval s = v) (hown : w.ownsRow base e 1 v n xs) (ad : Addr) (u : Value)
    (hx : a.eval x = .slice (some ad) 1 1) (hu : w.cell? ad = some u) (h1 : u.oneCell' = true) (h63 : n ≤ 1000000) (hbase : base ≤ w.heap.size) (H : Nat) (hH : w.heap.size = H)
    (h : ∀ g cap w', w'.ownsRow base e 1 (.slice (some ⟨g, 0, none⟩) (n + 1) cap) (n + 1) (xs ++ [u]) → w.grownBy w' v.ownBlock → (v.ownBlock = some g ∨ g = H) → g < w'.heap.size →
      wpList Tryd.prog ops Q rest (a.put o.dst (.slice (some ⟨g, 0, none⟩) (n + 1) cap)) w') : wpList Tryd.prog ops Q (o :: rest) a w := by
  refine wpList_append_lies _ hgd s x t ho base e i z 1 bytes ht hi hz hsize hby hzs (by decide) v n xs hs hown ad 1 1 [u] hx rfl (fun j q hj => ?_) (fun q hq => by simp at hq; subst hq; exact h1) (by decide) (by unfold maxLen; omega) ?_ hbase H hH h
  · cases j with
    | zero => simp at hj; subst hj; rw [add_none ad]; exact hu
    | succ j => simp at hj
  · have : (n + 1) * bytes ≤ (n + 1) * 24 := Nat.mul_le_mul_left _ hb24
    omega
theorem below_grown' {w w' : World} {B e n : Nat} {v : Value} {xs : List Value} (hg : w.grownBy w' v.ownBlock) (ho : w.ownsRow B e 1 v n xs) (hB : B ≤ w.heap.size) : Below B w w' :=
  ⟨hg.os, hg.tape, hg.output, hg.size, fun k hk => hg.block k (by omega) (fun h => by have := (own_block_lt ho k h.symm).1; omega)⟩
theorem conv_nil (w : World) : (convert 149 9 (.slice none 0 0)).run Tryd.prog w = .ok (.string ⟨#[]⟩) w := by kernel_rfl
theorem conv_row {w : World} {B : Nat} {v : Value} {l : List UInt8} (h : w.ownsRow B 5 1 v l.length (Lib.byteCells l)) : (convert 149 9 v).run Tryd.prog w = .ok (.string ⟨l.toArray⟩) w := by
  rcases h.2 with ⟨h1, h2⟩ | ⟨g, cap, cur, h1, rest⟩
  · have : l = [] := List.eq_nil_of_length_eq_zero h2
    subst this
    rw [h1]
    exact conv_nil w
  · rw [h1]
    refine run_convert_bytes_back (P := Tryd.prog) w 149 9 5 ⟨g, 0, none⟩ cap l Tryd.underlying149 Tryd.underlying5 Tryd.underlying9 (fun j hj => ?_)
    exact World.ownsRow.cells h (g := g) (by rw [h1]; rfl) j _ (by simp [Lib.byteCells, hj])
set_option maxHeartbeats 4000000 in
set_option maxRecDepth 100000 in
theorem text_any (xs : List Int) (A : Option Addr) (cap : Nat) (w : World) (hx : IS w w.heap.size xs A cap) (hp : ∀ p ∈ xs, 0 ≤ p ∧ p < 1024) (hl : xs.length ≤ 1024) (hP : PW w) :
    Calls Tryd.prog 98 #[.slice A xs.length cap] w fun r w' => r = .returned (.string ⟨(txt xs).toArray⟩) ∧ Below w.heap.size w w' := by
  obtain ⟨N, hN⟩ : ∃ N, xs.length = N := ⟨_, rfl⟩
  obtain ⟨i0, hi, hz0, hz1, hz2⟩ : ∃ i, Tryd.prog.info? 5 = some i ∧ i.zero = some (.int .u8 0) ∧ i.size = 1 ∧ i.bytes = 1 := ⟨_, rfl, rfl, rfl, rfl⟩
  have HN := Lib.hid hN
  have H := Lib.hid (And.intro hx (And.intro hp hP))
  have HI := Lib.hid (And.intro hi (And.intro hz0 (And.intro hz1 hz2)))
  rw [hN] at hl ⊢
  clear hx hN hp hP hi hz0 hz1 hz2
  go_enter Tryd.func98, Tryd.ntmps98
  go_wp2_with fail
  go_loopw [3, 8] (fun v i wr => ∃ k : Nat, i = .int .i64 (k : Int) ∧ k ≤ N ∧ wr.ownsRow w.heap.size 5 1 v (txt (xs.take k)).length (Lib.byteCells (txt (xs.take k))) ∧ Below w.heap.size w wr) (fun _ i _ => N - (RowKit.intOf i).toNat)
  case atStart => exact ⟨0, rfl, by omega, ⟨rfl, .inl ⟨rfl, rfl⟩⟩, Below.refl _ _⟩
  case round =>
    rename_i u3 u8 wr
    obtain ⟨k, rfl, hk, hown, hb⟩ := hrel
    by_cases hlt : k < N
    · have i1 : (k : Int) < (N : Int) := by omega
      obtain ⟨x, hx⟩ : ∃ x, xs[k]? = some x := ⟨xs[k]'(by rw [HN.out]; exact hlt), List.getElem?_eq_getElem _⟩
      obtain ⟨b, o, rfl, hbl, hc⟩ := H.out.1.r (by rintro rfl; simp at hx)
      have d0 := (hb.cell (p := ⟨b, o + k, none⟩) hbl).trans (hc k x hx)
      have hx3 := H.out.2.1 x (List.mem_of_getElem? hx)
      have hL := txt_len (xs.take k) (fun p hp => H.out.2.1 p (List.mem_of_mem_take hp))
      rw [List.length_take] at hL
      have hL2 : (txt (xs.take k)).length ≤ 5120 := by omega
      have C := Tryd.strconv_AppendInt_10 w.heap.size (txt (xs.take k)).length x (by omega) (by omega) u3 (Lib.byteCells (txt (xs.take k))) wr hown hb.size (by omega) ((Lib.tabBelow_of_tabIs H.out.2.2).on hb)
      have hT := txt_take hx
      generalize txt (xs.take k) = L at *
      have HC := Lib.hid C
      have HK := Lib.hid (And.intro hT (And.intro hb hx3))
      clear C hT hb hown hx hc hL hx3
      go_wp2_with fail
      refine HC.out.mono ?_
      rintro r w2 ⟨v2, rfl, ho2, hb2, _⟩
      have hb2' := HK.out.2.1.trans hb2
      obtain ⟨D, hD⟩ : ∃ D, Lib.itoa x = D := ⟨_, rfl⟩
      have hD4 : D.length ≤ 4 := by rw [← hD, itoa_pos HK.out.2.2.1]; exact digits_len _ (by have := HK.out.2.2; omega)
      rw [hD] at ho2
      have H2 := Lib.hid (And.intro ho2 (And.intro hb2' hD))
      clear ho2 hb2 hb2' hD
      have o3 : (w2.alloc (.cells #[.int .u8 44] 5)).ownsRow w.heap.size 5 1 v2 (L.length + D.length) (Lib.byteCells L ++ Lib.byteCells D) := H2.out.1.alloc _
      have c3 : (w2.alloc (.cells #[.int .u8 44] 5)).cell? ⟨w2.heap.size, 0, none⟩ = some (.int .u8 44) := by rw [World.cell?_alloc_new]; rfl
      have b3 : Below w.heap.size w (w2.alloc (.cells #[.int .u8 44] 5)) := H2.out.2.1.alloc H2.out.2.1.size _
      have H3 := Lib.hid (And.intro o3 (And.intro c3 b3))
      clear o3 c3 b3
      go_wp2_with (first
        | (at_builtin
           refine wpList_append_one rfl (.tmp 15) (.tmp 16) 149 rfl w.heap.size 5 i0 (.int .u8 0) 1 Tryd.underlying149 HI.out.1 HI.out.2.1 HI.out.2.2.1 HI.out.2.2.2 (by decide) rfl _ (L.length + D.length) _ rfl H3.out.1 ⟨w2.heap.size, 0, none⟩ (.int .u8 44) rfl H3.out.2.1 rfl (by omega) (by have := H3.out.2.2.size; omega) _ rfl ?_)
        | fail)
      intro g cp w4 ho4 hg4 _ _
      have b4 : Below w.heap.size w w4 := H3.out.2.2.trans (below_grown' (v := v2) hg4 H3.out.1 H3.out.2.2.size)
      have hend : ∃ j : Nat, Value.int .i64 ((k : Int) + 1) = .int .i64 (j : Int) ∧ j ≤ N ∧ w4.ownsRow w.heap.size 5 1 (.slice (some ⟨g, 0, none⟩) (L.length + D.length + 1) cp) (txt (xs.take j)).length (Lib.byteCells (txt (xs.take j))) ∧ Below w.heap.size w w4 := by
        refine ⟨k + 1, by simp, by omega, ?_, b4⟩
        rw [HK.out.1, H2.out.2.2]
        have e1 : (L ++ D ++ [44]).length = L.length + D.length + 1 := by simp; omega
        rw [e1, Lib.byteCells_append, Lib.byteCells_append, List.append_assoc]
        exact ho4
      have HEND := Lib.hid hend
      clear hend ho4 hg4 b4
      go_wp2_with fail
      go_roundw
      case rel => exact HEND.out
      case measure => simp [RowKit.intOf]; omega
    · obtain rfl : k = N := by omega
      have i1 : ¬ (k : Int) < (k : Int) := by omega
      have e1 : xs.take k = xs := by rw [← HN.out, List.take_length]
      rw [e1] at hown
      clear e1
      have hcv : (convert 149 9 u3).run Tryd.prog wr = .ok (.string ⟨(txt xs).toArray⟩) wr := conv_row hown
      have HB := Lib.hid hb
      clear hb hown
      go_wp2_with fail
      go_ret
      exact ⟨rfl, HB.out⟩
end Go.Proofs.YtmldgfplnacecaaDoor

namespace Go.Proofs.YtmldgfplnacecaaDoor
open Go.RowKit Go.Shelf Go.Lib Go.Great Go.Maps

/-- Of what was there only some blocks may have turned. -/
structure Fz (X : Nat → Prop) (w w' : World) : Prop where
  os : w'.os = w.os
  tape : w'.tape = w.tape
  output : w'.output = w.output
  size : w.heap.size ≤ w'.heap.size
  block : ∀ k, k < w.heap.size → ¬ X k → w'.heap[k]? = w.heap[k]?
theorem Fz.refl (X : Nat → Prop) (w : World) : Fz X w w := ⟨rfl, rfl, rfl, Nat.le_refl _, fun _ _ _ => rfl⟩
theorem Fz.trans {X : Nat → Prop} {a b c : World} (h : Fz X a b) (k : Fz X b c) : Fz X a c :=
  ⟨k.os.trans h.os, k.tape.trans h.tape, k.output.trans h.output, Nat.le_trans h.size k.size, fun i hi hn => (k.block i (Nat.lt_of_lt_of_le hi h.size) hn).trans (h.block i hi hn)⟩
theorem Fz.of_below {X : Nat → Prop} {a b : World} (h : Below a.heap.size a b) : Fz X a b := ⟨h.os, h.tape, h.output, h.size, fun k hk _ => h.block k hk⟩
theorem Fz.of_grown {X : Nat → Prop} {a b : World} {o : Option Nat} (h : a.grownBy b o) (hx : ∀ k, o = some k → X k) : Fz X a b :=
  ⟨h.os, h.tape, h.output, h.size, fun k hk hn => h.block k hk (fun e => hn (hx k e.symm))⟩
theorem Fz.mono {X Y : Nat → Prop} {a b : World} (h : Fz X a b) (hxy : ∀ k, X k → Y k) : Fz Y a b := ⟨h.os, h.tape, h.output, h.size, fun k hk hn => h.block k hk (fun hx => hn (hxy k hx))⟩
theorem Fz.below {X : Nat → Prop} {a b : World} {B : Nat} (h : Fz X a b) (hB : B ≤ a.heap.size) (hX : ∀ k, k < B → ¬ X k) : Below B a b := ⟨h.os, h.tape, h.output, h.size, fun k hk => h.block k (by omega) (hX k hk)⟩
theorem Fz.set {X : Nat → Prop} (w : World) (b i : Nat) (v : Value) (hb : X b) : Fz X w (w.setCell ⟨b, i, none⟩ v) :=
  ⟨rfl, rfl, rfl, by simp, fun k _ hn => by
    have : b ≠ k := fun e => hn (e ▸ hb)
    simp [World.setCell, Array.getElem?_modify, this]⟩

/-- A list of numbers whose block is one of some. -/
def SlX (w : World) (X : Nat → Prop) (xs : List Int) (v : Value) : Prop :=
  ∃ A cap, v = .slice A xs.length cap ∧ xs.length ≤ cap ∧ cap ≤ maxLen ∧ (∀ x ∈ xs, i64 x) ∧ (A = none → cap = 0) ∧ (xs ≠ [] → ∃ b, A = some ⟨b, 0, none⟩ ∧ X b ∧ b < w.heap.size ∧ ∀ i x, xs[i]? = some x → w.cell? ⟨b, i, none⟩ = some (.int .i64 x))
theorem SlX.is {w : World} {X : Nat → Prop} {xs : List Int} {v : Value} (h : SlX w X xs v) : ∃ A cap, v = .slice A xs.length cap ∧ IS w w.heap.size xs A cap ∧ (A = none → cap = 0) := by
  obtain ⟨A, cap, e, h1, h2, h3, h4, h5⟩ := h
  refine ⟨A, cap, e, ⟨h1, h2, h3, fun hne => ?_⟩, h4⟩
  obtain ⟨b, hA, _, hl, hc⟩ := h5 hne
  exact ⟨b, 0, hA, hl, fun i x hx => by rw [Nat.zero_add]; exact hc i x hx⟩
theorem SlX.move {w w' : World} {X X' : Nat → Prop} {xs : List Int} {v : Value} (h : SlX w X xs v) (hs : w.heap.size ≤ w'.heap.size) (hX : ∀ b, X b → b < w.heap.size → X' b ∧ w'.heap[b]? = w.heap[b]?) : SlX w' X' xs v := by
  obtain ⟨A, cap, e, h1, h2, h3, h4, h5⟩ := h
  refine ⟨A, cap, e, h1, h2, h3, h4, fun hne => ?_⟩
  obtain ⟨b, hA, hx, hl, hc⟩ := h5 hne
  obtain ⟨x1, x2⟩ := hX b hx hl
  exact ⟨b, hA, x1, by omega, fun i x hx => (World.cell?_of_block (w := w) (w' := w') (a := ⟨b, i, none⟩) x2).trans (hc i x hx)⟩
theorem slx_own {w : World} {base m : Nat} {v : Value} (h : OwnP w base (posL m) v) : SlX w (fun b => base ≤ b) (posI m) v := by
  have hp : ∀ x ∈ posI m, i64 x := fun x hx => by have := posI_nn x hx; unfold i64; omega
  have hl : (posI m).length = (posL m).length := by unfold posI; rw [List.length_map]
  rcases h.2 with ⟨h1, h2⟩ | ⟨g, cap, cur, h1, h2, h3, h4, h5, h6, h7⟩
  · refine ⟨none, 0, by rw [h1, hl, h2], by omega, by unfold maxLen; omega, hp, fun _ => rfl, fun hne => ?_⟩
    exact absurd (List.eq_nil_of_length_eq_zero (by omega)) hne
  · refine ⟨some ⟨g, 0, none⟩, cap, by rw [h1, hl], by omega, h5, hp, fun e => (by cases e), fun _ => ⟨g, rfl, h2, (Array.getElem?_eq_some_iff.1 h3).1, fun i x hx => ?_⟩⟩
    unfold posI at hx
    rw [List.getElem?_map] at hx
    obtain ⟨p, hp, rfl⟩ := Option.map_eq_some_iff.1 hx
    have hc := World.ownsRow.cells h (g := g) (by rw [h1]; rfl) i (.int .i64 (p : Int)) (by simp [cellsP, hp])
    rw [add0] at hc
    exact hc
theorem slx_begin (w : World) : SlX (w.alloc (.cells #[.int .i64 0] 3)) (fun b => w.heap.size ≤ b) [0] (.slice (some ⟨w.heap.size, 0, none⟩) 1 1) :=
  ⟨_, _, rfl, by simp, by unfold maxLen; omega, fun x hx => by simp at hx; subst hx; unfold i64; omega, (fun e => by cases e), (fun _ => ⟨_, rfl, Nat.le_refl _, by simp, fun i x hx => by
    cases i with
    | zero => simp at hx; subst hx; rw [World.cell?_alloc_new]; rfl
    | succ i => simp at hx⟩)⟩

/-- The numbers of sets, by their texts. -/
def nkey (x : List Int) : Lit := .string (txt x)
def Nm (w : World) (b : Nat) (S : List (List Int)) : Prop :=
  ∃ D : DataW Value, w.ownsMap Tryd.prog 9 hR b S.length D ∧ Maps.size D = S.length ∧ (∀ (i : Nat) x, S[i]? = some x → Maps.has D (nkey x) = true ∧ ∀ z, D.atKey (nkey x) z = .held (.int .i64 (i : Int))) ∧
    (∀ x, (∀ p ∈ x, (0 : Int) ≤ p) → x ∉ S → Maps.has D (nkey x) = false)
theorem Nm.lt {w : World} {b : Nat} {S : List (List Int)} (h : Nm w b S) : b < w.heap.size := by obtain ⟨D, h, _⟩ := h; exact h.lt
theorem Nm.block {w w' : World} {b : Nat} {S : List (List Int)} (h : Nm w b S) (hb : w'.heap[b]? = w.heap[b]?) : Nm w' b S := by
  obtain ⟨D, ⟨es, clock, h1, h2, h3, h4⟩, hf⟩ := h
  exact ⟨D, ⟨es, clock, hb.trans h1, h2, h3, h4⟩, hf⟩
theorem Nm.made (w : World) : Nm (w.alloc (.map #[] 0)) w.heap.size [] := ⟨_, World.ownsMap_made _ _ _ _, rfl, fun i x h => by simp at h, fun x _ _ => rfl⟩
theorem keyed9 : Keyed Tryd.prog 9 := string_keyed Tryd.underlying9
theorem nkey_of {x : List Int} (h : (txt x).length ≤ 10000) : keyOf Tryd.prog 9 (.string ⟨(txt x).toArray⟩) = some (nkey x) := by
  rw [Go.WideMaps.keyOf_string_mk Tryd.underlying9 (by show (txt x).toArray.size ≤ maxLen; simp; unfold maxLen; omega)]
  rfl
theorem wpList_lookNm_hit {ops : Array Oper} {rest : List Oper} {o : Oper} {a : Act} {w : World} {Q : Exit → Act → World → Prop} (hg : o.guard = none) (m x : Operand) (hop : o.op = Op.lookup 131 m x true) (b : Nat) (S : List (List Int)) (h : Nm w b S)
    (y : List Int) (hl : (txt y).length ≤ 10000) (i : Nat) (hi' : S[i]? = some y) (hm : a.eval m = .map (some b)) (hx : a.eval x = .string ⟨(txt y).toArray⟩)
    (h1 : wpList Tryd.prog ops Q rest (a.put o.dst (.tuple #[.int .i64 (i : Int), .bool true])) w) : wpList Tryd.prog ops Q (o :: rest) a w := by
  obtain ⟨D, hD, _, hi, hn⟩ := h
  refine wpList_lookup_own_ok w hg m x 131 hop 9 3 keyed9 Tryd.underlying131 hR (z := .int .i64 0) (by kernel_rfl) (.held (.int .i64 0)) [] rfl b S.length D hm hD _ (nkey y) hx (nkey_of hl) fun v ps hv => ?_
  simp only [hR, Option.some.injEq, Prod.mk.injEq] at hv
  obtain ⟨e1, e2⟩ := hi i y hi'
  rw [e1]
  have e3 := hv.1.trans (e2 _)
  injection e3 with e3
  rw [e3]
  exact h1
theorem wpList_lookNm_miss {ops : Array Oper} {rest : List Oper} {o : Oper} {a : Act} {w : World} {Q : Exit → Act → World → Prop} (hg : o.guard = none) (m x : Operand) (hop : o.op = Op.lookup 131 m x true) (b : Nat) (S : List (List Int)) (h : Nm w b S)
    (y : List Int) (hy : ∀ p ∈ y, (0 : Int) ≤ p) (hl : (txt y).length ≤ 10000) (hnot : y ∉ S) (hm : a.eval m = .map (some b)) (hx : a.eval x = .string ⟨(txt y).toArray⟩)
    (h1 : wpList Tryd.prog ops Q rest (a.put o.dst (.tuple #[.int .i64 0, .bool false])) w) : wpList Tryd.prog ops Q (o :: rest) a w := by
  obtain ⟨D, hD, _, hi, hn⟩ := h
  refine wpList_lookup_own_ok w hg m x 131 hop 9 3 keyed9 Tryd.underlying131 hR (z := .int .i64 0) (by kernel_rfl) (.held (.int .i64 0)) [] rfl b S.length D hm hD _ (nkey y) hx (nkey_of hl) fun v ps hv => ?_
  simp only [hR, Option.some.injEq, Prod.mk.injEq] at hv
  have e1 := hn y hy hnot
  rw [e1]
  have e3 := hv.1.trans (Maps.atKey_of_not_has e1 _)
  injection e3 with e3
  rw [e3]
  exact h1
theorem wpList_lenNm {ops : Array Oper} {rest : List Oper} {o : Oper} {a : Act} {w : World} {Q : Exit → Act → World → Prop} (hg : o.guard = none) (m : Operand) (hop : o.op = Op.call { callee := Callee.builtin Builtin.len, args := #[m], argTypes := #[131] }) (b : Nat) (S : List (List Int)) (h : Nm w b S)
    (hm : a.eval m = .map (some b)) (hK : wpList Tryd.prog ops Q rest (a.put o.dst (.int .i64 (S.length : Int))) w) : wpList Tryd.prog ops Q (o :: rest) a w := by
  obtain ⟨D, hD, hz, _⟩ := h
  refine wpList_len_own w hg m 131 hop 9 3 Tryd.underlying131 hR b S.length D hm hD ?_
  rw [hz]; exact hK
theorem wpList_updNm {ops : Array Oper} {rest : List Oper} {o : Oper} {a : Act} {w : World} {Q : Exit → Act → World → Prop} (hg : o.guard = none) (m x v : Operand) (hop : o.op = Op.mapUpdate 131 m x v) (b : Nat) (S : List (List Int)) (h : Nm w b S) (hS : S.length ≤ 100000)
    (hnn : ∀ x ∈ S, ∀ p ∈ x, (0 : Int) ≤ p) (y : List Int) (hy : ∀ p ∈ y, (0 : Int) ≤ p) (hl : (txt y).length ≤ 10000) (hnot : y ∉ S) (hm : a.eval m = .map (some b)) (hx : a.eval x = .string ⟨(txt y).toArray⟩) (hv : a.eval v = .int .i64 (S.length : Int))
    (hK : ∀ w', Nm w' b (S ++ [y]) → w.grownBy w' (some b) → wpList Tryd.prog ops Q rest (a.put o.dst undef) w') : wpList Tryd.prog ops Q (o :: rest) a w := by
  obtain ⟨D, hD, hz, hi, hn⟩ := h
  refine wpList_mapUpdate_in w hg m x v 131 hop 9 3 keyed9 Tryd.underlying131 hR b S.length D hm hD (by unfold maxLen; omega) _ (.int .i64 (S.length : Int)) (nkey y) hx hv (nkey_of hl) (.held (.int .i64 (S.length : Int))) [] rfl fun w' h1 h2 => ?_
  have hne : ∀ x, (∀ p ∈ x, (0 : Int) ≤ p) → x ≠ y → nkey x ≠ nkey y := fun x hx e h => e (txt_inj x y hx hy (by unfold nkey at h; injection h))
  refine hK w' ⟨D.put (nkey y) (.held (.int .i64 (S.length : Int))), by simpa using h1, ?_, ?_, ?_⟩ h2.grown
  · rw [Maps.size_put (hD.tidy keyed9), hn y hy hnot, hz]; simp
  · intro i x hix
    rcases Nat.lt_or_ge i S.length with hlt | hge
    · rw [List.getElem?_append_left hlt] at hix
      have hmem := List.mem_of_getElem? hix
      have hk := hne x (hnn x hmem) (fun e => hnot (e ▸ hmem))
      obtain ⟨e1, e2⟩ := hi i x hix
      exact ⟨by rw [Maps.has_put_other hk]; exact e1, fun z => by rw [Maps.atKey_put_other hk]; exact e2 z⟩
    · have hl2 := (List.getElem?_eq_some_iff.1 hix).1
      simp at hl2
      obtain rfl : i = S.length := by omega
      simp at hix
      subst hix
      exact ⟨Maps.has_put_same hD.isMap (show WideAt.IsKeyLit (nkey _) from trivial) _, fun z => Maps.atKey_put_same hD.isMap (show WideAt.IsKeyLit (nkey _) from trivial) _ _⟩
  · intro x hx hxn
    simp at hxn
    rw [Maps.has_put_other (hne x hx hxn.2)]
    exact hn x hx hxn.1
/-- 'delete' at a map of ints. -/
theorem wpList_delF {ops : Array Oper} {rest : List Oper} {o : Oper} {a : Act} {w : World} {Q : Exit → Act → World → Prop} (hg : o.guard = none) (m x : Operand) (t e : TypeId) (hop : o.op = Op.call { callee := Callee.builtin Builtin.delete, args := #[m, x], argTypes := #[t, 3] })
    (ht : Tryd.prog.underlying t = some (.map 3 e)) (b n : Nat) (z : Value) (f : Int → Value) (h : MapF w b n z f) (k : Int) (hk : i64 k) (hm : a.eval m = .map (some b)) (hx : a.eval x = .int .i64 k)
    (hK : ∀ w', MapF w' b n z (fun j => if j = k then z else f j) → w.grownBy w' (some b) → wpList Tryd.prog ops Q rest (a.put o.dst (.tuple #[])) w') : wpList Tryd.prog ops Q (o :: rest) a w := by
  obtain ⟨D, hD, hf⟩ := h
  refine wpList_delete_own w hg m x t 3 hop e keyed3 ht hR b n D hm hD _ (.int .i64 k) hx (key64 hk) fun w' h1 h2 => hK w' ⟨_, h1, fun j => ?_⟩ h2.grown
  dsimp only
  by_cases e : j = k
  · rw [if_pos e, e]; exact Maps.atKey_del_same _
  · rw [if_neg e, Maps.atKey_del_other (by intro h; injection h with _ h; exact e h)]
    exact hf j
/-- The sets that wait. -/
def Wt (w : World) (b : Nat) (X : Nat → Prop) (S : List (List Int)) (k : Nat) : Prop := ∃ f : Int → Value, MapF w b S.length (.slice none 0 0) f ∧ ∀ (i : Nat) x, k ≤ i → S[i]? = some x → SlX w X x (f i)
theorem Wt.move {w w' : World} {b : Nat} {X X' : Nat → Prop} {S : List (List Int)} {k k' : Nat} (h : Wt w b X S k) (hb : w'.heap[b]? = w.heap[b]?) (hs : w.heap.size ≤ w'.heap.size) (hX : ∀ b, X b → b < w.heap.size → X' b ∧ w'.heap[b]? = w.heap[b]?) (hk : k ≤ k') : Wt w' b X' S k' := by
  obtain ⟨f, h1, h2⟩ := h
  exact ⟨f, h1.block hb, fun i x hi hx => (h2 i x (by omega) hx).move hs hX⟩
theorem Wt.made (w : World) (X : Nat → Prop) : Wt (w.alloc (.map #[] 0)) w.heap.size X [] 0 := ⟨_, MapF.made w _, fun i x _ h => by simp at h⟩
/-- Rows of a table. -/
def Rn (w : World) (base : Nat) (X : Nat → Prop) (R : List (List Int)) (v : Value) : Prop := ∃ gs, w.ownsRow base 23 1 v R.length gs ∧ ∀ (i : Nat) r, R[i]? = some r → ∃ u, gs[i]? = some u ∧ SlX w X r u
end Go.Proofs.YtmldgfplnacecaaDoor

namespace Go.Proofs.YtmldgfplnacecaaDoor
open Go.RowKit Go.Shelf Go.Lib Go.Great Go.Maps

def StOk (w : World) (ms mw : Nat) (S : List (List Int)) (f : Int → Value) (x : List Int) (v : Value) (r : Ending) (w' : World) : Prop :=
  (∃ i : Nat, S[i]? = some x ∧ r = .returned (.int .i64 (i : Int)) ∧ Below w.heap.size w w') ∨
  (x ∉ S ∧ r = .returned (.int .i64 (S.length : Int)) ∧ Nm w' ms (S ++ [x]) ∧ MapF w' mw (S.length + 1) (.slice none 0 0) (fun j => if j = (S.length : Int) then v else f j) ∧ Fz (fun k => k = ms ∨ k = mw) w w')
theorem zero23 (w : World) : (zeroValue 23).run Tryd.prog w = .ok (.slice none 0 0) w := by kernel_rfl
set_option maxHeartbeats 4000000 in
set_option maxRecDepth 100000 in
theorem state_any (β ms mw : Nat) (S : List (List Int)) (f : Int → Value) (x : List Int) (v : Value) (X : Nat → Prop) (w : World) (hb : Cells w β 134 #[.map (some ms), .map (some mw)]) (hN : Nm w ms S) (hS : S.length ≤ 5000)
    (hnn : ∀ x ∈ S, ∀ p ∈ x, (0 : Int) ≤ p) (hW : MapF w mw S.length (.slice none 0 0) f) (hx : SlX w X x v) (hxp : ∀ p ∈ x, 0 ≤ p ∧ p < 1024) (hxl : x.length ≤ 1024) (hP : PW w) (h1 : ms ≠ mw) (h2 : β ≠ ms) :
    Calls Tryd.prog 87 #[.pointer (some ⟨β, 0, none⟩), v] w (StOk w ms mw S f x v) := by
  obtain ⟨A, cap, rfl, his, _⟩ := hx.is
  have C := text_any x A cap w his hxp hxl hP
  have hlt : (txt x).length ≤ 10000 := by have := txt_len x hxp; omega
  have H := Lib.hid (And.intro hb (And.intro hN (And.intro hnn (And.intro hW (And.intro hxp (And.intro hlt (And.intro h1 h2)))))))
  have HC := Lib.hid C
  obtain ⟨n, hn⟩ : ∃ n, x.length = n := ⟨_, rfl⟩
  rw [hn] at HC ⊢
  clear hb hN hnn hW hx hxp hxl hP h1 h2 his C hlt hn
  go_enter Tryd.func87, Tryd.ntmps87
  go_wp2_with fail
  refine HC.out.mono ?_
  rintro r w2 ⟨rfl, hb2⟩
  have b2 : Cells w2 β 134 #[.map (some ms), .map (some mw)] := (hb2.block _ H.out.1.lt).trans H.out.1
  have c0 := b2.cell 0
  simp at c0
  have n2 : Nm w2 ms S := H.out.2.1.block (hb2.block _ H.out.2.1.lt)
  have f2 : MapF w2 mw S.length (.slice none 0 0) f := H.out.2.2.2.1.block (hb2.block _ H.out.2.2.2.1.lt)
  have H2 := Lib.hid (And.intro b2 (And.intro n2 (And.intro f2 hb2)))
  clear b2 n2 f2 hb2
  by_cases hmem : x ∈ S
  · obtain ⟨i, hi⟩ := List.getElem?_of_mem hmem
    have HI := Lib.hid hi
    clear hi hmem
    go_wp2_with (first
      | (refine wpList_lookNm_hit rfl (.tmp 14) (.tmp 15) rfl ms S H2.out.2.1 x H.out.2.2.2.2.2.1 i HI.out rfl rfl ?_)
      | fail)
    go_ret
    exact .inl ⟨i, HI.out, rfl, H2.out.2.2.2⟩
  · have HM := Lib.hid hmem
    clear hmem
    go_wp2_with (first
      | (refine wpList_lookNm_miss rfl (.tmp 14) (.tmp 15) rfl ms S H2.out.2.1 x (fun p hp => (H.out.2.2.2.2.1 p hp).1) H.out.2.2.2.2.2.1 HM.out rfl rfl ?_)
      | (refine wpList_lenNm rfl (.tmp 24) rfl ms S H2.out.2.1 rfl ?_)
      | (refine wpList_updNm rfl (.tmp 29) (.tmp 30) (.tmp 31) rfl ms S H2.out.2.1 (by omega) H.out.2.2.1 x (fun p hp => (H.out.2.2.2.2.1 p hp).1) H.out.2.2.2.2.2.1 HM.out rfl rfl rfl ?_
         intro w3 hn3 hg3
         have f3 : MapF w3 mw S.length (.slice none 0 0) f := H2.out.2.2.1.block (hg3.block _ H2.out.2.2.1.lt (by have := H.out.2.2.2.2.2.2.1; simp; omega))
         have b3 : Cells w3 β 134 #[.map (some ms), .map (some mw)] := (hg3.block _ H2.out.1.lt (by have := H.out.2.2.2.2.2.2.2; simp; omega)).trans H2.out.1
         have x3 : Fz (fun k => k = ms ∨ k = mw) w w3 := (Fz.of_below H2.out.2.2.2).trans (Fz.of_grown hg3 (fun k e => by injection e with e; exact .inl e.symm))
         have c1 := b3.cell 1
         simp at c1
         have H3 := Lib.hid (And.intro hn3 (And.intro f3 x3))
         clear hn3 hg3 f3 b3 x3)
      | (refine wpList_updateF rfl (.tmp 35) (.tmp 36) (.tmp 37) 132 23 rfl Tryd.underlying132 mw S.length (.slice none 0 0) f H3.out.2.1 (by unfold maxLen; omega) (S.length : Int) (nat64 (by omega)) (.slice A n cap) rfl rfl rfl ?_
         intro w4 hf4 hg4
         have n4 : Nm w4 ms (S ++ [x]) := H3.out.1.block (hg4.block _ H3.out.1.lt (by have := H.out.2.2.2.2.2.2.1; simp; omega))
         have x4 : Fz (fun k => k = ms ∨ k = mw) w w4 := H3.out.2.2.trans (Fz.of_grown hg4 (fun k e => by injection e with e; exact .inr e.symm))
         have H4 := Lib.hid (And.intro n4 (And.intro hf4 x4))
         clear hf4 hg4 n4 x4)
      | fail)
    go_ret
    exact .inr ⟨HM.out, rfl, H4.out⟩
end Go.Proofs.YtmldgfplnacecaaDoor

