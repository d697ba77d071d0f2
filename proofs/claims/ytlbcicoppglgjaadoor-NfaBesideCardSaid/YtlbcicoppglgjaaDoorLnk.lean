/-
  Contracts: (*NFA).link.
-/
import Derived.Test.YtlbcicoppglgjaaDoorNl
namespace Go.Proofs.YtlbcicoppglgjaaDoor
open Go.RowKit Go.Shelf Go.Lib Go.Great Go.Maps

/-- The first places of a list have been linked. -/
def linkL (s : St) (l : List Nat) (b : Nat) : St := { s with next := fun p => if p ∈ l then s.next p ||| b else s.next p }
theorem linkL_nil (s : St) (b : Nat) : linkL s [] b = s := by simp [linkL]
theorem or_again (x b : Nat) : (x ||| b) ||| b = x ||| b := by rw [Nat.or_assoc, Nat.or_self]
theorem linkL_snoc (s : St) (l : List Nat) (p b : Nat) : (linkL s l b).setN p ((linkL s l b).next p ||| b) = linkL s (l ++ [p]) b := by
  unfold linkL St.setN
  simp only [St.mk.injEq, true_and, and_true]
  funext r
  by_cases e : r = p
  · subst e
    simp only [if_true, List.mem_append, List.mem_singleton, or_true]
    by_cases h : r ∈ l
    · rw [if_pos h, or_again]
    · rw [if_neg h]
  · rw [if_neg e]
    simp [e]
theorem mem_posL {m p : Nat} : p ∈ posL m ↔ inM m p = true := by
  unfold posL
  simp only [List.mem_filter, List.mem_range]
  constructor
  · exact fun h => h.2
  · intro h
    refine ⟨?_, h⟩
    unfold inM at h; simp at h; exact h.1
theorem linkL_full (s : St) (a b : Nat) : linkL s (posL a) b = s.link a b := by
  unfold linkL St.link
  simp only [St.mk.injEq, true_and, and_true]
  funext r
  by_cases h : inM a r = true
  · rw [if_pos (mem_posL.2 h), if_pos h]
  · rw [if_neg (fun h2 => h (mem_posL.1 h2)), if_neg h]
theorem posL_lt {m i p : Nat} (h : (posL m)[i]? = some p) : p < 1024 := by
  have := mem_posL.1 (List.mem_of_getElem? h)
  unfold inM at this; simp at this; exact this.1
theorem wpStill_loadPl {ops : Array Oper} {w : World} {Q : Act → Prop} {a : Act} {o : Oper} {rest : List Oper} (x : Operand) (ho : o.op = .load 70 x) (hw : Region.wanted o (yielded ops a.tmps) = true)
    (b off m : Nat) (hx : a.eval x = .pointer (some ⟨b, off, none⟩)) (hat : PlAt w b off m) (h : wpStill Tryd.prog ops w Q rest (a.put o.dst (.agg (plL m).toArray))) : wpStill Tryd.prog ops w Q (o :: rest) a := by
  refine wpStill_step (fun K hK => ?_)
  rw [if_pos hw]
  unfold Oper.still execOp
  simp only [ho, hx, run_loadAt_mid w b off 70 (plL m) (.array 16 37) hat.range Tryd.underlying70 rfl (by rw [plL_len]; exact size70), Sem.run_bind, Sem.run_pure, Result.andThen_ok]
  exact ⟨rfl, hK _ h⟩
set_option maxHeartbeats 4000000 in
set_option maxRecDepth 100000 in
theorem link_any (q : Np) (B n : Nat) (se : Bool) (s : St) (a b : Nat) (w : World) (h : NfaAt w q n se s) (hq : q.Ok B) (_hB : 0 < B) (hT : TZ w) (hn : n ≤ 1000000000000) :
    Calls Tryd.prog 42 #[.pointer (some ⟨q.b, 0, none⟩), .agg (plL a).toArray, .agg (plL b).toArray] w fun e w' => e = .returned (.tuple #[]) ∧ Kp q w w' ∧ NfaAt w' q (n + 1024) se (s.link a b) := by
  obtain ⟨W1, hW1⟩ : ∃ W, w.alloc (.cells (plL a).toArray 70) = W := ⟨_, rfl⟩
  obtain ⟨W2, hW2⟩ : ∃ W, W1.alloc (.cells (plL b).toArray 70) = W := ⟨_, rfl⟩
  have hz1 : W1.heap.size = w.heap.size + 1 := by rw [← hW1]; simp
  have hz2 : W2.heap.size = w.heap.size + 2 := by rw [← hW2]; simp [hz1]
  have b1 : Below w.heap.size w W1 := by rw [← hW1]; exact below_new _ _
  have b2 : Below W1.heap.size W1 W2 := by rw [← hW2]; exact below_new _ _
  have p1 : PlAt W2 w.heap.size 0 a := by
    have : PlAt W1 w.heap.size 0 a := by rw [← hW1]; exact plAt_box w a
    exact this.block (b2.block _ (by omega))
  have p2 : PlAt W2 (w.heap.size + 1) 0 b := by rw [← hz1, ← hW2]; exact plAt_box W1 b
  have hT2 : TZ W2 := (hT.below b1 hT.lt).below b2 (by omega)
  have b12 : Below w.heap.size w W2 := b1.trans (b2.mono (by omega))
  have C := Lib.hid (list_any w.heap.size 0 a W2 p1 hT2)
  have HH := Lib.hid (And.intro h (And.intro hT2 (And.intro b12 (And.intro p2 (And.intro hz2 hz1)))))
  have HW1 := Lib.hid hW1
  have HW2 := Lib.hid hW2
  have hqb := fun k (hk : q.In k) => h.lt hk
  have HQ := Lib.hid hqb
  clear h hT hz1 hz2 b1 b2 p1 p2 hT2 b12 hqb
  generalize hA : (plL a).toArray = PA at *
  generalize hB2 : (plL b).toArray = PB at *
  have HB2 := Lib.hid hB2
  clear hA hB2 hW1 hW2
  go_enter Tryd.func42, Tryd.ntmps42
  go_wp2_with fail
  rw [HW1.out, HW2.out]
  refine C.out.mono ?_
  rintro e W3 ⟨v, rfl, hown, hb3⟩
  obtain ⟨A, cap, rfl, hlc, hcm, hcell⟩ := hown.form
  have hlen : (posL a).length ≤ 1024 := by rw [posL_eq]; exact posN_len _ _
  have hkp0 : Kp q w W3 := (Kp.of_below HH.out.2.2.1).below hb3
  have h3 : NfaAt W3 q n se s := (HH.out.1.below HH.out.2.2.1).below (hb3)
  have hT3 : TZ W3 := HH.out.2.1.below hb3 (by have := HH.out.2.1.lt; omega)
  have p3 : PlAt W3 (w.heap.size + 1) 0 b := HH.out.2.2.2.1.block (hb3.block _ (by have := HH.out.2.2.2.2.1; omega))
  have HG := Lib.hid (And.intro hkp0 (And.intro p3 (And.intro hcell (And.intro HH.out.2.2.2.2 (And.intro hb3.size (fun (i p : Nat) (hp : (posL a)[i]? = some p) => posL_lt hp))))))
  obtain ⟨l, hl⟩ : ∃ l, posL a = l := ⟨_, rfl⟩
  have HL := Lib.hid hl
  rw [hl] at HG hlen
  simp only [hl]
  obtain ⟨N, hN⟩ : ∃ N, l.length = N := ⟨_, rfl⟩
  rw [hN] at hlen ⊢
  have HN := Lib.hid hN
  have H3 := Lib.hid (And.intro h3 (And.intro hlen hn))
  clear hown hb3 hlc hcell h3 hT3 p3 hkp0 hl hN hcm
  go_wp2_with fail
  go_loopw [11] (fun i wr => ∃ k : Nat, i = .int .i64 (k : Int) ∧ k ≤ N ∧ Kp q W3 wr ∧ NfaAt wr q (n + k) se (linkL s (l.take k) b)) (fun i _ => N - (RowKit.intOf i).toNat)
  case atStart => exact ⟨0, rfl, by omega, Kp.refl _ _, by rw [List.take_zero, linkL_nil]; exact H3.out.1⟩
  case round =>
    obtain ⟨k, rfl, hk, hkp, hnf⟩ := hrel
    by_cases hlt : k < N
    · have i1 : (k : Int) < (N : Int) := by omega
      obtain ⟨p, hp⟩ : ∃ p, l[k]? = some p := ⟨l[k]'(by rw [HN.out]; exact hlt), List.getElem?_eq_getElem _⟩
      obtain ⟨g, rfl, hg1, hg2, hgc⟩ := HG.out.2.2.1 (by rintro rfl; simp at hp)
      have hng : ¬ q.In g := fun hin => by have := HQ.out _ hin; have := HG.out.2.2.2.1.1; omega
      have d0 : wr.cell? ⟨g, k, none⟩ = some (.int .i64 (p : Int)) := (World.cell?_of_block (w := W3) (w' := wr) (a := ⟨g, k, none⟩) (hkp.block g hg2 hng)).trans (hgc k p hp)
      have c2 := hnf.c2
      have hp1 := HG.out.2.2.2.2.2 k p hp
      have hgb : ¬ q.In (w.heap.size + 1) := fun hin => by have := HQ.out _ hin; omega
      have pb : PlAt wr (w.heap.size + 1) 0 b := hkp.pl hgb HG.out.2.1
      obtain ⟨X, hX⟩ : ∃ X, (linkL s (l.take k) b).next p = X := ⟨_, rfl⟩
      have HX := Lib.hid hX
      have HK := Lib.hid (And.intro hkp (And.intro hnf (And.intro hp (And.intro pb hp1))))
      obtain ⟨G, hG⟩ : ∃ G, wr.heap.size = G := ⟨_, rfl⟩
      obtain ⟨W4, hW4⟩ : ∃ W, wr.alloc (.cells Z70 70) = W := ⟨_, rfl⟩
      have p4 : PlAt W4 G 0 0 := by rw [← hW4, ← hG]; exact plAt_new wr
      have b4 : Below wr.heap.size wr W4 := by rw [← hW4]; exact below_new _ _
      have HG4 := Lib.hid hG
      have HW4 := Lib.hid hW4
      have H4 := Lib.hid (And.intro p4 b4)
      clear hkp hnf hp pb hX hng hgc p4 b4 hG hW4
      go_wp2_with (first
        | (refine wpList_lookN rfl (.tmp 18) (.tmp 19) rfl HK.out.2.1 (p : Int) (nat64 (by have := HK.out.2.2.2.2; omega)) X (by rw [if_pos (by omega), Int.toNat_natCast]; exact HX.out) rfl rfl ?_)
        | (refine wpList_alloc70 rfl 8 rfl rfl G HG4.out W4 HW4.out ?_)
        | (refine wpList_storePl rfl (.tmp 8) (.tmp 20) rfl rfl G 0 0 X rfl rfl H4.out.1 ?_
           intro W5 hW5
           have k5 : Kp q wr W5 := (Kp.of_below H4.out.2).grown hW5.grown (.inr (by have := HG4.out; omega))
           have n5 : NfaAt W5 q (n + k) se (linkL s (l.take k) b) := ((HK.out.2.1.below H4.out.2).grown hW5.grown (fun hin => by have := HK.out.2.1.lt hin; have := HG4.out; omega))
           have q5 : PlAt W5 (w.heap.size + 1) 0 b := (HK.out.2.2.2.1.block (H4.out.2.block _ HK.out.2.2.2.1.lt)).block (hW5.grown.block _ (by have := HK.out.2.2.2.1.lt; have := H4.out.2.size; omega) (fun e => by injection e with e; have := HK.out.2.2.2.1.lt; have := HG4.out; omega))
           have H5 := Lib.hid (And.intro hW5.at_ (And.intro k5 (And.intro n5 q5)))
           clear hW5 k5 n5 q5)
        | (refine wpList_loadPl rfl (.tmp 5) rfl (w.heap.size + 1) 0 b rfl H5.out.2.2.2 ?_)
        | (go_at_call 30; refine (padd_any G 0 X b W5 H5.out.1).mono ?_; rintro e W6 ⟨rfl, hW6⟩)
        | fail)
      have k6 : Kp q wr W6 := H5.out.2.1.grown hW6.grown (.inr (by have := HG4.out; omega))
      have n6 : NfaAt W6 q (n + k) se (linkL s (l.take k) b) := H5.out.2.2.1.grown hW6.grown (fun hin => by have := HK.out.2.1.lt hin; have := HG4.out; omega)
      have hdw : PlAt W6.drew G 0 (X ||| b) := hW6.at_
      have c2' := n6.c2
      have H6 := Lib.hid (And.intro k6 n6)
      have HD := Lib.hid hdw
      clear k6 n6 hW6 c2 hdw
      go_wp2_with fail
      go_still_tail 6, (by kernel_rfl)
      refine wpStill_loadPl (.tmp 8) rfl (by kernel_rfl) G 0 (X ||| b) rfl HD.out ?_
      refine wpStill_nil ?_
      change wpList _ _ _ _ _ W6.drew
      have n6' : NfaAt W6.drew q (n + k) se (linkL s (l.take k) b) := ⟨H6.out.2.c0, H6.out.2.c1, H6.out.2.c2, H6.out.2.c3, H6.out.2.c4, H6.out.2.f1, H6.out.2.mN, H6.out.2.mT, H6.out.2.mL, H6.out.2.t⟩
      refine wpList_updN rfl (.tmp 26) (.tmp 27) (.tmp 28) rfl n6' hq (by unfold maxLen; have := H3.out.2; omega) p (by have := HK.out.2.2.2.2; omega) (X ||| b) rfl rfl rfl ?_
      intro W7 n7 g7
      have hs7 : linkL s (l.take (k + 1)) b = (linkL s (l.take k) b).setN p (X ||| b) := by
        rw [List.take_add_one, HK.out.2.2.1]
        simp only [Option.toList_some]
        rw [← linkL_snoc, HX.out]
      have hend : ∃ j : Nat, Value.int .i64 ((k : Int) + 1) = .int .i64 (j : Int) ∧ j ≤ N ∧ Kp q W3 W7 ∧ NfaAt W7 q (n + j) se (linkL s (l.take j) b) :=
        ⟨k + 1, by simp, by omega, HK.out.1.trans (H6.out.1.drew.grown g7 (.inl (.inr (.inl rfl)))), by rw [hs7]; exact n7⟩
      have HEND := Lib.hid hend
      clear n6' n7 g7 hs7 hend c2'
      go_wp2_with fail
      go_roundw
      case rel => exact HEND.out
      case measure => simp [RowKit.intOf]; omega
    · obtain rfl : k = N := by omega
      have d1 : ¬ (k : Int) < (k : Int) := by omega
      have HK := Lib.hid (And.intro hkp hnf)
      clear hkp hnf
      go_wp2_with fail
      go_end0
      have e1 : l.take k = l := by rw [← HN.out, List.take_length]
      refine ⟨rfl, HG.out.1.trans HK.out.1, ?_⟩
      have := HK.out.2
      rw [e1, ← HL.out, linkL_full] at this
      exact this.mono (by have := H3.out.2.1; omega)
end Go.Proofs.YtlbcicoppglgjaaDoor
