/-
  What the rows of flat lean on, part l.
-/
import Derived.Test.YtfafhbgkmlmmdaaGreatDoorYqk
set_option maxRecDepth 100000
set_option maxHeartbeats 40000000
namespace Go.Proofs.YtfafhbgkmlmmdaaGreatDoor
open Go.RowKit Go.Shelf Go.Lib Go.Maps Go.Great
attribute [local go_sem] Oper.semAt_some
attribute [local irreducible] NR ZNR FR nmE
def rawTok (xs : List Nat) (t : TK) : List TK := if t.to < rawT xs t then [⟨7, t.to, rawT xs t, [], 0, false⟩] else []
theorem rawT_gt {xs : List Nat} {k : Nat} {t : TK} (hk : k < xs.length) (h : markT xs k = some t) : k < rawT xs t := by
 have h1 := mark_to (by omega) h
 have h2 := rawT_le (xs := xs) (x := t) h1.2.2.1
 omega
def marksL (xs : List Nat) (k : Nat) : List TK :=
 if _h : k < xs.length then
  match hm : markT xs k with
  | none => marksL xs (k + 1)
  | some t => t :: (rawTok xs t ++ marksL xs (rawT xs t))
 else []
termination_by xs.length - k
decreasing_by
 ·omega
 ·have := rawT_gt _h hm
  omega
theorem marksL_end {xs : List Nat} {k : Nat} (h : ¬ k < xs.length) : marksL xs k = [] := by rw [marksL, dif_neg h]
theorem marksL_none {xs : List Nat} {k : Nat} (h : k < xs.length) (hm : markT xs k = none) : marksL xs k = marksL xs (k + 1) := by
 rw [marksL, dif_pos h]
 split
 ·rfl
 ·rename_i t e
  rw [hm] at e
  cases e
theorem marksL_some {xs : List Nat} {k : Nat} {t : TK} (h : k < xs.length) (hm : markT xs k = some t) : marksL xs k = t :: (rawTok xs t ++ marksL xs (rawT xs t)) := by
 rw [marksL, dif_pos h]
 split
 ·rename_i e
  rw [hm] at e
  cases e
 ·rename_i t' e
  rw [hm] at e
  cases e
  rfl
theorem marks_any (A : Option Addr) (m c : Nat) (w : World) : Calls Tryz.prog 81 #[.slice A m c] w fun e w' => e = .returned (.func (Fn.func 100) #[] #[.pointer (some ⟨w.heap.size, 0, none⟩)]) ∧ w' = w.alloc (.cells #[.slice A m c] 22) := by
 go_enter Tryz.func81, Tryz.ntmps81
 go_wp2_with fail
 go_ret
 exact ⟨rfl, rfl⟩
theorem marks_hands (n : Nat) (hn : 2 ≤ n) (xs : List Nat) (A : Option Addr) (cap bb B0 : Nat) (X : Nat → Prop) (w : World) (hx : BY w B0 xs A cap) (hl : xs.length ≤ 100000) (hM : G.MX w) (hT : S.Tabs w) (hB : 5 ≤ B0) (hbb : Cells w bb 22 #[.slice A xs.length cap]) (hB0 : B0 ≤ bb)
  (hX : ∀ k, X k → B0 ≤ k ∧ k ≠ bb) : HandsT n 100 #[.pointer (some ⟨bb, 0, none⟩)] (marksL xs 0) X w := by
 intro l Xc J Jx W hb hXc sJ sX oJ oX hY h0
 have hbl := hbb.lt
 have at_ : ∀ {ob : Option Nat} {W' : World}, Fr Xc none ob W W' → Below B0 w W' ∧ Cells W' bb 22 #[.slice A xs.length cap] := fun {ob W'} hf => by
  have hbW : Below B0 w W := ⟨hb.os, hb.tape, hb.output, hb.size, fun k hk => hb.block k (by omega)⟩
  refine ⟨hbW.trans (hf.below (by have := hb.size; omega) (fun k hk => ?_) (by simp)), ?_⟩
  ·rcases (hXc k hk).2 with h | h
   ·exact (hX k h).1
   ·omega
  ·refine (hf.same bb (by have := hb.size; omega) (fun h => ?_) (by simp)).trans ((hb.block bb hbl).trans hbb)
   rcases (hXc bb h).2 with h | h
   ·exact (hX bb h).2 rfl
   ·omega
 have C1 : ∀ {ob : Option Nat} {W' : World}, Fr Xc none ob W W' → ∀ k, k < xs.length → Calls Tryz.prog 101 #[.slice A xs.length cap, .int .i64 (k : Int)] W' fun e w'' => e = .returned (.tuple #[tokV ((markT xs k).getD tkZ), .bool (markT xs k).isSome]) ∧ Below W'.heap.size W' w'' := fun {ob W'} hf k hk => by
  have h1 := (at_ hf).1
  have h2 := (at_ hf).2.lt
  exact mark_any xs A cap k W' (hM.on (B := B0) (by omega) h1) (hT.below h1 (by omega)) ((hx.below h1).mono (by omega)) hl (by omega)
 have C2 : ∀ {ob : Option Nat} {W' : World}, Fr Xc none ob W W' → ∀ t : TK, 0 < xs.length → t.to ≤ xs.length → Calls Tryz.prog 102 #[.slice A xs.length cap, tokV t] W' fun e w'' => e = .returned (.int .i64 ((rawT xs t : Nat) : Int)) ∧ Below W'.heap.size W' w'' := fun {ob W'} hf t h0 ht => by
  have h1 := (at_ hf).1
  have h2 := (at_ hf).2.lt
  obtain ⟨b, o, rfl, _, _⟩ := hx.r (by intro e; rw [e] at h0; simp at h0)
  exact rawEnd_any xs b o cap t W' (hM.on (B := B0) (by omega) h1) ((hx.below h1).mono (by omega)) hl h0 ht
 obtain ⟨N, hN⟩ : ∃ N, xs.length = N := ⟨_, rfl⟩
 rw [hN] at hl hbb C1 C2
 have at2 : ∀ {ob : Option Nat} {W' : World}, Fr Xc none ob W W' → W'.cell? ⟨bb, 0, none⟩ = some (.slice A N cap) := fun {ob W'} hf => by
  have := (at_ hf).2.cell 0
  rw [hN] at this
  simpa using this
 have hcap := hx.l
 have hmx := hx.m
 unfold maxLen at hmx
 rw [hN] at hcap
 have HH := Lib.hid (And.intro (@C1) (And.intro (@C2) (And.intro (@at2) (And.intro hN (And.intro hXc (And.intro sJ (And.intro sX (And.intro oJ (And.intro oX hY)))))))))
 clear C1 C2 at2 at_ hXc sJ sX oJ oX hY hx hM hT hbb hX
 refine callsIn_of_wp Tryz.func100 rfl trivial ?_ rfl
 simp only [Tryz.ntmps100, List.size_toArray, List.length_cons, List.length_nil, Nat.reduceAdd, Nat.reduceSub, Array.replicate_succ, Array.replicate_zero, List.push_toArray, List.append_toArray, List.nil_append, List.cons_append]
 gi_wp2
 gi_loopw [3] (fun a wr => ∃ (k : Nat) (pre : List TK) (ob : Option Nat), a = .int .i64 (k : Int) ∧ k ≤ N ∧ marksL xs 0 = pre ++ marksL xs k ∧ J pre ob wr ∧ Fr Xc none ob W wr) (fun a _ => N - (RowKit.intOf a).toNat)
 case atStart => exact ⟨0, [], none, rfl, by omega, rfl, h0, Fr.refl _ _ _⟩
 case round =>
  obtain ⟨k, pre, ob, rfl, hk, hm, hj, hf⟩ := hrel
  have c0 := HH.out.2.2.1 hf
  have lb := block_lt_of_cell c0
  by_cases hlt : k < N
  case neg =>
   obtain rfl : k = N := by omega
   have i1 : ¬ (k : Int) < (k : Int) := by omega
   rw [marksL_end (k := k) (by have := HH.out.2.2.2.1; omega), List.append_nil] at hm
   have HJ := Lib.hid (And.intro hm (And.intro hj hf))
   clear hm hj hf
   gi_wp2
   go_end0
   exact ⟨⟨_, rfl⟩, ob, HJ.out.2.2, .inl (by rw [HJ.out.1]; exact HJ.out.2.1)⟩
  case pos =>
   have i1 : (k : Int) < (N : Int) := by omega
   have hkx : k < xs.length := by have := HH.out.2.2.2.1; omega
   have KM := HH.out.1 hf k (by omega)
   cases hmk : markT xs k with
   | none =>
    rw [hmk] at KM
    simp only [Option.getD_none, Option.isSome_none] at KM
    replace KM : Calls Tryz.prog 101 #[.slice A N cap, .int .i64 (k : Int)] wr fun e w'' => e = .returned (.tuple #[.agg #[.int .i64 0, .int .i64 0, .int .i64 0, .string ⟨#[]⟩, .int .i32 0, .bool false], .bool false]) ∧ Below wr.heap.size wr w'' := KM
    rw [marksL_none hkx hmk] at hm
    have HJ := Lib.hid (And.intro hm (And.intro hj (And.intro hf KM)))
    clear hm hj hf hkx KM hmk
    gi_wp2_with (refine ⟨trivial, fun _ => by omega, ?_⟩; gi_at_call 101; refine (callsIn_wide.2 HJ.out.2.2.2).mono ?_; rintro e w1 ⟨rfl, hb1⟩)
    have hb2 := hb1.trans ((below_new w1 (.cells #[.int .i64 0, .int .i64 0, .int .i64 0, .string ⟨#[]⟩, .int .i32 0, .bool false] 35)).mono hb1.size)
    go_roundw
    case rel => exact ⟨k + 1, pre, ob, by go_num, by omega, HJ.out.1, HH.out.2.2.2.2.2.1.of_below HJ.out.2.1 hb2, HJ.out.2.2.1.trans (Fr.of_below hb2)⟩
    case measure => simp [RowKit.intOf]; omega
   | some t =>
    rw [hmk] at KM
    simp only [Option.getD_some, Option.isSome_some] at KM
    have hto := mark_to (by omega) hmk
    have hrle := rawT_le (xs := xs) (x := t) hto.2.2.1
    have hrgt := rawT_gt hkx hmk
    rw [marksL_some hkx hmk] at hm
    have hp1 : pre ++ [t] <+: marksL xs 0 := by rw [hm]; exact ⟨rawTok xs t ++ marksL xs (rawT xs t), by simp⟩
    have hN := HH.out.2.2.2.1
    have obl : ∀ k, ob = some k → k < wr.heap.size := fun k e => by subst e; exact (HH.out.2.2.2.2.2.2.2.1 _ _ _ hj).2
    obtain ⟨RT, hRT⟩ : ∃ n, rawT xs t = n := ⟨_, rfl⟩
    rw [hRT] at hrle hrgt hm
    obtain ⟨tv, htv⟩ : ∃ v, tokV t = v := ⟨_, rfl⟩
    have htv2 := htv
    unfold tokV tokC at htv2
    have htc : (tokC t) = #[.int .i64 (t.kind : Int), .int .i64 (t.fr : Int), .int .i64 (t.to : Int), .string ⟨(G.u8s t.name).toArray⟩, .int .i32 t.r, .bool t.sg] := rfl
    rw [htv, ← htv2] at KM
    obtain ⟨SN, hSN⟩ : ∃ Sx : ByteArray, ⟨(G.u8s t.name).toArray⟩ = Sx := ⟨_, rfl⟩
    obtain ⟨kd, hkd⟩ : ∃ n, t.kind = n := ⟨_, rfl⟩
    obtain ⟨sg, hsg⟩ : ∃ n, t.sg = n := ⟨_, rfl⟩
    obtain ⟨fr, hfr⟩ : ∃ n, t.fr = n := ⟨_, rfl⟩
    obtain ⟨te, hte⟩ : ∃ n, t.to = n := ⟨_, rfl⟩
    obtain ⟨rr, hrr⟩ : ∃ n, t.r = n := ⟨_, rfl⟩
    rw [hSN, hkd, hsg, hfr, hte, hrr] at KM htv2
    rw [hte] at hrle hto
    rw [hN] at hrle hto
    have HJ := Lib.hid (And.intro hm (And.intro hj (And.intro hf (And.intro KM (And.intro hp1 (And.intro obl (And.intro hRT (And.intro hte (And.intro htv htv2)))))))))
    have hlt2 : k < RT ∧ RT ≤ N ∧ te ≤ RT := ⟨hrgt, hrle.2, hrle.1⟩
    have hte0 : te ≤ N := hto.2.2.1
    clear hm hj hf hkx KM hmk hto hrle hrgt hp1 hN obl htv htv2 htc hSN hkd hsg hfr hrr hRT hte
    gi_wp2_with (fail)
    refine ⟨trivial, fun _ => by omega, ?_⟩
    gi_at_call 101
    refine (callsIn_wide.2 HJ.out.2.2.2.1).mono ?_
    rintro e w1 ⟨rfl, hb1⟩
    obtain ⟨W2, hW2⟩ : ∃ W, w1.alloc (.cells #[.int .i64 (kd : Int), .int .i64 (fr : Int), .int .i64 (te : Int), .string SN, .int .i32 rr, .bool sg] 35) = W := ⟨_, rfl⟩
    have hb2 : Below wr.heap.size wr W2 := by rw [← hW2]; exact hb1.trans ((below_new w1 _).mono hb1.size)
    have x2 : Cells W2 w1.heap.size 35 #[.int .i64 (kd : Int), .int .i64 (fr : Int), .int .i64 (te : Int), .string SN, .int .i32 rr, .bool sg] := by rw [← hW2]; exact cells_new _ _ _
    have j2 := HH.out.2.2.2.2.2.1.of_below HJ.out.2.1 hb2
    have f2 : Fr Xc none ob W W2 := HJ.out.2.2.1.trans (Fr.of_below hb2)
    obtain ⟨fn, tmps, assign, body, hy, hR⟩ := HH.out.2.2.2.2.2.2.2.2.2 pre ob t W2 j2 f2.size HJ.out.2.2.2.2.1
    rw [HJ.out.2.2.2.2.2.2.2.2.1, ← HJ.out.2.2.2.2.2.2.2.2.2] at hy
    have p0 := x2.cell 0
    have p1 := x2.cell 1
    have p2 := x2.cell 2
    have p3 := x2.cell 3
    have p4 := x2.cell 4
    have p5 := x2.cell 5
    simp at p0 p1 p2 p3 p4 p5
    have H2 := Lib.hid (And.intro x2 (And.intro f2 (And.intro hR hb1.size)))
    clear x2 f2 hR hb1 hb2 j2
    gi_wp2_with (fail)
    refine ⟨fun _ => by omega, ?_⟩
    refine H2.out.2.2.1.mono ?_
    rintro e W3 (⟨rfl, ob', j3, f3⟩ | ⟨rfl, ob', j3, f3⟩)
    ·-- it goes on
     have hnX : ¬ Xc w1.heap.size := fun h => by
      have := (HH.out.2.2.2.2.1 _ h).1
      have := H2.out.2.2.2
      have := HJ.out.2.2.1.size
      omega
     have hno : ob ≠ some w1.heap.size := fun e => by
      have := HJ.out.2.2.2.2.2.1 _ e
      have := H2.out.2.2.2
      omega
     have x3 : Cells W3 w1.heap.size 35 #[.int .i64 (kd : Int), .int .i64 (fr : Int), .int .i64 (te : Int), .string SN, .int .i32 rr, .bool sg] := (f3.same _ H2.out.1.lt hnX hno).trans H2.out.1
     have f3' : Fr Xc none ob' W W3 := H2.out.2.1.trans f3
     have c3 := HH.out.2.2.1 f3'
     have KR := HH.out.2.1 f3' t (by omega) (by rw [HJ.out.2.2.2.2.2.2.2.1]; exact hte0)
     rw [HJ.out.2.2.2.2.2.2.1, HJ.out.2.2.2.2.2.2.2.2.1, ← HJ.out.2.2.2.2.2.2.2.2.2] at KR
     have q0 := x3.cell 0
     have q1 := x3.cell 1
     have q2 := x3.cell 2
     have q3 := x3.cell 3
     have q4 := x3.cell 4
     have q5 := x3.cell 5
     simp at q0 q1 q2 q3 q4 q5
     have H3 := Lib.hid (And.intro x3 (And.intro f3' (And.intro j3 (And.intro KR hnX))))
     clear x3 f3' j3 f3 KR hnX hno p0 p1 p2 p3 p4 p5 hy c0 lb
     gi_wp2_with (fail)
     refine ⟨trivial, fun _ => by omega, ?_⟩
     gi_at_call 102
     refine (callsIn_wide.2 H3.out.2.2.2.1).mono ?_
     rintro e w4 ⟨rfl, hb4⟩
     have f4 : Fr Xc none ob' W w4 := H3.out.2.1.trans (Fr.of_below hb4)
     have j4 := HH.out.2.2.2.2.2.1.of_below H3.out.2.2.1 hb4
     have x4 := H3.out.1.on hb4
     have r2 := x4.cell 2
     simp at r2
     clear q0 q1 q2 q3 q4 q5 c3
     by_cases hrw : te < RT
     ·have i5 : (te : Int) < (RT : Int) := by omega
      have hrt : rawTok xs t = [⟨7, te, RT, [], 0, false⟩] := by
       unfold rawTok
       rw [HJ.out.2.2.2.2.2.2.1, HJ.out.2.2.2.2.2.2.2.1, if_pos hrw]
      have hm2 := HJ.out.1
      rw [hrt] at hm2
      have hp2 : (pre ++ [t]) ++ [⟨7, te, RT, [], 0, false⟩] <+: marksL xs 0 := by rw [hm2]; exact ⟨marksL xs RT, by simp⟩
      obtain ⟨fn, tmps, assign, body, hy, hR⟩ := HH.out.2.2.2.2.2.2.2.2.2 (pre ++ [t]) ob' ⟨7, te, RT, [], 0, false⟩ w4 j4 f4.size hp2
      replace hy : (Instr.yield l #[.agg #[.int .i64 7, .int .i64 (te : Int), .int .i64 (RT : Int), .string ⟨#[]⟩, .int .i32 0, .bool false]]).run Tryz.prog w4 = .ok (.round l fn tmps assign body) w4 := hy
      have H4 := Lib.hid (And.intro f4 (And.intro hR hm2))
      clear f4 j4 x4 hR hm2 hrt hp2 hb4 hrw
      gi_wp2_with (fail)
      refine ⟨fun _ => by omega, ?_⟩
      refine H4.out.2.1.mono ?_
      rintro e W5 (⟨rfl, ob5, j5, f5⟩ | ⟨rfl, ob5, j5, f5⟩)
      ·have HE := Lib.hid (And.intro j5 (H4.out.1.trans f5))
       clear j5 f5 hy r2
       gi_wp2_with (fail)
       go_roundw
       case rel => exact ⟨RT, (pre ++ [t]) ++ [⟨7, te, RT, [], 0, false⟩], ob5, rfl, by omega, by rw [H4.out.2.2]; simp, HE.out.1, HE.out.2⟩
       case measure => simp [RowKit.intOf]; omega
      ·have HE := Lib.hid (And.intro j5 (H4.out.1.trans f5))
       clear j5 f5 hy r2
       gi_wp2_with (fail)
       refine bodyPost_ret (results_none rfl _ _ _) rfl ?_
       exact ⟨⟨_, rfl⟩, ob5, HE.out.2, .inr ⟨_, by rw [H4.out.2.2]; exact ⟨marksL xs RT, by simp⟩, HE.out.1⟩⟩
     ·have i5 : ¬ (te : Int) < (RT : Int) := by omega
      have hrt : rawTok xs t = [] := by
       unfold rawTok
       rw [HJ.out.2.2.2.2.2.2.1, HJ.out.2.2.2.2.2.2.2.1, if_neg hrw]
      have hm2 := HJ.out.1
      rw [hrt] at hm2
      have HE := Lib.hid (And.intro j4 (And.intro f4 hm2))
      clear f4 j4 x4 hm2 hrt hb4 hrw
      gi_wp2_with (fail)
      refine ⟨fun _ h => (by cases h), ?_⟩
      gi_wp2_with (fail)
      go_roundw
      case rel => exact ⟨RT, pre ++ [t], ob', rfl, by omega, by rw [HE.out.2.2]; simp, HE.out.1, HE.out.2.1⟩
      case measure => simp [RowKit.intOf]; omega
    ·have HE := Lib.hid (And.intro j3 (H2.out.2.1.trans f3))
     clear j3 f3 hy p0 p1 p2 p3 p4 p5 c0 lb
     gi_wp2_with (fail)
     refine bodyPost_ret (results_none rfl _ _ _) rfl ?_
     exact ⟨⟨_, rfl⟩, ob', HE.out.2, .inr ⟨_, HJ.out.2.2.2.2.1, HE.out.1⟩⟩
end Go.Proofs.YtfafhbgkmlmmdaaGreatDoor
namespace Go.Proofs.YtfafhbgkmlmmdaaGreatDoor
open Go.RowKit Go.Shelf Go.Lib Go.Maps Go.Great
attribute [local irreducible] NR ZNR FR nmE
def txT (a b : Nat) : TK := ⟨0, a, b, [], 0, false⟩
def txs (a b : Nat) : List TK := if a < b then [txT a b] else []
def endF : Nat → List TK → Nat
 | e, [] => e
 | _, t :: r => endF t.to r
def outF : Nat → List TK → List TK
 | _, [] => []
 | e, t :: r => txs e t.fr ++ (t :: outF t.to r)
def eachL (xs : List Nat) : List TK := outF 0 (marksL xs 0) ++ txs (endF 0 (marksL xs 0)) xs.length
theorem endF_snoc (x : TK) : ∀ (l : List TK) (e : Nat), endF e (l ++ [x]) = x.to
 | [], _ => rfl
 | t :: r, _ => endF_snoc x r t.to
theorem outF_append (m : List TK) : ∀ (l : List TK) (e : Nat), outF e (l ++ m) = outF e l ++ outF (endF e l) m
 | [], _ => rfl
 | t :: r, e => by
  show txs e t.fr ++ (t :: outF t.to (r ++ m)) = (txs e t.fr ++ (t :: outF t.to r)) ++ outF (endF t.to r) m
  rw [outF_append m r t.to]
  simp
theorem outF_snoc (x : TK) (l : List TK) (e : Nat) : outF e (l ++ [x]) = outF e l ++ txs (endF e l) x.fr ++ [x] := by
 rw [outF_append]
 simp [outF]
theorem outF_prefix {p q : List TK} (h : p <+: q) (e : Nat) : outF e p <+: outF e q := by
 obtain ⟨r, rfl⟩ := h
 rw [outF_append]
 exact List.prefix_append _ _
theorem outF_eachL {p : List TK} {xs : List Nat} (h : p <+: marksL xs 0) : outF 0 p <+: eachL xs := (outF_prefix h 0).trans (List.prefix_append _ _)
theorem room_of_none {F : Fence} (hd : F.depth = none) (k : Nat) : F.room k := fun d h => by rw [hd] at h; cases h
theorem round_any {F : Fence} (hd : F.depth = none) {m m' : Nat} {P : Program} {l lo : Nat} {f : FuncId} {tmps : Array Value} {assign body : Code} {w : World} {R : Ending → World → Prop}
  (h : RoundIn F m P l f tmps assign body w R) : RoundIn (F.inRound lo) m' P l f tmps assign body w R := ⟨h.1, fun c cs _ => h.2 c cs (room_of_none hd _)⟩
theorem calls_any {m m' : Nat} {P : Program} {f : FuncId} {args : Array Value} {w : World} {R : Ending → World → Prop} (h : CallsIn Fence.wide m P f args w R) : CallsIn Fence.wide m' P f args w R := callsIn_wide.2 (callsIn_wide.1 h)
theorem HandsT.anyN {n gf : Nat} {lb : Array Value} {xs : List TK} {X : Nat → Prop} {w : World} (h : HandsT n gf lb xs X w) (n' : Nat) : HandsT n' gf lb xs X w :=
 fun l Xc J Jx W h1 h2 h3 h4 h5 h6 hY h0 => calls_any (h l Xc J Jx W h1 h2 h3 h4 h5 h6 (fun pre ob x W1 a b c => by
  obtain ⟨fn, tmps, assign, body, hy, hR⟩ := hY pre ob x W1 a b c
  exact ⟨fn, tmps, assign, body, hy, round_any (lo := 0) rfl hR⟩) h0)
theorem wpIn_region_named {F : Fence} {n : Nat} {P : Program} {id : Nat} {ops : Array Oper} {Q : Exit → Act → World → Prop} {a : Act} {w : World} (hm : P.follows .mixedOrders = true)
  (h : ∀ (O : Array Oper) (K : Exit → Act → World → Prop), O = ops → K = Q → wpAnyIn F n P .any O K ops.size (Array.replicate ops.size false) a w.drew) : (Code.region id ops true).wpIn F n P Q a w :=
 wpIn_region_any hm (h ops Q rfl rfl)
theorem Fr.outer {X X' : Nat → Prop} {ob : Option Nat} {W W3 V : World} (b : Below W.heap.size W W3) (h : Fr X' none ob W3 V) (hx : ∀ k, k < W.heap.size → ¬ X k → ¬ X' k) : Fr X none ob W V :=
 ⟨h.os.trans b.os, h.tape.trans b.tape, h.output.trans b.output, Nat.le_trans b.size h.size, fun k hk hn _ => (h.same k (Nat.lt_of_lt_of_le hk b.size) (hx k hk hn) (by simp)).trans (b.block k hk), by
  rcases h.ob with e | ⟨k, e, h1, h2⟩
  ·exact .inl e
  ·exact .inr ⟨k, e, Nat.le_trans b.size h1, h2⟩⟩
theorem Fr.putl {X : Nat → Prop} {ob : Option Nat} {W V : World} (h : Fr X none ob W V) (l : Nat) (o : Obj) (hl : W.heap.size ≤ l) : Fr X none ob W (V.putObj l o) :=
 ⟨h.os, h.tape, h.output, by simpa [World.putObj] using h.size, fun k hk hn ho => (World.putObj_heap_other (by omega)).trans (h.same k hk hn ho), by
  rcases h.ob with e | ⟨k, e, h1, h2⟩
  ·exact .inl e
  ·exact .inr ⟨k, e, h1, by simpa [World.putObj] using h2⟩⟩
theorem Stab.setc {S : Nat} {J : List TK → Option Nat → World → Prop} (h : Stab S J) {pre : List TK} {ob : Option Nat} {W : World} (hj : J pre ob W) (b i : Nat) (v : Value) (hl : S ≤ b) (ho : ob ≠ some b) : J pre ob (W.setCell ⟨b, i, none⟩ v) :=
 h pre ob W _ hj rfl rfl rfl (by simp [World.setCell]) fun k _ hc => Below.heap_setCell _ _ _ _ (fun e => by
  subst e
  rcases hc with hc | hc
  ·omega
  ·exact ho hc)
theorem Fr.setc {X : Nat → Prop} {ob : Option Nat} (W : World) (b i : Nat) (v : Value) (hl : X b) : Fr X ob ob W (W.setCell ⟨b, i, none⟩ v) :=
 ⟨rfl, rfl, rfl, by simp [World.setCell], fun k _ hx _ => Below.heap_setCell _ _ _ _ (fun e => hx (by subst e; exact hl)), .inl rfl⟩
theorem each_any (A : Option Addr) (m c : Nat) (w : World) : Calls Tryz.prog 51 #[.slice A m c] w fun e w' => e = .returned (.func (Fn.func 80) #[] #[.pointer (some ⟨w.heap.size, 0, none⟩)]) ∧ w' = w.alloc (.cells #[.slice A m c] 22) := by
 go_enter Tryz.func51, Tryz.ntmps51
 go_wp2_with fail
 go_ret
 exact ⟨rfl, rfl⟩
end Go.Proofs.YtfafhbgkmlmmdaaGreatDoor
