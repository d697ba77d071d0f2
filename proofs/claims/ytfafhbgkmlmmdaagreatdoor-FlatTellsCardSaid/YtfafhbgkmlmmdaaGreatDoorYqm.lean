/-
  What the rows of flat lean on, part m.
-/
import Derived.Test.YtfafhbgkmlmmdaaGreatDoorYql
set_option maxRecDepth 100000
set_option maxHeartbeats 40000000
namespace Go.Proofs.YtfafhbgkmlmmdaaGreatDoor
open Go.RowKit Go.Shelf Go.Lib Go.Maps Go.Great
attribute [local go_sem] Oper.semAt_some
attribute [local irreducible] NR ZNR FR nmE
abbrev U : Value := undef
abbrev pt (b o : Nat) : Value := .pointer (some ⟨b, o, none⟩)
abbrev yl (l : Nat) : Value := .func (.yield l) #[] #[]
theorem each_hands (n : Nat) (hn : 4 ≤ n) (xs : List Nat) (A : Option Addr) (cap bb B0 : Nat) (X : Nat → Prop) (w : World) (hx : BY w B0 xs A cap) (hl : xs.length ≤ 100000) (hM : G.MX w) (hT : S.Tabs w) (hB : 5 ≤ B0) (hbb : Cells w bb 22 #[.slice A xs.length cap]) (hB0 : B0 ≤ bb)
  (hX : ∀ k, X k → B0 ≤ k ∧ k ≠ bb) : HandsT n 80 #[.pointer (some ⟨bb, 0, none⟩)] (eachL xs) X w := by
 intro l Xc J Jx W hb hXc sJ sX oJ oX hY h0
 have hbl := hbb.lt
 have hsz := hb.size
 obtain ⟨W1, hW1⟩ : ∃ V, W.alloc (.cells #[.func (.yield l) #[] #[]] 116) = V := ⟨_, rfl⟩
 obtain ⟨Wa, hWa⟩ : ∃ V, W1.alloc (.cells #[.int .i64 0] 3) = V := ⟨_, rfl⟩
 obtain ⟨W2, hW2⟩ : ∃ V, Wa.setCell ⟨W.heap.size + 1, 0, none⟩ (.int .i64 0) = V := ⟨_, rfl⟩
 have b1 : Below W.heap.size W W1 := by rw [← hW1]; exact below_new W _
 have s1 : W1.heap.size = W.heap.size + 1 := by rw [← hW1]; simp
 have y1 : Cells W1 W.heap.size 116 #[.func (.yield l) #[] #[]] := by rw [← hW1]; exact cells_new _ _ _
 have ea : Cells Wa (W.heap.size + 1) 3 #[.int .i64 0] := by rw [← s1, ← hWa]; exact cells_new W1 _ _
 have b12 : Below W1.heap.size W1 W2 := by rw [← hW2, ← hWa]; exact (below_new W1 _).setc (by omega) 0 _
 have b2 : Below W.heap.size W W2 := b1.trans (b12.mono (by omega))
 have s2 : W2.heap.size = W.heap.size + 2 := by rw [← hW2, ← hWa]; simp [s1]
 have y2 : Cells W2 W.heap.size 116 #[.func (.yield l) #[] #[]] := y1.on b12
 have e2 : Cells W2 (W.heap.size + 1) 3 #[.int .i64 0] := by rw [← hW2]; exact ea.set 0 _
 have bw2 : Below w.heap.size w W2 := hb.trans (b2.mono hsz)
 have c2 : Cells W2 bb 22 #[.slice A xs.length cap] := hbb.on bw2
 obtain ⟨W3, hW3⟩ : ∃ V, W2.alloc (.cells #[.slice A xs.length cap] 22) = V := ⟨_, rfl⟩
 have b23 : Below W2.heap.size W2 W3 := by rw [← hW3]; exact below_new W2 _
 have m3 : Cells W3 W2.heap.size 22 #[.slice A xs.length cap] := by rw [← hW3]; exact cells_new _ _ _
 have s3 : W3.heap.size = W.heap.size + 3 := by rw [← hW3]; simp [s2]
 have b3 : Below W.heap.size W W3 := b2.trans (b23.mono (by omega))
 have bw3 : Below w.heap.size w W3 := hb.trans (b3.mono hsz)
 have y3 := y2.on b23
 have e3 := e2.on b23
 have c3 := c2.on b23
 -- what a round of marks may change
 obtain ⟨X', hX'⟩ : ∃ Y : Nat → Prop, Y = fun k => k = W.heap.size + 1 ∨ Xc k := ⟨_, rfl⟩
 have hXl : ∀ k, X' k → k < W3.heap.size := fun k hk => by
  rw [hX'] at hk
  rcases hk with rfl | hk
  ·omega
  ·have := (hXc k hk).1
   omega
 have hXb : ∀ k, X' k → B0 ≤ k ∧ k ≠ W2.heap.size := fun k hk => by
  rw [hX'] at hk
  rcases hk with rfl | hk
  ·omega
  ·have h1 := (hXc k hk).1
   rcases (hXc k hk).2 with h2 | h2
   ·have := (hX k h2).1
    omega
   ·omega
 have hnb : ¬ X' bb := fun hk => by
  rw [hX'] at hk
  rcases hk with h | hk
  ·omega
  ·rcases (hXc _ hk).2 with h2 | h2
   ·exact (hX _ h2).2 rfl
   ·omega
 have hny : ¬ X' W.heap.size := fun hk => by
  rw [hX'] at hk
  rcases hk with h | hk
  ·omega
  ·have := (hXc _ hk).1
   omega
 have HM := fun n2 (h2 : 2 ≤ n2) => marks_hands n2 h2 xs A cap W2.heap.size B0 X' W3 (hx.below (bw3.mono (by omega))) hl (hM.on (B := w.heap.size) (by have := hM.pos; omega) bw3) (hT.below bw3 (by have := hT.2; omega)) hB m3 (by omega) hXb
 -- the caller's word, between two tokens of marks
 obtain ⟨I, hI⟩ : ∃ I : List TK → Option Nat → World → Prop, I = fun pre ob V => J (outF 0 pre) ob V ∧ Cells V W.heap.size 116 #[.func (.yield l) #[] #[]] ∧ Cells V (W.heap.size + 1) 3 #[.int .i64 ((endF 0 pre : Nat) : Int)] ∧ (∀ k, ob = some k → W.heap.size + 5 ≤ k ∧ k < V.heap.size) ∧ W.heap.size + 3 ≤ V.heap.size := ⟨_, rfl⟩
 obtain ⟨Ix, hIx⟩ : ∃ I : List TK → Option Nat → World → Prop, I = fun pre ob V => (∃ q, q <+: eachL xs ∧ Jx q ob V) ∧ (∀ k, ob = some k → W.heap.size + 5 ≤ k ∧ k < V.heap.size) := ⟨_, rfl⟩
 have sI : Stab W3.heap.size I := fun pre ob V V' hv h1 h2 h3 h4 h5 => by
  rw [hI] at hv ⊢
  obtain ⟨v1, v2, v3, v4, v5⟩ := hv
  exact ⟨(sJ.mono (by omega)) _ ob V V' v1 h1 h2 h3 h4 (fun k hk hc => h5 k hk hc), (h5 _ v2.lt (.inl (by omega))).trans v2, (h5 _ v3.lt (.inl (by omega))).trans v3, fun k hk => ⟨(v4 k hk).1, by have := (v4 k hk).2; omega⟩, by omega⟩
 have sIx : Stab W3.heap.size Ix := fun pre ob V V' hv h1 h2 h3 h4 h5 => by
  rw [hIx] at hv ⊢
  obtain ⟨⟨q, hq, v1⟩, v4⟩ := hv
  exact ⟨⟨q, hq, (sX.mono (by omega)) q ob V V' v1 h1 h2 h3 h4 (fun k hk hc => h5 k hk hc)⟩, fun k hk => ⟨(v4 k hk).1, by have := (v4 k hk).2; omega⟩⟩
 have oI : ObIn (W3.heap.size + 2) I := fun pre k V hv => by
  rw [hI] at hv
  have := hv.2.2.2.1 k rfl
  exact ⟨by omega, this.2⟩
 have oIx : ObIn (W3.heap.size + 2) Ix := fun pre k V hv => by
  rw [hIx] at hv
  have := hv.2 k rfl
  exact ⟨by omega, this.2⟩
 have hi0 : I [] none W3 := by
  rw [hI]
  exact ⟨sJ.of_below h0 b3, y3, e3, fun k e => (by cases e), by omega⟩
 have fin : ∀ (ob' : Option Nat) (V' : World), Fr Xc none ob' W V' → (∀ k, ob' = some k → W.heap.size + 4 ≤ k ∧ k < V'.heap.size) → (J (eachL xs) ob' V' ∨ ∃ pre, pre <+: eachL xs ∧ Jx pre ob' V') →
   ∃ ob, Fr Xc none ob W (V'.putObj (W.heap.size + 3) (.deferred none)) ∧ (J (eachL xs) ob (V'.putObj (W.heap.size + 3) (.deferred none)) ∨ ∃ pre, pre <+: eachL xs ∧ Jx pre ob (V'.putObj (W.heap.size + 3) (.deferred none))) := by
  intro ob' V' hf hob hj
  refine ⟨ob', hf.putl _ _ (by omega), ?_⟩
  rcases hj with hj | ⟨pre, hp, hj⟩
  ·exact .inl (sJ.put hj _ _ (by omega) (fun e => by have := hob _ e; omega))
  ·exact .inr ⟨pre, hp, sX.put hj _ _ (by omega) (fun e => by have := hob _ e; omega)⟩
 have hN2 := hx.l
 have hmx := hx.m
 unfold maxLen at hmx
 obtain ⟨N, hN⟩ : ∃ N, xs.length = N := ⟨_, rfl⟩
 rw [hN] at hl hbb c2 hW3 m3 c3 hN2
 have p0 := y3.cell 0
 have p1 := e3.cell 0
 have pb := c2.cell 0
 have pb3 := c3.cell 0
 have q1 := e2.cell 0
 simp at p0 p1 pb pb3 q1
 refine callsIn_of_wp_marks Tryz.func80 rfl trivial ?_ rfl
 simp only [Tryz.ntmps80, List.size_toArray, List.length_cons, List.length_nil, Nat.reduceAdd, Nat.reduceSub, Array.replicate_succ, Array.replicate_zero, List.push_toArray, List.append_toArray, List.nil_append, List.cons_append]
 have qa := ea.cell 0
 simp at qa
 have fa := ea.froz 0
 gi_wp2_with (fail)
 refine ⟨trivial, fun _ => by omega, ?_⟩
 gi_at_call 81
 refine (callsIn_wide.2 (marks_any A N cap W2)).mono ?_
 rintro e _ ⟨rfl, rfl⟩
 rw [hW3]
 gi_wp2_with (fail)
 refine wpIn_handsT (X := X') (xs := marksL xs 0) (by omega) (gf := 100) (lb := #[.pointer (some ⟨W.heap.size + 2, 0, none⟩)]) rfl (enters_of Tryz.func100 (by kernel_rfl) rfl) (by have := HM (n - 1) (by omega); rw [s2] at this; exact this) hXl rfl I Ix sI sIx oI oIx hi0
  (fun x p => { tmps := #[.func (.yield l) #[] #[], .pointer (some ⟨bb, 0, none⟩), .pointer (some ⟨W.heap.size, 0, none⟩), .pointer (some ⟨W.heap.size + 1, 0, none⟩), .pointer (some ⟨p, 0, none⟩), .slice A N cap, .func (.func 100) #[] #[.pointer (some ⟨W.heap.size + 2, 0, none⟩)], tokV x, undef, undef, undef, undef, undef, undef, undef, undef, undef, undef, undef, undef, undef, undef, undef, undef, undef, undef, undef, undef, undef, undef, undef, undef, undef, undef, undef, undef, undef], defers := [] }) ?assign ?body ?done ?stop
 case assign =>
  intro l1 x V K hK
  unfold tokV tokC
  unfold tokV tokC at hK
  gi_wp2_with (fail)
  exact hK
 case body =>
  intro l1 pre ob x p V hi hpre xV hp hob
  have hmx : Tryz.prog.follows .mixedOrders = true := by kernel_rfl
  rw [hI] at hi
  obtain ⟨jV, yV, eV, obV, szV⟩ := hi
  obtain ⟨ee, hee⟩ : ∃ k, endF 0 pre = k := ⟨_, rfl⟩
  rw [hee] at eV
  obtain ⟨tv, htv⟩ : ∃ v, tokV x = v := ⟨_, rfl⟩
  have htv2 := htv
  unfold tokV at htv2
  have htc : (tokC x) = #[.int .i64 (x.kind : Int), .int .i64 (x.fr : Int), .int .i64 (x.to : Int), .string ⟨(G.u8s x.name).toArray⟩, .int .i32 x.r, .bool x.sg] := rfl
  rw [htc] at htv2 xV
  obtain ⟨SN, hSN⟩ : ∃ Sx : ByteArray, ⟨(G.u8s x.name).toArray⟩ = Sx := ⟨_, rfl⟩
  obtain ⟨kd, hkd⟩ : ∃ n, x.kind = n := ⟨_, rfl⟩
  obtain ⟨sg, hsg⟩ : ∃ n, x.sg = n := ⟨_, rfl⟩
  obtain ⟨fr, hfr⟩ : ∃ n, x.fr = n := ⟨_, rfl⟩
  obtain ⟨te, hte⟩ : ∃ n, x.to = n := ⟨_, rfl⟩
  obtain ⟨rr, hrr⟩ : ∃ n, x.r = n := ⟨_, rfl⟩
  rw [hSN, hkd, hsg, hfr, hte, hrr] at xV htv2
  dsimp only
  rw [htv]
  have hlo : ∀ {o o' : Option Nat} {A' B' : World}, (∀ k, o = some k → W.heap.size + 5 ≤ k ∧ k < A'.heap.size) → W.heap.size + 5 ≤ A'.heap.size → Fr Xc o o' A' B' → ∀ k, o' = some k → W.heap.size + 5 ≤ k ∧ k < B'.heap.size := fun {o o' A' B'} ho hA hf k hk => by
   rcases hf.ob with e | ⟨m, e, h1, h2⟩
   ·have := ho k (e.symm.trans hk)
    have := hf.size
    omega
   ·obtain rfl : m = k := by have := e.symm.trans hk; injection this
    omega
  have hVp := xV.lt
  have kX : ∀ k, W.heap.size ≤ k → ¬ Xc k := fun k hk hx => by have := (hXc k hx).1; omega
  have XX : ∀ k, Xc k → X' k := fun k hk => by rw [hX']; exact .inr hk
  have XE : X' (W.heap.size + 1) := by rw [hX']; exact .inl rfl
  have HI := Lib.hid (And.intro hI (And.intro hIx (And.intro hX' (And.intro sJ (And.intro sX (And.intro hY (And.intro XX XE)))))))
  have HP := Lib.hid (And.intro hpre (And.intro hee (And.intro hfr (And.intro hte (And.intro htv htv2)))))
  have HG := Lib.hid (And.intro hSN (And.intro hkd (And.intro hsg hrr)))
  have HO := Lib.hid (And.intro hx (And.intro hM (And.intro hT (And.intro sI (And.intro sIx (And.intro oI (And.intro oIx hi0)))))))
  clear hI hIx hX' sJ sX hY XX XE hpre hee hfr hte htv htv2 hSN hkd hsg hrr hx hM hT sI sIx oI oIx hi0 HM
  clear hW1 hWa hW2 hW3 b1 s1 y1 ea b12 b2 y2 e2 bw2 c2 b23 m3 b3 bw3 y3 e3 c3 hXl hXb hnb hny h0 hXc oJ oX hb hbb hX p0 p1 pb pb3 q1 qa fa htc
  gi_wp2_with (fail)
  refine wpIn_region_named hmx ?_
  intro O K hO hK
  -- what stands behind it, the text handed on or none there
  have hEnd : ∀ (u0 u1 u2 u3 u4 u5 u6 u7 u8 u9 u10 u11 : Value) (ob' : Option Nat) (V' : World), J (outF 0 pre ++ txs ee fr) ob' V' → Fr Xc ob ob' V V' → K .normal { tmps := #[.func (.yield l) #[] #[], .pointer (some ⟨bb, 0, none⟩), .pointer (some ⟨W.heap.size, 0, none⟩), .pointer (some ⟨W.heap.size + 1, 0, none⟩), .pointer (some ⟨p, 0, none⟩), .slice A N cap, .func (.func 100) #[] #[.pointer (some ⟨W.heap.size + 2, 0, none⟩)], tv, u0, u1, u2, u3, u4, u5, u6, u7, u8, u9, u10, u11, .bool false, undef, undef, undef, undef, undef, undef, undef, undef, undef, undef, undef, undef, undef, undef, undef, undef], defers := [] } V' := by
   intro u0 u1 u2 u3 u4 u5 u6 u7 u8 u9 u10 u11 ob' V' j1 f1
   rw [hK]
   clear hO hK
   have hsz1 := f1.size
   have y1 : Cells V' W.heap.size 116 #[.func (.yield l) #[] #[]] := (f1.same _ yV.lt (kX _ (Nat.le_refl _)) (fun e => by have := obV _ e; omega)).trans yV
   have e1 : Cells V' (W.heap.size + 1) 3 #[.int .i64 (ee : Int)] := (f1.same _ eV.lt (kX _ (by omega)) (fun e => by have := obV _ e; omega)).trans eV
   have x1 := (f1.same _ hVp (kX _ (by omega)) hob).trans xV
   replace x1 : Cells V' p 35 #[.int .i64 (kd : Int), .int .i64 (fr : Int), .int .i64 (te : Int), .string SN, .int .i32 rr, .bool sg] := x1
   have hpf : (outF 0 pre ++ txs ee fr) ++ [x] <+: eachL xs := by
    have := outF_eachL HP.out.1
    rw [outF_snoc, HP.out.2.1, HP.out.2.2.1] at this
    exact this
   obtain ⟨fn, tmps, assign, body, hy, hR⟩ := HI.out.2.2.2.2.2.1 _ ob' x V' j1 (by omega) hpf
   rw [HP.out.2.2.2.2.1, ← HP.out.2.2.2.2.2] at hy
   have ob1 := hlo obV (by omega) f1
   have g0 := y1.cell 0
   have q0 := x1.cell 0
   have q1 := x1.cell 1
   have q2 := x1.cell 2
   have q3 := x1.cell 3
   have q4 := x1.cell 4
   have q5 := x1.cell 5
   simp at g0 q0 q1 q2 q3 q4 q5
   have H2 := Lib.hid (And.intro y1 (And.intro e1 (And.intro x1 (And.intro hR (And.intro f1 hpf)))))
   clear y1 e1 x1 hR f1 j1 hpf
   gi_wp2_with (fail)
   refine ⟨fun h => (by cases h), ?_⟩
   refine (round_any rfl H2.out.2.2.2.1).mono ?_
   rintro e V3 (⟨rfl, ob3, j3, f3⟩ | ⟨rfl, ob3, j3, f3⟩)
   ·have hsz3 := f3.size
    have y3 : Cells V3 W.heap.size 116 #[.func (.yield l) #[] #[]] := (f3.same _ H2.out.1.lt (kX _ (Nat.le_refl _)) (fun e => by have := ob1 _ e; omega)).trans H2.out.1
    have e3 : Cells V3 (W.heap.size + 1) 3 #[.int .i64 (ee : Int)] := (f3.same _ H2.out.2.1.lt (kX _ (by omega)) (fun e => by have := ob1 _ e; omega)).trans H2.out.2.1
    have hob1 : ob' ≠ some p := fun e => by
     rcases H2.out.2.2.2.2.1.ob with e2 | ⟨m, e2, h1, _⟩
     ·exact hob (e2.symm.trans e)
     ·have := e2.symm.trans e
      injection this with this
      omega
    have x3 := (f3.same _ H2.out.2.2.1.lt (kX _ (by omega)) hob1).trans H2.out.2.2.1
    replace x3 : Cells V3 p 35 #[.int .i64 (kd : Int), .int .i64 (fr : Int), .int .i64 (te : Int), .string SN, .int .i32 rr, .bool sg] := x3
    have ob3' := hlo ob1 (by omega) f3
    have r2 := x3.cell 2
    have r0 := e3.cell 0
    have rf := e3.froz 0
    simp at r2 r0
    have H3 := Lib.hid (And.intro y3 (And.intro e3 (And.intro j3 f3)))
    clear y3 e3 j3 f3 x3 hy
    gi_wp2_with (fail)
    refine ⟨ob3, ?_, ?_⟩
    ·rw [HI.out.1]
     refine ⟨?_, (Below.heap_setCell _ _ _ _ (fun e => by simp at e)).trans H3.out.1, ?_, fun k hk => ?_, by rw [World.size_setCell]; omega⟩
     ·rw [outF_snoc, HP.out.2.1, HP.out.2.2.1]
      exact HI.out.2.2.2.1.setc H3.out.2.2.1 _ 0 _ (by omega) (fun e => by have := ob3' _ e; omega)
     ·rw [endF_snoc, HP.out.2.2.2.1]
      exact H3.out.2.1.set 0 _
     ·have := ob3' k hk
      rw [World.size_setCell]
      exact this
    ·exact ((H2.out.2.2.2.2.1.trans H3.out.2.2.2).mono HI.out.2.2.2.2.2.2.1).trans (Fr.setc _ _ _ _ HI.out.2.2.2.2.2.2.2)
   ·have ob3' := hlo ob1 (by omega) f3
    have H3 := Lib.hid (And.intro j3 f3)
    clear j3 f3 hy
    gi_wp2_with (fail)
    refine ⟨ob3, ?_, (H2.out.2.2.2.2.1.trans H3.out.2).mono HI.out.2.2.2.2.2.2.1⟩
    rw [HI.out.2.1]
    exact ⟨⟨_, H2.out.2.2.2.2.2, H3.out.1⟩, ob3'⟩
  by_cases he : ee < fr
  case neg =>
   have i1 : ¬ (ee : Int) < (fr : Int) := by omega
   have htx : txs ee fr = [] := by unfold txs; rw [if_neg he]
   have sE : ∀ V' : World, V' = V.drew → wpAnyIn (Fence.wide.inRound l1) (n - 1 - 1) Tryz.prog .any O K 0 #[true, true, true, true, true, true, true, true, true, true, true, true, true] { tmps := #[.func (.yield l) #[] #[], .pointer (some ⟨bb, 0, none⟩), .pointer (some ⟨W.heap.size, 0, none⟩), .pointer (some ⟨W.heap.size + 1, 0, none⟩), .pointer (some ⟨p, 0, none⟩), .slice A N cap, .func (.func 100) #[] #[.pointer (some ⟨W.heap.size + 2, 0, none⟩)], tv, .int .i64 (ee : Int), .pointer (some ⟨p, 1, none⟩), .int .i64 (fr : Int), .bool false, .bool false, undef, undef, undef, undef, undef, undef, undef, .bool false, undef, undef, undef, undef, undef, undef, undef, undef, undef, undef, undef, undef, undef, undef, undef, undef], defers := [] } V' := by
    intro V' hc
    subst hc
    subst hO
    refine wpAnyIn_done (by kernel_rfl) (hEnd _ _ _ _ _ _ _ _ _ _ _ _ ob V.drew ?_ ?_) _
    ·rw [htx, List.append_nil]
     exact HI.out.2.2.2.1.of_below jV (Below.refl _ V).drew
    ·exact Fr.of_below (Below.refl _ V).drew
   have s0123456789ab : ∀ V' : World, (· = V.drew) V' → wpAnyIn (Fence.wide.inRound l1) (n - 1 - 1) Tryz.prog .any O K 1 #[true, true, true, true, true, true, true, true, true, true, true, true, false] { tmps := #[.func (.yield l) #[] #[], .pointer (some ⟨bb, 0, none⟩), .pointer (some ⟨W.heap.size, 0, none⟩), .pointer (some ⟨W.heap.size + 1, 0, none⟩), .pointer (some ⟨p, 0, none⟩), .slice A N cap, .func (.func 100) #[] #[.pointer (some ⟨W.heap.size + 2, 0, none⟩)], tv, .int .i64 (ee : Int), .pointer (some ⟨p, 1, none⟩), .int .i64 (fr : Int), .bool false, .bool false, undef, undef, undef, undef, undef, undef, undef, undef, undef, undef, undef, undef, undef, undef, undef, undef, undef, undef, undef, undef, undef, undef, undef, undef], defers := [] } V' := by
    intro V' hc
    subst hc
    have c0 := (yV.on (Below.refl _ V).drew).cell 0
    have c1 := (eV.on (Below.refl _ V).drew).cell 0
    have c2 := (xV.on (Below.refl _ V).drew).cell 1
    simp at c0 c1 c2
    subst hO
    refine wpAnyIn_ready (rs := [12]) (by kernel_rfl) (by simp) ?_
    refine AllReadyIn.cons rfl (fun K' hK' => ?_) ?_
    ·go_simp
     exact hK' _ _ (sE _ rfl)
    exact AllReadyIn.nil
   have s0123456789a : ∀ V' : World, (· = V.drew) V' → wpAnyIn (Fence.wide.inRound l1) (n - 1 - 1) Tryz.prog .any O K 2 #[true, true, true, true, true, true, true, true, true, true, true, false, false] { tmps := #[.func (.yield l) #[] #[], .pointer (some ⟨bb, 0, none⟩), .pointer (some ⟨W.heap.size, 0, none⟩), .pointer (some ⟨W.heap.size + 1, 0, none⟩), .pointer (some ⟨p, 0, none⟩), .slice A N cap, .func (.func 100) #[] #[.pointer (some ⟨W.heap.size + 2, 0, none⟩)], tv, .int .i64 (ee : Int), .pointer (some ⟨p, 1, none⟩), .int .i64 (fr : Int), .bool false, .bool false, undef, undef, undef, undef, undef, undef, undef, undef, undef, undef, undef, undef, undef, undef, undef, undef, undef, undef, undef, undef, undef, undef, undef, undef], defers := [] } V' := by
    intro V' hc
    subst hc
    have c0 := (yV.on (Below.refl _ V).drew).cell 0
    have c1 := (eV.on (Below.refl _ V).drew).cell 0
    have c2 := (xV.on (Below.refl _ V).drew).cell 1
    simp at c0 c1 c2
    subst hO
    refine wpAnyIn_ready (rs := [11]) (by kernel_rfl) (by simp) ?_
    refine AllReadyIn.cons rfl (fun K' hK' => ?_) ?_
    ·go_simp
     exact hK' _ _ (s0123456789ab _ rfl)
    exact AllReadyIn.nil
   have s0123456789 : ∀ V' : World, (· = V.drew) V' → wpAnyIn (Fence.wide.inRound l1) (n - 1 - 1) Tryz.prog .any O K 3 #[true, true, true, true, true, true, true, true, true, true, false, false, false] { tmps := #[yl l, pt bb 0, pt (W.heap.size) 0, pt (W.heap.size + 1) 0, pt p 0, .slice A N cap, .func (.func 100) #[] #[pt (W.heap.size + 2) 0], tv, .int .i64 (ee : Int), pt p 1, .int .i64 (fr : Int), .bool false, .bool false, U, U, U, U, U, U, U, U, U, U, U, U, U, U, U, U, U, U, U, U, U, U, U, U], defers := [] } V' := by
    intro V' hc
    subst hc
    have c0 := (yV.on (Below.refl _ V).drew).cell 0
    have c1 := (eV.on (Below.refl _ V).drew).cell 0
    have c2 := (xV.on (Below.refl _ V).drew).cell 1
    simp at c0 c1 c2
    subst hO
    refine wpAnyIn_ready (rs := [10]) (by kernel_rfl) (by simp) ?_
    refine AllReadyIn.cons rfl (fun K' hK' => ?_) ?_
    ·go_simp
     refine ⟨fun _ h => ?_, hK' _ _ (s0123456789a _ rfl)⟩
     cases h
    exact AllReadyIn.nil
   have s012345678 : ∀ V' : World, (· = V.drew) V' → wpAnyIn (Fence.wide.inRound l1) (n - 1 - 1) Tryz.prog .any O K 4 #[true, true, true, true, true, true, true, true, true, false, false, false, false] { tmps := #[yl l, pt bb 0, pt (W.heap.size) 0, pt (W.heap.size + 1) 0, pt p 0, .slice A N cap, .func (.func 100) #[] #[pt (W.heap.size + 2) 0], tv, .int .i64 (ee : Int), pt p 1, .int .i64 (fr : Int), .bool false, .bool false, U, U, U, U, U, U, U, U, U, U, U, U, U, U, U, U, U, U, U, U, U, U, U, U], defers := [] } V' := by
    intro V' hc
    subst hc
    have c0 := (yV.on (Below.refl _ V).drew).cell 0
    have c1 := (eV.on (Below.refl _ V).drew).cell 0
    have c2 := (xV.on (Below.refl _ V).drew).cell 1
    simp at c0 c1 c2
    subst hO
    refine wpAnyIn_ready (rs := [9]) (by kernel_rfl) (by simp) ?_
    refine AllReadyIn.cons rfl (fun K' hK' => ?_) ?_
    ·go_simp
     refine ⟨trivial, hK' _ _ (s0123456789 _ rfl)⟩
    exact AllReadyIn.nil
   have s012346789 : ∀ V' : World, (· = V.drew) V' → wpAnyIn (Fence.wide.inRound l1) (n - 1 - 1) Tryz.prog .any O K 4 #[true, true, true, true, true, false, true, true, true, true, false, false, false] { tmps := #[yl l, pt bb 0, pt (W.heap.size) 0, pt (W.heap.size + 1) 0, pt p 0, .slice A N cap, .func (.func 100) #[] #[pt (W.heap.size + 2) 0], tv, .int .i64 (ee : Int), pt p 1, .int .i64 (fr : Int), .bool false, .bool false, U, U, U, U, U, U, U, U, U, U, U, U, U, U, U, U, U, U, U, U, U, U, U, U], defers := [] } V' := by
    intro V' hc
    subst hc
    have c0 := (yV.on (Below.refl _ V).drew).cell 0
    have c1 := (eV.on (Below.refl _ V).drew).cell 0
    have c2 := (xV.on (Below.refl _ V).drew).cell 1
    simp at c0 c1 c2
    subst hO
    refine wpAnyIn_ready (rs := [5]) (by kernel_rfl) (by simp) ?_
    refine AllReadyIn.cons rfl (fun K' hK' => ?_) ?_
    ·go_simp
     exact hK' _ _ (s0123456789 _ rfl)
    exact AllReadyIn.nil
   have s01234678 : ∀ V' : World, (· = V.drew) V' → wpAnyIn (Fence.wide.inRound l1) (n - 1 - 1) Tryz.prog .any O K 5 #[true, true, true, true, true, false, true, true, true, false, false, false, false] { tmps := #[yl l, pt bb 0, pt (W.heap.size) 0, pt (W.heap.size + 1) 0, pt p 0, .slice A N cap, .func (.func 100) #[] #[pt (W.heap.size + 2) 0], tv, .int .i64 (ee : Int), pt p 1, .int .i64 (fr : Int), .bool false, .bool false, U, U, U, U, U, U, U, U, U, U, U, U, U, U, U, U, U, U, U, U, U, U, U, U], defers := [] } V' := by
    intro V' hc
    subst hc
    have c0 := (yV.on (Below.refl _ V).drew).cell 0
    have c1 := (eV.on (Below.refl _ V).drew).cell 0
    have c2 := (xV.on (Below.refl _ V).drew).cell 1
    simp at c0 c1 c2
    subst hO
    refine wpAnyIn_ready (rs := [5, 9]) (by kernel_rfl) (by simp) ?_
    refine AllReadyIn.cons rfl (fun K' hK' => ?_) ?_
    ·go_simp
     exact hK' _ _ (s012345678 _ rfl)
    refine AllReadyIn.cons rfl (fun K' hK' => ?_) ?_
    ·go_simp
     refine ⟨trivial, hK' _ _ (s012346789 _ rfl)⟩
    exact AllReadyIn.nil
   have s01234578 : ∀ V' : World, (· = V.drew) V' → wpAnyIn (Fence.wide.inRound l1) (n - 1 - 1) Tryz.prog .any O K 5 #[true, true, true, true, true, true, false, true, true, false, false, false, false] { tmps := #[yl l, pt bb 0, pt (W.heap.size) 0, pt (W.heap.size + 1) 0, pt p 0, .slice A N cap, .func (.func 100) #[] #[pt (W.heap.size + 2) 0], tv, .int .i64 (ee : Int), pt p 1, .int .i64 (fr : Int), .bool false, .bool false, U, U, U, U, U, U, U, U, U, U, U, U, U, U, U, U, U, U, U, U, U, U, U, U], defers := [] } V' := by
    intro V' hc
    subst hc
    have c0 := (yV.on (Below.refl _ V).drew).cell 0
    have c1 := (eV.on (Below.refl _ V).drew).cell 0
    have c2 := (xV.on (Below.refl _ V).drew).cell 1
    simp at c0 c1 c2
    subst hO
    refine wpAnyIn_ready (rs := [6]) (by kernel_rfl) (by simp) ?_
    refine AllReadyIn.cons rfl (fun K' hK' => ?_) ?_
    ·go_simp
     exact hK' _ _ (s012345678 _ rfl)
    exact AllReadyIn.nil
   have s01234567 : ∀ V' : World, (· = V.drew) V' → wpAnyIn (Fence.wide.inRound l1) (n - 1 - 1) Tryz.prog .any O K 5 #[true, true, true, true, true, true, true, true, false, false, false, false, false] { tmps := #[yl l, pt bb 0, pt (W.heap.size) 0, pt (W.heap.size + 1) 0, pt p 0, .slice A N cap, .func (.func 100) #[] #[pt (W.heap.size + 2) 0], tv, .int .i64 (ee : Int), pt p 1, .int .i64 (fr : Int), .bool false, .bool false, U, U, U, U, U, U, U, U, U, U, U, U, U, U, U, U, U, U, U, U, U, U, U, U], defers := [] } V' := by
    intro V' hc
    subst hc
    have c0 := (yV.on (Below.refl _ V).drew).cell 0
    have c1 := (eV.on (Below.refl _ V).drew).cell 0
    have c2 := (xV.on (Below.refl _ V).drew).cell 1
    simp at c0 c1 c2
    subst hO
    refine wpAnyIn_ready (rs := [8]) (by kernel_rfl) (by simp) ?_
    refine AllReadyIn.cons rfl (fun K' hK' => ?_) ?_
    ·go_simp
     exact hK' _ _ (s012345678 _ rfl)
    exact AllReadyIn.nil
   have s0123467 : ∀ V' : World, (· = V.drew) V' → wpAnyIn (Fence.wide.inRound l1) (n - 1 - 1) Tryz.prog .any O K 6 #[true, true, true, true, true, false, true, true, false, false, false, false, false] { tmps := #[yl l, pt bb 0, pt (W.heap.size) 0, pt (W.heap.size + 1) 0, pt p 0, .slice A N cap, .func (.func 100) #[] #[pt (W.heap.size + 2) 0], tv, .int .i64 (ee : Int), pt p 1, .int .i64 (fr : Int), .bool false, .bool false, U, U, U, U, U, U, U, U, U, U, U, U, U, U, U, U, U, U, U, U, U, U, U, U], defers := [] } V' := by
    intro V' hc
    subst hc
    have c0 := (yV.on (Below.refl _ V).drew).cell 0
    have c1 := (eV.on (Below.refl _ V).drew).cell 0
    have c2 := (xV.on (Below.refl _ V).drew).cell 1
    simp at c0 c1 c2
    subst hO
    refine wpAnyIn_ready (rs := [5, 8]) (by kernel_rfl) (by simp) ?_
    refine AllReadyIn.cons rfl (fun K' hK' => ?_) ?_
    ·go_simp
     exact hK' _ _ (s01234567 _ rfl)
    refine AllReadyIn.cons rfl (fun K' hK' => ?_) ?_
    ·go_simp
     exact hK' _ _ (s01234678 _ rfl)
    exact AllReadyIn.nil
   have s0123478 : ∀ V' : World, (· = V.drew) V' → wpAnyIn (Fence.wide.inRound l1) (n - 1 - 1) Tryz.prog .any O K 6 #[true, true, true, true, true, false, false, true, true, false, false, false, false] { tmps := #[yl l, pt bb 0, pt (W.heap.size) 0, pt (W.heap.size + 1) 0, pt p 0, .slice A N cap, .func (.func 100) #[] #[pt (W.heap.size + 2) 0], tv, .int .i64 (ee : Int), pt p 1, .int .i64 (fr : Int), .bool false, .bool false, U, U, U, U, U, U, U, U, U, U, U, U, U, U, U, U, U, U, U, U, U, U, U, U], defers := [] } V' := by
    intro V' hc
    subst hc
    have c0 := (yV.on (Below.refl _ V).drew).cell 0
    have c1 := (eV.on (Below.refl _ V).drew).cell 0
    have c2 := (xV.on (Below.refl _ V).drew).cell 1
    simp at c0 c1 c2
    subst hO
    refine wpAnyIn_ready (rs := [5, 6]) (by kernel_rfl) (by simp) ?_
    refine AllReadyIn.cons rfl (fun K' hK' => ?_) ?_
    ·go_simp
     exact hK' _ _ (s01234578 _ rfl)
    refine AllReadyIn.cons rfl (fun K' hK' => ?_) ?_
    ·go_simp
     exact hK' _ _ (s01234678 _ rfl)
    exact AllReadyIn.nil
   have s0123456 : ∀ V' : World, (· = V.drew) V' → wpAnyIn (Fence.wide.inRound l1) (n - 1 - 1) Tryz.prog .any O K 6 #[true, true, true, true, true, true, true, false, false, false, false, false, false] { tmps := #[yl l, pt bb 0, pt (W.heap.size) 0, pt (W.heap.size + 1) 0, pt p 0, .slice A N cap, .func (.func 100) #[] #[pt (W.heap.size + 2) 0], tv, .int .i64 (ee : Int), pt p 1, .int .i64 (fr : Int), .bool false, .bool false, U, U, U, U, U, U, U, U, U, U, U, U, U, U, U, U, U, U, U, U, U, U, U, U], defers := [] } V' := by
    intro V' hc
    subst hc
    have c0 := (yV.on (Below.refl _ V).drew).cell 0
    have c1 := (eV.on (Below.refl _ V).drew).cell 0
    have c2 := (xV.on (Below.refl _ V).drew).cell 1
    simp at c0 c1 c2
    subst hO
    refine wpAnyIn_ready (rs := [7]) (by kernel_rfl) (by simp) ?_
    refine AllReadyIn.cons rfl (fun K' hK' => ?_) ?_
    ·go_simp
     exact hK' _ _ (s01234567 _ rfl)
    exact AllReadyIn.nil
   have s0123457 : ∀ V' : World, (· = V.drew) V' → wpAnyIn (Fence.wide.inRound l1) (n - 1 - 1) Tryz.prog .any O K 6 #[true, true, true, true, true, true, false, true, false, false, false, false, false] { tmps := #[yl l, pt bb 0, pt (W.heap.size) 0, pt (W.heap.size + 1) 0, pt p 0, .slice A N cap, .func (.func 100) #[] #[pt (W.heap.size + 2) 0], tv, .int .i64 (ee : Int), pt p 1, .int .i64 (fr : Int), .bool false, .bool false, U, U, U, U, U, U, U, U, U, U, U, U, U, U, U, U, U, U, U, U, U, U, U, U], defers := [] } V' := by
    intro V' hc
    subst hc
    have c0 := (yV.on (Below.refl _ V).drew).cell 0
    have c1 := (eV.on (Below.refl _ V).drew).cell 0
    have c2 := (xV.on (Below.refl _ V).drew).cell 1
    simp at c0 c1 c2
    subst hO
    refine wpAnyIn_ready (rs := [6, 8]) (by kernel_rfl) (by simp) ?_
    refine AllReadyIn.cons rfl (fun K' hK' => ?_) ?_
    ·go_simp
     exact hK' _ _ (s01234567 _ rfl)
    refine AllReadyIn.cons rfl (fun K' hK' => ?_) ?_
    ·go_simp
     exact hK' _ _ (s01234578 _ rfl)
    exact AllReadyIn.nil
   have s012346 : ∀ V' : World, (· = V.drew) V' → wpAnyIn (Fence.wide.inRound l1) (n - 1 - 1) Tryz.prog .any O K 7 #[true, true, true, true, true, false, true, false, false, false, false, false, false] { tmps := #[yl l, pt bb 0, pt (W.heap.size) 0, pt (W.heap.size + 1) 0, pt p 0, .slice A N cap, .func (.func 100) #[] #[pt (W.heap.size + 2) 0], tv, .int .i64 (ee : Int), pt p 1, .int .i64 (fr : Int), .bool false, .bool false, U, U, U, U, U, U, U, U, U, U, U, U, U, U, U, U, U, U, U, U, U, U, U, U], defers := [] } V' := by
    intro V' hc
    subst hc
    have c0 := (yV.on (Below.refl _ V).drew).cell 0
    have c1 := (eV.on (Below.refl _ V).drew).cell 0
    have c2 := (xV.on (Below.refl _ V).drew).cell 1
    simp at c0 c1 c2
    subst hO
    refine wpAnyIn_ready (rs := [5, 7]) (by kernel_rfl) (by simp) ?_
    refine AllReadyIn.cons rfl (fun K' hK' => ?_) ?_
    ·go_simp
     exact hK' _ _ (s0123456 _ rfl)
    refine AllReadyIn.cons rfl (fun K' hK' => ?_) ?_
    ·go_simp
     exact hK' _ _ (s0123467 _ rfl)
    exact AllReadyIn.nil
   have s012347 : ∀ V' : World, (· = V.drew) V' → wpAnyIn (Fence.wide.inRound l1) (n - 1 - 1) Tryz.prog .any O K 7 #[true, true, true, true, true, false, false, true, false, false, false, false, false] { tmps := #[yl l, pt bb 0, pt (W.heap.size) 0, pt (W.heap.size + 1) 0, pt p 0, .slice A N cap, .func (.func 100) #[] #[pt (W.heap.size + 2) 0], tv, .int .i64 (ee : Int), pt p 1, .int .i64 (fr : Int), .bool false, .bool false, U, U, U, U, U, U, U, U, U, U, U, U, U, U, U, U, U, U, U, U, U, U, U, U], defers := [] } V' := by
    intro V' hc
    subst hc
    have c0 := (yV.on (Below.refl _ V).drew).cell 0
    have c1 := (eV.on (Below.refl _ V).drew).cell 0
    have c2 := (xV.on (Below.refl _ V).drew).cell 1
    simp at c0 c1 c2
    subst hO
    refine wpAnyIn_ready (rs := [5, 6, 8]) (by kernel_rfl) (by simp) ?_
    refine AllReadyIn.cons rfl (fun K' hK' => ?_) ?_
    ·go_simp
     exact hK' _ _ (s0123457 _ rfl)
    refine AllReadyIn.cons rfl (fun K' hK' => ?_) ?_
    ·go_simp
     exact hK' _ _ (s0123467 _ rfl)
    refine AllReadyIn.cons rfl (fun K' hK' => ?_) ?_
    ·go_simp
     exact hK' _ _ (s0123478 _ rfl)
    exact AllReadyIn.nil
   have s012345 : ∀ V' : World, (· = V.drew) V' → wpAnyIn (Fence.wide.inRound l1) (n - 1 - 1) Tryz.prog .any O K 7 #[true, true, true, true, true, true, false, false, false, false, false, false, false] { tmps := #[yl l, pt bb 0, pt (W.heap.size) 0, pt (W.heap.size + 1) 0, pt p 0, .slice A N cap, .func (.func 100) #[] #[pt (W.heap.size + 2) 0], tv, .int .i64 (ee : Int), pt p 1, .int .i64 (fr : Int), .bool false, .bool false, U, U, U, U, U, U, U, U, U, U, U, U, U, U, U, U, U, U, U, U, U, U, U, U], defers := [] } V' := by
    intro V' hc
    subst hc
    have c0 := (yV.on (Below.refl _ V).drew).cell 0
    have c1 := (eV.on (Below.refl _ V).drew).cell 0
    have c2 := (xV.on (Below.refl _ V).drew).cell 1
    simp at c0 c1 c2
    subst hO
    refine wpAnyIn_ready (rs := [6, 7]) (by kernel_rfl) (by simp) ?_
    refine AllReadyIn.cons rfl (fun K' hK' => ?_) ?_
    ·go_simp
     exact hK' _ _ (s0123456 _ rfl)
    refine AllReadyIn.cons rfl (fun K' hK' => ?_) ?_
    ·go_simp
     exact hK' _ _ (s0123457 _ rfl)
    exact AllReadyIn.nil
   have s01234 : ∀ V' : World, (· = V.drew) V' → wpAnyIn (Fence.wide.inRound l1) (n - 1 - 1) Tryz.prog .any O K 8 #[true, true, true, true, true, false, false, false, false, false, false, false, false] { tmps := #[yl l, pt bb 0, pt (W.heap.size) 0, pt (W.heap.size + 1) 0, pt p 0, .slice A N cap, .func (.func 100) #[] #[pt (W.heap.size + 2) 0], tv, .int .i64 (ee : Int), pt p 1, .int .i64 (fr : Int), .bool false, .bool false, U, U, U, U, U, U, U, U, U, U, U, U, U, U, U, U, U, U, U, U, U, U, U, U], defers := [] } V' := by
    intro V' hc
    subst hc
    have c0 := (yV.on (Below.refl _ V).drew).cell 0
    have c1 := (eV.on (Below.refl _ V).drew).cell 0
    have c2 := (xV.on (Below.refl _ V).drew).cell 1
    simp at c0 c1 c2
    subst hO
    refine wpAnyIn_ready (rs := [5, 6, 7]) (by kernel_rfl) (by simp) ?_
    refine AllReadyIn.cons rfl (fun K' hK' => ?_) ?_
    ·go_simp
     exact hK' _ _ (s012345 _ rfl)
    refine AllReadyIn.cons rfl (fun K' hK' => ?_) ?_
    ·go_simp
     exact hK' _ _ (s012346 _ rfl)
    refine AllReadyIn.cons rfl (fun K' hK' => ?_) ?_
    ·go_simp
     exact hK' _ _ (s012347 _ rfl)
    exact AllReadyIn.nil
   have s0123 : ∀ V' : World, (· = V.drew) V' → wpAnyIn (Fence.wide.inRound l1) (n - 1 - 1) Tryz.prog .any O K 9 #[true, true, true, true, false, false, false, false, false, false, false, false, false] { tmps := #[yl l, pt bb 0, pt (W.heap.size) 0, pt (W.heap.size + 1) 0, pt p 0, .slice A N cap, .func (.func 100) #[] #[pt (W.heap.size + 2) 0], tv, .int .i64 (ee : Int), pt p 1, .int .i64 (fr : Int), .bool false, U, U, U, U, U, U, U, U, U, U, U, U, U, U, U, U, U, U, U, U, U, U, U, U, U], defers := [] } V' := by
    intro V' hc
    subst hc
    have c0 := (yV.on (Below.refl _ V).drew).cell 0
    have c1 := (eV.on (Below.refl _ V).drew).cell 0
    have c2 := (xV.on (Below.refl _ V).drew).cell 1
    simp at c0 c1 c2
    subst hO
    refine wpAnyIn_ready (rs := [4]) (by kernel_rfl) (by simp) ?_
    refine AllReadyIn.cons rfl (fun K' hK' => ?_) ?_
    ·go_simp
     exact hK' _ _ (s01234 _ rfl)
    exact AllReadyIn.nil
   have s012 : ∀ V' : World, (· = V.drew) V' → wpAnyIn (Fence.wide.inRound l1) (n - 1 - 1) Tryz.prog .any O K 10 #[true, true, true, false, false, false, false, false, false, false, false, false, false] { tmps := #[yl l, pt bb 0, pt (W.heap.size) 0, pt (W.heap.size + 1) 0, pt p 0, .slice A N cap, .func (.func 100) #[] #[pt (W.heap.size + 2) 0], tv, .int .i64 (ee : Int), pt p 1, .int .i64 (fr : Int), U, U, U, U, U, U, U, U, U, U, U, U, U, U, U, U, U, U, U, U, U, U, U, U, U, U], defers := [] } V' := by
    intro V' hc
    subst hc
    have c0 := (yV.on (Below.refl _ V).drew).cell 0
    have c1 := (eV.on (Below.refl _ V).drew).cell 0
    have c2 := (xV.on (Below.refl _ V).drew).cell 1
    simp at c0 c1 c2
    subst hO
    refine wpAnyIn_ready (rs := [3]) (by kernel_rfl) (by simp) ?_
    refine AllReadyIn.cons rfl (fun K' hK' => ?_) ?_
    ·go_simp
     exact hK' _ _ (s0123 _ rfl)
    exact AllReadyIn.nil
   have s01 : ∀ V' : World, (· = V.drew) V' → wpAnyIn (Fence.wide.inRound l1) (n - 1 - 1) Tryz.prog .any O K 11 #[true, true, false, false, false, false, false, false, false, false, false, false, false] { tmps := #[yl l, pt bb 0, pt (W.heap.size) 0, pt (W.heap.size + 1) 0, pt p 0, .slice A N cap, .func (.func 100) #[] #[pt (W.heap.size + 2) 0], tv, .int .i64 (ee : Int), pt p 1, U, U, U, U, U, U, U, U, U, U, U, U, U, U, U, U, U, U, U, U, U, U, U, U, U, U, U], defers := [] } V' := by
    intro V' hc
    subst hc
    have c0 := (yV.on (Below.refl _ V).drew).cell 0
    have c1 := (eV.on (Below.refl _ V).drew).cell 0
    have c2 := (xV.on (Below.refl _ V).drew).cell 1
    simp at c0 c1 c2
    subst hO
    refine wpAnyIn_ready (rs := [2]) (by kernel_rfl) (by simp) ?_
    refine AllReadyIn.cons rfl (fun K' hK' => ?_) ?_
    ·go_simp
     exact hK' _ _ (s012 _ rfl)
    exact AllReadyIn.nil
   have s12 : ∀ V' : World, (· = V.drew) V' → wpAnyIn (Fence.wide.inRound l1) (n - 1 - 1) Tryz.prog .any O K 11 #[false, true, true, false, false, false, false, false, false, false, false, false, false] { tmps := #[yl l, pt bb 0, pt (W.heap.size) 0, pt (W.heap.size + 1) 0, pt p 0, .slice A N cap, .func (.func 100) #[] #[pt (W.heap.size + 2) 0], tv, U, pt p 1, .int .i64 (fr : Int), U, U, U, U, U, U, U, U, U, U, U, U, U, U, U, U, U, U, U, U, U, U, U, U, U, U], defers := [] } V' := by
    intro V' hc
    subst hc
    have c0 := (yV.on (Below.refl _ V).drew).cell 0
    have c1 := (eV.on (Below.refl _ V).drew).cell 0
    have c2 := (xV.on (Below.refl _ V).drew).cell 1
    simp at c0 c1 c2
    subst hO
    refine wpAnyIn_ready (rs := [0]) (by kernel_rfl) (by simp) ?_
    refine AllReadyIn.cons rfl (fun K' hK' => ?_) ?_
    ·go_simp
     exact hK' _ _ (s012 _ rfl)
    exact AllReadyIn.nil
   have s1 : ∀ V' : World, (· = V.drew) V' → wpAnyIn (Fence.wide.inRound l1) (n - 1 - 1) Tryz.prog .any O K 12 #[false, true, false, false, false, false, false, false, false, false, false, false, false] { tmps := #[yl l, pt bb 0, pt (W.heap.size) 0, pt (W.heap.size + 1) 0, pt p 0, .slice A N cap, .func (.func 100) #[] #[pt (W.heap.size + 2) 0], tv, U, pt p 1, U, U, U, U, U, U, U, U, U, U, U, U, U, U, U, U, U, U, U, U, U, U, U, U, U, U, U], defers := [] } V' := by
    intro V' hc
    subst hc
    have c0 := (yV.on (Below.refl _ V).drew).cell 0
    have c1 := (eV.on (Below.refl _ V).drew).cell 0
    have c2 := (xV.on (Below.refl _ V).drew).cell 1
    simp at c0 c1 c2
    subst hO
    refine wpAnyIn_ready (rs := [0, 2]) (by kernel_rfl) (by simp) ?_
    refine AllReadyIn.cons rfl (fun K' hK' => ?_) ?_
    ·go_simp
     exact hK' _ _ (s01 _ rfl)
    refine AllReadyIn.cons rfl (fun K' hK' => ?_) ?_
    ·go_simp
     exact hK' _ _ (s12 _ rfl)
    exact AllReadyIn.nil
   have s0 : ∀ V' : World, (· = V.drew) V' → wpAnyIn (Fence.wide.inRound l1) (n - 1 - 1) Tryz.prog .any O K 12 #[true, false, false, false, false, false, false, false, false, false, false, false, false] { tmps := #[yl l, pt bb 0, pt (W.heap.size) 0, pt (W.heap.size + 1) 0, pt p 0, .slice A N cap, .func (.func 100) #[] #[pt (W.heap.size + 2) 0], tv, .int .i64 (ee : Int), U, U, U, U, U, U, U, U, U, U, U, U, U, U, U, U, U, U, U, U, U, U, U, U, U, U, U, U], defers := [] } V' := by
    intro V' hc
    subst hc
    have c0 := (yV.on (Below.refl _ V).drew).cell 0
    have c1 := (eV.on (Below.refl _ V).drew).cell 0
    have c2 := (xV.on (Below.refl _ V).drew).cell 1
    simp at c0 c1 c2
    subst hO
    refine wpAnyIn_ready (rs := [1]) (by kernel_rfl) (by simp) ?_
    refine AllReadyIn.cons rfl (fun K' hK' => ?_) ?_
    ·go_simp
     exact hK' _ _ (s01 _ rfl)
    exact AllReadyIn.nil
   have s : ∀ V' : World, (· = V.drew) V' → wpAnyIn (Fence.wide.inRound l1) (n - 1 - 1) Tryz.prog .any O K 13 #[false, false, false, false, false, false, false, false, false, false, false, false, false] { tmps := #[.func (.yield l) #[] #[], .pointer (some ⟨bb, 0, none⟩), .pointer (some ⟨W.heap.size, 0, none⟩), .pointer (some ⟨W.heap.size + 1, 0, none⟩), .pointer (some ⟨p, 0, none⟩), .slice A N cap, .func (.func 100) #[] #[.pointer (some ⟨W.heap.size + 2, 0, none⟩)], tv, undef, undef, undef, undef, undef, undef, undef, undef, undef, undef, undef, undef, undef, undef, undef, undef, undef, undef, undef, undef, undef, undef, undef, undef, undef, undef, undef, undef, undef], defers := [] } V' := by
    intro V' hc
    subst hc
    have c0 := (yV.on (Below.refl _ V).drew).cell 0
    have c1 := (eV.on (Below.refl _ V).drew).cell 0
    have c2 := (xV.on (Below.refl _ V).drew).cell 1
    simp at c0 c1 c2
    subst hO
    refine wpAnyIn_ready (rs := [0, 1]) (by kernel_rfl) (by simp) ?_
    refine AllReadyIn.cons rfl (fun K' hK' => ?_) ?_
    ·go_simp
     exact hK' _ _ (s0 _ rfl)
    refine AllReadyIn.cons rfl (fun K' hK' => ?_) ?_
    ·go_simp
     exact hK' _ _ (s1 _ rfl)
    exact AllReadyIn.nil
   clear hEnd jV
   exact s V.drew rfl
  case pos =>
   have i1 : (ee : Int) < (fr : Int) := by omega
   have htx : txs ee fr = [txT ee fr] := by unfold txs; rw [if_pos he]
   obtain ⟨TV, hTV⟩ : ∃ v, tokV (txT ee fr) = v := ⟨_, rfl⟩
   have hpf : outF 0 pre ++ [txT ee fr] <+: eachL xs := by
    have := outF_eachL HP.out.1
    rw [outF_snoc, HP.out.2.1, HP.out.2.2.1, htx] at this
    exact (List.prefix_append _ _).trans this
   have sYt : ∀ (ob' : Option Nat) (V' : World), J (outF 0 pre ++ txs ee fr) ob' V' → Fr Xc ob ob' V V' → wpAnyIn (Fence.wide.inRound l1) (n - 1 - 1) Tryz.prog .any O K 2 #[true, true, true, true, true, true, true, true, true, true, true, false, false] { tmps := #[.func (.yield l) #[] #[], .pointer (some ⟨bb, 0, none⟩), .pointer (some ⟨W.heap.size, 0, none⟩), .pointer (some ⟨W.heap.size + 1, 0, none⟩), .pointer (some ⟨p, 0, none⟩), .slice A N cap, .func (.func 100) #[] #[.pointer (some ⟨W.heap.size + 2, 0, none⟩)], tv, .int .i64 (ee : Int), .pointer (some ⟨p, 1, none⟩), .int .i64 (fr : Int), .bool true, .bool true, .func (.yield l) #[] #[], .int .i64 (ee : Int), .pointer (some ⟨p, 1, none⟩), .int .i64 (fr : Int), TV, .bool true, undef, undef, undef, undef, undef, undef, undef, undef, undef, undef, undef, undef, undef, undef, undef, undef, undef, undef], defers := [] } V' := by
    intro ob' V' j1 f1
    subst hO
    refine wpAnyIn_ready (rs := [11]) (by kernel_rfl) (by simp) ?_
    refine AllReadyIn.cons rfl (fun K' hK' => ?_) AllReadyIn.nil
    go_simp
    refine hK' _ _ ?_
    refine wpAnyIn_ready (rs := [12]) (by kernel_rfl) (by simp) ?_
    refine AllReadyIn.cons rfl (fun K' hK' => ?_) AllReadyIn.nil
    go_simp
    refine hK' _ _ ?_
    exact wpAnyIn_done (by kernel_rfl) (hEnd _ _ _ _ _ _ _ _ _ _ _ _ ob' V' j1 f1) _
   have sYf : ∀ (ob' : Option Nat) (V' : World), Jx (outF 0 pre ++ [txT ee fr]) ob' V' → Fr Xc ob ob' V V' → wpAnyIn (Fence.wide.inRound l1) (n - 1 - 1) Tryz.prog .any O K 2 #[true, true, true, true, true, true, true, true, true, true, true, false, false] { tmps := #[.func (.yield l) #[] #[], .pointer (some ⟨bb, 0, none⟩), .pointer (some ⟨W.heap.size, 0, none⟩), .pointer (some ⟨W.heap.size + 1, 0, none⟩), .pointer (some ⟨p, 0, none⟩), .slice A N cap, .func (.func 100) #[] #[.pointer (some ⟨W.heap.size + 2, 0, none⟩)], tv, .int .i64 (ee : Int), .pointer (some ⟨p, 1, none⟩), .int .i64 (fr : Int), .bool true, .bool true, .func (.yield l) #[] #[], .int .i64 (ee : Int), .pointer (some ⟨p, 1, none⟩), .int .i64 (fr : Int), TV, .bool false, undef, undef, undef, undef, undef, undef, undef, undef, undef, undef, undef, undef, undef, undef, undef, undef, undef, undef], defers := [] } V' := by
    intro ob' V' j1 f1
    subst hO
    refine wpAnyIn_ready (rs := [11]) (by kernel_rfl) (by simp) ?_
    refine AllReadyIn.cons rfl (fun K' hK' => ?_) AllReadyIn.nil
    go_simp
    refine hK' _ _ ?_
    refine wpAnyIn_ready (rs := [12]) (by kernel_rfl) (by simp) ?_
    refine AllReadyIn.cons rfl (fun K' hK' => ?_) AllReadyIn.nil
    go_simp
    refine hK' _ _ ?_
    refine wpAnyIn_done (by kernel_rfl) ?_ _
    rw [hK]
    have HF := Lib.hid (And.intro j1 (And.intro f1 (hlo obV (by omega) f1)))
    clear j1 f1 hK hEnd hK'
    gi_wp2_with (fail)
    refine ⟨ob', ?_, HF.out.2.1.mono HI.out.2.2.2.2.2.2.1⟩
    rw [HI.out.2.1]
    exact ⟨⟨_, hpf, HF.out.1⟩, HF.out.2.2⟩
   have sY : ∀ V' : World, Below V.heap.size V V' → wpAnyIn (Fence.wide.inRound l1) (n - 1 - 1) Tryz.prog .any O K 3 #[true, true, true, true, true, true, true, true, true, true, false, false, false] { tmps := #[.func (.yield l) #[] #[], .pointer (some ⟨bb, 0, none⟩), .pointer (some ⟨W.heap.size, 0, none⟩), .pointer (some ⟨W.heap.size + 1, 0, none⟩), .pointer (some ⟨p, 0, none⟩), .slice A N cap, .func (.func 100) #[] #[.pointer (some ⟨W.heap.size + 2, 0, none⟩)], tv, .int .i64 (ee : Int), .pointer (some ⟨p, 1, none⟩), .int .i64 (fr : Int), .bool true, .bool true, .func (.yield l) #[] #[], .int .i64 (ee : Int), .pointer (some ⟨p, 1, none⟩), .int .i64 (fr : Int), TV, undef, undef, undef, undef, undef, undef, undef, undef, undef, undef, undef, undef, undef, undef, undef, undef, undef, undef, undef], defers := [] } V' := by
    intro V' hc
    obtain ⟨fn, tmps, assign, body, hy, hR⟩ := HI.out.2.2.2.2.2.1 (outF 0 pre) ob (txT ee fr) V' (HI.out.2.2.2.1.of_below jV hc) (by have := hc.size; omega) hpf
    rw [hTV] at hy
    have HR := Lib.hid hR
    clear hR hEnd
    subst hO
    refine wpAnyIn_ready (rs := [10]) (by kernel_rfl) (by simp) ?_
    refine AllReadyIn.cons rfl (fun K' hK' => ?_) AllReadyIn.nil
    go_simp
    refine ⟨fun h => (by cases h), ?_⟩
    refine (round_any rfl HR.out).mono ?_
    rintro e V3 (⟨rfl, ob3, j3, f3⟩ | ⟨rfl, ob3, j3, f3⟩)
    ·exact hK' _ _ (sYt ob3 V3 (by rw [htx]; exact j3) ((Fr.of_below hc).trans f3))
    ·exact hK' _ _ (sYf ob3 V3 j3 ((Fr.of_below hc).trans f3))
   clear hEnd jV sYt sYf
   have s012345678 : ∀ V' : World, Below V.heap.size V V' → wpAnyIn (Fence.wide.inRound l1) (n - 1 - 1) Tryz.prog .any O K 4 #[true, true, true, true, true, true, true, true, true, false, false, false, false] { tmps := #[yl l, pt bb 0, pt (W.heap.size) 0, pt (W.heap.size + 1) 0, pt p 0, .slice A N cap, .func (.func 100) #[] #[pt (W.heap.size + 2) 0], tv, .int .i64 (ee : Int), pt p 1, .int .i64 (fr : Int), .bool true, .bool true, yl l, .int .i64 (ee : Int), pt p 1, .int .i64 (fr : Int), U, U, U, U, U, U, U, U, U, U, U, U, U, U, U, U, U, U, U, U], defers := [] } V' := by
    intro V' hc
    have c0 := (yV.on hc).cell 0
    have c1 := (eV.on hc).cell 0
    have c2 := (xV.on hc).cell 1
    simp at c0 c1 c2
    subst hO
    refine wpAnyIn_ready (rs := [9]) (by kernel_rfl) (by simp) ?_
    refine AllReadyIn.cons rfl (fun K' hK' => ?_) ?_
    ·go_simp
     refine ⟨trivial, fun h => (by cases h), ?_⟩
     refine (CallsIn.inRound l1 (callsIn_wide.2 (text_any ee fr V'))).mono ?_
     rintro e V2 ⟨rfl, hb2⟩
     rw [show tokV ⟨0, ee, fr, [], 0, false⟩ = TV from hTV]
     exact hK' _ _ (sY V2 (hc.trans (hb2.mono hc.size)))
    exact AllReadyIn.nil
   have s012346789 : ∀ V' : World, Below V.heap.size V V' → wpAnyIn (Fence.wide.inRound l1) (n - 1 - 1) Tryz.prog .any O K 4 #[true, true, true, true, true, false, true, true, true, true, false, false, false] { tmps := #[yl l, pt bb 0, pt (W.heap.size) 0, pt (W.heap.size + 1) 0, pt p 0, .slice A N cap, .func (.func 100) #[] #[pt (W.heap.size + 2) 0], tv, .int .i64 (ee : Int), pt p 1, .int .i64 (fr : Int), .bool true, .bool true, U, .int .i64 (ee : Int), pt p 1, .int .i64 (fr : Int), TV, U, U, U, U, U, U, U, U, U, U, U, U, U, U, U, U, U, U, U], defers := [] } V' := by
    intro V' hc
    have c0 := (yV.on hc).cell 0
    have c1 := (eV.on hc).cell 0
    have c2 := (xV.on hc).cell 1
    simp at c0 c1 c2
    subst hO
    refine wpAnyIn_ready (rs := [5]) (by kernel_rfl) (by simp) ?_
    refine AllReadyIn.cons rfl (fun K' hK' => ?_) ?_
    ·go_simp
     exact hK' _ _ (sY V' hc)
    exact AllReadyIn.nil
   have s01234678 : ∀ V' : World, Below V.heap.size V V' → wpAnyIn (Fence.wide.inRound l1) (n - 1 - 1) Tryz.prog .any O K 5 #[true, true, true, true, true, false, true, true, true, false, false, false, false] { tmps := #[yl l, pt bb 0, pt (W.heap.size) 0, pt (W.heap.size + 1) 0, pt p 0, .slice A N cap, .func (.func 100) #[] #[pt (W.heap.size + 2) 0], tv, .int .i64 (ee : Int), pt p 1, .int .i64 (fr : Int), .bool true, .bool true, U, .int .i64 (ee : Int), pt p 1, .int .i64 (fr : Int), U, U, U, U, U, U, U, U, U, U, U, U, U, U, U, U, U, U, U, U], defers := [] } V' := by
    intro V' hc
    have c0 := (yV.on hc).cell 0
    have c1 := (eV.on hc).cell 0
    have c2 := (xV.on hc).cell 1
    simp at c0 c1 c2
    subst hO
    refine wpAnyIn_ready (rs := [5, 9]) (by kernel_rfl) (by simp) ?_
    refine AllReadyIn.cons rfl (fun K' hK' => ?_) ?_
    ·go_simp
     exact hK' _ _ (s012345678 V' hc)
    refine AllReadyIn.cons rfl (fun K' hK' => ?_) ?_
    ·go_simp
     refine ⟨trivial, fun h => (by cases h), ?_⟩
     refine (CallsIn.inRound l1 (callsIn_wide.2 (text_any ee fr V'))).mono ?_
     rintro e V2 ⟨rfl, hb2⟩
     rw [show tokV ⟨0, ee, fr, [], 0, false⟩ = TV from hTV]
     exact hK' _ _ (s012346789 V2 (hc.trans (hb2.mono hc.size)))
    exact AllReadyIn.nil
   have s01234578 : ∀ V' : World, Below V.heap.size V V' → wpAnyIn (Fence.wide.inRound l1) (n - 1 - 1) Tryz.prog .any O K 5 #[true, true, true, true, true, true, false, true, true, false, false, false, false] { tmps := #[yl l, pt bb 0, pt (W.heap.size) 0, pt (W.heap.size + 1) 0, pt p 0, .slice A N cap, .func (.func 100) #[] #[pt (W.heap.size + 2) 0], tv, .int .i64 (ee : Int), pt p 1, .int .i64 (fr : Int), .bool true, .bool true, yl l, U, pt p 1, .int .i64 (fr : Int), U, U, U, U, U, U, U, U, U, U, U, U, U, U, U, U, U, U, U, U], defers := [] } V' := by
    intro V' hc
    have c0 := (yV.on hc).cell 0
    have c1 := (eV.on hc).cell 0
    have c2 := (xV.on hc).cell 1
    simp at c0 c1 c2
    subst hO
    refine wpAnyIn_ready (rs := [6]) (by kernel_rfl) (by simp) ?_
    refine AllReadyIn.cons rfl (fun K' hK' => ?_) ?_
    ·go_simp
     exact hK' _ _ (s012345678 V' hc)
    exact AllReadyIn.nil
   have s01234567 : ∀ V' : World, Below V.heap.size V V' → wpAnyIn (Fence.wide.inRound l1) (n - 1 - 1) Tryz.prog .any O K 5 #[true, true, true, true, true, true, true, true, false, false, false, false, false] { tmps := #[yl l, pt bb 0, pt (W.heap.size) 0, pt (W.heap.size + 1) 0, pt p 0, .slice A N cap, .func (.func 100) #[] #[pt (W.heap.size + 2) 0], tv, .int .i64 (ee : Int), pt p 1, .int .i64 (fr : Int), .bool true, .bool true, yl l, .int .i64 (ee : Int), pt p 1, U, U, U, U, U, U, U, U, U, U, U, U, U, U, U, U, U, U, U, U, U], defers := [] } V' := by
    intro V' hc
    have c0 := (yV.on hc).cell 0
    have c1 := (eV.on hc).cell 0
    have c2 := (xV.on hc).cell 1
    simp at c0 c1 c2
    subst hO
    refine wpAnyIn_ready (rs := [8]) (by kernel_rfl) (by simp) ?_
    refine AllReadyIn.cons rfl (fun K' hK' => ?_) ?_
    ·go_simp
     exact hK' _ _ (s012345678 V' hc)
    exact AllReadyIn.nil
   have s0123467 : ∀ V' : World, Below V.heap.size V V' → wpAnyIn (Fence.wide.inRound l1) (n - 1 - 1) Tryz.prog .any O K 6 #[true, true, true, true, true, false, true, true, false, false, false, false, false] { tmps := #[yl l, pt bb 0, pt (W.heap.size) 0, pt (W.heap.size + 1) 0, pt p 0, .slice A N cap, .func (.func 100) #[] #[pt (W.heap.size + 2) 0], tv, .int .i64 (ee : Int), pt p 1, .int .i64 (fr : Int), .bool true, .bool true, U, .int .i64 (ee : Int), pt p 1, U, U, U, U, U, U, U, U, U, U, U, U, U, U, U, U, U, U, U, U, U], defers := [] } V' := by
    intro V' hc
    have c0 := (yV.on hc).cell 0
    have c1 := (eV.on hc).cell 0
    have c2 := (xV.on hc).cell 1
    simp at c0 c1 c2
    subst hO
    refine wpAnyIn_ready (rs := [5, 8]) (by kernel_rfl) (by simp) ?_
    refine AllReadyIn.cons rfl (fun K' hK' => ?_) ?_
    ·go_simp
     exact hK' _ _ (s01234567 V' hc)
    refine AllReadyIn.cons rfl (fun K' hK' => ?_) ?_
    ·go_simp
     exact hK' _ _ (s01234678 V' hc)
    exact AllReadyIn.nil
   have s0123478 : ∀ V' : World, Below V.heap.size V V' → wpAnyIn (Fence.wide.inRound l1) (n - 1 - 1) Tryz.prog .any O K 6 #[true, true, true, true, true, false, false, true, true, false, false, false, false] { tmps := #[yl l, pt bb 0, pt (W.heap.size) 0, pt (W.heap.size + 1) 0, pt p 0, .slice A N cap, .func (.func 100) #[] #[pt (W.heap.size + 2) 0], tv, .int .i64 (ee : Int), pt p 1, .int .i64 (fr : Int), .bool true, .bool true, U, U, pt p 1, .int .i64 (fr : Int), U, U, U, U, U, U, U, U, U, U, U, U, U, U, U, U, U, U, U, U], defers := [] } V' := by
    intro V' hc
    have c0 := (yV.on hc).cell 0
    have c1 := (eV.on hc).cell 0
    have c2 := (xV.on hc).cell 1
    simp at c0 c1 c2
    subst hO
    refine wpAnyIn_ready (rs := [5, 6]) (by kernel_rfl) (by simp) ?_
    refine AllReadyIn.cons rfl (fun K' hK' => ?_) ?_
    ·go_simp
     exact hK' _ _ (s01234578 V' hc)
    refine AllReadyIn.cons rfl (fun K' hK' => ?_) ?_
    ·go_simp
     exact hK' _ _ (s01234678 V' hc)
    exact AllReadyIn.nil
   have s0123456 : ∀ V' : World, Below V.heap.size V V' → wpAnyIn (Fence.wide.inRound l1) (n - 1 - 1) Tryz.prog .any O K 6 #[true, true, true, true, true, true, true, false, false, false, false, false, false] { tmps := #[yl l, pt bb 0, pt (W.heap.size) 0, pt (W.heap.size + 1) 0, pt p 0, .slice A N cap, .func (.func 100) #[] #[pt (W.heap.size + 2) 0], tv, .int .i64 (ee : Int), pt p 1, .int .i64 (fr : Int), .bool true, .bool true, yl l, .int .i64 (ee : Int), U, U, U, U, U, U, U, U, U, U, U, U, U, U, U, U, U, U, U, U, U, U], defers := [] } V' := by
    intro V' hc
    have c0 := (yV.on hc).cell 0
    have c1 := (eV.on hc).cell 0
    have c2 := (xV.on hc).cell 1
    simp at c0 c1 c2
    subst hO
    refine wpAnyIn_ready (rs := [7]) (by kernel_rfl) (by simp) ?_
    refine AllReadyIn.cons rfl (fun K' hK' => ?_) ?_
    ·go_simp
     exact hK' _ _ (s01234567 V' hc)
    exact AllReadyIn.nil
   have s0123457 : ∀ V' : World, Below V.heap.size V V' → wpAnyIn (Fence.wide.inRound l1) (n - 1 - 1) Tryz.prog .any O K 6 #[true, true, true, true, true, true, false, true, false, false, false, false, false] { tmps := #[yl l, pt bb 0, pt (W.heap.size) 0, pt (W.heap.size + 1) 0, pt p 0, .slice A N cap, .func (.func 100) #[] #[pt (W.heap.size + 2) 0], tv, .int .i64 (ee : Int), pt p 1, .int .i64 (fr : Int), .bool true, .bool true, yl l, U, pt p 1, U, U, U, U, U, U, U, U, U, U, U, U, U, U, U, U, U, U, U, U, U], defers := [] } V' := by
    intro V' hc
    have c0 := (yV.on hc).cell 0
    have c1 := (eV.on hc).cell 0
    have c2 := (xV.on hc).cell 1
    simp at c0 c1 c2
    subst hO
    refine wpAnyIn_ready (rs := [6, 8]) (by kernel_rfl) (by simp) ?_
    refine AllReadyIn.cons rfl (fun K' hK' => ?_) ?_
    ·go_simp
     exact hK' _ _ (s01234567 V' hc)
    refine AllReadyIn.cons rfl (fun K' hK' => ?_) ?_
    ·go_simp
     exact hK' _ _ (s01234578 V' hc)
    exact AllReadyIn.nil
   have s012346 : ∀ V' : World, Below V.heap.size V V' → wpAnyIn (Fence.wide.inRound l1) (n - 1 - 1) Tryz.prog .any O K 7 #[true, true, true, true, true, false, true, false, false, false, false, false, false] { tmps := #[yl l, pt bb 0, pt (W.heap.size) 0, pt (W.heap.size + 1) 0, pt p 0, .slice A N cap, .func (.func 100) #[] #[pt (W.heap.size + 2) 0], tv, .int .i64 (ee : Int), pt p 1, .int .i64 (fr : Int), .bool true, .bool true, U, .int .i64 (ee : Int), U, U, U, U, U, U, U, U, U, U, U, U, U, U, U, U, U, U, U, U, U, U], defers := [] } V' := by
    intro V' hc
    have c0 := (yV.on hc).cell 0
    have c1 := (eV.on hc).cell 0
    have c2 := (xV.on hc).cell 1
    simp at c0 c1 c2
    subst hO
    refine wpAnyIn_ready (rs := [5, 7]) (by kernel_rfl) (by simp) ?_
    refine AllReadyIn.cons rfl (fun K' hK' => ?_) ?_
    ·go_simp
     exact hK' _ _ (s0123456 V' hc)
    refine AllReadyIn.cons rfl (fun K' hK' => ?_) ?_
    ·go_simp
     exact hK' _ _ (s0123467 V' hc)
    exact AllReadyIn.nil
   have s012347 : ∀ V' : World, Below V.heap.size V V' → wpAnyIn (Fence.wide.inRound l1) (n - 1 - 1) Tryz.prog .any O K 7 #[true, true, true, true, true, false, false, true, false, false, false, false, false] { tmps := #[yl l, pt bb 0, pt (W.heap.size) 0, pt (W.heap.size + 1) 0, pt p 0, .slice A N cap, .func (.func 100) #[] #[pt (W.heap.size + 2) 0], tv, .int .i64 (ee : Int), pt p 1, .int .i64 (fr : Int), .bool true, .bool true, U, U, pt p 1, U, U, U, U, U, U, U, U, U, U, U, U, U, U, U, U, U, U, U, U, U], defers := [] } V' := by
    intro V' hc
    have c0 := (yV.on hc).cell 0
    have c1 := (eV.on hc).cell 0
    have c2 := (xV.on hc).cell 1
    simp at c0 c1 c2
    subst hO
    refine wpAnyIn_ready (rs := [5, 6, 8]) (by kernel_rfl) (by simp) ?_
    refine AllReadyIn.cons rfl (fun K' hK' => ?_) ?_
    ·go_simp
     exact hK' _ _ (s0123457 V' hc)
    refine AllReadyIn.cons rfl (fun K' hK' => ?_) ?_
    ·go_simp
     exact hK' _ _ (s0123467 V' hc)
    refine AllReadyIn.cons rfl (fun K' hK' => ?_) ?_
    ·go_simp
     exact hK' _ _ (s0123478 V' hc)
    exact AllReadyIn.nil
   have s012345 : ∀ V' : World, Below V.heap.size V V' → wpAnyIn (Fence.wide.inRound l1) (n - 1 - 1) Tryz.prog .any O K 7 #[true, true, true, true, true, true, false, false, false, false, false, false, false] { tmps := #[yl l, pt bb 0, pt (W.heap.size) 0, pt (W.heap.size + 1) 0, pt p 0, .slice A N cap, .func (.func 100) #[] #[pt (W.heap.size + 2) 0], tv, .int .i64 (ee : Int), pt p 1, .int .i64 (fr : Int), .bool true, .bool true, yl l, U, U, U, U, U, U, U, U, U, U, U, U, U, U, U, U, U, U, U, U, U, U, U], defers := [] } V' := by
    intro V' hc
    have c0 := (yV.on hc).cell 0
    have c1 := (eV.on hc).cell 0
    have c2 := (xV.on hc).cell 1
    simp at c0 c1 c2
    subst hO
    refine wpAnyIn_ready (rs := [6, 7]) (by kernel_rfl) (by simp) ?_
    refine AllReadyIn.cons rfl (fun K' hK' => ?_) ?_
    ·go_simp
     exact hK' _ _ (s0123456 V' hc)
    refine AllReadyIn.cons rfl (fun K' hK' => ?_) ?_
    ·go_simp
     exact hK' _ _ (s0123457 V' hc)
    exact AllReadyIn.nil
   have s01234 : ∀ V' : World, Below V.heap.size V V' → wpAnyIn (Fence.wide.inRound l1) (n - 1 - 1) Tryz.prog .any O K 8 #[true, true, true, true, true, false, false, false, false, false, false, false, false] { tmps := #[yl l, pt bb 0, pt (W.heap.size) 0, pt (W.heap.size + 1) 0, pt p 0, .slice A N cap, .func (.func 100) #[] #[pt (W.heap.size + 2) 0], tv, .int .i64 (ee : Int), pt p 1, .int .i64 (fr : Int), .bool true, .bool true, U, U, U, U, U, U, U, U, U, U, U, U, U, U, U, U, U, U, U, U, U, U, U, U], defers := [] } V' := by
    intro V' hc
    have c0 := (yV.on hc).cell 0
    have c1 := (eV.on hc).cell 0
    have c2 := (xV.on hc).cell 1
    simp at c0 c1 c2
    subst hO
    refine wpAnyIn_ready (rs := [5, 6, 7]) (by kernel_rfl) (by simp) ?_
    refine AllReadyIn.cons rfl (fun K' hK' => ?_) ?_
    ·go_simp
     exact hK' _ _ (s012345 V' hc)
    refine AllReadyIn.cons rfl (fun K' hK' => ?_) ?_
    ·go_simp
     exact hK' _ _ (s012346 V' hc)
    refine AllReadyIn.cons rfl (fun K' hK' => ?_) ?_
    ·go_simp
     exact hK' _ _ (s012347 V' hc)
    exact AllReadyIn.nil
   have s0123 : ∀ V' : World, Below V.heap.size V V' → wpAnyIn (Fence.wide.inRound l1) (n - 1 - 1) Tryz.prog .any O K 9 #[true, true, true, true, false, false, false, false, false, false, false, false, false] { tmps := #[yl l, pt bb 0, pt (W.heap.size) 0, pt (W.heap.size + 1) 0, pt p 0, .slice A N cap, .func (.func 100) #[] #[pt (W.heap.size + 2) 0], tv, .int .i64 (ee : Int), pt p 1, .int .i64 (fr : Int), .bool true, U, U, U, U, U, U, U, U, U, U, U, U, U, U, U, U, U, U, U, U, U, U, U, U, U], defers := [] } V' := by
    intro V' hc
    have c0 := (yV.on hc).cell 0
    have c1 := (eV.on hc).cell 0
    have c2 := (xV.on hc).cell 1
    simp at c0 c1 c2
    subst hO
    refine wpAnyIn_ready (rs := [4]) (by kernel_rfl) (by simp) ?_
    refine AllReadyIn.cons rfl (fun K' hK' => ?_) ?_
    ·go_simp
     exact hK' _ _ (s01234 V' hc)
    exact AllReadyIn.nil
   have s012 : ∀ V' : World, Below V.heap.size V V' → wpAnyIn (Fence.wide.inRound l1) (n - 1 - 1) Tryz.prog .any O K 10 #[true, true, true, false, false, false, false, false, false, false, false, false, false] { tmps := #[yl l, pt bb 0, pt (W.heap.size) 0, pt (W.heap.size + 1) 0, pt p 0, .slice A N cap, .func (.func 100) #[] #[pt (W.heap.size + 2) 0], tv, .int .i64 (ee : Int), pt p 1, .int .i64 (fr : Int), U, U, U, U, U, U, U, U, U, U, U, U, U, U, U, U, U, U, U, U, U, U, U, U, U, U], defers := [] } V' := by
    intro V' hc
    have c0 := (yV.on hc).cell 0
    have c1 := (eV.on hc).cell 0
    have c2 := (xV.on hc).cell 1
    simp at c0 c1 c2
    subst hO
    refine wpAnyIn_ready (rs := [3]) (by kernel_rfl) (by simp) ?_
    refine AllReadyIn.cons rfl (fun K' hK' => ?_) ?_
    ·go_simp
     exact hK' _ _ (s0123 V' hc)
    exact AllReadyIn.nil
   have s01 : ∀ V' : World, Below V.heap.size V V' → wpAnyIn (Fence.wide.inRound l1) (n - 1 - 1) Tryz.prog .any O K 11 #[true, true, false, false, false, false, false, false, false, false, false, false, false] { tmps := #[yl l, pt bb 0, pt (W.heap.size) 0, pt (W.heap.size + 1) 0, pt p 0, .slice A N cap, .func (.func 100) #[] #[pt (W.heap.size + 2) 0], tv, .int .i64 (ee : Int), pt p 1, U, U, U, U, U, U, U, U, U, U, U, U, U, U, U, U, U, U, U, U, U, U, U, U, U, U, U], defers := [] } V' := by
    intro V' hc
    have c0 := (yV.on hc).cell 0
    have c1 := (eV.on hc).cell 0
    have c2 := (xV.on hc).cell 1
    simp at c0 c1 c2
    subst hO
    refine wpAnyIn_ready (rs := [2]) (by kernel_rfl) (by simp) ?_
    refine AllReadyIn.cons rfl (fun K' hK' => ?_) ?_
    ·go_simp
     exact hK' _ _ (s012 V' hc)
    exact AllReadyIn.nil
   have s12 : ∀ V' : World, Below V.heap.size V V' → wpAnyIn (Fence.wide.inRound l1) (n - 1 - 1) Tryz.prog .any O K 11 #[false, true, true, false, false, false, false, false, false, false, false, false, false] { tmps := #[yl l, pt bb 0, pt (W.heap.size) 0, pt (W.heap.size + 1) 0, pt p 0, .slice A N cap, .func (.func 100) #[] #[pt (W.heap.size + 2) 0], tv, U, pt p 1, .int .i64 (fr : Int), U, U, U, U, U, U, U, U, U, U, U, U, U, U, U, U, U, U, U, U, U, U, U, U, U, U], defers := [] } V' := by
    intro V' hc
    have c0 := (yV.on hc).cell 0
    have c1 := (eV.on hc).cell 0
    have c2 := (xV.on hc).cell 1
    simp at c0 c1 c2
    subst hO
    refine wpAnyIn_ready (rs := [0]) (by kernel_rfl) (by simp) ?_
    refine AllReadyIn.cons rfl (fun K' hK' => ?_) ?_
    ·go_simp
     exact hK' _ _ (s012 V' hc)
    exact AllReadyIn.nil
   have s1 : ∀ V' : World, Below V.heap.size V V' → wpAnyIn (Fence.wide.inRound l1) (n - 1 - 1) Tryz.prog .any O K 12 #[false, true, false, false, false, false, false, false, false, false, false, false, false] { tmps := #[yl l, pt bb 0, pt (W.heap.size) 0, pt (W.heap.size + 1) 0, pt p 0, .slice A N cap, .func (.func 100) #[] #[pt (W.heap.size + 2) 0], tv, U, pt p 1, U, U, U, U, U, U, U, U, U, U, U, U, U, U, U, U, U, U, U, U, U, U, U, U, U, U, U], defers := [] } V' := by
    intro V' hc
    have c0 := (yV.on hc).cell 0
    have c1 := (eV.on hc).cell 0
    have c2 := (xV.on hc).cell 1
    simp at c0 c1 c2
    subst hO
    refine wpAnyIn_ready (rs := [0, 2]) (by kernel_rfl) (by simp) ?_
    refine AllReadyIn.cons rfl (fun K' hK' => ?_) ?_
    ·go_simp
     exact hK' _ _ (s01 V' hc)
    refine AllReadyIn.cons rfl (fun K' hK' => ?_) ?_
    ·go_simp
     exact hK' _ _ (s12 V' hc)
    exact AllReadyIn.nil
   have s0 : ∀ V' : World, Below V.heap.size V V' → wpAnyIn (Fence.wide.inRound l1) (n - 1 - 1) Tryz.prog .any O K 12 #[true, false, false, false, false, false, false, false, false, false, false, false, false] { tmps := #[yl l, pt bb 0, pt (W.heap.size) 0, pt (W.heap.size + 1) 0, pt p 0, .slice A N cap, .func (.func 100) #[] #[pt (W.heap.size + 2) 0], tv, .int .i64 (ee : Int), U, U, U, U, U, U, U, U, U, U, U, U, U, U, U, U, U, U, U, U, U, U, U, U, U, U, U, U], defers := [] } V' := by
    intro V' hc
    have c0 := (yV.on hc).cell 0
    have c1 := (eV.on hc).cell 0
    have c2 := (xV.on hc).cell 1
    simp at c0 c1 c2
    subst hO
    refine wpAnyIn_ready (rs := [1]) (by kernel_rfl) (by simp) ?_
    refine AllReadyIn.cons rfl (fun K' hK' => ?_) ?_
    ·go_simp
     exact hK' _ _ (s01 V' hc)
    exact AllReadyIn.nil
   have s : ∀ V' : World, Below V.heap.size V V' → wpAnyIn (Fence.wide.inRound l1) (n - 1 - 1) Tryz.prog .any O K 13 #[false, false, false, false, false, false, false, false, false, false, false, false, false] { tmps := #[.func (.yield l) #[] #[], .pointer (some ⟨bb, 0, none⟩), .pointer (some ⟨W.heap.size, 0, none⟩), .pointer (some ⟨W.heap.size + 1, 0, none⟩), .pointer (some ⟨p, 0, none⟩), .slice A N cap, .func (.func 100) #[] #[.pointer (some ⟨W.heap.size + 2, 0, none⟩)], tv, undef, undef, undef, undef, undef, undef, undef, undef, undef, undef, undef, undef, undef, undef, undef, undef, undef, undef, undef, undef, undef, undef, undef, undef, undef, undef, undef, undef, undef], defers := [] } V' := by
    intro V' hc
    have c0 := (yV.on hc).cell 0
    have c1 := (eV.on hc).cell 0
    have c2 := (xV.on hc).cell 1
    simp at c0 c1 c2
    subst hO
    refine wpAnyIn_ready (rs := [0, 1]) (by kernel_rfl) (by simp) ?_
    refine AllReadyIn.cons rfl (fun K' hK' => ?_) ?_
    ·go_simp
     exact hK' _ _ (s0 V' hc)
    refine AllReadyIn.cons rfl (fun K' hK' => ?_) ?_
    ·go_simp
     exact hK' _ _ (s1 V' hc)
    exact AllReadyIn.nil
   exact s V.drew (Below.refl _ V).drew
 case done =>
  intro D ob V hD hv hf hKD
  obtain rfl : D = W.heap.size + 3 := by omega
  have hmx : Tryz.prog.follows .mixedOrders = true := by kernel_rfl
  rw [hI] at hv
  obtain ⟨j1, yV, eV, ob1, sz1⟩ := hv
  have cV : Cells V bb 22 #[.slice A N cap] := (hf.same _ c3.lt hnb (by simp)).trans c3
  have fV : Fr Xc none ob W V := Fr.outer b3 hf (fun k hk hn hx' => by
   rw [hX'] at hx'
   rcases hx' with h | h
   ·omega
   ·exact hn h)
  obtain ⟨ee, hee⟩ : ∃ k, endF 0 (marksL xs 0) = k := ⟨_, rfl⟩
  rw [hee] at eV
  have g0 := yV.cell 0
  have g1 := eV.cell 0
  have g2 := cV.cell 0
  simp at g0 g1 g2
  have heL : eachL xs = outF 0 (marksL xs 0) ++ txs ee N := by unfold eachL; rw [hee, hN]
  have HD := Lib.hid (And.intro j1 (And.intro yV (And.intro eV (And.intro ob1 (And.intro cV (And.intro fV (And.intro hKD (And.intro sJ (And.intro sX (And.intro hY heL))))))))))
  clear hI hIx hX' sJ sX hY hx hM hT sI sIx oI oIx hi0 HM j1 yV eV ob1 cV fV hf hee hKD hD
  clear hW1 hWa hW2 hW3 b1 s1 y1 ea b12 b2 y2 e2 bw2 c2 b23 m3 b3 bw3 y3 e3 c3 hXl hXb hnb hny h0 oJ oX hb hbb hX p0 p1 pb pb3 q1 qa fa
  clear heL
  dsimp only
  by_cases he : ee < N
  case neg =>
   have i1 : ¬ (ee : Int) < (N : Int) := by omega
   have HT := Lib.hid (show txs ee N = [] by unfold txs; rw [if_neg he])
   have HF := Lib.hid (@fin)
   clear fin
   gi_wp2_with (fail)
   refine ⟨by simp, .inl ⟨_, _, rfl, run_takeDeferred HD.out.2.2.2.2.2.2.1, ?_⟩⟩
   refine ⟨_, results_none rfl _ _ _, ⟨_, rfl⟩, ?_⟩
   refine HF.out ob V HD.out.2.2.2.2.2.1 (fun k hk => by have := HD.out.2.2.2.1 k hk; omega) (.inl ?_)
   have := HD.out.1
   rw [HD.out.2.2.2.2.2.2.2.2.2.2, HT.out, List.append_nil]
   exact this
  case pos =>
   have i1 : (ee : Int) < (N : Int) := by omega
   have HT := Lib.hid (show txs ee N = [txT ee N] by unfold txs; rw [if_pos he])
   have HF := Lib.hid (@fin)
   clear fin
   obtain ⟨TV, hTV⟩ : ∃ v, tokV (txT ee N) = v := ⟨_, rfl⟩
   have yV := HD.out.2.1
   have eV := HD.out.2.2.1
   have cV := HD.out.2.2.2.2.1
   gi_wp2_with (fail)
   refine wpIn_region_named hmx ?_
   intro O K hO hK
   have hEnd : ∀ (u : Value) (ob' : Option Nat) (V' : World), (J (eachL xs) ob' V' ∨ ∃ pre, pre <+: eachL xs ∧ Jx pre ob' V') → Fr Xc ob ob' V V' → K .normal { tmps := #[.func (.yield l) #[] #[], .pointer (some ⟨bb, 0, none⟩), .pointer (some ⟨W.heap.size, 0, none⟩), .pointer (some ⟨W.heap.size + 1, 0, none⟩), undef, .slice A N cap, .func (.func 100) #[] #[.pointer (some ⟨W.heap.size + 2, 0, none⟩)], undef, undef, undef, undef, undef, undef, undef, undef, undef, undef, undef, undef, undef, undef, undef, undef, undef, undef, undef, undef, .int .i64 (ee : Int), .slice A N cap, .int .i64 (N : Int), .bool true, .func (.yield l) #[] #[], .int .i64 (ee : Int), .slice A N cap, .int .i64 (N : Int), TV, u], defers := [{ target := .collected (W.heap.size + 3), args := #[] }] } V' := by
    intro u ob' V' hj hf
    rw [hK]
    have hk : V'.heap[W.heap.size + 3]? = some (.deferred (some [])) := (hf.same _ (Array.getElem?_eq_some_iff.1 HD.out.2.2.2.2.2.2.1).1 (fun h => by have := (hXc _ h).1; omega) (fun e => by have := HD.out.2.2.2.1 _ e; omega)).trans HD.out.2.2.2.2.2.2.1
    have hlo : ∀ k, ob' = some k → W.heap.size + 4 ≤ k ∧ k < V'.heap.size := fun k hk => by
     rcases hf.ob with e | ⟨m, e, h1, h2⟩
     ·have := HD.out.2.2.2.1 k (e.symm.trans hk)
      have := hf.size
      omega
     ·obtain rfl : m = k := by have := e.symm.trans hk; injection this
      have := (Array.getElem?_eq_some_iff.1 HD.out.2.2.2.2.2.2.1).1
      omega
    have HE := Lib.hid (HF.out ob' V' (HD.out.2.2.2.2.2.1.trans hf) hlo hj)
    clear hO hK hj hf hlo yV eV cV
    gi_wp2_with (fail)
    refine ⟨by simp, .inl ⟨_, _, rfl, run_takeDeferred hk, ?_⟩⟩
    exact ⟨_, results_none rfl _ _ _, ⟨_, rfl⟩, HE.out⟩
   have tY : ∀ V' : World, Below V.heap.size V V' → wpAnyIn Fence.wide n Tryz.prog .any O K 1 #[true, true, true, true, true, false] { tmps := #[.func (.yield l) #[] #[], .pointer (some ⟨bb, 0, none⟩), .pointer (some ⟨W.heap.size, 0, none⟩), .pointer (some ⟨W.heap.size + 1, 0, none⟩), undef, .slice A N cap, .func (.func 100) #[] #[.pointer (some ⟨W.heap.size + 2, 0, none⟩)], undef, undef, undef, undef, undef, undef, undef, undef, undef, undef, undef, undef, undef, undef, undef, undef, undef, undef, undef, undef, .int .i64 (ee : Int), .slice A N cap, .int .i64 (N : Int), .bool true, .func (.yield l) #[] #[], .int .i64 (ee : Int), .slice A N cap, .int .i64 (N : Int), TV, undef], defers := [{ target := .collected (W.heap.size + 3), args := #[] }] } V' := by
    intro V' hc
    have hsV : W.heap.size ≤ V'.heap.size := by have := hc.size; omega
    obtain ⟨fn, tmps, assign, body, hy, hR⟩ := HD.out.2.2.2.2.2.2.2.2.2.1 (outF 0 (marksL xs 0)) ob (txT ee N) V' (HD.out.2.2.2.2.2.2.2.1.of_below HD.out.1 hc) hsV (by rw [HD.out.2.2.2.2.2.2.2.2.2.2, HT.out]; exact List.prefix_refl _)
    rw [hTV] at hy
    have HR := Lib.hid hR
    clear hR
    have HZ := Lib.hid (@hEnd)
    clear hEnd
    subst hO
    refine wpAnyIn_ready (rs := [5]) (by kernel_rfl) (by simp) ?_
    refine AllReadyIn.cons rfl (fun K' hK' => ?_) AllReadyIn.nil
    go_simp
    refine ⟨fun h => (by cases h), ?_⟩
    refine HR.out.mono ?_
    rintro e V3 (⟨rfl, ob3, j3, f3⟩ | ⟨rfl, ob3, j3, f3⟩)
    ·refine hK' _ _ (wpAnyIn_done (by kernel_rfl) (HZ.out _ ob3 V3 (.inl ?_) ((Fr.of_below hc).trans f3)) _)
     rw [HD.out.2.2.2.2.2.2.2.2.2.2, HT.out]
     exact j3
    ·refine hK' _ _ (wpAnyIn_done (by kernel_rfl) (HZ.out _ ob3 V3 (.inr ⟨_, ?_, j3⟩) ((Fr.of_below hc).trans f3)) _)
     rw [HD.out.2.2.2.2.2.2.2.2.2.2, HT.out]
     exact List.prefix_refl _
   clear hEnd
   have s0123 : ∀ V' : World, Below V.heap.size V V' → wpAnyIn Fence.wide n Tryz.prog .any O K 2 #[true, true, true, true, false, false] { tmps := #[yl l, pt bb 0, pt (W.heap.size) 0, pt (W.heap.size + 1) 0, U, .slice A N cap, .func (.func 100) #[] #[pt (W.heap.size + 2) 0], U, U, U, U, U, U, U, U, U, U, U, U, U, U, U, U, U, U, U, U, .int .i64 (ee : Int), .slice A N cap, .int .i64 (N : Int), .bool true, yl l, .int .i64 (ee : Int), .slice A N cap, .int .i64 (N : Int), U, U], defers := [{ target := .collected (W.heap.size + 3), args := #[] }] } V' := by
    intro V' hc
    have c0 := (yV.on hc).cell 0
    have c1 := (eV.on hc).cell 0
    have c2 := (cV.on hc).cell 0
    simp at c0 c1 c2
    subst hO
    refine wpAnyIn_ready (rs := [4]) (by kernel_rfl) (by simp) ?_
    refine AllReadyIn.cons rfl (fun K' hK' => ?_) ?_
    ·go_simp
     refine ⟨trivial, fun h => (by cases h), ?_⟩
     refine (callsIn_wide.2 (text_any ee N V')).mono ?_
     rintro e V2 ⟨rfl, hb2⟩
     rw [show tokV ⟨0, ee, N, [], 0, false⟩ = TV from hTV]
     exact hK' _ _ (tY V2 (hc.trans (hb2.mono hc.size)))
    exact AllReadyIn.nil
   have s1234 : ∀ V' : World, Below V.heap.size V V' → wpAnyIn Fence.wide n Tryz.prog .any O K 2 #[false, true, true, true, true, false] { tmps := #[yl l, pt bb 0, pt (W.heap.size) 0, pt (W.heap.size + 1) 0, U, .slice A N cap, .func (.func 100) #[] #[pt (W.heap.size + 2) 0], U, U, U, U, U, U, U, U, U, U, U, U, U, U, U, U, U, U, U, U, .int .i64 (ee : Int), .slice A N cap, .int .i64 (N : Int), .bool true, U, .int .i64 (ee : Int), .slice A N cap, .int .i64 (N : Int), TV, U], defers := [{ target := .collected (W.heap.size + 3), args := #[] }] } V' := by
    intro V' hc
    have c0 := (yV.on hc).cell 0
    have c1 := (eV.on hc).cell 0
    have c2 := (cV.on hc).cell 0
    simp at c0 c1 c2
    subst hO
    refine wpAnyIn_ready (rs := [0]) (by kernel_rfl) (by simp) ?_
    refine AllReadyIn.cons rfl (fun K' hK' => ?_) ?_
    ·go_simp
     exact hK' _ _ (tY V' hc)
    exact AllReadyIn.nil
   have s023 : ∀ V' : World, Below V.heap.size V V' → wpAnyIn Fence.wide n Tryz.prog .any O K 3 #[true, false, true, true, false, false] { tmps := #[yl l, pt bb 0, pt (W.heap.size) 0, pt (W.heap.size + 1) 0, U, .slice A N cap, .func (.func 100) #[] #[pt (W.heap.size + 2) 0], U, U, U, U, U, U, U, U, U, U, U, U, U, U, U, U, U, U, U, U, .int .i64 (ee : Int), .slice A N cap, .int .i64 (N : Int), .bool true, yl l, U, .slice A N cap, .int .i64 (N : Int), U, U], defers := [{ target := .collected (W.heap.size + 3), args := #[] }] } V' := by
    intro V' hc
    have c0 := (yV.on hc).cell 0
    have c1 := (eV.on hc).cell 0
    have c2 := (cV.on hc).cell 0
    simp at c0 c1 c2
    subst hO
    refine wpAnyIn_ready (rs := [1]) (by kernel_rfl) (by simp) ?_
    refine AllReadyIn.cons rfl (fun K' hK' => ?_) ?_
    ·go_simp
     exact hK' _ _ (s0123 V' hc)
    exact AllReadyIn.nil
   have s123 : ∀ V' : World, Below V.heap.size V V' → wpAnyIn Fence.wide n Tryz.prog .any O K 3 #[false, true, true, true, false, false] { tmps := #[yl l, pt bb 0, pt (W.heap.size) 0, pt (W.heap.size + 1) 0, U, .slice A N cap, .func (.func 100) #[] #[pt (W.heap.size + 2) 0], U, U, U, U, U, U, U, U, U, U, U, U, U, U, U, U, U, U, U, U, .int .i64 (ee : Int), .slice A N cap, .int .i64 (N : Int), .bool true, U, .int .i64 (ee : Int), .slice A N cap, .int .i64 (N : Int), U, U], defers := [{ target := .collected (W.heap.size + 3), args := #[] }] } V' := by
    intro V' hc
    have c0 := (yV.on hc).cell 0
    have c1 := (eV.on hc).cell 0
    have c2 := (cV.on hc).cell 0
    simp at c0 c1 c2
    subst hO
    refine wpAnyIn_ready (rs := [0, 4]) (by kernel_rfl) (by simp) ?_
    refine AllReadyIn.cons rfl (fun K' hK' => ?_) ?_
    ·go_simp
     exact hK' _ _ (s0123 V' hc)
    refine AllReadyIn.cons rfl (fun K' hK' => ?_) ?_
    ·go_simp
     refine ⟨trivial, fun h => (by cases h), ?_⟩
     refine (callsIn_wide.2 (text_any ee N V')).mono ?_
     rintro e V2 ⟨rfl, hb2⟩
     rw [show tokV ⟨0, ee, N, [], 0, false⟩ = TV from hTV]
     exact hK' _ _ (s1234 V2 (hc.trans (hb2.mono hc.size)))
    exact AllReadyIn.nil
   have s012 : ∀ V' : World, Below V.heap.size V V' → wpAnyIn Fence.wide n Tryz.prog .any O K 3 #[true, true, true, false, false, false] { tmps := #[yl l, pt bb 0, pt (W.heap.size) 0, pt (W.heap.size + 1) 0, U, .slice A N cap, .func (.func 100) #[] #[pt (W.heap.size + 2) 0], U, U, U, U, U, U, U, U, U, U, U, U, U, U, U, U, U, U, U, U, .int .i64 (ee : Int), .slice A N cap, .int .i64 (N : Int), .bool true, yl l, .int .i64 (ee : Int), .slice A N cap, U, U, U], defers := [{ target := .collected (W.heap.size + 3), args := #[] }] } V' := by
    intro V' hc
    have c0 := (yV.on hc).cell 0
    have c1 := (eV.on hc).cell 0
    have c2 := (cV.on hc).cell 0
    simp at c0 c1 c2
    subst hO
    refine wpAnyIn_ready (rs := [3]) (by kernel_rfl) (by simp) ?_
    refine AllReadyIn.cons rfl (fun K' hK' => ?_) ?_
    ·go_simp
     exact hK' _ _ (s0123 V' hc)
    exact AllReadyIn.nil
   have s23 : ∀ V' : World, Below V.heap.size V V' → wpAnyIn Fence.wide n Tryz.prog .any O K 4 #[false, false, true, true, false, false] { tmps := #[yl l, pt bb 0, pt (W.heap.size) 0, pt (W.heap.size + 1) 0, U, .slice A N cap, .func (.func 100) #[] #[pt (W.heap.size + 2) 0], U, U, U, U, U, U, U, U, U, U, U, U, U, U, U, U, U, U, U, U, .int .i64 (ee : Int), .slice A N cap, .int .i64 (N : Int), .bool true, U, U, .slice A N cap, .int .i64 (N : Int), U, U], defers := [{ target := .collected (W.heap.size + 3), args := #[] }] } V' := by
    intro V' hc
    have c0 := (yV.on hc).cell 0
    have c1 := (eV.on hc).cell 0
    have c2 := (cV.on hc).cell 0
    simp at c0 c1 c2
    subst hO
    refine wpAnyIn_ready (rs := [0, 1]) (by kernel_rfl) (by simp) ?_
    refine AllReadyIn.cons rfl (fun K' hK' => ?_) ?_
    ·go_simp
     exact hK' _ _ (s023 V' hc)
    refine AllReadyIn.cons rfl (fun K' hK' => ?_) ?_
    ·go_simp
     exact hK' _ _ (s123 V' hc)
    exact AllReadyIn.nil
   have s12 : ∀ V' : World, Below V.heap.size V V' → wpAnyIn Fence.wide n Tryz.prog .any O K 4 #[false, true, true, false, false, false] { tmps := #[yl l, pt bb 0, pt (W.heap.size) 0, pt (W.heap.size + 1) 0, U, .slice A N cap, .func (.func 100) #[] #[pt (W.heap.size + 2) 0], U, U, U, U, U, U, U, U, U, U, U, U, U, U, U, U, U, U, U, U, .int .i64 (ee : Int), .slice A N cap, .int .i64 (N : Int), .bool true, U, .int .i64 (ee : Int), .slice A N cap, U, U, U], defers := [{ target := .collected (W.heap.size + 3), args := #[] }] } V' := by
    intro V' hc
    have c0 := (yV.on hc).cell 0
    have c1 := (eV.on hc).cell 0
    have c2 := (cV.on hc).cell 0
    simp at c0 c1 c2
    subst hO
    refine wpAnyIn_ready (rs := [0, 3]) (by kernel_rfl) (by simp) ?_
    refine AllReadyIn.cons rfl (fun K' hK' => ?_) ?_
    ·go_simp
     exact hK' _ _ (s012 V' hc)
    refine AllReadyIn.cons rfl (fun K' hK' => ?_) ?_
    ·go_simp
     exact hK' _ _ (s123 V' hc)
    exact AllReadyIn.nil
   have s02 : ∀ V' : World, Below V.heap.size V V' → wpAnyIn Fence.wide n Tryz.prog .any O K 4 #[true, false, true, false, false, false] { tmps := #[yl l, pt bb 0, pt (W.heap.size) 0, pt (W.heap.size + 1) 0, U, .slice A N cap, .func (.func 100) #[] #[pt (W.heap.size + 2) 0], U, U, U, U, U, U, U, U, U, U, U, U, U, U, U, U, U, U, U, U, .int .i64 (ee : Int), .slice A N cap, .int .i64 (N : Int), .bool true, yl l, U, .slice A N cap, U, U, U], defers := [{ target := .collected (W.heap.size + 3), args := #[] }] } V' := by
    intro V' hc
    have c0 := (yV.on hc).cell 0
    have c1 := (eV.on hc).cell 0
    have c2 := (cV.on hc).cell 0
    simp at c0 c1 c2
    subst hO
    refine wpAnyIn_ready (rs := [1, 3]) (by kernel_rfl) (by simp) ?_
    refine AllReadyIn.cons rfl (fun K' hK' => ?_) ?_
    ·go_simp
     exact hK' _ _ (s012 V' hc)
    refine AllReadyIn.cons rfl (fun K' hK' => ?_) ?_
    ·go_simp
     exact hK' _ _ (s023 V' hc)
    exact AllReadyIn.nil
   have s01 : ∀ V' : World, Below V.heap.size V V' → wpAnyIn Fence.wide n Tryz.prog .any O K 4 #[true, true, false, false, false, false] { tmps := #[yl l, pt bb 0, pt (W.heap.size) 0, pt (W.heap.size + 1) 0, U, .slice A N cap, .func (.func 100) #[] #[pt (W.heap.size + 2) 0], U, U, U, U, U, U, U, U, U, U, U, U, U, U, U, U, U, U, U, U, .int .i64 (ee : Int), .slice A N cap, .int .i64 (N : Int), .bool true, yl l, .int .i64 (ee : Int), U, U, U, U], defers := [{ target := .collected (W.heap.size + 3), args := #[] }] } V' := by
    intro V' hc
    have c0 := (yV.on hc).cell 0
    have c1 := (eV.on hc).cell 0
    have c2 := (cV.on hc).cell 0
    simp at c0 c1 c2
    subst hO
    refine wpAnyIn_ready (rs := [2]) (by kernel_rfl) (by simp) ?_
    refine AllReadyIn.cons rfl (fun K' hK' => ?_) ?_
    ·go_simp
     exact hK' _ _ (s012 V' hc)
    exact AllReadyIn.nil
   have s2 : ∀ V' : World, Below V.heap.size V V' → wpAnyIn Fence.wide n Tryz.prog .any O K 5 #[false, false, true, false, false, false] { tmps := #[yl l, pt bb 0, pt (W.heap.size) 0, pt (W.heap.size + 1) 0, U, .slice A N cap, .func (.func 100) #[] #[pt (W.heap.size + 2) 0], U, U, U, U, U, U, U, U, U, U, U, U, U, U, U, U, U, U, U, U, .int .i64 (ee : Int), .slice A N cap, .int .i64 (N : Int), .bool true, U, U, .slice A N cap, U, U, U], defers := [{ target := .collected (W.heap.size + 3), args := #[] }] } V' := by
    intro V' hc
    have c0 := (yV.on hc).cell 0
    have c1 := (eV.on hc).cell 0
    have c2 := (cV.on hc).cell 0
    simp at c0 c1 c2
    subst hO
    refine wpAnyIn_ready (rs := [0, 1, 3]) (by kernel_rfl) (by simp) ?_
    refine AllReadyIn.cons rfl (fun K' hK' => ?_) ?_
    ·go_simp
     exact hK' _ _ (s02 V' hc)
    refine AllReadyIn.cons rfl (fun K' hK' => ?_) ?_
    ·go_simp
     exact hK' _ _ (s12 V' hc)
    refine AllReadyIn.cons rfl (fun K' hK' => ?_) ?_
    ·go_simp
     exact hK' _ _ (s23 V' hc)
    exact AllReadyIn.nil
   have s1 : ∀ V' : World, Below V.heap.size V V' → wpAnyIn Fence.wide n Tryz.prog .any O K 5 #[false, true, false, false, false, false] { tmps := #[yl l, pt bb 0, pt (W.heap.size) 0, pt (W.heap.size + 1) 0, U, .slice A N cap, .func (.func 100) #[] #[pt (W.heap.size + 2) 0], U, U, U, U, U, U, U, U, U, U, U, U, U, U, U, U, U, U, U, U, .int .i64 (ee : Int), .slice A N cap, .int .i64 (N : Int), .bool true, U, .int .i64 (ee : Int), U, U, U, U], defers := [{ target := .collected (W.heap.size + 3), args := #[] }] } V' := by
    intro V' hc
    have c0 := (yV.on hc).cell 0
    have c1 := (eV.on hc).cell 0
    have c2 := (cV.on hc).cell 0
    simp at c0 c1 c2
    subst hO
    refine wpAnyIn_ready (rs := [0, 2]) (by kernel_rfl) (by simp) ?_
    refine AllReadyIn.cons rfl (fun K' hK' => ?_) ?_
    ·go_simp
     exact hK' _ _ (s01 V' hc)
    refine AllReadyIn.cons rfl (fun K' hK' => ?_) ?_
    ·go_simp
     exact hK' _ _ (s12 V' hc)
    exact AllReadyIn.nil
   have s0 : ∀ V' : World, Below V.heap.size V V' → wpAnyIn Fence.wide n Tryz.prog .any O K 5 #[true, false, false, false, false, false] { tmps := #[yl l, pt bb 0, pt (W.heap.size) 0, pt (W.heap.size + 1) 0, U, .slice A N cap, .func (.func 100) #[] #[pt (W.heap.size + 2) 0], U, U, U, U, U, U, U, U, U, U, U, U, U, U, U, U, U, U, U, U, .int .i64 (ee : Int), .slice A N cap, .int .i64 (N : Int), .bool true, yl l, U, U, U, U, U], defers := [{ target := .collected (W.heap.size + 3), args := #[] }] } V' := by
    intro V' hc
    have c0 := (yV.on hc).cell 0
    have c1 := (eV.on hc).cell 0
    have c2 := (cV.on hc).cell 0
    simp at c0 c1 c2
    subst hO
    refine wpAnyIn_ready (rs := [1, 2]) (by kernel_rfl) (by simp) ?_
    refine AllReadyIn.cons rfl (fun K' hK' => ?_) ?_
    ·go_simp
     exact hK' _ _ (s01 V' hc)
    refine AllReadyIn.cons rfl (fun K' hK' => ?_) ?_
    ·go_simp
     exact hK' _ _ (s02 V' hc)
    exact AllReadyIn.nil
   have s : ∀ V' : World, Below V.heap.size V V' → wpAnyIn Fence.wide n Tryz.prog .any O K 6 #[false, false, false, false, false, false] { tmps := #[.func (.yield l) #[] #[], .pointer (some ⟨bb, 0, none⟩), .pointer (some ⟨W.heap.size, 0, none⟩), .pointer (some ⟨W.heap.size + 1, 0, none⟩), undef, .slice A N cap, .func (.func 100) #[] #[.pointer (some ⟨W.heap.size + 2, 0, none⟩)], undef, undef, undef, undef, undef, undef, undef, undef, undef, undef, undef, undef, undef, undef, undef, undef, undef, undef, undef, undef, .int .i64 (ee : Int), .slice A N cap, .int .i64 (N : Int), .bool true, undef, undef, undef, undef, undef, undef], defers := [{ target := .collected (W.heap.size + 3), args := #[] }] } V' := by
    intro V' hc
    have c0 := (yV.on hc).cell 0
    have c1 := (eV.on hc).cell 0
    have c2 := (cV.on hc).cell 0
    simp at c0 c1 c2
    subst hO
    refine wpAnyIn_ready (rs := [0, 1, 2]) (by kernel_rfl) (by simp) ?_
    refine AllReadyIn.cons rfl (fun K' hK' => ?_) ?_
    ·go_simp
     exact hK' _ _ (s0 V' hc)
    refine AllReadyIn.cons rfl (fun K' hK' => ?_) ?_
    ·go_simp
     exact hK' _ _ (s1 V' hc)
    refine AllReadyIn.cons rfl (fun K' hK' => ?_) ?_
    ·go_simp
     exact hK' _ _ (s2 V' hc)
    exact AllReadyIn.nil
   exact s V.drew (Below.refl _ V).drew
 case stop =>
  intro D ob pre V hD hpre hv hf hKD
  obtain rfl : D = W.heap.size + 3 := by omega
  have fV : Fr Xc none ob W V := Fr.outer b3 hf (fun k hk hn hx' => by
   rw [hX'] at hx'
   rcases hx' with h | h
   ·omega
   ·exact hn h)
  rw [hIx] at hv
  have HE := Lib.hid (fin ob V fV (fun k hk => by have := hv.2 k hk; omega) (.inr hv.1))
  clear hv hf fV
  dsimp only
  gi_wp2_with (fail)
  refine ⟨by simp, .inl ⟨_, _, rfl, run_takeDeferred hKD, ?_⟩⟩
  exact ⟨_, results_none rfl _ _ _, ⟨_, rfl⟩, HE.out⟩
end Go.Proofs.YtfafhbgkmlmmdaaGreatDoor
