/-
  
  
  
-/
import Derived.Deep.CutRange
import Derived.Test.YtojinnnpfjhifaaGreatDoorYqn
import Derived.Test.YtojinnnpfjhifaaGreatDoorYqo
import Derived.Test.YtojinnnpfjhifaaGreatDoorYqm
import Derived.Test.YtojinnnpfjhifaaGreatDoorYqp
import Derived.Test.YtojinnnpfjhifaaGreatDoorYqt
import Derived.Test.YtojinnnpfjhifaaGreatDoorYqq
namespace Go.Proofs.YtojinnnpfjhifaaGreatDoor.K
open Go.RowKit Go.Shelf Go.Lib Go.Maps
attribute [local irreducible] nmL ofN
structure RW (w2 : World) (gN : Nat) (s : ES) (W : World) : Prop where
 ok : s.c.ok
 n : Cells W gN 51 (ctA s.c)
 z : Fz (fun k => k = gN) w2 W
theorem RW.on {w2 : World} {gN : Nat} {s : ES} {W W' : World} (h : RW w2 gN s W) (hb : Below W.heap.size W W') : RW w2 gN s W' := ⟨h.ok, h.n.on hb, h.z.trans (Fz.of_below hb)⟩
theorem RW.turn {w2 : World} {gN : Nat} {s s' : ES} {W : World} (h : RW w2 gN s W) (hc : s'.c = s.c) : RW w2 gN s' W := ⟨by rw [hc]; exact h.ok, by rw [hc]; exact h.n, h.z⟩
theorem PsA.keep {w w' : World} {B B' : Nat} {l : List PC} {bb o2 c : Nat} (h : PsA w B l (some ⟨bb, o2, none⟩) c) (hk : w'.heap[bb]? = w.heap[bb]?) (hB : bb < B') : PsA w' B' l (some ⟨bb, o2, none⟩) c :=
 ⟨h.le, h.mx, fun i a ha => by
  obtain ⟨b, o, e, h1, h2, h3, h4⟩ := h.r i a ha
  cases e
  exact ⟨bb, o2, rfl, hB, (World.cell?_of_block (a := ⟨bb, _, none⟩) hk).trans h2, (World.cell?_of_block (a := ⟨bb, _, none⟩) hk).trans h3, (World.cell?_of_block (a := ⟨bb, _, none⟩) hk).trans h4⟩⟩
structure RL (w2 : World) (gN : Nat) (B : Nat → Nat) (L : List TK) (ALL : List IT) (N : Nat) (k : Nat) (o f x : Value) (W : World) : Prop where
 h : ∃ (pre : List IT) (s : ES) (e : Nat), R.OwnIt W w2.heap.size pre o ∧ f = .bool s.f ∧ x = .bool s.x ∧ RW w2 gN s W ∧ pre ++ allI B s (L.drop k) = ALL ∧ tiles e (L.drop k) N ∧ pre.length ≤ e
set_option maxRecDepth 100000 in
set_option maxHeartbeats 16000000 in
theorem refAll_any (xs : List Nat) (A : Option Addr) (cap : Nat) (w : World) (hb : BY w w.heap.size xs A cap) (hl : xs.length ≤ 1000) :
  Calls Tryz.prog 9 #[.slice A xs.length cap] w fun e w' => ∃ v, e = .returned v ∧ R.OwnIt w' w.heap.size (allI (bF xs) es0 (eachL xs)) v ∧ Below w.heap.size w w' := by
 have CT := RAll_any xs A cap w hb hl
 obtain ⟨L, hL⟩ : ∃ q, eachL xs = q := ⟨_, rfl⟩
 have htl : tiles 0 L xs.length := by rw [← hL]; exact eachL_tiles xs
 have hnm : ∀ t ∈ L, t.name.length ≤ xs.length := by rw [← hL]; exact each_name xs
 rw [hL] at CT ⊢
 obtain ⟨ALL, hALL⟩ : ∃ q, allI (bF xs) es0 L = q := ⟨_, rfl⟩
 rw [hALL]
 obtain ⟨N, hN⟩ : ∃ q, xs.length = q := ⟨_, rfl⟩
 rw [hN] at htl hnm hl CT ⊢
 have hcap := hb.l
 have hmx := hb.m
 rw [hN] at hcap
 have HL := Lib.hid (And.intro htl (And.intro hnm (And.intro hALL (And.intro hN hl))))
 have HB := Lib.hid hb
 clear hL htl hnm hALL hN hl hb
 go_enter Tryz.func9, Tryz.ntmps9
 go_wp2_with fail
 refine CT.mono ?_
 rintro e w1 ⟨v, rfl, ho, b1⟩
 clear CT
 obtain ⟨A2, c2, rfl, hS⟩ := FQ.of_own ho
 have hle := hS.le
 have hmx2 := hS.mx
 obtain ⟨n, hn⟩ : ∃ n, L.length = n := ⟨_, rfl⟩
 rw [hn] at hle ⊢
 have n2 : Cells (w1.alloc (.cells #[.int .i64 0, .int .i64 0, .int .i64 0] 51)) w1.heap.size 51 (ctA ⟨0, 0, 0⟩) := cells_new w1 _ 51
 have b2 := below_new w1 (.cells #[.int .i64 0, .int .i64 0, .int .i64 0] 51)
 obtain ⟨w2, hw2⟩ : ∃ V, w1.alloc (.cells #[.int .i64 0, .int .i64 0, .int .i64 0] 51) = V := ⟨_, rfl⟩
 rw [hw2] at n2 b2
 have b12 : Below w.heap.size w w2 := b1.trans (b2.mono b1.size)
 have hs1 := b1.size
 obtain ⟨gN, hgN⟩ : ∃ q, w1.heap.size = q := ⟨_, rfl⟩
 rw [hgN] at n2 hs1
 have hg2 : gN < w2.heap.size := n2.lt
 have hS2 : FQ w2 gN L A2 c2 := by rw [← hgN]; exact hS.below b2
 have HW := Lib.hid hw2
 have H2 := Lib.hid (And.intro hS2 (And.intro b12 (And.intro hn (And.intro hg2 hs1))))
 have HA2 : RW w2 gN es0 w2 := ⟨ok0, n2, Fz.refl _ _⟩
 have HA := Lib.hid HA2
 have hnN : n ≤ 1000 := by
  have h1 := tiles_len _ _ _ HL.out.1
  have h2 := HL.out.2.2.2.2
  omega
 clear ho b1 hS n2 b2 b12 hs1 hg2 hS2 HA2 hw2 hn
 go_wp2_with fail
 rw [HW.out]
 clear HW hgN
 go_loopw [5, 6, 7, 8, 9, 10, 11, 12, 13, 14, 15] (fun o f x i _ _ _ _ _ _ _ wr => ∃ k : Nat, k ≤ n ∧ i = .int .i64 (k : Int) ∧ RL w2 gN (bF xs) L ALL N k o f x wr) (fun _ _ _ i _ _ _ _ _ _ _ _ => n - (RowKit.intOf i).toNat)
 case atStart => exact ⟨0, Nat.zero_le _, rfl, ⟨[], es0, 0, R.ownIt_nil _ _, rfl, rfl, HA.out, by simpa using HL.out.2.2.1, by simpa using HL.out.1, Nat.zero_le _⟩⟩
 case round =>
  obtain ⟨k, hk, rfl, ⟨pre, s, e, ho, rfl, rfl, ha, hall, htl, hpe⟩⟩ := hrel
  by_cases hkn : k < n
  case neg =>
   obtain rfl : k = n := by omega
   have i1 : ¬ (k : Int) < (k : Int) := by omega
   rw [show L.drop k = [] from List.drop_eq_nil_of_le (by rw [H2.out.2.2.1]; exact Nat.le_refl _)] at hall
   have hall : pre = ALL := by simpa [allI] using hall
   subst hall
   have H3 := Lib.hid (And.intro ho ha)
   clear ho ha htl hpe hkn hk
   go_wp2_with fail
   go_ret
   exact ⟨_, rfl, H3.out.1.lower (H2.out.2.1.size), H2.out.2.1.trans (H3.out.2.z.below H2.out.2.1.size (by
    intro q hq e
    have e' : q = gN := e
    have := H2.out.2.2.2.2
    omega))⟩
  case pos =>
   have i1 : (k : Int) < (n : Int) := by omega
   have ik : (k : Int) ≤ 100000 := by omega
   obtain ⟨t, ht⟩ : ∃ t, L[k]? = some t := ⟨_, List.getElem?_eq_getElem (by rw [H2.out.2.2.1]; exact hkn)⟩
   rw [drop_cons ht] at hall htl
   have hmem : t ∈ L := List.mem_of_getElem? ht
   have hto : t.to ≤ N := tiles_le _ _ _ htl.2.2
   have hfr : t.fr < t.to := by rw [htl.1]; exact htl.2.1
   have hlN := HL.out.2.2.2.2
   have hxN := HL.out.2.2.2.1
   obtain ⟨b, o', rfl, hbw, _⟩ := HB.out.r (by rintro rfl; simp at hxN; omega)
   obtain ⟨tb, oo, rfl, htb, d0, d1, d2, d3, d4, d5, d6⟩ := H2.out.1.r k t ht
   have hne : ¬ tb = gN := by omega
   have d0 := fz_cell ha.z d0 hne
   have d1 := fz_cell ha.z d1 hne
   have d2 := fz_cell ha.z d2 hne
   have d3 := fz_cell ha.z d3 hne
   have d4 := fz_cell ha.z d4 hne
   have d5 := fz_cell ha.z d5 hne
   have d6 := fz_cell ha.z d6 hne
   have e1 : wr.cell? ⟨tb, oo + k * 7 + 1, none⟩ = some (.int .i64 (t.fr : Int)) := by rw [Nat.add_assoc]; exact d1
   have e2 : wr.cell? ⟨tb, oo + k * 7 + 2, none⟩ = some (.int .i64 (t.to : Int)) := by rw [Nat.add_assoc]; exact d2
   have e3 : wr.cell? ⟨tb, oo + k * 7 + 3, none⟩ = some (.string ⟨(G.u8s t.name).toArray⟩) := by rw [Nat.add_assoc]; exact d3
   have e4 : wr.cell? ⟨tb, oo + k * 7 + 4, none⟩ = some (.int .i32 t.r) := by rw [Nat.add_assoc]; exact d4
   have e5 : wr.cell? ⟨tb, oo + k * 7 + 5, none⟩ = some (.bool t.sg) := by rw [Nat.add_assoc]; exact d5
   have e6 : wr.cell? ⟨tb, oo + k * 7 + 6, none⟩ = some (.bool false) := by rw [Nat.add_assoc]; exact d6
   have bwr : Below w.heap.size w wr := H2.out.2.1.trans (ha.z.below H2.out.2.1.size (by
    intro q hq e
    have e' : q = gN := e
    have := H2.out.2.2.2.2
    omega))
   have hil := items_len s (bF xs) t hfr
   have hall : pre ++ (s.items (bF xs) t ++ allI (bF xs) (s.turn t) (L.drop (k + 1))) = ALL := hall
   have hok' := turn_ok s t ha.ok
   have hpe' : pre.length + (s.items (bF xs) t).length ≤ t.to := by have := htl.1; omega
   obtain ⟨SN, hSN⟩ : ∃ q : ByteArray, (⟨(G.u8s t.name).toArray⟩ : ByteArray) = q := ⟨_, rfl⟩
   rw [hSN] at d3 e3
   have HR := Lib.hid (And.intro ha (And.intro ho (And.intro hall (And.intro htl.2.2 (And.intro hpe' (And.intro hok' (And.intro bwr (And.intro hfr (And.intro hto hlN)))))))))
   have HSN := Lib.hid hSN
   have hpl : pre.length ≤ 1000 := by omega
   have HPL := Lib.hid hpl
   have HBW := Lib.hid hbw
   have HTB := Lib.hid (And.intro htb hne)
   clear ha ho hall htl hpe hpe' hok' bwr ht hmem hfr hto hlN hxN hil hbw htb hne hSN hpl
   by_cases hk2 : t.kind = 2 ∨ t.kind = 3
   case pos =>
    have hits := items_none s (bF xs) t (by omega) (by omega)
    have htn := turn_tag s t (by omega) (by omega)
    have CN := fun (en : Bool) W => refTake_any en t.sg (nmB t) s.c HR.out.1.ok W
    have hnb : nmB t = SN := HSN.out
    simp only [hnb] at CN
    obtain ⟨F, hF⟩ : ∃ q, takeF (nameN SN) (t.kind : Int) s.c = q := ⟨_, rfl⟩
    obtain ⟨X, hX⟩ : ∃ q, takeX (nameN SN) (t.kind : Int) s.c = q := ⟨_, rfl⟩
    obtain ⟨c', hce⟩ : ∃ q, takeC (nameN SN) (t.kind : Int) t.sg s.c = q := ⟨_, rfl⟩
    have efs : s.fs t = (s.f || F) := by unfold ES.fs; rw [hnb, hF]
    have exs : s.xs t = (s.x || X) := by unfold ES.xs; rw [hnb, hX]
    have ecs : s.cs t = c' := by unfold ES.cs; rw [hnb, hce]
    have HTN := Lib.hid (And.intro htn (And.intro hits (And.intro (And.intro efs exs) ecs)))
    clear hits htn hnb efs exs ecs
    by_cases hk3 : t.kind = 2
    case pos =>
     have hkd : ((t.kind : Nat) : Int) = 2 := by omega
     have CN2 := CN false
     simp only [Bool.false_eq_true, if_false] at CN2
     rw [hkd] at hF hX hce d0
     simp only [hF, hX, hce] at CN2
     have t8 := cells_new wr #[.int .i64 2, .int .i64 (t.fr : Int), .int .i64 (t.to : Int), .string SN, .int .i32 t.r, .bool t.sg, .bool false] 53
     have b8 := below_new wr (.cells #[.int .i64 2, .int .i64 (t.fr : Int), .int .i64 (t.to : Int), .string SN, .int .i32 t.r, .bool t.sg, .bool false] 53)
     obtain ⟨W8, hW8⟩ : ∃ V, wr.alloc (.cells #[.int .i64 2, .int .i64 (t.fr : Int), .int .i64 (t.to : Int), .string SN, .int .i32 t.r, .bool t.sg, .bool false] 53) = V := ⟨_, rfl⟩
     rw [hW8] at t8 b8
     have n8 := HR.out.1.n.on b8
     have hc8 : Cells W8 gN 51 #[.int .i64 (s.c.h : Int), .int .i64 (s.c.p : Int), .int .i64 (s.c.n : Int)] := n8
     have y0 : W8.cell? ⟨wr.heap.size, 0, none⟩ = some (.int .i64 2) := t8.cell 0
     have y3 : W8.cell? ⟨wr.heap.size, 3, none⟩ = some (.string SN) := t8.cell 3
     have y5 : W8.cell? ⟨wr.heap.size, 5, none⟩ = some (.bool t.sg) := t8.cell 5
     have x0 : W8.cell? ⟨gN, 0, none⟩ = some (.int .i64 (s.c.h : Int)) := hc8.cell 0
     have x1 : W8.cell? ⟨gN, 1, none⟩ = some (.int .i64 (s.c.p : Int)) := hc8.cell 1
     have x2 : W8.cell? ⟨gN, 2, none⟩ = some (.int .i64 (s.c.n : Int)) := hc8.cell 2
     have C3 := CN2 W8
     unfold ctA at C3
     have HW8 := Lib.hid hW8
     have H8 := Lib.hid (And.intro b8 hc8)
     have HF := Lib.hid (And.intro hF (And.intro hX (And.intro hce hkd)))
     clear CN CN2 n8 hc8 t8 b8 hW8 hF hX hce hkd hk2
     go_upto_region 9 with fail
     rw [HW8.out]
     clear d0 d1 d2 d3 d4 d5 d6 e1 e2 e3 e4 e5 e6
     go_wp2_with fail
     refine C3.mono ?_
     rintro e' w9 ⟨rfl, b9⟩
     clear C3 x0 x1 x2 y0 y3 y5
     have g9 := H8.out.2.on b9
     have z9 : Fz (fun k => k = gN) wr w9 := (Fz.of_below H8.out.1).trans (Fz.of_below b9)
     have t10 := cells_new w9 #[.int .i64 (c'.h : Int), .int .i64 (c'.p : Int), .int .i64 (c'.n : Int)] 51
     have b10 := below_new w9 (.cells #[.int .i64 (c'.h : Int), .int .i64 (c'.p : Int), .int .i64 (c'.n : Int)] 51)
     obtain ⟨W10, hW10⟩ : ∃ V, w9.alloc (.cells #[.int .i64 (c'.h : Int), .int .i64 (c'.p : Int), .int .i64 (c'.n : Int)] 51) = V := ⟨_, rfl⟩
     rw [hW10] at t10 b10
     have g10 := g9.on b10
     have z10 := z9.trans (Fz.of_below b10)
     have f0 := g10.froz 0
     have f1 := g10.froz 1
     have f2 := g10.froz 2
     have x0 : W10.cell? ⟨gN, 0, none⟩ = some (.int .i64 (s.c.h : Int)) := g10.cell 0
     have x1 : W10.cell? ⟨gN, 1, none⟩ = some (.int .i64 (s.c.p : Int)) := g10.cell 1
     have x2 : W10.cell? ⟨gN, 2, none⟩ = some (.int .i64 (s.c.n : Int)) := g10.cell 2
     have y0 : W10.cell? ⟨w9.heap.size, 0, none⟩ = some (.int .i64 (c'.h : Int)) := t10.cell 0
     have y1 : W10.cell? ⟨w9.heap.size, 1, none⟩ = some (.int .i64 (c'.p : Int)) := t10.cell 1
     have y2 : W10.cell? ⟨w9.heap.size, 2, none⟩ = some (.int .i64 (c'.n : Int)) := t10.cell 2
     have HW10 := Lib.hid hW10
     have H10 := Lib.hid (And.intro g10 z10)
     clear g9 z9 t10 b10 hW10 g10 z10 b9
     go_upto_region 11 with fail
     rw [HW10.out]
     go_upto_region 12 with fail
     have s1 : Cells (((W10.setCell ⟨gN, 0, none⟩ (.int .i64 (c'.h : Int))).setCell ⟨gN, 1, none⟩ (.int .i64 (c'.p : Int))).setCell ⟨gN, 2, none⟩ (.int .i64 (c'.n : Int))) gN 51 #[.int .i64 (c'.h : Int), .int .i64 (c'.p : Int), .int .i64 (c'.n : Int)] := ((H10.out.1.set 0 _).set 1 _).set 2 _
     have s2 : Fz (fun k => k = gN) W10 (((W10.setCell ⟨gN, 0, none⟩ (.int .i64 (c'.h : Int))).setCell ⟨gN, 1, none⟩ (.int .i64 (c'.p : Int))).setCell ⟨gN, 2, none⟩ (.int .i64 (c'.n : Int))) := ((Fz.set (X := fun k => k = gN) _ gN 0 _ rfl).trans (Fz.set (X := fun k => k = gN) _ gN 1 _ rfl)).trans (Fz.set (X := fun k => k = gN) _ gN 2 _ rfl)
     obtain ⟨W11, hW11⟩ : ∃ V, (((W10.setCell ⟨gN, 0, none⟩ (.int .i64 (c'.h : Int))).setCell ⟨gN, 1, none⟩ (.int .i64 (c'.p : Int))).setCell ⟨gN, 2, none⟩ (.int .i64 (c'.n : Int))) = V := ⟨_, rfl⟩
     rw [hW11] at s1 s2 ⊢
     have z11 := H10.out.2.trans s2
     have own11 : R.OwnIt W11 w2.heap.size pre u5 := own_fz z11 HR.out.2.1 (fun q hq e => by
      have h1 := (own_block_lt HR.out.2.1 q e).1
      have h2 := H2.out.2.2.2.1
      have h3 : q = gN := hq
      omega)
     have rw11 : RW w2 gN (s.turn t) W11 := by
      rw [HTN.out.1]
      refine ⟨?_, ?_, HR.out.1.z.trans z11⟩
      ·have := HR.out.2.2.2.2.2.1
       rw [HTN.out.1] at this
       exact this
      ·rw [HTN.out.2.2.2]
       exact s1
     have hall11 : pre ++ allI (bF xs) (s.turn t) (L.drop (k + 1)) = ALL := by
      have := HR.out.2.2.1
      rw [HTN.out.2.1, List.nil_append] at this
      exact this
     have hpe11 : pre.length ≤ t.to := by have := HR.out.2.2.2.2.1; omega
     have H11 := Lib.hid (And.intro own11 (And.intro rw11 (And.intro hall11 hpe11)))
     clear hW11 s1 s2 z11 own11 rw11 hall11 hpe11 f0 f1 f2 x0 x1 x2 y0 y1 y2
     obtain ⟨sf, hsf⟩ : ∃ q, s.f = q := ⟨_, rfl⟩
     obtain ⟨sx, hsx⟩ : ∃ q, s.x = q := ⟨_, rfl⟩
     rw [hsf, hsx]
     have HSF := Lib.hid (And.intro hsf hsx)
     clear hsf hsx
     have hend : ∃ k' : Nat, k' ≤ n ∧ Value.int .i64 ((k : Int) + 1) = .int .i64 (k' : Int) ∧ RL w2 gN (bF xs) L ALL N k' u5 (.bool (sf || F)) (.bool (sx || X)) W11 :=
      ⟨k + 1, by omega, by simp, ⟨pre, s.turn t, t.to, H11.out.1, by rw [HTN.out.1]; show _ = Value.bool (s.fs t); rw [HTN.out.2.2.1.1, HSF.out.1], by rw [HTN.out.1]; show _ = Value.bool (s.xs t); rw [HTN.out.2.2.1.2, HSF.out.2], H11.out.2.1, H11.out.2.2.1, HR.out.2.2.2.1, H11.out.2.2.2⟩⟩
     have HEND := Lib.hid hend
     clear hend
     cases sf <;> cases sx
     all_goals
      go_wp2_with fail
      go_roundw
      case rel => exact HEND.out
      case measure => simp [RowKit.intOf]; omega
    case neg =>
     have hkd : ((t.kind : Nat) : Int) = 3 := by omega
     have CN2 := CN true
     simp only [if_true] at CN2
     rw [hkd] at hF hX hce d0
     simp only [hF, hX, hce] at CN2
     have t8 := cells_new wr #[.int .i64 3, .int .i64 (t.fr : Int), .int .i64 (t.to : Int), .string SN, .int .i32 t.r, .bool t.sg, .bool false] 53
     have b8 := below_new wr (.cells #[.int .i64 3, .int .i64 (t.fr : Int), .int .i64 (t.to : Int), .string SN, .int .i32 t.r, .bool t.sg, .bool false] 53)
     obtain ⟨W8, hW8⟩ : ∃ V, wr.alloc (.cells #[.int .i64 3, .int .i64 (t.fr : Int), .int .i64 (t.to : Int), .string SN, .int .i32 t.r, .bool t.sg, .bool false] 53) = V := ⟨_, rfl⟩
     rw [hW8] at t8 b8
     have n8 := HR.out.1.n.on b8
     have hc8 : Cells W8 gN 51 #[.int .i64 (s.c.h : Int), .int .i64 (s.c.p : Int), .int .i64 (s.c.n : Int)] := n8
     have y0 : W8.cell? ⟨wr.heap.size, 0, none⟩ = some (.int .i64 3) := t8.cell 0
     have y3 : W8.cell? ⟨wr.heap.size, 3, none⟩ = some (.string SN) := t8.cell 3
     have y5 : W8.cell? ⟨wr.heap.size, 5, none⟩ = some (.bool t.sg) := t8.cell 5
     have x0 : W8.cell? ⟨gN, 0, none⟩ = some (.int .i64 (s.c.h : Int)) := hc8.cell 0
     have x1 : W8.cell? ⟨gN, 1, none⟩ = some (.int .i64 (s.c.p : Int)) := hc8.cell 1
     have x2 : W8.cell? ⟨gN, 2, none⟩ = some (.int .i64 (s.c.n : Int)) := hc8.cell 2
     have C3 := CN2 W8
     unfold ctA at C3
     have HW8 := Lib.hid hW8
     have H8 := Lib.hid (And.intro b8 hc8)
     have HF := Lib.hid (And.intro hF (And.intro hX (And.intro hce hkd)))
     clear CN CN2 n8 hc8 t8 b8 hW8 hF hX hce hkd hk2
     go_upto_region 9 with fail
     rw [HW8.out]
     clear d0 d1 d2 d3 d4 d5 d6 e1 e2 e3 e4 e5 e6
     go_wp2_with fail
     refine C3.mono ?_
     rintro e' w9 ⟨rfl, b9⟩
     clear C3 x0 x1 x2 y0 y3 y5
     have g9 := H8.out.2.on b9
     have z9 : Fz (fun k => k = gN) wr w9 := (Fz.of_below H8.out.1).trans (Fz.of_below b9)
     have t10 := cells_new w9 #[.int .i64 (c'.h : Int), .int .i64 (c'.p : Int), .int .i64 (c'.n : Int)] 51
     have b10 := below_new w9 (.cells #[.int .i64 (c'.h : Int), .int .i64 (c'.p : Int), .int .i64 (c'.n : Int)] 51)
     obtain ⟨W10, hW10⟩ : ∃ V, w9.alloc (.cells #[.int .i64 (c'.h : Int), .int .i64 (c'.p : Int), .int .i64 (c'.n : Int)] 51) = V := ⟨_, rfl⟩
     rw [hW10] at t10 b10
     have g10 := g9.on b10
     have z10 := z9.trans (Fz.of_below b10)
     have f0 := g10.froz 0
     have f1 := g10.froz 1
     have f2 := g10.froz 2
     have x0 : W10.cell? ⟨gN, 0, none⟩ = some (.int .i64 (s.c.h : Int)) := g10.cell 0
     have x1 : W10.cell? ⟨gN, 1, none⟩ = some (.int .i64 (s.c.p : Int)) := g10.cell 1
     have x2 : W10.cell? ⟨gN, 2, none⟩ = some (.int .i64 (s.c.n : Int)) := g10.cell 2
     have y0 : W10.cell? ⟨w9.heap.size, 0, none⟩ = some (.int .i64 (c'.h : Int)) := t10.cell 0
     have y1 : W10.cell? ⟨w9.heap.size, 1, none⟩ = some (.int .i64 (c'.p : Int)) := t10.cell 1
     have y2 : W10.cell? ⟨w9.heap.size, 2, none⟩ = some (.int .i64 (c'.n : Int)) := t10.cell 2
     have HW10 := Lib.hid hW10
     have H10 := Lib.hid (And.intro g10 z10)
     clear g9 z9 t10 b10 hW10 g10 z10 b9
     go_upto_region 11 with fail
     rw [HW10.out]
     go_upto_region 12 with fail
     have s1 : Cells (((W10.setCell ⟨gN, 0, none⟩ (.int .i64 (c'.h : Int))).setCell ⟨gN, 1, none⟩ (.int .i64 (c'.p : Int))).setCell ⟨gN, 2, none⟩ (.int .i64 (c'.n : Int))) gN 51 #[.int .i64 (c'.h : Int), .int .i64 (c'.p : Int), .int .i64 (c'.n : Int)] := ((H10.out.1.set 0 _).set 1 _).set 2 _
     have s2 : Fz (fun k => k = gN) W10 (((W10.setCell ⟨gN, 0, none⟩ (.int .i64 (c'.h : Int))).setCell ⟨gN, 1, none⟩ (.int .i64 (c'.p : Int))).setCell ⟨gN, 2, none⟩ (.int .i64 (c'.n : Int))) := ((Fz.set (X := fun k => k = gN) _ gN 0 _ rfl).trans (Fz.set (X := fun k => k = gN) _ gN 1 _ rfl)).trans (Fz.set (X := fun k => k = gN) _ gN 2 _ rfl)
     obtain ⟨W11, hW11⟩ : ∃ V, (((W10.setCell ⟨gN, 0, none⟩ (.int .i64 (c'.h : Int))).setCell ⟨gN, 1, none⟩ (.int .i64 (c'.p : Int))).setCell ⟨gN, 2, none⟩ (.int .i64 (c'.n : Int))) = V := ⟨_, rfl⟩
     rw [hW11] at s1 s2 ⊢
     have z11 := H10.out.2.trans s2
     have own11 : R.OwnIt W11 w2.heap.size pre u5 := own_fz z11 HR.out.2.1 (fun q hq e => by
      have h1 := (own_block_lt HR.out.2.1 q e).1
      have h2 := H2.out.2.2.2.1
      have h3 : q = gN := hq
      omega)
     have rw11 : RW w2 gN (s.turn t) W11 := by
      rw [HTN.out.1]
      refine ⟨?_, ?_, HR.out.1.z.trans z11⟩
      ·have := HR.out.2.2.2.2.2.1
       rw [HTN.out.1] at this
       exact this
      ·rw [HTN.out.2.2.2]
       exact s1
     have hall11 : pre ++ allI (bF xs) (s.turn t) (L.drop (k + 1)) = ALL := by
      have := HR.out.2.2.1
      rw [HTN.out.2.1, List.nil_append] at this
      exact this
     have hpe11 : pre.length ≤ t.to := by have := HR.out.2.2.2.2.1; omega
     have H11 := Lib.hid (And.intro own11 (And.intro rw11 (And.intro hall11 hpe11)))
     clear hW11 s1 s2 z11 own11 rw11 hall11 hpe11 f0 f1 f2 x0 x1 x2 y0 y1 y2
     obtain ⟨sf, hsf⟩ : ∃ q, s.f = q := ⟨_, rfl⟩
     obtain ⟨sx, hsx⟩ : ∃ q, s.x = q := ⟨_, rfl⟩
     rw [hsf, hsx]
     have HSF := Lib.hid (And.intro hsf hsx)
     clear hsf hsx
     have hend : ∃ k' : Nat, k' ≤ n ∧ Value.int .i64 ((k : Int) + 1) = .int .i64 (k' : Int) ∧ RL w2 gN (bF xs) L ALL N k' u5 (.bool (sf || F)) (.bool (sx || X)) W11 :=
      ⟨k + 1, by omega, by simp, ⟨pre, s.turn t, t.to, H11.out.1, by rw [HTN.out.1]; show _ = Value.bool (s.fs t); rw [HTN.out.2.2.1.1, HSF.out.1], by rw [HTN.out.1]; show _ = Value.bool (s.xs t); rw [HTN.out.2.2.1.2, HSF.out.2], H11.out.2.1, H11.out.2.2.1, HR.out.2.2.2.1, H11.out.2.2.2⟩⟩
     have HEND := Lib.hid hend
     clear hend
     cases sf <;> cases sx
     all_goals
      go_wp2_with fail
      go_roundw
      case rel => exact HEND.out
      case measure => simp [RowKit.intOf]; omega
   case neg =>
    obtain ⟨wo, rfl⟩ : ∃ W : World, W = wr := ⟨_, rfl⟩
    have hlo := HR.out.2.2.2.2.2.2.2.1
    have hto := HR.out.2.2.2.2.2.2.2.2.1
    have hlN := HR.out.2.2.2.2.2.2.2.2.2
    have ito : (t.to : Int) ≤ 1000 := by omega
    have ifr : (t.fr : Int) ≤ 1000 := by omega
    obtain ⟨its, hits⟩ : ∃ q, s.items (bF xs) t = q := ⟨_, rfl⟩
    obtain ⟨sf, hsf⟩ : ∃ q, s.f = q := ⟨_, rfl⟩
    obtain ⟨sx, hsx⟩ : ∃ q, s.x = q := ⟨_, rfl⟩
    rw [hsf, hsx]
    obtain ⟨ch, hch⟩ : ∃ q, s.c.h = q := ⟨_, rfl⟩
    obtain ⟨cp, hcp⟩ : ∃ q, s.c.p = q := ⟨_, rfl⟩
    obtain ⟨cn, hcn⟩ : ∃ q, s.c.n = q := ⟨_, rfl⟩
    obtain ⟨nb, hnb⟩ : ∃ q, decide (0 < cn) = q := ⟨_, rfl⟩
    obtain ⟨pb, hpb⟩ : ∃ q, decide (0 < cp) = q := ⟨_, rfl⟩
    by_cases hk0 : t.kind = 0
    case' pos =>
     have hkd : ((t.kind : Nat) : Int) = 0 := by omega
     rw [hkd] at d0
     have t8 := cells_new wo #[.int .i64 0, .int .i64 (t.fr : Int), .int .i64 (t.to : Int), .string SN, .int .i32 t.r, .bool t.sg, .bool false] 53
     have b8 := below_new wo (.cells #[.int .i64 0, .int .i64 (t.fr : Int), .int .i64 (t.to : Int), .string SN, .int .i32 t.r, .bool t.sg, .bool false] 53)
     obtain ⟨W8, hW8⟩ : ∃ V, wo.alloc (.cells #[.int .i64 0, .int .i64 (t.fr : Int), .int .i64 (t.to : Int), .string SN, .int .i32 t.r, .bool t.sg, .bool false] 53) = V := ⟨_, rfl⟩
     rw [hW8] at t8 b8
     have y0 : W8.cell? ⟨wo.heap.size, 0, none⟩ = some (.int .i64 0) := t8.cell 0
     have y1 : W8.cell? ⟨wo.heap.size, 1, none⟩ = some (.int .i64 (t.fr : Int)) := t8.cell 1
     have y2 : W8.cell? ⟨wo.heap.size, 2, none⟩ = some (.int .i64 (t.to : Int)) := t8.cell 2
     have y4 : W8.cell? ⟨wo.heap.size, 4, none⟩ = some (.int .i32 t.r) := t8.cell 4
     have bw8 : Below w.heap.size w W8 := HR.out.2.2.2.2.2.2.1.trans (b8.mono HR.out.2.2.2.2.2.2.1.size)
     have hBs := by_bs (HB.out.below bw8) t.fr t.to (by rw [HL.out.2.2.2.1]; exact hto)
     have CP := rall_any b (o' + t.fr) (t.to - t.fr) (cap - t.fr) (fun j => bF xs (t.fr + j)) (by omega) (by omega) (by omega) W8 hBs (Nat.lt_of_lt_of_le HBW.out bw8.size)
     have hsl : ∀ W, (Instr.slice 22 (.slice (some ⟨b, o', none⟩) N cap) (some (.int .i64 (t.fr : Int))) (some (.int .i64 (t.to : Int))) none).run Tryz.prog W = .ok (.slice (some ⟨b, o' + t.fr, none⟩) (t.to - t.fr) (cap - t.fr)) W :=
      fun W => slice_win b o' N cap t.fr t.to (by omega) (by omega) (by omega) W
     obtain ⟨p, hp⟩ : ∃ q, pcs (t.to - t.fr) (fun j => bF xs (t.fr + j)) (t.to - t.fr) 0 = q := ⟨_, rfl⟩
     rw [hp] at CP
     have hits2 := items_text s (bF xs) t hk0
     have htn := turn_text s t (.inl hk0)
     rw [hits, hch, hcn, hcp, hnb, hpb, hsf, hsx, hp] at hits2
     rw [hch, hsf, hsx] at htn
     have hpne : 0 < p.length := by
      rw [← hp]
      have h9 := pcs_next (t.to - t.fr) (fun j => bF xs (t.fr + j)) 0 (by omega)
      rw [Nat.sub_zero] at h9
      rw [h9]
      exact Nat.succ_pos _
     have hpsm : ∀ q ∈ p, 0 ≤ q.s ∧ q.s ≤ 1000 := by rw [← hp]; exact pcs_small _ _ _ _
     have hpl0 : p.length ≤ 1000 := by
      rw [← hp]
      have := pcs_len (t.to - t.fr) (fun j => bF xs (t.fr + j)) (t.to - t.fr) 0
      omega
     obtain ⟨m, hm⟩ : ∃ q, p.length = q := ⟨_, rfl⟩
     have HT := Lib.hid (And.intro (show m = 0 → s.turn t = s ∧ its = [] from fun h => by omega) (And.intro (show 0 < m → 0 < ch → s.turn t = s ∧ its = [] from fun _ h => ⟨by
       rw [htn, if_pos h, if_pos h, ← hsf, ← hsx], by rw [hits2, if_pos h]⟩) (And.intro (show 0 < m → ch = 0 → s.turn t = ⟨s.c, false, false⟩ ∧ itemsQ nb pb (t.fr : Int) sf sx p = its from fun _ h => ⟨by
       rw [htn, if_neg (by omega), if_neg (by omega)], by rw [hits2, if_neg (by omega)]⟩) (And.intro hpsm hm))))
     have HM := Lib.hid (show m ≤ 1000 by omega)
     have HITS := Lib.hid hits
     have HSF := Lib.hid (And.intro hsf hsx)
     have HCH := Lib.hid (And.intro hch (And.intro hcp hcn))
     have HW8 := Lib.hid hW8
     have H8 := Lib.hid (And.intro b8 bw8)
     have y0' := y0
     clear hits2 htn hpne hpsm hpl0 hits hsf hsx hch hcp hcn hW8 hBs hkd hk0 hk2 t8 b8 bw8 hp
     go_upto_region 9 with fail
     rw [HW8.out]
     clear d0 d1 d2 d3 d4 d5 d6 e1 e2 e3 e4 e5 e6
     go_wp2_with fail
     refine CP.mono ?_
     rintro e' w9 ⟨v, rfl, ho9, b9⟩
     clear CP hsl
     have y0 : w9.cell? ⟨wo.heap.size, 0, none⟩ = some (.int .i64 0) := (b9.cell (p := ⟨wo.heap.size, 0, none⟩) (cell_lt y0')).trans y0'
     have y1 : w9.cell? ⟨wo.heap.size, 1, none⟩ = some (.int .i64 (t.fr : Int)) := (b9.cell (p := ⟨wo.heap.size, 1, none⟩) (cell_lt y1)).trans y1
     clear y0' y2 y4
     have hobl := own_block_lt ho9
     obtain ⟨Ap, cp9, rfl, hP9⟩ := PsA.of_own ho9
     have hle9 := hP9.le
     have hmx9 := hP9.mx
     rw [hm] at hle9 ⊢
     have own9 : R.OwnIt w9 w2.heap.size pre u5 := (HR.out.2.1.below H8.out.1).below b9
     have hap9 : ∀ bb oo, Ap = some ⟨bb, oo, none⟩ → u5.ownBlock ≠ some bb := fun bb oo e e2 => by
      have h1 := (hobl bb (by rw [e]; rfl)).1
      have h2 := (own_block_lt HR.out.2.1 bb e2).2
      have h3 := H8.out.1.size
      omega
     have HI := Lib.hid (And.intro own9 (And.intro ((HR.out.1.on H8.out.1).on b9) (And.intro hP9 hap9)))
     clear own9 hap9 hP9 hobl ho9 b9 hm
     go_wp2_with fail
     clear y0 y1
    case' neg =>
     by_cases hk1 : t.kind = 1
     case' pos =>
      have hkd : ((t.kind : Nat) : Int) = 1 := by omega
      rw [hkd] at d0
      have t8 := cells_new wo #[.int .i64 1, .int .i64 (t.fr : Int), .int .i64 (t.to : Int), .string SN, .int .i32 t.r, .bool t.sg, .bool false] 53
      have b8 := below_new wo (.cells #[.int .i64 1, .int .i64 (t.fr : Int), .int .i64 (t.to : Int), .string SN, .int .i32 t.r, .bool t.sg, .bool false] 53)
      obtain ⟨W8, hW8⟩ : ∃ V, wo.alloc (.cells #[.int .i64 1, .int .i64 (t.fr : Int), .int .i64 (t.to : Int), .string SN, .int .i32 t.r, .bool t.sg, .bool false] 53) = V := ⟨_, rfl⟩
      rw [hW8] at t8 b8
      have y0 : W8.cell? ⟨wo.heap.size, 0, none⟩ = some (.int .i64 1) := t8.cell 0
      have y1 : W8.cell? ⟨wo.heap.size, 1, none⟩ = some (.int .i64 (t.fr : Int)) := t8.cell 1
      have y2 : W8.cell? ⟨wo.heap.size, 2, none⟩ = some (.int .i64 (t.to : Int)) := t8.cell 2
      have y4 : W8.cell? ⟨wo.heap.size, 4, none⟩ = some (.int .i32 t.r) := t8.cell 4
      have bw8 : Below w.heap.size w W8 := HR.out.2.2.2.2.2.2.1.trans (b8.mono HR.out.2.2.2.2.2.2.1.size)
      obtain ⟨p, hp⟩ : ∃ q : List PC, [(⟨t.r, (t.to : Int) - (t.fr : Int), false⟩ : PC)] = q := ⟨_, rfl⟩
      have hits2 := items_ref s (bF xs) t hk1
      have htn := turn_text s t (.inr hk1)
      rw [hits, hch, hcn, hcp, hnb, hpb, hsf, hsx, hp] at hits2
      rw [hch, hsf, hsx] at htn
      have hpsm : ∀ q ∈ p, 0 ≤ q.s ∧ q.s ≤ 1000 := fun q hq => by
       rw [← hp] at hq
       simp at hq
       subst hq
       exact ⟨by show (0 : Int) ≤ (t.to : Int) - (t.fr : Int); omega, by show (t.to : Int) - (t.fr : Int) ≤ 1000; omega⟩
      have t9 := cells_new W8 #[.int .i32 t.r, .int .i64 ((t.to : Int) - (t.fr : Int)), .bool false] 59
      have b9 := below_new W8 (.cells #[.int .i32 t.r, .int .i64 ((t.to : Int) - (t.fr : Int)), .bool false] 59)
      have o9 := ownP_lit W8 ⟨t.r, (t.to : Int) - (t.fr : Int), false⟩
      have o9 : OwnP (W8.alloc (.cells #[.int .i32 t.r, .int .i64 ((t.to : Int) - (t.fr : Int)), .bool false] 59)) W8.heap.size [(⟨t.r, (t.to : Int) - (t.fr : Int), false⟩ : PC)] (.slice (some ⟨W8.heap.size, 0, none⟩) 1 1) := o9
      rw [hp] at o9
      obtain ⟨w9, hw9⟩ : ∃ V, W8.alloc (.cells #[.int .i32 t.r, .int .i64 ((t.to : Int) - (t.fr : Int)), .bool false] 59) = V := ⟨_, rfl⟩
      rw [hw9] at t9 b9 o9
      have own9 : R.OwnIt w9 w2.heap.size pre u5 := (HR.out.2.1.below b8).below b9
      have rw9 := (HR.out.1.on b8).on b9
      have hE : ∃ (Ap : Option Addr) (m cp9 : Nat), Value.slice (some ⟨W8.heap.size, 0, none⟩) 1 1 = .slice Ap m cp9 ∧ m = 1 ∧ p.length = m ∧ PsA w9 w9.heap.size p Ap cp9 ∧ (∀ bb oo, Ap = some ⟨bb, oo, none⟩ → u5.ownBlock ≠ some bb) := by
       obtain ⟨Ap, cp9, e1, hP⟩ := PsA.of_own o9
       have hpl : p.length = 1 := by rw [← hp]; rfl
       rw [hpl] at e1
       refine ⟨Ap, 1, cp9, e1, rfl, hpl, hP, fun bb oo e e2 => ?_⟩
       rw [e] at e1
       injection e1 with e3
       cases e3
       have h2 := (own_block_lt HR.out.2.1 _ e2).2
       have h3 := b8.size
       omega
      obtain ⟨Ap, m, cp9, hv, hm1, hm, hP9, hap9⟩ := hE
      have hle9 := hP9.le
      have hmx9 := hP9.mx
      rw [hm] at hle9
      have y1' : w9.cell? ⟨wo.heap.size, 1, none⟩ = some (.int .i64 (t.fr : Int)) := (b9.cell (p := ⟨wo.heap.size, 1, none⟩) (cell_lt y1)).trans y1
      have HT := Lib.hid (And.intro (show m = 0 → s.turn t = s ∧ its = [] from fun h => by omega) (And.intro (show 0 < m → 0 < ch → s.turn t = s ∧ its = [] from fun _ h => ⟨by
        rw [htn, if_pos h, if_pos h, ← hsf, ← hsx], by rw [hits2, if_pos h]⟩) (And.intro (show 0 < m → ch = 0 → s.turn t = ⟨s.c, false, false⟩ ∧ itemsQ nb pb (t.fr : Int) sf sx p = its from fun _ h => ⟨by
        rw [htn, if_neg (by omega), if_neg (by omega)], by rw [hits2, if_neg (by omega)]⟩) (And.intro hpsm hm))))
      have HM := Lib.hid (show m ≤ 1000 by omega)
      have HITS := Lib.hid hits
      have HSF := Lib.hid (And.intro hsf hsx)
      have HCH := Lib.hid (And.intro hch (And.intro hcp hcn))
      have HW8 := Lib.hid hW8
      have HW9 := Lib.hid hw9
      have HV := Lib.hid hv
      have HI := Lib.hid (And.intro own9 (And.intro rw9 (And.intro hP9 hap9)))
      have HY := Lib.hid y1'
      clear hits2 htn hpsm hits hsf hsx hch hcp hcn hW8 hkd hk0 hk1 hk2 t8 b8 bw8 hp t9 b9 o9 hw9 own9 rw9 hP9 hap9 hv hm1 hm y1'
      go_upto_region 9 with fail
      rw [HW8.out]
      clear d0 d1 d2 d3 d4 d5 d6 e1 e2 e3 e4 e5 e6
      go_upto_region 19 with fail
      rw [HW9.out, HV.out]
      clear y0 y1 y2 y4
      have y1 := HY.out
      go_wp2_with fail
      clear y1
     case neg =>
      have q0 : ((t.kind : Int) == 0) = false := by
       have : ¬ (t.kind : Int) = 0 := by omega
       simpa using this
      have q1 : ((t.kind : Int) == 1) = false := by
       have : ¬ (t.kind : Int) = 1 := by omega
       simpa using this
      have q2 : ((t.kind : Int) == 2) = false := by
       have : ¬ (t.kind : Int) = 2 := by omega
       simpa using this
      have q3 : ((t.kind : Int) == 3) = false := by
       have : ¬ (t.kind : Int) = 3 := by omega
       simpa using this
      have hits2 := items_none s (bF xs) t hk0 hk1
      have htn := turn_other s t hk0 hk1 (by omega) (by omega)
      rw [hits] at hits2
      obtain ⟨kd, hkd⟩ : ∃ q : Int, ((t.kind : Nat) : Int) = q := ⟨_, rfl⟩
      rw [hkd] at d0 q0 q1 q2 q3
      have t8 := cells_new wo #[.int .i64 kd, .int .i64 (t.fr : Int), .int .i64 (t.to : Int), .string SN, .int .i32 t.r, .bool t.sg, .bool false] 53
      have b8 := below_new wo (.cells #[.int .i64 kd, .int .i64 (t.fr : Int), .int .i64 (t.to : Int), .string SN, .int .i32 t.r, .bool t.sg, .bool false] 53)
      obtain ⟨W8, hW8⟩ : ∃ V, wo.alloc (.cells #[.int .i64 kd, .int .i64 (t.fr : Int), .int .i64 (t.to : Int), .string SN, .int .i32 t.r, .bool t.sg, .bool false] 53) = V := ⟨_, rfl⟩
      rw [hW8] at t8 b8
      have y0 : W8.cell? ⟨wo.heap.size, 0, none⟩ = some (.int .i64 kd) := t8.cell 0
      have y1 : W8.cell? ⟨wo.heap.size, 1, none⟩ = some (.int .i64 (t.fr : Int)) := t8.cell 1
      have hend : ∃ k' : Nat, k' ≤ n ∧ Value.int .i64 ((k : Int) + 1) = .int .i64 (k' : Int) ∧ RL w2 gN (bF xs) L ALL N k' u5 (.bool sf) (.bool sx) W8 := by
       refine ⟨k + 1, by omega, by simp, ⟨pre, s.turn t, t.to, HR.out.2.1.below b8, by rw [htn, hsf], by rw [htn, hsx], (HR.out.1.on b8).turn (by rw [htn]), ?_, HR.out.2.2.2.1, ?_⟩⟩
       ·have := HR.out.2.2.1
        rw [hits, hits2, List.nil_append] at this
        exact this
       ·have := HR.out.2.2.2.2.1
        omega
      have HEND := Lib.hid hend
      have HW8 := Lib.hid hW8
      clear hits2 htn hits hsf hsx hch hcp hcn hW8 hkd hk0 hk1 hk2 t8 b8 hend
      go_upto_region 9 with fail
      rw [HW8.out]
      clear d0 d1 d2 d3 d4 d5 d6 e1 e2 e3 e4 e5 e6
      go_wp2_with fail
      clear y0 y1
      go_loopw [5, 6, 7, 14, 15] (fun o f x _ i wi => o = u5 ∧ f = .bool sf ∧ x = .bool sx ∧ i = .int .i64 0 ∧ wi = W8) (fun _ _ _ _ _ _ => 0)
      case atStart => exact ⟨rfl, rfl, rfl, rfl, rfl⟩
      case round =>
       obtain ⟨rfl, rfl, rfl, rfl, rfl⟩ := hrel
       go_wp2_with fail
       go_roundw
       case rel => exact HEND.out
       case measure => simp [RowKit.intOf]; omega
    all_goals
     go_loopw [5, 6, 7, 14, 15] (fun o f x a i wi => ∃ (j : Nat) (pre2 : List IT) (aa : Int) (ff xx : Bool), j ≤ m ∧ i = .int .i64 (j : Int) ∧ a = .int .i64 aa ∧ f = .bool ff ∧ x = .bool xx ∧ 0 ≤ aa ∧ aa ≤ 1000 + 1000 * (j : Int) ∧ R.OwnIt wi w2.heap.size pre2 o ∧ RW w2 gN s wi ∧ PsA wi wi.heap.size p Ap cp9 ∧ (∀ bb oo, Ap = some ⟨bb, oo, none⟩ → o.ownBlock ≠ some bb) ∧ pre2.length ≤ pre.length + j ∧ (j = 0 → pre2 = pre ∧ ff = sf ∧ xx = sx) ∧ (0 < j → ch = 0 ∧ ff = false ∧ xx = false) ∧ (ch = 0 → pre2 ++ itemsQ nb pb aa ff xx (p.drop j) = pre ++ itemsQ nb pb (t.fr : Int) sf sx p)) (fun _ _ _ _ i _ => m - (RowKit.intOf i).toNat)
     case atStart => exact ⟨0, pre, (t.fr : Int), sf, sx, Nat.zero_le _, rfl, rfl, rfl, rfl, by omega, by omega, HI.out.1, HI.out.2.1, HI.out.2.2.1, HI.out.2.2.2, Nat.le_refl _, fun _ => ⟨rfl, rfl, rfl⟩, fun h => absurd h (Nat.lt_irrefl _), fun _ => rfl⟩
     case round =>
      obtain ⟨j, pre2, aa, ff, xx, hj, rfl, rfl, rfl, rfl, ha0, ha1, ho2, hr2, hp2, hap, hl2, hz, hpos, hseq⟩ := hrel
      have x0 : wr.cell? ⟨gN, 0, none⟩ = some (.int .i64 (ch : Int)) := by
       have := hr2.n.cell 0
       rw [← HCH.out.1]
       exact this
      have exitK : pre2 = pre ++ its → (s.turn t).f = ff → (s.turn t).x = xx → (s.turn t).c = s.c → ∃ k' : Nat, k' ≤ n ∧ Value.int .i64 ((k : Int) + 1) = .int .i64 (k' : Int) ∧ RL w2 gN (bF xs) L ALL N k' u5 (.bool ff) (.bool xx) wr := fun e1 e2 e3 e4 => by
       refine ⟨k + 1, by omega, by simp, ⟨pre2, s.turn t, t.to, ho2, by rw [e2], by rw [e3], hr2.turn e4, ?_, HR.out.2.2.2.1, ?_⟩⟩
       ·have := HR.out.2.2.1
        rw [HITS.out] at this
        rw [e1, List.append_assoc]
        exact this
       ·have := HR.out.2.2.2.2.1
        rw [HITS.out] at this
        rw [e1, List.length_append]
        exact this
      by_cases hjm : j < m
      case neg =>
       obtain rfl : j = m := by omega
       have i2 : ¬ (j : Int) < (j : Int) := by omega
       have hend : ∃ k' : Nat, k' ≤ n ∧ Value.int .i64 ((k : Int) + 1) = .int .i64 (k' : Int) ∧ RL w2 gN (bF xs) L ALL N k' u5 (.bool ff) (.bool xx) wr := by
        rcases Nat.eq_zero_or_pos j with h0 | h0
        ·obtain ⟨q1, q2, q3⟩ := hz h0
         obtain ⟨q4, q5⟩ := HT.out.1 h0
         exact exitK (by rw [q1, q5, List.append_nil]) (by rw [q4, q2]; exact HSF.out.1) (by rw [q4, q3]; exact HSF.out.2) (by rw [q4])
        ·obtain ⟨q1, q2, q3⟩ := hpos h0
         obtain ⟨q4, q5⟩ := HT.out.2.2.1 h0 q1
         have q6 := hseq q1
         rw [List.drop_eq_nil_of_le (by rw [HT.out.2.2.2.2]; exact Nat.le_refl _), show itemsQ nb pb aa ff xx [] = [] from rfl, List.append_nil, q5] at q6
         exact exitK q6 (by rw [q4, q2]) (by rw [q4, q3]) (by rw [q4])
       have HEND := Lib.hid hend
       clear hend exitK hseq hpos hz hl2 hap hp2 hr2 ho2 ha0 ha1 hjm hj x0
       go_wp2_with fail
       go_roundw
       case rel => exact HEND.out
       case measure => simp [RowKit.intOf]; omega
      case pos =>
       have i2 : (j : Int) < (m : Int) := by omega
       by_cases hh : ch = 0
       case neg =>
        have qh : ((ch : Int) == 0) = false := by
         have : ¬ (ch : Int) = 0 := by omega
         simpa using this
        have hend : ∃ k' : Nat, k' ≤ n ∧ Value.int .i64 ((k : Int) + 1) = .int .i64 (k' : Int) ∧ RL w2 gN (bF xs) L ALL N k' u5 (.bool ff) (.bool xx) wr := by
         rcases Nat.eq_zero_or_pos j with h0 | h0
         ·obtain ⟨q1, q2, q3⟩ := hz h0
          obtain ⟨q4, q5⟩ := HT.out.2.1 (by omega) (by omega)
          exact exitK (by rw [q1, q5, List.append_nil]) (by rw [q4, q2]; exact HSF.out.1) (by rw [q4, q3]; exact HSF.out.2) (by rw [q4])
         ·exact absurd (hpos h0).1 hh
        have HEND := Lib.hid hend
        clear hend exitK hseq hpos hz hl2 hap hp2 hr2 ho2 ha0 ha1 hjm hj hh
        go_wp2_with fail
        go_roundw
        case rel => exact HEND.out
        case measure => simp [RowKit.intOf]; omega
       case pos =>
        have qh : ((ch : Int) == 0) = true := by rw [hh]; rfl
        clear exitK
        obtain ⟨q, hq⟩ : ∃ q, p[j]? = some q := ⟨_, List.getElem?_eq_getElem (by rw [HT.out.2.2.2.2]; exact hjm)⟩
        have hqs := HT.out.2.2.2.1 q (List.mem_of_getElem? hq)
        obtain ⟨bb, o2, hAe, hbb, c0, c1, c2⟩ := hp2.r j q hq
        cases hAe
        have hob := hap bb o2 rfl
        have hseq2 := hseq hh
        rw [drop_cons hq] at hseq2
        obtain ⟨qr, qs, qb⟩ := q
        simp only at c0 c1 c2 hqs
        have hown2 := own_block_lt ho2
        have hgX : ¬ u5.ownBlock = some gN := fun e => by
         have h1 := (hown2 gN e).1
         have h2 := H2.out.2.2.2.1
         omega
        have x1 : wr.cell? ⟨gN, 1, none⟩ = some (.int .i64 (cp : Int)) := by
         have := hr2.n.cell 1
         rw [← HCH.out.2.1]
         exact this
        have x2 : wr.cell? ⟨gN, 2, none⟩ = some (.int .i64 (cn : Int)) := by
         have := hr2.n.cell 2
         rw [← HCH.out.2.2]
         exact this
        have g1 : ∀ P : Later (fun z => u5.ownBlock = some z) wr, P.W.cell? ⟨gN, 1, none⟩ = some (.int .i64 (cp : Int)) := fun P => cell_later x1 hgX P
        have g2 : ∀ P : Later (fun z => u5.ownBlock = some z) wr, P.W.cell? ⟨gN, 2, none⟩ = some (.int .i64 (cn : Int)) := fun P => cell_later x2 hgX P
        have g3 : ∀ P : Later (fun z => u5.ownBlock = some z) wr, P.W.cell? ⟨bb, o2 + j * 3, none⟩ = some (.int .i32 qr) := fun P => cell_later c0 hob P
        have g4 : ∀ P : Later (fun z => u5.ownBlock = some z) wr, P.W.cell? ⟨bb, o2 + j * 3 + 1, none⟩ = some (.int .i64 qs) := fun P => cell_later c1 hob P
        have iq : qs ≤ 1000 := hqs.2
        have iq0 : 0 ≤ qs := hqs.1
        have ij : (j : Int) ≤ 1000 := by have := HM.out; omega
        have ia : aa ≤ 1001000 := by omega
        have hbase : w2.heap.size ≤ wr.heap.size := hr2.z.size
        have hpl2 : pre2.length ≤ 1000000 := by have := HM.out; have := HPL.out; omega
        have HJ := Lib.hid (And.intro ho2 (And.intro hr2 (And.intro hp2 (And.intro hob (And.intro hbb (And.intro c1 (And.intro hgX (And.intro hl2 (And.intro hseq2 hown2)))))))))
        have HHH := Lib.hid hh
        clear ho2 hr2 hp2 hob hbb c0 c1 c2 hgX hl2 hseq2 hseq hpos hz hap hq hqs x1 x2 hown2 hh
        go_upto_region 23 with fail
        refine wp_region_mixF (fun i => if 20 ≤ i then 2 else 0) [0, 1, 2, 3, 4, 5, 6, 7, 8, 9, 10, 11, 12, 13, 14, 15, 16, 17, 18, 19] 4 (fun w' => ∃ P : Later (fun z => u5.ownBlock = some z) wr, w' = P.W) (by kernel_rfl) (by kernel_rfl) ⟨⟨_, Fz.drew wr⟩, rfl⟩ ?_
        simp only [opsAt, List.filterMap_cons, List.filterMap_nil, List.getElem?_toArray, List.getElem?_cons_zero, List.getElem?_cons_succ]
        change wpQuiet _ _ _ _ [_, _, _, _, _, _, _, _, _, _, _, _, _, _, _, _, _, _, _, _] _
        repeat (go_big_quiet_step (fail))
        refine wpQuiet_nil ?_
        clear g1 g2 g3 g4 x0
        have zd : Fz (fun z => u5.ownBlock = some z) wr { wr with drawn := wr.drawn + 1 } := Fz.drew wr
        have bd : Below wr.heap.size wr { wr with drawn := wr.drawn + 1 } := ⟨rfl, rfl, rfl, Nat.le_refl _, fun _ _ => rfl⟩
        obtain ⟨wd, hwd⟩ : ∃ V, ({ wr with drawn := wr.drawn + 1 } : World) = V := ⟨_, rfl⟩
        rw [hwd] at zd bd ⊢
        clear hwd
        have own_d := HJ.out.1.below bd
        have hbase2 : w2.heap.size ≤ wd.heap.size := Nat.le_trans hbase bd.size
        have HD := Lib.hid (And.intro zd (And.intro bd own_d))
        clear zd bd own_d
        refine wpFreeM_step [20] (by kernel_rfl) ⟨?_, trivial⟩
        refine wpOp_of_list rfl ?_
        go_wp2_with fail
        refine ⟨⟨⟨_, HD.out.1⟩, rfl⟩, ?_⟩
        refine wpFreeM_step [21] (by kernel_rfl) ⟨?_, trivial⟩
        refine wpOp_of_list rfl ?_
        go_wp2_with fail
        refine ⟨⟨⟨_, HD.out.1.trans (Fz.of_below (below_new _ _))⟩, rfl⟩, ?_⟩
        refine wpFreeM_step [22] (by kernel_rfl) ⟨?_, trivial⟩
        refine wpOp_of_list rfl ?_
        refine (R.wpList_appI rfl (.tmp 93) (.tmp 114) rfl w2.heap.size u5 pre2 ⟨qr, aa, qs, ff, xx, nb, pb⟩ rfl wd HD.out.2.2 rfl rfl hpl2 hbase2 ?_)
        intro g cpp w4 o4 b4 u4 g4
        have z4 : Fz (fun z => u5.ownBlock = some z) wr w4 := ⟨b4.os.trans HD.out.1.os, b4.tape.trans HD.out.1.tape, b4.output.trans HD.out.1.output, Nat.le_trans HD.out.1.size b4.size, fun z hz hn => (u4 z (Nat.lt_of_lt_of_le hz HD.out.1.size) hn).trans (HD.out.1.block z hz hn)⟩
        have k4 : w4.heap[bb]? = wr.heap[bb]? := z4.block bb HJ.out.2.2.2.2.1 HJ.out.2.2.2.1
        have hb4 : bb < w4.heap.size := Nat.lt_of_lt_of_le HJ.out.2.2.2.2.1 z4.size
        have p4 := HJ.out.2.2.1.keep k4 hb4
        have c14 : w4.cell? ⟨bb, o2 + j * 3 + 1, none⟩ = some (.int .i64 qs) := (World.cell?_of_block (a := ⟨bb, _, none⟩) k4).trans HJ.out.2.2.2.2.2.1
        have r4 : RW w2 gN s w4 := ⟨HJ.out.2.1.ok, z4.cellsK HJ.out.2.2.2.2.2.2.1 HJ.out.2.1.n, HJ.out.2.1.z.below2 ((HD.out.2.1.mono hbase).trans b4) (Nat.le_refl _)⟩
        have hap4 : ∀ b9 oo, (some ⟨bb, o2, none⟩ : Option Addr) = some ⟨b9, oo, none⟩ → (Value.slice (some ⟨g, 0, none⟩) (pre2.length + 1) cpp).ownBlock ≠ some b9 := fun b9 oo e e2 => by
         cases e
         have e3 : g = bb := by simpa [Value.ownBlock] using e2
         rcases g4 with h | h
         ·rw [e3] at h
          exact HJ.out.2.2.2.1 h
         ·have h1 := HJ.out.2.2.2.2.1
          have h2 := HD.out.1.size
          omega
        have hend : ∃ (j' : Nat) (pre3 : List IT) (a' : Int) (ff' xx' : Bool), j' ≤ m ∧ Value.int .i64 ((j : Int) + 1) = .int .i64 (j' : Int) ∧ Value.int .i64 (aa + qs) = .int .i64 a' ∧ Value.bool false = .bool ff' ∧ Value.bool false = .bool xx' ∧ 0 ≤ a' ∧ a' ≤ 1000 + 1000 * (j' : Int) ∧ R.OwnIt w4 w2.heap.size pre3 (.slice (some ⟨g, 0, none⟩) (pre2.length + 1) cpp) ∧ RW w2 gN s w4 ∧ PsA w4 w4.heap.size p (some ⟨bb, o2, none⟩) cp9 ∧ (∀ b9 oo, (some ⟨bb, o2, none⟩ : Option Addr) = some ⟨b9, oo, none⟩ → (Value.slice (some ⟨g, 0, none⟩) (pre2.length + 1) cpp).ownBlock ≠ some b9) ∧ pre3.length ≤ pre.length + j' ∧ (j' = 0 → pre3 = pre ∧ ff' = sf ∧ xx' = sx) ∧ (0 < j' → ch = 0 ∧ ff' = false ∧ xx' = false) ∧ (ch = 0 → pre3 ++ itemsQ nb pb a' ff' xx' (p.drop j') = pre ++ itemsQ nb pb (t.fr : Int) sf sx p) := by
         refine ⟨j + 1, pre2 ++ [⟨qr, aa, qs, ff, xx, nb, pb⟩], aa + qs, false, false, by omega, by simp, rfl, rfl, rfl, by omega, by omega, o4, r4, p4, hap4, ?_, fun h => by omega, fun _ => ⟨HHH.out, rfl, rfl⟩, fun _ => ?_⟩
         ·have := HJ.out.2.2.2.2.2.2.2.1
          rw [List.length_append]
          show pre2.length + 1 ≤ _
          omega
         ·rw [List.append_assoc]
          exact HJ.out.2.2.2.2.2.2.2.2.1
        have HEND := Lib.hid hend
        have H4 := Lib.hid z4
        clear hend o4 b4 u4 g4 z4 k4 hb4 p4 r4 hap4 hbase hbase2 hpl2
        go_wp2_with fail
        refine ⟨⟨⟨_, H4.out⟩, rfl⟩, ?_⟩
        refine wpFreeM_step [23] (by kernel_rfl) ⟨?_, trivial⟩
        refine wpOp_of_list rfl ?_
        go_wp2_with fail
        refine ⟨⟨⟨_, H4.out⟩, rfl⟩, ?_⟩
        unfold wpFreeM
        go_wp2_with fail
        go_roundw
        case rel => exact HEND.out
        case measure => simp [RowKit.intOf]; omega
end Go.Proofs.YtojinnnpfjhifaaGreatDoor.K

namespace Go.Proofs.YtojinnnpfjhifaaGreatDoor.K
open Go.RowKit Go.Shelf Go.Lib Go.Maps
attribute [local irreducible] nmL ofN
theorem nmE_rng : ∀ x ∈ nmE, (0 : Int) ≤ x.2 ∧ x.2 ≤ 1114111 := by decide +kernel
theorem nmR_rng (l : List UInt8) : 0 ≤ nmR l ∧ nmR l ≤ 1114111 := by
 unfold nmR
 cases h : nmE.find? (isNm l) with
 | none => exact ⟨by simp, by simp⟩
 | some x => simpa using nmE_rng x (List.mem_of_find?_eq_some h)
theorem scR_rng (r : Int) : 0 ≤ scR r ∧ scR r ≤ 1114111 := by
 have := (valid_iff (scR r)).1 (scR_valid r)
 omega
theorem mnR_rng (n : Nat) : 0 ≤ mnR n ∧ mnR n ≤ 1114111 := by
 unfold mnR
 split
 ·exact ⟨by omega, by omega⟩
 ·exact scR_rng _
theorem readS_rng : ∀ (L : List Sty), (∀ s ∈ L, ∀ l, 0 ≤ s.means l ∧ s.means l ≤ 1114111) → ∀ xs, 0 ≤ (readS L xs).1 ∧ (readS L xs).1 ≤ 1114111
 | [], _, xs => ⟨by simp [readS], by simp [readS]⟩
 | s :: r, h, xs => by
  unfold readS
  split
  ·exact h s (List.mem_cons_self ..) _
  ·exact readS_rng r (fun u hu => h u (List.mem_cons_of_mem _ hu)) xs
theorem readE_rng (xs : List Nat) (i : Int) : 0 ≤ (readE xs i).1 ∧ (readE xs i).1 ≤ 1114111 := by
 unfold readE
 split
 ·exact ⟨by simp, by simp⟩
 ·split
  ·refine readS_rng _ (fun s hs l => ?_) _
   unfold styL at hs
   simp at hs
   rcases hs with rfl | rfl | rfl | rfl
   ·exact nmR_rng _
   ·exact mnR_rng _
   ·exact mnR_rng _
   ·exact mnR_rng _
  ·exact ⟨by simp, by simp⟩
def inR32 (r : Int) : Prop := -2147483648 ≤ r ∧ r ≤ 2147483647
theorem each_r (xs : List Nat) : ∀ t ∈ eachL xs, inR32 t.r :=
 each_all (fun t => inR32 t.r) (fun _ _ => ⟨by show (-2147483648 : Int) ≤ 0; omega, by show (0 : Int) ≤ 2147483647; omega⟩) (fun _ _ => ⟨by show (-2147483648 : Int) ≤ 0; omega, by show (0 : Int) ≤ 2147483647; omega⟩) (fun k t _ h => by
  unfold markT at h
  split at h
  ·cases h
   exact ⟨by show (-2147483648 : Int) ≤ 0; omega, by show (0 : Int) ≤ 2147483647; omega⟩
  ·split at h
   ·cases h
    have := readE_rng xs k
    exact ⟨by show (-2147483648 : Int) ≤ (readE xs k).1; omega, by show (readE xs k).1 ≤ (2147483647 : Int); omega⟩
   ·split at h
    ·cases h
     exact ⟨by show (-2147483648 : Int) ≤ 0; omega, by show (0 : Int) ≤ 2147483647; omega⟩
    ·cases h)
theorem first_240 {b : Nat} (h : Lib.firstT b = 240) : b < 128 := by
 unfold Lib.firstT at h
 split at h
 ·assumption
 ·repeat' split at h
  all_goals omega
theorem pieceS_rng (n b0 b1 b2 b3 sz lo hi : Nat) : (S.M1.pieceS n b0 b1 b2 b3 sz lo hi).1 ≤ 2097151 := by
 unfold S.M1.pieceS
 repeat' split
 all_goals (simp; try omega)
theorem pieceB_rng (n b0 b1 b2 b3 : Nat) : (S.M1.pieceB n b0 b1 b2 b3).1 ≤ 2097151 := by
 unfold S.M1.pieceB
 split
 ·rename_i h
  have := first_240 h
  show b0 ≤ _
  omega
 ·split
  ·show 65533 ≤ _
   omega
  ·exact pieceS_rng _ _ _ _ _ _ _ _
theorem nxS_rng (n : Nat) (f : Nat → Nat) (k : Nat) : (nxS n f k).1 ≤ 2097151 := pieceB_rng _ _ _ _ _
theorem text_r (n : Nat) (f : Nat → Nat) (fr : Nat) (nb pb : Bool) : ∀ (d k : Nat) (fo x : Bool), ∀ y ∈ textF n f fr nb pb d k fo x, inR32 y.r
 | 0, k, fo, x, y, h => by simp [textF] at h
 | d + 1, k, fo, x, y, h => by
  unfold textF at h
  by_cases hk : k < n
  ·rw [if_pos hk] at h
   rcases List.mem_cons.1 h with rfl | h
   ·have := nxS_rng n f k
    exact ⟨by show (-2147483648 : Int) ≤ ((nxS n f k).1 : Int); omega, by show ((nxS n f k).1 : Int) ≤ 2147483647; omega⟩
   ·exact text_r n f fr nb pb d _ false false y h
  ·rw [if_neg hk] at h
   simp at h
theorem items_r (s : ES) (B : Nat → Nat) (t : TK) (h : inR32 t.r) : ∀ y ∈ s.items B t, inR32 y.r := fun y hy => by
 unfold ES.items tkI at hy
 split at hy
 ·simp at hy
 ·split at hy
  ·exact text_r _ _ _ _ _ _ _ _ _ y hy
  ·split at hy
   ·simp at hy
    subst hy
    exact h
   ·simp at hy
theorem all_r (B : Nat → Nat) : ∀ (l : List TK) (s : ES), (∀ t ∈ l, inR32 t.r) → ∀ y ∈ allI B s l, inR32 y.r
 | [], s, h, y, hy => by simp [allI] at hy
 | t :: r, s, h, y, hy => by
  rcases List.mem_append.1 (show y ∈ s.items B t ++ allI B (s.turn t) r from hy) with hy | hy
  ·exact items_r s B t (h t (List.mem_cons_self ..)) y hy
  ·exact all_r B r (s.turn t) (fun u hu => h u (List.mem_cons_of_mem _ hu)) y hy
end Go.Proofs.YtojinnnpfjhifaaGreatDoor.K

namespace Go.Proofs.YtojinnnpfjhifaaGreatDoor.K
open Go.RowKit Go.Shelf Go.Lib Go.Maps
attribute [local irreducible] nmL ofN
set_option maxRecDepth 100000 in
set_option maxHeartbeats 8000000 in
theorem allLaw (xs : List Nat) (A : Option Addr) (cap : Nat) (w : World) (hb : BY w w.heap.size xs A cap) (hM : G.MX w) (hT : S.Tabs w) :
  Calls Tryz.prog 3 #[.slice A xs.length cap] w fun e w' => e = .returned (.bool true) ∧ Below w.heap.size w w' := by
 have CW := xawake_any w hM hT
 have hcap := hb.l
 have hmx := hb.m
 by_cases hl : xs.length ≤ 300
 case neg =>
  obtain ⟨N, hN⟩ : ∃ q, xs.length = q := ⟨_, rfl⟩
  rw [hN] at hcap hl ⊢
  have i0 : (300 : Int) < (N : Int) := by omega
  have HC := Lib.hid CW
  clear CW hb hM hT hN hl
  go_enter Tryz.func3, Tryz.ntmps3
  go_wp2_with fail
  refine HC.out.mono ?_
  rintro e w1 ⟨rfl, b1⟩
  go_wp2_with fail
  go_ret
  exact ⟨rfl, b1⟩
 have CG := fun W (h : Below w.heap.size w W) => xall_any xs A cap W (hb.on h) (by omega) (hM.on hM.pos h) (hT.below h (by have := hT.2; omega))
 have CR := fun W (h : Below w.heap.size w W) => refAll_any xs A cap W (hb.on h) (by omega)
 have hln := rise_len _ _ _ (all_rise (bF xs) (eachL xs) es0 0 _ (eachL_tiles xs))
 have hrr := all_r (bF xs) (eachL xs) es0 (each_r xs)
 obtain ⟨ALL, hALL⟩ : ∃ q, allI (bF xs) es0 (eachL xs) = q := ⟨_, rfl⟩
 simp only [hALL] at CG CR hln hrr
 obtain ⟨N, hN⟩ : ∃ q, xs.length = q := ⟨_, rfl⟩
 rw [hN] at hl hcap hln ⊢
 simp only [hN] at CG CR
 have i0 : ¬ (300 : Int) < (N : Int) := by omega
 have hmA : ALL.length ≤ 300 := by omega
 have HG := Lib.hid (And.intro CG CR)
 have HE := Lib.hid (And.intro hmA hrr)
 clear CG CR hln hrr hALL hN hl hb hM hT hmA
 go_enter Tryz.func3, Tryz.ntmps3
 go_wp2_with fail
 refine CW.mono ?_
 rintro e w1 ⟨rfl, b1⟩
 clear CW
 have CG := HG.out.1 w1 b1
 have H1 := Lib.hid b1
 clear b1
 go_wp2_with fail
 refine CG.mono ?_
 rintro e w2 ⟨v, rfl, ho, b2⟩
 clear CG
 obtain ⟨A2, c2, rfl, hI⟩ := IsA.of_own ho
 have hle := hI.le
 have hmx2 := hI.mx
 have b12 := H1.out.trans (b2.mono H1.out.size)
 have CR := HG.out.2 w2 b12
 obtain ⟨m, hm⟩ : ∃ q, ALL.length = q := ⟨_, rfl⟩
 rw [hm] at hle ⊢
 have H2 := Lib.hid (And.intro hI (And.intro b12 hm))
 clear ho b2 hI b12 hm
 go_wp2_with fail
 refine CR.mono ?_
 rintro e w3 ⟨v, rfl, ho, b3⟩
 clear CR
 obtain ⟨A3, c3, rfl, hI3⟩ := R.IsA.of_own ho
 have hle3 := hI3.le
 have hmx3 := hI3.mx
 rw [H2.out.2.2] at hle3 ⊢
 have H3 := Lib.hid (And.intro (H2.out.1.on b3) (And.intro hI3 (H2.out.2.1.trans (b3.mono H2.out.2.1.size))))
 clear ho b3 hI3
 go_wp2_with fail
 go_loopw [5, 6] (fun o i wr => ∃ k : Nat, k ≤ m ∧ i = .int .i64 (k : Int) ∧ OwnB wr w3.heap.size (putK ALL k) o ∧ Below w3.heap.size w3 wr) (fun _ i _ => m - (RowKit.intOf i).toNat)
 case atStart => exact ⟨0, Nat.zero_le _, rfl, ownB_nil _ _, Below.refl _ _⟩
 case round =>
  obtain ⟨k, hk, rfl, ho, hb⟩ := hrel
  by_cases hkm : k < m
  case pos =>
   have i1 : (k : Int) < (m : Int) := by omega
   have ik : (k : Int) ≤ 100000 := by
    have h1 := HE.out.1
    have h2 := H2.out.2.2
    omega
   obtain ⟨x, hx⟩ : ∃ x, ALL[k]? = some x := ⟨_, List.getElem?_eq_getElem (by rw [H2.out.2.2]; exact hkm)⟩
   have hxr := HE.out.2 x (List.mem_of_getElem? hx)
   have hpk := putK_next hx
   obtain ⟨b, o, rfl, hbb, a0, a1, a2, a3, a4, a5, a6⟩ := R.isA_cells (H3.out.2.1.below hb) hx
   obtain ⟨xr, xa, xz, xf, xx, xn, xp⟩ := x
   simp only at a0 hxr hpk
   have C := rput_any xr hxr.1 hxr.2 wr
   have HK := Lib.hid (And.intro ho (And.intro hb hpk))
   clear ho hb hx hxr hpk hbb a1 a2 a3 a4 a5 a6
   go_wp2_with fail
   refine C.mono ?_
   rintro e w5 ⟨A5, c5, rfl, hB5, b5⟩
   have own5 := HK.out.1.below b5
   have b15 : Below w3.heap.size w3 w5 := HK.out.2.1.trans (b5.mono HK.out.2.1.size)
   have H5 := Lib.hid (And.intro own5 (And.intro hB5 (And.intro b15 (show (putK ALL k).length + (putN xr).length ≤ 1000000 by
    have h1 := putK_len ALL k
    have h2 := putN_len xr
    omega))))
   obtain ⟨P, hP⟩ : ∃ q, (putN xr).length = q := ⟨_, rfl⟩
   have HP := Lib.hid hP
   rw [hP]
   clear own5 hB5 b15 b5 C a0 hP
   go_wp2_with (at_builtin; refine wpList_appBs rfl (.tmp 25) (.tmp 31) rfl w3.heap.size _ (putK ALL k) (putN xr) rfl H5.out.1 A5 P c5 HP.out rfl H5.out.2.1 (by rw [← HP.out]; exact H5.out.2.2.2) H5.out.2.2.1.size ?_)
   intro v' w6 o6 b6
   have hend : ∃ j : Nat, j ≤ m ∧ Value.int .i64 ((k : Int) + 1) = .int .i64 (j : Int) ∧ OwnB w6 w3.heap.size (putK ALL j) v' ∧ Below w3.heap.size w3 w6 := ⟨k + 1, by omega, by simp, by rw [HK.out.2.2]; exact o6, H5.out.2.2.1.trans b6⟩
   have HEND := Lib.hid hend
   clear hend o6 b6
   go_wp2_with fail
   go_roundw
   case rel => exact HEND.out
   case measure => simp [RowKit.intOf]; omega
  case neg =>
   obtain rfl : k = m := by omega
   have i1 : ¬ (k : Int) < (k : Int) := by omega
   have hkk : putK ALL k = putL (ALL.map (·.r)) := by
    unfold putK
    rw [List.take_of_length_le (by rw [H2.out.2.2]; exact Nat.le_refl _)]
   rw [hkk] at ho
   obtain ⟨A5, c5, rfl, hB5⟩ := OwnB.by ho (putL_lt _)
   have hc5 := hB5.l
   have hm5 := hB5.m
   have CI := fun W (h : Below wr.heap.size wr W) => items_is ALL A2 A3 c2 c3 W ((((H3.out.1.below hb).mono hb.size)).on h) ((((H3.out.2.1.below hb).mono hb.size)).on h) (by have := HE.out.1; omega)
   have CT := fun W (h : Below wr.heap.size wr W) => text12_any ALL A2 c2 W ((((H3.out.1.below hb).mono hb.size)).on h) HE.out.2 (by have := HE.out.1; omega)
   simp only [H2.out.2.2] at CI CT
   obtain ⟨SS, hSS⟩ : ∃ q : ByteArray, (⟨(u8s (putL (ALL.map (·.r)))).toArray⟩ : ByteArray) = q := ⟨_, rfl⟩
   simp only [hSS] at CT
   obtain ⟨Q, hQ⟩ : ∃ q, (putL (ALL.map (·.r))).length = q := ⟨_, rfl⟩
   have hcv : ∀ W, Below wr.heap.size wr W → (convert 22 9 (.slice A5 Q c5)).run Tryz.prog W = .ok (.string SS) W := fun W h => by
    have h1 := conv_by (hB5.on h)
    rw [hSS, hQ] at h1
    exact h1
   rw [hQ] at hc5 ⊢
   have HZ := Lib.hid (And.intro (H3.out.2.2.trans (hb.mono H3.out.2.2.size)) hb)
   have HC := Lib.hid (And.intro CI (And.intro CT hcv))
   clear hb ho hB5 hkk hkm hk CI CT hcv hSS hQ
   go_upto_region 9 with fail
   refine wp_region_mixF (fun i => if 2 ≤ i then 2 else 0) [0, 1] 9 (fun w' => ∃ P : Later (fun _ => False) wr, w' = P.W) (by kernel_rfl) (by kernel_rfl) ⟨⟨_, Fz.drew wr⟩, rfl⟩ ?_
   simp only [opsAt, List.filterMap_cons, List.filterMap_nil, List.getElem?_toArray, List.getElem?_cons_zero, List.getElem?_cons_succ]
   change wpQuiet _ _ _ _ [_, _] _
   repeat (go_big_quiet_step (fail))
   refine wpQuiet_nil ?_
   have zd : Fz (fun _ => False) wr { wr with drawn := wr.drawn + 1 } := Fz.drew wr
   have bd : Below wr.heap.size wr { wr with drawn := wr.drawn + 1 } := ⟨rfl, rfl, rfl, Nat.le_refl _, fun _ _ => rfl⟩
   obtain ⟨wd, hwd⟩ : ∃ V, ({ wr with drawn := wr.drawn + 1 } : World) = V := ⟨_, rfl⟩
   rw [hwd] at zd bd ⊢
   clear hwd
   have C2 := HC.out.1 wd bd
   have HD := Lib.hid (And.intro zd bd)
   clear zd bd
   refine wpFreeM_step [2] (by kernel_rfl) ⟨?_, trivial⟩
   refine wpOp_of_list rfl ?_
   go_wp2_with fail
   refine C2.mono ?_
   rintro e w7 ⟨rfl, b7⟩
   clear C2
   have b17 : Below wr.heap.size wr w7 := HD.out.2.trans (b7.mono HD.out.2.size)
   have hc7 := HC.out.2.2 w7 b17
   have C5 := HC.out.2.1 w7 b17
   have H7 := Lib.hid (And.intro (HD.out.1.trans (Fz.of_below b7)) (And.intro (HZ.out.1.trans (b17.mono HZ.out.1.size)) b17))
   clear b7 b17
   go_wp2_with fail
   refine ⟨⟨⟨_, H7.out.1⟩, rfl⟩, ?_⟩
   refine wpFreeM_step [3] (by kernel_rfl) ⟨?_, trivial⟩
   refine wpOp_of_list rfl ?_
   go_wp2_with fail
   refine ⟨⟨⟨_, H7.out.1⟩, rfl⟩, ?_⟩
   refine wpFreeM_step [4, 6] (by kernel_rfl) ⟨?_, ?_, trivial⟩
   ·refine wpOp_of_list rfl ?_
    go_wp2_with fail
    refine ⟨⟨⟨_, H7.out.1⟩, rfl⟩, ?_⟩
    refine wpFreeM_step [5, 6] (by kernel_rfl) ⟨?_, ?_, trivial⟩
    ·refine wpOp_of_list rfl ?_
     go_wp2_with fail
     refine C5.mono ?_
     rintro e w8 ⟨rfl, b8⟩
     have b18 : Below wr.heap.size wr w8 := H7.out.2.2.trans (b8.mono H7.out.2.2.size)
     have hc8 := HC.out.2.2 w8 b18
     have H8 := Lib.hid (And.intro (H7.out.1.trans (Fz.of_below b8)) (And.intro (HZ.out.1.trans (b18.mono HZ.out.1.size)) b18))
     clear b8 b18
     go_wp2_with fail
     refine ⟨⟨⟨_, H8.out.1⟩, rfl⟩, ?_⟩
     refine wpFreeM_step [6] (by kernel_rfl) ⟨?_, trivial⟩
     refine wpOp_of_list rfl ?_
     go_wp2_with fail
     refine ⟨⟨⟨_, H8.out.1⟩, rfl⟩, ?_⟩
     refine wpFreeM_step [7] (by kernel_rfl) ⟨?_, trivial⟩
     refine wpOp_of_list rfl ?_
     go_wp2_with fail
     refine ⟨⟨⟨_, H8.out.1⟩, rfl⟩, ?_⟩
     refine wpFreeM_step [8] (by kernel_rfl) ⟨?_, trivial⟩
     refine wpOp_of_list rfl ?_
     go_wp2_with fail
     refine ⟨⟨⟨_, H8.out.1⟩, rfl⟩, ?_⟩
     refine wpFreeM_step [9] (by kernel_rfl) ⟨?_, trivial⟩
     refine wpOp_of_list rfl ?_
     go_wp2_with fail
     refine ⟨⟨⟨_, H8.out.1⟩, rfl⟩, ?_⟩
     refine wpFreeM_step [10] (by kernel_rfl) ⟨?_, trivial⟩
     refine wpOp_of_list rfl ?_
     go_wp2_with fail
     refine ⟨⟨⟨_, H8.out.1⟩, rfl⟩, ?_⟩
     unfold wpFreeM
     go_wp2_with fail
     go_ret
     exact ⟨rfl, H8.out.2.1⟩
    ·refine wpOp_of_list rfl ?_
     go_wp2_with fail
     refine ⟨⟨⟨_, H7.out.1⟩, rfl⟩, ?_⟩
     refine wpFreeM_step [5, 7] (by kernel_rfl) ⟨?_, ?_, trivial⟩
     ·refine wpOp_of_list rfl ?_
      go_wp2_with fail
      refine C5.mono ?_
      rintro e w8 ⟨rfl, b8⟩
      have b18 : Below wr.heap.size wr w8 := H7.out.2.2.trans (b8.mono H7.out.2.2.size)
      have hc8 := HC.out.2.2 w8 b18
      have H8 := Lib.hid (And.intro (H7.out.1.trans (Fz.of_below b8)) (And.intro (HZ.out.1.trans (b18.mono HZ.out.1.size)) b18))
      clear b8 b18
      go_wp2_with fail
      refine ⟨⟨⟨_, H8.out.1⟩, rfl⟩, ?_⟩
      refine wpFreeM_step [7] (by kernel_rfl) ⟨?_, trivial⟩
      refine wpOp_of_list rfl ?_
      go_wp2_with fail
      refine ⟨⟨⟨_, H8.out.1⟩, rfl⟩, ?_⟩
      refine wpFreeM_step [8] (by kernel_rfl) ⟨?_, trivial⟩
      refine wpOp_of_list rfl ?_
      go_wp2_with fail
      refine ⟨⟨⟨_, H8.out.1⟩, rfl⟩, ?_⟩
      refine wpFreeM_step [9] (by kernel_rfl) ⟨?_, trivial⟩
      refine wpOp_of_list rfl ?_
      go_wp2_with fail
      refine ⟨⟨⟨_, H8.out.1⟩, rfl⟩, ?_⟩
      refine wpFreeM_step [10] (by kernel_rfl) ⟨?_, trivial⟩
      refine wpOp_of_list rfl ?_
      go_wp2_with fail
      refine ⟨⟨⟨_, H8.out.1⟩, rfl⟩, ?_⟩
      unfold wpFreeM
      go_wp2_with fail
      go_ret
      exact ⟨rfl, H8.out.2.1⟩
     ·refine wpOp_of_list rfl ?_
      go_wp2_with fail
      refine ⟨⟨⟨_, H7.out.1⟩, rfl⟩, ?_⟩
      refine wpFreeM_step [5] (by kernel_rfl) ⟨?_, trivial⟩
      refine wpOp_of_list rfl ?_
      go_wp2_with fail
      refine C5.mono ?_
      rintro e w8 ⟨rfl, b8⟩
      have b18 : Below wr.heap.size wr w8 := H7.out.2.2.trans (b8.mono H7.out.2.2.size)
      have hc8 := HC.out.2.2 w8 b18
      have H8 := Lib.hid (And.intro (H7.out.1.trans (Fz.of_below b8)) (And.intro (HZ.out.1.trans (b18.mono HZ.out.1.size)) b18))
      clear b8 b18
      go_wp2_with fail
      refine ⟨⟨⟨_, H8.out.1⟩, rfl⟩, ?_⟩
      refine wpFreeM_step [8] (by kernel_rfl) ⟨?_, trivial⟩
      refine wpOp_of_list rfl ?_
      go_wp2_with fail
      refine ⟨⟨⟨_, H8.out.1⟩, rfl⟩, ?_⟩
      refine wpFreeM_step [9] (by kernel_rfl) ⟨?_, trivial⟩
      refine wpOp_of_list rfl ?_
      go_wp2_with fail
      refine ⟨⟨⟨_, H8.out.1⟩, rfl⟩, ?_⟩
      refine wpFreeM_step [10] (by kernel_rfl) ⟨?_, trivial⟩
      refine wpOp_of_list rfl ?_
      go_wp2_with fail
      refine ⟨⟨⟨_, H8.out.1⟩, rfl⟩, ?_⟩
      unfold wpFreeM
      go_wp2_with fail
      go_ret
      exact ⟨rfl, H8.out.2.1⟩
   ·refine wpOp_of_list rfl ?_
    go_wp2_with fail
    refine ⟨⟨⟨_, H7.out.1⟩, rfl⟩, ?_⟩
    refine wpFreeM_step [4, 7] (by kernel_rfl) ⟨?_, ?_, trivial⟩
    ·refine wpOp_of_list rfl ?_
     go_wp2_with fail
     refine ⟨⟨⟨_, H7.out.1⟩, rfl⟩, ?_⟩
     refine wpFreeM_step [5, 7] (by kernel_rfl) ⟨?_, ?_, trivial⟩
     ·refine wpOp_of_list rfl ?_
      go_wp2_with fail
      refine C5.mono ?_
      rintro e w8 ⟨rfl, b8⟩
      have b18 : Below wr.heap.size wr w8 := H7.out.2.2.trans (b8.mono H7.out.2.2.size)
      have hc8 := HC.out.2.2 w8 b18
      have H8 := Lib.hid (And.intro (H7.out.1.trans (Fz.of_below b8)) (And.intro (HZ.out.1.trans (b18.mono HZ.out.1.size)) b18))
      clear b8 b18
      go_wp2_with fail
      refine ⟨⟨⟨_, H8.out.1⟩, rfl⟩, ?_⟩
      refine wpFreeM_step [7] (by kernel_rfl) ⟨?_, trivial⟩
      refine wpOp_of_list rfl ?_
      go_wp2_with fail
      refine ⟨⟨⟨_, H8.out.1⟩, rfl⟩, ?_⟩
      refine wpFreeM_step [8] (by kernel_rfl) ⟨?_, trivial⟩
      refine wpOp_of_list rfl ?_
      go_wp2_with fail
      refine ⟨⟨⟨_, H8.out.1⟩, rfl⟩, ?_⟩
      refine wpFreeM_step [9] (by kernel_rfl) ⟨?_, trivial⟩
      refine wpOp_of_list rfl ?_
      go_wp2_with fail
      refine ⟨⟨⟨_, H8.out.1⟩, rfl⟩, ?_⟩
      refine wpFreeM_step [10] (by kernel_rfl) ⟨?_, trivial⟩
      refine wpOp_of_list rfl ?_
      go_wp2_with fail
      refine ⟨⟨⟨_, H8.out.1⟩, rfl⟩, ?_⟩
      unfold wpFreeM
      go_wp2_with fail
      go_ret
      exact ⟨rfl, H8.out.2.1⟩
     ·refine wpOp_of_list rfl ?_
      go_wp2_with fail
      refine ⟨⟨⟨_, H7.out.1⟩, rfl⟩, ?_⟩
      refine wpFreeM_step [5] (by kernel_rfl) ⟨?_, trivial⟩
      refine wpOp_of_list rfl ?_
      go_wp2_with fail
      refine C5.mono ?_
      rintro e w8 ⟨rfl, b8⟩
      have b18 : Below wr.heap.size wr w8 := H7.out.2.2.trans (b8.mono H7.out.2.2.size)
      have hc8 := HC.out.2.2 w8 b18
      have H8 := Lib.hid (And.intro (H7.out.1.trans (Fz.of_below b8)) (And.intro (HZ.out.1.trans (b18.mono HZ.out.1.size)) b18))
      clear b8 b18
      go_wp2_with fail
      refine ⟨⟨⟨_, H8.out.1⟩, rfl⟩, ?_⟩
      refine wpFreeM_step [8] (by kernel_rfl) ⟨?_, trivial⟩
      refine wpOp_of_list rfl ?_
      go_wp2_with fail
      refine ⟨⟨⟨_, H8.out.1⟩, rfl⟩, ?_⟩
      refine wpFreeM_step [9] (by kernel_rfl) ⟨?_, trivial⟩
      refine wpOp_of_list rfl ?_
      go_wp2_with fail
      refine ⟨⟨⟨_, H8.out.1⟩, rfl⟩, ?_⟩
      refine wpFreeM_step [10] (by kernel_rfl) ⟨?_, trivial⟩
      refine wpOp_of_list rfl ?_
      go_wp2_with fail
      refine ⟨⟨⟨_, H8.out.1⟩, rfl⟩, ?_⟩
      unfold wpFreeM
      go_wp2_with fail
      go_ret
      exact ⟨rfl, H8.out.2.1⟩
    ·refine wpOp_of_list rfl ?_
     go_wp2_with fail
     refine ⟨⟨⟨_, H7.out.1⟩, rfl⟩, ?_⟩
     refine wpFreeM_step [4] (by kernel_rfl) ⟨?_, trivial⟩
     refine wpOp_of_list rfl ?_
     go_wp2_with fail
     refine ⟨⟨⟨_, H7.out.1⟩, rfl⟩, ?_⟩
     refine wpFreeM_step [5] (by kernel_rfl) ⟨?_, trivial⟩
     refine wpOp_of_list rfl ?_
     go_wp2_with fail
     refine C5.mono ?_
     rintro e w8 ⟨rfl, b8⟩
     have b18 : Below wr.heap.size wr w8 := H7.out.2.2.trans (b8.mono H7.out.2.2.size)
     have hc8 := HC.out.2.2 w8 b18
     have H8 := Lib.hid (And.intro (H7.out.1.trans (Fz.of_below b8)) (And.intro (HZ.out.1.trans (b18.mono HZ.out.1.size)) b18))
     clear b8 b18
     go_wp2_with fail
     refine ⟨⟨⟨_, H8.out.1⟩, rfl⟩, ?_⟩
     refine wpFreeM_step [8] (by kernel_rfl) ⟨?_, trivial⟩
     refine wpOp_of_list rfl ?_
     go_wp2_with fail
     refine ⟨⟨⟨_, H8.out.1⟩, rfl⟩, ?_⟩
     refine wpFreeM_step [9] (by kernel_rfl) ⟨?_, trivial⟩
     refine wpOp_of_list rfl ?_
     go_wp2_with fail
     refine ⟨⟨⟨_, H8.out.1⟩, rfl⟩, ?_⟩
     refine wpFreeM_step [10] (by kernel_rfl) ⟨?_, trivial⟩
     refine wpOp_of_list rfl ?_
     go_wp2_with fail
     refine ⟨⟨⟨_, H8.out.1⟩, rfl⟩, ?_⟩
     unfold wpFreeM
     go_wp2_with fail
     go_ret
     exact ⟨rfl, H8.out.2.1⟩
end Go.Proofs.YtojinnnpfjhifaaGreatDoor.K

