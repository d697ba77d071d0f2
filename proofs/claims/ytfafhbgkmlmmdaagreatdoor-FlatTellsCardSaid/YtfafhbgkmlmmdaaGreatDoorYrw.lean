/-
  What the rows of flat lean on, part w.
-/
import Derived.Deep.CutRange
import Derived.Test.YtfafhbgkmlmmdaaGreatDoorYro
import Derived.Test.YtfafhbgkmlmmdaaGreatDoorYrp
import Derived.Test.YtfafhbgkmlmmdaaGreatDoorYrn
import Derived.Test.YtfafhbgkmlmmdaaGreatDoorYrq
import Derived.Test.YtfafhbgkmlmmdaaGreatDoorYrv
import Derived.Shelf.SlSorted.Search
import Derived.Shelf.SlGeneric
import Derived.Test.YtfafhbgkmlmmdaaGreatDoorProg
import Derived.BigQuiet
import Derived.PinnedBridge
import Derived.Lib.LaidU8
import Derived.ProofKit
import Derived.OpenShut
import Derived.Deep.SlicePairs
import Derived.Shelf.Vars
import Derived.Handed
import Derived.Lib.LaidTab
import Derived.Lib.TrailingZeros
import Derived.Test.YtfafhbgkmlmmdaaGreatDoorRows
set_option maxRecDepth 100000
set_option maxHeartbeats 40000000
namespace Go.Proofs.YtfafhbgkmlmmdaaGreatDoor.K
open Go.RowKit Go.Shelf Go.Lib Go.Maps
attribute [local irreducible] nmL ofN
structure RW (w2 : World) (gN : Nat) (s : ES) (W : World) : Prop where
 ok : s.c.ok
 n : Cells W gN 97 (ctA s.c)
 z : Fz (fun k => k = gN) w2 W
theorem RW.on {w2 : World} {gN : Nat} {s : ES} {W W' : World} (h : RW w2 gN s W) (hb : Below W.heap.size W W') : RW w2 gN s W' := ⟨h.ok, h.n.on hb, h.z.trans (Fz.of_below hb)⟩
theorem RW.turn {w2 : World} {gN : Nat} {s s' : ES} {W : World} (h : RW w2 gN s W) (hc : s'.c = s.c) : RW w2 gN s' W := ⟨by rw [hc]; exact h.ok, by rw [hc]; exact h.n, h.z⟩
theorem PsA.keep {w w' : World} {B B' : Nat} {l : List PC} {bb o2 c : Nat} (h : PsA w B l (some ⟨bb, o2, none⟩) c) (hk : w'.heap[bb]? = w.heap[bb]?) (hB : bb < B') : PsA w' B' l (some ⟨bb, o2, none⟩) c :=
 ⟨h.le, h.mx, fun i a ha => by
  obtain ⟨b, o, e, h1, h2, h3, h4⟩ := h.r i a ha
  cases e
  exact ⟨bb, o2, rfl, hB, (World.cell?_of_block (a := ⟨bb, _, none⟩) hk).trans h2, (World.cell?_of_block (a := ⟨bb, _, none⟩) hk).trans h3, (World.cell?_of_block (a := ⟨bb, _, none⟩) hk).trans h4⟩⟩
structure RL (w2 : World) (gN : Nat) (B : Nat → Nat) (L : List TK) (ALL : List IT) (N : Nat) (k : Nat) (o f x : Value) (W : World) : Prop where
 h : ∃ (pre : List IT) (s : ES) (e : Nat), R.OwnIt W w2.heap.size pre o ∧ f = .bool s.f ∧ x = .bool s.x ∧ RW w2 gN s W ∧ pre ++ allI B s (L.drop k) = ALL ∧ tiles e (L.drop k) N ∧ pre.length ≤ e
theorem refAll_any (xs : List Nat) (A : Option Addr) (cap : Nat) (w : World) (hb : BY w w.heap.size xs A cap) (hl : xs.length ≤ 1000) :
  Calls Tryz.prog 26 #[.slice A xs.length cap] w fun e w' => ∃ v, e = .returned v ∧ R.OwnIt w' w.heap.size (allI (bF xs) es0 (eachL xs)) v ∧ Below w.heap.size w w' := by
 have CT := RAll_any xs A cap w hb hl
 obtain ⟨L, hL⟩ : ∃ q, eachL xs = q := ⟨_, rfl⟩
 have htl : tiles 0 L xs.length := by rw [← hL]; exact eachL_tiles xs
 have hnm : ∀ t ∈ L, t.name.length ≤ xs.length := by rw [← hL]; exact each_name xs
 rw [hL] at CT ⊢
 obtain ⟨ALL, hALL⟩ : ∃ q, allI (bF xs) es0 L = q := ⟨_, rfl⟩
 rw [hALL]
 obtain ⟨N, hN⟩ : ∃ q, xs.length = q := ⟨_, rfl⟩
 rw [hN] at htl hnm hl CT ⊢
 have hcap := hb.l
 have hmx := hb.m
 rw [hN] at hcap
 have HL := Lib.hid (And.intro htl (And.intro hnm (And.intro hALL (And.intro hN hl))))
 have HB := Lib.hid hb
 clear hL htl hnm hALL hN hl hb
 go_enter Tryz.func26, Tryz.ntmps26
 go_wp2_with fail
 refine CT.mono ?_
 rintro e w1 ⟨v, rfl, ho, b1⟩
 clear CT
 obtain ⟨A2, c2, rfl, hS⟩ := FQ.of_own ho
 have hle := hS.le
 have hmx2 := hS.mx
 obtain ⟨n, hn⟩ : ∃ n, L.length = n := ⟨_, rfl⟩
 rw [hn] at hle ⊢
 have n2 : Cells (w1.alloc (.cells #[.int .i64 0, .int .i64 0, .int .i64 0] 97)) w1.heap.size 97 (ctA ⟨0, 0, 0⟩) := cells_new w1 _ 97
 have b2 := below_new w1 (.cells #[.int .i64 0, .int .i64 0, .int .i64 0] 97)
 obtain ⟨w2, hw2⟩ : ∃ V, w1.alloc (.cells #[.int .i64 0, .int .i64 0, .int .i64 0] 97) = V := ⟨_, rfl⟩
 rw [hw2] at n2 b2
 have b12 : Below w.heap.size w w2 := b1.trans (b2.mono b1.size)
 have hs1 := b1.size
 obtain ⟨gN, hgN⟩ : ∃ q, w1.heap.size = q := ⟨_, rfl⟩
 rw [hgN] at n2 hs1
 have hg2 : gN < w2.heap.size := n2.lt
 have hS2 : FQ w2 gN L A2 c2 := by rw [← hgN]; exact hS.below b2
 have HW := Lib.hid hw2
 have H2 := Lib.hid (And.intro hS2 (And.intro b12 (And.intro hn (And.intro hg2 hs1))))
 have HA2 : RW w2 gN es0 w2 := ⟨ok0, n2, Fz.refl _ _⟩
 have HA := Lib.hid HA2
 have hnN : n ≤ 1000 := by
  have h1 := tiles_len _ _ _ HL.out.1
  have h2 := HL.out.2.2.2.2
  omega
 clear ho b1 hS n2 b2 b12 hs1 hg2 hS2 HA2 hw2 hn
 go_wp2_with fail
 rw [HW.out]
 clear HW hgN
 go_loopw [5, 6, 7, 8, 9, 10, 11, 12, 13, 14, 15] (fun o f x i _ _ _ _ _ _ _ wr => ∃ k : Nat, k ≤ n ∧ i = .int .i64 (k : Int) ∧ RL w2 gN (bF xs) L ALL N k o f x wr) (fun _ _ _ i _ _ _ _ _ _ _ _ => n - (RowKit.intOf i).toNat)
 case atStart => exact ⟨0, Nat.zero_le _, rfl, ⟨[], es0, 0, R.ownIt_nil _ _, rfl, rfl, HA.out, by simpa using HL.out.2.2.1, by simpa using HL.out.1, Nat.zero_le _⟩⟩
 case round =>
  obtain ⟨k, hk, rfl, ⟨pre, s, e, ho, rfl, rfl, ha, hall, htl, hpe⟩⟩ := hrel
  by_cases hkn : k < n
  case neg =>
   obtain rfl : k = n := by omega
   have i1 : ¬ (k : Int) < (k : Int) := by omega
   rw [show L.drop k = [] from List.drop_eq_nil_of_le (by rw [H2.out.2.2.1]; exact Nat.le_refl _)] at hall
   have hall : pre = ALL := by simpa [allI] using hall
   subst hall
   have H3 := Lib.hid (And.intro ho ha)
   clear ho ha htl hpe hkn hk
   go_wp2_with fail
   go_ret
   exact ⟨_, rfl, H3.out.1.lower (H2.out.2.1.size), H2.out.2.1.trans (H3.out.2.z.below H2.out.2.1.size (by
    intro q hq e
    have e' : q = gN := e
    have := H2.out.2.2.2.2
    omega))⟩
  case pos =>
   have i1 : (k : Int) < (n : Int) := by omega
   have ik : (k : Int) ≤ 100000 := by omega
   obtain ⟨t, ht⟩ : ∃ t, L[k]? = some t := ⟨_, List.getElem?_eq_getElem (by rw [H2.out.2.2.1]; exact hkn)⟩
   rw [drop_cons ht] at hall htl
   have hmem : t ∈ L := List.mem_of_getElem? ht
   have hto : t.to ≤ N := tiles_le _ _ _ htl.2.2
   have hfr : t.fr < t.to := by rw [htl.1]; exact htl.2.1
   have hlN := HL.out.2.2.2.2
   have hxN := HL.out.2.2.2.1
   obtain ⟨b, o', rfl, hbw, _⟩ := HB.out.r (by rintro rfl; simp at hxN; omega)
   obtain ⟨tb, oo, rfl, htb, d0, d1, d2, d3, d4, d5, d6⟩ := H2.out.1.r k t ht
   have hne : ¬ tb = gN := by omega
   have d0 := fz_cell ha.z d0 hne
   have d1 := fz_cell ha.z d1 hne
   have d2 := fz_cell ha.z d2 hne
   have d3 := fz_cell ha.z d3 hne
   have d4 := fz_cell ha.z d4 hne
   have d5 := fz_cell ha.z d5 hne
   have d6 := fz_cell ha.z d6 hne
   have e1 : wr.cell? ⟨tb, oo + k * 7 + 1, none⟩ = some (.int .i64 (t.fr : Int)) := by rw [Nat.add_assoc]; exact d1
   have e2 : wr.cell? ⟨tb, oo + k * 7 + 2, none⟩ = some (.int .i64 (t.to : Int)) := by rw [Nat.add_assoc]; exact d2
   have e3 : wr.cell? ⟨tb, oo + k * 7 + 3, none⟩ = some (.string ⟨(G.u8s t.name).toArray⟩) := by rw [Nat.add_assoc]; exact d3
   have e4 : wr.cell? ⟨tb, oo + k * 7 + 4, none⟩ = some (.int .i32 t.r) := by rw [Nat.add_assoc]; exact d4
   have e5 : wr.cell? ⟨tb, oo + k * 7 + 5, none⟩ = some (.bool t.sg) := by rw [Nat.add_assoc]; exact d5
   have e6 : wr.cell? ⟨tb, oo + k * 7 + 6, none⟩ = some (.bool false) := by rw [Nat.add_assoc]; exact d6
   have bwr : Below w.heap.size w wr := H2.out.2.1.trans (ha.z.below H2.out.2.1.size (by
    intro q hq e
    have e' : q = gN := e
    have := H2.out.2.2.2.2
    omega))
   have hil := items_len s (bF xs) t hfr
   have hall : pre ++ (s.items (bF xs) t ++ allI (bF xs) (s.turn t) (L.drop (k + 1))) = ALL := hall
   have hok' := turn_ok s t ha.ok
   have hpe' : pre.length + (s.items (bF xs) t).length ≤ t.to := by have := htl.1; omega
   obtain ⟨SN, hSN⟩ : ∃ q : ByteArray, (⟨(G.u8s t.name).toArray⟩ : ByteArray) = q := ⟨_, rfl⟩
   rw [hSN] at d3 e3
   have HR := Lib.hid (And.intro ha (And.intro ho (And.intro hall (And.intro htl.2.2 (And.intro hpe' (And.intro hok' (And.intro bwr (And.intro hfr (And.intro hto hlN)))))))))
   have HSN := Lib.hid hSN
   have hpl : pre.length ≤ 1000 := by omega
   have HPL := Lib.hid hpl
   have HBW := Lib.hid hbw
   have HTB := Lib.hid (And.intro htb hne)
   clear ha ho hall htl hpe hpe' hok' bwr ht hmem hfr hto hlN hxN hil hbw htb hne hSN hpl
   by_cases hk2 : t.kind = 2 ∨ t.kind = 3
   case pos =>
    have hits := items_none s (bF xs) t (by omega) (by omega)
    have htn := turn_tag s t (by omega) (by omega)
    have CN := fun (en : Bool) W => refTake_any en t.sg (nmB t) s.c HR.out.1.ok W
    have hnb : nmB t = SN := HSN.out
    simp only [hnb] at CN
    obtain ⟨F, hF⟩ : ∃ q, takeF (nameN SN) (t.kind : Int) s.c = q := ⟨_, rfl⟩
    obtain ⟨X, hX⟩ : ∃ q, takeX (nameN SN) (t.kind : Int) s.c = q := ⟨_, rfl⟩
    obtain ⟨c', hce⟩ : ∃ q, takeC (nameN SN) (t.kind : Int) t.sg s.c = q := ⟨_, rfl⟩
    have efs : s.fs t = (s.f || F) := by unfold ES.fs; rw [hnb, hF]
    have exs : s.xs t = (s.x || X) := by unfold ES.xs; rw [hnb, hX]
    have ecs : s.cs t = c' := by unfold ES.cs; rw [hnb, hce]
    have HTN := Lib.hid (And.intro htn (And.intro hits (And.intro (And.intro efs exs) ecs)))
    clear hits htn hnb efs exs ecs
    by_cases hk3 : t.kind = 2
    case pos =>
     have hkd : ((t.kind : Nat) : Int) = 2 := by omega
     have CN2 := CN false
     simp only [Bool.false_eq_true, if_false] at CN2
     rw [hkd] at hF hX hce d0
     simp only [hF, hX, hce] at CN2
     have t8 := cells_new wr #[.int .i64 2, .int .i64 (t.fr : Int), .int .i64 (t.to : Int), .string SN, .int .i32 t.r, .bool t.sg, .bool false] 39
     have b8 := below_new wr (.cells #[.int .i64 2, .int .i64 (t.fr : Int), .int .i64 (t.to : Int), .string SN, .int .i32 t.r, .bool t.sg, .bool false] 39)
     obtain ⟨W8, hW8⟩ : ∃ V, wr.alloc (.cells #[.int .i64 2, .int .i64 (t.fr : Int), .int .i64 (t.to : Int), .string SN, .int .i32 t.r, .bool t.sg, .bool false] 39) = V := ⟨_, rfl⟩
     rw [hW8] at t8 b8
     have n8 := HR.out.1.n.on b8
     have hc8 : Cells W8 gN 97 #[.int .i64 (s.c.h : Int), .int .i64 (s.c.p : Int), .int .i64 (s.c.n : Int)] := n8
     have y0 : W8.cell? ⟨wr.heap.size, 0, none⟩ = some (.int .i64 2) := t8.cell 0
     have y3 : W8.cell? ⟨wr.heap.size, 3, none⟩ = some (.string SN) := t8.cell 3
     have y5 : W8.cell? ⟨wr.heap.size, 5, none⟩ = some (.bool t.sg) := t8.cell 5
     have x0 : W8.cell? ⟨gN, 0, none⟩ = some (.int .i64 (s.c.h : Int)) := hc8.cell 0
     have x1 : W8.cell? ⟨gN, 1, none⟩ = some (.int .i64 (s.c.p : Int)) := hc8.cell 1
     have x2 : W8.cell? ⟨gN, 2, none⟩ = some (.int .i64 (s.c.n : Int)) := hc8.cell 2
     have C3 := CN2 W8
     unfold ctA at C3
     have HW8 := Lib.hid hW8
     have H8 := Lib.hid (And.intro b8 hc8)
     have HF := Lib.hid (And.intro hF (And.intro hX (And.intro hce hkd)))
     clear CN CN2 n8 hc8 t8 b8 hW8 hF hX hce hkd hk2
     go_upto_region 9 with fail
     rw [HW8.out]
     clear d0 d1 d2 d3 d4 d5 d6 e1 e2 e3 e4 e5 e6
     go_wp2_with fail
     refine C3.mono ?_
     rintro e' w9 ⟨rfl, b9⟩
     clear C3 x0 x1 x2 y0 y3 y5
     have g9 := H8.out.2.on b9
     have z9 : Fz (fun k => k = gN) wr w9 := (Fz.of_below H8.out.1).trans (Fz.of_below b9)
     have t10 := cells_new w9 #[.int .i64 (c'.h : Int), .int .i64 (c'.p : Int), .int .i64 (c'.n : Int)] 97
     have b10 := below_new w9 (.cells #[.int .i64 (c'.h : Int), .int .i64 (c'.p : Int), .int .i64 (c'.n : Int)] 97)
     obtain ⟨W10, hW10⟩ : ∃ V, w9.alloc (.cells #[.int .i64 (c'.h : Int), .int .i64 (c'.p : Int), .int .i64 (c'.n : Int)] 97) = V := ⟨_, rfl⟩
     rw [hW10] at t10 b10
     have g10 := g9.on b10
     have z10 := z9.trans (Fz.of_below b10)
     have f0 := g10.froz 0
     have f1 := g10.froz 1
     have f2 := g10.froz 2
     have x0 : W10.cell? ⟨gN, 0, none⟩ = some (.int .i64 (s.c.h : Int)) := g10.cell 0
     have x1 : W10.cell? ⟨gN, 1, none⟩ = some (.int .i64 (s.c.p : Int)) := g10.cell 1
     have x2 : W10.cell? ⟨gN, 2, none⟩ = some (.int .i64 (s.c.n : Int)) := g10.cell 2
     have y0 : W10.cell? ⟨w9.heap.size, 0, none⟩ = some (.int .i64 (c'.h : Int)) := t10.cell 0
     have y1 : W10.cell? ⟨w9.heap.size, 1, none⟩ = some (.int .i64 (c'.p : Int)) := t10.cell 1
     have y2 : W10.cell? ⟨w9.heap.size, 2, none⟩ = some (.int .i64 (c'.n : Int)) := t10.cell 2
     have HW10 := Lib.hid hW10
     have H10 := Lib.hid (And.intro g10 z10)
     clear g9 z9 t10 b10 hW10 g10 z10 b9
     go_upto_region 11 with fail
     rw [HW10.out]
     go_upto_region 12 with fail
     have s1 : Cells (((W10.setCell ⟨gN, 0, none⟩ (.int .i64 (c'.h : Int))).setCell ⟨gN, 1, none⟩ (.int .i64 (c'.p : Int))).setCell ⟨gN, 2, none⟩ (.int .i64 (c'.n : Int))) gN 97 #[.int .i64 (c'.h : Int), .int .i64 (c'.p : Int), .int .i64 (c'.n : Int)] := ((H10.out.1.set 0 _).set 1 _).set 2 _
     have s2 : Fz (fun k => k = gN) W10 (((W10.setCell ⟨gN, 0, none⟩ (.int .i64 (c'.h : Int))).setCell ⟨gN, 1, none⟩ (.int .i64 (c'.p : Int))).setCell ⟨gN, 2, none⟩ (.int .i64 (c'.n : Int))) := ((Fz.set (X := fun k => k = gN) _ gN 0 _ rfl).trans (Fz.set (X := fun k => k = gN) _ gN 1 _ rfl)).trans (Fz.set (X := fun k => k = gN) _ gN 2 _ rfl)
     obtain ⟨W11, hW11⟩ : ∃ V, (((W10.setCell ⟨gN, 0, none⟩ (.int .i64 (c'.h : Int))).setCell ⟨gN, 1, none⟩ (.int .i64 (c'.p : Int))).setCell ⟨gN, 2, none⟩ (.int .i64 (c'.n : Int))) = V := ⟨_, rfl⟩
     rw [hW11] at s1 s2 ⊢
     have z11 := H10.out.2.trans s2
     have own11 : R.OwnIt W11 w2.heap.size pre u5 := own_fz z11 HR.out.2.1 (fun q hq e => by
      have h1 := (own_block_lt HR.out.2.1 q e).1
      have h2 := H2.out.2.2.2.1
      have h3 : q = gN := hq
      omega)
     have rw11 : RW w2 gN (s.turn t) W11 := by
      rw [HTN.out.1]
      refine ⟨?_, ?_, HR.out.1.z.trans z11⟩
      ·have := HR.out.2.2.2.2.2.1
       rw [HTN.out.1] at this
       exact this
      ·rw [HTN.out.2.2.2]
       exact s1
     have hall11 : pre ++ allI (bF xs) (s.turn t) (L.drop (k + 1)) = ALL := by
      have := HR.out.2.2.1
      rw [HTN.out.2.1, List.nil_append] at this
      exact this
     have hpe11 : pre.length ≤ t.to := by have := HR.out.2.2.2.2.1; omega
     have H11 := Lib.hid (And.intro own11 (And.intro rw11 (And.intro hall11 hpe11)))
     clear hW11 s1 s2 z11 own11 rw11 hall11 hpe11 f0 f1 f2 x0 x1 x2 y0 y1 y2
     obtain ⟨sf, hsf⟩ : ∃ q, s.f = q := ⟨_, rfl⟩
     obtain ⟨sx, hsx⟩ : ∃ q, s.x = q := ⟨_, rfl⟩
     rw [hsf, hsx]
     have HSF := Lib.hid (And.intro hsf hsx)
     clear hsf hsx
     have hend : ∃ k' : Nat, k' ≤ n ∧ Value.int .i64 ((k : Int) + 1) = .int .i64 (k' : Int) ∧ RL w2 gN (bF xs) L ALL N k' u5 (.bool (sf || F)) (.bool (sx || X)) W11 :=
      ⟨k + 1, by omega, by simp, ⟨pre, s.turn t, t.to, H11.out.1, by rw [HTN.out.1]; show _ = Value.bool (s.fs t); rw [HTN.out.2.2.1.1, HSF.out.1], by rw [HTN.out.1]; show _ = Value.bool (s.xs t); rw [HTN.out.2.2.1.2, HSF.out.2], H11.out.2.1, H11.out.2.2.1, HR.out.2.2.2.1, H11.out.2.2.2⟩⟩
     have HEND := Lib.hid hend
     clear hend
     cases sf <;> cases sx
     all_goals
      go_wp2_with fail
      go_roundw
      case rel => exact HEND.out
      case measure => simp [RowKit.intOf]; omega
    case neg =>
     have hkd : ((t.kind : Nat) : Int) = 3 := by omega
     have CN2 := CN true
     simp only [if_true] at CN2
     rw [hkd] at hF hX hce d0
     simp only [hF, hX, hce] at CN2
     have t8 := cells_new wr #[.int .i64 3, .int .i64 (t.fr : Int), .int .i64 (t.to : Int), .string SN, .int .i32 t.r, .bool t.sg, .bool false] 39
     have b8 := below_new wr (.cells #[.int .i64 3, .int .i64 (t.fr : Int), .int .i64 (t.to : Int), .string SN, .int .i32 t.r, .bool t.sg, .bool false] 39)
     obtain ⟨W8, hW8⟩ : ∃ V, wr.alloc (.cells #[.int .i64 3, .int .i64 (t.fr : Int), .int .i64 (t.to : Int), .string SN, .int .i32 t.r, .bool t.sg, .bool false] 39) = V := ⟨_, rfl⟩
     rw [hW8] at t8 b8
     have n8 := HR.out.1.n.on b8
     have hc8 : Cells W8 gN 97 #[.int .i64 (s.c.h : Int), .int .i64 (s.c.p : Int), .int .i64 (s.c.n : Int)] := n8
     have y0 : W8.cell? ⟨wr.heap.size, 0, none⟩ = some (.int .i64 3) := t8.cell 0
     have y3 : W8.cell? ⟨wr.heap.size, 3, none⟩ = some (.string SN) := t8.cell 3
     have y5 : W8.cell? ⟨wr.heap.size, 5, none⟩ = some (.bool t.sg) := t8.cell 5
     have x0 : W8.cell? ⟨gN, 0, none⟩ = some (.int .i64 (s.c.h : Int)) := hc8.cell 0
     have x1 : W8.cell? ⟨gN, 1, none⟩ = some (.int .i64 (s.c.p : Int)) := hc8.cell 1
     have x2 : W8.cell? ⟨gN, 2, none⟩ = some (.int .i64 (s.c.n : Int)) := hc8.cell 2
     have C3 := CN2 W8
     unfold ctA at C3
     have HW8 := Lib.hid hW8
     have H8 := Lib.hid (And.intro b8 hc8)
     have HF := Lib.hid (And.intro hF (And.intro hX (And.intro hce hkd)))
     clear CN CN2 n8 hc8 t8 b8 hW8 hF hX hce hkd hk2
     go_upto_region 9 with fail
     rw [HW8.out]
     clear d0 d1 d2 d3 d4 d5 d6 e1 e2 e3 e4 e5 e6
     go_wp2_with fail
     refine C3.mono ?_
     rintro e' w9 ⟨rfl, b9⟩
     clear C3 x0 x1 x2 y0 y3 y5
     have g9 := H8.out.2.on b9
     have z9 : Fz (fun k => k = gN) wr w9 := (Fz.of_below H8.out.1).trans (Fz.of_below b9)
     have t10 := cells_new w9 #[.int .i64 (c'.h : Int), .int .i64 (c'.p : Int), .int .i64 (c'.n : Int)] 97
     have b10 := below_new w9 (.cells #[.int .i64 (c'.h : Int), .int .i64 (c'.p : Int), .int .i64 (c'.n : Int)] 97)
     obtain ⟨W10, hW10⟩ : ∃ V, w9.alloc (.cells #[.int .i64 (c'.h : Int), .int .i64 (c'.p : Int), .int .i64 (c'.n : Int)] 97) = V := ⟨_, rfl⟩
     rw [hW10] at t10 b10
     have g10 := g9.on b10
     have z10 := z9.trans (Fz.of_below b10)
     have f0 := g10.froz 0
     have f1 := g10.froz 1
     have f2 := g10.froz 2
     have x0 : W10.cell? ⟨gN, 0, none⟩ = some (.int .i64 (s.c.h : Int)) := g10.cell 0
     have x1 : W10.cell? ⟨gN, 1, none⟩ = some (.int .i64 (s.c.p : Int)) := g10.cell 1
     have x2 : W10.cell? ⟨gN, 2, none⟩ = some (.int .i64 (s.c.n : Int)) := g10.cell 2
     have y0 : W10.cell? ⟨w9.heap.size, 0, none⟩ = some (.int .i64 (c'.h : Int)) := t10.cell 0
     have y1 : W10.cell? ⟨w9.heap.size, 1, none⟩ = some (.int .i64 (c'.p : Int)) := t10.cell 1
     have y2 : W10.cell? ⟨w9.heap.size, 2, none⟩ = some (.int .i64 (c'.n : Int)) := t10.cell 2
     have HW10 := Lib.hid hW10
     have H10 := Lib.hid (And.intro g10 z10)
     clear g9 z9 t10 b10 hW10 g10 z10 b9
     go_upto_region 11 with fail
     rw [HW10.out]
     go_upto_region 12 with fail
     have s1 : Cells (((W10.setCell ⟨gN, 0, none⟩ (.int .i64 (c'.h : Int))).setCell ⟨gN, 1, none⟩ (.int .i64 (c'.p : Int))).setCell ⟨gN, 2, none⟩ (.int .i64 (c'.n : Int))) gN 97 #[.int .i64 (c'.h : Int), .int .i64 (c'.p : Int), .int .i64 (c'.n : Int)] := ((H10.out.1.set 0 _).set 1 _).set 2 _
     have s2 : Fz (fun k => k = gN) W10 (((W10.setCell ⟨gN, 0, none⟩ (.int .i64 (c'.h : Int))).setCell ⟨gN, 1, none⟩ (.int .i64 (c'.p : Int))).setCell ⟨gN, 2, none⟩ (.int .i64 (c'.n : Int))) := ((Fz.set (X := fun k => k = gN) _ gN 0 _ rfl).trans (Fz.set (X := fun k => k = gN) _ gN 1 _ rfl)).trans (Fz.set (X := fun k => k = gN) _ gN 2 _ rfl)
     obtain ⟨W11, hW11⟩ : ∃ V, (((W10.setCell ⟨gN, 0, none⟩ (.int .i64 (c'.h : Int))).setCell ⟨gN, 1, none⟩ (.int .i64 (c'.p : Int))).setCell ⟨gN, 2, none⟩ (.int .i64 (c'.n : Int))) = V := ⟨_, rfl⟩
     rw [hW11] at s1 s2 ⊢
     have z11 := H10.out.2.trans s2
     have own11 : R.OwnIt W11 w2.heap.size pre u5 := own_fz z11 HR.out.2.1 (fun q hq e => by
      have h1 := (own_block_lt HR.out.2.1 q e).1
      have h2 := H2.out.2.2.2.1
      have h3 : q = gN := hq
      omega)
     have rw11 : RW w2 gN (s.turn t) W11 := by
      rw [HTN.out.1]
      refine ⟨?_, ?_, HR.out.1.z.trans z11⟩
      ·have := HR.out.2.2.2.2.2.1
       rw [HTN.out.1] at this
       exact this
      ·rw [HTN.out.2.2.2]
       exact s1
     have hall11 : pre ++ allI (bF xs) (s.turn t) (L.drop (k + 1)) = ALL := by
      have := HR.out.2.2.1
      rw [HTN.out.2.1, List.nil_append] at this
      exact this
     have hpe11 : pre.length ≤ t.to := by have := HR.out.2.2.2.2.1; omega
     have H11 := Lib.hid (And.intro own11 (And.intro rw11 (And.intro hall11 hpe11)))
     clear hW11 s1 s2 z11 own11 rw11 hall11 hpe11 f0 f1 f2 x0 x1 x2 y0 y1 y2
     obtain ⟨sf, hsf⟩ : ∃ q, s.f = q := ⟨_, rfl⟩
     obtain ⟨sx, hsx⟩ : ∃ q, s.x = q := ⟨_, rfl⟩
     rw [hsf, hsx]
     have HSF := Lib.hid (And.intro hsf hsx)
     clear hsf hsx
     have hend : ∃ k' : Nat, k' ≤ n ∧ Value.int .i64 ((k : Int) + 1) = .int .i64 (k' : Int) ∧ RL w2 gN (bF xs) L ALL N k' u5 (.bool (sf || F)) (.bool (sx || X)) W11 :=
      ⟨k + 1, by omega, by simp, ⟨pre, s.turn t, t.to, H11.out.1, by rw [HTN.out.1]; show _ = Value.bool (s.fs t); rw [HTN.out.2.2.1.1, HSF.out.1], by rw [HTN.out.1]; show _ = Value.bool (s.xs t); rw [HTN.out.2.2.1.2, HSF.out.2], H11.out.2.1, H11.out.2.2.1, HR.out.2.2.2.1, H11.out.2.2.2⟩⟩
     have HEND := Lib.hid hend
     clear hend
     cases sf <;> cases sx
     all_goals
      go_wp2_with fail
      go_roundw
      case rel => exact HEND.out
      case measure => simp [RowKit.intOf]; omega
   case neg =>
    obtain ⟨wo, rfl⟩ : ∃ W : World, W = wr := ⟨_, rfl⟩
    have hlo := HR.out.2.2.2.2.2.2.2.1
    have hto := HR.out.2.2.2.2.2.2.2.2.1
    have hlN := HR.out.2.2.2.2.2.2.2.2.2
    have ito : (t.to : Int) ≤ 1000 := by omega
    have ifr : (t.fr : Int) ≤ 1000 := by omega
    obtain ⟨its, hits⟩ : ∃ q, s.items (bF xs) t = q := ⟨_, rfl⟩
    obtain ⟨sf, hsf⟩ : ∃ q, s.f = q := ⟨_, rfl⟩
    obtain ⟨sx, hsx⟩ : ∃ q, s.x = q := ⟨_, rfl⟩
    rw [hsf, hsx]
    obtain ⟨ch, hch⟩ : ∃ q, s.c.h = q := ⟨_, rfl⟩
    obtain ⟨cp, hcp⟩ : ∃ q, s.c.p = q := ⟨_, rfl⟩
    obtain ⟨cn, hcn⟩ : ∃ q, s.c.n = q := ⟨_, rfl⟩
    obtain ⟨nb, hnb⟩ : ∃ q, decide (0 < cn) = q := ⟨_, rfl⟩
    obtain ⟨pb, hpb⟩ : ∃ q, decide (0 < cp) = q := ⟨_, rfl⟩
    by_cases hk0 : t.kind = 0
    case' pos =>
     have hkd : ((t.kind : Nat) : Int) = 0 := by omega
     rw [hkd] at d0
     have t8 := cells_new wo #[.int .i64 0, .int .i64 (t.fr : Int), .int .i64 (t.to : Int), .string SN, .int .i32 t.r, .bool t.sg, .bool false] 39
     have b8 := below_new wo (.cells #[.int .i64 0, .int .i64 (t.fr : Int), .int .i64 (t.to : Int), .string SN, .int .i32 t.r, .bool t.sg, .bool false] 39)
     obtain ⟨W8, hW8⟩ : ∃ V, wo.alloc (.cells #[.int .i64 0, .int .i64 (t.fr : Int), .int .i64 (t.to : Int), .string SN, .int .i32 t.r, .bool t.sg, .bool false] 39) = V := ⟨_, rfl⟩
     rw [hW8] at t8 b8
     have y0 : W8.cell? ⟨wo.heap.size, 0, none⟩ = some (.int .i64 0) := t8.cell 0
     have y1 : W8.cell? ⟨wo.heap.size, 1, none⟩ = some (.int .i64 (t.fr : Int)) := t8.cell 1
     have y2 : W8.cell? ⟨wo.heap.size, 2, none⟩ = some (.int .i64 (t.to : Int)) := t8.cell 2
     have y4 : W8.cell? ⟨wo.heap.size, 4, none⟩ = some (.int .i32 t.r) := t8.cell 4
     have bw8 : Below w.heap.size w W8 := HR.out.2.2.2.2.2.2.1.trans (b8.mono HR.out.2.2.2.2.2.2.1.size)
     have hBs := by_bs (HB.out.below bw8) t.fr t.to (by rw [HL.out.2.2.2.1]; exact hto)
     have CP := rall_any b (o' + t.fr) (t.to - t.fr) (cap - t.fr) (fun j => bF xs (t.fr + j)) (by omega) (by omega) (by omega) W8 hBs (Nat.lt_of_lt_of_le HBW.out bw8.size)
     have hsl : ∀ W, (Instr.slice 22 (.slice (some ⟨b, o', none⟩) N cap) (some (.int .i64 (t.fr : Int))) (some (.int .i64 (t.to : Int))) none).run Tryz.prog W = .ok (.slice (some ⟨b, o' + t.fr, none⟩) (t.to - t.fr) (cap - t.fr)) W :=
      fun W => slice_win b o' N cap t.fr t.to (by omega) (by omega) (by omega) W
     obtain ⟨p, hp⟩ : ∃ q, pcs (t.to - t.fr) (fun j => bF xs (t.fr + j)) (t.to - t.fr) 0 = q := ⟨_, rfl⟩
     rw [hp] at CP
     have hits2 := items_text s (bF xs) t hk0
     have htn := turn_text s t (.inl hk0)
     rw [hits, hch, hcn, hcp, hnb, hpb, hsf, hsx, hp] at hits2
     rw [hch, hsf, hsx] at htn
     have hpne : 0 < p.length := by
      rw [← hp]
      have h9 := pcs_next (t.to - t.fr) (fun j => bF xs (t.fr + j)) 0 (by omega)
      rw [Nat.sub_zero] at h9
      rw [h9]
      exact Nat.succ_pos _
     have hpsm : ∀ q ∈ p, 0 ≤ q.s ∧ q.s ≤ 1000 := by rw [← hp]; exact pcs_small _ _ _ _
     have hpl0 : p.length ≤ 1000 := by
      rw [← hp]
      have := pcs_len (t.to - t.fr) (fun j => bF xs (t.fr + j)) (t.to - t.fr) 0
      omega
     obtain ⟨m, hm⟩ : ∃ q, p.length = q := ⟨_, rfl⟩
     have HT := Lib.hid (And.intro (show m = 0 → s.turn t = s ∧ its = [] from fun h => by omega) (And.intro (show 0 < m → 0 < ch → s.turn t = s ∧ its = [] from fun _ h => ⟨by
       rw [htn, if_pos h, if_pos h, ← hsf, ← hsx], by rw [hits2, if_pos h]⟩) (And.intro (show 0 < m → ch = 0 → s.turn t = ⟨s.c, false, false⟩ ∧ itemsQ nb pb (t.fr : Int) sf sx p = its from fun _ h => ⟨by
       rw [htn, if_neg (by omega), if_neg (by omega)], by rw [hits2, if_neg (by omega)]⟩) (And.intro hpsm hm))))
     have HM := Lib.hid (show m ≤ 1000 by omega)
     have HITS := Lib.hid hits
     have HSF := Lib.hid (And.intro hsf hsx)
     have HCH := Lib.hid (And.intro hch (And.intro hcp hcn))
     have HW8 := Lib.hid hW8
     have H8 := Lib.hid (And.intro b8 bw8)
     have y0' := y0
     clear hits2 htn hpne hpsm hpl0 hits hsf hsx hch hcp hcn hW8 hBs hkd hk0 hk2 t8 b8 bw8 hp
     go_upto_region 9 with fail
     rw [HW8.out]
     clear d0 d1 d2 d3 d4 d5 d6 e1 e2 e3 e4 e5 e6
     go_wp2_with fail
     refine CP.mono ?_
     rintro e' w9 ⟨v, rfl, ho9, b9⟩
     clear CP hsl
     have y0 : w9.cell? ⟨wo.heap.size, 0, none⟩ = some (.int .i64 0) := (b9.cell (p := ⟨wo.heap.size, 0, none⟩) (cell_lt y0')).trans y0'
     have y1 : w9.cell? ⟨wo.heap.size, 1, none⟩ = some (.int .i64 (t.fr : Int)) := (b9.cell (p := ⟨wo.heap.size, 1, none⟩) (cell_lt y1)).trans y1
     clear y0' y2 y4
     have hobl := own_block_lt ho9
     obtain ⟨Ap, cp9, rfl, hP9⟩ := PsA.of_own ho9
     have hle9 := hP9.le
     have hmx9 := hP9.mx
     rw [hm] at hle9 ⊢
     have own9 : R.OwnIt w9 w2.heap.size pre u5 := (HR.out.2.1.below H8.out.1).below b9
     have hap9 : ∀ bb oo, Ap = some ⟨bb, oo, none⟩ → u5.ownBlock ≠ some bb := fun bb oo e e2 => by
      have h1 := (hobl bb (by rw [e]; rfl)).1
      have h2 := (own_block_lt HR.out.2.1 bb e2).2
      have h3 := H8.out.1.size
      omega
     have HI := Lib.hid (And.intro own9 (And.intro ((HR.out.1.on H8.out.1).on b9) (And.intro hP9 hap9)))
     clear own9 hap9 hP9 hobl ho9 b9 hm
     go_wp2_with fail
     clear y0 y1
    case' neg =>
     by_cases hk1 : t.kind = 1
     case' pos =>
      have hkd : ((t.kind : Nat) : Int) = 1 := by omega
      rw [hkd] at d0
      have t8 := cells_new wo #[.int .i64 1, .int .i64 (t.fr : Int), .int .i64 (t.to : Int), .string SN, .int .i32 t.r, .bool t.sg, .bool false] 39
      have b8 := below_new wo (.cells #[.int .i64 1, .int .i64 (t.fr : Int), .int .i64 (t.to : Int), .string SN, .int .i32 t.r, .bool t.sg, .bool false] 39)
      obtain ⟨W8, hW8⟩ : ∃ V, wo.alloc (.cells #[.int .i64 1, .int .i64 (t.fr : Int), .int .i64 (t.to : Int), .string SN, .int .i32 t.r, .bool t.sg, .bool false] 39) = V := ⟨_, rfl⟩
      rw [hW8] at t8 b8
      have y0 : W8.cell? ⟨wo.heap.size, 0, none⟩ = some (.int .i64 1) := t8.cell 0
      have y1 : W8.cell? ⟨wo.heap.size, 1, none⟩ = some (.int .i64 (t.fr : Int)) := t8.cell 1
      have y2 : W8.cell? ⟨wo.heap.size, 2, none⟩ = some (.int .i64 (t.to : Int)) := t8.cell 2
      have y4 : W8.cell? ⟨wo.heap.size, 4, none⟩ = some (.int .i32 t.r) := t8.cell 4
      have bw8 : Below w.heap.size w W8 := HR.out.2.2.2.2.2.2.1.trans (b8.mono HR.out.2.2.2.2.2.2.1.size)
      obtain ⟨p, hp⟩ : ∃ q : List PC, [(⟨t.r, (t.to : Int) - (t.fr : Int), false⟩ : PC)] = q := ⟨_, rfl⟩
      have hits2 := items_ref s (bF xs) t hk1
      have htn := turn_text s t (.inr hk1)
      rw [hits, hch, hcn, hcp, hnb, hpb, hsf, hsx, hp] at hits2
      rw [hch, hsf, hsx] at htn
      have hpsm : ∀ q ∈ p, 0 ≤ q.s ∧ q.s ≤ 1000 := fun q hq => by
       rw [← hp] at hq
       simp at hq
       subst hq
       exact ⟨by show (0 : Int) ≤ (t.to : Int) - (t.fr : Int); omega, by show (t.to : Int) - (t.fr : Int) ≤ 1000; omega⟩
      have t9 := cells_new W8 #[.int .i32 t.r, .int .i64 ((t.to : Int) - (t.fr : Int)), .bool false] 103
      have b9 := below_new W8 (.cells #[.int .i32 t.r, .int .i64 ((t.to : Int) - (t.fr : Int)), .bool false] 103)
      have o9 := ownP_lit W8 ⟨t.r, (t.to : Int) - (t.fr : Int), false⟩
      have o9 : OwnP (W8.alloc (.cells #[.int .i32 t.r, .int .i64 ((t.to : Int) - (t.fr : Int)), .bool false] 103)) W8.heap.size [(⟨t.r, (t.to : Int) - (t.fr : Int), false⟩ : PC)] (.slice (some ⟨W8.heap.size, 0, none⟩) 1 1) := o9
      rw [hp] at o9
      obtain ⟨w9, hw9⟩ : ∃ V, W8.alloc (.cells #[.int .i32 t.r, .int .i64 ((t.to : Int) - (t.fr : Int)), .bool false] 103) = V := ⟨_, rfl⟩
      rw [hw9] at t9 b9 o9
      have own9 : R.OwnIt w9 w2.heap.size pre u5 := (HR.out.2.1.below b8).below b9
      have rw9 := (HR.out.1.on b8).on b9
      have hE : ∃ (Ap : Option Addr) (m cp9 : Nat), Value.slice (some ⟨W8.heap.size, 0, none⟩) 1 1 = .slice Ap m cp9 ∧ m = 1 ∧ p.length = m ∧ PsA w9 w9.heap.size p Ap cp9 ∧ (∀ bb oo, Ap = some ⟨bb, oo, none⟩ → u5.ownBlock ≠ some bb) := by
       obtain ⟨Ap, cp9, e1, hP⟩ := PsA.of_own o9
       have hpl : p.length = 1 := by rw [← hp]; rfl
       rw [hpl] at e1
       refine ⟨Ap, 1, cp9, e1, rfl, hpl, hP, fun bb oo e e2 => ?_⟩
       rw [e] at e1
       injection e1 with e3
       cases e3
       have h2 := (own_block_lt HR.out.2.1 _ e2).2
       have h3 := b8.size
       omega
      obtain ⟨Ap, m, cp9, hv, hm1, hm, hP9, hap9⟩ := hE
      have hle9 := hP9.le
      have hmx9 := hP9.mx
      rw [hm] at hle9
      have y1' : w9.cell? ⟨wo.heap.size, 1, none⟩ = some (.int .i64 (t.fr : Int)) := (b9.cell (p := ⟨wo.heap.size, 1, none⟩) (cell_lt y1)).trans y1
      have HT := Lib.hid (And.intro (show m = 0 → s.turn t = s ∧ its = [] from fun h => by omega) (And.intro (show 0 < m → 0 < ch → s.turn t = s ∧ its = [] from fun _ h => ⟨by
        rw [htn, if_pos h, if_pos h, ← hsf, ← hsx], by rw [hits2, if_pos h]⟩) (And.intro (show 0 < m → ch = 0 → s.turn t = ⟨s.c, false, false⟩ ∧ itemsQ nb pb (t.fr : Int) sf sx p = its from fun _ h => ⟨by
        rw [htn, if_neg (by omega), if_neg (by omega)], by rw [hits2, if_neg (by omega)]⟩) (And.intro hpsm hm))))
      have HM := Lib.hid (show m ≤ 1000 by omega)
      have HITS := Lib.hid hits
      have HSF := Lib.hid (And.intro hsf hsx)
      have HCH := Lib.hid (And.intro hch (And.intro hcp hcn))
      have HW8 := Lib.hid hW8
      have HW9 := Lib.hid hw9
      have HV := Lib.hid hv
      have HI := Lib.hid (And.intro own9 (And.intro rw9 (And.intro hP9 hap9)))
      have HY := Lib.hid y1'
      clear hits2 htn hpsm hits hsf hsx hch hcp hcn hW8 hkd hk0 hk1 hk2 t8 b8 bw8 hp t9 b9 o9 hw9 own9 rw9 hP9 hap9 hv hm1 hm y1'
      go_upto_region 9 with fail
      rw [HW8.out]
      clear d0 d1 d2 d3 d4 d5 d6 e1 e2 e3 e4 e5 e6
      go_upto_region 19 with fail
      rw [HW9.out, HV.out]
      clear y0 y1 y2 y4
      have y1 := HY.out
      go_wp2_with fail
      clear y1
     case neg =>
      have q0 : ((t.kind : Int) == 0) = false := by
       have : ¬ (t.kind : Int) = 0 := by omega
       simpa using this
      have q1 : ((t.kind : Int) == 1) = false := by
       have : ¬ (t.kind : Int) = 1 := by omega
       simpa using this
      have q2 : ((t.kind : Int) == 2) = false := by
       have : ¬ (t.kind : Int) = 2 := by omega
       simpa using this
      have q3 : ((t.kind : Int) == 3) = false := by
       have : ¬ (t.kind : Int) = 3 := by omega
       simpa using this
      have hits2 := items_none s (bF xs) t hk0 hk1
      have htn := turn_other s t hk0 hk1 (by omega) (by omega)
      rw [hits] at hits2
      obtain ⟨kd, hkd⟩ : ∃ q : Int, ((t.kind : Nat) : Int) = q := ⟨_, rfl⟩
      rw [hkd] at d0 q0 q1 q2 q3
      have t8 := cells_new wo #[.int .i64 kd, .int .i64 (t.fr : Int), .int .i64 (t.to : Int), .string SN, .int .i32 t.r, .bool t.sg, .bool false] 39
      have b8 := below_new wo (.cells #[.int .i64 kd, .int .i64 (t.fr : Int), .int .i64 (t.to : Int), .string SN, .int .i32 t.r, .bool t.sg, .bool false] 39)
      obtain ⟨W8, hW8⟩ : ∃ V, wo.alloc (.cells #[.int .i64 kd, .int .i64 (t.fr : Int), .int .i64 (t.to : Int), .string SN, .int .i32 t.r, .bool t.sg, .bool false] 39) = V := ⟨_, rfl⟩
      rw [hW8] at t8 b8
      have y0 : W8.cell? ⟨wo.heap.size, 0, none⟩ = some (.int .i64 kd) := t8.cell 0
      have y1 : W8.cell? ⟨wo.heap.size, 1, none⟩ = some (.int .i64 (t.fr : Int)) := t8.cell 1
      have hend : ∃ k' : Nat, k' ≤ n ∧ Value.int .i64 ((k : Int) + 1) = .int .i64 (k' : Int) ∧ RL w2 gN (bF xs) L ALL N k' u5 (.bool sf) (.bool sx) W8 := by
       refine ⟨k + 1, by omega, by simp, ⟨pre, s.turn t, t.to, HR.out.2.1.below b8, by rw [htn, hsf], by rw [htn, hsx], (HR.out.1.on b8).turn (by rw [htn]), ?_, HR.out.2.2.2.1, ?_⟩⟩
       ·have := HR.out.2.2.1
        rw [hits, hits2, List.nil_append] at this
        exact this
       ·have := HR.out.2.2.2.2.1
        omega
      have HEND := Lib.hid hend
      have HW8 := Lib.hid hW8
      clear hits2 htn hits hsf hsx hch hcp hcn hW8 hkd hk0 hk1 hk2 t8 b8 hend
      go_upto_region 9 with fail
      rw [HW8.out]
      clear d0 d1 d2 d3 d4 d5 d6 e1 e2 e3 e4 e5 e6
      go_wp2_with fail
      clear y0 y1
      go_loopw [5, 6, 7, 14, 15] (fun o f x _ i wi => o = u5 ∧ f = .bool sf ∧ x = .bool sx ∧ i = .int .i64 0 ∧ wi = W8) (fun _ _ _ _ _ _ => 0)
      case atStart => exact ⟨rfl, rfl, rfl, rfl, rfl⟩
      case round =>
       obtain ⟨rfl, rfl, rfl, rfl, rfl⟩ := hrel
       go_wp2_with fail
       go_roundw
       case rel => exact HEND.out
       case measure => simp [RowKit.intOf]; omega
    all_goals
     go_loopw [5, 6, 7, 14, 15] (fun o f x a i wi => ∃ (j : Nat) (pre2 : List IT) (aa : Int) (ff xx : Bool), j ≤ m ∧ i = .int .i64 (j : Int) ∧ a = .int .i64 aa ∧ f = .bool ff ∧ x = .bool xx ∧ 0 ≤ aa ∧ aa ≤ 1000 + 1000 * (j : Int) ∧ R.OwnIt wi w2.heap.size pre2 o ∧ RW w2 gN s wi ∧ PsA wi wi.heap.size p Ap cp9 ∧ (∀ bb oo, Ap = some ⟨bb, oo, none⟩ → o.ownBlock ≠ some bb) ∧ pre2.length ≤ pre.length + j ∧ (j = 0 → pre2 = pre ∧ ff = sf ∧ xx = sx) ∧ (0 < j → ch = 0 ∧ ff = false ∧ xx = false) ∧ (ch = 0 → pre2 ++ itemsQ nb pb aa ff xx (p.drop j) = pre ++ itemsQ nb pb (t.fr : Int) sf sx p)) (fun _ _ _ _ i _ => m - (RowKit.intOf i).toNat)
     case atStart => exact ⟨0, pre, (t.fr : Int), sf, sx, Nat.zero_le _, rfl, rfl, rfl, rfl, by omega, by omega, HI.out.1, HI.out.2.1, HI.out.2.2.1, HI.out.2.2.2, Nat.le_refl _, fun _ => ⟨rfl, rfl, rfl⟩, fun h => absurd h (Nat.lt_irrefl _), fun _ => rfl⟩
     case round =>
      obtain ⟨j, pre2, aa, ff, xx, hj, rfl, rfl, rfl, rfl, ha0, ha1, ho2, hr2, hp2, hap, hl2, hz, hpos, hseq⟩ := hrel
      have x0 : wr.cell? ⟨gN, 0, none⟩ = some (.int .i64 (ch : Int)) := by
       have := hr2.n.cell 0
       rw [← HCH.out.1]
       exact this
      have exitK : pre2 = pre ++ its → (s.turn t).f = ff → (s.turn t).x = xx → (s.turn t).c = s.c → ∃ k' : Nat, k' ≤ n ∧ Value.int .i64 ((k : Int) + 1) = .int .i64 (k' : Int) ∧ RL w2 gN (bF xs) L ALL N k' u5 (.bool ff) (.bool xx) wr := fun e1 e2 e3 e4 => by
       refine ⟨k + 1, by omega, by simp, ⟨pre2, s.turn t, t.to, ho2, by rw [e2], by rw [e3], hr2.turn e4, ?_, HR.out.2.2.2.1, ?_⟩⟩
       ·have := HR.out.2.2.1
        rw [HITS.out] at this
        rw [e1, List.append_assoc]
        exact this
       ·have := HR.out.2.2.2.2.1
        rw [HITS.out] at this
        rw [e1, List.length_append]
        exact this
      by_cases hjm : j < m
      case neg =>
       obtain rfl : j = m := by omega
       have i2 : ¬ (j : Int) < (j : Int) := by omega
       have hend : ∃ k' : Nat, k' ≤ n ∧ Value.int .i64 ((k : Int) + 1) = .int .i64 (k' : Int) ∧ RL w2 gN (bF xs) L ALL N k' u5 (.bool ff) (.bool xx) wr := by
        rcases Nat.eq_zero_or_pos j with h0 | h0
        ·obtain ⟨q1, q2, q3⟩ := hz h0
         obtain ⟨q4, q5⟩ := HT.out.1 h0
         exact exitK (by rw [q1, q5, List.append_nil]) (by rw [q4, q2]; exact HSF.out.1) (by rw [q4, q3]; exact HSF.out.2) (by rw [q4])
        ·obtain ⟨q1, q2, q3⟩ := hpos h0
         obtain ⟨q4, q5⟩ := HT.out.2.2.1 h0 q1
         have q6 := hseq q1
         rw [List.drop_eq_nil_of_le (by rw [HT.out.2.2.2.2]; exact Nat.le_refl _), show itemsQ nb pb aa ff xx [] = [] from rfl, List.append_nil, q5] at q6
         exact exitK q6 (by rw [q4, q2]) (by rw [q4, q3]) (by rw [q4])
       have HEND := Lib.hid hend
       clear hend exitK hseq hpos hz hl2 hap hp2 hr2 ho2 ha0 ha1 hjm hj x0
       go_wp2_with fail
       go_roundw
       case rel => exact HEND.out
       case measure => simp [RowKit.intOf]; omega
      case pos =>
       have i2 : (j : Int) < (m : Int) := by omega
       by_cases hh : ch = 0
       case neg =>
        have qh : ((ch : Int) == 0) = false := by
         have : ¬ (ch : Int) = 0 := by omega
         simpa using this
        have hend : ∃ k' : Nat, k' ≤ n ∧ Value.int .i64 ((k : Int) + 1) = .int .i64 (k' : Int) ∧ RL w2 gN (bF xs) L ALL N k' u5 (.bool ff) (.bool xx) wr := by
         rcases Nat.eq_zero_or_pos j with h0 | h0
         ·obtain ⟨q1, q2, q3⟩ := hz h0
          obtain ⟨q4, q5⟩ := HT.out.2.1 (by omega) (by omega)
          exact exitK (by rw [q1, q5, List.append_nil]) (by rw [q4, q2]; exact HSF.out.1) (by rw [q4, q3]; exact HSF.out.2) (by rw [q4])
         ·exact absurd (hpos h0).1 hh
        have HEND := Lib.hid hend
        clear hend exitK hseq hpos hz hl2 hap hp2 hr2 ho2 ha0 ha1 hjm hj hh
        go_wp2_with fail
        go_roundw
        case rel => exact HEND.out
        case measure => simp [RowKit.intOf]; omega
       case pos =>
        have qh : ((ch : Int) == 0) = true := by rw [hh]; rfl
        clear exitK
        obtain ⟨q, hq⟩ : ∃ q, p[j]? = some q := ⟨_, List.getElem?_eq_getElem (by rw [HT.out.2.2.2.2]; exact hjm)⟩
        have hqs := HT.out.2.2.2.1 q (List.mem_of_getElem? hq)
        obtain ⟨bb, o2, hAe, hbb, c0, c1, c2⟩ := hp2.r j q hq
        cases hAe
        have hob := hap bb o2 rfl
        have hseq2 := hseq hh
        rw [drop_cons hq] at hseq2
        obtain ⟨qr, qs, qb⟩ := q
        simp only at c0 c1 c2 hqs
        have hown2 := own_block_lt ho2
        have hgX : ¬ u5.ownBlock = some gN := fun e => by
         have h1 := (hown2 gN e).1
         have h2 := H2.out.2.2.2.1
         omega
        have x1 : wr.cell? ⟨gN, 1, none⟩ = some (.int .i64 (cp : Int)) := by
         have := hr2.n.cell 1
         rw [← HCH.out.2.1]
         exact this
        have x2 : wr.cell? ⟨gN, 2, none⟩ = some (.int .i64 (cn : Int)) := by
         have := hr2.n.cell 2
         rw [← HCH.out.2.2]
         exact this
        have g1 : ∀ P : Later (fun z => u5.ownBlock = some z) wr, P.W.cell? ⟨gN, 1, none⟩ = some (.int .i64 (cp : Int)) := fun P => cell_later x1 hgX P
        have g2 : ∀ P : Later (fun z => u5.ownBlock = some z) wr, P.W.cell? ⟨gN, 2, none⟩ = some (.int .i64 (cn : Int)) := fun P => cell_later x2 hgX P
        have g3 : ∀ P : Later (fun z => u5.ownBlock = some z) wr, P.W.cell? ⟨bb, o2 + j * 3, none⟩ = some (.int .i32 qr) := fun P => cell_later c0 hob P
        have g4 : ∀ P : Later (fun z => u5.ownBlock = some z) wr, P.W.cell? ⟨bb, o2 + j * 3 + 1, none⟩ = some (.int .i64 qs) := fun P => cell_later c1 hob P
        have iq : qs ≤ 1000 := hqs.2
        have iq0 : 0 ≤ qs := hqs.1
        have ij : (j : Int) ≤ 1000 := by have := HM.out; omega
        have ia : aa ≤ 1001000 := by omega
        have hbase : w2.heap.size ≤ wr.heap.size := hr2.z.size
        have hpl2 : pre2.length ≤ 1000000 := by have := HM.out; have := HPL.out; omega
        have HJ := Lib.hid (And.intro ho2 (And.intro hr2 (And.intro hp2 (And.intro hob (And.intro hbb (And.intro c1 (And.intro hgX (And.intro hl2 (And.intro hseq2 hown2)))))))))
        have HHH := Lib.hid hh
        clear ho2 hr2 hp2 hob hbb c0 c1 c2 hgX hl2 hseq2 hseq hpos hz hap hq hqs x1 x2 hown2 hh
        go_upto_region 23 with fail
        refine wp_region_mixF (fun i => if 20 ≤ i then 2 else 0) [0, 1, 2, 3, 4, 5, 6, 7, 8, 9, 10, 11, 12, 13, 14, 15, 16, 17, 18, 19] 4 (fun w' => ∃ P : Later (fun z => u5.ownBlock = some z) wr, w' = P.W) (by kernel_rfl) (by kernel_rfl) ⟨⟨_, Fz.drew wr⟩, rfl⟩ ?_
        simp only [opsAt, List.filterMap_cons, List.filterMap_nil, List.getElem?_toArray, List.getElem?_cons_zero, List.getElem?_cons_succ]
        change wpQuiet _ _ _ _ [_, _, _, _, _, _, _, _, _, _, _, _, _, _, _, _, _, _, _, _] _
        repeat (go_big_quiet_step (fail))
        refine wpQuiet_nil ?_
        clear g1 g2 g3 g4 x0
        have zd : Fz (fun z => u5.ownBlock = some z) wr { wr with drawn := wr.drawn + 1 } := Fz.drew wr
        have bd : Below wr.heap.size wr { wr with drawn := wr.drawn + 1 } := ⟨rfl, rfl, rfl, Nat.le_refl _, fun _ _ => rfl⟩
        obtain ⟨wd, hwd⟩ : ∃ V, ({ wr with drawn := wr.drawn + 1 } : World) = V := ⟨_, rfl⟩
        rw [hwd] at zd bd ⊢
        clear hwd
        have own_d := HJ.out.1.below bd
        have hbase2 : w2.heap.size ≤ wd.heap.size := Nat.le_trans hbase bd.size
        have HD := Lib.hid (And.intro zd (And.intro bd own_d))
        clear zd bd own_d
        refine wpFreeM_step [20] (by kernel_rfl) ⟨?_, trivial⟩
        refine wpOp_of_list rfl ?_
        go_wp2_with fail
        refine ⟨⟨⟨_, HD.out.1⟩, rfl⟩, ?_⟩
        refine wpFreeM_step [21] (by kernel_rfl) ⟨?_, trivial⟩
        refine wpOp_of_list rfl ?_
        go_wp2_with fail
        refine ⟨⟨⟨_, HD.out.1.trans (Fz.of_below (below_new _ _))⟩, rfl⟩, ?_⟩
        refine wpFreeM_step [22] (by kernel_rfl) ⟨?_, trivial⟩
        refine wpOp_of_list rfl ?_
        refine (R.wpList_appI rfl (.tmp 93) (.tmp 114) rfl w2.heap.size u5 pre2 ⟨qr, aa, qs, ff, xx, nb, pb⟩ rfl wd HD.out.2.2 rfl rfl hpl2 hbase2 ?_)
        intro g cpp w4 o4 b4 u4 g4
        have z4 : Fz (fun z => u5.ownBlock = some z) wr w4 := ⟨b4.os.trans HD.out.1.os, b4.tape.trans HD.out.1.tape, b4.output.trans HD.out.1.output, Nat.le_trans HD.out.1.size b4.size, fun z hz hn => (u4 z (Nat.lt_of_lt_of_le hz HD.out.1.size) hn).trans (HD.out.1.block z hz hn)⟩
        have k4 : w4.heap[bb]? = wr.heap[bb]? := z4.block bb HJ.out.2.2.2.2.1 HJ.out.2.2.2.1
        have hb4 : bb < w4.heap.size := Nat.lt_of_lt_of_le HJ.out.2.2.2.2.1 z4.size
        have p4 := HJ.out.2.2.1.keep k4 hb4
        have c14 : w4.cell? ⟨bb, o2 + j * 3 + 1, none⟩ = some (.int .i64 qs) := (World.cell?_of_block (a := ⟨bb, _, none⟩) k4).trans HJ.out.2.2.2.2.2.1
        have r4 : RW w2 gN s w4 := ⟨HJ.out.2.1.ok, z4.cellsK HJ.out.2.2.2.2.2.2.1 HJ.out.2.1.n, HJ.out.2.1.z.below2 ((HD.out.2.1.mono hbase).trans b4) (Nat.le_refl _)⟩
        have hap4 : ∀ b9 oo, (some ⟨bb, o2, none⟩ : Option Addr) = some ⟨b9, oo, none⟩ → (Value.slice (some ⟨g, 0, none⟩) (pre2.length + 1) cpp).ownBlock ≠ some b9 := fun b9 oo e e2 => by
         cases e
         have e3 : g = bb := by simpa [Value.ownBlock] using e2
         rcases g4 with h | h
         ·rw [e3] at h
          exact HJ.out.2.2.2.1 h
         ·have h1 := HJ.out.2.2.2.2.1
          have h2 := HD.out.1.size
          omega
        have hend : ∃ (j' : Nat) (pre3 : List IT) (a' : Int) (ff' xx' : Bool), j' ≤ m ∧ Value.int .i64 ((j : Int) + 1) = .int .i64 (j' : Int) ∧ Value.int .i64 (aa + qs) = .int .i64 a' ∧ Value.bool false = .bool ff' ∧ Value.bool false = .bool xx' ∧ 0 ≤ a' ∧ a' ≤ 1000 + 1000 * (j' : Int) ∧ R.OwnIt w4 w2.heap.size pre3 (.slice (some ⟨g, 0, none⟩) (pre2.length + 1) cpp) ∧ RW w2 gN s w4 ∧ PsA w4 w4.heap.size p (some ⟨bb, o2, none⟩) cp9 ∧ (∀ b9 oo, (some ⟨bb, o2, none⟩ : Option Addr) = some ⟨b9, oo, none⟩ → (Value.slice (some ⟨g, 0, none⟩) (pre2.length + 1) cpp).ownBlock ≠ some b9) ∧ pre3.length ≤ pre.length + j' ∧ (j' = 0 → pre3 = pre ∧ ff' = sf ∧ xx' = sx) ∧ (0 < j' → ch = 0 ∧ ff' = false ∧ xx' = false) ∧ (ch = 0 → pre3 ++ itemsQ nb pb a' ff' xx' (p.drop j') = pre ++ itemsQ nb pb (t.fr : Int) sf sx p) := by
         refine ⟨j + 1, pre2 ++ [⟨qr, aa, qs, ff, xx, nb, pb⟩], aa + qs, false, false, by omega, by simp, rfl, rfl, rfl, by omega, by omega, o4, r4, p4, hap4, ?_, fun h => by omega, fun _ => ⟨HHH.out, rfl, rfl⟩, fun _ => ?_⟩
         ·have := HJ.out.2.2.2.2.2.2.2.1
          rw [List.length_append]
          show pre2.length + 1 ≤ _
          omega
         ·rw [List.append_assoc]
          exact HJ.out.2.2.2.2.2.2.2.2.1
        have HEND := Lib.hid hend
        have H4 := Lib.hid z4
        clear hend o4 b4 u4 g4 z4 k4 hb4 p4 r4 hap4 hbase hbase2 hpl2
        go_wp2_with fail
        refine ⟨⟨⟨_, H4.out⟩, rfl⟩, ?_⟩
        refine wpFreeM_step [23] (by kernel_rfl) ⟨?_, trivial⟩
        refine wpOp_of_list rfl ?_
        go_wp2_with fail
        refine ⟨⟨⟨_, H4.out⟩, rfl⟩, ?_⟩
        unfold wpFreeM
        go_wp2_with fail
        go_roundw
        case rel => exact HEND.out
        case measure => simp [RowKit.intOf]; omega
end Go.Proofs.YtfafhbgkmlmmdaaGreatDoor.K
namespace Go.Proofs
open Go.Shelf
def Tryz.searchL_ren : Go.Shelf.Ren := ⟨fun | 16 => 60 | n => n, fun | 3 => 3 | 4 => 4 | 35 => 73 | 38 => 123 | n => n, fun n => n⟩
theorem Tryz.searchL : Go.Proofs.SlLaysO.n16 Tryz.prog Tryz.searchL_ren := {
 mixed := by kernel_rfl
 f16 := Tryz.func60.trans (congrArg some (by kernel_rfl))
 t3 := Tryz.underlying3
 a3 := Tryz.isAgg3
 z3 := Tryz.sizeOf3
 v3 := Tryz.zeroValue3
 t4 := Tryz.underlying4
 a4 := Tryz.isAgg4
 z4 := Tryz.sizeOf4
 v4 := Tryz.zeroValue4
 t35 := Tryz.underlying73
 a35 := Tryz.isAgg73
 z35 := Tryz.sizeOf73
 v35 := Tryz.zeroValue73
 t38 := Tryz.underlying123
 a38 := Tryz.isAgg123
 z38 := Tryz.sizeOf123
 v38 := Tryz.zeroValue123 }
end Go.Proofs
namespace Go.Proofs.YtfafhbgkmlmmdaaGreatDoor.K
open Go.RowKit Go.Shelf Go.Lib Go.Maps Go.Sort
attribute [local irreducible] nmL ofN
theorem FL.drewN {w : World} {B g : Nat} {xs : List Nat} {l : List IT} (h : FL w B g xs l) (m : Nat) : FL (w.drewN m) B g xs l := h.below (below_drewN (Below.refl _ _) m)
theorem plain1_any (g b2 b3 a i : Nat) (xs : List Nat) (l : List IT) (w : World) (h : FL w w.heap.size g xs l) (hl : l.length ≤ 100000) (hi : i < l.length)
  (h2 : w.cell? ⟨b2, 0, none⟩ = some (.pointer (some ⟨g, 0, none⟩))) (h3 : w.cell? ⟨b3, 0, none⟩ = some (.int .i64 (a : Int))) :
  Calls Tryz.prog 59 #[.int .i64 (i : Int), .pointer (some ⟨b2, 0, none⟩), .pointer (some ⟨b3, 0, none⟩)] w fun e w' => e = .returned (.bool (decide ((a : Int) ≤ rawR l xs.length (i + 1)))) ∧ ∃ q, w' = w.drewN q := by
 have C : ∀ m, Calls Tryz.prog 58 #[.pointer (some ⟨g, 0, none⟩), .int .i64 ((i : Int) + 1)] (w.drewN m) fun e w' => e = .returned (.int .i64 (rawR l xs.length (i + 1))) ∧ w' = w.drewN m := fun m => by
  have := raw_any g xs l (w.drewN m) (h.drewN m) hl (i + 1) (by omega)
  rw [show (((i + 1 : Nat)) : Int) = (i : Int) + 1 from by omega] at this
  exact this
 have hb : (i : Int) ≤ 100000 := by omega
 obtain ⟨R, hR⟩ : ∃ q, rawR l xs.length (i + 1) = q := ⟨_, rfl⟩
 simp only [hR] at C ⊢
 have HC := Lib.hid C
 clear C h hl hi hR
 go_enter Tryz.func59, Tryz.ntmps59
 go_wp2_with fail
 go_quiet ((go_at_call 58; with_reducible exact Calls.quiet_of_same (HC.out _)))
 go_wp2_with fail
 go_ret
 exact ⟨rfl, _, rfl⟩
def plainA (l : List IT) (N : Nat) (a : Int) : Value := .tuple #[.int .i64 (if 0 ≤ a ∧ a ≤ (N : Int) then ((plainR l N a.toNat : Nat) : Int) else 0), .bool (decide (0 ≤ a ∧ a ≤ (N : Int)))]
theorem plain_any (g : Nat) (xs : List Nat) (l : List IT) (w : World) (h : FL w w.heap.size g xs l) (hr : rise 0 l (xs.length : Int)) (hl : xs.length ≤ 100000) (a : Int) :
  Calls Tryz.prog 37 #[.pointer (some ⟨g, 0, none⟩), .int .i64 a] w fun e w' => e = .returned (plainA l xs.length a) ∧ Below w.heap.size w w' := by
 have hll := rise_len l _ _ hr
 obtain ⟨A, cap, A2, c2, h1, h2, _, _⟩ := h.c
 obtain ⟨W1, hW1⟩ : ∃ V, w.alloc (.cells #[.pointer (some ⟨g, 0, none⟩)] 45) = V := ⟨_, rfl⟩
 have b1 : Below w.heap.size w W1 := by rw [← hW1]; exact below_new _ _
 have x1 : Cells W1 w.heap.size 45 #[.pointer (some ⟨g, 0, none⟩)] := by rw [← hW1]; exact cells_new _ _ _
 have s1 : W1.heap.size = w.heap.size + 1 := by rw [← hW1]; simp
 obtain ⟨W2, hW2⟩ : ∃ V, W1.alloc (.cells #[.int .i64 a] 3) = V := ⟨_, rfl⟩
 have b2 : Below W1.heap.size W1 W2 := by rw [← hW2]; exact below_new _ _
 have x2 : Cells W2 (w.heap.size + 1) 3 #[.int .i64 a] := by rw [← hW2, ← s1]; exact cells_new _ _ _
 have b12 := b1.trans (b2.mono b1.size)
 have q2 : W2.cell? ⟨w.heap.size, 0, none⟩ = some (.pointer (some ⟨g, 0, none⟩)) := (x1.on b2).cell 0
 have q3 : W2.cell? ⟨w.heap.size + 1, 0, none⟩ = some (.int .i64 a) := x2.cell 0
 have q0 : W2.cell? ⟨g, 0, none⟩ = some (.slice A xs.length cap) := (b12.cell (p := ⟨g, 0, none⟩) h.gB).trans h1
 have q1 : W2.cell? ⟨g, 1, none⟩ = some (.slice A2 l.length c2) := (b12.cell (p := ⟨g, 1, none⟩) h.gB).trans h2
 have hF := h.on b12
 obtain ⟨N, hN⟩ : ∃ q, xs.length = q := ⟨_, rfl⟩
 obtain ⟨n, hn⟩ : ∃ q, l.length = q := ⟨_, rfl⟩
 simp only [hN, hn] at q0 q1 hl ⊢
 by_cases c1 : a < 0
 ·rw [show plainA l N a = .tuple #[.int .i64 0, .bool false] from by unfold plainA; rw [if_neg (by omega), decide_eq_false (by omega)]]
  have HW := Lib.hid (And.intro hW1 (And.intro hW2 b12))
  clear h1 h2 hW1 hW2 b1 b2 b12 x1 x2 s1 hF h hl hN hn hr hll
  go_enter Tryz.func37, Tryz.ntmps37
  go_upto_region 1 with fail
  rw [HW.out.1, HW.out.2.1]
  go_quiet (fail)
  go_wp2_with fail
  refine bodyPost_ret (v := .tuple #[.int .i64 0, .bool false]) (by simp [results, Tryz.results37, go_sem]) rfl ⟨rfl, ?_⟩
  exact below_drewN HW.out.2.2 _
 by_cases c2 : (N : Int) < a
 ·rw [show plainA l N a = .tuple #[.int .i64 0, .bool false] from by unfold plainA; rw [if_neg (by omega), decide_eq_false (by omega)]]
  have HW := Lib.hid (And.intro hW1 (And.intro hW2 b12))
  clear h1 h2 hW1 hW2 b1 b2 b12 x1 x2 s1 hF h hl hN hn hr hll
  go_enter Tryz.func37, Tryz.ntmps37
  go_upto_region 1 with fail
  rw [HW.out.1, HW.out.2.1]
  go_quiet (fail)
  go_wp2_with fail
  refine bodyPost_ret (v := .tuple #[.int .i64 0, .bool false]) (by simp [results, Tryz.results37, go_sem]) rfl ⟨rfl, ?_⟩
  exact below_drewN HW.out.2.2 _
 obtain ⟨k, rfl⟩ : ∃ k : Nat, a = (k : Int) := ⟨a.toNat, by omega⟩
 have hk : k ≤ N := by omega
 have hpa : plainA l N (k : Int) = .tuple #[.int .i64 ((plainR l N k : Nat) : Int), .bool true] := by unfold plainA; rw [if_pos (by omega), decide_eq_true (by omega)]; rfl
 rw [hpa]
 by_cases c3 : k = 0
 ·have c3' : ((k : Int) == 0) = true := by rw [c3]; rfl
  rw [show plainR l N k = 0 from if_pos (.inl c3)]
  clear c3
  have HW := Lib.hid (And.intro hW1 (And.intro hW2 b12))
  clear h1 h2 hW1 hW2 b1 b2 b12 x1 x2 s1 hF h hl hN hn hr hll hpa
  go_enter Tryz.func37, Tryz.ntmps37
  go_upto_region 1 with fail
  rw [HW.out.1, HW.out.2.1]
  go_quiet (fail)
  go_wp2_with fail
  refine bodyPost_ret (v := .tuple #[.int .i64 0, .bool true]) (by simp [results, Tryz.results37, go_sem]) rfl ⟨rfl, ?_⟩
  exact below_drewN HW.out.2.2 _
 have c3' : ((k : Int) == 0) = false := by rw [beq_eq_false_iff_ne]; omega
 by_cases c4 : n = 0
 ·rw [show plainR l N k = 0 from if_pos (.inr (by omega))]
  subst c4
  have HW := Lib.hid (And.intro hW1 (And.intro hW2 b12))
  clear h1 h2 hW1 hW2 b1 b2 b12 x1 x2 s1 hF h hl hN hn hr hll hpa
  go_enter Tryz.func37, Tryz.ntmps37
  go_upto_region 1 with fail
  rw [HW.out.1, HW.out.2.1]
  go_quiet (fail)
  go_wp2_with fail
  refine bodyPost_ret (v := .tuple #[.int .i64 0, .bool true]) (by simp [results, Tryz.results37, go_sem]) rfl ⟨rfl, ?_⟩
  exact below_drewN HW.out.2.2 _
 have c4' : ((n : Int) == 0) = false := by rw [beq_eq_false_iff_ne]; omega
 have hpn : plainR l N k = 1 + cntR l N k := by unfold plainR; rw [if_neg (by omega)]
 have hcl := cnt_le l N k
 have CS : ∀ m, Calls Tryz.prog 60 #[.int .i64 (n : Int), .func (.func 59) #[] #[.pointer (some ⟨w.heap.size, 0, none⟩), .pointer (some ⟨w.heap.size + 1, 0, none⟩)]] (W2.drewN m) fun e w' => e = .returned (.int .i64 ((cntR l N k : Nat) : Int)) ∧ ∃ q os, w' = grow ((W2.drewN m).drewN q) os := fun m => by
  have := Any.sort_Search Tryz.searchL 59 #[.pointer (some ⟨w.heap.size, 0, none⟩), .pointer (some ⟨w.heap.size + 1, 0, none⟩)] n (fun i => decide ((k : Int) ≤ rawR l N (i + 1))) (W2.drewN m) (fun _ _ => by kernel_rfl) (by omega)
   (fun q os i hi => by
    have hbw := below_grown_sl (W2.drewN m).heap.size (W2.drewN m) q os (Nat.le_refl _)
    have hbw' : Below W2.heap.size W2 (grow ((W2.drewN m).drewN q) os) := ⟨hbw.os, hbw.tape, hbw.output, hbw.size, hbw.block⟩
    have := plain1_any g w.heap.size (w.heap.size + 1) k i xs l _ (hF.on hbw') (by omega) (by omega) ((hbw'.cell (p := ⟨w.heap.size, 0, none⟩) (cell_lt q2)).trans q2) ((hbw'.cell (p := ⟨w.heap.size + 1, 0, none⟩) (cell_lt q3)).trans q3)
    rw [hN] at this
    exact this.mono fun e w' h => ⟨h.1, by obtain ⟨q, rfl⟩ := h.2; exact ⟨q, #[], (grow_empty _).symm⟩⟩)
   (by rw [← hn]; exact cnt_mono (by rw [← hN]; exact hr) k)
  unfold cntR
  rw [hn]
  exact this
 rw [hpn]
 obtain ⟨c, hc⟩ : ∃ q, cntR l N k = q := ⟨_, rfl⟩
 simp only [hc] at CS hcl ⊢
 have i1 : (c : Int) ≤ 100000 := by omega
 have HW := Lib.hid (And.intro hW1 (And.intro hW2 b12))
 have HC := Lib.hid CS
 have b3 : ∀ q os, Below W2.heap.size W2 (grow (W2.drewN q) os) := fun q os => below_grown_sl W2.heap.size W2 q os (Nat.le_refl _)
 clear h1 h2 hW1 hW2 b1 b2 b12 x1 x2 s1 hF h hl hN hn hr hll hpa hpn hc CS hcl
 go_enter Tryz.func37, Tryz.ntmps37
 go_upto_region 1 with fail
 rw [HW.out.1, HW.out.2.1]
 go_quiet (fail)
 go_wp2_with fail
 refine (HC.out _).mono ?_
 rintro e w3 ⟨rfl, q, os, rfl⟩
 go_wp2_with fail
 refine bodyPost_ret (v := .tuple #[.int .i64 (((1 + c : Nat)) : Int), .bool true]) ?_ rfl ⟨rfl, ?_⟩
 ·simp [results, Tryz.results37, go_sem]
 ·exact HW.out.2.2.trans (Below.mono (b3 _ os) HW.out.2.2.size)
end Go.Proofs.YtfafhbgkmlmmdaaGreatDoor.K
namespace Go.Proofs.YtfafhbgkmlmmdaaGreatDoor.K
open Go.RowKit Go.Shelf Go.Lib Go.Maps
attribute [local irreducible] nmL ofN
def fw : List Nat := [97, 60, 98, 62, 99]
theorem fw0 : markT fw 0 = none := by kernel_rfl
theorem fw1 : markT fw 1 = some ⟨2, 1, 4, [98], 0, false⟩ := by kernel_rfl
theorem fw4 : markT fw 4 = none := by kernel_rfl
def fw_t : List TK := [⟨0, 0, 1, [], 0, false⟩, ⟨2, 1, 4, [98], 0, false⟩, ⟨0, 4, 5, [], 0, false⟩]
theorem fw_each : eachL fw = fw_t := by
 have h1 : rawT fw ⟨2, 1, 4, [98], 0, false⟩ = 4 := by kernel_rfl
 have m : marksL fw 0 = [⟨2, 1, 4, [98], 0, false⟩] := by
  rw [marksL_none (by decide) fw0, marksL_some (by decide) fw1]
  unfold rawTok
  rw [h1, if_neg (by decide), marksL_none (by decide) fw4, marksL_end (by decide)]
  rfl
 unfold eachL
 rw [m]
 rfl
def fw_l : List IT := [⟨97, 0, 1, false, false, false, false⟩, ⟨99, 4, 1, false, false, false, false⟩]
theorem fw_items : allI (bF fw) es0 fw_t = fw_l := by kernel_rfl
theorem fw_rise : rise 0 fw_l ((fw.length : Nat) : Int) := ⟨by decide, by decide, by decide, by decide, (by decide : (4 : Int) + 1 ≤ ((fw.length : Nat) : Int))⟩
theorem fw_raw1 : (if 0 ≤ (1 : Int) ∧ (1 : Int) ≤ (fw_l.length : Int) then rawR fw_l fw.length (1 : Int).toNat else 0) = 4 := by decide
theorem fw_raw2 : (if 0 ≤ (2 : Int) ∧ (2 : Int) ≤ (fw_l.length : Int) then rawR fw_l fw.length (2 : Int).toNat else 0) = 5 := by decide
theorem fw_dec1 : decide (0 ≤ (1 : Int) ∧ (1 : Int) ≤ (fw_l.length : Int)) = true := by decide
theorem fw_dec2 : decide (0 ≤ (2 : Int) ∧ (2 : Int) ≤ (fw_l.length : Int)) = true := by decide
theorem fw_plain : plainA fw_l fw.length 2 = .tuple #[.int .i64 1, .bool true] := by rfl
theorem fw_text : (⟨(G.u8s (putL (fw_l.map (·.r)))).toArray⟩ : ByteArray) = ⟨#[97, 99]⟩ := by kernel_rfl
theorem fawake_any (w : World) (hM : G.MX w) (hT : S.Tabs w) : Calls Tryz.prog 24 #[] w fun r w' => r = .returned (.bool true) ∧ Below w.heap.size w w' := by
 obtain ⟨W1, hW1⟩ : ∃ W, w.alloc (.cells #[.int .u8 97, .int .u8 60, .int .u8 98, .int .u8 62, .int .u8 99] 5 (5, 6)) = W := ⟨_, rfl⟩
 have b1 : Below w.heap.size w W1 := by rw [← hW1]; exact below_new _ _
 have y1 : BY W1 W1.heap.size fw (some ⟨w.heap.size, 0, none⟩) 5 := by
  rw [← hW1]
  exact by_lit w fw (5, 6) (by decide) (by decide)
 have v1 : (convert 22 22 (.slice (some ⟨w.heap.size, 0, none⟩) 5 5)).run Tryz.prog (w.alloc (.cells #[.int .u8 97, .int .u8 60, .int .u8 98, .int .u8 62, .int .u8 99] 5)) = .ok (.slice (some ⟨w.heap.size, 0, none⟩) 5 5) W1 := by
  rw [← hW1]
  exact Lib.run_convert_bytes_const w 22 5 _ 5 5 Tryz.underlying22 Tryz.underlying5
 have CA := fnew_any fw (some ⟨w.heap.size, 0, none⟩) 5 W1 y1 (by decide) (hM.on hM.pos b1) (hT.below b1 (by have := hT.2; omega))
 rw [fw_each, fw_items] at CA
 have HH := Lib.hid (And.intro CA b1)
 clear CA b1 y1 hW1 hM hT
 go_enter Tryz.func24, Tryz.ntmps24
 go_wp2_with fail
 refine HH.out.1.mono ?_
 rintro r w2 ⟨g, rfl, hf, hb2⟩
 have C1 := Raw_any g fw fw_l w2 hf (by decide) 1
 have C2 := Raw_any g fw fw_l w2 hf (by decide) 2
 have C3 := plain_any g fw fw_l w2 hf fw_rise (by decide) 2
 rw [fw_raw1, fw_dec1] at C1
 rw [fw_raw2, fw_dec2] at C2
 rw [fw_plain] at C3
 have HB := Lib.hid (And.intro (HH.out.2.trans (hb2.mono HH.out.2.size)) hf)
 clear hb2 hf
 go_wp2_with fail
 refine C1.mono ?_
 rintro e _ ⟨rfl, rfl⟩
 go_wp2_with fail
 refine C2.mono ?_
 rintro e _ ⟨rfl, rfl⟩
 go_wp2_with fail
 refine C3.mono ?_
 rintro e w3 ⟨rfl, hb3⟩
 have hf3 := HB.out.2.on hb3
 have C4 := ftext_any g fw fw_l w3 hf3 (by decide) (by decide)
 rw [fw_text] at C4
 have H3 := Lib.hid (HB.out.1.trans (hb3.mono HB.out.1.size))
 clear hb3 hf3 C1 C2 C3
 go_wp2_with fail
 refine C4.mono ?_
 rintro e w4 ⟨rfl, hb4⟩
 have H4 := Lib.hid (H3.out.trans (hb4.mono H3.out.size))
 clear hb4 C4
 go_wp2_with fail
 go_ret
 exact ⟨rfl, H4.out⟩
end Go.Proofs.YtfafhbgkmlmmdaaGreatDoor.K
namespace Go.Proofs.YtfafhbgkmlmmdaaGreatDoor
open Go.ChangeShapes Go.WideShapes Go.ChangeAt Go.RowKit Go.Shelf
open Go.Lib
theorem own : ownKnob Tryz.prog.godebug = none := by kernel_rfl
theorem laidOut : laidOutB Tryz.prog = true := by kernel_rfl
theorem cells5 : Tryz.prog.cellsOf 5 = 1 := by kernel_rfl
theorem getD_ofI {l : List Int} {i : Nat} {x : Int} (h : l[i]? = some x) : l.getD i 0 = x := by simp [List.getD_eq_getElem?_getD, h]
theorem by_of_arg {H : Type} {enc : TypeId × Value → H} {W : World} {b0 : Nat} {v : Value} {d : DataW H} {p : List MemPlace} (hv : Value.okWide Tryz.prog W .any b0 22 v) (h : DataW.Trod enc Tryz.prog W 0 (fun _ => true) true 22 v d p) :
  ∃ (xs : List Nat) (A : Option Addr) (cap : Nat), v = .slice A xs.length cap ∧ BY W W.heap.size xs A cap := by
 obtain ⟨a, len, cap, rfl⟩ := okWide_slice Tryz.underlying22 hv
 obtain ⟨fuel, hf⟩ := h
 rcases open_ints Tryz.underlying22 Tryz.underlying5 cells5 hf with ⟨hcs, _⟩ | ⟨x, l, c, zs, hcs, _, hl, hm, hz, _, hcell, hwz⟩
 ·simp [Value.cells] at hcs
  obtain ⟨rfl, rfl, rfl⟩ := hcs
  exact ⟨[], none, 0, rfl, ⟨Nat.le_refl _, Nat.zero_le _, fun _ => rfl, fun x hx => absurd hx (by simp), fun hn => absurd rfl hn⟩⟩
 ·simp [Value.cells] at hcs
  obtain ⟨rfl, rfl, rfl⟩ := hcs
  have hz : zs.length = cap := by simpa using hz
  have hb : ∀ z ∈ zs, 0 ≤ z ∧ z < 256 := fun z hzz => by
   have := hwz z hzz
   simp [Lit.wf, IntKind.min, IntKind.max, IntKind.signed, IntKind.bits] at this
   omega
  have hlen : ((zs.take len).map Int.toNat).length = len := by simp; omega
  refine ⟨(zs.take len).map Int.toNat, some x, cap, by rw [hlen], ⟨by rw [hlen]; exact hl, hm, fun e => (by cases e), fun y hy => ?_, fun hn => ?_⟩⟩
  ·obtain ⟨z, hz1, rfl⟩ := List.mem_map.1 hy
   have := hb z (List.mem_of_mem_take hz1)
   omega
  ·have h0 : 0 < len := by
    rcases Nat.eq_zero_or_pos len with e | e
    ·subst e; exact absurd rfl hn
    ·exact e
   have hc := hcell 0 (by omega)
   obtain ⟨b, off, spot⟩ := x
   have hspot : spot = none := by simpa [Addr.add] using World.cell?_spot hc
   subst hspot
   have hc0 : W.cell? ⟨b, off, none⟩ = some (.int .u8 (zs.getD 0 0)) := by simpa [Addr.add] using hc
   refine ⟨b, off, rfl, block_lt_of_cell hc0, fun i y hy => ?_⟩
   have hi : i < len := by have := (List.getElem?_eq_some_iff.1 hy).1; omega
   have hci := hcell i (by omega)
   rw [Addr.add_lit] at hci
   rw [List.getElem?_map, List.getElem?_take, if_pos hi] at hy
   cases e : zs[i]? with
   | none => rw [e] at hy; simp at hy
   | some z =>
    rw [e] at hy
    simp at hy
    have hzb := hb z (List.mem_of_getElem? e)
    rw [getD_ofI e] at hci
    rw [hci, ← hy]
    congr 2
    omega
theorem handed_laid {H : Type} {enc : TypeId × Value → H} {a : Assume} {C : Checked} {os : Os} {f : FuncId} {fn : Func} {s : ChangeSpec} {conds : List PathCond} {apart fresh handsOn again : Bool} {X : World → Array Value → Prop}
  (hX : ∀ (w w' : World) (args : Array Value), w.heap = w'.heap → X w args → X w' args)
  (own : ownKnob C.prog.godebug = none) (started : os.Started) (noInit : C.prog.inits.idxOf? f = none) (hfn : C.prog.funcs[f]? = some fn)
  (witness : ∃ (w : World) (tape : Tape) (i : Input), w.os = os ∧ (w.forCall tape i).Shaped C.prog ∧ i.vars = [] ∧ Input.okWide C.prog (w.forCall tape i) .any w.heap.size f i ∧
   ((s.pre enc C.prog fn conds apart (w.forCall tape i).memory i.args ∧ X (w.forCall tape i).memory i.args) ∧ sizedMet enc C.prog fn (OpenSpec.ofChange s) apart (w.forCall tape i).memory i.args) ∧ a.holds C.prog (lone (Frame.enter C.prog f i.args .normal) [] (w.forCall tape i)))
  (walk : ∀ (W : World) (base : Nat) (args : Array Value) (ds gs : List (DataW H)) (before : List MemPlace), W.ShapedOpen C.prog →
   (∀ (j : Nat) t v, fn.params[j]? = some t → args[j]? = some v → Value.okWide C.prog W .any base t v) →
   DataW.Whole enc C.prog fn.params.toList s.vars apart W args.toList ds gs before → X W args →
   (DataW.weightsEach C.prog (fn.params.toList ++ s.plain.varTypes C.prog) (ds ++ gs)).all (· ≤ reachBytes) = true →
   Calls C.prog f args W fun e W' => ∃ v, e = .returned v ∧ s.post enc C.prog fn apart fresh handsOn again W args v W') :
  ReturnsInHanded a C os f .any (fun w args => (s.pre enc C.prog fn conds apart w args ∧ X w args) ∧ sizedMet enc C.prog fn (OpenSpec.ofChange s) apart w args) (s.post enc C.prog fn apart fresh handsOn again) :=
 returnsInHanded_of_calls own started noInit witness fun w tape i _ hsh _ hok hpre _ => by
  obtain ⟨_, _, _, fn', hfn', _, _, _, _, hval⟩ := hok
  cases hfn.symm.trans hfn'
  obtain ⟨⟨⟨ds, gs, before, hw, _⟩, hx⟩, hz⟩ := hpre
  refine (walk (w.forCall tape i) w.heap.size i.args ds gs before hsh hval (DataW.Whole.of_heap (w' := w.forCall tape i) (by rfl) hw) (hX _ _ _ (by rfl) hx) (hz.weights hw)).mono ?_
  rintro e W' ⟨v, rfl, hp⟩
  exact ChangeSpec.post_blind hp
def laidAll7 : List (String × DataW Unit) := [("math/bits.deBruijn32tab", Rows.laid_math_bits_deBruijn32tab), ("math/bits.deBruijn64tab", Rows.laid_math_bits_deBruijn64tab), ("internal/strconv.uint64pow10", Rows.laid_internal_strconv_uint64pow10), ("unicode/utf8.acceptRanges", Rows.laid_unicode_utf8_acceptRanges), ("strconv.ErrRange", Rows.laid_strconv_ErrRange), ("strconv.ErrSyntax", Rows.laid_strconv_ErrSyntax), ("unicode/utf8.first", Rows.laid_unicode_utf8_first)]
theorem acc_eq : (Rows.laid_unicode_utf8_acceptRanges : DataW Unit) = acceptData := by kernel_rfl
theorem gFirst : Tryz.prog.globalNamed "unicode/utf8.first" = some 3 := by kernel_rfl
theorem gAccept : Tryz.prog.globalNamed "unicode/utf8.acceptRanges" = some 4 := by kernel_rfl
theorem yFirst : (Tryz.prog.globals[3]?).map (·.type) = some 251 := by kernel_rfl
theorem yAccept : (Tryz.prog.globals[4]?).map (·.type) = some 254 := by kernel_rfl
theorem cells159 : Tryz.prog.cellsOf 251 = 256 := by kernel_rfl
theorem cells161 : Tryz.prog.cellsOf 253 = 2 := by kernel_rfl
def bruijn64 : List Int := Lib.deBruijn64tab.map fun (n : Nat) => (n : Int)
theorem bruijn_eq : (Rows.laid_math_bits_deBruijn64tab : DataW Unit) = tabData .u8 bruijn64 := by kernel_rfl
theorem gBruijn : Tryz.prog.globalNamed "math/bits.deBruijn64tab" = some 6 := by kernel_rfl
theorem yBruijn : (Tryz.prog.globals[6]?).map (·.type) = some 270 := by kernel_rfl
theorem cells177 : Tryz.prog.cellsOf 270 = 64 := by kernel_rfl
theorem five_of_reads {w : World} (h : VarReads Tryz.prog w "math/bits.deBruijn64tab" Rows.laid_math_bits_deBruijn64tab) : 5 ≤ w.heap.size := by
 rw [bruijn_eq] at h
 obtain ⟨g, t, cs, fuel, p, hg, hty, hvar, hd⟩ := h
 obtain rfl := Option.some.inj (gBruijn.symm.trans hg)
 obtain rfl := Option.some.inj (yBruijn.symm.trans hty)
 have hcs := cells_of_tab Tryz.underlying270 Tryz.underlying5 cells5 cells177 hd
 have h1 := World.var?_cell hg hvar 15
 rw [← Array.getElem?_toList, hcs] at h1
 have h2 : w.cell? ⟨6, 15, none⟩ = some (.int .u8 4) := h1.trans rfl
 exact Nat.le_of_lt (Nat.lt_trans (show 5 < 6 by omega) (block_lt_of_cell h2))
theorem tabs_of_reads {w : World} (h3 : VarReads Tryz.prog w "unicode/utf8.first" Rows.laid_unicode_utf8_first) (h4 : VarReads Tryz.prog w "unicode/utf8.acceptRanges" Rows.laid_unicode_utf8_acceptRanges) (h5 : 5 ≤ w.heap.size) : S.Tabs w := by
 have e3 : Rows.laid_unicode_utf8_first = firstData := Pinned.utf8First_eq
 rw [e3] at h3
 rw [acc_eq] at h4
 have hU : Utf8Tabs 3 4 w := by
  refine ⟨fun c hc => ?_, fun i hi => ?_⟩
  ·obtain ⟨g, t, cs, fuel, p, hg, hty, hvar, hd⟩ := h3
   obtain rfl := Option.some.inj (gFirst.symm.trans hg)
   obtain rfl := Option.some.inj (yFirst.symm.trans hty)
   have hcs := cells_of_tab Tryz.underlying251 Tryz.underlying5 cells5 cells159 hd
   have := World.var?_cell hg hvar c
   rw [this, ← Array.getElem?_toList, hcs]
   simp [firstTab, hc]
  ·obtain ⟨g, t, cs, fuel, p, hg, hty, hvar, hd⟩ := h4
   obtain rfl := Option.some.inj (gAccept.symm.trans hg)
   obtain rfl := Option.some.inj (yAccept.symm.trans hty)
   obtain ⟨fuel', d, q, hdi, he⟩ := array_elem Tryz.underlying254 hd i hi
   simp only [List.getElem?_map, List.getElem?_range hi, Option.map_some, Option.some.injEq] at hdi
   subst hdi
   rw [cells161] at he
   have hcs := ints_of_struct Tryz.underlying253 (fun j f hj => by
    match j, hj with
    | 0, hj => simp at hj; subst hj; exact ⟨Tryz.underlying5, rfl, cells5⟩
    | 1, hj => simp at hj; subst hj; exact ⟨Tryz.underlying5, rfl, cells5⟩
    | j + 2, hj => simp at hj) (by rw [cells161]; rfl) he
   have e0 := congrArg (·[0]?) hcs
   have e1 := congrArg (·[1]?) hcs
   simp only [List.getElem?_take, List.getElem?_drop] at e0 e1
   constructor
   ·rw [World.var?_cell hg hvar (2 * i), ← Array.getElem?_toList]
    simpa [Nat.mul_comm] using e0
   ·rw [World.var?_cell hg hvar (2 * i + 1), ← Array.getElem?_toList]
    simpa [Nat.mul_comm] using e1
 exact ⟨hU, h5⟩
theorem mx_of_shape {w : World} (h : w.ShapedOpen Tryz.prog) : G.MX w := by
 obtain ⟨m, hm⟩ := cell_of_shapedOpen_int (g := 2) (t := 3) (zero := #[.int .i64 0]) (k := .i64) h (of_decide_eq_true (by kernel_rfl)) (by kernel_rfl) rfl (by kernel_rfl) (by kernel_rfl) Tryz.underlying3
 exact ⟨m, hm⟩
end Go.Proofs.YtfafhbgkmlmmdaaGreatDoor
