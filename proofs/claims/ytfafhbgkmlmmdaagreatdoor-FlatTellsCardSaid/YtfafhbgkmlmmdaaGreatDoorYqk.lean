/-
  What the rows of flat lean on, part k.
-/
import Derived.Test.YtfafhbgkmlmmdaaGreatDoorYqj
import Derived.Test.YtfafhbgkmlmmdaaGreatDoorYqh
import Derived.RangeFuncNested
import Derived.RangeFuncBound
import Derived.RangeFuncCalls
import Derived.RangeFuncLeaves
import Derived.Shelf.Abstract
import Derived.Shelf.RegionOpen
import Derived.WalkKit
import Derived.OwnWalkIn
import Derived.TacticsInMore
import Derived.LoopNIn
import Derived.LoopIn
import Derived.Deep.RegionLaw
import Derived.Deep.CutRange
import Derived.StillTailTactics
import Derived.Lib.QuietBelow
import Derived.BigQuiet
set_option maxRecDepth 100000
set_option maxHeartbeats 40000000
namespace Go.Proofs.YtfafhbgkmlmmdaaGreatDoor
open Go.RowKit Go.Shelf Go.Lib Go.Maps
theorem ctl_none {n : Nat} {r : List Nat} (h : r = []) : ctlR n r = ⟨n, false, true, 0⟩ := by subst h; rfl
theorem ctl_final {n c : Nat} {r : List Nat} (h : inR 64 126 c = true) : ctlR n (c :: r) = ⟨n + 1, true, false, c⟩ := by simp only [ctlR, if_pos h]
theorem ctl_other {n c : Nat} {r : List Nat} (h : inR 64 126 c = false) : ctlR n (c :: r) = ⟨n, false, false, 0⟩ := by simp only [ctlR, h]; rfl
theorem readC_ends (xs : List Nat) (h2 : 2 ≤ xs.length) : ∃ E1 E2, 2 + skipN 48 63 (xs.drop 2) = E1 ∧ E1 + skipN 32 47 (xs.drop E1) = E2 ∧ E1 ≤ xs.length ∧ E2 ≤ xs.length ∧ readC (xs.drop 2) = ctlR E2 (xs.drop E2) := by
 refine ⟨_, _, rfl, rfl, ?_, ?_, ?_⟩
 ·have := skipN_le 48 63 (xs.drop 2)
  simp at this
  omega
 ·have := skipN_le 48 63 (xs.drop 2)
  have := skipN_le 32 47 (xs.drop (2 + skipN 48 63 (xs.drop 2)))
  simp at *
  omega
 ·unfold readC
  rw [List.drop_drop, List.drop_drop, Nat.add_assoc 2]
theorem readControl_any (xs : List Nat) (A : Option Addr) (cap : Nat) (h2 : 2 ≤ xs.length) (w : World) (h : BY w w.heap.size xs A cap) :
  Calls Tryz.prog 121 #[.slice A xs.length cap] w fun r w' => r = .returned (escV (readC (xs.drop 2))) ∧ Below w.heap.size w w' := by
 have hlen := h.len
 obtain ⟨E1, E2, hE1, hE2, l1, l2, hR⟩ := readC_ends xs h2
 rw [hR]
 have C1 := fun W (h : BY W W.heap.size xs A cap) => skip_any xs A cap 48 63 48 63 rfl rfl 2 (by omega) W h
 rw [hE1] at C1
 have C2 := fun W (h : BY W W.heap.size xs A cap) => skip_any xs A cap 32 47 32 47 rfl rfl E1 l1 W h
 rw [hE2] at C2
 obtain ⟨N, hN⟩ : ∃ N, xs.length = N := ⟨_, rfl⟩
 rw [hN] at C1 C2 l1 l2 hlen
 rw [hN]
 have B0 := fun (o : Obj) => h.on (below_new w o)
 have HH := Lib.hid (And.intro h (And.intro hN hR))
 have HB := Lib.hid B0
 have HC1 := Lib.hid C1
 have HC2 := Lib.hid C2
 clear hR hE1 hE2 C1 C2 B0 h2
 by_cases hlt : E2 < N
 ·have i1 : (E2 : Int) < (N : Int) := by omega
  obtain ⟨x, hx⟩ := at_lt (l := xs) (k := E2) (by rw [hN]; exact hlt)
  obtain ⟨b, o, rfl, hbl, d0⟩ := h.at hx
  have hin := in_int (rfl : (64 : Int) = ((64 : Nat) : Int)) (rfl : (126 : Int) = ((126 : Nat) : Int)) (rfl : (x : Int) = x)
  rw [drop_at hx]
  obtain ⟨X, hX⟩ : ∃ X : Int, (x : Int) = X := ⟨_, rfl⟩
  rw [hX] at hin d0
  have HF := Lib.hid (fun W => isFinal_any X W)
  have i3 : ((E2 : Int) == (N : Int)) = false := by rw [beq_eq_false_iff_ne]; omega
  cases hf : inR 64 126 x
  ·rw [ctl_other hf]
   rw [hf] at hin
   have HI := Lib.hid hin.symm
   clear hin hf hx hN h hX
   go_enter Tryz.func121, Tryz.ntmps121
   go_wp2_with fail
   refine (HC1.out _ (HB.out _)).mono ?_
   rintro r w1 ⟨rfl, rfl⟩
   go_wp2_with fail
   refine (HC2.out _ (HB.out _)).mono ?_
   rintro r w2 ⟨rfl, rfl⟩
   go_wp2_with fail
   refine (HF.out _).mono ?_
   rintro r w1 ⟨rfl, rfl⟩
   rw [HI.out]
   go_wp2_with fail
   refine bodyPost_ret (v := .agg #[.int .i64 (E2 : Int), .bool false, .bool false, .int .u8 0]) (by simp [results, Tryz.results121, go_sem]) rfl ⟨rfl, below_new w _⟩
  ·rw [ctl_final hf]
   rw [hf] at hin
   have HI := Lib.hid hin.symm
   have HX := Lib.hid hX
   clear hin hf hx hN h hX
   go_enter Tryz.func121, Tryz.ntmps121
   go_wp2_with fail
   refine (HC1.out _ (HB.out _)).mono ?_
   rintro r w1 ⟨rfl, rfl⟩
   go_wp2_with fail
   refine (HC2.out _ (HB.out _)).mono ?_
   rintro r w2 ⟨rfl, rfl⟩
   go_wp2_with fail
   refine (HF.out _).mono ?_
   rintro r w1 ⟨rfl, rfl⟩
   rw [HI.out]
   go_wp2_with fail
   refine bodyPost_ret (v := .agg #[.int .i64 ((E2 : Int) + 1), .bool true, .bool false, .int .u8 X]) (by simp [results, Tryz.results121, go_sem]) rfl ⟨by rw [← HX.out]; rfl, below_new w _⟩
 ·obtain rfl : E2 = N := by omega
  have i1 : ¬ (E2 : Int) < (E2 : Int) := by omega
  have i3 : ((E2 : Int) == (E2 : Int)) = true := by simp
  rw [ctl_none (by rw [← hN, List.drop_length])]
  clear h hN
  go_enter Tryz.func121, Tryz.ntmps121
  go_wp2_with fail
  refine (HC1.out _ (HB.out _)).mono ?_
  rintro r w1 ⟨rfl, rfl⟩
  go_wp2_with fail
  refine (HC2.out _ (HB.out _)).mono ?_
  rintro r w2 ⟨rfl, rfl⟩
  go_wp2_with fail
  refine bodyPost_ret (v := .agg #[.int .i64 (E2 : Int), .bool false, .bool true, .int .u8 0]) (by simp [results, Tryz.results121, go_sem]) rfl ⟨rfl, below_new w _⟩
def readAt (xs : List Nat) (i : Int) : Esc := if i < 0 then escNone else readT (xs.drop i.toNat)
theorem BY.drop0 {w : World} {B : Nat} {xs : List Nat} {A : Option Addr} {cap k x : Nat} (h : BY w B xs A cap) (hx : xs[k]? = some x) : ∃ b o, A = some ⟨b, o, none⟩ ∧ b < B ∧ BY w B (xs.drop k) (some ⟨b, o + k, none⟩) (cap - k) := by
 obtain ⟨b, o, rfl, hb, _⟩ := h.at hx
 exact ⟨b, o, rfl, hb, h.drop (List.getElem?_eq_some_iff.1 hx).1⟩
theorem read_any (xs : List Nat) (A : Option Addr) (cap : Nat) (I : Int) (w : World) (h : BY w w.heap.size xs A cap) :
  Calls Tryz.prog 93 #[.slice A xs.length cap, .int .i64 I] w fun r w' => r = .returned (escV (readAt xs I)) ∧ Below w.heap.size w w' := by
 have hlen := h.len
 obtain ⟨N, hN⟩ : ∃ N, xs.length = N := ⟨_, rfl⟩
 rw [hN] at hlen ⊢
 by_cases h0 : I < 0
 ·have d0 : decide (I < 0) = true := by simpa using h0
  rw [show readAt xs I = escNone by rw [readAt, if_pos h0]]
  clear h hN
  go_enter Tryz.func93, Tryz.ntmps93
  go_wp2_with fail
  refine bodyPost_ret (v := .agg #[.int .i64 0, .bool false, .bool false, .int .u8 0]) (by simp [results, Tryz.results93, go_sem]) rfl ⟨rfl, below_new w _⟩
 have d0 : decide (I < 0) = false := by simpa using h0
 obtain ⟨k, rfl⟩ := Int.eq_ofNat_of_zero_le (show 0 ≤ I by omega)
 rw [show readAt xs (k : Int) = readT (xs.drop k) by rw [readAt, if_neg h0, Int.toNat_natCast]]
 clear h0
 by_cases hlt : k < N
 case neg =>
  have d1 : decide ((N : Int) ≤ (k : Int)) = true := by simp; omega
  rw [List.drop_of_length_le (by omega)]
  clear h hN
  go_enter Tryz.func93, Tryz.ntmps93
  go_wp2_with fail
  refine bodyPost_ret (v := .agg #[.int .i64 0, .bool false, .bool false, .int .u8 0]) (by simp [results, Tryz.results93, go_sem]) rfl ⟨rfl, below_new w _⟩
 have d1 : decide ((N : Int) ≤ (k : Int)) = false := by simp; omega
 obtain ⟨x, hx⟩ := at_lt (l := xs) (k := k) (by rw [hN]; exact hlt)
 obtain ⟨b, o, rfl, hbl, hB⟩ := h.drop0 hx
 obtain ⟨b', o', e, _, e0⟩ := h.at hx
 obtain ⟨rfl, rfl⟩ : b = b' ∧ o = o' := by simpa using e
 have hcap := h.l
 have hmx := h.m
 unfold maxLen at hmx
 rw [hN] at hcap
 by_cases hc : x = 27
 case neg =>
  have d2 : ((x : Int) != 27) = true := by rw [bne_iff_ne]; omega
  rw [drop_at hx, readT_not _ hc]
  clear h hN hB hx hc e
  generalize (x : Int) = X at *
  go_enter Tryz.func93, Tryz.ntmps93
  go_wp2_with fail
  refine bodyPost_ret (v := .agg #[.int .i64 0, .bool false, .bool false, .int .u8 0]) (by simp [results, Tryz.results93, go_sem]) rfl ⟨rfl, below_new w _⟩
 subst hc
 have hl2 : (xs.drop k).length = N - k := by rw [List.length_drop, hN]
 have e0 : w.cell? ⟨b, o + k, none⟩ = some (.int .u8 27) := e0
 by_cases h1 : N - k = 1
 ·obtain ⟨c, hc⟩ : ∃ c, xs.drop k = [c] := List.length_eq_one_iff.1 (by rw [hl2, h1])
  have hc2 := drop_at hx
  rw [hc] at hc2
  rw [hc, (List.cons.inj hc2).1]
  have i1 : ¬ (1 : Int) < ((N - k : Nat) : Int) := by omega
  have i2 : (((N - k : Nat) : Int) == 1) = true := by rw [h1]; rfl
  clear h hN hB hx e hl2 hc hc2 h1
  go_enter Tryz.func93, Tryz.ntmps93
  go_wp2_with fail
  refine bodyPost_ret (v := .agg #[.int .i64 1, .bool false, .bool true, .int .u8 0]) (by simp [results, Tryz.results93, go_sem]) rfl ⟨rfl, below_new w _⟩
 have i1 : (1 : Int) < ((N - k : Nat) : Int) := by omega
 have i2 : (((N - k : Nat) : Int) == 1) = false := by rw [beq_eq_false_iff_ne]; omega
 obtain ⟨d, hd⟩ := at_lt (l := xs) (k := k + 1) (by omega)
 have hdx : xs.drop k = 27 :: d :: xs.drop (k + 2) := by rw [drop_at hx, drop_at hd]
 have e1 : w.cell? ⟨b, o + k + 1, none⟩ = some (.int .u8 (d : Int)) := by
  obtain ⟨b', o', e', _, e1⟩ := hB.at (i := 1) (x := d) (by rw [hdx]; rfl)
  obtain ⟨rfl, rfl⟩ : b = b' ∧ o + k = o' := by simpa using e'
  exact e1
 have C := fun W (h : BY W W.heap.size (xs.drop k) (some ⟨b, o + k, none⟩) (cap - k)) => readControl_any (xs.drop k) (some ⟨b, o + k, none⟩) (cap - k) (by rw [hl2]; omega) W h
 rw [hl2] at C
 have BB := fun (o : Obj) => (hB.on (below_new w o))
 by_cases hd9 : d = 91
 ·subst hd9
  have e1 : w.cell? ⟨b, o + k + 1, none⟩ = some (.int .u8 91) := e1
  have hrd : readT (xs.drop k) = readC ((xs.drop k).drop 2) := by rw [hdx]; rfl
  obtain ⟨⟨S, Wh, Op, La⟩, hR⟩ : ∃ R, readC ((xs.drop k).drop 2) = R := ⟨_, rfl⟩
  rw [hrd, hR]
  rw [hR] at C
  have HC := Lib.hid C
  have HBB := Lib.hid BB
  clear C BB h hN hB hx hd hdx hl2 h1 hR hrd
  go_enter Tryz.func93, Tryz.ntmps93
  go_wp2_with fail
  refine (HC.out _ (HBB.out _)).mono ?_
  rintro r w1 ⟨rfl, hb1⟩
  unfold escV
  dsimp only
  have hs1 := hb1.size
  rw [World.size_alloc] at hs1 hb1
  have x1 : Cells w1 w.heap.size 134 #[.int .i64 0, .bool false, .bool false, .int .u8 0] := (hb1.block _ (by omega)).trans (cells_new _ _ _)
  have q0 := x1.cell 0
  have q1 := x1.cell 1
  have q2 := x1.cell 2
  have q3 := x1.cell 3
  have f0 := x1.froz 0
  have f1 := x1.froz 1
  have f2 := x1.froz 2
  have f3 := x1.froz 3
  simp at q0 q1 q2 q3
  have hbw : Below w.heap.size w w1 := (below_new w _).trans (hb1.mono (by omega))
  have HBW := Lib.hid hbw
  clear hb1 x1 hbw
  go_wp2_with fail
  refine bodyPost_ret (v := .agg #[.int .i64 (S : Int), .bool Wh, .bool Op, .int .u8 (La : Int)]) ?_ rfl ⟨rfl, ?_⟩
  ·simp [results, Tryz.results93, go_sem, q0, q1, q2, q3]
  ·exact (((HBW.out.setCell (p := ⟨_, 0, none⟩) (Nat.le_refl _) _).setCell (p := ⟨_, 1, none⟩) (Nat.le_refl _) _).setCell (p := ⟨_, 2, none⟩) (Nat.le_refl _) _).setCell (p := ⟨_, 3, none⟩) (Nat.le_refl _) _
 ·have d2 : ((d : Int) == 91) = false := by rw [beq_eq_false_iff_ne]; omega
  have hin := in_int (rfl : (64 : Int) = ((64 : Nat) : Int)) (rfl : (95 : Int) = ((95 : Nat) : Int)) (rfl : (d : Int) = d)
  obtain ⟨D, hD⟩ : ∃ D : Int, (d : Int) = D := ⟨_, rfl⟩
  rw [hD] at hin d2 e1
  have hr : readT (xs.drop k) = if inR 64 95 d = true then ⟨2, true, false, d⟩ else ⟨1, false, false, 0⟩ := by
   rw [hdx]
   simp only [readT, if_true, if_neg hd9]
  rw [hr]
  have HD := Lib.hid hD
  have HI := Lib.hid hin
  clear C BB h hN hB hx hd hdx hl2 h1 hr hD hin hd9
  by_cases c1 : 64 ≤ D
  ·have d3 : decide (64 ≤ D) = true := by simpa using c1
   by_cases c2 : D ≤ 95
   ·have d4 : decide (D ≤ 95) = true := by simpa using c2
    rw [if_pos (by rw [HI.out, d3, d4]; rfl)]
    clear c1 c2
    go_enter Tryz.func93, Tryz.ntmps93
    go_wp2_with fail
    refine bodyPost_ret (v := .agg #[.int .i64 2, .bool true, .bool false, .int .u8 D]) (by simp [results, Tryz.results93, go_sem]) rfl ⟨by rw [← HD.out]; rfl, below_new w _⟩
   ·have d4 : decide (D ≤ 95) = false := by simpa using c2
    rw [if_neg (by rw [HI.out, d3, d4]; simp)]
    clear c1 c2
    go_enter Tryz.func93, Tryz.ntmps93
    go_wp2_with fail
    refine bodyPost_ret (v := .agg #[.int .i64 1, .bool false, .bool false, .int .u8 0]) (by simp [results, Tryz.results93, go_sem]) rfl ⟨rfl, below_new w _⟩
  ·have d3 : decide (64 ≤ D) = false := by simpa using c1
   rw [if_neg (by rw [HI.out, d3]; simp)]
   clear c1
   go_enter Tryz.func93, Tryz.ntmps93
   go_wp2_with fail
   refine bodyPost_ret (v := .agg #[.int .i64 1, .bool false, .bool false, .int .u8 0]) (by simp [results, Tryz.results93, go_sem]) rfl ⟨rfl, below_new w _⟩
end Go.Proofs.YtfafhbgkmlmmdaaGreatDoor
namespace Go.Proofs.YtfafhbgkmlmmdaaGreatDoor
open Go.RowKit Go.Shelf Go.Lib Go.Maps Go.Great
structure TK where
 kind : Nat
 fr : Nat
 «to» : Nat
 name : List Nat
 r : Int
 sg : Bool
def tkZ : TK := ⟨0, 0, 0, [], 0, false⟩
def tokC (x : TK) : Array Value := #[.int .i64 (x.kind : Int), .int .i64 (x.fr : Int), .int .i64 (x.to : Int), .string ⟨(G.u8s x.name).toArray⟩, .int .i32 x.r, .bool x.sg]
def tokV (x : TK) : Value := .agg (tokC x)
theorem refGo_kind (N k : Nat) : ∀ (l : List Nat) (s : G.RS), (G.refGo N k s l).kind = k
 | [], s => rfl
 | c :: t, s => by
  unfold G.refGo
  split
  ·rfl
  ·exact refGo_kind N k t _
theorem upGo_kind (N k : Nat) (e : List Nat) : ∀ l, (G.upGo N k e l).kind = k
 | [] => rfl
 | c :: t => by
  unfold G.upGo
  split
  ·rfl
  ·exact upGo_kind N k e t
theorem rdT_facts {l : List Nat} {T : G.TG} (h : G.rdT l = some T) : T.kind < 4 ∧ 2 ≤ T.size ∧ T.size ≤ l.length := by
 refine ⟨?_, ?_⟩
 ·unfold G.rdT at h
  split at h
  ·split at h
   ·cases h
   ·split at h
    ·cases h
     rw [refGo_kind]
     omega
    ·split at h
     ·cases h
      rw [refGo_kind]
      omega
     ·split at h
      ·cases h
       rw [upGo_kind]
       omega
      ·split at h
       ·cases h
        rw [upGo_kind]
        omega
       ·cases h
  ·cases h
 ·rcases G.grow_rd l [] with ⟨h1, _⟩ | ⟨T', V, h1, _, h2⟩
  ·rw [h1] at h
   cases h
  ·rw [h] at h1
   cases h1
   exact ⟨h2.2.1, h2.1⟩
theorem ofTag_any (k : Nat) (h : k < 4) (w : World) : Calls Tryz.prog 132 #[.int .i64 (k : Int)] w fun e w' => e = .returned (.int .i64 ((k + 2 : Nat) : Int)) ∧ w' = w := by
 obtain rfl | rfl | rfl | rfl : k = 0 ∨ k = 1 ∨ k = 2 ∨ k = 3 := by omega
 ·have hi : ∀ W, (Instr.index 224 (.agg #[.int .i64 2, .int .i64 3, .int .i64 4, .int .i64 5]) (.int .i64 0)).run Tryz.prog W = .ok (.int .i64 2) W := fun W => by kernel_rfl
  go_enter Tryz.func132, Tryz.ntmps132
  go_wp2_with fail
  go_ret
  exact ⟨rfl, rfl⟩
 ·have hi : ∀ W, (Instr.index 224 (.agg #[.int .i64 2, .int .i64 3, .int .i64 4, .int .i64 5]) (.int .i64 1)).run Tryz.prog W = .ok (.int .i64 3) W := fun W => by kernel_rfl
  go_enter Tryz.func132, Tryz.ntmps132
  go_wp2_with fail
  go_ret
  exact ⟨rfl, rfl⟩
 ·have hi : ∀ W, (Instr.index 224 (.agg #[.int .i64 2, .int .i64 3, .int .i64 4, .int .i64 5]) (.int .i64 2)).run Tryz.prog W = .ok (.int .i64 4) W := fun W => by kernel_rfl
  go_enter Tryz.func132, Tryz.ntmps132
  go_wp2_with fail
  go_ret
  exact ⟨rfl, rfl⟩
 ·have hi : ∀ W, (Instr.index 224 (.agg #[.int .i64 2, .int .i64 3, .int .i64 4, .int .i64 5]) (.int .i64 3)).run Tryz.prog W = .ok (.int .i64 5) W := fun W => by kernel_rfl
  go_enter Tryz.func132, Tryz.ntmps132
  go_wp2_with fail
  go_ret
  exact ⟨rfl, rfl⟩
theorem text_any (a b : Nat) (w : World) : Calls Tryz.prog 82 #[.int .i64 (a : Int), .int .i64 (b : Int)] w fun e w' => e = .returned (tokV ⟨0, a, b, [], 0, false⟩) ∧ Below w.heap.size w w' := by
 go_enter Tryz.func82, Tryz.ntmps82
 go_wp2_with fail
 refine bodyPost_ret (v := tokV ⟨0, a, b, [], 0, false⟩) ?_ rfl ⟨rfl, below_new _ _⟩
 simp [results, Tryz.results82, go_sem]
 rfl
end Go.Proofs.YtfafhbgkmlmmdaaGreatDoor
namespace Go.Proofs.YtfafhbgkmlmmdaaGreatDoor
open Go.RowKit Go.Shelf Go.Lib
structure Fr (X : Nat → Prop) (ob ob' : Option Nat) (W W' : World) : Prop where
 os : W'.os = W.os
 tape : W'.tape = W.tape
 output : W'.output = W.output
 size : W.heap.size ≤ W'.heap.size
 same : ∀ k, k < W.heap.size → ¬ X k → ob ≠ some k → W'.heap[k]? = W.heap[k]?
 ob : ob' = ob ∨ ∃ k, ob' = some k ∧ W.heap.size ≤ k ∧ k < W'.heap.size
theorem Fr.refl (X : Nat → Prop) (ob : Option Nat) (W : World) : Fr X ob ob W W := ⟨rfl, rfl, rfl, Nat.le_refl _, fun _ _ _ _ => rfl, .inl rfl⟩
theorem Fr.trans {X : Nat → Prop} {a b c : Option Nat} {U V W : World} (h : Fr X a b U V) (k : Fr X b c V W) : Fr X a c U W :=
 ⟨k.os.trans h.os, k.tape.trans h.tape, k.output.trans h.output, Nat.le_trans h.size k.size, fun i hi hx ha => by
  refine (k.same i (Nat.lt_of_lt_of_le hi h.size) hx (fun e => ?_)).trans (h.same i hi hx ha)
  rcases h.ob with e2 | ⟨j, e2, hj, _⟩
  ·exact ha (e2.symm.trans e)
  ·have := e2.symm.trans e
   injection this with this
   omega, by
  rcases k.ob with e | ⟨j, e, hj, hj2⟩
  ·rcases h.ob with e2 | ⟨j, e2, hj, hj2⟩
   ·exact .inl (e.trans e2)
   ·exact .inr ⟨j, e.trans e2, hj, Nat.lt_of_lt_of_le hj2 k.size⟩
  ·exact .inr ⟨j, e, Nat.le_trans h.size hj, hj2⟩⟩
theorem Fr.of_below {X : Nat → Prop} {ob : Option Nat} {W W' : World} (h : Below W.heap.size W W') : Fr X ob ob W W' := ⟨h.os, h.tape, h.output, h.size, fun k hk _ _ => h.block k hk, .inl rfl⟩
theorem Fr.put {X : Nat → Prop} {ob : Option Nat} (W : World) (l : Nat) (o : Obj) (hl : X l) : Fr X ob ob W (W.putObj l o) :=
 ⟨rfl, rfl, rfl, by simp [World.putObj], fun k _ hx _ => World.putObj_heap_other (fun e => hx (by rw [e]; exact hl)), .inl rfl⟩
theorem Fr.mono {X Y : Nat → Prop} {a b : Option Nat} {U V : World} (h : Fr X a b U V) (hxy : ∀ k, X k → Y k) : Fr Y a b U V :=
 ⟨h.os, h.tape, h.output, h.size, fun k hk hy => h.same k hk (fun hx => hy (hxy k hx)), h.ob⟩
theorem Fr.below {X : Nat → Prop} {a b : Option Nat} {U V : World} {B : Nat} (h : Fr X a b U V) (hB : B ≤ U.heap.size) (hX : ∀ k, X k → B ≤ k) (ha : ∀ k, a = some k → B ≤ k) : Below B U V :=
 ⟨h.os, h.tape, h.output, h.size, fun k hk => h.same k (by omega) (fun hx => by have := hX k hx; omega) (fun e => by have := ha k e; omega)⟩
def Stab (S : Nat) (J : List TK → Option Nat → World → Prop) : Prop :=
 ∀ pre ob W W', J pre ob W → W'.os = W.os → W'.tape = W.tape → W'.output = W.output → W.heap.size ≤ W'.heap.size → (∀ k, k < W.heap.size → (k < S ∨ ob = some k) → W'.heap[k]? = W.heap[k]?) → J pre ob W'
theorem Stab.mono {S S' : Nat} {J : List TK → Option Nat → World → Prop} (h : Stab S J) (hS : S ≤ S') : Stab S' J :=
 fun pre ob W W' hj h1 h2 h3 h4 h5 => h pre ob W W' hj h1 h2 h3 h4 fun k hk hc => h5 k hk (hc.imp (fun h => Nat.lt_of_lt_of_le h hS) id)
theorem Stab.put {S : Nat} {J : List TK → Option Nat → World → Prop} (h : Stab S J) {pre : List TK} {ob : Option Nat} {W : World} (hj : J pre ob W) (l : Nat) (o : Obj) (hl : S ≤ l) (ho : ob ≠ some l) : J pre ob (W.putObj l o) :=
 h pre ob W _ hj rfl rfl rfl (by simp [World.putObj]) fun k _ hc => World.putObj_heap_other (fun e => by
  subst e
  rcases hc with hc | hc
  ·omega
  ·exact ho hc)
theorem Stab.of_below {S : Nat} {J : List TK → Option Nat → World → Prop} (h : Stab S J) {pre : List TK} {ob : Option Nat} {W W' : World} (hj : J pre ob W) (hb : Below W.heap.size W W') : J pre ob W' :=
 h pre ob W W' hj hb.os hb.tape hb.output hb.size fun k hk _ => hb.block k hk
def ObIn (S : Nat) (J : List TK → Option Nat → World → Prop) : Prop := ∀ pre k W, J pre (some k) W → S ≤ k ∧ k < W.heap.size
def YieldOk (X : Nat → Prop) (J Jx : List TK → Option Nat → World → Prop) (xs : List TK) (ob : Option Nat) (W : World) (e : Ending) (W' : World) : Prop :=
 (e = .returned (.bool true) ∧ ∃ ob', J xs ob' W' ∧ Fr X ob ob' W W') ∨ (e = .returned (.bool false) ∧ ∃ ob', Jx xs ob' W' ∧ Fr X ob ob' W W')
def HandsT (n gf : Nat) (lb : Array Value) (xs : List TK) (X : Nat → Prop) (w : World) : Prop :=
 ∀ (l : Nat) (Xc : Nat → Prop) (J Jx : List TK → Option Nat → World → Prop) (W : World), Below w.heap.size w W → (∀ k, Xc k → k < W.heap.size ∧ (X k ∨ w.heap.size ≤ k)) →
  Stab W.heap.size J → Stab W.heap.size Jx → ObIn W.heap.size J → ObIn W.heap.size Jx →
  (∀ pre ob x W1, J pre ob W1 → W.heap.size ≤ W1.heap.size → pre ++ [x] <+: xs → YieldAt Fence.wide (n - 1) Tryz.prog l #[tokV x] W1 (YieldOk Xc J Jx (pre ++ [x]) ob W1)) →
  J [] none W →
  CallsIn Fence.wide n Tryz.prog gf (#[.func (.yield l) #[] #[]] ++ lb) W fun e W' => (∃ v, e = .returned v) ∧ (∃ ob, Fr Xc none ob W W' ∧ (J xs ob W' ∨ ∃ pre, pre <+: xs ∧ Jx pre ob W'))
def roundLeftT (X : Nat → Prop) (I Ix : List TK → Option Nat → World → Prop) (xs : List TK) (ob : Option Nat) (W : World) : Exit → Act → World → Prop
 | .normal, _, W' => ∃ ob', I xs ob' W' ∧ Fr X ob ob' W W'
 | .ret, _, W' => ∃ ob', Ix xs ob' W' ∧ Fr X ob ob' W W'
 | _, _, _ => False
theorem wpIn_handsT {n : Nat} {g : Operand} {ps : Array Tmp} {assign body : Code} {Q : Exit → Act → World → Prop} {a : Act} {w : World} (h1 : 1 ≤ n) {gf : Nat} {lb : Array Value}
  (hg : a.eval g = .func (.func gf) #[] lb) (eg : ∀ args w, (callFunc gf args).run Tryz.prog w = .ok (.enter gf args) w) {xs : List TK} {X : Nat → Prop} (hx : HandsT (n - 1) gf lb xs X w) (hX : ∀ k, X k → k < w.heap.size) (hps : ps.size = 1)
  (I Ix : List TK → Option Nat → World → Prop) (sI : Stab w.heap.size I) (sX : Stab w.heap.size Ix) (oI : ObIn (w.heap.size + 2) I) (oX : ObIn (w.heap.size + 2) Ix) (h0 : I [] none w) (a₁ : TK → Nat → Act)
  (hassign : ∀ (l : Nat) (x : TK) (W : World) (K : Act → World → Prop), K (a₁ x W.heap.size) (W.alloc (.cells (tokC x) 35)) →
   assign.wpIn (Fence.wide.inRound l) (n - 1 - 1) Tryz.prog (Exit.then K (fun _ _ _ => False)) { tmps := (ps.zip #[tokV x]).foldl (fun t (p, v) => t.setIfInBounds p v) a.tmps, defers := [] } W)
  (hbody : ∀ (l : Nat) (pre : List TK) (ob : Option Nat) (x : TK) (p : Nat) (W : World), I pre ob W → pre ++ [x] <+: xs → Cells W p 35 (tokC x) → w.heap.size + 2 ≤ p → ob ≠ some p →
   body.wpIn (Fence.wide.inRound l) (n - 1 - 1) Tryz.prog (roundLeftT X I Ix (pre ++ [x]) ob W) (a₁ x p) W)
  (hdone : ∀ (D : Nat) (ob : Option Nat) (W : World), D = w.heap.size → I xs ob W → Fr X none ob w W → W.heap[D]? = some (.deferred (some [])) → Q .normal { a with defers := { target := .collected D, args := #[] } :: a.defers } W)
  (hstop : ∀ (D : Nat) (ob : Option Nat) (pre : List TK) (W : World), D = w.heap.size → pre <+: xs → Ix pre ob W → Fr X none ob w W → W.heap[D]? = some (.deferred (some [])) →
   Code.ret.wpIn Fence.wide n Tryz.prog Q { a with defers := { target := .collected D, args := #[] } :: a.defers } W) :
  (Code.rangeFunc g ps assign body).wpIn Fence.wide n Tryz.prog Q a w := by
 refine wpIn_rangeFunc fun fn hfn => ?_
 let D := w.heap.size
 let R : LoopState → Option Code → Obj := fun st pe => .loop { state := st, pending := pe, fn, tmps := a.tmps, params := ps, assign, body, defers := D }
 let W1 := (w.alloc (.deferred (some []))).alloc (R .ready none)
 have hs1 : W1.heap.size = D + 2 := by simp [W1, D]
 have hD1 : W1.heap[D]? = some (.deferred (some [])) := (Below.heap_alloc _ _ _ (by simp [D])).trans (World.alloc_heap_new w _)
 have hL1 : W1.heap[D + 1]? = some (R .ready none) := by
  have := World.alloc_heap_new (w.alloc (.deferred (some []))) (R .ready none)
  rwa [World.size_alloc] at this
 have hb1 : Below w.heap.size w W1 := (below_new w _).trans ((below_new _ _).mono (by simp))
 let Y : Nat → Prop := fun k => X k ∨ k = D + 1
 let Book : Option Code → LoopState → World → Prop := fun pe st W => W.heap[D + 1]? = some (R st pe) ∧ W.heap[D]? = some (.deferred (some []))
 have turn : ∀ (W : World) (st st' : LoopState) (pe pe' : Option Code), Book pe st W → Book pe' st' (W.putObj (D + 1) (R st' pe')) := fun W st st' pe pe' h =>
  ⟨World.putObj_heap_same (Array.getElem?_eq_some_iff.1 h.1).1, (World.putObj_heap_other (by omega)).trans h.2⟩
 have hXD : ∀ k, X k → k ≠ D ∧ k ≠ D + 1 := fun k hk => by
  have := hX k hk
  simp only [D]
  omega
 -- what a round keeps of the statement's own two blocks
 have keep : ∀ {pe : Option Code} {st : LoopState} {ob ob' : Option Nat} {W W' : World}, Book pe st W → Fr X ob ob' W W' → (∀ k, ob = some k → D + 2 ≤ k) → Book pe st W' := fun hb hf ho =>
  ⟨(hf.same _ (Array.getElem?_eq_some_iff.1 hb.1).1 (fun h => (hXD _ h).2 rfl) (fun e => by have := ho _ e; omega)).trans hb.1,
   (hf.same _ (Array.getElem?_eq_some_iff.1 hb.2).1 (fun h => (hXD _ h).1 rfl) (fun e => by have := ho _ e; omega)).trans hb.2⟩
 have sJ : ∀ {K : List TK → Option Nat → World → Prop} (pe : Option Code) (st : LoopState), Stab w.heap.size K → Stab W1.heap.size (fun pre ob W => K pre ob W ∧ Book pe st W) := fun pe st sK pre ob W W' h e1 e2 e3 e4 e5 =>
  ⟨(sK.mono (by omega)) pre ob W W' h.1 e1 e2 e3 e4 e5,
   (e5 _ (Array.getElem?_eq_some_iff.1 h.2.1).1 (.inl (by omega))).trans h.2.1, (e5 _ (Array.getElem?_eq_some_iff.1 h.2.2).1 (.inl (by omega))).trans h.2.2⟩
 have obD : ∀ {K : List TK → Option Nat → World → Prop}, ObIn (w.heap.size + 2) K → ∀ {pre ob W}, K pre ob W → ∀ k, ob = some k → D + 2 ≤ k := fun hK pre ob W h k e => by
  subst e
  exact (hK _ _ _ h).1
 refine ⟨D + 1, [{ target := .collected D, args := #[] }], W1, { target := .fn (.func gf) lb, args := #[.func (.yield (D + 1)) #[] #[]] }, W1, gf,
  #[.func (.yield (D + 1)) #[] #[]] ++ lb, W1, run_enterLoop_outer _ _ _ _ _, ?_, fun _ _ => trivial, ?_, fun _ => h1, ?_⟩
 ·simp only [resolve, hg]
  simp [go_sem]
 ·simp [invoke, go_sem, eg]
 refine (hx (D + 1) Y (fun pre ob W => I pre ob W ∧ Book none .ready W) (fun pre ob W => Ix pre ob W ∧ Book (some .ret) .done W) W1 hb1
  (fun k hk => by
   rcases hk with hk | rfl
   ·exact ⟨by have := hX k hk; omega, .inl hk⟩
   ·exact ⟨by omega, .inr (by simp only [D]; omega)⟩)
  (sJ _ _ sI) (sJ _ _ sX) (fun pre k W h => by rw [hs1]; exact oI pre k W h.1) (fun pre k W h => by rw [hs1]; exact oX pre k W h.1) ?round ⟨sI.of_below h0 hb1, hL1, hD1⟩).mono ?after
 case round =>
  rintro pre ob x W ⟨hi, hb⟩ hWs hpre
  have hy := run_yield (P := Tryz.prog) (args := #[tokV x]) hb.1 (by rw [hps]; rfl)
  have hob := obD oI hi
  -- the variable's box
  have hba := below_new W (.cells (tokC x) 35)
  have hob2 : ∀ k, ob = some k → k < W.heap.size := fun k e => by subst e; exact (oI _ _ _ hi).2
  have hbB : Book none .ready (W.alloc (.cells (tokC x) 35)) := ⟨(hba.block _ (Array.getElem?_eq_some_iff.1 hb.1).1).trans hb.1, (hba.block _ (Array.getElem?_eq_some_iff.1 hb.2).1).trans hb.2⟩
  have hiB := sI.of_below hi hba
  have cB : Cells (W.alloc (.cells (tokC x) 35)) W.heap.size 35 (tokC x) := cells_new _ _ _
  have fB : Fr Y ob ob W (W.alloc (.cells (tokC x) 35)) := Fr.of_below hba
  refine ⟨fn, _, assign, body, hy, roundIn_of_wpIn trivial (hassign _ x W _ ⟨_, run_beginRound hbB.1 rfl, ?_⟩)⟩
  generalize W.alloc (.cells (tokC x) 35) = Wb at *
  have hb2 : Book none .busy (Wb.putObj (D + 1) (R .busy none)) := turn Wb _ _ _ _ hbB
  have f2 : Fr Y ob ob Wb (Wb.putObj (D + 1) (R .busy none)) := Fr.put _ _ _ (.inr rfl)
  have hi2 : I pre ob (Wb.putObj (D + 1) (R .busy none)) := sI.put hiB _ _ (by simp only [D]; omega) (fun e => by have := hob _ e; omega)
  have c2 : Cells (Wb.putObj (D + 1) (R .busy none)) W.heap.size 35 (tokC x) := (World.putObj_heap_other (by omega)).trans cB
  refine wpIn_mono (hbody (D + 1) pre ob x W.heap.size _ hi2 hpre c2 (by omega) (fun e => by have := hob2 _ e; omega)) ?_
  rintro e a3 W3 hp
  cases e with
  | normal =>
   obtain ⟨ob', hi3, hf⟩ := hp
   have hb3 := keep hb2 hf hob
   exact ⟨_, _, run_endRound none hb3.1, .inl ⟨rfl, ob', ⟨sI.put hi3 _ _ (by simp only [D]; omega) (fun e => by have := obD oI hi3 _ e; omega), turn W3 _ _ _ _ hb3⟩,
    fB.trans (f2.trans ((hf.mono fun k hk => .inl hk).trans (Fr.put _ _ _ (.inr rfl))))⟩⟩
  | ret =>
   obtain ⟨ob', hi3, hf⟩ := hp
   have hb3 := keep hb2 hf hob
   exact ⟨_, _, run_endRound (some .ret) hb3.1, .inr ⟨rfl, ob', ⟨sX.put hi3 _ _ (by simp only [D]; omega) (fun e => by have := obD oX hi3 _ e; omega), turn W3 _ _ _ _ hb3⟩,
    fB.trans (f2.trans ((hf.mono fun k hk => .inl hk).trans (Fr.put _ _ _ (.inr rfl))))⟩⟩
  | exit id => exact hp.elim
  | goto t => exact hp.elim
  | panic ch => exact hp.elim
  | outgrown => exact hp.elim
 case after =>
  have fin : ∀ {W2 : World} {ob : Option Nat} {pe : Option Code}, Fr Y none ob W1 W2 → Fr X none ob w (W2.putObj (D + 1) (R .exhausted pe)) := fun {W2 ob pe} hf =>
   ⟨hf.os.trans hb1.os, hf.tape.trans hb1.tape, hf.output.trans hb1.output, by have := hf.size; simp [World.putObj]; simp only [D] at hs1; omega, fun k hk hx _ => by
    refine (World.putObj_heap_other (by simp only [D]; omega)).trans ((hf.same k (by simp only [D] at hs1; omega) (fun h => ?_) (by simp)).trans (hb1.block k hk))
    rcases h with h | h
    ·exact hx h
    ·simp only [D] at h; omega, by
    rcases hf.ob with e | ⟨k, e, h1, h2⟩
    ·exact .inl e
    ·exact .inr ⟨k, e, by simp only [D] at hs1; omega, by simpa [World.putObj] using h2⟩⟩
  rintro e W2 ⟨⟨v, rfl⟩, ob, hf, ⟨hi, hb⟩ | ⟨pre, hpre, hi, hb⟩⟩
  ·exact ⟨none, _, run_endLoop hb.1 (by simp), hdone D ob _ rfl (sI.put hi _ _ (by simp only [D]; omega) (fun e => by have := obD oI hi _ e; omega)) (fin hf) ((World.putObj_heap_other (by omega)).trans hb.2)⟩
  ·exact ⟨some .ret, _, run_endLoop hb.1 (by simp), hstop D ob pre _ rfl hpre (sX.put hi _ _ (by simp only [D]; omega) (fun e => by have := obD oX hi _ e; omega)) (fin hf) ((World.putObj_heap_other (by omega)).trans hb.2)⟩
end Go.Proofs.YtfafhbgkmlmmdaaGreatDoor
namespace Go.Proofs.YtfafhbgkmlmmdaaGreatDoor
open Go.RowKit Go.Shelf Go.Lib Go.Maps Go.Great
attribute [local irreducible] NR ZNR FR nmE
def markT (xs : List Nat) (k : Nat) : Option TK := match G.rdT (xs.drop k) with
 | some T => some ⟨T.kind + 2, k, k + T.size, T.name, 0, T.single⟩
 | none => if 0 < (readE xs k).2 then some ⟨1, k, k + (readE xs k).2, [], (readE xs k).1, false⟩
  else if 0 < (readT (xs.drop k)).size then some ⟨6, k, k + (readT (xs.drop k)).size, [], 0, false⟩ else none
theorem readS_le {ys : List Nat} : ∀ (L : List Sty), (readS L ys).2 ≤ ys.length
 | [] => Nat.zero_le _
 | s :: r => by
  obtain ⟨m, wh, e⟩ : ∃ m wh, followR s.beg s.may ys = (m, wh) := ⟨_, _, rfl⟩
  cases wh with
  | false => rw [readS_no (by rw [e])]; exact readS_le r
  | true => rw [readS_yes e]; exact (follow_true e).2
theorem readE_le (xs : List Nat) (k : Nat) (hk : k ≤ xs.length) : k + (readE xs k).2 ≤ xs.length := by
 unfold readE
 split
 ·omega
 ·split
  ·have := readS_le (ys := xs.drop k) styL
   rw [List.length_drop] at this
   show k + (readS styL (xs.drop (Int.toNat (k : Int)))).2 ≤ _
   rw [Int.toNat_natCast]
   omega
  ·omega
theorem mark_to {xs : List Nat} {k : Nat} {x : TK} (hk : k ≤ xs.length) (h : markT xs k = some x) : x.fr = k ∧ k < x.to ∧ x.to ≤ xs.length ∧ 1 ≤ x.kind ∧ x.kind < 7 := by
 unfold markT at h
 split at h
 ·rename_i T hT
  obtain ⟨h1, h2, h3⟩ := rdT_facts hT
  rw [List.length_drop] at h3
  cases h
  exact ⟨rfl, by show k < k + T.size; omega, by show k + T.size ≤ _; omega, by show 1 ≤ T.kind + 2; omega, by show T.kind + 2 < 7; omega⟩
 ·split at h
  ·have := readE_le xs k hk
   cases h
   exact ⟨rfl, by show k < k + _; omega, this, Nat.le_refl _, by show 1 < 7; omega⟩
  ·split at h
   ·have := (readT_size (xs.drop k)).1
    rw [List.length_drop] at this
    cases h
    exact ⟨rfl, by show k < k + _; omega, by show k + _ ≤ _; omega, by show 1 ≤ 6; omega, by show 6 < 7; omega⟩
   ·cases h
theorem BY.g {w : World} {B : Nat} {xs : List Nat} {A : Option Addr} {cap : Nat} (h : BY w B xs A cap) : G.BY w B xs A cap := ⟨h.l, h.m, h.z, h.i, h.r⟩
theorem mark_any (xs : List Nat) (A : Option Addr) (cap : Nat) (k : Nat) (w : World) (hM : G.MX w) (hT : S.Tabs w) (hx : BY w w.heap.size xs A cap) (hl : xs.length ≤ 100000) (hk : k ≤ xs.length) :
  Calls Tryz.prog 101 #[.slice A xs.length cap, .int .i64 (k : Int)] w fun e w' => e = .returned (.tuple #[tokV ((markT xs k).getD tkZ), .bool (markT xs k).isSome]) ∧ Below w.heap.size w w' := by
 have b1 := below_new w (.cells #[.int .i64 0, .int .i64 0, .int .i64 0, .string ⟨#[]⟩, .int .i32 0, .bool false] 35)
 obtain ⟨W1, hW1⟩ : ∃ W, w.alloc (.cells #[.int .i64 0, .int .i64 0, .int .i64 0, .string ⟨#[]⟩, .int .i32 0, .bool false] 35) = W := ⟨_, rfl⟩
 have x1 : Cells W1 w.heap.size 35 #[.int .i64 0, .int .i64 0, .int .i64 0, .string ⟨#[]⟩, .int .i32 0, .bool false] := by rw [← hW1]; exact cells_new _ _ _
 rw [hW1] at b1
 have C1 := G.read_any xs A cap (k : Int) W1 (hM.on hM.pos b1) ((hx.on b1).g) hl
 have hrd : G.rdAt xs (k : Int) = G.rdT (xs.drop k) := by unfold G.rdAt; rw [if_neg (by omega), Int.toNat_natCast]
 rw [hrd] at C1
 obtain ⟨O, hO⟩ : ∃ o, G.rdT (xs.drop k) = o := ⟨_, rfl⟩
 obtain ⟨MT, hMT⟩ : ∃ o, markT xs k = o := ⟨_, rfl⟩
 rw [hO] at C1
 rw [hMT]
 have hle := readE_le xs k hk
 have hrt := (readT_size (xs.drop k)).1
 have hmk := fun x => mark_to (x := x) hk
 obtain ⟨N, hN⟩ : ∃ N, xs.length = N := ⟨_, rfl⟩
 rw [List.length_drop, hN] at hrt
 rw [hN] at C1 hl hk hle hmk ⊢
 have HH := Lib.hid (And.intro C1 (And.intro b1 (And.intro x1 (And.intro hM (And.intro hT (And.intro hx (And.intro hO (And.intro hMT (And.intro hN (And.intro hle (And.intro hrt hmk)))))))))))
 clear C1 b1 x1 hM hT hx hO hMT hN hle hrt hmk hrd
 go_enter Tryz.func101, Tryz.ntmps101
 go_wp2_with fail
 refine HH.out.1.mono ?_
 rintro e w2 ⟨v, rfl, hown, hb2⟩
 obtain ⟨A9, n9, c9, rfl⟩ := hown.slice
 have bw2 := HH.out.2.1.trans (hb2.mono HH.out.2.1.size)
 have x2 := HH.out.2.2.1.on hb2
 clear hown hb2 hW1
 cases O with
 | some T =>
  obtain ⟨f1, f2, f3⟩ := rdT_facts HH.out.2.2.2.2.2.2.1
  rw [List.length_drop, HH.out.2.2.2.2.2.2.2.2.1] at f3
  have hmt : MT = some ⟨T.kind + 2, k, k + T.size, T.name, 0, T.single⟩ := by
   rw [← HH.out.2.2.2.2.2.2.2.1, markT, HH.out.2.2.2.2.2.2.1]
  simp only [Option.getD_some, Option.isSome_some]
  unfold G.tagV
  obtain ⟨kd, hkd⟩ : ∃ n, T.kind = n := ⟨_, rfl⟩
  obtain ⟨sz, hsz⟩ : ∃ n, T.size = n := ⟨_, rfl⟩
  obtain ⟨sg, hsg⟩ : ∃ n, T.single = n := ⟨_, rfl⟩
  obtain ⟨cl, hcl⟩ : ∃ n, T.closed = n := ⟨_, rfl⟩
  obtain ⟨nm, hnm⟩ : ∃ n, T.name = n := ⟨_, rfl⟩
  rw [hkd] at f1
  rw [hsz] at f3
  rw [hkd, hsz, hnm, hsg] at hmt
  rw [hkd, hsz, hsg, hcl, hnm]
  unfold G.strV
  obtain ⟨SN, hSN⟩ : ∃ Sx : ByteArray, ⟨(G.u8s nm).toArray⟩ = Sx := ⟨_, rfl⟩
  rw [hSN]
  have KT := fun W => ofTag_any kd f1 W
  have HM := Lib.hid (And.intro hmt (And.intro hSN KT))
  clear hmt hSN KT hkd hsz hsg hcl hnm
  have HB := Lib.hid (And.intro bw2 x2)
  clear bw2 x2
  go_upto_region 3 with fail
  generalize hW3 : w2.alloc (.cells #[.int .i64 (kd : Int), .int .i64 (sz : Int), .string SN, .slice A9 n9 c9, .bool sg, .bool cl] 142) = W3
  have b3 : Below w2.heap.size w2 W3 := by rw [← hW3]; exact below_new _ _
  have x3 : Cells W3 w2.heap.size 142 #[.int .i64 (kd : Int), .int .i64 (sz : Int), .string SN, .slice A9 n9 c9, .bool sg, .bool cl] := by rw [← hW3]; exact cells_new _ _ _
  have t3 := HB.out.2.on b3
  have bw3 := HB.out.1.trans (b3.mono HB.out.1.size)
  have p0 := x3.cell 0
  have p1 := x3.cell 1
  have p2 := x3.cell 2
  have p4 := x3.cell 4
  have q0 := t3.cell 0
  have q1 := t3.cell 1
  have q2 := t3.cell 2
  have q3 := t3.cell 3
  have q4 := t3.cell 4
  have q5 := t3.cell 5
  have g0 := t3.froz 0
  have g1 := t3.froz 1
  have g2 := t3.froz 2
  have g3 := t3.froz 3
  have g4 := t3.froz 4
  have g5 := t3.froz 5
  simp at p0 p1 p2 p4 q0 q1 q2 q3 q4 q5
  have H3 := Lib.hid (And.intro bw3 t3)
  have HW3 := Lib.hid hW3
  clear b3 x3 t3 bw3 hW3
  have hkm : (k : Int) + (sz : Int) ≤ 200000 := by omega
  have hk0 : 0 ≤ (k : Int) := by omega
  have hs0 : 0 ≤ (sz : Int) := by omega
  refine wp_region_still_tail 13 (by kernel_rfl) (by kernel_rfl) ?_
  simp only [List.take_succ_cons, List.take_zero, List.drop_succ_cons, List.drop_zero]
  repeat still_step
  still_call (HM.out.2.2 W3.drew)
  repeat still_step
  refine wpStill_nil ?_
  change wpList _ _ _ _ _ W3.drew
  go_wp2_with fail
  refine bodyPost_ret (v := .tuple #[tokV (MT.getD tkZ), .bool MT.isSome]) ?_ rfl ⟨rfl, ?_⟩
  ·rw [HM.out.1, ← HM.out.2.1]
   simp [results, Tryz.results101, go_sem, q0, q1, q2, q3, q4, q5, tokV, tokC]
  ·exact ((((((H3.out.1.setc (Nat.le_refl _) 0 _).setc (Nat.le_refl _) 1 _).setc (Nat.le_refl _) 2 _).setc (Nat.le_refl _) 3 _).setc (Nat.le_refl _) 4 _).setc (Nat.le_refl _) 5 _).drew
 | none =>
  simp only [Option.getD_none, Option.isSome_none]
  unfold G.tg0 G.tagV G.strV
  have C2 := fun W (hb : Below w.heap.size w W) => readE_any W (HH.out.2.2.2.2.1.below hb (by have := HH.out.2.2.2.2.1.2; omega)) xs A cap (HH.out.2.2.2.2.2.1.on hb) (k : Int) (by omega) (by omega)
  have C3 := fun W (hb : Below w.heap.size w W) => read_any xs A cap (k : Int) W (HH.out.2.2.2.2.2.1.on hb)
  rw [HH.out.2.2.2.2.2.2.2.2.1] at C2 C3
  have hra : readAt xs (k : Int) = readT (xs.drop k) := by unfold readAt; rw [if_neg (by omega), Int.toNat_natCast]
  rw [hra] at C3
  have hmt : MT = if 0 < (readE xs k).2 then some ⟨1, k, k + (readE xs k).2, [], (readE xs k).1, false⟩ else if 0 < (readT (xs.drop k)).size then some ⟨6, k, k + (readT (xs.drop k)).size, [], 0, false⟩ else none := by
   rw [← HH.out.2.2.2.2.2.2.2.1, markT, HH.out.2.2.2.2.2.2.1]
  have h1 := HH.out.2.2.2.2.2.2.2.2.2.1
  have h2 := HH.out.2.2.2.2.2.2.2.2.2.2.1
  obtain ⟨RE, hRE⟩ : ∃ v, readE xs k = v := ⟨_, rfl⟩
  obtain ⟨ES, hES⟩ : ∃ v, readT (xs.drop k) = v := ⟨_, rfl⟩
  rw [hRE] at C2 hmt h1
  rw [hES] at C3 hmt h2
  obtain ⟨r1, n1⟩ := RE
  obtain ⟨s1, wh1, op1, la1⟩ := ES
  unfold escV at C3
  dsimp only at C2 C3 hmt h1 h2
  have HC := Lib.hid (And.intro C2 (And.intro C3 hmt))
  clear C2 C3 hmt hra hRE hES
  have HB := Lib.hid (And.intro bw2 x2)
  clear bw2 x2
  go_upto_region 4 with fail
  generalize hW3 : w2.alloc (.cells _ 142) = W3
  have b3 : Below w2.heap.size w2 W3 := by rw [← hW3]; exact below_new _ _
  have bw3 := HB.out.1.trans (b3.mono HB.out.1.size)
  have H3 := Lib.hid (And.intro bw3 (HB.out.2.on b3))
  have C2 := HC.out.1 W3 bw3
  clear hW3 b3 bw3
  go_wp2_with fail
  refine C2.mono ?_
  rintro e w4 ⟨rfl, hb4⟩
  have bw4 := H3.out.1.trans (hb4.mono H3.out.1.size)
  have x4 := H3.out.2.on hb4
  have H4 := Lib.hid (And.intro bw4 x4)
  clear hb4 C2
  by_cases hn : 0 < n1
  ·have i1 : (0 : Int) < (n1 : Int) := by omega
   have i2 : (k : Int) + (n1 : Int) ≤ 200000 := by omega
   have hmt := HC.out.2.2
   rw [if_pos hn] at hmt
   have HM := Lib.hid hmt
   have q0 := x4.cell 0
   have q1 := x4.cell 1
   have q2 := x4.cell 2
   have q3 := x4.cell 3
   have q4 := x4.cell 4
   have q5 := x4.cell 5
   have g0 := x4.froz 0
   have g1 := x4.froz 1
   have g2 := x4.froz 2
   have g3 := x4.froz 3
   have g4 := x4.froz 4
   have g5 := x4.froz 5
   simp at q0 q1 q2 q3 q4 q5
   clear bw4 x4 hmt hn
   go_wp2_with fail
   refine bodyPost_ret (v := .tuple #[tokV (MT.getD tkZ), .bool MT.isSome]) ?_ rfl ⟨rfl, ?_⟩
   ·rw [HM.out]
    simp [results, Tryz.results101, go_sem, q0, q1, q2, q3, q4, q5, tokV, tokC, G.u8s]
   ·exact (((((H4.out.1.setc (Nat.le_refl _) 0 _).setc (Nat.le_refl _) 1 _).setc (Nat.le_refl _) 2 _).setc (Nat.le_refl _) 3 _).setc (Nat.le_refl _) 4 _).setc (Nat.le_refl _) 5 _
  ·have i1 : ¬ (0 : Int) < (n1 : Int) := by omega
   have hmt := HC.out.2.2
   rw [if_neg hn] at hmt
   have C3 := HC.out.2.1 w4 bw4
   clear bw4 x4 hn
   go_wp2_with fail
   refine C3.mono ?_
   rintro e w5 ⟨rfl, hb5⟩
   have bw5 := H4.out.1.trans (hb5.mono H4.out.1.size)
   have x5 := H4.out.2.on hb5
   clear hb5 C3
   have H5 := Lib.hid (And.intro bw5 x5)
   clear bw5 x5
   go_upto_region 8 with fail
   generalize hW6 : w5.alloc (.cells #[.int .i64 (s1 : Int), .bool wh1, .bool op1, .int .u8 (la1 : Int)] 134) = W6
   have b6 : Below w5.heap.size w5 W6 := by rw [← hW6]; exact below_new _ _
   have e6 : Cells W6 w5.heap.size 134 #[.int .i64 (s1 : Int), .bool wh1, .bool op1, .int .u8 (la1 : Int)] := by rw [← hW6]; exact cells_new _ _ _
   have x6 := H5.out.2.on b6
   have H6 := Lib.hid (H5.out.1.trans (b6.mono H5.out.1.size))
   have p0 := e6.cell 0
   have q0 := x6.cell 0
   have q1 := x6.cell 1
   have q2 := x6.cell 2
   have q3 := x6.cell 3
   have q4 := x6.cell 4
   have q5 := x6.cell 5
   have g0 := x6.froz 0
   have g1 := x6.froz 1
   have g2 := x6.froz 2
   have g3 := x6.froz 3
   have g4 := x6.froz 4
   have g5 := x6.froz 5
   simp at q0 q1 q2 q3 q4 q5 p0
   clear b6 e6 x6 hW6
   by_cases hs : 0 < s1
   ·have i3 : (0 : Int) < (s1 : Int) := by omega
    have i4 : (k : Int) + (s1 : Int) ≤ 200000 := by omega
    rw [if_pos hs] at hmt
    have HM := Lib.hid hmt
    clear hmt hs
    go_wp2_with fail
    refine bodyPost_ret (v := .tuple #[tokV (MT.getD tkZ), .bool MT.isSome]) ?_ rfl ⟨rfl, ?_⟩
    ·rw [HM.out]
     simp [results, Tryz.results101, go_sem, q0, q1, q2, q3, q4, q5, tokV, tokC, G.u8s]
    ·exact (((((H6.out.setc (Nat.le_refl _) 0 _).setc (Nat.le_refl _) 1 _).setc (Nat.le_refl _) 2 _).setc (Nat.le_refl _) 3 _).setc (Nat.le_refl _) 4 _).setc (Nat.le_refl _) 5 _
   ·have i3 : ¬ (0 : Int) < (s1 : Int) := by omega
    rw [if_neg hs] at hmt
    have HM := Lib.hid hmt
    clear hmt hs
    go_wp2_with fail
    refine bodyPost_ret (v := .tuple #[tokV (MT.getD tkZ), .bool MT.isSome]) ?_ rfl ⟨rfl, ?_⟩
    ·rw [HM.out]
     simp [results, Tryz.results101, go_sem, q0, q1, q2, q3, q4, q5, tokV, tokC, tkZ, G.u8s]
    ·exact (((((H6.out.setc (Nat.le_refl _) 0 _).setc (Nat.le_refl _) 1 _).setc (Nat.le_refl _) 2 _).setc (Nat.le_refl _) 3 _).setc (Nat.le_refl _) 4 _).setc (Nat.le_refl _) 5 _
def endR (xs nm : List Nat) : Bool := match G.rdT (xs.take (nm.length + 3)) with
 | some T => decide (T.kind = 1) && (G.u8s T.name == G.u8s nm)
 | none => false
theorem endsRaw_any (xs : List Nat) (a : Addr) (cap : Nat) (nm : List Nat) (w : World) (hM : G.MX w) (hx : BY w w.heap.size xs (some a) cap) (hl : xs.length ≤ 100000) (hnm : nm.length ≤ 1000) (h0 : 0 < xs.length) :
  Calls Tryz.prog 134 #[.slice (some a) xs.length cap, .string ⟨(G.u8s nm).toArray⟩] w fun e w' => e = .returned (.bool (endR xs nm)) ∧ Below w.heap.size w w' := by
 have hcap := hx.l
 have hmx := hx.m
 unfold maxLen at hmx
 have hsz : (⟨(G.u8s nm).toArray⟩ : ByteArray).size = nm.length := by simp [ByteArray.size, G.u8s_len]
 obtain ⟨m, hm⟩ : ∃ m, min (nm.length + 3) xs.length = m := ⟨_, rfl⟩
 have htk : xs.take (nm.length + 3) = xs.take m := by
  rw [← hm]
  by_cases h : nm.length + 3 ≤ xs.length
  ·rw [Nat.min_eq_left h]
  ·rw [Nat.min_eq_right (by omega), List.take_length, List.take_of_length_le (by omega)]
 have hml : (xs.take m).length = m := by rw [List.length_take]; omega
 have C := G.read_any (xs.take m) (some a) cap 0 w hM ((hx.take m).g) (by omega)
 rw [hml] at C
 have hrd : G.rdAt (xs.take m) 0 = G.rdT (xs.take m) := rfl
 rw [hrd] at C
 obtain ⟨O, hO⟩ : ∃ o, G.rdT (xs.take m) = o := ⟨_, rfl⟩
 rw [hO] at C
 obtain ⟨ER, hER⟩ : ∃ b, endR xs nm = b := ⟨_, rfl⟩
 have hE := hER
 unfold endR at hE
 rw [htk, hO] at hE
 rw [hER]
 obtain ⟨SN, hSN⟩ : ∃ Sx : ByteArray, ⟨(G.u8s nm).toArray⟩ = Sx := ⟨_, rfl⟩
 rw [hSN] at hsz ⊢
 obtain ⟨N, hN⟩ : ∃ N, xs.length = N := ⟨_, rfl⟩
 obtain ⟨K, hK⟩ : ∃ K, nm.length = K := ⟨_, rfl⟩
 rw [hN] at hm hl hcap h0 ⊢
 rw [hK] at hm hsz hnm
 have i1 : (m : Int) = min ((K : Int) + 3) (N : Int) := by omega
 have i2 : 2 + (K : Int) + 1 = (K : Int) + 3 := by omega
 have hmc : m ≤ cap := by omega
 have hm0 : 0 < cap := by omega
 have HH := Lib.hid (And.intro C (And.intro hE hSN))
 clear C hE hSN hER htk hrd hO hml hx hM
 go_enter Tryz.func134, Tryz.ntmps134
 go_upto_region 2 with fail
 have i3 : (min ((K : Int) + 3) (N : Int)).toNat = m := by omega
 go_wp2_with fail
 refine HH.out.1.mono ?_
 rintro e w2 ⟨v, rfl, hown, hb2⟩
 obtain ⟨A9, n9, c9, rfl⟩ := hown.slice
 have HB := Lib.hid hb2
 clear hown hb2
 have hE := HH.out.2.1
 have b3 := below_new w2 (.cells #[.int .i64 (((O.getD G.tg0).kind : Nat) : Int), .int .i64 (((O.getD G.tg0).size : Nat) : Int), .string ⟨(G.u8s (O.getD G.tg0).name).toArray⟩, .slice A9 n9 c9, .bool (O.getD G.tg0).single, .bool (O.getD G.tg0).closed] 142)
 have x3 := cells_new w2 #[.int .i64 (((O.getD G.tg0).kind : Nat) : Int), .int .i64 (((O.getD G.tg0).size : Nat) : Int), .string ⟨(G.u8s (O.getD G.tg0).name).toArray⟩, .slice A9 n9 c9, .bool (O.getD G.tg0).single, .bool (O.getD G.tg0).closed] 142
 unfold G.tagV G.strV
 obtain ⟨T, hT⟩ : ∃ t, O.getD G.tg0 = t := ⟨_, rfl⟩
 obtain ⟨ok, hok⟩ : ∃ t, O.isSome = t := ⟨_, rfl⟩
 rw [hT] at b3 x3 ⊢
 rw [hok]
 have hE2 : (ok && (decide (T.kind = 1) && (G.u8s T.name == G.u8s nm))) = ER := by
  rw [← hE, ← hok, ← hT]
  cases O with
  | none => rfl
  | some t => rfl
 obtain ⟨BQ, hBQ⟩ : ∃ b, (G.u8s T.name == G.u8s nm) = b := ⟨_, rfl⟩
 rw [hBQ] at hE2
 obtain ⟨ST, hST⟩ : ∃ Sx : ByteArray, ⟨(G.u8s T.name).toArray⟩ = Sx := ⟨_, rfl⟩
 rw [hST] at b3 x3 ⊢
 have hq : (ST.toList == SN.toList) = BQ := by
  rw [← hST, ← HH.out.2.2]
  have e1 : (⟨(G.u8s T.name).toArray⟩ : ByteArray).toList = G.u8s T.name := by simp
  have e2 : (⟨(G.u8s nm).toArray⟩ : ByteArray).toList = G.u8s nm := by simp
  rw [e1, e2]
  exact hBQ
 obtain ⟨kd, hkd⟩ : ∃ n, T.kind = n := ⟨_, rfl⟩
 rw [hkd] at b3 x3 hE2 ⊢
 generalize (T.size : Int) = sz at *
 generalize T.single = sg at *
 generalize T.closed = cl at *
 have HX := Lib.hid (And.intro (HB.out.trans (b3.mono HB.out.size)) (And.intro x3 hE2))
 clear b3 x3 hE2 hBQ hST hkd hT hok hE
 go_upto_region 3 with fail
 have p0 := HX.out.2.1.cell 0
 have p2 := HX.out.2.1.cell 2
 have hlt := HX.out.2.1.lt
 simp at p0 p2 hlt
 cases ok with
 | false =>
  go_wp2_with fail
  go_ret
  exact ⟨by rw [← HX.out.2.2]; first | rfl | simp, HX.out.1⟩
 | true =>
  by_cases h1 : kd = 1
  ·have d1 : ((kd : Int) == 1) = true := by simp; omega
   have e3 : decide (kd = 1) = true := by simpa using h1
   have HE := Lib.hid e3
   clear h1 e3
   go_wp2_with fail
   go_ret
   exact ⟨by rw [← HX.out.2.2, HE.out]; first | rfl | simp, HX.out.1⟩
  ·have d1 : ((kd : Int) == 1) = false := by simp; omega
   have e3 : decide (kd = 1) = false := by simpa using h1
   have HE := Lib.hid e3
   clear h1 e3
   go_wp2_with fail
   go_ret
   exact ⟨by rw [← HX.out.2.2, HE.out]; first | rfl | simp, HX.out.1⟩
end Go.Proofs.YtfafhbgkmlmmdaaGreatDoor
namespace Go.Proofs.YtfafhbgkmlmmdaaGreatDoor
open Go.RowKit Go.Shelf Go.Lib Go.Maps Go.Great
open Go.Sort (grow)
attribute [local irreducible] NR ZNR FR nmE
def scriptU : List UInt8 := [115, 99, 114, 105, 112, 116]
def styleU : List UInt8 := [115, 116, 121, 108, 101]
def isRaw (x : TK) : Bool := decide (x.kind = 2) && !x.sg && (G.u8s x.name == scriptU || G.u8s x.name == styleU)
def scanR (nm : List Nat) : List Nat → Nat → Nat
 | [], k => k
 | c :: r, k => if endR (c :: r) nm then k else scanR nm r (k + 1)
def rawT (xs : List Nat) (x : TK) : Nat := if isRaw x then scanR x.name (xs.drop x.to) x.to else x.to
theorem scanR_le (nm : List Nat) : ∀ (l : List Nat) (k : Nat), k ≤ scanR nm l k ∧ scanR nm l k ≤ k + l.length
 | [], k => by simp [scanR]
 | c :: r, k => by
  have ih := scanR_le nm r (k + 1)
  rw [scanR]
  split
  ·simp
  ·simp only [List.length_cons]
   omega
theorem rawT_le {xs : List Nat} {x : TK} (h : x.to ≤ xs.length) : x.to ≤ rawT xs x ∧ rawT xs x ≤ xs.length := by
 unfold rawT
 split
 ·have := scanR_le x.name (xs.drop x.to) x.to
  rw [List.length_drop] at this
  omega
 ·omega
theorem scanR_at {nm xs : List Nat} {k : Nat} (h : k < xs.length) : scanR nm (xs.drop k) k = if endR (xs.drop k) nm then k else scanR nm (xs.drop (k + 1)) (k + 1) := by
 rw [List.drop_eq_getElem_cons h, scanR]
theorem not_raw {x : TK} (h : isRaw x = false) (xs : List Nat) : rawT xs x = x.to := by unfold rawT; rw [if_neg (by rw [h]; simp)]
theorem rawEnd_any (xs : List Nat) (b o cap : Nat) (x : TK) (w : World) (hM : G.MX w) (hx : BY w w.heap.size xs (some ⟨b, o, none⟩) cap) (hl : xs.length ≤ 100000) (h0 : 0 < xs.length) (ht : x.to ≤ xs.length) :
  Calls Tryz.prog 102 #[.slice (some ⟨b, o, none⟩) xs.length cap, tokV x] w fun e w' => e = .returned (.int .i64 ((rawT xs x : Nat) : Int)) ∧ Below w.heap.size w w' := by
 obtain ⟨RT, hRT⟩ : ∃ n, rawT xs x = n := ⟨_, rfl⟩
 rw [hRT]
 obtain ⟨SN, hSN⟩ : ∃ Sx : ByteArray, ⟨(G.u8s x.name).toArray⟩ = Sx := ⟨_, rfl⟩
 have hSl : SN.toList = G.u8s x.name := by rw [← hSN]; simp
 obtain ⟨W1, hW1⟩ : ∃ W, w.alloc (.cells (tokC x) 35) = W := ⟨_, rfl⟩
 have b1 : Below w.heap.size w W1 := by rw [← hW1]; exact below_new _ _
 have x1 : Cells W1 w.heap.size 35 (tokC x) := by rw [← hW1]; exact cells_new _ _ _
 have hcap := hx.l
 have hmx := hx.m
 unfold maxLen at hmx
 obtain ⟨N, hN⟩ : ∃ N, xs.length = N := ⟨_, rfl⟩
 rw [hN] at hl h0 ht hcap ⊢
 have hR := hRT
 unfold rawT at hR
 have HH := Lib.hid (And.intro b1 (And.intro x1 (And.intro (hM.on hM.pos b1) (And.intro (hx.on b1) (And.intro hR (And.intro hSN (And.intro hN hSl)))))))
 have hraw : isRaw x = (decide (x.kind = 2) && !x.sg && (SN.toList == scriptU || SN.toList == styleU)) := by rw [hSl]; rfl
 unfold tokV tokC
 unfold tokC at hW1 x1
 rw [hSN] at hW1 x1 ⊢
 have p0 := x1.cell 0
 have p2 := x1.cell 2
 have p3 := x1.cell 3
 have p5 := x1.cell 5
 simp at p0 p2 p3 p5
 clear hR b1 hSl hSN hM hx hRT
 obtain ⟨kd, hkd⟩ : ∃ n, x.kind = n := ⟨_, rfl⟩
 obtain ⟨sg, hsg⟩ : ∃ n, x.sg = n := ⟨_, rfl⟩
 obtain ⟨fr, hfr⟩ : ∃ n, x.fr = n := ⟨_, rfl⟩
 obtain ⟨te, hto⟩ : ∃ n, x.to = n := ⟨_, rfl⟩
 obtain ⟨rr, hrr⟩ : ∃ n, x.r = n := ⟨_, rfl⟩
 rw [hkd, hsg] at hraw
 rw [hkd, hfr, hto, hrr, hsg] at hW1 x1 ⊢
 rw [hkd] at p0
 rw [hto] at p2 ht
 rw [hsg] at p5
 obtain ⟨c1, hc1⟩ : ∃ b, (SN.toList == scriptU) = b := ⟨_, rfl⟩
 obtain ⟨c2, hc2⟩ : ∃ b, (SN.toList == styleU) = b := ⟨_, rfl⟩
 rw [hc1, hc2] at hraw
 have n1 : (SN.toList == [115, 99, 114, 105, 112, 116]) = c1 := hc1
 have n2 : (SN.toList == [115, 116, 121, 108, 101]) = c2 := hc2
 have HX := Lib.hid (And.intro hto (And.intro hraw x1))
 clear hkd hsg hfr hto hrr hraw hc1 hc2 x1
 by_cases hk : kd = 2
 case neg =>
  have d0 : ((kd : Int) != 2) = true := by simp; omega
  have he : RT = te := by
   have := HH.out.2.2.2.2.1
   rw [if_neg (by rw [HX.out.2.1]; simp [hk])] at this
   rw [← this, HX.out.1]
  have HE := Lib.hid he
  clear he hk
  go_enter Tryz.func102, Tryz.ntmps102
  go_wp2_with fail
  go_ret
  exact ⟨by rw [HE.out]; rfl, HH.out.1⟩
 have d0 : ((kd : Int) != 2) = false := by simp; omega
 cases sg with
 | true =>
  have he : RT = te := by
   have := HH.out.2.2.2.2.1
   rw [if_neg (by rw [HX.out.2.1]; simp)] at this
   rw [← this, HX.out.1]
  have HE := Lib.hid he
  clear he hk
  go_enter Tryz.func102, Tryz.ntmps102
  go_wp2_with fail
  go_ret
  exact ⟨by rw [HE.out]; rfl, HH.out.1⟩
 | false =>
  by_cases hc : c1 = false ∧ c2 = false
  case pos =>
   obtain ⟨rfl, rfl⟩ := hc
   have he : RT = te := by
    have := HH.out.2.2.2.2.1
    rw [if_neg (by rw [HX.out.2.1]; simp)] at this
    rw [← this, HX.out.1]
   have HE := Lib.hid he
   clear he hk
   go_enter Tryz.func102, Tryz.ntmps102
   go_wp2_with fail
   go_ret
   exact ⟨by rw [HE.out]; rfl, HH.out.1⟩
  case neg =>
   have hir : isRaw x = true := by
    rw [HX.out.2.1, hk]
    cases c1 <;> cases c2 <;> simp at hc ⊢
   have he : scanR x.name (xs.drop te) te = RT := by
    have := HH.out.2.2.2.2.1
    rw [if_pos hir, HX.out.1] at this
    exact this
   have hnl : x.name.length ≤ 6 := by
    unfold isRaw at hir
    simp only [Bool.and_eq_true, Bool.or_eq_true, beq_iff_eq] at hir
    rcases hir.2 with h | h
    ·have := congrArg List.length h
     rw [G.u8s_len] at this
     rw [this]
     decide
    ·have := congrArg List.length h
     rw [G.u8s_len] at this
     rw [this]
     decide
   have HE := Lib.hid (And.intro he hnl)
   clear he hnl hir hk
   have hj : ¬ (c1 = true ∧ c2 = true) := by
    rintro ⟨rfl, rfl⟩
    have e1 := eq_of_beq n1
    have e2 := eq_of_beq n2
    rw [e1] at e2
    exact absurd e2 (by decide)
   go_enter Tryz.func102, Tryz.ntmps102
   cases c1 <;> cases c2
   case false.false => exact absurd ⟨rfl, rfl⟩ hc
   case true.true => exact absurd ⟨rfl, rfl⟩ hj
   all_goals
    clear hc hj
   case false.true =>
    go_wp2_with fail
    clear p0 p2 p3 p5
    go_loopw [5] (fun i wr => ∃ k : Nat, i = .int .i64 (k : Int) ∧ k ≤ N ∧ scanR x.name (xs.drop k) k = RT ∧ Below W1.heap.size W1 wr) (fun i _ => N - (RowKit.intOf i).toNat)
    case atStart => exact ⟨te, rfl, ht, HE.out.1, Below.refl _ _⟩
    case round =>
     obtain ⟨k, rfl, hkN, hs, hb⟩ := hrel
     have bw := HH.out.1.trans (hb.mono HH.out.1.size)
     have xw := HX.out.2.2.on hb
     have p3 := xw.cell 3
     simp at p3
     have r3 := cell_regrown p3
     by_cases hlt : k < N
     case neg =>
      obtain rfl : k = N := by omega
      have he : RT = k := by
       rw [List.drop_of_length_le (by rw [HH.out.2.2.2.2.2.2.1]; exact Nat.le_refl _)] at hs
       exact hs.symm
      have HB := Lib.hid (And.intro he bw)
      clear he bw hs hb xw r3 p3
      go_wp2_with go_quiet (fail)
      go_ret
      exact ⟨by rw [HB.out.1]; rfl, below_drewN HB.out.2 _⟩
     case pos =>
      have hN := HH.out.2.2.2.2.2.2.1
      have i1 : (k : Int) < (N : Int) := by omega
      have hsl := slice_from b o N cap k hlt hcap
      rw [scanR_at (by rw [hN]; exact hlt)] at hs
      have hdl : (xs.drop k).length = N - k := by rw [List.length_drop, hN]
      have D : ∀ d os, Calls Tryz.prog 134 #[.slice (some ⟨b, o + k, none⟩) (N - k) (cap - k), .string SN] (grow (redrawn wr d) os) fun e w'' => e = .returned (.bool (endR (xs.drop k) x.name)) ∧ ∃ p : Regrown, w'' = grow (redrawn wr p.d) p.os := fun d os => by
       have bd := hb.trans ((below_regrown wr d os).mono hb.size)
       have := endsRaw_any (xs.drop k) ⟨b, o + k, none⟩ (cap - k) x.name (grow (redrawn wr d) os) (HH.out.2.2.1.on HH.out.2.2.1.pos bd) ((HH.out.2.2.2.1.on bd).drop (by rw [hN]; exact hlt)) (by omega) (by have := HE.out.2; omega) (by omega)
       rw [hdl, HH.out.2.2.2.2.2.1] at this
       exact Calls.regrown_of this
      have HB := Lib.hid (And.intro bw hb)
      clear bw hb xw p3 hdl hN
      cases he : endR (xs.drop k) x.name with
      | true =>
       rw [he] at D hs
       have HS := Lib.hid hs
       clear hs he
       go_wp2_with fail
       refine wp_region_quiet_below (by kernel_rfl) (by kernel_rfl) ?_
       repeat (go_big_quiet_step (with_reducible exact D _ _))
       refine wpQuiet_nil ?_
       intro _ hw'
       obtain ⟨⟨dq, osq⟩, hw''⟩ := hw'
       subst hw''
       have HB2 := Lib.hid (HB.out.1.trans ((below_regrown wr dq osq).mono HB.out.1.size))
       clear D r3
       go_wp2_with fail
       go_ret
       exact ⟨by rw [← HS.out]; rfl, HB2.out⟩
      | false =>
       rw [he] at D hs
       have HS := Lib.hid hs
       clear hs he
       go_wp2_with fail
       refine wp_region_quiet_below (by kernel_rfl) (by kernel_rfl) ?_
       repeat (go_big_quiet_step (with_reducible exact D _ _))
       refine wpQuiet_nil ?_
       intro _ hw'
       obtain ⟨⟨dq, osq⟩, hw''⟩ := hw'
       subst hw''
       have HB2 := Lib.hid (HB.out.2.trans ((below_regrown wr dq osq).mono HB.out.2.size))
       clear D r3
       go_wp2_with fail
       go_roundw
       case rel => exact ⟨k + 1, by go_num, by omega, HS.out, HB2.out⟩
       case measure => simp [RowKit.intOf]; omega
   case true.false =>
    go_wp2_with fail
    clear p0 p2 p3 p5
    go_loopw [5] (fun i wr => ∃ k : Nat, i = .int .i64 (k : Int) ∧ k ≤ N ∧ scanR x.name (xs.drop k) k = RT ∧ Below W1.heap.size W1 wr) (fun i _ => N - (RowKit.intOf i).toNat)
    case atStart => exact ⟨te, rfl, ht, HE.out.1, Below.refl _ _⟩
    case round =>
     obtain ⟨k, rfl, hkN, hs, hb⟩ := hrel
     have bw := HH.out.1.trans (hb.mono HH.out.1.size)
     have xw := HX.out.2.2.on hb
     have p3 := xw.cell 3
     simp at p3
     have r3 := cell_regrown p3
     by_cases hlt : k < N
     case neg =>
      obtain rfl : k = N := by omega
      have he : RT = k := by
       rw [List.drop_of_length_le (by rw [HH.out.2.2.2.2.2.2.1]; exact Nat.le_refl _)] at hs
       exact hs.symm
      have HB := Lib.hid (And.intro he bw)
      clear he bw hs hb xw r3 p3
      go_wp2_with go_quiet (fail)
      go_ret
      exact ⟨by rw [HB.out.1]; rfl, below_drewN HB.out.2 _⟩
     case pos =>
      have hN := HH.out.2.2.2.2.2.2.1
      have i1 : (k : Int) < (N : Int) := by omega
      have hsl := slice_from b o N cap k hlt hcap
      rw [scanR_at (by rw [hN]; exact hlt)] at hs
      have hdl : (xs.drop k).length = N - k := by rw [List.length_drop, hN]
      have D : ∀ d os, Calls Tryz.prog 134 #[.slice (some ⟨b, o + k, none⟩) (N - k) (cap - k), .string SN] (grow (redrawn wr d) os) fun e w'' => e = .returned (.bool (endR (xs.drop k) x.name)) ∧ ∃ p : Regrown, w'' = grow (redrawn wr p.d) p.os := fun d os => by
       have bd := hb.trans ((below_regrown wr d os).mono hb.size)
       have := endsRaw_any (xs.drop k) ⟨b, o + k, none⟩ (cap - k) x.name (grow (redrawn wr d) os) (HH.out.2.2.1.on HH.out.2.2.1.pos bd) ((HH.out.2.2.2.1.on bd).drop (by rw [hN]; exact hlt)) (by omega) (by have := HE.out.2; omega) (by omega)
       rw [hdl, HH.out.2.2.2.2.2.1] at this
       exact Calls.regrown_of this
      have HB := Lib.hid (And.intro bw hb)
      clear bw hb xw p3 hdl hN
      cases he : endR (xs.drop k) x.name with
      | true =>
       rw [he] at D hs
       have HS := Lib.hid hs
       clear hs he
       go_wp2_with fail
       refine wp_region_quiet_below (by kernel_rfl) (by kernel_rfl) ?_
       repeat (go_big_quiet_step (with_reducible exact D _ _))
       refine wpQuiet_nil ?_
       intro _ hw'
       obtain ⟨⟨dq, osq⟩, hw''⟩ := hw'
       subst hw''
       have HB2 := Lib.hid (HB.out.1.trans ((below_regrown wr dq osq).mono HB.out.1.size))
       clear D r3
       go_wp2_with fail
       go_ret
       exact ⟨by rw [← HS.out]; rfl, HB2.out⟩
      | false =>
       rw [he] at D hs
       have HS := Lib.hid hs
       clear hs he
       go_wp2_with fail
       refine wp_region_quiet_below (by kernel_rfl) (by kernel_rfl) ?_
       repeat (go_big_quiet_step (with_reducible exact D _ _))
       refine wpQuiet_nil ?_
       intro _ hw'
       obtain ⟨⟨dq, osq⟩, hw''⟩ := hw'
       subst hw''
       have HB2 := Lib.hid (HB.out.2.trans ((below_regrown wr dq osq).mono HB.out.2.size))
       clear D r3
       go_wp2_with fail
       go_roundw
       case rel => exact ⟨k + 1, by go_num, by omega, HS.out, HB2.out⟩
       case measure => simp [RowKit.intOf]; omega
end Go.Proofs.YtfafhbgkmlmmdaaGreatDoor
