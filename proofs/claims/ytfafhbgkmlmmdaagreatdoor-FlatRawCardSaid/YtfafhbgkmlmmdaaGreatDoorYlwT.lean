/-
  FlatRaw HOLDS: of any bytes the raw place of any place of the text, and the bytes between any two: for every input, in whatever memory in which the listed tables read as the library lays them.
  FlatRaw's walk.
  FlatBack's walk.
  Contract: flat.Slice.
  Contract: the law's own Raw.
-/
import Derived.BigQuiet
import Derived.Lay
import Derived.LaidOnce
import Derived.LaidMore
import Derived.ChangeOld
import Derived.ShutString
import Derived.SevenTiedAt
import Derived.Test.YtfafhbgkmlmmdaaGreatDoorYqa
import Derived.Test.YtfafhbgkmlmmdaaGreatDoorYqb
import Derived.Test.YtfafhbgkmlmmdaaGreatDoorYqc
import Derived.Test.YtfafhbgkmlmmdaaGreatDoorYqd
import Derived.Test.YtfafhbgkmlmmdaaGreatDoorYqe
import Derived.Test.YtfafhbgkmlmmdaaGreatDoorYqf
import Derived.Test.YtfafhbgkmlmmdaaGreatDoorYqg
import Derived.Test.YtfafhbgkmlmmdaaGreatDoorYqh
import Derived.Test.YtfafhbgkmlmmdaaGreatDoorYqi
import Derived.Test.YtfafhbgkmlmmdaaGreatDoorYqj
import Derived.Test.YtfafhbgkmlmmdaaGreatDoorYqk
import Derived.Test.YtfafhbgkmlmmdaaGreatDoorYql
import Derived.Test.YtfafhbgkmlmmdaaGreatDoorYqm
import Derived.Test.YtfafhbgkmlmmdaaGreatDoorYqn
import Derived.Test.YtfafhbgkmlmmdaaGreatDoorYqo
import Derived.Test.YtfafhbgkmlmmdaaGreatDoorYqp
import Derived.Test.YtfafhbgkmlmmdaaGreatDoorYqq
import Derived.Test.YtfafhbgkmlmmdaaGreatDoorYqr
import Derived.Test.YtfafhbgkmlmmdaaGreatDoorYqs
import Derived.Test.YtfafhbgkmlmmdaaGreatDoorYqt
import Derived.Test.YtfafhbgkmlmmdaaGreatDoorYqu
import Derived.Test.YtfafhbgkmlmmdaaGreatDoorYqv
import Derived.Test.YtfafhbgkmlmmdaaGreatDoorYqw
import Derived.Test.YtfafhbgkmlmmdaaGreatDoorCards
import Derived.Test.YtfafhbgkmlmmdaaGreatDoorTie
set_option maxRecDepth 100000
set_option maxHeartbeats 40000000
namespace Go.Proofs.YtfafhbgkmlmmdaaGreatDoor.K
open Go.RowKit Go.Shelf Go.Lib Go.Maps
attribute [local irreducible] nmL ofN
theorem lraw_any (l : List IT) (A : Option Addr) (c : Nat) (w : World) (h : R.IsA w w.heap.size l A c) (N i : Nat) (hi : i ≤ l.length) :
  Calls Tryz.prog 36 #[.slice A l.length c, .int .i64 (N : Int), .int .i64 (i : Int)] w fun e w' => e = .returned (.int .i64 (rawR l N i)) ∧ w' = w := by
 obtain ⟨R, hR⟩ : ∃ q, rawR l N i = q := ⟨_, rfl⟩
 rw [hR]
 by_cases h0 : i = 0
 ·subst h0
  rw [raw_zero] at hR
  subst hR
  clear h
  go_enter Tryz.func36, Tryz.ntmps36
  go_wp2_with fail
  go_ret
  exact ⟨rfl, rfl⟩
 have d0 : ((i : Int) == 0) = false := by rw [beq_eq_false_iff_ne]; omega
 by_cases he : i = l.length
 ·have hz : l.length ≠ 0 := by omega
  rw [he, raw_end _ hz] at hR
  subst hR
  obtain ⟨n, hn⟩ : ∃ q, l.length = q := ⟨_, rfl⟩
  rw [hn] at he ⊢
  subst he
  have d1 : ((i : Int) == (i : Int)) = true := by simp
  clear h hn hi hz h0
  go_enter Tryz.func36, Tryz.ntmps36
  go_wp2_with fail
  go_ret
  exact ⟨rfl, rfl⟩
 ·obtain ⟨x, hx⟩ : ∃ x, l[i]? = some x := ⟨_, List.getElem?_eq_getElem (by omega)⟩
  rw [raw_at _ hx h0] at hR
  subst hR
  have hle := h.le
  obtain ⟨b, o, rfl, hbb, _, a1, _⟩ := R.isA_cells h hx
  obtain ⟨n, hn⟩ : ∃ q, l.length = q := ⟨_, rfl⟩
  rw [hn] at he hi hle ⊢
  have d1 : ((i : Int) == (n : Int)) = false := by rw [beq_eq_false_iff_ne]; omega
  have i1 : (i : Int) < (n : Int) := by omega
  have a1' : w.cell? ⟨b, o + (i * 7 + 1), none⟩ = some (.int .i64 x.at_) := by rw [← Nat.add_assoc]; exact a1
  clear h hx hn h0
  go_enter Tryz.func36, Tryz.ntmps36
  go_wp2_with fail
  go_ret
  exact ⟨rfl, rfl⟩
def seg (xs : List Nat) (r1 r2 : Nat) : List Nat := (xs.drop r1).take (r2 - r1)
theorem seg_len {xs : List Nat} {r1 r2 : Nat} (h : r2 ≤ xs.length) : (seg xs r1 r2).length = r2 - r1 := by
 unfold seg
 rw [List.length_take, List.length_drop]
 omega
theorem seg_lt {w : World} {B : Nat} {xs : List Nat} {A : Option Addr} {cap : Nat} (h : BY w B xs A cap) (r1 r2 : Nat) : ∀ x ∈ seg xs r1 r2, x < 256 := fun x hx => h.i x (List.mem_of_mem_drop (List.mem_of_mem_take hx))
theorem BY.seg {w : World} {B : Nat} {xs : List Nat} {b o cap : Nat} (h : BY w B xs (some ⟨b, o, none⟩) cap) {r1 r2 : Nat} (h1 : r1 ≤ r2) (h2 : r2 ≤ xs.length) : BY w B (seg xs r1 r2) (some ⟨b, o + r1, none⟩) (cap - r1) :=
 ⟨by rw [seg_len h2]; have := h.l; omega, by have := h.m; omega, fun e => (by cases e), seg_lt h r1 r2, fun hne => by
  obtain ⟨b', o', e, hl, hr⟩ := h.r (by rintro rfl; simp [K.seg] at hne)
  cases e
  refine ⟨b, _, rfl, hl, fun i x hx => ?_⟩
  unfold K.seg at hx
  rw [List.getElem?_take] at hx
  split at hx
  ·rw [List.getElem?_drop] at hx
   rw [Nat.add_assoc]
   exact hr (r1 + i) x hx
  ·simp at hx⟩
theorem by_nil (w : World) (B : Nat) (A : Option Addr) : BY w B [] A 0 := ⟨Nat.le_refl _, Nat.zero_le _, fun _ => rfl, fun x hx => by simp at hx, fun h => absurd rfl h⟩
def sliceL (xs : List Nat) (l : List IT) (a b : Int) : List Nat := if 0 ≤ a ∧ a ≤ b ∧ b ≤ (l.length : Int) then seg xs (rawR l xs.length a.toNat).toNat (rawR l xs.length b.toNat).toNat else []
theorem fslice_any (g : Nat) (xs : List Nat) (l : List IT) (w : World) (h : FL w w.heap.size g xs l) (hr : rise 0 l (xs.length : Int)) (hl : xs.length ≤ 100000) (a b : Int) :
  Calls Tryz.prog 35 #[.pointer (some ⟨g, 0, none⟩), .int .i64 a, .int .i64 b] w fun e w' => ∃ v, e = .returned v ∧ OwnB w' w.heap.size (sliceL xs l a b) v ∧ Below w.heap.size w w' := by
 have hll := rise_len l _ _ hr
 have C1 := Raw_any g xs l w h (by omega) a
 have C2 := Raw_any g xs l w h (by omega) b
 by_cases ca : 0 ≤ a ∧ a ≤ (l.length : Int)
 case neg =>
  rw [if_neg ca, decide_eq_false ca] at C1
  rw [show sliceL xs l a b = [] from if_neg (by omega)]
  clear C2 hll h hr
  go_enter Tryz.func35, Tryz.ntmps35
  go_wp2_with fail
  refine C1.mono ?_
  rintro e _ ⟨rfl, rfl⟩
  go_wp2_with fail
  go_ret
  exact ⟨_, rfl, ownB_nil _ _, Below.refl _ _⟩
 rw [if_pos ca, decide_eq_true ca] at C1
 by_cases cb : 0 ≤ b ∧ b ≤ (l.length : Int)
 case neg =>
  rw [if_neg cb, decide_eq_false cb] at C2
  rw [show sliceL xs l a b = [] from if_neg (by omega)]
  clear hll h hr
  generalize rawR l xs.length a.toNat = R at *
  go_enter Tryz.func35, Tryz.ntmps35
  go_wp2_with fail
  refine C1.mono ?_
  rintro e _ ⟨rfl, rfl⟩
  go_wp2_with fail
  refine C2.mono ?_
  rintro e _ ⟨rfl, rfl⟩
  go_wp2_with fail
  go_ret
  exact ⟨_, rfl, ownB_nil _ _, Below.refl _ _⟩
 rw [if_pos cb, decide_eq_true cb] at C2
 by_cases cab : a ≤ b
 case neg =>
  rw [show sliceL xs l a b = [] from if_neg (by omega)]
  have i1 : b < a := by omega
  clear hll h hr
  generalize rawR l xs.length a.toNat = R at *
  generalize rawR l xs.length b.toNat = R2 at *
  go_enter Tryz.func35, Tryz.ntmps35
  go_wp2_with fail
  refine C1.mono ?_
  rintro e _ ⟨rfl, rfl⟩
  go_wp2_with fail
  refine C2.mono ?_
  rintro e _ ⟨rfl, rfl⟩
  go_wp2_with fail
  go_ret
  exact ⟨_, rfl, ownB_nil _ _, Below.refl _ _⟩
 have i1 : ¬ b < a := by omega
 have hr1 := raw_rng hr (i := a.toNat) (by omega)
 have hr2 := raw_rng hr (i := b.toNat) (by omega)
 have hr12 := raw_le hr (i := a.toNat) (j := b.toNat) (by omega) (by omega)
 rw [show sliceL xs l a b = seg xs (rawR l xs.length a.toNat).toNat (rawR l xs.length b.toNat).toNat from if_pos (by omega)]
 generalize rawR l xs.length a.toNat = R1 at *
 generalize rawR l xs.length b.toNat = R2 at *
 obtain ⟨r1, rfl⟩ : ∃ i : Nat, R1 = (i : Int) := ⟨R1.toNat, by omega⟩
 obtain ⟨r2, rfl⟩ : ∃ i : Nat, R2 = (i : Int) := ⟨R2.toNat, by omega⟩
 rw [Int.toNat_natCast, Int.toNat_natCast]
 obtain ⟨A, cap, A2, c2, h1, h2, h3, _⟩ := h.c
 obtain ⟨A', cap', k1, k2⟩ := h.k
 cases h1.symm.trans k1
 have hcl := h3.l
 have hsl := seg_len (xs := xs) (r1 := r1) (r2 := r2) (by omega)
 have i2 : (r1 : Int) ≤ (r2 : Int) := by omega
 have i3 : (r2 : Int) ≤ (cap : Int) := by omega
 obtain ⟨N, hN⟩ : ∃ q, xs.length = q := ⟨_, rfl⟩
 rcases k2 with ⟨rfl, rfl⟩ | ⟨bb, o, rfl⟩
 ·have hx : xs = [] := List.length_eq_zero_iff.1 (by omega)
  have e1 : r1 = 0 := by omega
  have e2 : r2 = 0 := by omega
  have CC := cloneB_any [] none 0 w (by_nil _ _ _) (by simp)
  rw [show seg xs r1 r2 = [] from by rw [hx]; simp [seg]]
  subst e1 e2 hx
  have h1 : w.cell? ⟨g, 0, none⟩ = some (.slice none 0 0) := h1
  clear h k1 h2 h3 hr hl hcl hsl hN hr1 hr2 hr12 hll
  go_enter Tryz.func35, Tryz.ntmps35
  go_wp2_with fail
  refine C1.mono ?_
  rintro e _ ⟨rfl, rfl⟩
  go_wp2_with fail
  refine C2.mono ?_
  rintro e _ ⟨rfl, rfl⟩
  go_wp2_with fail
  refine CC.mono ?_
  rintro e w2 ⟨v, rfl, ho, hb⟩
  have HB := Lib.hid (And.intro ho hb)
  clear ho hb
  go_wp2_with fail
  go_ret
  exact ⟨_, rfl, HB.out⟩
 ·have hs := BY.seg h3 (r1 := r1) (r2 := r2) (by omega) (by omega)
  by_cases hcz : cap - r1 = 0
  ·have e0 : r2 - r1 = 0 := by omega
   have es : seg xs r1 r2 = [] := List.length_eq_zero_iff.1 (by omega)
   have CC := cloneB_any [] (some ⟨bb, o, none⟩) 0 w (by_nil _ _ _) (by simp)
   rw [es]
   rw [hN] at h1
   clear h k1 h2 h3 hr hl hcl hsl hN hs es
   go_enter Tryz.func35, Tryz.ntmps35
   go_wp2_with fail
   refine C1.mono ?_
   rintro e _ ⟨rfl, rfl⟩
   go_wp2_with fail
   refine C2.mono ?_
   rintro e _ ⟨rfl, rfl⟩
   go_wp2_with fail
   refine CC.mono ?_
   rintro e w2 ⟨v, rfl, ho, hb⟩
   have HB := Lib.hid (And.intro ho hb)
   clear ho hb
   go_wp2_with fail
   go_ret
   exact ⟨_, rfl, HB.out⟩
  ·have CC := cloneB_any (seg xs r1 r2) _ _ w hs (by omega)
   rw [hsl] at CC
   rw [hN] at h1
   generalize seg xs r1 r2 = SG at *
   clear h k1 h2 h3 hr hl hcl hsl hN hs
   go_enter Tryz.func35, Tryz.ntmps35
   go_wp2_with fail
   refine C1.mono ?_
   rintro e _ ⟨rfl, rfl⟩
   go_wp2_with fail
   refine C2.mono ?_
   rintro e _ ⟨rfl, rfl⟩
   go_wp2_with fail
   refine CC.mono ?_
   rintro e w2 ⟨v, rfl, ho, hb⟩
   have HB := Lib.hid (And.intro ho hb)
   clear ho hb
   go_wp2_with fail
   go_ret
   exact ⟨_, rfl, HB.out⟩
def sB (l : List Nat) : ByteArray := ⟨(u8s l).toArray⟩
theorem sB_app (l m : List Nat) : sB l ++ sB m = sB (l ++ m) := by
 unfold sB u8s
 rw [List.map_append]
 apply ByteArray.ext
 simp
theorem sB_size (l : List Nat) : (sB l).size = l.length := by simp [sB, u8s, ByteArray.size]
theorem sB_nil : sB [] = ⟨#[]⟩ := rfl
theorem seg_app {xs : List Nat} {r1 r2 : Nat} (h : r1 ≤ r2) : seg xs 0 r1 ++ seg xs r1 r2 = seg xs 0 r2 := by
 unfold seg
 simp only [List.drop_zero, Nat.sub_zero]
 rw [show r2 = r1 + (r2 - r1) from by omega, List.take_add, show r1 + (r2 - r1) - r1 = r2 - r1 from by omega]
theorem seg_all (xs : List Nat) : seg xs 0 xs.length = xs := by simp [seg]
def farR (l : List IT) (N k : Nat) : Nat := (rawR l N (min k l.length)).toNat
theorem far_zero (l : List IT) (N : Nat) : farR l N 0 = 0 := by unfold farR; rw [Nat.zero_min, raw_zero]; rfl
theorem far_le {l : List IT} {N : Nat} (h : rise 0 l (N : Int)) (k : Nat) : farR l N k ≤ N := by
 unfold farR
 have := raw_rng h (i := min k l.length) (Nat.min_le_right _ _)
 omega
theorem far_next {xs : List Nat} {l : List IT} (h : rise 0 l (xs.length : Int)) {k : Nat} (hk : k ≤ l.length) : seg xs 0 (farR l xs.length k) ++ sliceL xs l (k : Int) ((k : Int) + 1) = seg xs 0 (farR l xs.length (k + 1)) := by
 by_cases hl : k + 1 ≤ l.length
 ·rw [show sliceL xs l (k : Int) ((k : Int) + 1) = seg xs (rawR l xs.length k).toNat (rawR l xs.length (k + 1)).toNat from by
   unfold sliceL
   rw [if_pos (by omega), show ((k : Int)).toNat = k from by omega, show ((k : Int) + 1).toNat = k + 1 from by omega]]
  unfold farR
  rw [Nat.min_eq_left hk, Nat.min_eq_left hl]
  exact seg_app (by
   have := raw_le h (i := k) (j := k + 1) (by omega) hl
   omega)
 ·rw [show sliceL xs l (k : Int) ((k : Int) + 1) = [] from by
   unfold sliceL
   rw [if_neg (by omega)]]
  rw [List.append_nil]
  unfold farR
  rw [Nat.min_eq_left hk, Nat.min_eq_right (by omega), show k = l.length from by omega]
def lastR (l : List IT) (N : Nat) : Nat → Int
 | 0 => -1
 | k + 1 => rawR l N k
theorem last_lt {l : List IT} {N k : Nat} (h : rise 0 l (N : Int)) (hk : k ≤ l.length) : lastR l N k < rawR l N k := by
 cases k with
 | zero =>
  rw [raw_zero]
  show (-1 : Int) < 0
  decide
 | succ k => exact raw_lt h (by omega) hk
theorem slice_len {xs : List Nat} {l : List IT} (_h : rise 0 l (xs.length : Int)) (a b : Int) : (sliceL xs l a b).length ≤ xs.length := by
 unfold sliceL
 split
 ·unfold seg
  simp
  omega
 ·simp
theorem backLaw (xs : List Nat) (A : Option Addr) (cap : Nat) (w : World) (hb : BY w w.heap.size xs A cap) (hM : G.MX w) (hT : S.Tabs w) :
  Calls Tryz.prog 10 #[.slice A xs.length cap] w fun e w' => e = .returned (.bool true) ∧ Below w.heap.size w w' := by
 have CW := fawake_any w hM hT
 have hcap := hb.l
 have hmx := hb.m
 by_cases hl : xs.length ≤ 300
 case neg =>
  obtain ⟨N, hN⟩ : ∃ q, xs.length = q := ⟨_, rfl⟩
  rw [hN] at hcap hl ⊢
  have i0 : (300 : Int) < (N : Int) := by omega
  have HC := Lib.hid CW
  clear CW hb hM hT hN hl
  go_enter Tryz.func10, Tryz.ntmps10
  go_wp2_with fail
  refine HC.out.mono ?_
  rintro e w1 ⟨rfl, b1⟩
  go_wp2_with fail
  go_ret
  exact ⟨rfl, b1⟩
 have CG := fun W (h : Below w.heap.size w W) => fnew_any xs A cap W (hb.on h) (by omega) (hM.on hM.pos h) (hT.below h (by have := hT.2; omega))
 have hrs := all_rise (bF xs) (eachL xs) es0 0 _ (eachL_tiles xs)
 obtain ⟨l, hAL⟩ : ∃ q, allI (bF xs) es0 (eachL xs) = q := ⟨_, rfl⟩
 simp only [hAL] at CG hrs
 have hln := rise_len _ _ _ hrs
 have hbx := fun W (h : Below w.heap.size w W) => conv_by (hb.on h)
 obtain ⟨N, hN⟩ : ∃ q, xs.length = q := ⟨_, rfl⟩
 obtain ⟨n, hn⟩ : ∃ q, l.length = q := ⟨_, rfl⟩
 have CF := fun W g (h : FL W W.heap.size g xs l) => And.intro (fun a => Raw_any g xs l W h (by omega) a) (And.intro (fun a => plain_any g xs l W h hrs (by omega) a) (And.intro (fslice_any g xs l W h hrs (by omega)) (flen_any g xs l W h)))
 have hi0 := hb.i
 have i0 : ¬ (300 : Int) < (N : Int) := by omega
 have HG := Lib.hid (And.intro CG (And.intro CF (And.intro hrs (And.intro hN (And.intro hn (And.intro hl (And.intro hbx hi0)))))))
 simp only [hN] at hcap ⊢
 clear CG CF hrs hln hbx hb hM hT hAL hl hi0
 go_enter Tryz.func10, Tryz.ntmps10
 go_wp2_with fail
 refine CW.mono ?_
 rintro e w1 ⟨rfl, b1⟩
 clear CW
 have CG := HG.out.1 w1 b1
 rw [HG.out.2.2.2.1] at CG
 have H1 := Lib.hid b1
 clear b1
 go_wp2_with fail
 refine CG.mono ?_
 rintro e w2 ⟨g, rfl, hf, b2⟩
 clear CG
 have CL := (HG.out.2.1 w2 g hf).2.2.2
 rw [HG.out.2.2.2.2.1] at CL
 have H2 := Lib.hid (And.intro hf (H1.out.trans (b2.mono H1.out.size)))
 clear hf b2
 go_wp2_with fail
 refine CL.mono ?_
 rintro e w2x ⟨rfl, e2⟩
 obtain rfl := e2.symm
 clear CL e2
 have hnl : n ≤ 300 := by
  have h1 := rise_len _ _ _ HG.out.2.2.1
  have h2 := HG.out.2.2.2.1
  have h3 := HG.out.2.2.2.2.1
  have h4 := HG.out.2.2.2.2.2.1
  omega
 have HN := Lib.hid hnl
 clear hnl
 go_wp2_with fail
 go_loopw [5, 6, 7] (fun s la i wr => ∃ k : Nat, k ≤ n + 1 ∧ i = .int .i64 (k : Int) ∧ s = .string (sB (seg xs 0 (farR l xs.length k))) ∧ la = .int .i64 (lastR l xs.length k) ∧ Below w2.heap.size w2 wr) (fun _ _ i _ => n + 2 - (RowKit.intOf i).toNat)
 case atStart => exact ⟨0, Nat.zero_le _, rfl, by rw [far_zero]; rfl, rfl, Below.refl _ _⟩
 case round =>
  obtain ⟨k, hk, rfl, rfl, rfl, hb⟩ := hrel
  have bw := H2.out.2.trans (hb.mono H2.out.2.size)
  by_cases hkn : k ≤ n
  case pos =>
   have i1 : (k : Int) ≤ (n : Int) := by omega
   have ik : (k : Int) ≤ 100000 := by have := HN.out; omega
   have hkl : k ≤ l.length := by rw [HG.out.2.2.2.2.1]; exact hkn
   have hf := H2.out.1.on hb
   have C1 := (HG.out.2.1 wr g hf).1 (k : Int)
   rw [if_pos (by omega), decide_eq_true (by omega), Int.toNat_natCast] at C1
   have hrr := raw_rng HG.out.2.2.1 hkl
   have C2 := (HG.out.2.1 wr g hf).2.1 (rawR l xs.length k)
   rw [show plainA l xs.length (rawR l xs.length k) = .tuple #[.int .i64 (k : Int), .bool true] from by
    unfold plainA
    rw [if_pos hrr, decide_eq_true hrr, plain_raw HG.out.2.2.1 hkl]] at C2
   have hlt := last_lt HG.out.2.2.1 hkl
   have hnx := far_next HG.out.2.2.1 hkl
   have hz1 := sB_size (seg xs 0 (farR l xs.length k))
   have hz2 : (seg xs 0 (farR l xs.length k)).length ≤ 300 := by
    rw [seg_len (far_le HG.out.2.2.1 k)]
    have h1 := far_le HG.out.2.2.1 k
    have h2 := HG.out.2.2.2.2.2.1
    omega
   have hz3 : (sliceL xs l (k : Int) ((k : Int) + 1)).length ≤ 300 := by
    have h1 := slice_len HG.out.2.2.1 (k : Int) ((k : Int) + 1)
    have h2 := HG.out.2.2.2.2.2.1
    omega
   have hz4 : (sB (seg xs 0 (farR l xs.length k))).size ≤ 300 := by omega
   have hz5 : (sB (sliceL xs l (k : Int) ((k : Int) + 1))).size ≤ 300 := by rw [sB_size]; exact hz3
   have hsb : ∀ x ∈ sliceL xs l (k : Int) ((k : Int) + 1), x < 256 := by
    intro x hx
    unfold sliceL at hx
    split at hx
    ·exact HG.out.2.2.2.2.2.2.2 x (List.mem_of_mem_drop (List.mem_of_mem_take hx))
    ·simp at hx
   have hst : sB (seg xs 0 (farR l xs.length k)) ++ sB (sliceL xs l (k : Int) ((k : Int) + 1)) = sB (seg xs 0 (farR l xs.length (k + 1))) := by rw [sB_app, hnx]
   have hR : lastR l xs.length (k + 1) = rawR l xs.length k := rfl
   have HK := Lib.hid (And.intro hf (And.intro hb (And.intro hsb (And.intro hst (And.intro hz5 hR)))))
   obtain ⟨R, hRR⟩ : ∃ q, rawR l xs.length k = q := ⟨_, rfl⟩
   obtain ⟨LA, hLA⟩ : ∃ q, lastR l xs.length k = q := ⟨_, rfl⟩
   obtain ⟨S1, hS1⟩ : ∃ q, sB (seg xs 0 (farR l xs.length k)) = q := ⟨_, rfl⟩
   simp only [hRR, hLA, hS1] at C1 C2 hlt hz4 HK ⊢
   have j1 : ¬ R ≤ LA := by omega
   have j2 : ((k : Int) == (k : Int)) = true := by simp
   have HR := Lib.hid hRR
   clear hf hb hsb hst hz1 hz2 hz3 hz5 hR hRR hLA hS1 hnx hrr hkl bw hlt
   go_wp2_with fail
   refine C1.mono ?_
   rintro e _ ⟨rfl, rfl⟩
   clear C1
   go_wp2_with fail
   refine C2.mono ?_
   rintro e w3 ⟨rfl, b3⟩
   clear C2
   have C3 := (HG.out.2.1 w3 g (HK.out.1.on b3)).2.2.1 (k : Int) ((k : Int) + 1)
   have H3 := Lib.hid b3
   clear b3
   go_wp2_with fail
   refine C3.mono ?_
   rintro e w4 ⟨v, rfl, ho, b4⟩
   clear C3
   obtain ⟨A4, c4, rfl, y4⟩ := OwnB.by ho HK.out.2.2.1
   have hcv := conv_by y4
   have hs5 : (convert 22 9 (.slice A4 (sliceL xs l (k : Int) ((k : Int) + 1)).length c4)).run Tryz.prog w4 = .ok (.string (sB (sliceL xs l (k : Int) ((k : Int) + 1)))) w4 := hcv
   have hz5 := HK.out.2.2.2.2.1
   have hst := HK.out.2.2.2.1
   obtain ⟨SL, hSL⟩ : ∃ q, sB (sliceL xs l (k : Int) ((k : Int) + 1)) = q := ⟨_, rfl⟩
   obtain ⟨q5, hq5⟩ : ∃ q, (sliceL xs l (k : Int) ((k : Int) + 1)).length = q := ⟨_, rfl⟩
   rw [hSL, hq5] at hs5
   rw [hSL] at hz5 hst
   rw [hq5]
   have b24 := HK.out.2.1.trans ((H3.out.trans (b4.mono H3.out.size)).mono HK.out.2.1.size)
   have hend : ∃ j : Nat, j ≤ n + 1 ∧ Value.int .i64 ((k : Int) + 1) = .int .i64 (j : Int) ∧ Value.string (S1 ++ SL) = .string (sB (seg xs 0 (farR l xs.length j))) ∧ Value.int .i64 R = .int .i64 (lastR l xs.length j) ∧ Below w2.heap.size w2 w4 :=
    ⟨k + 1, by omega, by simp, by rw [hst], by rw [HK.out.2.2.2.2.2], b24⟩
   have HEND := Lib.hid hend
   clear hend hcv ho b4 y4 hst hSL hq5 b24
   go_wp2_with fail
   go_roundw
   case rel => exact HEND.out
   case measure => simp [RowKit.intOf]; omega
  case neg =>
   obtain rfl : k = n + 1 := by omega
   have i1 : ¬ ((n + 1 : Nat) : Int) ≤ (n : Int) := by omega
   have hcx := HG.out.2.2.2.2.2.2.1 wr bw
   have hcx' : (convert 22 9 (.slice A xs.length cap)).run Tryz.prog wr = .ok (.string (sB xs)) wr := hcx
   rw [HG.out.2.2.2.1] at hcx'
   have hfe : farR l xs.length (n + 1) = if n = 0 then 0 else xs.length := by
    unfold farR
    rw [Nat.min_eq_right (by have := HG.out.2.2.2.2.1; omega)]
    split
    ·rename_i h0
     have h1 : l.length = 0 := by have := HG.out.2.2.2.2.1; omega
     rw [h1, raw_zero]
     rfl
    ·rw [raw_end _ (by have := HG.out.2.2.2.2.1; omega)]
     omega
   rw [hfe]
   by_cases h0 : n = 0
   ·subst h0
    rw [if_pos rfl, show sB (seg xs 0 0) = ⟨#[]⟩ from rfl]
    have HB := Lib.hid bw
    obtain ⟨SX, hSX⟩ : ∃ q, sB xs = q := ⟨_, rfl⟩
    rw [hSX] at hcx'
    clear hb bw hcx hfe hSX
    cases hq : ((#[] : Array UInt8).toList == SX.toList)
    all_goals
     go_wp2_with fail
     go_ret
     exact ⟨by first | rfl | simp [hq], HB.out⟩
   ·rw [if_neg h0, seg_all]
    have HB := Lib.hid bw
    obtain ⟨SX, hSX⟩ : ∃ q, sB xs = q := ⟨_, rfl⟩
    rw [hSX] at hcx'
    rw [hSX]
    have hq : (SX.toList == SX.toList) = true := by simp
    clear hb bw hcx hfe hSX
    go_wp2_with fail
    go_ret
    exact ⟨rfl, HB.out⟩
theorem BY.drewN {w : World} {B : Nat} {xs : List Nat} {A : Option Addr} {cap : Nat} (h : BY w B xs A cap) (m : Nat) : BY (w.drewN m) B xs A cap := h.below (below_drewN (Below.refl _ _) m)
theorem RIsA.drewN {w : World} {B : Nat} {l : List IT} {A : Option Addr} {c : Nat} (h : R.IsA w B l A c) (m : Nat) : R.IsA (w.drewN m) B l A c := h.below (below_drewN (Below.refl _ _) m)
theorem frawLaw (xs : List Nat) (A : Option Addr) (cap : Nat) (a b : Int) (w : World) (hb : BY w w.heap.size xs A cap) (hM : G.MX w) (hT : S.Tabs w) :
  Calls Tryz.prog 8 #[.slice A xs.length cap, .int .i64 a, .int .i64 b] w fun e w' => e = .returned (.bool true) ∧ Below w.heap.size w w' := by
 have CW := fawake_any w hM hT
 have hcap := hb.l
 have hmx := hb.m
 by_cases hl : xs.length ≤ 300
 case neg =>
  obtain ⟨N, hN⟩ : ∃ q, xs.length = q := ⟨_, rfl⟩
  rw [hN] at hcap hl ⊢
  have i0 : (300 : Int) < (N : Int) := by omega
  have HC := Lib.hid CW
  clear CW hb hM hT hN hl
  go_enter Tryz.func8, Tryz.ntmps8
  go_wp2_with fail
  refine HC.out.mono ?_
  rintro e w1 ⟨rfl, b1⟩
  go_wp2_with fail
  go_ret
  exact ⟨rfl, b1⟩
 have CG := fun W (h : Below w.heap.size w W) => fnew_any xs A cap W (hb.on h) (by omega) (hM.on hM.pos h) (hT.below h (by have := hT.2; omega))
 have CR := fun W (h : Below w.heap.size w W) => refAll_any xs A cap W (hb.on h) (by omega)
 have hrs := all_rise (bF xs) (eachL xs) es0 0 _ (eachL_tiles xs)
 obtain ⟨l, hAL⟩ : ∃ q, allI (bF xs) es0 (eachL xs) = q := ⟨_, rfl⟩
 simp only [hAL] at CG CR hrs
 have hln := rise_len _ _ _ hrs
 have CF := fun W g (h : FL W W.heap.size g xs l) => And.intro (Raw_any g xs l W h (by omega) a) (fslice_any g xs l W h hrs (by omega) a b)
 have hbx := fun W (h : Below w.heap.size w W) => hb.on h
 obtain ⟨N, hN⟩ : ∃ q, xs.length = q := ⟨_, rfl⟩
 obtain ⟨n, hn⟩ : ∃ q, l.length = q := ⟨_, rfl⟩
 have i0 : ¬ (300 : Int) < (N : Int) := by omega
 simp only [hN] at hcap hl CG CR ⊢
 simp only [hN, hn] at hln
 have HG := Lib.hid (And.intro CG (And.intro CR (And.intro CF (And.intro hrs (And.intro hN (And.intro hn (And.intro hl (And.intro hln hbx))))))))
 clear CG CR CF hrs hln hbx hb hM hT hAL hl hN hn
 go_enter Tryz.func8, Tryz.ntmps8
 go_wp2_with fail
 refine CW.mono ?_
 rintro e w1 ⟨rfl, b1⟩
 clear CW
 have CG := HG.out.1 w1 b1
 have H1 := Lib.hid b1
 clear b1
 go_wp2_with fail
 refine CG.mono ?_
 rintro e w2 ⟨g, rfl, hf, b2⟩
 clear CG
 have b12 := H1.out.trans (b2.mono H1.out.size)
 have CR := HG.out.2.1 w2 b12
 have H2 := Lib.hid (And.intro hf b12)
 clear hf b2 b12
 go_wp2_with fail
 refine CR.mono ?_
 rintro e w3 ⟨v, rfl, ho, b3⟩
 clear CR
 obtain ⟨A3, c3, rfl, hI⟩ := R.IsA.of_own ho
 have hf3 := H2.out.1.on b3
 have C1 := (HG.out.2.2.1 w3 g hf3).1
 have C2 := (HG.out.2.2.1 w3 g hf3).2
 rw [HG.out.2.2.2.2.2.1] at C1 ⊢
 have H3 := Lib.hid (And.intro hI (H2.out.2.trans (b3.mono H2.out.2.size)))
 clear ho hI b3 hf3
 by_cases ha : 0 ≤ a ∧ a ≤ (n : Int)
 case neg =>
  rw [if_neg ha, decide_eq_false ha] at C1
  rw [show sliceL xs l a b = [] from by
   unfold sliceL
   rw [HG.out.2.2.2.2.2.1, if_neg (by omega)]] at C2
  go_wp2_with fail
  refine C1.mono ?_
  rintro e w3x ⟨rfl, e3⟩
  obtain rfl := e3.symm
  clear C1 e3
  go_wp2_with fail
  refine C2.mono ?_
  rintro e w4 ⟨v4, rfl, o4, b4⟩
  clear C2
  obtain ⟨A4, c4, rfl, y4⟩ := OwnB.by o4 (fun x hx => by simp at hx)
  rw [List.length_nil]
  have H4 := Lib.hid (H3.out.2.trans (b4.mono H3.out.2.size))
  clear o4 y4 b4
  by_cases h0 : a < 0
  ·have j1 : ¬ 0 ≤ a := by omega
   clear ha
   go_wp2_with fail
   go_ret
   exact ⟨rfl, H4.out⟩
  ·have j1 : 0 ≤ a := by omega
   have j2 : ¬ a ≤ (n : Int) := by omega
   clear ha
   go_wp2_with fail
   go_ret
   exact ⟨rfl, H4.out⟩
 rw [if_pos ha, decide_eq_true ha] at C1
 obtain ⟨i, rfl⟩ : ∃ i : Nat, a = (i : Int) := ⟨a.toNat, by omega⟩
 have hin : i ≤ n := by omega
 have j1 : 0 ≤ (i : Int) := by omega
 have j2 : (i : Int) ≤ (n : Int) := by omega
 clear ha
 rw [Int.toNat_natCast] at C1
 have CL := fun W (h : Below w3.heap.size w3 W) k hk => lraw_any l A3 c3 W (H3.out.1.on h) xs.length k hk
 rw [HG.out.2.2.2.2.2.1] at CL
 simp only [HG.out.2.2.2.2.1] at C1 CL
 have HL := Lib.hid (And.intro CL hin)
 clear CL hin
 obtain ⟨R1, hR1⟩ : ∃ q, rawR l N i = q := ⟨_, rfl⟩
 rw [hR1] at C1
 have k1 : ((R1 : Int) == R1) = true := by simp
 have HR1 := Lib.hid hR1
 clear hR1
 by_cases hbk : (i : Int) ≤ b ∧ b ≤ (n : Int)
 case neg =>
  rw [show sliceL xs l (i : Int) b = [] from by
   unfold sliceL
   rw [HG.out.2.2.2.2.2.1, if_neg (by omega)]] at C2
  go_wp2_with fail
  refine C1.mono ?_
  rintro e w3x ⟨rfl, e3⟩
  obtain rfl := e3.symm
  clear C1 e3
  go_wp2_with fail
  refine C2.mono ?_
  rintro e w4 ⟨v4, rfl, o4, b4⟩
  clear C2
  obtain ⟨A4, c4, rfl, y4⟩ := OwnB.by o4 (fun x hx => by simp at hx)
  rw [List.length_nil]
  have CL := HL.out.1 w4 b4 i HL.out.2
  rw [HR1.out] at CL
  have H4 := Lib.hid (H3.out.2.trans (b4.mono H3.out.2.size))
  clear o4 y4 b4
  by_cases h0 : b < (i : Int)
  ·clear hbk
   go_wp2_with fail
   refine CL.mono ?_
   rintro e _ ⟨rfl, rfl⟩
   go_wp2_with fail
   go_ret
   exact ⟨rfl, H4.out⟩
  ·have j3 : (n : Int) < b := by omega
   clear hbk
   go_wp2_with fail
   refine CL.mono ?_
   rintro e _ ⟨rfl, rfl⟩
   go_wp2_with fail
   go_ret
   exact ⟨rfl, H4.out⟩
 obtain ⟨k, rfl⟩ : ∃ k : Nat, b = (k : Int) := ⟨b.toNat, by omega⟩
 have hkn : k ≤ n := by omega
 have hik : i ≤ k := by omega
 have j3 : ¬ (k : Int) < (i : Int) := by omega
 have j4 : ¬ (n : Int) < (k : Int) := by omega
 clear hbk
 have hrs := HG.out.2.2.2.1
 rw [HG.out.2.2.2.2.1] at hrs
 have hr1 := raw_rng hrs (i := i) (by rw [HG.out.2.2.2.2.2.1]; exact HL.out.2)
 have hr2 := raw_rng hrs (i := k) (by rw [HG.out.2.2.2.2.2.1]; exact hkn)
 have hr12 := raw_le hrs hik (by rw [HG.out.2.2.2.2.2.1]; exact hkn)
 rw [show sliceL xs l (i : Int) (k : Int) = seg xs (rawR l N i).toNat (rawR l N k).toNat from by
  unfold sliceL
  rw [HG.out.2.2.2.2.2.1, HG.out.2.2.2.2.1, if_pos (by omega), Int.toNat_natCast, Int.toNat_natCast]] at C2
 rw [HR1.out] at hr1 hr12 C2
 obtain ⟨R2, hR2⟩ : ∃ q, rawR l N k = q := ⟨_, rfl⟩
 rw [hR2] at hr2 hr12 C2
 have HR2 := Lib.hid (And.intro hR2 hkn)
 clear hR2 hrs
 obtain ⟨r1, rfl⟩ : ∃ i : Nat, R1 = (i : Int) := ⟨R1.toNat, by omega⟩
 obtain ⟨r2, rfl⟩ : ∃ i : Nat, R2 = (i : Int) := ⟨R2.toNat, by omega⟩
 rw [Int.toNat_natCast, Int.toNat_natCast] at C2
 have hsl := seg_len (xs := xs) (r1 := r1) (r2 := r2) (by rw [HG.out.2.2.2.2.1]; omega)
 have hsg : ∀ x ∈ seg xs r1 r2, x < 256 := seg_lt (HG.out.2.2.2.2.2.2.2.2 w1 H1.out) r1 r2
 have q1 : r1 ≤ r2 := by omega
 have q2 : r2 ≤ N := by omega
 have HS := Lib.hid (And.intro hsl (And.intro hsg (And.intro q1 q2)))
 have m1 : (r1 : Int) ≤ (r2 : Int) := by omega
 have m2 : (r2 : Int) ≤ (cap : Int) := by omega
 clear hr1 hr2 hr12 hsl hsg hik hkn
 go_wp2_with fail
 refine C1.mono ?_
 rintro e w3x ⟨rfl, e3⟩
 obtain rfl := e3.symm
 clear C1 e3
 go_wp2_with fail
 refine C2.mono ?_
 rintro e w4 ⟨v4, rfl, o4, b4⟩
 clear C2
 obtain ⟨A4, c4, rfl, y4⟩ := OwnB.by o4 HS.out.2.1
 have CL := HL.out.1 w4 b4 i HL.out.2
 rw [HR1.out] at CL
 have CL1 : ∀ m, Calls Tryz.prog 36 #[.slice A3 n c3, .int .i64 (N : Int), .int .i64 (i : Int)] (w4.drewN m) fun e w' => e = .returned (.int .i64 (r1 : Int)) ∧ w' = w4.drewN m := fun m => by
  have := HL.out.1 (w4.drewN m) (below_drewN b4 m) i HL.out.2
  rw [HR1.out] at this
  exact this
 have CL2 : ∀ m, Calls Tryz.prog 36 #[.slice A3 n c3, .int .i64 (N : Int), .int .i64 (k : Int)] (w4.drewN m) fun e w' => e = .returned (.int .i64 (r2 : Int)) ∧ w' = w4.drewN m := fun m => by
  have := HL.out.1 (w4.drewN m) (below_drewN b4 m) k HR2.out.2
  rw [HR2.out.1] at this
  exact this
 have cv1 : ∀ m, (convert 22 9 (.slice A4 (seg xs r1 r2).length c4)).run Tryz.prog (w4.drewN m) = .ok (.string (sB (seg xs r1 r2))) (w4.drewN m) := fun m => conv_by (BY.drewN y4 m)
 have b14 := H3.out.2.trans (b4.mono H3.out.2.size)
 have hbw := HG.out.2.2.2.2.2.2.2.2 w4 b14
 have H4 := Lib.hid (And.intro b14 hbw)
 obtain ⟨SG, hSG⟩ : ∃ q, sB (seg xs r1 r2) = q := ⟨_, rfl⟩
 have hq : (SG.toList == SG.toList) = true := by simp
 have hsl := HS.out.1
 rw [hSG, hsl] at cv1
 rw [hsl]
 have cvz : ∀ A' c' m, (convert 22 9 (.slice A' 0 c')).run Tryz.prog (w4.drewN m) = .ok (.string ⟨#[]⟩) (w4.drewN m) := fun A' c' m => run_convert_bytes_zero (P := Tryz.prog) (w4.drewN m) 22 5 Tryz.underlying22 Tryz.underlying5 A' c' 9 Tryz.underlying9
 have HC1 := Lib.hid CL1
 have HC2 := Lib.hid CL2
 clear CL1 CL2 o4 y4 b4 b14
 by_cases hee : r1 = r2
 ·subst hee
  rw [Nat.sub_self] at cv1 ⊢
  have hSG0 : SG = ⟨#[]⟩ := by rw [← hSG]; simp [seg, sB, u8s]
  subst hSG0
  cases A with
  | none =>
   have hc0 : cap = 0 := hbw.z rfl
   have hr0 : r1 = 0 := by omega
   subst hc0
   subst hr0
   have E1 : ∀ m, Calls Tryz.prog 36 #[.slice A3 n c3, .int .i64 (N : Int), .int .i64 (i : Int)] (w4.drewN m) fun e w' => e = .returned (.int .i64 0) ∧ w' = w4.drewN m := fun m => HC1.out m
   have E2 : ∀ m, Calls Tryz.prog 36 #[.slice A3 n c3, .int .i64 (N : Int), .int .i64 (k : Int)] (w4.drewN m) fun e w' => e = .returned (.int .i64 0) ∧ w' = w4.drewN m := fun m => HC2.out m
   have HC1 := Lib.hid E1
   have HC2 := Lib.hid E2
   clear hbw hSG hsl E1 E2
   go_wp2_with fail
   refine CL.mono ?_
   rintro e w4x ⟨rfl, e4⟩
   obtain rfl := e4.symm
   clear CL e4
   go_wp2_with fail
   go_quiet ((go_at_call 36; with_reducible (first | exact Calls.quiet_of_same (HC1.out _) | exact Calls.quiet_of_same (HC2.out _))))
   go_wp2_with fail
   go_ret
   exact ⟨rfl, below_drewN H4.out.1 _⟩
  | some ad =>
   obtain ⟨bb, o, sp⟩ := ad
   by_cases hcz : cap - r1 = 0
   ·have hcr : cap = r1 := by omega
    clear hbw hSG hsl
    go_wp2_with fail
    refine CL.mono ?_
    rintro e w4x ⟨rfl, e4⟩
    obtain rfl := e4.symm
    clear CL e4
    go_wp2_with fail
    go_quiet ((go_at_call 36; with_reducible (first | exact Calls.quiet_of_same (HC1.out _) | exact Calls.quiet_of_same (HC2.out _))))
    go_wp2_with fail
    go_ret
    exact ⟨rfl, below_drewN H4.out.1 _⟩
   ·clear hbw hSG hsl
    go_wp2_with fail
    refine CL.mono ?_
    rintro e w4x ⟨rfl, e4⟩
    obtain rfl := e4.symm
    clear CL e4
    go_wp2_with fail
    go_quiet ((go_at_call 36; with_reducible (first | exact Calls.quiet_of_same (HC1.out _) | exact Calls.quiet_of_same (HC2.out _))))
    go_wp2_with fail
    go_ret
    exact ⟨rfl, below_drewN H4.out.1 _⟩
 ·obtain ⟨bb, o, rfl, _, _⟩ := hbw.r (by rintro rfl; have := HG.out.2.2.2.2.1; simp at this; omega)
  have cv2 : ∀ m, (convert 22 9 (.slice (some ⟨bb, o + r1, none⟩) (r2 - r1) (cap - r1))).run Tryz.prog (w4.drewN m) = .ok (.string SG) (w4.drewN m) := fun m => by
   have := conv_by (BY.drewN (BY.seg hbw (r1 := r1) (r2 := r2) q1 (by rw [HG.out.2.2.2.2.1]; exact q2)) m)
   rw [hsl] at this
   rw [← hSG]
   exact this
  have hcz : ¬ cap - r1 = 0 := by omega
  clear hbw hSG hsl cvz
  go_wp2_with fail
  refine CL.mono ?_
  rintro e w4x ⟨rfl, e4⟩
  obtain rfl := e4.symm
  clear CL e4
  go_wp2_with fail
  go_quiet ((go_at_call 36; with_reducible (first | exact Calls.quiet_of_same (HC1.out _) | exact Calls.quiet_of_same (HC2.out _))))
  go_wp2_with fail
  go_ret
  exact ⟨rfl, below_drewN H4.out.1 _⟩
end Go.Proofs.YtfafhbgkmlmmdaaGreatDoor.K
namespace Go.Proofs.YtfafhbgkmlmmdaaGreatDoor
open Go.ChangeShapes Go.WideShapes Go.ChangeAt Go.RowKit Go.Shelf
open Go.Lib
open Go.ChangeMaps (open_string shut_string)
theorem flatRaw_lifted (os : Os) (started : os.Started) (H : Type) (enc : TypeId × Value → H) :
  ReturnsInHanded {} Tryz.checked os 8 .any (fun w args => (Rows.flatRawSpec.pre enc Tryz.prog Tryz.f8 [] false w args ∧ laidMetH Tryz.prog laidAll7 w) ∧ sizedMet enc Tryz.prog Tryz.f8 (OpenSpec.ofChange Rows.flatRawSpec) false w args)
   (Rows.flatRawSpec.post enc Tryz.prog Tryz.f8 false true false false) := by
 refine handed_laid (C := Tryz.checked) (X := fun w _ => laidMetH Tryz.prog laidAll7 w) (fun _ _ _ hh h => h.of_heap hh) own started (by kernel_rfl) Tryz.func8
  (ChangeSpec.witness_shaped (enc := enc) (C := Tryz.checked) (os := os) (X := fun w _ => laidMetH Tryz.prog laidAll7 w) false (World.laidAll Tryz.prog os laidAll7) #[.slice none 0 0, .int .i64 0, .int .i64 0] 8 (World.laidAll_os _ _ _)
   (World.shaped_of_ZipB (by kernel_rfl) (by kernel_rfl)) (by kernel_rfl) (by kernel_rfl) (by kernel_rfl)
   (by rw [MakeChecks.laidMetH_plain _ _ _ (by kernel_rfl)]; exact laidMet_laidAll _ (by kernel_rfl) (by kernel_rfl))) ?_
 intro W base args ds gs before hsh hval0 hW hL _
 have hval : ∀ (j : Nat) t v, Tryz.f8.params[j]? = some t → args[j]? = some v → Value.okWide Tryz.prog W .any base t v := hval0
 have hW' := hW
 obtain ⟨p, q, hA0, hV, rfl, _, _⟩ := hW
 have hA : DataW.TrodAll enc Tryz.prog W 0 (fun _ => true) true Tryz.f8.params.toList args.toList ds p := hA0
 rw [Tryz.params8] at hA hval
 obtain ⟨v0, vs0, d0, ds0, p0, q0, hargs, rfl, rfl, h0, r0⟩ := trodAll_cons hA
 obtain ⟨v1, vs1, d1, ds1, p1, q1, rfl, rfl, rfl, h1, r1⟩ := trodAll_cons r0
 obtain ⟨v2, vs2, d2, ds2, p2, q2, rfl, rfl, rfl, h2, r2⟩ := trodAll_cons r1
 obtain ⟨rfl, rfl, rfl⟩ := trodAll_nil r2
 obtain rfl : args = #[v0, v1, v2] := by cases args; simp_all
 obtain ⟨rfl, rfl⟩ := trodVars_none hV
 have t0 := h0
 have lt0 : ∀ x ∈ p0, x.block < W.heap.size := by obtain ⟨m, hm⟩ := t0; exact DataW.trod_lt m _ _ _ hm
 obtain ⟨xs0, A0, cap0, rfl, hB0⟩ := by_of_arg (hval 0 22 v0 rfl rfl) h0
 obtain ⟨a1, rfl, rfl, rfl, w1⟩ := open_int Tryz.underlying3 (hval 1 3 v1 rfl rfl) h1
 obtain ⟨a2, rfl, rfl, rfl, w2⟩ := open_int Tryz.underlying3 (hval 2 3 v2 rfl rfl) h2
 rw [MakeChecks.laidMetH_plain _ _ _ (by kernel_rfl)] at hL
 have hT : S.Tabs W := tabs_of_reads (Lib.laidMet.reads hL (.tail _ (.tail _ (.tail _ (.tail _ (.tail _ (.tail _ (.head _)))))))) (Lib.laidMet.reads hL (.tail _ (.tail _ (.tail _ (.head _))))) (five_of_reads (Lib.laidMet.reads hL (.tail _ (.head _))))
 have hM : G.MX W := mx_of_shape hsh
 clear hA0 hval0
 refine (K.frawLaw xs0 A0 cap0 a1 a2 W hB0 hM hT).mono fun e W' ⟨he, bel⟩ => ?_
 subst he
 exact ⟨_, rfl, _, _, _, [], _, [], hW', trodAll_mk1 (shut_bool Tryz.underlying4 _), (trodAll_cons_mk (Below.trod laidOut (by kernel_rfl) (of_decide_eq_true (by kernel_rfl)) t0 bel lt0) (trodAll_cons_mk (shut_int Tryz.underlying3 w1) (trodAll_cons_mk (shut_int Tryz.underlying3 w2) trodAll_mk0))), rfl, bel.frame _, fun h => by cases h⟩
theorem flatRaw_row : Rows.FlatRawSaid :=
 OpenClaim.holds_of_wide 8 Tryz.f8 rfl rfl rfl rfl rfl rfl rfl ⟨rfl, rfl, rfl, rfl, rfl⟩ rfl rfl rfl rfl rfl (by kernel_rfl) Tryz.func8 (by kernel_rfl)
  (of_decide_eq_true (by kernel_rfl)) (by unfold Func.isWrapper; first | (rw [if_pos (by decide +kernel)]; kernel_rfl) | (rw [if_neg (by decide +kernel)]; exact ⟨rfl, rfl⟩))
  (fun os started H enc _ => flatRaw_lifted os started H enc)
theorem flatRaw_holds : Rows.FlatRawCardSaid :=
 Claim7.holds_tied_plain_at .later [] [.data, .data, .data, .data, .sentinel, .sentinel, .pinned] true (true, "9dd68da2afada65e5683af715fdfcd92f67a78b54cba878728521e19227f40a4") true
  flatRaw_row (fun _ h => by cases h) (by kernel_rfl) (fun _ h => by cases h) flatRaw_row_tie rfl ⟨rfl, rfl⟩ (by kernel_rfl) rfl
  (fun f fn hf hfn => by
   obtain rfl : f = 8 := Option.some.inj ((show Tryz.prog.funcNamed Rows.flatRawRow.func = some 8 by kernel_rfl).symm.trans hf) |>.symm
   obtain rfl : fn = Tryz.f8 := (Option.some.inj (Tryz.func8.symm.trans hfn)).symm
   exact ⟨by kernel_rfl, fun j t ht => by
    rw [Tryz.params8] at ht
    have hm : t ∈ [22, 3, 3] := by simpa using Array.mem_of_getElem? ht
    have hall : ([22, 3, 3].all fun u => !Tryz.prog.wantsStandIn u) = true := by kernel_rfl
    exact (show Tryz.prog.wantsStandIn t = false by simpa using List.all_eq_true.1 hall t hm)⟩)
  (by kernel_rfl)
#print axioms flatRaw_holds
end Go.Proofs.YtfafhbgkmlmmdaaGreatDoor
