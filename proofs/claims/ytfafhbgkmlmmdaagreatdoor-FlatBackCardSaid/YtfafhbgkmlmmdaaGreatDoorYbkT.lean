/-
  FlatBack HOLDS: raw places rise, each place of the text is the plain one of its raw one, and all parts together are all bytes: for every input, in whatever memory in which the listed tables read as the library lays them.
  FlatBack's walk.
  Contract: flat.Slice.
-/
import Derived.Lay
import Derived.LaidOnce
import Derived.LaidMore
import Derived.ChangeOld
import Derived.ShutString
import Derived.SevenTiedAt
import Derived.Test.YtfafhbgkmlmmdaaGreatDoorYqa
import Derived.Test.YtfafhbgkmlmmdaaGreatDoorYqb
import Derived.Test.YtfafhbgkmlmmdaaGreatDoorYqc
import Derived.Test.YtfafhbgkmlmmdaaGreatDoorYqd
import Derived.Test.YtfafhbgkmlmmdaaGreatDoorYqe
import Derived.Test.YtfafhbgkmlmmdaaGreatDoorYqf
import Derived.Test.YtfafhbgkmlmmdaaGreatDoorYqg
import Derived.Test.YtfafhbgkmlmmdaaGreatDoorYqh
import Derived.Test.YtfafhbgkmlmmdaaGreatDoorYqi
import Derived.Test.YtfafhbgkmlmmdaaGreatDoorYqj
import Derived.Test.YtfafhbgkmlmmdaaGreatDoorYqk
import Derived.Test.YtfafhbgkmlmmdaaGreatDoorYql
import Derived.Test.YtfafhbgkmlmmdaaGreatDoorYqm
import Derived.Test.YtfafhbgkmlmmdaaGreatDoorYqn
import Derived.Test.YtfafhbgkmlmmdaaGreatDoorYqo
import Derived.Test.YtfafhbgkmlmmdaaGreatDoorYqp
import Derived.Test.YtfafhbgkmlmmdaaGreatDoorYqq
import Derived.Test.YtfafhbgkmlmmdaaGreatDoorYqr
import Derived.Test.YtfafhbgkmlmmdaaGreatDoorYqs
import Derived.Test.YtfafhbgkmlmmdaaGreatDoorYqt
import Derived.Test.YtfafhbgkmlmmdaaGreatDoorYqu
import Derived.Test.YtfafhbgkmlmmdaaGreatDoorYqv
import Derived.Test.YtfafhbgkmlmmdaaGreatDoorYqw
import Derived.Test.YtfafhbgkmlmmdaaGreatDoorCards
import Derived.Test.YtfafhbgkmlmmdaaGreatDoorTie
set_option maxRecDepth 100000
set_option maxHeartbeats 40000000
namespace Go.Proofs.YtfafhbgkmlmmdaaGreatDoor.K
open Go.RowKit Go.Shelf Go.Lib Go.Maps
attribute [local irreducible] nmL ofN
def seg (xs : List Nat) (r1 r2 : Nat) : List Nat := (xs.drop r1).take (r2 - r1)
theorem seg_len {xs : List Nat} {r1 r2 : Nat} (h : r2 ≤ xs.length) : (seg xs r1 r2).length = r2 - r1 := by
 unfold seg
 rw [List.length_take, List.length_drop]
 omega
theorem seg_lt {w : World} {B : Nat} {xs : List Nat} {A : Option Addr} {cap : Nat} (h : BY w B xs A cap) (r1 r2 : Nat) : ∀ x ∈ seg xs r1 r2, x < 256 := fun x hx => h.i x (List.mem_of_mem_drop (List.mem_of_mem_take hx))
theorem BY.seg {w : World} {B : Nat} {xs : List Nat} {b o cap : Nat} (h : BY w B xs (some ⟨b, o, none⟩) cap) {r1 r2 : Nat} (h1 : r1 ≤ r2) (h2 : r2 ≤ xs.length) : BY w B (seg xs r1 r2) (some ⟨b, o + r1, none⟩) (cap - r1) :=
 ⟨by rw [seg_len h2]; have := h.l; omega, by have := h.m; omega, fun e => (by cases e), seg_lt h r1 r2, fun hne => by
  obtain ⟨b', o', e, hl, hr⟩ := h.r (by rintro rfl; simp [K.seg] at hne)
  cases e
  refine ⟨b, _, rfl, hl, fun i x hx => ?_⟩
  unfold K.seg at hx
  rw [List.getElem?_take] at hx
  split at hx
  ·rw [List.getElem?_drop] at hx
   rw [Nat.add_assoc]
   exact hr (r1 + i) x hx
  ·simp at hx⟩
theorem by_nil (w : World) (B : Nat) (A : Option Addr) : BY w B [] A 0 := ⟨Nat.le_refl _, Nat.zero_le _, fun _ => rfl, fun x hx => by simp at hx, fun h => absurd rfl h⟩
def sliceL (xs : List Nat) (l : List IT) (a b : Int) : List Nat := if 0 ≤ a ∧ a ≤ b ∧ b ≤ (l.length : Int) then seg xs (rawR l xs.length a.toNat).toNat (rawR l xs.length b.toNat).toNat else []
theorem fslice_any (g : Nat) (xs : List Nat) (l : List IT) (w : World) (h : FL w w.heap.size g xs l) (hr : rise 0 l (xs.length : Int)) (hl : xs.length ≤ 100000) (a b : Int) :
  Calls Tryz.prog 35 #[.pointer (some ⟨g, 0, none⟩), .int .i64 a, .int .i64 b] w fun e w' => ∃ v, e = .returned v ∧ OwnB w' w.heap.size (sliceL xs l a b) v ∧ Below w.heap.size w w' := by
 have hll := rise_len l _ _ hr
 have C1 := Raw_any g xs l w h (by omega) a
 have C2 := Raw_any g xs l w h (by omega) b
 by_cases ca : 0 ≤ a ∧ a ≤ (l.length : Int)
 case neg =>
  rw [if_neg ca, decide_eq_false ca] at C1
  rw [show sliceL xs l a b = [] from if_neg (by omega)]
  clear C2 hll h hr
  go_enter Tryz.func35, Tryz.ntmps35
  go_wp2_with fail
  refine C1.mono ?_
  rintro e _ ⟨rfl, rfl⟩
  go_wp2_with fail
  go_ret
  exact ⟨_, rfl, ownB_nil _ _, Below.refl _ _⟩
 rw [if_pos ca, decide_eq_true ca] at C1
 by_cases cb : 0 ≤ b ∧ b ≤ (l.length : Int)
 case neg =>
  rw [if_neg cb, decide_eq_false cb] at C2
  rw [show sliceL xs l a b = [] from if_neg (by omega)]
  clear hll h hr
  generalize rawR l xs.length a.toNat = R at *
  go_enter Tryz.func35, Tryz.ntmps35
  go_wp2_with fail
  refine C1.mono ?_
  rintro e _ ⟨rfl, rfl⟩
  go_wp2_with fail
  refine C2.mono ?_
  rintro e _ ⟨rfl, rfl⟩
  go_wp2_with fail
  go_ret
  exact ⟨_, rfl, ownB_nil _ _, Below.refl _ _⟩
 rw [if_pos cb, decide_eq_true cb] at C2
 by_cases cab : a ≤ b
 case neg =>
  rw [show sliceL xs l a b = [] from if_neg (by omega)]
  have i1 : b < a := by omega
  clear hll h hr
  generalize rawR l xs.length a.toNat = R at *
  generalize rawR l xs.length b.toNat = R2 at *
  go_enter Tryz.func35, Tryz.ntmps35
  go_wp2_with fail
  refine C1.mono ?_
  rintro e _ ⟨rfl, rfl⟩
  go_wp2_with fail
  refine C2.mono ?_
  rintro e _ ⟨rfl, rfl⟩
  go_wp2_with fail
  go_ret
  exact ⟨_, rfl, ownB_nil _ _, Below.refl _ _⟩
 have i1 : ¬ b < a := by omega
 have hr1 := raw_rng hr (i := a.toNat) (by omega)
 have hr2 := raw_rng hr (i := b.toNat) (by omega)
 have hr12 := raw_le hr (i := a.toNat) (j := b.toNat) (by omega) (by omega)
 rw [show sliceL xs l a b = seg xs (rawR l xs.length a.toNat).toNat (rawR l xs.length b.toNat).toNat from if_pos (by omega)]
 generalize rawR l xs.length a.toNat = R1 at *
 generalize rawR l xs.length b.toNat = R2 at *
 obtain ⟨r1, rfl⟩ : ∃ i : Nat, R1 = (i : Int) := ⟨R1.toNat, by omega⟩
 obtain ⟨r2, rfl⟩ : ∃ i : Nat, R2 = (i : Int) := ⟨R2.toNat, by omega⟩
 rw [Int.toNat_natCast, Int.toNat_natCast]
 obtain ⟨A, cap, A2, c2, h1, h2, h3, _⟩ := h.c
 obtain ⟨A', cap', k1, k2⟩ := h.k
 cases h1.symm.trans k1
 have hcl := h3.l
 have hsl := seg_len (xs := xs) (r1 := r1) (r2 := r2) (by omega)
 have i2 : (r1 : Int) ≤ (r2 : Int) := by omega
 have i3 : (r2 : Int) ≤ (cap : Int) := by omega
 obtain ⟨N, hN⟩ : ∃ q, xs.length = q := ⟨_, rfl⟩
 rcases k2 with ⟨rfl, rfl⟩ | ⟨bb, o, rfl⟩
 ·have hx : xs = [] := List.length_eq_zero_iff.1 (by omega)
  have e1 : r1 = 0 := by omega
  have e2 : r2 = 0 := by omega
  have CC := cloneB_any [] none 0 w (by_nil _ _ _) (by simp)
  rw [show seg xs r1 r2 = [] from by rw [hx]; simp [seg]]
  subst e1 e2 hx
  have h1 : w.cell? ⟨g, 0, none⟩ = some (.slice none 0 0) := h1
  clear h k1 h2 h3 hr hl hcl hsl hN hr1 hr2 hr12 hll
  go_enter Tryz.func35, Tryz.ntmps35
  go_wp2_with fail
  refine C1.mono ?_
  rintro e _ ⟨rfl, rfl⟩
  go_wp2_with fail
  refine C2.mono ?_
  rintro e _ ⟨rfl, rfl⟩
  go_wp2_with fail
  refine CC.mono ?_
  rintro e w2 ⟨v, rfl, ho, hb⟩
  have HB := Lib.hid (And.intro ho hb)
  clear ho hb
  go_wp2_with fail
  go_ret
  exact ⟨_, rfl, HB.out⟩
 ·have hs := BY.seg h3 (r1 := r1) (r2 := r2) (by omega) (by omega)
  by_cases hcz : cap - r1 = 0
  ·have e0 : r2 - r1 = 0 := by omega
   have es : seg xs r1 r2 = [] := List.length_eq_zero_iff.1 (by omega)
   have CC := cloneB_any [] (some ⟨bb, o, none⟩) 0 w (by_nil _ _ _) (by simp)
   rw [es]
   rw [hN] at h1
   clear h k1 h2 h3 hr hl hcl hsl hN hs es
   go_enter Tryz.func35, Tryz.ntmps35
   go_wp2_with fail
   refine C1.mono ?_
   rintro e _ ⟨rfl, rfl⟩
   go_wp2_with fail
   refine C2.mono ?_
   rintro e _ ⟨rfl, rfl⟩
   go_wp2_with fail
   refine CC.mono ?_
   rintro e w2 ⟨v, rfl, ho, hb⟩
   have HB := Lib.hid (And.intro ho hb)
   clear ho hb
   go_wp2_with fail
   go_ret
   exact ⟨_, rfl, HB.out⟩
  ·have CC := cloneB_any (seg xs r1 r2) _ _ w hs (by omega)
   rw [hsl] at CC
   rw [hN] at h1
   generalize seg xs r1 r2 = SG at *
   clear h k1 h2 h3 hr hl hcl hsl hN hs
   go_enter Tryz.func35, Tryz.ntmps35
   go_wp2_with fail
   refine C1.mono ?_
   rintro e _ ⟨rfl, rfl⟩
   go_wp2_with fail
   refine C2.mono ?_
   rintro e _ ⟨rfl, rfl⟩
   go_wp2_with fail
   refine CC.mono ?_
   rintro e w2 ⟨v, rfl, ho, hb⟩
   have HB := Lib.hid (And.intro ho hb)
   clear ho hb
   go_wp2_with fail
   go_ret
   exact ⟨_, rfl, HB.out⟩
def sB (l : List Nat) : ByteArray := ⟨(u8s l).toArray⟩
theorem sB_app (l m : List Nat) : sB l ++ sB m = sB (l ++ m) := by
 unfold sB u8s
 rw [List.map_append]
 apply ByteArray.ext
 simp
theorem sB_size (l : List Nat) : (sB l).size = l.length := by simp [sB, u8s, ByteArray.size]
theorem sB_nil : sB [] = ⟨#[]⟩ := rfl
theorem seg_app {xs : List Nat} {r1 r2 : Nat} (h : r1 ≤ r2) : seg xs 0 r1 ++ seg xs r1 r2 = seg xs 0 r2 := by
 unfold seg
 simp only [List.drop_zero, Nat.sub_zero]
 rw [show r2 = r1 + (r2 - r1) from by omega, List.take_add, show r1 + (r2 - r1) - r1 = r2 - r1 from by omega]
theorem seg_all (xs : List Nat) : seg xs 0 xs.length = xs := by simp [seg]
def farR (l : List IT) (N k : Nat) : Nat := (rawR l N (min k l.length)).toNat
theorem far_zero (l : List IT) (N : Nat) : farR l N 0 = 0 := by unfold farR; rw [Nat.zero_min, raw_zero]; rfl
theorem far_le {l : List IT} {N : Nat} (h : rise 0 l (N : Int)) (k : Nat) : farR l N k ≤ N := by
 unfold farR
 have := raw_rng h (i := min k l.length) (Nat.min_le_right _ _)
 omega
theorem far_next {xs : List Nat} {l : List IT} (h : rise 0 l (xs.length : Int)) {k : Nat} (hk : k ≤ l.length) : seg xs 0 (farR l xs.length k) ++ sliceL xs l (k : Int) ((k : Int) + 1) = seg xs 0 (farR l xs.length (k + 1)) := by
 by_cases hl : k + 1 ≤ l.length
 ·rw [show sliceL xs l (k : Int) ((k : Int) + 1) = seg xs (rawR l xs.length k).toNat (rawR l xs.length (k + 1)).toNat from by
   unfold sliceL
   rw [if_pos (by omega), show ((k : Int)).toNat = k from by omega, show ((k : Int) + 1).toNat = k + 1 from by omega]]
  unfold farR
  rw [Nat.min_eq_left hk, Nat.min_eq_left hl]
  exact seg_app (by
   have := raw_le h (i := k) (j := k + 1) (by omega) hl
   omega)
 ·rw [show sliceL xs l (k : Int) ((k : Int) + 1) = [] from by
   unfold sliceL
   rw [if_neg (by omega)]]
  rw [List.append_nil]
  unfold farR
  rw [Nat.min_eq_left hk, Nat.min_eq_right (by omega), show k = l.length from by omega]
def lastR (l : List IT) (N : Nat) : Nat → Int
 | 0 => -1
 | k + 1 => rawR l N k
theorem last_lt {l : List IT} {N k : Nat} (h : rise 0 l (N : Int)) (hk : k ≤ l.length) : lastR l N k < rawR l N k := by
 cases k with
 | zero =>
  rw [raw_zero]
  show (-1 : Int) < 0
  decide
 | succ k => exact raw_lt h (by omega) hk
theorem slice_len {xs : List Nat} {l : List IT} (_h : rise 0 l (xs.length : Int)) (a b : Int) : (sliceL xs l a b).length ≤ xs.length := by
 unfold sliceL
 split
 ·unfold seg
  simp
  omega
 ·simp
theorem backLaw (xs : List Nat) (A : Option Addr) (cap : Nat) (w : World) (hb : BY w w.heap.size xs A cap) (hM : G.MX w) (hT : S.Tabs w) :
  Calls Tryz.prog 10 #[.slice A xs.length cap] w fun e w' => e = .returned (.bool true) ∧ Below w.heap.size w w' := by
 have CW := fawake_any w hM hT
 have hcap := hb.l
 have hmx := hb.m
 by_cases hl : xs.length ≤ 300
 case neg =>
  obtain ⟨N, hN⟩ : ∃ q, xs.length = q := ⟨_, rfl⟩
  rw [hN] at hcap hl ⊢
  have i0 : (300 : Int) < (N : Int) := by omega
  have HC := Lib.hid CW
  clear CW hb hM hT hN hl
  go_enter Tryz.func10, Tryz.ntmps10
  go_wp2_with fail
  refine HC.out.mono ?_
  rintro e w1 ⟨rfl, b1⟩
  go_wp2_with fail
  go_ret
  exact ⟨rfl, b1⟩
 have CG := fun W (h : Below w.heap.size w W) => fnew_any xs A cap W (hb.on h) (by omega) (hM.on hM.pos h) (hT.below h (by have := hT.2; omega))
 have hrs := all_rise (bF xs) (eachL xs) es0 0 _ (eachL_tiles xs)
 obtain ⟨l, hAL⟩ : ∃ q, allI (bF xs) es0 (eachL xs) = q := ⟨_, rfl⟩
 simp only [hAL] at CG hrs
 have hln := rise_len _ _ _ hrs
 have hbx := fun W (h : Below w.heap.size w W) => conv_by (hb.on h)
 obtain ⟨N, hN⟩ : ∃ q, xs.length = q := ⟨_, rfl⟩
 obtain ⟨n, hn⟩ : ∃ q, l.length = q := ⟨_, rfl⟩
 have CF := fun W g (h : FL W W.heap.size g xs l) => And.intro (fun a => Raw_any g xs l W h (by omega) a) (And.intro (fun a => plain_any g xs l W h hrs (by omega) a) (And.intro (fslice_any g xs l W h hrs (by omega)) (flen_any g xs l W h)))
 have hi0 := hb.i
 have i0 : ¬ (300 : Int) < (N : Int) := by omega
 have HG := Lib.hid (And.intro CG (And.intro CF (And.intro hrs (And.intro hN (And.intro hn (And.intro hl (And.intro hbx hi0)))))))
 simp only [hN] at hcap ⊢
 clear CG CF hrs hln hbx hb hM hT hAL hl hi0
 go_enter Tryz.func10, Tryz.ntmps10
 go_wp2_with fail
 refine CW.mono ?_
 rintro e w1 ⟨rfl, b1⟩
 clear CW
 have CG := HG.out.1 w1 b1
 rw [HG.out.2.2.2.1] at CG
 have H1 := Lib.hid b1
 clear b1
 go_wp2_with fail
 refine CG.mono ?_
 rintro e w2 ⟨g, rfl, hf, b2⟩
 clear CG
 have CL := (HG.out.2.1 w2 g hf).2.2.2
 rw [HG.out.2.2.2.2.1] at CL
 have H2 := Lib.hid (And.intro hf (H1.out.trans (b2.mono H1.out.size)))
 clear hf b2
 go_wp2_with fail
 refine CL.mono ?_
 rintro e w2x ⟨rfl, e2⟩
 obtain rfl := e2.symm
 clear CL e2
 have hnl : n ≤ 300 := by
  have h1 := rise_len _ _ _ HG.out.2.2.1
  have h2 := HG.out.2.2.2.1
  have h3 := HG.out.2.2.2.2.1
  have h4 := HG.out.2.2.2.2.2.1
  omega
 have HN := Lib.hid hnl
 clear hnl
 go_wp2_with fail
 go_loopw [5, 6, 7] (fun s la i wr => ∃ k : Nat, k ≤ n + 1 ∧ i = .int .i64 (k : Int) ∧ s = .string (sB (seg xs 0 (farR l xs.length k))) ∧ la = .int .i64 (lastR l xs.length k) ∧ Below w2.heap.size w2 wr) (fun _ _ i _ => n + 2 - (RowKit.intOf i).toNat)
 case atStart => exact ⟨0, Nat.zero_le _, rfl, by rw [far_zero]; rfl, rfl, Below.refl _ _⟩
 case round =>
  obtain ⟨k, hk, rfl, rfl, rfl, hb⟩ := hrel
  have bw := H2.out.2.trans (hb.mono H2.out.2.size)
  by_cases hkn : k ≤ n
  case pos =>
   have i1 : (k : Int) ≤ (n : Int) := by omega
   have ik : (k : Int) ≤ 100000 := by have := HN.out; omega
   have hkl : k ≤ l.length := by rw [HG.out.2.2.2.2.1]; exact hkn
   have hf := H2.out.1.on hb
   have C1 := (HG.out.2.1 wr g hf).1 (k : Int)
   rw [if_pos (by omega), decide_eq_true (by omega), Int.toNat_natCast] at C1
   have hrr := raw_rng HG.out.2.2.1 hkl
   have C2 := (HG.out.2.1 wr g hf).2.1 (rawR l xs.length k)
   rw [show plainA l xs.length (rawR l xs.length k) = .tuple #[.int .i64 (k : Int), .bool true] from by
    unfold plainA
    rw [if_pos hrr, decide_eq_true hrr, plain_raw HG.out.2.2.1 hkl]] at C2
   have hlt := last_lt HG.out.2.2.1 hkl
   have hnx := far_next HG.out.2.2.1 hkl
   have hz1 := sB_size (seg xs 0 (farR l xs.length k))
   have hz2 : (seg xs 0 (farR l xs.length k)).length ≤ 300 := by
    rw [seg_len (far_le HG.out.2.2.1 k)]
    have h1 := far_le HG.out.2.2.1 k
    have h2 := HG.out.2.2.2.2.2.1
    omega
   have hz3 : (sliceL xs l (k : Int) ((k : Int) + 1)).length ≤ 300 := by
    have h1 := slice_len HG.out.2.2.1 (k : Int) ((k : Int) + 1)
    have h2 := HG.out.2.2.2.2.2.1
    omega
   have hz4 : (sB (seg xs 0 (farR l xs.length k))).size ≤ 300 := by omega
   have hz5 : (sB (sliceL xs l (k : Int) ((k : Int) + 1))).size ≤ 300 := by rw [sB_size]; exact hz3
   have hsb : ∀ x ∈ sliceL xs l (k : Int) ((k : Int) + 1), x < 256 := by
    intro x hx
    unfold sliceL at hx
    split at hx
    ·exact HG.out.2.2.2.2.2.2.2 x (List.mem_of_mem_drop (List.mem_of_mem_take hx))
    ·simp at hx
   have hst : sB (seg xs 0 (farR l xs.length k)) ++ sB (sliceL xs l (k : Int) ((k : Int) + 1)) = sB (seg xs 0 (farR l xs.length (k + 1))) := by rw [sB_app, hnx]
   have hR : lastR l xs.length (k + 1) = rawR l xs.length k := rfl
   have HK := Lib.hid (And.intro hf (And.intro hb (And.intro hsb (And.intro hst (And.intro hz5 hR)))))
   obtain ⟨R, hRR⟩ : ∃ q, rawR l xs.length k = q := ⟨_, rfl⟩
   obtain ⟨LA, hLA⟩ : ∃ q, lastR l xs.length k = q := ⟨_, rfl⟩
   obtain ⟨S1, hS1⟩ : ∃ q, sB (seg xs 0 (farR l xs.length k)) = q := ⟨_, rfl⟩
   simp only [hRR, hLA, hS1] at C1 C2 hlt hz4 HK ⊢
   have j1 : ¬ R ≤ LA := by omega
   have j2 : ((k : Int) == (k : Int)) = true := by simp
   have HR := Lib.hid hRR
   clear hf hb hsb hst hz1 hz2 hz3 hz5 hR hRR hLA hS1 hnx hrr hkl bw hlt
   go_wp2_with fail
   refine C1.mono ?_
   rintro e _ ⟨rfl, rfl⟩
   clear C1
   go_wp2_with fail
   refine C2.mono ?_
   rintro e w3 ⟨rfl, b3⟩
   clear C2
   have C3 := (HG.out.2.1 w3 g (HK.out.1.on b3)).2.2.1 (k : Int) ((k : Int) + 1)
   have H3 := Lib.hid b3
   clear b3
   go_wp2_with fail
   refine C3.mono ?_
   rintro e w4 ⟨v, rfl, ho, b4⟩
   clear C3
   obtain ⟨A4, c4, rfl, y4⟩ := OwnB.by ho HK.out.2.2.1
   have hcv := conv_by y4
   have hs5 : (convert 22 9 (.slice A4 (sliceL xs l (k : Int) ((k : Int) + 1)).length c4)).run Tryz.prog w4 = .ok (.string (sB (sliceL xs l (k : Int) ((k : Int) + 1)))) w4 := hcv
   have hz5 := HK.out.2.2.2.2.1
   have hst := HK.out.2.2.2.1
   obtain ⟨SL, hSL⟩ : ∃ q, sB (sliceL xs l (k : Int) ((k : Int) + 1)) = q := ⟨_, rfl⟩
   obtain ⟨q5, hq5⟩ : ∃ q, (sliceL xs l (k : Int) ((k : Int) + 1)).length = q := ⟨_, rfl⟩
   rw [hSL, hq5] at hs5
   rw [hSL] at hz5 hst
   rw [hq5]
   have b24 := HK.out.2.1.trans ((H3.out.trans (b4.mono H3.out.size)).mono HK.out.2.1.size)
   have hend : ∃ j : Nat, j ≤ n + 1 ∧ Value.int .i64 ((k : Int) + 1) = .int .i64 (j : Int) ∧ Value.string (S1 ++ SL) = .string (sB (seg xs 0 (farR l xs.length j))) ∧ Value.int .i64 R = .int .i64 (lastR l xs.length j) ∧ Below w2.heap.size w2 w4 :=
    ⟨k + 1, by omega, by simp, by rw [hst], by rw [HK.out.2.2.2.2.2], b24⟩
   have HEND := Lib.hid hend
   clear hend hcv ho b4 y4 hst hSL hq5 b24
   go_wp2_with fail
   go_roundw
   case rel => exact HEND.out
   case measure => simp [RowKit.intOf]; omega
  case neg =>
   obtain rfl : k = n + 1 := by omega
   have i1 : ¬ ((n + 1 : Nat) : Int) ≤ (n : Int) := by omega
   have hcx := HG.out.2.2.2.2.2.2.1 wr bw
   have hcx' : (convert 22 9 (.slice A xs.length cap)).run Tryz.prog wr = .ok (.string (sB xs)) wr := hcx
   rw [HG.out.2.2.2.1] at hcx'
   have hfe : farR l xs.length (n + 1) = if n = 0 then 0 else xs.length := by
    unfold farR
    rw [Nat.min_eq_right (by have := HG.out.2.2.2.2.1; omega)]
    split
    ·rename_i h0
     have h1 : l.length = 0 := by have := HG.out.2.2.2.2.1; omega
     rw [h1, raw_zero]
     rfl
    ·rw [raw_end _ (by have := HG.out.2.2.2.2.1; omega)]
     omega
   rw [hfe]
   by_cases h0 : n = 0
   ·subst h0
    rw [if_pos rfl, show sB (seg xs 0 0) = ⟨#[]⟩ from rfl]
    have HB := Lib.hid bw
    obtain ⟨SX, hSX⟩ : ∃ q, sB xs = q := ⟨_, rfl⟩
    rw [hSX] at hcx'
    clear hb bw hcx hfe hSX
    cases hq : ((#[] : Array UInt8).toList == SX.toList)
    all_goals
     go_wp2_with fail
     go_ret
     exact ⟨by first | rfl | simp [hq], HB.out⟩
   ·rw [if_neg h0, seg_all]
    have HB := Lib.hid bw
    obtain ⟨SX, hSX⟩ : ∃ q, sB xs = q := ⟨_, rfl⟩
    rw [hSX] at hcx'
    rw [hSX]
    have hq : (SX.toList == SX.toList) = true := by simp
    clear hb bw hcx hfe hSX
    go_wp2_with fail
    go_ret
    exact ⟨rfl, HB.out⟩
end Go.Proofs.YtfafhbgkmlmmdaaGreatDoor.K
namespace Go.Proofs.YtfafhbgkmlmmdaaGreatDoor
open Go.ChangeShapes Go.WideShapes Go.ChangeAt Go.RowKit Go.Shelf
open Go.Lib
open Go.ChangeMaps (open_string shut_string)
theorem flatBack_lifted (os : Os) (started : os.Started) (H : Type) (enc : TypeId × Value → H) :
  ReturnsInHanded {} Tryz.checked os 10 .any (fun w args => (Rows.flatBackSpec.pre enc Tryz.prog Tryz.f10 [] false w args ∧ laidMetH Tryz.prog laidAll7 w) ∧ sizedMet enc Tryz.prog Tryz.f10 (OpenSpec.ofChange Rows.flatBackSpec) false w args)
   (Rows.flatBackSpec.post enc Tryz.prog Tryz.f10 false true false false) := by
 refine handed_laid (C := Tryz.checked) (X := fun w _ => laidMetH Tryz.prog laidAll7 w) (fun _ _ _ hh h => h.of_heap hh) own started (by kernel_rfl) Tryz.func10
  (ChangeSpec.witness_shaped (enc := enc) (C := Tryz.checked) (os := os) (X := fun w _ => laidMetH Tryz.prog laidAll7 w) false (World.laidAll Tryz.prog os laidAll7) #[.slice none 0 0] 8 (World.laidAll_os _ _ _)
   (World.shaped_of_ZipB (by kernel_rfl) (by kernel_rfl)) (by kernel_rfl) (by kernel_rfl) (by kernel_rfl)
   (by rw [MakeChecks.laidMetH_plain _ _ _ (by kernel_rfl)]; exact laidMet_laidAll _ (by kernel_rfl) (by kernel_rfl))) ?_
 intro W base args ds gs before hsh hval0 hW hL _
 have hval : ∀ (j : Nat) t v, Tryz.f10.params[j]? = some t → args[j]? = some v → Value.okWide Tryz.prog W .any base t v := hval0
 have hW' := hW
 obtain ⟨p, q, hA0, hV, rfl, _, _⟩ := hW
 have hA : DataW.TrodAll enc Tryz.prog W 0 (fun _ => true) true Tryz.f10.params.toList args.toList ds p := hA0
 rw [Tryz.params10] at hA hval
 obtain ⟨v0, vs0, d0, ds0, p0, q0, hargs, rfl, rfl, h0, r0⟩ := trodAll_cons hA
 obtain ⟨rfl, rfl, rfl⟩ := trodAll_nil r0
 obtain rfl : args = #[v0] := by cases args; simp_all
 obtain ⟨rfl, rfl⟩ := trodVars_none hV
 have t0 := h0
 have lt0 : ∀ x ∈ p0, x.block < W.heap.size := by obtain ⟨m, hm⟩ := t0; exact DataW.trod_lt m _ _ _ hm
 obtain ⟨xs0, A0, cap0, rfl, hB0⟩ := by_of_arg (hval 0 22 v0 rfl rfl) h0
 rw [MakeChecks.laidMetH_plain _ _ _ (by kernel_rfl)] at hL
 have hT : S.Tabs W := tabs_of_reads (Lib.laidMet.reads hL (.tail _ (.tail _ (.tail _ (.tail _ (.tail _ (.tail _ (.head _)))))))) (Lib.laidMet.reads hL (.tail _ (.tail _ (.tail _ (.head _))))) (five_of_reads (Lib.laidMet.reads hL (.tail _ (.head _))))
 have hM : G.MX W := mx_of_shape hsh
 clear hA0 hval0
 refine (K.backLaw xs0 A0 cap0 W hB0 hM hT).mono fun e W' ⟨he, bel⟩ => ?_
 subst he
 exact ⟨_, rfl, _, _, _, [], _, [], hW', trodAll_mk1 (shut_bool Tryz.underlying4 _), (trodAll_cons_mk (Below.trod laidOut (by kernel_rfl) (of_decide_eq_true (by kernel_rfl)) t0 bel lt0) trodAll_mk0), rfl, bel.frame _, fun h => by cases h⟩
theorem flatBack_row : Rows.FlatBackSaid :=
 OpenClaim.holds_of_wide 10 Tryz.f10 rfl rfl rfl rfl rfl rfl rfl ⟨rfl, rfl, rfl, rfl, rfl⟩ rfl rfl rfl rfl rfl (by kernel_rfl) Tryz.func10 (by kernel_rfl)
  (of_decide_eq_true (by kernel_rfl)) (by unfold Func.isWrapper; first | (rw [if_pos (by decide +kernel)]; kernel_rfl) | (rw [if_neg (by decide +kernel)]; exact ⟨rfl, rfl⟩))
  (fun os started H enc _ => flatBack_lifted os started H enc)
theorem flatBack_holds : Rows.FlatBackCardSaid :=
 Claim7.holds_tied_plain_at .later [] [.data, .data, .data, .data, .sentinel, .sentinel, .pinned] true (true, "9dd68da2afada65e5683af715fdfcd92f67a78b54cba878728521e19227f40a4") true
  flatBack_row (fun _ h => by cases h) (by kernel_rfl) (fun _ h => by cases h) flatBack_row_tie rfl ⟨rfl, rfl⟩ (by kernel_rfl) rfl
  (fun f fn hf hfn => by
   obtain rfl : f = 10 := Option.some.inj ((show Tryz.prog.funcNamed Rows.flatBackRow.func = some 10 by kernel_rfl).symm.trans hf) |>.symm
   obtain rfl : fn = Tryz.f10 := (Option.some.inj (Tryz.func10.symm.trans hfn)).symm
   exact ⟨by kernel_rfl, fun j t ht => by
    rw [Tryz.params10] at ht
    have hm : t ∈ [22] := by simpa using Array.mem_of_getElem? ht
    have hall : ([22].all fun u => !Tryz.prog.wantsStandIn u) = true := by kernel_rfl
    exact (show Tryz.prog.wantsStandIn t = false by simpa using List.all_eq_true.1 hall t hm)⟩)
  (by kernel_rfl)
#print axioms flatBack_holds
end Go.Proofs.YtfafhbgkmlmmdaaGreatDoor
