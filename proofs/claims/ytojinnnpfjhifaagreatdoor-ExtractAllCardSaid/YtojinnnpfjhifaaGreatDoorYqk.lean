/-
  
  
  
  
  
-/
import Derived.Test.YtojinnnpfjhifaaGreatDoorYqj
import Derived.Deep.RegionLaw
import Derived.Deep.CutRange
import Derived.StillTailTactics
import Derived.Lib.QuietBelow
import Derived.BigQuiet
namespace Go.Proofs.YtojinnnpfjhifaaGreatDoor
open Go.RowKit Go.Shelf Go.Lib Go.Maps Go.Great
attribute [local irreducible] NR ZNR FR nmE
def markT (xs : List Nat) (k : Nat) : Option TK := match G.rdT (xs.drop k) with
 | some T => some ⟨T.kind + 2, k, k + T.size, T.name, 0, T.single⟩
 | none => if 0 < (readE xs k).2 then some ⟨1, k, k + (readE xs k).2, [], (readE xs k).1, false⟩
  else if 0 < (readT (xs.drop k)).size then some ⟨6, k, k + (readT (xs.drop k)).size, [], 0, false⟩ else none
theorem readS_le {ys : List Nat} : ∀ (L : List Sty), (readS L ys).2 ≤ ys.length
 | [] => Nat.zero_le _
 | s :: r => by
  obtain ⟨m, wh, e⟩ : ∃ m wh, followR s.beg s.may ys = (m, wh) := ⟨_, _, rfl⟩
  cases wh with
  | false => rw [readS_no (by rw [e])]; exact readS_le r
  | true => rw [readS_yes e]; exact (follow_true e).2
theorem readE_le (xs : List Nat) (k : Nat) (hk : k ≤ xs.length) : k + (readE xs k).2 ≤ xs.length := by
 unfold readE
 split
 ·omega
 ·split
  ·have := readS_le (ys := xs.drop k) styL
   rw [List.length_drop] at this
   show k + (readS styL (xs.drop (Int.toNat (k : Int)))).2 ≤ _
   rw [Int.toNat_natCast]
   omega
  ·omega
theorem mark_to {xs : List Nat} {k : Nat} {x : TK} (hk : k ≤ xs.length) (h : markT xs k = some x) : x.fr = k ∧ k < x.to ∧ x.to ≤ xs.length ∧ 1 ≤ x.kind ∧ x.kind < 7 := by
 unfold markT at h
 split at h
 ·rename_i T hT
  obtain ⟨h1, h2, h3⟩ := rdT_facts hT
  rw [List.length_drop] at h3
  cases h
  exact ⟨rfl, by show k < k + T.size; omega, by show k + T.size ≤ _; omega, by show 1 ≤ T.kind + 2; omega, by show T.kind + 2 < 7; omega⟩
 ·split at h
  ·have := readE_le xs k hk
   cases h
   exact ⟨rfl, by show k < k + _; omega, this, Nat.le_refl _, by show 1 < 7; omega⟩
  ·split at h
   ·have := (readT_size (xs.drop k)).1
    rw [List.length_drop] at this
    cases h
    exact ⟨rfl, by show k < k + _; omega, by show k + _ ≤ _; omega, by show 1 ≤ 6; omega, by show 6 < 7; omega⟩
   ·cases h
theorem BY.g {w : World} {B : Nat} {xs : List Nat} {A : Option Addr} {cap : Nat} (h : BY w B xs A cap) : G.BY w B xs A cap := ⟨h.l, h.m, h.z, h.i, h.r⟩
set_option maxHeartbeats 8000000 in
set_option maxRecDepth 100000 in
theorem mark_any (xs : List Nat) (A : Option Addr) (cap : Nat) (k : Nat) (w : World) (hM : G.MX w) (hT : S.Tabs w) (hx : BY w w.heap.size xs A cap) (hl : xs.length ≤ 100000) (hk : k ≤ xs.length) :
  Calls Tryz.prog 55 #[.slice A xs.length cap, .int .i64 (k : Int)] w fun e w' => e = .returned (.tuple #[tokV ((markT xs k).getD tkZ), .bool (markT xs k).isSome]) ∧ Below w.heap.size w w' := by
 have b1 := below_new w (.cells #[.int .i64 0, .int .i64 0, .int .i64 0, .string ⟨#[]⟩, .int .i32 0, .bool false] 40)
 obtain ⟨W1, hW1⟩ : ∃ W, w.alloc (.cells #[.int .i64 0, .int .i64 0, .int .i64 0, .string ⟨#[]⟩, .int .i32 0, .bool false] 40) = W := ⟨_, rfl⟩
 have x1 : Cells W1 w.heap.size 40 #[.int .i64 0, .int .i64 0, .int .i64 0, .string ⟨#[]⟩, .int .i32 0, .bool false] := by rw [← hW1]; exact cells_new _ _ _
 rw [hW1] at b1
 have C1 := G.read_any xs A cap (k : Int) W1 (hM.on hM.pos b1) ((hx.on b1).g) hl
 have hrd : G.rdAt xs (k : Int) = G.rdT (xs.drop k) := by unfold G.rdAt; rw [if_neg (by omega), Int.toNat_natCast]
 rw [hrd] at C1
 obtain ⟨O, hO⟩ : ∃ o, G.rdT (xs.drop k) = o := ⟨_, rfl⟩
 obtain ⟨MT, hMT⟩ : ∃ o, markT xs k = o := ⟨_, rfl⟩
 rw [hO] at C1
 rw [hMT]
 have hle := readE_le xs k hk
 have hrt := (readT_size (xs.drop k)).1
 have hmk := fun x => mark_to (x := x) hk
 obtain ⟨N, hN⟩ : ∃ N, xs.length = N := ⟨_, rfl⟩
 rw [List.length_drop, hN] at hrt
 rw [hN] at C1 hl hk hle hmk ⊢
 have HH := Lib.hid (And.intro C1 (And.intro b1 (And.intro x1 (And.intro hM (And.intro hT (And.intro hx (And.intro hO (And.intro hMT (And.intro hN (And.intro hle (And.intro hrt hmk)))))))))))
 clear C1 b1 x1 hM hT hx hO hMT hN hle hrt hmk hrd
 go_enter Tryz.func55, Tryz.ntmps55
 go_wp2_with fail
 refine HH.out.1.mono ?_
 rintro e w2 ⟨v, rfl, hown, hb2⟩
 obtain ⟨A9, n9, c9, rfl⟩ := hown.slice
 have bw2 := HH.out.2.1.trans (hb2.mono HH.out.2.1.size)
 have x2 := HH.out.2.2.1.on hb2
 clear hown hb2 hW1
 cases O with
 | some T =>
  obtain ⟨f1, f2, f3⟩ := rdT_facts HH.out.2.2.2.2.2.2.1
  rw [List.length_drop, HH.out.2.2.2.2.2.2.2.2.1] at f3
  have hmt : MT = some ⟨T.kind + 2, k, k + T.size, T.name, 0, T.single⟩ := by
   rw [← HH.out.2.2.2.2.2.2.2.1, markT, HH.out.2.2.2.2.2.2.1]
  simp only [Option.getD_some, Option.isSome_some]
  unfold G.tagV
  obtain ⟨kd, hkd⟩ : ∃ n, T.kind = n := ⟨_, rfl⟩
  obtain ⟨sz, hsz⟩ : ∃ n, T.size = n := ⟨_, rfl⟩
  obtain ⟨sg, hsg⟩ : ∃ n, T.single = n := ⟨_, rfl⟩
  obtain ⟨cl, hcl⟩ : ∃ n, T.closed = n := ⟨_, rfl⟩
  obtain ⟨nm, hnm⟩ : ∃ n, T.name = n := ⟨_, rfl⟩
  rw [hkd] at f1
  rw [hsz] at f3
  rw [hkd, hsz, hnm, hsg] at hmt
  rw [hkd, hsz, hsg, hcl, hnm]
  unfold G.strV
  obtain ⟨SN, hSN⟩ : ∃ Sx : ByteArray, ⟨(G.u8s nm).toArray⟩ = Sx := ⟨_, rfl⟩
  rw [hSN]
  have KT := fun W => ofTag_any kd f1 W
  have HM := Lib.hid (And.intro hmt (And.intro hSN KT))
  clear hmt hSN KT hkd hsz hsg hcl hnm
  have HB := Lib.hid (And.intro bw2 x2)
  clear bw2 x2
  go_upto_region 3 with fail
  generalize hW3 : w2.alloc (.cells #[.int .i64 (kd : Int), .int .i64 (sz : Int), .string SN, .slice A9 n9 c9, .bool sg, .bool cl] 117) = W3
  have b3 : Below w2.heap.size w2 W3 := by rw [← hW3]; exact below_new _ _
  have x3 : Cells W3 w2.heap.size 117 #[.int .i64 (kd : Int), .int .i64 (sz : Int), .string SN, .slice A9 n9 c9, .bool sg, .bool cl] := by rw [← hW3]; exact cells_new _ _ _
  have t3 := HB.out.2.on b3
  have bw3 := HB.out.1.trans (b3.mono HB.out.1.size)
  have p0 := x3.cell 0
  have p1 := x3.cell 1
  have p2 := x3.cell 2
  have p4 := x3.cell 4
  have q0 := t3.cell 0
  have q1 := t3.cell 1
  have q2 := t3.cell 2
  have q3 := t3.cell 3
  have q4 := t3.cell 4
  have q5 := t3.cell 5
  have g0 := t3.froz 0
  have g1 := t3.froz 1
  have g2 := t3.froz 2
  have g3 := t3.froz 3
  have g4 := t3.froz 4
  have g5 := t3.froz 5
  simp at p0 p1 p2 p4 q0 q1 q2 q3 q4 q5
  have H3 := Lib.hid (And.intro bw3 t3)
  have HW3 := Lib.hid hW3
  clear b3 x3 t3 bw3 hW3
  have hkm : (k : Int) + (sz : Int) ≤ 200000 := by omega
  have hk0 : 0 ≤ (k : Int) := by omega
  have hs0 : 0 ≤ (sz : Int) := by omega
  refine wp_region_still_tail 13 (by kernel_rfl) (by kernel_rfl) ?_
  simp only [List.take_succ_cons, List.take_zero, List.drop_succ_cons, List.drop_zero]
  repeat still_step
  still_call (HM.out.2.2 W3.drew)
  repeat still_step
  refine wpStill_nil ?_
  change wpList _ _ _ _ _ W3.drew
  go_wp2_with fail
  refine bodyPost_ret (v := .tuple #[tokV (MT.getD tkZ), .bool MT.isSome]) ?_ rfl ⟨rfl, ?_⟩
  ·rw [HM.out.1, ← HM.out.2.1]
   simp [results, Tryz.results55, go_sem, q0, q1, q2, q3, q4, q5, tokV, tokC]
  ·exact ((((((H3.out.1.setc (Nat.le_refl _) 0 _).setc (Nat.le_refl _) 1 _).setc (Nat.le_refl _) 2 _).setc (Nat.le_refl _) 3 _).setc (Nat.le_refl _) 4 _).setc (Nat.le_refl _) 5 _).drew
 | none =>
  simp only [Option.getD_none, Option.isSome_none]
  unfold G.tg0 G.tagV G.strV
  have C2 := fun W (hb : Below w.heap.size w W) => readE_any W (HH.out.2.2.2.2.1.below hb (by have := HH.out.2.2.2.2.1.2; omega)) xs A cap (HH.out.2.2.2.2.2.1.on hb) (k : Int) (by omega) (by omega)
  have C3 := fun W (hb : Below w.heap.size w W) => read_any xs A cap (k : Int) W (HH.out.2.2.2.2.2.1.on hb)
  rw [HH.out.2.2.2.2.2.2.2.2.1] at C2 C3
  have hra : readAt xs (k : Int) = readT (xs.drop k) := by unfold readAt; rw [if_neg (by omega), Int.toNat_natCast]
  rw [hra] at C3
  have hmt : MT = if 0 < (readE xs k).2 then some ⟨1, k, k + (readE xs k).2, [], (readE xs k).1, false⟩ else if 0 < (readT (xs.drop k)).size then some ⟨6, k, k + (readT (xs.drop k)).size, [], 0, false⟩ else none := by
   rw [← HH.out.2.2.2.2.2.2.2.1, markT, HH.out.2.2.2.2.2.2.1]
  have h1 := HH.out.2.2.2.2.2.2.2.2.2.1
  have h2 := HH.out.2.2.2.2.2.2.2.2.2.2.1
  obtain ⟨RE, hRE⟩ : ∃ v, readE xs k = v := ⟨_, rfl⟩
  obtain ⟨ES, hES⟩ : ∃ v, readT (xs.drop k) = v := ⟨_, rfl⟩
  rw [hRE] at C2 hmt h1
  rw [hES] at C3 hmt h2
  obtain ⟨r1, n1⟩ := RE
  obtain ⟨s1, wh1, op1, la1⟩ := ES
  unfold escV at C3
  dsimp only at C2 C3 hmt h1 h2
  have HC := Lib.hid (And.intro C2 (And.intro C3 hmt))
  clear C2 C3 hmt hra hRE hES
  have HB := Lib.hid (And.intro bw2 x2)
  clear bw2 x2
  go_upto_region 4 with fail
  generalize hW3 : w2.alloc (.cells _ 117) = W3
  have b3 : Below w2.heap.size w2 W3 := by rw [← hW3]; exact below_new _ _
  have bw3 := HB.out.1.trans (b3.mono HB.out.1.size)
  have H3 := Lib.hid (And.intro bw3 (HB.out.2.on b3))
  have C2 := HC.out.1 W3 bw3
  clear hW3 b3 bw3
  go_wp2_with fail
  refine C2.mono ?_
  rintro e w4 ⟨rfl, hb4⟩
  have bw4 := H3.out.1.trans (hb4.mono H3.out.1.size)
  have x4 := H3.out.2.on hb4
  have H4 := Lib.hid (And.intro bw4 x4)
  clear hb4 C2
  by_cases hn : 0 < n1
  ·have i1 : (0 : Int) < (n1 : Int) := by omega
   have i2 : (k : Int) + (n1 : Int) ≤ 200000 := by omega
   have hmt := HC.out.2.2
   rw [if_pos hn] at hmt
   have HM := Lib.hid hmt
   have q0 := x4.cell 0
   have q1 := x4.cell 1
   have q2 := x4.cell 2
   have q3 := x4.cell 3
   have q4 := x4.cell 4
   have q5 := x4.cell 5
   have g0 := x4.froz 0
   have g1 := x4.froz 1
   have g2 := x4.froz 2
   have g3 := x4.froz 3
   have g4 := x4.froz 4
   have g5 := x4.froz 5
   simp at q0 q1 q2 q3 q4 q5
   clear bw4 x4 hmt hn
   go_wp2_with fail
   refine bodyPost_ret (v := .tuple #[tokV (MT.getD tkZ), .bool MT.isSome]) ?_ rfl ⟨rfl, ?_⟩
   ·rw [HM.out]
    simp [results, Tryz.results55, go_sem, q0, q1, q2, q3, q4, q5, tokV, tokC, G.u8s]
   ·exact (((((H4.out.1.setc (Nat.le_refl _) 0 _).setc (Nat.le_refl _) 1 _).setc (Nat.le_refl _) 2 _).setc (Nat.le_refl _) 3 _).setc (Nat.le_refl _) 4 _).setc (Nat.le_refl _) 5 _
  ·have i1 : ¬ (0 : Int) < (n1 : Int) := by omega
   have hmt := HC.out.2.2
   rw [if_neg hn] at hmt
   have C3 := HC.out.2.1 w4 bw4
   clear bw4 x4 hn
   go_wp2_with fail
   refine C3.mono ?_
   rintro e w5 ⟨rfl, hb5⟩
   have bw5 := H4.out.1.trans (hb5.mono H4.out.1.size)
   have x5 := H4.out.2.on hb5
   clear hb5 C3
   have H5 := Lib.hid (And.intro bw5 x5)
   clear bw5 x5
   go_upto_region 8 with fail
   generalize hW6 : w5.alloc (.cells #[.int .i64 (s1 : Int), .bool wh1, .bool op1, .int .u8 (la1 : Int)] 120) = W6
   have b6 : Below w5.heap.size w5 W6 := by rw [← hW6]; exact below_new _ _
   have e6 : Cells W6 w5.heap.size 120 #[.int .i64 (s1 : Int), .bool wh1, .bool op1, .int .u8 (la1 : Int)] := by rw [← hW6]; exact cells_new _ _ _
   have x6 := H5.out.2.on b6
   have H6 := Lib.hid (H5.out.1.trans (b6.mono H5.out.1.size))
   have p0 := e6.cell 0
   have q0 := x6.cell 0
   have q1 := x6.cell 1
   have q2 := x6.cell 2
   have q3 := x6.cell 3
   have q4 := x6.cell 4
   have q5 := x6.cell 5
   have g0 := x6.froz 0
   have g1 := x6.froz 1
   have g2 := x6.froz 2
   have g3 := x6.froz 3
   have g4 := x6.froz 4
   have g5 := x6.froz 5
   simp at q0 q1 q2 q3 q4 q5 p0
   clear b6 e6 x6 hW6
   by_cases hs : 0 < s1
   ·have i3 : (0 : Int) < (s1 : Int) := by omega
    have i4 : (k : Int) + (s1 : Int) ≤ 200000 := by omega
    rw [if_pos hs] at hmt
    have HM := Lib.hid hmt
    clear hmt hs
    go_wp2_with fail
    refine bodyPost_ret (v := .tuple #[tokV (MT.getD tkZ), .bool MT.isSome]) ?_ rfl ⟨rfl, ?_⟩
    ·rw [HM.out]
     simp [results, Tryz.results55, go_sem, q0, q1, q2, q3, q4, q5, tokV, tokC, G.u8s]
    ·exact (((((H6.out.setc (Nat.le_refl _) 0 _).setc (Nat.le_refl _) 1 _).setc (Nat.le_refl _) 2 _).setc (Nat.le_refl _) 3 _).setc (Nat.le_refl _) 4 _).setc (Nat.le_refl _) 5 _
   ·have i3 : ¬ (0 : Int) < (s1 : Int) := by omega
    rw [if_neg hs] at hmt
    have HM := Lib.hid hmt
    clear hmt hs
    go_wp2_with fail
    refine bodyPost_ret (v := .tuple #[tokV (MT.getD tkZ), .bool MT.isSome]) ?_ rfl ⟨rfl, ?_⟩
    ·rw [HM.out]
     simp [results, Tryz.results55, go_sem, q0, q1, q2, q3, q4, q5, tokV, tokC, tkZ, G.u8s]
    ·exact (((((H6.out.setc (Nat.le_refl _) 0 _).setc (Nat.le_refl _) 1 _).setc (Nat.le_refl _) 2 _).setc (Nat.le_refl _) 3 _).setc (Nat.le_refl _) 4 _).setc (Nat.le_refl _) 5 _
end Go.Proofs.YtojinnnpfjhifaaGreatDoor

namespace Go.Proofs.YtojinnnpfjhifaaGreatDoor
open Go.RowKit Go.Shelf Go.Lib Go.Maps Go.Great
attribute [local irreducible] NR ZNR FR nmE
def endR (xs nm : List Nat) : Bool := match G.rdT (xs.take (nm.length + 3)) with
 | some T => decide (T.kind = 1) && (G.u8s T.name == G.u8s nm)
 | none => false
set_option maxHeartbeats 8000000 in
set_option maxRecDepth 100000 in
theorem endsRaw_any (xs : List Nat) (a : Addr) (cap : Nat) (nm : List Nat) (w : World) (hM : G.MX w) (hx : BY w w.heap.size xs (some a) cap) (hl : xs.length ≤ 100000) (hnm : nm.length ≤ 1000) (h0 : 0 < xs.length) :
  Calls Tryz.prog 68 #[.slice (some a) xs.length cap, .string ⟨(G.u8s nm).toArray⟩] w fun e w' => e = .returned (.bool (endR xs nm)) ∧ Below w.heap.size w w' := by
 have hcap := hx.l
 have hmx := hx.m
 unfold maxLen at hmx
 have hsz : (⟨(G.u8s nm).toArray⟩ : ByteArray).size = nm.length := by simp [ByteArray.size, G.u8s_len]
 obtain ⟨m, hm⟩ : ∃ m, min (nm.length + 3) xs.length = m := ⟨_, rfl⟩
 have htk : xs.take (nm.length + 3) = xs.take m := by
  rw [← hm]
  by_cases h : nm.length + 3 ≤ xs.length
  ·rw [Nat.min_eq_left h]
  ·rw [Nat.min_eq_right (by omega), List.take_length, List.take_of_length_le (by omega)]
 have hml : (xs.take m).length = m := by rw [List.length_take]; omega
 have C := G.read_any (xs.take m) (some a) cap 0 w hM ((hx.take m).g) (by omega)
 rw [hml] at C
 have hrd : G.rdAt (xs.take m) 0 = G.rdT (xs.take m) := rfl
 rw [hrd] at C
 obtain ⟨O, hO⟩ : ∃ o, G.rdT (xs.take m) = o := ⟨_, rfl⟩
 rw [hO] at C
 obtain ⟨ER, hER⟩ : ∃ b, endR xs nm = b := ⟨_, rfl⟩
 have hE := hER
 unfold endR at hE
 rw [htk, hO] at hE
 rw [hER]
 obtain ⟨SN, hSN⟩ : ∃ Sx : ByteArray, ⟨(G.u8s nm).toArray⟩ = Sx := ⟨_, rfl⟩
 rw [hSN] at hsz ⊢
 obtain ⟨N, hN⟩ : ∃ N, xs.length = N := ⟨_, rfl⟩
 obtain ⟨K, hK⟩ : ∃ K, nm.length = K := ⟨_, rfl⟩
 rw [hN] at hm hl hcap h0 ⊢
 rw [hK] at hm hsz hnm
 have i1 : (m : Int) = min ((K : Int) + 3) (N : Int) := by omega
 have i2 : 2 + (K : Int) + 1 = (K : Int) + 3 := by omega
 have hmc : m ≤ cap := by omega
 have hm0 : 0 < cap := by omega
 have HH := Lib.hid (And.intro C (And.intro hE hSN))
 clear C hE hSN hER htk hrd hO hml hx hM
 go_enter Tryz.func68, Tryz.ntmps68
 go_upto_region 2 with fail
 have i3 : (min ((K : Int) + 3) (N : Int)).toNat = m := by omega
 go_wp2_with fail
 refine HH.out.1.mono ?_
 rintro e w2 ⟨v, rfl, hown, hb2⟩
 obtain ⟨A9, n9, c9, rfl⟩ := hown.slice
 have HB := Lib.hid hb2
 clear hown hb2
 have hE := HH.out.2.1
 have b3 := below_new w2 (.cells #[.int .i64 (((O.getD G.tg0).kind : Nat) : Int), .int .i64 (((O.getD G.tg0).size : Nat) : Int), .string ⟨(G.u8s (O.getD G.tg0).name).toArray⟩, .slice A9 n9 c9, .bool (O.getD G.tg0).single, .bool (O.getD G.tg0).closed] 117)
 have x3 := cells_new w2 #[.int .i64 (((O.getD G.tg0).kind : Nat) : Int), .int .i64 (((O.getD G.tg0).size : Nat) : Int), .string ⟨(G.u8s (O.getD G.tg0).name).toArray⟩, .slice A9 n9 c9, .bool (O.getD G.tg0).single, .bool (O.getD G.tg0).closed] 117
 unfold G.tagV G.strV
 obtain ⟨T, hT⟩ : ∃ t, O.getD G.tg0 = t := ⟨_, rfl⟩
 obtain ⟨ok, hok⟩ : ∃ t, O.isSome = t := ⟨_, rfl⟩
 rw [hT] at b3 x3 ⊢
 rw [hok]
 have hE2 : (ok && (decide (T.kind = 1) && (G.u8s T.name == G.u8s nm))) = ER := by
  rw [← hE, ← hok, ← hT]
  cases O with
  | none => rfl
  | some t => rfl
 obtain ⟨BQ, hBQ⟩ : ∃ b, (G.u8s T.name == G.u8s nm) = b := ⟨_, rfl⟩
 rw [hBQ] at hE2
 obtain ⟨ST, hST⟩ : ∃ Sx : ByteArray, ⟨(G.u8s T.name).toArray⟩ = Sx := ⟨_, rfl⟩
 rw [hST] at b3 x3 ⊢
 have hq : (ST.toList == SN.toList) = BQ := by
  rw [← hST, ← HH.out.2.2]
  have e1 : (⟨(G.u8s T.name).toArray⟩ : ByteArray).toList = G.u8s T.name := by simp
  have e2 : (⟨(G.u8s nm).toArray⟩ : ByteArray).toList = G.u8s nm := by simp
  rw [e1, e2]
  exact hBQ
 obtain ⟨kd, hkd⟩ : ∃ n, T.kind = n := ⟨_, rfl⟩
 rw [hkd] at b3 x3 hE2 ⊢
 generalize (T.size : Int) = sz at *
 generalize T.single = sg at *
 generalize T.closed = cl at *
 have HX := Lib.hid (And.intro (HB.out.trans (b3.mono HB.out.size)) (And.intro x3 hE2))
 clear b3 x3 hE2 hBQ hST hkd hT hok hE
 go_upto_region 3 with fail
 have p0 := HX.out.2.1.cell 0
 have p2 := HX.out.2.1.cell 2
 have hlt := HX.out.2.1.lt
 simp at p0 p2 hlt
 cases ok with
 | false =>
  go_wp2_with fail
  go_ret
  exact ⟨by rw [← HX.out.2.2]; first | rfl | simp, HX.out.1⟩
 | true =>
  by_cases h1 : kd = 1
  ·have d1 : ((kd : Int) == 1) = true := by simp; omega
   have e3 : decide (kd = 1) = true := by simpa using h1
   have HE := Lib.hid e3
   clear h1 e3
   go_wp2_with fail
   go_ret
   exact ⟨by rw [← HX.out.2.2, HE.out]; first | rfl | simp, HX.out.1⟩
  ·have d1 : ((kd : Int) == 1) = false := by simp; omega
   have e3 : decide (kd = 1) = false := by simpa using h1
   have HE := Lib.hid e3
   clear h1 e3
   go_wp2_with fail
   go_ret
   exact ⟨by rw [← HX.out.2.2, HE.out]; first | rfl | simp, HX.out.1⟩
end Go.Proofs.YtojinnnpfjhifaaGreatDoor

namespace Go.Proofs.YtojinnnpfjhifaaGreatDoor
open Go.RowKit Go.Shelf Go.Lib Go.Maps Go.Great
open Go.Sort (grow)
attribute [local irreducible] NR ZNR FR nmE
def scriptU : List UInt8 := [115, 99, 114, 105, 112, 116]
def styleU : List UInt8 := [115, 116, 121, 108, 101]
def isRaw (x : TK) : Bool := decide (x.kind = 2) && !x.sg && (G.u8s x.name == scriptU || G.u8s x.name == styleU)
def scanR (nm : List Nat) : List Nat → Nat → Nat
 | [], k => k
 | c :: r, k => if endR (c :: r) nm then k else scanR nm r (k + 1)
def rawT (xs : List Nat) (x : TK) : Nat := if isRaw x then scanR x.name (xs.drop x.to) x.to else x.to
theorem scanR_le (nm : List Nat) : ∀ (l : List Nat) (k : Nat), k ≤ scanR nm l k ∧ scanR nm l k ≤ k + l.length
 | [], k => by simp [scanR]
 | c :: r, k => by
  have ih := scanR_le nm r (k + 1)
  rw [scanR]
  split
  ·simp
  ·simp only [List.length_cons]
   omega
theorem rawT_le {xs : List Nat} {x : TK} (h : x.to ≤ xs.length) : x.to ≤ rawT xs x ∧ rawT xs x ≤ xs.length := by
 unfold rawT
 split
 ·have := scanR_le x.name (xs.drop x.to) x.to
  rw [List.length_drop] at this
  omega
 ·omega
theorem scanR_at {nm xs : List Nat} {k : Nat} (h : k < xs.length) : scanR nm (xs.drop k) k = if endR (xs.drop k) nm then k else scanR nm (xs.drop (k + 1)) (k + 1) := by
 rw [List.drop_eq_getElem_cons h, scanR]
theorem not_raw {x : TK} (h : isRaw x = false) (xs : List Nat) : rawT xs x = x.to := by unfold rawT; rw [if_neg (by rw [h]; simp)]
set_option maxHeartbeats 8000000 in
set_option maxRecDepth 100000 in
theorem rawEnd_any (xs : List Nat) (b o cap : Nat) (x : TK) (w : World) (hM : G.MX w) (hx : BY w w.heap.size xs (some ⟨b, o, none⟩) cap) (hl : xs.length ≤ 100000) (h0 : 0 < xs.length) (ht : x.to ≤ xs.length) :
  Calls Tryz.prog 56 #[.slice (some ⟨b, o, none⟩) xs.length cap, tokV x] w fun e w' => e = .returned (.int .i64 ((rawT xs x : Nat) : Int)) ∧ Below w.heap.size w w' := by
 obtain ⟨RT, hRT⟩ : ∃ n, rawT xs x = n := ⟨_, rfl⟩
 rw [hRT]
 obtain ⟨SN, hSN⟩ : ∃ Sx : ByteArray, ⟨(G.u8s x.name).toArray⟩ = Sx := ⟨_, rfl⟩
 have hSl : SN.toList = G.u8s x.name := by rw [← hSN]; simp
 obtain ⟨W1, hW1⟩ : ∃ W, w.alloc (.cells (tokC x) 40) = W := ⟨_, rfl⟩
 have b1 : Below w.heap.size w W1 := by rw [← hW1]; exact below_new _ _
 have x1 : Cells W1 w.heap.size 40 (tokC x) := by rw [← hW1]; exact cells_new _ _ _
 have hcap := hx.l
 have hmx := hx.m
 unfold maxLen at hmx
 obtain ⟨N, hN⟩ : ∃ N, xs.length = N := ⟨_, rfl⟩
 rw [hN] at hl h0 ht hcap ⊢
 have hR := hRT
 unfold rawT at hR
 have HH := Lib.hid (And.intro b1 (And.intro x1 (And.intro (hM.on hM.pos b1) (And.intro (hx.on b1) (And.intro hR (And.intro hSN (And.intro hN hSl)))))))
 have hraw : isRaw x = (decide (x.kind = 2) && !x.sg && (SN.toList == scriptU || SN.toList == styleU)) := by rw [hSl]; rfl
 unfold tokV tokC
 unfold tokC at hW1 x1
 rw [hSN] at hW1 x1 ⊢
 have p0 := x1.cell 0
 have p2 := x1.cell 2
 have p3 := x1.cell 3
 have p5 := x1.cell 5
 simp at p0 p2 p3 p5
 clear hR b1 hSl hSN hM hx hRT
 obtain ⟨kd, hkd⟩ : ∃ n, x.kind = n := ⟨_, rfl⟩
 obtain ⟨sg, hsg⟩ : ∃ n, x.sg = n := ⟨_, rfl⟩
 obtain ⟨fr, hfr⟩ : ∃ n, x.fr = n := ⟨_, rfl⟩
 obtain ⟨te, hto⟩ : ∃ n, x.to = n := ⟨_, rfl⟩
 obtain ⟨rr, hrr⟩ : ∃ n, x.r = n := ⟨_, rfl⟩
 rw [hkd, hsg] at hraw
 rw [hkd, hfr, hto, hrr, hsg] at hW1 x1 ⊢
 rw [hkd] at p0
 rw [hto] at p2 ht
 rw [hsg] at p5
 obtain ⟨c1, hc1⟩ : ∃ b, (SN.toList == scriptU) = b := ⟨_, rfl⟩
 obtain ⟨c2, hc2⟩ : ∃ b, (SN.toList == styleU) = b := ⟨_, rfl⟩
 rw [hc1, hc2] at hraw
 have n1 : (SN.toList == [115, 99, 114, 105, 112, 116]) = c1 := hc1
 have n2 : (SN.toList == [115, 116, 121, 108, 101]) = c2 := hc2
 have HX := Lib.hid (And.intro hto (And.intro hraw x1))
 clear hkd hsg hfr hto hrr hraw hc1 hc2 x1
 by_cases hk : kd = 2
 case neg =>
  have d0 : ((kd : Int) != 2) = true := by simp; omega
  have he : RT = te := by
   have := HH.out.2.2.2.2.1
   rw [if_neg (by rw [HX.out.2.1]; simp [hk])] at this
   rw [← this, HX.out.1]
  have HE := Lib.hid he
  clear he hk
  go_enter Tryz.func56, Tryz.ntmps56
  go_wp2_with fail
  go_ret
  exact ⟨by rw [HE.out]; rfl, HH.out.1⟩
 have d0 : ((kd : Int) != 2) = false := by simp; omega
 cases sg with
 | true =>
  have he : RT = te := by
   have := HH.out.2.2.2.2.1
   rw [if_neg (by rw [HX.out.2.1]; simp)] at this
   rw [← this, HX.out.1]
  have HE := Lib.hid he
  clear he hk
  go_enter Tryz.func56, Tryz.ntmps56
  go_wp2_with fail
  go_ret
  exact ⟨by rw [HE.out]; rfl, HH.out.1⟩
 | false =>
  by_cases hc : c1 = false ∧ c2 = false
  case pos =>
   obtain ⟨rfl, rfl⟩ := hc
   have he : RT = te := by
    have := HH.out.2.2.2.2.1
    rw [if_neg (by rw [HX.out.2.1]; simp)] at this
    rw [← this, HX.out.1]
   have HE := Lib.hid he
   clear he hk
   go_enter Tryz.func56, Tryz.ntmps56
   go_wp2_with fail
   go_ret
   exact ⟨by rw [HE.out]; rfl, HH.out.1⟩
  case neg =>
   have hir : isRaw x = true := by
    rw [HX.out.2.1, hk]
    cases c1 <;> cases c2 <;> simp at hc ⊢
   have he : scanR x.name (xs.drop te) te = RT := by
    have := HH.out.2.2.2.2.1
    rw [if_pos hir, HX.out.1] at this
    exact this
   have hnl : x.name.length ≤ 6 := by
    unfold isRaw at hir
    simp only [Bool.and_eq_true, Bool.or_eq_true, beq_iff_eq] at hir
    rcases hir.2 with h | h
    ·have := congrArg List.length h
     rw [G.u8s_len] at this
     rw [this]
     decide
    ·have := congrArg List.length h
     rw [G.u8s_len] at this
     rw [this]
     decide
   have HE := Lib.hid (And.intro he hnl)
   clear he hnl hir hk
   have hj : ¬ (c1 = true ∧ c2 = true) := by
    rintro ⟨rfl, rfl⟩
    have e1 := eq_of_beq n1
    have e2 := eq_of_beq n2
    rw [e1] at e2
    exact absurd e2 (by decide)
   go_enter Tryz.func56, Tryz.ntmps56
   cases c1 <;> cases c2
   case false.false => exact absurd ⟨rfl, rfl⟩ hc
   case true.true => exact absurd ⟨rfl, rfl⟩ hj
   all_goals
    clear hc hj
   case false.true =>
    go_wp2_with fail
    clear p0 p2 p3 p5
    go_loopw [5] (fun i wr => ∃ k : Nat, i = .int .i64 (k : Int) ∧ k ≤ N ∧ scanR x.name (xs.drop k) k = RT ∧ Below W1.heap.size W1 wr) (fun i _ => N - (RowKit.intOf i).toNat)
    case atStart => exact ⟨te, rfl, ht, HE.out.1, Below.refl _ _⟩
    case round =>
     obtain ⟨k, rfl, hkN, hs, hb⟩ := hrel
     have bw := HH.out.1.trans (hb.mono HH.out.1.size)
     have xw := HX.out.2.2.on hb
     have p3 := xw.cell 3
     simp at p3
     have r3 := cell_regrown p3
     by_cases hlt : k < N
     case neg =>
      obtain rfl : k = N := by omega
      have he : RT = k := by
       rw [List.drop_of_length_le (by rw [HH.out.2.2.2.2.2.2.1]; exact Nat.le_refl _)] at hs
       exact hs.symm
      have HB := Lib.hid (And.intro he bw)
      clear he bw hs hb xw r3 p3
      go_wp2_with go_quiet (fail)
      go_ret
      exact ⟨by rw [HB.out.1]; rfl, below_drewN HB.out.2 _⟩
     case pos =>
      have hN := HH.out.2.2.2.2.2.2.1
      have i1 : (k : Int) < (N : Int) := by omega
      have hsl := slice_from b o N cap k hlt hcap
      rw [scanR_at (by rw [hN]; exact hlt)] at hs
      have hdl : (xs.drop k).length = N - k := by rw [List.length_drop, hN]
      have D : ∀ d os, Calls Tryz.prog 68 #[.slice (some ⟨b, o + k, none⟩) (N - k) (cap - k), .string SN] (grow (redrawn wr d) os) fun e w'' => e = .returned (.bool (endR (xs.drop k) x.name)) ∧ ∃ p : Regrown, w'' = grow (redrawn wr p.d) p.os := fun d os => by
       have bd := hb.trans ((below_regrown wr d os).mono hb.size)
       have := endsRaw_any (xs.drop k) ⟨b, o + k, none⟩ (cap - k) x.name (grow (redrawn wr d) os) (HH.out.2.2.1.on HH.out.2.2.1.pos bd) ((HH.out.2.2.2.1.on bd).drop (by rw [hN]; exact hlt)) (by omega) (by have := HE.out.2; omega) (by omega)
       rw [hdl, HH.out.2.2.2.2.2.1] at this
       exact Calls.regrown_of this
      have HB := Lib.hid (And.intro bw hb)
      clear bw hb xw p3 hdl hN
      cases he : endR (xs.drop k) x.name with
      | true =>
       rw [he] at D hs
       have HS := Lib.hid hs
       clear hs he
       go_wp2_with fail
       refine wp_region_quiet_below (by kernel_rfl) (by kernel_rfl) ?_
       repeat (go_big_quiet_step (with_reducible exact D _ _))
       refine wpQuiet_nil ?_
       intro _ hw'
       obtain ⟨⟨dq, osq⟩, hw''⟩ := hw'
       subst hw''
       have HB2 := Lib.hid (HB.out.1.trans ((below_regrown wr dq osq).mono HB.out.1.size))
       clear D r3
       go_wp2_with fail
       go_ret
       exact ⟨by rw [← HS.out]; rfl, HB2.out⟩
      | false =>
       rw [he] at D hs
       have HS := Lib.hid hs
       clear hs he
       go_wp2_with fail
       refine wp_region_quiet_below (by kernel_rfl) (by kernel_rfl) ?_
       repeat (go_big_quiet_step (with_reducible exact D _ _))
       refine wpQuiet_nil ?_
       intro _ hw'
       obtain ⟨⟨dq, osq⟩, hw''⟩ := hw'
       subst hw''
       have HB2 := Lib.hid (HB.out.2.trans ((below_regrown wr dq osq).mono HB.out.2.size))
       clear D r3
       go_wp2_with fail
       go_roundw
       case rel => exact ⟨k + 1, by go_num, by omega, HS.out, HB2.out⟩
       case measure => simp [RowKit.intOf]; omega
   case true.false =>
    go_wp2_with fail
    clear p0 p2 p3 p5
    go_loopw [5] (fun i wr => ∃ k : Nat, i = .int .i64 (k : Int) ∧ k ≤ N ∧ scanR x.name (xs.drop k) k = RT ∧ Below W1.heap.size W1 wr) (fun i _ => N - (RowKit.intOf i).toNat)
    case atStart => exact ⟨te, rfl, ht, HE.out.1, Below.refl _ _⟩
    case round =>
     obtain ⟨k, rfl, hkN, hs, hb⟩ := hrel
     have bw := HH.out.1.trans (hb.mono HH.out.1.size)
     have xw := HX.out.2.2.on hb
     have p3 := xw.cell 3
     simp at p3
     have r3 := cell_regrown p3
     by_cases hlt : k < N
     case neg =>
      obtain rfl : k = N := by omega
      have he : RT = k := by
       rw [List.drop_of_length_le (by rw [HH.out.2.2.2.2.2.2.1]; exact Nat.le_refl _)] at hs
       exact hs.symm
      have HB := Lib.hid (And.intro he bw)
      clear he bw hs hb xw r3 p3
      go_wp2_with go_quiet (fail)
      go_ret
      exact ⟨by rw [HB.out.1]; rfl, below_drewN HB.out.2 _⟩
     case pos =>
      have hN := HH.out.2.2.2.2.2.2.1
      have i1 : (k : Int) < (N : Int) := by omega
      have hsl := slice_from b o N cap k hlt hcap
      rw [scanR_at (by rw [hN]; exact hlt)] at hs
      have hdl : (xs.drop k).length = N - k := by rw [List.length_drop, hN]
      have D : ∀ d os, Calls Tryz.prog 68 #[.slice (some ⟨b, o + k, none⟩) (N - k) (cap - k), .string SN] (grow (redrawn wr d) os) fun e w'' => e = .returned (.bool (endR (xs.drop k) x.name)) ∧ ∃ p : Regrown, w'' = grow (redrawn wr p.d) p.os := fun d os => by
       have bd := hb.trans ((below_regrown wr d os).mono hb.size)
       have := endsRaw_any (xs.drop k) ⟨b, o + k, none⟩ (cap - k) x.name (grow (redrawn wr d) os) (HH.out.2.2.1.on HH.out.2.2.1.pos bd) ((HH.out.2.2.2.1.on bd).drop (by rw [hN]; exact hlt)) (by omega) (by have := HE.out.2; omega) (by omega)
       rw [hdl, HH.out.2.2.2.2.2.1] at this
       exact Calls.regrown_of this
      have HB := Lib.hid (And.intro bw hb)
      clear bw hb xw p3 hdl hN
      cases he : endR (xs.drop k) x.name with
      | true =>
       rw [he] at D hs
       have HS := Lib.hid hs
       clear hs he
       go_wp2_with fail
       refine wp_region_quiet_below (by kernel_rfl) (by kernel_rfl) ?_
       repeat (go_big_quiet_step (with_reducible exact D _ _))
       refine wpQuiet_nil ?_
       intro _ hw'
       obtain ⟨⟨dq, osq⟩, hw''⟩ := hw'
       subst hw''
       have HB2 := Lib.hid (HB.out.1.trans ((below_regrown wr dq osq).mono HB.out.1.size))
       clear D r3
       go_wp2_with fail
       go_ret
       exact ⟨by rw [← HS.out]; rfl, HB2.out⟩
      | false =>
       rw [he] at D hs
       have HS := Lib.hid hs
       clear hs he
       go_wp2_with fail
       refine wp_region_quiet_below (by kernel_rfl) (by kernel_rfl) ?_
       repeat (go_big_quiet_step (with_reducible exact D _ _))
       refine wpQuiet_nil ?_
       intro _ hw'
       obtain ⟨⟨dq, osq⟩, hw''⟩ := hw'
       subst hw''
       have HB2 := Lib.hid (HB.out.2.trans ((below_regrown wr dq osq).mono HB.out.2.size))
       clear D r3
       go_wp2_with fail
       go_roundw
       case rel => exact ⟨k + 1, by go_num, by omega, HS.out, HB2.out⟩
       case measure => simp [RowKit.intOf]; omega
end Go.Proofs.YtojinnnpfjhifaaGreatDoor

namespace Go.Proofs.YtojinnnpfjhifaaGreatDoor
open Go.RowKit Go.Shelf Go.Lib Go.Maps Go.Great
attribute [local go_sem] Oper.semAt_some
attribute [local irreducible] NR ZNR FR nmE
def rawTok (xs : List Nat) (t : TK) : List TK := if t.to < rawT xs t then [⟨7, t.to, rawT xs t, [], 0, false⟩] else []
theorem rawT_gt {xs : List Nat} {k : Nat} {t : TK} (hk : k < xs.length) (h : markT xs k = some t) : k < rawT xs t := by
 have h1 := mark_to (by omega) h
 have h2 := rawT_le (xs := xs) (x := t) h1.2.2.1
 omega
def marksL (xs : List Nat) (k : Nat) : List TK :=
 if _h : k < xs.length then
  match hm : markT xs k with
  | none => marksL xs (k + 1)
  | some t => t :: (rawTok xs t ++ marksL xs (rawT xs t))
 else []
termination_by xs.length - k
decreasing_by
 ·omega
 ·have := rawT_gt _h hm
  omega
theorem marksL_end {xs : List Nat} {k : Nat} (h : ¬ k < xs.length) : marksL xs k = [] := by rw [marksL, dif_neg h]
theorem marksL_none {xs : List Nat} {k : Nat} (h : k < xs.length) (hm : markT xs k = none) : marksL xs k = marksL xs (k + 1) := by
 rw [marksL, dif_pos h]
 split
 ·rfl
 ·rename_i t e
  rw [hm] at e
  cases e
theorem marksL_some {xs : List Nat} {k : Nat} {t : TK} (h : k < xs.length) (hm : markT xs k = some t) : marksL xs k = t :: (rawTok xs t ++ marksL xs (rawT xs t)) := by
 rw [marksL, dif_pos h]
 split
 ·rename_i e
  rw [hm] at e
  cases e
 ·rename_i t' e
  rw [hm] at e
  cases e
  rfl
set_option maxHeartbeats 4000000 in
set_option maxRecDepth 100000 in
theorem marks_any (A : Option Addr) (m c : Nat) (w : World) : Calls Tryz.prog 35 #[.slice A m c] w fun e w' => e = .returned (.func (Fn.func 54) #[] #[.pointer (some ⟨w.heap.size, 0, none⟩)]) ∧ w' = w.alloc (.cells #[.slice A m c] 22) := by
 go_enter Tryz.func35, Tryz.ntmps35
 go_wp2_with fail
 go_ret
 exact ⟨rfl, rfl⟩
set_option maxHeartbeats 8000000 in
set_option maxRecDepth 100000 in
theorem marks_hands (n : Nat) (hn : 2 ≤ n) (xs : List Nat) (A : Option Addr) (cap bb B0 : Nat) (X : Nat → Prop) (w : World) (hx : BY w B0 xs A cap) (hl : xs.length ≤ 100000) (hM : G.MX w) (hT : S.Tabs w) (hB : 5 ≤ B0) (hbb : Cells w bb 22 #[.slice A xs.length cap]) (hB0 : B0 ≤ bb)
  (hX : ∀ k, X k → B0 ≤ k ∧ k ≠ bb) : HandsT n 54 #[.pointer (some ⟨bb, 0, none⟩)] (marksL xs 0) X w := by
 intro l Xc J Jx W hb hXc sJ sX oJ oX hY h0
 have hbl := hbb.lt
 have at_ : ∀ {ob : Option Nat} {W' : World}, Fr Xc none ob W W' → Below B0 w W' ∧ Cells W' bb 22 #[.slice A xs.length cap] := fun {ob W'} hf => by
  have hbW : Below B0 w W := ⟨hb.os, hb.tape, hb.output, hb.size, fun k hk => hb.block k (by omega)⟩
  refine ⟨hbW.trans (hf.below (by have := hb.size; omega) (fun k hk => ?_) (by simp)), ?_⟩
  ·rcases (hXc k hk).2 with h | h
   ·exact (hX k h).1
   ·omega
  ·refine (hf.same bb (by have := hb.size; omega) (fun h => ?_) (by simp)).trans ((hb.block bb hbl).trans hbb)
   rcases (hXc bb h).2 with h | h
   ·exact (hX bb h).2 rfl
   ·omega
 have C1 : ∀ {ob : Option Nat} {W' : World}, Fr Xc none ob W W' → ∀ k, k < xs.length → Calls Tryz.prog 55 #[.slice A xs.length cap, .int .i64 (k : Int)] W' fun e w'' => e = .returned (.tuple #[tokV ((markT xs k).getD tkZ), .bool (markT xs k).isSome]) ∧ Below W'.heap.size W' w'' := fun {ob W'} hf k hk => by
  have h1 := (at_ hf).1
  have h2 := (at_ hf).2.lt
  exact mark_any xs A cap k W' (hM.on (B := B0) (by omega) h1) (hT.below h1 (by omega)) ((hx.below h1).mono (by omega)) hl (by omega)
 have C2 : ∀ {ob : Option Nat} {W' : World}, Fr Xc none ob W W' → ∀ t : TK, 0 < xs.length → t.to ≤ xs.length → Calls Tryz.prog 56 #[.slice A xs.length cap, tokV t] W' fun e w'' => e = .returned (.int .i64 ((rawT xs t : Nat) : Int)) ∧ Below W'.heap.size W' w'' := fun {ob W'} hf t h0 ht => by
  have h1 := (at_ hf).1
  have h2 := (at_ hf).2.lt
  obtain ⟨b, o, rfl, _, _⟩ := hx.r (by intro e; rw [e] at h0; simp at h0)
  exact rawEnd_any xs b o cap t W' (hM.on (B := B0) (by omega) h1) ((hx.below h1).mono (by omega)) hl h0 ht
 obtain ⟨N, hN⟩ : ∃ N, xs.length = N := ⟨_, rfl⟩
 rw [hN] at hl hbb C1 C2
 have at2 : ∀ {ob : Option Nat} {W' : World}, Fr Xc none ob W W' → W'.cell? ⟨bb, 0, none⟩ = some (.slice A N cap) := fun {ob W'} hf => by
  have := (at_ hf).2.cell 0
  rw [hN] at this
  simpa using this
 have hcap := hx.l
 have hmx := hx.m
 unfold maxLen at hmx
 rw [hN] at hcap
 have HH := Lib.hid (And.intro (@C1) (And.intro (@C2) (And.intro (@at2) (And.intro hN (And.intro hXc (And.intro sJ (And.intro sX (And.intro oJ (And.intro oX hY)))))))))
 clear C1 C2 at2 at_ hXc sJ sX oJ oX hY hx hM hT hbb hX
 refine callsIn_of_wp Tryz.func54 rfl trivial ?_ rfl
 simp only [Tryz.ntmps54, List.size_toArray, List.length_cons, List.length_nil, Nat.reduceAdd, Nat.reduceSub, Array.replicate_succ, Array.replicate_zero, List.push_toArray, List.append_toArray, List.nil_append, List.cons_append]
 gi_wp2
 gi_loopw [3] (fun a wr => ∃ (k : Nat) (pre : List TK) (ob : Option Nat), a = .int .i64 (k : Int) ∧ k ≤ N ∧ marksL xs 0 = pre ++ marksL xs k ∧ J pre ob wr ∧ Fr Xc none ob W wr) (fun a _ => N - (RowKit.intOf a).toNat)
 case atStart => exact ⟨0, [], none, rfl, by omega, rfl, h0, Fr.refl _ _ _⟩
 case round =>
  obtain ⟨k, pre, ob, rfl, hk, hm, hj, hf⟩ := hrel
  have c0 := HH.out.2.2.1 hf
  have lb := block_lt_of_cell c0
  by_cases hlt : k < N
  case neg =>
   obtain rfl : k = N := by omega
   have i1 : ¬ (k : Int) < (k : Int) := by omega
   rw [marksL_end (k := k) (by have := HH.out.2.2.2.1; omega), List.append_nil] at hm
   have HJ := Lib.hid (And.intro hm (And.intro hj hf))
   clear hm hj hf
   gi_wp2
   go_end0
   exact ⟨⟨_, rfl⟩, ob, HJ.out.2.2, .inl (by rw [HJ.out.1]; exact HJ.out.2.1)⟩
  case pos =>
   have i1 : (k : Int) < (N : Int) := by omega
   have hkx : k < xs.length := by have := HH.out.2.2.2.1; omega
   have KM := HH.out.1 hf k (by omega)
   cases hmk : markT xs k with
   | none =>
    rw [hmk] at KM
    simp only [Option.getD_none, Option.isSome_none] at KM
    replace KM : Calls Tryz.prog 55 #[.slice A N cap, .int .i64 (k : Int)] wr fun e w'' => e = .returned (.tuple #[.agg #[.int .i64 0, .int .i64 0, .int .i64 0, .string ⟨#[]⟩, .int .i32 0, .bool false], .bool false]) ∧ Below wr.heap.size wr w'' := KM
    rw [marksL_none hkx hmk] at hm
    have HJ := Lib.hid (And.intro hm (And.intro hj (And.intro hf KM)))
    clear hm hj hf hkx KM hmk
    gi_wp2_with (refine ⟨trivial, fun _ => by omega, ?_⟩; gi_at_call 55; refine (callsIn_wide.2 HJ.out.2.2.2).mono ?_; rintro e w1 ⟨rfl, hb1⟩)
    have hb2 := hb1.trans ((below_new w1 (.cells #[.int .i64 0, .int .i64 0, .int .i64 0, .string ⟨#[]⟩, .int .i32 0, .bool false] 40)).mono hb1.size)
    go_roundw
    case rel => exact ⟨k + 1, pre, ob, by go_num, by omega, HJ.out.1, HH.out.2.2.2.2.2.1.of_below HJ.out.2.1 hb2, HJ.out.2.2.1.trans (Fr.of_below hb2)⟩
    case measure => simp [RowKit.intOf]; omega
   | some t =>
    rw [hmk] at KM
    simp only [Option.getD_some, Option.isSome_some] at KM
    have hto := mark_to (by omega) hmk
    have hrle := rawT_le (xs := xs) (x := t) hto.2.2.1
    have hrgt := rawT_gt hkx hmk
    rw [marksL_some hkx hmk] at hm
    have hp1 : pre ++ [t] <+: marksL xs 0 := by rw [hm]; exact ⟨rawTok xs t ++ marksL xs (rawT xs t), by simp⟩
    have hN := HH.out.2.2.2.1
    have obl : ∀ k, ob = some k → k < wr.heap.size := fun k e => by subst e; exact (HH.out.2.2.2.2.2.2.2.1 _ _ _ hj).2
    obtain ⟨RT, hRT⟩ : ∃ n, rawT xs t = n := ⟨_, rfl⟩
    rw [hRT] at hrle hrgt hm
    obtain ⟨tv, htv⟩ : ∃ v, tokV t = v := ⟨_, rfl⟩
    have htv2 := htv
    unfold tokV tokC at htv2
    have htc : (tokC t) = #[.int .i64 (t.kind : Int), .int .i64 (t.fr : Int), .int .i64 (t.to : Int), .string ⟨(G.u8s t.name).toArray⟩, .int .i32 t.r, .bool t.sg] := rfl
    rw [htv, ← htv2] at KM
    obtain ⟨SN, hSN⟩ : ∃ Sx : ByteArray, ⟨(G.u8s t.name).toArray⟩ = Sx := ⟨_, rfl⟩
    obtain ⟨kd, hkd⟩ : ∃ n, t.kind = n := ⟨_, rfl⟩
    obtain ⟨sg, hsg⟩ : ∃ n, t.sg = n := ⟨_, rfl⟩
    obtain ⟨fr, hfr⟩ : ∃ n, t.fr = n := ⟨_, rfl⟩
    obtain ⟨te, hte⟩ : ∃ n, t.to = n := ⟨_, rfl⟩
    obtain ⟨rr, hrr⟩ : ∃ n, t.r = n := ⟨_, rfl⟩
    rw [hSN, hkd, hsg, hfr, hte, hrr] at KM htv2
    rw [hte] at hrle hto
    rw [hN] at hrle hto
    have HJ := Lib.hid (And.intro hm (And.intro hj (And.intro hf (And.intro KM (And.intro hp1 (And.intro obl (And.intro hRT (And.intro hte (And.intro htv htv2)))))))))
    have hlt2 : k < RT ∧ RT ≤ N ∧ te ≤ RT := ⟨hrgt, hrle.2, hrle.1⟩
    have hte0 : te ≤ N := hto.2.2.1
    clear hm hj hf hkx KM hmk hto hrle hrgt hp1 hN obl htv htv2 htc hSN hkd hsg hfr hrr hRT hte
    gi_wp2_with (fail)
    refine ⟨trivial, fun _ => by omega, ?_⟩
    gi_at_call 55
    refine (callsIn_wide.2 HJ.out.2.2.2.1).mono ?_
    rintro e w1 ⟨rfl, hb1⟩
    obtain ⟨W2, hW2⟩ : ∃ W, w1.alloc (.cells #[.int .i64 (kd : Int), .int .i64 (fr : Int), .int .i64 (te : Int), .string SN, .int .i32 rr, .bool sg] 40) = W := ⟨_, rfl⟩
    have hb2 : Below wr.heap.size wr W2 := by rw [← hW2]; exact hb1.trans ((below_new w1 _).mono hb1.size)
    have x2 : Cells W2 w1.heap.size 40 #[.int .i64 (kd : Int), .int .i64 (fr : Int), .int .i64 (te : Int), .string SN, .int .i32 rr, .bool sg] := by rw [← hW2]; exact cells_new _ _ _
    have j2 := HH.out.2.2.2.2.2.1.of_below HJ.out.2.1 hb2
    have f2 : Fr Xc none ob W W2 := HJ.out.2.2.1.trans (Fr.of_below hb2)
    obtain ⟨fn, tmps, assign, body, hy, hR⟩ := HH.out.2.2.2.2.2.2.2.2.2 pre ob t W2 j2 f2.size HJ.out.2.2.2.2.1
    rw [HJ.out.2.2.2.2.2.2.2.2.1, ← HJ.out.2.2.2.2.2.2.2.2.2] at hy
    have p0 := x2.cell 0
    have p1 := x2.cell 1
    have p2 := x2.cell 2
    have p3 := x2.cell 3
    have p4 := x2.cell 4
    have p5 := x2.cell 5
    simp at p0 p1 p2 p3 p4 p5
    have H2 := Lib.hid (And.intro x2 (And.intro f2 (And.intro hR hb1.size)))
    clear x2 f2 hR hb1 hb2 j2
    gi_wp2_with (fail)
    refine ⟨fun _ => by omega, ?_⟩
    refine H2.out.2.2.1.mono ?_
    rintro e W3 (⟨rfl, ob', j3, f3⟩ | ⟨rfl, ob', j3, f3⟩)
    ·-- it goes on
     have hnX : ¬ Xc w1.heap.size := fun h => by
      have := (HH.out.2.2.2.2.1 _ h).1
      have := H2.out.2.2.2
      have := HJ.out.2.2.1.size
      omega
     have hno : ob ≠ some w1.heap.size := fun e => by
      have := HJ.out.2.2.2.2.2.1 _ e
      have := H2.out.2.2.2
      omega
     have x3 : Cells W3 w1.heap.size 40 #[.int .i64 (kd : Int), .int .i64 (fr : Int), .int .i64 (te : Int), .string SN, .int .i32 rr, .bool sg] := (f3.same _ H2.out.1.lt hnX hno).trans H2.out.1
     have f3' : Fr Xc none ob' W W3 := H2.out.2.1.trans f3
     have c3 := HH.out.2.2.1 f3'
     have KR := HH.out.2.1 f3' t (by omega) (by rw [HJ.out.2.2.2.2.2.2.2.1]; exact hte0)
     rw [HJ.out.2.2.2.2.2.2.1, HJ.out.2.2.2.2.2.2.2.2.1, ← HJ.out.2.2.2.2.2.2.2.2.2] at KR
     have q0 := x3.cell 0
     have q1 := x3.cell 1
     have q2 := x3.cell 2
     have q3 := x3.cell 3
     have q4 := x3.cell 4
     have q5 := x3.cell 5
     simp at q0 q1 q2 q3 q4 q5
     have H3 := Lib.hid (And.intro x3 (And.intro f3' (And.intro j3 (And.intro KR hnX))))
     clear x3 f3' j3 f3 KR hnX hno p0 p1 p2 p3 p4 p5 hy c0 lb
     gi_wp2_with (fail)
     refine ⟨trivial, fun _ => by omega, ?_⟩
     gi_at_call 56
     refine (callsIn_wide.2 H3.out.2.2.2.1).mono ?_
     rintro e w4 ⟨rfl, hb4⟩
     have f4 : Fr Xc none ob' W w4 := H3.out.2.1.trans (Fr.of_below hb4)
     have j4 := HH.out.2.2.2.2.2.1.of_below H3.out.2.2.1 hb4
     have x4 := H3.out.1.on hb4
     have r2 := x4.cell 2
     simp at r2
     clear q0 q1 q2 q3 q4 q5 c3
     by_cases hrw : te < RT
     ·have i5 : (te : Int) < (RT : Int) := by omega
      have hrt : rawTok xs t = [⟨7, te, RT, [], 0, false⟩] := by
       unfold rawTok
       rw [HJ.out.2.2.2.2.2.2.1, HJ.out.2.2.2.2.2.2.2.1, if_pos hrw]
      have hm2 := HJ.out.1
      rw [hrt] at hm2
      have hp2 : (pre ++ [t]) ++ [⟨7, te, RT, [], 0, false⟩] <+: marksL xs 0 := by rw [hm2]; exact ⟨marksL xs RT, by simp⟩
      obtain ⟨fn, tmps, assign, body, hy, hR⟩ := HH.out.2.2.2.2.2.2.2.2.2 (pre ++ [t]) ob' ⟨7, te, RT, [], 0, false⟩ w4 j4 f4.size hp2
      replace hy : (Instr.yield l #[.agg #[.int .i64 7, .int .i64 (te : Int), .int .i64 (RT : Int), .string ⟨#[]⟩, .int .i32 0, .bool false]]).run Tryz.prog w4 = .ok (.round l fn tmps assign body) w4 := hy
      have H4 := Lib.hid (And.intro f4 (And.intro hR hm2))
      clear f4 j4 x4 hR hm2 hrt hp2 hb4 hrw
      gi_wp2_with (fail)
      refine ⟨fun _ => by omega, ?_⟩
      refine H4.out.2.1.mono ?_
      rintro e W5 (⟨rfl, ob5, j5, f5⟩ | ⟨rfl, ob5, j5, f5⟩)
      ·have HE := Lib.hid (And.intro j5 (H4.out.1.trans f5))
       clear j5 f5 hy r2
       gi_wp2_with (fail)
       go_roundw
       case rel => exact ⟨RT, (pre ++ [t]) ++ [⟨7, te, RT, [], 0, false⟩], ob5, rfl, by omega, by rw [H4.out.2.2]; simp, HE.out.1, HE.out.2⟩
       case measure => simp [RowKit.intOf]; omega
      ·have HE := Lib.hid (And.intro j5 (H4.out.1.trans f5))
       clear j5 f5 hy r2
       gi_wp2_with (fail)
       refine bodyPost_ret (results_none rfl _ _ _) rfl ?_
       exact ⟨⟨_, rfl⟩, ob5, HE.out.2, .inr ⟨_, by rw [H4.out.2.2]; exact ⟨marksL xs RT, by simp⟩, HE.out.1⟩⟩
     ·have i5 : ¬ (te : Int) < (RT : Int) := by omega
      have hrt : rawTok xs t = [] := by
       unfold rawTok
       rw [HJ.out.2.2.2.2.2.2.1, HJ.out.2.2.2.2.2.2.2.1, if_neg hrw]
      have hm2 := HJ.out.1
      rw [hrt] at hm2
      have HE := Lib.hid (And.intro j4 (And.intro f4 hm2))
      clear f4 j4 x4 hm2 hrt hb4 hrw
      gi_wp2_with (fail)
      refine ⟨fun _ h => (by cases h), ?_⟩
      gi_wp2_with (fail)
      go_roundw
      case rel => exact ⟨RT, pre ++ [t], ob', rfl, by omega, by rw [HE.out.2.2]; simp, HE.out.1, HE.out.2.1⟩
      case measure => simp [RowKit.intOf]; omega
    ·have HE := Lib.hid (And.intro j3 (H2.out.2.1.trans f3))
     clear j3 f3 hy p0 p1 p2 p3 p4 p5 c0 lb
     gi_wp2_with (fail)
     refine bodyPost_ret (results_none rfl _ _ _) rfl ?_
     exact ⟨⟨_, rfl⟩, ob', HE.out.2, .inr ⟨_, HJ.out.2.2.2.2.1, HE.out.1⟩⟩
end Go.Proofs.YtojinnnpfjhifaaGreatDoor

namespace Go.Proofs.YtojinnnpfjhifaaGreatDoor
open Go.RowKit Go.Shelf Go.Lib Go.Maps Go.Great
attribute [local irreducible] NR ZNR FR nmE
def txT (a b : Nat) : TK := ⟨0, a, b, [], 0, false⟩
def txs (a b : Nat) : List TK := if a < b then [txT a b] else []
def endF : Nat → List TK → Nat
 | e, [] => e
 | _, t :: r => endF t.to r
def outF : Nat → List TK → List TK
 | _, [] => []
 | e, t :: r => txs e t.fr ++ (t :: outF t.to r)
def eachL (xs : List Nat) : List TK := outF 0 (marksL xs 0) ++ txs (endF 0 (marksL xs 0)) xs.length
theorem endF_snoc (x : TK) : ∀ (l : List TK) (e : Nat), endF e (l ++ [x]) = x.to
 | [], _ => rfl
 | t :: r, _ => endF_snoc x r t.to
theorem outF_append (m : List TK) : ∀ (l : List TK) (e : Nat), outF e (l ++ m) = outF e l ++ outF (endF e l) m
 | [], _ => rfl
 | t :: r, e => by
  show txs e t.fr ++ (t :: outF t.to (r ++ m)) = (txs e t.fr ++ (t :: outF t.to r)) ++ outF (endF t.to r) m
  rw [outF_append m r t.to]
  simp
theorem outF_snoc (x : TK) (l : List TK) (e : Nat) : outF e (l ++ [x]) = outF e l ++ txs (endF e l) x.fr ++ [x] := by
 rw [outF_append]
 simp [outF]
theorem outF_prefix {p q : List TK} (h : p <+: q) (e : Nat) : outF e p <+: outF e q := by
 obtain ⟨r, rfl⟩ := h
 rw [outF_append]
 exact List.prefix_append _ _
theorem outF_eachL {p : List TK} {xs : List Nat} (h : p <+: marksL xs 0) : outF 0 p <+: eachL xs := (outF_prefix h 0).trans (List.prefix_append _ _)
theorem room_of_none {F : Fence} (hd : F.depth = none) (k : Nat) : F.room k := fun d h => by rw [hd] at h; cases h
theorem round_any {F : Fence} (hd : F.depth = none) {m m' : Nat} {P : Program} {l lo : Nat} {f : FuncId} {tmps : Array Value} {assign body : Code} {w : World} {R : Ending → World → Prop}
  (h : RoundIn F m P l f tmps assign body w R) : RoundIn (F.inRound lo) m' P l f tmps assign body w R := ⟨h.1, fun c cs _ => h.2 c cs (room_of_none hd _)⟩
theorem calls_any {m m' : Nat} {P : Program} {f : FuncId} {args : Array Value} {w : World} {R : Ending → World → Prop} (h : CallsIn Fence.wide m P f args w R) : CallsIn Fence.wide m' P f args w R := callsIn_wide.2 (callsIn_wide.1 h)
theorem HandsT.anyN {n gf : Nat} {lb : Array Value} {xs : List TK} {X : Nat → Prop} {w : World} (h : HandsT n gf lb xs X w) (n' : Nat) : HandsT n' gf lb xs X w :=
 fun l Xc J Jx W h1 h2 h3 h4 h5 h6 hY h0 => calls_any (h l Xc J Jx W h1 h2 h3 h4 h5 h6 (fun pre ob x W1 a b c => by
  obtain ⟨fn, tmps, assign, body, hy, hR⟩ := hY pre ob x W1 a b c
  exact ⟨fn, tmps, assign, body, hy, round_any (lo := 0) rfl hR⟩) h0)
theorem wpIn_region_named {F : Fence} {n : Nat} {P : Program} {id : Nat} {ops : Array Oper} {Q : Exit → Act → World → Prop} {a : Act} {w : World} (hm : P.follows .mixedOrders = true)
  (h : ∀ (O : Array Oper) (K : Exit → Act → World → Prop), O = ops → K = Q → wpAnyIn F n P .any O K ops.size (Array.replicate ops.size false) a w.drew) : (Code.region id ops true).wpIn F n P Q a w :=
 wpIn_region_any hm (h ops Q rfl rfl)
theorem Fr.outer {X X' : Nat → Prop} {ob : Option Nat} {W W3 V : World} (b : Below W.heap.size W W3) (h : Fr X' none ob W3 V) (hx : ∀ k, k < W.heap.size → ¬ X k → ¬ X' k) : Fr X none ob W V :=
 ⟨h.os.trans b.os, h.tape.trans b.tape, h.output.trans b.output, Nat.le_trans b.size h.size, fun k hk hn _ => (h.same k (Nat.lt_of_lt_of_le hk b.size) (hx k hk hn) (by simp)).trans (b.block k hk), by
  rcases h.ob with e | ⟨k, e, h1, h2⟩
  ·exact .inl e
  ·exact .inr ⟨k, e, Nat.le_trans b.size h1, h2⟩⟩
theorem Fr.putl {X : Nat → Prop} {ob : Option Nat} {W V : World} (h : Fr X none ob W V) (l : Nat) (o : Obj) (hl : W.heap.size ≤ l) : Fr X none ob W (V.putObj l o) :=
 ⟨h.os, h.tape, h.output, by simpa [World.putObj] using h.size, fun k hk hn ho => (World.putObj_heap_other (by omega)).trans (h.same k hk hn ho), by
  rcases h.ob with e | ⟨k, e, h1, h2⟩
  ·exact .inl e
  ·exact .inr ⟨k, e, h1, by simpa [World.putObj] using h2⟩⟩
theorem Stab.setc {S : Nat} {J : List TK → Option Nat → World → Prop} (h : Stab S J) {pre : List TK} {ob : Option Nat} {W : World} (hj : J pre ob W) (b i : Nat) (v : Value) (hl : S ≤ b) (ho : ob ≠ some b) : J pre ob (W.setCell ⟨b, i, none⟩ v) :=
 h pre ob W _ hj rfl rfl rfl (by simp [World.setCell]) fun k _ hc => Below.heap_setCell _ _ _ _ (fun e => by
  subst e
  rcases hc with hc | hc
  ·omega
  ·exact ho hc)
theorem Fr.setc {X : Nat → Prop} {ob : Option Nat} (W : World) (b i : Nat) (v : Value) (hl : X b) : Fr X ob ob W (W.setCell ⟨b, i, none⟩ v) :=
 ⟨rfl, rfl, rfl, by simp [World.setCell], fun k _ hx _ => Below.heap_setCell _ _ _ _ (fun e => hx (by subst e; exact hl)), .inl rfl⟩
set_option maxHeartbeats 4000000 in
set_option maxRecDepth 100000 in
theorem each_any (A : Option Addr) (m c : Nat) (w : World) : Calls Tryz.prog 23 #[.slice A m c] w fun e w' => e = .returned (.func (Fn.func 34) #[] #[.pointer (some ⟨w.heap.size, 0, none⟩)]) ∧ w' = w.alloc (.cells #[.slice A m c] 22) := by
 go_enter Tryz.func23, Tryz.ntmps23
 go_wp2_with fail
 go_ret
 exact ⟨rfl, rfl⟩
end Go.Proofs.YtojinnnpfjhifaaGreatDoor

