/-
  FlatPlain HOLDS: of any bytes the plain place of any raw one: for every input, in whatever memory in which the listed tables read as the library lays them.
  FlatPlain's walk.
  Contract: the law's own Raw.
-/
import Derived.Lay
import Derived.LaidOnce
import Derived.LaidMore
import Derived.ChangeOld
import Derived.ShutString
import Derived.SevenTiedAt
import Derived.Test.YtfafhbgkmlmmdaaGreatDoorYqa
import Derived.Test.YtfafhbgkmlmmdaaGreatDoorYqb
import Derived.Test.YtfafhbgkmlmmdaaGreatDoorYqc
import Derived.Test.YtfafhbgkmlmmdaaGreatDoorYqd
import Derived.Test.YtfafhbgkmlmmdaaGreatDoorYqe
import Derived.Test.YtfafhbgkmlmmdaaGreatDoorYqf
import Derived.Test.YtfafhbgkmlmmdaaGreatDoorYqg
import Derived.Test.YtfafhbgkmlmmdaaGreatDoorYqh
import Derived.Test.YtfafhbgkmlmmdaaGreatDoorYqi
import Derived.Test.YtfafhbgkmlmmdaaGreatDoorYqj
import Derived.Test.YtfafhbgkmlmmdaaGreatDoorYqk
import Derived.Test.YtfafhbgkmlmmdaaGreatDoorYql
import Derived.Test.YtfafhbgkmlmmdaaGreatDoorYqm
import Derived.Test.YtfafhbgkmlmmdaaGreatDoorYqn
import Derived.Test.YtfafhbgkmlmmdaaGreatDoorYqo
import Derived.Test.YtfafhbgkmlmmdaaGreatDoorYqp
import Derived.Test.YtfafhbgkmlmmdaaGreatDoorYqq
import Derived.Test.YtfafhbgkmlmmdaaGreatDoorYqr
import Derived.Test.YtfafhbgkmlmmdaaGreatDoorYqs
import Derived.Test.YtfafhbgkmlmmdaaGreatDoorYqt
import Derived.Test.YtfafhbgkmlmmdaaGreatDoorYqu
import Derived.Test.YtfafhbgkmlmmdaaGreatDoorYqv
import Derived.Test.YtfafhbgkmlmmdaaGreatDoorYqw
import Derived.Test.YtfafhbgkmlmmdaaGreatDoorCards
import Derived.Test.YtfafhbgkmlmmdaaGreatDoorTie
set_option maxRecDepth 100000
set_option maxHeartbeats 40000000
namespace Go.Proofs.YtfafhbgkmlmmdaaGreatDoor.K
open Go.RowKit Go.Shelf Go.Lib Go.Maps
attribute [local irreducible] nmL ofN
theorem lraw_any (l : List IT) (A : Option Addr) (c : Nat) (w : World) (h : R.IsA w w.heap.size l A c) (N i : Nat) (hi : i ≤ l.length) :
  Calls Tryz.prog 36 #[.slice A l.length c, .int .i64 (N : Int), .int .i64 (i : Int)] w fun e w' => e = .returned (.int .i64 (rawR l N i)) ∧ w' = w := by
 obtain ⟨R, hR⟩ : ∃ q, rawR l N i = q := ⟨_, rfl⟩
 rw [hR]
 by_cases h0 : i = 0
 ·subst h0
  rw [raw_zero] at hR
  subst hR
  clear h
  go_enter Tryz.func36, Tryz.ntmps36
  go_wp2_with fail
  go_ret
  exact ⟨rfl, rfl⟩
 have d0 : ((i : Int) == 0) = false := by rw [beq_eq_false_iff_ne]; omega
 by_cases he : i = l.length
 ·have hz : l.length ≠ 0 := by omega
  rw [he, raw_end _ hz] at hR
  subst hR
  obtain ⟨n, hn⟩ : ∃ q, l.length = q := ⟨_, rfl⟩
  rw [hn] at he ⊢
  subst he
  have d1 : ((i : Int) == (i : Int)) = true := by simp
  clear h hn hi hz h0
  go_enter Tryz.func36, Tryz.ntmps36
  go_wp2_with fail
  go_ret
  exact ⟨rfl, rfl⟩
 ·obtain ⟨x, hx⟩ : ∃ x, l[i]? = some x := ⟨_, List.getElem?_eq_getElem (by omega)⟩
  rw [raw_at _ hx h0] at hR
  subst hR
  have hle := h.le
  obtain ⟨b, o, rfl, hbb, _, a1, _⟩ := R.isA_cells h hx
  obtain ⟨n, hn⟩ : ∃ q, l.length = q := ⟨_, rfl⟩
  rw [hn] at he hi hle ⊢
  have d1 : ((i : Int) == (n : Int)) = false := by rw [beq_eq_false_iff_ne]; omega
  have i1 : (i : Int) < (n : Int) := by omega
  have a1' : w.cell? ⟨b, o + (i * 7 + 1), none⟩ = some (.int .i64 x.at_) := by rw [← Nat.add_assoc]; exact a1
  clear h hx hn h0
  go_enter Tryz.func36, Tryz.ntmps36
  go_wp2_with fail
  go_ret
  exact ⟨rfl, rfl⟩
def wantR (l : List IT) (N a k : Nat) : Nat := if k = l.length then 0 else max k (cntR l N a) + 1
theorem want_hit {l : List IT} {N a k : Nat} (h : rise 0 l (N : Int)) (hk : k + 1 ≤ l.length) (hr : (a : Int) ≤ rawR l N (k + 1)) : wantR l N a k = k + 1 := by
 have := (cnt_iff h a (i := k) (by omega)).1 hr
 unfold wantR
 rw [if_neg (by omega)]
 omega
theorem want_miss {l : List IT} {N a k : Nat} (h : rise 0 l (N : Int)) (ha : a ≤ N) (hk : k + 1 ≤ l.length) (hr : ¬ (a : Int) ≤ rawR l N (k + 1)) : wantR l N a k = wantR l N a (k + 1) := by
 have h1 : ¬ cntR l N a ≤ k := fun e => hr ((cnt_iff h a (i := k) (by omega)).2 e)
 have h2 : k + 1 ≠ l.length := fun e => hr (by rw [e, raw_end _ (by omega)]; omega)
 unfold wantR
 rw [if_neg (by omega), if_neg h2]
 omega
theorem want_le {l : List IT} {N a k : Nat} (h : rise 0 l (N : Int)) (ha : a ≤ N) (hk : k ≤ l.length) : wantR l N a k ≤ l.length := by
 unfold wantR
 split
 ·exact Nat.zero_le _
 ·have := cnt_lt h ha (by omega)
  omega
theorem want_end {l : List IT} {N a : Nat} (h0 : a ≠ 0) : wantR l N a 0 = plainR l N a := by
 unfold wantR plainR
 by_cases e : l.length = 0
 ·rw [if_pos e.symm, if_pos (.inr e)]
 ·rw [if_neg (by omega), if_neg (by omega)]
  omega
theorem fplainLaw (xs : List Nat) (A : Option Addr) (cap : Nat) (a : Int) (_ha1 : -9223372036854775808 ≤ a) (_ha2 : a ≤ 9223372036854775807) (w : World) (hb : BY w w.heap.size xs A cap) (hM : G.MX w) (hT : S.Tabs w) :
  Calls Tryz.prog 9 #[.slice A xs.length cap, .int .i64 a] w fun e w' => e = .returned (.bool true) ∧ Below w.heap.size w w' := by
 have CW := fawake_any w hM hT
 have hcap := hb.l
 have hmx := hb.m
 by_cases hl : xs.length ≤ 300
 case neg =>
  obtain ⟨N, hN⟩ : ∃ q, xs.length = q := ⟨_, rfl⟩
  rw [hN] at hcap hl ⊢
  have i0 : (300 : Int) < (N : Int) := by omega
  have HC := Lib.hid CW
  clear CW hb hM hT hN hl
  go_enter Tryz.func9, Tryz.ntmps9
  go_wp2_with fail
  refine HC.out.mono ?_
  rintro e w1 ⟨rfl, b1⟩
  go_wp2_with fail
  go_ret
  exact ⟨rfl, b1⟩
 have CG := fun W (h : Below w.heap.size w W) => fnew_any xs A cap W (hb.on h) (by omega) (hM.on hM.pos h) (hT.below h (by have := hT.2; omega))
 have CR := fun W (h : Below w.heap.size w W) => refAll_any xs A cap W (hb.on h) (by omega)
 have hrs := all_rise (bF xs) (eachL xs) es0 0 _ (eachL_tiles xs)
 obtain ⟨l, hAL⟩ : ∃ q, allI (bF xs) es0 (eachL xs) = q := ⟨_, rfl⟩
 simp only [hAL] at CG CR hrs
 have hln := rise_len _ _ _ hrs
 have CP := fun W g (h : FL W W.heap.size g xs l) => plain_any g xs l W h hrs (by omega) a
 obtain ⟨N, hN⟩ : ∃ q, xs.length = q := ⟨_, rfl⟩
 obtain ⟨n, hn⟩ : ∃ q, l.length = q := ⟨_, rfl⟩
 have i0 : ¬ (300 : Int) < (N : Int) := by omega
 simp only [hN] at hcap hl hrs hln CG CR CP ⊢
 rw [hn] at hln
 have HG := Lib.hid (And.intro CG (And.intro CR (And.intro CP (And.intro hrs (And.intro hn (And.intro hl hln))))))
 clear CG CR CP hrs hln hb hM hT hAL hl hN hn
 go_enter Tryz.func9, Tryz.ntmps9
 go_wp2_with fail
 refine CW.mono ?_
 rintro e w1 ⟨rfl, b1⟩
 clear CW
 have CG := HG.out.1 w1 b1
 have H1 := Lib.hid b1
 clear b1
 go_wp2_with fail
 refine CG.mono ?_
 rintro e w2 ⟨g, rfl, hf, b2⟩
 clear CG
 have CP := HG.out.2.2.1 w2 g hf
 have H2 := Lib.hid (H1.out.trans (b2.mono H1.out.size))
 clear hf b2
 by_cases hin : 0 ≤ a ∧ a ≤ (N : Int)
 case neg =>
  unfold plainA at CP
  rw [if_neg hin, decide_eq_false hin] at CP
  go_wp2_with fail
  refine CP.mono ?_
  rintro e w3 ⟨rfl, b3⟩
  have H3 := Lib.hid (H2.out.trans (b3.mono H2.out.size))
  clear b3 CP
  by_cases h0 : a < 0
  ·clear hin
   go_wp2_with fail
   go_ret
   exact ⟨rfl, H3.out⟩
  ·have h1 : (N : Int) < a := by omega
   clear hin
   go_wp2_with fail
   go_ret
   exact ⟨rfl, H3.out⟩
 obtain ⟨k0, rfl⟩ : ∃ k : Nat, a = (k : Int) := ⟨a.toNat, by omega⟩
 have hk0 : k0 ≤ N := by omega
 rw [show plainA l N (k0 : Int) = .tuple #[.int .i64 ((plainR l N k0 : Nat) : Int), .bool true] from by unfold plainA; rw [if_pos (by omega), decide_eq_true (by omega)]; rfl] at CP
 have j1 : ¬ (k0 : Int) < 0 := by omega
 have j2 : ¬ (N : Int) < (k0 : Int) := by omega
 obtain ⟨PL, hPL⟩ : ∃ q, plainR l N k0 = q := ⟨_, rfl⟩
 rw [hPL] at CP
 have HK := Lib.hid (And.intro hk0 hPL)
 clear hin _ha1 _ha2 hk0 hPL
 go_wp2_with fail
 refine CP.mono ?_
 rintro e w3 ⟨rfl, b3⟩
 clear CP
 have CR := HG.out.2.1 w3 (H2.out.trans (b3.mono H2.out.size))
 have H3 := Lib.hid (H2.out.trans (b3.mono H2.out.size))
 clear b3
 go_wp2_with fail
 refine CR.mono ?_
 rintro e w4 ⟨v, rfl, ho, b4⟩
 clear CR
 obtain ⟨A4, c4, rfl, hI⟩ := R.IsA.of_own ho
 have CL := fun W (h : Below w4.heap.size w4 W) i hi => lraw_any l A4 c4 W (hI.on h) N i hi
 rw [HG.out.2.2.2.2.1]
 rw [HG.out.2.2.2.2.1] at CL
 have H4 := Lib.hid (And.intro CL (H3.out.trans (b4.mono H3.out.size)))
 clear ho hI CL b4
 go_wp2_with fail
 by_cases hz : k0 = 0
 ·have j3 : ((k0 : Int) == 0) = true := by rw [hz]; rfl
  have j4 : ¬ (0 : Int) < (k0 : Int) := by omega
  have hp0 : PL = 0 := by rw [← HK.out.2]; exact if_pos (.inl hz)
  subst hp0
  clear hz
  go_loopw [8, 9] (fun u i wr => i = .int .i64 (n : Int) ∧ u = .int .i64 0 ∧ wr = w4) (fun _ _ _ => 0)
  case atStart => exact ⟨rfl, rfl, rfl⟩
  case round =>
   obtain ⟨rfl, rfl, rfl⟩ := hrel
   by_cases hn1 : 1 ≤ n
   ·have j5 : (1 : Int) ≤ (n : Int) := by omega
    go_wp2_with fail
    go_ret
    exact ⟨rfl, H4.out.2⟩
   ·have j5 : ¬ (1 : Int) ≤ (n : Int) := by omega
    go_wp2_with fail
    go_ret
    exact ⟨rfl, H4.out.2⟩
 have j3 : (0 : Int) < (k0 : Int) := by omega
 have HZ := Lib.hid hz
 clear hz
 go_loopw [8, 9] (fun u i wr => ∃ k : Nat, k ≤ n ∧ i = .int .i64 (k : Int) ∧ u = .int .i64 ((wantR l N k0 k : Nat) : Int) ∧ Below w4.heap.size w4 wr) (fun _ i _ => (RowKit.intOf i).toNat)
 case atStart => exact ⟨n, Nat.le_refl _, rfl, by unfold wantR; rw [if_pos HG.out.2.2.2.2.1.symm]; rfl, Below.refl _ _⟩
 case round =>
  obtain ⟨k, hk, rfl, rfl, hb⟩ := hrel
  have bw := H4.out.2.trans (hb.mono H4.out.2.size)
  have hnl := HG.out.2.2.2.2.1
  cases k with
  | zero =>
   have hwe := want_end (l := l) (N := N) HZ.out
   rw [HK.out.2] at hwe
   rw [hwe]
   have HB := Lib.hid bw
   have j6 : ((PL : Int) == (PL : Int)) = true := by simp
   clear hb bw hwe hnl
   go_wp2_with fail
   go_ret
   exact ⟨rfl, HB.out⟩
  | succ k =>
   have CL := H4.out.1 wr hb (k + 1) hk
   have j6 : (1 : Int) ≤ ((k + 1 : Nat) : Int) := by omega
   have ik : ((k + 1 : Nat) : Int) ≤ 100000 := by have := HG.out.2.2.2.2.2.1; have := HG.out.2.2.2.2.2.2; omega
   have j7 : ((k + 1 : Nat) : Int) - 1 = (k : Int) := by omega
   obtain ⟨K1, hK1⟩ : ∃ q : Int, ((k + 1 : Nat) : Int) = q := ⟨_, rfl⟩
   obtain ⟨WN, hWN⟩ : ∃ q, wantR l N k0 (k + 1) = q := ⟨_, rfl⟩
   by_cases hge : (k0 : Int) ≤ rawR l N (k + 1)
   ·have hw := want_hit HG.out.2.2.2.1 (by rw [hnl]; exact hk) hge
    have hend : ∃ j : Nat, j ≤ n ∧ Value.int .i64 (K1 - 1) = .int .i64 (j : Int) ∧ Value.int .i64 K1 = .int .i64 ((wantR l N k0 j : Nat) : Int) ∧ Below w4.heap.size w4 wr := ⟨k, by omega, by rw [← hK1, j7], by rw [hw, ← hK1], hb⟩
    obtain ⟨R, hR⟩ : ∃ q, rawR l N (k + 1) = q := ⟨_, rfl⟩
    rw [hR] at CL hge
    rw [hK1] at CL j6 ik ⊢
    rw [hWN]
    have HEND := Lib.hid hend
    clear hend hb bw hw hR hWN hnl j7 hK1
    go_wp2_with fail
    refine CL.mono ?_
    rintro e _ ⟨rfl, rfl⟩
    clear CL
    go_wp2_with fail
    go_roundw
    case rel => exact HEND.out
    case measure => simp [RowKit.intOf]; omega
   ·have hw := want_miss HG.out.2.2.2.1 HK.out.1 (by rw [hnl]; exact hk) hge
    have hend : ∃ j : Nat, j ≤ n ∧ Value.int .i64 (K1 - 1) = .int .i64 (j : Int) ∧ Value.int .i64 (WN : Int) = .int .i64 ((wantR l N k0 j : Nat) : Int) ∧ Below w4.heap.size w4 wr := ⟨k, by omega, by rw [← hK1, j7], by rw [hw, hWN], hb⟩
    obtain ⟨R, hR⟩ : ∃ q, rawR l N (k + 1) = q := ⟨_, rfl⟩
    rw [hR] at CL hge
    rw [hK1] at CL j6 ik ⊢
    rw [hWN]
    have HEND := Lib.hid hend
    clear hend hb bw hw hR hWN hnl j7 hK1
    go_wp2_with fail
    refine CL.mono ?_
    rintro e _ ⟨rfl, rfl⟩
    clear CL
    go_wp2_with fail
    go_roundw
    case rel => exact HEND.out
    case measure => simp [RowKit.intOf]; omega
end Go.Proofs.YtfafhbgkmlmmdaaGreatDoor.K
namespace Go.Proofs.YtfafhbgkmlmmdaaGreatDoor
open Go.ChangeShapes Go.WideShapes Go.ChangeAt Go.RowKit Go.Shelf
open Go.Lib
open Go.ChangeMaps (open_string shut_string)
theorem flatPlain_lifted (os : Os) (started : os.Started) (H : Type) (enc : TypeId × Value → H) :
  ReturnsInHanded {} Tryz.checked os 9 .any (fun w args => (Rows.flatPlainSpec.pre enc Tryz.prog Tryz.f9 [] false w args ∧ laidMetH Tryz.prog laidAll7 w) ∧ sizedMet enc Tryz.prog Tryz.f9 (OpenSpec.ofChange Rows.flatPlainSpec) false w args)
   (Rows.flatPlainSpec.post enc Tryz.prog Tryz.f9 false true false false) := by
 refine handed_laid (C := Tryz.checked) (X := fun w _ => laidMetH Tryz.prog laidAll7 w) (fun _ _ _ hh h => h.of_heap hh) own started (by kernel_rfl) Tryz.func9
  (ChangeSpec.witness_shaped (enc := enc) (C := Tryz.checked) (os := os) (X := fun w _ => laidMetH Tryz.prog laidAll7 w) false (World.laidAll Tryz.prog os laidAll7) #[.slice none 0 0, .int .i64 0] 8 (World.laidAll_os _ _ _)
   (World.shaped_of_ZipB (by kernel_rfl) (by kernel_rfl)) (by kernel_rfl) (by kernel_rfl) (by kernel_rfl)
   (by rw [MakeChecks.laidMetH_plain _ _ _ (by kernel_rfl)]; exact laidMet_laidAll _ (by kernel_rfl) (by kernel_rfl))) ?_
 intro W base args ds gs before hsh hval0 hW hL _
 have hval : ∀ (j : Nat) t v, Tryz.f9.params[j]? = some t → args[j]? = some v → Value.okWide Tryz.prog W .any base t v := hval0
 have hW' := hW
 obtain ⟨p, q, hA0, hV, rfl, _, _⟩ := hW
 have hA : DataW.TrodAll enc Tryz.prog W 0 (fun _ => true) true Tryz.f9.params.toList args.toList ds p := hA0
 rw [Tryz.params9] at hA hval
 obtain ⟨v0, vs0, d0, ds0, p0, q0, hargs, rfl, rfl, h0, r0⟩ := trodAll_cons hA
 obtain ⟨v1, vs1, d1, ds1, p1, q1, rfl, rfl, rfl, h1, r1⟩ := trodAll_cons r0
 obtain ⟨rfl, rfl, rfl⟩ := trodAll_nil r1
 obtain rfl : args = #[v0, v1] := by cases args; simp_all
 obtain ⟨rfl, rfl⟩ := trodVars_none hV
 have t0 := h0
 have lt0 : ∀ x ∈ p0, x.block < W.heap.size := by obtain ⟨m, hm⟩ := t0; exact DataW.trod_lt m _ _ _ hm
 obtain ⟨xs0, A0, cap0, rfl, hB0⟩ := by_of_arg (hval 0 22 v0 rfl rfl) h0
 obtain ⟨a1, rfl, rfl, rfl, w1⟩ := open_int Tryz.underlying3 (hval 1 3 v1 rfl rfl) h1
 have hw1 : -9223372036854775808 ≤ a1 ∧ a1 ≤ 9223372036854775807 := by
  have := w1
  simp [Lit.wf, IntKind.min, IntKind.max, IntKind.signed, IntKind.bits] at this
  omega
 rw [MakeChecks.laidMetH_plain _ _ _ (by kernel_rfl)] at hL
 have hT : S.Tabs W := tabs_of_reads (Lib.laidMet.reads hL (.tail _ (.tail _ (.tail _ (.tail _ (.tail _ (.tail _ (.head _)))))))) (Lib.laidMet.reads hL (.tail _ (.tail _ (.tail _ (.head _))))) (five_of_reads (Lib.laidMet.reads hL (.tail _ (.head _))))
 have hM : G.MX W := mx_of_shape hsh
 clear hA0 hval0
 refine (K.fplainLaw xs0 A0 cap0 a1 hw1.1 hw1.2 W hB0 hM hT).mono fun e W' ⟨he, bel⟩ => ?_
 subst he
 exact ⟨_, rfl, _, _, _, [], _, [], hW', trodAll_mk1 (shut_bool Tryz.underlying4 _), (trodAll_cons_mk (Below.trod laidOut (by kernel_rfl) (of_decide_eq_true (by kernel_rfl)) t0 bel lt0) (trodAll_cons_mk (shut_int Tryz.underlying3 w1) trodAll_mk0)), rfl, bel.frame _, fun h => by cases h⟩
theorem flatPlain_row : Rows.FlatPlainSaid :=
 OpenClaim.holds_of_wide 9 Tryz.f9 rfl rfl rfl rfl rfl rfl rfl ⟨rfl, rfl, rfl, rfl, rfl⟩ rfl rfl rfl rfl rfl (by kernel_rfl) Tryz.func9 (by kernel_rfl)
  (of_decide_eq_true (by kernel_rfl)) (by unfold Func.isWrapper; first | (rw [if_pos (by decide +kernel)]; kernel_rfl) | (rw [if_neg (by decide +kernel)]; exact ⟨rfl, rfl⟩))
  (fun os started H enc _ => flatPlain_lifted os started H enc)
theorem flatPlain_holds : Rows.FlatPlainCardSaid :=
 Claim7.holds_tied_plain_at .later [] [.data, .data, .data, .data, .sentinel, .sentinel, .pinned] true (true, "9dd68da2afada65e5683af715fdfcd92f67a78b54cba878728521e19227f40a4") true
  flatPlain_row (fun _ h => by cases h) (by kernel_rfl) (fun _ h => by cases h) flatPlain_row_tie rfl ⟨rfl, rfl⟩ (by kernel_rfl) rfl
  (fun f fn hf hfn => by
   obtain rfl : f = 9 := Option.some.inj ((show Tryz.prog.funcNamed Rows.flatPlainRow.func = some 9 by kernel_rfl).symm.trans hf) |>.symm
   obtain rfl : fn = Tryz.f9 := (Option.some.inj (Tryz.func9.symm.trans hfn)).symm
   exact ⟨by kernel_rfl, fun j t ht => by
    rw [Tryz.params9] at ht
    have hm : t ∈ [22, 3] := by simpa using Array.mem_of_getElem? ht
    have hall : ([22, 3].all fun u => !Tryz.prog.wantsStandIn u) = true := by kernel_rfl
    exact (show Tryz.prog.wantsStandIn t = false by simpa using List.all_eq_true.1 hall t hm)⟩)
  (by kernel_rfl)
#print axioms flatPlain_holds
end Go.Proofs.YtfafhbgkmlmmdaaGreatDoor
