/-
  TokenTiles HOLDS: tokens have all bytes, one behind another: for every input, in whatever memory in which the listed tables read as the library lays them.
  TokenTiles' walk.
-/
import Derived.Lay
import Derived.LaidOnce
import Derived.LaidMore
import Derived.ChangeOld
import Derived.ShutString
import Derived.SevenTiedAt
import Derived.Test.YtnedjafpjbfncaaGreatDoorXqa
import Derived.Test.YtnedjafpjbfncaaGreatDoorXqb
import Derived.Test.YtnedjafpjbfncaaGreatDoorXqc
import Derived.Test.YtnedjafpjbfncaaGreatDoorXqd
import Derived.Test.YtnedjafpjbfncaaGreatDoorXqe
import Derived.Test.YtnedjafpjbfncaaGreatDoorXqf
import Derived.Test.YtnedjafpjbfncaaGreatDoorXqg
import Derived.Test.YtnedjafpjbfncaaGreatDoorXqh
import Derived.Test.YtnedjafpjbfncaaGreatDoorXqi
import Derived.Test.YtnedjafpjbfncaaGreatDoorXqj
import Derived.Test.YtnedjafpjbfncaaGreatDoorCards
import Derived.Test.YtnedjafpjbfncaaGreatDoorTie
namespace Go.Proofs.YtnedjafpjbfncaaGreatDoor
open Go.RowKit Go.Shelf Go.Lib Go.Maps Go.Great
attribute [local irreducible] NR ZNR FR nmE

/-- The kind ahead of a place: 9: there is none. -/
def prevK (L : List TK) (k : Nat) (p : Nat) : Prop := (k = 0 ∧ p = 9) ∨ ∃ m y, k = m + 1 ∧ L[m]? = some y ∧ p = y.kind
set_option maxHeartbeats 8000000 in
set_option maxRecDepth 100000 in
theorem tilesLaw (xs : List Nat) (A : Option Addr) (cap : Nat) (w : World) (hx : BY w w.heap.size xs A cap) (hM : G.MX w) (hT : S.Tabs w) (hZ : P.TZ w) :
    Calls Tryz.prog 4 #[.slice A xs.length cap] w fun e w' => e = .returned (.bool true) ∧ Below w.heap.size w w' := by
  have AW := fun W (hb : Below w.heap.size w W) => awake_any W (hM.on hM.pos hb) (hT.below hb (by have := hT.2; omega)) (hZ.below hb)
  have CA := fun (hl : xs.length ≤ 100000) W (hb : Below w.heap.size w W) => All_any xs A cap W (hx.on hb) hl (hM.on hM.pos hb) (hT.below hb (by have := hT.2; omega))
  have ht := eachL_tiles xs
  have ha := eachL_adj xs
  obtain ⟨L, hL⟩ : ∃ L, eachL xs = L := ⟨_, rfl⟩
  rw [hL] at ht ha
  simp only [hL] at CA
  have hlen := hx.len
  obtain ⟨N, hN⟩ : ∃ N, xs.length = N := ⟨_, rfl⟩
  rw [hN] at hlen CA ht ⊢
  have HH := Lib.hid (And.intro AW (And.intro CA (And.intro ht ha)))
  clear AW CA ht ha hL hx hM hT hZ
  by_cases c : 300 < N
  · have c1 : (300 : Int) < (N : Int) := by omega
    go_enter Tryz.func4, Tryz.ntmps4
    go_wp2_with fail
    refine (HH.out.1 w (Below.refl _ _)).mono ?_
    rintro e w1 ⟨rfl, hb⟩
    go_wp2_with fail
    go_ret
    exact ⟨rfl, hb⟩
  · have c1 : decide ((300 : Int) < (N : Int)) = false := by rw [decide_eq_false_iff_not]; omega
    go_enter Tryz.func4, Tryz.ntmps4
    go_wp2_with fail
    refine (HH.out.1 w (Below.refl _ _)).mono ?_
    rintro e w1 ⟨rfl, hb1⟩
    have HB1 := Lib.hid hb1
    clear hb1
    go_wp2_with fail
    refine (HH.out.2.1 (by omega) w1 HB1.out).mono ?_
    rintro e w2 ⟨v, rfl, ho, hb2⟩
    obtain ⟨A2, c2, rfl, hS⟩ := TS.of_own ho
    have b2 := HB1.out.trans (hb2.mono HB1.out.size)
    have hle := hS.le
    have hmx := hS.mx
    unfold maxLen at hmx
    obtain ⟨n, hn⟩ : ∃ n, L.length = n := ⟨_, rfl⟩
    rw [hn] at hle ⊢
    have HB2 := Lib.hid (And.intro hS (And.intro b2 hn))
    clear ho hb2 b2 hS hn
    go_wp2_with fail
    go_loopw [4, 5] (fun u i wr => ∃ (k a p : Nat), i = .int .i64 (k : Int) ∧ u = .int .i64 (a : Int) ∧ k ≤ n ∧ tiles a (L.drop k) N ∧ adj p (L.drop k) ∧ prevK L k p ∧ Below w2.heap.size w2 wr) (fun _ i _ => n - (RowKit.intOf i).toNat)
    case atStart => exact ⟨0, 0, 9, rfl, rfl, by omega, HH.out.2.2.1, HH.out.2.2.2, .inl ⟨rfl, rfl⟩, Below.refl _ _⟩
    case round =>
      obtain ⟨k, a, p, rfl, rfl, hk, h1, h2, h3, hb⟩ := hrel
      by_cases lt : k < n
      case neg =>
        have hke : k = n := by omega
        have i1 : ¬ (k : Int) < (n : Int) := by omega
        rw [List.drop_of_length_le (by rw [HB2.out.2.2]; omega)] at h1
        have hae : a = N := h1
        have HE := Lib.hid (HB2.out.2.1.trans (hb.mono HB2.out.2.1.size))
        clear h1 h2 h3 hb
        subst hae
        go_wp2_with fail
        go_ret
        exact ⟨by simp, HE.out⟩
      case pos =>
        have i1 : (k : Int) < (n : Int) := by omega
        have hkl : k < L.length := by rw [HB2.out.2.2]; exact lt
        obtain ⟨x, hx⟩ : ∃ x, L[k]? = some x := ⟨_, List.getElem?_eq_getElem hkl⟩
        rw [List.drop_eq_getElem_cons hkl, show L[k] = x from by rw [List.getElem?_eq_getElem hkl] at hx; exact Option.some.inj hx] at h1 h2
        obtain ⟨t1, t2, t3⟩ := h1
        obtain ⟨a1, a2, a3, a4⟩ := h2
        obtain ⟨b, o, hA, hbl, k0, k1, k2, k3, k4, k5⟩ := (HB2.out.1.below hb).r k x hx
        subst hA
        have KK := fun W => Kind_any x.kind a1 W
        have hne := kindB_ne x.kind a1
        obtain ⟨kd, hkd⟩ : ∃ n, x.kind = n := ⟨_, rfl⟩
        obtain ⟨te, hte⟩ : ∃ n, x.to = n := ⟨_, rfl⟩
        rw [hkd] at KK hne k0 a1 a2 a3 a4
        rw [hte] at k2 t2 t3
        rw [t1] at k1
        obtain ⟨KS, hKS⟩ : ∃ Z : ByteArray, ⟨(kindB kd).toArray⟩ = Z := ⟨_, rfl⟩
        rw [hKS] at KK
        have hSn2 : (KS = ⟨#[]⟩) = False := by
          rw [← hKS]
          simp only [eq_iff_iff, iff_false]
          intro e
          apply hne
          have := congrArg (fun z => z.data.toList) e
          simpa using this
        have hSn3 : decide (KS = ⟨#[]⟩) = false := by rw [decide_eq_false_iff_not, hSn2]; exact id
        have hSn : (KS.toList == ([] : List UInt8)) = false := by
          rw [beq_eq_false_iff_ne]
          intro e
          rw [← hKS] at e
          apply hne
          simpa using e
        have i2 : ¬ (te : Int) ≤ (a : Int) := by omega
        have hte2 : te ≤ N := by
          have := tiles_len _ _ _ t3
          omega
        have hrel : tiles te (L.drop (k + 1)) N ∧ adj kd (L.drop (k + 1)) ∧ prevK L (k + 1) kd := ⟨t3, a4, .inr ⟨k, x, rfl, hx, hkd.symm⟩⟩
        have HR := Lib.hid (And.intro hrel hb)
        clear hrel t3 a4 hKS hne hkd hte t1 k3 k4 k5
        rcases h3 with ⟨h0, rfl⟩ | ⟨m, y, hm, hy, rfl⟩
        · -- the first
          have hk7 : ¬ kd = 7 := fun e => by have := a3 e; omega
          have d7 : ((kd : Int) == 7) = false := by simp; omega
          have d7' : decide ((kd : Int) = 7) = false := by simp; omega
          subst h0
          simp only [Nat.zero_mul, Nat.zero_add, Nat.add_zero] at k0 k1 k2
          clear a2 a3 hk7 hx hb
          go_wp2_with fail
          refine (KK wr).mono ?_
          rintro e w9 ⟨rfl, hw⟩
          rw [hw]
          clear KK hw
          go_wp2_with fail
          exact ⟨⟨1, te, kd, rfl, rfl, by omega, HR.out.1.1, HR.out.1.2.1, HR.out.1.2.2, HR.out.2⟩, by simp [RowKit.intOf]; omega⟩
        · obtain ⟨b2, o2, hA2, _, m0, _, _, _, _, _⟩ := (HB2.out.1.below hb).r m y hy
          obtain ⟨rfl, rfl⟩ : b2 = b ∧ o2 = o := by simpa [eq_comm] using hA2
          obtain ⟨yk, hyk⟩ : ∃ n, y.kind = n := ⟨_, rfl⟩
          rw [hyk] at m0 a2 a3
          have hk1 : (k : Int) - 1 = (m : Int) := by omega
          have g0 : (0 : Int) < (k : Int) := by omega
          have im : (m : Int) < (n : Int) := by omega
          have gk : ((k : Int) == 0) = false := by simp; omega
          rw [← Nat.add_assoc] at k1 k2
          have HN := Lib.hid hm
          clear hx hy hyk hA2 hb hm
          by_cases c0 : kd = 0
          · have d0 : ((kd : Int) == 0) = true := by simp; omega
            have d7 : ((kd : Int) == 7) = false := by simp; omega
            have dy : ((yk : Int) == 0) = false := by simp; omega
            clear a2 a3 c0
            go_wp2_with fail
            refine (KK wr).mono ?_
            rintro e w9 ⟨rfl, hw⟩
            rw [hw]
            clear KK hw
            go_wp2_with fail
            exact ⟨⟨k + 1, te, kd, by go_num, rfl, by omega, HR.out.1.1, HR.out.1.2.1, HR.out.1.2.2, HR.out.2⟩, by simp [RowKit.intOf]; omega⟩
          · have d0 : ((kd : Int) == 0) = false := by simp; omega
            by_cases c7 : kd = 7
            · have d7 : ((kd : Int) == 7) = true := by simp; omega
              have hy2 := a3 c7
              have dy : ((yk : Int) != 2) = false := by simp; omega
              clear a2 a3 c0 c7 hy2
              go_wp2_with fail
              refine (KK wr).mono ?_
              rintro e w9 ⟨rfl, hw⟩
              rw [hw]
              clear KK hw
              go_wp2_with fail
              exact ⟨⟨k + 1, te, kd, by go_num, rfl, by omega, HR.out.1.1, HR.out.1.2.1, HR.out.1.2.2, HR.out.2⟩, by simp [RowKit.intOf]; omega⟩
            · have d7 : ((kd : Int) == 7) = false := by simp; omega
              clear a2 a3 c0 c7
              go_wp2_with fail
              refine (KK wr).mono ?_
              rintro e w9 ⟨rfl, hw⟩
              rw [hw]
              clear KK hw
              go_wp2_with fail
              exact ⟨⟨k + 1, te, kd, by go_num, rfl, by omega, HR.out.1.1, HR.out.1.2.1, HR.out.1.2.2, HR.out.2⟩, by simp [RowKit.intOf]; omega⟩
end Go.Proofs.YtnedjafpjbfncaaGreatDoor

namespace Go.Proofs.YtnedjafpjbfncaaGreatDoor
open Go.ChangeShapes Go.WideShapes Go.ChangeAt Go.RowKit Go.Shelf
open Go.Lib
open Go.ChangeMaps (open_string shut_string)

set_option maxRecDepth 100000 in
theorem tokenTiles_lifted (os : Os) (started : os.Started) (H : Type) (enc : TypeId × Value → H) :
    ReturnsInHanded {} Tryz.checked os 4 .any (fun w args => (Rows.tokenTilesSpec.pre enc Tryz.prog Tryz.f4 [] false w args ∧ laidMetH Tryz.prog laidAll8 w) ∧ sizedMet enc Tryz.prog Tryz.f4 (OpenSpec.ofChange Rows.tokenTilesSpec) false w args)
      (Rows.tokenTilesSpec.post enc Tryz.prog Tryz.f4 false true false false) := by
  refine handed_laid (C := Tryz.checked) (X := fun w _ => laidMetH Tryz.prog laidAll8 w) (fun _ _ _ hh h => h.of_heap hh) own started (by kernel_rfl) Tryz.func4
    (ChangeSpec.witness_shaped (enc := enc) (C := Tryz.checked) (os := os) (X := fun w _ => laidMetH Tryz.prog laidAll8 w) false (World.laidAll Tryz.prog os laidAll8) #[.slice none 0 0] 8 (World.laidAll_os _ _ _)
      (World.shaped_of_ZipB (by kernel_rfl) (by kernel_rfl)) (by kernel_rfl) (by kernel_rfl) (by kernel_rfl)
      (by rw [MakeChecks.laidMetH_plain _ _ _ (by kernel_rfl)]; exact laidMet_laidAll _ (by kernel_rfl) (by kernel_rfl))) ?_
  intro W base args ds gs before hsh hval0 hW hL _
  have hval : ∀ (j : Nat) t v, Tryz.f4.params[j]? = some t → args[j]? = some v → Value.okWide Tryz.prog W .any base t v := hval0
  have hW' := hW
  obtain ⟨p, q, hA0, hV, rfl, _, _⟩ := hW
  have hA : DataW.TrodAll enc Tryz.prog W 0 (fun _ => true) true Tryz.f4.params.toList args.toList ds p := hA0
  rw [Tryz.params4] at hA hval
  obtain ⟨v0, vs0, d0, ds0, p0, q0, hargs, rfl, rfl, h0, r0⟩ := trodAll_cons hA
  obtain ⟨rfl, rfl, rfl⟩ := trodAll_nil r0
  obtain rfl : args = #[v0] := by cases args; simp_all
  obtain ⟨rfl, rfl⟩ := trodVars_none hV
  have t0 := h0
  have lt0 : ∀ x ∈ p0, x.block < W.heap.size := by obtain ⟨m, hm⟩ := t0; exact DataW.trod_lt m _ _ _ hm
  obtain ⟨xs0, A0, cap0, rfl, hB0⟩ := by_of_arg (hval 0 22 v0 rfl rfl) h0
  rw [MakeChecks.laidMetH_plain _ _ _ (by kernel_rfl)] at hL
  have hT : S.Tabs W := tabs_of_reads (Lib.laidMet.reads hL (.tail _ (.tail _ (.tail _ (.tail _ (.tail _ (.tail _ (.tail _ (.head _))))))))) (Lib.laidMet.reads hL (.tail _ (.tail _ (.tail _ (.head _)))))
  have hZ : P.TZ W := tz_of_reads (Lib.laidMet.reads hL (.tail _ (.head _)))
  have hPT : PT W := pt_of_reads (Lib.laidMet.reads hL (.tail _ (.tail _ (.head _))))
  have hM : G.MX W := mx_of_shape hsh
  clear hA0 hval0
  refine (tilesLaw xs0 A0 cap0 W hB0 hM hT hZ).mono fun e W' ⟨he, bel⟩ => ?_
  subst he
  exact ⟨_, rfl, _, _, _, [], _, [], hW', trodAll_mk1 (shut_bool Tryz.underlying4 _), (trodAll_cons_mk (Below.trod laidOut (by kernel_rfl) (of_decide_eq_true (by kernel_rfl)) t0 bel lt0) trodAll_mk0), rfl, bel.frame _, fun h => by cases h⟩

theorem tokenTiles_row : Rows.TokenTilesSaid :=
  OpenClaim.holds_of_wide 4 Tryz.f4 rfl rfl rfl rfl rfl rfl rfl ⟨rfl, rfl, rfl, rfl, rfl⟩ rfl rfl rfl rfl rfl (by kernel_rfl) Tryz.func4 (by kernel_rfl)
    (of_decide_eq_true (by kernel_rfl)) (by unfold Func.isWrapper; first | (rw [if_pos (by decide +kernel)]; kernel_rfl) | (rw [if_neg (by decide +kernel)]; exact ⟨rfl, rfl⟩))
    (fun os started H enc _ => tokenTiles_lifted os started H enc)

/-- THE STATEMENT. -/
theorem tokenTiles_holds : Rows.TokenTilesCardSaid :=
  Claim7.holds_tied_plain_at .later [] [.data, .data, .data, .data, .sentinel, .sentinel, .pinned, .pinned] true (true, "58902377a7983df7a674fc44eaab2a8449d52dd4ee6546e63f76fbf255702d0f") true
    tokenTiles_row (fun _ h => by cases h) (by kernel_rfl) (fun _ h => by cases h) tokenTiles_row_tie rfl ⟨rfl, rfl⟩ (by kernel_rfl) rfl
    (fun f fn hf hfn => by
      obtain rfl : f = 4 := Option.some.inj ((show Tryz.prog.funcNamed Rows.tokenTilesRow.func = some 4 by kernel_rfl).symm.trans hf) |>.symm
      obtain rfl : fn = Tryz.f4 := (Option.some.inj (Tryz.func4.symm.trans hfn)).symm
      exact ⟨by kernel_rfl, fun j t ht => by
        rw [Tryz.params4] at ht
        have hm : t ∈ [22] := by simpa using Array.mem_of_getElem? ht
        have hall : ([22].all fun u => !Tryz.prog.wantsStandIn u) = true := by kernel_rfl
        exact (show Tryz.prog.wantsStandIn t = false by simpa using List.all_eq_true.1 hall t hm)⟩)
    (by kernel_rfl)
#print axioms tokenTiles_holds
end Go.Proofs.YtnedjafpjbfncaaGreatDoor

