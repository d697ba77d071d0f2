/-
  ElementNames' walk.
-/
import Derived.Test.YtncglgbogplpcaaDoorBit
import Derived.Test.YtncglgbogplpcaaDoorAwk
import Derived.Laws.Cover1
namespace Go.Proofs.YtncglgbogplpcaaDoor
open Go.RowKit Go.Shelf Go.Lib Go.Maps
open Go.Sort (grow)
attribute [local irreducible] nmL ofN

set_option maxRecDepth 100000 in
set_option maxHeartbeats 8000000 in
theorem namesLaw (xs : List Int) (A : Option Addr) (cap : Nat) (w : World) (hx : IL w w.heap.size xs A cap) (hM : MX w) (hA : AS w) :
    Calls Tryd.prog 3 #[.slice A xs.length cap] w fun e w' => e = .returned (.bool true) ∧ Below w.heap.size w w' := by
  have AW := awake_any w hM
  have CN := names5_any xs A cap w hx hA (by have := hM.pos; omega)
  have hxl := hx.l
  have hxm := hx.m
  obtain ⟨N, hN⟩ : ∃ N, xs.length = N := ⟨_, rfl⟩
  rw [hN] at hxl CN ⊢
  obtain ⟨S, hS⟩ : ∃ s, orL xs = s := ⟨_, rfl⟩
  rw [hS] at CN
  have HH := Lib.hid (And.intro hx (And.intro hN hS))
  unfold maxLen at hxm
  clear hx hA hM hN hS
  by_cases c : 10 < N
  · have c1 : (10 : Int) < (N : Int) := by omega
    clear CN
    go_enter Tryd.func3, Tryd.ntmps3
    go_wp2_with fail
    refine AW.mono ?_
    rintro e w1 ⟨rfl, rfl⟩
    go_wp2_with fail
    go_ret
    exact ⟨rfl, Below.refl _ _⟩
  · have c1 : ¬ (10 : Int) < (N : Int) := by omega
    go_enter Tryd.func3, Tryd.ntmps3
    go_wp2_with fail
    refine AW.mono ?_
    rintro e w1 ⟨rfl, rfl⟩
    clear AW
    go_wp2_with fail
    obtain ⟨wo, hwo⟩ : ∃ W : World, W = w1 := ⟨_, rfl⟩
    go_loopw [3, 4] (fun s i wr => ∃ k : Nat, k ≤ N ∧ s = .int .i64 (orL (xs.take k)) ∧ i = .int .i64 (k : Int) ∧ wr = w1) (fun _ i _ => N - (RowKit.intOf i).toNat)
    case atStart => exact ⟨0, by omega, rfl, rfl, rfl⟩
    case round =>
      obtain ⟨k, hk, rfl, rfl, rfl⟩ := hrel
      by_cases lt : k < N
      case pos =>
        have i1 : (k : Int) < (N : Int) := by omega
        obtain ⟨x, hxx⟩ : ∃ x, xs[k]? = some x := ⟨_, List.getElem?_eq_getElem (by rw [HH.out.2.1]; exact lt)⟩
        obtain ⟨b, o, hAe, _, hc⟩ := HH.out.1.r k x hxx
        subst hAe
        have hs := orL_snoc hxx
        obtain ⟨R, hR⟩ : ∃ s, orL (xs.take k) = s := ⟨_, rfl⟩
        rw [hR] at hs ⊢
        have HS := Lib.hid hs
        clear hs hxx hR
        go_wp2_with fail
        exact ⟨⟨k + 1, by omega, by rw [HS.out], by go_num, trivial⟩, by simp [RowKit.intOf]; omega⟩
      case neg =>
        have i1 : ¬ (k : Int) < (N : Int) := by omega
        rw [List.take_of_length_le (by rw [HH.out.2.1]; omega), HH.out.2.2]
        clear hk lt
        go_wp2_with fail
        refine CN.mono ?_
        rintro e w2 ⟨A2, c2, l, rfl, hlc, hcm, hok, hSL, hb⟩
        obtain ⟨n, hn⟩ : ∃ n, l.length = n := ⟨_, rfl⟩
        rw [hn] at hlc ⊢
        have HK := Lib.hid (And.intro hok (And.intro hSL (And.intro (by rw [hwo]; exact hb : Below wo.heap.size wo w2) hn)))
        unfold maxLen at hcm
        clear CN hok hSL hb hn
        go_wp2_with fail
        go_loopw [6] (fun i wr => ∃ k : Nat, k ≤ n ∧ i = .int .i64 (k : Int) ∧ Below w2.heap.size w2 wr) (fun i _ => n - (RowKit.intOf i).toNat)
        case atStart => exact ⟨0, by omega, rfl, Below.refl _ _⟩
        case round =>
          obtain ⟨k, hk, rfl, hb⟩ := hrel
          by_cases lt : k < n
          case pos =>
            have i1 : (k : Int) < (n : Int) := by omega
            obtain ⟨x, hxx⟩ : ∃ x, l[k]? = some x := ⟨_, List.getElem?_eq_getElem (by rw [HK.out.2.2.2]; exact lt)⟩
            obtain ⟨g, hAe, hgl, hc⟩ := HK.out.2.1 k x hxx
            subst hAe
            have hcw := (hb.cell (p := ⟨g, k, none⟩) hgl).trans hc
            have z0 := cell_regrown hcw
            have hany := (HK.out.1.1 x).1 (List.mem_of_getElem? hxx)
            obtain ⟨X, hX⟩ : ∃ Z : ByteArray, ⟨x.toArray⟩ = Z := ⟨_, rfl⟩
            have hXd : X.data.toList = x := by rw [← hX]
            rw [hX] at z0
            have C1 : ∀ d os, Calls Tryd.prog 6 #[.string X] (grow (redrawn wr d) os) fun e w'' => e = .returned (.int .i64 ((ofN x 7 : Nat) : Int)) ∧ ∃ p : Regrown, w'' = grow (redrawn wr p.d) p.os := fun d os => by
              have := refOf_any X (grow (redrawn wr d) os)
              rw [hXd] at this
              exact Calls.regrown_of this
            obtain ⟨V, hV⟩ : ∃ v, ofN x 7 = v := ⟨_, rfl⟩
            have ha0 : (bits BinOp.and IntKind.i64 (V : Int) S == 0) = false := by rw [← hV]; simpa [anyB] using hany
            rw [hV] at C1
            have HX := Lib.hid (And.intro hxx (And.intro hgl (And.intro hb hV)))
            have hXl : X.toList = x := by rw [toList_data]; exact hXd
            clear hc hcw hany hV hX hXd
            by_cases k0 : k = 0
            · subst k0
              clear hxx hb hXl
              go_wp2_with fail
              refine wp_region_quiet_below (by kernel_rfl) (by kernel_rfl) ?_
              repeat (go_big_quiet_step (exact C1 _ _))
              refine wpQuiet_nil ?_
              intro _ hw'
              obtain ⟨⟨dq, osq⟩, hw''⟩ := hw'
              subst hw''
              have HB := Lib.hid (HX.out.2.2.1.trans ((below_regrown wr dq osq).mono HX.out.2.2.1.size))
              clear z0 C1
              go_wp2_with fail
              exact ⟨⟨1, by omega, rfl, HB.out⟩, by simp [RowKit.intOf]; omega⟩
            · obtain ⟨m, rfl⟩ : ∃ m, k = m + 1 := ⟨k - 1, by omega⟩
              obtain ⟨x0, hx0⟩ : ∃ x0, l[m]? = some x0 := ⟨_, List.getElem?_eq_getElem (by rw [HK.out.2.2.2]; omega)⟩
              obtain ⟨g', hAe', _, hc0⟩ := HK.out.2.1 m x0 hx0
              obtain rfl : g' = g := by simpa [eq_comm] using hAe'
              have z1 := cell_regrown ((hb.cell (p := ⟨g', m, none⟩) HX.out.2.1).trans hc0)
              have hst := strict HK.out.1.2.1 HK.out.1.2.2 hx0 hxx
              obtain ⟨X0, hX0⟩ : ∃ Z : ByteArray, ⟨x0.toArray⟩ = Z := ⟨_, rfl⟩
              rw [hX0] at z1
              have hbl : Op.bytesLess X0.toList X.toList = true := by
                rw [hXl, ← hX0, toList_data, bytesLess_eq]
                exact decide_eq_true hst
              have hk1 : ((m + 1 : Nat) : Int) - 1 = (m : Int) := by omega
              have g0 : (0 : Int) < ((m + 1 : Nat) : Int) := by omega
              have im : (m : Int) < (n : Int) := by omega
              clear hxx hb hx0 hc0 hAe' hXl hX0 hst
              go_wp2_with fail
              refine wp_region_quiet_below (by kernel_rfl) (by kernel_rfl) ?_
              repeat (go_big_quiet_step (exact C1 _ _))
              refine wpQuiet_nil ?_
              intro _ hw'
              obtain ⟨⟨dq, osq⟩, hw''⟩ := hw'
              subst hw''
              have HB := Lib.hid (HX.out.2.2.1.trans ((below_regrown wr dq osq).mono HX.out.2.2.1.size))
              clear z0 z1 C1 hbl
              go_wp2_with fail
              exact ⟨⟨m + 2, by omega, by go_num, HB.out⟩, by simp [RowKit.intOf]; omega⟩
          case neg =>
            have i1 : ¬ (k : Int) < (n : Int) := by omega
            have HB := Lib.hid hb
            clear hb hk lt
            go_wp2_with fail
            go_loopw [7] (fun b wr => ∃ j : Nat, j ≤ 7 ∧ b = .int .i64 ((2 ^ j : Nat) : Int) ∧ Below w2.heap.size w2 wr) (fun b _ => 128 - (RowKit.intOf b).toNat)
            case atStart => exact ⟨0, by omega, rfl, HB.out⟩
            case round =>
              obtain ⟨j, hj, rfl, hb⟩ := hrel
              have hp := pow_cases hj
              have CL := List_any j
              have hin := fun (x : List UInt8) (h7 : j < 7) (h : x ∈ nmL j) (h2 : ¬ bits BinOp.and IntKind.i64 ((2 ^ j : Nat) : Int) S = 0) => any_in h7 h h2
              obtain ⟨q, hq⟩ : ∃ q, 2 ^ j = q := ⟨_, rfl⟩
              rw [hq] at hp CL hin ⊢
              by_cases lt : j < 7
              case neg =>
                have i2 : ¬ (q : Int) ≤ 64 := by omega
                have HE := Lib.hid (HK.out.2.2.1.trans (hb.mono HK.out.2.2.1.size))
                clear hp CL hin hq hb
                go_wp2_with fail
                go_ret
                exact ⟨rfl, by rw [← hwo]; exact HE.out⟩
              case pos =>
                have i2 : (q : Int) ≤ 64 := by omega
                have hsm := nmL_small j lt
                obtain ⟨L, hL⟩ : ∃ l, nmL j = l := ⟨_, rfl⟩
                rw [hL] at CL hin hsm
                obtain ⟨m, hm⟩ : ∃ m, L.length = m := ⟨_, rfl⟩
                rw [hm] at CL hsm
                have CLr := CL lt wr
                have HP := Lib.hid (And.intro hp (And.intro (fun x h h2 => hin x lt h h2) (And.intro hm hb)))
                clear hp CL hin hq hb hL hm
                go_wp2_with fail
                refine CLr.mono ?_
                rintro e w3 ⟨rfl, hc, hb3⟩
                have HC := Lib.hid (And.intro hc (And.intro hb3 (And.intro (HP.out.2.2.2.trans (hb3.mono HP.out.2.2.2.size)) hc.lt)))
                have hq64 : q ≤ 64 := by omega
                obtain ⟨G, hG⟩ : ∃ G, wr.heap.size = G := ⟨_, rfl⟩
                rw [hG] at HC ⊢
                clear hc hb3 CLr
                go_wp2_with fail
                go_loopw [9] (fun v wr => ∃ i : Nat, i ≤ m ∧ v = .int .i64 (i : Int) ∧ Below w3.heap.size w3 wr) (fun v _ => m - (RowKit.intOf v).toNat)
                case atStart => exact ⟨0, by omega, rfl, Below.refl _ _⟩
                case round =>
                  obtain ⟨i, hi, rfl, hb4⟩ := hrel
                  by_cases lti : i < m
                  case neg =>
                    have i3 : ¬ (i : Int) < (m : Int) := by omega
                    have hpw := HP.out.1
                    have HE := Lib.hid (And.intro (HC.out.2.2.1.trans (hb4.mono HC.out.2.2.1.size)) hpw)
                    clear hb4 hpw
                    go_wp2_with fail
                    go_roundw
                    case rel => exact ⟨j + 1, by omega, by have := HE.out.2.2.2.2.1; rw [this]; go_num, HE.out.1⟩
                    case measure => have := HE.out.2.1; simp [RowKit.intOf]; omega
                  case pos =>
                    have i3 : (i : Int) < (m : Int) := by omega
                    by_cases hz : bits BinOp.and IntKind.i64 (q : Int) S = 0
                    case pos =>
                      have hzb : (bits BinOp.and IntKind.i64 (q : Int) S != 0) = false := by rw [hz]; rfl
                      have hpw := HP.out.1
                      have HE := Lib.hid (And.intro (HC.out.2.2.1.trans (hb4.mono HC.out.2.2.1.size)) hpw)
                      clear hb4 hz hpw
                      go_wp2_with fail
                      go_roundw
                      case rel => exact ⟨j + 1, by omega, by have := HE.out.2.2.2.2.1; rw [this]; go_num, HE.out.1⟩
                      case measure => have := HE.out.2.1; simp [RowKit.intOf]; omega
                    case neg =>
                      have hzb : (bits BinOp.and IntKind.i64 (q : Int) S != 0) = true := by simp [hz]
                      obtain ⟨y, hy⟩ : ∃ y, L[i]? = some y := ⟨_, List.getElem?_eq_getElem (by rw [HP.out.2.2.1]; exact lti)⟩
                      have hyl : y ∈ l := (HK.out.1.1 y).2 (HP.out.2.1 y (List.mem_of_getElem? hy) hz)
                      have HY := Lib.hid (And.intro hy (And.intro hyl hb4))
                      clear hy hyl hb4 hz
                      go_wp2_with fail
                      go_loopw [10, 11] (fun f v wr => ∃ t : Nat, t ≤ n ∧ v = .int .i64 (t : Int) ∧ f = .bool (decide (y ∈ l.take t)) ∧ Below w3.heap.size w3 wr) (fun _ v _ => n - (RowKit.intOf v).toNat)
                      case atStart => exact ⟨0, by omega, rfl, by simp, HY.out.2.2⟩
                      case round =>
                        obtain ⟨t, ht, rfl, rfl, hb5⟩ := hrel
                        by_cases ltt : t < n
                        case neg =>
                          have i4 : ¬ (t : Int) < (n : Int) := by omega
                          rw [List.take_of_length_le (by rw [HK.out.2.2.2]; omega), decide_eq_true HY.out.2.1]
                          have HE := Lib.hid hb5
                          clear hb5
                          go_wp2_with fail
                          go_roundw
                          case rel => exact ⟨i + 1, by omega, by go_num, HE.out⟩
                          case measure => simp [RowKit.intOf]; omega
                        case pos =>
                          have i4 : (t : Int) < (n : Int) := by omega
                          obtain ⟨x, hxx⟩ : ∃ x, l[t]? = some x := ⟨_, List.getElem?_eq_getElem (by rw [HK.out.2.2.2]; exact ltt)⟩
                          obtain ⟨g, hAe, hgl, hcx⟩ := HK.out.2.1 t x hxx
                          subst hAe
                          have b35 := HC.out.2.2.1.trans (hb5.mono HC.out.2.2.1.size)
                          have z0 := (b35.cell (p := ⟨g, t, none⟩) hgl).trans hcx
                          have z1 := ((HC.out.1.on hb5).cell i).trans (strs_at HY.out.1)
                          obtain ⟨X, hX⟩ : ∃ Z : ByteArray, ⟨x.toArray⟩ = Z := ⟨_, rfl⟩
                          obtain ⟨Y, hY⟩ : ∃ Z : ByteArray, ⟨y.toArray⟩ = Z := ⟨_, rfl⟩
                          rw [hX] at z0
                          rw [hY] at z1
                          have hcmp : (X.toList == Y.toList) = decide (x = y) := by
                            rw [← hX, ← hY, toList_data, toList_data]
                            show (x == y) = _
                            by_cases h : x = y <;> simp [h]
                          have htk : l.take (t + 1) = l.take t ++ [x] := by rw [List.take_add_one, hxx]; rfl
                          by_cases hf : y ∈ l.take t
                          · have h1 : decide (y ∈ l.take (t + 1)) = true := decide_eq_true (by rw [htk]; simp [hf])
                            rw [decide_eq_true hf]
                            have HR := Lib.hid (And.intro h1 hb5)
                            clear h1 hb5 hf htk hcmp hX hY hxx hcx b35 hgl
                            go_wp2_with go_quiet (fail)
                            rename_i nq _
                            exact ⟨⟨t + 1, by omega, by go_num, by rw [HR.out.1], below_drewN HR.out.2 nq⟩, by simp [RowKit.intOf]; omega⟩
                          · have h1 : decide (y ∈ l.take (t + 1)) = decide (x = y) := by
                              rw [htk]
                              by_cases h : x = y
                              · simp [h]
                              · simp [h, hf, Ne.symm h]
                            rw [decide_eq_false hf]
                            rw [← h1] at hcmp
                            obtain ⟨B, hB⟩ : ∃ b, decide (y ∈ l.take (t + 1)) = b := ⟨_, rfl⟩
                            rw [hB] at hcmp
                            have HR := Lib.hid (And.intro hB hb5)
                            clear h1 hb5 hf htk hX hY hxx hcx b35 hgl hB
                            go_wp2_with go_quiet (fail)
                            trace_state
                            rename_i nq _
                            exact ⟨⟨t + 1, by omega, by go_num, by rw [HR.out.1], below_drewN HR.out.2 nq⟩, by simp [RowKit.intOf]; omega⟩
end Go.Proofs.YtncglgbogplpcaaDoor
