/-
  Contract: the document's Write.
-/
import Derived.Test.YtpimadgcojgjaaaDoorEwr
import Derived.Test.YtpimadgcojgjaaaDoorRwh
namespace Go.Proofs.YtpimadgcojgjaaaDoor
open Go.RowKit Go.Shelf Go.Lib Go.Maps Go.Great
open Go.Sort (grow)
attribute [local irreducible] NR ZNR FR nmE

theorem nm_right : ∀ x ∈ nmE, x.2 ≠ 0 ∧ Lib.validRune x.2 = true := by
  unfold nmE
  decide +kernel
theorem ru_none {r : Int} (h0 : r = 0 ∨ Lib.validRune r = false) : nmE.find? (isRu r) = none := by
  rw [List.find?_eq_none]
  intro x hx hr
  have h := nm_right x hx
  have e : x.2 = r := by simpa [isRu] using hr
  rw [e] at h
  rcases h0 with h0 | h0
  · exact h.1 h0
  · rw [h0] at h
    exact absurd h.2 (by simp)
/-- The digits that are left. -/
def hexP (m : Nat) : List UInt8 := if m = 0 then [] else S.hexD m
theorem hexP_step (m : Nat) (h : 0 < m) (ds : List UInt8) : hexP (m / 16) ++ (S.hexC (m % 16) :: ds) = hexP m ++ ds := by
  unfold hexP
  rw [if_neg (show ¬ m = 0 by omega)]
  by_cases c : m < 16
  · rw [if_pos (by omega), S.hexD_lt c, show m % 16 = m by omega]
    rfl
  · rw [if_neg (by omega), S.hexD_ge c]
    simp
def hx16 : List UInt8 := [48, 49, 50, 51, 52, 53, 54, 55, 56, 57, 97, 98, 99, 100, 101, 102]
theorem hx16_at : ∀ d, d < 16 → (hx16.take (d + 1)).drop d = [S.hexC d] := by decide +kernel
theorem slice_hx (d : Nat) (h : d < 16) (w : World) : (Instr.slice 9 (.string ⟨#[48, 49, 50, 51, 52, 53, 54, 55, 56, 57, 97, 98, 99, 100, 101, 102]⟩) (some (.int .i32 (d : Int))) (some (.int .i32 ((d : Int) + 1))) none).run Tryd.prog w = .ok (.string ⟨#[S.hexC d]⟩) w := by
  have := run_slice_string (P := Tryd.prog) w 9 ⟨hx16.toArray⟩ .i32 .i32 (d : Int) ((d : Int) + 1) Tryd.underlying9 (by omega) (by omega) (by show (d : Int) + 1 ≤ ((16 : Nat) : Int); omega)
  have e : (ByteArray.extract ⟨hx16.toArray⟩ (d : Int).toNat ((d : Int) + 1).toNat) = ⟨#[S.hexC d]⟩ := by
    apply ByteArray.ext
    have h2 := hx16_at d h
    have e2 : ((d : Int) + 1).toNat = d + 1 := by omega
    rw [e2, Int.toNat_natCast]
    have h3 : (ByteArray.extract ⟨hx16.toArray⟩ d (d + 1)).data = ((hx16.take (d + 1)).drop d).toArray := by
      simp [List.drop_take]
    rw [h3, h2]
  rw [e] at this
  exact this
set_option maxHeartbeats 8000000 in
set_option maxRecDepth 100000 in
theorem rwrite_any (r : Int) (h0 : -2147483648 ≤ r) (h1 : r ≤ 2147483647) (w : World) :
    Calls Tryd.prog 19 #[.int .i32 r] w fun e w' => e = .returned (.string ⟨(wrS r).toArray⟩) ∧ Below w.heap.size w w' := by
  obtain ⟨SW, hSW⟩ : ∃ S : ByteArray, ⟨(wrS r).toArray⟩ = S := ⟨_, rfl⟩
  rw [hSW]
  have HSW := Lib.hid hSW
  clear hSW
  have KR := rr_any r w
  obtain ⟨VB, hVB⟩ : ∃ b, Lib.validRune r = b := ⟨_, rfl⟩
  rw [hVB] at KR
  have HV := Lib.hid hVB
  have HK := Lib.hid KR
  clear KR hVB
  by_cases r0 : r = 0
  · have hw := Lib.hid (wrS_none (ru_none (.inl r0)) (.inl r0))
    have d : (r == 0) = true := by simpa using r0
    clear r0
    go_enter Tryd.func19, Tryd.ntmps19
    go_wp2_with fail
    go_ret
    exact ⟨by rw [← HSW.out, hw.out]; rfl, Below.refl _ _⟩
  have d : (r == 0) = false := by simpa using r0
  cases VB with
  | false =>
    have hw := Lib.hid (wrS_none (ru_none (.inr HV.out)) (.inr HV.out))
    clear r0
    go_enter Tryd.func19, Tryd.ntmps19
    go_wp2_with fail
    refine HK.out.mono ?_
    rintro e wx ⟨rfl, ex⟩
    obtain rfl := ex.symm
    clear ex
    go_wp2_with fail
    go_ret
    exact ⟨by rw [← HSW.out, hw.out]; rfl, Below.refl _ _⟩
  | true =>
    have HR := Lib.hid r0
    clear r0
    go_enter Tryd.func19, Tryd.ntmps19
    go_wp2_with fail
    refine HK.out.mono ?_
    rintro e wx ⟨rfl, ex⟩
    obtain rfl := ex.symm
    clear ex
    go_wp2_with fail
    refine (refNames_any w).mono ?_
    rintro e w1 ⟨rfl, hw1⟩
    have x1 : Cells w1 w.heap.size 39 NR := by rw [hw1]; exact cells_new _ _ _
    have hb1 : Below w.heap.size w w1 := by rw [hw1]; exact below_new _ _
    have H1 := Lib.hid (And.intro x1 hb1)
    clear x1 hb1 hw1
    go_wp2_with fail
    go_loopw [4] (fun i wr => ∃ k : Nat, i = .int .i64 (k : Int) ∧ k ≤ 26 ∧ (∀ (j : Nat) (y : NmE), j < k → nmE[j]? = some y → isRu r y = false) ∧ wr = w1) (fun i _ => 26 - (RowKit.intOf i).toNat)
    case atStart => exact ⟨0, rfl, by omega, fun j y hj => absurd hj (by omega), rfl⟩
    case round =>
      obtain ⟨k, rfl, hk, hno, ew⟩ := hrel
      obtain rfl := ew.symm
      clear ew
      by_cases hlt : k < 26
      case pos =>
        have i1 : (k : Int) < 26 := by omega
        obtain ⟨x, hx⟩ := at_lt (l := nmE) (k := k) (by rw [nmE_len]; exact hlt)
        have hn := NR_at hx
        have c0 := H1.out.1.cell (k * 2)
        have c1 := H1.out.1.cell (k * 2 + 1)
        rw [hn.1] at c0
        rw [hn.2] at c1
        have hlt1 := H1.out.1.lt
        cases hp : isRu r x with
        | true =>
          have hf := (idx_some hx hp hno).2
          have hsh := nm_short x (List.mem_of_find?_eq_some hf)
          have hw := wrS_name hf
          have d1 : (x.2 == r) = true := hp
          obtain ⟨s, z⟩ := x
          dsimp only at hsh hw d1 c0 c1
          obtain ⟨C1, g1, g2, z1⟩ := cat2 [38] s [59]
          have zs : (⟨s.toArray⟩ : ByteArray).size = s.length := by simp [ByteArray.size]
          have hw2 : (⟨([38] ++ s ++ [59]).toArray⟩ : ByteArray) = SW := by rw [← HSW.out, hw]; simp
          rw [hw2] at g2
          obtain ⟨S1, hS1⟩ : ∃ Sx : ByteArray, ⟨s.toArray⟩ = Sx := ⟨_, rfl⟩
          rw [hS1] at g1 zs c0
          have g1 : (⟨#[38]⟩ : ByteArray) ++ S1 = C1 := g1
          have g2 : C1 ++ ⟨#[59]⟩ = SW := g2
          have z1 : C1.size = 1 + s.length := z1
          have k1 : S1.size ≤ 100 := by omega
          have k2 : C1.size ≤ 101 := by omega
          clear hw hw2 hf hS1 hsh zs z1 hx hn hp hno
          go_wp2_with fail
          go_ret
          exact ⟨rfl, H1.out.2⟩
        | false =>
          have d1 : (x.2 == r) = false := hp
          have HN := Lib.hid (fun (j : Nat) (y : NmE) (hj : j < k + 1) (hy : nmE[j]? = some y) => show isRu r y = false from by
            by_cases e : j = k
            · subst e
              have := hy.symm.trans hx
              injection this with this
              rw [this]
              exact hp
            · exact hno j y (by omega) hy)
          clear hno hx hn hp
          obtain ⟨s, z⟩ := x
          dsimp only at d1 c0 c1
          go_wp2_with fail
          go_roundw
          case rel => exact ⟨k + 1, by go_num, by omega, HN.out, trivial⟩
          case measure => simp [RowKit.intOf]; omega
      case neg =>
        obtain rfl : k = 26 := by omega
        have hf := (idx_none (p := isRu r) fun j y hy => hno j y (by have := (List.getElem?_eq_some_iff.1 hy).1; rw [nmE_len] at this; exact this) hy).2
        have hvi := (valid_iff r).1 HV.out
        obtain ⟨n, hn⟩ : ∃ n : Nat, r = (n : Int) := ⟨r.toNat, by omega⟩
        have hw := wrS_hex hf HR.out HV.out
        rw [hn, Int.toNat_natCast] at hw
        have hn0 : 0 < n := by have := HR.out; omega
        have hl := hexD_len n 5 (by omega)
        have hnl : n ≤ 1114111 := by omega
        have HW := Lib.hid (And.intro hw (And.intro hl hn))
        clear hw hl hvi hf hno
        go_wp2_with fail
        go_loopw [0, 5] (fun rr sv wr => ∃ (m : Nat) (ds : List UInt8), rr = .int .i32 (m : Int) ∧ sv = .string ⟨ds.toArray⟩ ∧ hexP m ++ ds = S.hexD n ∧ m ≤ n ∧ wr = w1) (fun rr _ _ => (RowKit.intOf rr).toNat)
        case atStart => exact ⟨n, [], by rw [HW.out.2.2], rfl, by rw [List.append_nil, hexP, if_neg (by omega)], Nat.le_refl _, rfl⟩
        case round =>
          obtain ⟨m, ds, rfl, rfl, hds, hm, ew⟩ := hrel
          obtain rfl := ew.symm
          clear ew
          have hdl : ds.length ≤ 6 := by have := congrArg List.length hds; have := HW.out.2.1; rw [List.length_append] at *; omega
          by_cases hm0 : 0 < m
          case pos =>
            have i2 : (0 : Int) < (m : Int) := by omega
            have hsl := slice_hx (m % 16) (by omega)
            have hst := hexP_step m hm0 ds
            have e16 : ((m % 16 : Nat) : Int) = (m : Int) % 16 := by omega
            rw [e16] at hsl
            have b1 : 0 ≤ (m : Int) % 16 := by omega
            have b2 : (m : Int) % 16 < 16 := by omega
            have b3 : (m : Int) ≤ 1114111 := by omega
            obtain ⟨hc, hhc⟩ : ∃ c, S.hexC (m % 16) = c := ⟨_, rfl⟩
            rw [hhc] at hsl hst
            have g1 : (⟨#[hc]⟩ : ByteArray) ++ ⟨ds.toArray⟩ = ⟨(hc :: ds).toArray⟩ := by apply ByteArray.ext; simp [ByteArray.data_append]
            obtain ⟨D1, hD1⟩ : ∃ Sx : ByteArray, ⟨ds.toArray⟩ = Sx := ⟨_, rfl⟩
            obtain ⟨D2, hD2⟩ : ∃ Sx : ByteArray, ⟨#[hc]⟩ = Sx := ⟨_, rfl⟩
            have k1 : D1.size ≤ 6 := by rw [← hD1]; simpa [ByteArray.size] using hdl
            have k2 : D2.size = 1 := by rw [← hD2]; rfl
            rw [hD1, hD2] at g1
            rw [hD2] at hsl
            rw [hD1]
            have HE := Lib.hid (And.intro hst (And.intro hds hm))
            have HM := Lib.hid hm0
            clear hst hds hm hD1 hD2 hdl hhc e16 hm0
            go_wp2_with fail
            go_roundw
            case rel => exact ⟨m / 16, hc :: ds, by rw [show ((m / 16 : Nat) : Int) = (m : Int) / 16 by omega], rfl, by rw [HE.out.1]; exact HE.out.2.1, by have := HE.out.2.2; omega, trivial⟩
            case measure => have := HM.out; simp [RowKit.intOf]; omega
          case neg =>
            obtain rfl : m = 0 := by omega
            have hds2 : ds = S.hexD n := by simpa [hexP] using hds
            have i2 : ¬ (0 : Int) < ((0 : Nat) : Int) := by omega
            obtain ⟨C1, g1, g2, z2⟩ := cat2 [38, 35, 120] ds [59]
            have hw2 : (⟨([38, 35, 120] ++ ds ++ [59]).toArray⟩ : ByteArray) = SW := by rw [← HSW.out, HW.out.2.2, HW.out.1, hds2]; simp
            rw [hw2] at g2
            obtain ⟨D1, hD1⟩ : ∃ Sx : ByteArray, ⟨ds.toArray⟩ = Sx := ⟨_, rfl⟩
            have k1 : D1.size ≤ 6 := by rw [← hD1]; simpa [ByteArray.size] using hdl
            rw [hD1] at g1 ⊢
            have g1 : (⟨#[38, 35, 120]⟩ : ByteArray) ++ D1 = C1 := g1
            have g2 : C1 ++ ⟨#[59]⟩ = SW := g2
            have z2 : C1.size = 3 + ds.length := z2
            have k2 : C1.size ≤ 9 := by omega
            clear hw2 hD1 hds hds2 z2 hdl
            go_wp2_with fail
            go_ret
            exact ⟨rfl, H1.out.2⟩
end Go.Proofs.YtpimadgcojgjaaaDoor
