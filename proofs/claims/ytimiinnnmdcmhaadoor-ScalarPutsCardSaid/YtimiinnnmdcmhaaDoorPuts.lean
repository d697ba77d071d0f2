/-
  ScalarPuts: any number's bytes, read again; its text, and back. Contracts: virguleref01.Put, virguleref01.Hex; the walk of the law.
-/
import Derived.Deep.RegionHeld3
import Derived.Deep.RegionLaw
import Derived.Test.YtimiinnnmdcmhaaDoorPu1
import Derived.Test.YtimiinnnmdcmhaaDoorStarts
import Derived.Test.YtimiinnnmdcmhaaDoorRefAll
namespace Go.Proofs.YtimiinnnmdcmhaaDoor
open Go.RowKit Go.Shelf
open Go.Lib

theorem rput_post (r : Int) (zs : List Int) (hz : encodeRuneZ r = zs) (w : World) : PutPost (encodeRune r) w (.returned (.slice (some ⟨w.heap.size, 0, none⟩) zs.length zs.length)) (w.alloc (.cells (zs.map (Value.int .u8 ·)).toArray 5)) := by
  have hl := enc_len r
  rw [hz] at hl
  have h4 := encodeRuneZ_length r
  rw [hz] at h4
  refine ⟨w.heap.size, zs.length, by rw [hl], fun j hj => ?_, by omega, by unfold maxLen; omega, by simp, below_new _ _⟩
  have hc := Cells.cell (show Cells _ _ 5 _ from World.alloc_heap_new w (.cells (zs.map (Value.int .u8 ·)).toArray 5)) j
  rw [hc]
  have hj' : j < zs.length := by omega
  have e := congrArg (·[j]?) (byteCells_encodeRune r)
  unfold runeCells at e
  rw [hz] at e
  simp [byteCells, hj, hj'] at e
  simp [hj', e]

set_option maxHeartbeats 2000000 in
theorem rput_any (r : Int) (h0 : -2147483648 ≤ r) (h1 : r ≤ 2147483647) (w : World) : Calls Tryd.prog 25 #[.int .i32 r] w (PutPost (encodeRune r) w) := by
  have C := rr_any r w
  by_cases hv : Lib.validRune r = true
  · obtain ⟨v0, v1, v2⟩ := (valid_iff r).1 hv
    rw [hv] at C
    have C := Lib.hid C
    by_cases c1 : r < 128
    · have HP := Lib.hid (rput_post r [r] (encodeRuneZ_one v0 (by omega)) w)
      clear v2 hv
      go_enter Tryd.func25, Tryd.ntmps25
      go_wp2_with fail
      refine C.out.mono ?_
      rintro e w1 ⟨rfl, rfl⟩
      go_wp2
      go_ret
      exact HP.out
    · have d1 : decide (r < 128) = false := by simpa using c1
      by_cases c2 : r < 2048
      · have HP := Lib.hid (rput_post r _ (encodeRuneZ_two (by omega) (by omega)) w)
        clear v2 hv c1
        go_enter Tryd.func25, Tryd.ntmps25
        go_wp2_with fail
        refine C.out.mono ?_
        rintro e w1 ⟨rfl, rfl⟩
        go_wp2
        go_ret
        exact HP.out
      · have d2 : decide (r < 2048) = false := by simpa using c2
        by_cases c3 : r < 65536
        · have HP := Lib.hid (rput_post r _ (encodeRuneZ_three (by omega)) w)
          clear v2 hv c1 c2
          go_enter Tryd.func25, Tryd.ntmps25
          go_wp2_with fail
          refine C.out.mono ?_
          rintro e w1 ⟨rfl, rfl⟩
          go_wp2
          go_ret
          exact HP.out
        · have d3 : decide (r < 65536) = false := by simpa using c3
          have HP := Lib.hid (rput_post r _ (encodeRuneZ_four (by omega) (by omega)) w)
          clear v2 hv c1 c2 c3
          go_enter Tryd.func25, Tryd.ntmps25
          go_wp2_with fail
          refine C.out.mono ?_
          rintro e w1 ⟨rfl, rfl⟩
          go_wp2
          go_ret
          exact HP.out
  · have e : scR r = 65533 := if_neg hv
    have hz : encodeRuneZ r = [239, 191, 189] := by rw [encZ_scR, e]; decide
    have HP := Lib.hid (rput_post r _ hz w)
    rw [Bool.eq_false_iff.2 hv] at C
    have C := Lib.hid C
    clear hv e hz
    go_enter Tryd.func25, Tryd.ntmps25
    go_wp2_with fail
    refine C.out.mono ?_
    rintro e w1 ⟨rfl, rfl⟩
    go_wp2
    go_ret
    exact HP.out

/-! ### virguleref01.Hex -/
def hexUE (n : Nat) : List UInt8 := if n = 0 then [] else hexU n
theorem hexUE_pos {n : Nat} (h : 0 < n) : hexUE n = hexUE (n / 16) ++ [upperB (hexC (n % 16))] := by
  unfold hexUE
  rw [if_neg (by omega)]
  by_cases c : n < 16
  · rw [if_pos (by omega), hexU_lt c, show n % 16 = n by omega]; rfl
  · rw [if_neg (by omega), hexU_ge c]
theorem pad4_UE (n : Nat) : pad4 (hexUE n) = pad4 (hexU n) := by
  unfold hexUE
  split
  · subst n; rw [hexU_lt (by omega)]; decide +kernel
  · rfl
theorem hexUE_len (n : Nat) (h : n < 4294967296) : (hexUE n).length ≤ 8 := by
  have := (hexD_len n).2 7 (by omega)
  unfold hexUE
  split
  · simp
  · rw [hexU_len]; omega
theorem pad4_cons' (L : List UInt8) (h : L.length < 4) : pad4 (48 :: L) = pad4 L := by
  unfold pad4
  rw [show 4 - L.length = (4 - (48 :: L).length) + 1 by simp; omega, List.replicate_succ']
  simp
theorem pad4_long' (L : List UInt8) (h : 4 ≤ L.length) : pad4 L = L := by
  unfold pad4
  rw [show 4 - L.length = 0 by omega]
  rfl
def hexLitU : ByteArray := ⟨#[48, 49, 50, 51, 52, 53, 54, 55, 56, 57, 65, 66, 67, 68, 69, 70]⟩
theorem hexLitU_at : ∀ d, d < 16 → hexLitU.extract d (d + 1) = ⟨#[upperB (hexC d)]⟩ := by decide +kernel
theorem hexU_slice (m : Nat) (w : World) : (Instr.slice 9 (.string ⟨#[48, 49, 50, 51, 52, 53, 54, 55, 56, 57, 65, 66, 67, 68, 69, 70]⟩) (some (.int .i64 ((m : Int) % 16))) (some (.int .i64 ((m : Int) % 16 + 1))) none).run Tryd.prog w = .ok (.string ⟨#[upperB (hexC (m % 16))]⟩) w := by
  have := run_slice_string (P := Tryd.prog) w 9 hexLitU .i64 .i64 ((m : Int) % 16) ((m : Int) % 16 + 1) Tryd.underlying9 (by omega) (by omega) (by show _ ≤ ((16 : Nat) : Int); omega)
  rw [show ((m : Int) % 16).toNat = m % 16 by omega, show ((m : Int) % 16 + 1).toNat = m % 16 + 1 by omega, hexLitU_at _ (by omega)] at this
  exact this
theorem cons_str' (c : UInt8) (L : List UInt8) : (⟨#[c]⟩ ++ ⟨L.toArray⟩ : ByteArray) = ⟨(c :: L).toArray⟩ := by simp [ByteArray.ext_iff]
def sLen' : Value → Nat
  | .string b => b.size
  | _ => 0
theorem sLen'_str (L : List UInt8) : sLen' (.string ⟨L.toArray⟩) = L.length := rfl

set_option maxHeartbeats 1000000 in
set_option maxRecDepth 100000 in
theorem hexu_any (n : Nat) (hn : n < 4294967296) (w : World) :
    Calls Tryd.prog 26 #[.int .i64 n, .int .i64 4] w fun e w' => e = .returned (.string ⟨(pad4 (hexU n)).toArray⟩) ∧ w' = w := by
  have hE := pad4_UE n
  have hL := hexUE_len n (by omega)
  generalize pad4 (hexU n) = out at *
  have HO := Lib.hid (And.intro hE hL)
  have b0 : (0 : Int) ≤ (n : Int) := by omega
  have b1 : (n : Int) < 4294967296 := by omega
  have dn : decide ((n : Int) < 0) = false := by simp
  clear hE hL
  go_enter Tryd.func26, Tryd.ntmps26
  go_wp2
  go_loopw [0, 5] (fun r s wr => ∃ (m : Nat) (L : List UInt8), r = .int .i64 m ∧ s = .string ⟨L.toArray⟩ ∧ m ≤ n ∧ pad4 (hexUE m ++ L) = out ∧ (hexUE m ++ L).length ≤ 8 ∧ wr = w) (fun r s _ => (RowKit.intOf r).toNat + (4 - sLen' s))
  case atStart => exact ⟨n, [], rfl, rfl, Nat.le_refl _, by rw [List.append_nil]; exact HO.out.1, by rw [List.append_nil]; exact HO.out.2, rfl⟩
  case round =>
    obtain ⟨m, L, rfl, rfl, hm, hP, hLn, rfl⟩ := hrel
    have hLl : L.length ≤ 8 := by simp at hLn; omega
    have HP := Lib.hid (And.intro hP hLn)
    clear hP hLn
    have b2 : (0 : Int) ≤ (m : Int) := by omega
    have b3 : (m : Int) ≤ 4294967295 := by omega
    by_cases c : 0 < m
    · have d : (0 : Int) < (m : Int) := by omega
      have hs := hexU_slice m
      have hE := hexUE_pos c
      have HR := Lib.hid (show pad4 (hexUE (m / 16) ++ upperB (hexC (m % 16)) :: L) = out ∧ (hexUE (m / 16) ++ upperB (hexC (m % 16)) :: L).length ≤ 8 by
        have h := HP.out
        rw [hE, List.append_assoc] at h
        exact h)
      have HC := Lib.hid cons_str'
      clear hE
      go_wp2_with fail
      rw [HC.out]
      go_roundw
      case rel => exact ⟨m / 16, upperB (hexC (m % 16)) :: L, by rw [Int.natCast_ediv]; rfl, rfl, by omega, HR.out.1, HR.out.2, trivial⟩
      case measure => rw [sLen'_str, sLen'_str]; simp [RowKit.intOf]; omega
    · have hm0 : m = 0 := by omega
      subst hm0
      have e0 : hexUE 0 = [] := rfl
      rw [e0, List.nil_append] at HP
      have d : decide ((0 : Int) < ((0 : Nat) : Int)) = false := by decide
      by_cases c4 : L.length < 4
      · have d4 : (L.length : Int) < 4 := by omega
        have HC := Lib.hid cons_str'
        have HR := Lib.hid (show pad4 (hexUE 0 ++ 48 :: L) = out ∧ (hexUE 0 ++ 48 :: L).length ≤ 8 by
          rw [e0, List.nil_append, pad4_cons' L c4]
          exact ⟨HP.out.1, by simp; omega⟩)
        clear e0
        go_wp2_with fail
        have e2 : ({ data := #[48, 49, 50, 51, 52, 53, 54, 55, 56, 57, 65, 66, 67, 68, 69, 70] } : ByteArray).extract 0 1 = ⟨#[48]⟩ := by decide +kernel
        rw [e2, HC.out]
        go_roundw
        case rel => exact ⟨0, 48 :: L, rfl, rfl, by omega, HR.out.1, HR.out.2, trivial⟩
        case measure => rw [sLen'_str, sLen'_str]; simp [RowKit.intOf]; omega
      · have d4 : decide ((L.length : Int) < 4) = false := by simp; omega
        have HR := Lib.hid (show L = out by rw [← HP.out.1, pad4_long' L (by omega)])
        clear e0
        go_wp2
        go_ret
        exact ⟨by rw [← HR.out]; rfl, rfl⟩

def hexS (r : Int) : List UInt8 := (if r < 0 then [45] else []) ++ pad4 (hexU r.natAbs)
theorem scT_hexS (r : Int) : scT r = [85, 43] ++ hexS r := by unfold scT hexS; rw [List.append_assoc]
theorem hexS_len (r : Int) (h0 : -2147483648 ≤ r) (h1 : r ≤ 2147483647) : (hexS r).length ≤ 9 := by
  have := pad_len r.natAbs
  have := (hexD_len r.natAbs).2 7 (by omega)
  unfold hexS
  split <;> simp <;> omega
set_option maxRecDepth 100000 in
theorem hexs_any (r : Int) (h0 : -2147483648 ≤ r) (h1 : r ≤ 2147483647) (w : World) :
    Calls Tryd.prog 26 #[.int .i64 r, .int .i64 4] w fun e w' => e = .returned (.string ⟨(hexS r).toArray⟩) ∧ w' = w := by
  by_cases c : r < 0
  · obtain ⟨n, hn⟩ : ∃ n : Nat, r.natAbs = n := ⟨_, rfl⟩
    have C := Lib.hid (hexu_any n (by omega) w)
    have e : hexS r = 45 :: pad4 (hexU n) := by
      unfold hexS
      rw [if_pos c, hn]
      simp
    have hl := pad_len n
    have hl2 := (hexD_len n).2 7 (by omega)
    rw [e]
    have HRN := Lib.hid (show -r = (n : Int) by omega)
    have b3 : (pad4 (hexU n)).length ≤ 8 := by omega
    generalize pad4 (hexU n) = out at *
    have HC := Lib.hid cons_str'
    clear e hl hl2 hn
    go_enter Tryd.func26, Tryd.ntmps26
    go_wp2_with fail
    rw [HRN.out]
    refine C.out.mono ?_
    rintro e w1 ⟨rfl, rfl⟩
    go_wp2
    go_ret
    exact ⟨by rw [← HC.out]; rfl, rfl⟩
  · obtain ⟨n, rfl⟩ : ∃ n : Nat, r = (n : Int) := ⟨r.toNat, by omega⟩
    have e : hexS (n : Int) = pad4 (hexU n) := by
      unfold hexS
      rw [if_neg c]
      simp
    rw [e]
    exact hexu_any n (by omega) w

theorem scT_valid {r n : Int} (hn : Lib.validRune n = true) (h : scT n = scT r) : n = r := by
  obtain ⟨n0, n1, _⟩ := (valid_iff n).1 hn
  rw [scT_pos n0] at h
  by_cases c : r < 0
  · exfalso
    unfold scT at h
    rw [if_pos c] at h
    have hl := pad_len n.toNat
    have hu := pad_ups n.toNat
    cases hD : pad4 (hexU n.toNat) with
    | nil => rw [hD] at hl; simp at hl; omega
    | cons x xs =>
      rw [hD] at h hu
      have h2 := congrArg (·[2]?) h
      simp at h2
      have := (ud_ne x.toNat (UInt8.toNat_lt x) (hu x List.mem_cons_self)).2
      rw [h2] at this
      exact this rfl
  · rw [scT_pos (by omega)] at h
    injection h with _ h
    injection h with _ h
    have := congrArg (udF 0) h
    rw [pad_val, pad_val] at this
    omega
theorem scP_not {r : Int} (h : ¬ Lib.validRune r = true) : scP (scT r) = none := by
  cases hs : scP (scT r) with
  | none => rfl
  | some n =>
    obtain ⟨a, b⟩ := scP_some hs
    rw [scT_valid a b] at a
    exact absurd a h
theorem scT_len (r : Int) (h0 : -2147483648 ≤ r) (h1 : r ≤ 2147483647) : (scT r).length ≤ 11 := by
  have := hexS_len r h0 h1
  rw [scT_hexS]
  simp
  omega
theorem Sl.up {w w' : World} {A : Option Addr} {n cap : Nat} {f : Nat → Nat} (h : Sl w w.heap.size A n cap f) (hb : Below w.heap.size w w') : Sl w' w'.heap.size A n cap f := by
  have h := h.below hb
  exact ⟨h.1, h.2.1, fun hn => by obtain ⟨b, off, e, hlt, hB⟩ := h.2.2 hn; exact ⟨b, off, e, Nat.lt_of_lt_of_le hlt hb.size, hB⟩⟩
/-- What Put hands back is a slice of bytes. -/
theorem sl_of_put {l : List UInt8} {w : World} {g cap : Nat} (hc : ∀ j (hj : j < l.length), w.cell? ⟨g, j, none⟩ = some (.int .u8 (l[j].toNat : Int))) (h1 : l.length ≤ cap) (h2 : cap ≤ maxLen) (h3 : g < w.heap.size) : Sl w w.heap.size (some ⟨g, 0, none⟩) l.length cap (fun j => (l.getD j 0).toNat) :=
  ⟨h1, h2, fun _ => ⟨g, 0, rfl, h3, fun j hj => by
    rw [Nat.zero_add, hc j hj]
    refine ⟨by simp [List.getD_eq_getElem?_getD, hj], UInt8.toNat_lt _⟩⟩⟩

set_option maxHeartbeats 8000000 in
set_option maxRecDepth 100000 in
theorem puts_walk (r : Int) (h0 : -2147483648 ≤ r) (h1 : r ≤ 2147483647) (w : World) (hT : Tabs w) (hZ : TZ w) (hE : EV w) :
    Calls Tryd.prog 6 #[.int .i32 r] w fun e w' => e = .returned (.bool true) ∧ Below w.heap.size w w' := by
  have HA := Lib.hid awake_any
  have HT := Lib.hid hT
  have HZ := Lib.hid hZ
  have HE := Lib.hid hE
  have P1 := Lib.hid (fun W => put_any r h0 h1 W)
  have P2 := Lib.hid (fun W => rput_any r h0 h1 W)
  have hel := encodeRuneZ_length r
  have hll := enc_len r
  have hre := rest_enc r
  have S1 := Lib.hid (fun W A cap (a : Tabs W) (b : Sl W W.heap.size A (encodeRune r).length cap (fun j => ((encodeRune r).getD j 0).toNat)) => (callsIn_wide (n := 8)).1 (all_in 8 (by omega) A _ cap _ W a b (by omega)))
  have S2 := Lib.hid (fun W A cap (a : Tabs W) (b : Sl W W.heap.size A (encodeRune r).length cap (fun j => ((encodeRune r).getD j 0).toNat)) => (callsIn_wide (n := 8)).1 (valid_in 8 (by omega) A _ cap _ W a b))
  rw [hre] at S1 S2
  have HS := Lib.hid (fun W g cap (a : ∀ j (hj : j < (encodeRune r).length), W.cell? ⟨g, j, none⟩ = some (.int .u8 ((encodeRune r)[j].toNat : Int))) b c d => sl_of_put (l := encodeRune r) (w := W) (g := g) (cap := cap) a b c d)
  have Q1 := Lib.hid (fun W hW => sp_any r h0 h1 W hW)
  have wr : IntKind.i64.wrap r = r := IntWalk.i64_in _ (by omega)
  have Q2 := Lib.hid (show ∀ W, Calls Tryd.prog 26 #[.int .i64 (IntKind.i64.wrap r), .int .i64 4] W _ from fun W => by rw [wr]; exact hexs_any r h0 h1 W)
  clear wr
  have Q3 := Lib.hid (fun W a b => parse_any ⟨(scT r).toArray⟩ W (by have := scT_len r h0 h1; show (scT r).length ≤ _; omega) a b)
  have Q4 := Lib.hid (fun W => rr_any r W)
  rw [show (⟨(scT r).toArray⟩ : ByteArray).data.toList = scT r from rfl] at Q3
  have HX := Lib.hid (show (⟨#[85, 43]⟩ ++ ⟨(hexS r).toArray⟩ : ByteArray) = ⟨(scT r).toArray⟩ by rw [scT_hexS]; simp [ByteArray.ext_iff])
  have hhl := hexS_len r h0 h1
  obtain ⟨V, hV⟩ : ∃ V, Lib.validRune r = V := ⟨_, rfl⟩
  have HP : Hid (scP (scT r) = if V then some r else none) := Lib.hid (by
    cases V with
    | true => exact scP_of hV
    | false => exact scP_not (by rw [hV]; simp))
  rw [HP.out] at Q3
  have HR : Hid (((scR r).toNat : Int) = if V then r else 65533) := Lib.hid (by
    unfold scR
    rw [hV]
    cases V with
    | true => have := (valid_iff r).1 hV; simp; omega
    | false => rfl)
  rw [hV] at Q4
  have hen : 1 ≤ (encodeRune r).length ∧ (encodeRune r).length ≤ 4 := by omega
  generalize encodeRune r = eb at *
  generalize scT r = st at *
  generalize hexS r = hx at *
  generalize (scR r).toNat = rr at *
  have hno : ¬ (9223372036854775807 < 2 + hx.length) := by omega
  clear hT hZ hE hel hll hre hV HP
  go_enter Tryd.func6, Tryd.ntmps6
  go_wp2_with fail
  refine (P1.out _).mono ?_
  rintro e w1 ⟨g, cap, rfl, hc, hcl, hcm, hg, hb1⟩
  have SL := Lib.hid (HS.out w1 g cap hc hcl hcm hg)
  have HC := Lib.hid hc
  have HT1 := Lib.hid (HT.out.below hb1 HT.out.2)
  have HZ1 := Lib.hid (HZ.out.below hb1)
  have HE1 := Lib.hid (HE.out.below hb1)
  clear hc hcl hcm
  go_wp2_with fail
  refine (S1.out _ _ _ HT1.out SL.out).mono ?_
  rintro e w2 ⟨v, rfl, hown, _, hb2⟩
  obtain ⟨g2, c2, rfl⟩ := ownsRow_succ hown
  have q0 := hown.cellAt 0 (by simp)
  simp [runes] at q0
  have hg2 := own_block_lt hown g2 rfl
  have SL2 := Lib.hid (SL.out.up hb2)
  have HZ2 := Lib.hid (HZ1.out.below hb2)
  have HE2 := Lib.hid (HE1.out.below hb2)
  have HT2 := Lib.hid (HT1.out.below hb2 HT1.out.2)
  have hbb := hb1.trans (hb2.mono hb1.size)
  have K0 : Hid (∀ W, Below w2.heap.size w2 W → W.cell? ⟨g2, 0, none⟩ = some (.int .i32 rr)) := Lib.hid fun W hb => (hb.cell (p := ⟨g2, 0, none⟩) hg2.2).trans q0
  have KC : Hid (∀ W, Below w2.heap.size w2 W → ∀ j (hj : j < eb.length), W.cell? ⟨g, j, none⟩ = some (.int .u8 (eb[j].toNat : Int))) := Lib.hid fun W hb j hj => (hb.cell (p := ⟨g, j, none⟩) (Nat.lt_of_lt_of_le hg hb2.size)).trans ((hb2.cell (p := ⟨g, j, none⟩) hg).trans (HC.out j hj))
  have HG := Lib.hid hg
  clear hown q0 hb2 hg2 hb1 hg
  go_wp2_with fail
  refine (Q1.out _ HZ2.out).mono ?_
  rintro e w3 ⟨rfl, hb3⟩
  have HZ3 := Lib.hid (HZ2.out.below hb3)
  have HE3 := Lib.hid (HE2.out.below hb3)
  have hbc := hbb.trans (hb3.mono hbb.size)
  have HB3 := Lib.hid hb3
  have hb3' := Lib.hid hb3
  clear hb3
  cases V
  all_goals
    go_wp2_with fail
    refine (Q3.out _ HZ3.out HE3.out).mono ?_
    rintro e w4 ⟨rfl, hb4⟩
    have HB4 := Lib.hid (HB3.out.trans (hb4.mono HB3.out.size))
    have hbd := hbc.trans (hb4.mono hbc.size)
    have hb4' := Lib.hid hb4
    clear hb4
    unfold scPV
    have hcv := run_convert_bytes_back (P := Tryd.prog) w4.drew 22 9 5 ⟨g, 0, none⟩ cap eb Tryd.underlying22 Tryd.underlying5 Tryd.underlying9 (fun j hj => by rw [add0]; exact KC.out w4.drew HB4.out.drew j hj)
    have hx2 := HX.out
    have SL4 := Lib.hid ((SL2.out.up (hb3'.out.trans (hb4'.out.mono hb3'.out.size))).up (Below.refl _ _).drew)
    have HT4 := Lib.hid (HT2.out.below (hb3'.out.trans (hb4'.out.mono hb3'.out.size)) HT2.out.2)
    have hbe := hbd.drew
    have HBE := Lib.hid hbe
    have HQ := Lib.hid HB4.out.drew
    have HDR := Lib.hid (show Below w4.heap.size w4 w4.drew from (Below.refl _ _).drew)
    clear hbe hbd
    go_wp2_with fail
    refine wp_region_noPanic ?_
    refine wp_region_held_drew (S := fun W => Below w2.heap.size w2 W) (by kernel_rfl) HQ.out (fun hH => ?_)
    refine wpAnyH_take (i := 0) (oi := { dst := some 19, op := Op.move (Operand.tmp 3), type := 22, pos := "law.go:88", after := #[], guard := none }) (v := ?_) rfl (by kernel_rfl) (by kernel_rfl) (by kernel_rfl) (fun _ _ _ h => h) (Or.inl ⟨by rfl, ?_⟩) (by exact hH) ?_
    rotate_left
    · intro W hSw
      go_simp
      try with_reducible rfl
    try simp only [Act.put, List.setIfInBounds_toArray, List.set_cons_zero, List.set_cons_succ]
    refine wpAnyH_take (i := 2) (oi := { dst := some 21, op := Op.move (Operand.tmp 0), type := 21, pos := "law.go:88", after := #[], guard := none }) (v := ?_) rfl (by kernel_rfl) (by kernel_rfl) (by kernel_rfl) (fun _ _ _ h => h) (Or.inl ⟨by rfl, ?_⟩) (by exact hH) ?_
    rotate_left
    · intro W hSw
      go_simp
      try with_reducible rfl
    try simp only [Act.put, List.setIfInBounds_toArray, List.set_cons_zero, List.set_cons_succ]
    refine wpAnyH_take (i := 1) (oi := { dst := some 20, op := Op.convert 22 9 (Operand.tmp 19), type := 9, pos := "law.go:88", after := #[{ on := 0, ground := Ground.data }], guard := none }) (v := ?_) rfl (by kernel_rfl) (by kernel_rfl) (by kernel_rfl) (fun _ _ _ h => h) (Or.inl ⟨by rfl, ?_⟩) (by exact hH) ?_
    rotate_left
    · intro W hSw
      have hcw := run_convert_bytes_back (P := Tryd.prog) W 22 9 5 ⟨g, 0, none⟩ cap eb Tryd.underlying22 Tryd.underlying5 Tryd.underlying9 (fun j hj => by rw [add0]; exact KC.out W hSw j hj)
      go_simp
      try with_reducible rfl
    try simp only [Act.put, List.setIfInBounds_toArray, List.set_cons_zero, List.set_cons_succ]
    refine wpAnyH_ready (rs := [3]) (by kernel_rfl) (by simp) ?_
    refine AllReadyH.cons (o := { dst := some 22, op := Op.call { callee := Callee.value (Operand.func 25), args := #[Operand.tmp 21], argTypes := #[21] }, type := 22, pos := "law.go:88", after := #[{ on := 2, ground := Ground.data }], guard := none }) rfl (fun K hK => ?_) AllReadyH.nil
    go_simp
    go_at_call 25
    refine (P2.out _).mono ?_
    rintro e w5 ⟨g5, cap5, rfl, hc5, hl5, hm5, hg5, hb5⟩
    have hbw5 : Below w2.heap.size w2 w5 := HB4.out.drew.trans (hb5.mono HB4.out.drew.size)
    have hcvA := run_convert_bytes_back (P := Tryd.prog) w5 22 9 5 ⟨g5, 0, none⟩ cap5 eb Tryd.underlying22 Tryd.underlying5 Tryd.underlying9 (fun j hj => by rw [add0]; exact hc5 j hj)
    have SL5 := Lib.hid (SL4.out.up hb5)
    have HT5 := Lib.hid ((HT4.out.below HDR.out HT4.out.2).below hb5 (HT4.out.below HDR.out HT4.out.2).2)
    have HB5 := Lib.hid (HBE.out.trans (hb5.mono HBE.out.size))
    have HW5 := Lib.hid hbw5
    clear hc5 hl5 hm5 hg5 hb5 hbw5
    go_wp2_with fail
    refine hK.out _ _ HW5.out (fun hH => ?_)
    clear hK K
    try simp only [Act.put, List.setIfInBounds_toArray, List.set_cons_zero, List.set_cons_succ]
    refine wpAnyH_ready (rs := [4]) (by kernel_rfl) (by simp) ?_
    refine AllReadyH.cons (o := { dst := some 23, op := Op.convert 22 9 (Operand.tmp 22), type := 9, pos := "law.go:88", after := #[{ on := 3, ground := Ground.data }], guard := none }) rfl (fun K hK => ?_) AllReadyH.nil
    go_simp
    refine hK.out _ _ HW5.out (fun hH => ?_)
    clear hK K
    try simp only [Act.put, List.setIfInBounds_toArray, List.set_cons_zero, List.set_cons_succ]
    refine wpAnyH_take (i := 5) (oi := { dst := some 24, op := Op.binOp BinOp.neq 9 (Operand.tmp 20) (Operand.tmp 23) 9, type := 4, pos := "law.go:88", after := #[{ on := 1, ground := Ground.data }, { on := 4, ground := Ground.data }], guard := none }) (v := ?_) rfl (by kernel_rfl) (by kernel_rfl) (by kernel_rfl) (fun _ _ _ h => h) (Or.inl ⟨by rfl, ?_⟩) (by exact hH) ?_
    rotate_left
    · intro W hSw
      go_simp
      try with_reducible rfl
    try simp only [Act.put, List.setIfInBounds_toArray, List.set_cons_zero, List.set_cons_succ]
    refine wpAnyH_take (i := 6) (oi := { dst := some 25, op := Op.move (Operand.tmp 24), type := 4, pos := "law.go:88", after := #[{ on := 5, ground := Ground.data }, { on := 3, ground := Ground.chain }], guard := none }) (v := ?_) rfl (by kernel_rfl) (by kernel_rfl) (by kernel_rfl) (fun _ _ _ h => h) (Or.inl ⟨by rfl, ?_⟩) (by exact hH) ?_
    rotate_left
    · intro W hSw
      go_simp
      try with_reducible rfl
    try simp only [Act.put, List.setIfInBounds_toArray, List.set_cons_zero, List.set_cons_succ]
    refine wpAnyH_take (i := 7) (oi := { dst := some 26, op := Op.move (Operand.tmp 5), type := 9, pos := "law.go:88", after := #[{ on := 6, ground := Ground.guard }], guard := some (6, false) }) (v := ?_) rfl (by kernel_rfl) (by kernel_rfl) (by kernel_rfl) (fun _ _ _ h => h) (Or.inl ⟨by rfl, ?_⟩) (by exact hH) ?_
    rotate_left
    · intro W hSw
      go_simp
      try with_reducible rfl
    try simp only [Act.put, List.setIfInBounds_toArray, List.set_cons_zero, List.set_cons_succ]
    refine wpAnyH_take (i := 8) (oi := { dst := some 27, op := Op.move (Operand.tmp 0), type := 21, pos := "law.go:88", after := #[{ on := 6, ground := Ground.guard }], guard := some (6, false) }) (v := ?_) rfl (by kernel_rfl) (by kernel_rfl) (by kernel_rfl) (fun _ _ _ h => h) (Or.inl ⟨by rfl, ?_⟩) (by exact hH) ?_
    rotate_left
    · intro W hSw
      go_simp
      try with_reducible rfl
    try simp only [Act.put, List.setIfInBounds_toArray, List.set_cons_zero, List.set_cons_succ]
    refine wpAnyH_take (i := 9) (oi := { dst := some 28, op := Op.convert 21 2 (Operand.tmp 27), type := 2, pos := "law.go:88", after := #[{ on := 8, ground := Ground.data }, { on := 6, ground := Ground.guard }], guard := some (6, false) }) (v := ?_) rfl (by kernel_rfl) (by kernel_rfl) (by kernel_rfl) (fun _ _ _ h => h) (Or.inl ⟨by rfl, ?_⟩) (by exact hH) ?_
    rotate_left
    · intro W hSw
      go_simp
      try with_reducible rfl
    try simp only [Act.put, List.setIfInBounds_toArray, List.set_cons_zero, List.set_cons_succ]
    refine wpAnyH_ready (rs := [10]) (by kernel_rfl) (by simp) ?_
    refine AllReadyH.cons (o := { dst := some 29, op := Op.call { callee := Callee.value (Operand.func 26), args := #[Operand.tmp 28, Operand.const (Value.int IntKind.i64 4)], argTypes := #[2, 3] }, type := 9, pos := "law.go:88", after := #[{ on := 9, ground := Ground.data }, { on := 6, ground := Ground.chain }, { on := 6, ground := Ground.guard }], guard := some (6, false) }) rfl (fun K hK => ?_) AllReadyH.nil
    go_simp
    go_at_call 26
    refine (Q2.out _).mono ?_
    rintro e w6 ⟨rfl, rfl⟩
    go_wp2_with fail
    refine hK.out _ _ HW5.out (fun hH => ?_)
    clear hK K
    try simp only [Act.put, List.setIfInBounds_toArray, List.set_cons_zero, List.set_cons_succ]
    refine wpAnyH_take (i := 11) (oi := { dst := some 30, op := Op.binOp BinOp.add 9 (Operand.const (Value.string { data := #[85, 43] })) (Operand.tmp 29) 9, type := 9, pos := "law.go:88", after := #[{ on := 10, ground := Ground.data }, { on := 6, ground := Ground.guard }], guard := some (6, false) }) (v := ?_) rfl (by kernel_rfl) (by kernel_rfl) (by kernel_rfl) (fun _ _ _ h => h) (Or.inl ⟨by rfl, ?_⟩) (by exact hH) ?_
    rotate_left
    · intro W hSw
      go_simp
      try with_reducible rfl
    try simp only [Act.put, List.setIfInBounds_toArray, List.set_cons_zero, List.set_cons_succ]
    refine wpAnyH_take (i := 12) (oi := { dst := some 31, op := Op.binOp BinOp.neq 9 (Operand.tmp 26) (Operand.tmp 30) 9, type := 4, pos := "law.go:88", after := #[{ on := 7, ground := Ground.data }, { on := 11, ground := Ground.data }, { on := 6, ground := Ground.guard }], guard := some (6, false) }) (v := ?_) rfl (by kernel_rfl) (by kernel_rfl) (by kernel_rfl) (fun _ _ _ h => h) (Or.inl ⟨by rfl, ?_⟩) (by exact hH) ?_
    rotate_left
    · intro W hSw
      go_simp
      try with_reducible rfl
    try simp only [Act.put, List.setIfInBounds_toArray, List.set_cons_zero, List.set_cons_succ]
    refine wpAnyH_take (i := 13) (oi := { dst := some 32, op := Op.pick (Operand.tmp 25) (Operand.const (Value.bool true)) (Operand.tmp 31), type := 4, pos := "law.go:88", after := #[{ on := 6, ground := Ground.data }, { on := 12, ground := Ground.data }], guard := none }) (v := ?_) rfl (by kernel_rfl) (by kernel_rfl) (by kernel_rfl) (fun _ _ _ h => h) (Or.inl ⟨by rfl, ?_⟩) (by exact hH) ?_
    rotate_left
    · intro W hSw
      go_simp
      try with_reducible rfl
    try simp only [Act.put, List.setIfInBounds_toArray, List.set_cons_zero, List.set_cons_succ]
    refine wpAnyH_take (i := 14) (oi := { dst := some 33, op := Op.move (Operand.tmp 32), type := 4, pos := "law.go:88", after := #[{ on := 13, ground := Ground.data }, { on := 10, ground := Ground.chain }], guard := none }) (v := ?_) rfl (by kernel_rfl) (by kernel_rfl) (by kernel_rfl) (fun _ _ _ h => h) (Or.inl ⟨by rfl, ?_⟩) (by exact hH) ?_
    rotate_left
    · intro W hSw
      go_simp
      try with_reducible rfl
    try simp only [Act.put, List.setIfInBounds_toArray, List.set_cons_zero, List.set_cons_succ]
    refine wpAnyH_take (i := 15) (oi := { dst := some 34, op := Op.move (Operand.tmp 4), type := 30, pos := "law.go:88", after := #[{ on := 14, ground := Ground.guard }], guard := some (14, false) }) (v := ?_) rfl (by kernel_rfl) (by kernel_rfl) (by kernel_rfl) (fun _ _ _ h => h) (Or.inl ⟨by rfl, ?_⟩) (by exact hH) ?_
    rotate_left
    · intro W hSw
      go_simp
      try with_reducible rfl
    try simp only [Act.put, List.setIfInBounds_toArray, List.set_cons_zero, List.set_cons_succ]
    refine wpAnyH_take (i := 16) (oi := { dst := some 35, op := Op.call { callee := Callee.builtin Builtin.len, args := #[Operand.tmp 34], argTypes := #[30] }, type := 3, pos := "law.go:88", after := #[{ on := 15, ground := Ground.data }, { on := 14, ground := Ground.guard }], guard := some (14, false) }) (v := ?_) rfl (by kernel_rfl) (by kernel_rfl) (by kernel_rfl) (fun _ _ _ h => h) (Or.inl ⟨by rfl, ?_⟩) (by exact hH) ?_
    rotate_left
    · intro W hSw
      go_simp
      try with_reducible rfl
    try simp only [Act.put, List.setIfInBounds_toArray, List.set_cons_zero, List.set_cons_succ]
    refine wpAnyH_take (i := 17) (oi := { dst := some 36, op := Op.binOp BinOp.neq 3 (Operand.tmp 35) (Operand.const (Value.int IntKind.i64 1)) 3, type := 4, pos := "law.go:88", after := #[{ on := 16, ground := Ground.data }, { on := 14, ground := Ground.guard }], guard := some (14, false) }) (v := ?_) rfl (by kernel_rfl) (by kernel_rfl) (by kernel_rfl) (fun _ _ _ h => h) (Or.inl ⟨by rfl, ?_⟩) (by exact hH) ?_
    rotate_left
    · intro W hSw
      go_simp
      try with_reducible rfl
    try simp only [Act.put, List.setIfInBounds_toArray, List.set_cons_zero, List.set_cons_succ]
    refine wpAnyH_take (i := 18) (oi := { dst := some 37, op := Op.pick (Operand.tmp 33) (Operand.const (Value.bool true)) (Operand.tmp 36), type := 4, pos := "law.go:88", after := #[{ on := 14, ground := Ground.data }, { on := 17, ground := Ground.data }], guard := none }) (v := ?_) rfl (by kernel_rfl) (by kernel_rfl) (by kernel_rfl) (fun _ _ _ h => h) (Or.inl ⟨by rfl, ?_⟩) (by exact hH) ?_
    rotate_left
    · intro W hSw
      go_simp
      try with_reducible rfl
    try simp only [Act.put, List.setIfInBounds_toArray, List.set_cons_zero, List.set_cons_succ]
    refine wpAnyH_take (i := 19) (oi := { dst := some 38, op := Op.move (Operand.tmp 37), type := 4, pos := "law.go:88", after := #[{ on := 18, ground := Ground.data }, { on := 14, ground := Ground.chain }], guard := none }) (v := ?_) rfl (by kernel_rfl) (by kernel_rfl) (by kernel_rfl) (fun _ _ _ h => h) (Or.inl ⟨by rfl, ?_⟩) (by exact hH) ?_
    rotate_left
    · intro W hSw
      go_simp
      try with_reducible rfl
    try simp only [Act.put, List.setIfInBounds_toArray, List.set_cons_zero, List.set_cons_succ]
    refine wpAnyH_take (i := 20) (oi := { dst := some 39, op := Op.move (Operand.tmp 3), type := 22, pos := "law.go:88", after := #[{ on := 19, ground := Ground.guard }], guard := some (19, false) }) (v := ?_) rfl (by kernel_rfl) (by kernel_rfl) (by kernel_rfl) (fun _ _ _ h => h) (Or.inl ⟨by rfl, ?_⟩) (by exact hH) ?_
    rotate_left
    · intro W hSw
      go_simp
      try with_reducible rfl
    try simp only [Act.put, List.setIfInBounds_toArray, List.set_cons_zero, List.set_cons_succ]
    refine wpAnyH_ready (rs := [21]) (by kernel_rfl) (by simp) ?_
    refine AllReadyH.cons (o := { dst := some 40, op := Op.call { callee := Callee.value (Operand.func 20), args := #[Operand.tmp 39], argTypes := #[22] }, type := 4, pos := "law.go:88", after := #[{ on := 20, ground := Ground.data }, { on := 19, ground := Ground.chain }, { on := 19, ground := Ground.guard }], guard := some (19, false) }) rfl (fun K hK => ?_) AllReadyH.nil
    go_simp
    go_at_call 20
    refine (S2.out _ _ _ HT5.out SL5.out).mono ?_
    rintro e w7 ⟨rfl, hb7⟩
    have HW7 := Lib.hid (HW5.out.trans (hb7.mono HW5.out.size))
    have HB7 := Lib.hid (HB5.out.trans (hb7.mono HB5.out.size))
    have HT7 := Lib.hid (HT5.out.below hb7 HT5.out.2)
    clear hb7
    go_wp2_with fail
    refine hK.out _ _ HW7.out (fun hH => ?_)
    clear hK K
    try simp only [Act.put, List.setIfInBounds_toArray, List.set_cons_zero, List.set_cons_succ]
    refine wpAnyH_take (i := 22) (oi := { dst := some 41, op := Op.unOp UnOp.not 4 (Operand.tmp 40), type := 4, pos := "law.go:88", after := #[{ on := 21, ground := Ground.data }, { on := 19, ground := Ground.guard }], guard := some (19, false) }) (v := ?_) rfl (by kernel_rfl) (by kernel_rfl) (by kernel_rfl) (fun _ _ _ h => h) (Or.inl ⟨by rfl, ?_⟩) (by exact hH) ?_
    rotate_left
    · intro W hSw
      go_simp
      try with_reducible rfl
    try simp only [Act.put, List.setIfInBounds_toArray, List.set_cons_zero, List.set_cons_succ]
    refine wpAnyH_take (i := 23) (oi := { dst := some 42, op := Op.pick (Operand.tmp 38) (Operand.const (Value.bool true)) (Operand.tmp 41), type := 4, pos := "law.go:88", after := #[{ on := 19, ground := Ground.data }, { on := 22, ground := Ground.data }], guard := none }) (v := ?_) rfl (by kernel_rfl) (by kernel_rfl) (by kernel_rfl) (fun _ _ _ h => h) (Or.inl ⟨by rfl, ?_⟩) (by exact hH) ?_
    rotate_left
    · intro W hSw
      go_simp
      try with_reducible rfl
    try simp only [Act.put, List.setIfInBounds_toArray, List.set_cons_zero, List.set_cons_succ]
    refine wpAnyH_done (by kernel_rfl) ?_ _
    refine NoPanic.normal ?_
    have k0 := K0.out _ HW7.out
    rw [HR.out] at k0
    simp only [if_true, if_false, Bool.false_eq_true] at k0
    go_wp2_with fail
    refine (Q4.out _).mono ?_
    rintro e w8 ⟨rfl, rfl⟩
    go_wp2_with fail
    refine (HA.out _ HT7.out).mono ?_
    rintro e w9 ⟨rfl, hb9⟩
    have hbz := HB7.out.trans (hb9.mono HB7.out.size)
    go_wp2_with fail
    go_ret
    exact ⟨rfl, hbz⟩
end Go.Proofs.YtimiinnnmdcmhaaDoor
