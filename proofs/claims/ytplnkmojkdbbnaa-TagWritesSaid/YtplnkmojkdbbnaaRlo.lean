/-
  Contracts, the document's side: Blank, Letter, Lower.
-/
import Derived.Test.YtplnkmojkdbbnaaNam
namespace Go.Proofs.Ytplnkmojkdbbnaa
open Go.RowKit Go.Shelf Go.Lib Go.Maps Go.Sort

theorem app_str (a b : List Nat) : (⟨(u8s a).toArray⟩ ++ ⟨(u8s b).toArray⟩ : ByteArray) = ⟨(u8s (a ++ b)).toArray⟩ := by
  apply ByteArray.ext
  simp [u8s]
theorem by_lit1 (w : World) (y : Nat) (hy : y < 256) : BY (w.alloc (.cells #[.int .u8 (y : Int)] 5)) (w.alloc (.cells #[.int .u8 (y : Int)] 5)).heap.size [y] (some ⟨w.heap.size, 0, none⟩) 1 := by
  refine ⟨Nat.le_refl _, by unfold maxLen; omega, (fun e => nomatch e), (fun x hx => by simp at hx; omega), fun _ => ⟨w.heap.size, 0, rfl, by simp, fun i x hx => ?_⟩⟩
  cases i with
  | zero =>
    simp at hx
    subst hx
    exact (World.cell?_alloc_new ..).trans rfl
  | succ i => simp at hx
theorem index_str {l : List Nat} {k x : Nat} (hx : l[k]? = some x) (h256 : x < 256) (w : World) : (Instr.index 9 (.string ⟨(u8s l).toArray⟩) (.int .i64 (k : Int))).run Try.prog w = .ok (.int .u8 (x : Int)) w := by
  have hk : k < (u8s l).length := by rw [u8s_len]; exact (List.getElem?_eq_some_iff.1 hx).1
  rw [run_index_string _ _ _ _ _ Try.underlying9, dif_pos ⟨by omega, by show (k : Int) < (((u8s l).length : Nat) : Int); omega⟩]
  have hu : (u8s l)[k]? = some (UInt8.ofNat x) := by unfold u8s; rw [List.getElem?_map, hx]; rfl
  obtain ⟨h1, h2⟩ := List.getElem?_eq_some_iff.1 hu
  have : ((u8s l)[k]'hk).toNat = x := by rw [h2]; simp [Nat.mod_eq_of_lt h256]
  have e : (x : Int) = (((u8s l)[k]'hk).toNat : Int) := by rw [this]
  rw [e]
  rfl
theorem size_str (l : List Nat) : (⟨(u8s l).toArray⟩ : ByteArray).size = l.length := by simp [ByteArray.size, u8s_len]
set_option maxHeartbeats 4000000 in
set_option maxRecDepth 100000 in
theorem blank_any (c : Nat) (w : World) : Calls Try.prog 37 #[.int .u8 (c : Int)] w fun e w' => e = .returned (.bool (blkB c)) ∧ w' = w := by
  have hb : blkB c = (((c : Int) == 9) || ((c : Int) == 10) || ((c : Int) == 12) || ((c : Int) == 13) || ((c : Int) == 32)) := by
    unfold blkB
    rw [Bool.eq_iff_iff]
    simp only [Bool.or_eq_true, beq_iff_eq]
    omega
  rw [hb]
  generalize (c : Int) = X
  cases e0 : (X == 9) with
  | true =>
    go_enter Try.func37, Try.ntmps37
    go_wp2_with fail
    go_ret
    exact ⟨rfl, rfl⟩
  | false =>
    cases e1 : (X == 10) with
    | true =>
      go_enter Try.func37, Try.ntmps37
      go_wp2_with fail
      go_ret
      exact ⟨rfl, rfl⟩
    | false =>
      cases e2 : (X == 12) with
      | true =>
        go_enter Try.func37, Try.ntmps37
        go_wp2_with fail
        go_ret
        exact ⟨rfl, rfl⟩
      | false =>
        cases e3 : (X == 13) with
        | true =>
          go_enter Try.func37, Try.ntmps37
          go_wp2_with fail
          go_ret
          exact ⟨rfl, rfl⟩
        | false =>
          cases e4 : (X == 32) with
          | true =>
            go_enter Try.func37, Try.ntmps37
            go_wp2_with fail
            go_ret
            exact ⟨rfl, rfl⟩
          | false =>
            go_enter Try.func37, Try.ntmps37
            go_wp2_with fail
            go_ret
            exact ⟨rfl, rfl⟩
set_option maxHeartbeats 4000000 in
set_option maxRecDepth 100000 in
theorem letter_any (c : Nat) (w : World) : Calls Try.prog 24 #[.int .u8 (c : Int)] w fun e w' => e = .returned (.bool (ltrB c)) ∧ w' = w := by
  have e0 : ltrB c = ((decide (65 ≤ (c : Int)) && decide ((c : Int) ≤ 90)) || (decide (97 ≤ (c : Int)) && decide ((c : Int) ≤ 122))) := by
    unfold ltrB
    rw [Bool.eq_iff_iff]
    simp
    omega
  rw [e0]
  generalize (c : Int) = X
  by_cases h1 : 65 ≤ X
  · have d1 : decide (65 ≤ X) = true := by simpa using h1
    by_cases h2 : X ≤ 90
    · have d2 : decide (X ≤ 90) = true := by simpa using h2
      go_enter Try.func24, Try.ntmps24
      go_wp2_with fail
      go_ret
      exact ⟨by simp [d1, d2], rfl⟩
    · have d2 : decide (X ≤ 90) = false := by simpa using h2
      by_cases h3 : 97 ≤ X
      · have d3 : decide (97 ≤ X) = true := by simpa using h3
        go_enter Try.func24, Try.ntmps24
        go_wp2_with fail
        go_ret
        exact ⟨by simp [d1, d2, d3], rfl⟩
      · have d3 : decide (97 ≤ X) = false := by simpa using h3
        go_enter Try.func24, Try.ntmps24
        go_wp2_with fail
        go_ret
        exact ⟨by simp [d1, d2, d3], rfl⟩
  · have d1 : decide (65 ≤ X) = false := by simpa using h1
    have d3 : decide (97 ≤ X) = false := by simp; omega
    go_enter Try.func24, Try.ntmps24
    go_wp2_with fail
    go_ret
    exact ⟨by simp [d1, d3], rfl⟩
theorem lowL_snoc {l : List Nat} {k x : Nat} (hx : l[k]? = some x) : lowL (l.take (k + 1)) = lowL (l.take k) ++ [lowN x] := by
  rw [List.take_add_one, hx]
  simp [lowL]
set_option maxHeartbeats 4000000 in
set_option maxRecDepth 100000 in
/-- The document's Lower. -/
theorem refLower_any (l : List Nat) (h256 : ∀ x ∈ l, x < 256) (hl : l.length ≤ 1000000) (w : World) :
    Calls Try.prog 16 #[strV l] w fun e w' => e = .returned (strV (lowL l)) ∧ Below w.heap.size w w' := by
  have hsz := size_str l
  obtain ⟨N, hN⟩ : ∃ N, l.length = N := ⟨_, rfl⟩
  have hix := fun k x (hx : l[k]? = some x) => index_str hx (h256 x (List.mem_of_getElem? hx))
  unfold strV
  rw [hN] at hsz hl
  have HH := Lib.hid (And.intro hN (And.intro h256 hix))
  clear hN h256 hix
  obtain ⟨S, hS⟩ : ∃ S : ByteArray, ⟨(u8s l).toArray⟩ = S := ⟨_, rfl⟩
  rw [hS] at hsz ⊢
  have HS := Lib.hid hS
  clear hS
  go_enter Try.func16, Try.ntmps16
  go_wp2_with fail
  go_loopw [3, 4, 5] (fun out i _ wr => ∃ k : Nat, i = .int .i64 (k : Int) ∧ k ≤ N ∧ out = strV (lowL (l.take k)) ∧ Below w.heap.size w wr) (fun _ i _ _ => N - (RowKit.intOf i).toNat)
  case atStart => exact ⟨0, by go_num, by omega, rfl, Below.refl _ _⟩
  case round =>
    obtain ⟨k, rfl, hk, rfl, hb⟩ := hrel
    unfold strV
    by_cases hlt : k < N
    case neg =>
      obtain rfl : k = N := by omega
      have HB := Lib.hid hb
      clear hb
      go_wp2_with fail
      go_ret
      refine ⟨?_, HB.out⟩
      have e : l.take k = l := by rw [← HH.out.1]; exact List.take_length
      rw [e]
      rfl
    have i1 : (k : Int) < (N : Int) := by omega
    obtain ⟨x, hx⟩ := at_lt (l := l) (k := k) (by rw [HH.out.1]; exact hlt)
    have hx256 := HH.out.2.1 x (List.mem_of_getElem? hx)
    have hi := HH.out.2.2 k x hx
    rw [HS.out] at hi
    have hsn := lowL_snoc hx
    have hcv : (convert 22 9 (.slice (some ⟨wr.heap.size, 0, none⟩) 1 1)).run Try.prog (wr.alloc (.cells #[.int .u8 ((lowN x : Nat) : Int)] 5)) = .ok (.string ⟨(u8s [lowN x]).toArray⟩) (wr.alloc (.cells #[.int .u8 ((lowN x : Nat) : Int)] 5)) := conv_by (by_lit1 wr (lowN x) (lowN_lt hx256))
    have hst := app_str (lowL (l.take k)) [lowN x]
    rw [← hsn] at hst
    have hsa : (⟨(u8s (lowL (l.take k))).toArray⟩ : ByteArray).size = k := by
      rw [size_str]
      have := (List.getElem?_eq_some_iff.1 hx).1
      simp [lowL]
      omega
    have hsb : (⟨(u8s [lowN x]).toArray⟩ : ByteArray).size = 1 := size_str _
    generalize (⟨(u8s (lowL (l.take k))).toArray⟩ : ByteArray) = SA at *
    generalize (⟨(u8s [lowN x]).toArray⟩ : ByteArray) = SB at *
    have hb1 := hb.alloc hb.size (.cells #[.int .u8 ((lowN x : Nat) : Int)] 5)
    by_cases c1 : 65 ≤ x ∧ x ≤ 90
    · have hlow : ((lowN x : Nat) : Int) = (x : Int) + 32 := by unfold lowN; rw [if_pos c1]; rfl
      rw [hlow] at hcv hb1
      have d1 : decide (65 ≤ (x : Int)) = true := by simp; omega
      have d2 : decide ((x : Int) ≤ 90) = true := by simp; omega
      have e1 : IntKind.u8.wrap ((x : Int) + 32) = (x : Int) + 32 := IntWalk.u8_in _ (by omega)
      have HE := Lib.hid (And.intro hst hb1)
      clear hst hb1 hb hsn c1 hx256 hx hlow
      generalize (x : Int) = X at *
      go_wp2_with fail
      go_roundw
      case rel => exact ⟨k + 1, by go_num, by omega, congrArg Value.string HE.out.1, HE.out.2⟩
      case measure => simp [RowKit.intOf]; omega
    · have hlow : lowN x = x := by unfold lowN; rw [if_neg c1]
      rw [hlow] at hcv hb1
      by_cases c2 : 65 ≤ x
      · have d1 : decide (65 ≤ (x : Int)) = true := by simp; omega
        have d2 : decide ((x : Int) ≤ 90) = false := by simp; omega
        have HE := Lib.hid (And.intro hst hb1)
        clear hst hb1 hb hsn c1 hx256 hx hlow
        generalize (x : Int) = X at *
        go_wp2_with fail
        go_roundw
        case rel => exact ⟨k + 1, by go_num, by omega, congrArg Value.string HE.out.1, HE.out.2⟩
        case measure => simp [RowKit.intOf]; omega
      · have d1 : decide (65 ≤ (x : Int)) = false := by simp; omega
        have HE := Lib.hid (And.intro hst hb1)
        clear hst hb1 hb hsn c1 hx256 hx hlow
        generalize (x : Int) = X at *
        go_wp2_with fail
        go_roundw
        case rel => exact ⟨k + 1, by go_num, by omega, congrArg Value.string HE.out.1, HE.out.2⟩
        case measure => simp [RowKit.intOf]; omega
end Go.Proofs.Ytplnkmojkdbbnaa
