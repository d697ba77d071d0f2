/-
  Contracts: virguleref01.Right, Put.
-/
import Derived.Test.YtpimadgcojgjaaaDoorApd
import Derived.Lib.RuneBytes
import Derived.Lib.Small
namespace Go.Proofs.YtpimadgcojgjaaaDoor
open Go.RowKit Go.Shelf Go.Lib Go.Maps

theorem valid_iff (r : Int) : Lib.validRune r = true ↔ 0 ≤ r ∧ r ≤ 1114111 ∧ ¬ (55296 ≤ r ∧ r ≤ 57343) := by
  unfold Lib.validRune
  rw [decide_eq_true_eq]
  omega
theorem rr_any (r : Int) (w : World) : Calls Tryd.prog 20 #[.int .i32 r] w fun e w' => e = .returned (.bool (Lib.validRune r)) ∧ w' = w := by
  have hv := valid_iff r
  obtain ⟨V, hV⟩ : ∃ V, Lib.validRune r = V := ⟨_, rfl⟩
  rw [hV] at hv ⊢
  by_cases c1 : 0 ≤ r
  · by_cases c2 : r ≤ 1114111
    · by_cases c3 : r < 55296
      · obtain rfl : V = true := hv.2 (by omega)
        clear hv hV
        go_enter Tryd.func20, Tryd.ntmps20
        go_wp2
        go_ret
        exact ⟨rfl, rfl⟩
      · have d3 : decide (r < 55296) = false := by simpa using c3
        by_cases c4 : 57343 < r
        · obtain rfl : V = true := hv.2 (by omega)
          clear hv hV
          go_enter Tryd.func20, Tryd.ntmps20
          go_wp2
          go_ret
          exact ⟨rfl, rfl⟩
        · have d4 : decide (57343 < r) = false := by simpa using c4
          obtain rfl : V = false := by cases V; rfl; exact absurd (hv.1 rfl) (by omega)
          clear hv hV
          go_enter Tryd.func20, Tryd.ntmps20
          go_wp2
          go_ret
          exact ⟨rfl, rfl⟩
    · have d2 : decide (r ≤ 1114111) = false := by simpa using c2
      obtain rfl : V = false := by cases V; rfl; exact absurd (hv.1 rfl) (by omega)
      clear hv hV
      go_enter Tryd.func20, Tryd.ntmps20
      go_wp2
      go_ret
      exact ⟨rfl, rfl⟩
  · have d1 : decide (0 ≤ r) = false := by simpa using c1
    obtain rfl : V = false := by cases V; rfl; exact absurd (hv.1 rfl) (by omega)
    clear hv hV
    go_enter Tryd.func20, Tryd.ntmps20
    go_wp2
    go_ret
    exact ⟨rfl, rfl⟩

/-- What is read of a number's bytes. -/
def scR (r : Int) : Int := if Lib.validRune r then r else 65533
theorem scR_valid (r : Int) : Lib.validRune (scR r) = true := by
  unfold scR
  split
  · assumption
  · decide
theorem encZ_scR (r : Int) : encodeRuneZ r = encodeRuneZ (scR r) := by
  unfold scR
  split
  · rfl
  · rename_i h
    have h1 : r < 0 ∨ (55296 ≤ r ∧ r ≤ 57343) ∨ 1114111 < r := by
      have h3 : ¬ (0 ≤ r ∧ r ≤ 1114111 ∧ ¬ (55296 ≤ r ∧ r ≤ 57343)) := fun e => h ((valid_iff r).2 e)
      omega
    rw [encodeRuneZ_bad h1]
    decide
def putN (r : Int) : List Nat := (encodeRuneZ r).map Int.toNat
theorem putN_lt (r : Int) : ∀ x ∈ putN r, x < 256 := by
  intro x hx
  obtain ⟨z, hz, rfl⟩ := List.mem_map.1 hx
  have := encodeRuneZ_byte r z hz
  omega
theorem putN_len (r : Int) : (putN r).length ≤ 4 := by
  unfold putN
  rw [List.length_map]
  exact (encodeRuneZ_length r).2
theorem putN_27 {r : Int} (h : r ≠ 27) : ∀ x ∈ putN r, x ≠ 27 := by
  intro x hx e
  obtain ⟨z, hz, hzx⟩ := List.mem_map.1 hx
  have hb := encodeRuneZ_byte r z hz
  have hz27 : z = 27 := by omega
  subst hz27
  by_cases h0 : r < 0 ∨ (55296 ≤ r ∧ r ≤ 57343) ∨ 1114111 < r
  · rw [encodeRuneZ_bad h0] at hz
    simp at hz
  · by_cases c1 : r ≤ 127
    · rw [encodeRuneZ_one (by omega) c1] at hz
      simp at hz
      omega
    · by_cases c2 : r ≤ 2047
      · rw [encodeRuneZ_two (by omega) c2] at hz
        simp at hz
        omega
      · by_cases c3 : r ≤ 65535
        · rw [encodeRuneZ_three (by omega)] at hz
          simp at hz
          omega
        · rw [encodeRuneZ_four (by omega) (by omega)] at hz
          simp at hz
          omega
def PutOk (w : World) (r : Int) (e : Ending) (w' : World) : Prop := ∃ A cap, e = .returned (.slice A (putN r).length cap) ∧ BY w' w'.heap.size (putN r) A cap ∧ Below w.heap.size w w'
theorem rput_post (r : Int) (zs : List Int) (hz : encodeRuneZ r = zs) (w : World) : PutOk w r (.returned (.slice (some ⟨w.heap.size, 0, none⟩) zs.length zs.length)) (w.alloc (.cells (zs.map (Value.int .u8 ·)).toArray 5)) := by
  have hl : (putN r).length = zs.length := by rw [putN, hz, List.length_map]
  have h4 := encodeRuneZ_length r
  rw [hz] at h4
  refine ⟨_, _, by rw [hl], ⟨by omega, by unfold maxLen; omega, fun e => (by cases e), putN_lt r, fun _ => ⟨w.heap.size, 0, rfl, by simp, fun i x hx => ?_⟩⟩, below_new _ _⟩
  rw [World.cell?_alloc_mark, Nat.zero_add]
  unfold putN at hx
  rw [hz, List.getElem?_map] at hx
  cases e : zs[i]? with
  | none => rw [e] at hx; simp at hx
  | some z =>
    rw [e] at hx
    simp at hx
    subst hx
    have hb := encodeRuneZ_byte r z (by rw [hz]; exact List.mem_of_getElem? e)
    simp [e]
    omega
set_option maxHeartbeats 2000000 in
theorem rput_any (r : Int) (h0 : -2147483648 ≤ r) (h1 : r ≤ 2147483647) (w : World) : Calls Tryd.prog 33 #[.int .i32 r] w (PutOk w r) := by
  have C := rr_any r w
  by_cases hv : Lib.validRune r = true
  · obtain ⟨v0, v1, v2⟩ := (valid_iff r).1 hv
    rw [hv] at C
    have C := Lib.hid C
    by_cases c1 : r < 128
    · have HP := Lib.hid (rput_post r [r] (encodeRuneZ_one v0 (by omega)) w)
      clear v2 hv
      go_enter Tryd.func33, Tryd.ntmps33
      go_wp2_with fail
      refine C.out.mono ?_
      rintro e w1 ⟨rfl, rfl⟩
      go_wp2
      go_ret
      exact HP.out
    · have d1 : decide (r < 128) = false := by simpa using c1
      by_cases c2 : r < 2048
      · have HP := Lib.hid (rput_post r _ (encodeRuneZ_two (by omega) (by omega)) w)
        clear v2 hv c1
        go_enter Tryd.func33, Tryd.ntmps33
        go_wp2_with fail
        refine C.out.mono ?_
        rintro e w1 ⟨rfl, rfl⟩
        go_wp2
        go_ret
        exact HP.out
      · have d2 : decide (r < 2048) = false := by simpa using c2
        by_cases c3 : r < 65536
        · have HP := Lib.hid (rput_post r _ (encodeRuneZ_three (by omega)) w)
          clear v2 hv c1 c2
          go_enter Tryd.func33, Tryd.ntmps33
          go_wp2_with fail
          refine C.out.mono ?_
          rintro e w1 ⟨rfl, rfl⟩
          go_wp2
          go_ret
          exact HP.out
        · have d3 : decide (r < 65536) = false := by simpa using c3
          have HP := Lib.hid (rput_post r _ (encodeRuneZ_four (by omega) (by omega)) w)
          clear v2 hv c1 c2 c3
          go_enter Tryd.func33, Tryd.ntmps33
          go_wp2_with fail
          refine C.out.mono ?_
          rintro e w1 ⟨rfl, rfl⟩
          go_wp2
          go_ret
          exact HP.out
  · have e : scR r = 65533 := if_neg hv
    have hz : encodeRuneZ r = [239, 191, 189] := by rw [encZ_scR, e]; decide
    have HP := Lib.hid (rput_post r _ hz w)
    rw [Bool.eq_false_iff.2 hv] at C
    have C := Lib.hid C
    clear hv e hz
    go_enter Tryd.func33, Tryd.ntmps33
    go_wp2_with fail
    refine C.out.mono ?_
    rintro e w1 ⟨rfl, rfl⟩
    go_wp2
    go_ret
    exact HP.out

/-! ### virguleref01.Hex -/
end Go.Proofs.YtpimadgcojgjaaaDoor
