/-
  PropNames: any class's name, and back; any text's class, if it is one's. The walk of the law.
-/
import Derived.Test.YtphhdkffnboboaaAwk
namespace Go.Proofs.Ytphhdkffnboboaa
open Go.RowKit Go.Shelf
open Go.Lib

theorem idxFrom_spec {α : Type} (eq : α → α → Bool) (x : α) : ∀ (l : List α) (i : Nat), (Lib.idxByFrom eq x l i = -1 ∧ ∀ y ∈ l, eq x y = false) ∨ ∃ (j : Nat) (y : α), l[j]? = some y ∧ Lib.idxByFrom eq x l i = ((i + j : Nat) : Int) ∧ eq x y = true
  | [], i => .inl ⟨rfl, by simp⟩
  | z :: zs, i => by
    unfold Lib.idxByFrom
    cases h : eq x z with
    | true => exact .inr ⟨0, z, rfl, by simp, h⟩
    | false =>
      rcases idxFrom_spec eq x zs (i + 1) with ⟨h1, h2⟩ | ⟨j, y, h1, h2, h3⟩
      · refine .inl ⟨by simpa using h1, fun y hy => ?_⟩
        rcases List.mem_cons.1 hy with rfl | hy
        · exact h
        · exact h2 y hy
      · exact .inr ⟨j + 1, y, by simpa using h1, by simp [h2]; omega, h3⟩
theorem nm_get (n : Nat) (h : n < 36) : nms[n]? = some (nmOf (n : Int)) := by
  unfold nmOf
  rw [if_pos (by omega), Int.toNat_natCast, List.getD_eq_getElem?_getD, List.getElem?_eq_getElem (by exact h)]
  rfl
theorem noOf_spec (s : ByteArray) : (noOf s < 0 ∧ ∀ n : Nat, n < 36 → ((nmOf n).toList == s.toList) = false) ∨ ∃ k : Nat, k < 36 ∧ noOf s = k ∧ ((nmOf k).toList == s.toList) = true := by
  rcases idxFrom_spec (fun _ y : ByteArray => y.toList == s.toList) default nms 0 with ⟨h1, h2⟩ | ⟨j, y, h1, h2, h3⟩
  · refine .inl ⟨by show Lib.idxByFrom _ _ _ _ < 0; omega, fun n hn => ?_⟩
    exact h2 _ (List.mem_of_getElem? (nm_get n hn))
  · have hj : j < 36 := (List.getElem?_eq_some_iff.1 h1).1
    rw [nm_get j hj] at h1
    injection h1 with h1
    refine .inr ⟨j, hj, by show Lib.idxByFrom _ _ _ _ = _; omega, by rw [h1]; exact h3⟩
theorem no_nm : ((List.range 36).all fun n : Nat => decide (noOf (nmOf n) = n) && !(nmOf n).toList.isEmpty) = true := by decide +kernel
theorem no_nil : noOf { data := #[] } = -1 := by kernel_rfl
theorem okOf_nil : okOf (-1) = .tuple #[.int .i64 0, .bool false] := by kernel_rfl

set_option maxHeartbeats 2000000 in
theorem names_walk (c : Int) (_c0 : -9223372036854775808 ≤ c) (_c1 : c ≤ 9223372036854775807) (s : ByteArray) (hs : s.size ≤ 9223372036854775807) (w : World) :
    Calls Try.prog 9 #[.int .i64 c, .string s] w fun e w' => e = .returned (.bool true) ∧ Below w.heap.size w w' := by
  by_cases h60 : 60 < s.size
  · have d : (60 : Int) < (s.size : Int) := by omega
    go_enter Try.func9, Try.ntmps9
    go_wp2_with fail
    refine (awake_any _).mono ?_
    rintro e w1 ⟨rfl, hb⟩
    go_wp2
    go_ret
    exact ⟨rfl, hb⟩
  · have d : decide ((60 : Int) < (s.size : Int)) = false := by simp; omega
    have HS := Lib.hid (noOf_spec s)
    obtain ⟨nm, res, ok, C1, C2, C3, hcond⟩ : ∃ (nm : ByteArray) (res : Int) (ok : Bool), Hid (∀ W, Calls Try.prog 31 #[.int .i64 c] W fun e w' => e = .returned (.string nm) ∧ Below W.heap.size W w')
        ∧ Hid (∀ W, Calls Try.prog 33 #[.int .i64 c] W fun e w' => e = .returned (.string nm) ∧ Below W.heap.size W w')
        ∧ Hid (∀ W, Calls Try.prog 32 #[.string nm] W fun e w' => e = .returned (.tuple #[.int .i64 res, .bool ok]) ∧ Below W.heap.size W w')
        ∧ ((ok = true ∧ res = c ∧ nm.toList.isEmpty = false) ∨ (ok = false ∧ res = 0 ∧ nm = { data := #[] })) := by
      by_cases hc : 0 ≤ c ∧ c < 36
      · obtain ⟨c0, c1⟩ := hc
        obtain ⟨n, rfl⟩ := Int.eq_ofNat_of_zero_le c0
        have hn := List.all_eq_true.1 no_nm n (List.mem_range.2 (by omega))
        simp only [Bool.and_eq_true, decide_eq_true_eq, Bool.not_eq_true'] at hn
        obtain ⟨hn1, hn2⟩ := hn
        have C3 := (fun W => number_any (nmOf n) W)
        rw [hn1, okOf_pos (by omega)] at C3
        exact ⟨_, _, _, Lib.hid (fun W => name_any (n : Int) W), Lib.hid (fun W => rname_any (n : Int) W), Lib.hid C3, .inl ⟨rfl, rfl, hn2⟩⟩
      · have e : nmOf c = { data := #[] } := by unfold nmOf; rw [if_neg hc]
        have C1 := (fun W => name_any c W)
        have C2 := (fun W => rname_any c W)
        have C3 := (fun W => number_any { data := #[] } W)
        rw [e] at C1 C2
        rw [no_nil, okOf_nil] at C3
        exact ⟨_, _, _, Lib.hid C1, Lib.hid C2, Lib.hid C3, .inr ⟨rfl, rfl, rfl⟩⟩
    have CN := Lib.hid (fun (n : Nat) W => rname_any (n : Int) W)
    rcases HS.out with ⟨hneg, hall⟩ | ⟨k, hk, hnk, hks⟩
    · have C4 := (fun W => number_any s W)
      rw [okOf_neg hneg] at C4
      have C4 := Lib.hid C4
      have HA := Lib.hid hall
      clear hneg hall HS
      rcases hcond with ⟨rfl, rfl, hne⟩ | ⟨rfl, rfl, rfl⟩
      all_goals
        go_enter Try.func9, Try.ntmps9
        go_wp2_with fail
        refine (C1.out _).mono ?_
        rintro e w1 ⟨rfl, hb1⟩
        go_wp2_with fail
        refine (C3.out _).mono ?_
        rintro e w2 ⟨rfl, hb⟩
        have hb2 := hb1.trans (hb.mono hb1.size)
        clear hb hb1
        go_wp2_with fail
        refine (C2.out _).mono ?_
        rintro e w3 ⟨rfl, hb⟩
        have hb3 := hb2.trans (hb.mono hb2.size)
        clear hb hb2
        go_wp2_with fail
        refine (C4.out _).mono ?_
        rintro e w4 ⟨rfl, hb⟩
        have hb4 := hb3.trans (hb.mono hb3.size)
        clear hb hb3
        go_wp2_with fail
        go_loopw [10] (fun i wr => ∃ k : Nat, i = .int .i64 k ∧ k ≤ 36 ∧ Below w.heap.size w wr) (fun i _ => 36 - (RowKit.intOf i).toNat)
        case atStart => exact ⟨0, rfl, Nat.zero_le _, hb4⟩
        case round =>
          obtain ⟨k, rfl, hk, hb5⟩ := hrel
          by_cases hlt : k < 36
          · have i1 : (k : Int) < 36 := by omega
            have hq := HA.out k hlt
            have C5 := Lib.hid (CN.out k)
            generalize nmOf (k : Int) = nk at hq C5
            go_wp2_with fail
            refine (C5.out _).mono ?_
            rintro e w5 ⟨rfl, hb⟩
            have hb6 := hb5.trans (hb.mono hb5.size)
            clear hb hb5
            go_wp2
            go_roundw
            case rel => exact ⟨k + 1, by go_num, by omega, hb6⟩
            case measure => simp [RowKit.intOf]; omega
          · have hkn : k = 36 := by omega
            subst hkn
            go_wp2_with fail
            refine (awake_any _).mono ?_
            rintro e w5 ⟨rfl, hb⟩
            have hb6 := hb5.trans (hb.mono hb5.size)
            clear hb hb5
            go_wp2
            go_ret
            exact ⟨rfl, hb6⟩
    · have C4 := (fun W => number_any s W)
      rw [hnk, okOf_pos (by omega)] at C4
      have C4 := Lib.hid C4
      have hn := List.all_eq_true.1 no_nm k (List.mem_range.2 hk)
      simp only [Bool.and_eq_true, decide_eq_true_eq, Bool.not_eq_true'] at hn
      have hs2 : s.toList.isEmpty = false := by rw [← eq_of_beq hks]; exact hn.2
      have C5 := Lib.hid (CN.out k)
      generalize nmOf (k : Int) = nk at hks C5
      have i0 : (0 : Int) ≤ (k : Int) := by omega
      clear hn hnk HS CN
      rcases hcond with ⟨rfl, rfl, hne⟩ | ⟨rfl, rfl, rfl⟩
      all_goals
        go_enter Try.func9, Try.ntmps9
        go_wp2_with fail
        refine (C1.out _).mono ?_
        rintro e w1 ⟨rfl, hb1⟩
        go_wp2_with fail
        refine (C3.out _).mono ?_
        rintro e w2 ⟨rfl, hb⟩
        have hb2 := hb1.trans (hb.mono hb1.size)
        clear hb hb1
        go_wp2_with fail
        refine (C2.out _).mono ?_
        rintro e w3 ⟨rfl, hb⟩
        have hb3 := hb2.trans (hb.mono hb2.size)
        clear hb hb2
        go_wp2_with fail
        refine (C4.out _).mono ?_
        rintro e w4 ⟨rfl, hb⟩
        have hb4 := hb3.trans (hb.mono hb3.size)
        clear hb hb3
        go_wp2_with fail
        refine (C5.out _).mono ?_
        rintro e w5 ⟨rfl, hb⟩
        have hb5 := hb4.trans (hb.mono hb4.size)
        clear hb hb4
        go_wp2_with fail
        refine (awake_any _).mono ?_
        rintro e w6 ⟨rfl, hb⟩
        have hb6 := hb5.trans (hb.mono hb5.size)
        clear hb hb5
        go_wp2
        go_ret
        exact ⟨rfl, hb6⟩
end Go.Proofs.Ytphhdkffnboboaa
