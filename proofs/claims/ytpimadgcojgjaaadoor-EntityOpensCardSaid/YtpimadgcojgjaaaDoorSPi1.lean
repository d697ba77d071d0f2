/-
  Contracts: internal/strconv's lower, ParseUint at base 16 and 32 bits: of any text.
-/
import Derived.IntWalk
import Derived.Laws.IdiomStrings
import Derived.Test.YtpimadgcojgjaaaDoorSNx
namespace Go.Proofs.YtpimadgcojgjaaaDoor.S
open Go.RowKit Go.Shelf
open Go.Lib

/-- A letter, small. -/
def low (c : Nat) : Nat := c ||| 32
theorem low_lt (c : Nat) (h : c < 256) : low c < 256 := Nat.or_lt_two_pow (n := 8) h (by decide)
theorem lower_any (c : Nat) (h : c < 256) (w : World) : Calls Tryd.prog 114 #[.int .u8 c] w fun e w' => e = .returned (.int .u8 (low c)) ∧ w' = w := by
  have hb : bits .or .u8 (c : Int) 32 = (low c : Int) := by
    revert c
    decide +kernel
  go_enter Tryd.func114, Tryd.ntmps114
  go_wp2
  go_ret
  exact ⟨rfl, rfl⟩
theorem low_48 : ∀ c, c < 48 → low c < 97 := by decide +kernel
theorem low_95 : ∀ c, c = 95 → low c = 127 := by rintro c rfl; decide
/-- A sign's digit; 99: it is none. -/
def pd (c : Nat) : Nat := if 48 ≤ c ∧ c ≤ 57 then c - 48 else if 97 ≤ low c ∧ low c ≤ 122 then low c - 87 else 99
/-- Digits, read at base 16 in 32 bits: their number, or why there is none (true: no digit; false: too great). -/
def pu : List UInt8 → Nat → Except Bool Nat
  | [], n => .ok n
  | c :: r, n => if pd c.toNat < 16 then (if 16 * n + pd c.toNat ≤ 4294967295 then pu r (16 * n + pd c.toNat) else .error false) else .error true
def puE (l : List UInt8) : Except Bool Nat := if l = [] then .error true else pu l 0
def puV : Except Bool Nat → Value
  | .ok n => .tuple #[.int .u64 n, .nilIface]
  | .error true => .tuple #[.int .u64 0, .iface 134 (.int .i64 2)]
  | .error false => .tuple #[.int .u64 4294967295, .iface 134 (.int .i64 1)]

theorem bytes_new (w : World) (s : ByteArray) : ∃ W cap, (convert 9 22 (.string s)).run Tryd.prog w = .ok (.slice (some ⟨w.heap.size, 0, none⟩) s.size cap) W ∧ (∀ j (hj : j < s.data.toList.length), W.cell? ⟨w.heap.size, j, none⟩ = some (.int .u8 ((s.data.toList[j]'hj).toNat : Int))) ∧ Below w.heap.size w W := by
  refine ⟨_, _, run_bytes_of_string (P := Tryd.prog) w 9 22 5 s Tryd.underlying9 Tryd.underlying22 Tryd.underlying5, fun j hj => ?_, (Below.refl _ _).drew.alloc (Nat.le_refl _) _⟩
  have hj' : j < s.size := by simpa using hj
  have e : (w.drew.alloc (.cells (bytesRow s (grownCap w s.size 0 5)) 5 ((bytesRow s (grownCap w s.size 0 5)).size, (bytesRow s (grownCap w s.size 0 5)).size + 1))).heap[w.heap.size]? = some (.cells (bytesRow s (grownCap w s.size 0 5)) 5 ((bytesRow s (grownCap w s.size 0 5)).size, (bytesRow s (grownCap w s.size 0 5)).size + 1)) := by
    show (w.heap.push _)[w.heap.size]? = _
    simp
  unfold World.cell?
  dsimp only
  rw [e]
  show (bytesRow s _)[j]? = _
  unfold bytesRow
  rw [Array.getElem?_append_left (by simpa using hj')]
  simp [hj']

set_option maxHeartbeats 4000000 in
set_option maxRecDepth 100000 in
theorem pui_any (s : ByteArray) (w : World) (hs : s.size ≤ 1000000) :
    Calls Tryd.prog 109 #[.string s, .int .i64 16, .int .i64 32] w fun e w' => e = .returned (puV (puE s.data.toList)) ∧ Below w.heap.size w w' := by
  by_cases h0 : s.size = 0
  · have e : s.data.toList = [] := List.length_eq_zero_iff.1 (by simpa using h0)
    rw [e]
    have e1 : s.toList = [] := by rw [ByteArray.toList_eq]; exact e
    go_enter Tryd.func109, Tryd.ntmps109
    go_wp2
    go_ret2
    exact ⟨rfl, Below.refl _ _⟩
  · have hne : s.data.toList ≠ [] := fun e => h0 (by rw [← ByteArray.size_data, ← Array.length_toList, e]; rfl)
    have hR : puE s.data.toList = pu s.data.toList 0 := if_neg hne
    have hl : s.data.toList.length = s.size := by simp
    rw [hR]
    have e1 : s.toList.isEmpty = false := by rw [ByteArray.toList_eq]; cases h : s.data.toList <;> simp_all
    have CL := Lib.hid lower_any
    obtain ⟨W, cap, hconv, hcell, hb⟩ := bytes_new w s
    have HC := Lib.hid hcell
    have HB := Lib.hid hb
    have HL := Lib.hid hl
    generalize s.data.toList = L at *
    generalize s.size = n at *
    clear hne hR hcell hb hl
    go_enter Tryd.func109, Tryd.ntmps109
    go_wp2_with fail
    clear hconv
    obtain ⟨R, hRR⟩ : ∃ R, pu L 0 = R := ⟨_, rfl⟩
    have HR0 := Lib.hid hRR
    go_loopw [12, 13, 101] (fun us v i wr => ∃ k m : Nat, i = .int .i64 k ∧ k ≤ n ∧ v = .int .u64 m ∧ m ≤ 4294967295 ∧ pu (L.drop k) m = R ∧ us = .bool false ∧ wr = W) (fun _ _ i _ => n - (RowKit.intOf i).toNat)
    case atStart => exact ⟨0, 0, rfl, Nat.zero_le _, rfl, by omega, HR0.out, rfl, rfl⟩
    case round =>
      obtain ⟨k, m, rfl, hk, rfl, hm, hP, rfl, rfl⟩ := hrel
      have HP := Lib.hid hP
      clear hP
      by_cases hlt : k < n
      · have hcell := HC.out k (by have := HL.out; omega)
        have hdrop := List.drop_eq_getElem_cons (l := L) (i := k) (by have := HL.out; omega)
        have hc256 := (L[k]'(by have := HL.out; omega)).toNat_lt
        generalize hcc : L[k]'(by have := HL.out; omega) = c8 at *
        have HS : Hid (R = if pd c8.toNat < 16 then (if 16 * m + pd c8.toNat ≤ 4294967295 then pu (L.drop (k + 1)) (16 * m + pd c8.toNat) else .error false) else .error true) := Lib.hid (by rw [← HP.out, hdrop]; rfl)
        generalize hcn : c8.toNat = c at *
        clear hcn hcc hdrop HP
        have i1 : (k : Int) < (n : Int) := by omega
        have c0 : (0 : Int) ≤ (c : Int) := by omega
        have c1 : (c : Int) ≤ 255 := by omega
        have m1 : (m : Int) ≤ 4294967295 := by omega
        have m2 : decide ((1152921504606846976 : Int) ≤ (m : Int)) = false := by simp; omega
        have l0 := low_lt c hc256
        by_cases a : 48 ≤ c ∧ c ≤ 57
        · have e : pd c = c - 48 := if_pos a
          rw [e, if_pos (by omega)] at HS
          have a1 : (48 : Int) ≤ (c : Int) := by omega
          have a2 : (c : Int) ≤ 57 := by omega
          have a3 : decide ((16 : Int) ≤ (c : Int) - 48) = false := by simp; omega
          by_cases o : 16 * m + (c - 48) ≤ 4294967295
          · rw [if_pos o] at HS
            have o1 : decide ((m : Int) * 16 + ((c : Int) - 48) < (m : Int) * 16) = false := by simp; omega
            have o2 : decide ((4294967295 : Int) < (m : Int) * 16 + ((c : Int) - 48)) = false := by simp; omega
            have o3 : (m : Int) * 16 + ((c : Int) - 48) ≤ 4294967295 := by omega
            clear a e
            go_wp2
            go_roundw
            case rel => exact ⟨k + 1, 16 * m + (c - 48), by go_num, by omega, by go_num, o, HS.out.symm, rfl, trivial⟩
            case measure => simp [RowKit.intOf]; omega
          · rw [if_neg o] at HS
            have o1 : decide ((m : Int) * 16 + ((c : Int) - 48) < (m : Int) * 16) = false := by simp; omega
            have o2 : (4294967295 : Int) < (m : Int) * 16 + ((c : Int) - 48) := by omega
            clear a e
            go_wp2
            go_ret2
            exact ⟨by rw [HR0.out, HS.out]; rfl, HB.out⟩
        · have ep : pd c = if 97 ≤ low c ∧ low c ≤ 122 then low c - 87 else 99 := if_neg a
          have l1 : (low c : Int) ≤ 255 := by omega
          have l2 : (0 : Int) ≤ (low c : Int) := by omega
          have CL1 := Lib.hid (fun W => CL.out c hc256 W)
          have n48 := low_48 c
          have n95 := low_95 c
          generalize low c = l at *
          by_cases g : 48 ≤ c
          · have g1 : (48 : Int) ≤ (c : Int) := by omega
            have g2 : decide ((c : Int) ≤ 57) = false := by simp; omega
            by_cases u : c = 95
            · have u1 : ((c : Int) == 95) = true := by simp; omega
              have n127 := n95 u
              rw [if_neg (by omega)] at ep
              have b1 : (97 : Int) ≤ (l : Int) := by omega
              have b2 : decide ((l : Int) ≤ 122) = false := by simp; omega
              rw [ep, if_neg (by omega)] at HS
              clear ep a u n48 n95 n127
              go_wp2_with (first | (go_at_call 114; refine (CL1.out _).mono ?_; rintro e w' ⟨rfl, rfl⟩))
              go_ret2
              exact ⟨by rw [HR0.out, HS.out]; rfl, HB.out⟩
            · have u1 : ((c : Int) == 95) = false := by simp; omega
              clear u n48 n95
              by_cases q1 : 97 ≤ l
              · by_cases q2 : l ≤ 122
                · rw [if_pos ⟨q1, q2⟩] at ep
                  have b1 : (97 : Int) ≤ (l : Int) := by omega
                  have b2 : (l : Int) ≤ 122 := by omega
                  by_cases q3 : l ≤ 102
                  · have b3 : decide ((16 : Int) ≤ (l : Int) - 97 + 10) = false := by simp; omega
                    rw [ep, if_pos (by omega)] at HS
                    by_cases o : 16 * m + (l - 87) ≤ 4294967295
                    · rw [if_pos o] at HS
                      have o1 : decide ((m : Int) * 16 + ((l : Int) - 97 + 10) < (m : Int) * 16) = false := by simp; omega
                      have o2 : decide ((4294967295 : Int) < (m : Int) * 16 + ((l : Int) - 97 + 10)) = false := by simp; omega
                      have o3 : (m : Int) * 16 + ((l : Int) - 97 + 10) ≤ 4294967295 := by omega
                      clear a ep
                      go_wp2_with (first | (go_at_call 114; refine (CL1.out _).mono ?_; rintro e w' ⟨rfl, rfl⟩))
                      go_roundw
                      case rel => exact ⟨k + 1, 16 * m + (l - 87), by go_num, by omega, by go_num, o, HS.out.symm, rfl, trivial⟩
                      case measure => simp [RowKit.intOf]; omega
                    · rw [if_neg o] at HS
                      have o1 : decide ((m : Int) * 16 + ((l : Int) - 97 + 10) < (m : Int) * 16) = false := by simp; omega
                      have o2 : (4294967295 : Int) < (m : Int) * 16 + ((l : Int) - 97 + 10) := by omega
                      clear a ep
                      go_wp2_with (first | (go_at_call 114; refine (CL1.out _).mono ?_; rintro e w' ⟨rfl, rfl⟩))
                      go_ret2
                      exact ⟨by rw [HR0.out, HS.out]; rfl, HB.out⟩
                  · have b3 : (16 : Int) ≤ (l : Int) - 97 + 10 := by omega
                    rw [ep, if_neg (by omega)] at HS
                    clear ep a
                    go_wp2_with (first | (go_at_call 114; refine (CL1.out _).mono ?_; rintro e w' ⟨rfl, rfl⟩))
                    go_ret2
                    exact ⟨by rw [HR0.out, HS.out]; rfl, HB.out⟩
                · rw [if_neg (by omega)] at ep
                  have b1 : (97 : Int) ≤ (l : Int) := by omega
                  have b2 : decide ((l : Int) ≤ 122) = false := by simp; omega
                  rw [ep, if_neg (by omega)] at HS
                  clear ep a
                  go_wp2_with (first | (go_at_call 114; refine (CL1.out _).mono ?_; rintro e w' ⟨rfl, rfl⟩))
                  go_ret2
                  exact ⟨by rw [HR0.out, HS.out]; rfl, HB.out⟩
              · rw [if_neg (by omega)] at ep
                have b1 : decide ((97 : Int) ≤ (l : Int)) = false := by simp; omega
                rw [ep, if_neg (by omega)] at HS
                clear ep a
                go_wp2_with (first | (go_at_call 114; refine (CL1.out _).mono ?_; rintro e w' ⟨rfl, rfl⟩))
                go_ret2
                exact ⟨by rw [HR0.out, HS.out]; rfl, HB.out⟩
          · have g1 : decide ((48 : Int) ≤ (c : Int)) = false := by simp; omega
            have nl := n48 (by omega)
            rw [if_neg (by omega)] at ep
            have b1 : decide ((97 : Int) ≤ (l : Int)) = false := by simp; omega
            rw [ep, if_neg (by omega)] at HS
            clear ep a n48 n95 nl
            go_wp2_with (first | (go_at_call 114; refine (CL1.out _).mono ?_; rintro e w' ⟨rfl, rfl⟩))
            go_ret2
            exact ⟨by rw [HR0.out, HS.out]; rfl, HB.out⟩
      · have hkn : k = n := by omega
        have e : pu (L.drop k) m = .ok m := by rw [List.drop_eq_nil_of_le (by have := HL.out; omega)]; rfl
        have HE := Lib.hid (show R = .ok m by rw [← HP.out, e])
        subst hkn
        clear e
        go_wp2
        go_ret2
        exact ⟨by rw [HR0.out, HE.out]; rfl, HB.out⟩
end Go.Proofs.YtpimadgcojgjaaaDoor.S
