/-
  Contracts: internal/strconv.ParseInt and strconv.ParseInt at base 16 and 32 bits, strconv.toError: of any text.
-/
import Derived.Test.YtpimadgcojgjaaaDoorSPi1
namespace Go.Proofs.YtpimadgcojgjaaaDoor.S
open Go.RowKit Go.Shelf
open Go.Lib

def piR (neg : Bool) : Except Bool Nat → Except Bool Int
  | .error b => .error b
  | .ok n => if neg then (if n ≤ 2147483648 then .ok (-n) else .error false) else (if n < 2147483648 then .ok n else .error false)
/-- A number's text at base 16, in 32 bits: its number, or why there is none. -/
def piE : List UInt8 → Except Bool Int
  | [] => .error true
  | c :: r => if c = 43 then piR false (puE r) else if c = 45 then piR true (puE r) else piR false (puE (c :: r))
/-- What is handed back beside it. -/
def PiRes (R : Except Bool Int) (v : Int) (ev : Value) : Prop :=
  -2147483648 ≤ v ∧ v ≤ 2147483647 ∧ match R with
    | .ok n => v = n ∧ ev = .nilIface
    | .error true => ev = .iface 134 (.int .i64 2)
    | .error false => ev = .iface 134 (.int .i64 1)
def PiPost (R : Except Bool Int) (w : World) (e : Ending) (w' : World) : Prop := ∃ v ev, e = .returned (.tuple #[.int .i64 v, ev]) ∧ PiRes R v ev ∧ Below w.heap.size w w'

theorem pu_le : ∀ (l : List UInt8) (m n : Nat), m ≤ 4294967295 → pu l m = .ok n → n ≤ 4294967295
  | [], m, n, hm, h => by
    have e : m = n := by simpa [pu] using h
    omega
  | c :: r, m, n, hm, h => by
    unfold pu at h
    split at h
    · split at h
      · exact pu_le r _ n (by assumption) h
      · cases h
    · cases h
theorem puE_le {l : List UInt8} {n : Nat} (h : puE l = .ok n) : n ≤ 4294967295 := by
  unfold puE at h
  split at h
  · cases h
  · exact pu_le l 0 n (by omega) h
theorem tail_str (s : ByteArray) : (s.extract 1 s.size).data.toList = s.data.toList.drop 1 := by
  simp [ByteArray.data_extract]
  exact List.take_of_length_le (by simp)

set_option maxHeartbeats 4000000 in
set_option maxRecDepth 100000 in
/-- Behind the sign: what ParseInt does with ParseUint's answer. -/
theorem pii_any (s : ByteArray) (w : World) (hs : s.size ≤ 1000000) :
    Calls Tryd.prog 100 #[.string s, .int .i64 16, .int .i64 32] w (PiPost (piE s.data.toList) w) := by
  have q1 : ∀ w, (binOp .neq 94 (.iface 134 (.int .i64 2)) (.iface 134 (.int .i64 1))).run Tryd.prog w = .ok (.bool true) w := fun _ => by kernel_rfl
  have q2 : ∀ w, (binOp .neq 94 (.iface 134 (.int .i64 1)) (.iface 134 (.int .i64 1))).run Tryd.prog w = .ok (.bool false) w := fun _ => by kernel_rfl
  have q3 : ∀ w (n : Int), (binOp .neq 94 (.iface 134 (.int .i64 n)) .nilIface).run Tryd.prog w = .ok (.bool true) w := fun _ _ => by kernel_rfl
  by_cases h0 : s.size = 0
  · have e : s.data.toList = [] := List.length_eq_zero_iff.1 (by simpa using h0)
    rw [e]
    have e1 : s.toList = [] := by rw [ByteArray.toList_eq]; exact e
    go_enter Tryd.func100, Tryd.ntmps100
    go_wp2
    go_ret2
    exact ⟨_, _, rfl, ⟨by omega, by omega, rfl⟩, Below.refl _ _⟩
  · have e1 : s.toList.isEmpty = false := by
      rw [ByteArray.toList_eq]
      cases h : s.data.toList with
      | nil => exact absurd (by simpa using congrArg List.length h) h0
      | cons _ _ => rfl
    have hs0 : 0 < s.size := by omega
    obtain ⟨c, hc⟩ : ∃ c : UInt8, s[0]'hs0 = c := ⟨_, rfl⟩
    have hL : s.data.toList = c :: s.data.toList.drop 1 := by
      have : s.data.toList[0]'(by simpa using hs0) = c := by rw [← hc]; rfl
      rw [← this]
      exact List.drop_eq_getElem_cons (l := s.data.toList) (i := 0) (by simpa using hs0)
    have C1 := Lib.hid (fun W => pui_any (s.extract 1 s.size) W (by simp; omega))
    have C2 := Lib.hid (fun W => pui_any s W hs)
    rw [tail_str] at C1
    rw [hL]
    have HL := Lib.hid hL
    rw [HL.out] at C2
    generalize s.data.toList.drop 1 = r at *
    clear hL
    by_cases p1 : c = 43
    · subst p1
      have E : piE (43 :: r) = piR false (puE r) := rfl
      rw [E]
      have hRn := fun n (h : puE r = .ok n) => puE_le h
      generalize puE r = R at *
      have CC := C1
      clear E C2
      have HB := Lib.hid (fun n (h : R = .ok n) => (show n ≤ 4294967295 from hRn n h))
      clear hRn
      go_enter Tryd.func100, Tryd.ntmps100
      go_wp2_with fail
      refine (CC.out _).mono ?_
      rintro e w1 ⟨rfl, hb⟩
      rcases R with (_ | _) | n
      · unfold puV
        go_wp2
        go_ret2
        exact ⟨_, _, rfl, ⟨by omega, by omega, rfl⟩, hb⟩
      · unfold puV
        go_wp2
        go_ret2
        exact ⟨_, _, rfl, ⟨by omega, by omega, rfl⟩, hb⟩
      · have hn := HB.out n rfl
        clear HB
        by_cases b : n < 2147483648
        · have b1 : decide ((2147483648 : Int) ≤ (n : Int)) = false := by simp; omega
          have b2 : (n : Int) < 2147483648 := by omega
          have E : piR false (.ok n) = .ok (n : Int) := by show (if n < 2147483648 then _ else _) = _; rw [if_pos b]
          have HE := Lib.hid E
          clear b E
          unfold puV
          go_wp2
          go_ret2
          exact ⟨_, _, rfl, by rw [HE.out]; exact ⟨by omega, by omega, rfl, rfl⟩, hb⟩
        · have b1 : (2147483648 : Int) ≤ (n : Int) := by omega
          have E : piR false (.ok n) = .error false := by show (if n < 2147483648 then _ else _) = _; rw [if_neg b]
          have HE := Lib.hid E
          clear b E
          unfold puV
          go_wp2
          go_ret2
          exact ⟨_, _, rfl, by rw [HE.out]; exact ⟨by omega, by omega, rfl⟩, hb⟩
    · by_cases p2 : c = 45
      · subst p2
        have E : piE (45 :: r) = piR true (puE r) := rfl
        rw [E]
        have hRn := fun n (h : puE r = .ok n) => puE_le h
        generalize puE r = R at *
        have CC := C1
        clear E C2
        have HB := Lib.hid (fun n (h : R = .ok n) => (show n ≤ 4294967295 from hRn n h))
        clear hRn
        go_enter Tryd.func100, Tryd.ntmps100
        go_wp2_with fail
        refine (CC.out _).mono ?_
        rintro e w1 ⟨rfl, hb⟩
        rcases R with (_ | _) | n
        · unfold puV
          go_wp2
          go_ret2
          exact ⟨_, _, rfl, ⟨by omega, by omega, rfl⟩, hb⟩
        · unfold puV
          go_wp2
          go_ret2
          exact ⟨_, _, rfl, ⟨by omega, by omega, rfl⟩, hb⟩
        · have hn := HB.out n rfl
          clear HB
          by_cases b : n ≤ 2147483648
          · have b1 : decide ((2147483648 : Int) < (n : Int)) = false := by simp; omega
            have b2 : (n : Int) ≤ 2147483648 := by omega
            have E : piR true (.ok n) = .ok (-(n : Int)) := by show (if n ≤ 2147483648 then _ else _) = _; rw [if_pos b]
            have HE := Lib.hid E
            clear b E
            unfold puV
            go_wp2
            go_ret2
            exact ⟨_, _, rfl, by rw [HE.out]; exact ⟨by omega, by omega, rfl, rfl⟩, hb⟩
          · have b1 : (2147483648 : Int) < (n : Int) := by omega
            have E : piR true (.ok n) = .error false := by show (if n ≤ 2147483648 then _ else _) = _; rw [if_neg b]
            have HE := Lib.hid E
            clear b E
            unfold puV
            go_wp2
            go_ret2
            exact ⟨_, _, rfl, by rw [HE.out]; exact ⟨by omega, by omega, rfl⟩, hb⟩
      · have E : piE (c :: r) = piR false (puE (c :: r)) := by show (if c = 43 then _ else if c = 45 then _ else _) = _; rw [if_neg p1, if_neg p2]
        rw [E]
        have hRn := fun n (h : puE (c :: r) = .ok n) => puE_le h
        have d1 : ((c.toNat : Int) == 43) = false := by
          simp only [beq_eq_false_iff_ne]
          intro h
          exact p1 (UInt8.toNat_inj.1 (by have : c.toNat = 43 := by omega
                                          rw [this]; rfl))
        have d2 : ((c.toNat : Int) == 45) = false := by
          simp only [beq_eq_false_iff_ne]
          intro h
          exact p2 (UInt8.toNat_inj.1 (by have : c.toNat = 45 := by omega
                                          rw [this]; rfl))
        generalize puE (c :: r) = R at *
        have CC := C2
        clear E C1 p1 p2
        have HB := Lib.hid (fun n (h : R = .ok n) => (show n ≤ 4294967295 from hRn n h))
        clear hRn
        go_enter Tryd.func100, Tryd.ntmps100
        go_wp2_with fail
        refine (CC.out _).mono ?_
        rintro e w1 ⟨rfl, hb⟩
        rcases R with (_ | _) | n
        · unfold puV
          go_wp2
          go_ret2
          exact ⟨_, _, rfl, ⟨by omega, by omega, rfl⟩, hb⟩
        · unfold puV
          go_wp2
          go_ret2
          exact ⟨_, _, rfl, ⟨by omega, by omega, rfl⟩, hb⟩
        · have hn := HB.out n rfl
          clear HB
          by_cases b : n < 2147483648
          · have b1 : decide ((2147483648 : Int) ≤ (n : Int)) = false := by simp; omega
            have b2 : (n : Int) < 2147483648 := by omega
            have E : piR false (.ok n) = .ok (n : Int) := by show (if n < 2147483648 then _ else _) = _; rw [if_pos b]
            have HE := Lib.hid E
            clear b E
            unfold puV
            go_wp2
            go_ret2
            exact ⟨_, _, rfl, by rw [HE.out]; exact ⟨by omega, by omega, rfl, rfl⟩, hb⟩
          · have b1 : (2147483648 : Int) ≤ (n : Int) := by omega
            have E : piR false (.ok n) = .error false := by show (if n < 2147483648 then _ else _) = _; rw [if_neg b]
            have HE := Lib.hid E
            clear b E
            unfold puV
            go_wp2
            go_ret2
            exact ⟨_, _, rfl, by rw [HE.out]; exact ⟨by omega, by omega, rfl⟩, hb⟩
end Go.Proofs.YtpimadgcojgjaaaDoor.S
