/-
  
  
  
  
  
  
  
-/
import Derived.IntWalk
import Derived.Laws.IdiomStrings
import Derived.Test.YtojinnnpfjhifaaGreatDoorYqd
import Derived.Test.YtojinnnpfjhifaaGreatDoorYqh
import Derived.Lib.ParseIntBCases
import Derived.Laws.EntriesVeiled
import Derived.Great.BuildSlice
import Derived.Lib.QuietBelow
import Derived.BigQuiet
namespace Go.Proofs.YtojinnnpfjhifaaGreatDoor.S
open Go.RowKit Go.Shelf
open Go.Lib
def low (c : Nat) : Nat := c ||| 32
theorem low_lt (c : Nat) (h : c < 256) : low c < 256 := Nat.or_lt_two_pow (n := 8) h (by decide)
theorem lower_any (c : Nat) (h : c < 256) (w : World) : Calls Tryz.prog 139 #[.int .u8 c] w fun e w' => e = .returned (.int .u8 (low c)) ∧ w' = w := by
 have hb : bits .or .u8 (c : Int) 32 = (low c : Int) := by
  revert c
  decide +kernel
 go_enter Tryz.func139, Tryz.ntmps139
 go_wp2
 go_ret
 exact ⟨rfl, rfl⟩
theorem low_48 : ∀ c, c < 48 → low c < 97 := by decide +kernel
theorem low_95 : ∀ c, c = 95 → low c = 127 := by rintro c rfl; decide
def pd (c : Nat) : Nat := if 48 ≤ c ∧ c ≤ 57 then c - 48 else if 97 ≤ low c ∧ low c ≤ 122 then low c - 87 else 99
def pu : List UInt8 → Nat → Except Bool Nat
 | [], n => .ok n
 | c :: r, n => if pd c.toNat < 16 then (if 16 * n + pd c.toNat ≤ 4294967295 then pu r (16 * n + pd c.toNat) else .error false) else .error true
def puE (l : List UInt8) : Except Bool Nat := if l = [] then .error true else pu l 0
def puV : Except Bool Nat → Value
 | .ok n => .tuple #[.int .u64 n, .nilIface]
 | .error true => .tuple #[.int .u64 0, .iface 191 (.int .i64 2)]
 | .error false => .tuple #[.int .u64 4294967295, .iface 191 (.int .i64 1)]
theorem bytes_new (w : World) (s : ByteArray) : ∃ W cap, (convert 9 22 (.string s)).run Tryz.prog w = .ok (.slice (some ⟨w.heap.size, 0, none⟩) s.size cap) W ∧ (∀ j (hj : j < s.data.toList.length), W.cell? ⟨w.heap.size, j, none⟩ = some (.int .u8 ((s.data.toList[j]'hj).toNat : Int))) ∧ Below w.heap.size w W := by
 refine ⟨_, _, run_bytes_of_string (P := Tryz.prog) w 9 22 5 s Tryz.underlying9 Tryz.underlying22 Tryz.underlying5, fun j hj => ?_, (Below.refl _ _).drew.alloc (Nat.le_refl _) _⟩
 have hj' : j < s.size := by simpa using hj
 have e : (w.drew.alloc (.cells (bytesRow s (grownCap w s.size 0 5)) 5 ((bytesRow s (grownCap w s.size 0 5)).size, (bytesRow s (grownCap w s.size 0 5)).size + 1))).heap[w.heap.size]? = some (.cells (bytesRow s (grownCap w s.size 0 5)) 5 ((bytesRow s (grownCap w s.size 0 5)).size, (bytesRow s (grownCap w s.size 0 5)).size + 1)) := by
  show (w.heap.push _)[w.heap.size]? = _
  simp
 unfold World.cell?
 dsimp only
 rw [e]
 show (bytesRow s _)[j]? = _
 unfold bytesRow
 rw [Array.getElem?_append_left (by simpa using hj')]
 simp [hj']
set_option maxHeartbeats 4000000 in
set_option maxRecDepth 100000 in
theorem pui_any (s : ByteArray) (w : World) (hs : s.size ≤ 1000000) :
  Calls Tryz.prog 134 #[.string s, .int .i64 16, .int .i64 32] w fun e w' => e = .returned (puV (puE s.data.toList)) ∧ Below w.heap.size w w' := by
 by_cases h0 : s.size = 0
 ·have e : s.data.toList = [] := List.length_eq_zero_iff.1 (by simpa using h0)
  rw [e]
  have e1 : s.toList = [] := by rw [ByteArray.toList_eq]; exact e
  go_enter Tryz.func134, Tryz.ntmps134
  go_wp2
  go_ret2
  exact ⟨rfl, Below.refl _ _⟩
 ·have hne : s.data.toList ≠ [] := fun e => h0 (by rw [← ByteArray.size_data, ← Array.length_toList, e]; rfl)
  have hR : puE s.data.toList = pu s.data.toList 0 := if_neg hne
  have hl : s.data.toList.length = s.size := by simp
  rw [hR]
  have e1 : s.toList.isEmpty = false := by rw [ByteArray.toList_eq]; cases h : s.data.toList <;> simp_all
  have CL := Lib.hid lower_any
  obtain ⟨W, cap, hconv, hcell, hb⟩ := bytes_new w s
  have HC := Lib.hid hcell
  have HB := Lib.hid hb
  have HL := Lib.hid hl
  generalize s.data.toList = L at *
  generalize s.size = n at *
  clear hne hR hcell hb hl
  go_enter Tryz.func134, Tryz.ntmps134
  go_wp2_with fail
  clear hconv
  obtain ⟨R, hRR⟩ : ∃ R, pu L 0 = R := ⟨_, rfl⟩
  have HR0 := Lib.hid hRR
  go_loopw [12, 13, 101] (fun us v i wr => ∃ k m : Nat, i = .int .i64 k ∧ k ≤ n ∧ v = .int .u64 m ∧ m ≤ 4294967295 ∧ pu (L.drop k) m = R ∧ us = .bool false ∧ wr = W) (fun _ _ i _ => n - (RowKit.intOf i).toNat)
  case atStart => exact ⟨0, 0, rfl, Nat.zero_le _, rfl, by omega, HR0.out, rfl, rfl⟩
  case round =>
   obtain ⟨k, m, rfl, hk, rfl, hm, hP, rfl, rfl⟩ := hrel
   have HP := Lib.hid hP
   clear hP
   by_cases hlt : k < n
   ·have hcell := HC.out k (by have := HL.out; omega)
    have hdrop := List.drop_eq_getElem_cons (l := L) (i := k) (by have := HL.out; omega)
    have hc256 := (L[k]'(by have := HL.out; omega)).toNat_lt
    generalize hcc : L[k]'(by have := HL.out; omega) = c8 at *
    have HS : Hid (R = if pd c8.toNat < 16 then (if 16 * m + pd c8.toNat ≤ 4294967295 then pu (L.drop (k + 1)) (16 * m + pd c8.toNat) else .error false) else .error true) := Lib.hid (by rw [← HP.out, hdrop]; rfl)
    generalize hcn : c8.toNat = c at *
    clear hcn hcc hdrop HP
    have i1 : (k : Int) < (n : Int) := by omega
    have c0 : (0 : Int) ≤ (c : Int) := by omega
    have c1 : (c : Int) ≤ 255 := by omega
    have m1 : (m : Int) ≤ 4294967295 := by omega
    have m2 : decide ((1152921504606846976 : Int) ≤ (m : Int)) = false := by simp; omega
    have l0 := low_lt c hc256
    by_cases a : 48 ≤ c ∧ c ≤ 57
    ·have e : pd c = c - 48 := if_pos a
     rw [e, if_pos (by omega)] at HS
     have a1 : (48 : Int) ≤ (c : Int) := by omega
     have a2 : (c : Int) ≤ 57 := by omega
     have a3 : decide ((16 : Int) ≤ (c : Int) - 48) = false := by simp; omega
     by_cases o : 16 * m + (c - 48) ≤ 4294967295
     ·rw [if_pos o] at HS
      have o1 : decide ((m : Int) * 16 + ((c : Int) - 48) < (m : Int) * 16) = false := by simp; omega
      have o2 : decide ((4294967295 : Int) < (m : Int) * 16 + ((c : Int) - 48)) = false := by simp; omega
      have o3 : (m : Int) * 16 + ((c : Int) - 48) ≤ 4294967295 := by omega
      clear a e
      go_wp2
      go_roundw
      case rel => exact ⟨k + 1, 16 * m + (c - 48), by go_num, by omega, by go_num, o, HS.out.symm, rfl, trivial⟩
      case measure => simp [RowKit.intOf]; omega
     ·rw [if_neg o] at HS
      have o1 : decide ((m : Int) * 16 + ((c : Int) - 48) < (m : Int) * 16) = false := by simp; omega
      have o2 : (4294967295 : Int) < (m : Int) * 16 + ((c : Int) - 48) := by omega
      clear a e
      go_wp2
      go_ret2
      exact ⟨by rw [HR0.out, HS.out]; rfl, HB.out⟩
    ·have ep : pd c = if 97 ≤ low c ∧ low c ≤ 122 then low c - 87 else 99 := if_neg a
     have l1 : (low c : Int) ≤ 255 := by omega
     have l2 : (0 : Int) ≤ (low c : Int) := by omega
     have CL1 := Lib.hid (fun W => CL.out c hc256 W)
     have n48 := low_48 c
     have n95 := low_95 c
     generalize low c = l at *
     by_cases g : 48 ≤ c
     ·have g1 : (48 : Int) ≤ (c : Int) := by omega
      have g2 : decide ((c : Int) ≤ 57) = false := by simp; omega
      by_cases u : c = 95
      ·have u1 : ((c : Int) == 95) = true := by simp; omega
       have n127 := n95 u
       rw [if_neg (by omega)] at ep
       have b1 : (97 : Int) ≤ (l : Int) := by omega
       have b2 : decide ((l : Int) ≤ 122) = false := by simp; omega
       rw [ep, if_neg (by omega)] at HS
       clear ep a u n48 n95 n127
       go_wp2_with (first | (go_at_call 139; refine (CL1.out _).mono ?_; rintro e w' ⟨rfl, rfl⟩))
       go_ret2
       exact ⟨by rw [HR0.out, HS.out]; rfl, HB.out⟩
      ·have u1 : ((c : Int) == 95) = false := by simp; omega
       clear u n48 n95
       by_cases q1 : 97 ≤ l
       ·by_cases q2 : l ≤ 122
        ·rw [if_pos ⟨q1, q2⟩] at ep
         have b1 : (97 : Int) ≤ (l : Int) := by omega
         have b2 : (l : Int) ≤ 122 := by omega
         by_cases q3 : l ≤ 102
         ·have b3 : decide ((16 : Int) ≤ (l : Int) - 97 + 10) = false := by simp; omega
          rw [ep, if_pos (by omega)] at HS
          by_cases o : 16 * m + (l - 87) ≤ 4294967295
          ·rw [if_pos o] at HS
           have o1 : decide ((m : Int) * 16 + ((l : Int) - 97 + 10) < (m : Int) * 16) = false := by simp; omega
           have o2 : decide ((4294967295 : Int) < (m : Int) * 16 + ((l : Int) - 97 + 10)) = false := by simp; omega
           have o3 : (m : Int) * 16 + ((l : Int) - 97 + 10) ≤ 4294967295 := by omega
           clear a ep
           go_wp2_with (first | (go_at_call 139; refine (CL1.out _).mono ?_; rintro e w' ⟨rfl, rfl⟩))
           go_roundw
           case rel => exact ⟨k + 1, 16 * m + (l - 87), by go_num, by omega, by go_num, o, HS.out.symm, rfl, trivial⟩
           case measure => simp [RowKit.intOf]; omega
          ·rw [if_neg o] at HS
           have o1 : decide ((m : Int) * 16 + ((l : Int) - 97 + 10) < (m : Int) * 16) = false := by simp; omega
           have o2 : (4294967295 : Int) < (m : Int) * 16 + ((l : Int) - 97 + 10) := by omega
           clear a ep
           go_wp2_with (first | (go_at_call 139; refine (CL1.out _).mono ?_; rintro e w' ⟨rfl, rfl⟩))
           go_ret2
           exact ⟨by rw [HR0.out, HS.out]; rfl, HB.out⟩
         ·have b3 : (16 : Int) ≤ (l : Int) - 97 + 10 := by omega
          rw [ep, if_neg (by omega)] at HS
          clear ep a
          go_wp2_with (first | (go_at_call 139; refine (CL1.out _).mono ?_; rintro e w' ⟨rfl, rfl⟩))
          go_ret2
          exact ⟨by rw [HR0.out, HS.out]; rfl, HB.out⟩
        ·rw [if_neg (by omega)] at ep
         have b1 : (97 : Int) ≤ (l : Int) := by omega
         have b2 : decide ((l : Int) ≤ 122) = false := by simp; omega
         rw [ep, if_neg (by omega)] at HS
         clear ep a
         go_wp2_with (first | (go_at_call 139; refine (CL1.out _).mono ?_; rintro e w' ⟨rfl, rfl⟩))
         go_ret2
         exact ⟨by rw [HR0.out, HS.out]; rfl, HB.out⟩
       ·rw [if_neg (by omega)] at ep
        have b1 : decide ((97 : Int) ≤ (l : Int)) = false := by simp; omega
        rw [ep, if_neg (by omega)] at HS
        clear ep a
        go_wp2_with (first | (go_at_call 139; refine (CL1.out _).mono ?_; rintro e w' ⟨rfl, rfl⟩))
        go_ret2
        exact ⟨by rw [HR0.out, HS.out]; rfl, HB.out⟩
     ·have g1 : decide ((48 : Int) ≤ (c : Int)) = false := by simp; omega
      have nl := n48 (by omega)
      rw [if_neg (by omega)] at ep
      have b1 : decide ((97 : Int) ≤ (l : Int)) = false := by simp; omega
      rw [ep, if_neg (by omega)] at HS
      clear ep a n48 n95 nl
      go_wp2_with (first | (go_at_call 139; refine (CL1.out _).mono ?_; rintro e w' ⟨rfl, rfl⟩))
      go_ret2
      exact ⟨by rw [HR0.out, HS.out]; rfl, HB.out⟩
   ·have hkn : k = n := by omega
    have e : pu (L.drop k) m = .ok m := by rw [List.drop_eq_nil_of_le (by have := HL.out; omega)]; rfl
    have HE := Lib.hid (show R = .ok m by rw [← HP.out, e])
    subst hkn
    clear e
    go_wp2
    go_ret2
    exact ⟨by rw [HR0.out, HE.out]; rfl, HB.out⟩
end Go.Proofs.YtojinnnpfjhifaaGreatDoor.S

namespace Go.Proofs.YtojinnnpfjhifaaGreatDoor.S
open Go.RowKit Go.Shelf
open Go.Lib
def piR (neg : Bool) : Except Bool Nat → Except Bool Int
 | .error b => .error b
 | .ok n => if neg then (if n ≤ 2147483648 then .ok (-n) else .error false) else (if n < 2147483648 then .ok n else .error false)
def piE : List UInt8 → Except Bool Int
 | [] => .error true
 | c :: r => if c = 43 then piR false (puE r) else if c = 45 then piR true (puE r) else piR false (puE (c :: r))
def PiRes (R : Except Bool Int) (v : Int) (ev : Value) : Prop :=
 -2147483648 ≤ v ∧ v ≤ 2147483647 ∧ match R with
  | .ok n => v = n ∧ ev = .nilIface
  | .error true => ev = .iface 191 (.int .i64 2)
  | .error false => ev = .iface 191 (.int .i64 1)
def PiPost (R : Except Bool Int) (w : World) (e : Ending) (w' : World) : Prop := ∃ v ev, e = .returned (.tuple #[.int .i64 v, ev]) ∧ PiRes R v ev ∧ Below w.heap.size w w'
theorem pu_le : ∀ (l : List UInt8) (m n : Nat), m ≤ 4294967295 → pu l m = .ok n → n ≤ 4294967295
 | [], m, n, hm, h => by
  have e : m = n := by simpa [pu] using h
  omega
 | c :: r, m, n, hm, h => by
  unfold pu at h
  split at h
  ·split at h
   ·exact pu_le r _ n (by assumption) h
   ·cases h
  ·cases h
theorem puE_le {l : List UInt8} {n : Nat} (h : puE l = .ok n) : n ≤ 4294967295 := by
 unfold puE at h
 split at h
 ·cases h
 ·exact pu_le l 0 n (by omega) h
theorem tail_str (s : ByteArray) : (s.extract 1 s.size).data.toList = s.data.toList.drop 1 := by
 simp [ByteArray.data_extract]
 exact List.take_of_length_le (by simp)
set_option maxHeartbeats 4000000 in
set_option maxRecDepth 100000 in
theorem pii_any (s : ByteArray) (w : World) (hs : s.size ≤ 1000000) :
  Calls Tryz.prog 132 #[.string s, .int .i64 16, .int .i64 32] w (PiPost (piE s.data.toList) w) := by
 have q1 : ∀ w, (binOp .neq 186 (.iface 191 (.int .i64 2)) (.iface 191 (.int .i64 1))).run Tryz.prog w = .ok (.bool true) w := fun _ => by kernel_rfl
 have q2 : ∀ w, (binOp .neq 186 (.iface 191 (.int .i64 1)) (.iface 191 (.int .i64 1))).run Tryz.prog w = .ok (.bool false) w := fun _ => by kernel_rfl
 have q3 : ∀ w (n : Int), (binOp .neq 186 (.iface 191 (.int .i64 n)) .nilIface).run Tryz.prog w = .ok (.bool true) w := fun _ _ => by kernel_rfl
 by_cases h0 : s.size = 0
 ·have e : s.data.toList = [] := List.length_eq_zero_iff.1 (by simpa using h0)
  rw [e]
  have e1 : s.toList = [] := by rw [ByteArray.toList_eq]; exact e
  go_enter Tryz.func132, Tryz.ntmps132
  go_wp2
  go_ret2
  exact ⟨_, _, rfl, ⟨by omega, by omega, rfl⟩, Below.refl _ _⟩
 ·have e1 : s.toList.isEmpty = false := by
   rw [ByteArray.toList_eq]
   cases h : s.data.toList with
   | nil => exact absurd (by simpa using congrArg List.length h) h0
   | cons _ _ => rfl
  have hs0 : 0 < s.size := by omega
  obtain ⟨c, hc⟩ : ∃ c : UInt8, s[0]'hs0 = c := ⟨_, rfl⟩
  have hL : s.data.toList = c :: s.data.toList.drop 1 := by
   have : s.data.toList[0]'(by simpa using hs0) = c := by rw [← hc]; rfl
   rw [← this]
   exact List.drop_eq_getElem_cons (l := s.data.toList) (i := 0) (by simpa using hs0)
  have C1 := Lib.hid (fun W => pui_any (s.extract 1 s.size) W (by simp; omega))
  have C2 := Lib.hid (fun W => pui_any s W hs)
  rw [tail_str] at C1
  rw [hL]
  have HL := Lib.hid hL
  rw [HL.out] at C2
  generalize s.data.toList.drop 1 = r at *
  clear hL
  by_cases p1 : c = 43
  ·subst p1
   have E : piE (43 :: r) = piR false (puE r) := rfl
   rw [E]
   have hRn := fun n (h : puE r = .ok n) => puE_le h
   generalize puE r = R at *
   have CC := C1
   clear E C2
   have HB := Lib.hid (fun n (h : R = .ok n) => (show n ≤ 4294967295 from hRn n h))
   clear hRn
   go_enter Tryz.func132, Tryz.ntmps132
   go_wp2_with fail
   refine (CC.out _).mono ?_
   rintro e w1 ⟨rfl, hb⟩
   rcases R with (_ | _) | n
   ·unfold puV
    go_wp2
    go_ret2
    exact ⟨_, _, rfl, ⟨by omega, by omega, rfl⟩, hb⟩
   ·unfold puV
    go_wp2
    go_ret2
    exact ⟨_, _, rfl, ⟨by omega, by omega, rfl⟩, hb⟩
   ·have hn := HB.out n rfl
    clear HB
    by_cases b : n < 2147483648
    ·have b1 : decide ((2147483648 : Int) ≤ (n : Int)) = false := by simp; omega
     have b2 : (n : Int) < 2147483648 := by omega
     have E : piR false (.ok n) = .ok (n : Int) := by show (if n < 2147483648 then _ else _) = _; rw [if_pos b]
     have HE := Lib.hid E
     clear b E
     unfold puV
     go_wp2
     go_ret2
     exact ⟨_, _, rfl, by rw [HE.out]; exact ⟨by omega, by omega, rfl, rfl⟩, hb⟩
    ·have b1 : (2147483648 : Int) ≤ (n : Int) := by omega
     have E : piR false (.ok n) = .error false := by show (if n < 2147483648 then _ else _) = _; rw [if_neg b]
     have HE := Lib.hid E
     clear b E
     unfold puV
     go_wp2
     go_ret2
     exact ⟨_, _, rfl, by rw [HE.out]; exact ⟨by omega, by omega, rfl⟩, hb⟩
  ·by_cases p2 : c = 45
   ·subst p2
    have E : piE (45 :: r) = piR true (puE r) := rfl
    rw [E]
    have hRn := fun n (h : puE r = .ok n) => puE_le h
    generalize puE r = R at *
    have CC := C1
    clear E C2
    have HB := Lib.hid (fun n (h : R = .ok n) => (show n ≤ 4294967295 from hRn n h))
    clear hRn
    go_enter Tryz.func132, Tryz.ntmps132
    go_wp2_with fail
    refine (CC.out _).mono ?_
    rintro e w1 ⟨rfl, hb⟩
    rcases R with (_ | _) | n
    ·unfold puV
     go_wp2
     go_ret2
     exact ⟨_, _, rfl, ⟨by omega, by omega, rfl⟩, hb⟩
    ·unfold puV
     go_wp2
     go_ret2
     exact ⟨_, _, rfl, ⟨by omega, by omega, rfl⟩, hb⟩
    ·have hn := HB.out n rfl
     clear HB
     by_cases b : n ≤ 2147483648
     ·have b1 : decide ((2147483648 : Int) < (n : Int)) = false := by simp; omega
      have b2 : (n : Int) ≤ 2147483648 := by omega
      have E : piR true (.ok n) = .ok (-(n : Int)) := by show (if n ≤ 2147483648 then _ else _) = _; rw [if_pos b]
      have HE := Lib.hid E
      clear b E
      unfold puV
      go_wp2
      go_ret2
      exact ⟨_, _, rfl, by rw [HE.out]; exact ⟨by omega, by omega, rfl, rfl⟩, hb⟩
     ·have b1 : (2147483648 : Int) < (n : Int) := by omega
      have E : piR true (.ok n) = .error false := by show (if n ≤ 2147483648 then _ else _) = _; rw [if_neg b]
      have HE := Lib.hid E
      clear b E
      unfold puV
      go_wp2
      go_ret2
      exact ⟨_, _, rfl, by rw [HE.out]; exact ⟨by omega, by omega, rfl⟩, hb⟩
   ·have E : piE (c :: r) = piR false (puE (c :: r)) := by show (if c = 43 then _ else if c = 45 then _ else _) = _; rw [if_neg p1, if_neg p2]
    rw [E]
    have hRn := fun n (h : puE (c :: r) = .ok n) => puE_le h
    have d1 : ((c.toNat : Int) == 43) = false := by
     simp only [beq_eq_false_iff_ne]
     intro h
     exact p1 (UInt8.toNat_inj.1 (by have : c.toNat = 43 := (by omega); rw [this]; rfl))
    have d2 : ((c.toNat : Int) == 45) = false := by
     simp only [beq_eq_false_iff_ne]
     intro h
     exact p2 (UInt8.toNat_inj.1 (by have : c.toNat = 45 := (by omega); rw [this]; rfl))
    generalize puE (c :: r) = R at *
    have CC := C2
    clear E C1 p1 p2
    have HB := Lib.hid (fun n (h : R = .ok n) => (show n ≤ 4294967295 from hRn n h))
    clear hRn
    go_enter Tryz.func132, Tryz.ntmps132
    go_wp2_with fail
    refine (CC.out _).mono ?_
    rintro e w1 ⟨rfl, hb⟩
    rcases R with (_ | _) | n
    ·unfold puV
     go_wp2
     go_ret2
     exact ⟨_, _, rfl, ⟨by omega, by omega, rfl⟩, hb⟩
    ·unfold puV
     go_wp2
     go_ret2
     exact ⟨_, _, rfl, ⟨by omega, by omega, rfl⟩, hb⟩
    ·have hn := HB.out n rfl
     clear HB
     by_cases b : n < 2147483648
     ·have b1 : decide ((2147483648 : Int) ≤ (n : Int)) = false := by simp; omega
      have b2 : (n : Int) < 2147483648 := by omega
      have E : piR false (.ok n) = .ok (n : Int) := by show (if n < 2147483648 then _ else _) = _; rw [if_pos b]
      have HE := Lib.hid E
      clear b E
      unfold puV
      go_wp2
      go_ret2
      exact ⟨_, _, rfl, by rw [HE.out]; exact ⟨by omega, by omega, rfl, rfl⟩, hb⟩
     ·have b1 : (2147483648 : Int) ≤ (n : Int) := by omega
      have E : piR false (.ok n) = .error false := by show (if n < 2147483648 then _ else _) = _; rw [if_neg b]
      have HE := Lib.hid E
      clear b E
      unfold puV
      go_wp2
      go_ret2
      exact ⟨_, _, rfl, by rw [HE.out]; exact ⟨by omega, by omega, rfl⟩, hb⟩
end Go.Proofs.YtojinnnpfjhifaaGreatDoor.S

namespace Go.Proofs.YtojinnnpfjhifaaGreatDoor
open Go.RowKit Go.Shelf Go.Lib Go.Maps
open S
def zb (zs : List Int) (j : Nat) : Nat := (zs.getD j 0).toNat
theorem enc_f (r : Int) (j : Nat) : ((encodeRune r).getD j 0).toNat = zb (encodeRuneZ r) j := by
 unfold zb encodeRune
 by_cases h : j < (encodeRuneZ r).length
 ·have hb := encodeRuneZ_byte r _ (List.getElem_mem h)
  simp [List.getD_eq_getElem?_getD, h]
  omega
 ·simp [List.getD_eq_getElem?_getD, h]
theorem enc_len2 (r : Int) : (encodeRune r).length = (encodeRuneZ r).length := by simp [encodeRune]
theorem piece_enc (v : Int) (h : Lib.validRune v = true) : M1.pieceB (encodeRuneZ v).length (zb (encodeRuneZ v) 0) (zb (encodeRuneZ v) 1) (zb (encodeRuneZ v) 2) (zb (encodeRuneZ v) 3) = (v.toNat, (encodeRuneZ v).length, true) := by
 obtain ⟨h0, h1, h2⟩ := (valid_iff v).1 h
 obtain ⟨n, rfl⟩ : ∃ n : Nat, v = n := ⟨v.toNat, by omega⟩
 by_cases c1 : (n : Int) ≤ 127
 ·rw [encodeRuneZ_one h0 c1]
  have e : zb [(n : Int)] 0 = n := by simp [zb]
  show M1.pieceB 1 (zb [(n : Int)] 0) 0 0 0 = _
  rw [e]
  unfold M1.pieceB
  rw [if_pos (by unfold firstT; rw [if_pos (by omega)])]
  simp
 ·by_cases c2 : (n : Int) ≤ 2047
  ·rw [encodeRuneZ_two (by omega) c2]
   have e0 : zb [192 + (n : Int) / 64, 128 + (n : Int) % 64] 0 = 192 + n / 64 := by simp [zb]; omega
   have e1 : zb [192 + (n : Int) / 64, 128 + (n : Int) % 64] 1 = 128 + n % 64 := by simp [zb]; omega
   show M1.pieceB 2 (zb [192 + (n : Int) / 64, 128 + (n : Int) % 64] 0) (zb [192 + (n : Int) / 64, 128 + (n : Int) % 64] 1) 0 0 = _
   rw [e0, e1]
   have ft : firstT (192 + n / 64) = 2 := by
    unfold firstT
    rw [if_neg (by omega), if_neg (by omega), if_pos (by omega)]
   unfold M1.pieceB
   rw [ft, if_neg (by omega), if_neg (by omega)]
   unfold M1.pieceS
   rw [if_pos ⟨by omega, by show 128 ≤ _; omega, by show _ ≤ 191; omega⟩, if_pos (by decide)]
   simp
   omega
  ·by_cases c3 : (n : Int) ≤ 65535
   ·rw [encodeRuneZ_three (by omega)]
    have e0 : zb [224 + (n : Int) / 4096, 128 + (n : Int) / 64 % 64, 128 + (n : Int) % 64] 0 = 224 + n / 4096 := by simp [zb]; omega
    have e1 : zb [224 + (n : Int) / 4096, 128 + (n : Int) / 64 % 64, 128 + (n : Int) % 64] 1 = 128 + n / 64 % 64 := by simp [zb]; omega
    have e2 : zb [224 + (n : Int) / 4096, 128 + (n : Int) / 64 % 64, 128 + (n : Int) % 64] 2 = 128 + n % 64 := by simp [zb]; omega
    show M1.pieceB 3 (zb [224 + (n : Int) / 4096, 128 + (n : Int) / 64 % 64, 128 + (n : Int) % 64] 0) (zb [224 + (n : Int) / 4096, 128 + (n : Int) / 64 % 64, 128 + (n : Int) % 64] 1) (zb [224 + (n : Int) / 4096, 128 + (n : Int) / 64 % 64, 128 + (n : Int) % 64] 2) 0 = _
    rw [e0, e1, e2]
    have key : ∀ f lo hi, firstT (224 + n / 4096) = f → f % 8 = 3 → f ≠ 240 → f ≠ 241 → accLo (f / 16) = lo → accHi (f / 16) = hi → lo ≤ 128 + n / 64 % 64 → 128 + n / 64 % 64 ≤ hi → M1.pieceB 3 (224 + n / 4096) (128 + n / 64 % 64) (128 + n % 64) 0 = ((n : Int).toNat, 3, true) := by
     intro f lo hi hf h8 n0 n1 hlo hhi g1 g2
     unfold M1.pieceB
     rw [hf, if_neg n0, if_neg n1, h8, hlo, hhi]
     unfold M1.pieceS
     rw [if_pos ⟨by omega, g1, g2⟩, if_neg (by decide), if_pos ⟨by omega, by omega, by omega⟩, if_pos rfl]
     simp
     omega
    by_cases d1 : n / 4096 = 0
    ·exact key 19 160 191 (by unfold firstT; rw [if_neg (by omega), if_neg (by omega), if_neg (by omega), if_pos (by omega)]) (by decide) (by decide) (by decide) (by decide) (by decide) (by omega) (by omega)
    ·by_cases d2 : n / 4096 = 13
     ·exact key 35 128 159 (by unfold firstT; rw [if_neg (by omega), if_neg (by omega), if_neg (by omega), if_neg (by omega), if_neg (by omega), if_pos (by omega)]) (by decide) (by decide) (by decide) (by decide) (by decide) (by omega) (by omega)
     ·by_cases d3 : n / 4096 < 13
      ·exact key 3 128 191 (by unfold firstT; rw [if_neg (by omega), if_neg (by omega), if_neg (by omega), if_neg (by omega), if_pos (by omega)]) (by decide) (by decide) (by decide) (by decide) (by decide) (by omega) (by omega)
      ·exact key 3 128 191 (by unfold firstT; rw [if_neg (by omega), if_neg (by omega), if_neg (by omega), if_neg (by omega), if_neg (by omega), if_neg (by omega), if_pos (by omega)]) (by decide) (by decide) (by decide) (by decide) (by decide) (by omega) (by omega)
   ·rw [encodeRuneZ_four (by omega) (by omega)]
    have e0 : zb [240 + (n : Int) / 262144, 128 + (n : Int) / 4096 % 64, 128 + (n : Int) / 64 % 64, 128 + (n : Int) % 64] 0 = 240 + n / 262144 := by simp [zb]; omega
    have e1 : zb [240 + (n : Int) / 262144, 128 + (n : Int) / 4096 % 64, 128 + (n : Int) / 64 % 64, 128 + (n : Int) % 64] 1 = 128 + n / 4096 % 64 := by simp [zb]; omega
    have e2 : zb [240 + (n : Int) / 262144, 128 + (n : Int) / 4096 % 64, 128 + (n : Int) / 64 % 64, 128 + (n : Int) % 64] 2 = 128 + n / 64 % 64 := by simp [zb]; omega
    have e3 : zb [240 + (n : Int) / 262144, 128 + (n : Int) / 4096 % 64, 128 + (n : Int) / 64 % 64, 128 + (n : Int) % 64] 3 = 128 + n % 64 := by simp [zb]; omega
    rw [e0, e1, e2, e3]
    have key : ∀ f lo hi, firstT (240 + n / 262144) = f → f % 8 = 4 → f ≠ 240 → f ≠ 241 → accLo (f / 16) = lo → accHi (f / 16) = hi → lo ≤ 128 + n / 4096 % 64 → 128 + n / 4096 % 64 ≤ hi → M1.pieceB 4 (240 + n / 262144) (128 + n / 4096 % 64) (128 + n / 64 % 64) (128 + n % 64) = ((n : Int).toNat, 4, true) := by
     intro f lo hi hf h8 n0 n1 hlo hhi g1 g2
     unfold M1.pieceB
     rw [hf, if_neg n0, if_neg n1, h8, hlo, hhi]
     unfold M1.pieceS
     rw [if_pos ⟨by omega, g1, g2⟩, if_neg (by decide), if_pos ⟨by omega, by omega, by omega⟩, if_neg (by decide), if_pos ⟨by omega, by omega, by omega⟩]
     simp
     omega
    by_cases d1 : n / 262144 = 0
    ·exact key 52 144 191 (by unfold firstT; rw [if_neg (by omega), if_neg (by omega), if_neg (by omega), if_neg (by omega), if_neg (by omega), if_neg (by omega), if_neg (by omega), if_pos (by omega)]) (by decide) (by decide) (by decide) (by decide) (by decide) (by omega) (by omega)
    ·by_cases d2 : n / 262144 = 4
     ·exact key 68 128 143 (by unfold firstT; rw [if_neg (by omega), if_neg (by omega), if_neg (by omega), if_neg (by omega), if_neg (by omega), if_neg (by omega), if_neg (by omega), if_neg (by omega), if_neg (by omega), if_pos (by omega)]) (by decide) (by decide) (by decide) (by decide) (by decide) (by omega) (by omega)
     ·exact key 4 128 191 (by unfold firstT; rw [if_neg (by omega), if_neg (by omega), if_neg (by omega), if_neg (by omega), if_neg (by omega), if_neg (by omega), if_neg (by omega), if_neg (by omega), if_pos (by omega)]) (by decide) (by decide) (by decide) (by decide) (by decide) (by omega) (by omega)
theorem zb_out (zs : List Int) (j : Nat) (h : zs.length ≤ j) : zb zs j = 0 := by simp [zb, List.getD_eq_getElem?_getD, h]
theorem pc_enc (r : Int) : S.pc (encodeRuneZ r).length (zb (encodeRuneZ r)) = ((scR r).toNat, (encodeRuneZ r).length, true) := by
 have h := piece_enc (scR r) (scR_valid r)
 rw [← encZ_scR] at h
 unfold S.pc
 have e : ∀ j, S.bt (encodeRuneZ r).length (zb (encodeRuneZ r)) j = zb (encodeRuneZ r) j := fun j => by
  unfold S.bt
  split
  ·rfl
  ·exact (zb_out _ _ (by omega)).symm
 rw [e, e, e, e]
 exact h
theorem scR_nat (r : Int) : (((scR r).toNat : Nat) : Int) = scR r := by
 have := (valid_iff (scR r)).1 (scR_valid r)
 omega
set_option maxHeartbeats 4000000 in
set_option maxRecDepth 100000 in
theorem nearest_any (r : Int) (h0 : -2147483648 ≤ r) (h1 : r ≤ 2147483647) (w : World) (hT : S.Tabs w) : Calls Tryz.prog 131 #[.int .i32 r] w fun e w' => e = .returned (.int .i32 (scR r)) ∧ Below w.heap.size w w' := by
 have KP := S.put_any r h0 h1 w
 have KN : ∀ e W, S.PutPost (encodeRune r) w e W → ∃ g cap, e = .returned (.slice (some ⟨g, 0, none⟩) (encodeRuneZ r).length cap) ∧ Below w.heap.size w W ∧ Calls Tryz.prog 43 #[.slice (some ⟨g, 0, none⟩) (encodeRuneZ r).length cap, .int .i64 0] W fun e w' => (∃ n : Int, e = .returned (.tuple #[.int .i32 (scR r), .int .i64 n])) ∧ Below W.heap.size W w' := fun e W h => by
  obtain ⟨g, cap, rfl, hc, hl, hm, hg, hb⟩ := h
  rw [enc_len2] at hl ⊢
  refine ⟨g, cap, rfl, hb, ?_⟩
  have hTW : S.Tabs W := hT.below hb hT.2
  have hB : S.Bs W g 0 (encodeRuneZ r).length (zb (encodeRuneZ r)) := fun j hj => by
   have hj' : j < (encodeRune r).length := by rw [enc_len2]; exact hj
   have e1 := enc_f r j
   have e2 : (encodeRune r).getD j 0 = (encodeRune r)[j] := by simp [List.getD_eq_getElem?_getD, hj']
   rw [e2] at e1
   refine ⟨?_, ?_⟩
   ·rw [Nat.zero_add, hc j hj', e1]
   ·rw [← e1]; exact UInt8.toNat_lt _
  have C := S.next_in g 0 (encodeRuneZ r).length cap 0 (zb (encodeRuneZ r)) W hTW hB (by have := (encodeRuneZ_length r).1; omega) hl hm
  refine C.mono ?_
  rintro e w' ⟨rfl, hb2⟩
  refine ⟨⟨((S.pc ((encodeRuneZ r).length - 0) (fun j => zb (encodeRuneZ r) (0 + j))).2.1 : Int), ?_⟩, hb2⟩
  ·rw [Nat.sub_zero]
   simp only [Nat.zero_add]
   rw [show (fun j => zb (encodeRuneZ r) j) = zb (encodeRuneZ r) from rfl, pc_enc, scR_nat]
 have HK := Lib.hid (And.intro KP KN)
 clear KP KN
 generalize (encodeRuneZ r).length = n at *
 generalize scR r = R at *
 go_enter Tryz.func131, Tryz.ntmps131
 go_wp2_with fail
 refine HK.out.1.mono ?_
 intro e w1 h1
 obtain ⟨g, cap, rfl, hb1, C1⟩ := HK.out.2 _ _ h1
 have H1 := Lib.hid (And.intro hb1 C1)
 clear hb1 C1 h1
 go_wp2_with fail
 refine H1.out.2.mono ?_
 rintro e w2 ⟨⟨q, rfl⟩, hb2⟩
 have H2 := Lib.hid (H1.out.1.trans (hb2.mono H1.out.1.size))
 clear hb2
 go_wp2_with fail
 go_ret
 exact ⟨rfl, H2.out⟩
end Go.Proofs.YtojinnnpfjhifaaGreatDoor

namespace Go.Proofs.YtojinnnpfjhifaaGreatDoor
open Go.RowKit Go.Shelf Go.Lib Go.Maps Go.Great
attribute [local irreducible] NR ZNR FR nmE
def dgB (base c : Nat) : Bool := decide (48 ≤ c) && decide (c ≤ 57) || decide (base = 16) && (decide (97 ≤ c) && decide (c ≤ 102) || decide (65 ≤ c) && decide (c ≤ 70))
def dv (c : Nat) : Nat := if c ≤ 57 then c - 48 else if c ≤ 70 then c - 55 else c - 87
def nbV (base : Nat) : List Nat → Nat → Nat
  | [], n => n
  | c :: r, n => nbV base r (base * n + dv c)
def mnR (n : Nat) : Int := if n = 0 then 65533 else scR n
theorem dv_16 : ∀ c, c < 256 → dgB 16 c = true → S.pd c = dv c ∧ dv c < 16 ∧ c ≠ 43 ∧ c ≠ 45 := by decide +kernel
theorem dv_10 : ∀ c, c < 256 → dgB 10 c = true → 48 ≤ c ∧ c ≤ 57 ∧ dv c = c - 48 ∧ dv c < 10 := by decide +kernel
theorem dv_lt {b c : Nat} (hb : b = 10 ∨ b = 16) (hc : c < 256) (h : dgB b c = true) : dv c < b := by
  rcases hb with rfl | rfl
  · exact (dv_10 c hc h).2.2.2
  · exact (dv_16 c hc h).2.1
theorem nbV_lt {b : Nat} (hb : b = 10 ∨ b = 16) : ∀ (l : List Nat) (n m : Nat), (∀ x ∈ l, x < 256 ∧ dgB b x = true) → n < b ^ m → nbV b l n < b ^ (m + l.length)
  | [], n, m, _, h => by simpa [nbV] using h
  | c :: r, n, m, hd, h => by
    have h1 := dv_lt hb (hd c (by simp)).1 (hd c (by simp)).2
    have h2 : b * n + dv c < b ^ (m + 1) := by
      rw [Nat.pow_succ, Nat.mul_comm (b ^ m) b]
      calc b * n + dv c < b * n + b := by omega
        _ = b * (n + 1) := by rw [Nat.mul_add, Nat.mul_one]
        _ ≤ b * b ^ m := Nat.mul_le_mul_left _ h
    have := nbV_lt hb r _ (m + 1) (fun x hx => hd x (by simp [hx])) h2
    rw [nbV, List.length_cons, show m + (r.length + 1) = m + 1 + r.length by omega]
    exact this
theorem pu_num : ∀ (l : List UInt8) (n m : Nat), (∀ x ∈ nats l, x < 256 ∧ dgB 16 x = true) → n < 16 ^ m → m + l.length ≤ 7 → S.pu l n = .ok (nbV 16 (nats l) n)
  | [], n, m, _, _, _ => rfl
  | c :: r, n, m, hd, h, hm => by
    have h1 := dv_16 c.toNat (UInt8.toNat_lt _) (hd c.toNat (by simp [nats])).2
    have h2 : 16 * n + dv c.toNat < 16 ^ (m + 1) := by rw [Nat.pow_succ]; omega
    have h3 : 16 ^ (m + 1) ≤ 16 ^ 7 := Nat.pow_le_pow_right (by decide) (by simp at hm; omega)
    have h4 : (16 : Nat) ^ 7 = 268435456 := by decide
    rw [S.pu, h1.1, if_pos h1.2.1, if_pos (by omega), pu_num r _ (m + 1) (fun x hx => hd x (by simp [nats] at hx ⊢; exact Or.inr hx)) h2 (by simp at hm; omega)]
    rfl
theorem piE_num (l : List UInt8) (hd : ∀ x ∈ nats l, x < 256 ∧ dgB 16 x = true) (h0 : l ≠ []) (hm : l.length ≤ 6) : S.piE l = .ok (nbV 16 (nats l) 0 : Nat) := by
  cases l with
  | nil => exact absurd rfl h0
  | cons c r =>
    have h1 := dv_16 c.toNat (UInt8.toNat_lt _) (hd c.toNat (by simp [nats])).2
    have hu := pu_num (c :: r) 0 0 hd (by decide) (by omega)
    have n1 : c ≠ 43 := by rintro rfl; exact h1.2.2.1 rfl
    have n2 : c ≠ 45 := by rintro rfl; exact h1.2.2.2 rfl
    have hb := nbV_lt (Or.inr rfl) (nats (c :: r)) 0 0 hd (by decide)
    have h3 : 16 ^ (0 + (nats (c :: r)).length) ≤ 16 ^ 6 := Nat.pow_le_pow_right (by decide) (by rw [nats, List.length_map]; omega)
    have h4 : (16 : Nat) ^ 6 = 16777216 := by decide
    rw [S.piE, if_neg n1, if_neg n2, S.puE, if_neg h0, hu, S.piR]
    simp only [Bool.false_eq_true, if_false]
    rw [if_pos (by omega)]
theorem pum_num : ∀ (l : List UInt8) (n m : Nat), (∀ x ∈ nats l, x < 256 ∧ dgB 10 x = true) → n < 10 ^ m → m + l.length ≤ 7 → Lib.parseUintM (2 ^ 32 - 1) n l = .ok (nbV 10 (nats l) n)
  | [], n, m, _, _, _ => rfl
  | c :: r, n, m, hd, h, hm => by
    have h1 := dv_10 c.toNat (UInt8.toNat_lt _) (hd c.toNat (by simp [nats])).2
    have h2 : 10 * n + dv c.toNat < 10 ^ (m + 1) := by rw [Nat.pow_succ]; omega
    have h3 : 10 ^ (m + 1) ≤ 10 ^ 7 := Nat.pow_le_pow_right (by decide) (by simp at hm; omega)
    have h4 : (10 : Nat) ^ 7 = 10000000 := by decide
    have e : n * 10 + (c.toNat - 48) = 10 * n + dv c.toNat := by omega
    rw [Lib.parseUintM, if_pos ⟨h1.1, h1.2.1⟩, if_neg (by omega), if_neg (by omega), e, pum_num r _ (m + 1) (fun x hx => hd x (by simp [nats] at hx ⊢; exact Or.inr hx)) h2 (by simp at hm; omega)]
    rfl
theorem piB_num (l : List UInt8) (hd : ∀ x ∈ nats l, x < 256 ∧ dgB 10 x = true) (h0 : l ≠ []) (hm : l.length ≤ 7) : Lib.parseIntB 32 l = .ok (nbV 10 (nats l) 0 : Nat) := by
  cases l with
  | nil => exact absurd rfl h0
  | cons c r =>
    have h1 := dv_10 c.toNat (UInt8.toNat_lt _) (hd c.toNat (by simp [nats])).2
    have hu := pum_num (c :: r) 0 0 hd (by decide) (by omega)
    have hb := nbV_lt (Or.inl rfl) (nats (c :: r)) 0 0 hd (by decide)
    have h3 : 10 ^ (0 + (nats (c :: r)).length) ≤ 10 ^ 7 := Nat.pow_le_pow_right (by decide) (by rw [nats, List.length_map]; omega)
    have h4 : (10 : Nat) ^ 7 = 10000000 := by decide
    rw [Lib.parseIntB_plain 32 c r (by omega) (by omega), Lib.parseUintB, if_neg h0, hu, Lib.signlessC]
    rw [if_neg (by have : (2 : Nat) ^ (32 - 1) = 2147483648 := by decide
                   omega)]
set_option maxHeartbeats 4000000 in
set_option maxRecDepth 100000 in
theorem isDigit_any (c base : Nat) (_hb : base = 10 ∨ base = 16) (w : World) :
    Calls Tryz.prog 117 #[.int .u8 (c : Int), .int .i64 (base : Int)] w fun e w' => e = .returned (.bool (dgB base c)) ∧ w' = w := by
  go_enter Tryz.func117, Tryz.ntmps117
  have fin : ∀ (b : Bool), dgB base c = b → dgB base c = b := fun _ h => h
  by_cases h1 : (48 : Int) ≤ (c : Int)
  all_goals by_cases h2 : (c : Int) ≤ 57
  all_goals by_cases h3 : (base : Int) = 16
  all_goals by_cases h4 : (97 : Int) ≤ (c : Int)
  all_goals by_cases h5 : (c : Int) ≤ 102
  all_goals by_cases h6 : (65 : Int) ≤ (c : Int)
  all_goals by_cases h7 : (c : Int) ≤ 70
  all_goals first
    | (exfalso; omega)
    | skip
  all_goals go_wp2_with fail
  all_goals go_ret
  all_goals refine ⟨?_, rfl⟩
  all_goals simp [dgB]
  all_goals omega
end Go.Proofs.YtojinnnpfjhifaaGreatDoor

namespace Go.Proofs.YtojinnnpfjhifaaGreatDoor
open Go.RowKit Go.Shelf Go.Lib Go.Maps Go.Great
attribute [local irreducible] NR ZNR FR nmE
theorem mnR_num {b : Nat} (hb : b = 10 ∨ b = 16) (l : List Nat) (h : ∀ x ∈ l, x < 256 ∧ dgB b x = true) (hm : l.length ≤ if b = 10 then 7 else 6) : nbV b l 0 < 16777216 := by
 have h1 := nbV_lt hb l 0 0 h (by rcases hb with rfl | rfl <;> decide)
 rcases hb with rfl | rfl
 ·have h3 : 10 ^ (0 + l.length) ≤ 10 ^ 7 := Nat.pow_le_pow_right (by decide) (by simp at hm; omega)
  have h4 : (10 : Nat) ^ 7 = 10000000 := by decide
  omega
 ·have h3 : 16 ^ (0 + l.length) ≤ 16 ^ 6 := Nat.pow_le_pow_right (by decide) (by simp at hm; omega)
  have h4 : (16 : Nat) ^ 6 = 16777216 := by decide
  omega
set_option maxHeartbeats 4000000 in
set_option maxRecDepth 100000 in
theorem pi16_any (s : ByteArray) (n : Int) (hs : s.size ≤ 1000000) (h : S.piE s.data.toList = .ok n) (w : World) :
  Calls Tryz.prog 130 #[.string s, .int .i64 16, .int .i64 32] w fun e w' => e = .returned (.tuple #[.int .i64 n, .nilIface]) ∧ Below w.heap.size w w' := by
 have C := Lib.hid (S.pii_any s w hs)
 rw [h] at C
 clear h
 go_enter Tryz.func130, Tryz.ntmps130
 go_wp2_with fail
 refine C.out.mono ?_
 rintro e w1 ⟨v, ev, rfl, ⟨v0, v1, rfl, rfl⟩, hb⟩
 go_wp2_with fail
 refine bodyPost_ret (v := .tuple #[.int .i64 v, .nilIface]) ?_ rfl ⟨rfl, hb⟩
 simp [results, Tryz.results130, go_sem]
theorem below_bytes5 (w : World) (t : ByteArray) : Below w.heap.size w (Lib.bytesWorld w 5 t) := ⟨rfl, rfl, rfl, by rw [Lib.bytesWorld_size]; omega, fun k hk => Lib.bytesWorld_at_old w 5 t k (by omega)⟩
theorem pi_any {b : Nat} (hb : b = 10 ∨ b = 16) (l : List Nat) (h : ∀ x ∈ l, x < 256 ∧ dgB b x = true) (h0 : l ≠ []) (hm : l.length ≤ if b = 10 then 7 else 6) (w : World) :
  Calls Tryz.prog 130 #[.string ⟨(u8s l).toArray⟩, .int .i64 (b : Int), .int .i64 32] w fun e w' => e = .returned (.tuple #[.int .i64 (nbV b l 0 : Nat), .nilIface]) ∧ Below w.heap.size w w' := by
 have hn : nats (u8s l) = l := nats_u8s l fun x hx => (h x hx).1
 have hl : (u8s l).length = l.length := by have := congrArg List.length hn; simpa [nats] using this
 have hne : u8s l ≠ [] := by
  intro e
  apply h0
  have := hn
  rw [e] at this
  exact this.symm
 rcases hb with rfl | rfl
 ·have C := Tryz.strconv_ParseInt_10_at32_ok ⟨(u8s l).toArray⟩ (by show (u8s l).length ≤ _; simp at hm; omega) (nbV 10 l 0 : Nat) (by
   have := piB_num (u8s l) (by rw [hn]; exact h) hne (by rw [hl]; simpa using hm)
   rw [hn] at this
   exact this) w
  refine C.mono ?_
  rintro e w' ⟨rfl, rfl | ⟨t, rfl⟩⟩
  ·exact ⟨rfl, Below.refl _ _⟩
  ·exact ⟨rfl, below_bytes5 w t⟩
 ·exact pi16_any ⟨(u8s l).toArray⟩ _ (by show (u8s l).length ≤ _; simp at hm; omega) (by
   have := piE_num (u8s l) (by rw [hn]; exact h) hne (by rw [hl]; simpa using hm)
   rw [hn] at this
   exact this) w
set_option maxHeartbeats 4000000 in
set_option maxRecDepth 100000 in
theorem ofNum_any {b : Nat} (hb : b = 10 ∨ b = 16) (l : List Nat) (h : ∀ x ∈ l, x < 256 ∧ dgB b x = true) (h0 : l ≠ []) (hm : l.length ≤ if b = 10 then 7 else 6) (w : World) (hT : S.Tabs w) :
  Calls Tryz.prog 119 #[.string ⟨(u8s l).toArray⟩, .int .i64 (b : Int)] w fun e w' => e = .returned (.int .i32 (mnR (nbV b l 0))) ∧ Below w.heap.size w w' := by
 have C := pi_any hb l h h0 hm w
 have hlt := mnR_num hb l h hm
 generalize nbV b l 0 = n at *
 have HC := Lib.hid (And.intro C hT)
 clear C hT hm h0 h hb
 go_enter Tryz.func119, Tryz.ntmps119
 go_wp2_with fail
 refine HC.out.1.mono ?_
 rintro e w1 ⟨rfl, hb1⟩
 have hT1 : S.Tabs w1 := HC.out.2.below hb1 HC.out.2.2
 by_cases hn : n = 0
 case pos =>
  subst hn
  go_wp2_with fail
  go_ret
  exact ⟨rfl, hb1⟩
 case neg =>
  have hz : ¬ (n : Int) = 0 := by omega
  have C2 := nearest_any (n : Int) (by omega) (by omega) w1 hT1
  have HB := Lib.hid hb1
  have hw : IntKind.i32.wrap (n : Int) = (n : Int) := IntWalk.i32_in _ ⟨by omega, by omega⟩
  clear hb1 hT1
  go_wp2_with fail
  refine C2.mono ?_
  rintro e w2 ⟨rfl, hb2⟩
  have hbz := HB.out.trans (hb2.mono HB.out.size)
  go_wp2_with fail
  go_ret
  refine ⟨?_, hbz⟩
  rw [mnR, if_neg hn]
  rfl
set_option maxHeartbeats 4000000 in
set_option maxRecDepth 100000 in
theorem means_any {b : Nat} (hb : b = 10 ∨ b = 16) (l : List Nat) (A : Option Addr) (cap : Nat) (h : ∀ x ∈ l, dgB b x = true) (h0 : l ≠ []) (hm : l.length ≤ if b = 10 then 7 else 6) (g : Nat) (w : World) (hT : S.Tabs w) (hu : BY w w.heap.size l A cap) (hc : Cells w g 3 #[.int .i64 (b : Int)]) :
  Calls Tryz.prog 118 #[.slice A l.length cap, .pointer (some ⟨g, 0, none⟩)] w fun e w' => e = .returned (.int .i32 (mnR (nbV b l 0))) ∧ Below w.heap.size w w' := by
 have C := Lib.hid (ofNum_any hb l (fun x hx => ⟨hu.i x hx, h x hx⟩) h0 hm w hT)
 have hcv := conv_by hu
 have q0 := hc.cell 0
 simp at q0
 clear h0 hm hT hb h
 go_enter Tryz.func118, Tryz.ntmps118
 go_wp2_with fail
 refine C.out.mono ?_
 rintro e w1 ⟨rfl, hb1⟩
 go_wp2_with fail
 go_ret
 exact ⟨rfl, hb1⟩
def mayD (b most : Nat) (l : List Nat) (c : Nat) : Bool := if c = 59 then decide (0 < l.length) else decide (l.length < most) && dgB b c
set_option maxHeartbeats 4000000 in
set_option maxRecDepth 100000 in
theorem mayD_any {b : Nat} (hb : b = 10 ∨ b = 16) (most : Nat) (l : List Nat) (A : Option Addr) (cap c : Nat) (_hl : l.length ≤ 9223372036854775807) (g0 g1 : Nat) (w : World) (h0 : Cells w g0 3 #[.int .i64 (most : Int)]) (h1 : Cells w g1 3 #[.int .i64 (b : Int)]) :
  Calls Tryz.prog 116 #[.slice A l.length cap, .int .u8 (c : Int), .pointer (some ⟨g0, 0, none⟩), .pointer (some ⟨g1, 0, none⟩)] w fun e w' => e = .returned (.bool (mayD b most l c)) ∧ w' = w := by
 have C := Lib.hid (isDigit_any c b hb w)
 have q0 := h0.cell 0
 have q1 := h1.cell 0
 simp at q0 q1
 clear hb
 go_enter Tryz.func116, Tryz.ntmps116
 by_cases hc : c = 59
 case pos =>
  subst hc
  go_wp2_with fail
  go_ret
  refine ⟨?_, rfl⟩
  simp [mayD]
 case neg =>
  have hc1 : ¬ (c : Int) = 59 := by omega
  have hc2 : ((c : Int) == 59) = false := by simp; omega
  by_cases hlt : (l.length : Int) < (most : Int)
  case neg =>
   go_wp2_with fail
   go_ret
   refine ⟨?_, rfl⟩
   simp [mayD, hc]
   omega
  case pos =>
   go_wp2_with fail
   refine C.out.mono ?_
   rintro e w1 ⟨rfl, rfl⟩
   go_wp2_with fail
   go_ret
   refine ⟨?_, rfl⟩
   have : l.length < most := by omega
   simp [mayD, hc, this]
set_option maxHeartbeats 4000000 in
set_option maxRecDepth 100000 in
theorem numeric_any (s : ByteArray) (b most : Nat) (w : World) : Calls Tryz.prog 96 #[.string s, .int .i64 (b : Int), .int .i64 (most : Int)] w fun e w' => e = .returned (.agg #[.string s, .func (Fn.func 116) #[] #[.pointer (some ⟨w.heap.size + 1, 0, none⟩), .pointer (some ⟨w.heap.size, 0, none⟩)], .func (Fn.func 118) #[] #[.pointer (some ⟨w.heap.size, 0, none⟩)]]) ∧ Below w.heap.size w w' ∧ Cells w' w.heap.size 3 #[.int .i64 (b : Int)] ∧ Cells w' (w.heap.size + 1) 3 #[.int .i64 (most : Int)] := by
 have hs : ∀ (a : Addr) (f : FuncId) (c : Array Value) (m : Mode) (W : World), (store a (.func (Fn.func f) #[] c) m).run Tryz.prog W = stored Tryz.prog W a (.func (Fn.func f) #[] c) m := fun a f c m W => run_store_func Tryz.prog W a m _ _ _
 go_enter Tryz.func96, Tryz.ntmps96
 go_wp2_with fail
 refine bodyPost_ret (v := .agg #[.string s, .func (Fn.func 116) #[] #[.pointer (some ⟨w.heap.size + 1, 0, none⟩), .pointer (some ⟨w.heap.size, 0, none⟩)], .func (Fn.func 118) #[] #[.pointer (some ⟨w.heap.size, 0, none⟩)]]) ?_ rfl ⟨rfl, ?_, ?_, ?_⟩
 ·simp [results, Tryz.results96, go_sem]
 ·exact ((below_new w _).alloc (by simp) _).alloc (by simp; omega) _
 ·exact (((cells_new w #[.int .i64 (b : Int)] 3).on (below_new _ _)).on (below_new _ _))
 ·have := (cells_new (w.alloc (.cells #[.int .i64 (b : Int)] 3)) #[.int .i64 (most : Int)] 3).on (below_new _ (.cells #[.string s, .func (Fn.func 116) #[] #[.pointer (some ⟨w.heap.size + 1, 0, none⟩), .pointer (some ⟨w.heap.size, 0, none⟩)], .func (Fn.func 118) #[] #[.pointer (some ⟨w.heap.size, 0, none⟩)]] 141))
  simpa using this
def numF (beg : List UInt8) (g : Nat) : List Value := [.string ⟨beg.toArray⟩, .func (Fn.func 116) #[] #[.pointer (some ⟨g + 1, 0, none⟩), .pointer (some ⟨g, 0, none⟩)], .func (Fn.func 118) #[] #[.pointer (some ⟨g, 0, none⟩)]]
def namZ : List Value := [.string ⟨#[]⟩, .nilFunc, .nilFunc]
def namF : List Value := [.string ⟨#[38]⟩, .func (Fn.func 94) #[] #[], .func (Fn.func 95) #[] #[]]
def stysV (g1 g2 g3 : Nat) : Value := .agg (namF ++ (numF [38, 35] g1 ++ (numF [38, 35, 120] g2 ++ numF [38, 35, 88] g3))).toArray
structure StyAt (w : World) (g b most : Nat) : Prop where
 b : Cells w g 3 #[.int .i64 (b : Int)]
 m : Cells w (g + 1) 3 #[.int .i64 (most : Int)]
theorem StyAt.on {w w' : World} {g b most : Nat} (h : StyAt w g b most) (hb : Below w.heap.size w w') : StyAt w' g b most := ⟨h.b.on hb, h.m.on hb⟩
set_option maxHeartbeats 4000000 in
set_option maxRecDepth 100000 in
theorem styles_any (w : World) : Calls Tryz.prog 80 #[] w fun e w' => ∃ g1 g2 g3, e = .returned (stysV g1 g2 g3) ∧ Below w.heap.size w w' ∧ StyAt w' g1 10 7 ∧ StyAt w' g2 16 6 ∧ StyAt w' g3 16 6 := by
 have hs : ∀ (a : Addr) (f : FuncId) (c : Array Value) (m : Mode) (W : World), (store a (.func (Fn.func f) #[] c) m).run Tryz.prog W = stored Tryz.prog W a (.func (Fn.func f) #[] c) m := fun a f c m W => run_store_func Tryz.prog W a m _ _ _
 go_enter Tryz.func80, Tryz.ntmps80
 go_wp2_with fail
 refine (numeric_any _ 10 7 _).mono ?_
 rintro r w1 ⟨rfl, hb1, c1, d1⟩
 have s1 := hb1.size
 go_wp2_with fail
 refine (numeric_any _ 16 6 _).mono ?_
 rintro r w2 ⟨rfl, hb2, c2, d2⟩
 go_wp2_with fail
 refine (numeric_any _ 16 6 _).mono ?_
 rintro r w3 ⟨rfl, hb3, c3, d3⟩
 have b23 := hb2.trans (hb3.mono hb2.size)
 have b13 := hb1.trans (b23.mono hb1.size)
 have x0 : Cells w3 w.heap.size 142 (namZ ++ (namZ ++ (namZ ++ namZ))).toArray := (cells_new w _ 142).on b13
 have S1 : StyAt w3 (w.heap.size + 1) 10 7 := StyAt.on ⟨by simpa using c1, by simpa using d1⟩ b23
 have S2 : StyAt w3 w1.heap.size 16 6 := StyAt.on ⟨c2, d2⟩ hb3
 have S3 : StyAt w3 w2.heap.size 16 6 := ⟨c3, d3⟩
 have hb : Below w.heap.size w w3 := (below_new w _).trans (b13.mono (by simp))
 have hl1 : w.heap.size < w1.heap.size := by simp at s1; omega
 have hl2 : w.heap.size < w2.heap.size := Nat.lt_of_lt_of_le hl1 hb2.size
 rename_i Qx Kx ax Ky ay
 dsimp only
 refine ay _ _ ?_
 refine wpList_buildTo rfl 142 _ rfl (some 5) rfl (namF ++ (numF [38, 35] (w.heap.size + 1) ++ (numF [38, 35, 120] w1.heap.size ++ numF [38, 35, 88] w2.heap.size))).toArray (by as_aux_lemma => kernel_rfl) ?_
 refine wpList_store_row rfl 142 (.tmp 0) (.tmp 5) rfl w.heap.size (namF ++ (numF [38, 35] (w.heap.size + 1) ++ (numF [38, 35, 120] w1.heap.size ++ numF [38, 35, 88] w2.heap.size))).toArray rfl rfl 142 _ x0 (by as_aux_lemma => kernel_rfl) (by as_aux_lemma => kernel_rfl) (by as_aux_lemma => kernel_rfl) ?_
 apply wpList_nil
 generalize hv : (namF ++ (numF [38, 35] (w.heap.size + 1) ++ (numF [38, 35, 120] w1.heap.size ++ numF [38, 35, 88] w2.heap.size))).toArray = V
 have hV : V.size = 12 := by rw [← hv]; rfl
 refine ax _ _ ?_
 refine wp_ret ?_
 have hz : (w3.setRow w.heap.size V).heap[w.heap.size]? = some (.cells V 142 (0, 0)) := setRow_heap _ _ _ _ _ _ x0
 have hbz : Below w.heap.size w (w3.setRow w.heap.size V) := below_setRow hb (Nat.le_refl _) _
 have oth : ∀ g t cs, g ≠ w.heap.size → Cells w3 g t cs → Cells (w3.setRow w.heap.size V) g t cs := fun g t cs hne h => (setRow_other _ _ _ _ (by omega)).trans h
 refine bodyPost_ret (v := .agg V) (results_cell_row rfl _ _ w.heap.size 142 V (0, 0) (.array 4 141) rfl hz (by as_aux_lemma => kernel_rfl) rfl (by rw [hV]; as_aux_lemma => kernel_rfl)) rfl ⟨w.heap.size + 1, w1.heap.size, w2.heap.size, by rw [← hv]; rfl, hbz, ⟨oth _ _ _ (by omega) S1.b, oth _ _ _ (by omega) S1.m⟩, ⟨oth _ _ _ (by omega) S2.b, oth _ _ _ (by omega) S2.m⟩, ⟨oth _ _ _ (by omega) S3.b, oth _ _ _ (by omega) S3.m⟩⟩
end Go.Proofs.YtojinnnpfjhifaaGreatDoor

namespace Go.Proofs.YtojinnnpfjhifaaGreatDoor
open Go.RowKit Go.Shelf Go.Lib Go.Maps Go.Great
open Go.Sort (grow)
attribute [local irreducible] NR ZNR FR nmE
theorem meas_step (a n : Nat) (h : n < a) : a - (RowKit.intOf (.int .i64 ((n : Int) + 1))).toNat < a - (RowKit.intOf (.int .i64 (n : Int))).toNat := by
 simp [RowKit.intOf]
 omega
theorem isPrefixOf_map (l m : List Nat) (hl : ∀ x ∈ l, x < 256) (hm : ∀ x ∈ m, x < 256) : (u8s l).isPrefixOf (u8s m) = l.isPrefixOf m := by
 induction l generalizing m with
 | nil => rfl
 | cons a l ih =>
  cases m with
  | nil => rfl
  | cons b m =>
   have e : (UInt8.ofNat a == UInt8.ofNat b) = (a == b) := by
    rw [Bool.eq_iff_iff]
    simp only [beq_iff_eq]
    constructor
    ·intro h
     have := congrArg UInt8.toNat h
     have h1 := hl a (by simp)
     have h2 := hm b (by simp)
     simpa [Nat.mod_eq_of_lt h1, Nat.mod_eq_of_lt h2] using this
    ·rintro rfl; rfl
   show (UInt8.ofNat a == UInt8.ofNat b && (u8s l).isPrefixOf (u8s m)) = (a == b && l.isPrefixOf m)
   rw [e, ih m (fun x hx => hl x (by simp [hx])) (fun x hx => hm x (by simp [hx]))]
theorem bytesOf_cast (l : List Nat) : Lib.bytesOf (l.map fun (x : Nat) => (x : Int)) = u8s l := by
 simp [Lib.bytesOf, u8s]
set_option maxHeartbeats 4000000 in
set_option maxRecDepth 100000 in
theorem hasPre_any (w : World) (xs ys : List Nat) (A : Option Addr) (cap g c2 : Nat) (hx : BY w w.heap.size xs A cap) (hy : BY w w.heap.size ys (some ⟨g, 0, none⟩) c2) (h0 : ys ≠ []) :
  Calls Tryz.prog 77 #[.slice A xs.length cap, .slice (some ⟨g, 0, none⟩) ys.length c2] w fun e w' => e = .returned (.bool (ys.isPrefixOf xs)) ∧ w' = w := by
 by_cases hl : xs.length < ys.length
 case pos =>
  have hp : ys.isPrefixOf xs = false := by
   rw [Bool.eq_false_iff]
   intro h
   have := (List.isPrefixOf_iff_prefix.1 h).length_le
   omega
  rw [hp]
  have hl2 : ¬ ys.length ≤ xs.length := by omega
  clear hx hy hp h0
  go_enter Tryz.func77, Tryz.ntmps77
  go_wp2_with fail
  go_ret
  exact ⟨rfl, rfl⟩
 case neg =>
  obtain ⟨b, o, rfl, _, hc⟩ := hx.r (by rintro rfl; simp at hl; exact h0 hl)
  obtain ⟨b2, o2, e2, _, hc2⟩ := hy.r h0
  obtain ⟨rfl, rfl⟩ : g = b2 ∧ 0 = o2 := by simpa using e2
  have C := Tryz.bytes_HasPrefix b o xs.length cap g 0 ys.length c2 (xs.map fun (x : Nat) => (x : Int)) (ys.map fun (x : Nat) => (x : Int)) w (by simp) (by simp) hx.l
   (fun i hi => by rw [hc i _ (List.getElem?_eq_getElem hi)]; simp [List.getD_eq_getElem?_getD, hi])
   (fun i hi => by rw [hc2 i _ (List.getElem?_eq_getElem hi)]; simp [List.getD_eq_getElem?_getD, hi])
  rw [bytesOf_cast, bytesOf_cast, Lib.hasPrefix, isPrefixOf_map _ _ hy.i hx.i] at C
  exact C
def fol (may : List Nat → Nat → Bool) (xs : List Nat) (h : Nat) : Nat → List Nat → Nat × Bool
 | n, [] => (n, false)
 | n, c :: r => if may ((xs.take n).drop h) c then (if c = 59 then (n + 1, true) else fol may xs h (n + 1) r) else (n, false)
def followR (beg : List UInt8) (may : List Nat → Nat → Bool) (xs : List Nat) : Nat × Bool := if (nats beg).isPrefixOf xs then fol may xs beg.length beg.length (xs.drop beg.length) else (0, false)
theorem BY.win {w : World} {B : Nat} {xs : List Nat} {b o cap : Nat} (h : BY w B xs (some ⟨b, o, none⟩) cap) (l k : Nat) (hl : l ≤ k) (hk : k ≤ xs.length) : BY w B ((xs.take k).drop l) (some ⟨b, o + l, none⟩) (cap - l) :=
 ⟨(by have hh := h.l; simp; omega), (by have hh := h.m; omega), fun e => (by cases e), fun x hx => h.i x (List.mem_of_mem_take (List.mem_of_mem_drop hx)), fun hne => by
  obtain ⟨b', o', e, hlt, hr⟩ := h.r (by rintro rfl; simp at hne)
  obtain ⟨rfl, rfl⟩ : b = b' ∧ o = o' := by simpa using e
  exact ⟨b, o + l, rfl, hlt, fun i x hx => by
   rw [List.getElem?_drop, List.getElem?_take] at hx
   split at hx
   ·rw [Nat.add_assoc]
    exact hr _ x hx
   ·cases hx⟩⟩
theorem slice_win (b o len cap l h : Nat) (hlh : l ≤ h) (hh : h ≤ cap) (hc : l < cap) (W : World) :
  (Instr.slice 22 (.slice (some ⟨b, o, none⟩) len cap) (some (.int .i64 (l : Int))) (some (.int .i64 (h : Int))) none).run Tryz.prog W = .ok (.slice (some ⟨b, o + l, none⟩) (h - l) (cap - l)) W := by
 have ht : Tryz.prog.underlying 22 = some (.slice 5) := Tryz.underlying22
 have ht' : Tryz.prog.underlying 22 = some (.slice (Tryz.prog.elem 22)) := by simp [Program.elem, ht]
 have he : Tryz.prog.elem 22 = 5 := by simp [Program.elem, ht]
 have hz : ∀ w, (Go.sizeOf 5).run Tryz.prog w = .ok 1 w := fun w => by kernel_rfl
 rw [run_slice_lh W 22 _ _ _ ht' .i64 .i64 _ _ (by omega) (by omega) (by omega), he, hz]
 have hne : ¬ cap = l := by omega
 by_cases h0 : l = 0
 ·subst h0
  simp [Result.andThen, sliced, Addr.add, hne]
 ·simp [Result.andThen, sliced, Addr.add, hne, h0]
theorem fol_at {may : List Nat → Nat → Bool} {xs : List Nat} {h n c : Nat} (hx : xs[n]? = some c) : fol may xs h n (xs.drop n) = if may ((xs.take n).drop h) c then (if c = 59 then (n + 1, true) else fol may xs h (n + 1) (xs.drop (n + 1))) else (n, false) := by
 rw [drop_at hx, fol]
set_option maxHeartbeats 4000000 in
set_option maxRecDepth 100000 in
theorem follow67_any (w : World) (beg : List UInt8) (h1 : 1 ≤ beg.length) (h3 : beg.length ≤ 3) (may : List Nat → Nat → Bool) (pm pb : Addr) (f2 : FuncId) (c2 : Array Value) (xs : List Nat) (A : Option Addr) (cap : Nat) (hx : BY w w.heap.size xs A cap)
  (K : ∀ W, Below w.heap.size w W → ∀ b o cap' l (c : Nat), c < 256 → BY W W.heap.size l (some ⟨b, o, none⟩) cap' → Calls Tryz.prog 116 #[.slice (some ⟨b, o, none⟩) l.length cap', .int .u8 (c : Int), .pointer (some pm), .pointer (some pb)] W fun e w' => e = .returned (.bool (may l c)) ∧ Below W.heap.size W w') :
  Calls Tryz.prog 81 #[.agg #[.string ⟨beg.toArray⟩, .func (Fn.func 116) #[] #[.pointer (some pm), .pointer (some pb)], .func (Fn.func f2) #[] c2], .slice A xs.length cap] w fun e w' => e = .returned (.tuple #[.int .i64 ((followR beg may xs).1 : Nat), .bool (followR beg may xs).2]) ∧ Below w.heap.size w w' := by
 have b1 := below_new w (.cells #[.string ⟨beg.toArray⟩, .func (Fn.func 116) #[] #[.pointer (some pm), .pointer (some pb)], .func (Fn.func f2) #[] c2] 141)
 obtain ⟨cp, W4, hcv0, hR, hb4⟩ := conv_str (w.alloc (.cells #[.string ⟨beg.toArray⟩, .func (Fn.func 116) #[] #[.pointer (some pm), .pointer (some pb)], .func (Fn.func f2) #[] c2] 141)) beg (by omega)
 have hcv : (convert 9 22 (.string ⟨beg.toArray⟩)).run Tryz.prog (w.alloc (.cells #[.string ⟨beg.toArray⟩, .func (Fn.func 116) #[] #[.pointer (some pm), .pointer (some pb)], .func (Fn.func f2) #[] c2] 141)) = _ := hcv0
 have hsz : (w.alloc (.cells #[.string ⟨beg.toArray⟩, .func (Fn.func 116) #[] #[.pointer (some pm), .pointer (some pb)], .func (Fn.func f2) #[] c2] 141)).heap.size = w.heap.size + 1 := by simp
 rw [hsz] at hcv hR
 have hb : Below w.heap.size w W4 := b1.trans (hb4.mono (by simp))
 have x0 := (cells_new w #[.string ⟨beg.toArray⟩, .func (Fn.func 116) #[] #[.pointer (some pm), .pointer (some pb)], .func (Fn.func f2) #[] c2] 141).on hb4
 have P := hasPre_any W4 xs (nats beg) A cap _ cp (hx.on hb) hR.by (by intro e; have := congrArg List.length e; rw [nats_len] at this; simp at this; subst this; simp at h1)
 obtain ⟨hl, hhl⟩ : ∃ n, beg.length = n := ⟨_, rfl⟩
 rw [nats_len, hhl] at P
 rw [hhl] at hcv
 obtain ⟨FR, hFR⟩ : ∃ v, followR beg may xs = v := ⟨_, rfl⟩
 rw [hFR]
 have HH := Lib.hid (And.intro P (And.intro hb (And.intro x0 (And.intro hFR (And.intro hx (And.intro K (And.intro h1 h3)))))))
 clear P hb x0 hFR hx K hb4 b1 hR hcv0 hsz
 go_enter Tryz.func81, Tryz.ntmps81
 go_wp2_with fail
 refine HH.out.1.mono ?_
 rintro e w1 ⟨rfl, rfl⟩
 have q0 := HH.out.2.2.1.cell 0
 have q1 := HH.out.2.2.1.cell 1
 simp at q0 q1
 cases hp : (nats beg).isPrefixOf xs with
 | false =>
  have HP := Lib.hid hp
  clear hp
  go_wp2_with fail
  have hf : FR = (0, false) := by rw [← HH.out.2.2.2.1, followR, HP.out]; rfl
  refine bodyPost_ret (v := .tuple #[.int .i64 0, .bool false]) ?_ rfl ⟨by rw [hf]; rfl, HH.out.2.1⟩
  simp [results, Tryz.results81, go_sem]
 | true =>
  have hle : hl ≤ xs.length := by
   have := (List.isPrefixOf_iff_prefix.1 hp).length_le
   rw [nats_len] at this
   omega
  have hf : FR = fol may xs hl hl (xs.drop hl) := by rw [← HH.out.2.2.2.1, followR, hp, hhl]; rfl
  have HP := Lib.hid (And.intro hf hle)
  clear hp hf hle
  go_wp2_with fail
  go_loopw [6] (fun r wr => ∃ n : Nat, r = .int .i64 (n : Int) ∧ hl ≤ n ∧ n ≤ xs.length ∧ FR = fol may xs hl n (xs.drop n) ∧ Below w1.heap.size w1 wr) (fun r _ => xs.length - (RowKit.intOf r).toNat)
  case atStart => exact ⟨hl, rfl, Nat.le_refl _, HP.out.2, HP.out.1, Below.refl _ _⟩
  case round =>
   obtain ⟨n, rfl, hn1, hn2, hfr, hb⟩ := hrel
   have xr : Cells wr w.heap.size 141 _ := (hb.block _ HH.out.2.2.1.lt).trans HH.out.2.2.1
   have bw : Below w.heap.size w wr := HH.out.2.1.trans (hb.mono HH.out.2.1.size)
   have g0 := xr.cell 0
   have g1 := xr.cell 1
   simp at g0 g1
   by_cases hlt : n < xs.length
   case neg =>
    have hn : n = xs.length := by omega
    have hf : FR = (n, false) := by rw [hfr, List.drop_of_length_le (by omega)]; rfl
    have i1 : ¬ (n : Int) < (xs.length : Int) := by omega
    have i2 : decide ((n : Int) < (xs.length : Int)) = false := by simpa using i1
    have HK := Lib.hid (And.intro hf bw)
    clear hn hfr hf hb xr bw hn1 hn2 q0 q1
    go_wp2_with go_quiet (fail)
    refine bodyPost_ret (v := .tuple #[.int .i64 (n : Int), .bool false]) ?_ rfl ⟨by rw [HK.out.1], below_drewN HK.out.2 _⟩
    simp [results, Tryz.results81, go_sem]
   case pos =>
    obtain ⟨c, hc⟩ := at_lt hlt
    obtain ⟨b, o, rfl, hbl, hcell⟩ := HH.out.2.2.2.2.1.at hc
    have d0 := (bw.cell (p := ⟨b, o + n, none⟩) hbl).trans hcell
    have hc256 := HH.out.2.2.2.2.1.lt hc
    have hcap := HH.out.2.2.2.2.1.l
    have i1 : (n : Int) < (xs.length : Int) := by omega
    have hsl := slice_win b o xs.length cap hl n hn1 (by omega) (by omega)
    have hbl2 : ((xs.take n).drop hl).length = n - hl := by simp; omega
    have C : ∀ d os, Calls Tryz.prog 116 #[.slice (some ⟨b, o + hl, none⟩) (n - hl) (cap - hl), .int .u8 (c : Int), .pointer (some pm), .pointer (some pb)] (grow (redrawn wr d) os) fun e w'' => e = .returned (.bool (may ((xs.take n).drop hl) c)) ∧ ∃ p : Regrown, w'' = grow (redrawn wr p.d) p.os := fun d os => by
     have bd := bw.trans ((below_regrown wr d os).mono bw.size)
     have := HH.out.2.2.2.2.2.1 (grow (redrawn wr d) os) bd b (o + hl) (cap - hl) ((xs.take n).drop hl) c hc256 ((HH.out.2.2.2.2.1.win hl n hn1 hn2).on bd)
     rw [hbl2] at this
     exact Calls.regrown_of this
    have hfr2 := hfr.trans (fol_at hc)
    have HK := Lib.hid (And.intro hb (And.intro hfr2 (And.intro bw (And.intro hc (And.intro hn1 hlt)))))
    have z0 := cell_regrown g0
    have z1 := cell_regrown g1
    have z2 := cell_regrown d0
    cases hm : may ((xs.take n).drop hl) c with
    | false =>
     rw [hm] at C
     have HM := Lib.hid hm
     clear hm hfr hfr2 hb bw hc256 hcap hc hbl2 hcell xr q0 q1 g0 g1 d0
     go_wp2_with fail
     refine wp_region_quiet_below (by kernel_rfl) (by kernel_rfl) ?_
     repeat (go_big_quiet_step (exact C _ _))
     refine wpQuiet_nil ?_
     intro _ hw'
     obtain ⟨⟨dq, osq⟩, hw''⟩ := hw'
     subst hw''
     have HB := Lib.hid (HK.out.2.2.1.trans ((below_regrown wr dq osq).mono HK.out.2.2.1.size))
     clear z0 z1 z2 C
     go_wp2_with fail
     have hf : FR = (n, false) := by rw [HK.out.2.1, HM.out]; rfl
     refine bodyPost_ret (v := .tuple #[.int .i64 (n : Int), .bool false]) ?_ rfl ⟨by rw [hf], HB.out⟩
     simp [results, Tryz.results81, go_sem]
    | true =>
     rw [hm] at C
     have HM := Lib.hid hm
     clear hm hfr hfr2 hb bw hc256 hcap hc hbl2 hcell xr q0 q1 g0 g1
     go_wp2_with fail
     refine wp_region_quiet_below (by kernel_rfl) (by kernel_rfl) ?_
     repeat (go_big_quiet_step (exact C _ _))
     refine wpQuiet_nil ?_
     intro _ hw'
     obtain ⟨⟨dq, osq⟩, hw''⟩ := hw'
     subst hw''
     have HB := Lib.hid (HK.out.2.2.1.trans ((below_regrown wr dq osq).mono HK.out.2.2.1.size))
     have z3 := cell_regrown d0 dq osq
     have hb5 := Lib.hid (HK.out.1.trans ((below_regrown wr dq osq).mono HK.out.1.size))
     have hlen := HH.out.2.2.2.2.1.len
     have w1 : wrap64 ((n : Int) + 1) = (n : Int) + 1 := by unfold wrap64; omega
     have w2 : wrap64 (n : Int) = (n : Int) := by unfold wrap64; omega
     clear z0 z1 z2 C d0 hlen
     by_cases hcc : c = 59
     case pos =>
      subst hcc
      have hf : FR = (n + 1, true) := by rw [HK.out.2.1, HM.out]; rfl
      have HF := Lib.hid hf
      clear hf
      go_wp2_with fail
      refine bodyPost_ret (v := .tuple #[.int .i64 (n + 1 : Int), .bool true]) ?_ rfl ⟨by rw [HF.out]; rfl, HB.out⟩
      simp [results, Tryz.results81, go_sem]
     case neg =>
      have hc1 : ¬ (c : Int) = 59 := by omega
      have hc2 : ((c : Int) == 59) = false := by simp; omega
      have hf : FR = fol may xs hl (n + 1) (xs.drop (n + 1)) := by rw [HK.out.2.1, HM.out, if_pos rfl, if_neg hcc]
      have HF := Lib.hid hf
      clear hf
      go_wp2_with fail
      go_roundw
      case rel => exact ⟨n + 1, by go_num, Nat.le_succ_of_le HK.out.2.2.2.2.1, HK.out.2.2.2.2.2, HF.out, hb5.out⟩
      case measure =>
       rw [w1]
       exact meas_step xs.length n HK.out.2.2.2.2.2
end Go.Proofs.YtojinnnpfjhifaaGreatDoor

namespace Go.Proofs.YtojinnnpfjhifaaGreatDoor
open Go.RowKit Go.Shelf Go.Lib Go.Maps Go.Great
open Go.Sort (grow)
attribute [local irreducible] NR ZNR FR nmE
set_option maxHeartbeats 4000000 in
set_option maxRecDepth 100000 in
theorem follow51_any (w : World) (beg : List UInt8) (h1 : 1 ≤ beg.length) (h3 : beg.length ≤ 3) (may : List Nat → Nat → Bool) (f2 : FuncId) (c2 : Array Value) (xs : List Nat) (A : Option Addr) (cap : Nat) (hx : BY w w.heap.size xs A cap)
  (K : ∀ W, Below w.heap.size w W → ∀ b o cap' l (c : Nat), c < 256 → BY W W.heap.size l (some ⟨b, o, none⟩) cap' → Calls Tryz.prog 94 #[.slice (some ⟨b, o, none⟩) l.length cap', .int .u8 (c : Int)] W fun e w' => e = .returned (.bool (may l c)) ∧ Below W.heap.size W w') :
  Calls Tryz.prog 81 #[.agg #[.string ⟨beg.toArray⟩, .func (Fn.func 94) #[] #[], .func (Fn.func f2) #[] c2], .slice A xs.length cap] w fun e w' => e = .returned (.tuple #[.int .i64 ((followR beg may xs).1 : Nat), .bool (followR beg may xs).2]) ∧ Below w.heap.size w w' := by
 have b1 := below_new w (.cells #[.string ⟨beg.toArray⟩, .func (Fn.func 94) #[] #[], .func (Fn.func f2) #[] c2] 141)
 obtain ⟨cp, W4, hcv0, hR, hb4⟩ := conv_str (w.alloc (.cells #[.string ⟨beg.toArray⟩, .func (Fn.func 94) #[] #[], .func (Fn.func f2) #[] c2] 141)) beg (by omega)
 have hcv : (convert 9 22 (.string ⟨beg.toArray⟩)).run Tryz.prog (w.alloc (.cells #[.string ⟨beg.toArray⟩, .func (Fn.func 94) #[] #[], .func (Fn.func f2) #[] c2] 141)) = _ := hcv0
 have hsz : (w.alloc (.cells #[.string ⟨beg.toArray⟩, .func (Fn.func 94) #[] #[], .func (Fn.func f2) #[] c2] 141)).heap.size = w.heap.size + 1 := by simp
 rw [hsz] at hcv hR
 have hb : Below w.heap.size w W4 := b1.trans (hb4.mono (by simp))
 have x0 := (cells_new w #[.string ⟨beg.toArray⟩, .func (Fn.func 94) #[] #[], .func (Fn.func f2) #[] c2] 141).on hb4
 have P := hasPre_any W4 xs (nats beg) A cap _ cp (hx.on hb) hR.by (by intro e; have := congrArg List.length e; rw [nats_len] at this; simp at this; subst this; simp at h1)
 obtain ⟨hl, hhl⟩ : ∃ n, beg.length = n := ⟨_, rfl⟩
 rw [nats_len, hhl] at P
 rw [hhl] at hcv
 obtain ⟨FR, hFR⟩ : ∃ v, followR beg may xs = v := ⟨_, rfl⟩
 rw [hFR]
 have HH := Lib.hid (And.intro P (And.intro hb (And.intro x0 (And.intro hFR (And.intro hx (And.intro K (And.intro h1 h3)))))))
 clear P hb x0 hFR hx K hb4 b1 hR hcv0 hsz
 go_enter Tryz.func81, Tryz.ntmps81
 go_wp2_with fail
 refine HH.out.1.mono ?_
 rintro e w1 ⟨rfl, rfl⟩
 have q0 := HH.out.2.2.1.cell 0
 have q1 := HH.out.2.2.1.cell 1
 simp at q0 q1
 cases hp : (nats beg).isPrefixOf xs with
 | false =>
  have HP := Lib.hid hp
  clear hp
  go_wp2_with fail
  have hf : FR = (0, false) := by rw [← HH.out.2.2.2.1, followR, HP.out]; rfl
  refine bodyPost_ret (v := .tuple #[.int .i64 0, .bool false]) ?_ rfl ⟨by rw [hf]; rfl, HH.out.2.1⟩
  simp [results, Tryz.results81, go_sem]
 | true =>
  have hle : hl ≤ xs.length := by
   have := (List.isPrefixOf_iff_prefix.1 hp).length_le
   rw [nats_len] at this
   omega
  have hf : FR = fol may xs hl hl (xs.drop hl) := by rw [← HH.out.2.2.2.1, followR, hp, hhl]; rfl
  have HP := Lib.hid (And.intro hf hle)
  clear hp hf hle
  go_wp2_with fail
  go_loopw [6] (fun r wr => ∃ n : Nat, r = .int .i64 (n : Int) ∧ hl ≤ n ∧ n ≤ xs.length ∧ FR = fol may xs hl n (xs.drop n) ∧ Below w1.heap.size w1 wr) (fun r _ => xs.length - (RowKit.intOf r).toNat)
  case atStart => exact ⟨hl, rfl, Nat.le_refl _, HP.out.2, HP.out.1, Below.refl _ _⟩
  case round =>
   obtain ⟨n, rfl, hn1, hn2, hfr, hb⟩ := hrel
   have xr : Cells wr w.heap.size 141 _ := (hb.block _ HH.out.2.2.1.lt).trans HH.out.2.2.1
   have bw : Below w.heap.size w wr := HH.out.2.1.trans (hb.mono HH.out.2.1.size)
   have g0 := xr.cell 0
   have g1 := xr.cell 1
   simp at g0 g1
   by_cases hlt : n < xs.length
   case neg =>
    have hn : n = xs.length := by omega
    have hf : FR = (n, false) := by rw [hfr, List.drop_of_length_le (by omega)]; rfl
    have i1 : ¬ (n : Int) < (xs.length : Int) := by omega
    have i2 : decide ((n : Int) < (xs.length : Int)) = false := by simpa using i1
    have HK := Lib.hid (And.intro hf bw)
    clear hn hfr hf hb xr bw hn1 hn2 q0 q1
    go_wp2_with go_quiet (fail)
    refine bodyPost_ret (v := .tuple #[.int .i64 (n : Int), .bool false]) ?_ rfl ⟨by rw [HK.out.1], below_drewN HK.out.2 _⟩
    simp [results, Tryz.results81, go_sem]
   case pos =>
    obtain ⟨c, hc⟩ := at_lt hlt
    obtain ⟨b, o, rfl, hbl, hcell⟩ := HH.out.2.2.2.2.1.at hc
    have d0 := (bw.cell (p := ⟨b, o + n, none⟩) hbl).trans hcell
    have hc256 := HH.out.2.2.2.2.1.lt hc
    have hcap := HH.out.2.2.2.2.1.l
    have i1 : (n : Int) < (xs.length : Int) := by omega
    have hsl := slice_win b o xs.length cap hl n hn1 (by omega) (by omega)
    have hbl2 : ((xs.take n).drop hl).length = n - hl := by simp; omega
    have C : ∀ d os, Calls Tryz.prog 94 #[.slice (some ⟨b, o + hl, none⟩) (n - hl) (cap - hl), .int .u8 (c : Int)] (grow (redrawn wr d) os) fun e w'' => e = .returned (.bool (may ((xs.take n).drop hl) c)) ∧ ∃ p : Regrown, w'' = grow (redrawn wr p.d) p.os := fun d os => by
     have bd := bw.trans ((below_regrown wr d os).mono bw.size)
     have := HH.out.2.2.2.2.2.1 (grow (redrawn wr d) os) bd b (o + hl) (cap - hl) ((xs.take n).drop hl) c hc256 ((HH.out.2.2.2.2.1.win hl n hn1 hn2).on bd)
     rw [hbl2] at this
     exact Calls.regrown_of this
    have hfr2 := hfr.trans (fol_at hc)
    have HK := Lib.hid (And.intro hb (And.intro hfr2 (And.intro bw (And.intro hc (And.intro hn1 hlt)))))
    have z0 := cell_regrown g0
    have z1 := cell_regrown g1
    have z2 := cell_regrown d0
    cases hm : may ((xs.take n).drop hl) c with
    | false =>
     rw [hm] at C
     have HM := Lib.hid hm
     clear hm hfr hfr2 hb bw hc256 hcap hc hbl2 hcell xr q0 q1 g0 g1 d0
     go_wp2_with fail
     refine wp_region_quiet_below (by kernel_rfl) (by kernel_rfl) ?_
     repeat (go_big_quiet_step (exact C _ _))
     refine wpQuiet_nil ?_
     intro _ hw'
     obtain ⟨⟨dq, osq⟩, hw''⟩ := hw'
     subst hw''
     have HB := Lib.hid (HK.out.2.2.1.trans ((below_regrown wr dq osq).mono HK.out.2.2.1.size))
     clear z0 z1 z2 C
     go_wp2_with fail
     have hf : FR = (n, false) := by rw [HK.out.2.1, HM.out]; rfl
     refine bodyPost_ret (v := .tuple #[.int .i64 (n : Int), .bool false]) ?_ rfl ⟨by rw [hf], HB.out⟩
     simp [results, Tryz.results81, go_sem]
    | true =>
     rw [hm] at C
     have HM := Lib.hid hm
     clear hm hfr hfr2 hb bw hc256 hcap hc hbl2 hcell xr q0 q1 g0 g1
     go_wp2_with fail
     refine wp_region_quiet_below (by kernel_rfl) (by kernel_rfl) ?_
     repeat (go_big_quiet_step (exact C _ _))
     refine wpQuiet_nil ?_
     intro _ hw'
     obtain ⟨⟨dq, osq⟩, hw''⟩ := hw'
     subst hw''
     have HB := Lib.hid (HK.out.2.2.1.trans ((below_regrown wr dq osq).mono HK.out.2.2.1.size))
     have z3 := cell_regrown d0 dq osq
     have hb5 := Lib.hid (HK.out.1.trans ((below_regrown wr dq osq).mono HK.out.1.size))
     have hlen := HH.out.2.2.2.2.1.len
     have w1 : wrap64 ((n : Int) + 1) = (n : Int) + 1 := by unfold wrap64; omega
     have w2 : wrap64 (n : Int) = (n : Int) := by unfold wrap64; omega
     clear z0 z1 z2 C d0 hlen
     by_cases hcc : c = 59
     case pos =>
      subst hcc
      have hf : FR = (n + 1, true) := by rw [HK.out.2.1, HM.out]; rfl
      have HF := Lib.hid hf
      clear hf
      go_wp2_with fail
      refine bodyPost_ret (v := .tuple #[.int .i64 (n + 1 : Int), .bool true]) ?_ rfl ⟨by rw [HF.out]; rfl, HB.out⟩
      simp [results, Tryz.results81, go_sem]
     case neg =>
      have hc1 : ¬ (c : Int) = 59 := by omega
      have hc2 : ((c : Int) == 59) = false := by simp; omega
      have hf : FR = fol may xs hl (n + 1) (xs.drop (n + 1)) := by rw [HK.out.2.1, HM.out, if_pos rfl, if_neg hcc]
      have HF := Lib.hid hf
      clear hf
      go_wp2_with fail
      go_roundw
      case rel => exact ⟨n + 1, by go_num, Nat.le_succ_of_le HK.out.2.2.2.2.1, HK.out.2.2.2.2.2, HF.out, hb5.out⟩
      case measure =>
       rw [w1]
       exact meas_step xs.length n HK.out.2.2.2.2.2
end Go.Proofs.YtojinnnpfjhifaaGreatDoor

