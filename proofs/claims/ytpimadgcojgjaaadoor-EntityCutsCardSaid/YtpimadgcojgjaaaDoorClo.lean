/-
  Contracts: the functions that are asked of a row (by name, by scalar), entity.Find, entity.ofName.
-/
import Derived.Test.YtpimadgcojgjaaaDoorFnd
import Derived.Test.YtpimadgcojgjaaaDoorCvb
namespace Go.Proofs.YtpimadgcojgjaaaDoor
open Go.RowKit Go.Shelf Go.Lib Go.Maps Go.Great
theorem nm_short : ∀ x ∈ nmE, x.1.length ≤ 100 := by decide
attribute [local irreducible] NR ZNR FR nmE

/-- Is a row of this name? -/
def isNm (n : List UInt8) (x : NmE) : Bool := x.1 == n
def isRu (r : Int) (x : NmE) : Bool := x.2 == r
/-- May a byte follow what is within a name so far? -/
def isMy (u : List Nat) (c : Nat) (x : NmE) : Bool := if c = 59 then x.1 == u8s u else decide (u.length < x.1.length) && x.1.take u.length == u8s u && (nats x.1).getD u.length 0 == c

set_option maxHeartbeats 4000000 in
set_option maxRecDepth 100000 in
theorem clo44_any (w : World) (s : List UInt8) (z : Int) (n : List UInt8) (g : Nat) (hc : Cells w g 9 #[.string ⟨n.toArray⟩]) :
    Calls Tryd.prog 44 #[.agg #[.string ⟨s.toArray⟩, .int .i32 z], .pointer (some ⟨g, 0, none⟩)] w fun e w' => e = .returned (.bool (isNm n (s, z))) ∧ Below w.heap.size w w' := by
  go_enter Tryd.func44, Tryd.ntmps44
  have q0 := hc.cell 0
  simp at q0
  have lt := hc.lt
  go_wp2_with fail
  go_ret
  exact ⟨rfl, below_new _ _⟩
set_option maxHeartbeats 4000000 in
set_option maxRecDepth 100000 in
theorem clo40_any (w : World) (s : List UInt8) (z : Int) (r : Int) (g : Nat) (hc : Cells w g 21 #[.int .i32 r]) :
    Calls Tryd.prog 40 #[.agg #[.string ⟨s.toArray⟩, .int .i32 z], .pointer (some ⟨g, 0, none⟩)] w fun e w' => e = .returned (.bool (isRu r (s, z))) ∧ Below w.heap.size w w' := by
  go_enter Tryd.func40, Tryd.ntmps40
  have q0 := hc.cell 0
  simp at q0
  have lt := hc.lt
  go_wp2_with fail
  go_ret
  exact ⟨rfl, below_new _ _⟩
theorem slice_to (s : List UInt8) (k : Nat) (hk : k ≤ s.length) (w : World) : (Instr.slice 9 (.string ⟨s.toArray⟩) none (some (.int .i64 (k : Int))) none).run Tryd.prog w = .ok (.string ⟨(s.take k).toArray⟩) w := by
  have := run_slice_string_h (P := Tryd.prog) w 9 ⟨s.toArray⟩ Tryd.underlying9 .i64 (k : Int) (by omega) (by show (k : Int) ≤ ((s.length : Nat) : Int); omega)
  rw [this]
  have e : (ByteArray.extract ⟨s.toArray⟩ 0 (k : Int).toNat) = ⟨(s.take k).toArray⟩ := by
    apply ByteArray.ext
    simp
  rw [e]
theorem index_at (s : List UInt8) (k : Nat) (hk : k < s.length) (w : World) : (Instr.index 9 (.string ⟨s.toArray⟩) (.int .i64 (k : Int))).run Tryd.prog w = .ok (.int .u8 (((nats s).getD k 0 : Nat) : Int)) w := by
  rw [run_index_string _ _ _ _ _ Tryd.underlying9, dif_pos ⟨by omega, by show (k : Int) < ((s.length : Nat) : Int); omega⟩]
  have : (nats s).getD k 0 = (s[k]'hk).toNat := by simp [nats, List.getD_eq_getElem?_getD, hk]
  rw [this]
  rfl
set_option maxHeartbeats 4000000 in
set_option maxRecDepth 100000 in
theorem clo66_any (w : World) (s : List UInt8) (z : Int) (u : List Nat) (A : Option Addr) (cap c : Nat) (g0 g1 : Nat) (h0 : Cells w g0 22 #[.slice A u.length cap]) (h1 : Cells w g1 5 #[.int .u8 (c : Int)]) (hu : BY w w.heap.size u A cap) (hs : s.length ≤ 100) :
    Calls Tryd.prog 66 #[.agg #[.string ⟨s.toArray⟩, .int .i32 z], .pointer (some ⟨g0, 0, none⟩), .pointer (some ⟨g1, 0, none⟩)] w fun e w' => e = .returned (.bool (isMy u c (s, z))) ∧ Below w.heap.size w w' := by
  go_enter Tryd.func66, Tryd.ntmps66
  have q0 := h0.cell 0
  have q1 := h1.cell 0
  simp at q0 q1
  have lt0 := h0.lt
  have lt1 := h1.lt
  have ha := below_new w (.cells #[.string ⟨s.toArray⟩, .int .i32 z] 70)
  have hcv := conv_by (hu.on ha)
  by_cases hc : c = 59
  case pos =>
    subst hc
    go_wp2_with fail
    go_ret
    exact ⟨rfl, below_new _ _⟩
  case neg =>
    have hc1 : ¬ (c : Int) = 59 := by omega
    have hc2 : ((c : Int) == 59) = false := by simp; omega
    by_cases hl : u.length < s.length
    case neg =>
      go_wp2_with go_quiet (fail)
      go_ret
      refine ⟨?_, below_drewN (below_new _ _) _⟩
      simp [isMy, hc, hl]
    case pos =>
      have hsl := slice_to s u.length (by omega)
      have hix := index_at s u.length hl
      have hcvn := fun n => conv_by ((hu.on ha).on (below_drewN (Below.refl _ _) n))
      by_cases he : s.take u.length = u8s u
      case neg =>
        have he2 : (s.take u.length == u8s u) = false := by simp [he]
        go_wp2_with go_quiet (fail)
        go_ret
        refine ⟨?_, below_drewN (below_new _ _) _⟩
        simp [isMy, hc, hl, he]
      case pos =>
        go_wp2_with go_quiet (fail)
        go_ret
        refine ⟨?_, below_drewN (below_new _ _) _⟩
        rw [isMy, if_neg hc]
        have e3 : ((((nats s)[u.length]?.getD 0 : Nat) : Int) == (c : Int)) = ((nats s).getD u.length 0 == c) := by
          rw [List.getD_eq_getElem?_getD, Bool.eq_iff_iff]
          simp only [beq_iff_eq]
          omega
        simp only [he, hl, decide_true, beq_self_eq_true, Bool.true_and]
        exact congrArg (fun b => Ending.returned (Value.bool b)) e3
set_option maxHeartbeats 4000000 in
set_option maxRecDepth 100000 in
theorem find_any (w : World) (n : List UInt8) :
    Calls Tryd.prog 23 #[.string ⟨n.toArray⟩] w fun e w' => e = .returned (.tuple #[.int .i32 (((nmE.find? (isNm n)).map (·.2)).getD 0), .bool (nmE.find? (isNm n)).isSome]) ∧ Below w.heap.size w w' := by
  go_enter Tryd.func23, Tryd.ntmps23
  have C := find44_any ⟨w.heap.size, 0, none⟩ (isNm n) (w.alloc (.cells #[.string ⟨n.toArray⟩] 9)) (fun W hb s z _ => clo44_any W s z n _ ((cells_new w #[.string ⟨n.toArray⟩] 9).on hb))
  go_wp2_with fail
  refine C.mono ?_
  rintro r w1 ⟨rfl, hb1⟩
  have hb := (below_new w (.cells #[.string ⟨n.toArray⟩] 9)).trans (hb1.mono (by simp))
  cases hf : nmE.find? (isNm n) with
  | none =>
    simp only [findV]
    have HB := Lib.hid (And.intro hb hf)
    clear hb hb1 C hf
    go_wp2_with fail
    refine bodyPost_ret (v := .tuple #[.int .i32 0, .bool false]) ?_ rfl ⟨by rw [HB.out.2]; rfl, ?_⟩
    · simp [results, Tryd.results23, go_sem]
    · exact HB.out.1.trans ((below_new w1 _).mono HB.out.1.size)
  | some x =>
    obtain ⟨s, z⟩ := x
    simp only [findV, rowV]
    have HB := Lib.hid (And.intro hb hf)
    clear hb hb1 C hf
    go_wp2_with fail
    refine bodyPost_ret (v := .tuple #[.int .i32 z, .bool true]) ?_ rfl ⟨by rw [HB.out.2]; rfl, ?_⟩
    · simp [results, Tryd.results23, go_sem]
    · exact HB.out.1.trans ((below_new w1 _).mono HB.out.1.size)
/-- The scalar of a name; 0 if it is none. -/
def nmR (n : List UInt8) : Int := ((nmE.find? (isNm n)).map (·.2)).getD 0
set_option maxHeartbeats 4000000 in
set_option maxRecDepth 100000 in
theorem ofName_any (w : World) (u : List Nat) (A : Option Addr) (cap : Nat) (hu : BY w w.heap.size u A cap) :
    Calls Tryd.prog 52 #[.slice A u.length cap] w fun e w' => e = .returned (.int .i32 (nmR (u8s u))) ∧ Below w.heap.size w w' := by
  go_enter Tryd.func52, Tryd.ntmps52
  have hcv := conv_by hu
  have C := find_any w (u8s u)
  go_wp2_with fail
  refine C.mono ?_
  rintro r w1 ⟨rfl, hb1⟩
  go_wp2_with fail
  go_ret
  exact ⟨rfl, hb1⟩
set_option maxHeartbeats 4000000 in
set_option maxRecDepth 100000 in
theorem mayName_any (w : World) (u : List Nat) (A : Option Addr) (cap c : Nat) (hu : BY w w.heap.size u A cap) :
    Calls Tryd.prog 51 #[.slice A u.length cap, .int .u8 (c : Int)] w fun e w' => e = .returned (.bool (nmE.find? (isMy u c)).isSome) ∧ Below w.heap.size w w' := by
  have b1 := below_new w (.cells #[.slice A u.length cap] 22)
  have b2 := below_new (w.alloc (.cells #[.slice A u.length cap] 22)) (.cells #[.int .u8 (c : Int)] 5)
  have b3 := b1.trans (b2.mono (by simp))
  have x1 := (cells_new w #[.slice A u.length cap] 22).on b2
  have x2 := cells_new (w.alloc (.cells #[.slice A u.length cap] 22)) #[.int .u8 (c : Int)] 5
  have C := find66_any ⟨w.heap.size, 0, none⟩ ⟨w.heap.size + 1, 0, none⟩ (isMy u c) ((w.alloc (.cells #[.slice A u.length cap] 22)).alloc (.cells #[.int .u8 (c : Int)] 5)) (fun W hb s z hm =>
    clo66_any W s z u A cap c _ _ (x1.on hb) (by have := x2.on hb; simpa using this) ((hu.on b3).on hb) (nm_short _ hm))
  have HC := Lib.hid (And.intro C b3)
  clear C b1 b2 b3 x1 x2
  go_enter Tryd.func51, Tryd.ntmps51
  go_wp2_with fail
  refine HC.out.1.mono ?_
  rintro r w1 ⟨rfl, hb1⟩
  have hb := HC.out.2.trans (hb1.mono (by simp; omega))
  cases hf : nmE.find? (isMy u c) with
  | none =>
    simp only [findV]
    have HB := Lib.hid (And.intro hb hf)
    clear hb hb1 hf HC
    go_wp2_with fail
    go_ret
    exact ⟨by rw [HB.out.2]; rfl, HB.out.1.trans ((below_new w1 _).mono HB.out.1.size)⟩
  | some x =>
    obtain ⟨s, z⟩ := x
    simp only [findV, rowV]
    have HB := Lib.hid (And.intro hb hf)
    clear hb hb1 hf HC
    go_wp2_with fail
    go_ret
    exact ⟨by rw [HB.out.2]; rfl, HB.out.1.trans ((below_new w1 _).mono HB.out.1.size)⟩
end Go.Proofs.YtpimadgcojgjaaaDoor
