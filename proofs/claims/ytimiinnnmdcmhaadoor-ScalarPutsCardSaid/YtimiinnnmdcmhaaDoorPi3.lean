/-
  Contracts: strconv.ParseInt at base 16 and 32 bits, scalar.Print: of any text, of any number.
-/
import Derived.Test.YtimiinnnmdcmhaaDoorPi2
import Derived.Test.YtimiinnnmdcmhaaDoorLayS
import Derived.Test.YtimiinnnmdcmhaaDoorLayA
namespace Go.Proofs.YtimiinnnmdcmhaaDoor
open Go.RowKit Go.Shelf
open Go.Lib

def ErrAt (w : World) (g : Nat) : Prop := ∃ ev, w.cell? ⟨g, 0, none⟩ = some ev ∧ (ev = .nilIface ∨ ∃ te pe, ev = .iface te pe)
/-- The two errors of strconv lie where they lie. -/
def EV (w : World) : Prop := ErrAt w 4 ∧ ErrAt w 5 ∧ 6 ≤ w.heap.size
theorem EV.below {w w' : World} (h : EV w) (hb : Below w.heap.size w w') : EV w' := by
  obtain ⟨⟨e1, c1, k1⟩, ⟨e2, c2, k2⟩, hs⟩ := h
  exact ⟨⟨e1, (hb.cell (p := ⟨4, 0, none⟩) (by show 4 < w.heap.size; omega)).trans c1, k1⟩, ⟨e2, (hb.cell (p := ⟨5, 0, none⟩) (by show 5 < w.heap.size; omega)).trans c2, k2⟩, Nat.le_trans hs hb.size⟩
theorem te_syn (fn s : ByteArray) (w : World) (hs : s.size ≤ 1000000) (h : EV w) : Calls Tryd.prog 90 #[.string fn, .string s, .int .i64 16, .int .i64 32, .iface 142 (.int .i64 2)] w fun e w' => (∃ p, e = .returned (.iface 145 (.pointer p))) ∧ Below w.heap.size w w' := by
  obtain ⟨⟨ev, c1, k1⟩, _, _⟩ := h
  have C : Calls Tryd.prog 90 #[.string fn, .string s, .int .i64 16, .int .i64 32, .iface 142 (.int .i64 2)] w _ := Any.strconv_toError_syntax Tryd.toErrL fn s 16 32 ev w (by omega) c1 k1
  refine C.mono ?_
  rintro e w' ⟨N, rfl, _, _, hb⟩
  exact ⟨⟨_, rfl⟩, hb⟩
theorem te_rng (fn s : ByteArray) (w : World) (hs : s.size ≤ 1000000) (h : EV w) : Calls Tryd.prog 90 #[.string fn, .string s, .int .i64 16, .int .i64 32, .iface 142 (.int .i64 1)] w fun e w' => (∃ p, e = .returned (.iface 145 (.pointer p))) ∧ Below w.heap.size w w' := by
  obtain ⟨_, ⟨ev, c1, k1⟩, _⟩ := h
  have C : Calls Tryd.prog 90 #[.string fn, .string s, .int .i64 16, .int .i64 32, .iface 142 (.int .i64 1)] w _ := Any.strconv_toError_range Tryd.toErrL fn s 16 32 ev w (by omega) c1 k1
  refine C.mono ?_
  rintro e w' ⟨N, rfl, _, _, hb⟩
  exact ⟨⟨_, rfl⟩, hb⟩

/-- What strconv.ParseInt hands back. -/
def PpRes (R : Except Bool Int) (v : Int) (ev : Value) : Prop :=
  -2147483648 ≤ v ∧ v ≤ 2147483647 ∧ match R with
    | .ok n => v = n ∧ ev = .nilIface
    | .error _ => ∃ p, ev = .iface 145 (.pointer p)
def PpPost (R : Except Bool Int) (w : World) (e : Ending) (w' : World) : Prop := ∃ v ev, e = .returned (.tuple #[.int .i64 v, ev]) ∧ PpRes R v ev ∧ Below w.heap.size w w'

set_option maxHeartbeats 2000000 in
theorem pp_any (s : ByteArray) (w : World) (hs : s.size ≤ 1000000) (h : EV w) :
    Calls Tryd.prog 62 #[.string s, .int .i64 16, .int .i64 32] w (PpPost (piE s.data.toList) w) := by
  have q3 : ∀ w (n : Int), (binOp .neq 91 (.iface 142 (.int .i64 n)) .nilIface).run Tryd.prog w = .ok (.bool true) w := fun _ _ => by kernel_rfl
  have C := Lib.hid (pii_any s w hs)
  have T1 := Lib.hid (fun fn W (hW : EV W) => te_syn fn s W hs hW)
  have T2 := Lib.hid (fun fn W (hW : EV W) => te_rng fn s W hs hW)
  have HE := Lib.hid h
  generalize piE s.data.toList = R at *
  clear h
  go_enter Tryd.func62, Tryd.ntmps62
  go_wp2_with fail
  refine C.out.mono ?_
  rintro e w1 ⟨v, ev, rfl, ⟨v0, v1, hR⟩, hb⟩
  have HE1 := Lib.hid (HE.out.below hb)
  rcases R with (_ | _) | n
  · obtain rfl := hR
    go_wp2_with fail
    refine (T2.out _ _ HE1.out).mono ?_
    rintro e w2 ⟨⟨p, rfl⟩, hb2⟩
    have hbz := hb.trans (hb2.mono hb.size)
    go_wp2
    go_ret2
    exact ⟨v, _, rfl, ⟨v0, v1, p, rfl⟩, hbz⟩
  · obtain rfl := hR
    go_wp2_with fail
    refine (T1.out _ _ HE1.out).mono ?_
    rintro e w2 ⟨⟨p, rfl⟩, hb2⟩
    have hbz := hb.trans (hb2.mono hb.size)
    go_wp2
    go_ret2
    exact ⟨v, _, rfl, ⟨v0, v1, p, rfl⟩, hbz⟩
  · obtain ⟨rfl, rfl⟩ := hR
    go_wp2
    go_ret2
    exact ⟨v, _, rfl, ⟨v0, v1, rfl, rfl⟩, hb⟩

/-! ### scalar.Print -/
theorem upX : Builder.Extra Tryd.prog Tryd.upperL_ren where
  sizeBuilder := by kernel_rfl
  liesBuilder := by kernel_rfl
  t5 := Tryd.repeatL.t5
  a5 := Tryd.repeatL.a5
  z5 := Tryd.repeatL.z5
  v5 := Tryd.repeatL.v5
  infoByte := by kernel_rfl
  cellsByte := by kernel_rfl
  sizeByte := by kernel_rfl
  neB5 := by decide
def hexU (n : Nat) : List UInt8 := Lib.toUpperA (hexD n)
theorem hexC_ascii : ∀ d, d < 16 → (hexC d).toNat < 128 := by decide +kernel
theorem hexD_ascii (n : Nat) : ∀ c ∈ hexD n, c.toNat < 128 := by
  induction n using Nat.strongRecOn with
  | ind n ih =>
    intro c hc
    by_cases h : n < 16
    · rw [hexD_lt h] at hc
      rw [List.mem_singleton.1 hc]
      exact hexC_ascii n h
    · rw [hexD_ge h] at hc
      rcases List.mem_append.1 hc with hc | hc
      · exact ih _ (by omega) c hc
      · rw [List.mem_singleton.1 hc]
        exact hexC_ascii _ (by omega)
theorem up_any (n : Nat) (hn : n < 4294967296) (w : World) : Calls Tryd.prog 58 #[.string ⟨(hexD n).toArray⟩] w fun e w' => e = .returned (.string ⟨(hexU n).toArray⟩) ∧ Below w.heap.size w w' := by
  have hl := (hexD_len n).2 7 (by omega)
  exact Any.strings_ToUpper_ascii Tryd.upperL upX ⟨(hexD n).toArray⟩ w (by show (hexD n).toArray.size ≤ _; simp; omega) (fun j b hb => hexD_ascii n b (List.mem_of_getElem? (by simpa using hb)))
/-- A number's text: U+, a sign, four digits or more. -/
def scT (r : Int) : List UInt8 := [85, 43] ++ (if r < 0 then [45] else []) ++ pad4 (hexU r.natAbs)
theorem hexU_len (n : Nat) : (hexU n).length = (hexD n).length := by simp [hexU, Lib.toUpperA]

set_option maxHeartbeats 2000000 in
theorem sp_any (r : Int) (h0 : -2147483648 ≤ r) (h1 : r ≤ 2147483647) (w : World) (h : TZ w) :
    Calls Tryd.prog 23 #[.int .i32 r] w fun e w' => e = .returned (.string ⟨(scT r).toArray⟩) ∧ Below w.heap.size w w' := by
  obtain ⟨n, hn⟩ : ∃ n, r.natAbs = n := ⟨_, rfl⟩
  have C1 := Lib.hid (fi59_any n (by omega) w h)
  have C2 := Lib.hid (fun W => up_any n (by omega) W)
  have HR := Lib.hid rep_any
  have hl := (hexD_len n).2 7 (by omega)
  have hu := hexU_len n
  have HT : Hid (scT r = [85, 43] ++ (if r < 0 then [45] else []) ++ (List.replicate (4 - (hexU n).length) 48 ++ hexU n)) := Lib.hid (by unfold scT pad4; rw [hn])
  rw [← hu] at hl
  clear hu h
  generalize hexU n = ds at *
  generalize hexD n = dl at *
  have HM := Lib.hid (show max (0 : Int) (4 - (ds.length : Int)) = ((4 - ds.length : Nat) : Int) by omega)
  have h8' : (ds.length : Int) ≤ 8 := by omega
  generalize hsc : scT r = out at *
  have HC := Lib.hid (fun a b : List UInt8 => (show (⟨a.toArray⟩ ++ ⟨b.toArray⟩ : ByteArray) = ⟨(a ++ b).toArray⟩ by simp [ByteArray.ext_iff]))
  by_cases c : r < 0
  · rw [if_pos c] at HT
    have hrn : r = -(n : Int) := by omega
    have HRN := Lib.hid hrn
    have HT2 := Lib.hid (show ([85, 43] ++ [45] ++ List.replicate (4 - ds.length) 48 ++ ds : List UInt8) = out by rw [HT.out]; simp)
    clear hrn hn hsc HT
    go_enter Tryd.func23, Tryd.ntmps23
    go_wp2_with fail
    rw [show -r = (n : Int) by have := HRN.out; omega]
    refine C1.out.mono ?_
    rintro e w1 ⟨rfl, hb1⟩
    go_wp2_with fail
    refine (C2.out _).mono ?_
    rintro e w2 ⟨rfl, hb2⟩
    have hb := hb1.trans (hb2.mono hb1.size)
    go_wp2_with fail
    rw [HM.out]
    refine (HR.out _ (by omega) _).mono ?_
    rintro e w3 ⟨rfl, hb3⟩
    have hbz := hb.trans (hb3.mono hb.size)
    go_wp2
    go_ret
    exact ⟨by rw [← HT2.out]; simp only [HC.out]; rfl, hbz⟩
  · rw [if_neg c] at HT
    have hrn : r = (n : Int) := by omega
    have HT2 := Lib.hid (show ([85, 43] ++ [] ++ List.replicate (4 - ds.length) 48 ++ ds : List UInt8) = out by rw [HT.out]; simp)
    have d : decide (r < 0) = false := by simpa using c
    have HRN := Lib.hid hrn
    clear hn hsc HT hrn c
    go_enter Tryd.func23, Tryd.ntmps23
    go_wp2_with fail
    rw [show r = (n : Int) from HRN.out]
    refine C1.out.mono ?_
    rintro e w1 ⟨rfl, hb1⟩
    go_wp2_with fail
    refine (C2.out _).mono ?_
    rintro e w2 ⟨rfl, hb2⟩
    have hb := hb1.trans (hb2.mono hb1.size)
    go_wp2_with fail
    rw [HM.out]
    refine (HR.out _ (by omega) _).mono ?_
    rintro e w3 ⟨rfl, hb3⟩
    have hbz := hb.trans (hb3.mono hb.size)
    go_wp2
    go_ret
    exact ⟨by rw [← HT2.out]; simp only [HC.out]; rfl, hbz⟩
end Go.Proofs.YtimiinnnmdcmhaaDoor
