/-
  Contracts: strconv.ParseInt at base 16 and 32 bits: of any text.
-/
import Derived.Test.YtphhdkffnboboaaGreatDoorPi2
import Derived.Test.YtphhdkffnboboaaGreatDoorLayS
namespace Go.Proofs.YtphhdkffnboboaaGreatDoor
open Go.RowKit Go.Shelf
open Go.Lib

def ErrAt (w : World) (g : Nat) : Prop := ∃ ev, w.cell? ⟨g, 0, none⟩ = some ev ∧ (ev = .nilIface ∨ ∃ te pe, ev = .iface te pe)
/-- The two errors of strconv lie where they lie. -/
def EV (w : World) : Prop := ErrAt w 3 ∧ ErrAt w 4 ∧ 5 ≤ w.heap.size
theorem EV.below {w w' : World} (h : EV w) (hb : Below w.heap.size w w') : EV w' := by
  obtain ⟨⟨e1, c1, k1⟩, ⟨e2, c2, k2⟩, hs⟩ := h
  exact ⟨⟨e1, (hb.cell (p := ⟨3, 0, none⟩) (by show 3 < w.heap.size; omega)).trans c1, k1⟩, ⟨e2, (hb.cell (p := ⟨4, 0, none⟩) (by show 4 < w.heap.size; omega)).trans c2, k2⟩, Nat.le_trans hs hb.size⟩
theorem te_syn (fn s : ByteArray) (w : World) (hs : s.size ≤ 1000000) (h : EV w) : Calls Tryz.prog 48 #[.string fn, .string s, .int .i64 16, .int .i64 32, .iface 96 (.int .i64 2)] w fun e w' => (∃ p, e = .returned (.iface 100 (.pointer p))) ∧ Below w.heap.size w w' := by
  obtain ⟨⟨ev, c1, k1⟩, _, _⟩ := h
  have C : Calls Tryz.prog 48 #[.string fn, .string s, .int .i64 16, .int .i64 32, .iface 96 (.int .i64 2)] w _ := Any.strconv_toError_syntax Tryz.toErrL fn s 16 32 ev w (by omega) c1 k1
  refine C.mono ?_
  rintro e w' ⟨N, rfl, _, _, hb⟩
  exact ⟨⟨_, rfl⟩, hb⟩
theorem te_rng (fn s : ByteArray) (w : World) (hs : s.size ≤ 1000000) (h : EV w) : Calls Tryz.prog 48 #[.string fn, .string s, .int .i64 16, .int .i64 32, .iface 96 (.int .i64 1)] w fun e w' => (∃ p, e = .returned (.iface 100 (.pointer p))) ∧ Below w.heap.size w w' := by
  obtain ⟨_, ⟨ev, c1, k1⟩, _⟩ := h
  have C : Calls Tryz.prog 48 #[.string fn, .string s, .int .i64 16, .int .i64 32, .iface 96 (.int .i64 1)] w _ := Any.strconv_toError_range Tryz.toErrL fn s 16 32 ev w (by omega) c1 k1
  refine C.mono ?_
  rintro e w' ⟨N, rfl, _, _, hb⟩
  exact ⟨⟨_, rfl⟩, hb⟩

/-- What strconv.ParseInt hands back. -/
def PpRes (R : Except Bool Int) (v : Int) (ev : Value) : Prop :=
  -2147483648 ≤ v ∧ v ≤ 2147483647 ∧ match R with
    | .ok n => v = n ∧ ev = .nilIface
    | .error _ => ∃ p, ev = .iface 100 (.pointer p)
def PpPost (R : Except Bool Int) (w : World) (e : Ending) (w' : World) : Prop := ∃ v ev, e = .returned (.tuple #[.int .i64 v, ev]) ∧ PpRes R v ev ∧ Below w.heap.size w w'

set_option maxHeartbeats 2000000 in
theorem pp_any (s : ByteArray) (w : World) (hs : s.size ≤ 1000000) (h : EV w) :
    Calls Tryz.prog 35 #[.string s, .int .i64 16, .int .i64 32] w (PpPost (piE s.data.toList) w) := by
  have q3 : ∀ w (n : Int), (binOp .neq 63 (.iface 96 (.int .i64 n)) .nilIface).run Tryz.prog w = .ok (.bool true) w := fun _ _ => by kernel_rfl
  have C := Lib.hid (pii_any s w hs)
  have T1 := Lib.hid (fun fn W (hW : EV W) => te_syn fn s W hs hW)
  have T2 := Lib.hid (fun fn W (hW : EV W) => te_rng fn s W hs hW)
  have HE := Lib.hid h
  generalize piE s.data.toList = R at *
  clear h
  go_enter Tryz.func35, Tryz.ntmps35
  go_wp2_with fail
  refine C.out.mono ?_
  rintro e w1 ⟨v, ev, rfl, ⟨v0, v1, hR⟩, hb⟩
  have HE1 := Lib.hid (HE.out.below hb)
  rcases R with (_ | _) | n
  · obtain rfl := hR
    go_wp2_with fail
    refine (T2.out _ _ HE1.out).mono ?_
    rintro e w2 ⟨⟨p, rfl⟩, hb2⟩
    have hbz := hb.trans (hb2.mono hb.size)
    go_wp2
    go_ret2
    exact ⟨v, _, rfl, ⟨v0, v1, p, rfl⟩, hbz⟩
  · obtain rfl := hR
    go_wp2_with fail
    refine (T1.out _ _ HE1.out).mono ?_
    rintro e w2 ⟨⟨p, rfl⟩, hb2⟩
    have hbz := hb.trans (hb2.mono hb.size)
    go_wp2
    go_ret2
    exact ⟨v, _, rfl, ⟨v0, v1, p, rfl⟩, hbz⟩
  · obtain ⟨rfl, rfl⟩ := hR
    go_wp2
    go_ret2
    exact ⟨v, _, rfl, ⟨v0, v1, rfl, rfl⟩, hb⟩

end Go.Proofs.YtphhdkffnboboaaGreatDoor
