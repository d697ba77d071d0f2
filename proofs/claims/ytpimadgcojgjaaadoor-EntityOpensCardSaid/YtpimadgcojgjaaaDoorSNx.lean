/-
  Contracts: scalar.Next, scalar.Put.
-/
import Derived.Laws.IdiomStrings
import Derived.Laws.OwnMore
import Derived.Lib.RuneBytes
import Derived.Maps.AppendAt
import Derived.Test.YtpimadgcojgjaaaDoorSDec
namespace Go.Proofs.YtpimadgcojgjaaaDoor.S
open Go.RowKit Go.Shelf
open Go.Lib

set_option maxHeartbeats 1000000 in
/-- scalar.Next, inside. -/
theorem next_in (b off n cap i : Nat) (f : Nat → Nat) (w : World) (hT : Tabs w) (hB : Bs w b off n f) (hi : i < n) (hc : n ≤ cap) (hm : cap ≤ maxLen) :
    Calls Tryd.prog 57 #[.slice (some ⟨b, off, none⟩) n cap, .int .i64 i] w fun e w' =>
      e = .returned (.tuple #[.int .i32 (pc (n - i) (fun j => f (i + j))).1, .int .i64 (pc (n - i) (fun j => f (i + j))).2.1]) ∧ Below w.heap.size w w' := by
  have C := dec_any b off n cap i f w hT hB hi hc hm
  generalize pc (n - i) (fun j => f (i + j)) = P at *
  obtain ⟨R, S, W⟩ := P
  have C := Lib.hid C
  have i0 : ¬ ((i : Int) < 0) := by omega
  have i1 : (i : Int) < (n : Int) := by omega
  have d1 : decide ((i : Int) < 0) = false := by simp
  have d2 : decide ((n : Int) ≤ (i : Int)) = false := by simp; omega
  clear hT hB
  go_enter Tryd.func57, Tryd.ntmps57
  go_wp2_with fail
  refine C.out.mono ?_
  rintro e w1 ⟨rfl, hb1⟩
  have hs := hb1.size
  go_wp2
  go_quiet (fail)
  go_wp2
  go_ret2
  exact ⟨rfl, below_drewN (hb1.alloc hs _) _⟩

/-- Bytes of the call's own. -/
def PutPost (l : List UInt8) (w : World) (e : Ending) (w' : World) : Prop :=
  ∃ g cap : Nat, e = .returned (.slice (some ⟨g, 0, none⟩) l.length cap) ∧ (∀ j (hj : j < l.length), w'.cell? ⟨g, j, none⟩ = some (.int .u8 (l[j].toNat : Int))) ∧ l.length ≤ cap ∧ cap ≤ maxLen ∧ g < w'.heap.size ∧ Below w.heap.size w w'

theorem ar_any (r : Int) (hr0 : -2147483648 ≤ r) (hr1 : r ≤ 2147483647) (w : World) : Calls Tryd.prog 73 #[.slice none 0 0, .int .i32 r] w (PutPost (encodeRune r) w) := by
  have c := Any.utf8_AppendRune_plain Tryd.lays242 (by kernel_rfl) w.heap.size (.slice none 0 0) 0 [] r hr0 hr1 w (World.ownsRow_nil _ _ _ _) (by omega) (Nat.le_refl _)
  refine Calls.mono c ?_
  rintro e w' ⟨v, rfl, hown, o, hg⟩
  have hl := encodeRuneZ_length r
  have hlen : (runeCells r).length = (encodeRune r).length := runeCells_length r
  have hl1 : 1 ≤ (encodeRune r).length := by unfold encodeRune; simpa using hl.1
  rw [List.nil_append, Nat.zero_add, hlen, ← byteCells_encodeRune] at hown
  have hb : Below w.heap.size w w' := ((Below.refl _ w).alloc (Nat.le_refl _) o).grown hg (by simp) (fun k e => by simp [Value.ownBlock] at e)
  rcases hown.2 with ⟨_, h0⟩ | ⟨g, cap, cur, rfl, hgb, hh, hnc, hcm, _⟩
  · omega
  · refine ⟨g, cap, rfl, fun j hj => ?_, hnc, ?_, (Array.getElem?_eq_some_iff.1 hh).1, hb⟩
    · have := hown.cellAt j (by omega)
      rw [this]
      simp [byteCells, hj]
    · exact hcm

set_option maxHeartbeats 1000000 in
/-- scalar.Put. -/
theorem put_any (r : Int) (hr0 : -2147483648 ≤ r) (hr1 : r ≤ 2147483647) (w : World) : Calls Tryd.prog 58 #[.int .i32 r] w (PutPost (encodeRune r) w) := by
  have C := Lib.hid (ar_any r hr0 hr1 w)
  go_enter Tryd.func58, Tryd.ntmps58
  go_wp2_with fail
  refine C.out.mono ?_
  rintro e w' ⟨g, cap, rfl, hc, h1, h2, h3, hb⟩
  have H := Lib.hid (And.intro hc (And.intro h1 (And.intro h2 (And.intro h3 hb))))
  clear hc h1 h2 h3 hb
  go_wp2
  go_ret
  exact ⟨g, cap, rfl, H.out.1, H.out.2.1, H.out.2.2.1, H.out.2.2.2.1, H.out.2.2.2.2⟩

end Go.Proofs.YtpimadgcojgjaaaDoor.S
