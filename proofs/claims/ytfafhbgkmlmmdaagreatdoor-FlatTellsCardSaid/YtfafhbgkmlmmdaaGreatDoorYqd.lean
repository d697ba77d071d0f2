/-
  What the rows of flat lean on, part d.
-/
import Derived.Test.YtfafhbgkmlmmdaaGreatDoorYqc
import Derived.Laws.IdiomStrings
import Derived.Laws.OwnMore
import Derived.Lib.RuneBytes
import Derived.Maps.AppendAt
import Derived.Deep.CutRange
import Derived.Deep.RegionLaw
import Derived.BigRegion
import Derived.WalkKit
import Derived.BigQuiet
import Derived.Deep.QuietTactic
import Derived.Outline
import Derived.Lib.Hide
import Derived.Below
import Derived.Shelf.SlicesE.Clone
import Derived.OwnWalk
import Derived.RangeFuncRecord
import Derived.RangeFuncBox
import Derived.Deep.AppendLies
import Derived.Test.YtfafhbgkmlmmdaaGreatDoorProg
import Derived.Lib.QuietBelow
import Derived.StillTailTactics
import Derived.Maps.OwnOps
import Derived.Maps.OwnSet
import Derived.Maps.Views
import Derived.Laws.AppendOwnNone
import Derived.Deep.Slices
set_option maxRecDepth 100000
set_option maxHeartbeats 40000000
namespace Go.Proofs.YtfafhbgkmlmmdaaGreatDoor.S
open Go.RowKit Go.Shelf
open Go.Lib
def bt (n : Nat) (f : Nat → Nat) (j : Nat) : Nat := if j < n then f j else 0
def pc (n : Nat) (f : Nat → Nat) : Nat × Nat × Bool := M1.pieceB n (bt n f 0) (bt n f 1) (bt n f 2) (bt n f 3)
theorem pc_size (n : Nat) (f : Nat → Nat) (hn : 1 ≤ n) : 1 ≤ (pc n f).2.1 ∧ (pc n f).2.1 ≤ n ∧ (pc n f).2.1 ≤ 4 := M1.pieceB_size _ _ _ _ _ hn
theorem Bs.norm {w : World} {b off n : Nat} {f : Nat → Nat} (h : Bs w b off n f) : Bs w b off n (bt n f) := fun j hj => by
 unfold bt
 rw [if_pos hj]
 exact h j hj
theorem bt_lt {w : World} {b off n : Nat} {f : Nat → Nat} (h : Bs w b off n f) (j : Nat) : bt n f j < 256 := by
 unfold bt
 split
 ·exact (h j (by assumption)).2
 ·omega
theorem bytesOf (n : Nat) (f : Nat → Nat) (hf : ∀ j, j < n → f j < 256) : ∃ s : ByteArray, s.size = n ∧ ∀ j, (s.get! j).toNat = bt n f j := by
 refine ⟨⟨((List.range n).map fun j => (f j).toUInt8).toArray⟩, by simp [ByteArray.size], fun j => ?_⟩
 unfold bt
 by_cases h : j < n
 ·rw [if_pos h]
  have := hf j h
  simp [ByteArray.get!, h]
  omega
 ·rw [if_neg h]
  simp [ByteArray.get!, h]
  rfl
theorem dr_any (b off n cap : Nat) (f : Nat → Nat) (w : World) (hT : Tabs w) (hB : Bs w b off n f) (hn : 1 ≤ n) :
  Calls Tryz.prog 200 #[.slice (some ⟨b, off, none⟩) n cap] w fun e w' => e = .returned (.tuple #[.int .i32 (decodeN n (bt n f 0) (bt n f 1) (bt n f 2) (bt n f 3)).1, .int .i64 (decodeN n (bt n f 0) (bt n f 1) (bt n f 2) (bt n f 3)).2]) ∧ Below w.heap.size w w' := by
 obtain ⟨s, hs, hg⟩ := bytesOf n f (fun j hj => (hB j hj).2)
 have e : decodeGo s = decodeN n (bt n f 0) (bt n f 1) (bt n f 2) (bt n f 3) := by
  unfold decodeGo
  rw [if_neg (by omega), decode_at, hs, hg, hg, hg, hg]
  rfl
 have c := Any7.utf8_DecodeRune Tryz.lays32 s b off cap w hT.1 (fun j hj => by
  have := (hB.norm j (by omega)).1
  rw [← hg j] at this
  exact this)
 rw [e, hs] at c
 exact c
theorem Bs.alloc {w : World} {b off n : Nat} {f : Nat → Nat} (h : Bs w b off n f) (hn : 0 < n) (o : Obj) : Bs (w.alloc o) b off n f :=
 h.below (B := w.heap.size) ((Below.refl _ w).alloc (Nat.le_refl _) o) (h.lt hn)
theorem Tabs.alloc {w : World} (h : Tabs w) (o : Obj) : Tabs (w.alloc o) := h.below ((Below.refl _ w).alloc (Nat.le_refl _) o) h.2
theorem dec_any (b off n cap i : Nat) (f : Nat → Nat) (w : World) (hT : Tabs w) (hB : Bs w b off n f) (hi : i < n) (hc : n ≤ cap) (hm : cap ≤ maxLen) :
  Calls Tryz.prog 174 #[.slice (some ⟨b, off, none⟩) n cap, .int .i64 i] w fun e w' =>
   e = .returned (.agg #[.int .i32 (pc (n - i) (fun j => f (i + j))).1, .int .i64 i, .int .i64 (pc (n - i) (fun j => f (i + j))).2.1, .bool (pc (n - i) (fun j => f (i + j))).2.2]) ∧ Below w.heap.size w w' := by
 unfold maxLen at hm
 have hlt := hB.lt (by omega)
 have hi0 : (0 : Int) ≤ (i : Int) := by omega
 have hi1 : (i : Int) < (n : Int) := by omega
 have hc1 : (n : Int) ≤ (cap : Int) := by omega
 have hB' := hB.drop i
 have hD := fun W (h1 : Tabs W) (h2 : Bs W b (off + i) (n - i) (fun j => f (i + j))) => dr_any b (off + i) (n - i) (cap - i) _ W h1 h2 (by omega)
 have hK := fun W (h1 : Tabs W) (h2 : Bs W b (off + i) (n - i) (bt (n - i) fun j => f (i + j))) => brk_any b (off + i) (n - i) (cap - i) _ W h1 h2 (by omega) (by omega) (by unfold maxLen; omega)
 have hl := bt_lt hB'
 generalize hg : (fun j => f (i + j)) = g at *
 have HT := Lib.hid hT
 have HB := Lib.hid hB'
 cases hw : (pc (n - i) g).2.2
 ·obtain ⟨e1, e2⟩ := M1.pieceB_broken (n - i) _ _ _ _ (by omega) (hl 0) (hl 1) (hl 2) (hl 3) hw
  have hk := fun k => M1.brk_size (n - i) _ _ _ _ k (by omega) hw
  rw [e1] at hD
  have e2' : (pc (n - i) g).1 = 65533 := e2
  have hk' : ∀ k, M1.Brk (n - i) (bt (n - i) g 0) (bt (n - i) g 1) (bt (n - i) g 2) k → k = (pc (n - i) g).2.1 := hk
  rw [e2']
  clear e1 e2 e2' hk hw hB hB' hT hl hg
  have HD := Lib.hid hD
  have HK := Lib.hid hK
  have HQ := Lib.hid hk'
  clear hD hK hk'
  go_enter Tryz.func174, Tryz.ntmps174
  go_wp2_with fail
  refine (HD.out _ (HT.out.alloc _) (HB.out.alloc (by omega) _)).mono ?_
  rintro e w1 ⟨rfl, hb1⟩
  have hs1 := hb1.size
  rw [World.size_alloc] at hs1 hb1
  have q0 : w1.cell? ⟨w.heap.size, 0, none⟩ = some (.int .i32 0) := (hb1.cell (p := ⟨w.heap.size, 0, none⟩) (by simp)).trans (by simp)
  have q1 : w1.cell? ⟨w.heap.size, 1, none⟩ = some (.int .i64 0) := (hb1.cell (p := ⟨w.heap.size, 1, none⟩) (by simp)).trans (by simp)
  have q2 : w1.cell? ⟨w.heap.size, 2, none⟩ = some (.int .i64 0) := (hb1.cell (p := ⟨w.heap.size, 2, none⟩) (by simp)).trans (by simp)
  have q3 : w1.cell? ⟨w.heap.size, 3, none⟩ = some (.bool false) := (hb1.cell (p := ⟨w.heap.size, 3, none⟩) (by simp)).trans (by simp)
  have hbw : Below w.heap.size w w1 := ((Below.refl _ w).alloc (Nat.le_refl _) _).trans (hb1.mono (by omega))
  go_wp2_with fail
  refine (HK.out _ (HT.out.below hbw HT.out.2) (HB.out.below hbw hlt).norm).mono ?_
  rintro e w2 ⟨k, rfl, hkk, hb2⟩
  have hkq := HQ.out k hkk
  clear hkk
  subst hkq
  have hs2 := hb2.size
  have r0 := (hb2.cell (p := ⟨w.heap.size, 0, none⟩) (by show w.heap.size < _; omega)).trans q0
  have r1 := (hb2.cell (p := ⟨w.heap.size, 1, none⟩) (by show w.heap.size < _; omega)).trans q1
  have r2 := (hb2.cell (p := ⟨w.heap.size, 2, none⟩) (by show w.heap.size < _; omega)).trans q2
  have r3 := (hb2.cell (p := ⟨w.heap.size, 3, none⟩) (by show w.heap.size < _; omega)).trans q3
  have fz : ∀ j, w2.frozen? ⟨w.heap.size, j, none⟩ = false := fun j => (hb2.frozen (p := ⟨w.heap.size, j, none⟩) (by show w.heap.size < _; omega)).trans ((hb1.frozen (p := ⟨w.heap.size, j, none⟩) (by simp)).trans (by simp))
  have f0 := fz 0; have f1 := fz 1; have f2 := fz 2; have f3 := fz 3
  have hbz := hbw.trans (hb2.mono (by omega))
  clear q0 q1 q2 q3 fz
  go_wp2
  refine bodyPost_ret (v := .agg #[.int .i32 65533, .int .i64 i, .int .i64 (pc (n - i) g).2.1, .bool false]) ?_ rfl ⟨rfl, ?_⟩
  ·simp [results, Tryz.results174, go_sem, r0, r1, r2, r3]
  ·exact (((hbz.setCell (p := ⟨_, 0, none⟩) (Nat.le_refl _) _).setCell (p := ⟨_, 1, none⟩) (Nat.le_refl _) _).setCell (p := ⟨_, 2, none⟩) (Nat.le_refl _) _).setCell (p := ⟨_, 3, none⟩) (Nat.le_refl _) _
 ·obtain ⟨e1, e2⟩ := M1.pieceB_whole (n - i) _ _ _ _ (by omega) (hl 1) (hl 2) (hl 3) hw
  have e1' : decodeN (n - i) (bt (n - i) g 0) (bt (n - i) g 1) (bt (n - i) g 2) (bt (n - i) g 3) = ((pc (n - i) g).1, (pc (n - i) g).2.1) := e1
  have e2' : (pc (n - i) g).1 ≠ 65533 ∨ (pc (n - i) g).2.1 ≠ 1 := e2
  rw [e1'] at hD
  clear e1 e1' e2 hK hw hB hB' hT hl hg
  generalize (pc (n - i) g).1 = R at *
  generalize (pc (n - i) g).2.1 = S at *
  have HD := Lib.hid hD
  clear hD
  by_cases c : R = 65533
  ·have c1 : ((R : Int) == 65533) = true := by rw [beq_iff_eq]; omega
   have c2 : ((S : Int) == 1) = false := by rw [beq_eq_false_iff_ne]; omega
   clear e2' c1
   subst c
   have c2' : ((65533 : Int) == 65533) = true := rfl
   go_enter Tryz.func174, Tryz.ntmps174
   go_wp2_with fail
   refine (HD.out _ (HT.out.alloc _) (HB.out.alloc (by omega) _)).mono ?_
   rintro e w1 ⟨rfl, hb1⟩
   have hs1 := hb1.size
   rw [World.size_alloc] at hs1 hb1
   have q0 : w1.cell? ⟨w.heap.size, 0, none⟩ = some (.int .i32 0) := (hb1.cell (p := ⟨w.heap.size, 0, none⟩) (by simp)).trans (by simp)
   have q1 : w1.cell? ⟨w.heap.size, 1, none⟩ = some (.int .i64 0) := (hb1.cell (p := ⟨w.heap.size, 1, none⟩) (by simp)).trans (by simp)
   have q2 : w1.cell? ⟨w.heap.size, 2, none⟩ = some (.int .i64 0) := (hb1.cell (p := ⟨w.heap.size, 2, none⟩) (by simp)).trans (by simp)
   have q3 : w1.cell? ⟨w.heap.size, 3, none⟩ = some (.bool false) := (hb1.cell (p := ⟨w.heap.size, 3, none⟩) (by simp)).trans (by simp)
   have fz : ∀ j, w1.frozen? ⟨w.heap.size, j, none⟩ = false := fun j => (hb1.frozen (p := ⟨w.heap.size, j, none⟩) (by simp)).trans (by simp)
   have f0 := fz 0; have f1 := fz 1; have f2 := fz 2; have f3 := fz 3
   have hbw : Below w.heap.size w w1 := ((Below.refl _ w).alloc (Nat.le_refl _) _).trans (hb1.mono (by omega))
   clear fz
   go_wp2
   refine bodyPost_ret (v := .agg #[.int .i32 65533, .int .i64 i, .int .i64 S, .bool true]) ?_ rfl ⟨rfl, ?_⟩
   ·simp [results, Tryz.results174, go_sem, q0, q1, q2, q3]
   ·exact (((hbw.setCell (p := ⟨_, 0, none⟩) (Nat.le_refl _) _).setCell (p := ⟨_, 1, none⟩) (Nat.le_refl _) _).setCell (p := ⟨_, 2, none⟩) (Nat.le_refl _) _).setCell (p := ⟨_, 3, none⟩) (Nat.le_refl _) _
  ·have c1 : ((R : Int) == 65533) = false := by rw [beq_eq_false_iff_ne]; omega
   clear c e2'
   go_enter Tryz.func174, Tryz.ntmps174
   go_wp2_with fail
   refine (HD.out _ (HT.out.alloc _) (HB.out.alloc (by omega) _)).mono ?_
   rintro e w1 ⟨rfl, hb1⟩
   have hs1 := hb1.size
   rw [World.size_alloc] at hs1 hb1
   have q0 : w1.cell? ⟨w.heap.size, 0, none⟩ = some (.int .i32 0) := (hb1.cell (p := ⟨w.heap.size, 0, none⟩) (by simp)).trans (by simp)
   have q1 : w1.cell? ⟨w.heap.size, 1, none⟩ = some (.int .i64 0) := (hb1.cell (p := ⟨w.heap.size, 1, none⟩) (by simp)).trans (by simp)
   have q2 : w1.cell? ⟨w.heap.size, 2, none⟩ = some (.int .i64 0) := (hb1.cell (p := ⟨w.heap.size, 2, none⟩) (by simp)).trans (by simp)
   have q3 : w1.cell? ⟨w.heap.size, 3, none⟩ = some (.bool false) := (hb1.cell (p := ⟨w.heap.size, 3, none⟩) (by simp)).trans (by simp)
   have fz : ∀ j, w1.frozen? ⟨w.heap.size, j, none⟩ = false := fun j => (hb1.frozen (p := ⟨w.heap.size, j, none⟩) (by simp)).trans (by simp)
   have f0 := fz 0; have f1 := fz 1; have f2 := fz 2; have f3 := fz 3
   have hbw : Below w.heap.size w w1 := ((Below.refl _ w).alloc (Nat.le_refl _) _).trans (hb1.mono (by omega))
   clear fz
   go_wp2
   refine bodyPost_ret (v := .agg #[.int .i32 R, .int .i64 i, .int .i64 S, .bool true]) ?_ rfl ⟨rfl, ?_⟩
   ·simp [results, Tryz.results174, go_sem, q0, q1, q2, q3]
   ·exact (((hbw.setCell (p := ⟨_, 0, none⟩) (Nat.le_refl _) _).setCell (p := ⟨_, 1, none⟩) (Nat.le_refl _) _).setCell (p := ⟨_, 2, none⟩) (Nat.le_refl _) _).setCell (p := ⟨_, 3, none⟩) (Nat.le_refl _) _
theorem next_in (b off n cap i : Nat) (f : Nat → Nat) (w : World) (hT : Tabs w) (hB : Bs w b off n f) (hi : i < n) (hc : n ≤ cap) (hm : cap ≤ maxLen) :
  Calls Tryz.prog 141 #[.slice (some ⟨b, off, none⟩) n cap, .int .i64 i] w fun e w' =>
   e = .returned (.tuple #[.int .i32 (pc (n - i) (fun j => f (i + j))).1, .int .i64 (pc (n - i) (fun j => f (i + j))).2.1]) ∧ Below w.heap.size w w' := by
 have C := dec_any b off n cap i f w hT hB hi hc hm
 generalize pc (n - i) (fun j => f (i + j)) = P at *
 obtain ⟨R, S, W⟩ := P
 have C := Lib.hid C
 have i0 : ¬ ((i : Int) < 0) := by omega
 have i1 : (i : Int) < (n : Int) := by omega
 have d1 : decide ((i : Int) < 0) = false := by simp
 have d2 : decide ((n : Int) ≤ (i : Int)) = false := by simp; omega
 clear hT hB
 go_enter Tryz.func141, Tryz.ntmps141
 go_wp2_with fail
 refine C.out.mono ?_
 rintro e w1 ⟨rfl, hb1⟩
 have hs := hb1.size
 go_wp2
 go_quiet (fail)
 go_wp2
 go_ret2
 exact ⟨rfl, below_drewN (hb1.alloc hs _) _⟩
def PutPost (l : List UInt8) (w : World) (e : Ending) (w' : World) : Prop :=
 ∃ g cap : Nat, e = .returned (.slice (some ⟨g, 0, none⟩) l.length cap) ∧ (∀ j (hj : j < l.length), w'.cell? ⟨g, j, none⟩ = some (.int .u8 (l[j].toNat : Int))) ∧ l.length ≤ cap ∧ cap ≤ maxLen ∧ g < w'.heap.size ∧ Below w.heap.size w w'
theorem ar_any (r : Int) (hr0 : -2147483648 ≤ r) (hr1 : r ≤ 2147483647) (w : World) : Calls Tryz.prog 110 #[.slice none 0 0, .int .i32 r] w (PutPost (encodeRune r) w) := by
 have c := Any.utf8_AppendRune_plain Tryz.lays242 (by kernel_rfl) w.heap.size (.slice none 0 0) 0 [] r hr0 hr1 w (World.ownsRow_nil _ _ _ _) (by omega) (Nat.le_refl _)
 refine Calls.mono c ?_
 rintro e w' ⟨v, rfl, hown, o, hg⟩
 have hl := encodeRuneZ_length r
 have hlen : (runeCells r).length = (encodeRune r).length := runeCells_length r
 have hl1 : 1 ≤ (encodeRune r).length := by unfold encodeRune; simpa using hl.1
 rw [List.nil_append, Nat.zero_add, hlen, ← byteCells_encodeRune] at hown
 have hb : Below w.heap.size w w' := ((Below.refl _ w).alloc (Nat.le_refl _) o).grown hg (by simp) (fun k e => by simp [Value.ownBlock] at e)
 rcases hown.2 with ⟨_, h0⟩ | ⟨g, cap, cur, rfl, hgb, hh, hnc, hcm, _⟩
 ·omega
 ·refine ⟨g, cap, rfl, fun j hj => ?_, hnc, ?_, (Array.getElem?_eq_some_iff.1 hh).1, hb⟩
  ·have := hown.cellAt j (by omega)
   rw [this]
   simp [byteCells, hj]
  ·exact hcm
theorem put_any (r : Int) (hr0 : -2147483648 ≤ r) (hr1 : r ≤ 2147483647) (w : World) : Calls Tryz.prog 88 #[.int .i32 r] w (PutPost (encodeRune r) w) := by
 have C := Lib.hid (ar_any r hr0 hr1 w)
 go_enter Tryz.func88, Tryz.ntmps88
 go_wp2_with fail
 refine C.out.mono ?_
 rintro e w' ⟨g, cap, rfl, hc, h1, h2, h3, hb⟩
 have H := Lib.hid (And.intro hc (And.intro h1 (And.intro h2 (And.intro h3 hb))))
 clear hc h1 h2 h3 hb
 go_wp2
 go_ret
 exact ⟨g, cap, rfl, H.out.1, H.out.2.1, H.out.2.2.1, H.out.2.2.2.1, H.out.2.2.2.2⟩
end Go.Proofs.YtfafhbgkmlmmdaaGreatDoor.S
namespace Go.Proofs.YtfafhbgkmlmmdaaGreatDoor.K
open Go.RowKit Go.Shelf Go.Lib Go.Maps
def nxS (n : Nat) (f : Nat → Nat) (k : Nat) : Nat × Nat × Bool := S.pc (n - k) (fun j => f (k + j))
theorem nxS_size (n : Nat) (f : Nat → Nat) (k : Nat) (h : k < n) : 1 ≤ (nxS n f k).2.1 ∧ (nxS n f k).2.1 ≤ n - k ∧ (nxS n f k).2.1 ≤ 4 := S.pc_size _ _ (by omega)
def textF (n : Nat) (f : Nat → Nat) (fr : Nat) (nb pb : Bool) : Nat → Nat → Bool → Bool → List IT
 | 0, _, _, _ => []
 | d + 1, k, fo, x => if k < n then ⟨((nxS n f k).1 : Int), (fr : Int) + (k : Int), ((nxS n f k).2.1 : Int), fo, x, nb, pb⟩ :: textF n f fr nb pb d (k + (nxS n f k).2.1) false false else []
theorem textF_fuel (n : Nat) (f : Nat → Nat) (fr : Nat) (nb pb : Bool) : ∀ (d e k : Nat) (fo x : Bool), n - k ≤ d → n - k ≤ e → textF n f fr nb pb d k fo x = textF n f fr nb pb e k fo x
 | 0, 0, k, fo, x, _, _ => rfl
 | 0, e + 1, k, fo, x, h, _ => by
  unfold textF
  rw [if_neg (by omega)]
 | d + 1, 0, k, fo, x, _, h => by
  unfold textF
  rw [if_neg (by omega)]
 | d + 1, e + 1, k, fo, x, hd, he => by
  unfold textF
  by_cases h : k < n
  ·have := nxS_size n f k h
   rw [if_pos h, if_pos h, textF_fuel n f fr nb pb d e (k + (nxS n f k).2.1) false false (by omega) (by omega)]
  ·rw [if_neg h, if_neg h]
theorem textF_next (n : Nat) (f : Nat → Nat) (fr : Nat) (nb pb : Bool) (k : Nat) (fo x : Bool) (h : k < n) :
  textF n f fr nb pb (n - k) k fo x = ⟨((nxS n f k).1 : Int), (fr : Int) + (k : Int), ((nxS n f k).2.1 : Int), fo, x, nb, pb⟩ :: textF n f fr nb pb (n - (k + (nxS n f k).2.1)) (k + (nxS n f k).2.1) false false := by
 have hs := nxS_size n f k h
 obtain ⟨d, hd⟩ : ∃ d, n - k = d + 1 := ⟨n - k - 1, by omega⟩
 rw [hd]
 conv => lhs; unfold textF
 rw [if_pos h, textF_fuel n f fr nb pb d (n - (k + (nxS n f k).2.1)) _ _ _ (by omega) (Nat.le_refl _)]
theorem textF_end (n : Nat) (f : Nat → Nat) (fr : Nat) (nb pb : Bool) (k : Nat) (fo x : Bool) (h : ¬ k < n) : ∀ d, textF n f fr nb pb d k fo x = []
 | 0 => rfl
 | d + 1 => by
  unfold textF
  rw [if_neg h]
theorem textF_len (n : Nat) (f : Nat → Nat) (fr : Nat) (nb pb : Bool) : ∀ (d k : Nat) (fo x : Bool), (textF n f fr nb pb d k fo x).length ≤ n - k
 | 0, k, fo, x => Nat.zero_le _
 | d + 1, k, fo, x => by
  unfold textF
  by_cases h : k < n
  ·have := nxS_size n f k h
   have := textF_len n f fr nb pb d (k + (nxS n f k).2.1) false false
   rw [if_pos h, List.length_cons]
   omega
  ·rw [if_neg h]
   exact Nat.zero_le _
theorem bs_fz {X : Nat → Prop} {w w' : World} {b off n : Nat} {f : Nat → Nat} (hf : Fz X w w') (hX : ¬ X b) (h : S.Bs w b off n f) : S.Bs w' b off n f := fun j hj => by
 have h0 := h j hj
 refine ⟨?_, h0.2⟩
 rw [← h0.1]
 unfold World.cell?
 have := hf.block b (cell_lt h0.1) hX
 rw [this]
theorem tabs_fz {X : Nat → Prop} {w w' : World} (hf : Fz X w w') (hX : ∀ k, k < 5 → ¬ X k) (h : S.Tabs w) : S.Tabs w' :=
 h.below (hf.below (B := 5) h.2 hX) (Nat.le_refl _)
theorem own_gx {w w' : World} {B gx : Nat} {l : List IT} {v : Value} (hf : Fz (fun k => k = gx) w w') (h : OwnIt w B l v) (hg : gx < B) : OwnIt w' B l v :=
 own_fz hf h (fun k hk e => by have := (own_block_lt h k e).1; omega)
theorem Fz.below2 {X : Nat → Prop} {w w1 w2 : World} {B : Nat} (h : Fz X w w1) (hb : Below B w1 w2) (hB : w.heap.size ≤ B) : Fz X w w2 :=
 ⟨hb.os.trans h.os, hb.tape.trans h.tape, hb.output.trans h.output, Nat.le_trans h.size hb.size, fun k hk hn => (hb.block k (by omega)).trans (h.block k hk hn)⟩
theorem text_any (gn gx : Nat) (c : Ct) (fo x : Bool) (fr : Nat) (hfr : fr ≤ 100000) (b off n cap : Nat) (f : Nat → Nat) (hn0 : n ≤ 100000) (hc : n ≤ cap) (hm : cap ≤ maxLen) (w : World) (hT : S.Tabs w) (hB : S.Bs w b off n f)
  (hx : Cells w gx 154 (exA gn fo x)) (hn : NeAt w gn c) (hbx : b ≠ gx) (hgn : gn ≠ gx) (hg5 : 5 ≤ gx) :
  Calls Tryz.prog 106 #[.pointer (some ⟨gx, 0, none⟩), .int .i64 (fr : Int), .slice (some ⟨b, off, none⟩) n cap] w fun e w' => ∃ v, e = .returned v ∧
   OwnIt w' w.heap.size (textF n f fr (decide (0 < c.n)) (decide (0 < c.p)) n 0 fo x) v ∧ Cells w' gx 154 (exA gn (fo && decide (n = 0)) (x && decide (n = 0))) ∧ Fz (fun k => k = gx) w w' := by
 obtain ⟨nb, hnb⟩ : ∃ q, decide (0 < c.n) = q := ⟨_, rfl⟩
 obtain ⟨pb, hpb⟩ : ∃ q, decide (0 < c.p) = q := ⟨_, rfl⟩
 have CI : ∀ (fo x : Bool) (r at_ sz : Int) (W : World), Cells W gx 154 (exA gn fo x) → Fz (fun k => k = gx) w W → Calls Tryz.prog 107 #[.pointer (some ⟨gx, 0, none⟩), .int .i32 r, .int .i64 at_, .int .i64 sz] W fun e w' =>
   e = .returned (.agg #[.int .i32 r, .int .i64 at_, .int .i64 sz, .bool fo, .bool x, .bool nb, .bool pb]) ∧ Cells w' gx 154 (exA gn false false) ∧ Fz (fun k => k = gx) W w' := fun fo x r at_ sz W h1 h2 => by
  have C := item_any gn gx c fo x r at_ sz W h1 (h2.cellsK hgn hn)
  rw [hnb, hpb] at C
  exact C
 have CX : ∀ (k : Nat) (W : World), k < n → Fz (fun k => k = gx) w W → Calls Tryz.prog 141 #[.slice (some ⟨b, off, none⟩) n cap, .int .i64 k] W fun e w' =>
   e = .returned (.tuple #[.int .i32 ((nxS n f k).1 : Int), .int .i64 ((nxS n f k).2.1 : Int)]) ∧ Below W.heap.size W w' := fun k W hk h2 =>
  S.next_in b off n cap k f W (tabs_fz h2 (by intro k hk; omega) hT) (bs_fz h2 hbx hB) hk hc hm
 rw [hnb, hpb]
 have hgw : gx < w.heap.size := hx.lt
 obtain ⟨ALL, hALL⟩ : ∃ L, textF n f fr nb pb n 0 fo x = L := ⟨_, rfl⟩
 rw [hALL]
 have HC := Lib.hid (And.intro CI CX)
 have HL := Lib.hid (And.intro hALL (And.intro hx hgw))
 clear CI CX hALL hx hT hB hn hnb hpb
 go_enter Tryz.func106, Tryz.ntmps106
 go_wp2_with fail
 go_loopw [7, 8, 9, 10] (fun o i _ _ wr => ∃ (k : Nat) (pre : List IT), k ≤ n ∧ i = .int .i64 (k : Int) ∧ pre.length ≤ k ∧ OwnIt wr w.heap.size pre o ∧ pre ++ textF n f fr nb pb (n - k) k (fo && decide (k = 0)) (x && decide (k = 0)) = ALL ∧ Cells wr gx 154 (exA gn (fo && decide (k = 0)) (x && decide (k = 0))) ∧ Fz (fun k => k = gx) w wr) (fun _ i _ _ _ => n - (RowKit.intOf i).toNat)
 case atStart => exact ⟨0, [], Nat.zero_le _, rfl, Nat.zero_le _, ownIt_nil _ _, by simpa using HL.out.1, by simpa using HL.out.2.1, Fz.refl _ _⟩
 case round =>
  obtain ⟨k, pre, hk, rfl, hpl, ho, hall, hcx, hf⟩ := hrel
  obtain ⟨fk, hfk⟩ : ∃ q, (fo && decide (k = 0)) = q := ⟨_, rfl⟩
  obtain ⟨xk, hxk⟩ : ∃ q, (x && decide (k = 0)) = q := ⟨_, rfl⟩
  rw [hfk, hxk] at hall hcx
  by_cases hkn : k < n
  case pos =>
   have C1 := HC.out.2 k _ hkn hf
   have hs := nxS_size n f k hkn
   have hnx := textF_next n f fr nb pb k fk xk hkn
   obtain ⟨P, hP⟩ : ∃ P, nxS n f k = P := ⟨_, rfl⟩
   rw [hP] at C1 hs hnx
   obtain ⟨r, sz, bk⟩ := P
   simp only at C1 hs hnx
   rw [hnx] at hall
   have hs1 := hs.1
   have hs2 : k + sz ≤ n := by omega
   have i1 : (k : Int) < (n : Int) := by omega
   have i2 : (k : Int) ≤ 100000 := by omega
   have i3 : (fr : Int) ≤ 100000 := by omega
   have i4 : (sz : Int) ≤ 100000 := by omega
   have e1 : wrap64 ((fr : Int) + (k : Int)) = (fr : Int) + (k : Int) := IntWalk.wrap64_in _ ⟨by omega, by omega⟩
   have e2 : wrap64 ((k : Int) + (sz : Int)) = (k : Int) + (sz : Int) := IntWalk.wrap64_in _ ⟨by omega, by omega⟩
   have H1 := Lib.hid (And.intro ho (And.intro hall (And.intro hcx (And.intro hf (And.intro hpl (And.intro hs1 hs2))))))
   clear ho hall hcx hf hpl hs hnx hs1 hs2 hfk hxk
   go_wp2_with fail
   refine C1.mono ?_
   rintro e w2 ⟨rfl, b2⟩
   clear C1
   have C2 := HC.out.1 fk xk (r : Int) ((fr : Int) + (k : Int)) (sz : Int) w2 (H1.out.2.2.1.on b2) (H1.out.2.2.2.1.trans (Fz.of_below b2))
   have H2 := Lib.hid (And.intro (H1.out.1.below b2) (H1.out.2.2.2.1.trans (Fz.of_below b2)))
   clear b2
   go_wp2_with fail
   refine C2.mono ?_
   rintro e w3 ⟨rfl, hc3, hf3⟩
   clear C2
   have H3 := Lib.hid (And.intro (own_gx hf3 H2.out.1 HL.out.2.2) (And.intro (H2.out.2.trans hf3) hc3))
   clear hc3 hf3
   have hbase : w.heap.size ≤ w3.heap.size := H3.out.2.1.size
   have hpre : pre.length ≤ 1000000 := by have := H1.out.2.2.2.2.1; omega
   go_wp2_with (at_builtin; refine wpList_appI rfl (.tmp 21) (.tmp 29) rfl w.heap.size _ pre ⟨(r : Int), (fr : Int) + (k : Int), (sz : Int), fk, xk, nb, pb⟩ rfl w3 H3.out.1 rfl rfl hpre hbase ?_)
   intro g cp w4 o4 b4 u4
   have hend : ∃ (k' : Nat) (pre' : List IT), k' ≤ n ∧ Value.int .i64 ((k : Int) + (sz : Int)) = .int .i64 (k' : Int) ∧ pre'.length ≤ k' ∧ OwnIt w4 w.heap.size pre' (.slice (some ⟨g, 0, none⟩) (pre.length + 1) cp) ∧ pre' ++ textF n f fr nb pb (n - k') k' (fo && decide (k' = 0)) (x && decide (k' = 0)) = ALL ∧ Cells w4 gx 154 (exA gn (fo && decide (k' = 0)) (x && decide (k' = 0))) ∧ Fz (fun k => k = gx) w w4 := by
    have hz : decide (k + sz = 0) = false := decide_eq_false (by have := H1.out.2.2.2.2.2.1; omega)
    refine ⟨k + sz, pre ++ [⟨(r : Int), (fr : Int) + (k : Int), (sz : Int), fk, xk, nb, pb⟩], H1.out.2.2.2.2.2.2, by simp, by have := H1.out.2.2.2.2.1; have := H1.out.2.2.2.2.2.1; simp; omega, o4, ?_, ?_, H3.out.2.1.below2 b4 (Nat.le_refl _)⟩
    ·rw [hz, Bool.and_false, Bool.and_false, List.append_assoc]
     exact H1.out.2.1
    ·rw [hz, Bool.and_false, Bool.and_false]
     exact (b4.block _ HL.out.2.2).trans H3.out.2.2
   have HEND := Lib.hid hend
   clear hend o4 b4 u4 hbase hpre
   go_wp2_with fail
   go_roundw
   case rel => exact HEND.out
   case measure =>
    have h1 := H1.out.2.2.2.2.2.1
    have h2 := H1.out.2.2.2.2.2.2
    have e3 : ((k : Int) + (sz : Int)).toNat = k + sz := by omega
    simp [RowKit.intOf]
    omega
  case neg =>
   obtain rfl : k = n := by omega
   have i1 : ¬ (k : Int) < (k : Int) := by omega
   rw [textF_end _ _ _ _ _ _ _ _ hkn, List.append_nil] at hall
   subst hall
   have H1 := Lib.hid (And.intro ho (And.intro hcx hf))
   have HF := Lib.hid (And.intro hfk hxk)
   clear ho hcx hf hfk hxk hpl hkn hk
   go_wp2_with fail
   go_ret
   refine ⟨_, rfl, H1.out.1, ?_, H1.out.2.2⟩
   rw [HF.out.1, HF.out.2]
   exact H1.out.2.1
end Go.Proofs.YtfafhbgkmlmmdaaGreatDoor.K
namespace Go.Proofs.YtfafhbgkmlmmdaaGreatDoor.K
open Go.RowKit Go.Shelf Go.Lib Go.Maps
attribute [local irreducible] nmL ofN
def tkI (kd fr tt : Nat) (r : Int) (n : Nat) (h : Nat → Nat) (c : Ct) (f x : Bool) : List IT :=
 if 0 < c.h then [] else if kd = 0 then textF n h fr (decide (0 < c.n)) (decide (0 < c.p)) n 0 f x
 else if kd = 1 then [⟨r, (fr : Int), (tt : Int) - (fr : Int), f, x, decide (0 < c.n), decide (0 < c.p)⟩] else []
def tkG (kd : Nat) (c : Ct) (f : Bool) : Bool := if 0 < c.h then f else if kd = 0 ∨ kd = 1 then false else f
structure TW (w : World) (gn gx : Nat) (c : Ct) (f x : Bool) (tok : Array Value) (W : World) : Prop where
 n : NeAt W gn c
 x : Cells W gx 154 (exA gn f x)
 t : Cells W w.heap.size 35 tok
 z : Fz (fun k => k = gn ∨ k = gx) w W
 m : MX W
theorem ownIt_lit (w : World) (t : IT) : OwnIt (w.alloc (.cells (itA t) 52)) w.heap.size [t] (.slice (some ⟨w.heap.size, 0, none⟩) 1 1) := by
 have h := World.ownsRow_lit (base := w.heap.size) (e := 52) (size := 7) w (itA t) 1 (Nat.le_refl _) (by unfold maxLen; omega) rfl
 have e : rowI [t] = (itA t).toList := by simp [rowI]
 unfold OwnIt
 rw [e]
 exact h
theorem exA_set {W : World} {gn gx : Nat} {f x : Bool} (h : Cells W gx 154 (exA gn f x)) (a b : Bool) : Cells ((W.setCell ⟨gx, 1, none⟩ (.bool a)).setCell ⟨gx, 2, none⟩ (.bool b)) gx 154 (exA gn a b) := (h.set 1 (.bool a)).set 2 (.bool b)
theorem xtake_any (kd fr tt : Nat) (nm : ByteArray) (r : Int) (sg : Bool) (hl : nm.size ≤ 1000000) (gn gx : Nat) (hgn : gn ≠ gx) (hg5 : 5 ≤ gx) (hn5 : 5 ≤ gn) (c : Ct) (hc : c.ok) (f x : Bool) (A : Option Addr) (n cap : Nat) (h : Nat → Nat) (hn0 : n ≤ 100000) (hc1 : n ≤ cap) (hm : cap ≤ maxLen)
  (hft : fr ≤ tt) (htt : tt ≤ 100000) (w : World) (hn : NeAt w gn c) (hx : Cells w gx 154 (exA gn f x)) (hM : MX w) (hT : S.Tabs w) (hB : kd = 0 → ∃ b off, A = some ⟨b, off, none⟩ ∧ S.Bs w b off n h ∧ b ≠ gx ∧ b ≠ gn ∧ 0 < n) :
  Calls Tryz.prog 84 #[.pointer (some ⟨gx, 0, none⟩), .agg (tkA (kd : Int) (fr : Int) (tt : Int) nm r sg), .slice A n cap] w fun e w' => ∃ v, e = .returned v ∧
   OwnIt w' w.heap.size (tkI kd fr tt r n h (takeC (nameN nm) kd sg c) (f || takeF (nameN nm) kd c) (x || takeX (nameN nm) kd c)) v ∧
   (tkI kd fr tt r n h (takeC (nameN nm) kd sg c) (f || takeF (nameN nm) kd c) (x || takeX (nameN nm) kd c) = [] → v = .slice none 0 0) ∧
   NeAt w' gn (takeC (nameN nm) kd sg c) ∧ Cells w' gx 154 (exA gn (tkG kd (takeC (nameN nm) kd sg c) (f || takeF (nameN nm) kd c)) (tkG kd (takeC (nameN nm) kd sg c) (x || takeX (nameN nm) kd c))) ∧ Fz (fun k => k = gn ∨ k = gx) w w' := by
 have CT := fun W (h1 : NeAt W gn c) (h2 : MX W) => take_any (kd : Int) (fr : Int) (tt : Int) nm r sg hl gn c hc W h1 h2
 obtain ⟨F, hF⟩ : ∃ q, takeF (nameN nm) (kd : Int) c = q := ⟨_, rfl⟩
 obtain ⟨X, hX⟩ : ∃ q, takeX (nameN nm) (kd : Int) c = q := ⟨_, rfl⟩
 obtain ⟨c', hce⟩ : ∃ q, takeC (nameN nm) (kd : Int) sg c = q := ⟨_, rfl⟩
 simp only [hF, hX, hce] at CT
 rw [hF, hX, hce]
 clear hF hX hce hc hl
 have CH := fun W (h1 : NeAt W gn c') => hid_any gn c' W h1
 have hgw : gx < w.heap.size := hx.lt
 have hnw : gn < w.heap.size := Cells.lt hn
 have CX : kd = 0 → ∀ W : World, Cells W gx 154 (exA gn (f || F) (x || X)) → NeAt W gn c' → Fz (fun k => k = gn ∨ k = gx) w W → Calls Tryz.prog 106 #[.pointer (some ⟨gx, 0, none⟩), .int .i64 (fr : Int), .slice A n cap] W fun e w' => ∃ v, e = .returned v ∧
   OwnIt w' W.heap.size (textF n h fr (decide (0 < c'.n)) (decide (0 < c'.p)) n 0 (f || F) (x || X)) v ∧ Cells w' gx 154 (exA gn false false) ∧ Fz (fun k => k = gx) W w' := fun h0 W h1 h2 h3 => by
  obtain ⟨b, off, rfl, k1, k2, k3, k4⟩ := hB h0
  have C := text_any gn gx c' (f || F) (x || X) fr (by omega) b off n cap h hn0 hc1 hm W (tabs_fz h3 (by intro k hk; omega) hT) (bs_fz h3 (by omega) k1) h1 h2 k2 hgn hg5
  rw [decide_eq_false (show ¬ n = 0 by omega), Bool.and_false, Bool.and_false] at C
  exact C
 have CI := fun (W : World) (h1 : Cells W gx 154 (exA gn (f || F) (x || X))) (h2 : NeAt W gn c') => item_any gn gx c' (f || F) (x || X) r (fr : Int) ((tt : Int) - (fr : Int)) W h1 h2
 have n0 : kd = 0 → 0 < n := fun h0 => by obtain ⟨_, _, _, _, _, _, k4⟩ := hB h0; exact k4
 obtain ⟨L, hL⟩ : ∃ q, tkI kd fr tt r n h c' (f || F) (x || X) = q := ⟨_, rfl⟩
 obtain ⟨G1, hG1⟩ : ∃ q, tkG kd c' (f || F) = q := ⟨_, rfl⟩
 obtain ⟨G2, hG2⟩ : ∃ q, tkG kd c' (x || X) = q := ⟨_, rfl⟩
 rw [hL, hG1, hG2]
 obtain ⟨W1, hW1⟩ : ∃ V, w.alloc (.cells (tkA (kd : Int) (fr : Int) (tt : Int) nm r sg) 35) = V := ⟨_, rfl⟩
 have b1 : Below w.heap.size w W1 := by rw [← hW1]; exact below_new w _
 have t1 : Cells W1 w.heap.size 35 (tkA (kd : Int) (fr : Int) (tt : Int) nm r sg) := by rw [← hW1]; exact cells_new _ _ _
 have h1 : TW w gn gx c f x (tkA (kd : Int) (fr : Int) (tt : Int) nm r sg) W1 := ⟨Cells.on hn b1, hx.on b1, t1, Fz.of_below b1, hM.on hM.pos b1⟩
 have q0 : W1.cell? ⟨gx, 0, none⟩ = some (.pointer (some ⟨gn, 0, none⟩)) := h1.x.cell 0
 have x0 : W1.cell? ⟨w.heap.size, 0, none⟩ = some (.int .i64 (kd : Int)) := h1.t.cell 0
 have x1 : W1.cell? ⟨w.heap.size, 1, none⟩ = some (.int .i64 (fr : Int)) := h1.t.cell 1
 have x2 : W1.cell? ⟨w.heap.size, 2, none⟩ = some (.int .i64 (tt : Int)) := h1.t.cell 2
 have x3 : W1.cell? ⟨w.heap.size, 3, none⟩ = some (.string nm) := h1.t.cell 3
 have x4 : W1.cell? ⟨w.heap.size, 4, none⟩ = some (.int .i32 r) := h1.t.cell 4
 have x5 : W1.cell? ⟨w.heap.size, 5, none⟩ = some (.bool sg) := h1.t.cell 5
 have HW := Lib.hid hW1
 have H1 := Lib.hid h1
 have HC := Lib.hid (And.intro CT (And.intro CH (And.intro CX CI)))
 have HL := Lib.hid (And.intro hL (And.intro hG1 (And.intro hG2 n0)))
 have HG := Lib.hid (And.intro hgw (And.intro hnw (And.intro hft htt)))
 clear CT CH CX CI hL hG1 hG2 n0 hW1 b1 t1 h1 hn hx hM hT hB hn0 hft htt
 have g0 : ∀ p : Later (fun k => k = gn) W1, p.W.cell? ⟨gx, 0, none⟩ = some (.pointer (some ⟨gn, 0, none⟩)) := fun p => cell_later q0 (fun e => hgn e.symm) p
 have y0 : ∀ p : Later (fun k => k = gn) W1, p.W.cell? ⟨w.heap.size, 0, none⟩ = some (.int .i64 (kd : Int)) := fun p => cell_later x0 (by omega) p
 have y1 : ∀ p : Later (fun k => k = gn) W1, p.W.cell? ⟨w.heap.size, 1, none⟩ = some (.int .i64 (fr : Int)) := fun p => cell_later x1 (by omega) p
 have y2 : ∀ p : Later (fun k => k = gn) W1, p.W.cell? ⟨w.heap.size, 2, none⟩ = some (.int .i64 (tt : Int)) := fun p => cell_later x2 (by omega) p
 have y3 : ∀ p : Later (fun k => k = gn) W1, p.W.cell? ⟨w.heap.size, 3, none⟩ = some (.string nm) := fun p => cell_later x3 (by omega) p
 have y4 : ∀ p : Later (fun k => k = gn) W1, p.W.cell? ⟨w.heap.size, 4, none⟩ = some (.int .i32 r) := fun p => cell_later x4 (by omega) p
 have y5 : ∀ p : Later (fun k => k = gn) W1, p.W.cell? ⟨w.heap.size, 5, none⟩ = some (.bool sg) := fun p => cell_later x5 (by omega) p
 have eM : gn < w.heap.size := HG.out.2.1
 have h0p : 2 < gn := by omega
 unfold tkA at HC HW
 unfold tkA
 have hgx' : ¬ gn = gx := hgn
 have HGX := Lib.hid hgx'
 clear hg5 hn5 hgx'
 go_enter Tryz.func84, Tryz.ntmps84
 go_upto_region 3 with fail
 rw [HW.out]
 go_cut [7, 8] from 11 to 19 (fun a b wx => a = .bool F ∧ b = .bool X ∧ TW w gn gx c' f x (tkA (kd : Int) (fr : Int) (tt : Int) nm r sg) wx)
 case first =>
  refine wp_region_mixF (fun i => if 5 ≤ i then 2 else 0) [0, 1, 2, 3, 4] 6 (fun w' => ∃ p : Later (fun k => k = gn) W1, w' = p.W) (by kernel_rfl) (by kernel_rfl) ⟨⟨_, Fz.drew W1⟩, rfl⟩ ?_
  simp only [opsAt, List.filterMap_cons, List.filterMap_nil, List.getElem?_toArray, List.getElem?_cons_zero, List.getElem?_cons_succ]
  change wpQuiet _ _ _ _ [_, _, _, _, _] _
  repeat (go_big_quiet_step (fail))
  refine wpQuiet_nil ?_
  clear g0 y0 y1 y2 y3 y4 y5
  have z0 : Fz (fun k => k = gn) W1 { W1 with drawn := W1.drawn + 1 } := Fz.drew W1
  have C1 := HC.out.1 { W1 with drawn := W1.drawn + 1 } H1.out.n H1.out.m
  refine wpFreeM_step [5] (by kernel_rfl) ⟨?_, trivial⟩
  refine wpOp_of_list rfl ?_
  go_wp2_with fail
  refine C1.mono ?_
  rintro e w5 ⟨rfl, hn5, hf5⟩
  have hfz := z0.trans hf5
  have hpw : TW w gn gx c' f x (tkA (kd : Int) (fr : Int) (tt : Int) nm r sg) w5 := ⟨hn5, hfz.cellsK (fun e => hgn e.symm) H1.out.x, hfz.cellsK (by omega) H1.out.t, H1.out.z.trans (hfz.mono (fun k hk => .inl hk)), H1.out.m.fz hfz h0p⟩
  have H5 := Lib.hid (And.intro hpw hfz)
  clear hn5 hf5 hfz hpw C1 z0
  go_wp2_with fail
  refine ⟨⟨⟨_, H5.out.2⟩, rfl⟩, ?_⟩
  refine wpFreeM_step [6] (by kernel_rfl) ⟨?_, trivial⟩
  refine wpOp_of_list rfl ?_
  go_wp2_with fail
  refine ⟨⟨⟨_, H5.out.2⟩, rfl⟩, ?_⟩
  refine wpFreeM_step [7, 8] (by kernel_rfl) ⟨?_, ?_, trivial⟩
  ·refine wpOp_of_list rfl ?_
   go_wp2_with fail
   refine ⟨⟨⟨_, H5.out.2⟩, rfl⟩, ?_⟩
   refine wpFreeM_step [8, 9] (by kernel_rfl) ⟨?_, ?_, trivial⟩
   ·refine wpOp_of_list rfl ?_
    go_wp2_with fail
    refine ⟨⟨⟨_, H5.out.2⟩, rfl⟩, ?_⟩
    refine wpFreeM_step [9] (by kernel_rfl) ⟨?_, trivial⟩
    refine wpOp_of_list rfl ?_
    go_wp2_with fail
    refine ⟨⟨⟨_, H5.out.2⟩, rfl⟩, ?_⟩
    refine wpFreeM_step [10] (by kernel_rfl) ⟨?_, trivial⟩
    refine wpOp_of_list rfl ?_
    go_wp2_with fail
    refine ⟨⟨⟨_, H5.out.2⟩, rfl⟩, ?_⟩
    unfold wpFreeM
    go_wp2_with fail
    go_meet
    exact ⟨rfl, rfl, H5.out.1⟩
   ·refine wpOp_of_list rfl ?_
    go_wp2_with fail
    refine ⟨⟨⟨_, H5.out.2⟩, rfl⟩, ?_⟩
    refine wpFreeM_step [8] (by kernel_rfl) ⟨?_, trivial⟩
    refine wpOp_of_list rfl ?_
    go_wp2_with fail
    refine ⟨⟨⟨_, H5.out.2⟩, rfl⟩, ?_⟩
    refine wpFreeM_step [10] (by kernel_rfl) ⟨?_, trivial⟩
    refine wpOp_of_list rfl ?_
    go_wp2_with fail
    refine ⟨⟨⟨_, H5.out.2⟩, rfl⟩, ?_⟩
    unfold wpFreeM
    go_wp2_with fail
    go_meet
    exact ⟨rfl, rfl, H5.out.1⟩
  ·refine wpOp_of_list rfl ?_
   go_wp2_with fail
   refine ⟨⟨⟨_, H5.out.2⟩, rfl⟩, ?_⟩
   refine wpFreeM_step [7] (by kernel_rfl) ⟨?_, trivial⟩
   refine wpOp_of_list rfl ?_
   go_wp2_with fail
   refine ⟨⟨⟨_, H5.out.2⟩, rfl⟩, ?_⟩
   refine wpFreeM_step [9] (by kernel_rfl) ⟨?_, trivial⟩
   refine wpOp_of_list rfl ?_
   go_wp2_with fail
   refine ⟨⟨⟨_, H5.out.2⟩, rfl⟩, ?_⟩
   refine wpFreeM_step [10] (by kernel_rfl) ⟨?_, trivial⟩
   refine wpOp_of_list rfl ?_
   go_wp2_with fail
   refine ⟨⟨⟨_, H5.out.2⟩, rfl⟩, ?_⟩
   unfold wpFreeM
   go_wp2_with fail
   go_meet
   exact ⟨rfl, rfl, H5.out.1⟩
 case rest =>
  obtain ⟨rfl, rfl, h5⟩ := hcut
  obtain ⟨wa, rfl⟩ : ∃ W : World, W = wc := ⟨_, rfl⟩
  clear g0 y0 y1 y2 y3 y4 y5 x0 x1 x2 x3 x4 x5 q0
  have q0 : wa.cell? ⟨gx, 0, none⟩ = some (.pointer (some ⟨gn, 0, none⟩)) := h5.x.cell 0
  have q1 : wa.cell? ⟨gx, 1, none⟩ = some (.bool f) := h5.x.cell 1
  have q2 : wa.cell? ⟨gx, 2, none⟩ = some (.bool x) := h5.x.cell 2
  have k1 := h5.x.froz 1
  have k2 := h5.x.froz 2
  have H5 := Lib.hid h5
  clear h5
  go_upto_region 4 with fail
  go_cut [7, 8] from 20 to 39 (fun _ _ wx => wx = ((wa.setCell ⟨gx, 1, none⟩ (.bool (f || F))).setCell ⟨gx, 2, none⟩ (.bool (x || X))).drew)
  case first =>
   cases f <;> cases x
   all_goals (go_region; all_goals (go_wp2_with fail; go_meet; exact rfl))
  case rest =>
   have z : Fz (fun k => k = gx) wa wc := by
    rw [hcut]
    exact ((Fz.set (X := fun k => k = gx) _ gx 1 _ rfl).trans (Fz.set (X := fun k => k = gx) _ gx 2 _ rfl)).trans (Fz.drew _)
   have hx6 : Cells wc gx 154 (exA gn (f || F) (x || X)) := by
    rw [hcut]
    exact exA_set H5.out.x (f || F) (x || X)
   have hgw := HG.out.1
   have ht6 := z.cellsK (show ¬ w.heap.size = gx by omega) H5.out.t
   have hn6 : NeAt wc gn c' := z.cellsK hgn H5.out.n
   have hz6 : Fz (fun k => k = gn ∨ k = gx) w wc := H5.out.z.trans (z.mono (fun k hk => .inr hk))
   have p0 : wc.cell? ⟨gx, 0, none⟩ = some (.pointer (some ⟨gn, 0, none⟩)) := hx6.cell 0
   have p1 : wc.cell? ⟨w.heap.size, 0, none⟩ = some (.int .i64 (kd : Int)) := ht6.cell 0
   have p2 : wc.cell? ⟨w.heap.size, 1, none⟩ = some (.int .i64 (fr : Int)) := ht6.cell 1
   have p3 : wc.cell? ⟨w.heap.size, 2, none⟩ = some (.int .i64 (tt : Int)) := ht6.cell 2
   have p4 : wc.cell? ⟨w.heap.size, 4, none⟩ = some (.int .i32 r) := ht6.cell 4
   have CH := HC.out.2.1 wc hn6
   have H6 := Lib.hid (And.intro hn6 (And.intro hx6 (And.intro ht6 hz6)))
   obtain ⟨fF, hfF⟩ : ∃ q, (f || F) = q := ⟨_, rfl⟩
   obtain ⟨xX, hxX⟩ : ∃ q, (x || X) = q := ⟨_, rfl⟩
   rw [hfF, hxX] at HL HC H6
   obtain ⟨ch, hch⟩ : ∃ q, c'.h = q := ⟨_, rfl⟩
   rw [hch] at CH
   have HD := Lib.hid hch
   clear z hx6 ht6 hn6 hz6 hcut q0 q1 q2 k1 k2 hgw hgn hfF hxX hch
   by_cases hh : 0 < ch
   case pos =>
    have i1 : (0 : Int) < (ch : Int) := by omega
    have e := HL.out
    unfold tkI tkG at e
    rw [HD.out, if_pos hh, if_pos hh, if_pos hh] at e
    have HE := Lib.hid e
    clear e hh
    go_wp2_with fail
    refine CH.mono ?_
    rintro e _ ⟨rfl, rfl⟩
    clear CH
    go_wp2_with fail
    go_ret
    refine ⟨_, rfl, ?_, fun _ => rfl, H6.out.1, ?_, H6.out.2.2.2⟩
    ·rw [← HE.out.1]
     exact ownIt_nil _ _
    ·rw [← HE.out.2.1, ← HE.out.2.2.1]
     exact H6.out.2.1
   case neg =>
    have i1 : ¬ (0 : Int) < (ch : Int) := by omega
    have e := HL.out
    unfold tkI tkG at e
    rw [HD.out, if_neg hh, if_neg hh, if_neg hh] at e
    clear hh
    by_cases k0 : kd = 0
    case pos =>
     rw [if_pos k0, if_pos (.inl k0), if_pos (.inl k0)] at e
     have CX := HC.out.2.2.1 k0 wc H6.out.2.1 H6.out.1 H6.out.2.2.2
     have e0 : ((kd : Int) == 0) = true := by rw [k0]; rfl
     rw [e.1] at CX
     have hne : L ≠ [] := by
      rw [← e.1]
      have h0 := e.2.2.2 k0
      have h9 := textF_next n h fr (decide (0 < c'.n)) (decide (0 < c'.p)) 0 fF xX h0
      rw [Nat.sub_zero] at h9
      rw [h9]
      exact List.cons_ne_nil _ _
     have HE := Lib.hid (And.intro e hne)
     clear e hne k0
     go_wp2_with fail
     refine CH.mono ?_
     rintro e _ ⟨rfl, rfl⟩
     clear CH
     go_wp2_with fail
     refine CX.mono ?_
     rintro e w7 ⟨v, rfl, ho, hx7, hz7⟩
     have H7 := Lib.hid (And.intro ho (And.intro hx7 hz7))
     clear ho hx7 hz7 CX
     go_wp2_with fail
     go_ret
     refine ⟨_, rfl, H7.out.1.lower H6.out.2.2.2.size, fun q => absurd q HE.out.2, ?_, ?_, H6.out.2.2.2.trans (H7.out.2.2.mono (fun k hk => .inr hk))⟩
     ·exact H7.out.2.2.cellsK HGX.out H6.out.1
     ·rw [← HE.out.1.2.1, ← HE.out.1.2.2.1]
      exact H7.out.2.1
    case neg =>
     have e0 : ((kd : Int) == 0) = false := by
      have : ¬ (kd : Int) = 0 := by omega
      simpa using this
     rw [if_neg k0] at e
     by_cases k1 : kd = 1
     case pos =>
      have e1 : ((kd : Int) == 1) = true := by rw [k1]; rfl
      rw [if_pos k1, if_pos (.inr k1), if_pos (.inr k1)] at e
      have CI := HC.out.2.2.2 wc H6.out.2.1 H6.out.1
      have e3 : wrap64 ((tt : Int) - (fr : Int)) = (tt : Int) - (fr : Int) := IntWalk.wrap64_in _ ⟨by have := HG.out; omega, by have := HG.out; omega⟩
      have hne : L ≠ [] := by
       rw [← e.1]
       exact List.cons_ne_nil _ _
      obtain ⟨it, hit⟩ : ∃ q : IT, (⟨r, (fr : Int), (tt : Int) - (fr : Int), fF, xX, decide (0 < c'.n), decide (0 < c'.p)⟩ : IT) = q := ⟨_, rfl⟩
      rw [hit] at CI e
      obtain ⟨bn, hbn⟩ : ∃ q, decide (0 < c'.n) = q := ⟨_, rfl⟩
      obtain ⟨bp, hbp⟩ : ∃ q, decide (0 < c'.p) = q := ⟨_, rfl⟩
      rw [hbn, hbp] at hit
      have hita : itA it = #[.int .i32 r, .int .i64 (fr : Int), .int .i64 ((tt : Int) - (fr : Int)), .bool fF, .bool xX, .bool bn, .bool bp] := by rw [← hit]; rfl
      rw [hita] at CI
      have HE := Lib.hid (And.intro e (And.intro hne hita))
      clear e hne hit hbn hbp k1 k0 hita
      go_wp2_with fail
      refine CH.mono ?_
      rintro e _ ⟨rfl, rfl⟩
      clear CH
      go_wp2_with fail
      refine CI.mono ?_
      rintro e w7 ⟨rfl, hx7, hz7⟩
      have hl7 := ownIt_lit w7 it
      rw [HE.out.2.2] at hl7
      have b7 := below_new w7 (.cells #[.int .i32 r, .int .i64 (fr : Int), .int .i64 ((tt : Int) - (fr : Int)), .bool fF, .bool xX, .bool bn, .bool bp] 52)
      have H7 := Lib.hid (And.intro hl7 (And.intro (hx7.on b7) (hz7.trans (Fz.of_below b7))))
      have hs7 := Lib.hid hz7.size
      clear hl7 b7 hx7 hz7 CI
      go_wp2_with fail
      go_ret
      refine ⟨_, rfl, ?_, fun q => absurd q HE.out.2.1, ?_, ?_, H6.out.2.2.2.trans (H7.out.2.2.mono (fun k hk => .inr hk))⟩
      ·rw [← HE.out.1.1]
       exact H7.out.1.lower (Nat.le_trans H6.out.2.2.2.size hs7.out)
      ·exact H7.out.2.2.cellsK HGX.out H6.out.1
      ·rw [← HE.out.1.2.1, ← HE.out.1.2.2.1]
       exact H7.out.2.1
     case neg =>
      have e1 : ((kd : Int) == 1) = false := by
       have : ¬ (kd : Int) = 1 := by omega
       simpa using this
      rw [if_neg k1, if_neg (by omega), if_neg (by omega)] at e
      have HE := Lib.hid e
      clear e k1 k0
      go_wp2_with fail
      refine CH.mono ?_
      rintro e _ ⟨rfl, rfl⟩
      clear CH
      go_wp2_with fail
      go_ret
      refine ⟨_, rfl, ?_, fun _ => rfl, H6.out.1, ?_, H6.out.2.2.2⟩
      ·rw [← HE.out.1]
       exact ownIt_nil _ _
      ·rw [← HE.out.2.1, ← HE.out.2.2.1]
       exact H6.out.2.1
end Go.Proofs.YtfafhbgkmlmmdaaGreatDoor.K
namespace Go.Proofs.YtfafhbgkmlmmdaaGreatDoor.G
open Go.RowKit Go.Shelf Go.Lib Go.Maps
theorem below_drewN {B : Nat} {a w : World} (h : Below B a w) (n : Nat) : Below B a (w.drewN n) := ⟨h.os, h.tape, h.output, h.size, h.block⟩
theorem ret_bool {a b : Bool} (h : a = b) : Ending.returned (.bool a) = .returned (.bool b) := by rw [h]
theorem add0 (g j : Nat) : (Addr.mk g 0 none).add j = ⟨g, j, none⟩ := by
 unfold Addr.add
 by_cases h : j = 0 <;> simp [h]
def Cells (W : World) (g t : Nat) (cs : Array Value) : Prop := W.heap[g]? = some (.cells cs t (0, 0))
theorem Cells.lt {W : World} {g t : Nat} {cs : Array Value} (h : Cells W g t cs) : g < W.heap.size := (Array.getElem?_eq_some_iff.1 h).1
theorem Cells.cell {W : World} {g t : Nat} {cs : Array Value} (h : Cells W g t cs) (i : Nat) : W.cell? ⟨g, i, none⟩ = cs[i]? := by
 simp [World.cell?, show W.heap[g]? = _ from h]
theorem own_block_lt {w : World} {base e size n : Nat} {v : Value} {xs : List Value} (h : w.ownsRow base e size v n xs) : ∀ k, v.ownBlock = some k → base ≤ k ∧ k < w.heap.size := by
 rcases h.2 with ⟨rfl, _⟩ | ⟨g, cap, cur, rfl, hb, hh, _⟩
 ·intro k e; simp [Value.ownBlock] at e
 ·intro k e
  obtain rfl : g = k := by simpa [Value.ownBlock] using e
  exact ⟨hb, (Array.getElem?_eq_some_iff.1 hh).1⟩
theorem grown_of_below {A B : World} (h : Below A.heap.size A B) : A.grownBy B none := ⟨h.os, h.tape, h.output, h.size, fun k hk _ => h.block k hk⟩
theorem ownsRow_below {w w' : World} {base e size n : Nat} {v : Value} {xs : List Value} (h : w.ownsRow base e size v n xs) (hb : Below w.heap.size w w') : w'.ownsRow base e size v n xs :=
 h.kept (grown_of_below hb) (by cases v.ownBlock <;> simp)
def i64 (n : Int) : Prop := -9223372036854775808 ≤ n ∧ n ≤ 9223372036854775807
theorem below_new (w : World) (o : Obj) : Below w.heap.size w (w.alloc o) := (Below.refl _ _).alloc (Nat.le_refl _) o
theorem cells_new (w : World) (cs : Array Value) (t : Nat) : Cells (w.alloc (.cells cs t)) w.heap.size t cs := World.alloc_heap_new w _
theorem Cells.froz {W : World} {g t : Nat} {cs : Array Value} (h : Cells W g t cs) (i : Nat) : W.frozen? ⟨g, i, none⟩ = false := by
 simp [World.frozen?, show W.heap[g]? = _ from h]
theorem Cells.set {W : World} {g t : Nat} {cs : Array Value} (h : Cells W g t cs) (i : Nat) (v : Value) : Cells (W.setCell ⟨g, i, none⟩ v) g t (cs.setIfInBounds i v) := by
 unfold Cells World.setCell
 simp only [Array.getElem?_modify, if_true]
 rw [show W.heap[g]? = _ from h]
 rfl
theorem cell_lt {w : World} {a : Addr} {v : Value} (h : w.cell? a = some v) : a.block < w.heap.size := by
 unfold World.cell? at h
 cases hb : w.heap[a.block]? with
 | none => simp [hb] at h
 | some x => exact (Array.getElem?_eq_some_iff.1 hb).1
structure IS (w : World) (B : Nat) (xs : List Int) (A : Option Addr) (cap : Nat) : Prop where
 l : xs.length ≤ cap
 m : cap ≤ maxLen
 i : ∀ x ∈ xs, i64 x
 r : xs ≠ [] → ∃ b o, A = some ⟨b, o, none⟩ ∧ b < B ∧ ∀ i x, xs[i]? = some x → w.cell? ⟨b, o + i, none⟩ = some (.int .i64 x)
theorem IS.below {w w' : World} {B : Nat} {xs : List Int} {A : Option Addr} {cap : Nat} (h : IS w B xs A cap) (hb : Below B w w') : IS w' B xs A cap :=
 ⟨h.l, h.m, h.i, fun hne => by
  obtain ⟨b, o, rfl, hl, hr⟩ := h.r hne
  exact ⟨b, o, rfl, hl, fun i x hx => (hb.cell (p := ⟨b, _, none⟩) hl).trans (hr i x hx)⟩⟩
theorem IS.mono {w : World} {B B' : Nat} {xs : List Int} {A : Option Addr} {cap : Nat} (h : IS w B xs A cap) (hB : B ≤ B') : IS w B' xs A cap :=
 ⟨h.l, h.m, h.i, fun hne => by
  obtain ⟨b, o, rfl, hl, hr⟩ := h.r hne
  exact ⟨b, o, rfl, by omega, hr⟩⟩
theorem IS.on {w w' : World} {xs : List Int} {A : Option Addr} {cap : Nat} (h : IS w w.heap.size xs A cap) (hb : Below w.heap.size w w') : IS w' w'.heap.size xs A cap := (h.below hb).mono hb.size
def intsC (l : List Int) : List Value := l.map fun x => Value.int .i64 x
def OwnI (w : World) (base : Nat) (l : List Int) (v : Value) : Prop := w.ownsRow base 3 1 v l.length (intsC l)
theorem OwnI.is {w : World} {base : Nat} {l : List Int} {v : Value} (h : OwnI w base l v) (hl : ∀ x ∈ l, i64 x) : ∃ A cap, v = .slice A l.length cap ∧ IS w w.heap.size l A cap ∧ (A = none → cap = 0) := by
 rcases h.2 with ⟨h1, h2⟩ | ⟨g, cap, cur, h1, h2, h3, h4, h5, h6, h7⟩
 ·have hn : l = [] := List.eq_nil_of_length_eq_zero h2
  subst hn
  exact ⟨none, 0, by rw [h1]; rfl, ⟨Nat.le_refl _, by unfold maxLen; omega, (fun x hx => absurd hx (by simp)), (fun hn => absurd rfl hn)⟩, fun _ => rfl⟩
 ·refine ⟨_, cap, h1, ⟨h4, h5, hl, fun _ => ⟨g, 0, rfl, (Array.getElem?_eq_some_iff.1 h3).1, fun i x hx => ?_⟩⟩, fun e => by cases e⟩
  have hc := World.ownsRow.cells h (g := g) (by rw [h1]; rfl) i (.int .i64 x) (by simp [intsC, hx])
  rw [add0] at hc
  rw [Nat.zero_add]; exact hc
theorem OwnI.below {w w' : World} {base : Nat} {l : List Int} {v : Value} (h : OwnI w base l v) (hb : Below w.heap.size w w') : OwnI w' base l v := ownsRow_below h hb
structure Fz (X : Nat → Prop) (w w' : World) : Prop where
 os : w'.os = w.os
 tape : w'.tape = w.tape
 output : w'.output = w.output
 size : w.heap.size ≤ w'.heap.size
 block : ∀ k, k < w.heap.size → ¬ X k → w'.heap[k]? = w.heap[k]?
theorem Fz.refl (X : Nat → Prop) (w : World) : Fz X w w := ⟨rfl, rfl, rfl, Nat.le_refl _, fun _ _ _ => rfl⟩
theorem Fz.trans {X : Nat → Prop} {a b c : World} (h : Fz X a b) (k : Fz X b c) : Fz X a c :=
 ⟨k.os.trans h.os, k.tape.trans h.tape, k.output.trans h.output, Nat.le_trans h.size k.size, fun i hi hn => (k.block i (Nat.lt_of_lt_of_le hi h.size) hn).trans (h.block i hi hn)⟩
theorem Fz.of_below {X : Nat → Prop} {a b : World} (h : Below a.heap.size a b) : Fz X a b := ⟨h.os, h.tape, h.output, h.size, fun k hk _ => h.block k hk⟩
theorem Fz.of_grown {X : Nat → Prop} {a b : World} {o : Option Nat} (h : a.grownBy b o) (hx : ∀ k, o = some k → X k) : Fz X a b :=
 ⟨h.os, h.tape, h.output, h.size, fun k hk hn => h.block k hk (fun e => hn (hx k e.symm))⟩
theorem Fz.mono {X Y : Nat → Prop} {a b : World} (h : Fz X a b) (hxy : ∀ k, X k → Y k) : Fz Y a b := ⟨h.os, h.tape, h.output, h.size, fun k hk hn => h.block k hk (fun hx => hn (hxy k hx))⟩
theorem Fz.below {X : Nat → Prop} {a b : World} {B : Nat} (h : Fz X a b) (hB : B ≤ a.heap.size) (hX : ∀ k, k < B → ¬ X k) : Below B a b := ⟨h.os, h.tape, h.output, h.size, fun k hk => h.block k (by omega) (hX k hk)⟩
theorem Fz.set {X : Nat → Prop} (w : World) (b i : Nat) (v : Value) (hb : X b) : Fz X w (w.setCell ⟨b, i, none⟩ v) :=
 ⟨rfl, rfl, rfl, by simp, fun k _ hn => by
  have : b ≠ k := fun e => hn (e ▸ hb)
  simp [World.setCell, Array.getElem?_modify, this]⟩
theorem below_grown' {w w' : World} {B e n : Nat} {v : Value} {xs : List Value} (hg : w.grownBy w' v.ownBlock) (ho : w.ownsRow B e 1 v n xs) (hB : B ≤ w.heap.size) : Below B w w' :=
 ⟨hg.os, hg.tape, hg.output, hg.size, fun k hk => hg.block k (by omega) (fun h => by have := (own_block_lt ho k h.symm).1; omega)⟩
structure RsAt (w : World) (B : Nat) (R : List (List Int)) (A : Option Addr) (cap : Nat) : Prop where
 l : R.length ≤ cap
 m : cap ≤ maxLen
 z : A = none → cap = 0
 r : R ≠ [] → ∃ b o, A = some ⟨b, o, none⟩ ∧ b < B ∧ ∀ (i : Nat) (r : List Int), R[i]? = some r → ∃ A' c', w.cell? ⟨b, o + i, none⟩ = some (.slice A' r.length c') ∧ IS w B r A' c' ∧ (A' = none → c' = 0)
theorem RsAt.below {w w' : World} {B : Nat} {R : List (List Int)} {A : Option Addr} {cap : Nat} (h : RsAt w B R A cap) (hb : Below B w w') : RsAt w' B R A cap :=
 ⟨h.l, h.m, h.z, fun hne => by
  obtain ⟨b, o, rfl, hl, hr⟩ := h.r hne
  exact ⟨b, o, rfl, hl, fun i r hx => by
   obtain ⟨A', c', h1, h2, h3⟩ := hr i r hx
   exact ⟨A', c', (hb.cell (p := ⟨b, _, none⟩) hl).trans h1, h2.below hb, h3⟩⟩⟩
theorem RsAt.mono {w : World} {B B' : Nat} {R : List (List Int)} {A : Option Addr} {cap : Nat} (h : RsAt w B R A cap) (hB : B ≤ B') : RsAt w B' R A cap :=
 ⟨h.l, h.m, h.z, fun hne => by
  obtain ⟨b, o, rfl, hl, hr⟩ := h.r hne
  exact ⟨b, o, rfl, by omega, fun i r hx => by
   obtain ⟨A', c', h1, h2, h3⟩ := hr i r hx
   exact ⟨A', c', h1, h2.mono hB, h3⟩⟩⟩
theorem RsAt.on {w w' : World} {R : List (List Int)} {A : Option Addr} {cap : Nat} (h : RsAt w w.heap.size R A cap) (hb : Below w.heap.size w w') : RsAt w' w'.heap.size R A cap := (h.below hb).mono hb.size
structure UsAt (w : World) (B : Nat) (T : List Nat) (A : Option Addr) (cap : Nat) : Prop where
 l : T.length ≤ cap
 m : cap ≤ maxLen
 z : A = none → cap = 0
 i : ∀ x ∈ T, x < 18446744073709551616
 r : T ≠ [] → ∃ b o, A = some ⟨b, o, none⟩ ∧ b < B ∧ ∀ (i : Nat) (x : Nat), T[i]? = some x → w.cell? ⟨b, o + i, none⟩ = some (.int .u64 (x : Int))
theorem UsAt.below {w w' : World} {B : Nat} {T : List Nat} {A : Option Addr} {cap : Nat} (h : UsAt w B T A cap) (hb : Below B w w') : UsAt w' B T A cap :=
 ⟨h.l, h.m, h.z, h.i, fun hne => by
  obtain ⟨b, o, rfl, hl, hr⟩ := h.r hne
  exact ⟨b, o, rfl, hl, fun i x hx => (hb.cell (p := ⟨b, _, none⟩) hl).trans (hr i x hx)⟩⟩
theorem UsAt.mono {w : World} {B B' : Nat} {T : List Nat} {A : Option Addr} {cap : Nat} (h : UsAt w B T A cap) (hB : B ≤ B') : UsAt w B' T A cap :=
 ⟨h.l, h.m, h.z, h.i, fun hne => by
  obtain ⟨b, o, rfl, hl, hr⟩ := h.r hne
  exact ⟨b, o, rfl, by omega, hr⟩⟩
theorem UsAt.on {w w' : World} {T : List Nat} {A : Option Addr} {cap : Nat} (h : UsAt w w.heap.size T A cap) (hb : Below w.heap.size w w') : UsAt w' w'.heap.size T A cap := (h.below hb).mono hb.size
theorem own_fz {w w' : World} {X : Nat → Prop} {B e z n : Nat} {u : Value} {xs : List Value} (hf : Fz X w w') (ho : w.ownsRow B e z u n xs) (hn : ∀ k, X k → u.ownBlock ≠ some k) : w'.ownsRow B e z u n xs := by
 refine ⟨ho.1, ?_⟩
 rcases ho.2 with h0 | ⟨g, cap, cur, h1, h2, h3, rest⟩
 ·exact .inl h0
 ·exact .inr ⟨g, cap, cur, h1, h2, (hf.block g (Array.getElem?_eq_some_iff.1 h3).1 (fun hx => hn g hx (by rw [h1]; rfl))).trans h3, rest⟩
theorem Cells.on {W W' : World} {g t : Nat} {cs : Array Value} (h : Cells W g t cs) (hb : Below W.heap.size W W') : Cells W' g t cs := (hb.block _ h.lt).trans h
end Go.Proofs.YtfafhbgkmlmmdaaGreatDoor.G
namespace Go.Proofs.YtfafhbgkmlmmdaaGreatDoor.G
def blkB (c : Nat) : Bool := c == 9 || c == 10 || c == 12 || c == 13 || c == 32
def ltrB (c : Nat) : Bool := (decide (65 ≤ c) && decide (c ≤ 90)) || (decide (97 ≤ c) && decide (c ≤ 122))
def lowN (c : Nat) : Nat := if 65 ≤ c ∧ c ≤ 90 then c + 32 else c
def lowL (l : List Nat) : List Nat := l.map lowN
abbrev AT := List Nat × List Nat
structure TG where
 kind : Nat
 size : Nat
 name : List Nat
 attrs : List AT
 single : Bool
 closed : Bool
def runW (e : Nat → Bool) (l : List Nat) : List Nat := l.takeWhile (fun c => !e c)
def restW (e : Nat → Bool) (l : List Nat) : List Nat := l.dropWhile (fun c => !e c)
def eName (c : Nat) : Bool := blkB c || c == 47 || c == 62
def eAttr (c : Nat) : Bool := blkB c || c == 47 || c == 62 || c == 61
def eSep (c : Nat) : Bool := !(blkB c || c == 47)
def eBlk (c : Nat) : Bool := !blkB c
def eVal (c : Nat) : Bool := blkB c || c == 62
def eQ (q c : Nat) : Bool := c == q
theorem runW_nil (e : Nat → Bool) : runW e [] = [] := rfl
theorem restW_nil (e : Nat → Bool) : restW e [] = [] := rfl
theorem runW_hit {e : Nat → Bool} {c : Nat} (l : List Nat) (h : e c = true) : runW e (c :: l) = [] := by simp [runW, h]
theorem restW_hit {e : Nat → Bool} {c : Nat} (l : List Nat) (h : e c = true) : restW e (c :: l) = c :: l := by simp [restW, h]
theorem runW_miss {e : Nat → Bool} {c : Nat} (l : List Nat) (h : e c = false) : runW e (c :: l) = c :: runW e l := by simp [runW, h]
theorem restW_miss {e : Nat → Bool} {c : Nat} (l : List Nat) (h : e c = false) : restW e (c :: l) = restW e l := by simp [restW, h]
theorem run_rest (e : Nat → Bool) (l : List Nat) : runW e l ++ restW e l = l := List.takeWhile_append_dropWhile
theorem runW_le (e : Nat → Bool) (l : List Nat) : (runW e l).length ≤ l.length := by
 have := congrArg List.length (run_rest e l)
 simp at this
 omega
theorem restW_le (e : Nat → Bool) (l : List Nat) : (restW e l).length ≤ l.length := by
 have := congrArg List.length (run_rest e l)
 simp at this
 omega
theorem restW_head {e : Nat → Bool} : ∀ {l : List Nat} {c : Nat} {t : List Nat}, restW e l = c :: t → e c = true
 | [], c, t, h => by cases h
 | x :: l, c, t, h => by
  cases hx : e x with
  | true =>
   rw [restW_hit l hx] at h
   injection h with h1 _
   rw [← h1]; exact hx
  | false =>
   rw [restW_miss l hx] at h
   exact restW_head h
theorem restW_eq_drop (e : Nat → Bool) (l : List Nat) : restW e l = l.drop (runW e l).length := by
 have h : l.drop (runW e l).length = (runW e l ++ restW e l).drop (runW e l).length := by rw [run_rest]
 rw [h, List.drop_left]
theorem runW_eq_take (e : Nat → Bool) (l : List Nat) : runW e l = l.take (runW e l).length := by
 have h : l.take (runW e l).length = (runW e l ++ restW e l).take (runW e l).length := by rw [run_rest]
 rw [h, List.take_left]
def valueR (l : List Nat) : List Nat × List Nat := match l with
 | [] => ([], [])
 | c :: t => if c = 34 ∨ c = 39 then (runW (eQ c) t, (restW (eQ c) t).drop 1) else (runW eVal (c :: t), restW eVal (c :: t))
def attrN (l : List Nat) : List Nat := lowL (l.take 1 ++ runW eAttr (l.drop 1))
def attrP (l : List Nat) : List Nat := restW eBlk (restW eAttr (l.drop 1))
def attrR (l : List Nat) : AT × List Nat := match attrP l with
 | [] => ((attrN l, []), [])
 | c :: t => if c = 61 then ((attrN l, (valueR (restW eBlk t)).1), (valueR (restW eBlk t)).2) else ((attrN l, []), c :: t)
theorem valueR_le (l : List Nat) : (valueR l).2.length ≤ l.length := by
 unfold valueR
 split
 ·simp
 ·rename_i c t
  split
  ·have := restW_le (eQ c) t
   simp
   omega
  ·exact restW_le _ _
theorem attrR_lt {l : List Nat} (h : l ≠ []) : (attrR l).2.length < l.length := by
 have h0 : (l.drop 1).length < l.length := by
  cases l with
  | nil => exact absurd rfl h
  | cons c t => simp
 have h1 : (attrP l).length ≤ (l.drop 1).length := Nat.le_trans (restW_le _ _) (restW_le _ _)
 unfold attrR
 split
 ·simp; cases l with
  | nil => exact absurd rfl h
  | cons c t => simp
 ·rename_i c t e
  rw [e] at h1
  simp at h1
  split
  ·have h2 := valueR_le (restW eBlk t)
   have h3 := restW_le eBlk t
   simp at h0 ⊢
   omega
  ·simp at h0 ⊢
   omega
def tagR (N kind : Nat) (name : List Nat) : Nat → List AT → List Nat → TG
 | f, atl, l => match restW eSep l with
  | [] => ⟨kind, N, name, atl, false, false⟩
  | c :: t => if c = 62 then ⟨kind, N - t.length, name, atl, (runW eSep l).getLast? == some 47, true⟩
   else match f with
    | 0 => ⟨kind, N, name, atl, false, false⟩
    | f + 1 => tagR N kind name f (atl ++ [(attrR (c :: t)).1]) (attrR (c :: t)).2
structure RS where
 st : Nat
 slash : Bool
 tn : List Nat
 nm : List Nat
 vl : List Nat
 q : Nat
 atl : List AT
def refStep (s : RS) (c : Nat) : RS × Bool := match s.st with
 | 0 => if blkB c || c == 47 || c == 62 then ({ s with st := 1, slash := c == 47 }, c == 62) else ({ s with tn := s.tn ++ [lowN c] }, c == 62)
 | 1 => if c == 62 then (s, true) else if blkB c || c == 47 then ({ s with slash := c == 47 }, false) else ({ s with st := 2, nm := [lowN c], vl := [] }, false)
 | 2 => if c == 61 then ({ s with st := 4 }, c == 62) else if blkB c then ({ s with st := 3 }, c == 62)
  else if c == 47 || c == 62 then ({ s with atl := s.atl ++ [(s.nm, [])], st := 1, slash := c == 47 }, c == 62) else ({ s with nm := s.nm ++ [lowN c] }, c == 62)
 | 3 => if blkB c then (s, c == 62) else if c == 61 then ({ s with st := 4 }, c == 62)
  else if c == 47 || c == 62 then ({ s with atl := s.atl ++ [(s.nm, [])], st := 1, slash := c == 47 }, c == 62)
  else ({ s with atl := s.atl ++ [(s.nm, [])], st := 2, slash := c == 47, nm := [lowN c], vl := [] }, c == 62)
 | 4 => if blkB c then (s, c == 62) else if c == 34 || c == 39 then ({ s with st := 6, q := c }, c == 62)
  else if c == 62 then ({ s with atl := s.atl ++ [(s.nm, [])], st := 1, slash := false }, true) else ({ s with st := 5, vl := [c] }, false)
 | 5 => if blkB c || c == 62 then ({ s with atl := s.atl ++ [(s.nm, s.vl)], st := 1, slash := false }, c == 62) else ({ s with vl := s.vl ++ [c] }, c == 62)
 | _ => if c == s.q then ({ s with atl := s.atl ++ [(s.nm, s.vl)], st := 1, slash := false }, false) else ({ s with vl := s.vl ++ [c] }, false)
def refEnd (N kind : Nat) (s : RS) : TG := ⟨kind, N, s.tn, if 2 ≤ s.st then s.atl ++ [(s.nm, s.vl)] else s.atl, false, false⟩
def refGo (N kind : Nat) : RS → List Nat → TG
 | s, [] => refEnd N kind s
 | s, c :: t => if (refStep s c).2 = true then ⟨kind, N - t.length, (refStep s c).1.tn, (refStep s c).1.atl, (refStep s c).1.slash, true⟩ else refGo N kind (refStep s c).1 t
theorem blk_not {c : Nat} (h : blkB c = true) : c ≠ 47 ∧ c ≠ 62 ∧ c ≠ 61 ∧ c ≠ 34 ∧ c ≠ 39 := by
 simp [blkB] at h
 omega
theorem ref_end {N kind : Nat} {s : RS} {c : Nat} {t : List Nat} {u : RS} (h : refStep s c = (u, true)) : refGo N kind s (c :: t) = ⟨kind, N - t.length, u.tn, u.atl, u.slash, true⟩ := by simp [refGo, h]
theorem ref_on {N kind : Nat} {s : RS} {c : Nat} {t : List Nat} {u : RS} (h : refStep s c = (u, false)) : refGo N kind s (c :: t) = refGo N kind u t := by simp [refGo, h]
theorem ref_st1_gt (N kind : Nat) (sl : Bool) (tn nm vl : List Nat) (q : Nat) (atl : List AT) (t : List Nat) : refGo N kind ⟨1, sl, tn, nm, vl, q, atl⟩ (62 :: t) = ⟨kind, N - t.length, tn, atl, sl, true⟩ := ref_end (u := ⟨1, sl, tn, nm, vl, q, atl⟩) rfl
theorem ref_st1_sl (N kind : Nat) (sl : Bool) (tn nm vl : List Nat) (q : Nat) (atl : List AT) (t : List Nat) : refGo N kind ⟨1, sl, tn, nm, vl, q, atl⟩ (47 :: t) = refGo N kind ⟨1, true, tn, nm, vl, q, atl⟩ t := ref_on rfl
theorem ref_st1_blk (N kind : Nat) (sl : Bool) (tn nm vl : List Nat) (q : Nat) (atl : List AT) {c : Nat} (hc : blkB c = true) (t : List Nat) : refGo N kind ⟨1, sl, tn, nm, vl, q, atl⟩ (c :: t) = refGo N kind ⟨1, false, tn, nm, vl, q, atl⟩ t := by
 have := blk_not hc
 exact ref_on (by simp [refStep, hc, this])
theorem ref_st1_else (N kind : Nat) (sl : Bool) (tn nm vl : List Nat) (q : Nat) (atl : List AT) {c : Nat} (hc : blkB c = false) (h1 : c ≠ 47) (h2 : c ≠ 62) (t : List Nat) : refGo N kind ⟨1, sl, tn, nm, vl, q, atl⟩ (c :: t) = refGo N kind ⟨2, sl, tn, [lowN c], [], q, atl⟩ t :=
 ref_on (by simp [refStep, hc, h1, h2])
def BtTo (N kind : Nat) (tn : List Nat) (atl : List AT) (l : List Nat) (r : TG) : Prop := ∃ nm vl q, r = refGo N kind ⟨1, false, tn, nm, vl, q, atl⟩ l
theorem ref_quotes (N kind : Nat) (sl : Bool) (tn nm : List Nat) (q : Nat) (atl : List AT) : ∀ (l vl : List Nat),
  refGo N kind ⟨6, sl, tn, nm, vl, q, atl⟩ l = refGo N kind ⟨1, false, tn, nm, vl ++ runW (eQ q) l, q, atl ++ [(nm, vl ++ runW (eQ q) l)]⟩ ((restW (eQ q) l).drop 1)
 | [], vl => by simp [refGo, refEnd, runW_nil, restW_nil]
 | c :: t, vl => by
  by_cases hc : c = q
  ·subst hc
   rw [runW_hit t (by simp [eQ]), restW_hit t (by simp [eQ]), ref_on (u := ⟨1, false, tn, nm, vl, c, atl ++ [(nm, vl)]⟩) (by simp [refStep])]
   simp
  ·rw [runW_miss t (by simp [eQ, hc]), restW_miss t (by simp [eQ, hc]), ref_on (u := ⟨6, sl, tn, nm, vl ++ [c], q, atl⟩) (by simp [refStep, hc]), ref_quotes N kind sl tn nm q atl t]
   simp
theorem ref_value (N kind : Nat) (sl : Bool) (tn nm : List Nat) (q : Nat) (atl : List AT) : ∀ (l vl : List Nat),
  BtTo N kind tn (atl ++ [(nm, vl ++ runW eVal l)]) (restW eVal l) (refGo N kind ⟨5, sl, tn, nm, vl, q, atl⟩ l)
 | [], vl => ⟨nm, vl, q, by simp [refGo, refEnd, runW_nil, restW_nil]⟩
 | c :: t, vl => by
  by_cases hb : blkB c = true
  ·have hn := blk_not hb
   rw [runW_hit t (by simp [eVal, hb]), restW_hit t (by simp [eVal, hb])]
   refine ⟨nm, vl, q, ?_⟩
   rw [ref_st1_blk _ _ _ _ _ _ _ _ hb, ref_on (u := ⟨1, false, tn, nm, vl, q, atl ++ [(nm, vl)]⟩) (by simp [refStep, hb, hn])]
   simp
  ·have hb : blkB c = false := by simpa using hb
   by_cases h62 : c = 62
   ·subst h62
    rw [runW_hit t rfl, restW_hit t rfl]
    refine ⟨nm, vl, q, ?_⟩
    rw [ref_st1_gt, ref_end (u := ⟨1, false, tn, nm, vl, q, atl ++ [(nm, vl)]⟩) rfl]
    simp
   ·rw [runW_miss t (by simp [eVal, hb, h62]), restW_miss t (by simp [eVal, hb, h62]), ref_on (u := ⟨5, sl, tn, nm, vl ++ [c], q, atl⟩) (by simp [refStep, hb, h62])]
    have := ref_value N kind sl tn nm q atl t (vl ++ [c])
    simpa using this
theorem eBlk_of {c : Nat} (h : blkB c = true) : eBlk c = false := by simp [eBlk, h]
theorem eBlk_not {c : Nat} (h : blkB c = false) : eBlk c = true := by simp [eBlk, h]
theorem ref_equals (N kind : Nat) (sl : Bool) (tn nm : List Nat) (q : Nat) (atl : List AT) : ∀ (l : List Nat),
  BtTo N kind tn (atl ++ [(nm, (valueR (restW eBlk l)).1)]) (valueR (restW eBlk l)).2 (refGo N kind ⟨4, sl, tn, nm, [], q, atl⟩ l)
 | [] => ⟨nm, [], q, by simp [refGo, refEnd, restW_nil, valueR]⟩
 | c :: t => by
  by_cases hb : blkB c = true
  ·have hn := blk_not hb
   rw [restW_miss t (eBlk_of hb), ref_on (u := ⟨4, sl, tn, nm, [], q, atl⟩) (by simp [refStep, hb, hn])]
   exact ref_equals N kind sl tn nm q atl t
  ·have hb : blkB c = false := by simpa using hb
   rw [restW_hit t (eBlk_not hb)]
   by_cases hq : c = 34 ∨ c = 39
   ·have e : valueR (c :: t) = (runW (eQ c) t, (restW (eQ c) t).drop 1) := by simp [valueR, hq]
    rw [e, ref_on (u := ⟨6, sl, tn, nm, [], c, atl⟩) (by rcases hq with rfl | rfl <;> rfl), ref_quotes]
    exact ⟨nm, runW (eQ c) t, c, by simp⟩
   ·have e : valueR (c :: t) = (runW eVal (c :: t), restW eVal (c :: t)) := by simp [valueR, hq]
    rw [e]
    by_cases h62 : c = 62
    ·subst h62
     rw [runW_hit t rfl, restW_hit t rfl]
     refine ⟨nm, [], q, ?_⟩
     rw [ref_st1_gt, ref_end (u := ⟨1, false, tn, nm, [], q, atl ++ [(nm, [])]⟩) rfl]
    ·have hq' : c ≠ 34 ∧ c ≠ 39 := by omega
     rw [runW_miss t (by simp [eVal, hb, h62]), restW_miss t (by simp [eVal, hb, h62]), ref_on (u := ⟨5, sl, tn, nm, [c], q, atl⟩) (by simp [refStep, hb, h62, hq'])]
     exact ref_value N kind sl tn nm q atl t [c]
def tailR (nm : List Nat) (r : List Nat) : AT × List Nat := match r with
 | [] => ((nm, []), [])
 | c :: t => if c = 61 then ((nm, (valueR (restW eBlk t)).1), (valueR (restW eBlk t)).2) else ((nm, []), c :: t)
theorem attrR_tail (l : List Nat) : attrR l = tailR (attrN l) (attrP l) := rfl
theorem ref_behind (N kind : Nat) (sl : Bool) (tn nm : List Nat) (q : Nat) (atl : List AT) : ∀ (l : List Nat),
  BtTo N kind tn (atl ++ [(tailR nm (restW eBlk l)).1]) (tailR nm (restW eBlk l)).2 (refGo N kind ⟨3, sl, tn, nm, [], q, atl⟩ l)
 | [] => ⟨nm, [], q, by simp [refGo, refEnd, restW_nil, tailR]⟩
 | c :: t => by
  by_cases hb : blkB c = true
  ·have hn := blk_not hb
   rw [restW_miss t (eBlk_of hb), ref_on (u := ⟨3, sl, tn, nm, [], q, atl⟩) (by simp [refStep, hb, hn])]
   exact ref_behind N kind sl tn nm q atl t
  ·have hb : blkB c = false := by simpa using hb
   rw [restW_hit t (eBlk_not hb)]
   by_cases h61 : c = 61
   ·subst h61
    rw [ref_on (u := ⟨4, sl, tn, nm, [], q, atl⟩) rfl]
    exact ref_equals N kind sl tn nm q atl t
   ·have e : tailR nm (c :: t) = ((nm, []), c :: t) := by simp [tailR, h61]
    rw [e]
    by_cases h62 : c = 62
    ·subst h62
     exact ⟨nm, [], q, by rw [ref_st1_gt, ref_end (u := ⟨1, false, tn, nm, [], q, atl ++ [(nm, [])]⟩) rfl]⟩
    ·by_cases h47 : c = 47
     ·subst h47
      exact ⟨nm, [], q, by rw [ref_st1_sl, ref_on (u := ⟨1, true, tn, nm, [], q, atl ++ [(nm, [])]⟩) rfl]⟩
     ·exact ⟨nm, [], q, by rw [ref_st1_else _ _ _ _ _ _ _ _ hb h47 h62, ref_on (u := ⟨2, false, tn, [lowN c], [], q, atl ++ [(nm, [])]⟩) (by simp [refStep, hb, h47, h62, h61])]⟩
theorem ref_attr (N kind : Nat) (sl : Bool) (tn : List Nat) (q : Nat) (atl : List AT) : ∀ (l nm : List Nat),
  BtTo N kind tn (atl ++ [(tailR (nm ++ lowL (runW eAttr l)) (restW eBlk (restW eAttr l))).1]) (tailR (nm ++ lowL (runW eAttr l)) (restW eBlk (restW eAttr l))).2 (refGo N kind ⟨2, sl, tn, nm, [], q, atl⟩ l)
 | [], nm => ⟨nm, [], q, by simp [refGo, refEnd, restW_nil, runW_nil, tailR, lowL]⟩
 | c :: t, nm => by
  by_cases hb : blkB c = true
  ·have hn := blk_not hb
   rw [runW_hit t (by simp [eAttr, hb]), restW_hit t (by simp [eAttr, hb]), restW_miss t (eBlk_of hb), ref_on (u := ⟨3, sl, tn, nm, [], q, atl⟩) (by simp [refStep, hb, hn])]
   simpa [lowL] using ref_behind N kind sl tn nm q atl t
  ·have hb : blkB c = false := by simpa using hb
   by_cases h61 : c = 61
   ·subst h61
    rw [runW_hit t rfl, restW_hit t rfl, restW_hit t rfl, ref_on (u := ⟨4, sl, tn, nm, [], q, atl⟩) rfl]
    simpa [lowL, tailR] using ref_equals N kind sl tn nm q atl t
   ·by_cases h62 : c = 62
    ·subst h62
     rw [runW_hit t rfl, restW_hit t rfl, restW_hit t rfl]
     exact ⟨nm, [], q, by simp only [lowL, List.map_nil, List.append_nil, tailR]; rw [if_neg (by decide), ref_st1_gt, ref_end (u := ⟨1, false, tn, nm, [], q, atl ++ [(nm, [])]⟩) rfl]⟩
    ·by_cases h47 : c = 47
     ·subst h47
      rw [runW_hit t rfl, restW_hit t rfl, restW_hit t rfl]
      exact ⟨nm, [], q, by simp only [lowL, List.map_nil, List.append_nil, tailR]; rw [if_neg (by decide), ref_st1_sl, ref_on (u := ⟨1, true, tn, nm, [], q, atl ++ [(nm, [])]⟩) rfl]⟩
     ·have he : eAttr c = false := by simp [eAttr, hb, h61, h62, h47]
      rw [runW_miss t he, restW_miss t he, ref_on (u := ⟨2, sl, tn, nm ++ [lowN c], [], q, atl⟩) (by simp [refStep, hb, h47, h62, h61])]
      simpa [lowL] using ref_attr N kind sl tn q atl t (nm ++ [lowN c])
theorem ref_between (N kind : Nat) (tn nm vl : List Nat) (q : Nat) (atl : List AT) : ∀ (l : List Nat) (sl : Bool),
  refGo N kind ⟨1, sl, tn, nm, vl, q, atl⟩ l = match restW eSep l with
   | [] => ⟨kind, N, tn, atl, false, false⟩
   | c :: t => if c = 62 then ⟨kind, N - t.length, tn, atl, (match (runW eSep l).getLast? with | none => sl | some x => x == 47), true⟩ else refGo N kind ⟨2, (match (runW eSep l).getLast? with | none => sl | some x => x == 47), tn, [lowN c], [], q, atl⟩ t
 | [], sl => by simp [refGo, refEnd, restW_nil]
 | c :: t, sl => by
  have hl : ∀ (r : List Nat) (s : Bool), (c :: r).getLast? = some ((r.getLast?).getD c) := fun r s => by simp [List.getLast?_cons]
  by_cases hb : blkB c = true
  ·have hn := blk_not hb
   have e47 : (c == 47) = false := by simp [hn]
   rw [ref_st1_blk _ _ _ _ _ _ _ _ hb, restW_miss t (by simp [eSep, hb]), runW_miss t (by simp [eSep, hb]), ref_between N kind tn nm vl q atl t, hl _ sl]
   cases (runW eSep t).getLast? <;> simp [e47]
  ·have hb : blkB c = false := by simpa using hb
   by_cases h47 : c = 47
   ·subst h47
    rw [ref_st1_sl, restW_miss t rfl, runW_miss t rfl, ref_between N kind tn nm vl q atl t, hl _ sl]
    cases (runW eSep t).getLast? <;> simp
   ·have he : eSep c = true := by simp [eSep, hb, h47]
    rw [restW_hit t he, runW_hit t he]
    by_cases h62 : c = 62
    ·subst h62
     rw [ref_st1_gt]; rfl
    ·rw [ref_st1_else _ _ _ _ _ _ _ _ hb h47 h62]
     simp [h62]
theorem ref_tagR (N kind : Nat) (tn : List Nat) : ∀ (f : Nat) (atl : List AT) (l nm vl : List Nat) (q : Nat), l.length ≤ f → refGo N kind ⟨1, false, tn, nm, vl, q, atl⟩ l = tagR N kind tn f atl l := by
 intro f
 induction f with
 | zero =>
  intro atl l nm vl q h
  have : l = [] := List.eq_nil_of_length_eq_zero (by omega)
  subst this
  simp [refGo, refEnd, tagR, restW_nil]
 | succ f ih =>
  intro atl l nm vl q h
  rw [ref_between, tagR]
  have hle := restW_le eSep l
  cases e : restW eSep l with
  | nil => rfl
  | cons c t =>
   rw [e] at hle
   dsimp only
   by_cases h62 : c = 62
   ·rw [if_pos h62, if_pos h62]
    cases (runW eSep l).getLast? <;> simp
   ·rw [if_neg h62, if_neg h62]
    obtain ⟨nm', vl', q', hh⟩ := ref_attr N kind (match (runW eSep l).getLast? with | none => false | some x => x == 47) tn q atl t [lowN c]
    rw [hh]
    have ea : attrR (c :: t) = tailR ([lowN c] ++ lowL (runW eAttr t)) (restW eBlk (restW eAttr t)) := by
     rw [attrR_tail]
     simp [attrN, attrP, lowL]
    rw [ea]
    refine ih _ _ _ _ _ ?_
    rw [← ea]
    have := attrR_lt (l := c :: t) (by simp)
    omega
theorem ref_name (N kind : Nat) (nm vl : List Nat) (q : Nat) (atl : List AT) : ∀ (l tn : List Nat) (sl : Bool),
  refGo N kind ⟨0, sl, tn, nm, vl, q, atl⟩ l = refGo N kind ⟨1, false, tn ++ lowL (runW eName l), nm, vl, q, atl⟩ (restW eName l)
 | [], tn, sl => by simp [refGo, refEnd, runW_nil, restW_nil, lowL]
 | c :: t, tn, sl => by
  by_cases hb : blkB c = true
  ·have hn := blk_not hb
   rw [runW_hit t (by simp [eName, hb]), restW_hit t (by simp [eName, hb]), ref_st1_blk _ _ _ _ _ _ _ _ hb, ref_on (u := ⟨1, false, tn, nm, vl, q, atl⟩) (by simp [refStep, hb, hn])]
   simp [lowL]
  ·have hb : blkB c = false := by simpa using hb
   by_cases h62 : c = 62
   ·subst h62
    rw [runW_hit t rfl, restW_hit t rfl, ref_st1_gt, ref_end (u := ⟨1, false, tn, nm, vl, q, atl⟩) rfl]
    simp [lowL]
   ·by_cases h47 : c = 47
    ·subst h47
     rw [runW_hit t rfl, restW_hit t rfl, ref_st1_sl, ref_on (u := ⟨1, true, tn, nm, vl, q, atl⟩) rfl]
     simp [lowL]
    ·have he : eName c = false := by simp [eName, hb, h62, h47]
     rw [runW_miss t he, restW_miss t he, ref_on (u := ⟨0, sl, tn ++ [lowN c], nm, vl, q, atl⟩) (by simp [refStep, hb, h47, h62]), ref_name N kind nm vl q atl t]
     simp [lowL]
def rs0 : RS := ⟨0, false, [], [], [], 0, []⟩
end Go.Proofs.YtfafhbgkmlmmdaaGreatDoor.G
