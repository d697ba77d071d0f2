/-
  TagReads: the walk of the law.
-/
import Derived.Test.YtplnkmojkdbbnaaGrw
import Derived.Test.YtplnkmojkdbbnaaRrd
namespace Go.Proofs.Ytplnkmojkdbbnaa
open Go.RowKit Go.Shelf Go.Lib Go.Maps Go.Sort

theorem refReadV_any (xs : List Nat) (A : Option Addr) (cap : Nat) (I : Int) (w : World) (h : BY w w.heap.size xs A cap) (hl : xs.length ≤ 100000) :
    Calls Try.prog 10 #[.slice A xs.length cap, .int .i64 I] w (RdV w (rdAt xs I)) :=
  (refRead_any xs A cap I w h hl).mono fun e w' ⟨v, h1, h2, h3⟩ => by
    obtain ⟨A', c', rfl, ha⟩ := AS.of_own h2
    exact ⟨A', c', h1, ha, h3⟩
set_option maxHeartbeats 8000000 in
set_option maxRecDepth 100000 in
theorem readsLaw_any (xs : List Nat) (A : Option Addr) (cap : Nat) (I : Int) (w : World) (hm : MX w) (h : BY w w.heap.size xs A cap) :
    Calls Try.prog 3 #[.slice A xs.length cap, .int .i64 I] w fun r w' => r = .returned (.bool true) ∧ Below w.heap.size w w' := by
  have hlen := h.len
  have hAw := awake_any w hm
  by_cases hl : 200 < xs.length
  · generalize xs.length = N at *
    have i1 : (200 : Int) < (N : Int) := by omega
    have HA := Lib.hid hAw
    clear h hl hAw hm
    go_enter Try.func3, Try.ntmps3
    go_wp2_with fail
    refine HA.out.mono ?_
    rintro r w1 ⟨rfl, hb1⟩
    have HB := Lib.hid hb1
    clear hb1
    go_wp2_with fail
    go_ret
    exact ⟨rfl, HB.out⟩
  have K1 := fun W (hb : Below w.heap.size w W) => readV_any xs A cap I W (hm.on hm.pos hb) (h.on hb) (by omega)
  have K2 := fun W (hb : Below w.heap.size w W) => refReadV_any xs A cap I W (h.on hb) (by omega)
  generalize rdAt xs I = O at *
  unfold RdV at K1 K2
  have K3 := fun W A1 A2 c1 c2 h1 h2 => alike_same (O.getD tg0) A1 A2 c1 c2 W h1 h2
  unfold tagV strV at K3
  obtain ⟨T, hT⟩ : ∃ T, O.getD tg0 = T := ⟨_, rfl⟩
  obtain ⟨ok, hok⟩ : ∃ b, O.isSome = b := ⟨_, rfl⟩
  rw [hT, hok] at K1 K2
  rw [hT] at K3
  obtain ⟨TL, hTL⟩ : ∃ n, T.attrs.length = n := ⟨_, rfl⟩
  obtain ⟨NB, hNB⟩ : ∃ S : ByteArray, ⟨(u8s T.name).toArray⟩ = S := ⟨_, rfl⟩
  rw [hTL, hNB] at K1 K2 K3
  have i1 : ¬ (200 : Int) < (xs.length : Int) := by omega
  generalize xs.length = N at *
  have HA := Lib.hid (And.intro hAw (And.intro K1 (And.intro K2 K3)))
  clear h hl hm K1 K2 K3 hT hok hAw hTL hNB
  go_enter Try.func3, Try.ntmps3
  go_wp2_with fail
  refine HA.out.1.mono ?_
  rintro r w1 ⟨rfl, hb1⟩
  have HB1 := Lib.hid hb1
  clear hb1
  go_wp2_with fail
  refine (HA.out.2.1 _ HB1.out).mono ?_
  rintro r w2 ⟨A1, c1, rfl, ha1, hb2⟩
  have HB2 := Lib.hid (And.intro (HB1.out.trans (hb2.mono HB1.out.size)) ha1)
  clear hb2 ha1
  obtain ⟨W3, hW3⟩ : ∃ W, w2.alloc (.cells #[.int .i64 (T.kind : Int), .int .i64 (T.size : Int), .string NB, .slice A1 TL c1, .bool T.single, .bool T.closed] 26) = W := ⟨_, rfl⟩
  have x1 : Cells W3 w2.heap.size 26 #[.int .i64 (T.kind : Int), .int .i64 (T.size : Int), .string NB, .slice A1 TL c1, .bool T.single, .bool T.closed] := by rw [← hW3]; exact cells_new _ _ _
  have b3 : Below w.heap.size w W3 := by rw [← hW3]; exact below_lit HB2.out.1 _
  have a3 : AS W3 W3.heap.size T.attrs A1 c1 := by rw [← hW3]; exact HB2.out.2.on (below_new _ _)
  have H3 := Lib.hid (And.intro x1 (And.intro b3 a3))
  clear x1 b3 a3
  go_wp2_with fail
  refine (HA.out.2.2.1 _ H3.out.2.1).mono ?_
  rintro r w4 ⟨A2, c2, rfl, ha2, hb4⟩
  clear hW3
  have b4 : Below w.heap.size w w4 := H3.out.2.1.trans (hb4.mono H3.out.2.1.size)
  obtain ⟨W5, hW5⟩ : ∃ W, w4.alloc (.cells #[.int .i64 (T.kind : Int), .int .i64 (T.size : Int), .string NB, .slice A2 TL c2, .bool T.single, .bool T.closed] 31) = W := ⟨_, rfl⟩
  have x2 : Cells W5 w4.heap.size 31 #[.int .i64 (T.kind : Int), .int .i64 (T.size : Int), .string NB, .slice A2 TL c2, .bool T.single, .bool T.closed] := by rw [← hW5]; exact cells_new _ _ _
  have b45 : Below w4.heap.size w4 W5 := by rw [← hW5]; exact below_new _ _
  have x1 : Cells W5 w2.heap.size 26 #[.int .i64 (T.kind : Int), .int .i64 (T.size : Int), .string NB, .slice A1 TL c1, .bool T.single, .bool T.closed] := (H3.out.1.on hb4).on b45
  have a1 := (H3.out.2.2.on hb4).on b45
  have a2 := ha2.on b45
  have C := HA.out.2.2.2 W5 A1 A2 c1 c2 a1 a2
  have p0 := x1.cell 0
  have p1 := x1.cell 1
  have p2 := x1.cell 2
  have p3 := x1.cell 3
  have p4 := x1.cell 4
  have p5 := x1.cell 5
  have q0 := x2.cell 0
  have q1 := x2.cell 1
  have q2 := x2.cell 2
  have q3 := x2.cell 3
  have q4 := x2.cell 4
  have q5 := x2.cell 5
  simp at p0 p1 p2 p3 p4 p5 q0 q1 q2 q3 q4 q5
  have H5 := Lib.hid (And.intro C (b4.trans (b45.mono b4.size)))
  clear C x1 x2 a1 a2 ha2 hb4 b4 b45
  go_wp2_with fail
  refine H5.out.1.mono ?_
  rintro r w6 ⟨rfl, hb6⟩
  have HB := Lib.hid (H5.out.2.trans (hb6.mono H5.out.2.size))
  clear hb6 hW5
  go_wp2_with fail
  go_ret
  exact ⟨by first | rfl | simp, HB.out⟩
end Go.Proofs.Ytplnkmojkdbbnaa
