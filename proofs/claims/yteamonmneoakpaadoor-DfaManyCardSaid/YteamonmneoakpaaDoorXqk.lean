/-
  The walk of DfaSame.
  Which states come of the first one, as lists.
  DERIVED: THE SHELF's CONTRACTS AT THIS DUMP, IN PLAIN WORDS (tools/lay-plain.mjs out of 'TrydShelS.lean', which tools/lay-shelf.mjs wrote): THE SAME DECLARATIONS UNDER THE SAME NAMES: 'import', 'namespace', 'open', 'def', 'theorem' AND NOTHING ELSE: no command of the shelf's: FOR A HAND-IN. Each laying: the table of numbers ('.._ren') and one theorem, a field a fact of the dump's own or the kernel's comparison; each contract: ONE APPLICATION.
  Laws for the walk: a list of numbers is appended to one of the call's own.
  Contracts: dfa.Reached.
  An expression in memory whose parts lie in blocks of which something is known.
  The automaton of so many leaves side by side. No program.
-/
import Derived.Test.YteamonmneoakpaaDoorXqj
import Derived.Test.YteamonmneoakpaaDoorXqi
import Derived.Shelf.LaysM
import Derived.Shelf.Sort.Plain
import Derived.Ground.Names2Prog
import Derived.Test.YteamonmneoakpaaDoorProg
import Derived.Test.YteamonmneoakpaaDoorXqf
import Derived.Laws.AppendOwnNone
import Derived.Sort.OwnSortedInts
import Derived.Laws.MakeOwn
import Derived.Deep.RegionHeld3
import Derived.Deep.AppendLies
namespace Go.Proofs.YteamonmneoakpaaDoor
open Go.RowKit Go.Shelf Go.Lib Go.Great Go.Maps Go.Sort

set_option maxHeartbeats 8000000 in
set_option maxRecDepth 100000 in
theorem dfaSame_any {R R' : List (List Int)} {T T' : List Nat} {v v' : Value} {w : World} (h : TbV w R T v) (h' : TbV w R' T' v') (hT : TZ w) (hP : PW w) :
    Calls Tryd.prog 9 #[v, v'] w fun r w' => r = .returned (.bool true) ∧ Below w.heap.size w w' := by
  have h0 := h
  have h0' := h'
  obtain ⟨A, c, A2, c2, rfl, hR, hT1⟩ := h
  obtain ⟨A', c', A2', c2', rfl, hR', hT1'⟩ := h'
  clear hR hT1 hR' hT1'
  obtain ⟨n1, hn1⟩ : ∃ n, R.length = n := ⟨_, rfl⟩
  obtain ⟨n2, hn2⟩ : ∃ n, T.length = n := ⟨_, rfl⟩
  obtain ⟨n3, hn3⟩ : ∃ n, R'.length = n := ⟨_, rfl⟩
  obtain ⟨n4, hn4⟩ : ∃ n, T'.length = n := ⟨_, rfl⟩
  rw [hn1, hn2] at h0 ⊢
  rw [hn3, hn4] at h0' ⊢
  clear hn1 hn2 hn3 hn4
  obtain ⟨W0, hW0⟩ : ∃ W, (w.alloc (.cells #[.slice A n1 c, .slice A2 n2 c2] 57)).alloc (.cells #[.slice A' n3 c', .slice A2' n4 c2'] 57) = W := ⟨_, rfl⟩
  have b0 : Below w.heap.size w W0 := by rw [← hW0]; exact (below_new w _).trans ((below_new _ _).mono (by simp))
  have x0 : Cells W0 w.heap.size 57 #[.slice A n1 c, .slice A2 n2 c2] := by rw [← hW0]; exact ((below_new _ _).block _ (by simp)).trans (cells_new _ _ _)
  have x1 : Cells W0 (w.heap.size + 1) 57 #[.slice A' n3 c', .slice A2' n4 c2'] := by
    rw [← hW0]
    have := cells_new (w.alloc (.cells #[.slice A n1 c, .slice A2 n2 c2] 57)) #[.slice A' n3 c', .slice A2' n4 c2'] 57
    simpa using this
  have e0 := x0.cell 0
  have e1 := x0.cell 1
  have e2 := x1.cell 0
  have e3 := x1.cell 1
  simp at e0 e1 e2 e3
  have C1 := great_tab (h0.on b0)
  have H := Lib.hid (And.intro b0 (And.intro x0 (And.intro x1 (And.intro h0 (And.intro h0' (And.intro hT hP))))))
  have HW := Lib.hid hW0
  have HC1 := Lib.hid C1
  clear b0 x0 x1 hW0 h0 h0' hT hP C1
  cases hg : greatT R T with
  | true =>
    rw [hg] at HC1
    clear hg
    go_enter Tryd.func9, Tryd.ntmps9
    go_wp2_with fail
    rw [HW.out]
    refine HC1.out.mono ?_
    rintro r w2 ⟨rfl, hb⟩
    have bw := H.out.1.trans (hb.mono H.out.1.size)
    have C := Lib.hid (awake9_any w2 (H.out.2.2.2.2.2.1.below bw H.out.2.2.2.2.2.1.lt) (H.out.2.2.2.2.2.2.below bw H.out.2.2.2.2.2.2.lt))
    have HB := Lib.hid bw
    clear bw hb e0 e1 e2 e3
    go_wp2_with fail
    refine C.out.mono ?_
    rintro r w3 ⟨rfl, hb3⟩
    have HB3 := Lib.hid (HB.out.trans (hb3.mono HB.out.size))
    clear hb3
    go_wp2_with fail
    go_ret
    exact ⟨rfl, HB3.out⟩
  | false =>
    rw [hg] at HC1
    clear hg
    go_enter Tryd.func9, Tryd.ntmps9
    go_wp2_with fail
    rw [HW.out]
    refine HC1.out.mono ?_
    rintro r w2 ⟨rfl, hb⟩
    have bw := H.out.1.trans (hb.mono H.out.1.size)
    have y0 : Cells w2 w.heap.size 57 #[.slice A n1 c, .slice A2 n2 c2] := (hb.block _ H.out.2.1.lt).trans H.out.2.1
    have y1 : Cells w2 (w.heap.size + 1) 57 #[.slice A' n3 c', .slice A2' n4 c2'] := (hb.block _ H.out.2.2.1.lt).trans H.out.2.2.1
    have g2 := y1.cell 0
    have g3 := y1.cell 1
    simp at g2 g3
    have C2 := great_tab (H.out.2.2.2.2.1.on bw)
    have HC2 := Lib.hid C2
    have HB := Lib.hid (And.intro bw (And.intro y0 y1))
    clear bw hb y0 y1 C2 e0 e1 e2 e3
    go_wp2_with fail
    refine HC2.out.mono ?_
    rintro r w3 ⟨rfl, hb3⟩
    have bw := HB.out.1.trans (hb3.mono HB.out.1.size)
    have y0 : Cells w3 w.heap.size 57 #[.slice A n1 c, .slice A2 n2 c2] := (hb3.block _ HB.out.2.1.lt).trans HB.out.2.1
    have y1 : Cells w3 (w.heap.size + 1) 57 #[.slice A' n3 c', .slice A2' n4 c2'] := (hb3.block _ HB.out.2.2.lt).trans HB.out.2.2
    have C := Lib.hid (awake9_any w3 (H.out.2.2.2.2.2.1.below bw H.out.2.2.2.2.2.1.lt) (H.out.2.2.2.2.2.2.below bw H.out.2.2.2.2.2.2.lt))
    have HB3 := Lib.hid (And.intro bw (And.intro y0 y1))
    clear bw y0 y1 hb3 g2 g3
    cases hg : greatT R' T' with
    | true =>
      clear hg
      go_wp2_with fail
      refine C.out.mono ?_
      rintro r w4 ⟨rfl, hb4⟩
      have HB4 := Lib.hid (HB3.out.1.trans (hb4.mono HB3.out.1.size))
      clear hb4
      go_wp2_with fail
      go_ret
      exact ⟨rfl, HB4.out⟩
    | false =>
      clear hg
      go_wp2_with fail
      refine C.out.mono ?_
      rintro r w4 ⟨rfl, hb4⟩
      have bw := HB3.out.1.trans (hb4.mono HB3.out.1.size)
      have y0 : Cells w4 w.heap.size 57 #[.slice A n1 c, .slice A2 n2 c2] := (hb4.block _ HB3.out.2.1.lt).trans HB3.out.2.1
      have y1 : Cells w4 (w.heap.size + 1) 57 #[.slice A' n3 c', .slice A2' n4 c2'] := (hb4.block _ HB3.out.2.2.lt).trans HB3.out.2.2
      have g0 : w4.cell? ⟨w.heap.size, 0, none⟩ = some (.slice A n1 c) := y0.cell 0
      have g1 : w4.cell? ⟨w.heap.size, 1, none⟩ = some (.slice A2 n2 c2) := y0.cell 1
      have g2 : w4.cell? ⟨w.heap.size + 1, 0, none⟩ = some (.slice A' n3 c') := y1.cell 0
      have g3 : w4.cell? ⟨w.heap.size + 1, 1, none⟩ = some (.slice A2' n4 c2') := y1.cell 1
      have q0 := cell_regrown g0
      have q1 := cell_regrown g1
      have q2 := cell_regrown g2
      have q3 := cell_regrown g3
      have t1 := H.out.2.2.2.1.on bw
      have t2 := H.out.2.2.2.2.1.on bw
      have D1 : ∀ d os, Calls Tryd.prog 34 #[.agg #[.slice A n1 c, .slice A2 n2 c2]] (grow (redrawn w4 d) os) fun e w'' => e = .returned (.agg #[.slice A n1 c, .slice A2 n2 c2]) ∧ ∃ p : Regrown, w'' = grow (redrawn w4 p.d) p.os := fun d os => Calls.regrown_of (to_tab _ _ _ _ _ _ _)
      have D2 : ∀ d os, Calls Tryd.prog 34 #[.agg #[.slice A' n3 c', .slice A2' n4 c2']] (grow (redrawn w4 d) os) fun e w'' => e = .returned (.agg #[.slice A' n3 c', .slice A2' n4 c2']) ∧ ∃ p : Regrown, w'' = grow (redrawn w4 p.d) p.os := fun d os => Calls.regrown_of (to_tab _ _ _ _ _ _ _)
      have D3 : ∀ d os, Calls Tryd.prog 37 #[.agg #[.slice A n1 c, .slice A2 n2 c2], .agg #[.slice A' n3 c', .slice A2' n4 c2']] (grow (redrawn w4 d) os) fun e w'' => e = .returned (.bool (decide (R = R') && decide (T = T'))) ∧ ∃ p : Regrown, w'' = grow (redrawn w4 p.d) p.os :=
        fun d os => Calls.regrown_of (sameD_any (t1.on (below_regrown w4 d os)) (t2.on (below_regrown w4 d os)))
      have D4 : ∀ d os, Calls Tryd.prog 28 #[.agg #[.slice A n1 c, .slice A2 n2 c2], .agg #[.slice A' n3 c', .slice A2' n4 c2']] (grow (redrawn w4 d) os) fun e w'' => e = .returned (.bool (decide (R = R') && decide (T = T'))) ∧ ∃ p : Regrown, w'' = grow (redrawn w4 p.d) p.os :=
        fun d os => Calls.regrown_of (refSame_any (t1.on (below_regrown w4 d os)) (t2.on (below_regrown w4 d os)))
      have D5 : ∀ d os, Calls Tryd.prog 37 #[.agg #[.slice A n1 c, .slice A2 n2 c2], .agg #[.slice A n1 c, .slice A2 n2 c2]] (grow (redrawn w4 d) os) fun e w'' => e = .returned (.bool true) ∧ ∃ p : Regrown, w'' = grow (redrawn w4 p.d) p.os :=
        fun d os => by
          have := Calls.regrown_of (sameD_any (t1.on (below_regrown w4 d os)) (t1.on (below_regrown w4 d os)))
          simpa using this
      have HB4 := Lib.hid bw
      generalize (decide (R = R') && decide (T = T')) = p at *
      have hpp : (p == p) = true := by simp
      clear bw y0 y1 hb4 g0 g1 g2 g3 t1 t2
      go_wp2_with fail
      refine wp_region_quiet_below (by kernel_rfl) (by kernel_rfl) ?_
      repeat (go_big_quiet_step (first | (with_reducible exact D1 _ _) | (with_reducible exact D2 _ _) | (with_reducible exact D3 _ _) | (with_reducible exact D4 _ _) | (with_reducible exact D5 _ _)))
      refine wpQuiet_nil ?_
      intro _ hw'
      obtain ⟨⟨dq, osq⟩, hw''⟩ := hw'
      subst hw''
      have HB5 := Lib.hid (HB4.out.trans ((below_regrown w4 dq osq).mono HB4.out.size))
      clear q0 q1 q2 q3 D1 D2 D3 D4 D5
      go_wp2_with fail
      go_ret
      exact ⟨rfl, HB5.out⟩
end Go.Proofs.YteamonmneoakpaaDoor

namespace Go.Proofs.YteamonmneoakpaaDoor
open Go.RowKit Go.Shelf Go.Lib

inductive Rch (R : List (List Int)) : Nat → Prop where
  | z : Rch R 0
  | s {i j m : Nat} {r : List Int} : Rch R i → R[i]? = some r → r[m]? = some (j : Int) → Rch R j
/-- What has been found: the first k have been gone through. -/
structure FI (R : List (List Int)) (n k : Nat) (F : List Nat) : Prop where
  nd : F.Nodup
  lt : ∀ i ∈ F, i < n ∧ Rch R i
  z : F[0]? = some 0
  cl : ∀ i ∈ F.take k, ∀ r, R[i]? = some r → ∀ m j : Nat, r[m]? = some (j : Int) → j ∈ F
theorem FI.begin {R : List (List Int)} {n : Nat} (h : 0 < n) : FI R n 0 [0] := ⟨by simp, fun i hi => by simp at hi; subst hi; exact ⟨h, .z⟩, rfl, fun i hi => by simp at hi⟩
theorem FI.snoc {R : List (List Int)} {n k : Nat} {F : List Nat} (h : FI R n k F) (hk : k ≤ F.length) {j : Nat} (hj : j < n) (hr : Rch R j) (hn : j ∉ F) : FI R n k (F ++ [j]) := by
  refine ⟨?_, fun i hi => ?_, ?_, fun i hi r hr m q hq => ?_⟩
  · rw [List.nodup_append]
    exact ⟨h.nd, by simp, fun a ha b hb => by simp at hb; subst hb; intro e; subst e; exact hn ha⟩
  · rcases List.mem_append.1 hi with hi | hi
    · exact h.lt i hi
    · simp at hi; subst hi; exact ⟨hj, hr⟩
  · rw [List.getElem?_append_left (List.getElem?_eq_some_iff.1 h.z).1]; exact h.z
  · rw [List.take_append_of_le_length hk] at hi
    exact List.mem_append.2 (.inl (h.cl i hi r hr m q hq))
theorem FI.next {R : List (List Int)} {n k : Nat} {F : List Nat} (h : FI R n k F) {i : Nat} (hi : F[k]? = some i) (hall : ∀ r, R[i]? = some r → ∀ m j : Nat, r[m]? = some (j : Int) → j ∈ F) : FI R n (k + 1) F :=
  ⟨h.nd, h.lt, h.z, fun a ha => by
    rw [List.take_add_one, hi, Option.toList_some] at ha
    rcases List.mem_append.1 ha with ha | ha
    · exact h.cl a ha
    · simp at ha; subst ha; exact hall⟩
theorem nodup_len : ∀ (n : Nat) (F : List Nat), F.Nodup → (∀ i ∈ F, i < n) → F.length ≤ n
  | 0, F, _, h => by
    cases F with
    | nil => simp
    | cons a t => exact absurd (h a (by simp)) (by omega)
  | n + 1, F, hn, h => by
    by_cases hm : n ∈ F
    · have h1 := nodup_len n (F.erase n) (hn.erase n) (fun i hi => by
        have h2 := h i (List.mem_of_mem_erase hi)
        have h3 : i ≠ n := fun e => by subst e; exact (List.Nodup.not_mem_erase hn) hi
        omega)
      rw [List.length_erase_of_mem hm] at h1
      omega
    · have h1 := nodup_len n F hn (fun i hi => by
        have h2 := h i hi
        have h3 : i ≠ n := fun e => hm (e ▸ hi)
        omega)
      omega
theorem FI.len {R : List (List Int)} {n k : Nat} {F : List Nat} (h : FI R n k F) : F.length ≤ n := nodup_len n F h.nd (fun i hi => (h.lt i hi).1)
/-- In the end they are all that come. -/
theorem FI.all {R : List (List Int)} {n : Nat} {F : List Nat} (h : FI R n F.length F) {i : Nat} : i ∈ F ↔ Rch R i := by
  refine ⟨fun hi => (h.lt i hi).2, fun hr => ?_⟩
  induction hr with
  | z => exact List.mem_of_getElem? h.z
  | s _ h1 h2 ih => exact h.cl _ (by rw [List.take_length]; exact ih) _ h1 _ _ h2
/-- The list that is handed back. -/
structure RcL (R : List (List Int)) (L : List Int) : Prop where
  up : L.Pairwise (· < ·)
  m : ∀ x, x ∈ L ↔ ∃ i : Nat, x = (i : Int) ∧ Rch R i
theorem rcl_of {R : List (List Int)} {n : Nat} {F : List Nat} (h : FI R n F.length F) : RcL R ((F.map fun (i : Nat) => (i : Int)).mergeSort fun x y => decide (x ≤ y)) := by
  have hp := List.mergeSort_perm (F.map fun (i : Nat) => (i : Int)) (fun x y => decide (x ≤ y))
  have hs : ((F.map fun (i : Nat) => (i : Int)).mergeSort fun x y => decide (x ≤ y)).Pairwise (fun x y => decide (x ≤ y) = true) :=
    List.pairwise_mergeSort (le := fun x y => decide (x ≤ y)) (fun a b c h1 h2 => by simp at *; omega) (fun a b => by simp; omega) _
  have hn : ((F.map fun (i : Nat) => (i : Int)).mergeSort fun x y => decide (x ≤ y)).Nodup := hp.nodup_iff.2 (by
    rw [List.nodup_iff_pairwise_ne, List.pairwise_map]
    exact h.nd.imp (fun {a b} hab e => hab (by omega)))
  refine ⟨?_, fun x => ?_⟩
  · refine (hs.and hn).imp ?_
    rintro a b ⟨h1, h2⟩
    simp at h1
    have : a ≠ b := h2
    omega
  · rw [hp.mem_iff, List.mem_map]
    constructor
    · rintro ⟨i, hi, rfl⟩; exact ⟨i, rfl, h.all.1 hi⟩
    · rintro ⟨i, rfl, hr⟩; exact ⟨i, h.all.2 hr, rfl⟩
/-- Numbers that rise, and are all below n: if all come, there are n. -/
theorem up_len {L : List Int} {n : Nat} (hu : L.Pairwise (· < ·)) (hm : ∀ x, x ∈ L ↔ ∃ i : Nat, x = (i : Int) ∧ i < n) : L.length = n := by
  have h1 : L.length ≤ n := by
    have := nodup_len n (L.map Int.toNat) (by
      rw [List.nodup_iff_pairwise_ne, List.pairwise_map]
      refine (List.Pairwise.and_mem.1 hu).imp ?_
      rintro a b ⟨ha, hb, hlt⟩ e
      obtain ⟨i, rfl, _⟩ := (hm a).1 ha
      obtain ⟨j, rfl, _⟩ := (hm b).1 hb
      simp at e; omega) (fun i hi => by
      obtain ⟨x, hx, rfl⟩ := List.mem_map.1 hi
      obtain ⟨j, rfl, hj⟩ := (hm x).1 hx
      simpa using hj)
    simpa using this
  have h2 : n ≤ L.length := by
    have hs : ∀ x ∈ (List.range n).map (fun (i : Nat) => (i : Int)), x ∈ L := fun x hx => by
      obtain ⟨i, hi, rfl⟩ := List.mem_map.1 hx
      exact (hm _).2 ⟨i, rfl, List.mem_range.1 hi⟩
    have hnd : ((List.range n).map (fun (i : Nat) => (i : Int))).Nodup := by
      rw [List.nodup_iff_pairwise_ne, List.pairwise_map]
      exact List.nodup_range.imp (fun {a b} hab e => hab (by omega))
    have := hnd.length_le_of_subset hs
    simpa using this
  omega
end Go.Proofs.YteamonmneoakpaaDoor

namespace Go.Proofs
open Go.Shelf
def Tryd.lays189_ren : Go.Shelf.Ren := ⟨fun | 189 => 59 | 125 => 73 | 257 => 72 | 128 => 91 | 129 => 92 | 294 => 82 | 295 => 83 | 296 => 84 | 297 => 85 | 298 => 86 | 299 => 87 | 216 => 88 | 300 => 89 | 301 => 90 | 328 => 96 | 329 => 97 | 330 => 98 | 331 => 99 | 332 => 100 | 215 => 101 | 343 => 105 | n => n, fun | 28 => 23 | 3 => 3 | 46 => 117 | 0 => 0 | 51 => 133 | 53 => 37 | 4 => 4 | 183 => 126 | 182 => 125 | 131 => 123 | 5 => 5 | 9 => 9 | 218 => 137 | 222 => 141 | 228 => 149 | 229 => 150 | n => n, fun | n => n⟩
theorem Tryd.lays189 : Go.Proofs.Lays.n189 Tryd.prog Tryd.lays189_ren := {
  mixed := by kernel_rfl
  f125 := Tryd.func73.trans (congrArg some (by kernel_rfl))
  f128 := Tryd.func91.trans (congrArg some (by kernel_rfl))
  f129 := Tryd.func92.trans (congrArg some (by kernel_rfl))
  f189 := Tryd.func59.trans (congrArg some (by kernel_rfl))
  f215 := Tryd.func101.trans (congrArg some (by kernel_rfl))
  f216 := Tryd.func88.trans (congrArg some (by kernel_rfl))
  f257 := Tryd.func72.trans (congrArg some (by kernel_rfl))
  f294 := Tryd.func82.trans (congrArg some (by kernel_rfl))
  f295 := Tryd.func83.trans (congrArg some (by kernel_rfl))
  f296 := Tryd.func84.trans (congrArg some (by kernel_rfl))
  f297 := Tryd.func85.trans (congrArg some (by kernel_rfl))
  f298 := Tryd.func86.trans (congrArg some (by kernel_rfl))
  f299 := Tryd.func87.trans (congrArg some (by kernel_rfl))
  f300 := Tryd.func89.trans (congrArg some (by kernel_rfl))
  f301 := Tryd.func90.trans (congrArg some (by kernel_rfl))
  f328 := Tryd.func96.trans (congrArg some (by kernel_rfl))
  f329 := Tryd.func97.trans (congrArg some (by kernel_rfl))
  f330 := Tryd.func98.trans (congrArg some (by kernel_rfl))
  f331 := Tryd.func99.trans (congrArg some (by kernel_rfl))
  f332 := Tryd.func100.trans (congrArg some (by kernel_rfl))
  f343 := Tryd.func105.trans (congrArg some (by kernel_rfl))
  t0 := Tryd.underlying0
  a0 := Tryd.isAgg0
  z0 := Tryd.sizeOf0
  v0 := Tryd.zeroValue0
  t3 := Tryd.underlying3
  a3 := Tryd.isAgg3
  z3 := Tryd.sizeOf3
  v3 := Tryd.zeroValue3
  t4 := Tryd.underlying4
  a4 := Tryd.isAgg4
  z4 := Tryd.sizeOf4
  v4 := Tryd.zeroValue4
  t5 := Tryd.underlying5
  a5 := Tryd.isAgg5
  z5 := Tryd.sizeOf5
  v5 := Tryd.zeroValue5
  t9 := Tryd.underlying9
  a9 := Tryd.isAgg9
  z9 := Tryd.sizeOf9
  v9 := Tryd.zeroValue9
  t28 := Tryd.underlying23
  a28 := Tryd.isAgg23
  z28 := Tryd.sizeOf23
  v28 := Tryd.zeroValue23
  t46 := Tryd.underlying117
  a46 := Tryd.isAgg117
  z46 := Tryd.sizeOf117
  v46 := Tryd.zeroValue117
  t51 := Tryd.underlying133
  a51 := Tryd.isAgg133
  z51 := Tryd.sizeOf133
  v51 := Tryd.zeroValue133
  t53 := Tryd.underlying37
  a53 := Tryd.isAgg37
  z53 := Tryd.sizeOf37
  v53 := Tryd.zeroValue37
  t131 := Tryd.underlying123
  a131 := Tryd.isAgg123
  z131 := Tryd.sizeOf123
  v131 := Tryd.zeroValue123
  t182 := Tryd.underlying125
  a182 := Tryd.isAgg125
  z182 := Tryd.sizeOf125
  v182 := Tryd.zeroValue125
  t183 := Tryd.underlying126
  a183 := Tryd.isAgg126
  z183 := Tryd.sizeOf126
  v183 := Tryd.zeroValue126
  t218 := Tryd.underlying137
  a218 := Tryd.isAgg137
  z218 := Tryd.sizeOf137
  v218 := Tryd.zeroValue137
  t222 := Tryd.underlying141
  a222 := Tryd.isAgg141
  z222 := Tryd.sizeOf141
  v222 := Tryd.zeroValue141
  t228 := Tryd.underlying149
  a228 := Tryd.isAgg149
  z228 := Tryd.sizeOf149
  v228 := Tryd.zeroValue149
  t229 := Tryd.underlying150
  a229 := Tryd.isAgg150
  z229 := Tryd.sizeOf150
  v229 := Tryd.zeroValue150 }
open Go.Sort Go.RowKit in
theorem Tryd.slices_Sort_int (blk off cap : Nat) (zs : List Int) (w : World) (hH : Holds (Value.int .i64) w blk off zs.toArray) (hblk : blk < w.heap.size) (hsz : zs.length < 4611686018427387904) :
    Calls Tryd.prog 59 #[.slice (some ⟨blk, off, none⟩) zs.length cap] w fun e w' =>
      e = .returned (.tuple #[]) ∧ ∃ n os, w' = grow (putRow (Value.int .i64) (Sort.ahead w n) blk off (zs.mergeSort fun x y => decide (x ≤ y)).toArray) os := Any.slices_Sort_int Tryd.lays189 blk off cap zs w hH hblk hsz
end Go.Proofs

namespace Go.Proofs.YteamonmneoakpaaDoor
open Go.RowKit Go.Shelf Go.Lib

def intsC (l : List Int) : List Value := l.map fun x => Value.int .i64 x
theorem intsC_len (l : List Int) : (intsC l).length = l.length := by simp [intsC]
theorem intsC_append (l m : List Int) : intsC (l ++ m) = intsC l ++ intsC m := by simp [intsC]
def OwnI (w : World) (base : Nat) (l : List Int) (v : Value) : Prop := w.ownsRow base 3 1 v l.length (intsC l)
set_option maxRecDepth 100000 in
theorem wpList_append_is {ops : Array Oper} {rest : List Oper} {o : Oper} {a : Act} {w : World} {Q : Exit → Act → World → Prop} (hgd : o.guard = none) (s x : Operand)
    (ho : o.op = .call { callee := .builtin .append, args := #[s, x], argTypes := #[23, 23] }) (base : Nat) (v : Value) (l : List Int) (hs : a.eval s = v) (hown : OwnI w base l v)
    (xs : List Int) (A : Option Addr) (cap : Nat) (hx : a.eval x = .slice A xs.length cap) (his : IS w w.heap.size xs A cap) (hz : A = none → cap = 0) (h63 : l.length + xs.length ≤ 100000) (hbase : base ≤ w.heap.size)
    (h : ∀ v' w', OwnI w' base (l ++ xs) v' → w.grownBy w' v.ownBlock → wpList Tryd.prog ops Q rest (a.put o.dst v') w') : wpList Tryd.prog ops Q (o :: rest) a w := by
  obtain ⟨i0, hi, hz0, hz1, hz2⟩ := info_parts info3
  cases A with
  | none =>
    have hxs : xs = [] := by
      cases xs with
      | nil => rfl
      | cons y r => obtain ⟨b, o', e, _⟩ := his.r (by simp); cases e
    subst hxs
    obtain rfl := hz rfl
    refine wpList_append_own_none hgd s x 23 ho base 3 i0 1 Tryd.underlying23 hi v l.length (intsC l) hs hown hx (h v w (by simpa using hown) ?_)
    exact ⟨rfl, rfl, rfl, Nat.le_refl _, fun _ _ _ => rfl⟩
  | some ad =>
    have hnews : ∀ j u, (intsC xs)[j]? = some u → w.cell? (ad.add j) = some u := by
      intro j u hj
      unfold intsC at hj
      rw [List.getElem?_map] at hj
      obtain ⟨y, hy, rfl⟩ := Option.map_eq_some_iff.1 hj
      obtain ⟨b, o', e, _, hc⟩ := his.r (by rintro rfl; simp at hy)
      injection e with e
      subst e
      rw [Addr.add_mid]
      exact hc j y hy
    refine wpList_append_own _ hgd s x 23 ho base 3 i0 (.int .i64 0) 1 8 Tryd.underlying23 hi hz0 hz1 hz2 rfl (by decide) v l.length (intsC l) hs hown ad xs.length cap (intsC xs) hx (by rw [intsC_len]; omega) hnews
      (fun u hu => by unfold intsC at hu; obtain ⟨y, _, rfl⟩ := List.mem_map.1 hu; rfl) (by unfold maxLen; omega) (by omega) hbase fun v' w' h1 h2 _ => h v' w' ?_ h2
    unfold OwnI
    rw [intsC_append, List.length_append]
    exact h1
theorem wpList_wanted {P : Program} {ops : Array Oper} {rest : List Oper} {o : Oper} {a : Act} {w : World} {Q : Exit → Act → World → Prop} (hw : Region.wanted o (yielded ops a.tmps) = true)
    (h : ∀ K : Act → World → Prop, (∀ a w, wpList P ops Q rest a w → K a w) → o.wp P a w K Q) : wpList P ops Q (o :: rest) a w :=
  wpList_step fun K hK => by rw [if_pos hw]; exact h K hK
set_option maxRecDepth 100000 in
/-- The same at a guarded operation that is wanted. -/
theorem wpList_append_isG {ops : Array Oper} {rest : List Oper} {o : Oper} {a : Act} {w : World} {Q : Exit → Act → World → Prop} (hgw : Region.wanted o (yielded ops a.tmps) = true) (s x : Operand)
    (ho : o.op = .call { callee := .builtin .append, args := #[s, x], argTypes := #[23, 23] }) (base : Nat) (v : Value) (l : List Int) (hs : a.eval s = v) (hown : OwnI w base l v)
    (xs : List Int) (A : Option Addr) (cap : Nat) (hx : a.eval x = .slice A xs.length cap) (his : IS w w.heap.size xs A cap) (hz : A = none → cap = 0) (h63 : l.length + xs.length ≤ 100000) (hbase : base ≤ w.heap.size)
    (h : ∀ v' w', OwnI w' base (l ++ xs) v' → w.grownBy w' v.ownBlock → wpList Tryd.prog ops Q rest (a.put o.dst v') w') : wpList Tryd.prog ops Q (o :: rest) a w := by
  obtain ⟨i0, hi, hz0, hz1, hz2⟩ := info_parts info3
  cases A with
  | none =>
    have hxs : xs = [] := by
      cases xs with
      | nil => rfl
      | cons y r => obtain ⟨b, o', e, _⟩ := his.r (by simp); cases e
    subst hxs
    obtain rfl := hz rfl
    refine wpList_wanted hgw fun K hK => ?_
    have hrun := run_append_owned_none (P := Tryd.prog) (w := w) base 23 o.type 3 i0 1 Tryd.underlying23 hi v l.length (intsC l) hown
    unfold Oper.wp
    simp [execOp, ho, resolve, invoke, builtin, hs, hx, hrun, Result.andThen]
    exact hK _ _ (h v w (by simpa using hown) ⟨rfl, rfl, rfl, Nat.le_refl _, fun _ _ _ => rfl⟩)
  | some ad =>
    have hnews : ∀ j u, (intsC xs)[j]? = some u → w.cell? (ad.add j) = some u := by
      intro j u hj
      unfold intsC at hj
      rw [List.getElem?_map] at hj
      obtain ⟨y, hy, rfl⟩ := Option.map_eq_some_iff.1 hj
      obtain ⟨b, o', e, _, hc⟩ := his.r (by rintro rfl; simp at hy)
      injection e with e
      subst e
      rw [Addr.add_mid]
      exact hc j y hy
    refine wpList_wanted hgw fun K hK => wp_append_own _ s x 23 ho base 3 i0 (.int .i64 0) 1 8 Tryd.underlying23 hi hz0 hz1 hz2 rfl (by decide) v l.length (intsC l) hs hown ad xs.length cap (intsC xs) hx (by rw [intsC_len]; omega) hnews
      (fun u hu => by unfold intsC at hu; obtain ⟨y, _, rfl⟩ := List.mem_map.1 hu; rfl) (by unfold maxLen; omega) (by omega) hbase fun v' w' h1 h2 _ => hK _ _ (h v' w' ?_ h2)
    unfold OwnI
    rw [intsC_append, List.length_append]
    exact h1
theorem OwnP.is2 {w : World} {base m : Nat} {v : Value} (h : OwnP w base (posL m) v) : ∃ A cap, v = .slice A (posI m).length cap ∧ IS w w.heap.size (posI m) A cap ∧ (A = none → cap = 0) := by
  obtain ⟨A, cap, he, hi⟩ := h.is
  refine ⟨A, cap, he, hi, fun e => ?_⟩
  subst e
  rcases h.2 with ⟨h1, _⟩ | ⟨g, c, cur, h1, _⟩
  · rw [he] at h1; injection h1
  · rw [he] at h1
    have h2 : (none : Option Nat) = some g := congrArg Value.ownBlock h1
    exact absurd h2 (by simp)
theorem OwnI.is {w : World} {base : Nat} {l : List Int} {v : Value} (h : OwnI w base l v) (hl : ∀ x ∈ l, i64 x) : ∃ A cap, v = .slice A l.length cap ∧ IS w w.heap.size l A cap ∧ (A = none → cap = 0) := by
  rcases h.2 with ⟨h1, h2⟩ | ⟨g, cap, cur, h1, h2, h3, h4, h5, h6, h7⟩
  · have hn : l = [] := List.eq_nil_of_length_eq_zero h2
    subst hn
    exact ⟨none, 0, by rw [h1]; rfl, ⟨Nat.le_refl _, by unfold maxLen; omega, (fun x hx => absurd hx (by simp)), (fun hn => absurd rfl hn)⟩, fun _ => rfl⟩
  · refine ⟨_, cap, h1, ⟨h4, h5, hl, fun _ => ⟨g, 0, rfl, (Array.getElem?_eq_some_iff.1 h3).1, fun i x hx => ?_⟩⟩, fun e => by cases e⟩
    have hc := World.ownsRow.cells h (g := g) (by rw [h1]; rfl) i (.int .i64 x) (by simp [intsC, hx])
    rw [add0] at hc
    rw [Nat.zero_add]; exact hc
/-- A slice literal is the call's own. -/
theorem ownI_lit (w : World) (l : List Int) (hl : l.length ≤ 100) : OwnI (w.alloc (.cells (intsC l).toArray 3)) w.heap.size l (.slice (some ⟨w.heap.size, 0, none⟩) l.length l.length) :=
  ⟨by simp [intsC_len], .inr ⟨w.heap.size, l.length, (intsC l).toArray, rfl, Nat.le_refl _, heap_alloc_new w _, Nat.le_refl _, by unfold maxLen; omega, by simp [intsC_len], by simp [List.take_of_length_le, intsC_len]⟩⟩
theorem OwnI.below {w w' : World} {base : Nat} {l : List Int} {v : Value} (h : OwnI w base l v) (hb : Below w.heap.size w w') : OwnI w' base l v := ownsRow_below h hb
end Go.Proofs.YteamonmneoakpaaDoor

namespace Go.Proofs.YteamonmneoakpaaDoor
open Go.RowKit Go.Shelf Go.Lib Go.Great Go.Maps

def boolsC (F : List Nat) (n : Nat) : Array Value := ((List.range n).map fun i => Value.bool (decide (i ∈ F))).toArray
theorem boolsC_get (F : List Nat) (n i : Nat) (h : i < n) : (boolsC F n)[i]? = some (.bool (decide (i ∈ F))) := by unfold boolsC; simp [h]
theorem boolsC_set (F : List Nat) (n j : Nat) (h : j < n) : (boolsC F n).setIfInBounds j (.bool true) = boolsC (F ++ [j]) n := by
  apply Array.ext_getElem?
  intro i
  rw [Array.getElem?_setIfInBounds]
  by_cases hi : i < n
  · by_cases e : j = i
    · subst e
      rw [if_pos rfl, boolsC_get _ _ _ h, if_pos (by unfold boolsC; simp; exact h)]
      simp
    · rw [if_neg e, boolsC_get _ _ _ hi, boolsC_get _ _ _ hi]
      have : i ≠ j := fun h => e h.symm
      simp [this]
  · have e1 : (boolsC F n)[i]? = none := by unfold boolsC; simp; omega
    have e2 : (boolsC (F ++ [j]) n)[i]? = none := by unfold boolsC; simp; omega
    rw [e1, e2]
    split
    · rw [if_neg (by unfold boolsC; simp; omega)]
    · rfl
set_option maxRecDepth 100000 in
theorem make_bools (n : Nat) (hn : n ≤ 1000) (w : World) : (Instr.makeSlice 49 (.int .i64 (n : Int)) (.int .i64 (n : Int))).run Tryd.prog w = .ok (.slice (some ⟨w.heap.size, 0, none⟩) n n) (w.alloc (.cells (boolsC [] n) 4)) := by
  obtain ⟨i, hi, hz, hsize, hby⟩ : ∃ i, Tryd.prog.info? 4 = some i ∧ i.zero = some (.bool false) ∧ i.size = 1 ∧ i.bytes = 1 := ⟨_, rfl, rfl, rfl, rfl⟩
  have := run_make (P := Tryd.prog) w 49 4 i _ Tryd.underlying49 hi hz .i64 .i64 (n : Int) (n : Int) (by omega) (by omega) (by rw [hby]; omega) (by omega)
  rw [hsize] at this
  have e : madeCells (Value.bool false).cells ((n : Int).toNat * 1) = boolsC [] n := by
    apply Array.ext_getElem?
    intro j
    unfold madeCells
    rw [Array.getElem?_map, Array.getElem?_range]
    by_cases hj : j < n
    · rw [boolsC_get _ _ _ hj, if_pos (by simp; omega)]
      simp [Value.cells, Nat.mod_one]
    · rw [if_neg (by simp; omega), show (boolsC [] n)[j]? = none by unfold boolsC; simp; omega]
      rfl
  rw [e] at this
  simpa using this
def natsC (F : List Nat) : List Value := F.map fun (i : Nat) => Value.int .i64 (i : Int)
theorem natsC_len (F : List Nat) : (natsC F).length = F.length := by simp [natsC]
/-- The call's memory. -/
structure FM (w2 w : World) (g n : Nat) (F : List Nat) (v : Value) : Prop where
  b : Cells w g 4 (boolsC F n)
  o : w.ownsRow (g + 1) 3 1 v F.length (natsC F)
  low : Below g w2 w
def ReOk (R : List (List Int)) (w : World) (r : Ending) (w' : World) : Prop := ∃ L A cap, r = .returned (.slice A (List.length L) cap) ∧ IS w' w'.heap.size L A cap ∧ RcL R L ∧ Below w.heap.size w w'
theorem FM.drewN {w2 w : World} {g n : Nat} {F : List Nat} {v : Value} (h : FM w2 w g n F v) (q : Nat) : FM w2 (w.drewN q) g n F v := ⟨h.b, h.o, below_drewN h.low q⟩
theorem FM.mark {w2 w : World} {g n j : Nat} {F : List Nat} {v : Value} (h : FM w2 w g n F v) (hj : j < n) : (w.setCell ⟨g, j, none⟩ (.bool true)).heap[g]? = some (.cells (boolsC (F ++ [j]) n) 4 (0, 0)) ∧ (w.setCell ⟨g, j, none⟩ (.bool true)).ownsRow (g + 1) 3 1 v F.length (natsC F) ∧ Below g w2 (w.setCell ⟨g, j, none⟩ (.bool true)) := by
  refine ⟨?_, h.o.kept (grown_setc _ _ _ _) ?_, h.low.trans (set_below _ _ _ _ (Nat.le_refl _))⟩
  · have := h.b.set j (.bool true)
    rw [boolsC_set _ _ _ hj] at this
    exact this
  · rcases hv : v.ownBlock with _ | t
    · exact .inl rfl
    · exact .inr (fun e => by injection e with e; have := (own_block_lt h.o t hv).1; omega)
theorem FM.start (w2 : World) (n : Nat) (hn : 0 < n) : FM w2 ((w2.alloc (.cells ((boolsC [] n).setIfInBounds 0 (.bool true)) 4)).alloc (.cells #[.int .i64 0] 3)) w2.heap.size n [0] (.slice (some ⟨w2.heap.size + 1, 0, none⟩) 1 1) := by
  have b1 := below_new w2 (.cells ((boolsC [] n).setIfInBounds 0 (.bool true)) 4)
  have b2 := below_new (w2.alloc (.cells ((boolsC [] n).setIfInBounds 0 (.bool true)) 4)) (.cells #[.int .i64 0] 3)
  have z1 : (w2.alloc (.cells ((boolsC [] n).setIfInBounds 0 (.bool true)) 4)).heap.size = w2.heap.size + 1 := by simp
  refine ⟨?_, ?_, b1.trans (b2.mono (by omega))⟩
  · have := (b2.block w2.heap.size (by omega)).trans (cells_new w2 ((boolsC [] n).setIfInBounds 0 (.bool true)) 4)
    rw [boolsC_set [] n 0 hn] at this
    rw [boolsC_set [] n 0 hn]
    exact this
  · refine ⟨by simp [natsC], .inr ⟨w2.heap.size + 1, 1, #[.int .i64 0], rfl, by omega, ?_, by simp, by unfold maxLen; omega, by simp, by simp [natsC]⟩⟩
    have := cells_new (w2.alloc (.cells ((boolsC [] n).setIfInBounds 0 (.bool true)) 4)) #[.int .i64 0] 3
    rw [z1] at this
    exact this
theorem natsC_snoc (F : List Nat) (j : Nat) : natsC (F ++ [j]) = natsC F ++ [.int .i64 (j : Int)] := by simp [natsC]
/-- A state more. -/
theorem FM.add {w2 w w' : World} {g n j g' cap : Nat} {F : List Nat} {v : Value} (h : FM w2 w g n F v) (hj : j < n)
    (ho : w'.ownsRow (g + 1) 3 1 (.slice (some ⟨g', 0, none⟩) (F.length + 1) cap) (F.length + 1) (natsC F ++ [.int .i64 (j : Int)])) (hg : ((w.setCell ⟨g, j, none⟩ (.bool true)).alloc (.cells #[.int .i64 (j : Int)] 3)).grownBy w' v.ownBlock) :
    FM w2 w' g n (F ++ [j]) (.slice (some ⟨g', 0, none⟩) (F.length + 1) cap) := by
  obtain ⟨m1, m2, m3⟩ := h.mark hj
  have bb := below_new (w.setCell ⟨g, j, none⟩ (.bool true)) (.cells #[.int .i64 (j : Int)] 3)
  have own : ∀ t, v.ownBlock = some t → g + 1 ≤ t := fun t e => (own_block_lt h.o t e).1
  have hl : g < (w.setCell ⟨g, j, none⟩ (.bool true)).heap.size := (Array.getElem?_eq_some_iff.1 m1).1
  refine ⟨?_, by rw [List.length_append, natsC_snoc]; exact ho, (m3.trans (bb.mono (by omega))).trans ⟨hg.os, hg.tape, hg.output, hg.size, fun k hk => hg.block k (by have := bb.size; omega) (fun e => by have := own k e.symm; omega)⟩⟩
  exact (hg.block g (by have := bb.size; omega) (fun e => by have := own g e.symm; omega)).trans ((bb.block g hl).trans m1)
set_option maxHeartbeats 8000000 in
set_option maxRecDepth 100000 in
theorem reached_any {R : List (List Int)} {T : List Nat} {v : Value} {w : World} (h : TbV w R T v) (hr : rightT R T = true) : Calls Tryd.prog 32 #[v] w (ReOk R w) := by
  obtain ⟨A, c, A2, c2, rfl, hR, hT⟩ := h
  obtain ⟨p1, p2, p3, p4⟩ := right_parts hr
  obtain ⟨W0, hW0⟩ : ∃ W, w.alloc (.cells #[.slice A R.length c, .slice A2 T.length c2] 54) = W := ⟨_, rfl⟩
  have b0 : Below w.heap.size w W0 := by rw [← hW0]; exact below_new _ _
  have z0 : W0.heap.size = w.heap.size + 1 := by rw [← hW0]; simp
  have x0 : Cells W0 w.heap.size 54 #[.slice A R.length c, .slice A2 T.length c2] := by rw [← hW0]; exact cells_new _ _ _
  have C := rightD_any (R := R) (T := T) (v := .agg #[.slice A R.length c, .slice A2 T.length c2]) (w := W0) ⟨A, c, A2, c2, rfl, (hR.below b0).mono (by omega), (hT.below b0).mono (by omega)⟩
  rw [hr] at C
  obtain ⟨i0, hi0⟩ : ∃ i, Tryd.prog.info? 3 = some i ∧ i.zero = some (.int .i64 0) ∧ i.size = 1 ∧ i.bytes = 8 := ⟨_, rfl, rfl, rfl, rfl⟩
  obtain ⟨n, hn⟩ : ∃ n, R.length = n := ⟨_, rfl⟩
  obtain ⟨n2, hn2⟩ : ∃ n, T.length = n := ⟨_, rfl⟩
  rw [hn, hn2] at C x0 hW0 ⊢
  rw [hn] at p1 p2 p4
  have e0 := x0.cell 0
  have e1 := x0.cell 1
  simp at e0 e1
  have mk3 := make_bools n p2
  have H := Lib.hid (And.intro b0 (And.intro z0 (And.intro x0 (And.intro hR (And.intro hn p4)))))
  have J := Lib.hid hi0
  have HW := Lib.hid hW0
  have HC := Lib.hid C
  clear b0 z0 x0 hW0 C hR hT hn hn2 p3 p4 hr hi0
  go_enter Tryd.func32, Tryd.ntmps32
  go_wp2_with fail
  rw [HW.out]
  refine HC.out.mono ?_
  rintro r w2 ⟨rfl, hb⟩
  have x2 : Cells w2 w.heap.size 54 #[.slice A n c, .slice A2 n2 c2] := (hb.block _ (by have := H.out.2.1; omega)).trans H.out.2.2.1
  have e2 := x2.cell 0
  have e3 := x2.cell 1
  simp at e2 e3
  have z2 : w.heap.size < w2.heap.size := x2.lt
  have bz : (boolsC [] n)[0]? = some (.bool false) := by rw [boolsC_get _ _ _ (by omega)]; rfl
  have bs : 0 < (boolsC [] n).size := by unfold boolsC; simp; omega
  have B1 := Lib.hid (And.intro (H.out.1.trans (hb.mono H.out.1.size)) x2)
  clear hb x2 e0 e1
  go_wp2_with fail
  obtain ⟨w3, hw3⟩ : ∃ W, (w2.alloc (.cells ((boolsC [] n).setIfInBounds 0 (.bool true)) 4)).alloc (.cells #[.int .i64 0] 3) = W := ⟨_, rfl⟩
  have m3 := FM.start w2 n (by omega)
  rw [hw3] at m3 ⊢
  have M3 := Lib.hid m3
  clear m3 hw3 bz bs e2 e3 mk3
  obtain ⟨g, hg⟩ : ∃ g, w2.heap.size = g := ⟨_, rfl⟩
  rw [hg] at M3 z2
  have HG := Lib.hid hg
  rw [hg]
  clear hg
  go_loopw [4, 5] (fun u4 u5 wr => ∃ (k : Nat) (F : List Nat), u5 = .int .i64 (k : Int) ∧ k ≤ F.length ∧ FI R n k F ∧ FM w2 wr g n F u4) (fun _ u5 _ => n + 1 - (RowKit.intOf u5).toNat)
  case atStart => exact ⟨0, [0], rfl, by simp, FI.begin (by omega), M3.out⟩
  case round =>
    obtain ⟨k, F, rfl, hk, hF, hM⟩ := hrel
    have y2 : Cells wr w.heap.size 54 #[.slice A n c, .slice A2 n2 c2] := (hM.low.block _ z2).trans B1.out.2
    have bw : Below w.heap.size w wr := B1.out.1.trans (hM.low.mono (by omega))
    have hFl := hF.len
    obtain ⟨g', cap, rfl⟩ : ∃ g' cap, u4 = .slice (some ⟨g', 0, none⟩) F.length cap := by
      rcases hM.o.2 with ⟨_, h2⟩ | ⟨g', cap, cur, h1, _⟩
      · have := (List.getElem?_eq_some_iff.1 hF.z).1; omega
      · exact ⟨g', cap, h1⟩
    obtain ⟨l, hl⟩ : ∃ l, F.length = l := ⟨_, rfl⟩
    rw [hl] at hk hFl ⊢
    by_cases hlt : k < l
    · have i5 : (k : Int) < (l : Int) := by omega
      obtain ⟨i, hi⟩ : ∃ i, F[k]? = some i := ⟨F[k]'(by omega), List.getElem?_eq_getElem _⟩
      have hin := hF.lt i (List.mem_of_getElem? hi)
      obtain ⟨r, hr⟩ : ∃ r, R[i]? = some r := ⟨R[i]'(by rw [H.out.2.2.2.2.1]; exact hin.1), List.getElem?_eq_getElem _⟩
      obtain ⟨hr37, hrx⟩ := H.out.2.2.2.2.2 i r hr
      obtain ⟨b, o, rfl, hbl, hc⟩ := H.out.2.2.2.1.r (by rintro rfl; simp at hr)
      obtain ⟨A', c', d0, his, _⟩ := hc i r hr
      have d1 := (bw.cell (p := ⟨b, o + i, none⟩) hbl).trans d0
      have his' := (his.below bw).mono bw.size
      have f0 := World.ownsRow.cells hM.o (g := g') rfl k (.int .i64 (i : Int)) (by simp [natsC, hi])
      rw [add0] at f0
      have y0 := y2.cell 0
      simp at y0
      rw [hr37] at d1
      have i6 : (i : Int) < (n : Int) := by omega
      have HK := Lib.hid (And.intro hF (And.intro hM (And.intro hi (And.intro hin (And.intro hr (And.intro hr37 (And.intro hrx (And.intro his (And.intro bw hl)))))))))
      clear hF hM hi hin hr hrx his his' bw hl hc d0 y2 hr37
      go_wp2_with fail
      go_quiet (fail)
      rename_i nq _
      go_wp2_with fail
      clear d1 f0 y0
      go_loopw [4, 33] (fun u4' u33 wi => ∃ (m : Nat) (F' : List Nat), u33 = .int .i64 (m : Int) ∧ m ≤ 37 ∧ (∃ t, F' = F ++ t) ∧ FI R n k F' ∧ (∀ m', m' < m → ∀ j : Nat, r[m']? = some (j : Int) → j ∈ F') ∧ FM w2 wi g n F' u4') (fun _ u33 _ => 37 - (RowKit.intOf u33).toNat)
      case atStart => exact ⟨0, F, rfl, by omega, ⟨[], by simp⟩, HK.out.1, fun m' h => by omega, by rw [← HK.out.2.2.2.2.2.2.2.2.2]; exact HK.out.2.1.drewN nq⟩
      case round =>
        obtain ⟨m, F', rfl, hm, ⟨t, ht⟩, hF', hall, hM'⟩ := hrel
        have bwi : Below w.heap.size w wr := B1.out.1.trans (hM'.low.mono (by omega))
        by_cases hm37 : m < 37
        · have i7 : (m : Int) < 37 := by omega
          obtain ⟨x, hx⟩ : ∃ x, r[m]? = some x := ⟨r[m]'(by rw [HK.out.2.2.2.2.2.1]; exact hm37), List.getElem?_eq_getElem _⟩
          obtain ⟨j, rfl⟩ : ∃ j : Nat, x = (j : Int) := ⟨x.toNat, by have := (HK.out.2.2.2.2.2.2.1 m x hx).1; omega⟩
          have hjn : j < n := by have := (HK.out.2.2.2.2.2.2.1 m _ hx).2; omega
          obtain ⟨b', o', rfl, hbl', hc'⟩ := HK.out.2.2.2.2.2.2.2.1.r (by rintro rfl; simp at hx)
          have d2 := (bwi.cell (p := ⟨b', o' + m, none⟩) hbl').trans (hc' m _ hx)
          have d3 : wr.cell? ⟨g, j, none⟩ = some (.bool (decide (j ∈ F'))) := by rw [hM'.b.cell]; exact boolsC_get _ _ _ hjn
          have f3 := hM'.b.froz j
          have i8 : (j : Int) < (n : Int) := by omega
          by_cases hmem : j ∈ F'
          · have hd : decide (j ∈ F') = true := by simpa using hmem
            rw [hd] at d3
            have hend : ∃ (m1 : Nat) (F1 : List Nat), Value.int .i64 ((m : Int) + 1) = .int .i64 (m1 : Int) ∧ m1 ≤ 37 ∧ (∃ t, F1 = F ++ t) ∧ FI R n k F1 ∧ (∀ m', m' < m1 → ∀ j : Nat, r[m']? = some (j : Int) → j ∈ F1) ∧ FM w2 wr g n F1 u4 :=
              ⟨m + 1, F', by simp, by omega, ⟨t, ht⟩, hF', fun m' h' q hq => by
                rcases Nat.lt_or_ge m' m with h1 | h1
                · exact hall m' h1 q hq
                · obtain rfl : m' = m := by omega
                  rw [hx] at hq
                  injection hq with hq
                  obtain rfl : j = q := by omega
                  exact hmem, hM'⟩
            have HEND := Lib.hid hend
            clear hend hd hmem hx hc' hF' hall hM' bwi ht
            go_wp2_with fail
            go_roundw
            case rel => exact HEND.out
            case measure => simp [RowKit.intOf]; omega
          · have hd : decide (j ∈ F') = false := by simpa using hmem
            rw [hd] at d3
            obtain ⟨k1, k2, k3⟩ := hM'.mark hjn
            have hFl' := hF'.len
            have o8 := k2.alloc (.cells #[.int .i64 (j : Int)] 3)
            have c8 : ((wr.setCell ⟨g, j, none⟩ (.bool true)).alloc (.cells #[.int .i64 (j : Int)] 3)).cell? ⟨(wr.setCell ⟨g, j, none⟩ (.bool true)).heap.size, 0, none⟩ = some (.int .i64 (j : Int)) := by rw [World.cell?_alloc_new]; rfl
            have z8 : g < wr.heap.size := hM'.b.lt
            have zs : (wr.setCell ⟨g, j, none⟩ (.bool true)).heap.size = wr.heap.size := by simp
            rw [zs] at c8
            have hrch : Rch R j := .s HK.out.2.2.2.1.2 HK.out.2.2.2.2.1 hx
            have hF2 := hF'.snoc (by have := HK.out.2.2.2.2.2.2.2.2.2; rw [ht]; simp; omega) hjn hrch hmem
            have hall2 : ∀ m', m' < m + 1 → ∀ q : Nat, r[m']? = some (q : Int) → q ∈ F' ++ [j] := fun m' h' q hq => by
              rcases Nat.lt_or_ge m' m with h1 | h1
              · exact List.mem_append.2 (.inl (hall m' h1 q hq))
              · obtain rfl : m' = m := by omega
                rw [hx] at hq
                injection hq with hq
                obtain rfl : j = q := by omega
                simp
            have HE := Lib.hid (And.intro o8 (And.intro c8 (And.intro hF2 (And.intro hall2 (And.intro hM' ht)))))
            clear k1 k2 k3 o8 c8 hd hmem hx hc' hF' hall hM' bwi ht hrch hF2 hall2 zs
            go_wp2_with (first
              | (at_builtin
                 refine wpList_append_one rfl (.tmp 45) (.tmp 47) 23 rfl (g + 1) 3 i0 (.int .i64 0) 8 Tryd.underlying23 J.out.1 J.out.2.1 J.out.2.2.1 J.out.2.2.2 (by decide) rfl _ F'.length (natsC F') rfl HE.out.1 ⟨wr.heap.size, 0, none⟩ (.int .i64 (j : Int)) rfl HE.out.2.1 rfl (by omega) (by simp; omega) _ rfl ?_)
              | fail)
            intro g2 cp w5 ho5 hg5 hat5 hl5
            have M5 := HE.out.2.2.2.2.1.add hjn ho5 hg5
            have hend : ∃ (m1 : Nat) (F1 : List Nat), Value.int .i64 ((m : Int) + 1) = .int .i64 (m1 : Int) ∧ m1 ≤ 37 ∧ (∃ t, F1 = F ++ t) ∧ FI R n k F1 ∧ (∀ m', m' < m1 → ∀ j : Nat, r[m']? = some (j : Int) → j ∈ F1) ∧ FM w2 w5 g n F1 (.slice (some ⟨g2, 0, none⟩) (F'.length + 1) cp) :=
              ⟨m + 1, F' ++ [j], by simp, by omega, ⟨t ++ [j], by rw [HE.out.2.2.2.2.2]; simp⟩, HE.out.2.2.1, HE.out.2.2.2.1, M5⟩
            have HEND := Lib.hid hend
            clear hend M5 ho5 hg5 hat5 hl5
            go_wp2_with fail
            go_roundw
            case rel => exact HEND.out
            case measure => simp [RowKit.intOf]; omega
        · have i7 : ¬ (m : Int) < 37 := by omega
          have hm1 : m = 37 := by omega
          have hFk : F'[k]? = some i := by rw [ht, List.getElem?_append_left (by have := HK.out.2.2.2.2.2.2.2.2.2; omega)]; exact HK.out.2.2.1
          have hN := hF'.next hFk (fun r' hr' q j hq => by
            rw [HK.out.2.2.2.2.1] at hr'
            injection hr' with hr'
            subst hr'
            have := (List.getElem?_eq_some_iff.1 hq).1
            exact hall q (by have := HK.out.2.2.2.2.2.1; omega) j hq)
          have hend : ∃ (k1 : Nat) (F1 : List Nat), Value.int .i64 ((k : Int) + 1) = .int .i64 (k1 : Int) ∧ k1 ≤ F1.length ∧ FI R n k1 F1 ∧ FM w2 wr g n F1 u4 :=
            ⟨k + 1, F', by simp, by have := (List.getElem?_eq_some_iff.1 hFk).1; omega, hN, hM'⟩
          have HEND := Lib.hid hend
          clear hend hN hFk hF' hall hM' bwi ht hm1
          go_wp2_with fail
          go_roundw
          case rel => exact HEND.out
          case measure => simp [RowKit.intOf]; omega
    · obtain rfl : k = l := by omega
      have i5 : ¬ (k : Int) < (k : Int) := by omega
      subst hl
      have hL := rcl_of hF
      have ho := hM.o
      rcases hM.o.2 with ⟨h1, _⟩ | ⟨g'', cap', cur, h1, h2, h3, h4, h5, h6, h7⟩
      · cases h1
      injection h1 with h1 _ h8
      injection h1 with h1
      injection h1 with h1
      subst h1 h8
      have hlen : (F.map fun (i : Nat) => (i : Int)).length = F.length := by simp
      have hH : Go.Sort.Holds (Value.int .i64) wr g' 0 (F.map fun (i : Nat) => (i : Int)).toArray := holds_of_blockI h3 (by
        rw [hlen]
        rw [Nat.mul_one] at h7
        rw [h7]
        simp [natsC])
      have C := Tryd.slices_Sort_int g' 0 cap (F.map fun (i : Nat) => (i : Int)) wr hH (Array.getElem?_eq_some_iff.1 h3).1 (by rw [hlen]; omega)
      rw [hlen] at C
      have HC := Lib.hid C
      have HE := Lib.hid (And.intro hL (And.intro h2 (And.intro h3 (And.intro h4 (And.intro h5 (And.intro h6 (And.intro bw (And.intro hF hM.low))))))))
      clear C hL ho h2 h3 h4 h5 h6 h7 hH bw hF hM y2
      go_wp2_with fail
      refine HC.out.mono ?_
      rintro r w4 ⟨rfl, q, os, hw4⟩
      have own4 := ownsRow_sortedI (base := g + 1) (n := q) (os := os) (ss := F.map fun (i : Nat) => (i : Int)) (ts := (F.map fun (i : Nat) => (i : Int)).mergeSort fun x y => decide (x ≤ y)) (by simp) HE.out.2.1 HE.out.2.2.1 (by rw [hlen]; exact HE.out.2.2.2.1) HE.out.2.2.2.2.1 HE.out.2.2.2.2.2.1
      have gr4 := grownBy_sortedI (w := wr) (g := g') (n := q) (os := os) ((F.map fun (i : Nat) => (i : Int)).mergeSort fun x y => decide (x ≤ y)).toArray
      rw [← hw4] at own4 gr4
      have H4 := Lib.hid (And.intro own4 gr4)
      clear own4 gr4 hw4
      go_wp2_with fail
      go_ret
      have hl2 : ((F.map fun (i : Nat) => (i : Int)).mergeSort fun x y => decide (x ≤ y)).length = F.length := by simp
      have own5 : OwnI w4 (g + 1) ((F.map fun (i : Nat) => (i : Int)).mergeSort fun x y => decide (x ≤ y)) (.slice (some ⟨g', 0, none⟩) F.length cap) := by
        have := H4.out.1
        rw [hlen] at this
        unfold OwnI
        rw [hl2]
        exact this
      obtain ⟨A5, c5, e5, i5', _⟩ := own5.is (fun x hx => by
        obtain ⟨i, rfl, hri⟩ := (HE.out.1.m x).1 hx
        have := (HE.out.2.2.2.2.2.2.2.1.lt i (HE.out.2.2.2.2.2.2.2.1.all.2 hri)).1
        exact nat64 (by omega))
      refine ⟨_, A5, c5, by rw [← e5]; rfl, i5', HE.out.1, ?_⟩
      have hb4 : Below (w.heap.size) wr w4 := ⟨H4.out.2.os, H4.out.2.tape, H4.out.2.output, H4.out.2.size, fun k hk => H4.out.2.block k (by have := HE.out.2.2.2.2.2.2.1.size; omega) (by have := HE.out.2.1; simp; omega)⟩
      exact HE.out.2.2.2.2.2.2.1.trans hb4
end Go.Proofs.YteamonmneoakpaaDoor

namespace Go.Proofs.YteamonmneoakpaaDoor
open Go.RowKit Go.Shelf Go.Lib

def NdP (w : World) (S : Nat → Prop) : E → Value → Prop
  | .mk k c ks, v => i64 k ∧ i64 c ∧ ∃ A cap, v = .agg #[.int .i64 k, .int .i64 c, .slice A ks.length cap] ∧ ks.length ≤ cap ∧ cap ≤ maxLen ∧ (A = none → cap = 0) ∧ (ks ≠ [] → ∃ b o, A = some ⟨b, o, none⟩ ∧ S b ∧ Row w S b o ks)
where Row (w : World) (S : Nat → Prop) (b : Nat) : Nat → List E → Prop
  | _, [] => True
  | o, e :: r => (∃ x y z, w.cell? ⟨b, o, none⟩ = some x ∧ w.cell? ⟨b, o + 1, none⟩ = some y ∧ w.cell? ⟨b, o + 2, none⟩ = some z ∧ NdP w S e (.agg #[x, y, z])) ∧ Row w S b (o + 3) r
structure KsP (w : World) (S : Nat → Prop) (ks : List E) (A : Option Addr) (cap : Nat) : Prop where
  l : ks.length ≤ cap
  m : cap ≤ maxLen
  z : A = none → cap = 0
  r : ks ≠ [] → ∃ b o, A = some ⟨b, o, none⟩ ∧ S b ∧ NdP.Row w S b o ks
theorem NdP_iff {w : World} {S : Nat → Prop} {e : E} {v : Value} : NdP w S e v ↔ i64 e.k ∧ i64 e.c ∧ ∃ A cap, v = .agg #[.int .i64 e.k, .int .i64 e.c, .slice A e.ks.length cap] ∧ KsP w S e.ks A cap := by
  cases e with
  | mk k c ks =>
    show (i64 k ∧ i64 c ∧ _) ↔ (i64 k ∧ i64 c ∧ _)
    constructor
    · rintro ⟨h1, h2, A, cap, rfl, h3, h4, h5, h6⟩
      exact ⟨h1, h2, A, cap, rfl, h3, h4, h5, h6⟩
    · rintro ⟨h1, h2, A, cap, rfl, h3, h4, h5, h6⟩
      exact ⟨h1, h2, A, cap, rfl, h3, h4, h5, h6⟩
theorem rowP_get {w : World} {S : Nat → Prop} {b : Nat} {ks : List E} : ∀ {o i : Nat} {e : E}, NdP.Row w S b o ks → ks[i]? = some e →
    ∃ x y z, w.cell? ⟨b, o + i * 3, none⟩ = some x ∧ w.cell? ⟨b, o + i * 3 + 1, none⟩ = some y ∧ w.cell? ⟨b, o + i * 3 + 2, none⟩ = some z ∧ NdP w S e (.agg #[x, y, z]) := by
  induction ks with
  | nil => intro o i e _ h; simp at h
  | cons a r ih =>
    rintro o i e ⟨h1, h2⟩ h
    cases i with
    | zero =>
      obtain rfl : a = e := by simpa using h
      simpa using h1
    | succ i =>
      have := ih h2 (show r[i]? = some e by simpa using h)
      rw [show o + (i + 1) * 3 = o + 3 + i * 3 by omega]
      exact this
theorem rowP_of {w : World} {S : Nat → Prop} {b : Nat} {ks : List E} : ∀ {o : Nat}, (∀ i e, ks[i]? = some e →
    ∃ x y z, w.cell? ⟨b, o + i * 3, none⟩ = some x ∧ w.cell? ⟨b, o + i * 3 + 1, none⟩ = some y ∧ w.cell? ⟨b, o + i * 3 + 2, none⟩ = some z ∧ NdP w S e (.agg #[x, y, z])) → NdP.Row w S b o ks := by
  induction ks with
  | nil => intro o _; exact trivial
  | cons a r ih =>
    intro o h
    refine ⟨by simpa using h 0 a rfl, ih fun i e hi => ?_⟩
    have := h (i + 1) e (by simpa using hi)
    rw [show o + (i + 1) * 3 = o + 3 + i * 3 by omega] at this
    exact this
theorem NdP.carry {w w' : World} {S S' : Nat → Prop} (hS : ∀ b, S b → S' b) (hc : ∀ b o v, S b → w.cell? ⟨b, o, none⟩ = some v → w'.cell? ⟨b, o, none⟩ = some v) :
    ∀ n e v, szE e ≤ n → NdP w S e v → NdP w' S' e v := by
  intro n
  induction n with
  | zero => intro e v h; have := szE_pos e; omega
  | succ n ih =>
    intro e v hn h
    obtain ⟨h1, h2, A, cap, rfl, hk⟩ := NdP_iff.1 h
    refine NdP_iff.2 ⟨h1, h2, A, cap, rfl, hk.l, hk.m, hk.z, fun hne => ?_⟩
    obtain ⟨b, o, rfl, hb, hr⟩ := hk.r hne
    refine ⟨b, o, rfl, hS b hb, rowP_of fun i f hf => ?_⟩
    obtain ⟨x, y, z, c1, c2, c3, hN⟩ := rowP_get hr hf
    exact ⟨x, y, z, hc _ _ _ hb c1, hc _ _ _ hb c2, hc _ _ _ hb c3, ih f _ (by have := szE_kid (List.mem_of_getElem? hf); omega) hN⟩
/-- In a world in which those blocks are as they were. -/
theorem NdP.blocks {w w' : World} {S S' : Nat → Prop} {e : E} {v : Value} (h : NdP w S e v) (hS : ∀ b, S b → S' b) (hb : ∀ b, S b → w'.heap[b]? = w.heap[b]?) : NdP w' S' e v :=
  h.carry hS (fun b o _u hs hu => (World.cell?_of_block (w := w) (w' := w') (a := ⟨b, o, none⟩) (hb b hs)).trans hu) _ _ _ (Nat.le_refl _)
theorem KsP.blocks {w w' : World} {S S' : Nat → Prop} {ks : List E} {A : Option Addr} {cap : Nat} (h : KsP w S ks A cap) (hS : ∀ b, S b → S' b) (hb : ∀ b, S b → w'.heap[b]? = w.heap[b]?) : KsP w' S' ks A cap :=
  ⟨h.l, h.m, h.z, fun hne => by
    obtain ⟨b, o, rfl, hbs, hr⟩ := h.r hne
    have cc := fun o v (hu : w.cell? ⟨b, o, none⟩ = some v) => (World.cell?_of_block (w := w) (w' := w') (a := ⟨b, o, none⟩) (hb b hbs)).trans hu
    refine ⟨b, o, rfl, hS b hbs, rowP_of fun i f hf => ?_⟩
    obtain ⟨x, y, z, c1, c2, c3, hN⟩ := rowP_get hr hf
    exact ⟨x, y, z, cc _ _ c1, cc _ _ c2, cc _ _ c3, hN.blocks hS hb⟩⟩
theorem KsP.ks {w : World} {S : Nat → Prop} {B : Nat} {ks : List E} {A : Option Addr} {cap : Nat} (h : KsP w S ks A cap) (hS : ∀ b, S b → b < B) (nd : ∀ e v, NdP w S e v → Nd w B e v) : KsAt w B ks A cap :=
  ⟨h.l, h.m, h.z, fun hne => by
    obtain ⟨b, o, rfl, hbs, hr⟩ := h.r hne
    refine ⟨b, o, rfl, hS b hbs, row_of fun i f hf => ?_⟩
    obtain ⟨x, y, z, c1, c2, c3, hN⟩ := rowP_get hr hf
    exact ⟨x, y, z, c1, c2, c3, nd _ _ hN⟩⟩
theorem NdP.nd {w : World} {S : Nat → Prop} {B : Nat} (hS : ∀ b, S b → b < B) : ∀ n e v, szE e ≤ n → NdP w S e v → Nd w B e v := by
  intro n
  induction n with
  | zero => intro e v h; have := szE_pos e; omega
  | succ n ih =>
    intro e v hn h
    obtain ⟨h1, h2, A, cap, rfl, hk⟩ := NdP_iff.1 h
    refine Nd_iff.2 ⟨h1, h2, A, cap, rfl, hk.l, hk.m, hk.z, fun hne => ?_⟩
    obtain ⟨b, o, rfl, hb, hr⟩ := hk.r hne
    refine ⟨b, o, rfl, hS b hb, row_of fun i f hf => ?_⟩
    obtain ⟨x, y, z, c1, c2, c3, hN⟩ := rowP_get hr hf
    exact ⟨x, y, z, c1, c2, c3, ih f _ (by have := szE_kid (List.mem_of_getElem? hf); omega) hN⟩
/-- The parts that were turned so far: their cells in the row, what they are; the row is none of their blocks. -/
def Kids (w : World) (base : Nat) (v : Value) (ks : List E) (j : Nat) (cs : List Value) : Prop :=
  cs.length = j * 3 ∧ ∀ i f, i < j → ks[i]? = some f → ∃ x y z, cs[i * 3]? = some x ∧ cs[i * 3 + 1]? = some y ∧ cs[i * 3 + 2]? = some z ∧ NdP w (fun b => base ≤ b ∧ b < w.heap.size ∧ v.ownBlock ≠ some b) f (.agg #[x, y, z])
theorem Kids.step {w w5 w7 : World} {base : Nat} {v v7 : Value} {ks : List E} {j g : Nat} {cs : List Value} {f : E} {k5 c5 s5 : Value} (h : Kids w base v ks j cs) (hf : ks[j]? = some f)
    (hown : ∀ b, v.ownBlock = some b → b < w.heap.size) (h5 : NdP w5 (fun b => w.heap.size ≤ b ∧ b < w5.heap.size) f (.agg #[k5, c5, s5])) (hb5 : Below w.heap.size w w5) (hbase : base ≤ w.heap.size)
    (hg7 : w5.grownBy w7 v.ownBlock) (hv7 : v7.ownBlock = some g) (hg : v.ownBlock = some g ∨ w5.heap.size ≤ g) : Kids w7 base v7 ks (j + 1) (cs ++ [k5, c5, s5]) := by
  refine ⟨by rw [List.length_append, h.1]; simp; omega, fun i e hi he => ?_⟩
  have hs7 := hg7.size
  have hs5 := hb5.size
  by_cases hij : i = j
  · subst hij
    obtain rfl : f = e := by rw [hf] at he; injection he
    refine ⟨k5, c5, s5, ?_, ?_, ?_, h5.blocks (fun b hb => ⟨by omega, by omega, ?_⟩) (fun b hb => hg7.block b hb.2 (fun e' => ?_))⟩
    · rw [List.getElem?_append_right (by rw [h.1]; omega), h.1, show i * 3 - i * 3 = 0 by omega]; rfl
    · rw [List.getElem?_append_right (by rw [h.1]; omega), h.1, show i * 3 + 1 - i * 3 = 1 by omega]; rfl
    · rw [List.getElem?_append_right (by rw [h.1]; omega), h.1, show i * 3 + 2 - i * 3 = 2 by omega]; rfl
    · rw [hv7]
      intro e'
      injection e' with e'
      rcases hg with hg | hg
      · have := hown g hg; omega
      · omega
    · have := hown b e'.symm; omega
  · obtain ⟨x, y, z, c1, c2, c3, hN⟩ := h.2 i e (by omega) he
    have hl := h.1
    refine ⟨x, y, z, by rw [List.getElem?_append_left (by omega)]; exact c1, by rw [List.getElem?_append_left (by omega)]; exact c2, by rw [List.getElem?_append_left (by omega)]; exact c3,
      hN.blocks (fun b hb => ⟨hb.1, by omega, ?_⟩) (fun b hb => (hg7.block b (by omega) (fun e' => hb.2.2 e'.symm)).trans (hb5.block b hb.2.1))⟩
    rw [hv7]
    intro e'
    injection e' with e'
    rcases hg with hg | hg
    · exact hb.2.2 (by rw [hg, e'])
    · omega
theorem Kids.blocks {w w' : World} {base : Nat} {v : Value} {ks : List E} {j : Nat} {cs : List Value} (h : Kids w base v ks j cs) (hb : ∀ b, base ≤ b → b < w.heap.size → w'.heap[b]? = w.heap[b]?) (hs : w.heap.size ≤ w'.heap.size) : Kids w' base v ks j cs :=
  ⟨h.1, fun i f hi hf => by
    obtain ⟨x, y, z, c1, c2, c3, hN⟩ := h.2 i f hi hf
    exact ⟨x, y, z, c1, c2, c3, hN.blocks (fun b hb' => ⟨hb'.1, by omega, hb'.2.2⟩) (fun b hb' => hb b hb'.1 hb'.2.1)⟩⟩
/-- All parts: the list lies in new blocks. -/
theorem Kids.full {w : World} {base : Nat} {v : Value} {ks : List E} {cs : List Value} (h : Kids w base v ks ks.length cs) (hown : w.ownsRow base 71 3 v ks.length cs) :
    ∃ A cap, v = .slice A ks.length cap ∧ KsP w (fun b => base ≤ b ∧ b < w.heap.size) ks A cap := by
  rcases hown.2 with ⟨h1, h2⟩ | ⟨g, cap, cur, h1, h3, h4, h5, h6, h7, h8⟩
  · have : ks = [] := List.eq_nil_of_length_eq_zero h2
    subst this
    exact ⟨none, 0, by rw [h1]; rfl, by simp, by simp, fun _ => rfl, fun hn => absurd rfl hn⟩
  · refine ⟨_, cap, h1, h5, h6, fun e => (by cases e), fun _ => ⟨g, 0, rfl, ⟨h3, (Array.getElem?_eq_some_iff.1 h4).1⟩, rowP_of fun i f hf => ?_⟩⟩
    obtain ⟨x, y, z, c1, c2, c3, hN⟩ := h.2 i f (List.getElem?_eq_some_iff.1 hf).1 hf
    have cc := fun j u hj => World.ownsRow.cells hown (g := g) (by rw [h1]; rfl) j u hj
    have d : ∀ (j : Nat) (u : Value), cs[j]? = some u → w.cell? ⟨g, j, none⟩ = some u := fun j u hj => by have := cc j u hj; rwa [add0] at this
    refine ⟨x, y, z, ?_, ?_, ?_, hN.blocks (fun b hb => ⟨hb.1, hb.2.1⟩) (fun _ _ => rfl)⟩
    · rw [Nat.zero_add]; exact d _ _ c1
    · rw [Nat.zero_add]; exact d _ _ c2
    · rw [Nat.zero_add]; exact d _ _ c3
end Go.Proofs.YteamonmneoakpaaDoor

namespace Go.Proofs.YteamonmneoakpaaDoor
open Go.RowKit Go.Shelf Go.Lib Go.Great Go.Maps

def anyE : E := .mk 1 0 []
def exK (k : Nat) : E := .mk 5 0 (List.replicate k anyE)
def bitsF : Nat → Nat → Nat
  | _, 0 => 0
  | c, j + 1 => 2 ^ c ||| bitsF (c + 1) j
theorem rep_alt : ∀ (j : Nat) (s : St) (a : Sp), (altL (List.replicate j anyE) s a).1.next = s.next ∧ (altL (List.replicate j anyE) s a).1.takers 3 = s.takers 3 ||| bitsF s.count j ∧ (altL (List.replicate j anyE) s a).2.first = a.first ||| bitsF s.count j
  | 0, s, a => by simp [altL, readE.altL, bitsF]
  | j + 1, s, a => by
    rw [List.replicate_succ]
    have e : altL (anyE :: List.replicate j anyE) s a = altL (List.replicate j anyE) (s.leaf 1 0) ⟨a.first ||| 2 ^ s.count, a.last ||| 2 ^ s.count, a.empty || false⟩ := rfl
    rw [e]
    obtain ⟨h1, h2, h3⟩ := rep_alt j (s.leaf 1 0) ⟨a.first ||| 2 ^ s.count, a.last ||| 2 ^ s.count, a.empty || false⟩
    refine ⟨h1, ?_, ?_⟩
    · rw [h2]
      have e2 : (s.leaf 1 0).takers 3 = s.takers 3 ||| 2 ^ s.count := rfl
      have e3 : (s.leaf 1 0).count = s.count + 1 := rfl
      rw [e2, e3, Nat.or_assoc]; rfl
    · rw [h3]
      have e3 : (s.leaf 1 0).count = s.count + 1 := rfl
      rw [e3]
      show (a.first ||| 2 ^ s.count) ||| _ = _
      rw [Nat.or_assoc]; rfl
theorem bitsF_bit : ∀ (j c p : Nat), (bitsF c j).testBit p = decide (c ≤ p ∧ p < c + j)
  | 0, c, p => by simp [bitsF]
  | j + 1, c, p => by
    unfold bitsF
    rw [Nat.testBit_or, Nat.testBit_two_pow, bitsF_bit j (c + 1) p]
    by_cases h1 : c = p
    · simp [h1]
    · simp only [h1, decide_false, Bool.false_or]
      congr 1
      apply propext
      omega
theorem posN_bits (k : Nat) : ∀ t, t ≤ 1024 → (posN (bitsF 1 k) t).length = min (t - 1) k
  | 0, _ => by simp [posN]
  | t + 1, h => by
    rw [posN_succ, List.length_append, posN_bits k t (by omega)]
    unfold inM
    rw [bitsF_bit]
    by_cases h1 : 1 ≤ t ∧ t < 1 + k
    · simp only [h1, show t < 1024 by omega, decide_true, Bool.and_self, and_self, if_true, List.length_singleton]
      omega
    · simp only [h1, decide_false, Bool.and_false, Bool.false_eq_true, if_false, List.length_nil]
      omega
theorem mk_exK (k : Nat) : mkN [exK k] = addE st0 (exK k) 1 := rfl
theorem step_exK (k : Nat) : stepM false (mkN [exK k]) [0] 3 = bitsF 1 k := by
  obtain ⟨h1, h2, h3⟩ := rep_alt k st0 ⟨0, 0, false⟩
  have hr : readE (exK k) st0 = altL (List.replicate k anyE) st0 ⟨0, 0, false⟩ := by unfold exK; rw [readE]; simp
  have hn : (addE st0 (exK k) 1).next 0 = bitsF 1 k := by
    have : (addE st0 (exK k) 1).next 0 = ((readE (exK k) st0).1.link 1 (readE (exK k) st0).2.first).next 0 := by
      unfold addE; dsimp only; split <;> rfl
    rw [this, hr]
    unfold St.link
    dsimp only
    rw [h1, h3]
    simp [inM, st0]
  have ht : (addE st0 (exK k) 1).takers 3 = bitsF 1 k := by
    have : (addE st0 (exK k) 1).takers 3 = (readE (exK k) st0).1.takers 3 := by
      unfold addE; dsimp only; split <;> rfl
    rw [this, hr, h2]
    simp [st0]
  unfold stepM
  rw [mk_exK]
  simp only [Bool.false_eq_true, if_false]
  have e1 : nextU (addE st0 (exK k) 1) [0] = bitsF 1 k := by
    unfold nextU nextU
    rw [if_pos (by omega)]
    show (addE st0 (exK k) 1).next 0 ||| 0 = _
    rw [hn]; simp
  have e2 : takersI (addE st0 (exK k) 1) 3 = bitsF 1 k := by
    unfold takersI
    rw [if_pos (by omega)]
    exact ht
  rw [e1, e2, Nat.and_self]
theorem len_exK {k : Nat} (hk : k ≤ 1000) : (posI (stepM false (mkN [exK k]) [0] 3)).length = k := by
  rw [step_exK]
  unfold posI
  rw [List.length_map, posL_eq, posN_bits k 1024 (by omega)]
  omega
theorem good_rep : ∀ k, goodE.all (List.replicate k anyE) = true
  | 0 => rfl
  | k + 1 => by
    rw [List.replicate_succ]
    have e : goodE.all (anyE :: List.replicate k anyE) = (goodE anyE && goodE.all (List.replicate k anyE)) := rfl
    rw [e, good_rep k]
    rfl
theorem sz_rep : ∀ k, szL (List.replicate k anyE) = k
  | 0 => rfl
  | k + 1 => by
    rw [List.replicate_succ]
    have e : szL (anyE :: List.replicate k anyE) = szE anyE + szL (List.replicate k anyE) := rfl
    have e2 : szE anyE = 1 := rfl
    rw [e, sz_rep k, e2]; omega
theorem lv_rep : ∀ k, lvL (List.replicate k anyE) = k
  | 0 => rfl
  | k + 1 => by
    rw [List.replicate_succ]
    have e : lvL (anyE :: List.replicate k anyE) = leavesE anyE + lvL (List.replicate k anyE) := rfl
    have e2 : leavesE anyE = 1 := rfl
    rw [e, lv_rep k, e2]; omega
theorem right_exK {k : Nat} (h2 : 2 ≤ k) (hk : k ≤ 1999) : rightE (exK k) = true := by
  have hs : szE (exK k) = 1 + k := by unfold exK; rw [szE_eq]; simp only [E.ks]; rw [sz_rep]
  have hg : goodE (exK k) = true := by
    unfold exK
    rw [goodE_eq]
    simp only [E.k, E.c, E.ks, List.length_replicate]
    rw [good_rep]
    have : shapedK 5 0 k = true := by unfold shapedK; simp; omega
    rw [this]
    rfl
  rw [rightE_good (e := exK k) (by show (5 : Int) ≠ 9; omega), hg, hs]
  simp; omega
theorem leaves_exK {k : Nat} (h2 : 2 ≤ k) : leavesE (exK k) = k := by
  unfold exK
  rw [leaves_kids (by intro e; have := congrArg List.length e; simp at this; omega), lv_rep]
theorem fault_exK {k : Nat} (h2 : 2 ≤ k) (hk : k ≤ 1999) : faultL [exK k] = if 1000 < 1 + k then 7 else 0 := by
  unfold faultL
  rw [if_neg (by simp), if_neg (by simp [right_exK h2 hk])]
  have : lvL [exK k] = k := by
    have e : lvL [exK k] = leavesE (exK k) + 0 := rfl
    rw [e, leaves_exK h2]; rfl
  rw [this]
theorem count_exK {k : Nat} (h2 : 2 ≤ k) (hk : k ≤ 1999) : (mkN [exK k]).count = k + 1 := by
  have h := mkL_count [exK k] 0 st0 (by simp [right_exK h2 hk])
  have e : lvL [exK k] = leavesE (exK k) + 0 := rfl
  rw [e, leaves_exK h2] at h
  have e2 : st0.count = 1 := rfl
  unfold mkN
  omega
end Go.Proofs.YteamonmneoakpaaDoor

