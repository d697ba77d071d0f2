/-
  Contract: decide.newSide: an expression, with how long the lists are that it matches.
-/
import Derived.BigQuiet
import Derived.Lib.QuietBelow
import Derived.Test.YtegkogadceodlaaBx
import Derived.Test.YtegkogadceodlaaLon
import Derived.Test.YtegkogadceodlaaFau
namespace Go.Proofs.Ytegkogadceodlaa
open Go.RowKit Go.Shelf Go.Lib Go.Sort

/-- A side's cells. -/
def sdC (e : E) (A : Option Addr) (cap : Nat) : List Value := [.int .i64 e.k, .int .i64 e.c, .slice A e.ks.length cap, .int .i64 ((shortR e : Nat) : Int), .int .i64 ((longR e).2 : Nat), .bool (longR e).1]
set_option maxRecDepth 100000 in
set_option maxHeartbeats 8000000 in
theorem newSide_any (e : E) (A : Option Addr) (cap : Nat) (w : World) (h : Nd w w.heap.size e (.agg #[.int .i64 e.k, .int .i64 e.c, .slice A e.ks.length cap])) :
    Calls Try.prog 76 #[.agg #[.int .i64 e.k, .int .i64 e.c, .slice A e.ks.length cap]] w fun r w' => r = .returned (.agg (sdC e A cap).toArray) ∧ Below w.heap.size w w' := by
  have CL := fun W (hb : Below w.heap.size w W) => longestR_any e _ W (h.on hb)
  have CS := fun W (hb : Below w.heap.size w W) => shortestR_any e _ W (h.on hb)
  unfold sdC
  obtain ⟨sh, hsh⟩ : ∃ s, shortR e = s := ⟨_, rfl⟩
  obtain ⟨lg, hlg⟩ : ∃ s, (longR e).2 = s := ⟨_, rfl⟩
  obtain ⟨bd, hbd⟩ : ∃ s, (longR e).1 = s := ⟨_, rfl⟩
  rw [hsh, hlg, hbd]
  simp only [hsh, hlg, hbd] at CL CS
  have HH := Lib.hid (And.intro CL CS)
  clear CL CS h hsh hlg hbd
  generalize e.k = k at *
  generalize e.c = c at *
  generalize e.ks.length = n at *
  go_enter Try.func76, Try.ntmps76
  go_wp2_with fail
  obtain ⟨W1, hW1⟩ : ∃ V, w.alloc (.cells #[.int .i64 k, .int .i64 c, .slice A n cap] 33) = V := ⟨_, rfl⟩
  have b1 : Below w.heap.size w W1 := by rw [← hW1]; exact below_new _ _
  have s1 : W1.heap.size = w.heap.size + 1 := by rw [← hW1]; simp
  have x1 : Cells W1 w.heap.size 33 #[.int .i64 k, .int .i64 c, .slice A n cap] := by rw [← hW1]; exact World.alloc_heap_new _ _
  obtain ⟨W2, hW2⟩ : ∃ V, W1.alloc (.cells #[.int .i64 0, .int .i64 0, .slice none 0 0, .int .i64 0, .int .i64 0, .bool false] 131) = V := ⟨_, rfl⟩
  have b2 : Below W1.heap.size W1 W2 := by rw [← hW2]; exact below_new _ _
  have x2 : Cells W2 (w.heap.size + 1) 131 #[.int .i64 0, .int .i64 0, .slice none 0 0, .int .i64 0, .int .i64 0, .bool false] := by rw [← s1, ← hW2]; exact World.alloc_heap_new _ _
  have x1' := x1.on b2
  have b12 := b1.trans (b2.mono b1.size)
  rw [hW1, hW2]
  clear hW1 hW2 b1 b2 x1
  refine (HH.out.1 W2 b12).mono ?_
  rintro e w3 ⟨rfl, hb3⟩
  have y1 := x1'.on hb3
  have y2 := x2.on hb3
  have b3 := b12.trans (hb3.mono b12.size)
  have CC : ∀ d os, Calls Try.prog 19 #[.agg #[.int .i64 k, .int .i64 c, .slice A n cap]] (grow (redrawn w3 d) os) fun e w'' => e = .returned (.int .i64 (sh : Int)) ∧ ∃ p : Regrown, w'' = grow (redrawn w3 p.d) p.os := fun d os => Calls.regrown_of (HH.out.2 _ (b3.trans ((below_regrown w3 d os).mono b3.size)))
  have c0 := y1.cell 0
  have c1 := y1.cell 1
  have c2 := y1.cell 2
  simp at c0 c1 c2
  have g0 := cell_regrown c0
  have g1 := cell_regrown c1
  have g2 := cell_regrown c2
  have HB := Lib.hid (And.intro y2 (And.intro b3 s1))
  clear y1 y2 b3 hb3 x1' x2 b12 c0 c1 c2 s1
  go_wp2_with fail
  refine wp_region_mix (fun i => if i = 2 then 1 else if i = 6 then 3 else 0) [0, 1, 2, 3, 4, 5] [6] (fun w' => ∃ p : Regrown, w' = grow (redrawn w3 p.d) p.os) (by kernel_rfl) (by kernel_rfl) ⟨⟨w3.drawn + 1, #[]⟩, by rw [grow_empty]; rfl⟩ ?_
  simp only [opsAt, List.filterMap_cons, List.filterMap_nil, List.getElem?_toArray, List.getElem?_cons_zero, List.getElem?_cons_succ]
  change wpQuiet _ _ _ _ [_, _, _, _, _, _] _
  repeat (go_big_quiet_step (exact CC _ _))
  refine wpQuiet_nil ?_
  intro _ hw'
  obtain ⟨⟨dq, osq⟩, hw''⟩ := hw'
  subst hw''
  have y3 := HB.out.1.on (below_regrown w3 dq osq)
  have b4 := HB.out.2.1.trans ((below_regrown w3 dq osq).mono HB.out.2.1.size)
  clear g0 g1 g2 CC
  generalize grow (redrawn w3 dq) osq = w4 at *
  have hs := HB.out.2.2
  have d0 := y3.cell 0
  have d1 := y3.cell 1
  have d2 := y3.cell 2
  have d3 := y3.cell 3
  have d4 := y3.cell 4
  have d5 := y3.cell 5
  simp at d0 d1 d2 d3 d4 d5
  have f0 := y3.froz 0
  have f1 := y3.froz 1
  have f2 := y3.froz 2
  have f3 := y3.froz 3
  have f4 := y3.froz 4
  have f5 := y3.froz 5
  have HE := Lib.hid (And.intro y3 b4)
  clear y3 b4
  refine wpSeqM_step rfl ?_
  go_wp2_with fail
  unfold wpSeqM
  have z6 := (((((HE.out.1.set 0 (.int .i64 k)).set 1 (.int .i64 c)).set 2 (.slice A n cap)).set 3 (.int .i64 (sh : Int))).set 4 (.int .i64 (lg : Int))).set 5 (.bool bd)
  have b6 := ((((((HE.out.2.setc (Nat.le_succ _) 0 (.int .i64 k)).setc (Nat.le_succ _) 1 (.int .i64 c)).setc (Nat.le_succ _) 2 (.slice A n cap)).setc (Nat.le_succ _) 3 (.int .i64 (sh : Int))).setc (Nat.le_succ _) 4 (.int .i64 (lg : Int))).setc (Nat.le_succ _) 5 (.bool bd))
  have HF := Lib.hid (And.intro z6 b6)
  clear z6 b6
  have t0 := HF.out.1.cell 0
  have t1 := HF.out.1.cell 1
  have t2 := HF.out.1.cell 2
  have t3 := HF.out.1.cell 3
  have t4 := HF.out.1.cell 4
  have t5 := HF.out.1.cell 5
  simp at t0 t1 t2 t3 t4 t5
  go_wp2_with fail
  refine bodyPost_ret (v := .agg #[.int .i64 k, .int .i64 c, .slice A n cap, .int .i64 (sh : Int), .int .i64 (lg : Int), .bool bd]) ?_ rfl ⟨rfl, HF.out.2⟩
  simp [results, Try.results76, go_sem, t0, t1, t2, t3, t4, t5]
end Go.Proofs.Ytegkogadceodlaa
