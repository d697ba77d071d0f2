/-
  The laws DecideBreaks and DecideWhich: their walks, given that the calls of awake hand back yes.
  Contract: virguleref07.Breaks.
  Contract: virguleref07.Which.
  A rule's sides, looked for from a place on, and asked of tables: both say the same.
  Where an expression leads within a part of the marks; how far it leads: no program.
  Contract: Matches, by the definition.
  The answer of a run over the marks. No program.
  A mark is read: a state knows what it should. No program.
  A mark is read: what a state knows then. No program.
  What a state knows: it ends where its expression leads, and is live where a leaf may have taken the last mark. No program.
  Which expressions are live: a leaf within may have taken the last mark. No program.
  What Leads makes is where an expression leads: no program.
  Where an expression leads: no program.
  Contract: Leads.
  Contract: one. What Leads makes, as functions.
  Contract: times.
  Contract: either.
  Tables of yes and no, as they lie; while they are made.
-/
import Derived.BigRegion
import Derived.Deep.RegionLaw
import Derived.BigQuiet
import Derived.Deep.CutRange
import Derived.Test.YtegkogadceodlaaXsa
import Derived.Test.YtegkogadceodlaaXsb
import Derived.Test.YtegkogadceodlaaXsc
import Derived.Test.YtegkogadceodlaaXsd
import Derived.Test.YtegkogadceodlaaXse
import Derived.Test.YtegkogadceodlaaXsf
import Derived.Test.YtegkogadceodlaaXsg
import Derived.Test.YtegkogadceodlaaXsh
import Derived.Test.YtegkogadceodlaaXsi
import Derived.Test.YtegkogadceodlaaXsj
namespace Go.Proofs.Ytegkogadceodlaa.L
open Go.RowKit Go.Shelf Go.Lib Go.Sort Go.Maps

/-- An array by its cells. -/
def arr (n : Nat) (f : Nat → Value) : Array Value := ((List.range n).map f).toArray
theorem arr_size (n : Nat) (f : Nat → Value) : (arr n f).size = n := by simp [arr]
theorem arr_get {n i : Nat} (f : Nat → Value) (h : i < n) : (arr n f)[i]? = some (f i) := by simp [arr, h]
theorem arr_none {n i : Nat} (f : Nat → Value) (h : n ≤ i) : (arr n f)[i]? = none := by simp [arr, h]
theorem arr_set (n i : Nat) (f : Nat → Value) (v : Value) : (arr n f).setIfInBounds i v = arr n (fun j => if j = i then v else f j) := by
  apply Array.ext_getElem?
  intro j
  rw [Array.getElem?_setIfInBounds]
  by_cases hj : j < n
  · rw [arr_get f hj, arr_get (fun j => if j = i then v else f j) hj]
    by_cases e : i = j
    · subst e; rw [if_pos rfl, if_pos (by rw [arr_size]; exact hj), if_pos rfl]
    · rw [if_neg e, if_neg (fun h => e h.symm)]
  · rw [arr_none f (by omega), arr_none (fun j => if j = i then v else f j) (by omega)]
    split
    · rw [if_neg (by rw [arr_size]; omega)]
    · rfl
theorem arr_congr {n : Nat} {f g : Nat → Value} (h : ∀ i, i < n → f i = g i) : arr n f = arr n g := by
  unfold arr
  congr 1
  exact List.map_congr_left fun i hi => h i (List.mem_range.1 hi)
theorem made_arr (z : Value) (n : Nat) : madeCells #[z] n = arr n (fun _ => z) := by
  apply Array.ext_getElem?
  intro j
  by_cases hj : j < n
  · rw [arr_get _ hj]; simp [madeCells, hj, Nat.mod_one]
  · rw [arr_none _ (by omega)]; simp [madeCells]; omega
set_option maxRecDepth 100000 in
theorem make_heads (n : Nat) (hn : n ≤ 100000) (w : World) : (Instr.makeSlice 78 (.int .i64 (n : Int)) (.int .i64 (n : Int))).run Try.prog w = .ok (.slice (some ⟨w.heap.size, 0, none⟩) n n) (w.alloc (.cells (arr n fun _ => .slice none 0 0) 52)) := by
  obtain ⟨i, hi, hz, hsize, hby⟩ : ∃ i, Try.prog.info? 52 = some i ∧ i.zero = some (.slice none 0 0) ∧ i.size = 1 ∧ i.bytes = 24 := ⟨_, rfl, rfl, rfl, rfl⟩
  have := run_make (P := Try.prog) w 78 52 i _ Try.underlying78 hi hz .i64 .i64 (n : Int) (n : Int) (by omega) (by omega) (by rw [hby]; omega) (by omega)
  rw [hsize] at this
  rw [this, ← made_arr]
  simp [Value.cells]
set_option maxRecDepth 100000 in
theorem make_row (n : Nat) (hn : n ≤ 100000) (w : World) : (Instr.makeSlice 52 (.int .i64 (n : Int)) (.int .i64 (n : Int))).run Try.prog w = .ok (.slice (some ⟨w.heap.size, 0, none⟩) n n) (w.alloc (.cells (arr n fun _ => .bool false) 4)) := by
  obtain ⟨i, hi, hz, hsize, hby⟩ : ∃ i, Try.prog.info? 4 = some i ∧ i.zero = some (.bool false) ∧ i.size = 1 ∧ i.bytes = 1 := ⟨_, rfl, rfl, rfl, rfl⟩
  have := run_make (P := Try.prog) w 52 4 i _ Try.underlying52 hi hz .i64 .i64 (n : Int) (n : Int) (by omega) (by omega) (by rw [hby]; omega) (by omega)
  rw [hsize] at this
  rw [this, ← made_arr]
  simp [Value.cells]
/-- A table, as it lies. -/
structure TbB (w : World) (K : Nat) (f : Nat → Nat → Bool) (b : Nat) : Prop where
  lt : b < w.heap.size
  r : ∀ i, i < K → ∃ r, w.cell? ⟨b, i, none⟩ = some (.slice (some ⟨r, 0, none⟩) K K) ∧ r < w.heap.size ∧ ∀ j, j < K → w.cell? ⟨r, j, none⟩ = some (.bool (f i j))
theorem TbB.on {w w' : World} {K b : Nat} {f : Nat → Nat → Bool} (h : TbB w K f b) (hb : Below w.heap.size w w') : TbB w' K f b :=
  ⟨Nat.lt_of_lt_of_le h.lt hb.size, fun i hi => by
    obtain ⟨r, h1, h2, h3⟩ := h.r i hi
    exact ⟨r, (hb.cell (p := ⟨b, i, none⟩) h.lt).trans h1, Nat.lt_of_lt_of_le h2 hb.size, fun j hj => (hb.cell (p := ⟨r, j, none⟩) h2).trans (h3 j hj)⟩⟩
theorem TbB.congr {w : World} {K b : Nat} {f g : Nat → Nat → Bool} (h : TbB w K f b) (hg : ∀ i j, i < K → j < K → f i j = g i j) : TbB w K g b :=
  ⟨h.lt, fun i hi => by
    obtain ⟨r, h1, h2, h3⟩ := h.r i hi
    exact ⟨r, h1, h2, fun j hj => by rw [h3 j hj, hg i j hi hj]⟩⟩
def TbOk (w : World) (K : Nat) (f : Nat → Nat → Bool) (r : Ending) (w' : World) : Prop := ∃ b, r = .returned (.slice (some ⟨b, 0, none⟩) K K) ∧ TbB w' K f b ∧ Below w.heap.size w w'
theorem cells_apart {w : World} {k k' t t' : Nat} {cs cs' : Array Value} (h : Cells w k t cs) (h' : Cells w k' t' cs') (hne : t ≠ t') : k ≠ k' := by
  rintro rfl
  unfold Cells at h h'
  rw [h] at h'
  simp at h'
  exact hne h'.2
def headsV (K n : Nat) (rs : Nat → Nat) : Array Value := arr K fun i => if i < n then .slice (some ⟨rs i, 0, none⟩) K K else .slice none 0 0
/-- A table while it is made: so many rows are there. -/
structure TbM (w0 w : World) (b K n : Nat) (rs : Nat → Nat) (f : Nat → Nat → Bool) : Prop where
  bl : Below w0.heap.size w0 w
  hb : w0.heap.size ≤ b
  h : Cells w b 52 (headsV K n rs)
  r : ∀ i, i < n → w0.heap.size ≤ rs i ∧ Cells w (rs i) 4 (arr K fun j => .bool (f i j))
  d : ∀ i j, i < n → j < n → rs i = rs j → i = j
section
variable {w0 w w' : World} {b K n : Nat} {rs : Nat → Nat} {f : Nat → Nat → Bool}
theorem TbM.drew (h : TbM w0 w b K n rs f) : TbM w0 w.drew b K n rs f := ⟨h.bl.drew, h.hb, h.h, fun i hi => ⟨(h.r i hi).1, (h.r i hi).2⟩, h.d⟩
theorem TbM.on (h : TbM w0 w b K n rs f) (hb : Below w.heap.size w w') : TbM w0 w' b K n rs f := ⟨h.bl.trans (hb.mono h.bl.size), h.hb, h.h.on hb, fun i hi => ⟨(h.r i hi).1, (h.r i hi).2.on hb⟩, h.d⟩
theorem TbM.start (w0 w : World) (hb : Below w0.heap.size w0 w) (K : Nat) (rs : Nat → Nat) (f : Nat → Nat → Bool) : TbM w0 (w.alloc (.cells (arr K fun _ => .slice none 0 0) 52)) w.heap.size K 0 rs f :=
  ⟨hb.alloc hb.size _, hb.size, by
    have := cells_new w (arr K fun _ => Value.slice none 0 0) 52
    unfold headsV
    simpa using this, fun i hi => by omega, fun i j hi => by omega⟩
/-- A row more. -/
theorem TbM.row (h : TbM w0 w b K n rs f) : TbM w0 ((w.setCell ⟨b, n, none⟩ (.slice (some ⟨w.heap.size, 0, none⟩) K K)).alloc (.cells (arr K fun _ => .bool false) 4)) b K (n + 1) (fun i => if i = n then w.heap.size else rs i) (fun i j => if i = n then false else f i j) := by
  have hbl := h.h.lt
  have hh := h.h.set n (.slice (some ⟨w.heap.size, 0, none⟩) K K)
  have hs : (w.setCell ⟨b, n, none⟩ (.slice (some ⟨w.heap.size, 0, none⟩) K K)).heap.size = w.heap.size := by simp
  have hr : ∀ i, i < n → Cells (w.setCell ⟨b, n, none⟩ (.slice (some ⟨w.heap.size, 0, none⟩) K K)) (rs i) 4 (arr K fun j => .bool (f i j)) := fun i hi => by
    have k2 := (h.r i hi).2
    have := cells_apart k2 h.h (by decide)
    unfold Cells at k2 ⊢
    rw [Below.heap_setCell _ _ _ _ (by simpa using this)]
    exact k2
  have hb0 : Below w0.heap.size w0 (w.setCell ⟨b, n, none⟩ (.slice (some ⟨w.heap.size, 0, none⟩) K K)) := h.bl.setCell h.hb _
  obtain ⟨W, hW⟩ : ∃ W, w.setCell ⟨b, n, none⟩ (.slice (some ⟨w.heap.size, 0, none⟩) K K) = W := ⟨_, rfl⟩
  rw [hW] at hh hs hr hb0 ⊢
  have nb := below_new W (.cells (arr K fun _ => .bool false) 4)
  have hn := cells_new W (arr K fun _ => .bool false) 4
  rw [hs] at hn
  refine ⟨hb0.alloc hb0.size _, h.hb, ?_, fun i hi => ?_, fun i j hi hj e => ?_⟩
  · have := hh.on nb
    unfold headsV at this
    rw [arr_set] at this
    unfold headsV
    rw [show (arr K fun i => if i < n + 1 then Value.slice (some ⟨if i = n then w.heap.size else rs i, 0, none⟩) K K else .slice none 0 0) = arr K (fun j => if j = n then .slice (some ⟨w.heap.size, 0, none⟩) K K else if j < n then .slice (some ⟨rs j, 0, none⟩) K K else .slice none 0 0) from arr_congr fun i _ => by
      by_cases e : i = n
      · subst e; simp
      · by_cases l : i < n
        · rw [if_pos (show i < n + 1 by omega), if_neg e, if_neg e, if_pos l]
        · rw [if_neg (show ¬ i < n + 1 by omega), if_neg e, if_neg l]]
    exact this
  · by_cases e : i = n
    · subst e
      simp only [if_true]
      exact ⟨h.bl.size, hn⟩
    · simp only [if_neg e]
      exact ⟨(h.r i (by omega)).1, (hr i (by omega)).on nb⟩
  · by_cases e1 : i = n
    · by_cases e2 : j = n
      · omega
      · simp only [if_pos e1, if_neg e2] at e
        have := (h.r j (by omega)).2.lt
        omega
    · by_cases e2 : j = n
      · simp only [if_neg e1, if_pos e2] at e
        have := (h.r i (by omega)).2.lt
        omega
      · simp only [if_neg e1, if_neg e2] at e
        exact h.d i j (by omega) (by omega) e
/-- A cell is set. -/
theorem TbM.put (h : TbM w0 w b K n rs f) {i j : Nat} (hi : i < n) (v : Bool) : TbM w0 (w.setCell ⟨rs i, j, none⟩ (.bool v)) b K n rs (fun a c => if a = i ∧ c = j then v else f a c) := by
  obtain ⟨k1, k2⟩ := h.r i hi
  refine ⟨h.bl.setCell k1 _, h.hb, ?_, fun a ha => ⟨(h.r a ha).1, ?_⟩, h.d⟩
  · have := cells_apart h.h k2 (by decide)
    have hh := h.h
    unfold Cells at hh ⊢
    rw [Below.heap_setCell _ _ _ _ (by simpa using this)]
    exact hh
  · by_cases e : a = i
    · subst e
      have := k2.set j (.bool v)
      rw [arr_set] at this
      rw [show (arr K fun c => Value.bool (if a = a ∧ c = j then v else f a c)) = arr K (fun c => if c = j then .bool v else .bool (f a c)) from arr_congr fun c _ => by
        by_cases e : c = j
        · rw [if_pos e, if_pos ⟨rfl, e⟩]
        · rw [if_neg e, if_neg (fun q => e q.2)]]
      exact this
    · obtain ⟨_, q2⟩ := h.r a ha
      have hne : rs a ≠ rs i := fun q => e (h.d a i ha hi q)
      rw [show (arr K fun c => Value.bool (if a = i ∧ c = j then v else f a c)) = arr K (fun c => .bool (f a c)) from arr_congr fun c _ => by rw [if_neg (fun q => e q.1)]]
      unfold Cells at q2 ⊢
      rw [Below.heap_setCell _ _ _ _ (by simpa using hne)]
      exact q2
/-- All rows are there. -/
theorem TbM.done (h : TbM w0 w b K K rs f) : TbB w K f b :=
  ⟨h.h.lt, fun i hi => ⟨rs i, by
    rw [h.h.cell i]
    unfold headsV
    rw [arr_get _ hi, if_pos hi], (h.r i hi).2.lt, fun j hj => by rw [(h.r i hi).2.cell j, arr_get _ hj]⟩⟩
theorem TbM.head (h : TbM w0 w b K n rs f) {i : Nat} (hi : i < K) (hn : i < n) : w.cell? ⟨b, i, none⟩ = some (.slice (some ⟨rs i, 0, none⟩) K K) := by
  rw [h.h.cell i]
  unfold headsV
  rw [arr_get _ hi, if_pos hn]
theorem TbM.head0 (h : TbM w0 w b K n rs f) {i : Nat} (hi : i < K) (hn : n ≤ i) : w.cell? ⟨b, i, none⟩ = some (.slice none 0 0) := by
  rw [h.h.cell i]
  unfold headsV
  rw [arr_get _ hi, if_neg (by omega)]
theorem TbM.cell (h : TbM w0 w b K n rs f) {i j : Nat} (hi : i < n) (hj : j < K) : w.cell? ⟨rs i, j, none⟩ = some (.bool (f i j)) := by
  rw [(h.r i hi).2.cell j, arr_get _ hj]
end
end Go.Proofs.Ytegkogadceodlaa.L

namespace Go.Proofs.Ytegkogadceodlaa.L
open Go.RowKit Go.Shelf Go.Lib Go.Maps

set_option maxHeartbeats 8000000 in
set_option maxRecDepth 100000 in
theorem either_any {K : Nat} (hK : K ≤ 1000) {f g : Nat → Nat → Bool} {ba bg : Nat} {w : World} (hf : TbB w K f ba) (hg : TbB w K g bg) :
    Calls Try.prog 66 #[.slice (some ⟨ba, 0, none⟩) K K, .slice (some ⟨bg, 0, none⟩) K K] w (TbOk w K fun i j => f i j || g i j) := by
  obtain ⟨F, hF⟩ : ∃ F : Nat → Nat → Bool, (fun i j => f i j || g i j) = F := ⟨_, rfl⟩
  have hFi : ∀ i j, F i j = (f i j || g i j) := fun i j => by rw [← hF]
  rw [hF]
  have H := Lib.hid (And.intro hf (And.intro hg hFi))
  have mk1 := make_heads K (by omega) w
  clear hf hg hF hFi
  go_enter Try.func66, Try.ntmps66
  go_wp2_with fail
  clear mk1
  go_loopw [6] (fun u wr => ∃ (i : Nat) (rs : Nat → Nat) (q : Nat → Nat → Bool), u = .int .i64 (i : Int) ∧ i ≤ K ∧ TbM w wr w.heap.size K i rs q ∧ ∀ a, a < i → ∀ c, c < K → q a c = F a c) (fun u _ => K - (RowKit.intOf u).toNat)
  case atStart => exact ⟨0, fun _ => 0, fun _ _ => false, rfl, by omega, TbM.start w w (Below.refl _ _) K _ _, fun a ha => by omega⟩
  case round =>
    obtain ⟨i, rs, q, rfl, hi, hM, hq⟩ := hrel
    by_cases hlt : i < K
    · have i1 : (i : Int) < (K : Int) := by omega
      have mk2 := make_row K (by omega) wr
      have nb := below_new wr (.cells (arr K fun _ => .bool false) 4)
      have c0 : wr.cell? ⟨w.heap.size, i, none⟩ = some (.slice none 0 0) := hM.head0 hlt (Nat.le_refl _)
      have z0 : w.heap.size < wr.heap.size := hM.h.lt
      have f0 : wr.frozen? ⟨w.heap.size, i, none⟩ = false := hM.h.froz i
      have hM1 := hM.row
      obtain ⟨W1, hW1⟩ : ∃ W, (wr.setCell ⟨w.heap.size, i, none⟩ (.slice (some ⟨wr.heap.size, 0, none⟩) K K)).alloc (.cells (arr K fun _ => .bool false) 4) = W := ⟨_, rfl⟩
      rw [hW1] at hM1
      have HW := Lib.hid hW1
      have HM := Lib.hid (And.intro hM1 (And.intro hq hlt))
      clear hM hq hM1 hW1 nb
      go_wp2_with fail
      rw [HW.out]
      clear mk2 c0 z0 f0
      obtain ⟨wo, rfl⟩ : ∃ W : World, W = wr := ⟨_, rfl⟩
      go_loopw [7] (fun u wi => ∃ (j : Nat) (q' : Nat → Nat → Bool), u = .int .i64 (j : Int) ∧ j ≤ K ∧ TbM w wi w.heap.size K (i + 1) (fun a => if a = i then wo.heap.size else rs a) q' ∧ (∀ a, a < i → ∀ c, c < K → q' a c = F a c) ∧ ∀ c, c < j → q' i c = F i c) (fun u _ => K - (RowKit.intOf u).toNat)
      case atStart => exact ⟨0, _, rfl, by omega, HM.out.1, fun a ha c hc => by rw [if_neg (by omega)]; exact HM.out.2.1 a ha c hc, fun c hc => by omega⟩
      case round =>
        obtain ⟨j, q', rfl, hj, hM', hq1, hq2⟩ := hrel
        by_cases hjl : j < K
        · have i2 : (j : Int) < (K : Int) := by omega
          have hil := HM.out.2.2
          have hb := hM'.bl
          obtain ⟨r1, a1, a2, a3⟩ := (H.out.1.on hb).r i hil
          obtain ⟨r2, b1, b2, b3⟩ := (H.out.2.1.on hb).r i hil
          have a3 := a3 j hjl
          have b3 := b3 j hjl
          have hro : (if i = i then wo.heap.size else rs i) = wo.heap.size := if_pos rfl
          have c1 := hM'.head hil (Nat.lt_succ_self i)
          have hc2 := (hM'.r i (Nat.lt_succ_self i)).2
          rw [hro] at c1 hc2
          have f2 : wr.frozen? ⟨wo.heap.size, j, none⟩ = false := hc2.froz j
          have z2 : wo.heap.size < wr.heap.size := hc2.lt
          have c2 : wr.cell? ⟨wo.heap.size, j, none⟩ = some (.bool (q' i j)) := by rw [hc2.cell j, arr_get _ hjl]
          have hF := H.out.2.2 i j
          have hP := fun v => (hM'.put (i := i) (j := j) (Nat.lt_succ_self i) v)
          rw [hro] at hP
          have hend : ∀ v, v = F i j → ∃ (j2 : Nat) (q2 : Nat → Nat → Bool), Value.int .i64 ((j : Int) + 1) = .int .i64 (j2 : Int) ∧ j2 ≤ K ∧ TbM w ((wr.setCell ⟨wo.heap.size, j, none⟩ (.bool v)).drew) w.heap.size K (i + 1) (fun a => if a = i then wo.heap.size else rs a) q2 ∧ (∀ a, a < i → ∀ c, c < K → q2 a c = F a c) ∧ ∀ c, c < j2 → q2 i c = F i c := fun v hv => by
            refine ⟨j + 1, _, by simp, by omega, (hP v).drew, fun a ha c hc => ?_, fun c hc => ?_⟩
            · rw [if_neg (by omega)]; exact hq1 a ha c hc
            · by_cases e : c = j
              · rw [if_pos ⟨rfl, e⟩, hv, e]
              · rw [if_neg (fun h => e h.2)]; exact hq2 c (by omega)
          have HE := Lib.hid hend
          have hii : (i : Int) < (K : Int) := by omega
          clear hP hend hM' hq1 hq2 hc2 hro hb hi
          cases e1 : f i j with
          | true =>
            rw [e1] at a3 hF
            have HF := Lib.hid (HE.out true (by rw [hF]; rfl))
            clear hF
            go_wp2_with fail
            go_region
            all_goals
              go_wp2_with fail
              go_roundw
              case rel => exact HF.out
              case measure => simp [RowKit.intOf]; omega
          | false =>
            rw [e1] at a3 hF
            cases e2 : g i j with
            | true =>
              rw [e2] at b3 hF
              have HF := Lib.hid (HE.out true (by rw [hF]; rfl))
              clear hF
              go_wp2_with fail
              go_region
              all_goals
                go_wp2_with fail
                go_roundw
                case rel => exact HF.out
                case measure => simp [RowKit.intOf]; omega
            | false =>
              rw [e2] at b3 hF
              have HF := Lib.hid (HE.out false (by rw [hF]; rfl))
              clear hF
              go_wp2_with fail
              go_region
              all_goals
                go_wp2_with fail
                go_roundw
                case rel => exact HF.out
                case measure => simp [RowKit.intOf]; omega
        · obtain rfl : j = K := by omega
          have i2 : ¬ (j : Int) < (j : Int) := by omega
          have i2' : decide ((j : Int) < (j : Int)) = false := by simp
          have hend : ∃ (i2 : Nat) (rs2 : Nat → Nat) (q2 : Nat → Nat → Bool), Value.int .i64 ((i : Int) + 1) = .int .i64 (i2 : Int) ∧ i2 ≤ j ∧ TbM w wr w.heap.size j i2 rs2 q2 ∧ ∀ a, a < i2 → ∀ c, c < j → q2 a c = F a c := by
            refine ⟨i + 1, _, q', by simp, by have := HM.out.2.2; omega, hM', fun a ha c hc => ?_⟩
            by_cases e : a = i
            · subst e; exact hq2 c hc
            · exact hq1 a (by omega) c hc
          have HE := Lib.hid hend
          have HI := HM.out.2.2
          clear hend hM' hq1 hq2
          go_wp2_with fail
          go_roundw
          case rel => exact HE.out
          case measure => simp [RowKit.intOf]; omega
    · obtain rfl : i = K := by omega
      have i1 : ¬ (i : Int) < (i : Int) := by omega
      have i1' : decide ((i : Int) < (i : Int)) = false := by simp
      have HE := Lib.hid (And.intro (hM.done.congr (fun a c ha hc => hq a ha c hc)) hM.bl)
      clear hM hq
      go_wp2_with fail
      go_ret
      exact ⟨_, rfl, HE.out.1, HE.out.2⟩
end Go.Proofs.Ytegkogadceodlaa.L

namespace Go.Proofs.Ytegkogadceodlaa.L
open Go.RowKit Go.Shelf Go.Lib Go.Maps

def viaB (f g : Nat → Nat → Bool) (i : Nat) : Nat → Nat → Bool
  | 0, _ => false
  | k + 1, c => viaB f g i k c || (f i k && g k c)
def RestB (f : Nat → Nat → Bool) (i k j : Nat) : Prop := f i k = true ∨ j = 0
set_option maxHeartbeats 8000000 in
set_option maxRecDepth 100000 in
theorem times_any {K : Nat} (hK : K ≤ 1000) {f g : Nat → Nat → Bool} {ba bg : Nat} {w : World} (hf : TbB w K f ba) (hg : TbB w K g bg) :
    Calls Try.prog 65 #[.slice (some ⟨ba, 0, none⟩) K K, .slice (some ⟨bg, 0, none⟩) K K] w (TbOk w K fun i c => viaB f g i K c) := by
  obtain ⟨P, hP⟩ : ∃ P : Nat → Nat → Nat → Bool, viaB f g = P := ⟨_, rfl⟩
  have hP0 : ∀ i c, P i 0 c = false := fun i c => by rw [← hP]; rfl
  have hPs : ∀ i k c, P i (k + 1) c = (P i k c || (f i k && g k c)) := fun i k c => by rw [← hP]; rfl
  rw [hP]
  have H := Lib.hid (And.intro hf (And.intro hg (And.intro hP0 hPs)))
  have mk1 := make_heads K (by omega) w
  clear hf hg hP hP0 hPs
  go_enter Try.func65, Try.ntmps65
  go_wp2_with fail
  clear mk1
  go_loopw [6] (fun u wr => ∃ (i : Nat) (rs : Nat → Nat) (q : Nat → Nat → Bool), u = .int .i64 (i : Int) ∧ i ≤ K ∧ TbM w wr w.heap.size K i rs q ∧ ∀ a, a < i → ∀ c, c < K → q a c = P a K c) (fun u _ => K - (RowKit.intOf u).toNat)
  case atStart => exact ⟨0, fun _ => 0, fun _ _ => false, rfl, by omega, TbM.start w w (Below.refl _ _) K _ _, fun a ha => by omega⟩
  case round =>
    obtain ⟨i, rs, q, rfl, hi, hM, hq⟩ := hrel
    by_cases hlt : i < K
    · have i1 : (i : Int) < (K : Int) := by omega
      have mk2 := make_row K (by omega) wr
      have c0 : wr.cell? ⟨w.heap.size, i, none⟩ = some (.slice none 0 0) := hM.head0 hlt (Nat.le_refl _)
      have z0 : w.heap.size < wr.heap.size := hM.h.lt
      have f0 : wr.frozen? ⟨w.heap.size, i, none⟩ = false := hM.h.froz i
      have hM1 := hM.row
      obtain ⟨W1, hW1⟩ : ∃ W, (wr.setCell ⟨w.heap.size, i, none⟩ (.slice (some ⟨wr.heap.size, 0, none⟩) K K)).alloc (.cells (arr K fun _ => .bool false) 4) = W := ⟨_, rfl⟩
      rw [hW1] at hM1
      have HW := Lib.hid hW1
      have HM := Lib.hid (And.intro hM1 (And.intro hq hlt))
      clear hM hq hM1 hW1
      go_wp2_with fail
      rw [HW.out]
      clear mk2 c0 z0 f0
      obtain ⟨wo, rfl⟩ : ∃ W : World, W = wr := ⟨_, rfl⟩
      go_loopw [7] (fun u wi => ∃ (k : Nat) (q' : Nat → Nat → Bool), u = .int .i64 (k : Int) ∧ k ≤ K ∧ TbM w wi w.heap.size K (i + 1) (fun a => if a = i then wo.heap.size else rs a) q' ∧ (∀ a, a < i → ∀ c, c < K → q' a c = P a K c) ∧ ∀ c, c < K → q' i c = P i k c) (fun u _ => K - (RowKit.intOf u).toNat)
      case atStart => exact ⟨0, _, rfl, by omega, HM.out.1, fun a ha c hc => by rw [if_neg (by omega)]; exact HM.out.2.1 a ha c hc, fun c hc => by rw [if_pos rfl, H.out.2.2.1]⟩
      case round =>
        obtain ⟨k, q', rfl, hk, hM', hq1, hq2⟩ := hrel
        by_cases hkl : k < K
        · have i3 : (k : Int) < (K : Int) := by omega
          have HJ := Lib.hid (And.intro hM' (And.intro hq1 (And.intro hq2 hkl)))
          clear hM' hq1 hq2
          go_wp2_with fail
          obtain ⟨wk, rfl⟩ : ∃ W : World, W = wr := ⟨_, rfl⟩
          go_loopw [8] (fun u wi => ∃ (j : Nat) (q' : Nat → Nat → Bool), u = .int .i64 (j : Int) ∧ j ≤ K ∧ RestB f i k j ∧ TbM w wi w.heap.size K (i + 1) (fun a => if a = i then wo.heap.size else rs a) q' ∧ (∀ a, a < i → ∀ c, c < K → q' a c = P a K c) ∧ ∀ c, c < K → q' i c = if c < j then P i (k + 1) c else P i k c) (fun u _ => K - (RowKit.intOf u).toNat)
          case atStart => exact ⟨0, q', rfl, by omega, .inr rfl, HJ.out.1, HJ.out.2.1, fun c hc => by rw [if_neg (by omega)]; exact HJ.out.2.2.1 c hc⟩
          case round =>
            obtain ⟨j, q2, rfl, hj, hfj, hM', hq1, hq2⟩ := hrel
            have hil := HM.out.2.2
            have hkl := HJ.out.2.2.2
            have hb := hM'.bl
            by_cases hjl : j < K
            · have i2 : (j : Int) < (K : Int) := by omega
              have i2' : decide ((j : Int) < (K : Int)) = true := by simpa using i2
              obtain ⟨r1, a1, a2, a3⟩ := (H.out.1.on hb).r i hil
              replace a3 := a3 k hkl
              have hii : (i : Int) < (K : Int) := by omega
              have hkk : (k : Int) < (K : Int) := by omega
              cases e1 : f i k with
              | true =>
                rw [e1] at a3
                obtain ⟨r2, b1, b2, b3⟩ := (H.out.2.1.on hb).r k hkl
                replace b3 := b3 j hjl
                have hro : (if i = i then wo.heap.size else rs i) = wo.heap.size := if_pos rfl
                have c1 := hM'.head hil (Nat.lt_succ_self i)
                have hc2 := (hM'.r i (Nat.lt_succ_self i)).2
                rw [hro] at c1 hc2
                have f2 : wr.frozen? ⟨wo.heap.size, j, none⟩ = false := hc2.froz j
                have z2 : wo.heap.size < wr.heap.size := hc2.lt
                have c2 : wr.cell? ⟨wo.heap.size, j, none⟩ = some (.bool (q2 i j)) := by rw [hc2.cell j, arr_get _ hjl]
                have hqij := hq2 j hjl
                rw [if_neg (by omega)] at hqij
                have hPs := H.out.2.2.2 i k j
                rw [e1, Bool.true_and] at hPs
                have hP := fun v => (hM'.put (i := i) (j := j) (Nat.lt_succ_self i) v)
                rw [hro] at hP
                have hend : ∀ v, v = P i (k + 1) j → ∃ (j2 : Nat) (q3 : Nat → Nat → Bool), Value.int .i64 ((j : Int) + 1) = .int .i64 (j2 : Int) ∧ j2 ≤ K ∧ RestB f i k j2 ∧ TbM w ((wr.setCell ⟨wo.heap.size, j, none⟩ (.bool v)).drew) w.heap.size K (i + 1) (fun a => if a = i then wo.heap.size else rs a) q3 ∧ (∀ a, a < i → ∀ c, c < K → q3 a c = P a K c) ∧ ∀ c, c < K → q3 i c = if c < j2 then P i (k + 1) c else P i k c := fun v hv => by
                  refine ⟨j + 1, _, by simp, by omega, .inl e1, (hP v).drew, fun a ha c hc => ?_, fun c hc => ?_⟩
                  · rw [if_neg (by omega)]; exact hq1 a ha c hc
                  · by_cases e : c = j
                    · rw [if_pos ⟨rfl, e⟩, hv, if_pos (by omega), e]
                    · rw [if_neg (fun h => e h.2), hq2 c hc]
                      by_cases l : c < j
                      · rw [if_pos l, if_pos (by omega)]
                      · rw [if_neg l, if_neg (by omega)]
                have HE := Lib.hid hend
                have HPQ := Lib.hid (And.intro hqij hPs)
                clear hP hend hM' hq1 hq2 hc2 hro hb hi hqij hPs hfj e1
                cases e3 : q2 i j with
                | true =>
                  rw [e3] at c2
                  have HF := Lib.hid (HE.out true (by rw [HPQ.out.2, ← HPQ.out.1, e3]; rfl))
                  go_wp2_with fail
                  go_region
                  all_goals
                    go_wp2_with fail
                    go_roundw
                    case rel => exact HF.out
                    case measure => simp [RowKit.intOf]; omega
                | false =>
                  rw [e3] at c2
                  cases e2 : g k j with
                  | true =>
                    rw [e2] at b3
                    have HF := Lib.hid (HE.out true (by rw [HPQ.out.2, ← HPQ.out.1, e3, e2]; rfl))
                    go_wp2_with fail
                    go_region
                    all_goals
                      go_wp2_with fail
                      go_roundw
                      case rel => exact HF.out
                      case measure => simp [RowKit.intOf]; omega
                  | false =>
                    rw [e2] at b3
                    have HF := Lib.hid (HE.out false (by rw [HPQ.out.2, ← HPQ.out.1, e3, e2]; rfl))
                    go_wp2_with fail
                    go_region
                    all_goals
                      go_wp2_with fail
                      go_roundw
                      case rel => exact HF.out
                      case measure => simp [RowKit.intOf]; omega
              | false =>
                rw [e1] at a3
                have hj0 : j = 0 := by
                  rcases hfj with e | e
                  · rw [e1] at e; cases e
                  · exact e
                have hend : ∃ (k2 : Nat) (q3 : Nat → Nat → Bool), Value.int .i64 ((k : Int) + 1) = .int .i64 (k2 : Int) ∧ k2 ≤ K ∧ TbM w wr w.heap.size K (i + 1) (fun a => if a = i then wo.heap.size else rs a) q3 ∧ (∀ a, a < i → ∀ c, c < K → q3 a c = P a K c) ∧ ∀ c, c < K → q3 i c = P i k2 c := by
                  refine ⟨k + 1, q2, by simp, by omega, hM', hq1, fun c hc => ?_⟩
                  rw [hq2 c hc, if_neg (by omega), H.out.2.2.2, e1, Bool.false_and, Bool.or_false]
                have HE := Lib.hid hend
                clear hend hM' hq1 hq2 hb hfj hj0
                go_wp2_with fail
                go_roundw
                case rel => exact HE.out
                case measure => simp [RowKit.intOf]; omega
            · obtain rfl : j = K := by omega
              have i2 : ¬ (j : Int) < (j : Int) := by omega
              have i2' : decide ((j : Int) < (j : Int)) = false := by simp
              have hend : ∃ (k2 : Nat) (q3 : Nat → Nat → Bool), Value.int .i64 ((k : Int) + 1) = .int .i64 (k2 : Int) ∧ k2 ≤ j ∧ TbM w wr w.heap.size j (i + 1) (fun a => if a = i then wo.heap.size else rs a) q3 ∧ (∀ a, a < i → ∀ c, c < j → q3 a c = P a j c) ∧ ∀ c, c < j → q3 i c = P i k2 c := by
                refine ⟨k + 1, q2, by simp, by omega, hM', hq1, fun c hc => ?_⟩
                rw [hq2 c hc, if_pos hc]
              have HE := Lib.hid hend
              clear hend hM' hq1 hq2 hb hfj
              go_wp2_with fail
              go_roundw
              case rel => exact HE.out
              case measure => simp [RowKit.intOf]; omega
        · obtain rfl : k = K := by omega
          have i2 : ¬ (k : Int) < (k : Int) := by omega
          have i2' : decide ((k : Int) < (k : Int)) = false := by simp
          have hend : ∃ (i2 : Nat) (rs2 : Nat → Nat) (q2 : Nat → Nat → Bool), Value.int .i64 ((i : Int) + 1) = .int .i64 (i2 : Int) ∧ i2 ≤ k ∧ TbM w wr w.heap.size k i2 rs2 q2 ∧ ∀ a, a < i2 → ∀ c, c < k → q2 a c = P a k c := by
            refine ⟨i + 1, _, q', by simp, by have := HM.out.2.2; omega, hM', fun a ha c hc => ?_⟩
            by_cases e : a = i
            · subst e; exact hq2 c hc
            · exact hq1 a (by omega) c hc
          have HE := Lib.hid hend
          have HI := HM.out.2.2
          clear hend hM' hq1 hq2
          go_wp2_with fail
          go_roundw
          case rel => exact HE.out
          case measure => simp [RowKit.intOf]; omega
    · obtain rfl : i = K := by omega
      have i1 : ¬ (i : Int) < (i : Int) := by omega
      have i1' : decide ((i : Int) < (i : Int)) = false := by simp
      have HE := Lib.hid (And.intro (hM.done.congr (fun a c ha hc => hq a ha c hc)) hM.bl)
      clear hM hq
      go_wp2_with fail
      go_ret
      exact ⟨_, rfl, HE.out.1, HE.out.2⟩
end Go.Proofs.Ytegkogadceodlaa.L

namespace Go.Proofs.Ytegkogadceodlaa.L
open Go.RowKit Go.Shelf Go.Lib Go.Maps

def oneI (k c m : Int) : Bool := if k = 0 then m == c else if k = 1 then decide (0 ≤ m) && decide (m ≤ 35) else if k = 2 then decide (0 ≤ m) && decide (m ≤ 35) && m != c else k == 3 && m == 36
set_option maxHeartbeats 8000000 in
set_option maxRecDepth 100000 in
theorem one_any (k c m : Int) (A : Option Addr) (n cap : Nat) (w : World) : Calls Try.prog 64 #[.agg #[.int .i64 k, .int .i64 c, .slice A n cap], .int .i64 m] w fun e w' => e = .returned (.bool (oneI k c m)) ∧ Below w.heap.size w w' := by
  obtain ⟨R, hR⟩ : ∃ R, oneI k c m = R := ⟨_, rfl⟩
  rw [hR]
  have HR := Lib.hid hR
  have hb := Lib.hid (below_new w (.cells #[.int .i64 k, .int .i64 c, .slice A n cap] 24))
  clear hR
  by_cases h0 : k = 0
  · subst h0
    by_cases hc : m = c
    · subst hc
      go_enter Try.func64, Try.ntmps64
      go_wp2_with fail
      go_ret
      exact ⟨by rw [← HR.out]; simp [oneI], hb.out⟩
    · have hq : (m == c) = false := by simpa using hc
      go_enter Try.func64, Try.ntmps64
      go_wp2_with fail
      go_ret
      exact ⟨by rw [← HR.out]; simp [oneI, hc], hb.out⟩
  · have q0 : (k == 0) = false := by simpa using h0
    by_cases h1 : k = 1
    · subst h1
      by_cases m0 : 0 ≤ m
      · by_cases m1 : m ≤ 35
        · go_enter Try.func64, Try.ntmps64
          go_wp2_with fail
          go_ret
          exact ⟨by rw [← HR.out]; simp [oneI, m0, m1], hb.out⟩
        · have j1 : decide (m ≤ 35) = false := by simpa using m1
          go_enter Try.func64, Try.ntmps64
          go_wp2_with fail
          go_ret
          exact ⟨by rw [← HR.out]; simp [oneI]; intros; omega, hb.out⟩
      · have j0 : decide (0 ≤ m) = false := by simpa using m0
        go_enter Try.func64, Try.ntmps64
        go_wp2_with fail
        go_ret
        exact ⟨by rw [← HR.out]; simp [oneI]; intros; omega, hb.out⟩
    · have q1 : (k == 1) = false := by simpa using h1
      by_cases h2 : k = 2
      · subst h2
        by_cases m0 : 0 ≤ m
        · by_cases m1 : m ≤ 35
          · by_cases hc : m = c
            · subst hc
              go_enter Try.func64, Try.ntmps64
              go_wp2_with fail
              go_ret
              exact ⟨by rw [← HR.out]; simp [oneI], hb.out⟩
            · have hq : (m != c) = true := by simpa using hc
              go_enter Try.func64, Try.ntmps64
              go_wp2_with fail
              go_ret
              exact ⟨by rw [← HR.out]; simp [oneI, m0, m1, hc], hb.out⟩
          · have j1 : decide (m ≤ 35) = false := by simpa using m1
            go_enter Try.func64, Try.ntmps64
            go_wp2_with fail
            go_ret
            exact ⟨by rw [← HR.out]; simp [oneI]; intros; omega, hb.out⟩
        · have j0 : decide (0 ≤ m) = false := by simpa using m0
          go_enter Try.func64, Try.ntmps64
          go_wp2_with fail
          go_ret
          exact ⟨by rw [← HR.out]; simp [oneI]; intros; omega, hb.out⟩
      · have q2 : (k == 2) = false := by simpa using h2
        by_cases h3 : k = 3
        · subst h3
          by_cases hm : m = 36
          · subst hm
            go_enter Try.func64, Try.ntmps64
            go_wp2_with fail
            go_ret
            exact ⟨by rw [← HR.out]; simp [oneI], hb.out⟩
          · have hq : (m == 36) = false := by simpa using hm
            go_enter Try.func64, Try.ntmps64
            go_wp2_with fail
            go_ret
            exact ⟨by rw [← HR.out]; simp [oneI, hm], hb.out⟩
        · have q3 : (k == 3) = false := by simpa using h3
          go_enter Try.func64, Try.ntmps64
          go_wp2_with fail
          go_ret
          exact ⟨by rw [← HR.out]; simp [oneI, h0, h1, h2, h3], hb.out⟩
def cloB (K : Nat) (t : Nat → Nat → Bool) : Nat → Nat → Nat → Bool
  | 0 => t
  | r + 1 => fun i j => cloB K t r i j || viaB (cloB K t r) t i K j
def addB (K : Nat) (k : Int) (f t : Nat → Nat → Bool) : Nat → Nat → Bool :=
  if k = 4 then fun i j => viaB f t i K j else if k = 6 ∨ k = 7 then fun i j => f i j || cloB K t K i j else fun i j => f i j || t i j
def diagB (k : Int) : Bool := k == 4 || k == 6 || k == 8 || k == 9
def baseB (ms : List Int) (k c : Int) (i j : Nat) : Bool := (decide (j = i) && diagB k) || (decide (j = i + 1) && decide (i < ms.length) && decide (k < 4) && oneI k c (ms.getD i 0))
def ldB (ms : List Int) : E → Nat → Nat → Bool
  | .mk k c ks => ldL k ks (baseB ms k c)
where
  ldL (k : Int) : List E → (Nat → Nat → Bool) → Nat → Nat → Bool
    | [], f => f
    | e :: r, f => ldL k r (addB (ms.length + 1) k f (ldB ms e))
theorem ldL_cons (ms : List Int) (k : Int) (e : E) (r : List E) (f : Nat → Nat → Bool) : ldB.ldL ms k (e :: r) f = ldB.ldL ms k r (addB (ms.length + 1) k f (ldB ms e)) := by conv => lhs; unfold ldB.ldL
theorem ldL_append (ms : List Int) (k : Int) : ∀ (a r : List E) (f : Nat → Nat → Bool), ldB.ldL ms k (a ++ r) f = ldB.ldL ms k r (ldB.ldL ms k a f)
  | [], r, f => by simp [ldB.ldL]
  | e :: a, r, f => by rw [List.cons_append, ldL_cons, ldL_cons, ldL_append ms k a r]
theorem ldL_take {ms : List Int} {k : Int} {ks : List E} {i : Nat} {e : E} (h : ks[i]? = some e) (f : Nat → Nat → Bool) : ldB.ldL ms k (ks.take (i + 1)) f = addB (ms.length + 1) k (ldB.ldL ms k (ks.take i) f) (ldB ms e) := by
  rw [List.take_add_one, h, Option.toList_some, ldL_append, ldL_cons]
  simp [ldB.ldL]
theorem ldB_eq (ms : List Int) (e : E) : ldB ms e = ldB.ldL ms e.k e.ks (baseB ms e.k e.c) := by
  cases e
  conv => lhs; unfold ldB
  rfl
end Go.Proofs.Ytegkogadceodlaa.L

namespace Go.Proofs.Ytegkogadceodlaa.L
open Go.RowKit Go.Shelf Go.Lib Go.Maps

theorem base_row {ms : List Int} {k c : Int} {i j : Nat} {d : Bool} (hd : diagB k = d) (h : (decide (i < ms.length) && decide (k < 4)) = false) : baseB ms k c i j = if j = i then d else false := by
  unfold baseB
  rw [hd]
  have : (decide (j = i + 1) && decide (i < ms.length) && decide (k < 4) && oneI k c (ms.getD i 0)) = false := by
    rw [Bool.and_assoc (decide (j = i + 1)), h]; simp
  rw [this, Bool.or_false]
  by_cases e : j = i
  · rw [if_pos e]; simp [e]
  · rw [if_neg e]; simp [e]
theorem base_leaf {ms : List Int} {k c : Int} {i j : Nat} {m : Int} (hd : diagB k = false) (hk : k < 4) (hm : ms[i]? = some m) : baseB ms k c i j = if j = i + 1 then oneI k c m else false := by
  unfold baseB
  have hi := (List.getElem?_eq_some_iff.1 hm).1
  rw [hd, List.getD_eq_getElem?_getD, hm]
  by_cases e : j = i + 1
  · rw [if_pos e]; simp [e, hi, hk]
  · rw [if_neg e]; simp [e]
theorem diag_lt {k : Int} (h : k < 4) : diagB k = false := by
  unfold diagB
  simp
  omega
set_option maxHeartbeats 16000000 in
set_option maxRecDepth 100000 in
theorem leads_any (ms : List Int) (Am : Option Addr) (cm : Nat) (hms : ms.length ≤ 900) : ∀ N e, szE e ≤ N → ∀ v w, Nd w w.heap.size e v → IS w w.heap.size ms Am cm → Calls Try.prog 40 #[v, .slice Am ms.length cm] w (TbOk w (ms.length + 1) (ldB ms e)) := by
  intro N
  induction N with
  | zero => intro e he; have := szE_pos e; omega
  | succ N ih =>
    intro e he v w h hI
    obtain ⟨_, _, A, cap, rfl, hks⟩ := Nd_iff.1 h
    have hkid := fun i f (hf : e.ks[i]? = some f) => szE_kid (List.mem_of_getElem? hf)
    rw [ldB_eq]
    obtain ⟨k, hk⟩ : ∃ k, e.k = k := ⟨_, rfl⟩
    obtain ⟨c, hc⟩ : ∃ c, e.c = c := ⟨_, rfl⟩
    obtain ⟨ks, hkk⟩ : ∃ ks, e.ks = ks := ⟨_, rfl⟩
    rw [hk, hc, hkk]
    rw [hkk] at hks hkid
    have hnb : ks.length ≤ 9223372036854775807 := by have := hks.l; have := hks.m; unfold maxLen at this; omega
    obtain ⟨n, hn⟩ : ∃ n, ks.length = n := ⟨_, rfl⟩
    obtain ⟨nm, hnm⟩ : ∃ n, ms.length = n := ⟨_, rfl⟩
    obtain ⟨K, hK⟩ : ∃ K, nm + 1 = K := ⟨_, rfl⟩
    have hKi : (nm : Int) + 1 = (K : Int) := by omega
    obtain ⟨W0, hW0⟩ : ∃ W, w.alloc (.cells #[.int .i64 k, .int .i64 c, .slice A n cap] 24) = W := ⟨_, rfl⟩
    have b0 : Below w.heap.size w W0 := by rw [← hW0]; exact below_new _ _
    have x0 : Cells W0 w.heap.size 24 #[.int .i64 k, .int .i64 c, .slice A n cap] := by rw [← hW0]; exact cells_new _ _ _
    obtain ⟨F0, hF0⟩ : ∃ F, baseB ms k c = F := ⟨_, rfl⟩
    have hK1000 : K ≤ 1000 := by omega
    have HI := Lib.hid ih
    have H := Lib.hid (And.intro hks (And.intro hkid (And.intro he (And.intro hI (And.intro hn (And.intro hnm (And.intro hK (And.intro b0 (And.intro x0 hF0)))))))))
    have HKi := Lib.hid hKi
    have HW := Lib.hid hW0
    have mk1 := make_heads K (by omega) W0
    rw [hn] at hnb
    rw [hn, hnm, hK, hF0]
    have hnm900 : nm ≤ 900 := by omega
    clear ih hks hkid he h hI hn hnm hK b0 x0 hF0 hKi hW0 hk hc hkk hms
    go_enter Try.func40, Try.ntmps40
    go_upto_region 2 with fail
    rw [HKi.out, HW.out]
    go_wp2_with fail
    clear mk1
    go_loopw [7] (fun u wr => ∃ (i : Nat) (rs : Nat → Nat) (q : Nat → Nat → Bool), u = .int .i64 (i : Int) ∧ i ≤ K ∧ TbM W0 wr W0.heap.size K i rs q ∧ ∀ a, a < i → ∀ j, j < K → q a j = F0 a j) (fun u _ => K - (RowKit.intOf u).toNat)
    case atStart => exact ⟨0, fun _ => 0, fun _ _ => false, rfl, by omega, TbM.start W0 W0 (Below.refl _ _) K _ _, fun a ha => by omega⟩
    case round =>
      obtain ⟨i, rs, q, rfl, hi, hM, hq⟩ := hrel
      by_cases hlt : i < K
      · have i1 : (i : Int) < (K : Int) := by omega
        have mk2 := make_row K (by omega) wr
        have c0 : wr.cell? ⟨W0.heap.size, i, none⟩ = some (.slice none 0 0) := hM.head0 hlt (Nat.le_refl _)
        have z0 : W0.heap.size < wr.heap.size := hM.h.lt
        have f0 : wr.frozen? ⟨W0.heap.size, i, none⟩ = false := hM.h.froz i
        have hM1 := hM.row
        obtain ⟨W1, hW1⟩ : ∃ W, (wr.setCell ⟨W0.heap.size, i, none⟩ (.slice (some ⟨wr.heap.size, 0, none⟩) K K)).alloc (.cells (arr K fun _ => .bool false) 4) = W := ⟨_, rfl⟩
        rw [hW1] at hM1
        have HW1 := Lib.hid hW1
        have hr1 : (if i = i then wr.heap.size else rs i) = wr.heap.size := if_pos rfl
        have c1 := hM1.head hlt (Nat.lt_succ_self i)
        have hc2 := (hM1.r i (Nat.lt_succ_self i)).2
        have hP := fun v => (hM1.put (i := i) (j := i) (Nat.lt_succ_self i) v).drew
        rw [hr1] at c1 hc2 hP
        have c2 : W1.cell? ⟨wr.heap.size, i, none⟩ = some (.bool false) := by rw [hc2.cell i, arr_get _ hlt, if_pos rfl]
        have f2 : W1.frozen? ⟨wr.heap.size, i, none⟩ = false := hc2.froz i
        have z2 : wr.heap.size < W1.heap.size := hc2.lt
        have xb : Cells W1 w.heap.size 24 #[.int .i64 k, .int .i64 c, .slice A n cap] := (hM1.bl.block _ H.out.2.2.2.2.2.2.2.2.1.lt).trans H.out.2.2.2.2.2.2.2.2.1
        have k0 : W1.cell? ⟨w.heap.size, 0, none⟩ = some (.int .i64 k) := xb.cell 0
        have zk : w.heap.size < W1.heap.size := xb.lt
        have nek : w.heap.size ≠ wr.heap.size := by have := H.out.2.2.2.2.2.2.2.2.1.lt; omega
        have hq' : ∀ v a, a < i → ∀ j, j < K → (if a = i ∧ j = i then v else if a = i then false else q a j) = F0 a j := fun v a ha j hj => by
          rw [if_neg (by omega), if_neg (by omega)]; exact hq a ha j hj
        have HM := Lib.hid (And.intro hP (And.intro hq' (And.intro hlt xb)))
        have hnmK := H.out.2.2.2.2.2.2.1
        have hlen := H.out.2.2.2.2.2.1
        have hF0 := H.out.2.2.2.2.2.2.2.2.2
        have hend : ∀ v, diagB k = v → (decide (i < nm) && decide (k < 4)) = false → ∃ (i2 : Nat) (rs2 : Nat → Nat) (q2 : Nat → Nat → Bool), Value.int .i64 ((i : Int) + 1) = .int .i64 (i2 : Int) ∧ i2 ≤ K ∧ TbM W0 (W1.setCell ⟨wr.heap.size, i, none⟩ (.bool v)).drew W0.heap.size K i2 rs2 q2 ∧ ∀ a, a < i2 → ∀ j, j < K → q2 a j = F0 a j := fun v hv hn4 => by
          refine ⟨i + 1, _, _, by simp, by omega, HM.out.1 v, fun a ha j hj => ?_⟩
          by_cases e : a = i
          · subst e
            rw [← hF0, base_row hv (by rw [hlen]; exact hn4)]
            by_cases e2 : j = a
            · rw [if_pos ⟨rfl, e2⟩, if_pos e2]
            · rw [if_neg (fun h => e2 h.2), if_pos rfl, if_neg e2]
          · exact HM.out.2.1 v a (by omega) j hj
        have HE := Lib.hid hend
        clear hM hq hM1 hW1 hP hq' hc2 hr1 xb hend hnmK hlen hF0
        by_cases h4 : k < 4
        · have l4 : decide (k < 4) = true := by simpa using h4
          have q4 : (k == 4) = false := by simp; omega
          have q6 : (k == 6) = false := by simp; omega
          have q8 : (k == 8) = false := by simp; omega
          have q9 : (k == 9) = false := by simp; omega
          have hd := diag_lt h4
          by_cases hn1 : i < nm
          · have j1 : (i : Int) + 1 < (K : Int) := by have := H.out.2.2.2.2.2.2.1; omega
            have j1' : decide ((i : Int) + 1 < (K : Int)) = true := by simpa using j1
            have jnm : (i : Int) < (nm : Int) := by omega
            have hw1 : IntKind.i64.wrap ((i : Int) + 1) = (i : Int) + 1 := IntWalk.i64_in _ (by omega)
            have hw2 : ((i : Int) + 1).toNat = i + 1 := by omega
            have hw3 : (0 : Int) ≤ (i : Int) + 1 := by omega
            obtain ⟨m, hm⟩ : ∃ m, ms[i]? = some m := ⟨ms[i]'(by rw [H.out.2.2.2.2.2.1]; exact hn1), List.getElem?_eq_getElem _⟩
            obtain ⟨bm, om, rfl, hbm, hcm⟩ := H.out.2.2.2.1.r (by rintro rfl; simp at hm)
            obtain ⟨W2, hW2⟩ : ∃ W, (W1.setCell ⟨wr.heap.size, i, none⟩ (.bool false)).drew = W := ⟨_, rfl⟩
            have hM2 := HM.out.1 false
            rw [hW2] at hM2
            have HW2 := Lib.hid hW2
            have d1 := hM2.head hlt (Nat.lt_succ_self i)
            simp only [if_true] at d1
            have xb2 : Cells W2 w.heap.size 24 #[.int .i64 k, .int .i64 c, .slice A n cap] := (hM2.bl.block _ H.out.2.2.2.2.2.2.2.2.1.lt).trans H.out.2.2.2.2.2.2.2.2.1
            have e0 : W2.cell? ⟨w.heap.size, 0, none⟩ = some (.int .i64 k) := xb2.cell 0
            have e1 : W2.cell? ⟨w.heap.size, 1, none⟩ = some (.int .i64 c) := xb2.cell 1
            have e2 : W2.cell? ⟨w.heap.size, 2, none⟩ = some (.slice A n cap) := xb2.cell 2
            have bw2 : Below w.heap.size w W2 := H.out.2.2.2.2.2.2.2.1.trans (hM2.bl.mono H.out.2.2.2.2.2.2.2.1.size)
            have em : W2.cell? ⟨bm, om + i, none⟩ = some (.int .i64 m) := (bw2.cell (p := ⟨bm, om + i, none⟩) hbm).trans (hcm i m hm)
            have zw2 : w.heap.size < W2.heap.size := xb2.lt
            have zb2 : W0.heap.size < W2.heap.size := hM2.h.lt
            have zm2 : bm < W2.heap.size := Nat.lt_of_lt_of_le hbm bw2.size
            have HO := Lib.hid (And.intro hM2 (And.intro hm (And.intro hd h4)))
            clear hM2 hm hcm xb2 bw2 hW2 hd h4 HE
            go_wp2_with fail
            rw [HW1.out]
            clear mk2 c0 z0 f0
            go_region
            all_goals
              go_wp2_with fail
            rw [HW2.out]
            clear c1 c2 f2 z2 k0 zk
            go_region_law (first
              | (go_simp
                 go_at_call 64
                 refine (one_any k c m A n cap _).mono ?_
                 rintro rr w8 ⟨rfl, hb8⟩
                 have hb9 := (Below.refl W2.heap.size W2).drew.trans hb8
                 have hM8 := HO.out.1.on hb9
                 have g1 := hM8.head hlt (Nat.lt_succ_self i)
                 have hg2 := (hM8.r i (Nat.lt_succ_self i)).2
                 simp only [if_true] at g1 hg2
                 have g2 : ∃ u, w8.cell? ⟨wr.heap.size, i + 1, none⟩ = some u := ⟨_, by rw [hg2.cell (i + 1), arr_get _ (by omega)]⟩
                 obtain ⟨u2, g2⟩ := g2
                 have g3 : w8.frozen? ⟨wr.heap.size, i + 1, none⟩ = false := hg2.froz _
                 have g4 : wr.heap.size < w8.heap.size := hg2.lt
                 have g5 : W0.heap.size < w8.heap.size := hM8.h.lt
                 have hP8 := hM8.put (i := i) (j := i + 1) (Nat.lt_succ_self i) (oneI k c m)
                 simp only [if_true] at hP8
                 have HP8 := Lib.hid hP8
                 clear hb8 hb9 hM8 hg2 hP8))
            all_goals
              have hend : ∃ (i2 : Nat) (rs2 : Nat → Nat) (q2 : Nat → Nat → Bool), Value.int .i64 ((i : Int) + 1) = .int .i64 (i2 : Int) ∧ i2 ≤ K ∧ TbM W0 (w8.setCell ⟨wr.heap.size, i + 1, none⟩ (.bool (oneI k c m))) W0.heap.size K i2 rs2 q2 ∧ ∀ a, a < i2 → ∀ j, j < K → q2 a j = F0 a j := by
                refine ⟨i + 1, _, _, by simp, by omega, HP8.out, fun a ha j hj => ?_⟩
                by_cases e : a = i
                · subst e
                  rw [← H.out.2.2.2.2.2.2.2.2.2, base_leaf HO.out.2.2.1 HO.out.2.2.2 HO.out.2.1]
                  by_cases e2 : j = a + 1
                  · rw [if_pos ⟨rfl, e2⟩, if_pos e2]
                  · rw [if_neg (fun h => e2 h.2), if_neg e2]
                    split <;> simp
                · rw [if_neg (fun h => e h.1)]
                  exact HM.out.2.1 false a (by omega) j hj
              have HEND := Lib.hid hend
              clear hend
              go_wp2_with fail
              go_roundw
              case rel => exact HEND.out
              case measure => simp [RowKit.intOf]; omega
          · have j1 : ¬ (i : Int) + 1 < (K : Int) := by have := H.out.2.2.2.2.2.2.1; omega
            have j1' : decide ((i : Int) + 1 < (K : Int)) = false := by simpa using j1
            have HF := Lib.hid (HE.out false hd (by simp [hn1]))
            clear hd h4 hn1 HE HM
            go_wp2_with fail
            rw [HW1.out]
            clear mk2 c0 z0 f0
            go_region
            all_goals
              go_wp2_with fail
              go_roundw
              case rel => exact HF.out
              case measure => simp [RowKit.intOf]; omega
        · have l4 : decide (k < 4) = false := by simpa using h4
          have l4' : ¬ k < 4 := h4
          by_cases e4 : k = 4
          · have q4 : (k == 4) = true := by simpa using e4
            have hd : diagB k = true := by unfold diagB; simp only [q4]; rfl
            have HF := Lib.hid (HE.out true hd (by rw [l4, Bool.and_false]))
            clear hd HE HM e4
            by_cases j1 : (i : Int) + 1 < (K : Int)
            · have j1' : decide ((i : Int) + 1 < (K : Int)) = true := by simpa using j1
              go_wp2_with fail
              rw [HW1.out]
              clear mk2 c0 z0 f0
              go_region
              all_goals
                go_wp2_with fail
                go_roundw
                case rel => exact HF.out
                case measure => simp [RowKit.intOf]; omega
            · have j1' : decide ((i : Int) + 1 < (K : Int)) = false := by simpa using j1
              go_wp2_with fail
              rw [HW1.out]
              clear mk2 c0 z0 f0
              go_region
              all_goals
                go_wp2_with fail
                go_roundw
                case rel => exact HF.out
                case measure => simp [RowKit.intOf]; omega
          · skip
            by_cases e6 : k = 6
            · have q4 : (k == 4) = false := by simpa using e4
              have q6 : (k == 6) = true := by simpa using e6
              have hd : diagB k = true := by unfold diagB; simp only [q4, q6]; rfl
              have HF := Lib.hid (HE.out true hd (by rw [l4, Bool.and_false]))
              clear hd HE HM e4 e6
              by_cases j1 : (i : Int) + 1 < (K : Int)
              · have j1' : decide ((i : Int) + 1 < (K : Int)) = true := by simpa using j1
                go_wp2_with fail
                rw [HW1.out]
                clear mk2 c0 z0 f0
                go_region
                all_goals
                  go_wp2_with fail
                  go_roundw
                  case rel => exact HF.out
                  case measure => simp [RowKit.intOf]; omega
              · have j1' : decide ((i : Int) + 1 < (K : Int)) = false := by simpa using j1
                go_wp2_with fail
                rw [HW1.out]
                clear mk2 c0 z0 f0
                go_region
                all_goals
                  go_wp2_with fail
                  go_roundw
                  case rel => exact HF.out
                  case measure => simp [RowKit.intOf]; omega
            · skip
              by_cases e8 : k = 8
              · have q4 : (k == 4) = false := by simpa using e4
                have q6 : (k == 6) = false := by simpa using e6
                have q8 : (k == 8) = true := by simpa using e8
                have hd : diagB k = true := by unfold diagB; simp only [q4, q6, q8]; rfl
                have HF := Lib.hid (HE.out true hd (by rw [l4, Bool.and_false]))
                clear hd HE HM e4 e6 e8
                by_cases j1 : (i : Int) + 1 < (K : Int)
                · have j1' : decide ((i : Int) + 1 < (K : Int)) = true := by simpa using j1
                  go_wp2_with fail
                  rw [HW1.out]
                  clear mk2 c0 z0 f0
                  go_region
                  all_goals
                    go_wp2_with fail
                    go_roundw
                    case rel => exact HF.out
                    case measure => simp [RowKit.intOf]; omega
                · have j1' : decide ((i : Int) + 1 < (K : Int)) = false := by simpa using j1
                  go_wp2_with fail
                  rw [HW1.out]
                  clear mk2 c0 z0 f0
                  go_region
                  all_goals
                    go_wp2_with fail
                    go_roundw
                    case rel => exact HF.out
                    case measure => simp [RowKit.intOf]; omega
              · skip
                by_cases e9 : k = 9
                · have q4 : (k == 4) = false := by simpa using e4
                  have q6 : (k == 6) = false := by simpa using e6
                  have q8 : (k == 8) = false := by simpa using e8
                  have q9 : (k == 9) = true := by simpa using e9
                  have hd : diagB k = true := by unfold diagB; simp only [q4, q6, q8, q9]; rfl
                  have HF := Lib.hid (HE.out true hd (by rw [l4, Bool.and_false]))
                  clear hd HE HM e4 e6 e8 e9
                  by_cases j1 : (i : Int) + 1 < (K : Int)
                  · have j1' : decide ((i : Int) + 1 < (K : Int)) = true := by simpa using j1
                    go_wp2_with fail
                    rw [HW1.out]
                    clear mk2 c0 z0 f0
                    go_region
                    all_goals
                      go_wp2_with fail
                      go_roundw
                      case rel => exact HF.out
                      case measure => simp [RowKit.intOf]; omega
                  · have j1' : decide ((i : Int) + 1 < (K : Int)) = false := by simpa using j1
                    go_wp2_with fail
                    rw [HW1.out]
                    clear mk2 c0 z0 f0
                    go_region
                    all_goals
                      go_wp2_with fail
                      go_roundw
                      case rel => exact HF.out
                      case measure => simp [RowKit.intOf]; omega
                · skip
                  have q4 : (k == 4) = false := by simpa using e4
                  have q6 : (k == 6) = false := by simpa using e6
                  have q8 : (k == 8) = false := by simpa using e8
                  have q9 : (k == 9) = false := by simpa using e9
                  have hd : diagB k = false := by unfold diagB; simp only [q4, q6, q8, q9]; rfl
                  have HF := Lib.hid (HE.out false hd (by rw [l4, Bool.and_false]))
                  clear hd HE HM e4 e6 e8 e9
                  by_cases j1 : (i : Int) + 1 < (K : Int)
                  · have j1' : decide ((i : Int) + 1 < (K : Int)) = true := by simpa using j1
                    go_wp2_with fail
                    rw [HW1.out]
                    clear mk2 c0 z0 f0
                    go_region
                    all_goals
                      go_wp2_with fail
                      go_roundw
                      case rel => exact HF.out
                      case measure => simp [RowKit.intOf]; omega
                  · have j1' : decide ((i : Int) + 1 < (K : Int)) = false := by simpa using j1
                    go_wp2_with fail
                    rw [HW1.out]
                    clear mk2 c0 z0 f0
                    go_region
                    all_goals
                      go_wp2_with fail
                      go_roundw
                      case rel => exact HF.out
                      case measure => simp [RowKit.intOf]; omega
      · obtain rfl : i = K := by omega
        have i1 : ¬ (i : Int) < (i : Int) := by omega
        have i1' : decide ((i : Int) < (i : Int)) = false := by simp
        have hT := hM.done.congr (fun a j ha hj => hq a ha j hj)
        have HT := Lib.hid (And.intro hT hM.bl)
        clear hM hq hT
        go_wp2_with fail
        go_loopw [6, 8] (fun u v wr => ∃ (p bq : Nat), v = .int .i64 (p : Int) ∧ u = .slice (some ⟨bq, 0, none⟩) i i ∧ p ≤ n ∧ TbB wr i (ldB.ldL ms k (ks.take p) F0) bq ∧ Below W0.heap.size W0 wr) (fun _ v _ => n - (RowKit.intOf v).toNat)
        case atStart => exact ⟨0, _, rfl, rfl, by omega, by simpa [ldB.ldL] using HT.out.1, HT.out.2⟩
        case round =>
          obtain ⟨p, bq, rfl, rfl, hp, hO, hb⟩ := hrel
          have xb : Cells wr w.heap.size 24 #[.int .i64 k, .int .i64 c, .slice A n cap] := (hb.block _ H.out.2.2.2.2.2.2.2.2.1.lt).trans H.out.2.2.2.2.2.2.2.2.1
          have k2 : wr.cell? ⟨w.heap.size, 2, none⟩ = some (.slice A n cap) := xb.cell 2
          have bw : Below w.heap.size w wr := H.out.2.2.2.2.2.2.2.1.trans (hb.mono H.out.2.2.2.2.2.2.2.1.size)
          by_cases hpl : p < n
          · have i2 : (p : Int) < (n : Int) := by omega
            obtain ⟨f, hf⟩ : ∃ f, ks[p]? = some f := ⟨ks[p]'(by rw [H.out.2.2.2.2.1]; exact hpl), List.getElem?_eq_getElem _⟩
            obtain ⟨b, o, rfl, hbl, hr⟩ := H.out.1.r (by rintro rfl; simp at hf)
            obtain ⟨A', cap', c0, c1, c2, hNd⟩ := row_get' hr hf
            have d0 := (bw.cell (p := ⟨b, o + p * 3, none⟩) hbl).trans c0
            have d1 := (bw.cell (p := ⟨b, o + p * 3 + 1, none⟩) hbl).trans c1
            have d2 := (bw.cell (p := ⟨b, o + p * 3 + 2, none⟩) hbl).trans c2
            have C := HI.out f (by have := H.out.2.1 p f hf; have := H.out.2.2.1; omega) _ wr ((hNd.below bw).mono bw.size) (H.out.2.2.2.1.on bw)
            rw [H.out.2.2.2.2.2.1, H.out.2.2.2.2.2.2.1] at C
            have hst := ldL_take (ms := ms) (k := k) hf F0
            rw [H.out.2.2.2.2.2.1, H.out.2.2.2.2.2.2.1] at hst
            obtain ⟨G, hG⟩ : ∃ G, ldB.ldL ms k (ks.take p) F0 = G := ⟨_, rfl⟩
            obtain ⟨t, ht⟩ : ∃ t, ldB ms f = t := ⟨_, rfl⟩
            rw [hG, ht] at hst
            rw [ht] at C
            rw [hG] at hO
            have HC := Lib.hid C
            have HO := Lib.hid (And.intro hO (And.intro hb (And.intro hst hpl)))
            clear C hO hb xb bw hst hf hr c0 c1 c2 hNd hG ht
            go_wp2_with fail
            refine HC.out.mono ?_
            rintro rr w2 ⟨bt, rfl, hT2, hb2⟩
            have hbw2 := HO.out.2.1.trans (hb2.mono HO.out.2.1.size)
            have xb2 : Cells w2 w.heap.size 24 #[.int .i64 k, .int .i64 c, .slice (some ⟨b, o, none⟩) n cap] := (hbw2.block _ H.out.2.2.2.2.2.2.2.2.1.lt).trans H.out.2.2.2.2.2.2.2.2.1
            have kk : w2.cell? ⟨w.heap.size, 0, none⟩ = some (.int .i64 k) := xb2.cell 0
            have hO2 := HO.out.1.on hb2
            have H2 := Lib.hid (And.intro hT2 (And.intro hO2 hbw2))
            have hadd : ∀ bz wz, TbB wz i (addB i k G t) bz → Below w2.heap.size w2 wz → ∃ (p' bq' : Nat), Value.int .i64 ((p : Int) + 1) = .int .i64 (p' : Int) ∧ Value.slice (some ⟨bz, 0, none⟩) i i = .slice (some ⟨bq', 0, none⟩) i i ∧ p' ≤ n ∧ TbB wz i (ldB.ldL ms k (ks.take p') F0) bq' ∧ Below W0.heap.size W0 wz := fun bz wz hz hbz =>
              ⟨p + 1, bz, by simp, rfl, by have := HO.out.2.2.2; omega, by rw [HO.out.2.2.1]; exact hz, hbw2.trans (hbz.mono hbw2.size)⟩
            have HA := Lib.hid hadd
            have C4 := times_any hK1000 hO2 hT2
            have C5 := either_any hK1000 hO2 hT2
            have HC4 := Lib.hid C4
            have HC5 := Lib.hid C5
            clear hT2 hO2 hbw2 xb2 hadd C4 C5 hb2 d0 d1 d2
            by_cases e4 : k = 4
            · have q4 : (k == 4) = true := by simpa using e4
              have hA : addB i k G t = fun a j => viaB G t a i j := by unfold addB; rw [if_pos e4]
              have HAA := Lib.hid hA
              clear hA e4
              go_wp2_with fail
              refine HC4.out.mono ?_
              rintro rr w3 ⟨b3, rfl, h3, hb3⟩
              have HEND := Lib.hid (HA.out b3 w3 (by rw [HAA.out]; exact h3) hb3)
              clear h3 hb3
              go_wp2_with fail
              go_roundw
              case rel => exact HEND.out
              case measure => simp [RowKit.intOf]; omega
            · have q4 : (k == 4) = false := by simpa using e4
              by_cases e67 : k = 6 ∨ k = 7
              · have hA : addB i k G t = fun a j => G a j || cloB i t i a j := by unfold addB; rw [if_neg e4, if_pos e67]
                have HAA := Lib.hid hA
                clear hA
                by_cases e6 : k = 6
                · have q6 : (k == 6) = true := by simpa using e6
                  clear e4 e67 e6
                  go_wp2_with fail
                  go_loopw [10, 11] (fun u v wi => ∃ (r bz : Nat), v = .int .i64 (r : Int) ∧ u = .slice (some ⟨bz, 0, none⟩) i i ∧ r ≤ i ∧ TbB wi i (cloB i t r) bz ∧ Below w2.heap.size w2 wi) (fun _ v _ => i - (RowKit.intOf v).toNat)
                  case atStart => exact ⟨0, bt, rfl, rfl, by omega, H2.out.1, Below.refl _ _⟩
                  case round =>
                    obtain ⟨r, bz, rfl, rfl, hr, hz, hbz⟩ := hrel
                    by_cases hrl : r < i
                    · have i3 : (r : Int) < (i : Int) := by omega
                      have HC6 := Lib.hid (times_any hK1000 hz (H2.out.1.on hbz))
                      have HZ := Lib.hid (And.intro hz hbz)
                      clear hz hbz
                      go_wp2_with fail
                      refine HC6.out.mono ?_
                      rintro rr w4 ⟨b4, rfl, h4', hb4⟩
                      have HC7 := Lib.hid (either_any hK1000 (HZ.out.1.on hb4) h4')
                      have HZ4 := Lib.hid (HZ.out.2.trans (hb4.mono HZ.out.2.size))
                      clear h4' hb4
                      go_wp2_with fail
                      refine HC7.out.mono ?_
                      rintro rr w5 ⟨b5, rfl, h5, hb5⟩
                      have hend : ∃ (r' bz' : Nat), Value.int .i64 ((r : Int) + 1) = .int .i64 (r' : Int) ∧ Value.slice (some ⟨b5, 0, none⟩) i i = .slice (some ⟨bz', 0, none⟩) i i ∧ r' ≤ i ∧ TbB w5 i (cloB i t r') bz' ∧ Below w2.heap.size w2 w5 := ⟨r + 1, b5, by simp, rfl, by omega, h5, HZ4.out.trans (hb5.mono HZ4.out.size)⟩
                      have HEND := Lib.hid hend
                      clear hend h5 hb5
                      go_wp2_with fail
                      go_roundw
                      case rel => exact HEND.out
                      case measure => simp [RowKit.intOf]; omega
                    · obtain rfl : r = i := by omega
                      have i3 : ¬ (r : Int) < (r : Int) := by omega
                      have i3' : decide ((r : Int) < (r : Int)) = false := by simp
                      have HC6 := Lib.hid (either_any hK1000 (H2.out.2.1.on hbz) hz)
                      have HZ := Lib.hid hbz
                      clear hz hbz
                      go_wp2_with fail
                      refine HC6.out.mono ?_
                      rintro rr w3 ⟨b3, rfl, h3, hb3⟩
                      have HEND := Lib.hid (HA.out b3 w3 (by rw [HAA.out]; exact h3) (HZ.out.trans (hb3.mono HZ.out.size)))
                      clear h3 hb3
                      go_wp2_with fail
                      go_roundw
                      case rel => exact HEND.out
                      case measure => simp [RowKit.intOf]; omega
                · have q6 : (k == 6) = false := by simpa using e6
                  have q7 : (k == 7) = true := by simp; omega
                  clear e4 e67 e6
                  go_wp2_with fail
                  go_loopw [10, 11] (fun u v wi => ∃ (r bz : Nat), v = .int .i64 (r : Int) ∧ u = .slice (some ⟨bz, 0, none⟩) i i ∧ r ≤ i ∧ TbB wi i (cloB i t r) bz ∧ Below w2.heap.size w2 wi) (fun _ v _ => i - (RowKit.intOf v).toNat)
                  case atStart => exact ⟨0, bt, rfl, rfl, by omega, H2.out.1, Below.refl _ _⟩
                  case round =>
                    obtain ⟨r, bz, rfl, rfl, hr, hz, hbz⟩ := hrel
                    by_cases hrl : r < i
                    · have i3 : (r : Int) < (i : Int) := by omega
                      have HC6 := Lib.hid (times_any hK1000 hz (H2.out.1.on hbz))
                      have HZ := Lib.hid (And.intro hz hbz)
                      clear hz hbz
                      go_wp2_with fail
                      refine HC6.out.mono ?_
                      rintro rr w4 ⟨b4, rfl, h4', hb4⟩
                      have HC7 := Lib.hid (either_any hK1000 (HZ.out.1.on hb4) h4')
                      have HZ4 := Lib.hid (HZ.out.2.trans (hb4.mono HZ.out.2.size))
                      clear h4' hb4
                      go_wp2_with fail
                      refine HC7.out.mono ?_
                      rintro rr w5 ⟨b5, rfl, h5, hb5⟩
                      have hend : ∃ (r' bz' : Nat), Value.int .i64 ((r : Int) + 1) = .int .i64 (r' : Int) ∧ Value.slice (some ⟨b5, 0, none⟩) i i = .slice (some ⟨bz', 0, none⟩) i i ∧ r' ≤ i ∧ TbB w5 i (cloB i t r') bz' ∧ Below w2.heap.size w2 w5 := ⟨r + 1, b5, by simp, rfl, by omega, h5, HZ4.out.trans (hb5.mono HZ4.out.size)⟩
                      have HEND := Lib.hid hend
                      clear hend h5 hb5
                      go_wp2_with fail
                      go_roundw
                      case rel => exact HEND.out
                      case measure => simp [RowKit.intOf]; omega
                    · obtain rfl : r = i := by omega
                      have i3 : ¬ (r : Int) < (r : Int) := by omega
                      have i3' : decide ((r : Int) < (r : Int)) = false := by simp
                      have HC6 := Lib.hid (either_any hK1000 (H2.out.2.1.on hbz) hz)
                      have HZ := Lib.hid hbz
                      clear hz hbz
                      go_wp2_with fail
                      refine HC6.out.mono ?_
                      rintro rr w3 ⟨b3, rfl, h3, hb3⟩
                      have HEND := Lib.hid (HA.out b3 w3 (by rw [HAA.out]; exact h3) (HZ.out.trans (hb3.mono HZ.out.size)))
                      clear h3 hb3
                      go_wp2_with fail
                      go_roundw
                      case rel => exact HEND.out
                      case measure => simp [RowKit.intOf]; omega
              · have q6 : (k == 6) = false := by simp; omega
                have q7 : (k == 7) = false := by simp; omega
                have hA : addB i k G t = fun a j => G a j || t a j := by unfold addB; rw [if_neg e4, if_neg e67]
                have HAA := Lib.hid hA
                clear hA e4 e67
                go_wp2_with fail
                refine HC5.out.mono ?_
                rintro rr w3 ⟨b3, rfl, h3, hb3⟩
                have HEND := Lib.hid (HA.out b3 w3 (by rw [HAA.out]; exact h3) hb3)
                clear h3 hb3
                go_wp2_with fail
                go_roundw
                case rel => exact HEND.out
                case measure => simp [RowKit.intOf]; omega
          · obtain rfl : p = n := by omega
            have i2 : ¬ (p : Int) < (p : Int) := by omega
            have i2' : decide ((p : Int) < (p : Int)) = false := by simp
            have hfin : ks.take p = ks := by rw [← H.out.2.2.2.2.1, List.take_length]
            rw [hfin] at hO
            have HE := Lib.hid (And.intro hO bw)
            clear hO hb xb bw hfin
            go_wp2_with fail
            go_ret
            exact ⟨_, rfl, HE.out.1, HE.out.2⟩
end Go.Proofs.Ytegkogadceodlaa.L

namespace Go.Proofs.Ytegkogadceodlaa.L
open Go.RowKit Go.Shelf Go.Lib

/-- Does a leaf take a symbol? -/
def takesI (k c m : Int) : Bool := if k = 3 then m == 36 else decide (0 ≤ m) && decide (m ≤ 35) && (k == 1 || (k == 0 && m == c) || (k == 2 && m != c))
inductive TG (D : Nat → Nat → Prop) : Nat → Nat → Prop
  | one {i j : Nat} : D i j → TG D i j
  | more {i m j : Nat} : TG D i m → D m j → TG D i j

def DE (ms : List Int) : E → Nat → Nat → Prop
  | .mk k c ks =>
    if k = 9 then fun i j => i = j
    else if ks = [] then fun i j => j = i + 1 ∧ ∃ m, ms[i]? = some m ∧ takesI k c m = true
    else if k = 4 then seqD ks
    else if k = 6 then fun i j => i = j ∨ TG (altD ks) i j
    else if k = 7 then TG (altD ks)
    else if k = 8 then fun i j => i = j ∨ altD ks i j
    else altD ks
where
  seqD : List E → Nat → Nat → Prop
    | [] => fun i j => i = j
    | e :: r => fun i j => ∃ m, DE ms e i m ∧ seqD r m j
  altD : List E → Nat → Nat → Prop
    | [] => fun _ _ => False
    | e :: r => fun i j => DE ms e i j ∨ altD r i j
theorem DE_nine {ms : List Int} {c : Int} {ks : List E} {i j : Nat} : DE ms (.mk 9 c ks) i j ↔ i = j := by unfold DE; rw [if_pos rfl]
theorem DE_leaf {ms : List Int} {k c : Int} {i j : Nat} (h9 : k ≠ 9) : DE ms (.mk k c []) i j ↔ j = i + 1 ∧ ∃ m, ms[i]? = some m ∧ takesI k c m = true := by unfold DE; rw [if_neg h9, if_pos rfl]
theorem DE_seq {ms : List Int} {c : Int} {ks : List E} {i j : Nat} (hl : ks ≠ []) : DE ms (.mk 4 c ks) i j ↔ DE.seqD ms ks i j := by unfold DE; rw [if_neg (by decide), if_neg hl, if_pos rfl]
theorem DE_star {ms : List Int} {c : Int} {ks : List E} {i j : Nat} (hl : ks ≠ []) : DE ms (.mk 6 c ks) i j ↔ i = j ∨ TG (DE.altD ms ks) i j := by unfold DE; rw [if_neg (by decide), if_neg hl, if_neg (by decide), if_pos rfl]
theorem DE_plus {ms : List Int} {c : Int} {ks : List E} {i j : Nat} (hl : ks ≠ []) : DE ms (.mk 7 c ks) i j ↔ TG (DE.altD ms ks) i j := by unfold DE; rw [if_neg (by decide), if_neg hl, if_neg (by decide), if_neg (by decide), if_pos rfl]
theorem DE_maybe {ms : List Int} {c : Int} {ks : List E} {i j : Nat} (hl : ks ≠ []) : DE ms (.mk 8 c ks) i j ↔ i = j ∨ DE.altD ms ks i j := by unfold DE; rw [if_neg (by decide), if_neg hl, if_neg (by decide), if_neg (by decide), if_neg (by decide), if_pos rfl]
theorem DE_alt {ms : List Int} {k c : Int} {ks : List E} {i j : Nat} (hl : ks ≠ []) (h9 : k ≠ 9) (h4 : k ≠ 4) (h6 : k ≠ 6) (h7 : k ≠ 7) (h8 : k ≠ 8) : DE ms (.mk k c ks) i j ↔ DE.altD ms ks i j := by unfold DE; rw [if_neg h9, if_neg hl, if_neg h4, if_neg h6, if_neg h7, if_neg h8]
theorem seqD_cons {ms : List Int} {e : E} {r : List E} {i j : Nat} : DE.seqD ms (e :: r) i j ↔ ∃ m, DE ms e i m ∧ DE.seqD ms r m j := by conv => lhs; unfold DE.seqD
theorem altD_cons {ms : List Int} {e : E} {r : List E} {i j : Nat} : DE.altD ms (e :: r) i j ↔ DE ms e i j ∨ DE.altD ms r i j := by conv => lhs; unfold DE.altD
theorem seqD_nil {ms : List Int} {i j : Nat} : DE.seqD ms [] i j ↔ i = j := by unfold DE.seqD; exact Iff.rfl
theorem altD_nil {ms : List Int} {i j : Nat} : DE.altD ms [] i j ↔ False := by unfold DE.altD; exact Iff.rfl
theorem good_parts {k c : Int} {ks : List E} (h : goodE (.mk k c ks) = true) : k ≠ 9 ∧ shapedK k c ks.length = true ∧ goodE.all ks = true := by
  rw [goodE_eq] at h
  simp only [E.k, E.c, E.ks, Bool.and_eq_true] at h
  exact ⟨of_decide_eq_true h.1.1, h.1.2, h.2⟩
theorem shaped_leaf {k c : Int} {n : Nat} (h : shapedK k c n = true) (h4 : k ≠ 4) (h5 : k ≠ 5) (h6 : k ≠ 6) (h7 : k ≠ 7) (h8 : k ≠ 8) : n = 0 := by
  unfold shapedK at h
  by_cases c1 : k = 0 ∨ k = 2
  · rw [if_pos c1] at h; simp at h; exact h.2
  · rw [if_neg c1] at h
    by_cases c2 : k = 1 ∨ k = 3 ∨ k = 9
    · rw [if_pos c2] at h; simp at h; exact h.2
    · rw [if_neg c2, if_neg (by omega), if_neg (by omega)] at h; cases h
theorem all_cons {e : E} {r : List E} (h : goodE.all (e :: r) = true) : goodE e = true ∧ goodE.all r = true := by
  have : goodE.all (e :: r) = (goodE e && goodE.all r) := rfl
  rw [this, Bool.and_eq_true] at h; exact h
end Go.Proofs.Ytegkogadceodlaa.L

namespace Go.Proofs.Ytegkogadceodlaa.L
open Go.RowKit Go.Shelf Go.Lib

def Mo (D : Nat → Nat → Prop) : Prop := ∀ i j, D i j → i ≤ j
def LdOk (L : Nat) (f : Nat → Nat → Bool) (D : Nat → Nat → Prop) : Prop := ∀ i j, i ≤ L → j ≤ L → (f i j = true ↔ D i j)
theorem TG.mo {D : Nat → Nat → Prop} (h : Mo D) {i j : Nat} (t : TG D i j) : i ≤ j := by
  induction t with
  | one d => exact h _ _ d
  | more t d ih => exact Nat.le_trans ih (h _ _ d)
theorem TG.congr {D E : Nat → Nat → Prop} (h : ∀ i j, D i j → E i j) {i j : Nat} (t : TG D i j) : TG E i j := by
  induction t with
  | one d => exact .one (h _ _ d)
  | more t d ih => exact .more ih (h _ _ d)
mutual
theorem DE_mono (ms : List Int) : ∀ e, Mo (DE ms e)
  | .mk k c ks => by
    intro i j h
    by_cases h9 : k = 9
    · subst h9; exact Nat.le_of_eq (DE_nine.1 h)
    · by_cases hl : ks = []
      · subst hl
        have := ((DE_leaf h9).1 h).1
        omega
      · by_cases h4 : k = 4
        · subst h4; exact seqD_mono ms ks i j ((DE_seq hl).1 h)
        · by_cases h6 : k = 6
          · subst h6
            rcases (DE_star hl).1 h with e | t
            · omega
            · exact TG.mo (altD_mono ms ks) t
          · by_cases h7 : k = 7
            · subst h7; exact TG.mo (altD_mono ms ks) ((DE_plus hl).1 h)
            · by_cases h8 : k = 8
              · subst h8
                rcases (DE_maybe hl).1 h with e | t
                · omega
                · exact altD_mono ms ks i j t
              · exact altD_mono ms ks i j ((DE_alt hl h9 h4 h6 h7 h8).1 h)
theorem seqD_mono (ms : List Int) : ∀ ks, Mo (DE.seqD ms ks)
  | [] => fun i j h => Nat.le_of_eq (seqD_nil.1 h)
  | e :: r => fun i j h => by
    obtain ⟨m, h1, h2⟩ := seqD_cons.1 h
    exact Nat.le_trans (DE_mono ms e i m h1) (seqD_mono ms r m j h2)
theorem altD_mono (ms : List Int) : ∀ ks, Mo (DE.altD ms ks)
  | [] => fun i j h => (altD_nil.1 h).elim
  | e :: r => fun i j h => by
    rcases altD_cons.1 h with h | h
    · exact DE_mono ms e i j h
    · exact altD_mono ms r i j h
end
theorem via_iff (f t : Nat → Nat → Bool) (i j : Nat) : ∀ K, viaB f t i K j = true ↔ ∃ m, m < K ∧ f i m = true ∧ t m j = true
  | 0 => by
    unfold viaB
    constructor
    · intro h; cases h
    · rintro ⟨m, h, _⟩; omega
  | K + 1 => by
    unfold viaB
    rw [Bool.or_eq_true, Bool.and_eq_true, via_iff f t i j K]
    constructor
    · rintro (⟨m, h1, h2⟩ | ⟨h1, h2⟩)
      · exact ⟨m, by omega, h2⟩
      · exact ⟨K, by omega, h1, h2⟩
    · rintro ⟨m, h1, h2⟩
      by_cases e : m = K
      · subst e; exact .inr h2
      · exact .inl ⟨m, by omega, h2⟩
theorem LdOk.via {L : Nat} {f t : Nat → Nat → Bool} {D E : Nat → Nat → Prop} (h : LdOk L f D) (k : LdOk L t E) (hE : Mo E) : LdOk L (fun i j => viaB f t i (L + 1) j) (fun i j => ∃ m, D i m ∧ E m j) := fun i j hi hj => by
  rw [via_iff]
  constructor
  · rintro ⟨m, h1, h2, h3⟩
    exact ⟨m, (h i m hi (by omega)).1 h2, (k m j (by omega) hj).1 h3⟩
  · rintro ⟨m, h1, h2⟩
    have := hE m j h2
    exact ⟨m, by omega, (h i m hi (by omega)).2 h1, (k m j (by omega) hj).2 h2⟩
theorem clo_sub {L : Nat} {t : Nat → Nat → Bool} {D : Nat → Nat → Prop} (h : LdOk L t D) : ∀ r i j, i ≤ L → j ≤ L → cloB (L + 1) t r i j = true → TG D i j
  | 0, i, j, hi, hj, e => .one ((h i j hi hj).1 e)
  | r + 1, i, j, hi, hj, e => by
    unfold cloB at e
    rw [Bool.or_eq_true, via_iff] at e
    rcases e with e | ⟨m, h1, h2, h3⟩
    · exact clo_sub h r i j hi hj e
    · exact .more (clo_sub h r i m hi (by omega) h2) ((h m j (by omega) hj).1 h3)
theorem clo_up {K : Nat} {t : Nat → Nat → Bool} {r r' : Nat} (hr : r ≤ r') {i j : Nat} (h : cloB K t r i j = true) : cloB K t r' i j = true := by
  induction hr with
  | refl => exact h
  | step _ ih => unfold cloB; rw [Bool.or_eq_true]; exact .inl ih
theorem clo_sup {L : Nat} {t : Nat → Nat → Bool} {D : Nat → Nat → Prop} (h : LdOk L t D) (hD : Mo D) {i j : Nat} (g : TG D i j) : j ≤ L → cloB (L + 1) t (j - i) i j = true := by
  induction g with
  | one d =>
    intro hj
    have := hD _ _ d
    exact clo_up (Nat.zero_le _) (by unfold cloB; exact (h _ _ (by omega) hj).2 d)
  | more g d ih =>
    rename_i m j
    intro hj
    have h1 := hD _ _ d
    have h2 := TG.mo hD g
    have h3 := ih (by omega)
    by_cases e : m = j
    · subst e; exact h3
    · refine clo_up (r := m - i + 1) (by omega) ?_
      unfold cloB
      rw [Bool.or_eq_true, via_iff]
      exact .inr ⟨m, by omega, h3, (h m j (by omega) hj).2 d⟩
theorem LdOk.clo {L : Nat} {t : Nat → Nat → Bool} {D : Nat → Nat → Prop} (h : LdOk L t D) (hD : Mo D) : LdOk L (cloB (L + 1) t (L + 1)) (TG D) := fun i j hi hj =>
  ⟨clo_sub h _ i j hi hj, fun g => clo_up (by omega) (clo_sup h hD g hj)⟩
theorem LdOk.or {L : Nat} {f t : Nat → Nat → Bool} {D E : Nat → Nat → Prop} (h : LdOk L f D) (k : LdOk L t E) : LdOk L (fun i j => f i j || t i j) (fun i j => D i j ∨ E i j) := fun i j hi hj => by
  rw [Bool.or_eq_true, h i j hi hj, k i j hi hj]
theorem LdOk.congr {L : Nat} {f : Nat → Nat → Bool} {D E : Nat → Nat → Prop} (h : LdOk L f D) (e : ∀ i j, E i j ↔ D i j) : LdOk L f E := fun i j hi hj => (h i j hi hj).trans (e i j).symm
theorem base_node {ms : List Int} {k c : Int} (hk : ¬ k < 4) (i j : Nat) : baseB ms k c i j = true ↔ i = j ∧ diagB k = true := by
  unfold baseB
  rw [show decide (k < 4) = false by simpa using hk]
  simp
  intro _
  exact eq_comm
theorem one_takes {k c m : Int} (h : shapedK k c 0 = true) (h9 : k ≠ 9) : k < 4 ∧ oneI k c m = takesI k c m := by
  unfold shapedK at h
  by_cases c1 : k = 0 ∨ k = 2
  · rw [if_pos c1] at h
    simp only [Bool.and_eq_true] at h
    have hc := h.1
    unfold isC at hc
    simp only [Bool.and_eq_true, decide_eq_true_eq] at hc
    rcases c1 with rfl | rfl
    · refine ⟨by decide, ?_⟩
      unfold oneI takesI
      by_cases e : m = c
      · subst e
        simp
        omega
      · simp [e]
    · refine ⟨by decide, ?_⟩
      unfold oneI takesI
      simp
  · rw [if_neg c1] at h
    by_cases c2 : k = 1 ∨ k = 3 ∨ k = 9
    · rcases c2 with rfl | rfl | rfl
      · exact ⟨by decide, by unfold oneI takesI; simp⟩
      · exact ⟨by decide, by unfold oneI takesI; simp⟩
      · exact absurd rfl h9
    · rw [if_neg c2] at h
      by_cases c3 : k = 4 ∨ k = 5
      · rw [if_pos c3] at h; simp at h
      · rw [if_neg c3] at h
        by_cases c4 : k = 6 ∨ k = 7 ∨ k = 8
        · rw [if_pos c4] at h; simp at h
        · rw [if_neg c4] at h; cases h
theorem node_kind {k c : Int} {n : Nat} (h : shapedK k c n = true) (hn : n ≠ 0) : (k = 4 ∨ k = 5 ∨ k = 6 ∨ k = 7 ∨ k = 8) ∧ (k = 6 ∨ k = 7 ∨ k = 8 → n = 1) := by
  unfold shapedK at h
  by_cases c1 : k = 0 ∨ k = 2
  · rw [if_pos c1] at h; simp at h; exact absurd h.2 hn
  · rw [if_neg c1] at h
    by_cases c2 : k = 1 ∨ k = 3 ∨ k = 9
    · rw [if_pos c2] at h; simp at h; exact absurd h.2 hn
    · rw [if_neg c2] at h
      by_cases c3 : k = 4 ∨ k = 5
      · exact ⟨by omega, fun _ => by omega⟩
      · rw [if_neg c3] at h
        by_cases c4 : k = 6 ∨ k = 7 ∨ k = 8
        · rw [if_pos c4] at h; simp at h; exact ⟨by omega, fun _ => h.2⟩
        · rw [if_neg c4] at h; cases h
mutual
theorem ld_DE (ms : List Int) : ∀ e, goodE e = true → LdOk ms.length (ldB ms e) (DE ms e)
  | .mk k c ks, hg => by
    obtain ⟨h9, hs, ha⟩ := good_parts hg
    rw [ldB_eq]
    simp only [E.k, E.c, E.ks]
    by_cases hl : ks = []
    · subst hl
      obtain ⟨h4, h1⟩ : k < 4 ∧ ∀ m, oneI k c m = takesI k c m := ⟨(one_takes (m := 0) hs h9).1, fun m => (one_takes hs h9).2⟩
      simp only [ldB.ldL]
      intro i j hi hj
      rw [DE_leaf h9]
      unfold baseB
      rw [diag_lt h4]
      simp only [Bool.and_false, Bool.false_or, Bool.and_eq_true, decide_eq_true_eq]
      constructor
      · rintro ⟨⟨⟨rfl, h2⟩, _⟩, h3⟩
        obtain ⟨m, hm⟩ : ∃ m, ms[i]? = some m := ⟨_, List.getElem?_eq_getElem h2⟩
        rw [List.getD_eq_getElem?_getD, hm, Option.getD_some, h1] at h3
        exact ⟨rfl, m, hm, h3⟩
      · rintro ⟨rfl, m, hm, h3⟩
        refine ⟨⟨⟨rfl, (List.getElem?_eq_some_iff.1 hm).1⟩, h4⟩, ?_⟩
        rw [List.getD_eq_getElem?_getD, hm, Option.getD_some, h1]
        exact h3
    · obtain ⟨hk, hn⟩ := node_kind hs (by intro e; exact hl (List.eq_nil_of_length_eq_zero e))
      have hb : LdOk ms.length (baseB ms k c) (fun i j => i = j ∧ diagB k = true) := fun i j _ _ => base_node (by omega) i j
      by_cases h4 : k = 4
      · subst h4
        refine (ldL_seq ms ks (baseB ms 4 c) _ ha hb).congr fun i j => ?_
        rw [DE_seq hl]
        constructor
        · intro h; exact ⟨i, ⟨rfl, rfl⟩, h⟩
        · rintro ⟨m, ⟨rfl, _⟩, h⟩; exact h
      · by_cases h67 : k = 6 ∨ k = 7
        · have h1 := hn (by omega)
          obtain ⟨f, rfl⟩ := List.length_eq_one_iff.1 h1
          have hf := ld_DE ms f (all_cons ha).1
          have hfm := DE_mono ms f
          rw [ldL_cons]
          simp only [ldB.ldL]
          unfold addB
          rw [if_neg h4, if_pos h67]
          refine (hb.or (hf.clo hfm)).congr fun i j => ?_
          have ht : TG (DE.altD ms [f]) i j ↔ TG (DE ms f) i j := ⟨TG.congr (fun a b h => by
            rcases altD_cons.1 h with h | h
            · exact h
            · exact (altD_nil.1 h).elim), TG.congr (fun a b h => altD_cons.2 (.inl h))⟩
          rcases h67 with rfl | rfl
          · rw [DE_star hl, ht]
            constructor
            · rintro (h | h)
              · exact .inl ⟨h, rfl⟩
              · exact .inr h
            · rintro (h | h)
              · exact .inl h.1
              · exact .inr h
          · rw [DE_plus hl, ht]
            constructor
            · intro h; exact .inr h
            · rintro (⟨_, h⟩ | h)
              · exact absurd h (by decide)
              · exact h
        · refine (ldL_alt ms k ks (baseB ms k c) _ h4 h67 ha hb).congr fun i j => ?_
          by_cases h8 : k = 8
          · subst h8
            rw [DE_maybe hl]
            constructor
            · rintro (h | h)
              · exact .inl ⟨h, rfl⟩
              · exact .inr h
            · rintro (h | h)
              · exact .inl h.1
              · exact .inr h
          · rw [DE_alt hl h9 h4 (fun e => h67 (.inl e)) (fun e => h67 (.inr e)) h8]
            have h5 : k = 5 := by omega
            subst h5
            constructor
            · intro h; exact .inr h
            · rintro (⟨_, h⟩ | h)
              · exact absurd h (by decide)
              · exact h
theorem ldL_seq (ms : List Int) : ∀ (ks : List E) (f : Nat → Nat → Bool) (D0 : Nat → Nat → Prop), goodE.all ks = true → LdOk ms.length f D0 → LdOk ms.length (ldB.ldL ms 4 ks f) (fun i j => ∃ m, D0 i m ∧ DE.seqD ms ks m j)
  | [], f, D0, _, h => by
    simp only [ldB.ldL]
    refine h.congr fun i j => ?_
    constructor
    · rintro ⟨m, h1, h2⟩
      obtain rfl := seqD_nil.1 h2
      exact h1
    · intro h1; exact ⟨j, h1, seqD_nil.2 rfl⟩
  | e :: r, f, D0, ha, h => by
    rw [ldL_cons]
    have he := ld_DE ms e (all_cons ha).1
    have := ldL_seq ms r (addB (ms.length + 1) 4 f (ldB ms e)) _ (all_cons ha).2 (by unfold addB; rw [if_pos rfl]; exact h.via he (DE_mono ms e))
    refine this.congr fun i j => ?_
    constructor
    · rintro ⟨m, h1, h2⟩
      obtain ⟨m', h3, h4⟩ := seqD_cons.1 h2
      exact ⟨m', ⟨m, h1, h3⟩, h4⟩
    · rintro ⟨m', ⟨m, h1, h3⟩, h4⟩
      exact ⟨m, h1, seqD_cons.2 ⟨m', h3, h4⟩⟩
theorem ldL_alt (ms : List Int) : ∀ (k : Int) (ks : List E) (f : Nat → Nat → Bool) (D0 : Nat → Nat → Prop), k ≠ 4 → ¬ (k = 6 ∨ k = 7) → goodE.all ks = true → LdOk ms.length f D0 → LdOk ms.length (ldB.ldL ms k ks f) (fun i j => D0 i j ∨ DE.altD ms ks i j)
  | k, [], f, D0, _, _, _, h => by
    simp only [ldB.ldL]
    refine h.congr fun i j => ?_
    rw [altD_nil, or_false]
  | k, e :: r, f, D0, h4, h67, ha, h => by
    rw [ldL_cons]
    have he := ld_DE ms e (all_cons ha).1
    have := ldL_alt ms k r (addB (ms.length + 1) k f (ldB ms e)) _ h4 h67 (all_cons ha).2 (by unfold addB; rw [if_neg h4, if_neg h67]; exact h.or he)
    refine this.congr fun i j => ?_
    rw [altD_cons, or_assoc]
end
theorem ld_right {ms : List Int} {e : E} (hr : rightE e = true) : LdOk ms.length (ldB ms e) (DE ms e) := by
  by_cases h9 : e.k = 9
  · obtain ⟨k, c, ks⟩ := e
    simp only [E.k] at h9
    subst h9
    have hs : shapedK 9 c ks.length = true := by simpa [rightE, E.k, E.c, E.ks] using hr
    have hl := List.eq_nil_of_length_eq_zero (shaped_leaf hs (by decide) (by decide) (by decide) (by decide) (by decide))
    subst hl
    intro i j _ _
    rw [DE_nine, ldB_eq]
    simp only [E.k, E.c, E.ks, ldB.ldL]
    rw [base_node (by decide)]
    exact ⟨fun h => h.1, fun h => ⟨h, rfl⟩⟩
  · rw [rightE_good h9] at hr
    simp only [Bool.and_eq_true] at hr
    exact ld_DE ms e hr.1
end Go.Proofs.Ytegkogadceodlaa.L

namespace Go.Proofs.Ytegkogadceodlaa.L
open Go.RowKit Go.Shelf Go.Lib

/-- Begun at one place, a leaf within took the mark ahead of the other one. -/
def LvE (ms : List Int) : E → Nat → Nat → Prop
  | .mk k c ks =>
    if k = 9 then fun _ _ => False
    else if ks = [] then fun i j => j = i + 1 ∧ ∃ m, ms[i]? = some m ∧ takesI k c m = true
    else if k = 4 then seqV ks
    else if k = 6 ∨ k = 7 then fun i j => ∃ m, (i = m ∨ TG (DE.altD ms ks) i m) ∧ altV ks m j
    else altV ks
where
  seqV : List E → Nat → Nat → Prop
    | [] => fun _ _ => False
    | e :: r => fun i j => LvE ms e i j ∨ ∃ m, DE ms e i m ∧ seqV r m j
  altV : List E → Nat → Nat → Prop
    | [] => fun _ _ => False
    | e :: r => fun i j => LvE ms e i j ∨ altV r i j
theorem LvE_nine {ms : List Int} {c : Int} {ks : List E} {i j : Nat} : LvE ms (.mk 9 c ks) i j ↔ False := by unfold LvE; rw [if_pos rfl]
theorem LvE_leaf {ms : List Int} {k c : Int} {i j : Nat} (h9 : k ≠ 9) : LvE ms (.mk k c []) i j ↔ j = i + 1 ∧ ∃ m, ms[i]? = some m ∧ takesI k c m = true := by unfold LvE; rw [if_neg h9, if_pos rfl]
theorem LvE_seq {ms : List Int} {c : Int} {ks : List E} {i j : Nat} (hl : ks ≠ []) : LvE ms (.mk 4 c ks) i j ↔ LvE.seqV ms ks i j := by unfold LvE; rw [if_neg (by decide), if_neg hl, if_pos rfl]
theorem LvE_rep {ms : List Int} {k c : Int} {ks : List E} {i j : Nat} (hl : ks ≠ []) (h : k = 6 ∨ k = 7) : LvE ms (.mk k c ks) i j ↔ ∃ m, (i = m ∨ TG (DE.altD ms ks) i m) ∧ LvE.altV ms ks m j := by unfold LvE; rw [if_neg (by omega), if_neg hl, if_neg (by omega), if_pos h]
theorem LvE_alt {ms : List Int} {k c : Int} {ks : List E} {i j : Nat} (hl : ks ≠ []) (h9 : k ≠ 9) (h4 : k ≠ 4) (h : ¬ (k = 6 ∨ k = 7)) : LvE ms (.mk k c ks) i j ↔ LvE.altV ms ks i j := by unfold LvE; rw [if_neg h9, if_neg hl, if_neg h4, if_neg h]
theorem seqV_cons {ms : List Int} {e : E} {r : List E} {i j : Nat} : LvE.seqV ms (e :: r) i j ↔ LvE ms e i j ∨ ∃ m, DE ms e i m ∧ LvE.seqV ms r m j := by conv => lhs; unfold LvE.seqV
theorem altV_cons {ms : List Int} {e : E} {r : List E} {i j : Nat} : LvE.altV ms (e :: r) i j ↔ LvE ms e i j ∨ LvE.altV ms r i j := by conv => lhs; unfold LvE.altV
theorem seqV_nil {ms : List Int} {i j : Nat} : LvE.seqV ms [] i j ↔ False := by unfold LvE.seqV; exact Iff.rfl
theorem altV_nil {ms : List Int} {i j : Nat} : LvE.altV ms [] i j ↔ False := by unfold LvE.altV; exact Iff.rfl
theorem tg_lv {ms : List Int} {ks : List E} (h : ∀ i j, DE.altD ms ks i j → i < j → LvE.altV ms ks i j) {i j : Nat} (t : TG (DE.altD ms ks) i j) (hij : i < j) : ∃ m, (i = m ∨ TG (DE.altD ms ks) i m) ∧ LvE.altV ms ks m j := by
  induction t with
  | one d => exact ⟨_, .inl rfl, h _ _ d hij⟩
  | more t d ih =>
    rename_i m j
    have := altD_mono ms ks m j d
    by_cases e : m = j
    · subst e; exact ih hij
    · exact ⟨m, .inr t, h _ _ d (by omega)⟩
mutual
theorem DE_lv (ms : List Int) : ∀ e, ∀ i j, DE ms e i j → i < j → LvE ms e i j
  | .mk k c ks, i, j, h, hij => by
    by_cases h9 : k = 9
    · subst h9; have := DE_nine.1 h; omega
    · by_cases hl : ks = []
      · subst hl; exact (LvE_leaf h9).2 ((DE_leaf h9).1 h)
      · by_cases h4 : k = 4
        · subst h4; exact (LvE_seq hl).2 (seqD_lv ms ks i j ((DE_seq hl).1 h) hij)
        · by_cases h6 : k = 6
          · subst h6
            rcases (DE_star hl).1 h with e | t
            · omega
            · exact (LvE_rep hl (.inl rfl)).2 (tg_lv (altD_lv ms ks) t hij)
          · by_cases h7 : k = 7
            · subst h7; exact (LvE_rep hl (.inr rfl)).2 (tg_lv (altD_lv ms ks) ((DE_plus hl).1 h) hij)
            · have h67 : ¬ (k = 6 ∨ k = 7) := by omega
              by_cases h8 : k = 8
              · subst h8
                rcases (DE_maybe hl).1 h with e | t
                · omega
                · exact (LvE_alt hl h9 h4 h67).2 (altD_lv ms ks i j t hij)
              · exact (LvE_alt hl h9 h4 h67).2 (altD_lv ms ks i j ((DE_alt hl h9 h4 h6 h7 h8).1 h) hij)
theorem seqD_lv (ms : List Int) : ∀ ks, ∀ i j, DE.seqD ms ks i j → i < j → LvE.seqV ms ks i j
  | [], i, j, h, hij => by have := seqD_nil.1 h; omega
  | e :: r, i, j, h, hij => by
    obtain ⟨m, h1, h2⟩ := seqD_cons.1 h
    have := seqD_mono ms r m j h2
    by_cases em : m = j
    · subst em; exact seqV_cons.2 (.inl (DE_lv ms e i m h1 hij))
    · exact seqV_cons.2 (.inr ⟨m, h1, seqD_lv ms r m j h2 (by omega)⟩)
theorem altD_lv (ms : List Int) : ∀ ks, ∀ i j, DE.altD ms ks i j → i < j → LvE.altV ms ks i j
  | [], i, j, h, _ => (altD_nil.1 h).elim
  | e :: r, i, j, h, hij => by
    rcases altD_cons.1 h with h | h
    · exact altV_cons.2 (.inl (DE_lv ms e i j h hij))
    · exact altV_cons.2 (.inr (altD_lv ms r i j h hij))
end
mutual
/-- What is live was live, or has just begun. -/
theorem lv_back (ms : List Int) : ∀ e, ∀ i j, LvE ms e i (j + 1) → i ≠ j → LvE ms e i j
  | .mk k c ks, i, j, h, hij => by
    by_cases h9 : k = 9
    · subst h9; exact (LvE_nine.1 h).elim
    · by_cases hl : ks = []
      · subst hl; have := ((LvE_leaf h9).1 h).1; omega
      · by_cases h4 : k = 4
        · subst h4; exact (LvE_seq hl).2 (seqV_back ms ks i j ((LvE_seq hl).1 h) hij)
        · by_cases h67 : k = 6 ∨ k = 7
          · obtain ⟨m, hm, hv⟩ := (LvE_rep hl h67).1 h
            refine (LvE_rep hl h67).2 ?_
            by_cases em : m = j
            · subst em
              rcases hm with e | t
              · exact absurd e hij
              · have := TG.mo (altD_mono ms ks) t
                exact tg_lv (altD_lv ms ks) t (by omega)
            · exact ⟨m, hm, altV_back ms ks m j hv em⟩
          · exact (LvE_alt hl h9 h4 h67).2 (altV_back ms ks i j ((LvE_alt hl h9 h4 h67).1 h) hij)
theorem seqV_back (ms : List Int) : ∀ ks, ∀ i j, LvE.seqV ms ks i (j + 1) → i ≠ j → LvE.seqV ms ks i j
  | [], i, j, h, _ => (seqV_nil.1 h).elim
  | e :: r, i, j, h, hij => by
    rcases seqV_cons.1 h with h | ⟨m, h1, h2⟩
    · exact seqV_cons.2 (.inl (lv_back ms e i j h hij))
    · by_cases em : m = j
      · subst em
        have := DE_mono ms e i m h1
        exact seqV_cons.2 (.inl (DE_lv ms e i m h1 (by omega)))
      · exact seqV_cons.2 (.inr ⟨m, h1, seqV_back ms r m j h2 em⟩)
theorem altV_back (ms : List Int) : ∀ ks, ∀ i j, LvE.altV ms ks i (j + 1) → i ≠ j → LvE.altV ms ks i j
  | [], i, j, h, _ => (altV_nil.1 h).elim
  | e :: r, i, j, h, hij => by
    rcases altV_cons.1 h with h | h
    · exact altV_cons.2 (.inl (lv_back ms e i j h hij))
    · exact altV_cons.2 (.inr (altV_back ms r i j h hij))
end
end Go.Proofs.Ytegkogadceodlaa.L

namespace Go.Proofs.Ytegkogadceodlaa.L
open Go.RowKit Go.Shelf Go.Lib

/-- Behind so many marks, if the node was begun at some places. -/
def OkS (ms : List Int) (j : Nat) : E → SB → (Nat → Prop) → Prop
  | .mk k c ks, .mk _ k' c' _ _ em en lv ps, B => k' = k ∧ c' = c ∧ (k = 9 → ks = []) ∧ (∀ x, em = true ↔ DE ms (.mk k c ks) x x) ∧ (en = true ↔ ∃ i, B i ∧ i < j ∧ DE ms (.mk k c ks) i j) ∧ (lv = true ↔ ∃ i, B i ∧ i < j ∧ LvE ms (.mk k c ks) i j) ∧
    (if k = 4 then seqO ks ps B else if k = 6 ∨ k = 7 then allO ks ps (fun x => ∃ i, B i ∧ (i = x ∨ TG (DE.altD ms ks) i x)) else allO ks ps B)
where
  seqO : List E → List SB → (Nat → Prop) → Prop
    | [], [], _ => True
    | e :: r, s :: t, B => OkS ms j e s B ∧ seqO r t (fun x => ∃ i, B i ∧ DE ms e i x)
    | [], _ :: _, _ => False
    | _ :: _, [], _ => False
  allO : List E → List SB → (Nat → Prop) → Prop
    | [], [], _ => True
    | e :: r, s :: t, B => OkS ms j e s B ∧ allO r t B
    | [], _ :: _, _ => False
    | _ :: _, [], _ => False
theorem seqO_cons {ms : List Int} {j : Nat} {e : E} {r : List E} {s : SB} {t : List SB} {B : Nat → Prop} : OkS.seqO ms j (e :: r) (s :: t) B ↔ OkS ms j e s B ∧ OkS.seqO ms j r t (fun x => ∃ i, B i ∧ DE ms e i x) := by conv => lhs; unfold OkS.seqO
theorem allO_cons {ms : List Int} {j : Nat} {e : E} {r : List E} {s : SB} {t : List SB} {B : Nat → Prop} : OkS.allO ms j (e :: r) (s :: t) B ↔ OkS ms j e s B ∧ OkS.allO ms j r t B := by conv => lhs; unfold OkS.allO
theorem okS_mk {ms : List Int} {j : Nat} {k c : Int} {ks : List E} {p : Nat} {k' c' : Int} {kv pv : Value} {em en lv : Bool} {ps : List SB} {B : Nat → Prop} : OkS ms j (.mk k c ks) (.mk p k' c' kv pv em en lv ps) B ↔
    (k' = k ∧ c' = c ∧ (k = 9 → ks = []) ∧ (∀ x, em = true ↔ DE ms (.mk k c ks) x x) ∧ (en = true ↔ ∃ i, B i ∧ i < j ∧ DE ms (.mk k c ks) i j) ∧ (lv = true ↔ ∃ i, B i ∧ i < j ∧ LvE ms (.mk k c ks) i j) ∧
    (if k = 4 then OkS.seqO ms j ks ps B else if k = 6 ∨ k = 7 then OkS.allO ms j ks ps (fun x => ∃ i, B i ∧ (i = x ∨ TG (DE.altD ms ks) i x)) else OkS.allO ms j ks ps B)) := by conv => lhs; unfold OkS
theorem okS_parts {ms : List Int} {j : Nat} {e : E} {s : SB} {B : Nat → Prop} (h : OkS ms j e s B) : (∀ x, s.em = true ↔ DE ms e x x) ∧ (s.en = true ↔ ∃ i, B i ∧ i < j ∧ DE ms e i j) ∧ (s.lv = true ↔ ∃ i, B i ∧ i < j ∧ LvE ms e i j) := by
  cases e
  cases s
  obtain ⟨_, _, _, h1, h2, h3, _⟩ := okS_mk.1 h
  exact ⟨h1, h2, h3⟩
mutual
/-- What is not live, and does not begin, stays so. -/
theorem ok_dead (ms : List Int) (j : Nat) : ∀ (e : E) (s : SB) (B : Nat → Prop), OkS ms j e s B → ¬ B j → (∀ i, B i → i < j → ¬ LvE ms e i j) → OkS ms (j + 1) e s B
  | .mk k c ks, .mk p k' c' kv pv em en lv ps, B, h, hB, hd => by
    obtain ⟨h1, h2, h9, h3, h4, h5, h6⟩ := okS_mk.1 h
    have hne : ∀ i, B i → i < j + 1 → i < j := fun i hi hl => by
      rcases Nat.lt_or_ge i j with h | h
      · exact h
      · obtain rfl : i = j := by omega
        exact absurd hi hB
    have e0 : en = false := by
      cases en with
      | false => rfl
      | true =>
        obtain ⟨i, a, b, d⟩ := h4.1 rfl
        exact absurd (DE_lv ms _ i j d b) (hd i a b)
    have l0 : lv = false := by
      cases lv with
      | false => rfl
      | true =>
        obtain ⟨i, a, b, d⟩ := h5.1 rfl
        exact absurd d (hd i a b)
    refine okS_mk.2 ⟨h1, h2, h9, h3, ?_, ?_, ?_⟩
    · rw [e0]
      constructor
      · intro q; cases q
      · rintro ⟨i, a, b, d⟩
        have b' := hne i a b
        exact absurd (lv_back ms _ i j (DE_lv ms _ i (j + 1) d b) (by omega)) (hd i a b')
    · rw [l0]
      constructor
      · intro q; cases q
      · rintro ⟨i, a, b, d⟩
        have b' := hne i a b
        exact absurd (lv_back ms _ i j d (by omega)) (hd i a b')
    · by_cases hl : ks = []
      · subst hl
        cases ps with
        | nil =>
          split
          · unfold OkS.seqO; trivial
          · split <;> (unfold OkS.allO; trivial)
        | cons s t =>
          split at h6
          · unfold OkS.seqO at h6; exact h6.elim
          · split at h6 <;> (unfold OkS.allO at h6; exact h6.elim)
      · by_cases c4 : k = 4
        · subst c4
          rw [if_pos rfl] at h6 ⊢
          exact seqO_dead ms j ks ps B h6 hB (fun i a b hv => hd i a b ((LvE_seq hl).2 hv))
        · rw [if_neg c4] at h6 ⊢
          by_cases c67 : k = 6 ∨ k = 7
          · rw [if_pos c67] at h6 ⊢
            refine allO_dead ms j ks ps _ h6 ?_ ?_
            · rintro ⟨i, a, e | t⟩
              · subst e; exact hB a
              · have := TG.mo (altD_mono ms ks) t
                by_cases e : i = j
                · subst e; exact hB a
                · exact hd i a (by omega) ((LvE_rep hl c67).2 (tg_lv (altD_lv ms ks) t (by omega)))
            · rintro x ⟨i, a, ht⟩ hx hv
              have : i ≤ x := by
                rcases ht with e | t
                · omega
                · exact TG.mo (altD_mono ms ks) t
              exact hd i a (by omega) ((LvE_rep hl c67).2 ⟨x, ht, hv⟩)
          · rw [if_neg c67] at h6 ⊢
            by_cases c9 : k = 9
            · exact absurd (h9 c9) hl
            · exact allO_dead ms j ks ps B h6 hB (fun i a b hv => hd i a b ((LvE_alt hl c9 c4 c67).2 hv))
theorem seqO_dead (ms : List Int) (j : Nat) : ∀ (ks : List E) (ps : List SB) (B : Nat → Prop), OkS.seqO ms j ks ps B → ¬ B j → (∀ i, B i → i < j → ¬ LvE.seqV ms ks i j) → OkS.seqO ms (j + 1) ks ps B
  | [], [], B, _, _, _ => by unfold OkS.seqO; trivial
  | e :: r, s :: t, B, h, hB, hd => by
    obtain ⟨h1, h2⟩ := seqO_cons.1 h
    refine seqO_cons.2 ⟨ok_dead ms j e s B h1 hB (fun i a b hv => hd i a b (seqV_cons.2 (.inl hv))), seqO_dead ms j r t _ h2 ?_ ?_⟩
    · rintro ⟨i, a, d⟩
      have := DE_mono ms e i j d
      by_cases e' : i = j
      · subst e'; exact hB a
      · exact hd i a (by omega) (seqV_cons.2 (.inl (DE_lv ms e i j d (by omega))))
    · rintro x ⟨i, a, d⟩ hx hv
      have := DE_mono ms e i x d
      exact hd i a (by omega) (seqV_cons.2 (.inr ⟨x, d, hv⟩))
  | [], _ :: _, B, h, _, _ => by unfold OkS.seqO at h; exact h.elim
  | _ :: _, [], B, h, _, _ => by unfold OkS.seqO at h; exact h.elim
theorem allO_dead (ms : List Int) (j : Nat) : ∀ (ks : List E) (ps : List SB) (B : Nat → Prop), OkS.allO ms j ks ps B → ¬ B j → (∀ i, B i → i < j → ¬ LvE.altV ms ks i j) → OkS.allO ms (j + 1) ks ps B
  | [], [], B, _, _, _ => by unfold OkS.allO; trivial
  | e :: r, s :: t, B, h, hB, hd => by
    obtain ⟨h1, h2⟩ := allO_cons.1 h
    exact allO_cons.2 ⟨ok_dead ms j e s B h1 hB (fun i a b hv => hd i a b (altV_cons.2 (.inl hv))), allO_dead ms j r t B h2 hB (fun i a b hv => hd i a b (altV_cons.2 (.inr hv)))⟩
  | [], _ :: _, B, h, _, _ => by unfold OkS.allO at h; exact h.elim
  | _ :: _, [], B, h, _, _ => by unfold OkS.allO at h; exact h.elim
end
end Go.Proofs.Ytegkogadceodlaa.L

namespace Go.Proofs.Ytegkogadceodlaa.L
open Go.RowKit Go.Shelf Go.Lib

theorem tg_last {D : Nat → Nat → Prop} (hD : Mo D) {i j : Nat} (t : TG D i j) : i < j → ∃ x, (i = x ∨ TG D i x) ∧ x < j ∧ D x j := by
  induction t with
  | one d => intro h; exact ⟨_, .inl rfl, h, d⟩
  | more t d ih =>
    rename_i m j
    intro h
    have := hD m j d
    by_cases e : m = j
    · subst e; exact ih h
    · exact ⟨m, .inr t, by omega, d⟩
mutual
theorem lv_lt (ms : List Int) : ∀ e, ∀ i j, LvE ms e i j → i < j
  | .mk k c ks, i, j, h => by
    by_cases h9 : k = 9
    · subst h9; exact (LvE_nine.1 h).elim
    · by_cases hl : ks = []
      · subst hl; have := ((LvE_leaf h9).1 h).1; omega
      · by_cases h4 : k = 4
        · subst h4; exact seqV_lt ms ks i j ((LvE_seq hl).1 h)
        · by_cases h67 : k = 6 ∨ k = 7
          · obtain ⟨m, hm, hv⟩ := (LvE_rep hl h67).1 h
            have := altV_lt ms ks m j hv
            rcases hm with e | t
            · omega
            · have := TG.mo (altD_mono ms ks) t; omega
          · exact altV_lt ms ks i j ((LvE_alt hl h9 h4 h67).1 h)
theorem seqV_lt (ms : List Int) : ∀ ks, ∀ i j, LvE.seqV ms ks i j → i < j
  | [], i, j, h => (seqV_nil.1 h).elim
  | e :: r, i, j, h => by
    rcases seqV_cons.1 h with h | ⟨m, h1, h2⟩
    · exact lv_lt ms e i j h
    · have := DE_mono ms e i m h1
      have := seqV_lt ms r m j h2
      omega
theorem altV_lt (ms : List Int) : ∀ ks, ∀ i j, LvE.altV ms ks i j → i < j
  | [], i, j, h => (altV_nil.1 h).elim
  | e :: r, i, j, h => by
    rcases altV_cons.1 h with h | h
    · exact lv_lt ms e i j h
    · exact altV_lt ms r i j h
end
theorem seq_lvs {ms : List Int} {j : Nat} : ∀ (ks : List E) (ts : List SB) (B : Nat → Prop), OkS.seqO ms j ks ts B → (ts.any SB.lv = true ↔ ∃ i, B i ∧ i < j ∧ LvE.seqV ms ks i j)
  | [], [], B, _ => by simp [seqV_nil]
  | e :: r, t :: u, B, h => by
    obtain ⟨h1, h2⟩ := seqO_cons.1 h
    have ih := seq_lvs r u _ h2
    rw [List.any_cons, Bool.or_eq_true, (okS_parts h1).2.2, ih]
    constructor
    · rintro (⟨i, a, b, d⟩ | ⟨x, ⟨i, a, d⟩, hx, v⟩)
      · exact ⟨i, a, b, seqV_cons.2 (.inl d)⟩
      · have := DE_mono ms e i x d
        exact ⟨i, a, by omega, seqV_cons.2 (.inr ⟨x, d, v⟩)⟩
    · rintro ⟨i, a, b, v⟩
      rcases seqV_cons.1 v with v | ⟨x, d, v⟩
      · exact .inl ⟨i, a, b, v⟩
      · exact .inr ⟨x, ⟨i, a, d⟩, seqV_lt ms r x j v, v⟩
  | [], _ :: _, B, h => by unfold OkS.seqO at h; exact h.elim
  | _ :: _, [], B, h => by unfold OkS.seqO at h; exact h.elim
theorem seq_ens {ms : List Int} {j : Nat} : ∀ (ks : List E) (ts : List SB) (B : Nat → Prop) (a : Bool), OkS.seqO ms j ks ts B → (ts.foldl (fun a q => q.en || (a && q.em)) a = true ↔ (a = true ∧ DE.seqD ms ks j j) ∨ ∃ i, B i ∧ i < j ∧ DE.seqD ms ks i j)
  | [], [], B, a, _ => by
    simp only [List.foldl_nil, seqD_nil, and_true]
    constructor
    · intro h; exact .inl h
    · rintro (h | ⟨i, _, h1, h2⟩)
      · exact h
      · omega
  | e :: r, t :: u, B, a, h => by
    obtain ⟨h1, h2⟩ := seqO_cons.1 h
    obtain ⟨hem, hen, _⟩ := okS_parts h1
    have ih := seq_ens r u _ (t.en || (a && t.em)) h2
    rw [List.foldl_cons, ih, Bool.or_eq_true, Bool.and_eq_true, hen, hem j]
    constructor
    · rintro (⟨⟨i, b, d, f⟩ | ⟨ha, f⟩, g⟩ | ⟨x, ⟨i, b, d⟩, hx, g⟩)
      · exact .inr ⟨i, b, d, seqD_cons.2 ⟨j, f, g⟩⟩
      · exact .inl ⟨ha, seqD_cons.2 ⟨j, f, g⟩⟩
      · have := DE_mono ms e i x d
        exact .inr ⟨i, b, by omega, seqD_cons.2 ⟨x, d, g⟩⟩
    · rintro (⟨ha, g⟩ | ⟨i, b, d, g⟩)
      · obtain ⟨x, f, g⟩ := seqD_cons.1 g
        have h3 := DE_mono ms e j x f
        have h4 := seqD_mono ms r x j g
        obtain rfl : x = j := by omega
        exact .inl ⟨.inr ⟨ha, f⟩, g⟩
      · obtain ⟨x, f, g⟩ := seqD_cons.1 g
        have h4 := seqD_mono ms r x j g
        by_cases e' : x = j
        · subst e'; exact .inl ⟨.inl ⟨i, b, d, f⟩, g⟩
        · exact .inr ⟨x, ⟨i, b, f⟩, by omega, g⟩
  | [], _ :: _, B, a, h => by unfold OkS.seqO at h; exact h.elim
  | _ :: _, [], B, a, h => by unfold OkS.seqO at h; exact h.elim
theorem all_lvs {ms : List Int} {j : Nat} : ∀ (ks : List E) (ts : List SB) (B : Nat → Prop), OkS.allO ms j ks ts B → (ts.any SB.lv = true ↔ ∃ i, B i ∧ i < j ∧ LvE.altV ms ks i j) ∧ (ts.any SB.en = true ↔ ∃ i, B i ∧ i < j ∧ DE.altD ms ks i j)
  | [], [], B, _ => by simp [altV_nil, altD_nil]
  | e :: r, t :: u, B, h => by
    obtain ⟨h1, h2⟩ := allO_cons.1 h
    obtain ⟨i1, i2⟩ := all_lvs r u B h2
    obtain ⟨_, hen, hlv⟩ := okS_parts h1
    constructor
    · rw [List.any_cons, Bool.or_eq_true, hlv, i1]
      constructor
      · rintro (⟨i, a, b, d⟩ | ⟨i, a, b, d⟩)
        · exact ⟨i, a, b, altV_cons.2 (.inl d)⟩
        · exact ⟨i, a, b, altV_cons.2 (.inr d)⟩
      · rintro ⟨i, a, b, d⟩
        rcases altV_cons.1 d with d | d
        · exact .inl ⟨i, a, b, d⟩
        · exact .inr ⟨i, a, b, d⟩
    · rw [List.any_cons, Bool.or_eq_true, hen, i2]
      constructor
      · rintro (⟨i, a, b, d⟩ | ⟨i, a, b, d⟩)
        · exact ⟨i, a, b, altD_cons.2 (.inl d)⟩
        · exact ⟨i, a, b, altD_cons.2 (.inr d)⟩
      · rintro ⟨i, a, b, d⟩
        rcases altD_cons.1 d with d | d
        · exact .inl ⟨i, a, b, d⟩
        · exact .inr ⟨i, a, b, d⟩
  | [], _ :: _, B, h => by unfold OkS.allO at h; exact h.elim
  | _ :: _, [], B, h => by unfold OkS.allO at h; exact h.elim
theorem takesG_I {k c m : Int} (h : shapedK k c 0 = true) (h9 : k ≠ 9) : takesG k c m = takesI k c m := by
  obtain ⟨h4, h1⟩ := one_takes (m := m) h h9
  rw [← h1]
  unfold takesG oneI isC
  by_cases k0 : k = 0
  · rw [if_pos k0, if_pos k0]
  · rw [if_neg k0, if_neg k0]
    have e : decide (m < 36) = decide (m ≤ 35) := by simp; omega
    by_cases k1 : k = 1
    · rw [if_pos k1, if_pos k1, e]
    · rw [if_neg k1, if_neg k1]
      by_cases k2 : k = 2
      · rw [if_pos k2, if_pos k2, e]
      · rw [if_neg k2, if_neg k2]
        by_cases k3 : k = 3
        · rw [if_pos k3]; simp [k3]
        · rw [if_neg k3]; simp [k3]
end Go.Proofs.Ytegkogadceodlaa.L

namespace Go.Proofs.Ytegkogadceodlaa.L
open Go.RowKit Go.Shelf Go.Lib

theorem seqO_nil {ms : List Int} {j : Nat} {ps : List SB} {B : Nat → Prop} (h : OkS.seqO ms j [] ps B) : ps = [] := by
  cases ps with
  | nil => rfl
  | cons a t => unfold OkS.seqO at h; exact h.elim
theorem allO_nil {ms : List Int} {j : Nat} {ps : List SB} {B : Nat → Prop} (h : OkS.allO ms j [] ps B) : ps = [] := by
  cases ps with
  | nil => rfl
  | cons a t => unfold OkS.allO at h; exact h.elim
mutual
theorem ok_step (ms : List Int) (j : Nat) (m : Int) (hm : ms[j]? = some m) : ∀ (e : E) (s : SB) (B : Nat → Prop) (b : Bool), goodE e = true → OkS ms j e s B → (b = true ↔ B j) → OkS ms (j + 1) e (stepS m s b) B
  | .mk k c ks, .mk p k' c' kv pv em en lv ps, B, b, hg, h, hb => by
    obtain ⟨h1, h2, h9', h3, h4, h5, h6⟩ := okS_mk.1 h
    subst h1 h2
    obtain ⟨h9, hs, ha⟩ := good_parts hg
    unfold stepS
    by_cases hd : (!b && !lv) = true
    · rw [if_pos hd]
      simp only [Bool.and_eq_true, Bool.not_eq_true'] at hd
      refine ok_dead ms j _ _ B h (fun q => ?_) (fun i a d v => ?_)
      · rw [hb.2 q] at hd; cases hd.1
      · rw [h5.2 ⟨i, a, d, v⟩] at hd; cases hd.2
    · rw [if_neg hd]
      by_cases hl : ks = []
      · subst hl
        have k4 := (one_takes (m := 0) hs h9).1
        rw [if_neg (by omega), if_neg (by omega), if_neg (by omega)]
        rw [if_neg (by omega), if_neg (by omega)] at h6
        obtain rfl := allO_nil h6
        have key : (b && takesG k' c' m) = true ↔ ∃ i, B i ∧ i < j + 1 ∧ (j + 1 = i + 1 ∧ ∃ m, ms[i]? = some m ∧ takesI k' c' m = true) := by
          rw [Bool.and_eq_true, hb, takesG_I hs h9]
          constructor
          · rintro ⟨x, y⟩
            exact ⟨j, x, by omega, rfl, m, hm, y⟩
          · rintro ⟨i, x, _, e, m', y, z⟩
            obtain rfl : i = j := by omega
            rw [hm] at y
            cases y
            exact ⟨x, z⟩
        refine okS_mk.2 ⟨rfl, rfl, h9', h3, ?_, ?_, ?_⟩
        · rw [key]
          constructor
          · rintro ⟨i, x, y, z⟩; exact ⟨i, x, y, (DE_leaf h9).2 z⟩
          · rintro ⟨i, x, y, z⟩; exact ⟨i, x, y, (DE_leaf h9).1 z⟩
        · rw [key]
          constructor
          · rintro ⟨i, x, y, z⟩; exact ⟨i, x, y, (LvE_leaf h9).2 z⟩
          · rintro ⟨i, x, y, z⟩; exact ⟨i, x, y, (LvE_leaf h9).1 z⟩
        · rw [if_neg (by omega), if_neg (by omega)]
          unfold OkS.allO
          trivial
      · by_cases c4 : k' = 4
        · subst c4
          rw [if_pos rfl] at h6 ⊢
          have hq := seqO_step ms j m hm ks ps B b ha h6 hb
          refine okS_mk.2 ⟨rfl, rfl, h9', h3, ?_, ?_, by rw [if_pos rfl]; exact hq⟩
          · rw [seq_ens ks _ B false hq]
            constructor
            · rintro (⟨x, _⟩ | ⟨i, x, y, z⟩)
              · cases x
              · exact ⟨i, x, y, (DE_seq hl).2 z⟩
            · rintro ⟨i, x, y, z⟩; exact .inr ⟨i, x, y, (DE_seq hl).1 z⟩
          · rw [seq_lvs ks _ B hq]
            constructor
            · rintro ⟨i, x, y, z⟩; exact ⟨i, x, y, (LvE_seq hl).2 z⟩
            · rintro ⟨i, x, y, z⟩; exact ⟨i, x, y, (LvE_seq hl).1 z⟩
        · by_cases c67 : k' = 6 ∨ k' = 7
          · rw [if_neg c4, if_pos c67] at h6 ⊢
            have tgd : ∀ i x, i < x → (DE ms (.mk k' c' ks) i x ↔ TG (DE.altD ms ks) i x) := fun i x hx => by
              rcases c67 with e | e
              · subst e
                rw [DE_star hl]
                exact ⟨fun q => q.elim (fun q => by omega) id, .inr⟩
              · subst e; rw [DE_plus hl]
            have hb' : (b || en) = true ↔ ∃ i, B i ∧ (i = j ∨ TG (DE.altD ms ks) i j) := by
              rw [Bool.or_eq_true, hb, h4]
              constructor
              · rintro (x | ⟨i, x, y, z⟩)
                · exact ⟨j, x, .inl rfl⟩
                · exact ⟨i, x, .inr ((tgd i j y).1 z)⟩
              · rintro ⟨i, x, e | t⟩
                · subst e; exact .inl x
                · have := TG.mo (altD_mono ms ks) t
                  by_cases e : i = j
                  · subst e; exact .inl x
                  · exact .inr ⟨i, x, by omega, (tgd i j (by omega)).2 t⟩
            have hq := allO_step ms j m hm ks ps _ (b || en) ha h6 hb'
            obtain ⟨q1, q2⟩ := all_lvs ks _ _ hq
            refine okS_mk.2 ⟨rfl, rfl, h9', h3, ?_, ?_, by rw [if_neg c4, if_pos c67]; exact hq⟩
            · rw [q2]
              constructor
              · rintro ⟨x, ⟨i, a, t⟩, y, z⟩
                have hix : i ≤ x := by
                  rcases t with e | t
                  · omega
                  · exact TG.mo (altD_mono ms ks) t
                refine ⟨i, a, by omega, (tgd i (j + 1) (by omega)).2 ?_⟩
                rcases t with e | t
                · subst e; exact .one z
                · exact .more t z
              · rintro ⟨i, a, y, z⟩
                obtain ⟨x, t, hx, d⟩ := tg_last (altD_mono ms ks) ((tgd i (j + 1) y).1 z) y
                exact ⟨x, ⟨i, a, t⟩, hx, d⟩
            · rw [q1]
              constructor
              · rintro ⟨x, ⟨i, a, t⟩, y, z⟩
                have hix : i ≤ x := by
                  rcases t with e | t
                  · omega
                  · exact TG.mo (altD_mono ms ks) t
                exact ⟨i, a, by omega, (LvE_rep hl c67).2 ⟨x, t, z⟩⟩
              · rintro ⟨i, a, y, z⟩
                obtain ⟨x, t, v⟩ := (LvE_rep hl c67).1 z
                exact ⟨x, ⟨i, a, t⟩, altV_lt ms ks x (j + 1) v, v⟩
          · have hk := (node_kind hs (fun q => hl (List.eq_nil_of_length_eq_zero q))).1
            have c58 : k' = 5 ∨ k' = 8 := by omega
            rw [if_neg c4, if_neg c67] at h6 ⊢
            rw [if_pos c58]
            have hq := allO_step ms j m hm ks ps B b ha h6 hb
            obtain ⟨q1, q2⟩ := all_lvs ks _ _ hq
            have dd : ∀ i x, i < x → (DE ms (.mk k' c' ks) i x ↔ DE.altD ms ks i x) := fun i x hx => by
              rcases c58 with e | e
              · subst e; rw [DE_alt hl (by decide) (by decide) (by decide) (by decide) (by decide)]
              · subst e
                rw [DE_maybe hl]
                exact ⟨fun q => q.elim (fun q => by omega) id, .inr⟩
            refine okS_mk.2 ⟨rfl, rfl, h9', h3, ?_, ?_, by rw [if_neg c4, if_neg c67]; exact hq⟩
            · rw [q2]
              constructor
              · rintro ⟨i, a, y, z⟩; exact ⟨i, a, y, (dd i _ y).2 z⟩
              · rintro ⟨i, a, y, z⟩; exact ⟨i, a, y, (dd i _ y).1 z⟩
            · rw [q1]
              constructor
              · rintro ⟨i, a, y, z⟩; exact ⟨i, a, y, (LvE_alt hl h9 c4 c67).2 z⟩
              · rintro ⟨i, a, y, z⟩; exact ⟨i, a, y, (LvE_alt hl h9 c4 c67).1 z⟩
theorem seqO_step (ms : List Int) (j : Nat) (m : Int) (hm : ms[j]? = some m) : ∀ (ks : List E) (ps : List SB) (B : Nat → Prop) (b : Bool), goodE.all ks = true → OkS.seqO ms j ks ps B → (b = true ↔ B j) → OkS.seqO ms (j + 1) ks (stepS.seqS m ps b) B
  | [], ps, B, b, _, h, _ => by
    obtain rfl := seqO_nil h
    unfold stepS.seqS OkS.seqO
    trivial
  | e :: r, [], B, b, _, h, _ => by unfold OkS.seqO at h; exact h.elim
  | e :: r, s :: t, B, b, ha, h, hb => by
    obtain ⟨h1, h2⟩ := seqO_cons.1 h
    obtain ⟨hem, hen, _⟩ := okS_parts h1
    rw [seqS_cons]
    refine seqO_cons.2 ⟨ok_step ms j m hm e s B b (all_cons ha).1 h1 hb, seqO_step ms j m hm r t _ _ (all_cons ha).2 h2 ?_⟩
    rw [Bool.or_eq_true, Bool.and_eq_true, hen, hb, hem j]
    constructor
    · rintro (⟨i, x, y, z⟩ | ⟨x, z⟩)
      · exact ⟨i, x, z⟩
      · exact ⟨j, x, z⟩
    · rintro ⟨i, x, z⟩
      have := DE_mono ms e i j z
      by_cases q : i = j
      · subst q; exact .inr ⟨x, z⟩
      · exact .inl ⟨i, x, by omega, z⟩
theorem allO_step (ms : List Int) (j : Nat) (m : Int) (hm : ms[j]? = some m) : ∀ (ks : List E) (ps : List SB) (B : Nat → Prop) (b : Bool), goodE.all ks = true → OkS.allO ms j ks ps B → (b = true ↔ B j) → OkS.allO ms (j + 1) ks (stepS.allS m ps b) B
  | [], ps, B, b, _, h, _ => by
    obtain rfl := allO_nil h
    unfold stepS.allS OkS.allO
    trivial
  | e :: r, [], B, b, _, h, _ => by unfold OkS.allO at h; exact h.elim
  | e :: r, s :: t, B, b, ha, h, hb => by
    obtain ⟨h1, h2⟩ := allO_cons.1 h
    rw [allS_cons]
    exact allO_cons.2 ⟨ok_step ms j m hm e s B b (all_cons ha).1 h1 hb, allO_step ms j m hm r t B b (all_cons ha).2 h2 hb⟩
end
end Go.Proofs.Ytegkogadceodlaa.L

namespace Go.Proofs.Ytegkogadceodlaa.L
open Go.RowKit Go.Shelf Go.Lib

theorem cnt_cons (s : SB) (t : List SB) : cntE (s :: t) = (if s.em = true then 1 else 0) + cntE t := by
  unfold cntE
  rw [List.filter_cons]
  split
  · rw [List.length_cons]; omega
  · omega
theorem tg_diag {D : Nat → Nat → Prop} (hD : Mo D) {i j : Nat} (t : TG D i j) : i = j → D i j := by
  induction t with
  | one d => exact fun _ => d
  | more t d ih =>
    rename_i m j
    intro h
    have h1 := TG.mo hD t
    have h2 := hD m j d
    obtain rfl : i = m := by omega
    exact d
theorem seq_em {ms : List Int} {j : Nat} (x : Nat) : ∀ (ks : List E) (ps : List SB) (B : Nat → Prop), OkS.seqO ms j ks ps B → (cntE ps = ps.length ↔ DE.seqD ms ks x x)
  | [], [], B, _ => by simp [cntE, seqD_nil]
  | e :: r, s :: t, B, h => by
    obtain ⟨h1, h2⟩ := seqO_cons.1 h
    have ih := seq_em x r t _ h2
    have hem := (okS_parts h1).1 x
    have hle := cntE_le t
    rw [cnt_cons, List.length_cons, seqD_cons]
    constructor
    · intro q
      split at q
      · rename_i he
        exact ⟨x, hem.1 he, ih.1 (by omega)⟩
      · omega
    · rintro ⟨m, a, b⟩
      have := DE_mono ms e x m a
      have := seqD_mono ms r m x b
      obtain rfl : m = x := by omega
      rw [if_pos (hem.2 a), ih.2 b]
      omega
  | [], _ :: _, B, h => by unfold OkS.seqO at h; exact h.elim
  | _ :: _, [], B, h => by unfold OkS.seqO at h; exact h.elim
theorem all_em {ms : List Int} {j : Nat} (x : Nat) : ∀ (ks : List E) (ps : List SB) (B : Nat → Prop), OkS.allO ms j ks ps B → ks.length = ps.length ∧ (0 < cntE ps ↔ DE.altD ms ks x x)
  | [], [], B, _ => by simp [cntE, altD_nil]
  | e :: r, s :: t, B, h => by
    obtain ⟨h1, h2⟩ := allO_cons.1 h
    obtain ⟨hl, ih⟩ := all_em x r t _ h2
    have hem := (okS_parts h1).1 x
    rw [cnt_cons, altD_cons, ← hem, ← ih]
    refine ⟨by rw [List.length_cons, List.length_cons, hl], ?_⟩
    cases s.em with
    | true => simp; omega
    | false => simp
  | [], _ :: _, B, h => by unfold OkS.allO at h; exact h.elim
  | _ :: _, [], B, h => by unfold OkS.allO at h; exact h.elim
mutual
theorem fresh_ok (ms : List Int) : ∀ (e : E) (s : SB) (B : Nat → Prop), goodE e = true → FreshS e s → OkS ms 0 e s B
  | .mk k c ks, .mk p k' c' kv pv em en lv ps, B, hg, h => by
    unfold FreshS at h
    obtain ⟨h1, h2, h3, h4, h5, h6⟩ := h
    subst h1 h2 h3 h4
    obtain ⟨h9, hs, ha⟩ := good_parts hg
    have hA : ∀ B, OkS.allO ms 0 ks ps B := fun B => fresh_all ms ks ps B ha h6
    have hS : ∀ B, OkS.seqO ms 0 ks ps B := fun B => fresh_seq ms ks ps B ha h6
    refine okS_mk.2 ⟨rfl, rfl, fun e => absurd e h9, ?_, ?_, ?_, ?_⟩
    · intro x
      obtain ⟨hl, hx⟩ := all_em x ks ps _ (hA B)
      rw [h5]
      unfold emK
      by_cases hn : ks = []
      · subst hn
        have k4 := (one_takes (m := 0) hs h9).1
        rw [if_neg (by omega), if_neg (by omega), if_neg (by omega), DE_leaf h9]
        constructor
        · intro q; cases q
        · rintro ⟨q, _⟩; omega
      · obtain ⟨hk, h1⟩ := node_kind hs (fun q => hn (List.eq_nil_of_length_eq_zero q))
        rcases hk with q | q | q | q | q
        · subst q
          rw [if_neg (by decide), if_neg (by decide), if_pos (by decide), decide_eq_true_iff, DE_seq hn]
          exact seq_em x ks ps _ (hS B)
        · subst q
          rw [if_neg (by decide), if_pos rfl, decide_eq_true_iff, DE_alt hn (by decide) (by decide) (by decide) (by decide) (by decide)]
          exact hx
        · subst q
          rw [if_pos (by decide), DE_star hn]
          exact ⟨fun _ => .inl rfl, fun _ => rfl⟩
        · subst q
          have := h1 (by decide)
          have := cntE_le ps
          rw [if_neg (by decide), if_neg (by decide), if_pos (by decide), decide_eq_true_iff, DE_plus hn]
          constructor
          · intro q; exact .one (hx.1 (by omega))
          · intro q
            have := hx.2 (tg_diag (altD_mono ms ks) q rfl)
            omega
        · subst q
          rw [if_pos (by decide), DE_maybe hn]
          exact ⟨fun _ => .inl rfl, fun _ => rfl⟩
    · constructor
      · intro q; cases q
      · rintro ⟨i, _, q, _⟩; omega
    · constructor
      · intro q; cases q
      · rintro ⟨i, _, q, _⟩; omega
    · split
      · exact hS _
      · split <;> exact hA _
theorem fresh_all (ms : List Int) : ∀ (ks : List E) (ps : List SB) (B : Nat → Prop), goodE.all ks = true → FreshS.FreshL ks ps → OkS.allO ms 0 ks ps B
  | [], [], B, _, _ => by unfold OkS.allO; trivial
  | e :: r, s :: t, B, ha, h => by
    unfold FreshS.FreshL at h
    exact allO_cons.2 ⟨fresh_ok ms e s B (all_cons ha).1 h.1, fresh_all ms r t B (all_cons ha).2 h.2⟩
  | [], _ :: _, B, _, h => by unfold FreshS.FreshL at h; exact h.elim
  | _ :: _, [], B, _, h => by unfold FreshS.FreshL at h; exact h.elim
theorem fresh_seq (ms : List Int) : ∀ (ks : List E) (ps : List SB) (B : Nat → Prop), goodE.all ks = true → FreshS.FreshL ks ps → OkS.seqO ms 0 ks ps B
  | [], [], B, _, _ => by unfold OkS.seqO; trivial
  | e :: r, s :: t, B, ha, h => by
    unfold FreshS.FreshL at h
    exact seqO_cons.2 ⟨fresh_ok ms e s B (all_cons ha).1 h.1, fresh_seq ms r t _ (all_cons ha).2 h.2⟩
  | [], _ :: _, B, _, h => by unfold FreshS.FreshL at h; exact h.elim
  | _ :: _, [], B, _, h => by unfold FreshS.FreshL at h; exact h.elim
end
theorem lv_down (ms : List Int) (e : E) (i j : Nat) (hij : i < j) : ∀ n, LvE ms e i (j + n) → LvE ms e i j
  | 0, h => h
  | n + 1, h => lv_down ms e i j hij n (lv_back ms e i (j + n) h (by omega))
theorem run_ok (ms : List Int) (e : E) (hg : goodE e = true) : ∀ (r : List Int) (i : Nat) (s : SB) (en : Bool), ms.drop i = r → i ≤ ms.length → OkS ms i e s (fun x => x = 0) → (en = true ↔ DE ms e 0 i) → (runS r i s en = true ↔ DE ms e 0 ms.length)
  | [], i, s, en, hr, hi, _, he => by
    have hl := congrArg List.length hr
    rw [List.length_drop] at hl
    have : i = ms.length := by simp at hl; omega
    subst this
    unfold runS
    exact he
  | m :: r, i, s, en, hr, hi, ho, he => by
    have hm : ms[i]? = some m := by
      have := congrArg (fun l => l[0]?) hr
      simpa using this
    have hlt : i < ms.length := (List.getElem?_eq_some_iff.1 hm).1
    clear hi
    have hr' : ms.drop (i + 1) = r := by
      have := congrArg List.tail hr
      simpa using this
    have ho' := ok_step ms i m hm e s _ (decide (i = 0)) hg ho (by simp)
    obtain ⟨_, hen, hlv⟩ := okS_parts ho'
    unfold runS
    split
    · rename_i hv
      refine run_ok ms e hg r (i + 1) _ _ hr' hlt ho' ?_
      rw [hen]
      constructor
      · rintro ⟨_, rfl, _, d⟩; exact d
      · intro d; exact ⟨0, rfl, by omega, d⟩
    · rename_i hv
      constructor
      · intro q; cases q
      · intro d
        have h1 := DE_lv ms e 0 ms.length d (Nat.lt_of_le_of_lt (Nat.zero_le _) hlt)
        have h2 : LvE ms e 0 (i + 1) := lv_down ms e 0 (i + 1) (Nat.succ_pos i) (ms.length - (i + 1)) (by rw [Nat.add_sub_cancel' hlt]; exact h1)
        exact absurd (hlv.2 ⟨0, rfl, by omega, h2⟩) hv
theorem run_right {ms : List Int} {e : E} {s : SB} (hr : rightE e = true) (hf : FreshS e s) : runS ms 0 s s.em = true ↔ DE ms e 0 ms.length := by
  by_cases h9 : e.k = 9
  · obtain ⟨k, c, ks⟩ := e
    simp only [E.k] at h9
    subst h9
    obtain ⟨p, k', c', kv, pv, em, en, lv, ps⟩ := s
    unfold FreshS at hf
    obtain ⟨h1, h2, h3, h4, h5, h6⟩ := hf
    subst h1 h2 h3 h4
    have h5' : em = true := by rw [h5]; unfold emK; rw [if_pos (by decide)]
    rw [DE_nine]
    cases ms with
    | nil => unfold runS; exact ⟨fun _ => rfl, fun _ => h5'⟩
    | cons m r =>
      unfold runS
      have : (stepS m (.mk p 9 c' kv pv em false false ps) (decide ((0 : Nat) = 0))).lv = false := by
        unfold stepS
        simp [SB.lv, takesG]
      rw [this]
      simp
  · have hg : goodE e = true := by
      rw [rightE_good h9, Bool.and_eq_true] at hr
      exact hr.1
    have ho := fresh_ok ms e s (fun x => x = 0) hg hf
    exact run_ok ms e hg ms 0 s s.em rfl (Nat.zero_le _) ho ((okS_parts ho).1 0)
/-- Matches answers by the definition. -/
theorem run_ld {ms : List Int} {e : E} {s : SB} (hr : rightE e = true) (hf : FreshS e s) : runS ms 0 s s.em = ldB ms e 0 ms.length := by
  have h1 := run_right (ms := ms) hr hf
  have h2 := ld_right (ms := ms) hr 0 ms.length (Nat.zero_le _) (Nat.le_refl _)
  rw [Bool.eq_iff_iff]
  exact h1.trans h2.symm
end Go.Proofs.Ytegkogadceodlaa.L

namespace Go.Proofs.Ytegkogadceodlaa.L
open Go.RowKit Go.Shelf Go.Lib Go.Maps

def MatB (e : E) (ms : List Int) : Bool := rightE e && ldB ms e 0 ms.length
theorem matches_ld (e : E) (v : Value) (ms : List Int) (Am : Option Addr) (cm : Nat) (w : World) (h : Nd w w.heap.size e v) (hz : szE e ≤ 100000) (hI : IS w w.heap.size ms Am cm) :
    Calls Try.prog 15 #[v, .slice Am ms.length cm] w (fun r w' => Below w.heap.size w w' ∧ r = .returned (.bool (MatB e ms))) := by
  refine (matches_any e v ms Am cm w h hz hI).mono ?_
  rintro r w' ⟨hb, ⟨h1, h2⟩ | ⟨h1, s, hf, h2⟩⟩
  · refine ⟨hb, ?_⟩
    unfold MatB
    rw [h1, h2]
    rfl
  · refine ⟨hb, ?_⟩
    unfold MatB
    rw [h1, h2, run_ld h1 hf]
    rfl
end Go.Proofs.Ytegkogadceodlaa.L

namespace Go.Proofs.Ytegkogadceodlaa.L
open Go.RowKit Go.Shelf Go.Lib

/-- A part of the marks. -/
def subM (ms : List Int) (a n : Nat) : List Int := (ms.drop a).take n
theorem subM_at (ms : List Int) (a n i : Nat) (h : i < n) : (subM ms a n)[i]? = ms[a + i]? := by
  unfold subM
  rw [List.getElem?_take, if_pos h, List.getElem?_drop]
theorem subM_len (ms : List Int) (a n : Nat) (h : a + n ≤ ms.length) : (subM ms a n).length = n := by
  unfold subM
  rw [List.length_take, List.length_drop]
  omega
/-- One way leads within a part as the other does within all. -/
def Sh (a n : Nat) (D E : Nat → Nat → Prop) : Prop := ∀ i j, j ≤ n → (D i j ↔ E (a + i) (a + j))
theorem TG.sh {a n : Nat} {D E : Nat → Nat → Prop} (h : Sh a n D E) (mD : Mo D) (mE : Mo E) : Sh a n (TG D) (TG E) := by
  intro i j hj
  constructor
  · intro t
    induction t with
    | one d => exact .one ((h _ _ hj).1 d)
    | more t d ih =>
      have := mD _ _ d
      exact .more (ih (by omega)) ((h _ _ hj).1 d)
  · intro t
    have key : ∀ x y, TG E x y → x = a + i → ∀ j, j ≤ n → y = a + j → TG D i j := by
      intro x y t
      induction t with
      | one d =>
        intro hx j hj hy
        subst hx hy
        exact .one ((h _ _ hj).2 d)
      | more t d ih =>
        rename_i m y
        intro hx j hj hy
        have h1 := TG.mo mE t
        have h2 := mE _ _ d
        obtain ⟨q, rfl⟩ : ∃ q, m = a + q := ⟨m - a, by omega⟩
        subst hy
        exact .more (ih hx q (by omega) rfl) ((h _ _ hj).2 d)
    exact key _ _ t rfl j hj rfl
mutual
theorem DE_sh (ms : List Int) (a n : Nat) : ∀ e, Sh a n (DE (subM ms a n) e) (DE ms e)
  | .mk k c ks => by
    intro i j hj
    by_cases h9 : k = 9
    · subst h9
      rw [DE_nine, DE_nine]
      omega
    · by_cases hl : ks = []
      · subst hl
        rw [DE_leaf h9, DE_leaf h9]
        constructor
        · rintro ⟨rfl, m, h1, h2⟩
          exact ⟨by omega, m, by rw [← subM_at ms a n i (by omega)]; exact h1, h2⟩
        · rintro ⟨h0, m, h1, h2⟩
          exact ⟨by omega, m, by rw [subM_at ms a n i (by omega)]; exact h1, h2⟩
      · have mA := altD_mono (subM ms a n) ks
        have mB := altD_mono ms ks
        by_cases h4 : k = 4
        · subst h4; rw [DE_seq hl, DE_seq hl]; exact seqD_sh ms a n ks i j hj
        · by_cases h6 : k = 6
          · subst h6
            rw [DE_star hl, DE_star hl, TG.sh (altD_sh ms a n ks) mA mB i j hj]
            constructor
            · rintro (e | t)
              · exact .inl (by omega)
              · exact .inr t
            · rintro (e | t)
              · exact .inl (by omega)
              · exact .inr t
          · by_cases h7 : k = 7
            · subst h7; rw [DE_plus hl, DE_plus hl]; exact TG.sh (altD_sh ms a n ks) mA mB i j hj
            · by_cases h8 : k = 8
              · subst h8
                rw [DE_maybe hl, DE_maybe hl, altD_sh ms a n ks i j hj]
                constructor
                · rintro (e | t)
                  · exact .inl (by omega)
                  · exact .inr t
                · rintro (e | t)
                  · exact .inl (by omega)
                  · exact .inr t
              · rw [DE_alt hl h9 h4 h6 h7 h8, DE_alt hl h9 h4 h6 h7 h8]; exact altD_sh ms a n ks i j hj
theorem seqD_sh (ms : List Int) (a n : Nat) : ∀ ks, Sh a n (DE.seqD (subM ms a n) ks) (DE.seqD ms ks)
  | [] => fun i j _ => by rw [seqD_nil, seqD_nil]; omega
  | e :: r => fun i j hj => by
    rw [seqD_cons, seqD_cons]
    constructor
    · rintro ⟨m, h1, h2⟩
      have := seqD_mono _ r m j h2
      exact ⟨a + m, (DE_sh ms a n e i m (by omega)).1 h1, (seqD_sh ms a n r m j hj).1 h2⟩
    · rintro ⟨m, h1, h2⟩
      have p1 := DE_mono _ e _ _ h1
      have p2 := seqD_mono _ r _ _ h2
      obtain ⟨q, rfl⟩ : ∃ q, m = a + q := ⟨m - a, by omega⟩
      exact ⟨q, (DE_sh ms a n e i q (by omega)).2 h1, (seqD_sh ms a n r q j hj).2 h2⟩
theorem altD_sh (ms : List Int) (a n : Nat) : ∀ ks, Sh a n (DE.altD (subM ms a n) ks) (DE.altD ms ks)
  | [] => fun i j _ => by rw [altD_nil, altD_nil]
  | e :: r => fun i j hj => by rw [altD_cons, altD_cons, DE_sh ms a n e i j hj, altD_sh ms a n r i j hj]
end
theorem ldB_sub {ms : List Int} {e : E} (hr : rightE e = true) {a n : Nat} (h : a + n ≤ ms.length) {i j : Nat} (hi : i ≤ n) (hj : j ≤ n) : ldB (subM ms a n) e i j = ldB ms e (a + i) (a + j) := by
  have h1 := ld_right (ms := subM ms a n) hr i j (by rw [subM_len ms a n h]; exact hi) (by rw [subM_len ms a n h]; exact hj)
  have h2 := ld_right (ms := ms) hr (a + i) (a + j) (by omega) (by omega)
  rw [Bool.eq_iff_iff, h1, h2]
  exact DE_sh ms a n e i j hj
theorem TG.far {D : Nat → Nat → Prop} {s : Nat} (h : ∀ i j, D i j → i + s ≤ j) {i j : Nat} (t : TG D i j) : i + s ≤ j := by
  induction t with
  | one d => exact h _ _ d
  | more t d ih => have := h _ _ d; omega
theorem sh_mk (k c : Int) (ks : List E) : shE (.mk k c ks) = if k = 6 ∨ k = 8 ∨ k = 9 then 0 else if k = 4 then shE.sum ks else if k = 5 ∨ k = 7 then shE.least ks else 1 := rfl
theorem lg_mk (k c : Int) (ks : List E) : lgE (.mk k c ks) = if k = 9 then 0 else if k = 4 then lgE.sum ks else if k = 5 ∨ k = 8 then lgE.most ks else 1 := rfl
theorem sh4 (c : Int) (ks : List E) : shE (.mk 4 c ks) = shE.sum ks := by simp [shE_eq, E.k, E.ks]
theorem sh5 (c : Int) (ks : List E) : shE (.mk 5 c ks) = shE.least ks := by simp [shE_eq, E.k, E.ks]
theorem sh6 (c : Int) (ks : List E) : shE (.mk 6 c ks) = 0 := by simp [shE_eq, E.k]
theorem sh7 (c : Int) (ks : List E) : shE (.mk 7 c ks) = shE.least ks := by simp [shE_eq, E.k, E.ks]
theorem sh8 (c : Int) (ks : List E) : shE (.mk 8 c ks) = 0 := by simp [shE_eq, E.k]
theorem sh9 (c : Int) (ks : List E) : shE (.mk 9 c ks) = 0 := by simp [shE_eq, E.k]
theorem sh0 (k c : Int) : shE (.mk k c []) ≤ 1 := by
  rw [sh_mk]
  by_cases h1 : k = 6 ∨ k = 8 ∨ k = 9
  · rw [if_pos h1]; omega
  · rw [if_neg h1]
    by_cases h2 : k = 4
    · rw [if_pos h2]; simp [shE.sum]
    · rw [if_neg h2]
      by_cases h3 : k = 5 ∨ k = 7
      · rw [if_pos h3]; simp [shE.least]
      · rw [if_neg h3]; exact Nat.le_refl _
mutual
theorem DE_far (ms : List Int) : ∀ e, goodE e = true → ∀ i j, DE ms e i j → i + shE e ≤ j
  | .mk k c ks => by
    intro hg i j h
    obtain ⟨g9, gs, ga⟩ := good_parts hg
    by_cases hl : ks = []
    · subst hl
      have hj := ((DE_leaf g9).1 h).1
      have := sh0 k c
      omega
    · by_cases h4 : k = 4
      · subst h4
        rw [sh4]
        exact seqD_far ms ks ga i j ((DE_seq hl).1 h)
      · by_cases h6 : k = 6
        · subst h6
          rw [sh6]
          exact DE_mono ms _ i j h
        · by_cases h7 : k = 7
          · subst h7
            rw [sh7]
            exact TG.far (altD_far ms ks ga) ((DE_plus hl).1 h)
          · by_cases h8 : k = 8
            · subst h8
              rw [sh8]
              exact DE_mono ms _ i j h
            · have ha := altD_far ms ks ga i j ((DE_alt hl g9 h4 h6 h7 h8).1 h)
              by_cases h5 : k = 5
              · subst h5
                rw [sh5]
                exact ha
              · exact absurd (List.eq_nil_of_length_eq_zero (shaped_leaf gs h4 h5 h6 h7 h8)) hl
theorem seqD_far (ms : List Int) : ∀ ks, goodE.all ks = true → ∀ i j, DE.seqD ms ks i j → i + shE.sum ks ≤ j
  | [] => fun _ i j h => by have := seqD_nil.1 h; simp [shE.sum]; omega
  | e :: r => fun hg i j h => by
    obtain ⟨g1, g2⟩ := all_cons hg
    obtain ⟨m, h1, h2⟩ := seqD_cons.1 h
    have := DE_far ms e g1 i m h1
    have := seqD_far ms r g2 m j h2
    simp only [shE.sum]
    omega
theorem altD_far (ms : List Int) : ∀ ks, goodE.all ks = true → ∀ i j, DE.altD ms ks i j → i + shE.least ks ≤ j
  | [] => fun _ i j h => (altD_nil.1 h).elim
  | [e] => fun hg i j h => by
    obtain ⟨g1, g2⟩ := all_cons hg
    simp only [shE.least]
    rcases altD_cons.1 h with h | h
    · exact DE_far ms e g1 i j h
    · exact (altD_nil.1 h).elim
  | e :: f :: r => fun hg i j h => by
    obtain ⟨g1, g2⟩ := all_cons hg
    simp only [shE.least]
    rcases altD_cons.1 h with h | h
    · have := DE_far ms e g1 i j h; omega
    · have := altD_far ms (f :: r) g2 i j h; omega
end
theorem none_cons {kinds : List Int} {e : E} {r : List E} (h : noneE.all kinds (e :: r) = true) : noneE kinds e = true ∧ noneE.all kinds r = true := by
  have : noneE.all kinds (e :: r) = (noneE kinds e && noneE.all kinds r) := rfl
  rw [this, Bool.and_eq_true] at h; exact h
mutual
theorem DE_near (ms : List Int) : ∀ e, goodE e = true → noneE [6, 7] e = true → ∀ i j, DE ms e i j → j ≤ i + lgE e
  | .mk k c ks => by
    intro hg hn i j h
    obtain ⟨g9, gs, ga⟩ := good_parts hg
    rw [noneE_eq] at hn
    simp only [E.k, E.ks, Bool.and_eq_true] at hn
    obtain ⟨n1, n2⟩ := hn
    have h6 : k ≠ 6 := by rintro rfl; simp at n1
    have h7 : k ≠ 7 := by rintro rfl; simp at n1
    rw [lg_mk]
    rw [if_neg g9]
    by_cases hl : ks = []
    · subst hl
      have hj := ((DE_leaf g9).1 h).1
      have h4 : k ≠ 4 := by
        rintro rfl
        simp [shapedK] at gs
      have h58 : ¬ (k = 5 ∨ k = 8) := by
        rintro (rfl | rfl) <;> simp [shapedK] at gs
      rw [if_neg h4, if_neg h58]
      omega
    · by_cases h4 : k = 4
      · subst h4
        rw [if_pos rfl]
        exact seqD_near ms ks ga n2 i j ((DE_seq hl).1 h)
      · rw [if_neg h4]
        by_cases h8 : k = 8
        · subst h8
          rw [if_pos (Or.inr rfl)]
          rcases (DE_maybe hl).1 h with e | t
          · omega
          · exact altD_near ms ks ga n2 i j t
        · have ha := altD_near ms ks ga n2 i j ((DE_alt hl g9 h4 h6 h7 h8).1 h)
          by_cases h5 : k = 5
          · subst h5
            rw [if_pos (Or.inl rfl)]
            exact ha
          · exact absurd (List.eq_nil_of_length_eq_zero (shaped_leaf gs h4 h5 h6 h7 h8)) hl
theorem seqD_near (ms : List Int) : ∀ ks, goodE.all ks = true → noneE.all [6, 7] ks = true → ∀ i j, DE.seqD ms ks i j → j ≤ i + lgE.sum ks
  | [] => fun _ _ i j h => by have := seqD_nil.1 h; simp [lgE.sum]; omega
  | e :: r => fun hg hn i j h => by
    obtain ⟨g1, g2⟩ := all_cons hg
    obtain ⟨n1, n2⟩ := none_cons hn
    obtain ⟨m, h1, h2⟩ := seqD_cons.1 h
    have := DE_near ms e g1 n1 i m h1
    have := seqD_near ms r g2 n2 m j h2
    simp only [lgE.sum]
    omega
theorem altD_near (ms : List Int) : ∀ ks, goodE.all ks = true → noneE.all [6, 7] ks = true → ∀ i j, DE.altD ms ks i j → j ≤ i + lgE.most ks
  | [] => fun _ _ i j h => (altD_nil.1 h).elim
  | e :: r => fun hg hn i j h => by
    obtain ⟨g1, g2⟩ := all_cons hg
    obtain ⟨n1, n2⟩ := none_cons hn
    simp only [lgE.most]
    rcases altD_cons.1 h with h | h
    · have := DE_near ms e g1 n1 i j h; omega
    · have := altD_near ms r g2 n2 i j h; omega
end
/-- How far what is right may lead. -/
theorem ld_bounds {ms : List Int} {e : E} (hr : rightE e = true) {i j : Nat} (hi : i ≤ ms.length) (hj : j ≤ ms.length) (h : ldB ms e i j = true) : i ≤ j ∧ i + shortR e ≤ j ∧ ((longR e).1 = true → j ≤ i + (longR e).2) := by
  have hd := (ld_right (ms := ms) hr i j hi hj).1 h
  have hm := DE_mono ms e i j hd
  unfold shortR longR
  rw [if_pos hr]
  by_cases h9 : e.k = 9
  · obtain ⟨k, c, ks⟩ := e
    simp only [E.k] at h9
    subst h9
    have := DE_nine.1 hd
    refine ⟨hm, by rw [sh9]; omega, fun _ => by omega⟩
  · rw [rightE_good h9, Bool.and_eq_true] at hr
    refine ⟨hm, DE_far ms e hr.1 i j hd, fun hl => ?_⟩
    by_cases hn : noneE [6, 7] e = true
    · have := DE_near ms e hr.1 hn i j hd
      rw [rightE_good h9, hr.1, hr.2, hn]
      simpa using this
    · simp only [Bool.not_eq_true] at hn
      rw [hn, Bool.and_false] at hl
      simp at hl
end Go.Proofs.Ytegkogadceodlaa.L

namespace Go.Proofs.Ytegkogadceodlaa.L
open Go.RowKit Go.Shelf Go.Lib Go.Sort

theorem matB_con : MatCon MatB := fun e v ms A c w h hz hI => (matches_ld e v ms A c w h hz hI).mono fun _ _ hm => ⟨hm.2, hm.1⟩
/-- What the tables say of a place. -/
def aheadB (way : List Int) (e : E) (P : Nat) : Bool := (List.range (P + 1)).any fun k => ldB way e k P
def behB (way : List Int) (e : E) (P : Nat) : Bool := (List.range' P (way.length + 1 - P)).any fun k => ldB way e P k
def refF (way : List Int) (P : Nat) (x : Ru) : Bool := aheadB way x.l P && behB way x.r P
theorem take_drop_sub (ms : List Int) (P k : Nat) (h : k ≤ P) : (ms.take P).drop (P - k) = subM ms (P - k) k := by
  unfold subM
  rw [List.drop_take]
  congr 1
  omega
theorem clo_ahead {way : List Int} {e : E} (hr : rightE e = true) {P : Nat} (hP : P ≤ way.length) : cloF MatB e (way.take P) = aheadB way e P := by
  have hl : (way.take P).length = P := by rw [List.length_take]; omega
  have eq : ∀ k, k ≤ P → MatB e ((way.take P).drop (P - k)) = ldB way e (P - k) P := fun k hk => by
    rw [take_drop_sub way P k hk]
    unfold MatB
    rw [hr, Bool.true_and, subM_len way _ _ (by omega), ldB_sub hr (by omega) (Nat.zero_le _) (Nat.le_refl _)]
    congr 1
    omega
  unfold cloF
  rw [hl, Bool.eq_iff_iff]
  constructor
  · intro h
    unfold srchF at h
    rw [List.any_eq_true] at h
    obtain ⟨k, hk, h⟩ := h
    rw [List.mem_range'_1] at hk
    have := lim_le e P
    have hkP : k ≤ P := by omega
    rw [eq k hkP] at h
    unfold aheadB
    rw [List.any_eq_true]
    exact ⟨P - k, List.mem_range.2 (by omega), h⟩
  · intro h
    unfold aheadB at h
    rw [List.any_eq_true] at h
    obtain ⟨q, hq, h⟩ := h
    have hq := List.mem_range.1 hq
    obtain ⟨b1, b2, b3⟩ := ld_bounds hr (by omega) hP h
    refine srch_true (k := P - q) (by omega) ?_ ?_
    · unfold limR
      split
      · rename_i hlo
        have := b3 hlo
        omega
      · omega
    · rw [eq (P - q) (by omega), show P - (P - q) = q by omega]
      exact h
theorem beg_behind {way : List Int} {e : E} (hr : rightE e = true) {P : Nat} (hP : P ≤ way.length) : begF MatB e (way.drop P) = behB way e P := by
  have hl : (way.drop P).length = way.length - P := by rw [List.length_drop]
  have eq : ∀ k, k ≤ way.length - P → MatB e ((way.drop P).take k) = ldB way e P (P + k) := fun k hk => by
    have : (way.drop P).take k = subM way P k := rfl
    rw [this]
    unfold MatB
    rw [hr, Bool.true_and, subM_len way _ _ (by omega), ldB_sub hr (by omega) (Nat.zero_le _) (Nat.le_refl _)]
    rfl
  unfold begF
  rw [hl, Bool.eq_iff_iff]
  constructor
  · intro h
    unfold srchF at h
    rw [List.any_eq_true] at h
    obtain ⟨k, hk, h⟩ := h
    rw [List.mem_range'_1] at hk
    have := lim_le e (way.length - P)
    have hkP : k ≤ way.length - P := by omega
    rw [eq k hkP] at h
    unfold behB
    rw [List.any_eq_true]
    exact ⟨P + k, by rw [List.mem_range'_1]; omega, h⟩
  · intro h
    unfold behB at h
    rw [List.any_eq_true] at h
    obtain ⟨q, hq, h⟩ := h
    rw [List.mem_range'_1] at hq
    obtain ⟨b1, b2, b3⟩ := ld_bounds hr hP (by omega) h
    refine srch_true (k := q - P) (by omega) ?_ ?_
    · unfold limR
      split
      · rename_i hlo
        have := b3 hlo
        omega
      · omega
    · rw [eq (q - P) (by omega), show P + (q - P) = q by omega]
      exact h
theorem rule_ref {x : Ru} (hx : rightR x = true) {way : List Int} {P : Nat} (hP : P ≤ way.length) : ruleF MatB x (way.take P) (way.drop P) = refF way P x := by
  unfold rightR at hx
  simp only [Bool.and_eq_true] at hx
  unfold ruleF refF
  rw [clo_ahead hx.1 hP, beg_behind hx.2.1 hP, Bool.and_comm]
theorem whF_congr {p q : Ru → Bool} : ∀ (rs : List Ru) (i : Nat), (∀ x ∈ rs, p x = q x) → whF p rs i = whF q rs i
  | [], _, _ => rfl
  | x :: r, i, h => by
    unfold whF
    rw [h x (List.mem_cons_self ..), whF_congr r (i + 1) (fun y hy => h y (List.mem_cons_of_mem _ hy))]
/-- What the document's list says of a place; -2: it is hidden. -/
def refAt (t : Tx) (ids : List Int) (i : Nat) : Int :=
  if (rdF t.ig t.kp ids).1[i]? = some true then -2 else whF (refF (rdF t.ig t.kp ids).2.1 (((rdF t.ig t.kp ids).2.2[i]?).getD 0).toNat) t.rs 0
def refWhich (t : Tx) (ids : List Int) : List Int := (List.range ids.length).map (refAt t ids)
theorem refWhich_at (t : Tx) (ids : List Int) {i : Nat} (h : i < ids.length) : (refWhich t ids)[i]? = some (refAt t ids i) := by
  unfold refWhich
  rw [List.getElem?_map, List.getElem?_range h]
  rfl
theorem refWhich_len (t : Tx) (ids : List Int) : (refWhich t ids).length = ids.length := by simp [refWhich]
/-- Both say the same rule. -/
theorem which_ref {t : Tx} (ht : ∀ x ∈ t.rs, rightR x = true) (ids : List Int) {i : Nat} (h0 : 0 < i) (hi : i < ids.length) : whichR MatB t ids (i : Int) = max (refAt t ids i) (-1) := by
  have rI := rdI t.ig t.kp ids
  obtain ⟨hd, hhd⟩ : ∃ h, (rdF t.ig t.kp ids).1[i]? = some h := ⟨_, List.getElem?_eq_getElem (by rw [rI.h]; exact hi)⟩
  unfold refAt
  cases hd with
  | true =>
    rw [if_pos hhd, whichR_no _ _ _ (by rw [Int.toNat_natCast, hhd]; simp)]
    omega
  | false =>
    obtain ⟨P, hP, p1, p2, p3⟩ := rI.a i false hhd
    rw [if_neg (by rw [hhd]; simp), whichR_at MatB t ids h0 hhd hP, hP]
    simp only [Option.getD_some, Int.toNat_natCast]
    rw [whF_congr t.rs 0 (fun x hx => rule_ref (ht x hx) (by omega : P ≤ (rdF t.ig t.kp ids).2.1.length))]
    rcases whF_rng (refF (rdF t.ig t.kp ids).2.1 P) t.rs 0 with h | ⟨k, x, _, h, _⟩
    · rw [h]; rfl
    · rw [h]; omega
theorem known_right (t : Tx) : ∀ x ∈ (knownT t).rs, rightR x = true := by
  unfold knownT
  split
  · rename_i h
    unfold rightT at h
    simp only [Bool.and_eq_true] at h
    exact List.all_eq_true.1 h.2.2.2
  · intro x hx
    simp at hx
end Go.Proofs.Ytegkogadceodlaa.L

namespace Go.Proofs.Ytegkogadceodlaa.L
open Go.RowKit Go.Shelf Go.Lib Go.Sort Go.Maps

set_option maxRecDepth 100000 in
theorem make_ints (n : Nat) (hn : n ≤ 100000) (w : World) : (Instr.makeSlice 25 (.int .i64 (n : Int)) (.int .i64 (n : Int))).run Try.prog w = .ok (.slice (some ⟨w.heap.size, 0, none⟩) n n) (w.alloc (.cells (arr n fun _ => .int .i64 0) 3)) := by
  obtain ⟨i, hi, hz, hsize, hby⟩ : ∃ i, Try.prog.info? 3 = some i ∧ i.zero = some (.int .i64 0) ∧ i.size = 1 ∧ i.bytes = 8 := ⟨_, rfl, rfl, rfl, rfl⟩
  have := run_make (P := Try.prog) w 25 3 i _ Try.underlying25 hi hz .i64 .i64 (n : Int) (n : Int) (by omega) (by omega) (by rw [hby]; omega) (by omega)
  rw [hsize] at this
  rw [this, ← made_arr]
  simp [Value.cells]
section
variable (t : Tx) (ids : List Int)
def hfR (j : Nat) : Option Bool := (rdF t.ig t.kp ids).1[j]?
def pfR (j : Nat) : Int := ((rdF t.ig t.kp ids).2.2[j]?).getD 0
def atV (k j : Nat) : Value := .int .i64 (if j < k ∧ hfR t ids j = some false then pfR t ids j else 0)
def ouV (k j : Nat) : Value := .int .i64 (if j < k then (if hfR t ids j = some true then -2 else -1) else 0)
def ruZ (R j : Nat) : Int := if hfR t ids j = some true then -2 else whF (refF (rdF t.ig t.kp ids).2.1 (pfR t ids j).toNat) (t.rs.drop R) R
def ruV (R j : Nat) : Value := .int .i64 (ruZ t ids R j)
theorem ru_all (j : Nat) : ruZ t ids 0 j = refAt t ids j := rfl
theorem ru_start {j : Nat} (hj : j < ids.length) : ouV t ids ids.length j = ruV t ids t.rs.length j := by
  unfold ouV ruV ruZ
  rw [if_pos hj, List.drop_length]
  rfl
theorem ru_hid {R j : Nat} (h : hfR t ids j = some true) : ruZ t ids R j = -2 := by
  unfold ruZ
  rw [if_pos h]
theorem ru_step {R j : Nat} {x : Ru} (hx : t.rs[R]? = some x) (h : hfR t ids j = some false) : ruZ t ids R j = if refF (rdF t.ig t.kp ids).2.1 (pfR t ids j).toNat x then (R : Int) else ruZ t ids (R + 1) j := by
  have hl := (List.getElem?_eq_some_iff.1 hx).1
  have hg : t.rs[R] = x := (List.getElem?_eq_some_iff.1 hx).2
  have hne : ¬ (hfR t ids j = some true) := by rw [h]; simp
  unfold ruZ
  simp only [if_neg hne]
  rw [List.drop_eq_getElem_cons hl, hg]
  rfl
theorem at_next (k j : Nat) : atV t ids (k + 1) j = if j = k ∧ hfR t ids k = some false then .int .i64 (pfR t ids k) else atV t ids k j := by
  unfold atV
  by_cases e : j = k
  · subst e
    by_cases hh : hfR t ids j = some false <;> simp [hh]
  · by_cases hh : hfR t ids j = some false
    · by_cases hj : j < k
      · simp [hh, e, hj, show j < k + 1 by omega]
      · simp [hh, e, hj, show ¬ j < k + 1 by omega]
    · simp [hh, e]
theorem ou_next (k j : Nat) : ouV t ids (k + 1) j = if j = k then .int .i64 (if hfR t ids k = some true then -2 else -1) else ouV t ids k j := by
  unfold ouV
  by_cases e : j = k
  · subst e
    rw [if_pos rfl, if_pos (by omega)]
  · rw [if_neg e]
    by_cases hh : j < k
    · rw [if_pos hh, if_pos (by omega)]
    · rw [if_neg hh, if_neg (by omega)]
end
theorem arr_cell {w : World} {b t n : Nat} {f : Nat → Value} (h : Cells w b t (arr n f)) {i : Nat} (hi : i < n) : w.cell? ⟨b, i, none⟩ = some (f i) := (h.cell i).trans (arr_get f hi)
theorem arr_to {w : World} {b t n : Nat} {f g : Nat → Value} (h : Cells w b t (arr n f)) (hg : ∀ i, i < n → f i = g i) : Cells w b t (arr n g) := by rw [← arr_congr hg]; exact h

theorem way_next (ig kp ids : List Int) {k : Nat} {id : Int} {hd : Bool} (hid : ids[k]? = some id) (hh : (rdF ig kp ids).1[k]? = some hd) :
    (rdF ig kp (ids.take (k + 1))).2.1 = (if hd = true then (rdF ig kp (ids.take k)).2.1 else (rdF ig kp (ids.take k)).2.1 ++ [clsI id]) ∧ (rdF ig kp ids).2.2[k]? = some (((rdF ig kp (ids.take k)).2.1.length : Nat) : Int) := by
  obtain ⟨e1, e2⟩ := rdF_at ig kp ids hid
  refine ⟨?_, e2⟩
  have hk := (List.getElem?_eq_some_iff.1 hid).1
  have hl : (ids.take k).length = k := by simp; omega
  have r := rdI ig kp (ids.take k)
  rw [hh] at e1
  injection e1 with e1
  rw [rdF_take ig kp ids k id hid]
  unfold rdS
  dsimp only
  rw [r.h, hl, ← e1]
theorem iL_snoc2 (l : List Int) (b : Int) : iL (l ++ [b]) = iL l ++ [.int .i64 b] := by simp [iL]

theorem way_64 (ig kp : List Int) : ∀ (ids : List Int) (s : List Bool × List Int × List Int), (∀ z ∈ s.2.1, i64 z) → ∀ z ∈ (ids.foldl (rdS ig kp) s).2.1, i64 z
  | [], _, h => h
  | id :: r, s, h => by
    rw [List.foldl_cons]
    refine way_64 ig kp r _ ?_
    intro z hz
    unfold rdS at hz
    dsimp only at hz
    split at hz
    · exact h z hz
    · rcases List.mem_append.1 hz with hz | hz
      · exact h z hz
      · simp at hz
        subst hz
        exact clsI_64 id
theorem is_fz {X : Nat → Prop} {w w' : World} {xs : List Int} {A : Option Addr} {c : Nat} (hf : Fz X w w') (h : IS w w.heap.size xs A c) (hX : ∀ b o, A = some ⟨b, o, none⟩ → ¬ X b) : IS w' w'.heap.size xs A c :=
  ⟨h.l, h.m, h.i, fun hne => by
    obtain ⟨b, o, e, hl, hr⟩ := h.r hne
    refine ⟨b, o, e, Nat.lt_of_lt_of_le hl hf.size, fun i x hx => ?_⟩
    exact (World.cell?_of_block (a := ⟨b, o + i, none⟩) (hf.block b hl (hX b o e))).trans (hr i x hx)⟩
theorem below_on5 {w W W' : World} (h1 : Below w.heap.size w W) (h2 : Below W.heap.size W W') : Below w.heap.size w W' := h1.trans (h2.mono h1.size)
theorem any_succ (f : Nat → Bool) (k : Nat) : (List.range (k + 1)).any f = ((List.range k).any f || f k) := by
  rw [List.range_succ, List.any_append]
  simp
theorem any_succ' (f : Nat → Bool) (P k : Nat) (h : P ≤ k) : (List.range' P (k + 1 - P)).any f = ((List.range' P (k - P)).any f || f k) := by
  rw [show k + 1 - P = k - P + 1 by omega, List.range'_concat, List.any_append, show P + 1 * (k - P) = k by omega]
  simp

theorem tbB_fz {w w' : World} {K b bo n : Nat} {f : Nat → Nat → Bool} {g : Nat → Value} (hf : Fz (fun z => z = bo) w w') (h : TbB w K f b) (hc : Cells w bo 3 (arr n g)) (hg : ∀ i, ∃ z, g i = .int .i64 z) (hn : 0 < n) (hK : 0 < K) : TbB w' K f b := by
  have g0 := arr_cell hc hn
  obtain ⟨z0, hz0⟩ := hg 0
  rw [hz0] at g0
  have hb : b ≠ bo := by
    rintro rfl
    obtain ⟨r, h1, _⟩ := h.r 0 hK
    rw [g0] at h1
    cases h1
  refine ⟨Nat.lt_of_lt_of_le h.lt hf.size, fun i hi => ?_⟩
  obtain ⟨r, h1, h2, h3⟩ := h.r i hi
  have hr : r ≠ bo := by
    rintro rfl
    have := h3 0 hK
    rw [g0] at this
    cases this
  exact ⟨r, (World.cell?_of_block (a := ⟨b, i, none⟩) (hf.block b h.lt hb)).trans h1, Nat.lt_of_lt_of_le h2 hf.size, fun j hj => (World.cell?_of_block (a := ⟨r, j, none⟩) (hf.block r h2 hr)).trans (h3 j hj)⟩

set_option maxRecDepth 100000 in
set_option maxHeartbeats 16000000 in
theorem rwhich_any (t : Tx) (v : Value) (ids : List Int) (A : Option Addr) (cap : Nat) (w : World) (h : TxV w w.heap.size t v) (hi : IS w w.heap.size ids A cap) (hn : ids.length ≤ 300) (hm : t.rs.length ≤ 1000) (hz : ∀ x ∈ t.rs, szE x.l ≤ 100000 ∧ szE x.r ≤ 100000) :
    Calls Try.prog 32 #[v, .slice A ids.length cap] w fun e w' => ∃ A' c', e = .returned (.slice A' ids.length c') ∧ IS w' w'.heap.size (refWhich t ids) A' c' ∧ Below w.heap.size w w' := by
  have h' := h
  obtain ⟨A1, c1, A2, c2, A3, c3, rfl, h1, h2, h3⟩ := h'
  obtain ⟨n, hN⟩ : ∃ n, ids.length = n := ⟨_, rfl⟩
  obtain ⟨m, hM⟩ : ∃ m, t.rs.length = m := ⟨_, rfl⟩
  obtain ⟨W0, hW0⟩ : ∃ W0, w.alloc (.cells #[.slice A1 t.ig.length c1, .slice A2 t.kp.length c2, .slice A3 t.rs.length c3] 50) = W0 := ⟨_, rfl⟩
  have hb0 : Below w.heap.size w W0 := by rw [← hW0]; exact below_new _ _
  have x0 : Cells W0 w.heap.size 50 #[.slice A1 t.ig.length c1, .slice A2 t.kp.length c2, .slice A3 t.rs.length c3] := by rw [← hW0]; exact cells_new _ _ _
  have CH := refHidden_any t _ ids A cap W0 (h.on hb0) (hi.on hb0) (by omega)
  have rI := rdI t.ig t.kp ids
  rw [hN] at CH hn rI ⊢
  rw [hM] at hm x0 CH hW0 ⊢
  have HW := Lib.hid hW0
  have HH := Lib.hid (And.intro h3 (And.intro hi (And.intro hN (And.intro hM (And.intro hb0 (And.intro x0 (And.intro hz rI)))))))
  clear h h1 h2 h3 hi hN hM hW0 hb0 x0 hz rI
  go_enter Try.func32, Try.ntmps32
  go_wp2_with fail
  rw [HW.out]
  refine CH.mono ?_
  rintro r w1 ⟨Ah, ch, rfl, hbs, b1⟩
  clear CH
  have hbw := HH.out.2.2.2.2.1.trans (b1.mono HH.out.2.2.2.2.1.size)
  have x1 := HH.out.2.2.2.2.2.1.on b1
  obtain ⟨W2, hW2⟩ : ∃ V, w1.alloc (.cells #[.int .i64 36] 3) = V := ⟨_, rfl⟩
  obtain ⟨W3, hW3⟩ : ∃ V, W2.alloc (.cells (arr n fun _ => .int .i64 0) 3) = V := ⟨_, rfl⟩
  obtain ⟨W4, hW4⟩ : ∃ V, W3.alloc (.cells (arr n fun _ => .int .i64 0) 3) = V := ⟨_, rfl⟩
  have z2 : W2.heap.size = w1.heap.size + 1 := by rw [← hW2]; simp
  have z3 : W3.heap.size = w1.heap.size + 1 + 1 := by rw [← hW3]; simp [z2]
  have k2 : Below w1.heap.size w1 W2 := by rw [← hW2]; exact below_new _ _
  have k3 : Below W2.heap.size W2 W3 := by rw [← hW3]; exact below_new _ _
  have k4 : Below W3.heap.size W3 W4 := by rw [← hW4]; exact below_new _ _
  have o2 : W2.ownsRow w1.heap.size 3 1 (.slice (some ⟨w1.heap.size, 0, none⟩) 1 1) 1 (iL [36]) := by
    rw [← hW2]
    exact ⟨rfl, .inr ⟨_, 1, _, rfl, Nat.le_refl _, cells_new w1 #[.int .i64 36] 3, Nat.le_refl _, by unfold maxLen; omega, rfl, rfl⟩⟩
  have y3 : Cells W3 (w1.heap.size + 1) 3 (arr n fun _ => .int .i64 0) := by rw [← hW3, ← z2]; exact cells_new _ _ _
  have y4 : Cells W4 (w1.heap.size + 1 + 1) 3 (arr n fun _ => .int .i64 0) := by rw [← hW4, ← z3]; exact cells_new _ _ _
  have m3 := make_ints n (by omega) W2
  have m4 := make_ints n (by omega) W3
  rw [hW3] at m3
  rw [hW4] at m4
  rw [z2, ← hW2] at m3
  rw [z3] at m4
  have o4 := ownsRow_below (ownsRow_below o2 k3) k4
  have b24 : Below w1.heap.size w1 W4 := k2.trans ((k3.mono k2.size).trans (k4.mono (by have := k2.size; have := k3.size; omega)))
  have H4 := Lib.hid (And.intro hbw (And.intro hbs (And.intro x1 (And.intro o4 (And.intro (y3.on k4) (And.intro y4 b24))))))
  clear hbw hbs x1 z2 z3 k2 k3 k4 o2 o4 y3 y4 b24 b1 hW2 hW3 hW4
  go_wp2_with fail
  go_loopw [6, 9] (fun u6 u9 wr => ∃ k : Nat, u9 = .int .i64 (k : Int) ∧ k ≤ n ∧ wr.ownsRow w1.heap.size 3 1 u6 (rdF t.ig t.kp (ids.take k)).2.1.length (iL (rdF t.ig t.kp (ids.take k)).2.1) ∧ (∀ j, u6.ownBlock = some j → j ≠ w1.heap.size + 1 ∧ j ≠ w1.heap.size + 1 + 1) ∧
      Cells wr (w1.heap.size + 1) 3 (arr n (atV t ids k)) ∧ Cells wr (w1.heap.size + 1 + 1) 3 (arr n (ouV t ids k)) ∧ Below w1.heap.size w1 wr) (fun _ u9 _ => n - (RowKit.intOf u9).toNat)
  case atStart =>
    refine ⟨0, rfl, Nat.zero_le _, H4.out.2.2.2.1, fun j hj => by simp [Value.ownBlock] at hj; omega, arr_to H4.out.2.2.2.2.1 fun i _ => ?_, arr_to H4.out.2.2.2.2.2.1 fun i _ => ?_, H4.out.2.2.2.2.2.2⟩
    · simp [atV]
    · simp [ouV]
  case round =>
    obtain ⟨k, rfl, hk, o6, hap, ca, co, hb⟩ := hrel
    obtain ⟨LK, hLK⟩ : ∃ q, (rdF t.ig t.kp (ids.take k)).2.1 = q := ⟨_, rfl⟩
    rw [hLK] at o6
    obtain ⟨NK, hNK⟩ : ∃ q, LK.length = q := ⟨_, rfl⟩
    rw [hNK] at o6
    obtain ⟨A6, c6, rfl⟩ := own_formN o6
    have hsz := hb.size
    have ika : (k : Int) ≤ 100000 := by omega
    have xw := H4.out.2.2.1.on hb
    by_cases hlt : k < n
    case pos =>
      have i1 : (k : Int) < (n : Int) := by omega
      obtain ⟨id, hid⟩ : ∃ id, ids[k]? = some id := ⟨_, List.getElem?_eq_getElem (by rw [HH.out.2.2.1]; exact hlt)⟩
      obtain ⟨hd, hhd⟩ : ∃ h, (rdF t.ig t.kp ids).1[k]? = some h := ⟨_, List.getElem?_eq_getElem (by rw [HH.out.2.2.2.2.2.2.2.h]; exact hlt)⟩
      obtain ⟨e3, e2⟩ := way_next t.ig t.kp ids hid hhd
      obtain ⟨bh, oh, rfl, hbl, hr⟩ := (H4.out.2.1.below hb).r (by intro e; rw [e] at hhd; simp at hhd)
      have ch := hr k hd hhd
      obtain ⟨bi, oi, rfl, hil, hri⟩ := (HH.out.2.1.below ((H4.out.1.trans (hb.mono H4.out.1.size)))).r (by intro e; rw [e] at hid; simp at hid)
      have ci := hri k id hid
      rw [hLK, hNK] at e2
      rw [hLK] at e3
      have nb1 : ¬ bh = w1.heap.size + 1 + 1 := by omega
      have nb2 : ¬ bi = w1.heap.size + 1 + 1 := by have := hsz; have := H4.out.1.size; omega
      have nb3 : ¬ bi = w1.heap.size + 1 := by have := hsz; have := H4.out.1.size; omega
      have co1 := co.set k (.int .i64 (-1))
      rw [arr_set] at co1
      have cell0 := arr_cell co hlt
      have fro0 := co.froz k
      cases hd with
      | true =>
        rw [if_pos rfl] at e3
        have co2 := co1.set k (.int .i64 (-2))
        rw [arr_set] at co2
        have hX : hfR t ids k = some true := hhd
        have fz := (Fz.set (X := fun b => b = w1.heap.size + 1 + 1) wr (w1.heap.size + 1 + 1) k (.int .i64 (-1)) rfl).trans (Fz.set _ (w1.heap.size + 1 + 1) k (.int .i64 (-2)) rfl)
        have hend : ∃ q : Nat, q = k + 1 ∧ ((wr.setCell ⟨w1.heap.size + 1 + 1, k, none⟩ (.int .i64 (-1))).setCell ⟨w1.heap.size + 1 + 1, k, none⟩ (.int .i64 (-2))).ownsRow w1.heap.size 3 1 (.slice A6 NK c6) (rdF t.ig t.kp (ids.take q)).2.1.length (iL (rdF t.ig t.kp (ids.take q)).2.1) ∧ (∀ j, (Value.slice A6 NK c6).ownBlock = some j → j ≠ w1.heap.size + 1 ∧ j ≠ w1.heap.size + 1 + 1) ∧ Cells ((wr.setCell ⟨w1.heap.size + 1 + 1, k, none⟩ (.int .i64 (-1))).setCell ⟨w1.heap.size + 1 + 1, k, none⟩ (.int .i64 (-2))) (w1.heap.size + 1) 3 (arr n (atV t ids q)) ∧ Cells ((wr.setCell ⟨w1.heap.size + 1 + 1, k, none⟩ (.int .i64 (-1))).setCell ⟨w1.heap.size + 1 + 1, k, none⟩ (.int .i64 (-2))) (w1.heap.size + 1 + 1) 3 (arr n (ouV t ids q)) ∧ Below w1.heap.size w1 ((wr.setCell ⟨w1.heap.size + 1 + 1, k, none⟩ (.int .i64 (-1))).setCell ⟨w1.heap.size + 1 + 1, k, none⟩ (.int .i64 (-2))) := by
          refine ⟨k + 1, rfl, by rw [e3, hNK]; exact own_fz o6 fz (fun j hj e => (hap j hj).2 e), hap, arr_to (fz.cells (by omega) ca) fun i _ => ?_, arr_to co2 fun i _ => ?_, hb.trans (fz.below (by omega) (fun b hb' e => by omega))⟩
          · rw [at_next, if_neg (fun h => by rw [hX] at h; simp at h)]
          · rw [ou_next, hX]
            by_cases e : i = k
            · rw [if_pos e, if_pos e, if_pos rfl]
            · rw [if_neg e, if_neg e, if_neg e]
        have HE := Lib.hid hend
        clear hend co1 co2 fz o6 hap ca co hb xw hid hhd e2 e3 hr hri hX hLK hNK
        go_wp2_with fail
        go_roundw
        case rel => obtain ⟨q, rfl, hq⟩ := HE.out; exact ⟨k + 1, by go_num, by omega, hq⟩
        case measure => simp [RowKit.intOf]; omega
      | false =>
        rw [if_neg (by simp)] at e3
        have hX : hfR t ids k = some false := hhd
        have hP : pfR t ids k = (NK : Int) := by unfold pfR; rw [e2]; rfl
        have cell1 := arr_cell ca hlt
        have fro1 := ca.froz k
        have fz1 := Fz.set (X := fun b => b = w1.heap.size + 1 + 1) wr (w1.heap.size + 1 + 1) k (.int .i64 (-1)) rfl
        have fz2 := Fz.set (X := fun b => b = w1.heap.size + 1) (wr.setCell ⟨w1.heap.size + 1 + 1, k, none⟩ (.int .i64 (-1))) (w1.heap.size + 1) k (.int .i64 (NK : Int)) rfl
        have ca2 := (fz1.cells (show ¬ w1.heap.size + 1 = w1.heap.size + 1 + 1 by omega) ca).set k (.int .i64 (NK : Int))
        rw [arr_set] at ca2
        have co2 := fz2.cells (show ¬ w1.heap.size + 1 + 1 = w1.heap.size + 1 by omega) co1
        have o7 := own_fz (own_fz o6 fz1 (fun j hj e => (hap j hj).2 e)) fz2 (fun j hj e => (hap j hj).1 e)
        have hb7 := (hb.trans (fz1.below (by omega) (fun b hb' e => by omega))).trans (fz2.below (by simp [World.setCell]; omega) (fun b hb' e => by omega))
        have NKb : NK ≤ 1000 := by rw [← hNK, ← hLK]; have := (rdI t.ig t.kp (ids.take k)).b; rw [List.length_take] at this; omega
        have HQ := Lib.hid (And.intro ca2 (And.intro co2 (And.intro o7 (And.intro hb7 (And.intro hap (And.intro e3 (And.intro hX (And.intro hP (And.intro hLK hNK)))))))))
        clear ca2 co2 o7 hb7 fz1 fz2 hap e3 e2 hX hP hLK hNK co1 o6 ca co hb xw hid hhd hr hri
        go_wp2_with fail
        obtain ⟨V, hV⟩ : ∃ V, (wr.setCell ⟨w1.heap.size + 1 + 1, k, none⟩ (.int .i64 (-1))).setCell ⟨w1.heap.size + 1, k, none⟩ (.int .i64 (NK : Int)) = V := ⟨_, rfl⟩
        rw [hV]
        rw [hV] at HQ
        clear hV cell0 fro0 cell1 fro1 ch ci
        refine (refClass_any id V).mono ?_
        rintro e w5 ⟨rfl, rfl⟩
        have bV : w1.heap.size ≤ w5.heap.size := HQ.out.2.2.2.1.size
        go_wp2_with (at_builtin; refine wpList_app1 Try.underlying25 info3 (by omega) rfl (.tmp 49) (.tmp 55) rfl w1.heap.size _ NK (iL LK) (.int .i64 (clsI id)) rfl rfl w5 HQ.out.2.2.1 rfl rfl (by omega) (by omega) ?_)
        intro g cp w7 ho7 hg7 hn7 hl7
        have hap := HQ.out.2.2.2.2.1
        have hbo := HQ.out.2.1.lt
        have hba := HQ.out.1.lt
        have hend : ∃ q : Nat, q = k + 1 ∧ w7.ownsRow w1.heap.size 3 1 (.slice (some ⟨g, 0, none⟩) (NK + 1) cp) (rdF t.ig t.kp (ids.take q)).2.1.length (iL (rdF t.ig t.kp (ids.take q)).2.1) ∧ (∀ j, (Value.slice (some ⟨g, 0, none⟩) (NK + 1) cp).ownBlock = some j → j ≠ w1.heap.size + 1 ∧ j ≠ w1.heap.size + 1 + 1) ∧ Cells w7 (w1.heap.size + 1) 3 (arr n (atV t ids q)) ∧ Cells w7 (w1.heap.size + 1 + 1) 3 (arr n (ouV t ids q)) ∧ Below w1.heap.size w1 w7 := by
          refine ⟨k + 1, rfl, ?_, fun j hj => ?_, arr_to ((hg7.block _ hba (fun e => (hap _ e.symm).1 rfl)).trans HQ.out.1) fun i _ => ?_, arr_to ((hg7.block _ hbo (fun e => (hap _ e.symm).2 rfl)).trans HQ.out.2.1) fun i _ => ?_, HQ.out.2.2.2.1.trans ⟨hg7.os, hg7.tape, hg7.output, hg7.size, fun b hb' => hg7.block b (by omega) (fun e => by have := (own_block_lt HQ.out.2.2.1 b e.symm).1; omega)⟩⟩
          · rw [HQ.out.2.2.2.2.2.1, iL_snoc2, List.length_append, HQ.out.2.2.2.2.2.2.2.2.2]
            exact ho7
          · simp [Value.ownBlock] at hj
            subst hj
            rcases hn7 with h | h
            · exact hap _ h
            · omega
          · rw [at_next, HQ.out.2.2.2.2.2.2.2.1]
            by_cases e : i = k
            · rw [if_pos e, if_pos ⟨e, HQ.out.2.2.2.2.2.2.1⟩]
            · rw [if_neg e, if_neg (fun h => e h.1)]
          · rw [ou_next, HQ.out.2.2.2.2.2.2.1]
            by_cases e : i = k
            · rw [if_pos e, if_pos e, if_neg (by simp)]
            · rw [if_neg e, if_neg e]
        have HE := Lib.hid hend
        clear hend hap hbo hba ho7 hg7 hn7 hl7
        go_wp2_with fail
        go_roundw
        case rel => obtain ⟨q, rfl, hq⟩ := HE.out; exact ⟨k + 1, by go_num, by omega, hq⟩
        case measure => simp [RowKit.intOf]; omega
    case neg =>
      obtain rfl : k = n := by omega
      have i1 : ¬ (k : Int) < (k : Int) := by omega
      have hLf : ids.take k = ids := List.take_of_length_le (by rw [HH.out.2.2.1]; exact Nat.le_refl _)
      rw [hLf] at hLK
      have hw64 : ∀ z ∈ LK, i64 z := by rw [← hLK]; exact way_64 _ _ ids _ (fun z hz => by simp at hz; subst hz; unfold i64; omega)
      rw [← hNK] at o6
      have iw := (IS.of_own o6 hw64).2
      have NKb : LK.length ≤ 301 := by rw [← hLK]; have := (rdI t.ig t.kp ids).b; have := HH.out.2.2.1; omega
      rw [hNK] at NKb
      obtain ⟨w2, rfl⟩ : ∃ W : World, W = wr := ⟨_, rfl⟩
      have y2 : w2.cell? ⟨w.heap.size, 2, none⟩ = some (.slice A3 m c3) := xw.cell 2
      have im : (m : Int) ≤ 1000 := by omega
      have co0 : Cells w2 (w1.heap.size + 1 + 1) 3 (arr k (ruV t ids m)) := arr_to co fun i hi => by have := ru_start t ids (j := i) (by rw [HH.out.2.2.1]; exact hi); rw [HH.out.2.2.1, HH.out.2.2.2.1] at this; exact this
      have HL := Lib.hid (And.intro hLK (And.intro hNK (And.intro iw (And.intro ca (And.intro co0 (And.intro hb xw))))))
      have HWN := Lib.hid (fun b o (e : A6 = some (⟨b, o, none⟩ : Addr)) => (hap b (by rw [e]; rfl)).2)
      clear hLf hLK hNK hw64 iw ca co co0 hb xw o6 hap
      go_wp2_with fail
      go_loopw [10, 11, 12, 13, 14, 15, 16, 17] (fun u10 _ _ _ _ _ _ _ wr => ∃ R : Nat, u10 = .int .i64 ((R : Int) - 1) ∧ R ≤ m ∧ Cells wr (w1.heap.size + 1 + 1) 3 (arr k (ruV t ids R)) ∧ Fz (fun b => b = w1.heap.size + 1 + 1) w2 wr) (fun u10 _ _ _ _ _ _ _ _ => (RowKit.intOf u10 + 1).toNat)
      case atStart => exact ⟨m, rfl, Nat.le_refl _, HL.out.2.2.2.2.1, Fz.refl _ _⟩
      case round =>
        clear y2
        obtain ⟨R, rfl, hR, co, hf⟩ := hrel
        have sz2 := hf.size
        have bw : Below w.heap.size w wr := H4.out.1.trans ((HL.out.2.2.2.2.2.1.mono H4.out.1.size).trans (hf.below (by have := H4.out.1.size; omega) (fun b hb e => by have := H4.out.1.size; omega)))
        by_cases hR0 : 1 ≤ R
        case neg =>
          obtain rfl : R = 0 := by omega
          rw [show ((0 : Nat) : Int) - 1 = -1 by omega]
          have HE := Lib.hid (And.intro co bw)
          clear co bw hf hR0
          go_wp2_with fail
          go_ret
          refine ⟨_, _, rfl, ?_, HE.out.2⟩
          have co := HE.out.1
          refine ⟨by rw [refWhich_len, HH.out.2.2.1]; exact Nat.le_refl _, by unfold maxLen; omega, fun z hz => ?_, fun _ => ⟨_, _, rfl, co.lt, fun i z hi => ?_⟩⟩
          · obtain ⟨i, hi, rfl⟩ := List.mem_map.1 hz
            rcases whF_rng (refF (rdF t.ig t.kp ids).2.1 (((rdF t.ig t.kp ids).2.2[i]?).getD 0).toNat) t.rs 0 with h | ⟨q, x, hq, h, _⟩
            · unfold refAt i64; rw [h]; split <;> omega
            · have := (List.getElem?_eq_some_iff.1 hq).1
              unfold refAt i64; rw [h]; rw [HH.out.2.2.2.1] at this; split <;> omega
          · have hik : i < ids.length := by have := (List.getElem?_eq_some_iff.1 hi).1; rwa [refWhich_len] at this
            rw [refWhich_at t ids hik] at hi
            injection hi with hi
            rw [Nat.zero_add, arr_cell co (by rw [← HH.out.2.2.1]; exact hik), ← hi]
            rfl
        case pos =>
          obtain ⟨r, rfl⟩ : ∃ r, R = r + 1 := ⟨R - 1, by omega⟩
          rw [show (((r + 1 : Nat) : Int) - 1) = (r : Int) by omega]
          obtain ⟨x, hx⟩ : ∃ x, t.rs[r]? = some x := ⟨_, List.getElem?_eq_getElem (by rw [HH.out.2.2.2.1]; omega)⟩
          obtain ⟨b3, o3, rfl, hbl3, hr3⟩ := (HH.out.1.below bw).r (by intro e; rw [e] at hx; simp at hx)
          obtain ⟨D1, d1, D2, d2, ⟨k0, k1, k2, k3, k4, k5, k6⟩, hv⟩ := hr3 r x hx
          obtain ⟨_, _, _, _, he, hv1, hv2⟩ := hv
          injection he with he
          have he' := congrArg Array.toList he
          simp at he'
          obtain ⟨⟨rfl, rfl⟩, rfl, rfl⟩ := he'
          clear he k6
          have xr : Cells wr w.heap.size 50 #[.slice A1 t.ig.length c1, .slice A2 t.kp.length c2, .slice (some ⟨b3, o3, none⟩) m c3] := hf.cells (by have := H4.out.1.size; have := HH.out.2.2.2.2.1.size; have := HH.out.2.2.2.2.2.1.lt; omega) HL.out.2.2.2.2.2.2
          have y2 : wr.cell? ⟨w.heap.size, 2, none⟩ = some (.slice (some ⟨b3, o3, none⟩) m c3) := xr.cell 2
          have ir : (r : Int) < (m : Int) := by omega
          have ir2 : (r : Int) ≤ 1000 := by omega
          have sw : w.heap.size ≤ wr.heap.size := bw.size
          have hzx := HH.out.2.2.2.2.2.2.1 x (List.mem_of_getElem? hx)
          have isw : IS wr wr.heap.size LK A6 c6 := is_fz hf HL.out.2.2.1 (fun b o e h => HWN.out b o e h)
          have C1 := leads_any LK A6 c6 (by rw [HL.out.2.1]; omega) _ x.l (Nat.le_refl _) _ wr (hv1.mono sw) isw
          have C2 := fun W (hb : Below wr.heap.size wr W) => leads_any LK A6 c6 (by rw [HL.out.2.1]; omega) _ x.r (Nat.le_refl _) _ W ((hv2.mono sw).on hb) (isw.on hb)
          rw [HL.out.2.1] at C1 C2
          have q3 := k3
          rw [Nat.add_assoc] at q3
          have HX := Lib.hid (And.intro hx (And.intro co (And.intro hf (And.intro bw (And.intro xr (And.intro k3 (And.intro k4 k5)))))))
          have HC := Lib.hid C2
          clear hx co hf bw xr hv1 hv2 C2 hr3 isw k3 k4 k5 q3 hzx
          go_wp2_with fail
          refine C1.mono ?_
          rintro e w3 ⟨b1, rfl, T1, hb3⟩
          clear C1 k0 k1 k2 y2
          have C2 := HC.out w3 hb3
          have y2 : w3.cell? ⟨w.heap.size, 2, none⟩ = some (.slice (some ⟨b3, o3, none⟩) m c3) := (HX.out.2.2.2.2.1.on hb3).cell 2
          have k3 := (hb3.cell (p := ⟨b3, o3 + r * 7 + 3, none⟩) (by show b3 < wr.heap.size; omega)).trans HX.out.2.2.2.2.2.1
          have k4 := (hb3.cell (p := ⟨b3, o3 + r * 7 + 4, none⟩) (by show b3 < wr.heap.size; omega)).trans HX.out.2.2.2.2.2.2.1
          have k5 := (hb3.cell (p := ⟨b3, o3 + r * 7 + 5, none⟩) (by show b3 < wr.heap.size; omega)).trans HX.out.2.2.2.2.2.2.2
          have H3 := Lib.hid (And.intro T1 hb3)
          clear T1 hb3
          go_wp2_with fail
          refine C2.mono ?_
          rintro e w5 ⟨b2, rfl, T2, hb5⟩
          clear C2 y2 k3 k4 k5
          have H5 := Lib.hid (And.intro (H3.out.1.on hb5) (And.intro T2 (And.intro (below_on5 H3.out.2 hb5) True.intro)))
          clear T2 hb5
          go_wp2_with fail
          have sb : w1.heap.size + 1 + 1 < w2.heap.size := HL.out.2.2.2.2.1.lt
          have co5 := HX.out.2.1.on H5.out.2.2.1
          have ca5 := (HX.out.2.2.1.cells (show ¬ w1.heap.size + 1 = w1.heap.size + 1 + 1 by omega) HL.out.2.2.2.1).on H5.out.2.2.1
          have b15 : Below w1.heap.size w1 w5 := (HL.out.2.2.2.2.2.1.trans (HX.out.2.2.1.below (by omega) (fun b hb e => by omega))).trans (H5.out.2.2.1.mono (by have := HX.out.2.2.1.size; omega))
          have b05 := below_on5 HX.out.2.2.2.1 H5.out.2.2.1
          have H6 := Lib.hid (And.intro co5 (And.intro ca5 (And.intro b15 b05)))
          clear co5 ca5 b15 b05
          obtain ⟨wo, rfl⟩ : ∃ W : World, W = wr := ⟨_, rfl⟩
          go_loopw [13, 14, 15, 16, 17] (fun u13 _ _ _ _ wx => ∃ i : Nat, u13 = .int .i64 (i : Int) ∧ i ≤ k ∧ Cells wx (w1.heap.size + 1 + 1) 3 (arr k (fun j => if j < i then ruV t ids r j else ruV t ids (r + 1) j)) ∧ Fz (fun b => b = w1.heap.size + 1 + 1) w5 wx) (fun u13 _ _ _ _ _ => k - (RowKit.intOf u13).toNat)
          case atStart => exact ⟨0, rfl, Nat.zero_le _, arr_to H6.out.1 (fun j _ => by rw [if_neg (by omega)]), Fz.refl _ _⟩
          case round =>
            obtain ⟨i, rfl, hi, co, hf⟩ := hrel
            have s15 := H6.out.2.2.1.size
            have b1r : Below w1.heap.size w1 wr := H6.out.2.2.1.trans (hf.below (by omega) (fun b hb e => by omega))
            have iik : (i : Int) ≤ 100000 := by omega
            by_cases hlt : i < k
            case neg =>
              obtain rfl : i = k := by omega
              have j1 : ¬ (i : Int) < (i : Int) := by omega
              have HE := Lib.hid (And.intro (arr_to co (fun j hj => by rw [if_pos hj] : ∀ j, j < i → (if j < i then ruV t ids r j else ruV t ids (r + 1) j) = ruV t ids r j)) (HX.out.2.2.1.trans ((Fz.of_below H5.out.2.2.1).trans hf)))
              clear co hf b1r
              go_wp2_with fail
              go_roundw
              case rel => exact ⟨r, rfl, by omega, HE.out.1, HE.out.2⟩
              case measure => simp [RowKit.intOf]
            case pos =>
              have j1 : (i : Int) < (k : Int) := by omega
              obtain ⟨hd, hhd⟩ : ∃ h, (rdF t.ig t.kp ids).1[i]? = some h := ⟨_, List.getElem?_eq_getElem (by rw [HH.out.2.2.2.2.2.2.2.h]; exact hlt)⟩
              obtain ⟨bh, oh, rfl, hbl, hr⟩ := (H4.out.2.1.below b1r).r (by intro e; rw [e] at hhd; simp at hhd)
              have chh := hr i hd hhd
              have hX : hfR t ids i = some hd := hhd
              cases hd with
              | true =>
                have hco := arr_to co (fun j _ => by
                  by_cases e : j = i
                  · subst e
                    unfold ruV
                    rw [ru_hid t ids hX, ru_hid t ids hX, if_neg (by omega), if_pos (by omega)]
                  · by_cases e2 : j < i
                    · rw [if_pos e2, if_pos (by omega)]
                    · rw [if_neg e2, if_neg (by omega)] : ∀ j, j < k → (if j < i then ruV t ids r j else ruV t ids (r + 1) j) = (if j < i + 1 then ruV t ids r j else ruV t ids (r + 1) j))
                have HE := Lib.hid (And.intro hco hf)
                clear hco co hf b1r hhd hr hX
                go_wp2_with fail
                go_roundw
                case rel => exact ⟨i + 1, by go_num, by omega, HE.out.1, HE.out.2⟩
                case measure => simp [RowKit.intOf]; omega
              | false =>
                obtain ⟨P, hP, p1, p2, p3⟩ := HH.out.2.2.2.2.2.2.2.a i false hhd
                have p3 := p3 rfl
                rw [HL.out.1, HL.out.2.1] at p3
                have hpf : pfR t ids i = (P : Int) := by unfold pfR; rw [hP]; rfl
                have ca := hf.cells (show ¬ w1.heap.size + 1 = w1.heap.size + 1 + 1 by omega) H6.out.2.1
                have cat : wr.cell? ⟨w1.heap.size + 1, i, none⟩ = some (.int .i64 (P : Int)) := by
                  rw [arr_cell ca hlt]
                  unfold atV
                  rw [if_pos ⟨hlt, hX⟩, hpf]
                have step := ru_step t ids HX.out.1 hX
                rw [HL.out.1, hpf, Int.toNat_natCast] at step
                have iP : (P : Int) ≤ 1000 := by omega
                have iN : (NK : Int) ≤ 1000 := by omega
                have hfx := HX.out.2.2.1.trans ((Fz.of_below H5.out.2.2.1).trans hf)
                have T1 := tbB_fz hf H5.out.1 H6.out.1 (fun j => ⟨_, rfl⟩) (by omega) (by omega)
                have T2 := tbB_fz hf H5.out.2.1 H6.out.1 (fun j => ⟨_, rfl⟩) (by omega) (by omega)
                have iPN : P ≤ NK := by omega
                have HY := Lib.hid (And.intro co (And.intro hf (And.intro b1r (And.intro ca (And.intro cat (And.intro hX (And.intro step (And.intro T1 T2))))))))
                clear co hf b1r hhd hr hX ca step hP hpf hfx T1 T2
                go_wp2_with fail
                obtain ⟨wp, rfl⟩ : ∃ W : World, W = wr := ⟨_, rfl⟩
                go_loopw [14, 16] (fun u14 u16 wy => ∃ q : Nat, u16 = .int .i64 (q : Int) ∧ q ≤ P + 1 ∧ u14 = .bool ((List.range q).any fun z => ldB LK x.l z P) ∧ Below wp.heap.size wp wy) (fun _ u16 _ => P + 1 - (RowKit.intOf u16).toNat)
                case atStart => exact ⟨0, rfl, Nat.zero_le _, rfl, Below.refl _ _⟩
                case round =>
                  clear chh
                  obtain ⟨q, rfl, hq, rfl, hby⟩ := hrel
                  have iq : (q : Int) ≤ 100000 := by omega
                  have ct : wr.cell? ⟨w1.heap.size + 1, i, none⟩ = some (.int .i64 (P : Int)) := (hby.cell (p := ⟨w1.heap.size + 1, i, none⟩) HY.out.2.2.2.1.lt).trans cat
                  have hs := any_succ (fun z => ldB LK x.l z P) q
                  by_cases hqP : q ≤ P
                  case pos =>
                    have jq : (q : Int) ≤ (P : Int) := by omega
                    have jq2 : (q : Int) < (NK : Int) + 1 := by omega
                    have jp2 : (P : Int) < (NK : Int) + 1 := by omega
                    obtain ⟨r1, t1, t2, t3⟩ := (HY.out.2.2.2.2.2.2.2.1.on hby).r q (by omega)
                    have t3 := t3 P (by omega)
                    obtain ⟨a, ha⟩ : ∃ a, ((List.range q).any fun z => ldB LK x.l z P) = a := ⟨_, rfl⟩
                    obtain ⟨c, hc⟩ : ∃ c, ldB LK x.l q P = c := ⟨_, rfl⟩
                    rw [ha, hc] at hs
                    rw [hc] at t3
                    rw [ha]
                    have v1 := cell_regrown t1
                    have v2 := cell_regrown t3
                    have v3 := cell_regrown ct
                    have HQ := Lib.hid (And.intro hby hs)
                    clear hby hs t1 t2 t3 ha hc
                    cases a
                    all_goals
                      go_wp2_with fail
                      refine wp_region_quiet_below (by kernel_rfl) (by kernel_rfl) ?_
                      repeat (go_big_quiet_step (fail))
                      refine wpQuiet_nil ?_
                      intro _ hw'
                      obtain ⟨⟨dq, osq⟩, hw''⟩ := hw'
                      subst hw''
                      have HB := Lib.hid (below_on5 HQ.out.1 (below_regrown wr dq osq))
                      clear v1 v2 v3 ct
                      generalize grow (redrawn wr dq) osq = w9 at *
                      go_wp2_with fail
                      go_roundw
                      case rel => exact ⟨q + 1, by go_num, by omega, by rw [HQ.out.2]; rfl, HB.out⟩
                      case measure => simp [RowKit.intOf]; omega
                  case neg =>
                    have hqe : q = P + 1 := by omega
                    have jq : ¬ (q : Int) ≤ (P : Int) := by omega
                    have ea : ((List.range q).any fun z => ldB LK x.l z P) = aheadB LK x.l P := by rw [hqe]; rfl
                    rw [ea]
                    clear hqe ea hq
                    obtain ⟨a, ha⟩ : ∃ a, aheadB LK x.l P = a := ⟨_, rfl⟩
                    rw [ha]
                    have HA := Lib.hid (And.intro ha hby)
                    clear ha hby hs hqP
                    go_wp2_with fail
                    obtain ⟨wz, rfl⟩ : ∃ W : World, W = wr := ⟨_, rfl⟩
                    go_loopw [15, 17] (fun u15 u17 wy => ∃ q : Nat, u17 = .int .i64 (q : Int) ∧ P ≤ q ∧ q ≤ NK + 1 ∧ u15 = .bool ((List.range' P (q - P)).any fun z => ldB LK x.r P z) ∧ Below wz.heap.size wz wy) (fun _ u17 _ => NK + 1 - (RowKit.intOf u17).toNat)
                    case atStart => exact ⟨P, rfl, Nat.le_refl _, by omega, by rw [Nat.sub_self]; rfl, Below.refl _ _⟩
                    case round =>
                      obtain ⟨q, rfl, hq0, hq, rfl, hby⟩ := hrel
                      have iq : (q : Int) ≤ 100000 := by omega
                      have bzz := below_on5 HA.out.2 hby
                      have ct2 : wr.cell? ⟨w1.heap.size + 1, i, none⟩ = some (.int .i64 (P : Int)) := (bzz.cell (p := ⟨w1.heap.size + 1, i, none⟩) HY.out.2.2.2.1.lt).trans cat
                      have hs := any_succ' (fun z => ldB LK x.r P z) P q hq0
                      by_cases hqN : q ≤ NK
                      case pos =>
                        have jq : (q : Int) ≤ (NK : Int) := by omega
                        have jq2 : (q : Int) < (NK : Int) + 1 := by omega
                        have jp2 : (P : Int) < (NK : Int) + 1 := by omega
                        obtain ⟨r1, t1, t2, t3⟩ := (HY.out.2.2.2.2.2.2.2.2.on bzz).r P (by omega)
                        have t3 := t3 q (by omega)
                        obtain ⟨b, hb⟩ : ∃ a, ((List.range' P (q - P)).any fun z => ldB LK x.r P z) = a := ⟨_, rfl⟩
                        obtain ⟨c, hc⟩ : ∃ c, ldB LK x.r P q = c := ⟨_, rfl⟩
                        rw [hb, hc] at hs
                        rw [hc] at t3
                        rw [hb]
                        have HQ := Lib.hid (And.intro hby hs)
                        clear hby hs t2 hb hc bzz
                        cases b
                        all_goals
                          go_wp2_with fail
                          go_roundw
                          case rel => exact ⟨q + 1, by go_num, by omega, by omega, by rw [HQ.out.2]; rfl, HQ.out.1⟩
                          case measure => simp [RowKit.intOf]; omega
                      case neg =>
                        have hqe : q = NK + 1 := by omega
                        have jq : ¬ (q : Int) ≤ (NK : Int) := by omega
                        have eb : ((List.range' P (q - P)).any fun z => ldB LK x.r P z) = behB LK x.r P := by unfold behB; rw [HL.out.2.1, hqe]
                        rw [eb]
                        clear hqe hq
                        obtain ⟨b, hb⟩ : ∃ a, behB LK x.r P = a := ⟨_, rfl⟩
                        rw [hb]
                        have hst : ruZ t ids r i = if (a && b) = true then (r : Int) else ruZ t ids (r + 1) i := by
                          rw [HY.out.2.2.2.2.2.2.1]
                          unfold refF
                          rw [HA.out.1, hb]
                        have co := HY.out.1.on bzz
                        have fz := HY.out.2.1.trans (Fz.of_below bzz)
                        have cc := arr_cell co hlt
                        have ff := co.froz i
                        have ext : ∀ y : Int, ruZ t ids r i = y → ∀ j, j < k → (if j = i then Value.int .i64 y else (if j < i then ruV t ids r j else ruV t ids (r + 1) j)) = (if j < i + 1 then ruV t ids r j else ruV t ids (r + 1) j) := fun y hy j _ => by
                          by_cases e : j = i
                          · subst e
                            rw [if_pos rfl, if_pos (by omega)]
                            unfold ruV
                            rw [hy]
                          · rw [if_neg e]
                            by_cases e2 : j < i
                            · rw [if_pos e2, if_pos (by omega)]
                            · rw [if_neg e2, if_neg (by omega)]
                        have HZ := Lib.hid (And.intro co (And.intro fz (And.intro hst ext)))
                        clear hs hby bzz hqN hb eb co fz hst ext
                        cases a with
                        | false =>
                          have hst := HZ.out.2.2.1
                          rw [Bool.false_and, if_neg (by simp)] at hst
                          have hsame : ∀ j, j < k → (if j < i then ruV t ids r j else ruV t ids (r + 1) j) = (if j < i + 1 then ruV t ids r j else ruV t ids (r + 1) j) := fun j hj => by
                            have := HZ.out.2.2.2 _ hst j hj
                            by_cases e : j = i
                            · subst e
                              rw [if_pos rfl] at this
                              rw [if_neg (Nat.lt_irrefl _), ← this]
                              rfl
                            · rw [if_neg e] at this
                              exact this
                          have HE := Lib.hid (And.intro (arr_to HZ.out.1 hsame) HZ.out.2.1)
                          clear hsame hst
                          go_wp2_with fail
                          go_roundw
                          case rel => exact ⟨i + 1, by go_num, by omega, HE.out.1, HE.out.2⟩
                          case measure => simp [RowKit.intOf]; omega
                        | true =>
                          cases b with
                          | false =>
                            have hst := HZ.out.2.2.1
                            rw [Bool.and_false, if_neg (by simp)] at hst
                            have hsame : ∀ j, j < k → (if j < i then ruV t ids r j else ruV t ids (r + 1) j) = (if j < i + 1 then ruV t ids r j else ruV t ids (r + 1) j) := fun j hj => by
                              have := HZ.out.2.2.2 _ hst j hj
                              by_cases e : j = i
                              · subst e
                                rw [if_pos rfl] at this
                                rw [if_neg (Nat.lt_irrefl _), ← this]
                                rfl
                              · rw [if_neg e] at this
                                exact this
                            have HE := Lib.hid (And.intro (arr_to HZ.out.1 hsame) HZ.out.2.1)
                            clear hsame hst
                            go_wp2_with fail
                            go_roundw
                            case rel => exact ⟨i + 1, by go_num, by omega, HE.out.1, HE.out.2⟩
                            case measure => simp [RowKit.intOf]; omega
                          | true =>
                            have hst := HZ.out.2.2.1
                            rw [Bool.and_true, if_pos rfl] at hst
                            have co2 := HZ.out.1.set i (.int .i64 (r : Int))
                            rw [arr_set] at co2
                            have fz2 := HZ.out.2.1.trans (Fz.set (X := fun b => b = w1.heap.size + 1 + 1) wr (w1.heap.size + 1 + 1) i (.int .i64 (r : Int)) rfl)
                            have HE := Lib.hid (And.intro (arr_to co2 (HZ.out.2.2.2 _ hst)) fz2)
                            clear co2 fz2 hst
                            go_wp2_with fail
                            go_roundw
                            case rel => exact ⟨i + 1, by go_num, by omega, HE.out.1, HE.out.2⟩
                            case measure => simp [RowKit.intOf]; omega
end Go.Proofs.Ytegkogadceodlaa.L

namespace Go.Proofs.Ytegkogadceodlaa.L
open Go.RowKit Go.Shelf Go.Lib Go.Sort Go.Maps

/-- Is there a break, as the document's list says? -/
def refBr (t : Tx) (ids : List Int) (i : Nat) : Bool := decide (refAt t ids i = -1) || (decide (0 ≤ refAt t ids i) && ((t.rs[(refAt t ids i).toNat]?).map (·.b)).getD false)
def rbL (t : Tx) (ids : List Int) (k : Nat) : List Bool := true :: (List.range' 1 (k - 1)).map (refBr t ids)
def refBreaks (t : Tx) (ids : List Int) : List Bool := if ids.length = 0 then [true] else rbL t ids ids.length ++ [true]
theorem rbL_next (t : Tx) (ids : List Int) {k : Nat} (h : 1 ≤ k) : rbL t ids (k + 1) = rbL t ids k ++ [refBr t ids k] := by
  unfold rbL
  rw [show k + 1 - 1 = k - 1 + 1 by omega, List.range'_concat, List.map_append, show 1 + 1 * (k - 1) = k by omega]
  rfl
theorem rbL_len (t : Tx) (ids : List Int) {k : Nat} (h : 1 ≤ k) : (rbL t ids k).length = k := by
  unfold rbL
  rw [List.length_cons, List.length_map, List.length_range']
  omega
theorem refBreaks_len (t : Tx) (ids : List Int) : (refBreaks t ids).length = ids.length + 1 := by
  unfold refBreaks
  split
  · rename_i h; rw [h]; rfl
  · rw [List.length_append, rbL_len t ids (by omega)]; rfl
theorem bL_snoc2 (l : List Bool) (b : Bool) : bL (l ++ [b]) = bL l ++ [.bool b] := by simp [bL]
/-- The three ways of a place. -/
theorem refAt_rng (t : Tx) (ids : List Int) (i : Nat) : refAt t ids i = -2 ∨ refAt t ids i = -1 ∨ ∃ (q : Nat) (x : Ru), t.rs[q]? = some x ∧ refAt t ids i = (q : Int) := by
  unfold refAt
  split
  · exact .inl rfl
  · rcases whF_rng (refF (rdF t.ig t.kp ids).2.1 (((rdF t.ig t.kp ids).2.2[i]?).getD 0).toNat) t.rs 0 with h | ⟨q, x, hq, h, _⟩
    · exact .inr (.inl h)
    · exact .inr (.inr ⟨q, x, hq, by rw [h]; omega⟩)
set_option maxRecDepth 100000 in
set_option maxHeartbeats 16000000 in
theorem rbreaks_any (t : Tx) (v : Value) (ids : List Int) (A : Option Addr) (cap : Nat) (w : World) (h : TxV w w.heap.size t v) (hi : IS w w.heap.size ids A cap) (hn : ids.length ≤ 300) (hm : t.rs.length ≤ 1000) (hz : ∀ x ∈ t.rs, szE x.l ≤ 100000 ∧ szE x.r ≤ 100000) :
    Calls Try.prog 29 #[v, .slice A ids.length cap] w fun e w' => ∃ u, e = .returned u ∧ w'.ownsRow w.heap.size 4 1 u (refBreaks t ids).length (bL (refBreaks t ids)) ∧ Below w.heap.size w w' := by
  have h' := h
  obtain ⟨A1, c1, A2, c2, A3, c3, rfl, h1, h2, h3⟩ := h'
  obtain ⟨L, hL⟩ : ∃ L, refBreaks t ids = L := ⟨_, rfl⟩
  have hL2 := refBreaks_len t ids
  rw [hL] at hL2 ⊢
  unfold refBreaks at hL
  obtain ⟨n, hN⟩ : ∃ n, ids.length = n := ⟨_, rfl⟩
  obtain ⟨m, hM⟩ : ∃ m, t.rs.length = m := ⟨_, rfl⟩
  obtain ⟨W0, hW0⟩ : ∃ W0, w.alloc (.cells #[.slice A1 t.ig.length c1, .slice A2 t.kp.length c2, .slice A3 t.rs.length c3] 50) = W0 := ⟨_, rfl⟩
  have hb0 : Below w.heap.size w W0 := by rw [← hW0]; exact below_new _ _
  have x0 : Cells W0 w.heap.size 50 #[.slice A1 t.ig.length c1, .slice A2 t.kp.length c2, .slice A3 t.rs.length c3] := by rw [← hW0]; exact cells_new _ _ _
  have CH := rwhich_any t _ ids A cap W0 (h.on hb0) (hi.on hb0) hn hm hz
  rw [hN] at CH hn hL hL2 ⊢
  rw [hM] at hm x0 CH hW0 ⊢
  rw [hL2]
  have HW := Lib.hid hW0
  have HH := Lib.hid (And.intro h3 (And.intro hN (And.intro hM (And.intro hb0 (And.intro x0 hL)))))
  clear h h1 h2 h3 hi hN hM hW0 hb0 x0 hz hL hL2
  go_enter Try.func29, Try.ntmps29
  go_wp2_with fail
  rw [HW.out]
  refine CH.mono ?_
  rintro r w1 ⟨Ah, ch, rfl, his, b1⟩
  clear CH
  have hbw := below_on5 HH.out.2.2.2.1 b1
  have x1 := HH.out.2.2.2.2.1.on b1
  have own1 : (w1.alloc (.cells #[.bool true] 4)).ownsRow w.heap.size 4 1 (.slice (some ⟨w1.heap.size, 0, none⟩) 1 1) 1 (bL [true]) :=
    ⟨rfl, .inr ⟨_, 1, _, rfl, hbw.size, cells_new w1 #[.bool true] 4, Nat.le_refl _, by unfold maxLen; omega, rfl, rfl⟩⟩
  have bn := below_new w1 (.cells #[.bool true] 4)
  have H1 := Lib.hid (And.intro (below_on5 hbw bn) (And.intro (his.below bn) (And.intro (x1.on bn) (And.intro own1 (And.intro x1.lt (And.intro hbw.size bn.size))))))
  clear hbw his x1 own1 bn b1
  by_cases h0 : n = 0
  · subst h0
    have hL := HH.out.2.2.2.2.2
    rw [if_pos rfl] at hL
    subst hL
    go_wp2_with fail
    go_loopw [6, 7] (fun u6 u7 wr => u6 = .slice (some ⟨w1.heap.size, 0, none⟩) 1 1 ∧ u7 = .int .i64 1 ∧ wr = w1.alloc (.cells #[.bool true] 4)) (fun _ _ _ => 0)
    case atStart => exact ⟨rfl, rfl, rfl⟩
    case round =>
      obtain ⟨rfl, rfl, rfl⟩ := hrel
      go_wp2_with fail
      go_ret
      exact ⟨_, rfl, H1.out.2.2.2.1, H1.out.1⟩
  · have hn1 : 1 ≤ n := by omega
    have in0 : (0 : Int) < (n : Int) := by omega
    have hL := HH.out.2.2.2.2.2
    rw [if_neg h0] at hL
    clear h0
    have HL := Lib.hid hL
    clear hL
    go_wp2_with fail
    obtain ⟨W2, hW2⟩ : ∃ V, w1.alloc (.cells #[.bool true] 4) = V := ⟨_, rfl⟩
    rw [hW2] at H1 ⊢
    clear hW2
    go_loopw [6, 7] (fun u6 u7 wr => ∃ k : Nat, u7 = .int .i64 (k : Int) ∧ 1 ≤ k ∧ k ≤ n ∧ wr.ownsRow w.heap.size 4 1 u6 k (bL (rbL t ids k)) ∧ (∀ j, u6.ownBlock = some j → w1.heap.size ≤ j) ∧ Below w1.heap.size W2 wr) (fun _ u7 _ => n - (RowKit.intOf u7).toNat)
    case atStart => exact ⟨1, rfl, Nat.le_refl _, hn1, H1.out.2.2.2.1, fun j hj => by simp [Value.ownBlock] at hj; omega, Below.refl _ _⟩
    case round =>
      obtain ⟨k, rfl, hk1, hk, o6, nb, hb⟩ := hrel
      obtain ⟨A6, c6, rfl⟩ := own_formN o6
      have swr := hb.size
      have iik : (k : Int) ≤ 1000 := by omega
      have bwr : Below w.heap.size w wr := H1.out.1.trans (hb.mono H1.out.2.2.2.2.2.1)
      by_cases hlt : k < n
      case neg =>
        obtain rfl : k = n := by omega
        have i1 : ¬ (k : Int) < (k : Int) := by omega
        have hL := HL.out
        have szz : w.heap.size ≤ wr.heap.size := by have := H1.out.1.size; have := H1.out.2.2.2.2.2.1; have := bwr.size; omega
        have HE := Lib.hid (And.intro bwr (And.intro hL o6))
        clear hL nb hb bwr
        go_wp2_with (at_builtin; refine wpList_app1 Try.underlying52 info4 (by omega) rfl (.tmp 47) (.tmp 48) rfl w.heap.size _ k (bL (rbL t ids k)) (.bool true) rfl rfl wr HE.out.2.2 rfl rfl (by omega) szz ?_)
        intro g cp w7 ho7 hg7 _ _
        have hres : w7.ownsRow w.heap.size 4 1 (.slice (some ⟨g, 0, none⟩) (k + 1) cp) (k + 1) (bL L) := by
          rw [← HE.out.2.1, bL_snoc2]
          exact ho7
        have b7 : Below w.heap.size w w7 := HE.out.1.trans ⟨hg7.os, hg7.tape, hg7.output, hg7.size, fun b hb' => hg7.block b (by omega) (fun e => by have := (own_block_lt o6 b e.symm).1; omega)⟩
        have HF := Lib.hid (And.intro hres b7)
        clear hres b7 ho7 hg7 o6
        go_wp2_with fail
        go_ret
        exact ⟨_, rfl, HF.out.1, HF.out.2⟩
      case pos =>
        have i1 : (k : Int) < (n : Int) := by omega
        have hat := refWhich_at t ids (i := k) (by rw [HH.out.2.1]; exact hlt)
        obtain ⟨bh, oh, rfl, hbl, hr⟩ := (H1.out.2.1.below hb).r (by intro e; rw [e] at hat; simp at hat)
        have cw := hr k _ hat
        have xr : Cells wr w.heap.size 50 #[.slice A1 t.ig.length c1, .slice A2 t.kp.length c2, .slice A3 m c3] := (hb.block _ H1.out.2.2.2.2.1).trans H1.out.2.2.1
        have hnx := rbL_next t ids hk1
        have hrb : refBr t ids k = refBr t ids k := rfl
        unfold refBr at hrb
        have nbx := nb
        have HO := Lib.hid (And.intro o6 (And.intro nb (And.intro hb (And.intro bwr hnx))))
        have szz : w.heap.size ≤ wr.heap.size := bwr.size
        rcases refAt_rng t ids k with hw | hw | ⟨q, x, hq, hw⟩
        ·
          have hv : refBr t ids k = false := by unfold refBr; rw [hw]; rfl
          rw [hw] at cw
          have q0 : ∀ p : Later (fun _ => False) wr, p.W.cell? ⟨bh, oh + k, none⟩ = some (.int .i64 (-2)) := fun p => cell_later cw (fun hf => hf) p
          have HV := Lib.hid hv
          clear hr cw xr hnx hrb nb nbx o6 hb bwr hat hv hw
          go_wp2_with fail
          refine wp_region_mix (fun i => if i = 24 then 2 else if 25 ≤ i then 3 else 0) [0, 1, 2, 3, 4, 5, 6, 7, 8, 9, 10, 11, 12, 13, 14, 15, 16, 17, 18, 19, 20, 21, 22, 23] [24, 25, 26] (fun w' => ∃ P : Later (fun _ => False) wr, w' = P.W) (by kernel_rfl) (by kernel_rfl) ⟨⟨_, Fz.drew wr⟩, rfl⟩ ?_
          simp only [opsAt, List.filterMap_cons, List.filterMap_nil, List.getElem?_toArray, List.getElem?_cons_zero, List.getElem?_cons_succ]
          change wpQuiet _ _ _ _ [_, _, _, _, _, _, _, _, _, _, _, _, _, _, _, _, _, _, _, _, _, _, _, _] _
          repeat (go_big_quiet_step (fail))
          refine wpQuiet_nil ?_
          rintro _ ⟨P0, rfl⟩
          obtain ⟨w4, z4⟩ := P0
          dsimp only
          clear q0
          have bd : Below wr.heap.size wr w4 := ⟨z4.os, z4.tape, z4.output, z4.size, fun k hk => z4.block k hk (fun h => h)⟩
          have H4 := Lib.hid (And.intro z4 (And.intro (ownsRow_below HO.out.1 bd) bd))
          clear z4 bd
          refine wpSeqM_step rfl ?_
          go_wp2_with fail
          refine ⟨⟨⟨_, H4.out.1.trans (Fz.of_below (below_new w4 _))⟩, rfl⟩, ?_⟩
          have hbase : w.heap.size ≤ w4.heap.size := by have := H4.out.2.2.size; omega
          refine wpSeqM_step rfl ?_
          refine wpList_app1 Try.underlying52 info4 (by omega) rfl (.tmp 18) (.tmp 42) rfl w.heap.size _ k (bL (rbL t ids k)) (.bool false) rfl rfl w4 H4.out.2.1 rfl rfl (by omega) hbase ?_
          intro g cp w7 ho7 hg7 hn7 _
          have sw4 := H4.out.2.2.size
          have hres : w7.ownsRow w.heap.size 4 1 (.slice (some ⟨g, 0, none⟩) (k + 1) cp) (k + 1) (bL (rbL t ids (k + 1))) := by rw [HO.out.2.2.2.2, bL_snoc2, HV.out]; exact ho7
          have nb7 : ∀ j, (Value.slice (some ⟨g, 0, none⟩) (k + 1) cp).ownBlock = some j → w1.heap.size ≤ j := fun j hj => by
            simp [Value.ownBlock] at hj
            subst hj
            rcases hn7 with h | h
            · exact HO.out.2.1 _ h
            · have := H1.out.2.2.2.2.2.2; omega
          have w12 := H1.out.2.2.2.2.2.2
          have b7 : Below w1.heap.size W2 w7 := (HO.out.2.2.1.trans (H4.out.2.2.mono (by have := H1.out.2.2.2.2.2.2; omega))).trans ⟨hg7.os, hg7.tape, hg7.output, hg7.size, fun b hb' => hg7.block b (by omega) (fun e => by have := HO.out.2.1 b e.symm; omega)⟩
          have HF := Lib.hid (And.intro hres (And.intro nb7 b7))
          clear hres nb7 b7 ho7 hg7 hn7
          go_wp2_with fail
          refine wpSeqM_step rfl ?_
          go_wp2_with fail
          unfold wpSeqM
          go_wp2_with fail
          go_roundw
          case rel => exact ⟨k + 1, by go_num, by omega, by omega, HF.out.1, HF.out.2.1, HF.out.2.2⟩
          case measure => simp [RowKit.intOf]; omega
        ·
          have hv : refBr t ids k = true := by unfold refBr; rw [hw]; rfl
          rw [hw] at cw
          have q0 : ∀ p : Later (fun _ => False) wr, p.W.cell? ⟨bh, oh + k, none⟩ = some (.int .i64 (-1)) := fun p => cell_later cw (fun hf => hf) p
          have HV := Lib.hid hv
          clear hr cw xr hnx hrb nb nbx o6 hb bwr hat hv hw
          go_wp2_with fail
          refine wp_region_mix (fun i => if i = 24 then 2 else if 25 ≤ i then 3 else 0) [0, 1, 2, 3, 4, 5, 6, 7, 8, 9, 10, 11, 12, 13, 14, 15, 16, 17, 18, 19, 20, 21, 22, 23] [24, 25, 26] (fun w' => ∃ P : Later (fun _ => False) wr, w' = P.W) (by kernel_rfl) (by kernel_rfl) ⟨⟨_, Fz.drew wr⟩, rfl⟩ ?_
          simp only [opsAt, List.filterMap_cons, List.filterMap_nil, List.getElem?_toArray, List.getElem?_cons_zero, List.getElem?_cons_succ]
          change wpQuiet _ _ _ _ [_, _, _, _, _, _, _, _, _, _, _, _, _, _, _, _, _, _, _, _, _, _, _, _] _
          repeat (go_big_quiet_step (fail))
          refine wpQuiet_nil ?_
          rintro _ ⟨P0, rfl⟩
          obtain ⟨w4, z4⟩ := P0
          dsimp only
          clear q0
          have bd : Below wr.heap.size wr w4 := ⟨z4.os, z4.tape, z4.output, z4.size, fun k hk => z4.block k hk (fun h => h)⟩
          have H4 := Lib.hid (And.intro z4 (And.intro (ownsRow_below HO.out.1 bd) bd))
          clear z4 bd
          refine wpSeqM_step rfl ?_
          go_wp2_with fail
          refine ⟨⟨⟨_, H4.out.1.trans (Fz.of_below (below_new w4 _))⟩, rfl⟩, ?_⟩
          have hbase : w.heap.size ≤ w4.heap.size := by have := H4.out.2.2.size; omega
          refine wpSeqM_step rfl ?_
          refine wpList_app1 Try.underlying52 info4 (by omega) rfl (.tmp 18) (.tmp 42) rfl w.heap.size _ k (bL (rbL t ids k)) (.bool true) rfl rfl w4 H4.out.2.1 rfl rfl (by omega) hbase ?_
          intro g cp w7 ho7 hg7 hn7 _
          have sw4 := H4.out.2.2.size
          have hres : w7.ownsRow w.heap.size 4 1 (.slice (some ⟨g, 0, none⟩) (k + 1) cp) (k + 1) (bL (rbL t ids (k + 1))) := by rw [HO.out.2.2.2.2, bL_snoc2, HV.out]; exact ho7
          have nb7 : ∀ j, (Value.slice (some ⟨g, 0, none⟩) (k + 1) cp).ownBlock = some j → w1.heap.size ≤ j := fun j hj => by
            simp [Value.ownBlock] at hj
            subst hj
            rcases hn7 with h | h
            · exact HO.out.2.1 _ h
            · have := H1.out.2.2.2.2.2.2; omega
          have w12 := H1.out.2.2.2.2.2.2
          have b7 : Below w1.heap.size W2 w7 := (HO.out.2.2.1.trans (H4.out.2.2.mono (by have := H1.out.2.2.2.2.2.2; omega))).trans ⟨hg7.os, hg7.tape, hg7.output, hg7.size, fun b hb' => hg7.block b (by omega) (fun e => by have := HO.out.2.1 b e.symm; omega)⟩
          have HF := Lib.hid (And.intro hres (And.intro nb7 b7))
          clear hres nb7 b7 ho7 hg7 hn7
          go_wp2_with fail
          refine wpSeqM_step rfl ?_
          go_wp2_with fail
          unfold wpSeqM
          go_wp2_with fail
          go_roundw
          case rel => exact ⟨k + 1, by go_num, by omega, by omega, HF.out.1, HF.out.2.1, HF.out.2.2⟩
          case measure => simp [RowKit.intOf]; omega
        ·
          obtain ⟨b3, o3, rfl, hbl3, hr3⟩ := (HH.out.1.below bwr).r (by intro e; rw [e] at hq; simp at hq)
          obtain ⟨D1, d1, D2, d2, ⟨_, _, _, _, _, _, k6⟩, _⟩ := hr3 q x hq
          have hqm := (List.getElem?_eq_some_iff.1 hq).1
          rw [HH.out.2.2.1] at hqm
          have iq : (q : Int) < (m : Int) := by omega
          have iq2 : (q : Int) ≤ 1000 := by omega
          have iq3 : ((q : Int) == -1) = false := by simp
          have iq4 : decide ((0 : Int) ≤ (q : Int)) = true := decide_eq_true (by omega)
          clear hr3
          have hv : refBr t ids k = x.b := by unfold refBr; rw [hw]; rw [Int.toNat_natCast, hq, decide_eq_false (by omega : ¬ (q : Int) = -1), decide_eq_true (by omega : (0 : Int) ≤ (q : Int))]; rfl
          rw [hw] at cw
          have q0 : ∀ p : Later (fun _ => False) wr, p.W.cell? ⟨bh, oh + k, none⟩ = some (.int .i64 (q : Int)) := fun p => cell_later cw (fun hf => hf) p
          have q1 : ∀ p : Later (fun _ => False) wr, p.W.cell? ⟨w.heap.size, 2, none⟩ = some (.slice (some ⟨b3, o3, none⟩) m c3) := fun p => cell_later (xr.cell 2) (fun hf => hf) p
          have q2 : ∀ p : Later (fun _ => False) wr, p.W.cell? ⟨b3, o3 + q * 7 + 6, none⟩ = some (.bool x.b) := fun p => cell_later k6 (fun hf => hf) p
          obtain ⟨xb, hxb⟩ : ∃ y, x.b = y := ⟨_, rfl⟩
          rw [hxb] at q2 hv
          have HV := Lib.hid hv
          clear hr cw xr hnx hrb nb nbx o6 hb bwr hat hv hw k6 hq hxb
          go_wp2_with fail
          refine wp_region_mix (fun i => if i = 24 then 2 else if 25 ≤ i then 3 else 0) [0, 1, 2, 3, 4, 5, 6, 7, 8, 9, 10, 11, 12, 13, 14, 15, 16, 17, 18, 19, 20, 21, 22, 23] [24, 25, 26] (fun w' => ∃ P : Later (fun _ => False) wr, w' = P.W) (by kernel_rfl) (by kernel_rfl) ⟨⟨_, Fz.drew wr⟩, rfl⟩ ?_
          simp only [opsAt, List.filterMap_cons, List.filterMap_nil, List.getElem?_toArray, List.getElem?_cons_zero, List.getElem?_cons_succ]
          change wpQuiet _ _ _ _ [_, _, _, _, _, _, _, _, _, _, _, _, _, _, _, _, _, _, _, _, _, _, _, _] _
          repeat (go_big_quiet_step (fail))
          refine wpQuiet_nil ?_
          rintro _ ⟨P0, rfl⟩
          obtain ⟨w4, z4⟩ := P0
          dsimp only
          clear q0 q1 q2
          have bd : Below wr.heap.size wr w4 := ⟨z4.os, z4.tape, z4.output, z4.size, fun k hk => z4.block k hk (fun h => h)⟩
          have H4 := Lib.hid (And.intro z4 (And.intro (ownsRow_below HO.out.1 bd) bd))
          clear z4 bd
          refine wpSeqM_step rfl ?_
          go_wp2_with fail
          refine ⟨⟨⟨_, H4.out.1.trans (Fz.of_below (below_new w4 _))⟩, rfl⟩, ?_⟩
          have hbase : w.heap.size ≤ w4.heap.size := by have := H4.out.2.2.size; omega
          refine wpSeqM_step rfl ?_
          refine wpList_app1 Try.underlying52 info4 (by omega) rfl (.tmp 18) (.tmp 42) rfl w.heap.size _ k (bL (rbL t ids k)) (.bool xb) rfl rfl w4 H4.out.2.1 rfl rfl (by omega) hbase ?_
          intro g cp w7 ho7 hg7 hn7 _
          have sw4 := H4.out.2.2.size
          have hres : w7.ownsRow w.heap.size 4 1 (.slice (some ⟨g, 0, none⟩) (k + 1) cp) (k + 1) (bL (rbL t ids (k + 1))) := by rw [HO.out.2.2.2.2, bL_snoc2, HV.out]; exact ho7
          have nb7 : ∀ j, (Value.slice (some ⟨g, 0, none⟩) (k + 1) cp).ownBlock = some j → w1.heap.size ≤ j := fun j hj => by
            simp [Value.ownBlock] at hj
            subst hj
            rcases hn7 with h | h
            · exact HO.out.2.1 _ h
            · have := H1.out.2.2.2.2.2.2; omega
          have w12 := H1.out.2.2.2.2.2.2
          have b7 : Below w1.heap.size W2 w7 := (HO.out.2.2.1.trans (H4.out.2.2.mono (by have := H1.out.2.2.2.2.2.2; omega))).trans ⟨hg7.os, hg7.tape, hg7.output, hg7.size, fun b hb' => hg7.block b (by omega) (fun e => by have := HO.out.2.1 b e.symm; omega)⟩
          have HF := Lib.hid (And.intro hres (And.intro nb7 b7))
          clear hres nb7 b7 ho7 hg7 hn7
          go_wp2_with fail
          refine wpSeqM_step rfl ?_
          go_wp2_with fail
          unfold wpSeqM
          go_wp2_with fail
          go_roundw
          case rel => exact ⟨k + 1, by go_num, by omega, by omega, HF.out.1, HF.out.2.1, HF.out.2.2⟩
          case measure => simp [RowKit.intOf]; omega
end Go.Proofs.Ytegkogadceodlaa.L

namespace Go.Proofs.Ytegkogadceodlaa.L
open Go.RowKit Go.Shelf Go.Lib Go.Sort

theorem known_known (t : Tx) : knownT (knownT t) = knownT t := by
  by_cases h : rightT t = true
  · have e : knownT t = t := by unfold knownT; rw [if_pos h]
    rw [e, e]
  · have e : knownT t = ⟨[], [], []⟩ := by unfold knownT; rw [if_neg h]
    rw [e]
    unfold knownT
    split <;> rfl
theorem known_small (t : Tx) : (knownT t).rs.length ≤ 1000 ∧ ∀ x ∈ (knownT t).rs, szE x.l ≤ 100000 ∧ szE x.r ≤ 100000 := by
  refine ⟨?_, fun x hx => ?_⟩
  · unfold knownT
    split
    · rename_i h
      unfold rightT at h
      simp only [Bool.and_eq_true, decide_eq_true_eq] at h
      omega
    · simp
  · have hr := known_right t x hx
    unfold rightR at hr
    simp only [Bool.and_eq_true] at hr
    have h1 := right_size hr.1
    have h2 := right_size hr.2.1
    omega
/-- Both answers are one. -/
theorem breaks_ref (t : Tx) (ids : List Int) : breaksR MatB t ids = refBreaks (knownT t) ids := by
  unfold breaksR refBreaks
  by_cases h0 : ids.length = 0
  · rw [if_pos h0, if_pos h0]
  · rw [if_neg h0, if_neg h0]
    congr 1
    unfold brL rbL
    congr 1
    refine List.map_congr_left fun i hi => ?_
    rw [List.mem_range'_1] at hi
    have hil : i < ids.length := by omega
    have hw := which_ref (known_right t) ids (by omega : 0 < i) hil
    have rI := rdI (knownT t).ig (knownT t).kp ids
    obtain ⟨hd, hhd⟩ : ∃ h, (rdF (knownT t).ig (knownT t).kp ids).1[i]? = some h := ⟨_, List.getElem?_eq_getElem (by rw [rI.h]; exact hil)⟩
    unfold breakR refBr
    rw [hw]
    cases hd with
    | true =>
      have hr : refAt (knownT t) ids i = -2 := by unfold refAt; rw [if_pos hhd]
      rw [if_pos hhd, hr]
      rfl
    | false =>
      rw [if_neg (by rw [hhd]; simp)]
      rcases refAt_rng (knownT t) ids i with h | h | ⟨q, x, hq, h⟩
      · exfalso
        unfold refAt at h
        rw [if_neg (by rw [hhd]; simp)] at h
        rcases whF_rng (refF (rdF (knownT t).ig (knownT t).kp ids).2.1 (((rdF (knownT t).ig (knownT t).kp ids).2.2[i]?).getD 0).toNat) (knownT t).rs 0 with e | ⟨k, x, _, e, _⟩
        · rw [e] at h; omega
        · rw [e] at h; omega
      · rw [h]
        rfl
      · rw [h, show max ((q : Nat) : Int) (-1) = (q : Int) by omega, if_neg (by omega), Int.toNat_natCast, hq]
        simp
set_option maxRecDepth 100000 in
set_option maxHeartbeats 8000000 in
theorem breaks_law (AWK : AwakeOk) (t : Tx) (v : Value) (ids : List Int) (A : Option Addr) (cap : Nat) (w : World) (h : TxV w w.heap.size t v) (hi : IS w w.heap.size ids A cap) :
    Calls Try.prog 6 #[v, .slice A ids.length cap] w fun e w' => e = .returned (.bool true) ∧ Below w.heap.size w w' := by
  have h' := h
  obtain ⟨A1, c1, A2, c2, A3, c3, rfl, _, _, _⟩ := h'
  have hil := hi.len
  obtain ⟨n, hN⟩ : ∃ n, ids.length = n := ⟨_, rfl⟩
  obtain ⟨W0, hW0⟩ : ∃ W0, w.alloc (.cells #[.slice A1 t.ig.length c1, .slice A2 t.kp.length c2, .slice A3 t.rs.length c3] 50) = W0 := ⟨_, rfl⟩
  have hb0 : Below w.heap.size w W0 := by rw [← hW0]; exact below_new _ _
  have hz0 : W0.heap.size = w.heap.size + 1 := by rw [← hW0]; simp
  have x0 : Cells W0 w.heap.size 50 #[.slice A1 t.ig.length c1, .slice A2 t.kp.length c2, .slice A3 t.rs.length c3] := by rw [← hW0]; exact cells_new _ _ _
  have GR := great_any t _ W0 (h.on hb0)
  have HW := Lib.hid hW0
  have HH := Lib.hid (And.intro h (And.intro hi (And.intro hN (And.intro hb0 (And.intro hz0 x0)))))
  rw [hN] at hil ⊢
  have HA := Lib.hid AWK
  clear h hi hN hW0 hb0 hz0 x0 AWK
  go_enter Try.func6, Try.ntmps6
  go_wp2_with fail
  rw [HW.out]
  refine GR.mono ?_
  rintro r w1 ⟨⟨g, rfl, hgs⟩, hb1⟩
  have hbw1 := HH.out.2.2.2.1.trans (hb1.mono HH.out.2.2.2.1.size)
  have HG := Lib.hid (And.intro hb1 (And.intro hbw1 hgs))
  clear GR hb1 hbw1 hgs
  cases g with
  | true =>
    go_wp2_with fail
    refine (HA.out _).mono ?_
    rintro r w2 ⟨rfl, hb2⟩
    have HB := Lib.hid (HG.out.2.1.trans (hb2.mono HG.out.2.1.size))
    clear hb2
    go_wp2_with fail
    go_ret
    exact ⟨rfl, HB.out⟩
  | false =>
    by_cases h60 : 14 < n
    · have i1 : (14 : Int) < (n : Int) := by omega
      clear h60
      go_wp2_with fail
      refine (HA.out _).mono ?_
      rintro r w2 ⟨rfl, hb2⟩
      have HB := Lib.hid (HG.out.2.1.trans (hb2.mono HG.out.2.1.size))
      clear hb2
      go_wp2_with fail
      go_ret
      exact ⟨rfl, HB.out⟩
    · have i1 : ¬ (14 : Int) < (n : Int) := by omega
      go_wp2_with fail
      refine (HA.out _).mono ?_
      rintro r w2 ⟨rfl, hb2⟩
      have hbw2 := HG.out.2.1.trans (hb2.mono HG.out.2.1.size)
      have x2 := HH.out.2.2.2.2.2.on (HG.out.1.trans (hb2.mono HG.out.1.size))
      have q0 : ∀ p : Later (fun _ => False) w2, p.W.cell? ⟨w.heap.size, 0, none⟩ = some (.slice A1 t.ig.length c1) := fun p => cell_later (x2.cell 0) (fun hf => hf) p
      have q1 : ∀ p : Later (fun _ => False) w2, p.W.cell? ⟨w.heap.size, 1, none⟩ = some (.slice A2 t.kp.length c2) := fun p => cell_later (x2.cell 1) (fun hf => hf) p
      have q2 : ∀ p : Later (fun _ => False) w2, p.W.cell? ⟨w.heap.size, 2, none⟩ = some (.slice A3 t.rs.length c3) := fun p => cell_later (x2.cell 2) (fun hf => hf) p
      have HB := Lib.hid (And.intro hbw2 h60)
      clear hb2 hbw2 x2 h60
      go_wp2_with fail
      refine wp_region_mix0 (fun i => if i = 0 then 0 else if i = 2 then 0 else if i = 4 then 0 else if i = 6 then 0 else 2) [0, 2, 4, 6] [1, 3, 5, 7, 8, 9] (fun w' => ∃ p : Later (fun _ => False) w2, w' = p.W) (by kernel_rfl) (by kernel_rfl) ⟨⟨_, Fz.drew w2⟩, rfl⟩ ?_
      simp only [opsAt, List.filterMap_cons, List.filterMap_nil, List.getElem?_toArray, List.getElem?_cons_zero, List.getElem?_cons_succ]
      change wpQuiet _ _ _ _ [_, _, _, _] _
      repeat (go_big_quiet_step (fail))
      refine wpQuiet_nil ?_
      clear q0 q1 q2
      have zz := Fz.drew (X := fun _ => False) w2
      have bd := zz.below (B := w2.heap.size) (Nat.le_refl _) (fun _ _ h => h)
      obtain ⟨W4, hW4⟩ : ∃ V, ({ w2 with drawn := w2.drawn + 1 } : World) = V := ⟨_, rfl⟩
      rw [hW4] at zz bd ⊢
      clear hW4
      have b4 := HB.out.1.trans (bd.mono HB.out.1.size)
      have h60 := HB.out.2
      have hsm := HG.out.2.2 (by trivial)
      unfold smallT at hsm
      have C1 := toT_any t _ W4 (HH.out.1.on b4) (fun x hx => by have := hsm.2.2.2 x hx; omega) (by omega)
      have H4 := Lib.hid (And.intro zz b4)
      clear zz bd b4 hsm
      refine wpSeqM_step rfl ?_
      go_wp2_with fail
      refine C1.mono ?_
      rintro r W5 ⟨v5, rfl, hv5, hb5⟩
      clear C1
      have s4 := H4.out.2.size
      have b5 := H4.out.2.trans (hb5.mono s4)
      have C2 := BreaksG_any MatB matB_con t v5 ids A cap W5 hv5 (HH.out.2.1.on b5) (by rw [HH.out.2.2.1]; omega)
      rw [HH.out.2.2.1] at C2
      have H5 := Lib.hid (And.intro (H4.out.1.trans (Fz.of_below hb5)) b5)
      obtain ⟨B1, d1, B2, d2, B3, d3, rfl, _⟩ := hv5
      clear hb5 b5
      go_wp2_with fail
      refine ⟨⟨⟨_, H5.out.1⟩, rfl⟩, ?_⟩
      refine wpSeqM_step rfl ?_
      go_wp2_with fail
      refine C2.mono ?_
      rintro r W6 ⟨v6, rfl, hr6, hb6⟩
      clear C2
      obtain ⟨A6, c6, rfl⟩ := own_formN hr6
      have s5 := H5.out.2.size
      have b6 := H5.out.2.trans (hb6.mono s5)
      have C3 := known_any t _ W6 (HH.out.1.on b6)
      have e6 := breaksR_len MatB t ids
      have hbs := (BS.of_own hr6).2
      rw [e6, HH.out.2.2.1] 
      have H6 := Lib.hid (And.intro hbs (And.intro (H5.out.1.trans (Fz.of_below hb6)) (And.intro b6 e6)))
      clear hr6 hb6 b6 hbs e6
      go_wp2_with fail
      refine ⟨⟨⟨_, H6.out.2.1⟩, rfl⟩, ?_⟩
      refine wpSeqM_step rfl ?_
      go_wp2_with fail
      refine C3.mono ?_
      rintro r W7 ⟨⟨v7, rfl, hv7⟩, hb7⟩
      clear C3
      have s6 := H6.out.2.2.1.size
      have b7 := H6.out.2.2.1.trans (hb7.mono s6)
      have C4 := rbreaks_any (knownT t) v7 ids A cap W7 hv7 (HH.out.2.1.on b7) (by rw [HH.out.2.2.1]; omega) (known_small t).1 (known_small t).2
      rw [HH.out.2.2.1] at C4
      have H7 := Lib.hid (And.intro (H6.out.1.on hb7) (And.intro (H6.out.2.1.trans (Fz.of_below hb7)) b7))
      obtain ⟨E1, f1, E2, f2, E3, f3, rfl, _⟩ := hv7
      clear hb7 b7
      go_wp2_with fail
      refine ⟨⟨⟨_, H7.out.2.1⟩, rfl⟩, ?_⟩
      refine wpSeqM_step rfl ?_
      go_wp2_with fail
      refine C4.mono ?_
      rintro r W8 ⟨u8, rfl, hr8, hb8⟩
      obtain ⟨A8, c8, rfl⟩ := own_formN hr8
      have hs8 := (BS.of_own hr8).2
      have e8 := refBreaks_len (knownT t) ids
      rw [e8, HH.out.2.2.1]
      clear C4
      have s7 := H7.out.2.2.size
      have b8 := H7.out.2.2.trans (hb8.mono s7)
      have C5 := is_any _ _ A6 A8 c6 c8 W8 (H7.out.1.on hb8) hs8
      rw [H6.out.2.2.2, e8, HH.out.2.2.1, decide_eq_true (breaks_ref t ids)] at C5
      have H8 := Lib.hid (And.intro (H7.out.2.1.trans (Fz.of_below hb8)) b8)
      clear hb8 b8 hs8 hr8 e8
      go_wp2_with fail
      refine ⟨⟨⟨_, H8.out.1⟩, rfl⟩, ?_⟩
      refine wpSeqM_step rfl ?_
      go_wp2_with fail
      refine C5.mono ?_
      rintro r W9 ⟨rfl, hb9⟩
      clear C5
      have H9 := Lib.hid (And.intro (H8.out.1.trans (Fz.of_below hb9)) (H8.out.2.trans (hb9.mono H8.out.2.size)))
      clear hb9
      go_wp2_with fail
      refine ⟨⟨⟨_, H9.out.1⟩, rfl⟩, ?_⟩
      refine wpSeqM_step rfl ?_
      go_wp2_with fail
      refine ⟨⟨⟨_, H9.out.1⟩, rfl⟩, ?_⟩
      unfold wpSeqM
      go_wp2_with fail
      go_ret
      exact ⟨rfl, H9.out.2⟩
end Go.Proofs.Ytegkogadceodlaa.L

