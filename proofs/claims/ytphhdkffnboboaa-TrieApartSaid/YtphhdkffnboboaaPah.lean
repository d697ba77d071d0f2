/-
  The first run of layer 3: the document's example.
  Contracts: virguleref02.In.
  Contracts: virguleref03.Get; the law's own great and may.
  Contracts: virguleref03.Get; the law's own may.
-/
import Derived.Test.YtphhdkffnboboaaPag
import Derived.Test.YtphhdkffnboboaaPab
import Derived.Test.YtphhdkffnboboaaPaa
namespace Go.Proofs.Ytphhdkffnboboaa
open Go.RowKit Go.Shelf
open Go.Lib Go.Great Go.Maps

theorem dd_first (F : Nat → Int) : dd F 1 = [0] := by rw [dd_succ]; rfl
theorem dd_one (F : Nat → Int) (h : ∀ i, 1 ≤ i → i < 4352 → sameB F 0 i = true) : ∀ m, m + 1 ≤ 4352 → dd F (m + 1) = [0] := by
  intro m
  induction m with
  | zero => intro _; exact dd_first F
  | succ m ih =>
    intro hm
    rw [dd_succ, ih (by omega), if_pos (by simp [h (m + 1) (by omega) (by omega)])]
theorem dd_two (F : Nat → Int) (h0 : sameB F 0 1 = false) (h : ∀ i, 1 ≤ i → i < 4352 → sameB F 1 i = true) : ∀ m, m + 2 ≤ 4352 → dd F (m + 2) = [0, 1] := by
  intro m
  induction m with
  | zero => intro _; rw [dd_succ, dd_first, if_neg (by simp [h0])]; rfl
  | succ m ih =>
    intro hm
    rw [dd_succ, ih (by omega), if_pos (by simp [h (m + 2) (by omega) (by omega)])]
theorem sameB_of (F : Nat → Int) (k i : Nat) (h : ∀ j, j < 256 → F (256 * k + j) = F (256 * i + j)) : sameB F k i = true := by
  unfold sameB
  rw [List.all_eq_true]
  intro j hj
  rw [h j (List.mem_range.1 hj)]
  simp
theorem sameB_not (F : Nat → Int) (k i j : Nat) (hj : j < 256) (h : F (256 * k + j) ≠ F (256 * i + j)) : sameB F k i = false := by
  rw [Bool.eq_false_iff]
  intro hs
  unfold sameB at hs
  have := List.all_eq_true.1 hs j (List.mem_range.2 hj)
  exact h (eq_of_beq this)

def awEs (N : Nat) : List En := [⟨some ⟨N, 0, none⟩, 1, [(97, 99)], 5⟩, ⟨some ⟨N + 1, 0, none⟩, 1, [(99, 99)], 7⟩]
def awF (i : Nat) : Int := if i = 99 then 7 else if i = 97 ∨ i = 98 then 5 else 0
theorem aw_fold (N : Nat) (i : Nat) : (awEs N).foldl (fun v e => if hasR e.xs i then e.c else v) 0 = awF i := by
  simp only [awEs, List.foldl_cons, List.foldl_nil, hasR, List.any_cons, List.any_nil, Bool.or_false, Bool.and_eq_true, decide_eq_true_eq, awF]
  by_cases c : i = 99
  · subst c; rfl
  · rw [if_neg (by omega), if_neg c]
    by_cases c2 : i = 97 ∨ i = 98
    · rw [if_pos (by omega), if_pos c2]
    · rw [if_neg (by omega), if_neg c2]
theorem aw_dd (F : Nat → Int) (h : ∀ i : Nat, i < 1114112 → F i = awF i) : (dd F 4352).length = 2 := by
  have := dd_two F (sameB_not F 0 1 97 (by omega) (by rw [h _ (by omega), h _ (by omega)]; decide)) (fun i h1 h2 => sameB_of F 1 i fun j hj => by
    rw [h _ (by omega), h _ (by omega)]
    unfold awF
    rw [if_neg (by omega), if_neg (by omega), if_neg (by omega), if_neg (by omega)]) 4350 (by omega)
  rw [this]
  rfl
theorem aw_heap (w : World) (a b c : Obj) : (((w.alloc a).alloc b).alloc c).heap[w.heap.size]? = some a ∧ (((w.alloc a).alloc b).alloc c).heap[w.heap.size + 1]? = some b ∧ (((w.alloc a).alloc b).alloc c).heap[w.heap.size + 1 + 1]? = some c ∧ (((w.alloc a).alloc b).alloc c).heap.size = w.heap.size + 1 + 1 + 1 := by
  have s1 : (w.alloc a).heap.size = w.heap.size + 1 := by simp
  have s2 : ((w.alloc a).alloc b).heap.size = w.heap.size + 1 + 1 := by simp
  have s3 : (((w.alloc a).alloc b).alloc c).heap.size = w.heap.size + 1 + 1 + 1 := by simp
  have k2 := (below_new ((w.alloc a).alloc b) c).block
  have k1 := (below_new (w.alloc a) b).block
  have n3 := heap_alloc_new ((w.alloc a).alloc b) c
  have n2 := heap_alloc_new (w.alloc a) b
  have n1 := heap_alloc_new w a
  rw [s2] at n3 k2
  rw [s1] at n2 k1
  exact ⟨(k2 _ (by omega)).trans ((k1 _ (by omega)).trans n1), (k2 _ (by omega)).trans n2, n3, s3⟩
theorem aw_ES (w : World) : ES (((w.alloc (.cells #[.int .i32 97, .int .i32 99] 70)).alloc (.cells #[.int .i32 99, .int .i32 99] 70)).alloc (.cells #[.slice (some ⟨w.heap.size, 0, none⟩) 1 1, .int .i64 5, .slice (some ⟨w.heap.size + 1, 0, none⟩) 1 1, .int .i64 7] 72))
    (((w.alloc (.cells #[.int .i32 97, .int .i32 99] 70)).alloc (.cells #[.int .i32 99, .int .i32 99] 70)).alloc (.cells #[.slice (some ⟨w.heap.size, 0, none⟩) 1 1, .int .i64 5, .slice (some ⟨w.heap.size + 1, 0, none⟩) 1 1, .int .i64 7] 72)).heap.size (some ⟨w.heap.size + 1 + 1, 0, none⟩) 2 (awEs w.heap.size) := by
  obtain ⟨h0, h1, h2, h3⟩ := aw_heap w (.cells #[.int .i32 97, .int .i32 99] 70) (.cells #[.int .i32 99, .int .i32 99] 70) (.cells #[.slice (some ⟨w.heap.size, 0, none⟩) 1 1, .int .i64 5, .slice (some ⟨w.heap.size + 1, 0, none⟩) 1 1, .int .i64 7] 72)
  generalize ((w.alloc (.cells #[.int .i32 97, .int .i32 99] 70)).alloc (.cells #[.int .i32 99, .int .i32 99] 70)).alloc (.cells #[.slice (some ⟨w.heap.size, 0, none⟩) 1 1, .int .i64 5, .slice (some ⟨w.heap.size + 1, 0, none⟩) 1 1, .int .i64 7] 72) = W at *
  generalize w.heap.size = N at *
  have one : ∀ (x y : Int), I32 (x, y) → ∀ b : Nat, W.cell? ⟨b, 0, none⟩ = some (.int .i32 x) → W.cell? ⟨b, 1, none⟩ = some (.int .i32 y) → b < W.heap.size → RS W W.heap.size (some ⟨b, 0, none⟩) 1 [(x, y)] := fun x y hI b h1 h2 h3 =>
    ⟨Nat.le_refl _, by unfold maxLen; omega, by simpa using hI, fun _ => ⟨b, 0, rfl, h3, fun i z hz => by
      match i, hz with
      | 0, hz => simp at hz; subst hz; exact ⟨h1, h2⟩
      | i + 1, hz => simp at hz⟩⟩
  refine ⟨Nat.le_refl _, by unfold maxLen; omega, fun e he => ?_, fun _ => ⟨_, 0, rfl, by omega, fun i z hz => ?_⟩⟩
  · simp only [awEs, List.mem_cons, List.not_mem_nil, or_false] at he
    rcases he with rfl | rfl
    · exact one 97 99 (by unfold I32; omega) _ (cell_of_row W _ 0 _ _ _ h0) (cell_of_row W _ 1 _ _ _ h0) (by omega)
    · exact one 99 99 (by unfold I32; omega) _ (cell_of_row W _ 0 _ _ _ h1) (cell_of_row W _ 1 _ _ _ h1) (by omega)
  · match i, hz with
    | 0, hz => simp [awEs] at hz; subst hz; exact ⟨cell_of_row W _ 0 _ _ _ h2, cell_of_row W _ 1 _ _ _ h2⟩
    | 1, hz => simp [awEs] at hz; subst hz; exact ⟨cell_of_row W _ 2 _ _ _ h2, cell_of_row W _ 3 _ _ _ h2⟩
    | i + 2, hz => simp [awEs] at hz

set_option maxHeartbeats 4000000 in
set_option maxRecDepth 100000 in
theorem taw_any (w : World) : Calls Try.prog 14 #[] w fun e w' => e = .returned (.bool true) ∧ Below w.heap.size w w' := by
  have C := Lib.hid (new_any 0 _ 2 (awEs w.heap.size) _ (aw_ES w) (fun h => by cases h) (by simp [awEs]) (by simp [awEs]))
  have hbw : Below w.heap.size w (((w.alloc (.cells #[.int .i32 97, .int .i32 99] 70)).alloc (.cells #[.int .i32 99, .int .i32 99] 70)).alloc (.cells #[.slice (some ⟨w.heap.size, 0, none⟩) 1 1, .int .i64 5, .slice (some ⟨w.heap.size + 1, 0, none⟩) 1 1, .int .i64 7] 72)) :=
    ((below_new w _).alloc (by simp) _).alloc (by simp; omega) _
  have HB := Lib.hid hbw
  have G := Lib.hid get_any
  have D := Lib.hid blocks_any
  clear hbw
  go_enter Try.func14, Try.ntmps14
  go_wp2_with fail
  refine C.out.mono ?_
  rintro e w1 ⟨hb1, hp⟩
  have hok : (cls 0 && !(awEs w.heap.size).any wrongE) = true := by rfl
  rw [if_pos hok] at hp
  obtain ⟨T, F, rfl, hF, hFi, hT⟩ := hp
  have hFa : ∀ i : Nat, i < 1114112 → F i = awF i := fun i hi => (hFi i hi).trans (aw_fold _ i)
  have hbz := HB.out.trans (hb1.mono HB.out.size)
  have H := Lib.hid (And.intro hT (And.intro hF (And.intro hFa hbz)))
  clear hb1 hok hF hFi hT hFa hbz
  go_wp2_with fail
  refine (G.out T 0 F 98 w1 H.out.1 H.out.2.1 (by omega) (by omega)).mono ?_
  rintro e w2 ⟨rfl, hb2⟩
  have e2 : (if (98 : Int) < 0 ∨ (1114111 : Int) < 98 then 0 else F (98 : Int).toNat) = 5 := by rw [if_neg (by omega)]; exact H.out.2.2.1 98 (by omega)
  rw [e2]
  have hT2 := H.out.1.below hb2
  have hbz2 := H.out.2.2.2.trans (hb2.mono H.out.2.2.2.size)
  have H2 := Lib.hid (And.intro hT2 hbz2)
  clear hT2 hbz2 hb2 e2
  go_wp2_with fail
  refine (G.out T 0 F 99 w2 H2.out.1 H.out.2.1 (by omega) (by omega)).mono ?_
  rintro e w3 ⟨rfl, hb3⟩
  have e2 : (if (99 : Int) < 0 ∨ (1114111 : Int) < 99 then 0 else F (99 : Int).toNat) = 7 := by rw [if_neg (by omega)]; exact H.out.2.2.1 99 (by omega)
  rw [e2]
  have hT2 := H2.out.1.below hb3
  have hbz2 := H2.out.2.trans (hb3.mono H2.out.2.size)
  have H3 := Lib.hid (And.intro hT2 hbz2)
  clear hT2 hbz2 hb3 e2
  go_wp2_with fail
  refine (G.out T 0 F 100 w3 H3.out.1 H.out.2.1 (by omega) (by omega)).mono ?_
  rintro e w4 ⟨rfl, hb4⟩
  have e2 : (if (100 : Int) < 0 ∨ (1114111 : Int) < 100 then 0 else F (100 : Int).toNat) = 0 := by rw [if_neg (by omega)]; exact H.out.2.2.1 100 (by omega)
  rw [e2]
  have hT2 := H3.out.1.below hb4
  have hbz2 := H3.out.2.trans (hb4.mono H3.out.2.size)
  have H4 := Lib.hid (And.intro hT2 hbz2)
  clear hT2 hbz2 hb4 e2
  go_wp2_with fail
  refine (D.out T 0 F w4 H4.out.1).mono ?_
  rintro e w5 ⟨rfl, hb5⟩
  rw [aw_dd F H.out.2.2.1]
  have hbz5 := H4.out.2.trans (hb5.mono H4.out.2.size)
  go_wp2_with fail
  go_ret
  exact ⟨rfl, hbz5⟩
end Go.Proofs.Ytphhdkffnboboaa

namespace Go.Proofs.Ytphhdkffnboboaa
open Go.RowKit Go.Shelf
open Go.Lib

set_option maxHeartbeats 2000000 in
theorem in_any (A : Option Addr) (cap : Nat) (xs : List Rng) (r : Int) (_hr0 : -2147483648 ≤ r) (_hr1 : r ≤ 2147483647) (w : World) (h : RS w w.heap.size A cap xs) :
    Calls Try.prog 48 #[.slice A xs.length cap, .int .i32 r] w fun e w' => e = .returned (.bool (hasR xs r)) ∧ w' = w := by
  have H := Lib.hid h
  have hm : xs.length ≤ maxLen := by have := h.1; have := h.2.1; omega
  obtain ⟨n, hn⟩ : ∃ n, xs.length = n := ⟨_, rfl⟩
  have HN := Lib.hid hn
  unfold maxLen at hm
  rw [hn] at hm ⊢
  clear h hn
  go_enter Try.func48, Try.ntmps48
  go_wp2
  go_loopw [5] (fun i wr => ∃ k : Nat, i = .int .i64 k ∧ k ≤ n ∧ hasR (xs.take k) r = false ∧ wr = w) (fun i _ => n - (RowKit.intOf i).toNat)
  case atStart => exact ⟨0, rfl, Nat.zero_le _, rfl, rfl⟩
  case round =>
    obtain ⟨k, rfl, hk, hF, rfl⟩ := hrel
    have HF := Lib.hid hF
    clear hF
    by_cases hlt : k < n
    · obtain ⟨x, hx⟩ : ∃ x, xs[k]? = some x := ⟨xs[k]'(by have := HN.out; omega), List.getElem?_eq_getElem _⟩
      obtain ⟨b, o, rfl, hbl, hRg⟩ := H.out.2.2.2 (by intro e; rw [e] at hx; simp at hx)
      obtain ⟨q1, q2⟩ := hRg k x hx
      have hi := H.out.i32 hx
      have HS := Lib.hid (hasR_step xs k x r hx)
      clear hRg hx
      obtain ⟨lo, hi'⟩ := x
      have i1 : (k : Int) < (n : Int) := by omega
      by_cases c1 : lo ≤ r
      · by_cases c2 : r ≤ hi'
        · have HT := Lib.hid (hasR_take xs (k + 1) r (by rw [HS.out]; simp [c1, c2]))
          go_wp2
          go_ret
          exact ⟨by rw [HT.out]; rfl, rfl⟩
        · have d : decide (r ≤ hi') = false := by simpa using c2
          have HT := Lib.hid (show hasR (xs.take (k + 1)) r = false by rw [HS.out, HF.out]; simp [c2])
          go_wp2
          go_roundw
          case rel => exact ⟨k + 1, by go_num, by omega, HT.out, trivial⟩
          case measure => simp [RowKit.intOf]; omega
      · have d : decide (lo ≤ r) = false := by simpa using c1
        have HT := Lib.hid (show hasR (xs.take (k + 1)) r = false by rw [HS.out, HF.out]; simp [c1])
        go_wp2
        go_roundw
        case rel => exact ⟨k + 1, by go_num, by omega, HT.out, trivial⟩
        case measure => simp [RowKit.intOf]; omega
    · have hkn : k = n := by omega
      have HT := Lib.hid (show hasR xs r = false by have h := HF.out; rwa [hkn, ← HN.out, List.take_length] at h)
      subst hkn
      go_wp2
      go_ret
      exact ⟨by rw [HT.out]; rfl, rfl⟩

end Go.Proofs.Ytphhdkffnboboaa

namespace Go.Proofs.Ytphhdkffnboboaa
open Go.RowKit Go.Shelf
open Go.Lib Go.Great Go.Maps

/-- More than is asked of. -/
def greatE (es : List En) : Bool := (es.take 12).any (fun e => decide (12 < e.xs.length)) || decide (12 < es.length)
theorem take_any_snoc {p : En → Bool} (es : List En) (k : Nat) (e : En) (h : es[k]? = some e) : (es.take (k + 1)).any p = ((es.take k).any p || p e) := by
  rw [List.take_add_one, h]
  simp

set_option maxHeartbeats 4000000 in
set_option maxRecDepth 100000 in
theorem great_any (A : Option Addr) (cap : Nat) (es : List En) (w : World) (h : ES w w.heap.size A cap es) : Calls Try.prog 13 #[.slice A es.length cap] w fun e w' => e = .returned (.bool (greatE es)) ∧ w' = w := by
  have H := Lib.hid h
  have hm : es.length ≤ maxLen := by have := h.1; have := h.2.1; omega
  unfold maxLen at hm
  obtain ⟨n, hn⟩ : ∃ n, es.length = n := ⟨_, rfl⟩
  have HN := Lib.hid hn
  obtain ⟨R, hR⟩ : ∃ R, R = greatE es := ⟨_, rfl⟩
  have HR := Lib.hid hR
  rw [← hR, hn]
  rw [hn] at hm
  clear h hn hR
  go_enter Try.func13, Try.ntmps13
  go_wp2_with fail
  go_loopw [3] (fun i wr => ∃ k : Nat, i = .int .i64 (k : Int) ∧ k ≤ n ∧ k ≤ 12 ∧ wr = w ∧ (es.take k).any (fun e => decide (12 < e.xs.length)) = false) (fun i _ => n - (RowKit.intOf i).toNat)
  case atStart => exact ⟨0, rfl, Nat.zero_le _, Nat.zero_le _, rfl, rfl⟩
  case round =>
    obtain ⟨k, rfl, hk, hk2, rfl, hany⟩ := hrel
    have HA := Lib.hid hany
    clear hany
    by_cases hlt : k < n ∧ k < 12
    · obtain ⟨x, hx⟩ : ∃ x, es[k]? = some x := ⟨es[k]'(by rw [HN.out]; exact hlt.1), List.getElem?_eq_getElem _⟩
      obtain ⟨b, o, rfl, hbl, hE⟩ := H.out.2.2.2 (by intro e; rw [e] at hx; simp at hx)
      obtain ⟨q1, q2⟩ := hE k x hx
      have HX := Lib.hid (take_any_snoc (p := fun e => decide (12 < e.xs.length)) es k x hx)
      have HXX := Lib.hid hx
      have i1 : (k : Int) < (n : Int) := by omega
      have i2 : (k : Int) < 12 := by omega
      obtain ⟨A1, cap1, xs1, c1⟩ := x
      simp only at q1 q2
      obtain ⟨n1, hn1⟩ : ∃ n1, xs1.length = n1 := ⟨_, rfl⟩
      rw [hn1] at q1
      have HN1 := Lib.hid hn1
      clear hE hx hn1
      by_cases hgr : 12 < n1
      · have i3 : (12 : Int) < (n1 : Int) := by omega
        have hRt : R = true := by
          rw [HR.out]
          unfold greatE
          rw [Bool.or_eq_true]
          left
          rw [List.any_eq_true]
          refine ⟨⟨A1, cap1, xs1, c1⟩, ?_, by simp only [decide_eq_true_eq]; rw [HN1.out]; exact hgr⟩
          have := HXX.out
          refine List.mem_of_getElem? (i := k) ?_
          rw [List.getElem?_take, if_pos hlt.2]
          exact this
        have HRT := Lib.hid hRt
        clear hRt
        go_wp2_with fail
        go_ret
        exact ⟨HRT.out ▸ rfl, rfl⟩
      · have i3 : ¬ (12 : Int) < (n1 : Int) := by omega
        have d3 : decide ((12 : Int) < (n1 : Int)) = false := by simp; omega
        have hnx : (es.take (k + 1)).any (fun e => decide (12 < e.xs.length)) = false := by
          rw [HX.out, HA.out, Bool.false_or]
          simp only [decide_eq_false_iff_not]
          rw [HN1.out]
          exact hgr
        have HNX := Lib.hid hnx
        clear hnx
        go_wp2_with fail
        go_roundw
        case rel => exact ⟨k + 1, by go_num, by omega, by omega, by trivial, HNX.out⟩
        case measure => simp [RowKit.intOf]; omega
    · have hfin : R = decide ((12 : Int) < (n : Int)) := by
        rw [HR.out]
        unfold greatE
        rw [HN.out]
        by_cases c : 12 < n
        · have hk12 : k = 12 := by omega
          rw [hk12] at HA
          simp [c]
          omega
        · have e : es.take 12 = es.take k := by
            rw [List.take_of_length_le (by rw [HN.out]; omega), List.take_of_length_le (by rw [HN.out]; omega)]
          rw [e, HA.out]
          simp [c]
          omega
      have HFIN := Lib.hid hfin
      clear hfin
      by_cases c1 : k < n
      · have i1 : (k : Int) < (n : Int) := by omega
        have i2 : ¬ (k : Int) < 12 := by omega
        have d2 : decide ((k : Int) < 12) = false := by simp; omega
        go_wp2_with fail
        go_ret
        exact ⟨HFIN.out ▸ rfl, rfl⟩
      · have i1 : ¬ (k : Int) < (n : Int) := by omega
        have d1 : decide ((k : Int) < (n : Int)) = false := by simp; omega
        go_wp2_with fail
        go_ret
        exact ⟨HFIN.out ▸ rfl, rfl⟩
end Go.Proofs.Ytphhdkffnboboaa

namespace Go.Proofs.Ytphhdkffnboboaa
open Go.RowKit Go.Shelf
open Go.Lib Go.Great Go.Maps

/-- What the document's answer tells of a number. -/
def hitE (r : Int) (e : En) : Bool := hasR e.xs r && decide (0 ≤ r) && decide (r ≤ 1114111)
def getE (o : Int) (es : List En) (r : Int) : Int := es.foldl (fun v e => if hitE r e then e.c else v) o
theorem getE_snoc (o : Int) (es : List En) (r : Int) (k : Nat) (e : En) (h : es[k]? = some e) : getE o (es.take (k + 1)) r = if hitE r e then e.c else getE o (es.take k) r := by
  rw [List.take_add_one, h]
  simp [getE]

set_option maxHeartbeats 4000000 in
set_option maxRecDepth 100000 in
theorem rget_any (o : Int) (A : Option Addr) (cap : Nat) (es : List En) (r : Int) (w : World) (h : ES w w.heap.size A cap es) (r0 : -2147483648 ≤ r) (r1 : r ≤ 2147483647) :
    Calls Try.prog 19 #[.int .i64 o, .slice A es.length cap, .int .i32 r] w fun e w' => e = .returned (.int .i64 (getE o es r)) ∧ w' = w := by
  have H := Lib.hid h
  have hm : es.length ≤ maxLen := by have := h.1; have := h.2.1; omega
  unfold maxLen at hm
  obtain ⟨n, hn⟩ : ∃ n, es.length = n := ⟨_, rfl⟩
  have HN := Lib.hid hn
  obtain ⟨R, hR⟩ : ∃ R, R = getE o es r := ⟨_, rfl⟩
  have HR := Lib.hid hR
  rw [← hR, hn]
  rw [hn] at hm
  clear h hn hR
  go_enter Try.func19, Try.ntmps19
  go_wp2_with fail
  go_loopw [7, 8] (fun v i wr => ∃ k : Nat, i = .int .i64 (k : Int) ∧ k ≤ n ∧ wr = w ∧ v = .int .i64 (getE o (es.take k) r)) (fun _ i _ => n - (RowKit.intOf i).toNat)
  case atStart => exact ⟨0, rfl, Nat.zero_le _, rfl, rfl⟩
  case round =>
    obtain ⟨k, rfl, hk, rfl, rfl⟩ := hrel
    by_cases hlt : k < n
    · obtain ⟨x, hx⟩ : ∃ x, es[k]? = some x := ⟨es[k]'(by rw [HN.out]; exact hlt), List.getElem?_eq_getElem _⟩
      obtain ⟨b, o', rfl, hbl, hE⟩ := H.out.2.2.2 (by intro e; rw [e] at hx; simp at hx)
      obtain ⟨q1, q2⟩ := hE k x hx
      have HX := Lib.hid (getE_snoc o es r k x hx)
      have C := in_any x.A x.cap x.xs r r0 r1 wr (H.out.2.2.1 x (List.mem_of_getElem? hx))
      have i1 : (k : Int) < (n : Int) := by omega
      unfold hitE at HX
      obtain ⟨A1, cap1, xs1, c1⟩ := x
      simp only at q1 q2 C HX
      generalize hasR xs1 r = q at *
      generalize xs1.length = n1 at *
      generalize getE o (es.take k) r = v0 at *
      have C := Lib.hid C
      clear hE hx
      cases q with
      | false =>
        simp only [Bool.false_and, Bool.false_eq_true, if_false] at HX
        go_wp2_with fail
        refine C.out.mono ?_
        rintro e w1 ⟨rfl, rfl⟩
        go_wp2_with fail
        go_roundw
        case rel => exact ⟨k + 1, by go_num, by omega, by trivial, by rw [HX.out]⟩
        case measure => simp [RowKit.intOf]; omega
      | true =>
        by_cases c0 : 0 ≤ r
        · by_cases c2 : r ≤ 1114111
          · simp only [c0, c2, decide_true, Bool.and_self, if_true] at HX
            go_wp2_with fail
            refine C.out.mono ?_
            rintro e w1 ⟨rfl, rfl⟩
            go_wp2_with fail
            go_roundw
            case rel => exact ⟨k + 1, by go_num, by omega, by trivial, by rw [HX.out]⟩
            case measure => simp [RowKit.intOf]; omega
          · have d2 : decide (r ≤ 1114111) = false := by simpa using c2
            simp only [Bool.true_and, c0, d2, decide_true, Bool.and_false, Bool.false_eq_true, if_false] at HX
            go_wp2_with fail
            refine C.out.mono ?_
            rintro e w1 ⟨rfl, rfl⟩
            go_wp2_with fail
            go_roundw
            case rel => exact ⟨k + 1, by go_num, by omega, by trivial, by rw [HX.out]⟩
            case measure => simp [RowKit.intOf]; omega
        · have d0 : decide (0 ≤ r) = false := by simpa using c0
          simp only [Bool.true_and, d0, Bool.false_and, Bool.false_eq_true, if_false] at HX
          go_wp2_with fail
          refine C.out.mono ?_
          rintro e w1 ⟨rfl, rfl⟩
          go_wp2_with fail
          go_roundw
          case rel => exact ⟨k + 1, by go_num, by omega, by trivial, by rw [HX.out]⟩
          case measure => simp [RowKit.intOf]; omega
    · have e : getE o (es.take k) r = R := by rw [HR.out, List.take_of_length_le (by rw [HN.out]; omega)]
      rw [e]
      have i1 : ¬ (k : Int) < (n : Int) := by omega
      have d1 : decide ((k : Int) < (n : Int)) = false := by simp; omega
      clear e
      go_wp2_with fail
      go_ret
      exact ⟨rfl, rfl⟩

/-- May entries, and the other class, be? -/
def mayE (o : Int) (es : List En) : Bool := cls o && es.all (fun e => right e.xs && cls e.c)
theorem mayE_snoc (o : Int) (es : List En) (k : Nat) (e : En) (h : es[k]? = some e) : mayE o (es.take (k + 1)) = (mayE o (es.take k) && (right e.xs && cls e.c)) := by
  unfold mayE
  rw [List.take_add_one, h, List.all_append]
  simp [Bool.and_assoc]
theorem mayE_wrong (o : Int) (es : List En) : mayE o es = (cls o && !es.any wrongE) := by
  unfold mayE
  congr 1
  induction es with
  | nil => rfl
  | cons x xs ih => rw [List.all_cons, List.any_cons, ih]; unfold wrongE; cases right x.xs <;> cases cls x.c <;> cases xs.any wrongE <;> rfl

set_option maxHeartbeats 8000000 in
set_option maxRecDepth 100000 in
theorem lawmay_any (o : Int) (A : Option Addr) (cap : Nat) (es : List En) (w : World) (h : ES w w.heap.size A cap es) :
    Calls Try.prog 17 #[.int .i64 o, .slice A es.length cap] w fun e w' => e = .returned (.bool (mayE o es)) ∧ Below w.heap.size w w' := by
  have H := Lib.hid h
  have hm : es.length ≤ maxLen := by have := h.1; have := h.2.1; omega
  unfold maxLen at hm
  obtain ⟨n, hn⟩ : ∃ n, es.length = n := ⟨_, rfl⟩
  have HN := Lib.hid hn
  obtain ⟨R, hR⟩ : ∃ R, R = mayE o es := ⟨_, rfl⟩
  have HR := Lib.hid hR
  rw [← hR, hn]
  rw [hn] at hm
  clear h hn hR
  obtain ⟨q0, hq0⟩ : ∃ q0, cls o = q0 := ⟨_, rfl⟩
  have HQ0 := Lib.hid hq0
  clear hq0
  have start : ∀ (P : Prop), (q0 = (decide (0 ≤ o) && decide (o ≤ 255)) → P) → P := fun P f => f (by rw [← HQ0.out]; rfl)
  have H0 : (0 ≤ o ∧ o ≤ 255 ∧ q0 = true) ∨ (decide (0 ≤ o) = false ∧ q0 = false) ∨ (0 ≤ o ∧ decide (o ≤ 255) = false ∧ q0 = false) := by
    have e : q0 = (decide (0 ≤ o) && decide (o ≤ 255)) := by rw [← HQ0.out]; rfl
    by_cases c1 : 0 ≤ o
    · by_cases c2 : o ≤ 255
      · exact .inl ⟨c1, c2, by rw [e]; simp [c1, c2]⟩
      · exact .inr (.inr ⟨c1, by simpa using c2, by rw [e]; simp [c2]⟩)
    · exact .inr (.inl ⟨by simpa using c1, by rw [e]; simp [c1]⟩)
  clear start
  rcases H0 with ⟨a1, a2, rfl⟩ | ⟨a1, rfl⟩ | ⟨a1, a2, rfl⟩
  · go_enter Try.func17, Try.ntmps17
    go_wp2_with fail
    go_loopw [5, 6] (fun v i wr => ∃ k : Nat, i = .int .i64 (k : Int) ∧ k ≤ n ∧ Below w.heap.size w wr ∧ v = .bool (mayE o (es.take k))) (fun _ i _ => n - (RowKit.intOf i).toNat)
    case atStart => exact ⟨0, rfl, Nat.zero_le _, Below.refl _ _, by unfold mayE; rw [HQ0.out]; rfl⟩
    case round =>
      obtain ⟨k, rfl, hk, hb, rfl⟩ := hrel
      by_cases hlt : k < n
      · obtain ⟨x, hx⟩ : ∃ x, es[k]? = some x := ⟨es[k]'(by rw [HN.out]; exact hlt), List.getElem?_eq_getElem _⟩
        obtain ⟨b, o', rfl, hbl, hE⟩ := H.out.2.2.2 (by intro e; rw [e] at hx; simp at hx)
        obtain ⟨q1, q2⟩ := hE k x hx
        have p1 := (hb.cell (p := ⟨b, o' + k * 2, none⟩) hbl).trans q1
        have p2 := (hb.cell (p := ⟨b, o' + k * 2 + 1, none⟩) hbl).trans q2
        have HX := Lib.hid (mayE_snoc o es k x hx)
        have C := rright_any x.A x.cap x.xs wr (((H.out.2.2.1 x (List.mem_of_getElem? hx)).below hb).mono hb.size)
        have i1 : (k : Int) < (n : Int) := by omega
        unfold cls at HX
        obtain ⟨A1, cap1, xs1, c1⟩ := x
        simp only at q1 q2 p1 p2 C HX
        generalize right xs1 = q at *
        generalize xs1.length = n1 at *
        generalize mayE o (es.take k) = v0 at *
        have C := Lib.hid C
        have HB := Lib.hid hb
        have HE := Lib.hid hE
        have HBL := Lib.hid hbl
        clear hE hx q1 q2 hb
        cases v0 with
        | false =>
          simp only [Bool.false_and] at HX
          have hbz := HB.out
          go_wp2_with fail
          go_roundw
          case rel => exact ⟨k + 1, by go_num, by omega, hbz, by rw [HX.out]⟩
          case measure => simp [RowKit.intOf]; omega
        | true =>
          cases q with
          | false =>
            simp only [Bool.false_and, Bool.and_false] at HX
            go_wp2_with fail
            refine C.out.mono ?_
            rintro e w2 ⟨rfl, hb2⟩
            have hbz := HB.out.trans (hb2.mono HB.out.size)
            go_wp2_with fail
            go_roundw
            case rel => exact ⟨k + 1, by go_num, by omega, hbz, by rw [HX.out]⟩
            case measure => simp [RowKit.intOf]; omega
          | true =>
            go_wp2_with fail
            refine C.out.mono ?_
            rintro e w2 ⟨rfl, hb2⟩
            have hbz := HB.out.trans (hb2.mono HB.out.size)
            have hsz := HB.out.size
            have p3 := (hb2.cell (p := ⟨b, o' + k * 2 + 1, none⟩) (by show b < wr.heap.size; have := HBL.out; omega)).trans p2
            by_cases d1 : 0 ≤ c1
            · by_cases d2 : c1 ≤ 255
              · simp only [d1, d2, decide_true, Bool.and_self] at HX
                go_wp2_with fail
                go_roundw
                case rel => exact ⟨k + 1, by go_num, by omega, hbz, by rw [HX.out]⟩
                case measure => simp [RowKit.intOf]; omega
              · have d2' : decide (c1 ≤ 255) = false := by simpa using d2
                simp only [d2', Bool.and_false] at HX
                go_wp2_with fail
                go_roundw
                case rel => exact ⟨k + 1, by go_num, by omega, hbz, by rw [HX.out]⟩
                case measure => simp [RowKit.intOf]; omega
            · have d1' : decide (0 ≤ c1) = false := by simpa using d1
              simp only [d1', Bool.false_and, Bool.and_false] at HX
              go_wp2_with fail
              go_roundw
              case rel => exact ⟨k + 1, by go_num, by omega, hbz, by rw [HX.out]⟩
              case measure => simp [RowKit.intOf]; omega
      · have e : mayE o (es.take k) = R := by rw [HR.out, List.take_of_length_le (by rw [HN.out]; omega)]
        rw [e]
        have i1 : ¬ (k : Int) < (n : Int) := by omega
        have d1 : decide ((k : Int) < (n : Int)) = false := by simp; omega
        clear e
        go_wp2_with fail
        go_ret
        exact ⟨rfl, hb⟩
  · go_enter Try.func17, Try.ntmps17
    go_wp2_with fail
    go_loopw [5, 6] (fun v i wr => ∃ k : Nat, i = .int .i64 (k : Int) ∧ k ≤ n ∧ Below w.heap.size w wr ∧ v = .bool (mayE o (es.take k))) (fun _ i _ => n - (RowKit.intOf i).toNat)
    case atStart => exact ⟨0, rfl, Nat.zero_le _, Below.refl _ _, by unfold mayE; rw [HQ0.out]; rfl⟩
    case round =>
      obtain ⟨k, rfl, hk, hb, rfl⟩ := hrel
      by_cases hlt : k < n
      · obtain ⟨x, hx⟩ : ∃ x, es[k]? = some x := ⟨es[k]'(by rw [HN.out]; exact hlt), List.getElem?_eq_getElem _⟩
        obtain ⟨b, o', rfl, hbl, hE⟩ := H.out.2.2.2 (by intro e; rw [e] at hx; simp at hx)
        obtain ⟨q1, q2⟩ := hE k x hx
        have p1 := (hb.cell (p := ⟨b, o' + k * 2, none⟩) hbl).trans q1
        have p2 := (hb.cell (p := ⟨b, o' + k * 2 + 1, none⟩) hbl).trans q2
        have HX := Lib.hid (mayE_snoc o es k x hx)
        have C := rright_any x.A x.cap x.xs wr (((H.out.2.2.1 x (List.mem_of_getElem? hx)).below hb).mono hb.size)
        have i1 : (k : Int) < (n : Int) := by omega
        unfold cls at HX
        obtain ⟨A1, cap1, xs1, c1⟩ := x
        simp only at q1 q2 p1 p2 C HX
        generalize right xs1 = q at *
        generalize xs1.length = n1 at *
        generalize mayE o (es.take k) = v0 at *
        have C := Lib.hid C
        have HB := Lib.hid hb
        have HE := Lib.hid hE
        have HBL := Lib.hid hbl
        clear hE hx q1 q2 hb
        cases v0 with
        | false =>
          simp only [Bool.false_and] at HX
          have hbz := HB.out
          go_wp2_with fail
          go_roundw
          case rel => exact ⟨k + 1, by go_num, by omega, hbz, by rw [HX.out]⟩
          case measure => simp [RowKit.intOf]; omega
        | true =>
          cases q with
          | false =>
            simp only [Bool.false_and, Bool.and_false] at HX
            go_wp2_with fail
            refine C.out.mono ?_
            rintro e w2 ⟨rfl, hb2⟩
            have hbz := HB.out.trans (hb2.mono HB.out.size)
            go_wp2_with fail
            go_roundw
            case rel => exact ⟨k + 1, by go_num, by omega, hbz, by rw [HX.out]⟩
            case measure => simp [RowKit.intOf]; omega
          | true =>
            go_wp2_with fail
            refine C.out.mono ?_
            rintro e w2 ⟨rfl, hb2⟩
            have hbz := HB.out.trans (hb2.mono HB.out.size)
            have hsz := HB.out.size
            have p3 := (hb2.cell (p := ⟨b, o' + k * 2 + 1, none⟩) (by show b < wr.heap.size; have := HBL.out; omega)).trans p2
            by_cases d1 : 0 ≤ c1
            · by_cases d2 : c1 ≤ 255
              · simp only [d1, d2, decide_true, Bool.and_self] at HX
                go_wp2_with fail
                go_roundw
                case rel => exact ⟨k + 1, by go_num, by omega, hbz, by rw [HX.out]⟩
                case measure => simp [RowKit.intOf]; omega
              · have d2' : decide (c1 ≤ 255) = false := by simpa using d2
                simp only [d2', Bool.and_false] at HX
                go_wp2_with fail
                go_roundw
                case rel => exact ⟨k + 1, by go_num, by omega, hbz, by rw [HX.out]⟩
                case measure => simp [RowKit.intOf]; omega
            · have d1' : decide (0 ≤ c1) = false := by simpa using d1
              simp only [d1', Bool.false_and, Bool.and_false] at HX
              go_wp2_with fail
              go_roundw
              case rel => exact ⟨k + 1, by go_num, by omega, hbz, by rw [HX.out]⟩
              case measure => simp [RowKit.intOf]; omega
      · have e : mayE o (es.take k) = R := by rw [HR.out, List.take_of_length_le (by rw [HN.out]; omega)]
        rw [e]
        have i1 : ¬ (k : Int) < (n : Int) := by omega
        have d1 : decide ((k : Int) < (n : Int)) = false := by simp; omega
        clear e
        go_wp2_with fail
        go_ret
        exact ⟨rfl, hb⟩
  · go_enter Try.func17, Try.ntmps17
    go_wp2_with fail
    go_loopw [5, 6] (fun v i wr => ∃ k : Nat, i = .int .i64 (k : Int) ∧ k ≤ n ∧ Below w.heap.size w wr ∧ v = .bool (mayE o (es.take k))) (fun _ i _ => n - (RowKit.intOf i).toNat)
    case atStart => exact ⟨0, rfl, Nat.zero_le _, Below.refl _ _, by unfold mayE; rw [HQ0.out]; rfl⟩
    case round =>
      obtain ⟨k, rfl, hk, hb, rfl⟩ := hrel
      by_cases hlt : k < n
      · obtain ⟨x, hx⟩ : ∃ x, es[k]? = some x := ⟨es[k]'(by rw [HN.out]; exact hlt), List.getElem?_eq_getElem _⟩
        obtain ⟨b, o', rfl, hbl, hE⟩ := H.out.2.2.2 (by intro e; rw [e] at hx; simp at hx)
        obtain ⟨q1, q2⟩ := hE k x hx
        have p1 := (hb.cell (p := ⟨b, o' + k * 2, none⟩) hbl).trans q1
        have p2 := (hb.cell (p := ⟨b, o' + k * 2 + 1, none⟩) hbl).trans q2
        have HX := Lib.hid (mayE_snoc o es k x hx)
        have C := rright_any x.A x.cap x.xs wr (((H.out.2.2.1 x (List.mem_of_getElem? hx)).below hb).mono hb.size)
        have i1 : (k : Int) < (n : Int) := by omega
        unfold cls at HX
        obtain ⟨A1, cap1, xs1, c1⟩ := x
        simp only at q1 q2 p1 p2 C HX
        generalize right xs1 = q at *
        generalize xs1.length = n1 at *
        generalize mayE o (es.take k) = v0 at *
        have C := Lib.hid C
        have HB := Lib.hid hb
        have HE := Lib.hid hE
        have HBL := Lib.hid hbl
        clear hE hx q1 q2 hb
        cases v0 with
        | false =>
          simp only [Bool.false_and] at HX
          have hbz := HB.out
          go_wp2_with fail
          go_roundw
          case rel => exact ⟨k + 1, by go_num, by omega, hbz, by rw [HX.out]⟩
          case measure => simp [RowKit.intOf]; omega
        | true =>
          cases q with
          | false =>
            simp only [Bool.false_and, Bool.and_false] at HX
            go_wp2_with fail
            refine C.out.mono ?_
            rintro e w2 ⟨rfl, hb2⟩
            have hbz := HB.out.trans (hb2.mono HB.out.size)
            go_wp2_with fail
            go_roundw
            case rel => exact ⟨k + 1, by go_num, by omega, hbz, by rw [HX.out]⟩
            case measure => simp [RowKit.intOf]; omega
          | true =>
            go_wp2_with fail
            refine C.out.mono ?_
            rintro e w2 ⟨rfl, hb2⟩
            have hbz := HB.out.trans (hb2.mono HB.out.size)
            have hsz := HB.out.size
            have p3 := (hb2.cell (p := ⟨b, o' + k * 2 + 1, none⟩) (by show b < wr.heap.size; have := HBL.out; omega)).trans p2
            by_cases d1 : 0 ≤ c1
            · by_cases d2 : c1 ≤ 255
              · simp only [d1, d2, decide_true, Bool.and_self] at HX
                go_wp2_with fail
                go_roundw
                case rel => exact ⟨k + 1, by go_num, by omega, hbz, by rw [HX.out]⟩
                case measure => simp [RowKit.intOf]; omega
              · have d2' : decide (c1 ≤ 255) = false := by simpa using d2
                simp only [d2', Bool.and_false] at HX
                go_wp2_with fail
                go_roundw
                case rel => exact ⟨k + 1, by go_num, by omega, hbz, by rw [HX.out]⟩
                case measure => simp [RowKit.intOf]; omega
            · have d1' : decide (0 ≤ c1) = false := by simpa using d1
              simp only [d1', Bool.false_and, Bool.and_false] at HX
              go_wp2_with fail
              go_roundw
              case rel => exact ⟨k + 1, by go_num, by omega, hbz, by rw [HX.out]⟩
              case measure => simp [RowKit.intOf]; omega
      · have e : mayE o (es.take k) = R := by rw [HR.out, List.take_of_length_le (by rw [HN.out]; omega)]
        rw [e]
        have i1 : ¬ (k : Int) < (n : Int) := by omega
        have d1 : decide ((k : Int) < (n : Int)) = false := by simp; omega
        clear e
        go_wp2_with fail
        go_ret
        exact ⟨rfl, hb⟩
end Go.Proofs.Ytphhdkffnboboaa

