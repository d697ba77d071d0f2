/-
  Contract: pack.Pack.
-/
import Derived.Test.YtadipgkgllcicaaAdd
import Derived.Laws.ResultCell
import Derived.Laws.Rows
namespace Go.Proofs.Ytadipgkgllcicaa
open Go.RowKit Go.Shelf Go.Lib Go.Maps

theorem results_pk {fn : Func} {p u : Tmp} (h : fn.results = #[.cell p 27, .tmp u]) (tmps : Array Value) (w : World) (g : Nat) (cs : Array Value)
    (hp : tmps.getD p undef = .pointer (some ⟨g, 0, none⟩)) (hg : Cells w g 27 cs) (hi : (Try.prog.info? 27).map (·.size) = some cs.size) (x : Value) (hx : tmps.getD u undef = x) :
    (results fn tmps).run Try.prog w = .ok (.tuple #[.agg cs, x]) w := by
  rw [results_cell_tmp h, hp, hx]
  have := run_loadVar_row (P := Try.prog) w g 27 27 cs (0, 0) _ hg Try.underlying27 rfl hi
  simp [asAddr, this, Result.andThen]
def rowB (width : Int) (r : List Int) : Bool := decide ((r.length : Int) = width) && inB 0 65535 r
def rowsB (width : Int) (R : List (List Int)) : Bool := R.all (rowB width)
def packB (width : Int) (R : List (List Int)) : Bool := widthB width && (decide (R.length ≤ 1000) && rowsB width R)
theorem rowsB_take {width : Int} {R : List (List Int)} {k : Nat} {r : List Int} (h : R[k]? = some r) : rowsB width (R.take (k + 1)) = (rowsB width (R.take k) && rowB width r) := by
  unfold rowsB
  rw [List.take_add_one, h, Option.toList_some, List.all_append]
  simp
theorem rowsB_miss {width : Int} {R : List (List Int)} {k : Nat} {r : List Int} (h : R[k]? = some r) (hr : rowB width r = false) : rowsB width R = false := by
  unfold rowsB
  rw [List.all_eq_false]
  exact ⟨r, List.mem_of_getElem? h, by rw [hr]; simp⟩
def zeroPk : Array Value := #[.int .i64 0, .slice none 0 0, .slice none 0 0, .slice none 0 0, .slice none 0 0]
def PackOk (width : Int) (R : List (List Int)) (w : World) (e : Ending) (w' : World) : Prop :=
  Below w.heap.size w w' ∧ ((packB width R = true ∧ ∃ v, e = .returned (.tuple #[v, .int .i64 0]) ∧ PkV w' (packR width R) v) ∨ (packB width R = false ∧ e = .returned (.tuple #[.agg zeroPk, .int .i64 1])))
theorem zero_row (_w : World) (C0 : Nat) (W : World) (h : Cells W C0 27 zeroPk) : Cells (((((W.setCell ⟨C0, 0, none⟩ (.int .i64 0)).setCell ⟨C0, 1, none⟩ (.slice none 0 0)).setCell ⟨C0, 2, none⟩ (.slice none 0 0)).setCell ⟨C0, 3, none⟩ (.slice none 0 0)).setCell ⟨C0, 4, none⟩ (.slice none 0 0)) C0 27 zeroPk :=
  ((((h.set 0 _).set 1 _).set 2 _).set 3 _).set 4 _
theorem below_zero {w W : World} (h : Below w.heap.size w W) : Below w.heap.size w (((((W.setCell ⟨w.heap.size, 0, none⟩ (.int .i64 0)).setCell ⟨w.heap.size, 1, none⟩ (.slice none 0 0)).setCell ⟨w.heap.size, 2, none⟩ (.slice none 0 0)).setCell ⟨w.heap.size, 3, none⟩ (.slice none 0 0)).setCell ⟨w.heap.size, 4, none⟩ (.slice none 0 0)) :=
  ((((h.setCell (Nat.le_refl _) _).setCell (Nat.le_refl _) _).setCell (Nat.le_refl _) _).setCell (Nat.le_refl _) _).setCell (Nat.le_refl _) _
theorem addR_w (p : Pk) (row : List Int) : (addR p row).w = p.w := rfl
theorem packR_w (width : Int) : ∀ (rows : List (List Int)) (p : Pk), p.w = width → (rows.foldl addR p).w = width := by
  intro rows
  induction rows with
  | nil => intro p h; exact h
  | cons r rest ih => intro p h; exact ih _ (by rw [addR_w]; exact h)
theorem own_is {w : World} {B : Nat} {l : List Int} {v : Value} {A : Option Addr} {n cap : Nat} (h : w.ownsRow B 3 1 v l.length (intsC l)) (hv : v = .slice A n cap) (hl : ∀ x ∈ l, i64 x) : IS w w.heap.size l A cap := by
  obtain ⟨A', c', e, hi, _⟩ := OwnI.is (show OwnI w B l v from h) hl
  rw [hv] at e
  injection e with e1 _ e3
  subst e1; subst e3
  exact hi
/-- Packed rows are handed back. -/
theorem pack_done {w wr : World} {pb ub B k C0 : Nat} {p : Pk} {v : Nat → Value} {T : List Nat} {vu : Value} {A0 A1 A2 A3 : Option Addr} {c0 c1 c2 c3 n0 n1 n2 n3 : Nat} (h : Ad wr pb ub B k p v T vu) (hC : C0 < pb) (hw : i64 p.w) (hc : Cells wr C0 27 zeroPk)
    (e0 : v 0 = .slice A0 n0 c0) (e1 : v 1 = .slice A1 n1 c1) (e2 : v 2 = .slice A2 n2 c2) (e3 : v 3 = .slice A3 n3 c3) (l0 : n0 = p.us.length) (l1 : n1 = p.bs.length) (l2 : n2 = p.cs.length) (l3 : n3 = p.ns.length) (hb : Below C0 w wr) :
    Cells (((((wr.setCell ⟨C0, 0, none⟩ (.int .i64 p.w)).setCell ⟨C0, 1, none⟩ (.slice A0 n0 c0)).setCell ⟨C0, 2, none⟩ (.slice A1 n1 c1)).setCell ⟨C0, 3, none⟩ (.slice A2 n2 c2)).setCell ⟨C0, 4, none⟩ (.slice A3 n3 c3)) C0 27 #[.int .i64 p.w, .slice A0 n0 c0, .slice A1 n1 c1, .slice A2 n2 c2, .slice A3 n3 c3] ∧
    Below C0 w (((((wr.setCell ⟨C0, 0, none⟩ (.int .i64 p.w)).setCell ⟨C0, 1, none⟩ (.slice A0 n0 c0)).setCell ⟨C0, 2, none⟩ (.slice A1 n1 c1)).setCell ⟨C0, 3, none⟩ (.slice A2 n2 c2)).setCell ⟨C0, 4, none⟩ (.slice A3 n3 c3)) ∧
    PkV (((((wr.setCell ⟨C0, 0, none⟩ (.int .i64 p.w)).setCell ⟨C0, 1, none⟩ (.slice A0 n0 c0)).setCell ⟨C0, 2, none⟩ (.slice A1 n1 c1)).setCell ⟨C0, 3, none⟩ (.slice A2 n2 c2)).setCell ⟨C0, 4, none⟩ (.slice A3 n3 c3)) p (.agg #[.int .i64 p.w, .slice A0 n0 c0, .slice A1 n1 c1, .slice A2 n2 c2, .slice A3 n3 c3]) := by
  have F : ∀ (j : Nat) (x : Value) (W : World), Fz (fun k => k = C0) wr W → Fz (fun k => k = C0) wr (W.setCell ⟨C0, j, none⟩ x) := fun j x W hf => fz_set hf C0 j x (.inl rfl)
  have hF := F 4 (.slice A3 n3 c3) _ (F 3 (.slice A2 n2 c2) _ (F 2 (.slice A1 n1 c1) _ (F 1 (.slice A0 n0 c0) _ (F 0 (.int .i64 p.w) wr (Fz.refl _ _)))))
  have P := h.q.move hF (fun k hk => by subst hk; exact Xp_out h.q _ hC)
  refine ⟨((((hc.set 0 _).set 1 _).set 2 _).set 3 _).set 4 _, ((((hb.setCell (Nat.le_refl _) _).setCell (Nat.le_refl _) _).setCell (Nat.le_refl _) _).setCell (Nat.le_refl _) _).setCell (Nat.le_refl _) _, hw, A0, c0, A1, c1, A2, c2, A3, c3, by rw [l0, l1, l2, l3], ?_, ?_, ?_, ?_⟩
  · exact own_is (P.o 0 (by decide)) e0 (P.n 0 (by decide))
  · exact own_is (P.o 1 (by decide)) e1 (P.n 1 (by decide))
  · exact own_is (P.o 2 (by decide)) e2 (P.n 2 (by decide))
  · exact own_is (P.o 3 (by decide)) e3 (P.n 3 (by decide))
theorem ad_start (wo : World) (width : Int) : Ad ((wo.alloc (.cells #[.int .i64 width, .slice none 0 0, .slice none 0 0, .slice none 0 0, .slice none 0 0] 27)).alloc (.cells #[.slice none 0 0] 51)) wo.heap.size (wo.heap.size + 1) (wo.heap.size + 2) 0 (packR width []) (fun _ => .slice none 0 0) [] (.slice none 0 0) := by
  have nil : ∀ (W : World) (e : TypeId), W.ownsRow (wo.heap.size + 2) e 1 (.slice none 0 0) 0 [] := fun W e => ⟨rfl, .inl ⟨rfl, rfl⟩⟩
  refine ⟨⟨?_, by omega, fun i hi => ?_, fun i j _ _ _ g hg => (by simp [Value.ownBlock] at hg), fun i hi x hx => ?_⟩, ⟨?_, nil _ _, by omega, fun x hx => by simp at hx⟩, fun j => ?_, by simp, ⟨rfl, rfl, rfl, by simp [packR]⟩⟩
  · exact (cells_new wo _ 27).on (below_new _ _)
  · have : lp (packR width []) i = [] := by rcases (by omega : i = 0 ∨ i = 1 ∨ i = 2 ∨ i = 3) with rfl | rfl | rfl | rfl <;> rfl
    rw [this]; exact nil _ _
  · have : lp (packR width []) i = [] := by rcases (by omega : i = 0 ∨ i = 1 ∨ i = 2 ∨ i = 3) with rfl | rfl | rfl | rfl <;> rfl
    rw [this] at hx; simp at hx
  · have := cells_new (wo.alloc (.cells #[.int .i64 width, .slice none 0 0, .slice none 0 0, .slice none 0 0, .slice none 0 0] 27)) #[.slice none 0 0] 51
    rw [World.size_alloc] at this
    exact this
  · simp [usedB, chkB, packR]
theorem zeroPk_eq : zeroPk = #[.int .i64 0, .slice none 0 0, .slice none 0 0, .slice none 0 0, .slice none 0 0] := rfl
set_option maxHeartbeats 8000000 in
set_option maxRecDepth 100000 in
theorem pack_any (width : Int) (hw : i64 width) (R : List (List Int)) (A : Option Addr) (cap : Nat) (w : World) (hR : RsAt w w.heap.size R A cap) :
    Calls Try.prog 10 #[.int .i64 width, .slice A R.length cap] w (PackOk width R w) := by
  have hl : R.length ≤ 9223372036854775807 := by have := hR.l; have := hR.m; unfold maxLen at this; omega
  obtain ⟨N, hN⟩ : ∃ N, R.length = N := ⟨_, rfl⟩
  obtain ⟨W0, hW0⟩ : ∃ W, w.alloc (.cells zeroPk 27) = W := ⟨_, rfl⟩
  have b0 : Below w.heap.size w W0 := by rw [← hW0]; exact below_new w _
  have x0 : Cells W0 w.heap.size 27 zeroPk := by rw [← hW0]; exact cells_new _ _ _
  have z0 : W0.heap.size = w.heap.size + 1 := by rw [← hW0]; simp
  obtain ⟨t0, ht0⟩ : ∃ t, widthB width = t := ⟨_, rfl⟩
  have HT := Lib.hid (width_any width W0)
  rw [ht0] at HT
  have H := Lib.hid (And.intro hR (And.intro hN (And.intro b0 (And.intro x0 (And.intro z0 ht0)))))
  have HW := Lib.hid hW0
  rw [hN] at hl ⊢
  clear hR hN b0 x0 z0 hW0 ht0
  have F0 : ∀ W, Cells W w.heap.size 27 zeroPk → (W.cell? ⟨w.heap.size, 0, none⟩ = some (.int .i64 0) ∧ W.cell? ⟨w.heap.size, 1, none⟩ = some (.slice none 0 0) ∧ W.cell? ⟨w.heap.size, 2, none⟩ = some (.slice none 0 0) ∧ W.cell? ⟨w.heap.size, 3, none⟩ = some (.slice none 0 0) ∧ W.cell? ⟨w.heap.size, 4, none⟩ = some (.slice none 0 0)) := fun W h => ⟨h.cell 0, h.cell 1, h.cell 2, h.cell 3, h.cell 4⟩
  have HF0 := Lib.hid F0
  clear F0
  unfold i64 at hw
  go_enter Try.func10, Try.ntmps10
  go_wp2_with fail
  refine (show Calls Try.prog 23 #[.int .i64 width] (w.alloc (.cells zeroPk 27)) _ from by rw [HW.out]; exact HT.out).mono ?_
  rintro r w1 ⟨rfl, e⟩
  obtain rfl := e.symm
  clear e
  cases t0
  case false =>
    obtain ⟨a0, a1, a2, a3, a4⟩ := HF0.out W0 H.out.2.2.2.1
    have f0 := H.out.2.2.2.1.froz 0
    have f1 := H.out.2.2.2.1.froz 1
    have f2 := H.out.2.2.2.1.froz 2
    have f3 := H.out.2.2.2.1.froz 3
    have f4 := H.out.2.2.2.1.froz 4
    go_wp2_with fail
    refine bodyPost_ret (v := .tuple #[.agg zeroPk, .int .i64 1]) (results_pk rfl _ _ w.heap.size zeroPk rfl (zero_row w _ _ H.out.2.2.2.1) (by kernel_rfl) _ rfl) rfl ⟨below_zero H.out.2.2.1, .inr ⟨by unfold packB; rw [H.out.2.2.2.2.2]; rfl, rfl⟩⟩
  by_cases h1000 : N ≤ 1000
  case neg =>
    obtain ⟨a0, a1, a2, a3, a4⟩ := HF0.out W0 H.out.2.2.2.1
    have f0 := H.out.2.2.2.1.froz 0
    have f1 := H.out.2.2.2.1.froz 1
    have f2 := H.out.2.2.2.1.froz 2
    have f3 := H.out.2.2.2.1.froz 3
    have f4 := H.out.2.2.2.1.froz 4
    have j1 : (1000 : Int) < (N : Int) := by omega
    go_wp2_with fail
    refine bodyPost_ret (v := .tuple #[.agg zeroPk, .int .i64 1]) (results_pk rfl _ _ w.heap.size zeroPk rfl (zero_row w _ _ H.out.2.2.2.1) (by kernel_rfl) _ rfl) rfl ⟨below_zero H.out.2.2.1, .inr ⟨by unfold packB; rw [H.out.2.1]; simp [h1000], rfl⟩⟩
  have j1 : ¬ (1000 : Int) < (N : Int) := by omega
  go_wp2_with fail
  go_loopw [23] (fun i wr => ∃ k : Nat, i = .int .i64 (k : Int) ∧ k ≤ N ∧ rowsB width (R.take k) = true ∧ Below W0.heap.size W0 wr) (fun i _ => N - (RowKit.intOf i).toNat)
  case atStart => exact ⟨0, rfl, by omega, rfl, Below.refl _ _⟩
  case round =>
    obtain ⟨k, rfl, hk, hall, hb⟩ := hrel
    have bw := H.out.2.2.1.trans (hb.mono H.out.2.2.1.size)
    by_cases hlt : k < N
    · have i1 : (k : Int) < (N : Int) := by omega
      obtain ⟨r, hr⟩ : ∃ r, R[k]? = some r := ⟨R[k]'(by rw [H.out.2.1]; exact hlt), List.getElem?_eq_getElem _⟩
      obtain ⟨b, o, rfl, hbl, hc⟩ := H.out.1.r (by rintro rfl; simp at hr)
      obtain ⟨A', c', d0, hi, _⟩ := hc k r hr
      have d1 := (bw.cell (p := ⟨b, o + k, none⟩) hbl).trans d0
      have hlr : r.length ≤ 9223372036854775807 := by have := hi.l; have := hi.m; unfold maxLen at this; omega
      have C := within_any 0 65535 r A' c' wr ((hi.mono (Nat.le_refl _)).on bw)
      have ht := rowsB_take (width := width) hr
      have hm := rowsB_miss (width := width) hr
      rw [hall] at ht
      obtain ⟨t1, ht1⟩ : ∃ t, inB 0 65535 r = t := ⟨_, rfl⟩
      have hrb : rowB width r = (decide ((r.length : Int) = width) && t1) := by unfold rowB; rw [ht1]
      rw [hrb] at ht hm
      rw [ht1] at C
      obtain ⟨n, hn⟩ : ∃ n, r.length = n := ⟨_, rfl⟩
      rw [hn] at d1 C ht hm hlr
      have x1 := H.out.2.2.2.1.on hb
      have HC := Lib.hid C
      have HK := Lib.hid (And.intro ht (And.intro hm (And.intro hb (And.intro bw x1))))
      clear C ht hm hb bw hall hr hc hi d0 hrb ht1 hn
      by_cases he : (n : Int) = width
      · have hq : ((n : Int) == width) = true := by simpa using he
        go_wp2_with fail
        refine HC.out.mono ?_
        rintro e w2 ⟨rfl, hb2⟩
        have x2 := x1.on hb2
        have bw2 := HK.out.2.2.2.1.trans (hb2.mono HK.out.2.2.2.1.size)
        have HB2 := Lib.hid (And.intro (HK.out.2.2.1.trans (hb2.mono HK.out.2.2.1.size)) (And.intro x2 bw2))
        clear hb2 bw2 x1
        cases t1
        · obtain ⟨a0, a1, a2, a3, a4⟩ := HF0.out w2 x2
          have f0 := x2.froz 0
          have f1 := x2.froz 1
          have f2 := x2.froz 2
          have f3 := x2.froz 3
          have f4 := x2.froz 4
          clear x2
          go_wp2_with fail
          refine bodyPost_ret (v := .tuple #[.agg zeroPk, .int .i64 1]) (results_pk rfl _ _ w.heap.size zeroPk rfl (zero_row w _ _ HB2.out.2.1) (by kernel_rfl) _ rfl) rfl ⟨below_zero HB2.out.2.2, .inr ⟨by unfold packB; rw [HK.out.2.1 (by simp)]; simp, rfl⟩⟩
        · clear x2
          go_wp2_with fail
          go_roundw
          case rel => exact ⟨k + 1, by go_num, by omega, by rw [HK.out.1]; simp [he], HB2.out.1⟩
          case measure => simp [RowKit.intOf]; omega
      · have hq : ((n : Int) == width) = false := by simpa using he
        obtain ⟨a0, a1, a2, a3, a4⟩ := HF0.out wr x1
        have f0 := x1.froz 0
        have f1 := x1.froz 1
        have f2 := x1.froz 2
        have f3 := x1.froz 3
        have f4 := x1.froz 4
        clear x1
        go_wp2_with fail
        refine bodyPost_ret (v := .tuple #[.agg zeroPk, .int .i64 1]) (results_pk rfl _ _ w.heap.size zeroPk rfl (zero_row w _ _ HK.out.2.2.2.2) (by kernel_rfl) _ rfl) rfl ⟨below_zero HK.out.2.2.2.1, .inr ⟨by unfold packB; rw [HK.out.2.1 (by simp [he])]; simp, rfl⟩⟩
    · obtain rfl : k = N := by omega
      obtain ⟨wo, rfl⟩ : ∃ wo : World, wo = wr := ⟨_, rfl⟩
      have i1 : ¬ (k : Int) < (k : Int) := by omega
      have e1 : R.take k = R := by rw [← H.out.2.1, List.take_length]
      rw [e1] at hall
      have x1 := H.out.2.2.2.1.on hb
      have HK := Lib.hid (And.intro hall (And.intro hb (And.intro bw x1)))
      clear hall hb bw e1 x1
      have hwid := HK.out.2.2.1.size
      have A0 := ad_start wo width
      have B0 : Below wo.heap.size wo ((wo.alloc (.cells #[.int .i64 width, .slice none 0 0, .slice none 0 0, .slice none 0 0, .slice none 0 0] 27)).alloc (.cells #[.slice none 0 0] 51)) := ((Below.refl _ _).alloc (Nat.le_refl _) _).alloc (by simp) _
      have HA := Lib.hid (And.intro A0 B0)
      clear A0 B0
      have hwb : 1 ≤ width ∧ width ≤ 64 := by
        have := H.out.2.2.2.2.2
        unfold widthB at this
        simpa using this
      go_wp2_with fail
      go_loopw [42] (fun i wr => ∃ j : Nat, i = .int .i64 (j : Int) ∧ j ≤ k ∧ (∃ v T vu, Ad wr wo.heap.size (wo.heap.size + 1) (wo.heap.size + 2) j (packR width (R.take j)) v T vu) ∧ Below wo.heap.size wo wr ∧ wo.heap.size + 2 ≤ wr.heap.size) (fun i _ => k - (RowKit.intOf i).toNat)
      case atStart => exact ⟨0, rfl, by omega, ⟨_, _, _, HA.out.1⟩, HA.out.2, by simp⟩
      case round =>
        obtain ⟨j, rfl, hj, ⟨v, T, vu, hAd⟩, hb2, hz2⟩ := hrel
        have bw2 : Below w.heap.size w wr := HK.out.2.2.1.trans (hb2.mono HK.out.2.2.1.size)
        by_cases hlt : j < k
        · have i2 : (j : Int) < (k : Int) := by omega
          obtain ⟨r, hr⟩ : ∃ r, R[j]? = some r := ⟨R[j]'(by rw [H.out.2.1]; exact hlt), List.getElem?_eq_getElem _⟩
          obtain ⟨b, o, rfl, hbl, hc⟩ := H.out.1.r (by rintro rfl; simp at hr)
          obtain ⟨A', c', d0, hi, _⟩ := hc j r hr
          have d1 := (bw2.cell (p := ⟨b, o + j, none⟩) hbl).trans d0
          have hrow : (r.length : Int) = width := by
            have := List.all_eq_true.1 HK.out.1 r (List.mem_of_getElem? hr)
            unfold rowB at this
            simp only [Bool.and_eq_true, decide_eq_true_eq] at this
            exact this.1
          have CA := add_any wo.heap.size (wo.heap.size + 1) (wo.heap.size + 2) j (packR width (R.take j)) v T vu r A' c' wo.heap.size wr hAd (by omega) (by omega) (Nat.le_refl _) (by omega) hz2 ((hi.below bw2).mono hwid) (by omega) (by omega)
          rw [← packR_take width hr] at CA
          obtain ⟨n, hn⟩ : ∃ n, r.length = n := ⟨_, rfl⟩
          rw [hn] at d1 CA
          have HC := Lib.hid CA
          have HB := Lib.hid hb2
          clear CA hAd hb2 bw2 hr hc hi d0 hrow hn
          go_wp2_with fail
          refine HC.out.mono ?_
          rintro e w3 ⟨rfl, hb3, hA3⟩
          have HR := Lib.hid (And.intro hA3 (And.intro (HB.out.trans hb3) (show wo.heap.size + 2 ≤ w3.heap.size from Nat.le_trans hz2 hb3.size)))
          clear hb3 hA3
          go_wp2_with fail
          go_roundw
          case rel => exact ⟨j + 1, by go_num, by omega, HR.out.1, HR.out.2.1, HR.out.2.2⟩
          case measure => simp [RowKit.intOf]; omega
        · obtain rfl : j = k := by omega
          have i2 : ¬ (j : Int) < (j : Int) := by omega
          have e1 : R.take j = R := by rw [← H.out.2.1, List.take_length]
          rw [e1] at hAd
          have x2 := HK.out.2.2.2.on hb2
          have hpw : (packR width R).w = width := packR_w width R _ rfl
          obtain ⟨A0, c0, e0⟩ := own_form (hAd.q.o 0 (by decide))
          obtain ⟨A1, c1, e1'⟩ := own_form (hAd.q.o 1 (by decide))
          obtain ⟨A2, c2, e2⟩ := own_form (hAd.q.o 2 (by decide))
          obtain ⟨A3, c3, e3⟩ := own_form (hAd.q.o 3 (by decide))
          obtain ⟨n0, hn0⟩ : ∃ n, (lp (packR width R) 0).length = n := ⟨_, rfl⟩
          obtain ⟨n1, hn1⟩ : ∃ n, (lp (packR width R) 1).length = n := ⟨_, rfl⟩
          obtain ⟨n2, hn2⟩ : ∃ n, (lp (packR width R) 2).length = n := ⟨_, rfl⟩
          obtain ⟨n3, hn3⟩ : ∃ n, (lp (packR width R) 3).length = n := ⟨_, rfl⟩
          rw [hn0] at e0
          rw [hn1] at e1'
          rw [hn2] at e2
          rw [hn3] at e3
          have y0 := hAd.q.c.cell 0
          have y1 := hAd.q.c.cell 1
          have y2 := hAd.q.c.cell 2
          have y3 := hAd.q.c.cell 3
          have y4 := hAd.q.c.cell 4
          simp at y0 y1 y2 y3 y4
          rw [hpw] at y0
          rw [e0] at y1
          rw [e1'] at y2
          rw [e2] at y3
          rw [e3] at y4
          have hCp : w.heap.size < wo.heap.size := by have := HK.out.2.1.size; have := H.out.2.2.2.2.1; omega
          have K := pack_done (w := w) (C0 := w.heap.size) hAd hCp (by rw [hpw]; exact hw) x2 e0 e1' e2 e3 hn0.symm hn1.symm hn2.symm hn3.symm bw2
          rw [hpw] at K
          have HKK := Lib.hid K
          obtain ⟨a0, a1, a2, a3, a4⟩ := HF0.out wr x2
          have f0 := x2.froz 0
          have f1 := x2.froz 1
          have f2 := x2.froz 2
          have f3 := x2.froz 3
          have f4 := x2.froz 4
          clear K hAd hb2 bw2 x2 e0 e1' e2 e3 hn0 hn1 hn2 hn3 e1 hpw
          go_wp2_with fail
          refine bodyPost_ret (v := .tuple #[.agg #[.int .i64 width, .slice A0 n0 c0, .slice A1 n1 c1, .slice A2 n2 c2, .slice A3 n3 c3], .int .i64 0]) (results_pk rfl _ _ w.heap.size _ rfl HKK.out.1 (by kernel_rfl) _ rfl) rfl ⟨HKK.out.2.1, .inl ⟨?_, _, rfl, HKK.out.2.2⟩⟩
          unfold packB
          rw [H.out.2.2.2.2.2, H.out.2.1, HK.out.1]
          simp [h1000]
end Go.Proofs.Ytadipgkgllcicaa
