/-
  Contracts: ranges.Print.
-/
import Derived.Laws.MakeOwn
import Derived.Great.Walk
import Derived.Test.YtphhdkffnboboaaGreatDoorPrW
import Derived.Test.YtphhdkffnboboaaGreatDoorLayU
namespace Go.Proofs.YtphhdkffnboboaaGreatDoor
open Go.RowKit Go.Shelf
open Go.Lib Go.Great

theorem joinX : Builder.Extra Tryz.prog Tryz.joinL_ren where
  t5 := Tryz.underlying5
  a5 := Tryz.isAgg5
  z5 := Tryz.sizeOf5
  v5 := Tryz.zeroValue5
  infoByte := by kernel_rfl
  cellsByte := by kernel_rfl
  sizeByte := by kernel_rfl
  neB5 := by decide
  sizeBuilder := by kernel_rfl
  liesBuilder := by kernel_rfl

theorem Tryz.info9 : (Tryz.prog.info? 9).map (fun i => (i.zero, i.size, i.bytes)) = some (some (.string { data := #[] }), 1, 16) := by kernel_rfl

/-- The texts of the first k ranges; nothing yet of the others. -/
def txts (xs : List Rng) (k : Nat) : List Value := (List.range xs.length).map fun j => Value.string (if j < k then ⟨(rgText (xs.getD j (0, 0))).toArray⟩ else { data := #[] })
theorem txts_len (xs : List Rng) (k : Nat) : (txts xs k).length = xs.length := by simp [txts]
theorem txts_set (xs : List Rng) (k : Nat) (x : Rng) (h : xs[k]? = some x) : (txts xs k).set k (.string ⟨(rgText x).toArray⟩) = txts xs (k + 1) := by
  have hk := (List.getElem?_eq_some_iff.1 h).1
  apply List.ext_getElem
  · simp [txts]
  · intro i h1 h2
    have hi : i < xs.length := by simpa [txts] using h2
    simp only [txts, List.getElem_set, List.getElem_map, List.getElem_range]
    by_cases c : k = i
    · subst c
      rw [if_pos rfl, if_pos (by omega), List.getD_eq_getElem?_getD, h]
      rfl
    · rw [if_neg c]
      by_cases c2 : i < k
      · rw [if_pos c2, if_pos (by omega)]
      · rw [if_neg c2, if_neg (by omega)]
theorem txts_get (xs : List Rng) (k j : Nat) (hj : j < xs.length) : ∃ s, (txts xs k)[j]? = some (.string s) := by
  refine ⟨if j < k then ⟨(rgText (xs.getD j (0, 0))).toArray⟩ else { data := #[] }, ?_⟩
  simp only [txts, List.getElem?_map, List.getElem?_range hj, Option.map_some]
theorem txts_all (xs : List Rng) (j : Nat) (x : Rng) (h : xs[j]? = some x) : (txts xs xs.length)[j]? = some (.string ⟨(rgText x).toArray⟩) := by
  have hj := (List.getElem?_eq_some_iff.1 h).1
  simp only [txts, List.getElem?_map, List.getElem?_range hj, Option.map_some]
  rw [if_pos hj, List.getD_eq_getElem?_getD, h]
  rfl
theorem madeStr (n : Nat) : madeCells (Value.cells (.string { data := #[] })) (n * 1) = (List.replicate n (Value.string { data := #[] })).toArray := by
  apply Array.ext
  · simp [madeCells]
  · intro i h1 h2
    have e : i % 1 = 0 := Nat.mod_one i
    simp [madeCells, Value.cells, e]
theorem txts_zero (xs : List Rng) : txts xs 0 = List.replicate xs.length (Value.string { data := #[] }) := by
  apply List.ext_getElem
  · simp [txts]
  · intro i h1 h2
    simp [txts]
theorem own_made (w : World) (T n : Nat) (vs : List Value) (h : vs.length = n) (hm : n ≤ maxLen) : (w.alloc (.cells vs.toArray T)).ownsRow w.heap.size T 1 (.slice (some ⟨w.heap.size, 0, none⟩) n n) n vs :=
  ⟨by omega, .inr ⟨w.heap.size, n, vs.toArray, rfl, Nat.le_refl _, World.alloc_heap_new w _, Nat.le_refl _, hm, by simp [h], by simp [← h]⟩⟩

theorem join_text (xs : List Rng) : Lib.join (xs.map fun x => rgText x) [44] = listText xs := by
  induction xs with
  | nil => rfl
  | cons x r ih =>
    cases r with
    | nil => simp [Lib.join_one, listText]
    | cons y r =>
      rw [List.map_cons, Lib.join_cons]
      rw [List.map_cons, Lib.join_cons] at ih
      show _ = rgText x ++ 44 :: listText (y :: r)
      rw [← ih]
      simp [Lib.joinTail]

set_option maxHeartbeats 4000000 in
theorem print_any (A : Option Addr) (cap : Nat) (xs : List Rng) (w : World) (h : RS w w.heap.size A cap xs) (hT : TZ w) (hl : xs.length ≤ 1000) :
    Calls Tryz.prog 6 #[.slice A xs.length cap] w fun e w' => e = .returned (.string ⟨(setText (known xs)).toArray⟩) ∧ Below w.heap.size w w' := by
  have CV := valid_any A cap xs w h
  by_cases hR : right xs = true ∧ xs ≠ []
  · obtain ⟨hr, hne⟩ := hR
    rw [if_pos hr] at CV
    have e : setText (known xs) = listText xs := by rw [known_of hr]; unfold setText; rw [if_neg hne]
    rw [e]
    obtain ⟨b, o, rfl, hbl, hRg⟩ := h.2.2.2 hne
    have hmay := fun x hx => (right_may (b := -1) hr x hx).1
    have hll := listText_len xs hmay
    have HM := Lib.hid hmay
    have H := Lib.hid (And.intro hbl hRg)
    have HT := Lib.hid hT
    have CP := Lib.hid (fun x (hx : x ∈ xs) W (hW : TZ W) => pr_any x (hmay x hx) W hW)
    have HJ := Lib.hid (join_text xs)
    have HLL := Lib.hid hll
    have HS := Lib.hid (txts_set xs)
    have HG := Lib.hid (txts_get xs)
    have HA := Lib.hid (txts_all xs)
    have H0 := Lib.hid (txts_zero xs)
    have HTL := Lib.hid (txts_len xs)
    generalize hLT : listText xs = LT at *
    have n0 : 0 < xs.length := List.length_pos_iff.2 hne
    obtain ⟨n, hn⟩ : ∃ n, xs.length = n := ⟨_, rfl⟩
    have HN := Lib.hid hn
    rw [hn] at hl n0 CV ⊢
    have CV := Lib.hid CV
    clear h hr hne e hbl hRg hmay hll hLT hT hn
    have d0 : ((n : Int) == 0) = false := by simp; omega
    have d1 : (n == 0) = false := by simp; omega
    go_enter Tryz.func6, Tryz.ntmps6
    go_wp2_with fail
    refine CV.out.mono ?_
    rintro e w1 ⟨rfl, hb1⟩
    have hmk : (Instr.makeSlice 42 (.int .i64 (n : Int)) (.int .i64 (n : Int))).run Tryz.prog w1 = .ok (.slice (some ⟨w1.heap.size, 0, none⟩) n n) (w1.alloc (.cells (List.replicate n (Value.string { data := #[] })).toArray 9)) := by
      obtain ⟨i0, hi, hz0, hz1, hz2⟩ := info_parts Tryz.info9
      have := run_make (P := Tryz.prog) w1 42 9 i0 (.string { data := #[] }) Tryz.underlying42 hi hz0 .i64 .i64 n n (by omega) (Int.le_refl _) (by rw [hz2]; omega) (by omega)
      rw [Int.toNat_natCast, hz1, madeStr] at this
      exact this
    have hown := own_made w1 9 n (List.replicate n (Value.string { data := #[] })) (by simp) (by unfold maxLen; omega)
    have hb2 := hb1.alloc hb1.size (.cells (List.replicate n (Value.string { data := #[] })).toArray 9)
    have e0 := H0.out
    rw [HN.out] at e0
    rw [← e0] at hown hmk hb2
    have hb2' := below_new w1 (.cells (txts xs 0).toArray 9)
    clear e0
    generalize w1.alloc (.cells (txts xs 0).toArray 9) = W0 at *
    generalize hg : w1.heap.size = g at *
    have HO := Lib.hid hown
    have HB := Lib.hid (And.intro hb2 hb2')
    have hgs : w.heap.size ≤ g := by rw [← hg]; exact hb1.size
    have HGS := Lib.hid hgs
    clear hown hb2 hb2' hb1 hg hgs
    go_wp2
    go_loopw [16] (fun i wr => ∃ k : Nat, i = .int .i64 k ∧ k ≤ n ∧ wr.ownsRow g 9 1 (.slice (some ⟨g, 0, none⟩) n n) n (txts xs k) ∧ Below g W0 wr) (fun i _ => n - (RowKit.intOf i).toNat)
    case atStart => exact ⟨0, rfl, Nat.zero_le _, HO.out, Below.refl _ _⟩
    case round =>
      obtain ⟨k, rfl, hk, hown, hb⟩ := hrel
      by_cases hlt : k < n
      · obtain ⟨x, hx⟩ : ∃ x, xs[k]? = some x := ⟨xs[k]'(by have := HN.out; omega), List.getElem?_eq_getElem _⟩
        have hbw := HB.out.1.trans (hb.mono HGS.out)
        obtain ⟨q1, q2⟩ := (H.out.2.below H.out.1 hbw) k x hx
        have HSk := Lib.hid (HS.out k x hx)
        obtain ⟨s0, hs0⟩ := HG.out k k (by have := HN.out; omega)
        have hmem := List.mem_of_getElem? hx
        have C := CP.out x hmem
        have hTw := HT.out.below hbw
        clear hx hmem
        obtain ⟨lo, hi'⟩ := x
        simp only at C q1 q2
        generalize rgText (lo, hi') = X at C HSk
        have i1 : (k : Int) < (n : Int) := by omega
        have hgl : g < wr.heap.size := (own_block_lt hown g rfl).2
        have hbx := hb.alloc (by omega) (.cells #[.int .i32 lo, .int .i32 hi'] 39)
        have own1 := hown.alloc (.cells #[.int .i32 lo, .int .i32 hi'] 39)
        have C2 := C (wr.alloc (.cells #[.int .i32 lo, .int .i32 hi'] 39)) (hTw.below (below_new wr _))
        have HX := Lib.hid (And.intro hbx own1)
        have C2 := Lib.hid C2
        clear hbw C hTw hown hb hbx own1
        go_wp2_with fail
        refine C2.out.mono ?_
        rintro e w2 ⟨rfl, hb2⟩
        have own2 := ownsRow_below HX.out.2 hb2
        have hc := own2.cellAt k (by omega)
        have hf := own2.frozenAt k
        rw [hs0] at hc
        have hst := own2.stored k (.string ⟨X.toArray⟩)
        rw [HSk.out] at hst
        have hbz := (HX.out.1.trans (hb2.mono (by rw [World.size_alloc]; omega))).setCell (p := ⟨g, k, none⟩) (Nat.le_refl g) (.string ⟨X.toArray⟩)
        have HZ := Lib.hid (And.intro hst.1 hbz)
        clear own2 hst hbz hb2
        go_wp2
        go_roundw
        case rel => exact ⟨k + 1, by go_num, by omega, HZ.out.1, HZ.out.2⟩
        case measure => simp [RowKit.intOf]; omega
      · have hkn : k = n := by omega
        subst hkn
        have hgl : g < wr.heap.size := (own_block_lt hown g rfl).2
        have hJ := Any.strings_Join Tryz.joinL joinX g 0 k (xs.map fun x => ⟨(rgText x).toArray⟩) ⟨#[44]⟩ wr (fun j s hs => by
          rw [List.getElem?_map] at hs
          obtain ⟨x, hx, rfl⟩ := Option.map_eq_some_iff.1 hs
          have := HA.out j x hx
          rw [HN.out] at this
          rw [Nat.zero_add, hown.cellAt j (by have := (List.getElem?_eq_some_iff.1 hx).1; have := HN.out; omega), this]) hgl (by simp [HN.out]; omega) (by simp [HN.out]) (by
          have e : (List.map (fun x : ByteArray => x.data.toList) (xs.map fun x => ⟨(rgText x).toArray⟩)) = xs.map fun x => rgText x := by simp
          rw [e]
          have := HJ.out
          rw [show (({ data := #[44] } : ByteArray).data.toList) = [44] from rfl, this]
          have := HLL.out
          have := HN.out
          omega)
        have e : (List.map (fun x : ByteArray => x.data.toList) (xs.map fun x => ⟨(rgText x).toArray⟩)) = xs.map fun x => rgText x := by simp
        rw [e, show (({ data := #[44] } : ByteArray).data.toList) = [44] from rfl, HJ.out, List.length_map, HN.out] at hJ
        have hJ := Lib.hid hJ
        have HBz := Lib.hid (HB.out.1.trans (hb.mono HGS.out))
        clear e hown hb
        go_wp2_with fail
        refine hJ.out.mono ?_
        rintro e w2 ⟨rfl, hb2⟩
        have hbz := HBz.out.trans (hb2.mono HBz.out.size)
        clear hb2
        go_wp2
        go_ret
        exact ⟨rfl, hbz⟩
  · have e : setText (known xs) = [110, 111, 110, 101] := by
      by_cases hr : right xs = true
      · have hx : xs = [] := Classical.byContradiction fun c => hR ⟨hr, c⟩
        subst hx
        rfl
      · unfold known
        rw [if_neg hr]
        rfl
    rw [e]
    have hV : ∃ A' c', Calls Tryz.prog 15 #[.slice A xs.length cap] w fun e w' => e = .returned (.slice A' 0 c') ∧ Below w.heap.size w w' := by
      by_cases hr : right xs = true
      · have hx : xs = [] := Classical.byContradiction fun c => hR ⟨hr, c⟩
        subst hx
        rw [if_pos hr] at CV
        exact ⟨_, _, CV⟩
      · rw [if_neg hr] at CV
        exact ⟨_, _, CV⟩
    obtain ⟨A', c', CV2⟩ := hV
    have CV2 := Lib.hid CV2
    generalize xs.length = n at *
    clear CV e hR h
    go_enter Tryz.func6, Tryz.ntmps6
    go_wp2_with fail
    refine CV2.out.mono ?_
    rintro e w1 ⟨rfl, hb1⟩
    go_wp2
    go_ret
    exact ⟨rfl, hb1⟩
end Go.Proofs.YtphhdkffnboboaaGreatDoor
