/-
  Contracts: prop.row.whole, prop.row.syllables, prop.row.part, the closure of prop.Set.
  Appending what may be nil; the source of an append, told by its cells.
  Contracts: virguleref02.insert.
-/
import Derived.Test.YtphhdkffnboboaaPam
import Derived.Test.YtphhdkffnboboaaPan
import Derived.Laws.AppendOwnNone
import Derived.Test.YtphhdkffnboboaaPac
import Derived.BigRegion
import Derived.Deep.RegionLaw
namespace Go.Proofs.Ytphhdkffnboboaa
open Go.RowKit Go.Shelf
open Go.Lib Go.Great

/-- A row as it is handed over. -/
def rv (x : Row) : Value := .agg #[.int .i32 x.1, .int .i32 x.2.1, .int .i64 (x.2.2 : Int)]

set_option maxHeartbeats 1000000 in
theorem whole_any (lo hi : Int) (c : Nat) (h : I32 (lo, hi)) (w : World) : Calls Try.prog 65 #[.agg #[.int .i32 lo, .int .i32 hi, .int .i64 (c : Int)]] w (SP [(lo, hi)] w) := by
  have hb := below_new w (.cells #[.int .i32 lo, .int .i32 hi, .int .i64 (c : Int)] 97)
  have hw := sw_new (w.alloc (.cells #[.int .i32 lo, .int .i32 hi, .int .i64 (c : Int)] 97)) [(lo, hi)] 70 1 rfl (by simpa using h) (by unfold maxLen; omega)
  have hb2 := hb.alloc hb.size (.cells #[.int .i32 lo, .int .i32 hi] 70)
  have e : (cells2 [(lo, hi)]).toArray = #[.int .i32 lo, .int .i32 hi] := rfl
  rw [e, World.size_alloc] at hw
  have HW := Lib.hid hw
  have HB := Lib.hid hb2
  clear hw hb hb2 e
  go_enter Try.func65, Try.ntmps65
  go_wp2
  go_ret
  exact ⟨_, _, rfl, HW.out, HB.out⟩

theorem syll_take (c : Int) (k : Nat) (h : k < 399) : (syllP c).take (k + 1) = (syllP c).take k ++ [syl1 c k] := by
  have : (syllP c)[k]? = some (syl1 c k) := by
    unfold syllP
    simp [h]
  rw [List.take_add_one, this]
  rfl
theorem syll_len (c : Int) : (syllP c).length = 399 := by simp [syllP]
theorem syll_i32 (c : Int) : ∀ x ∈ syllP c, I32 x := fun x hx => by
  obtain ⟨k, hk, rfl⟩ := List.mem_map.1 hx
  have := List.mem_range.1 hk
  unfold syl1 I32
  split <;> (simp only; omega)

set_option maxHeartbeats 4000000 in
set_option maxRecDepth 100000 in
theorem syll_any (c : Int) (hc : c = 14 ∨ c = 15) (w : World) : Calls Try.prog 76 #[.agg #[.int .i32 44032, .int .i32 55203, .int .i64 14], .int .i64 c] w (SP (syllP c) w) := by
  obtain ⟨i0, hi, hz0, hz1, hz2⟩ := info_parts Try.info70
  have HI := Lib.hid (syll_i32 c)
  have HL := Lib.hid (syll_len c)
  have HT := Lib.hid (syll_take c)
  have H1 : Hid (∀ k : Nat, syl1 14 k = (44032 + 28 * (k : Int), 44032 + 28 * (k : Int))) := Lib.hid fun k => rfl
  have H2 : Hid (∀ k : Nat, syl1 15 k = (44032 + 28 * (k : Int) + 1, 44032 + 28 * (k : Int) + 27)) := Lib.hid fun k => rfl
  have hb0 := below_new w (.cells #[.int .i32 44032, .int .i32 55203, .int .i64 14] 97)
  have f0 : (w.alloc (.cells #[.int .i32 44032, .int .i32 55203, .int .i64 14] 97)).cell? ⟨w.heap.size, 0, none⟩ = some (.int .i32 44032) := by simp
  have f1 : (w.alloc (.cells #[.int .i32 44032, .int .i32 55203, .int .i64 14] 97)).cell? ⟨w.heap.size, 1, none⟩ = some (.int .i32 55203) := by simp
  have hz : w.heap.size < (w.alloc (.cells #[.int .i32 44032, .int .i32 55203, .int .i64 14] 97)).heap.size := by simp
  generalize hW : w.alloc (.cells #[.int .i32 44032, .int .i32 55203, .int .i64 14] 97) = W0 at *
  have HW := Lib.hid hW
  have HF := Lib.hid (And.intro hb0 (And.intro f1 hz))
  clear hW hb0 f1 hz
  rcases hc with rfl | rfl
  · go_enter Try.func76, Try.ntmps76
    go_wp2_with fail
    rw [HW.out]
    go_wp2_with fail
    go_loopw [5, 6] (fun v i wr => ∃ k : Nat, ∃ r : Int, k ≤ 399 ∧ i = .int .i32 r ∧ Hid (r = 44032 + 28 * (k : Int)) ∧ 44032 ≤ r ∧ r ≤ 55204 ∧ wr.ownsRow W0.heap.size 70 2 v k (cells2 ((syllP 14).take k)) ∧ Below W0.heap.size W0 wr) (fun _ i _ => (55204 - RowKit.intOf i).toNat)
    case atStart => exact ⟨0, _, by omega, rfl, (rfl : (44032 : Int) = 44032 + 28 * ((0 : Nat) : Int)), by omega, by omega, World.ownsRow_nil _ _ _ _, Below.refl _ _⟩
    case round =>
      obtain ⟨k, r, hk, rfl, hr, r0, r1, hown, hb⟩ := hrel
      have g1 : wr.cell? ⟨w.heap.size, 1, none⟩ = some (.int .i32 55203) := (hb.cell (p := ⟨w.heap.size, 1, none⟩) HF.out.2.2).trans HF.out.2.1
      by_cases hlt : k < 399
      · have h2 : r ≤ 55203 := by have := hr.out; omega
        have own2 := hown.alloc (.cells #[.int .i32 r, .int .i32 r] 70)
        have hnews := news2 wr 70 (.int .i32 r) (.int .i32 r) rfl rfl
        have hlt0 := own_block_lt hown
        have hs := hb.size
        have HTk := Lib.hid (HT.out k hlt)
        have HQ := Lib.hid (H1.out k)
        go_wp2_with (at_builtin; refine wpList_append_own _ rfl _ _ 41 rfl W0.heap.size 70 i0 (.agg #[.int .i32 0, .int .i32 0]) 2 8 Try.underlying41 hi hz0 hz1 hz2 rfl (by decide) u5 k (cells2 ((syllP 14).take k)) rfl own2 ⟨wr.heap.size, 0, none⟩ 1 1 [.int .i32 r, .int .i32 r] rfl rfl hnews ?c2 ?c3 ?c4 ?c5 ?_)
        case c2 => intro u hu; simp at hu; rcases hu with rfl | rfl <;> rfl
        case c3 => unfold maxLen; omega
        case c4 => omega
        case c5 => simp; omega
        intro v' w2 own3 hgrow _
        have hbz : Below W0.heap.size W0 w2 := (hb.alloc hs _).grown hgrow (by simp; omega) (fun k e => (hlt0 k e).1)
        have e3 : cells2 ((syllP 14).take k) ++ [.int .i32 r, .int .i32 r] = cells2 ((syllP 14).take (k + 1)) := by
          rw [HTk.out, cells2_snoc, HQ.out]
          show _ = (_ : List Value) ++ [Value.int .i32 (44032 + 28 * (k : Int)), .int .i32 (44032 + 28 * (k : Int))]
          rw [show 44032 + 28 * (k : Int) = r by have := hr.out; omega]
        rw [e3] at own3
        clear e3 hgrow own2 hnews hown
        go_wp2
        go_roundw
        case rel => exact ⟨k + 1, _, by omega, rfl, (by have := hr.out; show r + 28 = 44032 + 28 * ((k + 1 : Nat) : Int); omega : Hid _), by omega, by have := hr.out; omega, own3, hbz⟩
        case measure => simp [RowKit.intOf]; omega
      · have hkn : k = 399 := by omega
        have h2 : 55203 < r := by have := hr.out; omega
        have e : (syllP 14).take k = syllP 14 := by rw [hkn, ← HL.out, List.take_length]
        rw [e] at hown
        have HO := Lib.hid hown
        have hbz := HF.out.1.trans (hb.mono HF.out.1.size)
        clear hown e hb
        subst hkn
        have d : decide (r ≤ (55203 : Int)) = false := by simpa using h2
        go_wp2
        go_ret
        exact sp_of ⟨_, rfl, by rw [HL.out]; exact own_mono HO.out HF.out.1.size, hbz⟩ HI.out
  · go_enter Try.func76, Try.ntmps76
    go_wp2_with fail
    rw [HW.out]
    go_wp2_with fail
    go_loopw [5, 6] (fun v i wr => ∃ k : Nat, ∃ r : Int, k ≤ 399 ∧ i = .int .i32 r ∧ Hid (r = 44032 + 28 * (k : Int)) ∧ 44032 ≤ r ∧ r ≤ 55204 ∧ wr.ownsRow W0.heap.size 70 2 v k (cells2 ((syllP 15).take k)) ∧ Below W0.heap.size W0 wr) (fun _ i _ => (55204 - RowKit.intOf i).toNat)
    case atStart => exact ⟨0, _, by omega, rfl, (rfl : (44032 : Int) = 44032 + 28 * ((0 : Nat) : Int)), by omega, by omega, World.ownsRow_nil _ _ _ _, Below.refl _ _⟩
    case round =>
      obtain ⟨k, r, hk, rfl, hr, r0, r1, hown, hb⟩ := hrel
      have g1 : wr.cell? ⟨w.heap.size, 1, none⟩ = some (.int .i32 55203) := (hb.cell (p := ⟨w.heap.size, 1, none⟩) HF.out.2.2).trans HF.out.2.1
      by_cases hlt : k < 399
      · have h2 : r ≤ 55203 := by have := hr.out; omega
        have own2 := hown.alloc (.cells #[.int .i32 (r + 1), .int .i32 (r + 28 - 1)] 70)
        have hnews := news2 wr 70 (.int .i32 (r + 1)) (.int .i32 (r + 28 - 1)) rfl rfl
        have hlt0 := own_block_lt hown
        have hs := hb.size
        have HTk := Lib.hid (HT.out k hlt)
        have HQ := Lib.hid (H2.out k)
        go_wp2_with (at_builtin; refine wpList_append_own _ rfl _ _ 41 rfl W0.heap.size 70 i0 (.agg #[.int .i32 0, .int .i32 0]) 2 8 Try.underlying41 hi hz0 hz1 hz2 rfl (by decide) u5 k (cells2 ((syllP 15).take k)) rfl own2 ⟨wr.heap.size, 0, none⟩ 1 1 [.int .i32 (r + 1), .int .i32 (r + 28 - 1)] rfl rfl hnews ?c2 ?c3 ?c4 ?c5 ?_)
        case c2 => intro u hu; simp at hu; rcases hu with rfl | rfl <;> rfl
        case c3 => unfold maxLen; omega
        case c4 => omega
        case c5 => simp; omega
        intro v' w2 own3 hgrow _
        have hbz : Below W0.heap.size W0 w2 := (hb.alloc hs _).grown hgrow (by simp; omega) (fun k e => (hlt0 k e).1)
        have e3 : cells2 ((syllP 15).take k) ++ [.int .i32 (r + 1), .int .i32 (r + 28 - 1)] = cells2 ((syllP 15).take (k + 1)) := by
          rw [HTk.out, cells2_snoc, HQ.out]
          show _ = (_ : List Value) ++ [Value.int .i32 (44032 + 28 * (k : Int) + 1), .int .i32 (44032 + 28 * (k : Int) + 27)]
          rw [show 44032 + 28 * (k : Int) + 1 = r + 1 by have := hr.out; omega, show 44032 + 28 * (k : Int) + 27 = r + 28 - 1 by have := hr.out; omega]
        rw [e3] at own3
        clear e3 hgrow own2 hnews hown
        go_wp2
        go_roundw
        case rel => exact ⟨k + 1, _, by omega, rfl, (by have := hr.out; show r + 28 = 44032 + 28 * ((k + 1 : Nat) : Int); omega : Hid _), by omega, by have := hr.out; omega, own3, hbz⟩
        case measure => simp [RowKit.intOf]; omega
      · have hkn : k = 399 := by omega
        have h2 : 55203 < r := by have := hr.out; omega
        have e : (syllP 15).take k = syllP 15 := by rw [hkn, ← HL.out, List.take_length]
        rw [e] at hown
        have HO := Lib.hid hown
        have hbz := HF.out.1.trans (hb.mono HF.out.1.size)
        clear hown e hb
        subst hkn
        have d : decide (r ≤ (55203 : Int)) = false := by simpa using h2
        go_wp2
        go_ret
        exact sp_of ⟨_, rfl, by rw [HL.out]; exact own_mono HO.out HF.out.1.size, hbz⟩ HI.out

theorem row_i32 {x : Row} (hx : x ∈ rowsP) : I32 (x.1, x.2.1) := by
  have := List.all_eq_true.1 rows_bounds x hx
  simp only [decide_eq_true_eq] at this
  unfold I32
  simp only
  omega

set_option maxHeartbeats 2000000 in
theorem part_any (x : Row) (hx : x ∈ rowsP) (c : Int) (w : World) : Calls Try.prog 67 #[.agg #[.int .i32 x.1, .int .i32 x.2.1, .int .i64 (x.2.2 : Int)], .int .i64 c] w (SP (partP c x) w) := by
  have hi := row_i32 hx
  have hrow := List.all_eq_true.1 rows_ref x hx
  obtain ⟨lo, hi', cl⟩ := x
  simp only at hi hrow ⊢
  have hb := below_new w (.cells #[.int .i32 lo, .int .i32 hi', .int .i64 (cl : Int)] 97)
  by_cases h14 : cl = 14
  · subst h14
    rw [if_pos rfl] at hrow
    simp only [decide_eq_true_eq, Prod.mk.injEq] at hrow
    obtain ⟨rfl, rfl, _⟩ := hrow
    by_cases hc : c = 14 ∨ c = 15
    · have e : partP c (44032, 55203, 14) = syllP c := by unfold partP; rw [if_pos ⟨rfl, hc⟩]
      rw [e]
      have C := syll_any c hc (w.alloc (.cells #[.int .i32 44032, .int .i32 55203, .int .i64 14] 97))
      have HB := Lib.hid hb
      have C := Lib.hid C
      generalize hS : syllP c = S at C ⊢
      clear hb e hi hS
      rcases hc with rfl | rfl
      all_goals
        go_enter Try.func67, Try.ntmps67
        go_wp2_with fail
        refine C.out.mono ?_
        rintro e w1 ⟨A1, c1, rfl, hS, hb1⟩
        have H := Lib.hid (And.intro hS (HB.out.trans (hb1.mono HB.out.size)))
        clear hS hb1
        go_wp2
        go_ret
        exact ⟨_, _, rfl, H.out.1, H.out.2⟩
    · have e : partP c (44032, 55203, 14) = [] := by
        unfold partP
        rw [if_neg (fun h => hc h.2), if_neg (show ¬ ((((44032, 55203, 14) : Row).2.2 : Int) = c) by show ¬ ((14 : Int) = c); omega)]
      rw [e]
      have d1 : (c == 14) = false := by simp; omega
      have d2 : (c == 15) = false := by simp; omega
      have d3 : ((14 : Int) == c) = false := by simp; omega
      have HB := Lib.hid hb
      clear hb e hi hc
      go_enter Try.func67, Try.ntmps67
      go_wp2
      go_ret
      exact ⟨none, 0, rfl, SW.nil _, HB.out⟩
  · have d0 : ((cl : Int) == 14) = false := by simp; omega
    have e1 : ¬ (cl = 14 ∧ (c = 14 ∨ c = 15)) := fun h => h14 h.1
    by_cases hc : (cl : Int) = c
    · have e : partP c (lo, hi', cl) = [(lo, hi')] := by
        unfold partP
        rw [if_neg e1, if_pos hc]
        rfl
      rw [e]
      have d3 : ((cl : Int) == c) = true := by simpa using hc
      have HB := Lib.hid hb
      have C := Lib.hid (fun W => whole_any lo hi' cl hi W)
      clear hb e hi hc hrow h14 e1 hx
      go_enter Try.func67, Try.ntmps67
      go_wp2_with fail
      refine (C.out _).mono ?_
      rintro e w1 ⟨A1, c1, rfl, hS, hb1⟩
      have H := Lib.hid (And.intro hS (HB.out.trans (hb1.mono HB.out.size)))
      clear hS hb1
      go_wp2
      go_ret
      exact ⟨_, _, rfl, H.out.1, H.out.2⟩
    · have e : partP c (lo, hi', cl) = [] := by
        unfold partP
        rw [if_neg e1, if_neg hc]
      rw [e]
      have d3 : ((cl : Int) == c) = false := by simpa using hc
      have HB := Lib.hid hb
      clear hb e hi hc hrow h14 e1 hx
      go_enter Try.func67, Try.ntmps67
      go_wp2
      go_ret
      exact ⟨none, 0, rfl, SW.nil _, HB.out⟩

set_option maxHeartbeats 2000000 in
theorem pick_any (x : Row) (hx : x ∈ rowsP) (c : Int) (b : Nat) (w : World) (hb : b < w.heap.size) (hc : w.cell? ⟨b, 0, none⟩ = some (.int .i64 c)) :
    Calls Try.prog 66 #[.agg #[.int .i32 x.1, .int .i32 x.2.1, .int .i64 (x.2.2 : Int)], .pointer (some ⟨b, 0, none⟩)] w (SP (partP c x) w) := by
  have C := fun W => part_any x hx c W
  obtain ⟨lo, hi', cl⟩ := x
  simp only at C ⊢
  have hbw := below_new w (.cells #[.int .i32 lo, .int .i32 hi', .int .i64 (cl : Int)] 97)
  have hc2 : (w.alloc (.cells #[.int .i32 lo, .int .i32 hi', .int .i64 (cl : Int)] 97)).cell? ⟨b, 0, none⟩ = some (.int .i64 c) := (hbw.cell (p := ⟨b, 0, none⟩) hb).trans hc
  have HB := Lib.hid hbw
  have C := Lib.hid C
  generalize partP c (lo, hi', cl) = S at C ⊢
  clear hbw hc hx
  go_enter Try.func66, Try.ntmps66
  go_wp2_with fail
  refine (C.out _).mono ?_
  rintro e w1 ⟨A1, c1, rfl, hS, hb1⟩
  have H := Lib.hid (And.intro hS (HB.out.trans (hb1.mono HB.out.size)))
  clear hS hb1
  go_wp2
  go_ret
  exact ⟨_, _, rfl, H.out.1, H.out.2⟩
end Go.Proofs.Ytphhdkffnboboaa

namespace Go.Proofs.Ytphhdkffnboboaa
open Go.RowKit Go.Shelf
open Go.Lib

/-- What is appended: nothing, of nil; or cells that are there. -/
def Src (w : World) (A : Option Addr) (m c : Nat) (news : List Value) : Prop :=
  (A = none ∧ m = 0 ∧ c = 0 ∧ news = []) ∨ ∃ ad, A = some ad ∧ (0 < m → ad.block < w.heap.size) ∧ news.length = m ∧ ∀ (j : Nat) (u : Value), news[j]? = some u → w.cell? (ad.add j) = some u
theorem block_add (ad : Addr) (j : Nat) : (ad.add j).block = ad.block := by
  unfold Addr.add
  split <;> rfl
theorem Src.below {w w' : World} {A : Option Addr} {m c : Nat} {news : List Value} (h : Src w A m c news) (hb : Below w.heap.size w w') : Src w' A m c news := by
  rcases h with h | ⟨ad, e, hl, h1, h2⟩
  · exact .inl h
  · exact .inr ⟨ad, e, fun hm => Nat.lt_of_lt_of_le (hl hm) hb.size, h1, fun j u hu => (hb.cell (p := ad.add j) (by rw [block_add]; exact hl (by have := (List.getElem?_eq_some_iff.1 hu).1; omega))).trans (h2 j u hu)⟩

theorem wpList_append_src {P : Program} {w : World} {ops : Array Oper} {rest : List Oper} {o : Oper} {a : Act} {Q : Exit → Act → World → Prop} (hgd : o.guard = none) (s x : Operand) (t : TypeId)
    (ho : o.op = .call { callee := .builtin .append, args := #[s, x], argTypes := #[t, t] })
    (base : Nat) (e : TypeId) (i : TypeInfo) (z : Value) (bytes : Nat) (ht : P.underlying t = some (.slice e)) (hi : P.info? e = some i) (hz : i.zero = some z)
    (hsize : i.size = 1) (hby : i.bytes = bytes) (hzs : z.cells.size = 1)
    (v : Value) (n : Nat) (xs : List Value) (hs : a.eval s = v) (hown : w.ownsRow base e 1 v n xs)
    (A : Option Addr) (m c : Nat) (news : List Value) (hx : a.eval x = .slice A m c) (hsrc : Src w A m c news) (h1 : ∀ u ∈ news, u.oneCell' = true)
    (h63 : n + m ≤ maxLen) (hbytes : (n + m) * bytes ≤ 140737488355328) (hbase : base ≤ w.heap.size)
    (h : ∀ v' w', w'.ownsRow base e 1 v' (n + m) (xs ++ news) → Below base w w' → wpList P ops Q rest (a.put o.dst v') w') : wpList P ops Q (o :: rest) a w := by
  rcases hsrc with ⟨rfl, rfl, rfl, rfl⟩ | ⟨ad, rfl, _, hl, hcells⟩
  · exact wpList_append_own_none hgd s x t ho base e i 1 ht hi v n xs hs hown hx (h v w (by simpa using hown) (Below.refl _ _))
  · exact wpList_append_own _ hgd s x t ho base e i z 1 bytes ht hi hz hsize hby hzs (by omega) v n xs hs hown ad m c news hx (by omega) hcells h1 h63 hbytes hbase
      (fun v' w' h2 h3 _ => h v' w' h2 ((Below.refl _ w).grown h3 hbase (fun k e' => (own_block_lt hown k e').1)))

theorem src_of_own {w : World} {base e n : Nat} {v : Value} {xs : List Value} (h : w.ownsRow base e 1 v n xs) : ∃ A cap, v = .slice A n cap ∧ Src w A n cap xs := by
  have hl := h.1
  rcases h.2 with ⟨rfl, rfl⟩ | ⟨g, cap, cur, rfl, hb, hh, hnc, hcm, hcs, htk⟩
  · exact ⟨none, 0, rfl, .inl ⟨rfl, rfl, rfl, List.eq_nil_of_length_eq_zero (by omega)⟩⟩
  · refine ⟨_, cap, rfl, .inr ⟨_, rfl, fun _ => (Array.getElem?_eq_some_iff.1 hh).1, by omega, fun j u hu => ?_⟩⟩
    have hj := (List.getElem?_eq_some_iff.1 hu).1
    rw [add0, h.cellAt j (by omega), hu]
theorem own_empty (w : World) (base e : Nat) (hb : base ≤ w.heap.size) : (w.alloc (.cells #[] e)).ownsRow base e 1 (.slice (some ⟨w.heap.size, 0, none⟩) 0 0) 0 [] :=
  ⟨rfl, .inr ⟨w.heap.size, 0, #[], rfl, hb, World.alloc_heap_new w _, Nat.le_refl _, Nat.zero_le _, rfl, rfl⟩⟩
theorem Try.info21 : (Try.prog.info? 21).map (fun i => (i.zero, i.size, i.bytes)) = some (some (.int .i32 0), 1, 4) := by kernel_rfl
end Go.Proofs.Ytphhdkffnboboaa

namespace Go.Proofs.Ytphhdkffnboboaa
open Go.RowKit Go.Shelf
open Go.Lib

theorem step_append_src {P : Program} {w : World} {ops : Array Oper} {o : Oper} {a : Act} {K : Act → World → Prop} {Q : Exit → Act → World → Prop} {E : Prop} (hgd : o.guard = none) (s x : Operand) (t : TypeId)
    (ho : o.op = .call { callee := .builtin .append, args := #[s, x], argTypes := #[t, t] })
    (base : Nat) (e : TypeId) (i : TypeInfo) (z : Value) (bytes : Nat) (ht : P.underlying t = some (.slice e)) (hi : P.info? e = some i) (hz : i.zero = some z)
    (hsize : i.size = 1) (hby : i.bytes = bytes) (hzs : z.cells.size = 1)
    (v : Value) (n : Nat) (xs : List Value) (hs : a.eval s = v) (hown : w.ownsRow base e 1 v n xs)
    (A : Option Addr) (m c : Nat) (news : List Value) (hx : a.eval x = .slice A m c) (hsrc : Src w A m c news) (h1 : ∀ u ∈ news, u.oneCell' = true)
    (h63 : n + m ≤ maxLen) (hbytes : (n + m) * bytes ≤ 140737488355328) (hbase : base ≤ w.heap.size)
    (h : ∀ v' w', w'.ownsRow base e 1 v' (n + m) (xs ++ news) → Below base w w' → w.grownBy w' v.ownBlock → K (a.put o.dst v') w') : if Region.wanted o (yielded ops a.tmps) = true then Oper.wp P o a w K Q else E := by
  have hw : Region.wanted o (yielded ops a.tmps) = true := by simp [Region.wanted, hgd]
  rw [if_pos hw]
  have key : ∃ v' w', (Builtin.append_ #[t, t] o.type #[v, .slice A m c]).run P w = .ok v' w' ∧ w'.ownsRow base e 1 v' (n + m) (xs ++ news) ∧ Below base w w' ∧ w.grownBy w' v.ownBlock := by
    rcases hsrc with ⟨rfl, rfl, rfl, rfl⟩ | ⟨ad, rfl, _, hl, hcells⟩
    · exact ⟨v, w, run_append_owned_none (P := P) (w := w) base t o.type e i 1 ht hi v _ _ hown, by simpa using hown, Below.refl _ _, ⟨rfl, rfl, rfl, Nat.le_refl _, fun _ _ _ => rfl⟩⟩
    · obtain ⟨v', w', h1, h2, h3, h4, _⟩ := run_append_own_at (P := P) w base t o.type e i z 1 bytes ht hi hz hsize hby hzs (by omega) v n xs hown ad m c news (by omega) hcells h1 h63 hbytes hbase
      exact ⟨v', w', h1, h2, (Below.refl _ w).grown h3 hbase (fun k e' => (own_block_lt hown k e').1), h3⟩
  obtain ⟨v', w', hrun, h2, h3, h4⟩ := key
  unfold Oper.wp
  simp [execOp, ho, resolve, invoke, builtin, hs, hx, hrun, Result.andThen]
  exact h v' w' h2 h3 h4

/-- A row of numbers. -/
def IS (w : World) (B b o n : Nat) (f : Nat → Int) : Prop := b < B ∧ ∀ i, i < n → w.cell? ⟨b, o + i, none⟩ = some (.int .i32 (f i))
def ints (l : List Int) : List Value := l.map (.int .i32 ·)
theorem ints_one (l : List Int) : ∀ u ∈ ints l, u.oneCell' = true := by
  intro u hu
  obtain ⟨x, _, rfl⟩ := List.mem_map.1 hu
  rfl
/-- A slice of numbers that rise. -/
structure LS (w : World) (B : Nat) (A : Option Addr) (cap : Nat) (l : List Int) : Prop where
  c : l.length ≤ cap
  m : cap ≤ maxLen
  i : ∀ x ∈ l, -2147483648 ≤ x ∧ x ≤ 2147483647
  a : ∃ b o, A = some ⟨b, o, none⟩ ∧ b < B ∧ ∀ i x, l[i]? = some x → w.cell? ⟨b, o + i, none⟩ = some (.int .i32 x)
theorem LS.below {w w' : World} {B : Nat} {A : Option Addr} {cap : Nat} {l : List Int} (h : LS w B A cap l) (hb : Below B w w') : LS w' B A cap l := by
  obtain ⟨b, o, e, hl, hc⟩ := h.a
  exact ⟨h.c, h.m, h.i, b, o, e, hl, fun i x hx => (hb.cell (p := ⟨b, o + i, none⟩) hl).trans (hc i x hx)⟩
theorem LS.mono {w : World} {B B' : Nat} {A : Option Addr} {cap : Nat} {l : List Int} (h : LS w B A cap l) (hb : B ≤ B') : LS w B' A cap l := by
  obtain ⟨b, o, e, hl, hc⟩ := h.a
  exact ⟨h.c, h.m, h.i, b, o, e, by omega, hc⟩

theorem lt_step (l : List Int) (k : Nat) (x r : Int) (h : l[k]? = some x) (hl : ∀ y ∈ l.take k, y < r) (hx : x < r) : ∀ y ∈ l.take (k + 1), y < r := by
  rw [List.take_add_one, h]
  intro y hy
  rcases List.mem_append.1 hy with hy | hy
  · exact hl y hy
  · simp at hy; omega

/-- r put into numbers that rise. -/
structure Ins (l : List Int) (r : Int) (l' : List Int) : Prop where
  s : l'.Pairwise (· < ·)
  m : ∀ x, x ∈ l' ↔ x = r ∨ x ∈ l
  n : l'.length ≤ l.length + 1

theorem ins_there {l : List Int} (h : l.Pairwise (· < ·)) {k : Nat} {r : Int} (hk : l[k]? = some r) : Ins l r l :=
  ⟨h, fun x => ⟨.inr, fun h => h.elim (fun e => by rw [e]; exact List.mem_of_getElem? hk) id⟩, Nat.le_succ _⟩
theorem ins_new {l : List Int} (h : l.Pairwise (· < ·)) {k : Nat} {r : Int} (h1 : ∀ y ∈ l.take k, y < r) (h2 : ∀ y, l[k]? = some y → r < y) : Ins l r (l.take k ++ [r] ++ l.drop k) := by
  have h3 : ∀ y ∈ l.drop k, r < y := fun y hy => by
    obtain ⟨j, hj⟩ := List.mem_iff_getElem?.1 hy
    rw [List.getElem?_drop] at hj
    obtain ⟨hl, rfl⟩ := List.getElem?_eq_some_iff.1 hj
    have hk : k < l.length := by omega
    have := h2 l[k] (List.getElem?_eq_getElem hk)
    rcases Nat.eq_zero_or_pos j with rfl | hj0
    · exact this
    · exact Int.lt_trans this (List.pairwise_iff_getElem.1 h k (k + j) hk hl (by omega))
  refine ⟨?_, fun x => ?_, by simp; omega⟩
  · rw [List.append_assoc, List.pairwise_append]
    refine ⟨h.sublist (List.take_sublist _ _), ?_, ?_⟩
    · rw [List.singleton_append, List.pairwise_cons]
      exact ⟨h3, h.sublist (List.drop_sublist _ _)⟩
    · intro a ha b hb
      rcases List.mem_append.1 hb with hb | hb
      · rw [List.mem_singleton.1 hb]; exact h1 a ha
      · exact Int.lt_trans (h1 a ha) (h3 b hb)
  · conv => rhs; rw [← List.take_append_drop k l]
    simp only [List.mem_append, List.mem_singleton]
    constructor
    · rintro ((a | a) | a)
      · exact .inr (.inl a)
      · exact .inl a
      · exact .inr (.inr a)
    · rintro (a | a | a)
      · exact .inl (.inr a)
      · exact .inl (.inl a)
      · exact .inr a

/-- What insert hands back. -/
def InsPost (l : List Int) (r : Int) (w : World) (e : Ending) (w' : World) : Prop :=
  ∃ l' A c, e = .returned (.slice A l'.length c) ∧ Ins l r l' ∧ LS w' w'.heap.size A c l' ∧ Below w.heap.size w w'

theorem src_take {w W : World} {b o cap : Nat} {l : List Int} {k : Nat} (h : LS w w.heap.size (some ⟨b, o, none⟩) cap l) (hb : Below w.heap.size w W) (hk : k ≤ l.length) : Src W (some ⟨b, o, none⟩) k cap (ints (l.take k)) := by
  obtain ⟨b', o', e, hl, hc⟩ := h.a
  injection e with e
  injection e with e1 e2 e3
  refine .inr ⟨_, rfl, fun _ => Nat.lt_of_lt_of_le (by rw [e1]; exact hl) hb.size, by simp [ints]; omega, fun j u hu => ?_⟩
  rw [Addr.add_lit]
  simp only [ints, List.getElem?_map, List.getElem?_take] at hu
  split at hu
  · obtain ⟨x, hx, rfl⟩ := Option.map_eq_some_iff.1 hu
    rw [e1, e2]
    exact (hb.cell (p := ⟨b', o' + j, none⟩) hl).trans (hc j x hx)
  · simp at hu
theorem src_drop {w W : World} {b o cap : Nat} {l : List Int} {k : Nat} (h : LS w w.heap.size (some ⟨b, o, none⟩) cap l) (hb : Below w.heap.size w W) (hk : k ≤ l.length) : Src W (if cap = k then some ⟨b, o, none⟩ else some ⟨b, o + k, none⟩) (l.length - k) (cap - k) (ints (l.drop k)) := by
  obtain ⟨b', o', e, hl, hc⟩ := h.a
  injection e with e
  injection e with e1 e2 e3
  have hcap := h.c
  by_cases c : cap = k
  · rw [if_pos c]
    have : l.drop k = [] := List.drop_eq_nil_iff.2 (by omega)
    rw [this]
    refine .inr ⟨_, rfl, fun _ => Nat.lt_of_lt_of_le (by rw [e1]; exact hl) hb.size, by simp [ints]; omega, fun j u hu => by simp [ints] at hu⟩
  · rw [if_neg c]
    refine .inr ⟨_, rfl, fun _ => Nat.lt_of_lt_of_le (by rw [e1]; exact hl) hb.size, by simp [ints], fun j u hu => ?_⟩
    rw [Addr.add_lit]
    simp only [ints, List.getElem?_map, List.getElem?_drop] at hu
    obtain ⟨x, hx, rfl⟩ := Option.map_eq_some_iff.1 hu
    rw [e1, e2, Nat.add_assoc]
    exact (hb.cell (p := ⟨b', o' + (k + j), none⟩) hl).trans (hc (k + j) x hx)
theorem cell_one (B : Nat) (W : World) (r : Int) (h : W.heap[B]? = some (.cells #[.int .i32 r] 21)) : Src W (some ⟨B, 0, none⟩) 1 1 [.int .i32 r] := by
  refine .inr ⟨_, rfl, fun _ => (Array.getElem?_eq_some_iff.1 h).1, rfl, fun j u hu => ?_⟩
  rw [add0]
  have := Cells.cell (show Cells W B 21 _ from h) j
  rw [this]
  simpa using hu
theorem src_far {W W' : World} {B : Nat} {A : Option Nat} {news : List Value} (h : Src W (some ⟨B, 0, none⟩) 1 1 news) (hg : W.grownBy W' A) (hne : A ≠ some B) : Src W' (some ⟨B, 0, none⟩) 1 1 news := by
  rcases h with ⟨h, _⟩ | ⟨ad, e, hl, h1, h2⟩
  · cases h
  · injection e with e
    subst e
    refine .inr ⟨_, rfl, fun hm => Nat.lt_of_lt_of_le (hl hm) hg.size, h1, fun j u hu => ?_⟩
    rw [hg.cell_far ((⟨B, 0, none⟩ : Addr).add j) (by rw [block_add]; exact hl (by omega)) (by rw [block_add]; exact fun e => hne e.symm)]
    exact h2 j u hu
theorem ins_done {l l' : List Int} {r : Int} {w w' : World} {B m : Nat} {v : Value} (hI : Ins l r l') (hown : w'.ownsRow B 21 1 v m (ints l')) (hm : m = l'.length) (hb : ∀ x ∈ l', -2147483648 ≤ x ∧ x ≤ 2147483647) (hB : Below w.heap.size w w') : InsPost l r w (.returned v) w' := by
  subst hm
  have hne : 0 < l'.length := List.length_pos_iff.2 (fun e => by have := (hI.m r).2 (.inl rfl); rw [e] at this; simp at this)
  rcases hown.2 with ⟨_, h0⟩ | ⟨g, cap, cur, rfl, hgb, hh, h1, h2, h3, h4⟩
  · omega
  · refine ⟨l', _, cap, rfl, hI, ⟨h1, h2, hb, g, 0, rfl, (Array.getElem?_eq_some_iff.1 hh).1, fun i x hx => ?_⟩, hB⟩
    have hlt := (List.getElem?_eq_some_iff.1 hx).1
    rw [Nat.zero_add, hown.cellAt i (by omega)]
    simp [ints, hx]

set_option maxHeartbeats 8000000 in
set_option maxRecDepth 100000 in
theorem insert_any (A : Option Addr) (cap : Nat) (l : List Int) (r : Int) (w : World) (h : LS w w.heap.size A cap l) (hs : l.Pairwise (· < ·)) (hr0 : -2147483648 ≤ r) (hr1 : r ≤ 2147483647) (hl : l.length ≤ 1000000) :
    Calls Try.prog 82 #[.slice A l.length cap, .int .i32 r] w (InsPost l r w) := by
  obtain ⟨i21, hi21, hz210, hz211, hz212⟩ := info_parts Try.info21
  have H := Lib.hid h
  have HS := Lib.hid hs
  obtain ⟨b, o, rfl, hbl, hc⟩ := h.a
  have hcap := h.c
  have hmx := h.m
  have HC := Lib.hid hc
  obtain ⟨n, hn⟩ : ∃ n, l.length = n := ⟨_, rfl⟩
  have HN := Lib.hid hn
  rw [hn] at hl hcap ⊢
  unfold maxLen at hmx
  clear h hs hc hn
  go_enter Try.func82, Try.ntmps82
  go_wp2
  go_loopw [5] (fun i wr => ∃ k : Nat, i = .int .i64 k ∧ k ≤ n ∧ (∀ y ∈ l.take k, y < r) ∧ wr = w) (fun i _ => n - (RowKit.intOf i).toNat)
  case atStart => exact ⟨0, rfl, Nat.zero_le _, (fun y hy => by simp at hy), rfl⟩
  case round =>
    obtain ⟨k, rfl, hk, hlt0, rfl⟩ := hrel
    have HLT := Lib.hid hlt0
    clear hlt0
    by_cases hlt : k < n
    · obtain ⟨x, hx⟩ : ∃ x, l[k]? = some x := ⟨l[k]'(by have := HN.out; omega), List.getElem?_eq_getElem _⟩
      have q := HC.out k x hx
      have hxb := H.out.i x (List.mem_of_getElem? hx)
      have HX := Lib.hid hx
      clear hx
      have i1 : (k : Int) < (n : Int) := by omega
      by_cases c1 : x < r
      · have HT := Lib.hid (lt_step l k x r HX.out HLT.out c1)
        go_wp2
        go_roundw
        case rel => exact ⟨k + 1, by go_num, by omega, HT.out, trivial⟩
        case measure => simp [RowKit.intOf]; omega
      · have d1 : decide (x < r) = false := by simpa using c1
        by_cases c2 : x = r
        · subst c2
          have HI := Lib.hid (ins_there HS.out HX.out)
          go_wp2
          go_ret
          exact ⟨l, _, _, by rw [HN.out]; rfl, HI.out, H.out, Below.refl _ _⟩
        · have HI := Lib.hid (ins_new HS.out HLT.out (k := k) (r := r) (fun y hy => by rw [HX.out] at hy; injection hy with hy; omega))
          have hkc : k ≤ cap := by omega
          have HN2 := Lib.hid (HN.out)
          have S1 : Hid (∀ W, Below wr.heap.size wr W → Src W (some ⟨b, o, none⟩) k cap (ints (l.take k))) := Lib.hid fun W hb => src_take H.out hb (by have := HN.out; omega)
          have S2 : Hid (∀ W, Below wr.heap.size wr W → Src W (if cap = k then some ⟨b, o, none⟩ else some ⟨b, o + k, none⟩) (n - k) (cap - k) (ints (l.drop k))) := Lib.hid fun W hb => by rw [← HN.out]; exact src_drop H.out hb (by have := HN.out; omega)
          have HW0 : Hid (Below wr.heap.size wr wr) := Lib.hid (Below.refl _ _)
          have HBE : Hid (∀ o, Below wr.heap.size wr (wr.alloc o)) := Lib.hid fun o => below_new _ _
          have HBB : Hid (∀ o o', Below wr.heap.size wr ((wr.alloc o).alloc o')) := Lib.hid fun o o' => (below_new _ _).alloc (by simp) _
          have fC := own_empty wr wr.heap.size 21 (Nat.le_refl _)
          have fA := fC.alloc (.cells #[.int .i32 r] 21)
          have fB := own_empty (wr.alloc (.cells #[.int .i32 r] 21)) wr.heap.size 21 (by simp)
          rw [World.size_alloc] at fB
          have HA := Lib.hid fA
          have HB := Lib.hid fB
          have HCc := Lib.hid fC
          have rA := cell_one wr.heap.size.succ ((wr.alloc (.cells #[] 21)).alloc (.cells #[.int .i32 r] 21)) r (by have h := World.alloc_heap_new (wr.alloc (.cells #[] 21)) (.cells #[.int .i32 r] 21); rwa [World.size_alloc] at h)
          have rB := cell_one wr.heap.size ((wr.alloc (.cells #[.int .i32 r] 21)).alloc (.cells #[] 21)) r (by rw [Below.heap_alloc _ _ _ (by simp)]; exact World.alloc_heap_new _ _)
          have HrA := Lib.hid rA
          have HrB := Lib.hid rB
          clear fA fB fC rA rB
          go_wp2_with fail
          go_region_law (first
            | (refine step_append_src (w := ((wr.alloc (.cells #[] 21)).alloc (.cells #[.int .i32 r] 21)).drew) rfl (.tmp 33) (.tmp 36) 23 rfl wr.heap.size 21 i21 (.int .i32 0) 4 Try.underlying23 hi21 hz210 hz211 hz212 rfl (.slice (some ⟨wr.heap.size, 0, none⟩) 0 0) 0 [] (by simp [Act.eval] <;> omega) (show World.ownsRow (((wr.alloc (.cells #[] 21)).alloc (.cells #[.int .i32 r] 21)).drew) wr.heap.size 21 1 _ 0 [] from HA.out) (some ⟨b, o, none⟩) k cap (ints (l.take k)) (by simp [Act.eval] <;> omega) (S1.out _ (HBB.out _ _).drew) (ints_one _) (by unfold maxLen; omega) (by omega) (HBB.out _ _).size ?_
               intro v1 w1 ho1 hb1 hg1
               have hbw1 := (HBB.out _ _).drew.trans hb1
               have hR1 := src_far (W := ((wr.alloc (.cells #[] 21)).alloc (.cells #[.int .i32 r] 21)).drew) (B := wr.heap.size + 1) HrA.out hg1 (by simp [Value.ownBlock]))
            | (refine step_append_src (w := ((wr.alloc (.cells #[.int .i32 r] 21)).alloc (.cells #[] 21)).drew) rfl (.tmp 33) (.tmp 36) 23 rfl wr.heap.size 21 i21 (.int .i32 0) 4 Try.underlying23 hi21 hz210 hz211 hz212 rfl (.slice (some ⟨wr.heap.size + 1, 0, none⟩) 0 0) 0 [] (by simp [Act.eval] <;> omega) (show World.ownsRow (((wr.alloc (.cells #[.int .i32 r] 21)).alloc (.cells #[] 21)).drew) wr.heap.size 21 1 _ 0 [] from HB.out) (some ⟨b, o, none⟩) k cap (ints (l.take k)) (by simp [Act.eval] <;> omega) (S1.out _ (HBB.out _ _).drew) (ints_one _) (by unfold maxLen; omega) (by omega) (HBB.out _ _).size ?_
               intro v1 w1 ho1 hb1 hg1
               have hbw1 := (HBB.out _ _).drew.trans hb1
               have hR1 := src_far (W := ((wr.alloc (.cells #[.int .i32 r] 21)).alloc (.cells #[] 21)).drew) (B := wr.heap.size) HrB.out hg1 (by simp [Value.ownBlock]))
            | (refine step_append_src (w := (wr.alloc (.cells #[] 21)).drew) rfl (.tmp 33) (.tmp 36) 23 rfl wr.heap.size 21 i21 (.int .i32 0) 4 Try.underlying23 hi21 hz210 hz211 hz212 rfl (.slice (some ⟨wr.heap.size, 0, none⟩) 0 0) 0 [] (by simp [Act.eval] <;> omega) (show World.ownsRow ((wr.alloc (.cells #[] 21)).drew) wr.heap.size 21 1 _ 0 [] from HCc.out) (some ⟨b, o, none⟩) k cap (ints (l.take k)) (by simp [Act.eval] <;> omega) (S1.out _ (HBE.out _).drew) (ints_one _) (by unfold maxLen; omega) (by omega) (HBE.out _).size ?_
               intro v1 w1 ho1 hb1 hg1
               have hbw1 := (HBE.out _).drew.trans hb1)
            | (refine step_append_src (w := w1) rfl (.tmp 37) (.tmp 39) 23 rfl wr.heap.size 21 i21 (.int .i32 0) 4 Try.underlying23 hi21 hz210 hz211 hz212 rfl v1 (0 + k) ([] ++ ints (l.take k)) (by simp [Act.eval] <;> omega) ho1 _ 1 1 [.int .i32 r] (by simp [Act.eval] <;> omega) hR1 (ints_one [r]) (by unfold maxLen; omega) (by omega) hbw1.size ?_
               intro v2 w2 ho2 hb2 _
               have hbw2 := hbw1.trans hb2)
            | (refine step_append_src (w := w1.alloc (.cells #[.int .i32 r] 21)) rfl (.tmp 37) (.tmp 39) 23 rfl wr.heap.size 21 i21 (.int .i32 0) 4 Try.underlying23 hi21 hz210 hz211 hz212 rfl v1 (0 + k) ([] ++ ints (l.take k)) (by simp [Act.eval] <;> omega) (ho1.alloc _) (some ⟨w1.heap.size, 0, none⟩) 1 1 [.int .i32 r] (by simp [Act.eval] <;> omega) (cell_one w1.heap.size _ r (World.alloc_heap_new _ _)) (ints_one [r]) (by unfold maxLen; omega) (by omega) (hbw1.alloc hbw1.size _).size ?_
               intro v2 w2 ho2 hb2 _
               have hbw2 := (hbw1.alloc hbw1.size _).trans hb2)
            | (refine step_append_src (w := w2) rfl (.tmp 40) (.tmp 43) 23 rfl wr.heap.size 21 i21 (.int .i32 0) 4 Try.underlying23 hi21 hz210 hz211 hz212 rfl v2 (0 + k + 1) ([] ++ ints (l.take k) ++ [.int .i32 r]) (by simp [Act.eval] <;> omega) ho2 (if cap = k then some ⟨b, o, none⟩ else some ⟨b, o + k, none⟩) (n - k) (cap - k) (ints (l.drop k)) (by simp [Act.eval] <;> omega) (S2.out _ hbw2) (ints_one _) (by unfold maxLen; omega) (by omega) hbw2.size ?_
               intro v3 w3 ho3 hb3 _
               have hbw3 := hbw2.trans hb3))
          all_goals
            have HO := Lib.hid ho3
            have hl' : ints (l.take k ++ [r] ++ l.drop k) = [] ++ ints (l.take k) ++ [.int .i32 r] ++ ints (l.drop k) := by simp [ints]
            clear ho3
            go_wp2
            go_ret
            exact ins_done (B := wr.heap.size) (m := 0 + k + 1 + (n - k)) HI.out (by have h := HO.out; rw [← hl'] at h; exact h) (by have := HN.out; simp; omega) (fun x hx => by
              rcases (HI.out.m x).1 hx with e | e
              · rw [e]; exact ⟨hr0, hr1⟩
              · exact H.out.i x e) hbw3
    · have hkn : k = n := by omega
      have i1 : ¬ ((k : Int) < (n : Int)) := by omega
      have HI := Lib.hid (ins_new HS.out HLT.out (k := k) (r := r) (fun y hy => by have := (List.getElem?_eq_some_iff.1 hy).1; have := HN.out; omega))
      have hkc : k ≤ cap := by omega
      have HN2 := Lib.hid (HN.out)
      have S1 : Hid (∀ W, Below wr.heap.size wr W → Src W (some ⟨b, o, none⟩) k cap (ints (l.take k))) := Lib.hid fun W hb => src_take H.out hb (by have := HN.out; omega)
      have S2 : Hid (∀ W, Below wr.heap.size wr W → Src W (if cap = k then some ⟨b, o, none⟩ else some ⟨b, o + k, none⟩) (n - k) (cap - k) (ints (l.drop k))) := Lib.hid fun W hb => by rw [← HN.out]; exact src_drop H.out hb (by have := HN.out; omega)
      have HW0 : Hid (Below wr.heap.size wr wr) := Lib.hid (Below.refl _ _)
      have HBE : Hid (∀ o, Below wr.heap.size wr (wr.alloc o)) := Lib.hid fun o => below_new _ _
      have HBB : Hid (∀ o o', Below wr.heap.size wr ((wr.alloc o).alloc o')) := Lib.hid fun o o' => (below_new _ _).alloc (by simp) _
      have fC := own_empty wr wr.heap.size 21 (Nat.le_refl _)
      have fA := fC.alloc (.cells #[.int .i32 r] 21)
      have fB := own_empty (wr.alloc (.cells #[.int .i32 r] 21)) wr.heap.size 21 (by simp)
      rw [World.size_alloc] at fB
      have HA := Lib.hid fA
      have HB := Lib.hid fB
      have HCc := Lib.hid fC
      have rA := cell_one wr.heap.size.succ ((wr.alloc (.cells #[] 21)).alloc (.cells #[.int .i32 r] 21)) r (by have h := World.alloc_heap_new (wr.alloc (.cells #[] 21)) (.cells #[.int .i32 r] 21); rwa [World.size_alloc] at h)
      have rB := cell_one wr.heap.size ((wr.alloc (.cells #[.int .i32 r] 21)).alloc (.cells #[] 21)) r (by rw [Below.heap_alloc _ _ _ (by simp)]; exact World.alloc_heap_new _ _)
      have HrA := Lib.hid rA
      have HrB := Lib.hid rB
      clear fA fB fC rA rB
      go_wp2_with fail
      go_region_law (first
        | (refine step_append_src (w := ((wr.alloc (.cells #[] 21)).alloc (.cells #[.int .i32 r] 21)).drew) rfl (.tmp 33) (.tmp 36) 23 rfl wr.heap.size 21 i21 (.int .i32 0) 4 Try.underlying23 hi21 hz210 hz211 hz212 rfl (.slice (some ⟨wr.heap.size, 0, none⟩) 0 0) 0 [] (by simp [Act.eval] <;> omega) (show World.ownsRow (((wr.alloc (.cells #[] 21)).alloc (.cells #[.int .i32 r] 21)).drew) wr.heap.size 21 1 _ 0 [] from HA.out) (some ⟨b, o, none⟩) k cap (ints (l.take k)) (by simp [Act.eval] <;> omega) (S1.out _ (HBB.out _ _).drew) (ints_one _) (by unfold maxLen; omega) (by omega) (HBB.out _ _).size ?_
           intro v1 w1 ho1 hb1 hg1
           have hbw1 := (HBB.out _ _).drew.trans hb1
           have hR1 := src_far (W := ((wr.alloc (.cells #[] 21)).alloc (.cells #[.int .i32 r] 21)).drew) (B := wr.heap.size + 1) HrA.out hg1 (by simp [Value.ownBlock]))
        | (refine step_append_src (w := ((wr.alloc (.cells #[.int .i32 r] 21)).alloc (.cells #[] 21)).drew) rfl (.tmp 33) (.tmp 36) 23 rfl wr.heap.size 21 i21 (.int .i32 0) 4 Try.underlying23 hi21 hz210 hz211 hz212 rfl (.slice (some ⟨wr.heap.size + 1, 0, none⟩) 0 0) 0 [] (by simp [Act.eval] <;> omega) (show World.ownsRow (((wr.alloc (.cells #[.int .i32 r] 21)).alloc (.cells #[] 21)).drew) wr.heap.size 21 1 _ 0 [] from HB.out) (some ⟨b, o, none⟩) k cap (ints (l.take k)) (by simp [Act.eval] <;> omega) (S1.out _ (HBB.out _ _).drew) (ints_one _) (by unfold maxLen; omega) (by omega) (HBB.out _ _).size ?_
           intro v1 w1 ho1 hb1 hg1
           have hbw1 := (HBB.out _ _).drew.trans hb1
           have hR1 := src_far (W := ((wr.alloc (.cells #[.int .i32 r] 21)).alloc (.cells #[] 21)).drew) (B := wr.heap.size) HrB.out hg1 (by simp [Value.ownBlock]))
        | (refine step_append_src (w := (wr.alloc (.cells #[] 21)).drew) rfl (.tmp 33) (.tmp 36) 23 rfl wr.heap.size 21 i21 (.int .i32 0) 4 Try.underlying23 hi21 hz210 hz211 hz212 rfl (.slice (some ⟨wr.heap.size, 0, none⟩) 0 0) 0 [] (by simp [Act.eval] <;> omega) (show World.ownsRow ((wr.alloc (.cells #[] 21)).drew) wr.heap.size 21 1 _ 0 [] from HCc.out) (some ⟨b, o, none⟩) k cap (ints (l.take k)) (by simp [Act.eval] <;> omega) (S1.out _ (HBE.out _).drew) (ints_one _) (by unfold maxLen; omega) (by omega) (HBE.out _).size ?_
           intro v1 w1 ho1 hb1 hg1
           have hbw1 := (HBE.out _).drew.trans hb1)
        | (refine step_append_src (w := w1) rfl (.tmp 37) (.tmp 39) 23 rfl wr.heap.size 21 i21 (.int .i32 0) 4 Try.underlying23 hi21 hz210 hz211 hz212 rfl v1 (0 + k) ([] ++ ints (l.take k)) (by simp [Act.eval] <;> omega) ho1 _ 1 1 [.int .i32 r] (by simp [Act.eval] <;> omega) hR1 (ints_one [r]) (by unfold maxLen; omega) (by omega) hbw1.size ?_
           intro v2 w2 ho2 hb2 _
           have hbw2 := hbw1.trans hb2)
        | (refine step_append_src (w := w1.alloc (.cells #[.int .i32 r] 21)) rfl (.tmp 37) (.tmp 39) 23 rfl wr.heap.size 21 i21 (.int .i32 0) 4 Try.underlying23 hi21 hz210 hz211 hz212 rfl v1 (0 + k) ([] ++ ints (l.take k)) (by simp [Act.eval] <;> omega) (ho1.alloc _) (some ⟨w1.heap.size, 0, none⟩) 1 1 [.int .i32 r] (by simp [Act.eval] <;> omega) (cell_one w1.heap.size _ r (World.alloc_heap_new _ _)) (ints_one [r]) (by unfold maxLen; omega) (by omega) (hbw1.alloc hbw1.size _).size ?_
           intro v2 w2 ho2 hb2 _
           have hbw2 := (hbw1.alloc hbw1.size _).trans hb2)
        | (refine step_append_src (w := w2) rfl (.tmp 40) (.tmp 43) 23 rfl wr.heap.size 21 i21 (.int .i32 0) 4 Try.underlying23 hi21 hz210 hz211 hz212 rfl v2 (0 + k + 1) ([] ++ ints (l.take k) ++ [.int .i32 r]) (by simp [Act.eval] <;> omega) ho2 (if cap = k then some ⟨b, o, none⟩ else some ⟨b, o + k, none⟩) (n - k) (cap - k) (ints (l.drop k)) (by simp [Act.eval] <;> first | omega | (rw [hkn]; simp) | simp [hkn]) (S2.out _ hbw2) (ints_one _) (by unfold maxLen; omega) (by omega) hbw2.size ?_
           intro v3 w3 ho3 hb3 _
           have hbw3 := hbw2.trans hb3))
      all_goals
        have HO := Lib.hid ho3
        have hl' : ints (l.take k ++ [r] ++ l.drop k) = [] ++ ints (l.take k) ++ [.int .i32 r] ++ ints (l.drop k) := by simp [ints]
        clear ho3
        go_wp2
        all_goals
          go_ret
          exact ins_done (B := wr.heap.size) (m := 0 + k + 1 + (n - k)) HI.out (by have h := HO.out; rw [← hl'] at h; exact h) (by have := HN.out; simp; omega) (fun x hx => by
            rcases (HI.out.m x).1 hx with e | e
            · rw [e]; exact ⟨hr0, hr1⟩
            · exact H.out.i x e) hbw3
end Go.Proofs.Ytphhdkffnboboaa

