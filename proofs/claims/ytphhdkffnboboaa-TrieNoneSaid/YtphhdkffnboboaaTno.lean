/-
  The law TrieNone: of no trie nothing comes; of too many entries there is none.
-/
import Derived.Test.YtphhdkffnboboaaTaw
namespace Go.Proofs.Ytphhdkffnboboaa
open Go.RowKit Go.Shelf
open Go.Lib Go.Great Go.Maps

def e0 : En := ⟨none, 0, [], 0⟩
theorem fold_e0 (o : Int) (i : Nat) : ∀ k, (List.replicate k e0).foldl (fun v e => if hasR e.xs i then e.c else v) o = o := by
  intro k
  induction k with
  | zero => rfl
  | succ k ih => rw [List.replicate_succ, List.foldl_cons]; exact ih
theorem any_e0 (k : Nat) : (List.replicate k e0).any wrongE = false := by
  rw [List.any_eq_false]
  intro x hx
  rw [(List.mem_replicate.1 hx).2]
  decide
theorem make_entries (k : Nat) (hk : k ≤ 1000) : ∃ Z : Array Value, (∀ w : World, (Instr.makeSlice 30 (.int .i64 (k : Int)) (.int .i64 (k : Int))).run Try.prog w = .ok (.slice (some ⟨w.heap.size, 0, none⟩) k k) (w.alloc (.cells Z 72))) ∧
    ∀ w : World, ES (w.alloc (.cells Z 72)) (w.alloc (.cells Z 72)).heap.size (some ⟨w.heap.size, 0, none⟩) k (List.replicate k e0) := by
  obtain ⟨i, hi, hzz⟩ := Option.map_eq_some_iff.1 Try.info72
  simp only [Prod.mk.injEq] at hzz
  obtain ⟨hz, hsize, hby⟩ := hzz
  refine ⟨madeCells #[.slice none 0 0, .int .i64 0] (k * 2), fun w => ?_, fun w => ?_⟩
  · have := run_make (P := Try.prog) w 30 72 i _ Try.underlying30 hi hz .i64 .i64 (k : Int) (k : Int) (by omega) (by omega) (by rw [hby]; omega) (by omega)
    rw [hsize] at this
    exact this
  · have hh := heap_alloc_new w (.cells (madeCells #[.slice none 0 0, .int .i64 0] (k * 2)) 72)
    refine ⟨by simp, by unfold maxLen; omega, fun e he => ?_, fun _ => ⟨_, 0, rfl, by simp, fun j e he => ?_⟩⟩
    · rw [(List.mem_replicate.1 he).2]
      exact ⟨Nat.le_refl _, Nat.zero_le _, by simp [e0], fun h => absurd rfl h⟩
    · rw [List.getElem?_replicate] at he
      split at he
      · rename_i hj
        injection he with he
        subst he
        have c1 : (madeCells #[.slice none 0 0, .int .i64 0] (k * 2))[0 + j * 2]? = some (.slice none 0 0) := by
          unfold madeCells
          rw [Array.getElem?_map, Array.getElem?_range, if_pos (by omega)]
          have : (0 + j * 2) % (#[Value.slice none 0 0, Value.int .i64 0] : Array Value).size = 0 := by show (0 + j * 2) % 2 = 0; omega
          simp only [Option.map_some, this]
          rfl
        have c2 : (madeCells #[.slice none 0 0, .int .i64 0] (k * 2))[0 + j * 2 + 1]? = some (.int .i64 0) := by
          unfold madeCells
          rw [Array.getElem?_map, Array.getElem?_range, if_pos (by omega)]
          have : (0 + j * 2 + 1) % (#[Value.slice none 0 0, Value.int .i64 0] : Array Value).size = 1 := by show (0 + j * 2 + 1) % 2 = 1; omega
          simp only [Option.map_some, this]
          rfl
        exact ⟨(cell_of_row _ _ _ _ _ _ hh).trans c1, (cell_of_row _ _ _ _ _ _ hh).trans c2⟩
      · cases he
theorem no_dd (F : Nat → Int) (h : ∀ i : Nat, i < 1114112 → F i = 3) : (dd F 4352).length = 1 := by
  have := dd_one F (fun i h1 h2 => sameB_of F 0 i fun j hj => by rw [h _ (by omega), h _ (by omega)]) 4351 (by omega)
  rw [this]
  rfl

set_option maxHeartbeats 4000000 in
set_option maxRecDepth 100000 in
theorem tno_any (n : Int) (n0 : 0 ≤ n) (n1 : n ≤ 255) (r : Int) (r0 : -2147483648 ≤ r) (r1 : r ≤ 2147483647) (w : World) : Calls Try.prog 7 #[.int .u8 n, .int .i32 r] w fun e w' => e = .returned (.bool true) ∧ Below w.heap.size w w' := by
  have C := Lib.hid (taw_any w)
  obtain ⟨a, rfl⟩ := Int.eq_ofNat_of_zero_le n0
  obtain ⟨k, hk⟩ : ∃ k : Nat, 195 + a % 10 = k := ⟨_, rfl⟩
  have i1 : (0 : Int) ≤ (a : Int) % 10 := by omega
  have i2 : (a : Int) % 10 < 10 := by omega
  obtain ⟨Z, hmk, hES⟩ := make_entries k (by omega)
  have ek : (k : Int) = 195 + (a : Int) % 10 := by omega
  rw [ek] at hmk
  have HES := Lib.hid hES
  have GN := Lib.hid (get_nil r)
  have SN := Lib.hid (set_nil 0)
  have BN := Lib.hid blocks_nil
  have CN := Lib.hid classes_nil
  have N1 := Lib.hid same_nil1
  clear hES
  by_cases hlong : 200 < k
  · have L := Lib.hid fun w A => new_long 3 A k k w hlong (by omega)
    have i3 : (200 : Int) < 195 + (a : Int) % 10 := by omega
    clear ek hk hlong
    go_enter Try.func7, Try.ntmps7
    go_wp2_with fail
    refine C.out.mono ?_
    rintro e w1 ⟨rfl, hb1⟩
    have hb2 := hb1.trans ((below_new w1 (.cells Z 72)).mono hb1.size)
    have HB := Lib.hid hb2
    clear hb1 hb2
    go_wp2_with fail
    refine (L.out _ _).mono ?_
    rintro e w2 ⟨rfl, hb2⟩
    have hz2 := HB.out.trans (hb2.mono HB.out.size)
    have HB := Lib.hid hz2
    clear hb2 hz2
    go_wp2_with fail
    refine (GN.out _).mono ?_
    rintro e wn0 ⟨rfl, hx⟩
    have hz := HB.out.trans (hx.mono HB.out.size)
    have HB := Lib.hid hz
    clear hx hz
    go_wp2_with fail
    refine (SN.out _).mono ?_
    rintro e wn1 ⟨rfl, hx⟩
    have hz := HB.out.trans (hx.mono HB.out.size)
    have HB := Lib.hid hz
    clear hx hz
    go_wp2_with fail
    refine (BN.out _).mono ?_
    rintro e wn2 ⟨rfl, hx⟩
    have hz := HB.out.trans (hx.mono HB.out.size)
    have HB := Lib.hid hz
    clear hx hz
    go_wp2_with fail
    refine (CN.out _).mono ?_
    rintro e wn3 ⟨rfl, hx⟩
    have hz := HB.out.trans (hx.mono HB.out.size)
    have HB := Lib.hid hz
    clear hx hz
    go_wp2_with fail
    refine (N1.out _).mono ?_
    rintro e wn4 ⟨rfl, hx⟩
    have hz := HB.out.trans (hx.mono HB.out.size)
    have HB := Lib.hid hz
    clear hx hz
    go_wp2_with fail
    go_ret
    exact ⟨rfl, HB.out⟩
  · have L := Lib.hid fun w => new_any 3 _ k (List.replicate k e0) _ (HES.out w) (fun h => by cases h) (by simp; omega) (fun e he => by rw [(List.mem_replicate.1 he).2]; exact Nat.zero_le _)
    have hlen : (List.replicate k e0).length = k := by simp
    rw [hlen] at L
    have L := Lib.hid L.out
    have hok : (cls 3 && !(List.replicate k e0).any wrongE) = true := by rw [any_e0]; rfl
    have i3 : ¬ (200 : Int) < 195 + (a : Int) % 10 := by omega
    have d3 : decide ((200 : Int) < 195 + (a : Int) % 10) = false := by simp; omega
    have G := Lib.hid get_any
    have D := Lib.hid blocks_any
    have N2 := Lib.hid same_nil2
    have N3 := Lib.hid same_nil3
    clear ek hk hlong hlen
    go_enter Try.func7, Try.ntmps7
    go_wp2_with fail
    refine C.out.mono ?_
    rintro e w1 ⟨rfl, hb1⟩
    have hb2 := hb1.trans ((below_new w1 (.cells Z 72)).mono hb1.size)
    have HB := Lib.hid hb2
    clear hb1 hb2
    go_wp2_with fail
    refine (L.out _).mono ?_
    rintro e w2 ⟨hb2, hp⟩
    rw [if_pos hok] at hp
    obtain ⟨T, F, rfl, hF, hFi, hT⟩ := hp
    have hFa : ∀ i : Nat, i < 1114112 → F i = 3 := fun i hi => (hFi i hi).trans (fold_e0 3 i k)
    have hz2 := HB.out.trans (hb2.mono HB.out.size)
    have H := Lib.hid (And.intro hF hFa)
    have HT := Lib.hid hT
    have HB := Lib.hid hz2
    clear hb2 hz2 hok hF hFi hFa hT
    go_wp2_with fail
    refine (GN.out _).mono ?_
    rintro e wn0 ⟨rfl, hx⟩
    have hz := HB.out.trans (hx.mono HB.out.size)
    have ht := HT.out.below hx
    have HB := Lib.hid hz
    have HT := Lib.hid ht
    clear hx hz ht
    go_wp2_with fail
    refine (SN.out _).mono ?_
    rintro e wn1 ⟨rfl, hx⟩
    have hz := HB.out.trans (hx.mono HB.out.size)
    have ht := HT.out.below hx
    have HB := Lib.hid hz
    have HT := Lib.hid ht
    clear hx hz ht
    go_wp2_with fail
    refine (BN.out _).mono ?_
    rintro e wn2 ⟨rfl, hx⟩
    have hz := HB.out.trans (hx.mono HB.out.size)
    have ht := HT.out.below hx
    have HB := Lib.hid hz
    have HT := Lib.hid ht
    clear hx hz ht
    go_wp2_with fail
    refine (CN.out _).mono ?_
    rintro e wn3 ⟨rfl, hx⟩
    have hz := HB.out.trans (hx.mono HB.out.size)
    have ht := HT.out.below hx
    have HB := Lib.hid hz
    have HT := Lib.hid ht
    clear hx hz ht
    go_wp2_with fail
    refine (N1.out _).mono ?_
    rintro e wn4 ⟨rfl, hx⟩
    have hz := HB.out.trans (hx.mono HB.out.size)
    have ht := HT.out.below hx
    have HB := Lib.hid hz
    have HT := Lib.hid ht
    clear hx hz ht
    go_wp2_with fail
    refine (G.out T 3 F r _ HT.out H.out.1 r0 r1).mono ?_
    rintro e wg ⟨rfl, hx⟩
    have e2 : (if r < 0 ∨ 1114111 < r then 3 else F r.toNat) = 3 := by
      split
      · rfl
      · exact H.out.2 _ (by omega)
    rw [e2]
    have hz := HB.out.trans (hx.mono HB.out.size)
    have ht := HT.out.below hx
    have HB := Lib.hid hz
    have HT := Lib.hid ht
    clear hx hz ht
    clear e2
    go_wp2_with fail
    refine (D.out T 3 F _ HT.out).mono ?_
    rintro e wd ⟨rfl, hx⟩
    rw [no_dd F H.out.2]
    have hz := HB.out.trans (hx.mono HB.out.size)
    have ht := HT.out.below hx
    have HB := Lib.hid hz
    have HT := Lib.hid ht
    clear hx hz ht
    go_wp2_with fail
    refine (N2.out T _).mono ?_
    rintro e we ⟨rfl, hx⟩
    have hz := HB.out.trans (hx.mono HB.out.size)
    have ht := HT.out.below hx
    have HB := Lib.hid hz
    have HT := Lib.hid ht
    clear hx hz ht
    go_wp2_with fail
    refine (N3.out T _).mono ?_
    rintro e wf ⟨rfl, hx⟩
    have hz := HB.out.trans (hx.mono HB.out.size)
    have ht := HT.out.below hx
    have HB := Lib.hid hz
    have HT := Lib.hid ht
    clear hx hz ht
    go_wp2_with fail
    go_ret
    exact ⟨rfl, HB.out⟩
end Go.Proofs.Ytphhdkffnboboaa
