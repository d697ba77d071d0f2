/-
  Contracts: (*trie.Trie).Get of a trie that share has made, and of none.
-/
import Derived.Test.YtphhdkffnboboaaShr4
namespace Go.Proofs.Ytphhdkffnboboaa
open Go.RowKit Go.Shelf
open Go.Lib Go.Great Go.Maps

/-- A trie that tells G, of others o. -/
def Tr (w : World) (T : Nat) (o : Int) (G : Nat → Int) : Prop := ∃ (b cap : Nat) (u : Nat → Nat), w.cell? ⟨T, 0, none⟩ = some (.int .i64 o) ∧ w.cell? ⟨T, 4353, none⟩ = some (.slice (some ⟨b, 0, none⟩) (dd G 4352).length cap) ∧
  (∀ t, t < 4352 → w.cell? ⟨T, 1 + t, none⟩ = some (.int .i64 (u t : Nat)) ∧ u t < (dd G 4352).length) ∧ (∀ t j, t < 4352 → j < 256 → w.cell? ⟨b, u t * 256 + j, none⟩ = some (.int .u8 (G (256 * t + j)))) ∧ (dd G 4352).length ≤ 4352
theorem cell_lt {w : World} {p : Addr} {v : Value} (h : w.cell? p = some v) : p.block < w.heap.size := by
  rcases Nat.lt_or_ge p.block w.heap.size with c | c
  · exact c
  · unfold World.cell? at h
    rw [Array.getElem?_eq_none c] at h
    cases h
theorem Tr.lt {w : World} {T : Nat} {o : Int} {G : Nat → Int} (h : Tr w T o G) : T < w.heap.size := by obtain ⟨_, _, _, h, _⟩ := h; exact cell_lt h
theorem Tr.below {w w' : World} {T : Nat} {o : Int} {G : Nat → Int} (h : Tr w T o G) (hb : Below w.heap.size w w') : Tr w' T o G := by
  obtain ⟨b, cap, u, h1, h2, h3, h4, h5⟩ := h
  refine ⟨b, cap, u, (hb.cell (p := ⟨T, 0, none⟩) (cell_lt h1)).trans h1, (hb.cell (p := ⟨T, 4353, none⟩) (cell_lt h2)).trans h2, fun t ht => ⟨(hb.cell (p := ⟨T, 1 + t, none⟩) (cell_lt (h3 t ht).1)).trans (h3 t ht).1, (h3 t ht).2⟩, fun t j ht hj => ?_, h5⟩
  exact (hb.cell (p := ⟨b, u t * 256 + j, none⟩) (cell_lt (h4 t j ht hj))).trans (h4 t j ht hj)
theorem flat_get (f : Nat → List Value) (hf : ∀ k, (f k).length = 256) : ∀ (l : List Nat) (i j k : Nat), l[i]? = some k → j < 256 → (l.flatMap f)[i * 256 + j]? = (f k)[j]? := by
  intro l
  induction l with
  | nil => intro i j k h; simp at h
  | cons x xs ih =>
    intro i j k h hj
    rw [List.flatMap_cons]
    rcases i with _ | i
    · simp only [List.getElem?_cons_zero, Option.some.injEq] at h
      subst h
      rw [Nat.zero_mul, Nat.zero_add, List.getElem?_append_left (by rw [hf]; exact hj)]
    · simp only [List.getElem?_cons_succ] at h
      rw [List.getElem?_append_right (by rw [hf]; omega), hf, show (i + 1) * 256 + j - 256 = i * 256 + j by omega]
      exact ih i j k h hj
theorem Tr.of_share {w : World} {T M : Nat} {o : Int} {F : Nat → Int} {S : Value} (h1 : TB w T (.int .i64 o) (fun t => (rf F 4352 t : Nat)) S) (h2 : w.ownsRow M 84 256 S (dd F 4352).length ((dd F 4352).flatMap (blc F))) : Tr w T o F := by
  have hp : 0 < (dd F 4352).length := Nat.lt_of_le_of_lt (Nat.zero_le _) (rf_lt F 4352 0 (dd_has F 4352 0 (by omega)))
  obtain ⟨b, cap, rfl, hb1, hb2⟩ := h2.form hp
  refine ⟨b, cap, rf F 4352, h1.other, h1.slice.1, fun t ht => ⟨(h1.ref ht).1, rf_lt F 4352 t (dd_has F 4352 t ht)⟩, fun t j ht hj => ?_, dd_len F 4352⟩
  have hl := rf_lt F 4352 t (dd_has F 4352 t ht)
  obtain ⟨k, hk, hs⟩ := rf_at F 4352 t (dd_has F 4352 t ht)
  rw [h2.cellAt _ (by omega), flat_get (blc F) (blc_len F) _ _ j k hk hj, (sameB_iff F k t).1 hs]
  exact blc_get F t j hj

set_option maxHeartbeats 2000000 in
set_option maxRecDepth 100000 in
theorem get_any (T : Nat) (o : Int) (G : Nat → Int) (r : Int) (w : World) (h : Tr w T o G) (hG : U8 G) (r0 : -2147483648 ≤ r) (r1 : r ≤ 2147483647) :
    Calls Try.prog 18 #[.pointer (some ⟨T, 0, none⟩), .int .i32 r] w fun e w' => e = .returned (.int .i64 (if r < 0 ∨ 1114111 < r then o else G r.toNat)) ∧ Below w.heap.size w w' := by
  obtain ⟨b, cap, u, h1, h2, h3, h4, h5⟩ := h
  generalize (dd G 4352).length = n at *
  by_cases c0 : r < 0
  · rw [if_pos (.inl c0)]
    go_enter Try.func18, Try.ntmps18
    go_wp2
    go_ret
    exact ⟨rfl, Below.refl _ _⟩
  · by_cases c1 : 1114111 < r
    · rw [if_pos (.inr c1)]
      go_enter Try.func18, Try.ntmps18
      go_wp2
      go_ret
      exact ⟨rfl, Below.refl _ _⟩
    · rw [if_neg (by omega)]
      obtain ⟨a, rfl⟩ := Int.eq_ofNat_of_zero_le (show 0 ≤ r by omega)
      have ha : a < 1114112 := by omega
      obtain ⟨p1, p2⟩ := h3 (a / 256) (by omega)
      have p3 := h4 (a / 256) (a % 256) (by omega) (by omega)
      have e1 : 256 * (a / 256) + a % 256 = a := by omega
      rw [e1] at p3
      have hg := hG a
      simp only [Int.toNat_natCast]
      generalize G a = ga at *
      generalize u (a / 256) = q at *
      have j1 : (0 : Int) ≤ (a : Int) / 256 := by omega
      have j2 : (a : Int) / 256 < 4352 := by omega
      have j3 : (0 : Int) ≤ (a : Int) % 256 := by omega
      have j4 : (a : Int) % 256 < 256 := by omega
      have j5 : (q : Int) < (n : Int) := by omega
      have i1 : ¬ (a : Int) < 0 := by omega
      have i2 : ¬ (1114111 : Int) < (a : Int) := by omega
      clear h3 h4 c0 c1 hG e1
      go_enter Try.func18, Try.ntmps18
      go_wp2
      go_region
      go_wp2
      go_ret
      exact ⟨rfl, (Below.refl _ _).drew⟩
theorem get_nil (r : Int) (w : World) : Calls Try.prog 18 #[.pointer none, .int .i32 r] w fun e w' => e = .returned (.int .i64 0) ∧ Below w.heap.size w w' := by
  go_enter Try.func18, Try.ntmps18
  go_wp2
  go_ret
  exact ⟨rfl, Below.refl _ _⟩
theorem blocks_any (T : Nat) (o : Int) (G : Nat → Int) (w : World) (h : Tr w T o G) : Calls Try.prog 23 #[.pointer (some ⟨T, 0, none⟩)] w fun e w' => e = .returned (.int .i64 ((dd G 4352).length : Nat)) ∧ Below w.heap.size w w' := by
  obtain ⟨b, cap, u, h1, h2, h3, h4, h5⟩ := h
  generalize (dd G 4352).length = n at *
  clear h3 h4
  go_enter Try.func23, Try.ntmps23
  go_wp2
  go_ret
  exact ⟨rfl, Below.refl _ _⟩
set_option maxHeartbeats 2000000 in
set_option maxRecDepth 100000 in
theorem blocks_nil (w : World) : Calls Try.prog 23 #[.pointer none] w fun e w' => e = .returned (.int .i64 0) ∧ Below w.heap.size w w' := by
  go_enter Try.func23, Try.ntmps23
  go_wp2
  go_ret
  exact ⟨rfl, Below.refl _ _⟩
set_option maxHeartbeats 2000000 in
set_option maxRecDepth 100000 in
theorem set_nil (c : Int) (w : World) : Calls Try.prog 20 #[.pointer none, .int .i64 c] w fun e w' => e = .returned (.slice none 0 0) ∧ Below w.heap.size w w' := by
  go_enter Try.func20, Try.ntmps20
  go_wp2
  go_ret
  exact ⟨rfl, Below.refl _ _⟩
set_option maxHeartbeats 2000000 in
set_option maxRecDepth 100000 in
theorem classes_nil (w : World) : Calls Try.prog 25 #[.pointer none] w fun e w' => e = .returned (.slice none 0 0) ∧ Below w.heap.size w w' := by
  go_enter Try.func25, Try.ntmps25
  go_wp2
  go_ret
  exact ⟨rfl, Below.refl _ _⟩
set_option maxHeartbeats 2000000 in
set_option maxRecDepth 100000 in
theorem same_nil1 (w : World) : Calls Try.prog 27 #[.pointer none, .pointer none] w fun e w' => e = .returned (.bool true) ∧ Below w.heap.size w w' := by
  go_enter Try.func27, Try.ntmps27
  go_wp2
  go_ret
  exact ⟨rfl, Below.refl _ _⟩
set_option maxHeartbeats 2000000 in
set_option maxRecDepth 100000 in
theorem same_nil2 (T : Nat) (w : World) : Calls Try.prog 27 #[.pointer (some ⟨T, 0, none⟩), .pointer none] w fun e w' => e = .returned (.bool false) ∧ Below w.heap.size w w' := by
  go_enter Try.func27, Try.ntmps27
  go_wp2
  go_ret
  exact ⟨rfl, Below.refl _ _⟩
set_option maxHeartbeats 2000000 in
set_option maxRecDepth 100000 in
theorem same_nil3 (T : Nat) (w : World) : Calls Try.prog 27 #[.pointer none, .pointer (some ⟨T, 0, none⟩)] w fun e w' => e = .returned (.bool false) ∧ Below w.heap.size w w' := by
  have he : ∀ w, (binOp BinOp.eql 26 (.pointer none) (.pointer (some ⟨T, 0, none⟩))).run Try.prog w = .ok (.bool false) w := fun w => by kernel_rfl
  go_enter Try.func27, Try.ntmps27
  go_wp2
  go_ret
  exact ⟨rfl, Below.refl _ _⟩
end Go.Proofs.Ytphhdkffnboboaa
