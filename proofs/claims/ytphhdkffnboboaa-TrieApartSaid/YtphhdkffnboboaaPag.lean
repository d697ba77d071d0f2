/-
  Contracts: (*trie.Trie).Get of a trie that share has made, and of none.
  The library's contracts at this dump: slices.ContainsFunc of entries.
  Entries of a trie: which are wrong; the set of all numbers.
  Contracts: whether any entry is wrong; the set of all numbers.
  What trie.New needs: the row of all blocks made, the new trie's variable, entries appended, what entries tell.
  Contracts: trie.New.
-/
import Derived.Test.YtphhdkffnboboaaPaf
import Derived.Shelf.SlicesQ.IndexFunc
import Derived.Shelf.SlGeneric
import Derived.Ground.SlgfProg
import Derived.Ground.NamesProg
import Derived.Test.YtphhdkffnboboaaProg
import Derived.Test.YtphhdkffnboboaaPac
import Derived.Laws.MakeOwn
import Derived.Test.YtphhdkffnboboaaPab
namespace Go.Proofs.Ytphhdkffnboboaa
open Go.RowKit Go.Shelf
open Go.Lib Go.Great Go.Maps

/-- A trie that tells G, of others o. -/
def Tr (w : World) (T : Nat) (o : Int) (G : Nat → Int) : Prop := ∃ (b cap : Nat) (u : Nat → Nat), w.cell? ⟨T, 0, none⟩ = some (.int .i64 o) ∧ w.cell? ⟨T, 4353, none⟩ = some (.slice (some ⟨b, 0, none⟩) (dd G 4352).length cap) ∧
  (∀ t, t < 4352 → w.cell? ⟨T, 1 + t, none⟩ = some (.int .i64 (u t : Nat)) ∧ u t < (dd G 4352).length) ∧ (∀ t j, t < 4352 → j < 256 → w.cell? ⟨b, u t * 256 + j, none⟩ = some (.int .u8 (G (256 * t + j)))) ∧ (dd G 4352).length ≤ 4352 ∧
  (∀ t, t < 4352 → u t = rf G 4352 t) ∧ (∀ i k, (dd G 4352)[i]? = some k → ∀ j, j < 256 → w.cell? ⟨b, i * 256 + j, none⟩ = some (.int .u8 (G (256 * k + j))))
theorem cell_lt {w : World} {p : Addr} {v : Value} (h : w.cell? p = some v) : p.block < w.heap.size := by
  rcases Nat.lt_or_ge p.block w.heap.size with c | c
  · exact c
  · unfold World.cell? at h
    rw [Array.getElem?_eq_none c] at h
    cases h
theorem Tr.lt {w : World} {T : Nat} {o : Int} {G : Nat → Int} (h : Tr w T o G) : T < w.heap.size := by obtain ⟨_, _, _, h, _⟩ := h; exact cell_lt h
theorem Tr.below {w w' : World} {T : Nat} {o : Int} {G : Nat → Int} (h : Tr w T o G) (hb : Below w.heap.size w w') : Tr w' T o G := by
  obtain ⟨b, cap, u, h1, h2, h3, h4, h5, h6, h7⟩ := h
  refine ⟨b, cap, u, (hb.cell (p := ⟨T, 0, none⟩) (cell_lt h1)).trans h1, (hb.cell (p := ⟨T, 4353, none⟩) (cell_lt h2)).trans h2, fun t ht => ⟨(hb.cell (p := ⟨T, 1 + t, none⟩) (cell_lt (h3 t ht).1)).trans (h3 t ht).1, (h3 t ht).2⟩, fun t j ht hj => ?_, h5, h6, fun i k hi j hj => (hb.cell (p := ⟨b, i * 256 + j, none⟩) (cell_lt (h7 i k hi j hj))).trans (h7 i k hi j hj)⟩
  exact (hb.cell (p := ⟨b, u t * 256 + j, none⟩) (cell_lt (h4 t j ht hj))).trans (h4 t j ht hj)
theorem flat_get (f : Nat → List Value) (hf : ∀ k, (f k).length = 256) : ∀ (l : List Nat) (i j k : Nat), l[i]? = some k → j < 256 → (l.flatMap f)[i * 256 + j]? = (f k)[j]? := by
  intro l
  induction l with
  | nil => intro i j k h; simp at h
  | cons x xs ih =>
    intro i j k h hj
    rw [List.flatMap_cons]
    rcases i with _ | i
    · simp only [List.getElem?_cons_zero, Option.some.injEq] at h
      subst h
      rw [Nat.zero_mul, Nat.zero_add, List.getElem?_append_left (by rw [hf]; exact hj)]
    · simp only [List.getElem?_cons_succ] at h
      rw [List.getElem?_append_right (by rw [hf]; omega), hf, show (i + 1) * 256 + j - 256 = i * 256 + j by omega]
      exact ih i j k h hj
theorem Tr.of_share {w : World} {T M : Nat} {o : Int} {F : Nat → Int} {S : Value} (h1 : TB w T (.int .i64 o) (fun t => (rf F 4352 t : Nat)) S) (h2 : w.ownsRow M 84 256 S (dd F 4352).length ((dd F 4352).flatMap (blc F))) : Tr w T o F := by
  have hp : 0 < (dd F 4352).length := Nat.lt_of_le_of_lt (Nat.zero_le _) (rf_lt F 4352 0 (dd_has F 4352 0 (by omega)))
  obtain ⟨b, cap, rfl, hb1, hb2⟩ := h2.form hp
  refine ⟨b, cap, rf F 4352, h1.other, h1.slice.1, fun t ht => ⟨(h1.ref ht).1, rf_lt F 4352 t (dd_has F 4352 t ht)⟩, fun t j ht hj => ?_, dd_len F 4352, fun _ _ => rfl, fun i k hi j hj => ?_⟩
  · have hl := rf_lt F 4352 t (dd_has F 4352 t ht)
    obtain ⟨k, hk, hs⟩ := rf_at F 4352 t (dd_has F 4352 t ht)
    rw [h2.cellAt _ (by omega), flat_get (blc F) (blc_len F) _ _ j k hk hj, (sameB_iff F k t).1 hs]
    exact blc_get F t j hj
  · have hi' := (List.getElem?_eq_some_iff.1 hi).1
    rw [h2.cellAt _ (by omega), flat_get (blc F) (blc_len F) _ _ j k hi hj]
    exact blc_get F k j hj

set_option maxHeartbeats 2000000 in
set_option maxRecDepth 100000 in
theorem get_any (T : Nat) (o : Int) (G : Nat → Int) (r : Int) (w : World) (h : Tr w T o G) (hG : U8 G) (r0 : -2147483648 ≤ r) (r1 : r ≤ 2147483647) :
    Calls Try.prog 18 #[.pointer (some ⟨T, 0, none⟩), .int .i32 r] w fun e w' => e = .returned (.int .i64 (if r < 0 ∨ 1114111 < r then o else G r.toNat)) ∧ Below w.heap.size w w' := by
  obtain ⟨b, cap, u, h1, h2, h3, h4, h5, -, -⟩ := h
  generalize (dd G 4352).length = n at *
  by_cases c0 : r < 0
  · rw [if_pos (.inl c0)]
    go_enter Try.func18, Try.ntmps18
    go_wp2
    go_ret
    exact ⟨rfl, Below.refl _ _⟩
  · by_cases c1 : 1114111 < r
    · rw [if_pos (.inr c1)]
      go_enter Try.func18, Try.ntmps18
      go_wp2
      go_ret
      exact ⟨rfl, Below.refl _ _⟩
    · rw [if_neg (by omega)]
      obtain ⟨a, rfl⟩ := Int.eq_ofNat_of_zero_le (show 0 ≤ r by omega)
      have ha : a < 1114112 := by omega
      obtain ⟨p1, p2⟩ := h3 (a / 256) (by omega)
      have p3 := h4 (a / 256) (a % 256) (by omega) (by omega)
      have e1 : 256 * (a / 256) + a % 256 = a := by omega
      rw [e1] at p3
      have hg := hG a
      simp only [Int.toNat_natCast]
      generalize G a = ga at *
      generalize u (a / 256) = q at *
      have j1 : (0 : Int) ≤ (a : Int) / 256 := by omega
      have j2 : (a : Int) / 256 < 4352 := by omega
      have j3 : (0 : Int) ≤ (a : Int) % 256 := by omega
      have j4 : (a : Int) % 256 < 256 := by omega
      have j5 : (q : Int) < (n : Int) := by omega
      have i1 : ¬ (a : Int) < 0 := by omega
      have i2 : ¬ (1114111 : Int) < (a : Int) := by omega
      clear h3 h4 c0 c1 hG e1
      go_enter Try.func18, Try.ntmps18
      go_wp2
      go_region
      go_wp2
      go_ret
      exact ⟨rfl, (Below.refl _ _).drew⟩
theorem get_nil (r : Int) (w : World) : Calls Try.prog 18 #[.pointer none, .int .i32 r] w fun e w' => e = .returned (.int .i64 0) ∧ Below w.heap.size w w' := by
  go_enter Try.func18, Try.ntmps18
  go_wp2
  go_ret
  exact ⟨rfl, Below.refl _ _⟩
theorem blocks_any (T : Nat) (o : Int) (G : Nat → Int) (w : World) (h : Tr w T o G) : Calls Try.prog 23 #[.pointer (some ⟨T, 0, none⟩)] w fun e w' => e = .returned (.int .i64 ((dd G 4352).length : Nat)) ∧ Below w.heap.size w w' := by
  obtain ⟨b, cap, u, h1, h2, h3, h4, h5, -, -⟩ := h
  generalize (dd G 4352).length = n at *
  clear h3 h4
  go_enter Try.func23, Try.ntmps23
  go_wp2
  go_ret
  exact ⟨rfl, Below.refl _ _⟩
set_option maxHeartbeats 2000000 in
set_option maxRecDepth 100000 in
theorem blocks_nil (w : World) : Calls Try.prog 23 #[.pointer none] w fun e w' => e = .returned (.int .i64 0) ∧ Below w.heap.size w w' := by
  go_enter Try.func23, Try.ntmps23
  go_wp2
  go_ret
  exact ⟨rfl, Below.refl _ _⟩
set_option maxHeartbeats 2000000 in
set_option maxRecDepth 100000 in
theorem set_nil (c : Int) (w : World) : Calls Try.prog 20 #[.pointer none, .int .i64 c] w fun e w' => e = .returned (.slice none 0 0) ∧ Below w.heap.size w w' := by
  go_enter Try.func20, Try.ntmps20
  go_wp2
  go_ret
  exact ⟨rfl, Below.refl _ _⟩
set_option maxHeartbeats 2000000 in
set_option maxRecDepth 100000 in
theorem classes_nil (w : World) : Calls Try.prog 25 #[.pointer none] w fun e w' => e = .returned (.slice none 0 0) ∧ Below w.heap.size w w' := by
  go_enter Try.func25, Try.ntmps25
  go_wp2
  go_ret
  exact ⟨rfl, Below.refl _ _⟩
set_option maxHeartbeats 2000000 in
set_option maxRecDepth 100000 in
theorem same_nil1 (w : World) : Calls Try.prog 27 #[.pointer none, .pointer none] w fun e w' => e = .returned (.bool true) ∧ Below w.heap.size w w' := by
  go_enter Try.func27, Try.ntmps27
  go_wp2
  go_ret
  exact ⟨rfl, Below.refl _ _⟩
set_option maxHeartbeats 2000000 in
set_option maxRecDepth 100000 in
theorem same_nil2 (T : Nat) (w : World) : Calls Try.prog 27 #[.pointer (some ⟨T, 0, none⟩), .pointer none] w fun e w' => e = .returned (.bool false) ∧ Below w.heap.size w w' := by
  go_enter Try.func27, Try.ntmps27
  go_wp2
  go_ret
  exact ⟨rfl, Below.refl _ _⟩
set_option maxHeartbeats 2000000 in
set_option maxRecDepth 100000 in
theorem same_nil3 (T : Nat) (w : World) : Calls Try.prog 27 #[.pointer none, .pointer (some ⟨T, 0, none⟩)] w fun e w' => e = .returned (.bool false) ∧ Below w.heap.size w w' := by
  have he : ∀ w, (binOp BinOp.eql 26 (.pointer none) (.pointer (some ⟨T, 0, none⟩))).run Try.prog w = .ok (.bool false) w := fun w => by kernel_rfl
  go_enter Try.func27, Try.ntmps27
  go_wp2
  go_ret
  exact ⟨rfl, Below.refl _ _⟩
end Go.Proofs.Ytphhdkffnboboaa

namespace Go.Proofs
open Go.Shelf
def Try.containsE_ren : Go.Shelf.Ren := ⟨fun | 8 => 41 | 6 => 71 | n => n, fun | 22 => 30 | 23 => 72 | 25 => 74 | 4 => 4 | 3 => 3 | 0 => 0 | n => n, fun | n => n⟩
theorem Try.containsE : Go.Proofs.SlLaysH0.n8 Try.prog Try.containsE_ren := {
  mixed := by kernel_rfl
  f6 := ⟨Try.f71.name, by decide, Try.func71.trans (congrArg some (by kernel_rfl))⟩
  f8 := ⟨Try.f41.name, by decide, Try.func41.trans (congrArg some (by kernel_rfl))⟩
  t0 := Try.underlying0
  a0 := Try.isAgg0
  z0 := Try.sizeOf0
  v0 := Try.zeroValue0
  t3 := Try.underlying3
  a3 := Try.isAgg3
  z3 := Try.sizeOf3
  v3 := Try.zeroValue3
  t4 := Try.underlying4
  a4 := Try.isAgg4
  z4 := Try.sizeOf4
  v4 := Try.zeroValue4
  t22 := Try.underlying30
  a22 := Try.isAgg30
  z22 := Try.sizeOf30
  v22 := Try.zeroValue30
  t25 := Try.underlying74
  a25 := Try.isAgg74
  z25 := Try.sizeOf74
  v25 := Try.zeroValue74 }
end Go.Proofs

namespace Go.Proofs.Ytphhdkffnboboaa
open Go.RowKit Go.Shelf
open Go.Lib Go.Great Go.Maps

structure En where
  A : Option Addr
  cap : Nat
  xs : List Rng
  c : Int
instance : Inhabited En := ⟨⟨none, 0, [], 0⟩⟩
def cellE (e : En) : List Value := [.slice e.A e.xs.length e.cap, .int .i64 e.c]
def cls (c : Int) : Bool := decide (0 ≤ c) && decide (c ≤ 255)
/-- An entry that can't be. -/
def wrongE (e : En) : Bool := !cls e.c || !right e.xs
/-- Entries one behind the other, each with its own ranges. -/
def EnAt (w : World) (b o : Nat) (es : List En) : Prop := ∀ i e, es[i]? = some e → w.cell? ⟨b, o + i * 2, none⟩ = some (.slice e.A e.xs.length e.cap) ∧ w.cell? ⟨b, o + i * 2 + 1, none⟩ = some (.int .i64 e.c)
def ES (w : World) (B : Nat) (A : Option Addr) (cap : Nat) (es : List En) : Prop :=
  es.length ≤ cap ∧ cap ≤ maxLen ∧ (∀ e ∈ es, RS w B e.A e.cap e.xs) ∧ (es ≠ [] → ∃ b o, A = some ⟨b, o, none⟩ ∧ b < B ∧ EnAt w b o es)
theorem EnAt.below {w w' : World} {b o B : Nat} {es : List En} (h : EnAt w b o es) (hb : b < B) (hB : Below B w w') : EnAt w' b o es := fun i x hx => by
  obtain ⟨h1, h2⟩ := h i x hx
  exact ⟨(hB.cell (p := ⟨b, o + i * 2, none⟩) hb).trans h1, (hB.cell (p := ⟨b, o + i * 2 + 1, none⟩) hb).trans h2⟩
theorem ES.below {w w' : World} {B : Nat} {A : Option Addr} {cap : Nat} {es : List En} (h : ES w B A cap es) (hB : Below B w w') : ES w' B A cap es :=
  ⟨h.1, h.2.1, fun e he => (h.2.2.1 e he).below hB, fun hn => by obtain ⟨b, o, rfl, hb, hR⟩ := h.2.2.2 hn; exact ⟨b, o, rfl, hb, hR.below hb hB⟩⟩
theorem ES.mono {w : World} {B B' : Nat} {A : Option Addr} {cap : Nat} {es : List En} (h : ES w B A cap es) (hB : B ≤ B') : ES w B' A cap es :=
  ⟨h.1, h.2.1, fun e he => (h.2.2.1 e he).mono hB, fun hn => by obtain ⟨b, o, rfl, hb, hR⟩ := h.2.2.2 hn; exact ⟨b, o, rfl, by omega, hR⟩⟩

theorem isClass_any (c : Int) (w : World) : Calls Try.prog 40 #[.int .i64 c] w fun e w' => e = .returned (.bool (cls c)) ∧ w' = w := by
  unfold cls
  by_cases c1 : 0 ≤ c
  · by_cases c2 : c ≤ 255
    · go_enter Try.func40, Try.ntmps40
      go_wp2
      go_ret
      exact ⟨by simp [c1, c2], rfl⟩
    · have d : decide (c ≤ 255) = false := by simpa using c2
      go_enter Try.func40, Try.ntmps40
      go_wp2
      go_ret
      exact ⟨by simp, rfl⟩
  · have d : decide (0 ≤ c) = false := by simpa using c1
    go_enter Try.func40, Try.ntmps40
    go_wp2
    go_ret
    exact ⟨by simp, rfl⟩
set_option maxHeartbeats 1000000 in
theorem isWrong_any (x : En) (w : World) (h : RS w w.heap.size x.A x.cap x.xs) : Calls Try.prog 42 #[.agg (cellE x).toArray] w fun e w' => e = .returned (.bool (wrongE x)) ∧ Below w.heap.size w w' := by
  obtain ⟨A, cap, xs, c⟩ := x
  unfold wrongE
  show Calls Try.prog 42 #[.agg #[.slice A xs.length cap, .int .i64 c]] w _
  have h : RS w w.heap.size A cap xs := h
  have hb := below_new w (.cells #[.slice A xs.length cap, .int .i64 c] 72)
  have C1 := Lib.hid (isClass_any c)
  have C2 := Lib.hid (right_any A cap xs _ ((h.below hb).mono (by simp)))
  have HB := Lib.hid hb
  show Calls Try.prog 42 #[.agg #[.slice A xs.length cap, .int .i64 c]] w fun e w' => e = .returned (.bool (!cls c || !right xs)) ∧ Below w.heap.size w w'
  generalize right xs = ri at *
  generalize xs.length = n at *
  clear h hb
  cases hc : cls c with
  | true =>
    have C1 := Lib.hid (by rw [hc] at C1; exact C1.out)
    go_enter Try.func42, Try.ntmps42
    go_wp2_with fail
    refine (C1.out _).mono ?_
    rintro e w1 ⟨rfl, rfl⟩
    go_wp2_with fail
    refine C2.out.mono ?_
    rintro e w2 ⟨rfl, hb2⟩
    have hbz := HB.out.trans (hb2.mono HB.out.size)
    go_wp2_with fail
    go_ret
    exact ⟨by simp, hbz⟩
  | false =>
    have C1 := Lib.hid (by rw [hc] at C1; exact C1.out)
    have hbz := HB.out
    go_enter Try.func42, Try.ntmps42
    go_wp2_with fail
    refine (C1.out _).mono ?_
    rintro e w1 ⟨rfl, rfl⟩
    go_wp2_with fail
    go_ret
    exact ⟨by simp, hbz⟩
end Go.Proofs.Ytphhdkffnboboaa

namespace Go.Proofs.Ytphhdkffnboboaa
open Go.RowKit Go.Shelf
open Go.Lib Go.Great Go.Maps

theorem indexE_empty (A : Option Addr) (cap : Nat) (fv : Value) (w : World) : Calls Try.prog 71 #[.slice A 0 cap, fv] w fun e w' => e = .returned (.int .i64 (-1)) ∧ w' = w := by
  go_enter Try.func71, Try.ntmps71
  go_wp2
  go_loopw [8] (fun i wr => i = .int .i64 0 ∧ wr = w) (fun _ _ => 0)
  case atStart => exact ⟨rfl, rfl⟩
  case round =>
    obtain ⟨rfl, rfl⟩ := hrel
    go_wp2
    go_ret
    exact ⟨rfl, rfl⟩
theorem containsE_empty (A : Option Addr) (cap : Nat) (fv : Value) (w : World) : Calls Try.prog 41 #[.slice A 0 cap, fv] w fun e w' => e = .returned (.bool false) ∧ w' = w := by
  have C := Lib.hid (indexE_empty A cap fv w)
  go_enter Try.func41, Try.ntmps41
  go_wp2_with fail
  refine C.out.mono ?_
  rintro e w1 ⟨rfl, rfl⟩
  go_wp2
  go_ret
  exact ⟨rfl, rfl⟩
theorem containsE_any (A : Option Addr) (cap : Nat) (es : List En) (w : World) (h : ES w w.heap.size A cap es) :
    Calls Try.prog 41 #[.slice A es.length cap, .func (.func 42) #[] #[]] w fun e w' => e = .returned (.bool (es.any wrongE)) ∧ Below w.heap.size w w' := by
  have eg : ∀ args w, (callFunc 42 args).run Try.prog w = .ok (.enter 42 args) w := enters_of Try.func42 (by kernel_rfl) rfl
  by_cases hn : es = []
  · subst hn
    exact (containsE_empty A cap _ w).mono fun e w' h => ⟨h.1, by rw [h.2]; exact Below.refl _ _⟩
  · obtain ⟨b, o, rfl, hb, hE⟩ := h.2.2.2 hn
    have hm : es.length ≤ maxLen := by have := h.1; have := h.2.1; omega
    unfold maxLen at hm
    let α := {e : En // RS w w.heap.size e.A e.cap e.xs}
    have : Inhabited α := ⟨⟨⟨none, 0, [], 0⟩, ⟨Nat.le_refl _, Nat.zero_le _, by simp, by simp⟩⟩⟩
    let zs : List α := es.attachWith _ h.2.2.1
    have hz1 : zs.map Subtype.val = es := List.attachWith_map_subtype_val _ 
    have hzl : zs.length = es.length := by rw [← hz1, List.length_map]
    have hcon := AnyQ.slices_ContainsFunc Try.containsE 2 Try.isAgg72 Try.sizeOf72 (fun x : α => cellE x.1) (fun _ => rfl) (fun x => wrongE x.1) 42 #[] eg b o zs.length cap zs w
      (fun W x hb' => (isWrong_any x.1 W ((x.2.below hb').mono hb'.size)).mono fun e w' hh => ⟨hh.1, hb'.trans (hh.2.mono hb'.size)⟩) (Nat.le_refl _) (by omega) hb (fun j hj i v hi => by
        have hx : zs[j]? = some zs[j]! := by
          rw [List.getElem?_eq_getElem hj, List.getElem!_eq_getElem?_getD, List.getElem?_eq_getElem hj]; rfl
        have hx2 : es[j]? = some (zs[j]!).1 := by rw [← hz1, List.getElem?_map, hx]; rfl
        obtain ⟨h1, h2⟩ := hE j _ hx2
        generalize (zs[j]!).1 = y at hi h1 h2
        match i, hi with
        | 0, hi => simp [cellE] at hi; rw [← hi]; exact h1
        | 1, hi => simp [cellE] at hi; rw [← hi]; exact h2
        | i + 2, hi => simp [cellE] at hi)
    rw [List.take_length, hzl] at hcon
    have hany : zs.any (fun x => wrongE x.1) = es.any wrongE := by rw [← hz1, List.any_map]; rfl
    rw [hany] at hcon
    exact hcon
theorem everything_any (w : World) : Calls Try.prog 43 #[] w fun e w' => ∃ out : List Rng, right out = true ∧ (∀ r : Int, hasR out r = (decide (0 ≤ r) && decide (r ≤ 1114111))) ∧ out.length ≤ 1 ∧ HoldsR w.heap.size 70 out w e w' := by
  have C := Lib.hid (not_any none 0 [] w ⟨by simp, by unfold maxLen; omega, by simp, by simp⟩ (.inl ⟨rfl, rfl⟩) (by simp))
  go_enter Try.func43, Try.ntmps43
  go_wp2_with fail
  refine C.out.mono ?_
  rintro e w1 ⟨out, h1, h2, h3, v, rfl, h4, h5⟩
  have H := Lib.hid (And.intro h1 (And.intro h2 (And.intro h3 (And.intro h4 h5))))
  clear h1 h2 h3 h4 h5
  go_wp2_with fail
  go_ret
  refine ⟨out, H.out.1, fun r => ?_, by have := H.out.2.2.1; simpa using this, _, rfl, H.out.2.2.2.1, H.out.2.2.2.2⟩
  rw [H.out.2.1]
  have e : known [] = [] := by unfold known; split <;> rfl
  rw [e]
  simp [notR, hasR]
end Go.Proofs.Ytphhdkffnboboaa

namespace Go.Proofs.Ytphhdkffnboboaa
open Go.RowKit Go.Shelf
open Go.Lib Go.Great Go.Maps

/-- What entries tell of a number. -/
def tell (l : List En) (i : Nat) : Int := l.foldl (fun v e => if hasR e.xs i then e.c else v) 0
theorem tell_snoc (l : List En) (k : Nat) (e : En) (h : l[k]? = some e) (i : Nat) : tell (l.take (k + 1)) i = if hasR e.xs i then e.c else tell (l.take k) i := by
  rw [List.take_add_one, h]
  simp [tell]
theorem tell_cls (l : List En) (h : ∀ e ∈ l, 0 ≤ e.c ∧ e.c ≤ 255) : U8 (tell l) := by
  intro i
  unfold tell
  have : ∀ (v : Int), 0 ≤ v ∧ v ≤ 255 → 0 ≤ l.foldl (fun v e => if hasR e.xs i then e.c else v) v ∧ l.foldl (fun v e => if hasR e.xs i then e.c else v) v ≤ 255 := by
    induction l with
    | nil => intro v hv; exact hv
    | cons x xs ih =>
      intro v hv
      rw [List.foldl_cons]
      refine ih (fun e he => h e (List.mem_cons_of_mem _ he)) _ ?_
      split
      · exact h x List.mem_cons_self
      · exact hv
  exact this 0 (by omega)

theorem RS.but {w w' : World} {B X : Nat} {A : Option Addr} {cap : Nat} {xs : List Rng} (h : RS w X A cap xs) (hX : X ≤ w.heap.size) (hb : But B w w') (hne : ∀ b o, RgAt w b o xs → xs ≠ [] → b ≠ B) : RS w' w'.heap.size A cap xs :=
  ⟨h.1, h.2.1, h.2.2.1, fun hn => by
    obtain ⟨b, o, rfl, hlt, hR⟩ := h.2.2.2 hn
    have hbB := hne b o hR hn
    have hs := hb.size
    refine ⟨b, o, rfl, by omega, fun i x hx => ?_⟩
    obtain ⟨h1, h2⟩ := hR i x hx
    exact ⟨(hb.cell (p := ⟨b, o + i * 2, none⟩) (by show b < _; omega) hbB).trans h1, (hb.cell (p := ⟨b, o + i * 2 + 1, none⟩) (by show b < _; omega) hbB).trans h2⟩⟩
theorem below_but {X B : Nat} {w w0 w' : World} (h : Below X w w0) (hb : But B w0 w') (h1 : X ≤ B) (h2 : X ≤ w0.heap.size) : Below X w w' :=
  ⟨hb.os.trans h.os, hb.tape.trans h.tape, hb.output.trans h.output, Nat.le_trans h.size hb.size, fun k hk => (hb.block k (by omega) (by omega)).trans (h.block k hk)⟩

theorem zero84 : ((Try.prog.info? 84).bind (·.zero)).map (·.cells) = some Z84 := by kernel_rfl
theorem Z84_get (j : Nat) (h : j < Z84.size) : Z84[j] = .int .u8 0 := by
  have hj : j < 256 := by rw [Z84_size] at h; exact h
  have : Z84[j]? = some (.int .u8 0) := by unfold Z84; rw [List.getElem?_toArray, List.getElem?_replicate, if_pos hj]
  exact (Array.getElem?_eq_some_iff.1 this).2
theorem make_blocks : ∃ Z : Array Value, Z.size = 1114112 ∧ (∀ i, i < 1114112 → Z[i]? = some (.int .u8 0)) ∧ ∀ w : World, (Instr.makeSlice 75 (.int .i64 4352) (.int .i64 4352)).run Try.prog w = .ok (.slice (some ⟨w.heap.size, 0, none⟩) 4352 4352) (w.alloc (.cells Z 84)) := by
  obtain ⟨i, z, hi, hz, hs, hby, hzs⟩ := Try.info84
  have hc : z.cells = Z84 := by
    have := zero84
    rw [hi] at this
    simp only [Option.bind_some, hz, Option.map_some, Option.some.injEq] at this
    exact this
  refine ⟨madeCells z.cells 1114112, size_madeCells _ _, fun j hj => ?_, fun w => ?_⟩
  · unfold madeCells
    rw [Array.getElem?_map, Array.getElem?_range]
    rw [if_pos hj]
    simp only [Option.map_some, Option.some.injEq]
    rw [hzs, hc]
    have h2 : j % 256 < Z84.size := by rw [Z84_size]; omega
    rw [getElem!_pos Z84 _ h2]
    exact Z84_get _ h2
  · have := run_make (P := Try.prog) w 75 84 i z Try.underlying75 hi hz .i64 .i64 4352 4352 (by omega) (by omega) (by rw [hby]; omega) (by omega)
    rw [hs] at this
    exact this

/-- The cells of a new trie. -/
def Z80 (o : Int) : Array Value := (Value.int .i64 o :: (List.replicate 4352 (Value.int .i64 0) ++ [.slice none 0 0])).toArray
theorem Z80_TB (w : World) (T : Nat) (o : Int) (h : w.heap[T]? = some (.cells (Z80 o) 80 (0, 0))) : TB w T (.int .i64 o) (fun _ => 0) (.slice none 0 0) := by
  refine ⟨_, h, ?_, ?_, fun t ht => ?_, ?_⟩
  · unfold Z80; rw [List.size_toArray, List.length_cons, List.length_append, List.length_replicate]; rfl
  · unfold Z80; rw [List.getElem?_toArray, List.getElem?_cons_zero]
  · unfold Z80
    rw [List.getElem?_toArray, Nat.add_comm, List.getElem?_cons_succ, List.getElem?_append_left (by rw [List.length_replicate]; exact ht), List.getElem?_replicate, if_pos ht]
  · unfold Z80
    rw [List.getElem?_toArray, show 4353 = 4352 + 1 from rfl, List.getElem?_cons_succ, List.getElem?_append_right (by rw [List.length_replicate]; exact Nat.le_refl _), List.length_replicate]
    rfl

theorem flat2_get : ∀ (l : List En) (i : Nat) (e : En), l[i]? = some e → (l.flatMap cellE)[i * 2]? = some (.slice e.A e.xs.length e.cap) ∧ (l.flatMap cellE)[i * 2 + 1]? = some (.int .i64 e.c) := by
  intro l
  induction l with
  | nil => intro i e h; simp at h
  | cons x xs ih =>
    intro i e h
    rw [List.flatMap_cons]
    rcases i with _ | i
    · simp only [List.getElem?_cons_zero, Option.some.injEq] at h
      subst h
      exact ⟨rfl, rfl⟩
    · simp only [List.getElem?_cons_succ] at h
      have e1 : (i + 1) * 2 = i * 2 + 2 := by omega
      rw [e1]
      exact ih i e h
theorem flat2_len (l : List En) : (l.flatMap cellE).length = l.length * 2 := by
  induction l with
  | nil => rfl
  | cons x xs ih => rw [List.flatMap_cons, List.length_append, ih, List.length_cons]; simp [cellE]; omega
theorem EnAt.cells {w : World} {b o : Nat} {es : List En} (h : EnAt w b o es) : ∀ j u, (es.flatMap cellE)[j]? = some u → w.cell? ⟨b, o + j, none⟩ = some u := by
  intro j u hu
  have hj : j < es.length * 2 := by rw [← flat2_len]; exact (List.getElem?_eq_some_iff.1 hu).1
  obtain ⟨x, hx⟩ : ∃ x, es[j / 2]? = some x := ⟨es[j / 2]'(by omega), List.getElem?_eq_getElem _⟩
  obtain ⟨h1, h2⟩ := h _ x hx
  obtain ⟨c1, c2⟩ := flat2_get es _ x hx
  rcases Nat.mod_two_eq_zero_or_one j with c | c
  · have e : j / 2 * 2 = j := by omega
    rw [e] at h1 c1
    rw [c1] at hu
    rw [h1, ← hu]
  · have e : j / 2 * 2 + 1 = j := by omega
    rw [Nat.add_assoc, e] at h2
    rw [e] at c2
    rw [c2] at hu
    rw [h2, ← hu]
theorem flat2_one (l : List En) : ∀ u ∈ l.flatMap cellE, u.oneCell' = true := by
  intro u hu
  obtain ⟨e, _, he⟩ := List.mem_flatMap.1 hu
  simp only [cellE, List.mem_cons, List.not_mem_nil, or_false] at he
  rcases he with rfl | rfl <;> rfl
theorem Try.info72 : (Try.prog.info? 72).map (fun i => (i.zero, i.size, i.bytes)) = some (some (.agg #[.slice none 0 0, .int .i64 0]), 2, 32) := by kernel_rfl
set_option maxRecDepth 100000 in
theorem wpList_append_en {w : World} {ops : Array Oper} {rest : List Oper} {o : Oper} {a : Act} {Q : Exit → Act → World → Prop} (hgd : o.guard = none) (s x : Operand)
    (ho : o.op = .call { callee := .builtin .append, args := #[s, x], argTypes := #[30, 30] })
    (base : Nat) (v : Value) (n : Nat) (xs : List Value) (hs : a.eval s = v) (hown : w.ownsRow base 72 2 v n xs)
    (A : Option Addr) (c : Nat) (es : List En) (hx : a.eval x = .slice A es.length c) (hE : ES w w.heap.size A c es) (hF : Fw A c)
    (h63 : n + es.length ≤ 10000000) (hbase : base ≤ w.heap.size)
    (h : ∀ v' w', w'.ownsRow base 72 2 v' (n + es.length) (xs ++ es.flatMap cellE) → Below base w w' → wpList Try.prog ops Q rest (a.put o.dst v') w') : wpList Try.prog ops Q (o :: rest) a w := by
  refine wpList_plain hgd fun K hK => ?_
  obtain ⟨i, hi, hzz⟩ := Option.map_eq_some_iff.1 Try.info72
  simp only [Prod.mk.injEq] at hzz
  obtain ⟨hz, hsize, hby⟩ := hzz
  have key : ∃ v' w', (Builtin.append_ #[30, 30] o.type #[v, .slice A es.length c]).run Try.prog w = .ok v' w' ∧ w'.ownsRow base 72 2 v' (n + es.length) (xs ++ es.flatMap cellE) ∧ Below base w w' := by
    rcases A with _ | ad
    · obtain rfl := hF rfl
      have h0 : es = [] := List.length_eq_zero_iff.1 (by have := hE.1; omega)
      subst h0
      refine ⟨v, w, run_append_owned_none (P := Try.prog) (w := w) base 30 o.type 72 i 2 Try.underlying30 hi v _ _ hown, by simpa using hown, Below.refl _ _⟩
    · have hc : ∀ j u, (es.flatMap cellE)[j]? = some u → w.cell? (ad.add j) = some u := fun j u hj => by
        have hn : es ≠ [] := by rintro rfl; simp at hj
        obtain ⟨b', o', e', _, hg⟩ := hE.2.2.2 hn
        injection e' with e'
        rw [e', Addr.add_lit]
        exact hg.cells j u hj
      obtain ⟨v', w', h1, h2, h3, h4, _⟩ := run_append_own_at (P := Try.prog) w base 30 o.type 72 i _ 2 32 Try.underlying30 hi hz hsize hby rfl (by omega) v n xs hown ad es.length c (es.flatMap cellE) (flat2_len es) hc (flat2_one es) (by unfold maxLen; omega) (by omega) hbase
      exact ⟨v', w', h1, h2, (Below.refl _ w).grown h3 hbase (fun k e' => (own_block_lt hown k e').1)⟩
  obtain ⟨v', w', hrun, h2, h3⟩ := key
  unfold Oper.wp
  simp [execOp, ho, resolve, invoke, builtin, hs, hx, hrun, Result.andThen]
  exact hK _ _ (h v' w' h2 h3)
end Go.Proofs.Ytphhdkffnboboaa

namespace Go.Proofs.Ytphhdkffnboboaa
open Go.RowKit Go.Shelf
open Go.Lib Go.Great Go.Maps

def NewPost (o : Int) (es : List En) (w : World) (e : Ending) (w' : World) : Prop :=
  Below w.heap.size w w' ∧ if cls o && !es.any wrongE then ∃ T F, e = .returned (.tuple #[.pointer (some ⟨T, 0, none⟩), .int .i64 0]) ∧ U8 F ∧ (∀ i : Nat, i < 1114112 → F i = es.foldl (fun v e => if hasR e.xs i then e.c else v) o) ∧ Tr w' T o F
  else e = .returned (.tuple #[.pointer none, .int .i64 1])
theorem cls_iff (c : Int) : cls c = true ↔ 0 ≤ c ∧ c ≤ 255 := by simp [cls]

attribute [local irreducible] Z80 Z84

set_option maxHeartbeats 4000000 in
set_option maxRecDepth 100000 in
theorem new_bad (o : Int) (A : Option Addr) (cap : Nat) (es : List En) (w : World) (h : ES w w.heap.size A cap es) (hl : es.length ≤ 200) (hbad : (cls o && !es.any wrongE) = false) :
    Calls Try.prog 15 #[.int .i64 o, .slice A es.length cap] w (NewPost o es w) := by
  have C1 := Lib.hid (isClass_any o)
  have C2 := Lib.hid (containsE_any A cap es w h)
  unfold NewPost
  rw [hbad]
  simp only [Bool.false_eq_true, if_false]
  generalize es.any wrongE = q at *
  generalize es.length = n at *
  have i1 : (n : Int) ≤ 200 := by omega
  have d1 : decide ((200 : Int) < (n : Int)) = false := by simp; omega
  clear h
  cases hc : cls o with
  | false =>
    have C1 := Lib.hid (by rw [hc] at C1; exact C1.out)
    clear hbad hc
    go_enter Try.func15, Try.ntmps15
    go_wp2_with fail
    refine (C1.out _).mono ?_
    rintro e w1 ⟨rfl, rfl⟩
    go_wp2_with fail
    go_ret2
    exact ⟨Below.refl _ _, rfl⟩
  | true =>
    rw [hc] at hbad
    obtain rfl : q = true := by simpa using hbad
    have C1 := Lib.hid (by rw [hc] at C1; exact C1.out)
    clear hbad hc
    go_enter Try.func15, Try.ntmps15
    go_wp2_with fail
    refine (C1.out _).mono ?_
    rintro e w1 ⟨rfl, rfl⟩
    go_wp2_with fail
    refine C2.out.mono ?_
    rintro e w2 ⟨rfl, hb⟩
    go_wp2_with fail
    go_ret2
    exact ⟨hb, rfl⟩

set_option maxHeartbeats 4000000 in
set_option maxRecDepth 100000 in
theorem new_good (o : Int) (A : Option Addr) (cap : Nat) (es : List En) (w : World) (h : ES w w.heap.size A cap es) (hF : Fw A cap) (hl : es.length ≤ 200) (hx : ∀ e ∈ es, e.xs.length ≤ 1000000) (hc : cls o = true) (hq : es.any wrongE = false) :
    Calls Try.prog 15 #[.int .i64 o, .slice A es.length cap] w (NewPost o es w) := by
  have C1 := Lib.hid (isClass_any o)
  have C2 := Lib.hid (containsE_any A cap es w h)
  rw [hc] at C1
  rw [hq] at C2
  have C1 := Lib.hid C1.out
  have C2 := Lib.hid C2.out
  obtain ⟨Z, hZ1, hZ2, hmk⟩ := make_blocks
  have C3 := Lib.hid everything_any
  obtain ⟨R, hR⟩ : ∃ R : Ending → World → Prop, R = NewPost o es w := ⟨_, rfl⟩
  rw [← hR]
  have HR := Lib.hid hR
  have HE := Lib.hid (And.intro h (And.intro hF (And.intro hx (And.intro hc hq))))
  obtain ⟨n, hn⟩ : ∃ n, es.length = n := ⟨_, rfl⟩
  have HN := Lib.hid hn
  have HZ := Lib.hid (And.intro hZ1 hZ2)
  rw [hn] at hl C2 ⊢
  have i1 : (n : Int) ≤ 200 := by omega
  have d1 : decide ((200 : Int) < (n : Int)) = false := by simp; omega
  clear hR h hF hx hc hq hn hZ1 hZ2
  go_enter Try.func15, Try.ntmps15
  go_wp2_with fail
  refine (C1.out _).mono ?_
  rintro e w1 ⟨rfl, rfl⟩
  go_wp2_with fail
  refine C2.out.mono ?_
  rintro e w2 ⟨rfl, hb⟩
  go_wp2_with fail
  obtain ⟨B, hB⟩ : ∃ B, w2.heap.size = B := ⟨_, rfl⟩
  have hU : U8B (w2.alloc (.cells Z 84)) B (tell []) := ⟨Z, by rw [← hB]; exact heap_alloc_new _ _, HZ.out.1, HZ.out.2⟩
  have hb3 := hb.trans ((below_new w2 (.cells Z 84)).mono hb.size)
  have hwB : w1.heap.size ≤ B := by rw [← hB]; exact hb.size
  rw [hB]
  generalize w2.alloc (.cells Z 84) = w3 at *
  clear hb hB hmk
  refine (C3.out _).mono ?_
  rintro e w4 ⟨out, ho1, ho2, ho3, v, rfl, hv, hb4⟩
  obtain ⟨A0, cap0, rfl, hRS⟩ := ownsRow_RS hv (fun x hx => (right_may (b := -1) ho1 x hx).1 |> fun hm => by
    have := (may_iff _).1 hm
    exact ⟨by omega, by omega, by omega, by omega⟩)
  obtain ⟨m, hm⟩ : ∃ m, out.length = m := ⟨_, rfl⟩
  have hU5 := (hU.below hb4).below (below_new w4 (.cells #[.slice A0 m cap0, .int .i64 o] 72))
  have hs4 := hb4.size
  have hs3 := hb3.size
  have hb5 : Below w1.heap.size w1 (w4.alloc (.cells #[.slice A0 m cap0, .int .i64 o] 72)) := (hb3.trans (hb4.mono hs3)).trans ((below_new w4 _).mono (by omega))
  have hRS5 := (hRS.below (below_new w4 (.cells #[.slice A0 m cap0, .int .i64 o] 72)))
  have hES5 := HE.out.1.below hb5
  have hz5 : (w4.alloc (.cells #[.slice A0 m cap0, .int .i64 o] 72)).heap.size = w4.heap.size + 1 := by simp
  have hown5 : (w4.alloc (.cells #[.slice A0 m cap0, .int .i64 o] 72)).ownsRow w4.heap.size 72 2 (.slice (some ⟨w4.heap.size, 0, none⟩) 1 1) 1 [.slice A0 m cap0, .int .i64 o] :=
    ⟨rfl, .inr ⟨_, 1, _, rfl, Nat.le_refl _, heap_alloc_new _ _, Nat.le_refl _, by unfold maxLen; omega, rfl, rfl⟩⟩
  have hBlt := hU.lt
  have H5 := Lib.hid (And.intro hU5 (And.intro hb5 (And.intro hRS5 (And.intro (hES5.mono (by omega : w1.heap.size ≤ (w4.alloc (.cells #[.slice A0 m cap0, .int .i64 o] 72)).heap.size)) (And.intro hown5 hz5)))))
  have HO := Lib.hid (And.intro ho1 (And.intro ho2 (And.intro ho3 hm)))
  have HS := Lib.hid (And.intro hwB (And.intro hs3 (And.intro hs4 hBlt)))
  rw [hm]
  clear hU5 hb5 hRS5 hES5 hz5 hown5 ho1 ho2 ho3 hm hwB hs3 hs4 hBlt hU hb4 hb3 hRS hv
  go_wp2_with (first
    | (refine wpList_append_en rfl (.tmp 24) (.tmp 25) rfl w4.heap.size _ 1 _ rfl H5.out.2.2.2.2.1 A cap es (by rw [HN.out]; rfl) H5.out.2.2.2.1 HE.out.2.1 (by rw [HN.out]; omega) (by rw [H5.out.2.2.2.2.2]; omega) ?_)
    | go_in)
  intro v' w6 hown6 hb6
  obtain ⟨g, c6, rfl, hg1, hg2⟩ := hown6.form (by omega)
  obtain ⟨l, hl'⟩ : ∃ l : List En, l = ⟨A0, cap0, out, o⟩ :: es := ⟨_, rfl⟩
  have hcells : (Value.slice A0 m cap0 :: Value.int .i64 o :: List.flatMap cellE es) = l.flatMap cellE := by
    rw [hl', List.flatMap_cons]
    simp only [cellE]
    rw [HO.out.2.2.2]
    rfl
  rw [hcells] at hown6
  rw [HN.out] at hown6
  have hln : l.length = 1 + n := by rw [hl', List.length_cons, HN.out]; omega
  have hs6 := hb6.size
  have h5s := H5.out.2.2.2.2.2
  have hEn : EnAt w6 g 0 l := fun i e he => by
    obtain ⟨c1, c2⟩ := flat2_get l i e he
    have hi := (List.getElem?_eq_some_iff.1 he).1
    rw [hln] at hi
    rw [Nat.zero_add]
    have b1 : i * 2 < (1 + n) * 2 := by omega
    have b2 : i * 2 + 1 < (1 + n) * 2 := by omega
    rw [hown6.cellAt _ b1, hown6.cellAt _ b2]
    exact ⟨c1, c2⟩
  have hb56 : Below (w4.alloc (.cells #[.slice A0 m cap0, .int .i64 o] 72)).heap.size (w4.alloc (.cells #[.slice A0 m cap0, .int .i64 o] 72)) w6 ∨ True := .inr trivial
  have hBw4 : B < w4.heap.size := by have := HS.out; omega
  have hU6 : U8B w6 B (tell []) := H5.out.1.kept (hb6.block B hBw4)
  have hgB : g ≠ B := by omega
  have hRS6 : ∀ e ∈ l, RS w6 w6.heap.size e.A e.cap e.xs := fun e he => by
    rw [hl'] at he
    rcases List.mem_cons.1 he with rfl | he
    · exact (H5.out.2.2.1.below hb6).mono (by omega)
    · exact ((HE.out.1.below (H5.out.2.1)).2.2.1 e he |>.mono (by have := HS.out; omega : w1.heap.size ≤ w4.heap.size) |>.below hb6).mono (by omega)
  have hmay : ∀ e ∈ l, (∀ x ∈ e.xs, may x = true) ∧ 0 ≤ e.c ∧ e.c ≤ 255 ∧ e.xs.length ≤ 1000000 := fun e he => by
    rw [hl'] at he
    rcases List.mem_cons.1 he with rfl | he
    · have := (cls_iff o).1 HE.out.2.2.2.1
      exact ⟨fun x hx => (right_may (b := -1) HO.out.1 x hx).1, this.1, this.2, by have := HO.out.2.2.1; show out.length ≤ _; omega⟩
    · have hw := List.any_eq_false.1 HE.out.2.2.2.2 e he
      have hw2 : cls e.c = true ∧ right e.xs = true := by simpa [wrongE] using hw
      have := (cls_iff e.c).1 hw2.1
      exact ⟨fun x hx => (right_may (b := -1) hw2.2 x hx).1, this.1, this.2, HE.out.2.2.1 e he⟩
  have hbz6 : Below w1.heap.size w1 w6 := H5.out.2.1.trans (hb6.mono (by have := HS.out; omega))
  have H6 := Lib.hid (And.intro hU6 (And.intro hEn (And.intro hRS6 (And.intro hmay (And.intro hbz6 (And.intro hgB (And.intro hg2 (And.intro hln hl'))))))))
  clear hU6 hEn hRS6 hmay hbz6 hgB hg2 hln hl' hown6 hcells hb6 hs6 h5s hb56 hBw4 hg1
  have e1n : 1 + es.length = 1 + n := by rw [HN.out]
  rw [e1n]
  clear e1n
  go_wp2_with fail
  go_loopw [28] (fun i wr => ∃ k : Nat, i = .int .i64 k ∧ k ≤ 1 + n ∧ U8B wr B (tell (l.take k)) ∧ But B w6 wr) (fun i _ => 1 + n - (RowKit.intOf i).toNat)
  case atStart => exact ⟨0, rfl, Nat.zero_le _, H6.out.1, But.refl _ _⟩
  case round =>
    obtain ⟨k, rfl, hk, hU, hb⟩ := hrel
    by_cases hlt : k < 1 + n
    · obtain ⟨x, hx⟩ : ∃ x, l[k]? = some x := ⟨l[k]'(by rw [H6.out.2.2.2.2.2.2.2.1]; exact hlt), List.getElem?_eq_getElem _⟩
      have hxm := List.mem_of_getElem? hx
      obtain ⟨q1, q2⟩ := H6.out.2.1 k x hx
      have p1 := (hb.cell (p := ⟨g, 0 + k * 2, none⟩) H6.out.2.2.2.2.2.2.1 H6.out.2.2.2.2.2.1).trans q1
      have p2 := (hb.cell (p := ⟨g, 0 + k * 2 + 1, none⟩) H6.out.2.2.2.2.2.2.1 H6.out.2.2.2.2.2.1).trans q2
      rw [Nat.zero_add] at p1 p2
      have hR := (H6.out.2.2.1 x hxm).but (Nat.le_refl _) hb (fun b o hr hn => H6.out.1.apart hr hn)
      obtain ⟨m1, m2, m3, m4⟩ := H6.out.2.2.2.1 x hxm
      have hT := fun i => tell_snoc l k x hx i
      obtain ⟨A1, cap1, xs1, c1⟩ := x
      simp only at p1 p2 hR m1 m2 m3 m4 hT
      have hbx := below_new wr (.cells #[.slice A1 xs1.length cap1, .int .i64 c1] 72)
      have hfill := fill_any B (tell (l.take k)) A1 cap1 xs1 c1 _ (hU.below hbx) ((hR.below hbx).mono (by simp)) m1 m2 m3 m4
      have hbb := hb.trans (But.of_below (B := B) hbx)
      have HFI := Lib.hid hfill
      have HBB := Lib.hid hbb
      have HT := Lib.hid hT
      have i2 : (k : Int) < ((1 + n : Nat) : Int) := by omega
      generalize xs1.length = n1 at *
      clear hT hfill hbb hbx hR m1 m2 m3 m4 q1 q2 hU hb hx hxm
      go_wp2_with fail
      refine HFI.out.mono ?_
      rintro e w7 ⟨rfl, hU7, hb7⟩
      have hU8 : U8B w7 B (tell (l.take (k + 1))) := hU7.congr (fun i _ => (HT.out i).symm)
      have hb8 := HBB.out.trans hb7
      go_wp2_with fail
      go_roundw
      case rel => exact ⟨k + 1, by go_num, by omega, hU8, hb8⟩
      case measure => simp [RowKit.intOf]; omega
    · have hkn : k = 1 + n := by omega
      have e : l.take k = l := by rw [hkn, ← H6.out.2.2.2.2.2.2.2.1, List.take_length]
      rw [e] at hU
      have i3 : ¬ (k : Int) < ((1 + n : Nat) : Int) := by omega
      have d3 : decide ((k : Int) < ((1 + n : Nat) : Int)) = false := by simp; omega
      have hTB := Z80_TB (wr.alloc (.cells (Z80 o) 80)) wr.heap.size o (heap_alloc_new wr _)
      have hU9 := hU.below (below_new wr (.cells (Z80 o) 80))
      have hF : U8 (tell l) := tell_cls l fun e he => ⟨(H6.out.2.2.2.1 e he).2.1, (H6.out.2.2.2.1 e he).2.2.1⟩
      have hlt9 := hU.lt
      have hsh := share_any wr.heap.size B (.int .i64 o) (tell l) _ hTB hU9 hF (by omega)
      have hb9 : Below w1.heap.size w1 (wr.alloc (.cells (Z80 o) 80)) := (below_but H6.out.2.2.2.2.1 hb HS.out.1 H6.out.2.2.2.2.1.size).trans ((below_new wr _).mono (by have := HS.out.1; omega))
      have hTw : w1.heap.size ≤ wr.heap.size := by have := HS.out.1; omega
      have hsz9 : (wr.alloc (.cells (Z80 o) 80)).heap.size = wr.heap.size + 1 := by simp
      have HSH := Lib.hid hsh
      have H9 := Lib.hid (And.intro hb9 (And.intro hTw (And.intro hF hsz9)))
      clear hU hb hkn e hTB hU9 hF hlt9 hsh hb9 hTw hsz9 hlt
      go_wp2_with (first
        | (refine wpList_readTo rfl (some 37) rfl (.agg (Z80 o)) (by as_aux_lemma => kernel_rfl) ?_)
        | (refine wpList_boxTo rfl 80 (.tmp 37) rfl (some 38) rfl wr.heap.size rfl (Z80 o) rfl ?_)
        | fail)
      refine HSH.out.mono ?_
      rintro e w10 ⟨rfl, hb10, S, hT10, hO10⟩
      have hTr := Tr.of_share hT10 hO10
      have hbz := below_but H9.out.1 hb10 H9.out.2.1 (by rw [H9.out.2.2.2]; have := H9.out.2.1; omega)
      have hfin : R (.returned (.tuple #[.pointer (some ⟨wr.heap.size, 0, none⟩), .int .i64 0])) w10 := by
        rw [HR.out]
        refine ⟨hbz, ?_⟩
        rw [if_pos (by rw [HE.out.2.2.2.1, HE.out.2.2.2.2]; rfl)]
        refine ⟨wr.heap.size, tell l, rfl, H9.out.2.2.1, fun i hi => ?_, hTr⟩
        rw [H6.out.2.2.2.2.2.2.2.2]
        unfold tell
        rw [List.foldl_cons]
        have : hasR out (i : Int) = true := by rw [HO.out.2.1]; simp; omega
        rw [if_pos this]
      have HFIN := Lib.hid hfin
      clear hTr hbz hfin hT10 hO10 hb10
      go_wp2_with fail
      exact HFIN.out
theorem new_any (o : Int) (A : Option Addr) (cap : Nat) (es : List En) (w : World) (h : ES w w.heap.size A cap es) (hF : Fw A cap) (hl : es.length ≤ 200) (hx : ∀ e ∈ es, e.xs.length ≤ 1000000) :
    Calls Try.prog 15 #[.int .i64 o, .slice A es.length cap] w (NewPost o es w) := by
  by_cases hb : (cls o && !es.any wrongE) = true
  · rw [Bool.and_eq_true] at hb
    exact new_good o A cap es w h hF hl hx hb.1 (by simpa using hb.2)
  · exact new_bad o A cap es w h hl (by simpa using hb)
theorem new_long (o : Int) (A : Option Addr) (cap n : Nat) (w : World) (hl : 200 < n) (hm : n ≤ 9223372036854775807) :
    Calls Try.prog 15 #[.int .i64 o, .slice A n cap] w fun e w' => e = .returned (.tuple #[.pointer none, .int .i64 3]) ∧ Below w.heap.size w w' := by
  have i1 : (200 : Int) < (n : Int) := by omega
  have hb := Below.refl w.heap.size w
  go_enter Try.func15, Try.ntmps15
  go_wp2_with fail
  go_ret2
  exact ⟨rfl, hb⟩
end Go.Proofs.Ytphhdkffnboboaa

