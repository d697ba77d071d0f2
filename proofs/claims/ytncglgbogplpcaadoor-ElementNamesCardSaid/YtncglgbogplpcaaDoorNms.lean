/-
  Contract: element.Names.
-/
import Derived.Test.YtncglgbogplpcaaDoorElm
import Derived.Test.YtncglgbogplpcaaDoorSrt
namespace Go.Proofs.YtncglgbogplpcaaDoor
open Go.RowKit Go.Shelf Go.Lib Go.Maps
attribute [local irreducible] nmL ofN

/-- A list of numbers that lies somewhere. -/
structure IL (w : World) (B : Nat) (xs : List Int) (A : Option Addr) (cap : Nat) : Prop where
  l : xs.length ≤ cap
  m : cap ≤ maxLen
  r : ∀ (i : Nat) x, xs[i]? = some x → ∃ b o, A = some ⟨b, o, none⟩ ∧ b < B ∧ w.cell? ⟨b, o + i, none⟩ = some (.int .i64 x)
theorem IL.below {w w' : World} {B : Nat} {xs : List Int} {A : Option Addr} {cap : Nat} (h : IL w B xs A cap) (hb : Below B w w') : IL w' B xs A cap :=
  ⟨h.l, h.m, fun i x hx => by
    obtain ⟨b, o, e, h1, h2⟩ := h.r i x hx
    exact ⟨b, o, e, h1, (hb.cell (p := ⟨b, _, none⟩) h1).trans h2⟩⟩
def orL (xs : List Int) : Int := xs.foldl (fun a x => bits BinOp.or IntKind.i64 a x) 0
theorem orL_snoc {xs : List Int} {i : Nat} {x : Int} (h : xs[i]? = some x) : orL (xs.take (i + 1)) = bits BinOp.or IntKind.i64 (orL (xs.take i)) x := by
  unfold orL
  rw [List.take_add_one, h, List.foldl_append]
  rfl
/-- Has a name some bits? -/
def anyB (x : List UInt8) (S : Int) : Prop := bits BinOp.and IntKind.i64 (ofN x 7 : Int) S ≠ 0
theorem bits_zero (S : Int) : bits BinOp.and IntKind.i64 0 S = 0 := by
  show IntKind.i64.wrap ((BitVec.ofInt 64 0 &&& BitVec.ofInt 64 S).toNat : Int) = 0
  rw [show BitVec.ofInt 64 0 = 0#64 from rfl, BitVec.zero_and]
  rfl
/-- What has been taken, while some keys are left. -/
structure Tk (D : DataW Value) (S : Int) (left : Lit → Bool) (l : List (List UInt8)) : Prop where
  le : ∀ z, left z = true → Maps.has D z = true
  mem : ∀ x : List UInt8, x ∈ l ↔ (Maps.has D (.string x) = true ∧ left (.string x) = false ∧ anyB x S)
  nd : l.Nodup
theorem tk_start (D : DataW Value) (S : Int) : Tk D S (Maps.has D) [] := ⟨fun _ h => h, fun x => by
  constructor
  · intro h
    cases h
  · rintro ⟨h1, h2, _⟩
    rw [h1] at h2
    exact absurd h2 (by decide), List.nodup_nil⟩
theorem same_str (a b : List UInt8) : (Lit.string a).sameKey (.string b) = decide (a = b) := by
  show (a == b) = _
  by_cases h : a = b <;> simp [h]
theorem Tk.skip {D : DataW Value} {S : Int} {left : Lit → Bool} {l : List (List UInt8)} (h : Tk D S left l) (x : List UInt8) (hn : ¬ anyB x S) : Tk D S (fun z => left z && !z.sameKey (.string x)) l := by
  refine ⟨fun z hz => h.le z (by simp at hz; exact hz.1), fun y => ?_, h.nd⟩
  rw [h.mem y, same_str]
  by_cases e : y = x
  · subst e
    exact ⟨fun hh => absurd hh.2.2 hn, fun hh => absurd hh.2.2 hn⟩
  · simp [e]
theorem Tk.take {D : DataW Value} {S : Int} {left : Lit → Bool} {l : List (List UInt8)} (h : Tk D S left l) (x : List UInt8) (hl : left (.string x) = true) (hn : anyB x S) : Tk D S (fun z => left z && !z.sameKey (.string x)) (l ++ [x]) := by
  have hx : x ∉ l := fun hx => by
    have := ((h.mem x).1 hx).2.1
    rw [hl] at this
    cases this
  refine ⟨fun z hz => h.le z (by simp at hz; exact hz.1), fun y => ?_, ?_⟩
  · rw [List.mem_append, h.mem y, same_str]
    by_cases e : y = x
    · subst e
      simp [hn, h.le _ hl]
    · simp [e]
  · rw [List.nodup_append]
    refine ⟨h.nd, by simp, fun a ha b hb => ?_⟩
    simp at hb
    subst hb
    intro e
    subst e
    exact hx ha
theorem tk_end {D : DataW Value} {S : Int} {left : Lit → Bool} {l : List (List UInt8)} (h : Tk D S left l) (hE : EmD D (fun x => ofN x 7)) (hl : ∀ z, left z = false) : ∀ x, x ∈ l ↔ anyB x S := fun x => by
  rw [h.mem x]
  refine ⟨fun hh => hh.2.2, fun hh => ⟨?_, hl _, hh⟩⟩
  refine ((hE x).1 (fun e => ?_)).1
  apply hh
  have e' : ofN x 7 = 0 := e
  rw [e']
  exact bits_zero S
theorem name_inv (key : Value) (kl : Lit) (h : keyOf Tryd.prog 9 key = some kl) : ∃ x : ByteArray, key = .string x := by
  obtain ⟨s, rfl, _, _⟩ := Go.WideMaps.string_of_keyOf Tryd.underlying9 h
  exact ⟨s, rfl⟩
theorem name_lit {s : ByteArray} {kl : Lit} (h : keyOf Tryd.prog 9 (.string s) = some kl) : kl = .string s.data.toList := by
  obtain ⟨s', e, rfl, _⟩ := Go.WideMaps.string_of_keyOf Tryd.underlying9 h
  injection e with e
  rw [e]
theorem elem_inv (v : Value) (y : DataW Value × List MemPlace) (h : plainElem Tryd.prog 3 v = some y) : ∃ c : Int, v = .int .i64 c := by
  obtain ⟨c, rfl, _⟩ := plainElem_int_inv Tryd.underlying3 h
  exact ⟨c, rfl⟩
theorem elem_lit {c : Int} {y : DataW Value × List MemPlace} (h : plainElem Tryd.prog 3 (.int .i64 c) = some y) : y.1 = .lit (.int .i64 c) := by
  obtain ⟨c', e, rfl, _⟩ := plainElem_int_inv Tryd.underlying3 h
  injection e with _ e
  rw [e]
/-- The names that have some bits, rising. -/
def NamesOk (S : Int) (l : List (List UInt8)) : Prop := (∀ x, x ∈ l ↔ anyB x S) ∧ l.Nodup ∧ l.Pairwise (fun x y => x ≤ y)
theorem sort_ok {S : Int} {l : List (List UInt8)} (h1 : ∀ x, x ∈ l ↔ anyB x S) (h2 : l.Nodup) : NamesOk S (sortS l) := by
  have hp : (sortS l).Perm l := List.mergeSort_perm _ _
  refine ⟨fun x => by rw [← h1 x]; exact hp.mem_iff, hp.nodup_iff.2 h2, ?_⟩
  have := List.pairwise_mergeSort (le := fun x y : List UInt8 => decide (x ≤ y)) (fun a b c h1 h2 => by
    simp only [decide_eq_true_eq] at h1 h2 ⊢
    exact List.le_trans h1 h2) (fun a b => by
    simp only [Bool.or_eq_true, decide_eq_true_eq]
    exact List.le_total a b) l
  exact this.imp (fun h => by simpa using h)
set_option maxRecDepth 100000 in
set_option maxHeartbeats 8000000 in
theorem names5_any (xs : List Int) (A : Option Addr) (cap : Nat) (w : World) (hx : IL w w.heap.size xs A cap) (hA : AS w) (h0 : 0 < w.heap.size) :
    Calls Tryd.prog 5 #[.slice A xs.length cap] w fun e w' => ∃ A' c l, e = .returned (.slice A' l.length c) ∧ l.length ≤ c ∧ c ≤ maxLen ∧ NamesOk (orL xs) l ∧ SL w' A' l ∧ Below w.heap.size w w' := by
  have CE := elements_any w hA h0
  have hxl := hx.l
  have hxm := hx.m
  obtain ⟨N, hN⟩ : ∃ N, xs.length = N := ⟨_, rfl⟩
  rw [hN] at hxl ⊢
  obtain ⟨S, hS⟩ : ∃ s, orL xs = s := ⟨_, rfl⟩
  rw [hS]
  have HH := Lib.hid (And.intro hx (And.intro hN hS))
  clear hx hA h0 hN hS
  unfold maxLen at hxm
  go_enter Tryd.func5, Tryd.ntmps5
  go_wp2_with fail
  go_loopw [3, 11] (fun s i wr => ∃ k : Nat, k ≤ N ∧ s = .int .i64 (orL (xs.take k)) ∧ i = .int .i64 (k : Int) ∧ wr = w) (fun _ i _ => N - (RowKit.intOf i).toNat)
  case atStart => exact ⟨0, by omega, rfl, rfl, rfl⟩
  case round =>
    obtain ⟨k, hk, rfl, rfl, rfl⟩ := hrel
    by_cases lt : k < N
    case pos =>
      have i1 : (k : Int) < (N : Int) := by omega
      obtain ⟨x, hxx⟩ : ∃ x, xs[k]? = some x := ⟨_, List.getElem?_eq_getElem (by rw [HH.out.2.1]; exact lt)⟩
      obtain ⟨b, o, hAe, _, hc⟩ := HH.out.1.r k x hxx
      subst hAe
      have hs := orL_snoc hxx
      obtain ⟨R, hR⟩ : ∃ s, orL (xs.take k) = s := ⟨_, rfl⟩
      rw [hR] at hs ⊢
      have HS := Lib.hid hs
      clear hs hxx hR
      go_wp2_with fail
      exact ⟨⟨k + 1, by omega, by rw [HS.out], by go_num, trivial⟩, by simp [RowKit.intOf]; omega⟩
    case neg =>
      have i1 : ¬ (k : Int) < (N : Int) := by omega
      rw [List.take_of_length_le (by rw [HH.out.2.1]; omega), HH.out.2.2]
      clear hk lt
      go_wp2_with fail
      refine CE.mono ?_
      rintro e w1 ⟨rfl, ⟨n, ⟨D, hD, hE⟩, hn⟩, hb1⟩
      obtain ⟨wo, rfl⟩ : ∃ W : World, W = wr := ⟨_, rfl⟩
      clear CE
      have HE := Lib.hid (And.intro hE (And.intro hn hb1))
      clear hE hn hb1
      go_wp2_with (first
        | (at_range; refine wpList_range_own _ rfl _ 29 rfl 9 3 keyed9 Tryd.underlying29 _ wo.heap.size n D rfl hD ?_; intro w2 hrg hg hsz)
        | fail)
      go_frame
      have hb2 : Below wo.heap.size wo w2 := HE.out.2.2.trans ⟨hg.os, hg.tape, hg.output, hg.size, fun j hj => hg.block j (by have := HE.out.2.2.size; omega) (by simp)⟩
      have hr1 : wo.heap.size < w1.heap.size := hD.lt
      have HS := Lib.hid (And.intro hrg (And.intro hb2 (And.intro hD.size_le (And.intro hr1 hsz))))
      clear hrg hb2 hr1 hsz hg hD
      go_loopw [6] (fun v W => ∃ left cnt l, OwnS W w2.heap.size l v ∧ W.ranges Tryd.prog 9 (plainElem Tryd.prog 3) wo.heap.size w1.heap.size n D left cnt ∧ Tk D S left l ∧ l.length + cnt ≤ 1000 ∧ Below wo.heap.size wo W ∧ w2.heap.size ≤ W.heap.size) (fun _ W => W.rangeLeft wo.heap.size w1.heap.size)
      case atStart => exact ⟨_, _, [], ownS_nil _ _, HS.out.1, tk_start D S, by have := HS.out.2.2.1; have := HE.out.2.1; simp; omega, HS.out.2.1, Nat.le_refl _⟩
      case round =>
        obtain ⟨left, cnt, l, hO, hR, hT, hlc, hb, hsz⟩ := hrel
        obtain ⟨A', c', rfl⟩ := hO.form
        have hr0 : wo.heap.size < w1.heap.size := HS.out.2.2.2.1
        have hr2 : w2.heap.size = w1.heap.size + 1 := HS.out.2.2.2.2
        have HX := Lib.hid (And.intro hO (And.intro hR (And.intro hT (And.intro hb hsz))))
        clear hO hR hT hb hsz
        go_wp2_with (first
          | (at_next; refine wpList_next_ranges _ rfl _ rfl 9 keyed9 (plainElem Tryd.prog 3) Value.string (Value.int .i64) name_inv elem_inv wo.heap.size w1.heap.size n D left cnt rfl HX.out.2.1 ?_ ?_)
          | fail)
        · intro hc0 hl0
          have hmem := tk_end HX.out.2.2.1 HE.out.1 hl0
          have hok := sort_ok hmem HX.out.2.2.1.nd
          have hcp := HX.out.1.cap
          have CS := sort_any wr w2.heap.size l A' c' HX.out.1 (by omega)
          have HY := Lib.hid (And.intro hok (And.intro hcp HX.out.2.2.2.1))
          clear hmem hok hl0 hcp HX
          go_wp2_with fail
          refine CS.mono ?_
          rintro e w4 ⟨rfl, hSL, hb4⟩
          have HZ := Lib.hid (And.intro hSL hb4)
          clear hSL hb4 CS
          go_wp2_with fail
          go_ret
          exact ⟨A', c', sortS l, by rw [sortS_len]; rfl, by rw [sortS_len]; exact HY.out.2.1.1, HY.out.2.1.2, HY.out.1, HZ.out.1, HY.out.2.2.trans (HZ.out.2.mono (by omega))⟩
        · intro x c kl y1 y2 w3 cnt1 hkey hlk hRy hat hrg1 hlt hg1 hs1 hen
          obtain rfl := name_lit hkey
          obtain ⟨⟨X⟩⟩ := x
          have hl1 : left (.string X) = true := hlk
          have hc : c = (ofN X 7 : Int) := by
            have h1 := hat (.lit (.int .i64 0))
            have h2 := elem_lit hRy
            by_cases e : ofN X 7 = 0
            · have := ((HE.out.1) X).2 e
              rw [HX.out.2.2.1.le _ hl1] at this
              cases this
            · have h3 := (((HE.out.1) X).1 e).2 (.lit (.int .i64 0))
              have h4 : DataW.lit (.int .i64 (ofN X 7 : Int)) = DataW.lit (.int .i64 c) := h3.symm.trans (h1.trans h2)
              injection h4 with h5
              injection h5 with _ h6
              exact h6.symm
          have hsz3 := HX.out.2.2.2.2
          have hO3 : OwnS w3 w2.heap.size l (.slice A' l.length c') := HX.out.1.kept hg1 (.inr (fun e => by have := (own_block_lt HX.out.1 _ e).1; omega))
          have hb3 : Below wo.heap.size wo w3 := HX.out.2.2.2.1.trans ⟨hg1.os, hg1.tape, hg1.output, hg1.size, fun j hj => hg1.block j (by omega) (by intro e; injection e with e; omega)⟩
          have hm3 : w3.rangeLeft wo.heap.size w1.heap.size < wr.rangeLeft wo.heap.size w1.heap.size := by rw [hrg1.left_eq, HX.out.2.1.left_eq]; exact hlt
          by_cases hs : bits BinOp.and IntKind.i64 c S = 0
          · have hn : ¬ anyB X S := fun h => h (by rw [← hc]; exact hs)
            have hT1 := HX.out.2.2.1.skip X hn
            have hsb : (bits BinOp.and IntKind.i64 c S != 0) = false := by rw [hs]; rfl
            have HR := Lib.hid (And.intro hO3 (And.intro hrg1 (And.intro hT1 (And.intro hb3 hm3))))
            clear hO3 hrg1 hT1 hb3 hm3 hn hs hg1 hat hRy hlk hl1 hkey hc
            go_wp2_with fail
            exact ⟨⟨_, cnt1, l, HR.out.1, HR.out.2.1, HR.out.2.2.1, by omega, HR.out.2.2.2.1, by omega⟩, HR.out.2.2.2.2⟩
          · have hn : anyB X S := by unfold anyB; rw [← hc]; exact hs
            have hT1 := HX.out.2.2.1.take X hl1 hn
            have hsb : (bits BinOp.and IntKind.i64 c S != 0) = true := by simp [hs]
            have HR := Lib.hid (And.intro hO3 (And.intro hrg1 (And.intro hT1 (And.intro hb3 hm3))))
            clear hO3 hrg1 hT1 hb3 hm3 hn hs hg1 hat hRy hlk hl1 hkey hc
            go_wp2_with (first
              | (at_builtin; refine wpList_appS rfl (.tmp 30) (.tmp 32) rfl w2.heap.size _ l X rfl w3 HR.out.1 rfl (by show Value.slice (some ⟨wr.heap.size, 0, none⟩) 1 1 = _; rw [hs1]) (by omega) (by omega) ?_)
              | fail)
            intro g cp w4 hO4 hg4
            have hob := own_block_lt HR.out.1
            have hrg4 := HR.out.2.1.kept hg4 (by intro e; have := (hob _ e.symm).1; omega) (by intro e; have := (hob _ e.symm).1; omega)
            have hb4 : Below wo.heap.size wo w4 := HR.out.2.2.2.1.trans ⟨hg4.os, hg4.tape, hg4.output, hg4.size, fun j hj => hg4.block j (by omega) (by intro e; have := (hob _ e.symm).1; omega)⟩
            have hm4 : w4.rangeLeft wo.heap.size w1.heap.size < wr.rangeLeft wo.heap.size w1.heap.size := by
              have h1 := HR.out.2.2.2.2
              rw [HR.out.2.1.left_eq] at h1
              rw [hrg4.left_eq]
              exact h1
            have hsz4 : w2.heap.size ≤ w4.heap.size := by have := hg4.size; omega
            have HR4 := Lib.hid (And.intro hO4 (And.intro hrg4 (And.intro hb4 (And.intro hm4 hsz4))))
            clear hO4 hrg4 hb4 hm4 hsz4 hg4 hob
            go_wp2_with fail
            exact ⟨⟨_, cnt1, l ++ [X], by rw [hr2]; exact HR4.out.1, HR4.out.2.1, HR.out.2.2.1, by simp; omega, HR4.out.2.2.1, HR4.out.2.2.2.2⟩, HR4.out.2.2.2.1⟩
end Go.Proofs.YtncglgbogplpcaaDoor
