/-
  Contracts: slices.Index and Contains at numbers; expr.Node.each at the function that holds yields to; holds.
-/
import Derived.Test.YtegkogadceodlaaSh
namespace Go.Proofs.Ytegkogadceodlaa
open Go.RowKit Go.Shelf Go.Lib

/-- A slice of numbers. -/
structure IS (w : World) (B : Nat) (xs : List Int) (A : Option Addr) (cap : Nat) : Prop where
  l : xs.length ≤ cap
  m : cap ≤ maxLen
  i : ∀ x ∈ xs, i64 x
  r : xs ≠ [] → ∃ b o, A = some ⟨b, o, none⟩ ∧ b < B ∧ ∀ i x, xs[i]? = some x → w.cell? ⟨b, o + i, none⟩ = some (.int .i64 x)
theorem IS.below {w w' : World} {B : Nat} {xs : List Int} {A : Option Addr} {cap : Nat} (h : IS w B xs A cap) (hb : Below B w w') : IS w' B xs A cap :=
  ⟨h.l, h.m, h.i, fun hne => by
    obtain ⟨b, o, rfl, hl, hr⟩ := h.r hne
    exact ⟨b, o, rfl, hl, fun i x hx => (hb.cell (p := ⟨b, _, none⟩) hl).trans (hr i x hx)⟩⟩
theorem IS.mono {w : World} {B B' : Nat} {xs : List Int} {A : Option Addr} {cap : Nat} (h : IS w B xs A cap) (hB : B ≤ B') : IS w B' xs A cap :=
  ⟨h.l, h.m, h.i, fun hne => by
    obtain ⟨b, o, rfl, hl, hr⟩ := h.r hne
    exact ⟨b, o, rfl, by omega, hr⟩⟩
theorem IS.on {w w' : World} {xs : List Int} {A : Option Addr} {cap : Nat} (h : IS w w.heap.size xs A cap) (hb : Below w.heap.size w w') : IS w' w'.heap.size xs A cap := (h.below hb).mono hb.size
theorem IS.len {w : World} {B : Nat} {xs : List Int} {A : Option Addr} {cap : Nat} (h : IS w B xs A cap) : xs.length ≤ 9223372036854775807 := by have := h.l; have := h.m; unfold maxLen at this; omega

set_option maxHeartbeats 2000000 in
theorem index_any (xs : List Int) (v : Int) (A : Option Addr) (cap : Nat) (w : World) (h : IS w w.heap.size xs A cap) :
    Calls Try.prog 88 #[.slice A xs.length cap, .int .i64 v] w fun r w' => (∃ i : Int, r = .returned (.int .i64 i) ∧ (0 ≤ i ↔ v ∈ xs)) ∧ w' = w := by
  have hl := h.len
  obtain ⟨n, hn⟩ : ∃ n, xs.length = n := ⟨_, rfl⟩
  rw [hn] at hl ⊢
  have HK := Lib.hid h
  have HN := Lib.hid hn
  clear h hn
  go_enter Try.func88, Try.ntmps88
  go_wp2_with fail
  go_loopw [5, 8] (fun _ i wr => ∃ k : Nat, i = .int .i64 k ∧ k ≤ n ∧ v ∉ xs.take k ∧ wr = w) (fun _ i _ => n - (RowKit.intOf i).toNat)
  case atStart => exact ⟨0, rfl, Nat.zero_le _, by simp, rfl⟩
  case round =>
    obtain ⟨k, rfl, hkn, hno, rfl⟩ := hrel
    by_cases hlt : k < n
    · obtain ⟨x, hx⟩ : ∃ x, xs[k]? = some x := ⟨xs[k]'(by rw [HN.out]; exact hlt), List.getElem?_eq_getElem _⟩
      have i1 : (k : Int) < (n : Int) := by omega
      obtain ⟨b, o, rfl, hbl, hr⟩ := HK.out.r (by rintro rfl; simp at hx)
      have d0 := hr k x hx
      by_cases hv : v = x
      · subst hv
        have hc : v ∈ xs := List.mem_of_getElem? hx
        have HZ := Lib.hid hc
        clear hr hno hc hx
        go_wp2
        go_ret
        exact ⟨⟨_, rfl, ⟨fun _ => HZ.out, fun _ => by omega⟩⟩, rfl⟩
      · have q1 : (v == x) = false := by simpa using hv
        have hno' : v ∉ xs.take (k + 1) := by rw [List.take_add_one, hx]; simp [hno, hv]
        have HZ := Lib.hid hno'
        clear hr hno hno' hx hv
        go_wp2
        go_roundw
        case rel => exact ⟨k + 1, by go_num, by omega, HZ.out, trivial⟩
        case measure => simp [RowKit.intOf]; omega
    · have hkn : k = n := by omega
      subst hkn
      have i1 : ¬ (k : Int) < (k : Int) := by omega
      have ht : xs.take k = xs := by rw [← HN.out, List.take_length]
      rw [ht] at hno
      have hc : v ∉ xs := hno
      have HZ := Lib.hid hc
      clear hno hc ht
      go_wp2
      go_ret
      exact ⟨⟨_, rfl, ⟨fun h => absurd h (by decide), fun h => absurd h HZ.out⟩⟩, rfl⟩
theorem contains_any (xs : List Int) (v : Int) (A : Option Addr) (cap : Nat) (w : World) (h : IS w w.heap.size xs A cap) :
    Calls Try.prog 68 #[.slice A xs.length cap, .int .i64 v] w fun r w' => r = .returned (.bool (xs.contains v)) ∧ w' = w := by
  have C := Lib.hid (index_any xs v A cap w h)
  generalize xs.length = n at *
  have hR : ∀ i : Int, (0 ≤ i ↔ v ∈ xs) → decide (0 ≤ i) = xs.contains v := fun i hi => by rw [Bool.eq_iff_iff]; simpa using hi
  generalize xs.contains v = R at *
  clear h
  go_enter Try.func68, Try.ntmps68
  go_wp2_with fail
  refine C.out.mono ?_
  rintro r w1 ⟨⟨i, rfl, hj⟩, rfl⟩
  have hi := hR i hj
  clear hR hj
  go_wp2
  go_ret
  exact ⟨rfl, rfl⟩

/-- Is no node of one of these kinds? -/
def noneE (kinds : List Int) : E → Bool
  | .mk k _ ks => !kinds.contains k && all kinds ks
where all (kinds : List Int) : List E → Bool
  | [] => true
  | e :: r => noneE kinds e && all kinds r
theorem noneE_eq (kinds : List Int) (e : E) : noneE kinds e = (!kinds.contains e.k && noneE.all kinds e.ks) := by cases e; rfl
theorem none_append (kinds : List Int) (a b : List E) : noneE.all kinds (a ++ b) = (noneE.all kinds a && noneE.all kinds b) := by
  induction a with
  | nil => rfl
  | cons e r ih => show (noneE kinds e && noneE.all kinds (r ++ b)) = (noneE kinds e && noneE.all kinds r && _); rw [ih, Bool.and_assoc]
theorem none_take (kinds : List Int) {ks : List E} {i : Nat} {e : E} (h : ks[i]? = some e) : noneE.all kinds (ks.take (i + 1)) = (noneE.all kinds (ks.take i) && noneE kinds e) := by
  rw [List.take_add_one, h, none_append]
  show (_ && (noneE kinds e && true)) = _
  rw [Bool.and_true]
theorem none_stop (kinds : List Int) {ks : List E} {i : Nat} (h : noneE.all kinds (ks.take i) = false) : noneE.all kinds ks = false := by
  have := none_append kinds (ks.take i) (ks.drop i)
  rw [List.take_append_drop, h] at this
  simpa using this

set_option maxHeartbeats 2000000 in
theorem holds1_any (k c : Int) (A : Option Addr) (n cap : Nat) (p : Nat) (xs : List Int) (A' : Option Addr) (cap' : Nat) (w : World) (hp : Boxed w p 25 (.slice A' xs.length cap')) (h : IS w w.heap.size xs A' cap') :
    Calls Try.prog 67 #[.agg #[.int .i64 k, .int .i64 c, .slice A n cap], .pointer (some ⟨p, 0, none⟩)] w fun r w' => r = .returned (.bool (!xs.contains k)) ∧ Below w.heap.size w w' := by
  obtain ⟨W0, hW0⟩ : ∃ W0, w.alloc (.cells #[.int .i64 k, .int .i64 c, .slice A n cap] 33) = W0 := ⟨_, rfl⟩
  have hb0 : Below w.heap.size w W0 := by rw [← hW0]; exact below_new _ _
  have hpl := hp.lt
  have k0 := hp.cell
  have C := Lib.hid (contains_any xs k A' cap' W0 (h.on hb0))
  have HW := Lib.hid hW0
  generalize xs.length = m at *
  generalize xs.contains k = R at *
  clear h hp hW0
  go_enter Try.func67, Try.ntmps67
  go_wp2_with fail
  rw [HW.out]
  refine C.out.mono ?_
  rintro r w1 ⟨rfl, rfl⟩
  go_wp2
  go_ret
  exact ⟨rfl, hb0⟩

set_option maxHeartbeats 4000000 in
theorem each_holds (xs : List Int) : ∀ N e, szE e ≤ N → ∀ v (p : Nat) A' cap' w, Nd w w.heap.size e v → Boxed w p 25 (.slice A' xs.length cap') → IS w w.heap.size xs A' cap' →
    Calls Try.prog 59 #[v, .func (.func 67) #[] #[.pointer (some ⟨p, 0, none⟩)]] w fun r w' => r = .returned (.bool (noneE xs e)) ∧ Below w.heap.size w w' := by
  intro N
  induction N with
  | zero => intro e h; have := szE_pos e; omega
  | succ N ih =>
    intro e he v p A' cap' w h hp hI
    obtain ⟨_, _, A, cap, rfl, hk⟩ := Nd_iff.1 h
    obtain ⟨W0, hW0⟩ : ∃ W0, w.alloc (.cells #[.int .i64 e.k, .int .i64 e.c, .slice A e.ks.length cap] 33) = W0 := ⟨_, rfl⟩
    have hb0 : Below w.heap.size w W0 := by rw [← hW0]; exact below_new _ _
    have hz0 : w.heap.size < W0.heap.size := by rw [← hW0]; simp
    have c2 : W0.cell? ⟨w.heap.size, 2, none⟩ = some (.slice A e.ks.length cap) := by rw [← hW0]; simp
    have hk0 := hk.on hb0
    have hp0 := boxed_below hp hb0
    have hI0 := hI.on hb0
    have hln : e.ks.length ≤ 9223372036854775807 := by have := hk.l; have := hk.m; unfold maxLen at this; omega
    have C := holds1_any e.k e.c A e.ks.length cap p xs A' cap' W0 hp0 hI0
    have hS := noneE_eq xs e
    have hkid := fun i f (hf : e.ks[i]? = some f) => szE_kid (List.mem_of_getElem? hf)
    have ih' : ∀ f, szE f < szE e → ∀ v p A' cap' w, Nd w w.heap.size f v → Boxed w p 25 (.slice A' xs.length cap') → IS w w.heap.size xs A' cap' →
        Calls Try.prog 59 #[v, .func (.func 67) #[] #[.pointer (some ⟨p, 0, none⟩)]] w fun r w' => r = .returned (.bool (noneE xs f)) ∧ Below w.heap.size w w' := fun f hf => ih f (by omega)
    obtain ⟨R, hR⟩ : ∃ R, noneE xs e = R := ⟨_, rfl⟩
    rw [hR] at hS ⊢
    generalize xs.contains e.k = nb at *
    generalize e.k = kk at *
    generalize e.c = cc at *
    generalize e.ks = ks at *
    obtain ⟨n, hn⟩ : ∃ n, ks.length = n := ⟨_, rfl⟩
    rw [hn] at hW0 C c2 hln ⊢
    have HW := Lib.hid hW0
    have HC := Lib.hid C
    have HK := Lib.hid (And.intro hk0 (And.intro hb0 (And.intro hp0 hI0)))
    have HI := Lib.hid ih'
    have HKD := Lib.hid hkid
    have HN := Lib.hid hn
    clear hW0 hk hk0 hb0 hp0 hI0 ih ih' hkid hn h C hp hI he hR
    cases nb
    · have HS := Lib.hid (show R = noneE.all xs ks by rw [hS]; rfl)
      clear hS
      go_enter Try.func59, Try.ntmps59
      go_wp2_with fail
      rw [HW.out]
      refine HC.out.mono ?_
      rintro r w1 ⟨rfl, hb1⟩
      have c2' := (hb1.cell (p := ⟨w.heap.size, 2, none⟩) hz0).trans c2
      have HB1 := Lib.hid hb1
      clear hb1
      go_wp2_with fail
      go_loopw [6, 14] (fun _ i wr => ∃ k : Nat, i = .int .i64 k ∧ k ≤ n ∧ noneE.all xs (ks.take k) = true ∧ Below W0.heap.size W0 wr) (fun _ i _ => n - (RowKit.intOf i).toNat)
      case atStart => exact ⟨0, rfl, Nat.zero_le _, by rw [List.take_zero]; rfl, HB1.out⟩
      case round =>
        obtain ⟨k, rfl, hkn, hyes, hb⟩ := hrel
        by_cases hlt : k < n
        · obtain ⟨f, hf⟩ : ∃ f, ks[k]? = some f := ⟨ks[k]'(by rw [HN.out]; exact hlt), List.getElem?_eq_getElem _⟩
          have i1 : (k : Int) < (n : Int) := by omega
          obtain ⟨b, o, rfl, hbl, hr⟩ := HK.out.1.r (by rintro rfl; simp at hf)
          obtain ⟨Af, capf, d0, d1, d2, hN⟩ := row_get' hr hf
          have d0' := (hb.cell (p := ⟨b, o + k * 3, none⟩) hbl).trans d0
          have d1' := (hb.cell (p := ⟨b, o + k * 3 + 1, none⟩) hbl).trans d1
          have d2' := (hb.cell (p := ⟨b, o + k * 3 + 2, none⟩) hbl).trans d2
          have hs := none_take xs hf
          rw [hyes, Bool.true_and] at hs
          obtain ⟨wr', hwr'⟩ : ∃ W, wr.alloc (.cells #[.int .i64 f.k, .int .i64 f.c, .slice Af f.ks.length capf] 33) = W := ⟨_, rfl⟩
          have hb' : Below W0.heap.size W0 wr' := by rw [← hwr']; exact hb.alloc hb.size _
          have hC := HI.out f (HKD.out k f hf) (.agg #[.int .i64 f.k, .int .i64 f.c, .slice Af f.ks.length capf]) p A' cap' wr' ((hN.below hb').mono hb'.size) (boxed_below HK.out.2.2.1 hb') (HK.out.2.2.2.on hb')
          obtain ⟨q, hq⟩ : ∃ q, noneE xs f = q := ⟨_, rfl⟩
          rw [hq] at hC hs
          have hC := Lib.hid hC
          have HH := Lib.hid (And.intro hs (And.intro hb' hlt))
          have HWR := Lib.hid hwr'
          clear hs hb' hwr' hN hr hbl hb hq hyes d0 d1 d2
          go_wp2_with fail
          rw [HWR.out]
          refine hC.out.mono ?_
          rintro r w2 ⟨rfl, hb2⟩
          have HB2 := Lib.hid (HH.out.2.1.trans (hb2.mono HH.out.2.1.size))
          clear hb2
          cases q
          · obtain rfl : R = false := by rw [HS.out]; exact none_stop xs HH.out.1
            go_wp2
            go_ret
            exact ⟨rfl, HK.out.2.1.trans (HB2.out.mono HK.out.2.1.size)⟩
          · go_wp2
            go_roundw
            case rel => exact ⟨k + 1, by go_num, by omega, HH.out.1, HB2.out⟩
            case measure => simp [RowKit.intOf]; omega
        · have hkn : k = n := by omega
          subst hkn
          have i1 : ¬ (k : Int) < (k : Int) := by omega
          have ht : ks.take k = ks := by rw [← HN.out, List.take_length]
          obtain rfl : R = true := by rw [HS.out, ← ht]; exact hyes
          have HY := Lib.hid (HK.out.2.1.trans (hb.mono HK.out.2.1.size))
          clear hb ht hyes
          go_wp2
          go_ret
          exact ⟨rfl, HY.out⟩
    · obtain rfl : R = false := by rw [hS]; rfl
      clear hS
      go_enter Try.func59, Try.ntmps59
      go_wp2_with fail
      rw [HW.out]
      refine HC.out.mono ?_
      rintro r w1 ⟨rfl, hb1⟩
      have HB1 := Lib.hid (HK.out.2.1.trans (hb1.mono HK.out.2.1.size))
      clear hb1
      go_wp2
      go_ret
      exact ⟨rfl, HB1.out⟩

set_option maxHeartbeats 2000000 in
theorem holds_any (xs : List Int) (e : E) (v : Value) (A' : Option Addr) (cap' : Nat) (w : World) (h : Nd w w.heap.size e v) (hI : IS w w.heap.size xs A' cap') :
    Calls Try.prog 41 #[v, .slice A' xs.length cap'] w fun r w' => r = .returned (.bool (!noneE xs e)) ∧ Below w.heap.size w w' := by
  obtain ⟨_, _, A, cap, rfl, hk⟩ := Nd_iff.1 h
  obtain ⟨W0, hW0⟩ : ∃ W0, (w.alloc (.cells #[.int .i64 e.k, .int .i64 e.c, .slice A e.ks.length cap] 33)).alloc (.cells #[.slice A' xs.length cap'] 25) = W0 := ⟨_, rfl⟩
  have hb0 : Below w.heap.size w W0 := by rw [← hW0]; exact ((Below.refl _ w).alloc (Nat.le_refl _) _).alloc (by simp) _
  have hp : Boxed W0 (w.heap.size + 1) 25 (.slice A' xs.length cap') := by
    rw [← hW0]
    have := Boxed.new (w.alloc (.cells #[.int .i64 e.k, .int .i64 e.c, .slice A e.ks.length cap] 33)) 25 (.slice A' xs.length cap')
    rw [World.size_alloc] at this
    exact this
  have C := Lib.hid (each_holds xs _ e (Nat.le_refl _) _ (w.heap.size + 1) A' cap' W0 (h.on hb0) hp (hI.on hb0))
  have HW := Lib.hid hW0
  have HB := Lib.hid hb0
  generalize noneE xs e = R at *
  generalize e.k = kk at *
  generalize e.c = cc at *
  generalize e.ks.length = n at *
  generalize xs.length = m at *
  clear hk h hI hp hW0 hb0
  go_enter Try.func41, Try.ntmps41
  go_wp2_with fail
  rw [HW.out]
  refine C.out.mono ?_
  rintro r w1 ⟨rfl, hb⟩
  have HZ := Lib.hid (HB.out.trans (hb.mono HB.out.size))
  clear hb
  go_wp2
  go_ret
  exact ⟨rfl, HZ.out⟩
end Go.Proofs.Ytegkogadceodlaa
