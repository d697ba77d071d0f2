/-
  Contracts: slices.IndexFunc over attributes, tag.Value.
-/
import Derived.Test.YtplnkmojkdbbnaaAlk
namespace Go.Proofs.Ytplnkmojkdbbnaa
open Go.RowKit Go.Shelf Go.Lib Go.Maps Go.Sort

def strS (l : List Nat) : ByteArray := ⟨(u8s l).toArray⟩
/-- Is an attribute of this name? -/
def isNm (S : ByteArray) (a : AT) : Bool := (strS a.1).toList == S.toList
def idxA (p : AT → Bool) (l : List AT) : Int := match l.findIdx? p with
  | none => -1
  | some i => (i : Int)
theorem idxA_none {p : AT → Bool} {l : List AT} (h : ∀ (j : Nat) (x : AT), l[j]? = some x → p x = false) : idxA p l = -1 ∧ l.find? p = none := by
  have h1 : ∀ x ∈ l, p x = false := fun x hx => by
    obtain ⟨j, hj, e⟩ := List.getElem_of_mem hx
    exact h j x (by rw [List.getElem?_eq_getElem hj, e])
  have e1 : l.findIdx? p = none := by rw [List.findIdx?_eq_none_iff]; exact h1
  refine ⟨by rw [idxA, e1], ?_⟩
  rw [List.find?_eq_none]
  exact fun x hx => by rw [h1 x hx]; simp
theorem idxA_some {p : AT → Bool} {l : List AT} {k : Nat} {x : AT} (hx : l[k]? = some x) (hp : p x = true) (h : ∀ (j : Nat) (y : AT), j < k → l[j]? = some y → p y = false) : idxA p l = (k : Int) ∧ l.find? p = some x := by
  obtain ⟨hk, e⟩ := List.getElem?_eq_some_iff.1 hx
  have e1 : l.findIdx? p = some k := by
    rw [List.findIdx?_eq_some_iff_getElem]
    exact ⟨hk, by rw [e]; exact hp, fun j hj => by
      rw [h j _ hj (List.getElem?_eq_getElem _)]
      simp⟩
  refine ⟨by rw [idxA, e1], ?_⟩
  rw [List.find?_eq_some_iff_getElem]
  exact ⟨hp, k, hk, e, fun j hj => by
    rw [h j _ hj (List.getElem?_eq_getElem _)]
    simp⟩
theorem idxA_or (p : AT → Bool) (l : List AT) : (idxA p l = -1 ∧ l.find? p = none) ∨ ∃ (k : Nat) (x : AT), l[k]? = some x ∧ idxA p l = (k : Int) ∧ l.find? p = some x := by
  cases e : l.findIdx? p with
  | none =>
    left
    rw [List.findIdx?_eq_none_iff] at e
    exact idxA_none fun j x hx => e x (List.mem_of_getElem? hx)
  | some k =>
    right
    rw [List.findIdx?_eq_some_iff_getElem] at e
    obtain ⟨hk, hp, h⟩ := e
    have hs := idxA_some (p := p) (List.getElem?_eq_getElem hk) hp (fun j y hj hy => by
      have := h j hj
      obtain ⟨hj2, e2⟩ := List.getElem?_eq_some_iff.1 hy
      rw [e2] at this
      simpa using this)
    exact ⟨k, _, List.getElem?_eq_getElem hk, hs.1, hs.2⟩
set_option maxHeartbeats 4000000 in
set_option maxRecDepth 100000 in
theorem isNm_any (S : ByteArray) (a : AT) (gs : Nat) (w : World) (hc : Cells w gs 9 #[.string S]) :
    Calls Try.prog 29 #[.agg #[.string (strS a.1), .string (strS a.2)], .pointer (some ⟨gs, 0, none⟩)] w fun e w' => e = .returned (.bool (isNm S a)) ∧ Below w.heap.size w w' := by
  have q0 := hc.cell 0
  simp at q0
  have hg := hc.lt
  unfold isNm
  clear hc
  generalize strS a.1 = S1 at *
  generalize strS a.2 = S2 at *
  go_enter Try.func29, Try.ntmps29
  go_wp2_with go_quiet (fail)
  go_ret
  exact ⟨rfl, by first | exact below_new _ _ | exact below_drewN (below_new _ _) _⟩
set_option maxHeartbeats 4000000 in
set_option maxRecDepth 100000 in
theorem idx28_any (S : ByteArray) (l : List AT) (A : Option Addr) (c gs : Nat) (w : World) (h : AS w w.heap.size l A c) (hs : Cells w gs 9 #[.string S]) :
    Calls Try.prog 28 #[.slice A l.length c, .func (Fn.func 29) #[] #[.pointer (some ⟨gs, 0, none⟩)]] w fun e w' => e = .returned (.int .i64 (idxA (isNm S) l)) ∧ Below w.heap.size w w' := by
  have hlen : l.length ≤ 9223372036854775807 := by have := h.le; have := h.mx; unfold maxLen at this; omega
  obtain ⟨N, hN⟩ : ∃ N, l.length = N := ⟨_, rfl⟩
  rw [hN] at hlen ⊢
  have HH := Lib.hid (And.intro h (And.intro hN hs))
  clear h hN hs
  go_enter Try.func28, Try.ntmps28
  go_wp2_with fail
  go_loopw [5, 8] (fun _ i wr => ∃ k : Nat, i = .int .i64 (k : Int) ∧ k ≤ N ∧ (∀ (j : Nat) (y : AT), j < k → l[j]? = some y → isNm S y = false) ∧ Below w.heap.size w wr) (fun _ i _ => N - (RowKit.intOf i).toNat)
  case atStart => exact ⟨0, by go_num, by omega, fun j y hj => absurd hj (by omega), Below.refl _ _⟩
  case round =>
    obtain ⟨k, rfl, hk, hj, hb⟩ := hrel
    by_cases hlt : k < N
    case neg =>
      obtain rfl : k = N := by omega
      have he := (idxA_none (p := isNm S) (l := l) fun j x hx => hj j x (by have := (List.getElem?_eq_some_iff.1 hx).1; rw [HH.out.2.1] at this; exact this) hx).1
      have HE := Lib.hid (And.intro he hb)
      clear he hj hb
      go_wp2_with fail
      go_ret
      exact ⟨by rw [HE.out.1]; rfl, HE.out.2⟩
    have i1 : (k : Int) < (N : Int) := by omega
    obtain ⟨x, hx⟩ := at_lt (l := l) (k := k) (by rw [HH.out.2.1]; exact hlt)
    obtain ⟨b, o, rfl, hbl, d0, d1⟩ := (HH.out.1.on hb).r k x hx
    have C := isNm_any S x gs wr (HH.out.2.2.on hb)
    rw [← Nat.add_assoc] at d1
    have d0 : wr.cell? ⟨b, o + k * 2, none⟩ = some (.string (strS x.1)) := d0
    have d1 : wr.cell? ⟨b, o + k * 2 + 1, none⟩ = some (.string (strS x.2)) := d1
    have HK := Lib.hid (And.intro C (And.intro hb (And.intro hj hx)))
    clear C hb hj hx hbl
    go_wp2_with fail
    refine HK.out.1.mono ?_
    rintro r w2 ⟨rfl, hb2⟩
    have b2 := HK.out.2.1.trans (hb2.mono HK.out.2.1.size)
    cases hp : isNm S x with
    | true =>
      have he := (idxA_some (p := isNm S) HK.out.2.2.2 hp HK.out.2.2.1).1
      have HE := Lib.hid (And.intro he b2)
      clear hp he b2 hb2 d0 d1
      go_wp2_with fail
      go_ret
      exact ⟨by rw [HE.out.1]; rfl, HE.out.2⟩
    | false =>
      have hend : ∀ (j : Nat) (y : AT), j < k + 1 → l[j]? = some y → isNm S y = false := fun j y hj hy => by
        by_cases h : j = k
        · subst h
          have := hy.symm.trans HK.out.2.2.2
          injection this with this
          rw [this]
          exact hp
        · exact HK.out.2.2.1 j y (by omega) hy
      have HE := Lib.hid (And.intro hend b2)
      clear hp hend b2 hb2 d0 d1
      go_wp2_with fail
      go_roundw
      case rel => exact ⟨k + 1, by go_num, by omega, HE.out.1, HE.out.2⟩
      case measure => simp [RowKit.intOf]; omega
/-- What Value answers. -/
def valS (l : List AT) (S : ByteArray) : ByteArray := ((l.find? (isNm S)).map fun a => strS a.2).getD ⟨#[]⟩
set_option maxHeartbeats 4000000 in
set_option maxRecDepth 100000 in
theorem value14_any (T : TG) (S : ByteArray) (A : Option Addr) (c : Nat) (w : World) (h : AS w w.heap.size T.attrs A c) :
    Calls Try.prog 14 #[tagV T (.slice A T.attrs.length c), .string S] w fun e w' => e = .returned (.tuple #[.string (valS T.attrs S), .bool (T.attrs.find? (isNm S)).isSome]) ∧ Below w.heap.size w w' := by
  obtain ⟨kind, size, name, attrs, single, closed⟩ := T
  unfold tagV strV
  dsimp only at h ⊢
  obtain ⟨NB, hNB⟩ : ∃ B : ByteArray, ⟨(u8s name).toArray⟩ = B := ⟨_, rfl⟩
  rw [hNB]
  clear hNB
  have hcl : attrs.length ≤ c := h.le
  have hcm : c ≤ 9223372036854775807 := by have := h.mx; unfold maxLen at this; omega
  have C0 := fun W (hb : Below w.heap.size w W) gs hs => idx28_any S attrs A c gs W (h.on hb) hs
  have hor := idxA_or (isNm S) attrs
  obtain ⟨N, hN⟩ : ∃ N, attrs.length = N := ⟨_, rfl⟩
  obtain ⟨W1, hW1⟩ : ∃ W, (w.alloc (.cells #[.int .i64 (kind : Int), .int .i64 (size : Int), .string NB, .slice A N c, .bool single, .bool closed] 26)).alloc (.cells #[.string S] 9) = W := ⟨_, rfl⟩
  have b1 : Below w.heap.size w W1 := by rw [← hW1]; exact (below_new _ _).trans ((below_new _ _).mono (by simp))
  have x1 : Cells W1 w.heap.size 26 #[.int .i64 (kind : Int), .int .i64 (size : Int), .string NB, .slice A N c, .bool single, .bool closed] := by rw [← hW1]; exact (cells_new _ _ _).on (below_new _ _)
  have x2 : Cells W1 (w.heap.size + 1) 9 #[.string S] := by
    have := cells_new (w.alloc (.cells #[.int .i64 (kind : Int), .int .i64 (size : Int), .string NB, .slice A N c, .bool single, .bool closed] 26)) #[.string S] 9
    rw [hW1, World.size_alloc] at this
    exact this
  have C := C0 W1 b1 _ x2
  rw [hN] at C hcl ⊢
  have p3 := x1.cell 3
  simp at p3
  obtain ⟨I, hI⟩ : ∃ I, idxA (isNm S) attrs = I := ⟨_, rfl⟩
  rw [hI] at C hor
  obtain ⟨V, hV⟩ : ∃ V, valS attrs S = V := ⟨_, rfl⟩
  obtain ⟨ok, hok⟩ : ∃ V, (attrs.find? (isNm S)).isSome = V := ⟨_, rfl⟩
  rw [hV, hok]
  have HH := Lib.hid (And.intro C (And.intro b1 (And.intro x1 (And.intro h (And.intro hN (And.intro hV hok))))))
  clear C b1 x1 x2 C0 hI hN hV hok h
  rcases hor with ⟨rfl, hf⟩ | ⟨k, a, hk, rfl, hf⟩
  · have HF := Lib.hid hf
    clear hf
    go_enter Try.func14, Try.ntmps14
    go_wp2_with fail
    refine HH.out.1.mono ?_
    rintro r w2 ⟨rfl, hb2⟩
    have HB := Lib.hid (HH.out.2.1.trans (hb2.mono HH.out.2.1.size))
    clear hb2 hW1 p3
    go_wp2_with fail
    refine bodyPost_ret (v := .tuple #[.string ⟨#[]⟩, .bool false]) (by simp [results, Try.results14, go_sem]) rfl ⟨?_, HB.out⟩
    rw [← HH.out.2.2.2.2.2.1, ← HH.out.2.2.2.2.2.2]
    unfold valS
    rw [HF.out]
    rfl
  · have HF := Lib.hid (And.intro hf hk)
    have hkN : k < N := by rw [← HH.out.2.2.2.2.1]; exact (List.getElem?_eq_some_iff.1 hk).1
    have i9 : ¬ (k : Int) < 0 := by omega
    have i8 : (k : Int) < (N : Int) := by omega
    clear hf hk
    go_enter Try.func14, Try.ntmps14
    go_wp2_with fail
    refine HH.out.1.mono ?_
    rintro r w2 ⟨rfl, hb2⟩
    have x3 := HH.out.2.2.1.on hb2
    have p3 := x3.cell 3
    simp at p3
    have hb := HH.out.2.1.trans (hb2.mono HH.out.2.1.size)
    obtain ⟨b, o, rfl, _, d0, d1⟩ := (HH.out.2.2.2.1.on hb).r k a HF.out.2
    rw [← Nat.add_assoc] at d1
    have d1 : w2.cell? ⟨b, o + k * 2 + 1, none⟩ = some (.string (strS a.2)) := d1
    have HB := Lib.hid hb
    clear hb2 hW1 hb x3 d0
    generalize hS2 : strS a.2 = S2 at *
    go_wp2_with fail
    refine bodyPost_ret (v := .tuple #[.string S2, .bool true]) (by simp [results, Try.results14, go_sem]; exact hS2) rfl ⟨?_, HB.out⟩
    rw [← HH.out.2.2.2.2.2.1, ← HH.out.2.2.2.2.2.2]
    unfold valS
    rw [HF.out.1, ← hS2]
    rfl
end Go.Proofs.Ytplnkmojkdbbnaa
