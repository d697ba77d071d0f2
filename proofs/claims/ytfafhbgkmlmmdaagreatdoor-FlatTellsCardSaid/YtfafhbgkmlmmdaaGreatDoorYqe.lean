/-
  What the rows of flat lean on, part e.
-/
import Derived.Test.YtfafhbgkmlmmdaaGreatDoorYqd
import Derived.Lib.UnsafeStr
import Derived.Test.YtfafhbgkmlmmdaaGreatDoorYqb
import Derived.Shelf.Bytes.SlSmallAll
import Derived.Lib.QuietBelow
import Derived.Deep.RegionWith
set_option maxRecDepth 100000
set_option maxHeartbeats 40000000
namespace Go.Proofs.YtfafhbgkmlmmdaaGreatDoor.G
open Go.RowKit Go.Shelf Go.Lib Go.Maps
structure BY (w : World) (B : Nat) (xs : List Nat) (A : Option Addr) (cap : Nat) : Prop where
 l : xs.length ≤ cap
 m : cap ≤ maxLen
 z : A = none → cap = 0
 i : ∀ x ∈ xs, x < 256
 r : xs ≠ [] → ∃ b o, A = some ⟨b, o, none⟩ ∧ b < B ∧ ∀ (i : Nat) (x : Nat), xs[i]? = some x → w.cell? ⟨b, o + i, none⟩ = some (.int .u8 (x : Int))
theorem BY.below {w w' : World} {B : Nat} {xs : List Nat} {A : Option Addr} {cap : Nat} (h : BY w B xs A cap) (hb : Below B w w') : BY w' B xs A cap :=
 ⟨h.l, h.m, h.z, h.i, fun hne => by
  obtain ⟨b, o, rfl, hl, hr⟩ := h.r hne
  exact ⟨b, o, rfl, hl, fun i x hx => (hb.cell (p := ⟨b, _, none⟩) hl).trans (hr i x hx)⟩⟩
theorem BY.mono {w : World} {B B' : Nat} {xs : List Nat} {A : Option Addr} {cap : Nat} (h : BY w B xs A cap) (hB : B ≤ B') : BY w B' xs A cap :=
 ⟨h.l, h.m, h.z, h.i, fun hne => by
  obtain ⟨b, o, rfl, hl, hr⟩ := h.r hne
  exact ⟨b, o, rfl, by omega, hr⟩⟩
theorem BY.on {w w' : World} {xs : List Nat} {A : Option Addr} {cap : Nat} (h : BY w w.heap.size xs A cap) (hb : Below w.heap.size w w') : BY w' w'.heap.size xs A cap := (h.below hb).mono hb.size
theorem BY.at {w : World} {B : Nat} {xs : List Nat} {A : Option Addr} {cap i x : Nat} (h : BY w B xs A cap) (hx : xs[i]? = some x) : ∃ b o, A = some ⟨b, o, none⟩ ∧ b < B ∧ w.cell? ⟨b, o + i, none⟩ = some (.int .u8 (x : Int)) := by
 obtain ⟨b, o, e, hb, hc⟩ := h.r (by rintro rfl; simp at hx)
 exact ⟨b, o, e, hb, hc i x hx⟩
theorem BY.lt {w : World} {B : Nat} {xs : List Nat} {A : Option Addr} {cap i x : Nat} (h : BY w B xs A cap) (hx : xs[i]? = some x) : x < 256 := h.i x (List.mem_of_getElem? hx)
theorem BY.len {w : World} {B : Nat} {xs : List Nat} {A : Option Addr} {cap : Nat} (h : BY w B xs A cap) : xs.length ≤ 9223372036854775807 := by have := h.l; have := h.m; unfold maxLen at this; omega
theorem BY.drop {w : World} {B : Nat} {xs : List Nat} {b o cap k : Nat} (h : BY w B xs (some ⟨b, o, none⟩) cap) (hk : k < xs.length) : BY w B (xs.drop k) (some ⟨b, o + k, none⟩) (cap - k) :=
 ⟨(by have hh := h.l; simp; omega), (by have hh := h.m; omega), fun e => (by cases e), fun x hx => h.i x (List.mem_of_mem_drop hx), fun hne => by
  obtain ⟨b', o', e, hl, hr⟩ := h.r (by rintro rfl; simp at hk)
  obtain ⟨rfl, rfl⟩ : b = b' ∧ o = o' := by simpa using e
  exact ⟨b, o + k, rfl, hl, fun i x hx => by
   rw [List.getElem?_drop] at hx
   rw [Nat.add_assoc]
   exact hr _ x hx⟩⟩
theorem BY.take {w : World} {B : Nat} {xs : List Nat} {A : Option Addr} {cap : Nat} (h : BY w B xs A cap) (k : Nat) : BY w B (xs.take k) A cap :=
 ⟨(by have hh := h.l; simp; omega), h.m, h.z, fun x hx => h.i x (List.mem_of_mem_take hx), fun hne => by
  obtain ⟨b, o, rfl, hl, hr⟩ := h.r (by rintro rfl; simp at hne)
  exact ⟨b, o, rfl, hl, fun i x hx => by
   rw [List.getElem?_take] at hx
   split at hx
   ·exact hr i x hx
   ·cases hx⟩⟩
theorem drop_at {α : Type} {l : List α} {k : Nat} {x : α} (h : l[k]? = some x) : l.drop k = x :: l.drop (k + 1) := by
 obtain ⟨hk, rfl⟩ := List.getElem?_eq_some_iff.1 h
 exact List.drop_eq_getElem_cons hk
theorem at_lt {α : Type} {l : List α} {k : Nat} (h : k < l.length) : ∃ x, l[k]? = some x := ⟨l[k], List.getElem?_eq_getElem h⟩
def u8s (l : List Nat) : List UInt8 := l.map UInt8.ofNat
def nats (l : List UInt8) : List Nat := l.map UInt8.toNat
theorem u8s_len (l : List Nat) : (u8s l).length = l.length := by simp [u8s]
theorem nats_len (l : List UInt8) : (nats l).length = l.length := by simp [nats]
theorem nats_u8s (l : List Nat) (h : ∀ x ∈ l, x < 256) : nats (u8s l) = l := by
 unfold nats u8s
 rw [List.map_map]
 conv => rhs; rw [← List.map_id l]
 exact List.map_congr_left fun x hx => by simp [h x hx]
theorem u8s_nats (l : List UInt8) : u8s (nats l) = l := by
 unfold nats u8s
 rw [List.map_map]
 conv => rhs; rw [← List.map_id l]
 exact List.map_congr_left fun x _ => by simp
theorem nats_lt (l : List UInt8) : ∀ x ∈ nats l, x < 256 := by
 intro x hx
 obtain ⟨u, _, rfl⟩ := List.mem_map.1 hx
 exact u.toNat_lt
theorem u8s_inj {l m : List Nat} (hl : ∀ x ∈ l, x < 256) (hm : ∀ x ∈ m, x < 256) (h : u8s l = u8s m) : l = m := by
 rw [← nats_u8s l hl, ← nats_u8s m hm, h]
def u8C (l : List Nat) : List Value := l.map fun (x : Nat) => Value.int .u8 (x : Int)
theorem BY.dropL {w : World} {B : Nat} {xs : List Nat} {b o cap k : Nat} (h : BY w B xs (some ⟨b, o, none⟩) cap) (hk : k ≤ xs.length) : BY w B (xs.drop k) (some ⟨b, o + k, none⟩) (cap - k) :=
 ⟨(by have hh := h.l; simp; omega), (by have hh := h.m; omega), fun e => (by cases e), fun x hx => h.i x (List.mem_of_mem_drop hx), fun hne => by
  obtain ⟨b', o', e, hl, hr⟩ := h.r (by rintro rfl; simp at hne)
  obtain ⟨rfl, rfl⟩ : b = b' ∧ o = o' := by simpa using e
  exact ⟨b, o + k, rfl, hl, fun i x hx => by
   rw [List.getElem?_drop] at hx
   rw [Nat.add_assoc]
   exact hr _ x hx⟩⟩
def idxL (p : Nat → Bool) (l : List Nat) : Int := match l.findIdx? p with
 | none => -1
 | some i => (i : Int)
theorem idxL_none {p : Nat → Bool} {l : List Nat} (h : ∀ (j x : Nat), l[j]? = some x → p x = false) : idxL p l = -1 := by
 have e1 : l.findIdx? p = none := by
  rw [List.findIdx?_eq_none_iff]
  intro x hx
  obtain ⟨j, hj, e⟩ := List.getElem_of_mem hx
  exact h j x (by rw [List.getElem?_eq_getElem hj, e])
 rw [idxL, e1]
theorem idxL_some {p : Nat → Bool} {l : List Nat} {k x : Nat} (hx : l[k]? = some x) (hp : p x = true) (h : ∀ (j y : Nat), j < k → l[j]? = some y → p y = false) : idxL p l = (k : Int) := by
 obtain ⟨hk, e⟩ := List.getElem?_eq_some_iff.1 hx
 have e1 : l.findIdx? p = some k := by
  rw [List.findIdx?_eq_some_iff_getElem]
  exact ⟨hk, by rw [e]; exact hp, fun j hj => by
   rw [h j _ hj (List.getElem?_eq_getElem _)]
   simp⟩
 rw [idxL, e1]
theorem idxL_run (p : Nat → Bool) : ∀ (l : List Nat), (idxL p l = -1 ∧ runW p l = l) ∨ (idxL p l = ((runW p l).length : Int) ∧ (runW p l).length < l.length)
 | [] => .inl ⟨rfl, rfl⟩
 | c :: t => by
  cases hc : p c with
  | true =>
   right
   rw [runW_hit t hc]
   exact ⟨by simp [idxL, List.findIdx?_cons, hc], by simp⟩
  | false =>
   rw [runW_miss t hc]
   rcases idxL_run p t with ⟨h1, h2⟩ | ⟨h1, h2⟩
   ·left
    refine ⟨?_, by rw [h2]⟩
    unfold idxL at h1 ⊢
    rw [List.findIdx?_cons, hc]
    cases e : t.findIdx? p with
    | none => rfl
    | some i => rw [e] at h1; simp at h1
   ·right
    refine ⟨?_, by simp; omega⟩
    unfold idxL at h1 ⊢
    rw [List.findIdx?_cons, hc]
    cases e : t.findIdx? p with
    | none => rw [e] at h1; simp at h1
    | some i => rw [e] at h1; simp at h1 ⊢; omega
def PCs (b o N cap at' : Nat) (k s nm ats sg cl : Value) : Array Value := #[.slice (some ⟨b, o, none⟩) N cap, .int .i64 (at' : Int), k, s, nm, ats, sg, cl]
theorem Fz.cells {X : Nat → Prop} {w w' : World} {g t : Nat} {cs : Array Value} (h : Fz X w w') (hg : ¬ X g) (hc : Cells w g t cs) : Cells w' g t cs := (h.block g hc.lt hg).trans hc
theorem Fz.drewN {X : Nat → Prop} {w w' : World} (h : Fz X w w') (n : Nat) : Fz X w (w'.drewN n) := ⟨h.os, h.tape, h.output, h.size, h.block⟩
theorem BY.fz {X : Nat → Prop} {w w' : World} {B : Nat} {xs : List Nat} {A : Option Addr} {cap : Nat} (h : BY w B xs A cap) (hf : Fz X w w') (hB : B ≤ w.heap.size) (hX : ∀ k, k < B → ¬ X k) : BY w' B xs A cap := h.below (hf.below hB hX)
theorem idx35_any (c0 : Addr) (p : Nat → Bool) (xs : List Nat) (A : Option Addr) (cap : Nat) (w : World) (h : BY w w.heap.size xs A cap)
  (K : ∀ W, Below w.heap.size w W → ∀ c : Nat, c < 256 → Calls Tryz.prog 167 #[.int .u8 (c : Int), .pointer (some c0)] W fun e w' => e = .returned (.bool (p c)) ∧ Below W.heap.size W w') :
  Calls Tryz.prog 206 #[.slice A xs.length cap, .func (Fn.func 167) #[] #[.pointer (some c0)]] w fun e w' => e = .returned (.int .i64 (idxL p xs)) ∧ Below w.heap.size w w' := by
 have hlen := h.len
 obtain ⟨N, hN⟩ : ∃ N, xs.length = N := ⟨_, rfl⟩
 rw [hN] at hlen ⊢
 have HH := Lib.hid (And.intro h (And.intro hN K))
 clear h hN K
 go_enter Tryz.func206, Tryz.ntmps206
 go_wp2_with fail
 go_loopw [5, 8] (fun _ i wr => ∃ k : Nat, i = .int .i64 (k : Int) ∧ k ≤ N ∧ (∀ (j : Nat) (y : Nat), j < k → xs[j]? = some y → p y = false) ∧ Below w.heap.size w wr) (fun _ i _ => N - (RowKit.intOf i).toNat)
 case atStart => exact ⟨0, by go_num, by omega, fun j y hj => absurd hj (by omega), Below.refl _ _⟩
 case round =>
  obtain ⟨k, rfl, hk, hj, hb⟩ := hrel
  by_cases hlt : k < N
  case neg =>
   obtain rfl : k = N := by omega
   have he := idxL_none (p := p) (l := xs) fun j x hx => hj j x (by have := (List.getElem?_eq_some_iff.1 hx).1; rw [HH.out.2.1] at this; exact this) hx
   have HE := Lib.hid (And.intro he hb)
   clear he hj hb
   go_wp2_with fail
   go_ret
   exact ⟨by rw [HE.out.1]; rfl, HE.out.2⟩
  have i1 : (k : Int) < (N : Int) := by omega
  obtain ⟨x, hx⟩ := at_lt (l := xs) (k := k) (by rw [HH.out.2.1]; exact hlt)
  have hx256 := HH.out.1.lt hx
  obtain ⟨b, o, rfl, hbl, d0⟩ := (HH.out.1.on hb).at hx
  have C := HH.out.2.2 wr hb x hx256
  obtain ⟨X, hX⟩ : ∃ X : Int, (x : Int) = X := ⟨_, rfl⟩
  rw [hX] at d0 C
  have HK := Lib.hid (And.intro C (And.intro hb (And.intro hj hx)))
  clear C hb hj hx hX hbl hx256
  go_wp2_with fail
  refine HK.out.1.mono ?_
  rintro r w2 ⟨rfl, hb2⟩
  have b2 := HK.out.2.1.trans (hb2.mono HK.out.2.1.size)
  cases hp : p x with
  | true =>
   have he := idxL_some (p := p) HK.out.2.2.2 hp HK.out.2.2.1
   have HE := Lib.hid (And.intro he b2)
   clear hp he b2 hb2 d0
   go_wp2_with fail
   go_ret
   exact ⟨by rw [HE.out.1]; rfl, HE.out.2⟩
  | false =>
   have hend : ∀ (j : Nat) (y : Nat), j < k + 1 → xs[j]? = some y → p y = false := fun j y hj hy => by
    by_cases h : j = k
    ·subst h
     have := hy.symm.trans HK.out.2.2.2
     injection this with this
     rw [this]
     exact hp
    ·exact HK.out.2.2.1 j y (by omega) hy
   have HE := Lib.hid (And.intro hend b2)
   clear hp hend b2 hb2 d0
   go_wp2_with fail
   go_roundw
   case rel => exact ⟨k + 1, by go_num, by omega, HE.out.1, HE.out.2⟩
   case measure => simp [RowKit.intOf]; omega
theorem idx52_any (c0 : Addr) (p : Nat → Bool) (xs : List Nat) (A : Option Addr) (cap : Nat) (w : World) (h : BY w w.heap.size xs A cap)
  (K : ∀ W, Below w.heap.size w W → ∀ c : Nat, c < 256 → Calls Tryz.prog 207 #[.int .u8 (c : Int), .pointer (some c0)] W fun e w' => e = .returned (.bool (p c)) ∧ Below W.heap.size W w') :
  Calls Tryz.prog 206 #[.slice A xs.length cap, .func (Fn.func 207) #[] #[.pointer (some c0)]] w fun e w' => e = .returned (.int .i64 (idxL p xs)) ∧ Below w.heap.size w w' := by
 have hlen := h.len
 obtain ⟨N, hN⟩ : ∃ N, xs.length = N := ⟨_, rfl⟩
 rw [hN] at hlen ⊢
 have HH := Lib.hid (And.intro h (And.intro hN K))
 clear h hN K
 go_enter Tryz.func206, Tryz.ntmps206
 go_wp2_with fail
 go_loopw [5, 8] (fun _ i wr => ∃ k : Nat, i = .int .i64 (k : Int) ∧ k ≤ N ∧ (∀ (j : Nat) (y : Nat), j < k → xs[j]? = some y → p y = false) ∧ Below w.heap.size w wr) (fun _ i _ => N - (RowKit.intOf i).toNat)
 case atStart => exact ⟨0, by go_num, by omega, fun j y hj => absurd hj (by omega), Below.refl _ _⟩
 case round =>
  obtain ⟨k, rfl, hk, hj, hb⟩ := hrel
  by_cases hlt : k < N
  case neg =>
   obtain rfl : k = N := by omega
   have he := idxL_none (p := p) (l := xs) fun j x hx => hj j x (by have := (List.getElem?_eq_some_iff.1 hx).1; rw [HH.out.2.1] at this; exact this) hx
   have HE := Lib.hid (And.intro he hb)
   clear he hj hb
   go_wp2_with fail
   go_ret
   exact ⟨by rw [HE.out.1]; rfl, HE.out.2⟩
  have i1 : (k : Int) < (N : Int) := by omega
  obtain ⟨x, hx⟩ := at_lt (l := xs) (k := k) (by rw [HH.out.2.1]; exact hlt)
  have hx256 := HH.out.1.lt hx
  obtain ⟨b, o, rfl, hbl, d0⟩ := (HH.out.1.on hb).at hx
  have C := HH.out.2.2 wr hb x hx256
  obtain ⟨X, hX⟩ : ∃ X : Int, (x : Int) = X := ⟨_, rfl⟩
  rw [hX] at d0 C
  have HK := Lib.hid (And.intro C (And.intro hb (And.intro hj hx)))
  clear C hb hj hx hX hbl hx256
  go_wp2_with fail
  refine HK.out.1.mono ?_
  rintro r w2 ⟨rfl, hb2⟩
  have b2 := HK.out.2.1.trans (hb2.mono HK.out.2.1.size)
  cases hp : p x with
  | true =>
   have he := idxL_some (p := p) HK.out.2.2.2 hp HK.out.2.2.1
   have HE := Lib.hid (And.intro he b2)
   clear hp he b2 hb2 d0
   go_wp2_with fail
   go_ret
   exact ⟨by rw [HE.out.1]; rfl, HE.out.2⟩
  | false =>
   have hend : ∀ (j : Nat) (y : Nat), j < k + 1 → xs[j]? = some y → p y = false := fun j y hj hy => by
    by_cases h : j = k
    ·subst h
     have := hy.symm.trans HK.out.2.2.2
     injection this with this
     rw [this]
     exact hp
    ·exact HK.out.2.2.1 j y (by omega) hy
   have HE := Lib.hid (And.intro hend b2)
   clear hp hend b2 hb2 d0
   go_wp2_with fail
   go_roundw
   case rel => exact ⟨k + 1, by go_num, by omega, HE.out.1, HE.out.2⟩
   case measure => simp [RowKit.intOf]; omega
theorem idx53_any (c0 : Addr) (p : Nat → Bool) (xs : List Nat) (A : Option Addr) (cap : Nat) (w : World) (h : BY w w.heap.size xs A cap)
  (K : ∀ W, Below w.heap.size w W → ∀ c : Nat, c < 256 → Calls Tryz.prog 208 #[.int .u8 (c : Int), .pointer (some c0)] W fun e w' => e = .returned (.bool (p c)) ∧ Below W.heap.size W w') :
  Calls Tryz.prog 206 #[.slice A xs.length cap, .func (Fn.func 208) #[] #[.pointer (some c0)]] w fun e w' => e = .returned (.int .i64 (idxL p xs)) ∧ Below w.heap.size w w' := by
 have hlen := h.len
 obtain ⟨N, hN⟩ : ∃ N, xs.length = N := ⟨_, rfl⟩
 rw [hN] at hlen ⊢
 have HH := Lib.hid (And.intro h (And.intro hN K))
 clear h hN K
 go_enter Tryz.func206, Tryz.ntmps206
 go_wp2_with fail
 go_loopw [5, 8] (fun _ i wr => ∃ k : Nat, i = .int .i64 (k : Int) ∧ k ≤ N ∧ (∀ (j : Nat) (y : Nat), j < k → xs[j]? = some y → p y = false) ∧ Below w.heap.size w wr) (fun _ i _ => N - (RowKit.intOf i).toNat)
 case atStart => exact ⟨0, by go_num, by omega, fun j y hj => absurd hj (by omega), Below.refl _ _⟩
 case round =>
  obtain ⟨k, rfl, hk, hj, hb⟩ := hrel
  by_cases hlt : k < N
  case neg =>
   obtain rfl : k = N := by omega
   have he := idxL_none (p := p) (l := xs) fun j x hx => hj j x (by have := (List.getElem?_eq_some_iff.1 hx).1; rw [HH.out.2.1] at this; exact this) hx
   have HE := Lib.hid (And.intro he hb)
   clear he hj hb
   go_wp2_with fail
   go_ret
   exact ⟨by rw [HE.out.1]; rfl, HE.out.2⟩
  have i1 : (k : Int) < (N : Int) := by omega
  obtain ⟨x, hx⟩ := at_lt (l := xs) (k := k) (by rw [HH.out.2.1]; exact hlt)
  have hx256 := HH.out.1.lt hx
  obtain ⟨b, o, rfl, hbl, d0⟩ := (HH.out.1.on hb).at hx
  have C := HH.out.2.2 wr hb x hx256
  obtain ⟨X, hX⟩ : ∃ X : Int, (x : Int) = X := ⟨_, rfl⟩
  rw [hX] at d0 C
  have HK := Lib.hid (And.intro C (And.intro hb (And.intro hj hx)))
  clear C hb hj hx hX hbl hx256
  go_wp2_with fail
  refine HK.out.1.mono ?_
  rintro r w2 ⟨rfl, hb2⟩
  have b2 := HK.out.2.1.trans (hb2.mono HK.out.2.1.size)
  cases hp : p x with
  | true =>
   have he := idxL_some (p := p) HK.out.2.2.2 hp HK.out.2.2.1
   have HE := Lib.hid (And.intro he b2)
   clear hp he b2 hb2 d0
   go_wp2_with fail
   go_ret
   exact ⟨by rw [HE.out.1]; rfl, HE.out.2⟩
  | false =>
   have hend : ∀ (j : Nat) (y : Nat), j < k + 1 → xs[j]? = some y → p y = false := fun j y hj hy => by
    by_cases h : j = k
    ·subst h
     have := hy.symm.trans HK.out.2.2.2
     injection this with this
     rw [this]
     exact hp
    ·exact HK.out.2.2.1 j y (by omega) hy
   have HE := Lib.hid (And.intro hend b2)
   clear hp hend b2 hb2 d0
   go_wp2_with fail
   go_roundw
   case rel => exact ⟨k + 1, by go_num, by omega, HE.out.1, HE.out.2⟩
   case measure => simp [RowKit.intOf]; omega
theorem isDone_any (g b o N cap n : Nat) (k s nm ats sg cl : Value) (w : World) (hc : Cells w g 218 (PCs b o N cap n k s nm ats sg cl)) :
  Calls Tryz.prog 189 #[.pointer (some ⟨g, 0, none⟩)] w fun e w' => e = .returned (.bool ((n : Int) == (N : Int))) ∧ ∃ m, w' = w.drewN m := by
 have q0 := hc.cell 0
 have q1 := hc.cell 1
 simp [PCs] at q0 q1
 clear hc
 go_enter Tryz.func189, Tryz.ntmps189
 go_wp2_with go_quiet (fail)
 go_ret
 exact ⟨rfl, _, rfl⟩
def tkB (xs : List Nat) (n c : Nat) : Bool := xs[n]? == some c
def tkN (xs : List Nat) (n c : Nat) : Nat := if tkB xs n c = true then n + 1 else n
theorem take_any (g b o cap n c : Nat) (xs : List Nat) (k s nm ats sg cl : Value) (w : World) (hc : Cells w g 218 (PCs b o xs.length cap n k s nm ats sg cl)) (hb : BY w g xs (some ⟨b, o, none⟩) cap) (hn : n ≤ xs.length) :
  Calls Tryz.prog 187 #[.pointer (some ⟨g, 0, none⟩), .int .u8 (c : Int)] w fun e w' => e = .returned (.bool (tkB xs n c)) ∧ Fz (· = g) w w' ∧ Cells w' g 218 (PCs b o xs.length cap (tkN xs n c) k s nm ats sg cl) := by
 have hlen := hb.len
 have q0 := hc.cell 0
 have q1 := hc.cell 1
 have f1 := hc.froz 1
 have hg := hc.lt
 simp [PCs] at q0 q1
 have CD := fun m => isDone_any g b o xs.length cap n k s nm ats sg cl (w.drewN m) hc
 have HD := Lib.hid CD
 by_cases hlt : n < xs.length
 case neg =>
  have e1 : tkB xs n c = false := by
   rw [tkB, List.getElem?_eq_none (by omega)]; rfl
  have e2 : tkN xs n c = n := by rw [tkN, if_neg (by rw [e1]; simp)]
  rw [e1, e2]
  obtain rfl : n = xs.length := by omega
  have d1 : ((xs.length : Int) == (xs.length : Int)) = true := by simp
  have HC := Lib.hid hc
  clear hb hc CD hn hlt e1 e2
  generalize xs.length = N at *
  rw [d1] at HD
  go_enter Tryz.func187, Tryz.ntmps187
  go_wp2_with go_quiet (first | (go_at_call 189; with_reducible refine Calls.quiet_of (HD.out _)))
  go_ret
  exact ⟨rfl, (Fz.refl _ _).drewN _, HC.out⟩
 case pos =>
  have d1 : ((n : Int) == (xs.length : Int)) = false := by rw [beq_eq_false_iff_ne]; omega
  have i1 : (n : Int) < (xs.length : Int) := by omega
  obtain ⟨x, hx⟩ := at_lt (l := xs) (k := n) hlt
  obtain ⟨b', o', e, hbl, c0⟩ := hb.at hx
  obtain ⟨rfl, rfl⟩ : b = b' ∧ o = o' := by simpa using e
  by_cases hxc : x = c
  ·subst hxc
   have e1 : tkB xs n x = true := by rw [tkB, hx]; simp
   have e2 : tkN xs n x = n + 1 := by rw [tkN, if_pos e1]
   rw [e1, e2]
   have HC := Lib.hid hc
   rw [d1] at HD
   clear hb hc CD hn hlt e1 e2 d1 hx e
   generalize xs.length = N at *
   generalize (x : Int) = X at *
   go_enter Tryz.func187, Tryz.ntmps187
   go_wp2_with go_quiet (first | (go_at_call 189; with_reducible refine Calls.quiet_of (HD.out _)))
   go_ret
   refine ⟨rfl, ?_, ?_⟩
   ·exact ((Fz.refl _ _).drewN _).trans (Fz.set _ _ _ _ rfl)
   ·exact Cells.set (W := w.drewN _) HC.out 1 _
  ·have e1 : tkB xs n c = false := by rw [tkB, hx]; simp [hxc]
   have e2 : tkN xs n c = n := by rw [tkN, if_neg (by rw [e1]; simp)]
   rw [e1, e2]
   have d2 : ((x : Int) != (c : Int)) = true := by rw [bne_iff_ne]; omega
   have HC := Lib.hid hc
   rw [d1] at HD
   clear hb hc CD hn hlt e1 e2 d1 hx e hxc
   generalize xs.length = N at *
   generalize (x : Int) = X at *
   generalize (c : Int) = C at *
   go_enter Tryz.func187, Tryz.ntmps187
   go_wp2_with go_quiet (first | (go_at_call 189; with_reducible refine Calls.quiet_of (HD.out _)))
   go_ret
   exact ⟨rfl, (Fz.refl _ _).drewN _, HC.out⟩
def rnN (p : Nat → Bool) (xs : List Nat) (n : Nat) : Nat := (runW p (xs.drop n)).length
theorem rnN_le (p : Nat → Bool) (xs : List Nat) (n : Nat) (h : n ≤ xs.length) : n + rnN p xs n ≤ xs.length := by
 have := runW_le p (xs.drop n)
 unfold rnN
 simp at this
 omega
theorem rnN_drop (p : Nat → Bool) (xs : List Nat) (n : Nat) : xs.drop (n + rnN p xs n) = restW p (xs.drop n) := by
 rw [restW_eq_drop, List.drop_drop]; rfl
theorem BY.run {w : World} {B : Nat} {xs : List Nat} {b o cap n : Nat} (h : BY w B xs (some ⟨b, o, none⟩) cap) (hn : n ≤ xs.length) (p : Nat → Bool) : BY w B (runW p (xs.drop n)) (some ⟨b, o + n, none⟩) (cap - n) := by
 rw [runW_eq_take]
 exact (h.dropL hn).take _
def UntOk (w : World) (g b o cap n : Nat) (p : Nat → Bool) (xs : List Nat) (k s nm ats sg cl : Value) (e : Ending) (w' : World) : Prop :=
 ∃ A c, e = .returned (.slice A (rnN p xs n) c) ∧ BY w' g (runW p (xs.drop n)) A c ∧ Fz (· = g) w w' ∧ Cells w' g 218 (PCs b o xs.length cap (n + rnN p xs n) k s nm ats sg cl)
theorem by_empty (w : World) (B : Nat) (a : Addr) {cap : Nat} (h : cap ≤ maxLen) : BY w B [] (some a) cap := ⟨Nat.zero_le _, h, (fun e => nomatch e), (fun _x hx => nomatch hx), fun hn => absurd rfl hn⟩
theorem idxE35_any (c0 : Addr) (p : Nat → Bool) (a : Addr) (M cap : Nat) (w : World) (hM : M = 0) (hm : cap ≤ maxLen)
  (K : ∀ W, Below w.heap.size w W → ∀ c : Nat, c < 256 → Calls Tryz.prog 167 #[.int .u8 (c : Int), .pointer (some c0)] W fun e w' => e = .returned (.bool (p c)) ∧ Below W.heap.size W w') :
  Calls Tryz.prog 206 #[.slice (some a) M cap, .func (Fn.func 167) #[] #[.pointer (some c0)]] w fun e w' => e = .returned (.int .i64 (-1)) ∧ Below w.heap.size w w' := by
 subst hM
 exact idx35_any c0 p [] (some a) cap w (by_empty _ _ _ hm) K
theorem until35_any (g b o cap n : Nat) (c0 : Addr) (p : Nat → Bool) (xs : List Nat) (k s nm ats sg cl : Value) (w : World) (hc : Cells w g 218 (PCs b o xs.length cap n k s nm ats sg cl)) (hb : BY w g xs (some ⟨b, o, none⟩) cap) (hn : n ≤ xs.length)
  (K : ∀ W, Below w.heap.size w W → ∀ c : Nat, c < 256 → Calls Tryz.prog 167 #[.int .u8 (c : Int), .pointer (some c0)] W fun e w' => e = .returned (.bool (p c)) ∧ Below W.heap.size W w') :
  Calls Tryz.prog 184 #[.pointer (some ⟨g, 0, none⟩), .func (Fn.func 167) #[] #[.pointer (some c0)]] w (UntOk w g b o cap n p xs k s nm ats sg cl) := by
 have hlen := hb.len
 have hcap := hb.l
 have hmx := hb.m
 have hmx0 := hb.m
 unfold maxLen at hmx
 have q0 := hc.cell 0
 have q1 := hc.cell 1
 have hg := hc.lt
 simp [PCs] at q0 q1
 by_cases hlt : n < xs.length
 case neg =>
  obtain rfl : n = xs.length := by omega
  have hr0 : rnN p xs xs.length = 0 := by unfold rnN; simp [runW]
  have hend : ∀ (a : Addr) (c : Nat) (w' : World), c ≤ maxLen → Fz (· = g) w w' → Cells w' g 218 (PCs b o xs.length cap xs.length k s nm ats sg cl) → UntOk w g b o cap xs.length p xs k s nm ats sg cl (.returned (.slice (some a) 0 c)) w' := fun a c w' h1 h2 h3 => by
   refine ⟨some a, c, by rw [hr0], ?_, h2, by rw [hr0]; exact h3⟩
   rw [List.drop_length]
   exact by_empty _ _ _ h1
  have HK := Lib.hid (And.intro hc (And.intro hend K))
  clear hend hr0 hb hlt K hc
  generalize xs.length = N at *
  have e1 : IntKind.i64.wrap (N : Int) = (N : Int) := IntWalk.i64_in _ (by omega)
  have hz : N - N = 0 := by omega
  obtain ⟨Q, hQ⟩ : ∃ Q, UntOk w g b o cap N p xs k s nm ats sg cl = Q := ⟨_, rfl⟩
  rw [hQ] at HK ⊢
  clear hQ
  go_enter Tryz.func184, Tryz.ntmps184
  go_wp2_with go_quiet (fail)
  all_goals
   refine (idxE35_any c0 p _ _ _ _ (by omega) (by first | exact Nat.zero_le _ | (unfold maxLen; omega)) (fun W hW => HK.out.2.2 W ((below_drewN (Below.refl _ _) _).trans hW))).mono ?_
   rintro r w1 ⟨rfl, hb1⟩
   have x1 : Cells w1 g 218 _ := Cells.on (W := w.drewN _) HK.out.1 hb1
   have q1 := x1.cell 1
   have f1 := x1.froz 1
   simp [PCs] at q1
   have HF := Lib.hid (And.intro x1 (((Fz.refl (· = g) w).drewN _).trans (Fz.of_below hb1)))
   clear x1 hb1
   go_wp2_with fail
   refine HK.out.2.1 _ _ _ (by first | exact Nat.zero_le _ | (unfold maxLen; omega)) (HF.out.2.trans (Fz.set _ _ _ _ rfl)) ?_
   exact HF.out.1.set 1 _
 have C := fun m => idx35_any c0 p (xs.drop n) (some ⟨b, o + n, none⟩) (cap - n) (w.drewN m) (((hb.mono (Nat.le_of_lt hg)).dropL hn).on (below_drewN (Below.refl _ _) m)) (fun W hW => K W ((below_drewN (Below.refl _ _) m).trans hW))
 have hdl : (xs.drop n).length = xs.length - n := by simp
 rw [hdl] at C
 have hrun := idxL_run p (xs.drop n)
 have hle := rnN_le p xs n hn
 have hby : ∀ w', Fz (· = g) w w' → BY w' g (runW p (xs.drop n)) (some ⟨b, o + n, none⟩) (cap - n) := fun w' hf => (hb.run hn p).fz hf (Nat.le_of_lt hg) (fun k hk e => by omega)
 have hend : ∀ (w' : World), Fz (· = g) w w' → Cells w' g 218 (PCs b o xs.length cap (n + rnN p xs n) k s nm ats sg cl) → UntOk w g b o cap n p xs k s nm ats sg cl (.returned (.slice (some ⟨b, o + n, none⟩) (rnN p xs n) (cap - n))) w' := fun w' h2 h3 => ⟨_, _, rfl, hby w' h2, h2, h3⟩
 clear hby
 obtain ⟨R, hR⟩ : ∃ R, rnN p xs n = R := ⟨_, rfl⟩
 have hR' : (runW p (xs.drop n)).length = R := hR
 rw [hR] at hle hend
 rw [hR', hdl] at hrun
 have hall : runW p (xs.drop n) = xs.drop n → R = xs.length - n := fun e => by rw [← hR', e, hdl]
 have hC := hc
 obtain ⟨I, hI⟩ : ∃ I, idxL p (xs.drop n) = I := ⟨_, rfl⟩
 rw [hI] at C hrun
 obtain ⟨Q, hQ⟩ : ∃ Q, UntOk w g b o cap n p xs k s nm ats sg cl = Q := ⟨_, rfl⟩
 rw [hQ] at hend ⊢
 clear hdl hR hR' hI hb K hc hQ
 generalize xs.length = N at *
 have HK := Lib.hid (And.intro hC (And.intro C hend))
 clear hC C hend
 have e1 : IntKind.i64.wrap ((n : Int) + (R : Int)) = (n : Int) + (R : Int) := IntWalk.i64_in _ (by omega)
 rcases hrun with ⟨rfl, h2⟩ | ⟨rfl, h2⟩
 ·obtain rfl := hall h2
  have HX := Lib.hid e1
  clear hall h2 e1
  go_enter Tryz.func184, Tryz.ntmps184
  go_wp2_with go_quiet (fail)
  refine (HK.out.2.1 _).mono ?_
  rintro r w1 ⟨rfl, hb1⟩
  have x1 : Cells w1 g 218 _ := Cells.on (W := w.drewN _) HK.out.1 hb1
  have q1 := x1.cell 1
  have f1 := x1.froz 1
  simp [PCs] at q1
  have HF := Lib.hid (And.intro x1 (((Fz.refl (· = g) w).drewN _).trans (Fz.of_below hb1)))
  clear x1 hb1
  go_wp2_with fail
  refine HK.out.2.2 _ (HF.out.2.trans (Fz.set _ _ _ _ rfl)) ?_
  exact HF.out.1.set 1 _
 ·have HX := Lib.hid (And.intro hall e1)
  have i0 : (R : Int) ≤ ((N - n : Nat) : Int) := by omega
  clear hall e1
  go_enter Tryz.func184, Tryz.ntmps184
  go_wp2_with go_quiet (fail)
  refine (HK.out.2.1 _).mono ?_
  rintro r w1 ⟨rfl, hb1⟩
  have x1 : Cells w1 g 218 _ := Cells.on (W := w.drewN _) HK.out.1 hb1
  have q1 := x1.cell 1
  have f1 := x1.froz 1
  simp [PCs] at q1
  have HF := Lib.hid (And.intro x1 (((Fz.refl (· = g) w).drewN _).trans (Fz.of_below hb1)))
  clear x1 hb1
  go_wp2_with fail
  refine HK.out.2.2 _ (HF.out.2.trans (Fz.set _ _ _ _ rfl)) ?_
  exact HF.out.1.set 1 _
theorem idxE52_any (c0 : Addr) (p : Nat → Bool) (a : Addr) (M cap : Nat) (w : World) (hM : M = 0) (hm : cap ≤ maxLen)
  (K : ∀ W, Below w.heap.size w W → ∀ c : Nat, c < 256 → Calls Tryz.prog 207 #[.int .u8 (c : Int), .pointer (some c0)] W fun e w' => e = .returned (.bool (p c)) ∧ Below W.heap.size W w') :
  Calls Tryz.prog 206 #[.slice (some a) M cap, .func (Fn.func 207) #[] #[.pointer (some c0)]] w fun e w' => e = .returned (.int .i64 (-1)) ∧ Below w.heap.size w w' := by
 subst hM
 exact idx52_any c0 p [] (some a) cap w (by_empty _ _ _ hm) K
theorem until52_any (g b o cap n : Nat) (c0 : Addr) (p : Nat → Bool) (xs : List Nat) (k s nm ats sg cl : Value) (w : World) (hc : Cells w g 218 (PCs b o xs.length cap n k s nm ats sg cl)) (hb : BY w g xs (some ⟨b, o, none⟩) cap) (hn : n ≤ xs.length)
  (K : ∀ W, Below w.heap.size w W → ∀ c : Nat, c < 256 → Calls Tryz.prog 207 #[.int .u8 (c : Int), .pointer (some c0)] W fun e w' => e = .returned (.bool (p c)) ∧ Below W.heap.size W w') :
  Calls Tryz.prog 184 #[.pointer (some ⟨g, 0, none⟩), .func (Fn.func 207) #[] #[.pointer (some c0)]] w (UntOk w g b o cap n p xs k s nm ats sg cl) := by
 have hlen := hb.len
 have hcap := hb.l
 have hmx := hb.m
 have hmx0 := hb.m
 unfold maxLen at hmx
 have q0 := hc.cell 0
 have q1 := hc.cell 1
 have hg := hc.lt
 simp [PCs] at q0 q1
 by_cases hlt : n < xs.length
 case neg =>
  obtain rfl : n = xs.length := by omega
  have hr0 : rnN p xs xs.length = 0 := by unfold rnN; simp [runW]
  have hend : ∀ (a : Addr) (c : Nat) (w' : World), c ≤ maxLen → Fz (· = g) w w' → Cells w' g 218 (PCs b o xs.length cap xs.length k s nm ats sg cl) → UntOk w g b o cap xs.length p xs k s nm ats sg cl (.returned (.slice (some a) 0 c)) w' := fun a c w' h1 h2 h3 => by
   refine ⟨some a, c, by rw [hr0], ?_, h2, by rw [hr0]; exact h3⟩
   rw [List.drop_length]
   exact by_empty _ _ _ h1
  have HK := Lib.hid (And.intro hc (And.intro hend K))
  clear hend hr0 hb hlt K hc
  generalize xs.length = N at *
  have e1 : IntKind.i64.wrap (N : Int) = (N : Int) := IntWalk.i64_in _ (by omega)
  have hz : N - N = 0 := by omega
  obtain ⟨Q, hQ⟩ : ∃ Q, UntOk w g b o cap N p xs k s nm ats sg cl = Q := ⟨_, rfl⟩
  rw [hQ] at HK ⊢
  clear hQ
  go_enter Tryz.func184, Tryz.ntmps184
  go_wp2_with go_quiet (fail)
  all_goals
   refine (idxE52_any c0 p _ _ _ _ (by omega) (by first | exact Nat.zero_le _ | (unfold maxLen; omega)) (fun W hW => HK.out.2.2 W ((below_drewN (Below.refl _ _) _).trans hW))).mono ?_
   rintro r w1 ⟨rfl, hb1⟩
   have x1 : Cells w1 g 218 _ := Cells.on (W := w.drewN _) HK.out.1 hb1
   have q1 := x1.cell 1
   have f1 := x1.froz 1
   simp [PCs] at q1
   have HF := Lib.hid (And.intro x1 (((Fz.refl (· = g) w).drewN _).trans (Fz.of_below hb1)))
   clear x1 hb1
   go_wp2_with fail
   refine HK.out.2.1 _ _ _ (by first | exact Nat.zero_le _ | (unfold maxLen; omega)) (HF.out.2.trans (Fz.set _ _ _ _ rfl)) ?_
   exact HF.out.1.set 1 _
 have C := fun m => idx52_any c0 p (xs.drop n) (some ⟨b, o + n, none⟩) (cap - n) (w.drewN m) (((hb.mono (Nat.le_of_lt hg)).dropL hn).on (below_drewN (Below.refl _ _) m)) (fun W hW => K W ((below_drewN (Below.refl _ _) m).trans hW))
 have hdl : (xs.drop n).length = xs.length - n := by simp
 rw [hdl] at C
 have hrun := idxL_run p (xs.drop n)
 have hle := rnN_le p xs n hn
 have hby : ∀ w', Fz (· = g) w w' → BY w' g (runW p (xs.drop n)) (some ⟨b, o + n, none⟩) (cap - n) := fun w' hf => (hb.run hn p).fz hf (Nat.le_of_lt hg) (fun k hk e => by omega)
 have hend : ∀ (w' : World), Fz (· = g) w w' → Cells w' g 218 (PCs b o xs.length cap (n + rnN p xs n) k s nm ats sg cl) → UntOk w g b o cap n p xs k s nm ats sg cl (.returned (.slice (some ⟨b, o + n, none⟩) (rnN p xs n) (cap - n))) w' := fun w' h2 h3 => ⟨_, _, rfl, hby w' h2, h2, h3⟩
 clear hby
 obtain ⟨R, hR⟩ : ∃ R, rnN p xs n = R := ⟨_, rfl⟩
 have hR' : (runW p (xs.drop n)).length = R := hR
 rw [hR] at hle hend
 rw [hR', hdl] at hrun
 have hall : runW p (xs.drop n) = xs.drop n → R = xs.length - n := fun e => by rw [← hR', e, hdl]
 have hC := hc
 obtain ⟨I, hI⟩ : ∃ I, idxL p (xs.drop n) = I := ⟨_, rfl⟩
 rw [hI] at C hrun
 obtain ⟨Q, hQ⟩ : ∃ Q, UntOk w g b o cap n p xs k s nm ats sg cl = Q := ⟨_, rfl⟩
 rw [hQ] at hend ⊢
 clear hdl hR hR' hI hb K hc hQ
 generalize xs.length = N at *
 have HK := Lib.hid (And.intro hC (And.intro C hend))
 clear hC C hend
 have e1 : IntKind.i64.wrap ((n : Int) + (R : Int)) = (n : Int) + (R : Int) := IntWalk.i64_in _ (by omega)
 rcases hrun with ⟨rfl, h2⟩ | ⟨rfl, h2⟩
 ·obtain rfl := hall h2
  have HX := Lib.hid e1
  clear hall h2 e1
  go_enter Tryz.func184, Tryz.ntmps184
  go_wp2_with go_quiet (fail)
  refine (HK.out.2.1 _).mono ?_
  rintro r w1 ⟨rfl, hb1⟩
  have x1 : Cells w1 g 218 _ := Cells.on (W := w.drewN _) HK.out.1 hb1
  have q1 := x1.cell 1
  have f1 := x1.froz 1
  simp [PCs] at q1
  have HF := Lib.hid (And.intro x1 (((Fz.refl (· = g) w).drewN _).trans (Fz.of_below hb1)))
  clear x1 hb1
  go_wp2_with fail
  refine HK.out.2.2 _ (HF.out.2.trans (Fz.set _ _ _ _ rfl)) ?_
  exact HF.out.1.set 1 _
 ·have HX := Lib.hid (And.intro hall e1)
  have i0 : (R : Int) ≤ ((N - n : Nat) : Int) := by omega
  clear hall e1
  go_enter Tryz.func184, Tryz.ntmps184
  go_wp2_with go_quiet (fail)
  refine (HK.out.2.1 _).mono ?_
  rintro r w1 ⟨rfl, hb1⟩
  have x1 : Cells w1 g 218 _ := Cells.on (W := w.drewN _) HK.out.1 hb1
  have q1 := x1.cell 1
  have f1 := x1.froz 1
  simp [PCs] at q1
  have HF := Lib.hid (And.intro x1 (((Fz.refl (· = g) w).drewN _).trans (Fz.of_below hb1)))
  clear x1 hb1
  go_wp2_with fail
  refine HK.out.2.2 _ (HF.out.2.trans (Fz.set _ _ _ _ rfl)) ?_
  exact HF.out.1.set 1 _
theorem idxE53_any (c0 : Addr) (p : Nat → Bool) (a : Addr) (M cap : Nat) (w : World) (hM : M = 0) (hm : cap ≤ maxLen)
  (K : ∀ W, Below w.heap.size w W → ∀ c : Nat, c < 256 → Calls Tryz.prog 208 #[.int .u8 (c : Int), .pointer (some c0)] W fun e w' => e = .returned (.bool (p c)) ∧ Below W.heap.size W w') :
  Calls Tryz.prog 206 #[.slice (some a) M cap, .func (Fn.func 208) #[] #[.pointer (some c0)]] w fun e w' => e = .returned (.int .i64 (-1)) ∧ Below w.heap.size w w' := by
 subst hM
 exact idx53_any c0 p [] (some a) cap w (by_empty _ _ _ hm) K
theorem until53_any (g b o cap n : Nat) (c0 : Addr) (p : Nat → Bool) (xs : List Nat) (k s nm ats sg cl : Value) (w : World) (hc : Cells w g 218 (PCs b o xs.length cap n k s nm ats sg cl)) (hb : BY w g xs (some ⟨b, o, none⟩) cap) (hn : n ≤ xs.length)
  (K : ∀ W, Below w.heap.size w W → ∀ c : Nat, c < 256 → Calls Tryz.prog 208 #[.int .u8 (c : Int), .pointer (some c0)] W fun e w' => e = .returned (.bool (p c)) ∧ Below W.heap.size W w') :
  Calls Tryz.prog 184 #[.pointer (some ⟨g, 0, none⟩), .func (Fn.func 208) #[] #[.pointer (some c0)]] w (UntOk w g b o cap n p xs k s nm ats sg cl) := by
 have hlen := hb.len
 have hcap := hb.l
 have hmx := hb.m
 have hmx0 := hb.m
 unfold maxLen at hmx
 have q0 := hc.cell 0
 have q1 := hc.cell 1
 have hg := hc.lt
 simp [PCs] at q0 q1
 by_cases hlt : n < xs.length
 case neg =>
  obtain rfl : n = xs.length := by omega
  have hr0 : rnN p xs xs.length = 0 := by unfold rnN; simp [runW]
  have hend : ∀ (a : Addr) (c : Nat) (w' : World), c ≤ maxLen → Fz (· = g) w w' → Cells w' g 218 (PCs b o xs.length cap xs.length k s nm ats sg cl) → UntOk w g b o cap xs.length p xs k s nm ats sg cl (.returned (.slice (some a) 0 c)) w' := fun a c w' h1 h2 h3 => by
   refine ⟨some a, c, by rw [hr0], ?_, h2, by rw [hr0]; exact h3⟩
   rw [List.drop_length]
   exact by_empty _ _ _ h1
  have HK := Lib.hid (And.intro hc (And.intro hend K))
  clear hend hr0 hb hlt K hc
  generalize xs.length = N at *
  have e1 : IntKind.i64.wrap (N : Int) = (N : Int) := IntWalk.i64_in _ (by omega)
  have hz : N - N = 0 := by omega
  obtain ⟨Q, hQ⟩ : ∃ Q, UntOk w g b o cap N p xs k s nm ats sg cl = Q := ⟨_, rfl⟩
  rw [hQ] at HK ⊢
  clear hQ
  go_enter Tryz.func184, Tryz.ntmps184
  go_wp2_with go_quiet (fail)
  all_goals
   refine (idxE53_any c0 p _ _ _ _ (by omega) (by first | exact Nat.zero_le _ | (unfold maxLen; omega)) (fun W hW => HK.out.2.2 W ((below_drewN (Below.refl _ _) _).trans hW))).mono ?_
   rintro r w1 ⟨rfl, hb1⟩
   have x1 : Cells w1 g 218 _ := Cells.on (W := w.drewN _) HK.out.1 hb1
   have q1 := x1.cell 1
   have f1 := x1.froz 1
   simp [PCs] at q1
   have HF := Lib.hid (And.intro x1 (((Fz.refl (· = g) w).drewN _).trans (Fz.of_below hb1)))
   clear x1 hb1
   go_wp2_with fail
   refine HK.out.2.1 _ _ _ (by first | exact Nat.zero_le _ | (unfold maxLen; omega)) (HF.out.2.trans (Fz.set _ _ _ _ rfl)) ?_
   exact HF.out.1.set 1 _
 have C := fun m => idx53_any c0 p (xs.drop n) (some ⟨b, o + n, none⟩) (cap - n) (w.drewN m) (((hb.mono (Nat.le_of_lt hg)).dropL hn).on (below_drewN (Below.refl _ _) m)) (fun W hW => K W ((below_drewN (Below.refl _ _) m).trans hW))
 have hdl : (xs.drop n).length = xs.length - n := by simp
 rw [hdl] at C
 have hrun := idxL_run p (xs.drop n)
 have hle := rnN_le p xs n hn
 have hby : ∀ w', Fz (· = g) w w' → BY w' g (runW p (xs.drop n)) (some ⟨b, o + n, none⟩) (cap - n) := fun w' hf => (hb.run hn p).fz hf (Nat.le_of_lt hg) (fun k hk e => by omega)
 have hend : ∀ (w' : World), Fz (· = g) w w' → Cells w' g 218 (PCs b o xs.length cap (n + rnN p xs n) k s nm ats sg cl) → UntOk w g b o cap n p xs k s nm ats sg cl (.returned (.slice (some ⟨b, o + n, none⟩) (rnN p xs n) (cap - n))) w' := fun w' h2 h3 => ⟨_, _, rfl, hby w' h2, h2, h3⟩
 clear hby
 obtain ⟨R, hR⟩ : ∃ R, rnN p xs n = R := ⟨_, rfl⟩
 have hR' : (runW p (xs.drop n)).length = R := hR
 rw [hR] at hle hend
 rw [hR', hdl] at hrun
 have hall : runW p (xs.drop n) = xs.drop n → R = xs.length - n := fun e => by rw [← hR', e, hdl]
 have hC := hc
 obtain ⟨I, hI⟩ : ∃ I, idxL p (xs.drop n) = I := ⟨_, rfl⟩
 rw [hI] at C hrun
 obtain ⟨Q, hQ⟩ : ∃ Q, UntOk w g b o cap n p xs k s nm ats sg cl = Q := ⟨_, rfl⟩
 rw [hQ] at hend ⊢
 clear hdl hR hR' hI hb K hc hQ
 generalize xs.length = N at *
 have HK := Lib.hid (And.intro hC (And.intro C hend))
 clear hC C hend
 have e1 : IntKind.i64.wrap ((n : Int) + (R : Int)) = (n : Int) + (R : Int) := IntWalk.i64_in _ (by omega)
 rcases hrun with ⟨rfl, h2⟩ | ⟨rfl, h2⟩
 ·obtain rfl := hall h2
  have HX := Lib.hid e1
  clear hall h2 e1
  go_enter Tryz.func184, Tryz.ntmps184
  go_wp2_with go_quiet (fail)
  refine (HK.out.2.1 _).mono ?_
  rintro r w1 ⟨rfl, hb1⟩
  have x1 : Cells w1 g 218 _ := Cells.on (W := w.drewN _) HK.out.1 hb1
  have q1 := x1.cell 1
  have f1 := x1.froz 1
  simp [PCs] at q1
  have HF := Lib.hid (And.intro x1 (((Fz.refl (· = g) w).drewN _).trans (Fz.of_below hb1)))
  clear x1 hb1
  go_wp2_with fail
  refine HK.out.2.2 _ (HF.out.2.trans (Fz.set _ _ _ _ rfl)) ?_
  exact HF.out.1.set 1 _
 ·have HX := Lib.hid (And.intro hall e1)
  have i0 : (R : Int) ≤ ((N - n : Nat) : Int) := by omega
  clear hall e1
  go_enter Tryz.func184, Tryz.ntmps184
  go_wp2_with go_quiet (fail)
  refine (HK.out.2.1 _).mono ?_
  rintro r w1 ⟨rfl, hb1⟩
  have x1 : Cells w1 g 218 _ := Cells.on (W := w.drewN _) HK.out.1 hb1
  have q1 := x1.cell 1
  have f1 := x1.froz 1
  simp [PCs] at q1
  have HF := Lib.hid (And.intro x1 (((Fz.refl (· = g) w).drewN _).trans (Fz.of_below hb1)))
  clear x1 hb1
  go_wp2_with fail
  refine HK.out.2.2 _ (HF.out.2.trans (Fz.set _ _ _ _ rfl)) ?_
  exact HF.out.1.set 1 _
def strV (l : List Nat) : Value := .string ⟨(u8s l).toArray⟩
theorem ofNat_inj {a b : Nat} (ha : a < 256) (hb : b < 256) (h : UInt8.ofNat a = UInt8.ofNat b) : a = b := by
 have := congrArg UInt8.toNat h
 simp [Nat.mod_eq_of_lt ha, Nat.mod_eq_of_lt hb] at this
 exact this
theorem indexByte_mem (c : Nat) (hc : c < 256) : ∀ (l : List Nat), (∀ x ∈ l, x < 256) → decide (0 ≤ Lib.indexByte (u8s l) (UInt8.ofNat c)) = l.contains c ∧ -1 ≤ Lib.indexByte (u8s l) (UInt8.ofNat c)
 | [], _ => ⟨rfl, Int.le_refl (-1)⟩
 | x :: l, h => by
  have ih := indexByte_mem c hc l (fun y hy => h y (by simp [hy]))
  have hx := h x (by simp)
  show decide (0 ≤ Lib.indexByte (UInt8.ofNat x :: u8s l) (UInt8.ofNat c)) = _ ∧ -1 ≤ Lib.indexByte (UInt8.ofNat x :: u8s l) (UInt8.ofNat c)
  rw [Lib.indexByte]
  by_cases e : x = c
  ·subst e
   simp
  ·have e1 : (UInt8.ofNat x == UInt8.ofNat c) = false := by
    rw [beq_eq_false_iff_ne]
    exact fun h => e (ofNat_inj hx hc h)
   have e2 : (x :: l).contains c = l.contains c := by
    rw [List.contains_cons]
    simp [show ¬ c = x from fun h => e h.symm]
   rw [e1, e2, ← ih.1]
   simp only [Bool.false_eq_true, if_false]
   have := ih.2
   by_cases e3 : Lib.indexByte (u8s l) (UInt8.ofNat c) = -1
   ·simp [e3]
   ·have e4 : (Lib.indexByte (u8s l) (UInt8.ofNat c) == -1) = false := by rw [beq_eq_false_iff_ne]; exact e3
    rw [e4]
    simp only [Bool.false_eq_true, if_false]
    refine ⟨?_, by omega⟩
    congr 1
    apply propext
    constructor <;> intro h <;> omega
theorem toUInt8_nat (c : Nat) : ((c : Int).toNat).toUInt8 = UInt8.ofNat c := by simp
theorem one_any (l : List Nat) (hl : ∀ x ∈ l, x < 256) (gs : Nat) (w : World) (hc : Cells w gs 9 #[strV l]) (c : Nat) (h256 : c < 256) :
  Calls Tryz.prog 167 #[.int .u8 (c : Int), .pointer (some ⟨gs, 0, none⟩)] w fun e w' => e = .returned (.bool (l.contains c)) ∧ Below w.heap.size w w' := by
 have q0 := hc.cell 0
 simp [strV] at q0
 have C := Tryz.strings_IndexByte ⟨(u8s l).toArray⟩ (c : Int) w
 have hi := (indexByte_mem c h256 l hl).1
 rw [toUInt8_nat] at C
 simp only at C
 generalize Lib.indexByte (u8s l) (UInt8.ofNat c) = I at *
 rw [← hi]
 have HC := Lib.hid C
 clear C hi hc h256 hl
 go_enter Tryz.func167, Tryz.ntmps167
 go_wp2_with fail
 refine HC.out.mono ?_
 rintro r w1 ⟨rfl, e⟩
 obtain rfl := e.symm
 go_wp2_with fail
 go_ret
 exact ⟨rfl, Below.refl _ _⟩
theorem none_any (l : List Nat) (hl : ∀ x ∈ l, x < 256) (gs : Nat) (w : World) (hc : Cells w gs 9 #[strV l]) (c : Nat) (h256 : c < 256) :
  Calls Tryz.prog 207 #[.int .u8 (c : Int), .pointer (some ⟨gs, 0, none⟩)] w fun e w' => e = .returned (.bool (!l.contains c)) ∧ Below w.heap.size w w' := by
 have q0 := hc.cell 0
 simp [strV] at q0
 have C := Tryz.strings_IndexByte ⟨(u8s l).toArray⟩ (c : Int) w
 have hi := (indexByte_mem c h256 l hl).1
 rw [toUInt8_nat] at C
 simp only at C
 generalize Lib.indexByte (u8s l) (UInt8.ofNat c) = I at *
 rw [← hi]
 have e0 : (!decide (0 ≤ I)) = decide (I < 0) := by by_cases h : 0 ≤ I <;> simp [h] <;> omega
 rw [e0]
 have HC := Lib.hid C
 clear C hi hc h256 hl e0
 go_enter Tryz.func207, Tryz.ntmps207
 go_wp2_with fail
 refine HC.out.mono ?_
 rintro r w1 ⟨rfl, e⟩
 obtain rfl := e.symm
 go_wp2_with fail
 go_ret
 exact ⟨rfl, Below.refl _ _⟩
theorem quo_any (q : Nat) (gs : Nat) (w : World) (hc : Cells w gs 5 #[.int .u8 (q : Int)]) (c : Nat) :
  Calls Tryz.prog 208 #[.int .u8 (c : Int), .pointer (some ⟨gs, 0, none⟩)] w fun e w' => e = .returned (.bool (eQ q c)) ∧ Below w.heap.size w w' := by
 have q0 := hc.cell 0
 simp at q0
 have e0 : eQ q c = ((c : Int) == (q : Int)) := by
  rw [eQ, Bool.eq_iff_iff]; simp only [beq_iff_eq]; omega
 rw [e0]
 clear hc e0
 go_enter Tryz.func208, Tryz.ntmps208
 go_wp2_with fail
 go_ret
 exact ⟨rfl, Below.refl _ _⟩
theorem mk_one (l : List Nat) (w : World) : Calls Tryz.prog 129 #[strV l] w fun e w' => e = .returned (.func (Fn.func 167) #[] #[.pointer (some ⟨w.heap.size, 0, none⟩)]) ∧ w' = w.alloc (.cells #[strV l] 9) := by
 unfold strV
 go_enter Tryz.func129, Tryz.ntmps129
 go_wp2_with fail
 go_ret
 exact ⟨rfl, rfl⟩
theorem mk_none (l : List Nat) (w : World) : Calls Tryz.prog 186 #[strV l] w fun e w' => e = .returned (.func (Fn.func 207) #[] #[.pointer (some ⟨w.heap.size, 0, none⟩)]) ∧ w' = w.alloc (.cells #[strV l] 9) := by
 unfold strV
 go_enter Tryz.func186, Tryz.ntmps186
 go_wp2_with fail
 go_ret
 exact ⟨rfl, rfl⟩
theorem con_name : ∀ c, ([9, 10, 12, 13, 32, 47, 62] : List Nat).contains c = eName c := fun c => by
 simp [eName, blkB, Bool.or_assoc]; rfl
theorem con_attr : ∀ c, ([9, 10, 12, 13, 32, 47, 62, 61] : List Nat).contains c = eAttr c := fun c => by
 simp [eAttr, blkB, Bool.or_assoc]; rfl
theorem con_val : ∀ c, ([9, 10, 12, 13, 32, 62] : List Nat).contains c = eVal c := fun c => by
 simp [eVal, blkB, Bool.or_assoc]; rfl
theorem con_sep : ∀ c, (!([9, 10, 12, 13, 32, 47] : List Nat).contains c) = eSep c := fun c => by
 simp [eSep, blkB, Bool.or_assoc]; rfl
theorem con_blk : ∀ c, (!([9, 10, 12, 13, 32] : List Nat).contains c) = eBlk c := fun c => by
 simp [eBlk, blkB, Bool.or_assoc]; rfl
theorem isLetter_any (c : Nat) (w : World) : Calls Tryz.prog 125 #[.int .u8 (c : Int)] w fun e w' => e = .returned (.bool (ltrB c)) ∧ w' = w := by
 have e0 : ltrB c = ((decide (65 ≤ (c : Int)) && decide ((c : Int) ≤ 90)) || (decide (97 ≤ (c : Int)) && decide ((c : Int) ≤ 122))) := by
  unfold ltrB
  rw [Bool.eq_iff_iff]
  simp
  omega
 rw [e0]
 generalize (c : Int) = X
 by_cases h1 : 65 ≤ X
 ·have d1 : decide (65 ≤ X) = true := by simpa using h1
  by_cases h2 : X ≤ 90
  ·have d2 : decide (X ≤ 90) = true := by simpa using h2
   go_enter Tryz.func125, Tryz.ntmps125
   go_wp2_with fail
   go_ret
   exact ⟨by simp [d1, d2], rfl⟩
  ·have d2 : decide (X ≤ 90) = false := by simpa using h2
   by_cases h3 : 97 ≤ X
   ·have d3 : decide (97 ≤ X) = true := by simpa using h3
    go_enter Tryz.func125, Tryz.ntmps125
    go_wp2_with fail
    go_ret
    exact ⟨by simp, rfl⟩
   ·have d3 : decide (97 ≤ X) = false := by simpa using h3
    go_enter Tryz.func125, Tryz.ntmps125
    go_wp2_with fail
    go_ret
    exact ⟨by simp, rfl⟩
 ·have d1 : decide (65 ≤ X) = false := by simpa using h1
  have d3 : decide (97 ≤ X) = false := by simp; omega
  go_enter Tryz.func125, Tryz.ntmps125
  go_wp2_with fail
  go_ret
  exact ⟨by simp, rfl⟩
theorem conv_by {w : World} {B : Nat} {l : List Nat} {A : Option Addr} {cap : Nat} (h : BY w B l A cap) : (convert 22 9 (.slice A l.length cap)).run Tryz.prog w = .ok (.string ⟨(u8s l).toArray⟩) w := by
 cases l with
 | nil =>
  exact run_convert_bytes_zero (P := Tryz.prog) w 22 5 Tryz.underlying22 Tryz.underlying5 A cap 9 Tryz.underlying9
 | cons c r =>
  obtain ⟨b, o, rfl, _, hc⟩ := h.r (by simp)
  have := run_convert_bytes_back (P := Tryz.prog) w 22 9 5 ⟨b, o, none⟩ cap (u8s (c :: r)) Tryz.underlying22 Tryz.underlying5 Tryz.underlying9 (fun j hj => by
   rw [u8s_len] at hj
   obtain ⟨x, hx⟩ := at_lt hj
   have h1 := hc j x hx
   have h2 := h.lt hx
   have ea : (Addr.mk b o none).add j = ⟨b, o + j, none⟩ := by
    unfold Addr.add
    by_cases h0 : j = 0 <;> simp [h0]
   rw [ea, h1]
   have hu : (u8s (c :: r))[j]? = some (UInt8.ofNat x) := by
    unfold u8s
    rw [List.getElem?_map, hx]
    rfl
   simp [List.getElem?_eq_some_iff] at hu
   obtain ⟨h3, h4⟩ := hu
   simp [h4, Nat.mod_eq_of_lt h2])
  rw [u8s_len] at this
  exact this
structure ByR (w : World) (g : Nat) (l : List Nat) (cap : Nat) : Prop where
 row : ∃ cur k, w.heap[g]? = some (.cells cur 5 (k, k + 1)) ∧ cur.size = cap ∧ cap ≤ k ∧ ∀ (i x : Nat), l[i]? = some x → cur[i]? = some (.int .u8 (x : Int))
 le : l.length ≤ cap
 mx : cap ≤ maxLen
 b : ∀ x ∈ l, x < 256
theorem ByR.lt {w : World} {g : Nat} {l : List Nat} {cap : Nat} (h : ByR w g l cap) : g < w.heap.size := by
 obtain ⟨cur, k, h1, _⟩ := h.row
 exact (Array.getElem?_eq_some_iff.1 h1).1
theorem ByR.on {w w' : World} {g : Nat} {l : List Nat} {cap : Nat} (h : ByR w g l cap) (hb : Below w.heap.size w w') : ByR w' g l cap := by
 have hlt := h.lt
 obtain ⟨cur, k, h1, h2⟩ := h.row
 exact ⟨⟨cur, k, (hb.block g hlt).trans h1, h2⟩, h.le, h.mx, h.b⟩
theorem ByR.by {w : World} {g : Nat} {l : List Nat} {cap : Nat} (h : ByR w g l cap) : BY w w.heap.size l (some ⟨g, 0, none⟩) cap := by
 have hlt := h.lt
 obtain ⟨cur, k, h1, _, _, h2⟩ := h.row
 refine ⟨h.le, h.mx, fun e => (by cases e), h.b, fun _ => ⟨g, 0, rfl, hlt, fun i x hx => ?_⟩⟩
 rw [Nat.zero_add]
 unfold World.cell?
 rw [h1]
 simp only []
 exact h2 i x hx
theorem ByR.froz {w : World} {g : Nat} {l : List Nat} {cap i : Nat} (h : ByR w g l cap) (hi : i < l.length) : w.frozen? ⟨g, i, none⟩ = false := by
 obtain ⟨cur, k, h1, h2, h3, _⟩ := h.row
 have := h.le
 simp [World.frozen?, h1]
 omega
theorem ByR.set {w : World} {g : Nat} {l : List Nat} {cap : Nat} (h : ByR w g l cap) (i y : Nat) (hy : y < 256) : ByR (w.setCell ⟨g, i, none⟩ (.int .u8 (y : Int))) g (l.set i y) cap := by
 obtain ⟨cur, k, h1, h2, h3, h4⟩ := h.row
 refine ⟨⟨cur.setIfInBounds i (.int .u8 (y : Int)), k, ?_, by simpa using h2, h3, ?_⟩, by simpa using h.le, h.mx, fun x hx => ?_⟩
 ·unfold World.setCell
  simp only [Array.getElem?_modify, if_true]
  rw [h1]
  rfl
 ·intro j x hx
  rw [List.getElem?_set] at hx
  by_cases e : i = j
  ·subst e
   rw [if_pos rfl] at hx
   split at hx
   ·rename_i hl
    have := h.le
    simp at hx
    subst hx
    rw [Array.getElem?_setIfInBounds_self_of_lt (by omega)]
   ·cases hx
  ·rw [if_neg e] at hx
   rw [Array.getElem?_setIfInBounds_ne e]
   exact h4 j x hx
 ·rcases List.mem_or_eq_of_mem_set hx with h5 | h5
  ·exact h.b x h5
  ·omega
theorem strB_size' (l : List UInt8) : (⟨l.toArray⟩ : ByteArray).size = l.length := by simp [ByteArray.size]
theorem conv_str (w : World) (l : List Nat) (h256 : ∀ x ∈ l, x < 256) (hl : l.length ≤ 1000000) : ∃ cap W4, (convert 9 22 (strV l)).run Tryz.prog w = .ok (.slice (some ⟨w.heap.size, 0, none⟩) l.length cap) W4 ∧ ByR W4 w.heap.size l cap ∧ Below w.heap.size w W4 := by
 have h := run_bytes_of_string (P := Tryz.prog) w 9 22 5 ⟨(u8s l).toArray⟩ Tryz.underlying9 Tryz.underlying22 Tryz.underlying5
 rw [strB_size', u8s_len] at h
 have h1 := grownCap_ge w l.length 0 5
 have h2 := grownCap_le_maxLen w l.length 0 5 (by unfold maxLen; omega)
 generalize grownCap w l.length 0 5 = cap at *
 have hsz : (bytesRow ⟨(u8s l).toArray⟩ cap).size = cap := by
  unfold bytesRow
  simp [ByteArray.size, u8s_len]
  omega
 refine ⟨cap, _, h, ⟨⟨_, _, heap_alloc_new w.drew _, hsz, by rw [hsz]; exact Nat.le_refl _, fun i x hx => ?_⟩, h1, h2, h256⟩, (Below.refl _ _).drew.alloc (Nat.le_refl _) _⟩
 have hi : i < (⟨(u8s l).toArray⟩ : ByteArray).data.size := by
  have := (List.getElem?_eq_some_iff.1 hx).1
  simpa [u8s_len] using this
 rw [bytesRow_at _ _ i hi]
 have hx2 : (u8s l)[i]? = some (UInt8.ofNat x) := by unfold u8s; rw [List.getElem?_map, hx]; rfl
 have hi2 : i < (u8s l).length := by simpa using hi
 rw [List.getElem?_eq_getElem hi2] at hx2
 simp at hx2
 have h256x := h256 x (List.mem_of_getElem? hx)
 simp [hx2, Nat.mod_eq_of_lt h256x]
def mixL (k : Nat) (l : List Nat) : List Nat := lowL (l.take k) ++ l.drop k
theorem mixL_zero (l : List Nat) : mixL 0 l = l := by simp [mixL, lowL]
theorem mixL_all (l : List Nat) : mixL l.length l = lowL l := by simp [mixL]
theorem mixL_len (k : Nat) (l : List Nat) : (mixL k l).length = l.length := by simp [mixL, lowL]; omega
theorem mixL_at {k x : Nat} {l : List Nat} (h : l[k]? = some x) : (mixL k l)[k]? = some x := by
 have hk := (List.getElem?_eq_some_iff.1 h).1
 unfold mixL
 have e : (lowL (l.take k)).length = k := by simp [lowL]; omega
 rw [List.getElem?_append_right (by omega), e, Nat.sub_self, List.getElem?_drop]
 exact h
theorem mixL_next {k x : Nat} {l : List Nat} (h : l[k]? = some x) : mixL (k + 1) l = (mixL k l).set k (lowN x) := by
 have hk := (List.getElem?_eq_some_iff.1 h).1
 unfold mixL
 have e : (lowL (l.take k)).length = k := by simp [lowL]; omega
 rw [List.set_append_right _ _ (by omega), e, Nat.sub_self, drop_at h, List.set_cons_zero, List.take_add_one, h]
 simp [lowL]
theorem mixL_same {k x : Nat} {l : List Nat} (h : l[k]? = some x) (hx : lowN x = x) : mixL (k + 1) l = mixL k l := by
 rw [mixL_next h, hx]
 obtain ⟨h1, e⟩ := List.getElem?_eq_some_iff.1 (mixL_at h)
 have := List.set_getElem_self h1
 rw [e] at this
 exact this
theorem lowN_lt {x : Nat} (h : x < 256) : lowN x < 256 := by unfold lowN; split <;> omega
theorem lower_any (l : List Nat) (h256 : ∀ x ∈ l, x < 256) (hl : l.length ≤ 1000000) (w : World) :
  Calls Tryz.prog 185 #[strV l] w fun e w' => e = .returned (strV (lowL l)) ∧ Below w.heap.size w w' := by
 obtain ⟨cap, W1, hcv, hr, hb1⟩ := conv_str w l h256 hl
 rw [← mixL_zero l] at hr
 unfold strV at hcv ⊢
 obtain ⟨N, hN⟩ : ∃ N, l.length = N := ⟨_, rfl⟩
 rw [hN] at hcv hl
 have hs := hb1.size
 obtain ⟨G, hG⟩ : ∃ G, w.heap.size = G := ⟨_, rfl⟩
 rw [hG] at hcv hr
 have HH := Lib.hid (And.intro hr (And.intro hb1 (And.intro hN (And.intro h256 hG))))
 clear hr hb1 hN h256 hG
 go_enter Tryz.func185, Tryz.ntmps185
 go_wp2_with fail
 go_loopw [4, 5, 10] (fun _ _ i wr => ∃ k : Nat, i = .int .i64 (k : Int) ∧ k ≤ N ∧ ByR wr G (mixL k l) cap ∧ Below w.heap.size w wr) (fun _ _ i _ => N - (RowKit.intOf i).toNat)
 case atStart => exact ⟨0, by go_num, by omega, HH.out.1, HH.out.2.1⟩
 case round =>
  obtain ⟨k, rfl, hk, hR, hb⟩ := hrel
  by_cases hlt : k < N
  case neg =>
   obtain rfl : k = N := by omega
   have hmx : mixL k l = lowL l := by rw [← HH.out.2.2.1]; exact mixL_all l
   rw [hmx] at hR
   have hcv2 := conv_by hR.by
   rw [show (lowL l).length = k by rw [← HH.out.2.2.1]; simp [lowL]] at hcv2
   have HB := Lib.hid hb
   clear hR hmx hb
   go_wp2_with fail
   go_ret
   exact ⟨rfl, HB.out⟩
  have i1 : (k : Int) < (N : Int) := by omega
  obtain ⟨x, hx⟩ := at_lt (l := l) (k := k) (by rw [HH.out.2.2.1]; exact hlt)
  have hml : k < (mixL k l).length := by rw [mixL_len, HH.out.2.2.1]; exact hlt
  have hf := hR.froz hml
  obtain ⟨b', o', e', _, d0⟩ := hR.by.at (mixL_at hx)
  obtain ⟨rfl, rfl⟩ : G = b' ∧ 0 = o' := by simpa using e'
  have hx256 := HH.out.2.2.2.1 x (List.mem_of_getElem? hx)
  have hnext := mixL_next hx
  have hsame := mixL_same hx
  rw [Nat.zero_add] at d0
  have hset := hR.set k (lowN x) (lowN_lt hx256)
  rw [← hnext] at hset
  have hgb : Below w.heap.size w (wr.setCell ⟨G, k, none⟩ (.int .u8 ((lowN x : Nat) : Int))) := by
   refine hb.setCell (p := ⟨G, k, none⟩) ?_ _
   rw [HH.out.2.2.2.2]; exact Nat.le_refl _
  have hgl := hR.lt
  by_cases c1 : 65 ≤ x
  ·by_cases c2 : x ≤ 90
   ·have hlow : ((lowN x : Nat) : Int) = (x : Int) - 65 + 97 := by unfold lowN; rw [if_pos ⟨c1, c2⟩]; omega
    rw [hlow] at hset hgb
    have d1 : decide (65 ≤ (x : Int)) = true := by simp; omega
    have d2 : decide ((x : Int) ≤ 90) = true := by simp; omega
    have e1 : IntKind.u8.wrap ((x : Int) - 65) = (x : Int) - 65 := IntWalk.u8_in _ (by omega)
    have e2 : IntKind.u8.wrap ((x : Int) - 65 + 97) = (x : Int) - 65 + 97 := IntWalk.u8_in _ (by omega)
    have HE := Lib.hid (And.intro hset hgb)
    clear hset hgb hlow hsame hnext hb hR hml e' c1 c2 hx256 hx
    generalize (x : Int) = X at *
    go_wp2_with fail
    go_roundw
    case rel => exact ⟨k + 1, by go_num, by omega, HE.out.1, HE.out.2⟩
    case measure => simp [RowKit.intOf]; omega
   ·have d1 : decide (65 ≤ (x : Int)) = true := by simp; omega
    have d2 : decide ((x : Int) ≤ 90) = false := by simp; omega
    have hs := hsame (by unfold lowN; rw [if_neg (by omega)])
    have HE := Lib.hid (And.intro hs (And.intro hR hb))
    clear hset hgb hsame hnext hb hR hml e' c1 c2 hx256 hx hs
    generalize (x : Int) = X at *
    go_wp2_with fail
    go_roundw
    case rel => exact ⟨k + 1, by go_num, by omega, by rw [HE.out.1]; exact HE.out.2.1, HE.out.2.2⟩
    case measure => simp [RowKit.intOf]; omega
  ·have d1 : decide (65 ≤ (x : Int)) = false := by simp; omega
   have hs := hsame (by unfold lowN; rw [if_neg (by omega)])
   have HE := Lib.hid (And.intro hs (And.intro hR hb))
   clear hset hgb hsame hnext hb hR hml e' c1 hx256 hx hs
   generalize (x : Int) = X at *
   go_wp2_with fail
   go_roundw
   case rel => exact ⟨k + 1, by go_num, by omega, by rw [HE.out.1]; exact HE.out.2.1, HE.out.2.2⟩
   case measure => simp [RowKit.intOf]; omega
end Go.Proofs.YtfafhbgkmlmmdaaGreatDoor.G
namespace Go.Proofs.YtfafhbgkmlmmdaaGreatDoor.G
open Go.RowKit Go.Shelf Go.Lib Go.Maps Go.Sort
structure PS (w : World) (g b o cap : Nat) (xs : List Nat) (n : Nat) (k s nm ats sg cl : Value) : Prop where
 c : Cells w g 218 (PCs b o xs.length cap n k s nm ats sg cl)
 y : BY w g xs (some ⟨b, o, none⟩) cap
 n : n ≤ xs.length
theorem PS.on {w w' : World} {g b o cap : Nat} {xs : List Nat} {n : Nat} {k s nm ats sg cl : Value} (h : PS w g b o cap xs n k s nm ats sg cl) (hb : Below w.heap.size w w') : PS w' g b o cap xs n k s nm ats sg cl :=
 ⟨h.c.on hb, h.y.below (hb.mono (Nat.le_of_lt h.c.lt)), h.n⟩
theorem PS.drew {w : World} {g b o cap : Nat} {xs : List Nat} {n : Nat} {k s nm ats sg cl : Value} (h : PS w g b o cap xs n k s nm ats sg cl) : PS w.drew g b o cap xs n k s nm ats sg cl := h.on (Below.refl _ _).drew
theorem fzy {w w' : World} {g : Nat} {xs : List Nat} {A : Option Addr} {cap : Nat} (h : BY w g xs A cap) (hf : Fz (· = g) w w') (hg : g < w.heap.size) : BY w' g xs A cap := h.fz hf (Nat.le_of_lt hg) (fun k hk e => by omega)
def UOk (w : World) (g b o cap n : Nat) (p : Nat → Bool) (xs : List Nat) (k s nm ats sg cl : Value) (e : Ending) (w' : World) : Prop :=
 ∃ A c, e = .returned (.slice A (rnN p xs n) c) ∧ BY w' g (runW p (xs.drop n)) A c ∧ Fz (· = g) w w' ∧ PS w' g b o cap xs (n + rnN p xs n) k s nm ats sg cl
theorem UntOk.uok {w : World} {g b o cap n : Nat} {p : Nat → Bool} {xs : List Nat} {k s nm ats sg cl : Value} {e : Ending} {w' : World} (hp : PS w g b o cap xs n k s nm ats sg cl) (h : UntOk w g b o cap n p xs k s nm ats sg cl e w') : UOk w g b o cap n p xs k s nm ats sg cl e w' := by
 obtain ⟨A, c, h1, h2, h3, h4⟩ := h
 exact ⟨A, c, h1, h2, h3, h4, fzy hp.y h3 hp.c.lt, rnN_le p xs n hp.n⟩
theorem untO_any {g b o cap n : Nat} {xs : List Nat} {k s nm ats sg cl : Value} (w : World) (hp : PS w g b o cap xs n k s nm ats sg cl) (l : List Nat) (hl : ∀ x ∈ l, x < 256) (p : Nat → Bool) (hlp : ∀ c, l.contains c = p c) (gs : Nat) (hs : Cells w gs 9 #[strV l]) :
  Calls Tryz.prog 184 #[.pointer (some ⟨g, 0, none⟩), .func (Fn.func 167) #[] #[.pointer (some ⟨gs, 0, none⟩)]] w (UOk w g b o cap n p xs k s nm ats sg cl) :=
 (until35_any g b o cap n ⟨gs, 0, none⟩ p xs k s nm ats sg cl w hp.c hp.y hp.n (fun W hW c hc => by
  have := one_any l hl gs W (hs.on hW) c hc
  rw [hlp] at this
  exact this)).mono fun _ _ h => h.uok hp
theorem untN_any {g b o cap n : Nat} {xs : List Nat} {k s nm ats sg cl : Value} (w : World) (hp : PS w g b o cap xs n k s nm ats sg cl) (l : List Nat) (hl : ∀ x ∈ l, x < 256) (p : Nat → Bool) (hlp : ∀ c, (!l.contains c) = p c) (gs : Nat) (hs : Cells w gs 9 #[strV l]) :
  Calls Tryz.prog 184 #[.pointer (some ⟨g, 0, none⟩), .func (Fn.func 207) #[] #[.pointer (some ⟨gs, 0, none⟩)]] w (UOk w g b o cap n p xs k s nm ats sg cl) :=
 (until52_any g b o cap n ⟨gs, 0, none⟩ p xs k s nm ats sg cl w hp.c hp.y hp.n (fun W hW c hc => by
  have := none_any l hl gs W (hs.on hW) c hc
  rw [hlp] at this
  exact this)).mono fun _ _ h => h.uok hp
theorem untQ_any {g b o cap n : Nat} {xs : List Nat} {k s nm ats sg cl : Value} (w : World) (hp : PS w g b o cap xs n k s nm ats sg cl) (q : Nat) (gs : Nat) (hs : Cells w gs 5 #[.int .u8 (q : Int)]) :
  Calls Tryz.prog 184 #[.pointer (some ⟨g, 0, none⟩), .func (Fn.func 208) #[] #[.pointer (some ⟨gs, 0, none⟩)]] w (UOk w g b o cap n (eQ q) xs k s nm ats sg cl) :=
 (until53_any g b o cap n ⟨gs, 0, none⟩ (eQ q) xs k s nm ats sg cl w hp.c hp.y hp.n (fun W hW c _ => quo_any q gs W (hs.on hW) c)).mono fun _ _ h => h.uok hp
theorem takeP_any {g b o cap n : Nat} {xs : List Nat} {k s nm ats sg cl : Value} (w : World) (hp : PS w g b o cap xs n k s nm ats sg cl) (c : Nat) :
  Calls Tryz.prog 187 #[.pointer (some ⟨g, 0, none⟩), .int .u8 (c : Int)] w fun e w' => e = .returned (.bool (tkB xs n c)) ∧ Fz (· = g) w w' ∧ PS w' g b o cap xs (tkN xs n c) k s nm ats sg cl :=
 (take_any g b o cap n c xs k s nm ats sg cl w hp.c hp.y hp.n).mono fun e w' ⟨h1, h2, h3⟩ => ⟨h1, h2, h3, fzy hp.y h2 hp.c.lt, by
  unfold tkN
  split
  ·rename_i h
   have : xs[n]? = some c := by simpa [tkB] using h
   exact (List.getElem?_eq_some_iff.1 this).1
  ·exact hp.n⟩
def MkOk (w : World) (F : Nat) (s : ByteArray) (e : Ending) (w' : World) : Prop := ∃ gs, e = .returned (.func (Fn.func F) #[] #[.pointer (some ⟨gs, 0, none⟩)]) ∧ Cells w' gs 9 #[.string s] ∧ Below w.heap.size w w'
theorem mkO_any (s : ByteArray) (w : World) : Calls Tryz.prog 129 #[.string s] w (MkOk w 167 s) := by
 have := mk_one (nats s.data.toList) w
 unfold strV at this
 rw [u8s_nats] at this
 have e : (⟨s.data.toList.toArray⟩ : ByteArray) = s := by simp
 rw [e] at this
 exact this.mono fun e w' ⟨h1, h2⟩ => ⟨_, h1, by rw [h2]; exact cells_new _ _ _, by rw [h2]; exact below_new _ _⟩
theorem mkN_any (s : ByteArray) (w : World) : Calls Tryz.prog 186 #[.string s] w (MkOk w 207 s) := by
 have := mk_none (nats s.data.toList) w
 unfold strV at this
 rw [u8s_nats] at this
 have e : (⟨s.data.toList.toArray⟩ : ByteArray) = s := by simp
 rw [e] at this
 exact this.mono fun e w' ⟨h1, h2⟩ => ⟨_, h1, by rw [h2]; exact cells_new _ _ _, by rw [h2]; exact below_new _ _⟩
theorem BY.win {w : World} {B : Nat} {xs : List Nat} {b o cap : Nat} (h : BY w B xs (some ⟨b, o, none⟩) cap) (l k : Nat) (hl : l ≤ k) (hk : k ≤ xs.length) : BY w B ((xs.take k).drop l) (some ⟨b, o + l, none⟩) (cap - l) :=
 ⟨(by have hh := h.l; simp; omega), (by have hh := h.m; omega), fun e => (by cases e), fun x hx => h.i x (List.mem_of_mem_take (List.mem_of_mem_drop hx)), fun hne => by
  obtain ⟨b', o', e, hlt, hr⟩ := h.r (by rintro rfl; simp at hne)
  obtain ⟨rfl, rfl⟩ : b = b' ∧ o = o' := by simpa using e
  exact ⟨b, o + l, rfl, hlt, fun i x hx => by
   rw [List.getElem?_drop, List.getElem?_take] at hx
   split at hx
   ·rw [Nat.add_assoc]
    exact hr _ x hx
   ·cases hx⟩⟩
theorem slice_win (b o len cap l h : Nat) (hlh : l ≤ h) (hh : h ≤ cap) (hc : l < cap) (W : World) :
  (Instr.slice 22 (.slice (some ⟨b, o, none⟩) len cap) (some (.int .i64 (l : Int))) (some (.int .i64 (h : Int))) none).run Tryz.prog W = .ok (.slice (some ⟨b, o + l, none⟩) (h - l) (cap - l)) W := by
 have ht : Tryz.prog.underlying 22 = some (.slice 5) := Tryz.underlying22
 have ht' : Tryz.prog.underlying 22 = some (.slice (Tryz.prog.elem 22)) := by simp [Program.elem, ht]
 have he : Tryz.prog.elem 22 = 5 := by simp [Program.elem, ht]
 have hz : ∀ w, (Go.sizeOf 5).run Tryz.prog w = .ok 1 w := fun w => by kernel_rfl
 rw [run_slice_lh W 22 _ _ _ ht' .i64 .i64 _ _ (by omega) (by omega) (by omega), he, hz]
 have hne : ¬ cap = l := by omega
 by_cases h0 : l = 0
 ·subst h0
  simp [Result.andThen, sliced, Addr.add, hne]
 ·simp [Result.andThen, sliced, Addr.add, hne, h0]
def nameL (p : Nat → Bool) (xs : List Nat) (m n : Nat) : List Nat := lowL ((xs.take (n + rnN p xs n)).drop m)
end Go.Proofs.YtfafhbgkmlmmdaaGreatDoor.G
