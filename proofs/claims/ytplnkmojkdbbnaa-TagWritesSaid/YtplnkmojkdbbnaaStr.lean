/-
  Bytes and strings.
-/
import Derived.Test.YtplnkmojkdbbnaaByt
import Derived.Lib.UnsafeStr
namespace Go.Proofs.Ytplnkmojkdbbnaa
open Go.RowKit Go.Shelf Go.Lib Go.Maps

def u8s (l : List Nat) : List UInt8 := l.map UInt8.ofNat
def nats (l : List UInt8) : List Nat := l.map UInt8.toNat
theorem u8s_len (l : List Nat) : (u8s l).length = l.length := by simp [u8s]
theorem nats_len (l : List UInt8) : (nats l).length = l.length := by simp [nats]
theorem nats_u8s (l : List Nat) (h : ∀ x ∈ l, x < 256) : nats (u8s l) = l := by
  unfold nats u8s
  rw [List.map_map]
  conv => rhs; rw [← List.map_id l]
  exact List.map_congr_left fun x hx => by simp [h x hx]
theorem u8s_nats (l : List UInt8) : u8s (nats l) = l := by
  unfold nats u8s
  rw [List.map_map]
  conv => rhs; rw [← List.map_id l]
  exact List.map_congr_left fun x _ => by simp
theorem nats_lt (l : List UInt8) : ∀ x ∈ nats l, x < 256 := by
  intro x hx
  obtain ⟨u, _, rfl⟩ := List.mem_map.1 hx
  exact u.toNat_lt
theorem u8s_inj {l m : List Nat} (hl : ∀ x ∈ l, x < 256) (hm : ∀ x ∈ m, x < 256) (h : u8s l = u8s m) : l = m := by
  rw [← nats_u8s l hl, ← nats_u8s m hm, h]
def u8C (l : List Nat) : List Value := l.map fun (x : Nat) => Value.int .u8 (x : Int)
theorem u8C_len (l : List Nat) : (u8C l).length = l.length := by simp [u8C]
theorem byteCells_u8s (l : List Nat) (h : ∀ x ∈ l, x < 256) : Lib.byteCells (u8s l) = u8C l := by
  unfold Lib.byteCells u8s u8C
  rw [List.map_map]
  refine List.map_congr_left fun x hx => ?_
  have := h x hx
  simp [Nat.mod_eq_of_lt this]
theorem BY.dropL {w : World} {B : Nat} {xs : List Nat} {b o cap k : Nat} (h : BY w B xs (some ⟨b, o, none⟩) cap) (hk : k ≤ xs.length) : BY w B (xs.drop k) (some ⟨b, o + k, none⟩) (cap - k) :=
  ⟨(by have hh := h.l; simp; omega), (by have hh := h.m; omega), fun e => (by cases e), fun x hx => h.i x (List.mem_of_mem_drop hx), fun hne => by
    obtain ⟨b', o', e, hl, hr⟩ := h.r (by rintro rfl; simp at hne)
    obtain ⟨rfl, rfl⟩ : b = b' ∧ o = o' := by simpa using e
    exact ⟨b, o + k, rfl, hl, fun i x hx => by
      rw [List.getElem?_drop] at hx
      rw [Nat.add_assoc]
      exact hr _ x hx⟩⟩
/-- The first place at which something is so. -/
def idxL (p : Nat → Bool) (l : List Nat) : Int := match l.findIdx? p with
  | none => -1
  | some i => (i : Int)
theorem idxL_none {p : Nat → Bool} {l : List Nat} (h : ∀ (j x : Nat), l[j]? = some x → p x = false) : idxL p l = -1 := by
  have e1 : l.findIdx? p = none := by
    rw [List.findIdx?_eq_none_iff]
    intro x hx
    obtain ⟨j, hj, e⟩ := List.getElem_of_mem hx
    exact h j x (by rw [List.getElem?_eq_getElem hj, e])
  rw [idxL, e1]
theorem idxL_some {p : Nat → Bool} {l : List Nat} {k x : Nat} (hx : l[k]? = some x) (hp : p x = true) (h : ∀ (j y : Nat), j < k → l[j]? = some y → p y = false) : idxL p l = (k : Int) := by
  obtain ⟨hk, e⟩ := List.getElem?_eq_some_iff.1 hx
  have e1 : l.findIdx? p = some k := by
    rw [List.findIdx?_eq_some_iff_getElem]
    exact ⟨hk, by rw [e]; exact hp, fun j hj => by
      rw [h j _ hj (List.getElem?_eq_getElem _)]
      simp⟩
  rw [idxL, e1]
theorem idxL_run (p : Nat → Bool) : ∀ (l : List Nat), (idxL p l = -1 ∧ runW p l = l) ∨ (idxL p l = ((runW p l).length : Int) ∧ (runW p l).length < l.length)
  | [] => .inl ⟨rfl, rfl⟩
  | c :: t => by
    cases hc : p c with
    | true =>
      right
      rw [runW_hit t hc]
      exact ⟨by simp [idxL, List.findIdx?_cons, hc], by simp⟩
    | false =>
      rw [runW_miss t hc]
      rcases idxL_run p t with ⟨h1, h2⟩ | ⟨h1, h2⟩
      · left
        refine ⟨?_, by rw [h2]⟩
        unfold idxL at h1 ⊢
        rw [List.findIdx?_cons, hc]
        cases e : t.findIdx? p with
        | none => rfl
        | some i => rw [e] at h1; simp at h1
      · right
        refine ⟨?_, by simp; omega⟩
        unfold idxL at h1 ⊢
        rw [List.findIdx?_cons, hc]
        cases e : t.findIdx? p with
        | none => rw [e] at h1; simp at h1
        | some i => rw [e] at h1; simp at h1 ⊢; omega
end Go.Proofs.Ytplnkmojkdbbnaa
