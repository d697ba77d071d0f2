/-
  string(b) and []byte(s).
-/
import Derived.Test.YtpimadgcojgjaaaDoorApd
import Derived.Laws.IdiomStrings
import Derived.Shelf.Bytes.SlSmallAll
import Derived.ArgAppend
import Derived.Lib.UnsafeStr
namespace Go.Proofs.YtpimadgcojgjaaaDoor
open Go.RowKit Go.Shelf Go.Lib Go.Maps

def strB (l : List UInt8) : ByteArray := ⟨l.toArray⟩
theorem strB_size (l : List UInt8) : (strB l).size = l.length := by simp [strB, ByteArray.size]
theorem byteCells_u8s (l : List Nat) (h : ∀ x ∈ l, x < 256) : Lib.byteCells (u8s l) = u8C l := by
  unfold Lib.byteCells u8s u8C
  rw [List.map_map]
  refine List.map_congr_left fun x hx => ?_
  have := h x hx
  simp [Nat.mod_eq_of_lt this]
/-- string(b) of bytes that lie somewhere. -/
theorem conv_by {w : World} {B : Nat} {l : List Nat} {A : Option Addr} {cap : Nat} (h : BY w B l A cap) : (convert 22 9 (.slice A l.length cap)).run Tryd.prog w = .ok (.string ⟨(u8s l).toArray⟩) w := by
  cases l with
  | nil =>
    exact run_convert_bytes_zero (P := Tryd.prog) w 22 5 Tryd.underlying22 Tryd.underlying5 A cap 9 Tryd.underlying9
  | cons c r =>
    obtain ⟨b, o, rfl, _, hc⟩ := h.r (by simp)
    have := run_convert_bytes_back (P := Tryd.prog) w 22 9 5 ⟨b, o, none⟩ cap (u8s (c :: r)) Tryd.underlying22 Tryd.underlying5 Tryd.underlying9 (fun j hj => by
      rw [u8s_len] at hj
      obtain ⟨x, hx⟩ := at_lt hj
      have h1 := hc j x hx
      have h2 := h.lt hx
      have ea : (Addr.mk b o none).add j = ⟨b, o + j, none⟩ := by
        unfold Addr.add
        by_cases h0 : j = 0 <;> simp [h0]
      rw [ea, h1]
      have hu : (u8s (c :: r))[j]? = some (UInt8.ofNat x) := by
        unfold u8s
        rw [List.getElem?_map, hx]
        rfl
      simp [List.getElem?_eq_some_iff] at hu
      obtain ⟨h3, h4⟩ := hu
      simp [h4, Nat.mod_eq_of_lt h2])
    rw [u8s_len] at this
    exact this
/-- The row behind []byte(s). -/
structure ByR (w : World) (g : Nat) (l : List Nat) (cap : Nat) : Prop where
  row : ∃ cur k, w.heap[g]? = some (.cells cur 5 (k, k + 1)) ∧ cur.size = cap ∧ cap ≤ k ∧ ∀ (i x : Nat), l[i]? = some x → cur[i]? = some (.int .u8 (x : Int))
  le : l.length ≤ cap
  mx : cap ≤ maxLen
  b : ∀ x ∈ l, x < 256
theorem ByR.lt {w : World} {g : Nat} {l : List Nat} {cap : Nat} (h : ByR w g l cap) : g < w.heap.size := by
  obtain ⟨cur, k, h1, _⟩ := h.row
  exact (Array.getElem?_eq_some_iff.1 h1).1
theorem ByR.on {w w' : World} {g : Nat} {l : List Nat} {cap : Nat} (h : ByR w g l cap) (hb : Below w.heap.size w w') : ByR w' g l cap := by
  have hlt := h.lt
  obtain ⟨cur, k, h1, h2⟩ := h.row
  exact ⟨⟨cur, k, (hb.block g hlt).trans h1, h2⟩, h.le, h.mx, h.b⟩
theorem ByR.by {w : World} {g : Nat} {l : List Nat} {cap : Nat} (h : ByR w g l cap) : BY w w.heap.size l (some ⟨g, 0, none⟩) cap := by
  have hlt := h.lt
  obtain ⟨cur, k, h1, _, _, h2⟩ := h.row
  refine ⟨h.le, h.mx, fun e => (by cases e), h.b, fun _ => ⟨g, 0, rfl, hlt, fun i x hx => ?_⟩⟩
  rw [Nat.zero_add]
  unfold World.cell?
  rw [h1]
  simp only []
  exact h2 i x hx
theorem nats_lt (l : List UInt8) : ∀ x ∈ nats l, x < 256 := by
  intro x hx
  unfold nats at hx
  obtain ⟨u, _, rfl⟩ := List.mem_map.1 hx
  exact u.toNat_lt
theorem nats_len (l : List UInt8) : (nats l).length = l.length := by simp [nats]
theorem conv_str (w : World) (l : List UInt8) (hl : l.length ≤ 1000000) : ∃ cap W4, (convert 9 22 (.string (strB l))).run Tryd.prog w = .ok (.slice (some ⟨w.heap.size, 0, none⟩) l.length cap) W4 ∧ ByR W4 w.heap.size (nats l) cap ∧ Below w.heap.size w W4 := by
  have h := run_bytes_of_string (P := Tryd.prog) w 9 22 5 (strB l) Tryd.underlying9 Tryd.underlying22 Tryd.underlying5
  rw [strB_size] at h
  have h1 := grownCap_ge w l.length 0 5
  have h2 := grownCap_le_maxLen w l.length 0 5 (by unfold maxLen; omega)
  generalize grownCap w l.length 0 5 = cap at *
  have hsz : (bytesRow (strB l) cap).size = cap := by
    unfold bytesRow
    simp [strB, ByteArray.size]
    omega
  refine ⟨cap, _, h, ⟨⟨_, _, heap_alloc_new w.drew _, hsz, by rw [hsz]; exact Nat.le_refl _, fun i x hx => ?_⟩, by rw [nats_len]; exact h1, h2, nats_lt l⟩, (Below.refl _ _).drew.alloc (Nat.le_refl _) _⟩
  have hi : i < (strB l).data.size := by
    have := (List.getElem?_eq_some_iff.1 hx).1
    rw [nats_len] at this
    simpa [strB] using this
  rw [bytesRow_at _ _ i hi]
  unfold nats at hx
  rw [List.getElem?_map] at hx
  have hi2 : i < l.length := by simpa [strB] using hi
  rw [List.getElem?_eq_getElem hi2] at hx
  simp at hx
  simp [strB, hx]
theorem by_lit (w : World) (l : List Nat) (fr : Nat × Nat) (hl : ∀ x ∈ l, x < 256) (hn : l.length ≤ 100) : BY (w.alloc (.cells (u8C l).toArray 5 fr)) (w.alloc (.cells (u8C l).toArray 5 fr)).heap.size l (some ⟨w.heap.size, 0, none⟩) l.length :=
  ⟨Nat.le_refl _, by unfold maxLen; omega, fun e => (by cases e), hl, fun _ => ⟨w.heap.size, 0, rfl, by simp, fun i x hx => by
    rw [Nat.zero_add, World.cell?_alloc_mark w _ _ _ _]
    simp [u8C, hx]⟩⟩
end Go.Proofs.YtpimadgcojgjaaaDoor
