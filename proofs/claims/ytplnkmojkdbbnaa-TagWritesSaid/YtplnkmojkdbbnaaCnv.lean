/-
  Contracts: Go's own conversions of bytes.
-/
import Derived.Test.YtplnkmojkdbbnaaStr
import Derived.Shelf.Bytes.SlSmallAll
namespace Go.Proofs.Ytplnkmojkdbbnaa
open Go.RowKit Go.Shelf Go.Lib Go.Maps

/-- string(b) of bytes that lie somewhere. -/
theorem conv_by {w : World} {B : Nat} {l : List Nat} {A : Option Addr} {cap : Nat} (h : BY w B l A cap) : (convert 22 9 (.slice A l.length cap)).run Try.prog w = .ok (.string ⟨(u8s l).toArray⟩) w := by
  cases l with
  | nil =>
    exact run_convert_bytes_zero (P := Try.prog) w 22 5 Try.underlying22 Try.underlying5 A cap 9 Try.underlying9
  | cons c r =>
    obtain ⟨b, o, rfl, _, hc⟩ := h.r (by simp)
    have := run_convert_bytes_back (P := Try.prog) w 22 9 5 ⟨b, o, none⟩ cap (u8s (c :: r)) Try.underlying22 Try.underlying5 Try.underlying9 (fun j hj => by
      rw [u8s_len] at hj
      obtain ⟨x, hx⟩ := at_lt hj
      have h1 := hc j x hx
      have h2 := h.lt hx
      have ea : (Addr.mk b o none).add j = ⟨b, o + j, none⟩ := by
        unfold Addr.add
        by_cases h0 : j = 0 <;> simp [h0]
      rw [ea, h1]
      have hu : (u8s (c :: r))[j]? = some (UInt8.ofNat x) := by
        unfold u8s
        rw [List.getElem?_map, hx]
        rfl
      simp [List.getElem?_eq_some_iff] at hu
      obtain ⟨h3, h4⟩ := hu
      simp [h4, Nat.mod_eq_of_lt h2])
    rw [u8s_len] at this
    exact this
end Go.Proofs.Ytplnkmojkdbbnaa
