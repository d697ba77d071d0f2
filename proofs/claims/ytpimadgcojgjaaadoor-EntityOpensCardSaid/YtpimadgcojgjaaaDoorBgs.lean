/-
  Contracts: the document's begins, and Open.
-/
import Derived.Test.YtpimadgcojgjaaaDoorOpn
namespace Go.Proofs.YtpimadgcojgjaaaDoor
open Go.RowKit Go.Shelf Go.Lib Go.Maps Go.Great
attribute [local irreducible] NR ZNR FR nmE NL

set_option maxHeartbeats 4000000 in
set_option maxRecDepth 100000 in
theorem begins_any (s f : List UInt8) (hs : s.length ≤ 1000000) (hf : f.length ≤ 1000000) (w : World) :
    Calls Tryd.prog 37 #[.string ⟨s.toArray⟩, .string ⟨f.toArray⟩] w fun e w' => e = .returned (.bool (f.isPrefixOf s)) ∧ w' = w := by
  have zs : (⟨s.toArray⟩ : ByteArray).size = s.length := by simp [ByteArray.size]
  have zf : (⟨f.toArray⟩ : ByteArray).size = f.length := by simp [ByteArray.size]
  by_cases h : f.length ≤ s.length
  · have hsl := slice_to s f.length h w
    have hp : f.isPrefixOf s = (s.take f.length == f) := by
      rw [Bool.eq_iff_iff, List.isPrefixOf_iff_prefix, beq_iff_eq, List.prefix_iff_eq_take]
      exact ⟨fun e => e.symm, fun e => e.symm⟩
    obtain ⟨P, hP⟩ : ∃ b, f.isPrefixOf s = b := ⟨_, rfl⟩
    rw [hP] at hp ⊢
    obtain ⟨u, hu⟩ : ∃ u, s.take f.length = u := ⟨_, rfl⟩
    rw [hu] at hsl hp
    have he : (u == f) = P := hp.symm
    obtain ⟨n, hn⟩ : ∃ n, f.length = n := ⟨_, rfl⟩
    obtain ⟨m, hm⟩ : ∃ m, s.length = m := ⟨_, rfl⟩
    rw [hn] at zf h hsl
    rw [hm] at zs h
    have i1 : (n : Int) ≤ (m : Int) := by omega
    clear hP hp hu hn hm hs hf h
    go_enter Tryd.func37, Tryd.ntmps37
    go_wp2_with fail
    go_ret
    exact ⟨by first | rfl | simp, rfl⟩
  · have hp : f.isPrefixOf s = false := by
      cases e : f.isPrefixOf s with
      | false => rfl
      | true =>
        rw [List.isPrefixOf_iff_prefix] at e
        exact absurd e.length_le h
    rw [hp]
    have i1 : ¬ (f.length : Int) ≤ (s.length : Int) := by omega
    clear hp hs hf h
    go_enter Tryd.func37, Tryd.ntmps37
    go_wp2_with fail
    go_ret
    exact ⟨by first | rfl | simp, rfl⟩
end Go.Proofs.YtpimadgcojgjaaaDoor
