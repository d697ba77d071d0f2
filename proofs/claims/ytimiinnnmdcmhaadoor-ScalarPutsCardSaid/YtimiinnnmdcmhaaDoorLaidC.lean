/-
  From what the rows list (the errors of strconv) to what the contracts ask.
-/
import Derived.Test.YtimiinnnmdcmhaaDoorLaidB
import Derived.Test.YtimiinnnmdcmhaaDoorPi3
namespace Go.Proofs.YtimiinnnmdcmhaaDoor
open Go.ChangeShapes Go.WideShapes Go.ChangeAt Go.RowKit Go.Shelf
open Go.Lib

def laidAll8 : List (String × DataW Unit) := [("math/bits.deBruijn32tab", Rows.laid_math_bits_deBruijn32tab), ("math/bits.deBruijn64tab", Rows.laid_math_bits_deBruijn64tab), ("internal/strconv.uint64pow10", Rows.laid_internal_strconv_uint64pow10), ("unicode/utf8.acceptRanges", Rows.laid_unicode_utf8_acceptRanges), ("strconv.ErrRange", Rows.laid_strconv_ErrRange), ("strconv.ErrSyntax", Rows.laid_strconv_ErrSyntax), ("unicode.CaseRanges", Rows.laid_unicode_CaseRanges), ("unicode/utf8.first", Rows.laid_unicode_utf8_first)]
theorem iface_cells {H : Type} {enc : TypeId × Value → H} {P : Program} {w : World} {base : Nat} {sp : Nat → Bool} {held : Bool} {fuel : Nat} {t : TypeId} {ms : Array (String × TypeId)} {cs : List Value} {x : DataW H × List MemPlace}
    (ht : P.underlying t = some (.interface ms)) (h : DataW.trod enc P w base sp held fuel t cs = some x) : cs = [.nilIface] ∨ ∃ u v, cs = [.iface u v] := by
  cases fuel with
  | zero => simp [DataW.trod] at h
  | succ n =>
    unfold DataW.trod at h
    rw [ht] at h
    split at h <;> simp_all
theorem err_of_reads {w : World} {n : String} {d : DataW Unit} {g : Nat} (hg : Tryd.prog.globalNamed n = some g) (hy : (Tryd.prog.globals[g]?).map (·.type) = some 91) (h : VarReads Tryd.prog w n d) : ErrAt w g := by
  obtain ⟨g', t, cs, fuel, p, hg', hty, hvar, hd⟩ := h
  obtain rfl := Option.some.inj (hg.symm.trans hg')
  obtain rfl := Option.some.inj (hy.symm.trans hty)
  have h0 := World.var?_cell hg' hvar 0
  rw [← Array.getElem?_toList] at h0
  rcases iface_cells Tryd.underlying91 hd with e | ⟨u, v, e⟩
  · rw [e] at h0
    exact ⟨_, h0, .inl rfl⟩
  · rw [e] at h0
    exact ⟨_, h0, .inr ⟨u, v, rfl⟩⟩
theorem ev_of_reads {w : World} (h1 : VarReads Tryd.prog w "strconv.ErrSyntax" Rows.laid_strconv_ErrSyntax) (h2 : VarReads Tryd.prog w "strconv.ErrRange" Rows.laid_strconv_ErrRange) : EV w := by
  have e1 := err_of_reads (g := 4) (by kernel_rfl) (by kernel_rfl) h1
  have e2 := err_of_reads (g := 5) (by kernel_rfl) (by kernel_rfl) h2
  refine ⟨e1, e2, ?_⟩
  obtain ⟨ev, hc, _⟩ := e2
  exact block_lt_of_cell hc
end Go.Proofs.YtimiinnnmdcmhaaDoor
