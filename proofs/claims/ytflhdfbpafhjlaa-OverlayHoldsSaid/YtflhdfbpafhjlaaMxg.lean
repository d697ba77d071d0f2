/-
  A region that draws its order: its readings first, calls that stay in the class among them; then what is left, in every order.
-/
import Derived.Test.YtflhdfbpafhjlaaMix
namespace Go.Proofs.Ytflhdfbpafhjlaa
open Go
variable {P : Program} {ops : Array Oper} {md : Region.Mode} {C : World → Prop} {κ : Nat → Nat}

theorem anyM_lexG {Q : Exit → Act → World → Prop} (hW : Waits md ops κ) (hs : Region.noSelect ops = true) (n : Nat) : ∀ (l : List Nat) (listed : Array Bool) (a : Act), Closed md ops listed → lexFB md ops κ n l listed = true →
    wpQuiet P ops C (fun a' => ∀ w', C w' → wpFreeM P md ops C κ Q n (l.foldl (fun s i => s.setIfInBounds i true) listed) a' w') (opsAt ops l) a → ∀ w, C w → wpAnyM P md ops C κ Q (l.length + n) listed a w
  | [], listed, a, _, hB, h, w, hC => by
    rw [List.length_nil, Nat.zero_add]
    exact anyM_of_free n listed a w (by simpa [lexFB] using hB) (h w hC)
  | i :: r, listed, a, hc, hB, h, w, hC => by
    simp only [lexFB, Bool.and_eq_true] at hB
    obtain ⟨⟨⟨hr, hf⟩, hk⟩, hB⟩ := hB
    have hr' : i ∈ Region.ready md ops listed := by simpa using hr
    obtain ⟨_, oi, hi, _⟩ := mem_ready.1 hr'
    have hfa : FreeAt md ops listed i oi := Region.free_spec hi hf
    simp only [hi, Bool.or_eq_true, Bool.and_eq_true, beq_iff_eq] at hk
    have hq : qOp P ops C i (wpQuiet P ops C (fun a' => ∀ w', C w' → wpFreeM P md ops C κ Q n (r.foldl (fun s i => s.setIfInBounds i true) (listed.setIfInBounds i true)) a' w') (opsAt ops r)) a := by
      unfold qOp
      simp only [hi]
      unfold opsAt at h
      rw [List.filterMap_cons, hi, List.foldl_cons] at h
      exact h
    rw [List.length_cons, show r.length + 1 + n = r.length + n + 1 by omega]
    rcases hk with ⟨hk, hp⟩ | hk
    · obtain ⟨v, hy, hK⟩ := yP_of_pOp hi (pOp_of_qOp hi hp hq)
      exact first0 hW hi hk (Region.noSelect_spec hs) _ listed a w hc hfa hr' hC hy (anyM_lexG hW hs n r _ _ (hc.set hr') hB hK w hC)
    · obtain ⟨v, hy, hK⟩ := yieldsIn_of_qOp hi hq
      exact first1 hW hi hk (Region.noSelect_spec hs) _ listed a hc hfa hr' hy (anyM_lexG hW hs n r _ _ (hc.set hr') hB hK) w hC
def mixGB (md : Region.Mode) (ops : Array Oper) (κ : Nat → Nat) (l1 : List Nat) (n : Nat) : Bool := Region.noSelect ops && decide (l1.length + n = ops.size) && waitsB md ops κ && lexFB md ops κ n l1 (Array.replicate ops.size false)
theorem wp_region_mixG {id : Nat} {Q : Exit → Act → World → Prop} {a : Act} {w : World} {l : List Oper} (κ : Nat → Nat) (l1 : List Nat) (n : Nat) (C : World → Prop) (hm : P.follows .mixedOrders = true) (hB : mixGB .any l.toArray κ l1 n = true) (hC : C { w with drawn := w.drawn + 1 })
    (h : wpQuiet P l.toArray C (fun a' => ∀ w', C w' → wpFreeM P .any l.toArray C κ Q n (l1.foldl (fun s i => s.setIfInBounds i true) (Array.replicate l.toArray.size false)) a' w') (opsAt l.toArray l1) a) : (Code.region id l.toArray true).wp P Q a w := by
  simp only [mixGB, Bool.and_eq_true, decide_eq_true_eq] at hB
  obtain ⟨⟨⟨hs, hn⟩, hw⟩, hB⟩ := hB
  have hW := waits_of hw
  have hc : Closed .any l.toArray (Array.replicate l.toArray.size false) := fun j oj _ hl => by rw [getD_replicate_false] at hl; cases hl
  have H := anyM_lexG (Q := Q) hW hs n l1 _ a hc hB h _ hC
  rw [hn] at H
  exact wp_region_any hm (wpAny_of_M hW _ _ _ _ hc (.inl hC) H)
end Go.Proofs.Ytflhdfbpafhjlaa
