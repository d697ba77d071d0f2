/-
  Contracts: slices.Clone of numbers, of words.
-/
import Derived.Test.YtmldgfplnacecaaDoorArr
import Derived.Test.YtmldgfplnacecaaDoorTgr
namespace Go.Proofs.YtmldgfplnacecaaDoor
open Go.RowKit Go.Shelf Go.Lib Go.Maps Go.Sort

set_option maxHeartbeats 4000000 in
set_option maxRecDepth 100000 in
theorem clone71_any (l : List Int) (A : Option Addr) (cap : Nat) (w : World) (h : IS w w.heap.size l A cap) (hl : l.length ≤ 100000) :
    Calls Tryd.prog 71 #[.slice A l.length cap] w fun r w' => ∃ v, r = .returned v ∧ w'.ownsRow w.heap.size 3 1 v l.length (intsC l) ∧ Below w.heap.size w w' := by
  have q23 : ∀ (w : World) (a : Option Addr) (n c n' c' : Nat), (binOp .eql 23 (.slice a n c) (.slice none n' c')).run Tryd.prog w = .ok (.bool a.isNone) w := fun w a n c n' c' => Lib.run_eql_slice_nil w _ _ a n c n' c' Tryd.underlying23
  cases A with
  | none =>
    have e : l = [] := by
      cases l with
      | nil => rfl
      | cons x r => obtain ⟨b, o, e, _⟩ := h.r (by simp); cases e
    subst e
    clear h
    go_enter Tryd.func71, Tryd.ntmps71
    go_wp2_with fail
    go_ret
    exact ⟨_, rfl, ⟨rfl, .inl ⟨rfl, rfl⟩⟩, Below.refl _ _⟩
  | some ad =>
    have hc : ∀ j u, (intsC l)[j]? = some u → w.cell? (ad.add j) = some u := by
      intro j u hj
      have hn : l ≠ [] := by rintro rfl; simp [intsC] at hj
      obtain ⟨b, o, e, hb, hcc⟩ := h.r hn
      cases e
      unfold intsC at hj
      rw [List.getElem?_map, Option.map_eq_some_iff] at hj
      obtain ⟨x, hx, rfl⟩ := hj
      rw [Addr.add_lit]
      exact hcc j x hx
    have h1 : ∀ u ∈ intsC l, u.oneCell' = true := by
      intro u hu
      unfold intsC at hu
      obtain ⟨x, _, rfl⟩ := List.mem_map.1 hu
      rfl
    have hln : (intsC l).length = l.length := by simp [intsC]
    obtain ⟨i0, hi, hz0, hz1, hz2⟩ : ∃ i, Tryd.prog.info? 3 = some i ∧ i.zero = some (.int .i64 0) ∧ i.size = 1 ∧ i.bytes = 8 := ⟨_, rfl, rfl, rfl, rfl⟩
    obtain ⟨n, hn⟩ : ∃ n, l.length = n := ⟨_, rfl⟩
    obtain ⟨news, hnews⟩ : ∃ n, intsC l = n := ⟨_, rfl⟩
    rw [hnews] at hc h1 hln ⊢
    rw [hn] at hl hln ⊢
    have H := Lib.hid (And.intro hc (And.intro h1 (And.intro hln (And.intro hi (And.intro hz0 (And.intro hz1 hz2))))))
    clear hc h1 hln hi hz0 hz1 hz2 hn hnews h
    go_enter Tryd.func71, Tryd.ntmps71
    go_wp2_with (first
      | (at_builtin
         refine wpList_append_own _ rfl (.tmp 5) (.tmp 6) 23 rfl w.heap.size 3 i0 (.int .i64 0) 1 8 Tryd.underlying23 H.out.2.2.2.1 H.out.2.2.2.2.1 H.out.2.2.2.2.2.1 H.out.2.2.2.2.2.2 rfl (by decide) _ 0 _ rfl (World.ownsRow_made w #[] 0 (Nat.le_refl _) (Nat.zero_le _) (by simp)) ad n cap news rfl ?qc1 ?qc2 ?qc3 ?qc4 ?qc5 ?qc6 ?_)
      | fail)
    case qc1 => rw [H.out.2.2.1]; omega
    case qc2 => exact fun j u hj => Lib.cell?_alloc_some _ (H.out.1 j u hj)
    case qc3 => exact H.out.2.1
    case qc4 => unfold maxLen; omega
    case qc5 => omega
    case qc6 => simp
    intro v' w1 hown hgrow _
    have hb : Below w.heap.size w w1 := ((Below.refl _ w).alloc (Nat.le_refl _) _).grown hgrow (by simp) (by intro k hk; simp [Value.ownBlock] at hk; omega)
    have HB := Lib.hid (And.intro hb hown)
    clear hb hown hgrow
    go_wp2_with fail
    go_ret
    exact ⟨_, rfl, by simpa using HB.out.2, HB.out.1⟩
set_option maxHeartbeats 4000000 in
set_option maxRecDepth 100000 in
theorem clone72_any (l : List Nat) (A : Option Addr) (cap : Nat) (w : World) (h : UsAt w w.heap.size l A cap) (hl : l.length ≤ 100000) :
    Calls Tryd.prog 72 #[.slice A l.length cap] w fun r w' => ∃ v, r = .returned v ∧ w'.ownsRow w.heap.size 37 1 v l.length (u64C l) ∧ Below w.heap.size w w' := by
  have q23 : ∀ (w : World) (a : Option Addr) (n c n' c' : Nat), (binOp .eql 52 (.slice a n c) (.slice none n' c')).run Tryd.prog w = .ok (.bool a.isNone) w := fun w a n c n' c' => Lib.run_eql_slice_nil w _ _ a n c n' c' Tryd.underlying52
  cases A with
  | none =>
    have e : l = [] := by
      cases l with
      | nil => rfl
      | cons x r => obtain ⟨b, o, e, _⟩ := h.r (by simp); cases e
    subst e
    clear h
    go_enter Tryd.func72, Tryd.ntmps72
    go_wp2_with fail
    go_ret
    exact ⟨_, rfl, ⟨rfl, .inl ⟨rfl, rfl⟩⟩, Below.refl _ _⟩
  | some ad =>
    have hc : ∀ j u, (u64C l)[j]? = some u → w.cell? (ad.add j) = some u := by
      intro j u hj
      have hn : l ≠ [] := by rintro rfl; simp [u64C] at hj
      obtain ⟨b, o, e, hb, hcc⟩ := h.r hn
      cases e
      unfold u64C at hj
      rw [List.getElem?_map, Option.map_eq_some_iff] at hj
      obtain ⟨x, hx, rfl⟩ := hj
      rw [Addr.add_lit]
      exact hcc j x hx
    have h1 : ∀ u ∈ u64C l, u.oneCell' = true := by
      intro u hu
      unfold u64C at hu
      obtain ⟨x, _, rfl⟩ := List.mem_map.1 hu
      rfl
    have hln : (u64C l).length = l.length := by simp [u64C]
    obtain ⟨i0, hi, hz0, hz1, hz2⟩ : ∃ i, Tryd.prog.info? 37 = some i ∧ i.zero = some (.int .u64 0) ∧ i.size = 1 ∧ i.bytes = 8 := ⟨_, rfl, rfl, rfl, rfl⟩
    obtain ⟨n, hn⟩ : ∃ n, l.length = n := ⟨_, rfl⟩
    obtain ⟨news, hnews⟩ : ∃ n, u64C l = n := ⟨_, rfl⟩
    rw [hnews] at hc h1 hln ⊢
    rw [hn] at hl hln ⊢
    have H := Lib.hid (And.intro hc (And.intro h1 (And.intro hln (And.intro hi (And.intro hz0 (And.intro hz1 hz2))))))
    clear hc h1 hln hi hz0 hz1 hz2 hn hnews h
    go_enter Tryd.func72, Tryd.ntmps72
    go_wp2_with (first
      | (at_builtin
         refine wpList_append_own _ rfl (.tmp 5) (.tmp 6) 52 rfl w.heap.size 37 i0 (.int .u64 0) 1 8 Tryd.underlying52 H.out.2.2.2.1 H.out.2.2.2.2.1 H.out.2.2.2.2.2.1 H.out.2.2.2.2.2.2 rfl (by decide) _ 0 _ rfl (World.ownsRow_made w #[] 0 (Nat.le_refl _) (Nat.zero_le _) (by simp)) ad n cap news rfl ?qc1 ?qc2 ?qc3 ?qc4 ?qc5 ?qc6 ?_)
      | fail)
    case qc1 => rw [H.out.2.2.1]; omega
    case qc2 => exact fun j u hj => Lib.cell?_alloc_some _ (H.out.1 j u hj)
    case qc3 => exact H.out.2.1
    case qc4 => unfold maxLen; omega
    case qc5 => omega
    case qc6 => simp
    intro v' w1 hown hgrow _
    have hb : Below w.heap.size w w1 := ((Below.refl _ w).alloc (Nat.le_refl _) _).grown hgrow (by simp) (by intro k hk; simp [Value.ownBlock] at hk; omega)
    have HB := Lib.hid (And.intro hb hown)
    clear hb hown hgrow
    go_wp2_with fail
    go_ret
    exact ⟨_, rfl, by simpa using HB.out.2, HB.out.1⟩
end Go.Proofs.YtmldgfplnacecaaDoor
