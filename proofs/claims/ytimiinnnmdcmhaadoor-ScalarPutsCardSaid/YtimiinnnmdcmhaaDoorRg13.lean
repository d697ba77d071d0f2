/-
  Contracts: ranges.Union.
-/
import Derived.Test.YtimiinnnmdcmhaaDoorRg10
namespace Go.Proofs.YtimiinnnmdcmhaaDoor
open Go.RowKit Go.Shelf
open Go.Lib

abbrev Sl3 := Option Addr × Nat × List Rng
def accOf (ls : List Sl3) : List Rng := ls.flatMap fun s => known s.2.2
theorem known_len (xs : List Rng) : (known xs).length ≤ xs.length := by unfold known; split <;> simp
theorem acc_step (ls : List Sl3) (k : Nat) (s : Sl3) (h : ls[k]? = some s) : accOf (ls.take (k + 1)) = accOf (ls.take k) ++ known s.2.2 := by
  rw [List.take_add_one, h]
  simp [accOf]
theorem acc_len (ls : List Sl3) (M : Nat) (h : ∀ s ∈ ls, s.2.2.length ≤ M) : (accOf ls).length ≤ ls.length * M := by
  induction ls with
  | nil => simp [accOf]
  | cons s ls ih =>
    have h1 := ih fun t ht => h t (List.mem_cons_of_mem _ ht)
    have h2 := h s List.mem_cons_self
    have h3 := known_len s.2.2
    simp only [accOf, List.flatMap_cons, List.length_append, List.length_cons] at *
    rw [Nat.add_mul]
    omega
theorem acc_may (ls : List Sl3) : ∀ x ∈ accOf ls, may x = true := fun x hx => by
  obtain ⟨s, _, hs⟩ := List.mem_flatMap.1 hx
  exact (right_may (b := -1) (known_right s.2.2) x hs).1
theorem acc_has (ls : List Sl3) (r : Int) : hasR (accOf ls) r = ls.any fun s => hasR (known s.2.2) r := by
  induction ls with
  | nil => rfl
  | cons s ls ih =>
    show hasR (known s.2.2 ++ accOf ls) r = _
    rw [hasR_append, ih]
    rfl
/-- A list of sets. -/
def SetsAt (w : World) (A : Option Addr) (ls : List Sl3) : Prop :=
  (ls ≠ [] → ∃ b o, A = some ⟨b, o, none⟩ ∧ b < w.heap.size ∧ ∀ i s, ls[i]? = some s → w.cell? ⟨b, o + i, none⟩ = some (.slice s.1 s.2.2.length s.2.1)) ∧
  ∀ s ∈ ls, RS w w.heap.size s.1 s.2.1 s.2.2 ∧ Fm s.1 s.2.1 ∧ s.2.2.length ≤ 100000

set_option maxHeartbeats 4000000 in
set_option maxRecDepth 100000 in
theorem union_any (A : Option Addr) (cap : Nat) (ls : List Sl3) (w : World) (h : SetsAt w A ls) (hk : ls.length ≤ 5) :
    Calls Tryd.prog 44 #[.slice A ls.length cap] w fun e w' => ∃ out : List Rng, right out = true ∧ (∀ r, hasR out r = ls.any fun s => hasR (known s.2.2) r) ∧ out.length ≤ 500000 ∧ HoldsR w.heap.size 74 out w e w' := by
  obtain ⟨i0, hi, hz0, hz1, hz2⟩ := info_parts Tryd.info74
  have H := Lib.hid h
  obtain ⟨n, hn⟩ : ∃ n, ls.length = n := ⟨_, rfl⟩
  have HN := Lib.hid hn
  rw [hn] at hk ⊢
  clear h hn
  go_enter Tryd.func44, Tryd.ntmps44
  go_wp2
  go_loopw [3, 8] (fun v i wr => ∃ k : Nat, i = .int .i64 k ∧ k ≤ n ∧ wr.ownsRow w.heap.size 74 2 v (accOf (ls.take k)).length (cells2 (accOf (ls.take k))) ∧ Below w.heap.size w wr) (fun _ i _ => n - (RowKit.intOf i).toNat)
  case atStart => exact ⟨0, rfl, Nat.zero_le _, World.ownsRow_nil _ _ _ _, Below.refl _ _⟩
  case round =>
    obtain ⟨k, rfl, hkn, hown, hb⟩ := hrel
    by_cases hlt : k < n
    · obtain ⟨s, hs⟩ : ∃ s, ls[k]? = some s := ⟨ls[k]'(by have := HN.out; omega), List.getElem?_eq_getElem _⟩
      obtain ⟨b, o, rfl, hbl, hc⟩ := H.out.1 (by intro e; rw [e] at hs; simp at hs)
      have q := (hb.cell (p := ⟨b, o + k, none⟩) hbl).trans (hc k s hs)
      obtain ⟨hR, hF, hL⟩ := H.out.2 s (List.mem_of_getElem? hs)
      have HS := Lib.hid (acc_step ls k s hs)
      have hal : (accOf (ls.take k)).length ≤ 500000 := by
        have h1 := acc_len (ls.take k) 100000 (fun s hs => (H.out.2 s (List.mem_of_mem_take hs)).2.2)
        have h2 : (ls.take k).length ≤ 5 := by rw [List.length_take]; omega
        omega
      have C := Lib.hid (valid_known s.1 s.2.1 s.2.2 wr ((hR.below hb).mono hb.size) hF)
      have hkl := known_len s.2.2
      clear hc hs hR hF
      obtain ⟨As, cs, xs⟩ := s
      simp only at q C hkl HS hL
      generalize accOf (ls.take k) = acc at *
      have i1 : (k : Int) < (n : Int) := by omega
      go_wp2_with fail
      refine C.out.mono ?_
      rintro e w1 ⟨A1, c1, rfl, hR1, hF1, hb1⟩
      have own1 : w1.ownsRow w.heap.size 74 2 u3 acc.length (cells2 acc) := ownsRow_below hown hb1
      have hb2 := hb.trans (hb1.mono hb.size)
      have hR2 := hR1.mono hb1.size
      have hs2 := hb2.size
      clear hR1 hb1 hown hb
      go_wp2_with (at_builtin; refine wpList_append_rg rfl _ _ 52 53 rfl w.heap.size 74 i0 (.agg #[.int .i32 0, .int .i32 0]) Tryd.underlying52 Tryd.underlying53 hi hz0 hz1 hz2 rfl u3 acc rfl own1 A1 c1 (known xs) rfl hR2 hF1.w ?c1 ?c2 ?_)
      case c1 => omega
      case c2 => exact hs2
      intro v' w2 own3 hb3
      rw [← HS.out] at own3
      have hbz := hb2.trans hb3
      have HO := Lib.hid own3
      clear own1 hb2 own3 hb3 hR2
      go_wp2
      go_roundw
      case rel => exact ⟨k + 1, by go_num, by omega, by rw [show (accOf (ls.take (k + 1))).length = acc.length + (known xs).length by rw [HS.out, List.length_append]]; exact HO.out, hbz⟩
      case measure => simp [RowKit.intOf]; omega
    · have hkn : k = n := by omega
      have e : ls.take k = ls := by rw [hkn, ← HN.out, List.take_length]
      rw [e] at hown
      have hal : (accOf ls).length ≤ 500000 := by
        have h1 := acc_len ls 100000 (fun s hs => (H.out.2 s hs).2.2)
        have := HN.out
        omega
      have C := Lib.hid (join_any w.heap.size u3 (accOf ls) wr hown hb.size (by omega) (acc_may ls))
      subst hkn
      clear e hown
      go_wp2_with fail
      refine C.out.mono ?_
      rintro e w1 ⟨out, hor, hoh, hol, v, rfl, hown, hb2⟩
      have hbz := hb.trans hb2
      have HO := Lib.hid (And.intro hor (And.intro hoh (And.intro hol hown)))
      clear hor hoh hol hown hb2
      go_wp2
      go_ret
      exact ⟨out, HO.out.1, fun r => by rw [HO.out.2.1 r, acc_has], by have := HO.out.2.2.1; omega, v, rfl, HO.out.2.2.2, hbz⟩
end Go.Proofs.YtimiinnnmdcmhaaDoor
