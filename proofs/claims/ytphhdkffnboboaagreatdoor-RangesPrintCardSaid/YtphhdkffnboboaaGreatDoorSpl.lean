/-
  Plain mathematics: what a list of ranges' text means when it is read, and that what is printed is read again.
-/
import Derived.Test.YtphhdkffnboboaaGreatDoorPrB
import Derived.Test.YtphhdkffnboboaaGreatDoorSpc
namespace Go.Proofs.YtphhdkffnboboaaGreatDoor
open Go.RowKit Go.Shelf
open Go.Lib

/-- What a text means: a list of ranges, or none. -/
def parseF (L : List UInt8) : Option (List Rng) :=
  if L = [110, 111, 110, 101] then some [] else if 1000 ≤ L.count 44 then none
  else if (splitC L).all (fun p => (prP p).isSome) then (if setText (known ((splitC L).filterMap prP)) = L then some ((splitC L).filterMap prP) else none) else none
theorem setText_ne {rs : List Rng} (h : setText rs ≠ [110, 111, 110, 101]) : rs ≠ [] := fun e => h (by rw [e]; rfl)
theorem parseF_right {L : List UInt8} {rs : List Rng} (h : parseF L = some rs) : right rs = true ∧ setText rs = L := by
  unfold parseF at h
  split at h
  · rename_i h0
    obtain rfl : [] = rs := by simpa using h
    exact ⟨rfl, h0.symm⟩
  · rename_i h0
    split at h
    · cases h
    · split at h
      · split at h
        · rename_i h1
          obtain rfl := Option.some.inj h
          generalize (splitC L).filterMap prP = rs at *
          by_cases hr : right rs = true
          · rw [known_of hr] at h1
            exact ⟨hr, h1⟩
          · exfalso
            refine h0 ?_
            rw [← h1]
            unfold known
            rw [if_neg hr]
            rfl
        · cases h
      · cases h

/-! ### What is printed is read again -/
theorem hexC_pd : ∀ d, d < 16 → pd (hexC d).toNat = digV (hexC d) ∧ digV (hexC d) < 16 ∧ hexC d ≠ 43 := by decide +kernel
theorem hexD_pd (n : Nat) : ∀ c ∈ hexD n, pd c.toNat = digV c ∧ digV c < 16 ∧ c ≠ 43 := by
  induction n using Nat.strongRecOn with
  | ind n ih =>
    intro c hc
    by_cases h : n < 16
    · rw [hexD_lt h] at hc
      rw [List.mem_singleton.1 hc]
      exact hexC_pd n h
    · rw [hexD_ge h] at hc
      rcases List.mem_append.1 hc with hc | hc
      · exact ih _ (by omega) c hc
      · rw [List.mem_singleton.1 hc]
        exact hexC_pd _ (by omega)
theorem numText_pd (n : Int) : ∀ c ∈ numText n, pd c.toNat = digV c ∧ digV c < 16 ∧ c ≠ 43 := by
  intro c hc
  rcases List.mem_append.1 (show c ∈ List.replicate (4 - (hexD n.toNat).length) 48 ++ hexD n.toNat from hc) with hc | hc
  · rw [List.eq_of_mem_replicate hc]; decide +kernel
  · exact hexD_pd _ c hc
theorem hexF_le : ∀ (l : List UInt8) (m : Nat), m ≤ l.foldl (fun a c => 16 * a + digV c) m
  | [], m => Nat.le_refl _
  | c :: r, m => Nat.le_trans (by omega) (hexF_le r (16 * m + digV c))
theorem pu_of : ∀ (l : List UInt8) (m : Nat), (∀ c ∈ l, pd c.toNat = digV c ∧ digV c < 16 ∧ c ≠ 43) → l.foldl (fun a c => 16 * a + digV c) m ≤ 4294967295 → pu l m = .ok (l.foldl (fun a c => 16 * a + digV c) m)
  | [], m, _, _ => rfl
  | c :: r, m, h, hb => by
    have h0 := h c List.mem_cons_self
    have h1 : 16 * m + digV c ≤ 4294967295 := Nat.le_trans (hexF_le r (16 * m + digV c)) hb
    unfold pu
    rw [h0.1, if_pos h0.2.1, if_pos h1]
    exact pu_of r _ (fun x hx => h x (List.mem_cons_of_mem _ hx)) hb
theorem numText_ne (n : Int) : numText n ≠ [] := fun e => by
  have h := congrArg List.length e
  unfold numText pad4 at h
  rw [List.length_append, List.length_replicate] at h
  have := (hexD_len n.toNat).1
  rw [List.length_nil] at h
  omega
theorem piE_num (n : Int) (h0 : 0 ≤ n) (h1 : n < 2147483648) : piE (numText n) = .ok n := by
  have hv : hexV (numText n) = n.toNat := by unfold numText; rw [hexV_pad, hexV_hexD]
  have hpu : puE (numText n) = .ok n.toNat := by
    unfold puE
    rw [if_neg (numText_ne n), pu_of _ 0 (numText_pd n) (by show hexV (numText n) ≤ _; rw [hv]; omega)]
    exact congrArg _ hv
  have hm := numText_pd n
  have hm2 := numText_mem n
  generalize numText n = L at *
  cases L with
  | nil => unfold puE at hpu; simp at hpu
  | cons c r =>
    show (if c = 43 then piR false (puE r) else if c = 45 then piR true (puE r) else piR false (puE (c :: r))) = _
    rw [if_neg (hm c List.mem_cons_self).2.2, if_neg (hm2 c List.mem_cons_self).2.1, hpu]
    show piR false (.ok n.toNat) = _
    unfold piR
    simp only [Bool.false_eq_true, if_false]
    rw [if_pos (by omega), show ((n.toNat : Nat) : Int) = n by omega]
theorem cut_byte (x : UInt8) (a b : List UInt8) (h : ∀ c ∈ a, c ≠ x) : Lib.cut (a ++ x :: b) [x] = (a, b, true) := by
  rcases index_byte x (a ++ x :: b) with ⟨_, h2⟩ | ⟨a', b', he, h2, h3⟩
  · exact absurd rfl (h2 x (by simp))
  · obtain ⟨rfl, rfl⟩ := split_at h h2 he
    unfold Lib.cut
    rw [h3, if_pos (by omega)]
    simp
theorem cut_no (x : UInt8) (a : List UInt8) (h : ∀ c ∈ a, c ≠ x) : Lib.cut a [x] = (a, [], false) := by
  rcases index_byte x a with ⟨h1, _⟩ | ⟨a', b', rfl, h2, h3⟩
  · unfold Lib.cut
    rw [h1, if_neg (by omega)]
  · exact absurd rfl (h x (by simp))
theorem prP_rg (x : Rng) (h : may x = true) : prP (rgText x) = some x := by
  obtain ⟨h0, h1, h2⟩ := (may_iff x).1 h
  have e1 := piE_num x.1 h0 (by omega)
  have e2 := piE_num x.2 (by omega) (by omega)
  have m1 : ∀ c ∈ numText x.1, c ≠ 45 := fun c hc => (numText_mem _ c hc).2.1
  unfold prP parts2 rgText
  by_cases hx : x.1 = x.2
  · rw [if_pos hx, cut_no 45 _ m1]
    simp only [Bool.false_eq_true, if_false, e1]
    have : x = (x.1, x.1) := Prod.ext rfl hx.symm
    rw [← this]
  · rw [if_neg hx, List.append_assoc, List.singleton_append, cut_byte 45 _ _ m1]
    simp only [if_true, e1, e2]
theorem splitC_list : ∀ (xs : List Rng), xs ≠ [] → splitC (listText xs) = xs.map rgText
  | [], h => absurd rfl h
  | [x], _ => splitC_none fun c hc => (rgText_mem x c hc).1
  | x :: y :: r, _ => by
    show splitC (rgText x ++ 44 :: listText (y :: r)) = _
    rw [splitC_at (fun c hc => (rgText_mem x c hc).1), splitC_list (y :: r) (by simp)]
    rfl
theorem filter_rg : ∀ (xs : List Rng), (∀ x ∈ xs, may x = true) → (xs.map rgText).filterMap prP = xs
  | [], _ => rfl
  | x :: r, h => by
    rw [List.map_cons, List.filterMap_cons, prP_rg x (h x List.mem_cons_self)]
    exact congrArg _ (filter_rg r fun y hy => h y (List.mem_cons_of_mem _ hy))
theorem parseF_text (xs : List Rng) (h : right xs = true) (hl : xs.length ≤ 1000) : parseF (setText xs) = some xs := by
  have hm := fun x hm => (right_may (b := -1) h x hm).1
  by_cases hn : xs = []
  · subst hn
    rfl
  · have e : setText xs = listText xs := by unfold setText; rw [if_neg hn]
    have hs := splitC_list xs hn
    have hf := filter_rg xs hm
    have hc := splitC_len (listText xs)
    rw [hs, List.length_map] at hc
    unfold parseF
    rw [e, if_neg (fun e2 => listText_mem xs 110 (by rw [e2]; simp) rfl), if_neg (by omega), hs, hf]
    have ha : (xs.map rgText).all (fun p => (prP p).isSome) = true := by
      rw [List.all_map, List.all_eq_true]
      intro x hx
      show (prP (rgText x)).isSome = true
      rw [prP_rg x (hm x hx)]
      rfl
    rw [if_pos ha, known_of h, e, if_pos rfl]
end Go.Proofs.YtphhdkffnboboaaGreatDoor
