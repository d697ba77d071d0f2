/-
  The document's list of slots; contract: taken.
-/
import Derived.Test.YtadipgkgllcicaaFiq
namespace Go.Proofs.Ytadipgkgllcicaa
open Go.RowKit Go.Shelf Go.Lib Go.Maps

/-- A slot that is taken. -/
structure Sl where
  at_ : Nat
  row : Int
  n : Int
def slC (s : Sl) : List Value := [.int .i64 (s.at_ : Int), .int .i64 s.row, .int .i64 s.n]
def slsC (l : List Sl) : List Value := l.flatMap slC
theorem slsC_snoc (l : List Sl) (s : Sl) : slsC (l ++ [s]) = slsC l ++ slC s := by simp [slsC]
theorem slsC_len (l : List Sl) : (slsC l).length = l.length * 3 := by
  induction l with
  | nil => rfl
  | cons s r ih => simp [slsC, slC] at *; omega
theorem slsC_get : ∀ (l : List Sl) (i : Nat) (s : Sl), l[i]? = some s → (slsC l)[i * 3]? = some (.int .i64 (s.at_ : Int)) ∧ (slsC l)[i * 3 + 1]? = some (.int .i64 s.row) ∧ (slsC l)[i * 3 + 2]? = some (.int .i64 s.n) := by
  intro l
  induction l with
  | nil => intro i s h; simp at h
  | cons a r ih =>
    intro i s h
    have e : slsC (a :: r) = .int .i64 (a.at_ : Int) :: .int .i64 a.row :: .int .i64 a.n :: slsC r := rfl
    cases i with
    | zero => simp at h; subst h; rw [e]; exact ⟨rfl, rfl, rfl⟩
    | succ i =>
      have h := ih i s (by simpa using h)
      rw [e, show (i + 1) * 3 = i * 3 + 3 by omega, show i * 3 + 3 + 1 = (i * 3 + 1) + 3 by omega, show i * 3 + 3 + 2 = (i * 3 + 2) + 3 by omega]
      exact h
/-- The slots, laid one after another. -/
def runF (s0 : List Int × List Int) (l : List Sl) : List Int × List Int := l.foldl (fun s a => fillR s a.at_ a.row a.n) s0
theorem runF_snoc (s0 : List Int × List Int) (l : List Sl) (a : Sl) : runF s0 (l ++ [a]) = fillR (runF s0 l) a.at_ a.row a.n := by simp [runF]
theorem runF_len : ∀ (l : List Sl) (s0 : List Int × List Int), s0.2.length = s0.1.length → (runF s0 l).2.length = (runF s0 l).1.length := by
  intro l
  induction l with
  | nil => intro s0 h; exact h
  | cons a r ih => intro s0 h; exact ih _ (fillR_len s0 a.at_ a.row a.n h).1
theorem runF_chk : ∀ (l : List Sl) (s0 : List Int × List Int) (j : Nat), (∀ a ∈ l, a.row ≠ -1) → chkB (runF s0 l).1 j = (chkB s0.1 j || l.any fun a => decide (a.at_ = j)) := by
  intro l
  induction l with
  | nil => intro s0 j _; simp [runF]
  | cons a r ih =>
    intro s0 j h
    have := ih (fillR s0 a.at_ a.row a.n) j (fun b hb => h b (by simp [hb]))
    show chkB (runF (fillR s0 a.at_ a.row a.n) r).1 j = _
    rw [this, fillR_chk _ _ _ _ (h a (by simp))]
    have e : decide (j = a.at_) = decide (a.at_ = j) := by simp [eq_comm]
    rw [e]
    simp [Bool.or_assoc]
def setR (s : List Int × List Int) (a : Sl) : List Int × List Int := (s.1.set a.at_ a.row, s.2.set a.at_ a.n)
def runG (s0 : List Int × List Int) (l : List Sl) : List Int × List Int := l.foldl setR s0
theorem runG_snoc (s0 : List Int × List Int) (l : List Sl) (a : Sl) : runG s0 (l ++ [a]) = setR (runG s0 l) a := by simp [runG]
theorem padTo_set {α : Type} (n : Nat) (l : List α) (d x : α) (i : Nat) (h : i < l.length) : padTo n (l.set i x) d = (padTo n l d).set i x := by
  unfold padTo
  rw [List.length_set, List.set_append_left _ _ h]
theorem padTo_padTo {α : Type} (m n : Nat) (l : List α) (d : α) : padTo m (padTo n l d) d = padTo (max m n) l d := by
  apply List.ext_getElem?
  intro i
  rw [padTo_get, padTo_get, padTo_get, padTo_len]
  grind
/-- Filled one by one, or laid out first: the same. -/
theorem runF_runG : ∀ (l : List Sl), runF ([], []) l = runG (List.replicate (runF ([], []) l).1.length (-1), List.replicate (runF ([], []) l).1.length 0) l := by
  have key : ∀ (l : List Sl) (s : List Int × List Int) (m : Nat), s.2.length = s.1.length → (padTo m (runF s l).1 (-1), padTo m (runF s l).2 0) = runG (padTo (max m (runF s l).1.length) s.1 (-1), padTo (max m (runF s l).1.length) s.2 0) l := by
    intro l
    induction l with
    | nil =>
      intro s m hs
      show (padTo m s.1 (-1), padTo m s.2 0) = (padTo (max m s.1.length) s.1 (-1), padTo (max m s.1.length) s.2 0)
      have e1 : padTo (max m s.1.length) s.1 (-1) = padTo m s.1 (-1) := by unfold padTo; congr 2; omega
      have e2 : padTo (max m s.1.length) s.2 (0 : Int) = padTo m s.2 0 := by unfold padTo; congr 2; omega
      rw [e1, e2]
    | cons a r ih =>
      intro s m hs
      have h := ih (fillR s a.at_ a.row a.n) m (fillR_len s a.at_ a.row a.n hs).1
      have el : runF s (a :: r) = runF (fillR s a.at_ a.row a.n) r := rfl
      rw [el, h]
      obtain ⟨M, hM⟩ : ∃ M, max m (runF (fillR s a.at_ a.row a.n) r).1.length = M := ⟨_, rfl⟩
      rw [hM]
      have hge : ∀ (l : List Sl) (s : List Int × List Int), s.2.length = s.1.length → s.1.length ≤ (runF s l).1.length := by
        intro l
        induction l with
        | nil => intro s _; exact Nat.le_refl _
        | cons b q ih2 =>
          intro s hs
          have := ih2 (fillR s b.at_ b.row b.n) (fillR_len s b.at_ b.row b.n hs).1
          have h2 := (fillR_len s b.at_ b.row b.n hs).2
          show s.1.length ≤ (runF (fillR s b.at_ b.row b.n) q).1.length
          omega
      have hl := hge r (fillR s a.at_ a.row a.n) (fillR_len s a.at_ a.row a.n hs).1
      have hl2 := (fillR_len s a.at_ a.row a.n hs).2
      show runG _ r = runG (setR (padTo M s.1 (-1), padTo M s.2 0) a) r
      congr 1
      unfold setR fillR
      dsimp only
      rw [padTo_set _ _ _ _ _ (by rw [padTo_len]; omega), padTo_set _ _ _ _ _ (by rw [padTo_len]; omega), padTo_padTo, padTo_padTo, Nat.max_eq_left (by omega)]
  intro l
  have h := key l ([], []) 0 rfl
  have hlen := runF_len l ([], []) rfl
  rw [padTo_done _ _ _ (by omega), padTo_done _ _ _ (by omega)] at h
  have e1 : ∀ (n : Nat) (d : Int), padTo n ([] : List Int) d = List.replicate n d := fun n d => by simp [padTo]
  rw [e1, e1, show max 0 (runF ([], []) l).1.length = (runF ([], []) l).1.length by omega] at h
  exact h
set_option maxHeartbeats 4000000 in
set_option maxRecDepth 100000 in
theorem taken_any (all : List Sl) (v : Value) (B : Nat) (at_ : Nat) (w : World) (h : w.ownsRow B 58 3 v all.length (slsC all)) :
    Calls Try.prog 27 #[v, .int .i64 (at_ : Int)] w fun r w' => r = .returned (.bool (all.any fun a => decide (a.at_ = at_))) ∧ w' = w := by
  obtain ⟨A, cap, rfl⟩ : ∃ A cap, v = .slice A all.length cap := by
    rcases h.2 with ⟨h1, h2⟩ | ⟨g, cap, cur, h1, _⟩
    · rw [h2]; exact ⟨none, 0, h1⟩
    · exact ⟨_, _, h1⟩
  have hl : all.length ≤ 9223372036854775807 := by
    rcases h.2 with ⟨h1, h2⟩ | ⟨g, c, cur, h1, h2, h3, h4, h5, h6⟩
    · omega
    · unfold maxLen at h5; omega
  obtain ⟨N, hN⟩ : ∃ N, all.length = N := ⟨_, rfl⟩
  obtain ⟨R, hR⟩ : ∃ R, (all.any fun a => decide (a.at_ = at_)) = R := ⟨_, rfl⟩
  have H := Lib.hid (And.intro h (And.intro hN hR))
  rw [hN] at hl ⊢
  rw [hR]
  clear h hN hR
  go_enter Try.func27, Try.ntmps27
  go_wp2_with fail
  go_loopw [5] (fun i wr => ∃ k : Nat, i = .int .i64 (k : Int) ∧ k ≤ N ∧ ((all.take k).any fun a => decide (a.at_ = at_)) = false ∧ wr = w) (fun i _ => N - (RowKit.intOf i).toNat)
  case atStart => exact ⟨0, rfl, by omega, rfl, rfl⟩
  case round =>
    obtain ⟨k, rfl, hk, hno, e⟩ := hrel
    obtain rfl := e
    by_cases hlt : k < N
    · have i1 : (k : Int) < (N : Int) := by omega
      obtain ⟨s, hs⟩ : ∃ s, all[k]? = some s := ⟨all[k]'(by rw [H.out.2.1]; exact hlt), List.getElem?_eq_getElem _⟩
      obtain ⟨g, hA⟩ : ∃ g, A = some ⟨g, 0, none⟩ := by
        rcases H.out.1.2 with ⟨h1, h2⟩ | ⟨g, c, cur, h1, _⟩
        · have := H.out.2.1; omega
        · injection h1 with h1; exact ⟨g, h1⟩
      subst hA
      have d0 := World.ownsRow.cells H.out.1 (g := g) rfl (k * 3) _ (slsC_get all k s hs).1
      rw [add0] at d0
      have ht : ((all.take (k + 1)).any fun a => decide (a.at_ = at_)) = decide (s.at_ = at_) := by
        rw [List.take_add_one, hs, Option.toList_some, List.any_append, hno]
        simp
      have hh : decide (s.at_ = at_) = true → R = true := fun e => by
        rw [← H.out.2.2]
        exact List.any_eq_true.2 ⟨s, List.mem_of_getElem? hs, e⟩
      have HK := Lib.hid (And.intro ht hh)
      clear ht hh hno hs
      by_cases he : s.at_ = at_
      · have hq : ((s.at_ : Int) == (at_ : Int)) = true := by simp; omega
        obtain rfl : R = true := HK.out.2 (by simpa using he)
        clear he
        go_wp2_with fail
        go_ret
        exact ⟨rfl, rfl⟩
      · have hq : ((s.at_ : Int) == (at_ : Int)) = false := by simp; omega
        have HE := Lib.hid (show ((all.take (k + 1)).any fun a => decide (a.at_ = at_)) = false by rw [HK.out.1]; simpa using he)
        clear he
        go_wp2_with fail
        go_roundw
        case rel => exact ⟨k + 1, by go_num, by omega, HE.out, trivial⟩
        case measure => simp [RowKit.intOf]; omega
    · obtain rfl : k = N := by omega
      have i1 : ¬ (k : Int) < (k : Int) := by omega
      have e1 : all.take k = all := by rw [← H.out.2.1, List.take_length]
      rw [e1] at hno
      obtain rfl : R = false := by rw [← H.out.2.2]; exact hno
      clear hno e1
      go_wp2_with fail
      go_ret
      exact ⟨rfl, rfl⟩
end Go.Proofs.Ytadipgkgllcicaa
