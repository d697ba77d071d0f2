/-
  Great letters for small ones, without a program.
-/
import Derived.Test.YtplnkmojkdbbnaaRea
namespace Go.Proofs.Ytplnkmojkdbbnaa
open Go.RowKit Go.Shelf Go.Lib Go.Maps Go.Sort

def upN (c : Nat) : Nat := if 97 ≤ c ∧ c ≤ 122 then c - 32 else c
def upL (l : List Nat) : List Nat := l.map upN
theorem low_up (c : Nat) : lowN (upN c) = lowN c := by unfold lowN upN; split <;> split <;> (try split) <;> omega
theorem lowL_up (l : List Nat) : lowL (upL l) = lowL l := by
  unfold lowL upL
  rw [List.map_map]
  exact List.map_congr_left fun x _ => low_up x
theorem up_ltr (c : Nat) : ltrB (upN c) = ltrB c := by
  unfold ltrB upN
  rw [Bool.eq_iff_iff]
  split <;> simp <;> omega
theorem up_eq (c d : Nat) (hd : ¬ (65 ≤ d ∧ d ≤ 90) ∧ ¬ (97 ≤ d ∧ d ≤ 122)) : (upN c == d) = (c == d) := by
  unfold upN
  rw [Bool.eq_iff_iff]
  split <;> simp <;> omega
theorem up_eqP (c d : Nat) (hd : ¬ (65 ≤ d ∧ d ≤ 90) ∧ ¬ (97 ≤ d ∧ d ≤ 122)) : (upN c = d) = (c = d) := propext (by
  have := up_eq c d hd
  rw [Bool.eq_iff_iff] at this
  simpa only [beq_iff_eq] using this)
theorem bcomm (a b : Nat) : (a == b) = (b == a) := by rw [Bool.eq_iff_iff]; simp only [beq_iff_eq]; exact eq_comm
theorem up_blk (c : Nat) : blkB (upN c) = blkB c := by
  unfold blkB
  rw [up_eq c 9 (by omega), up_eq c 10 (by omega), up_eq c 12 (by omega), up_eq c 13 (by omega), up_eq c 32 (by omega)]
theorem up_same {c : Nat} (h : ¬ (97 ≤ c ∧ c ≤ 122)) : upN c = c := by unfold upN; rw [if_neg h]
/-- Two attributes, but for the letters of their values. -/
def LikeA (a b : AT) : Prop := a.1 = b.1 ∧ lowL a.2 = lowL b.2
def LikeL (l m : List AT) : Prop := l.length = m.length ∧ ∀ (i : Nat) (a b : AT), l[i]? = some a → m[i]? = some b → LikeA a b
theorem LikeL.refl (l : List AT) : LikeL l l := ⟨rfl, fun i a b h1 h2 => by rw [h1] at h2; injection h2 with h2; subst h2; exact ⟨rfl, rfl⟩⟩
theorem LikeL.snoc {l m : List AT} (h : LikeL l m) {a b : AT} (hab : LikeA a b) : LikeL (l ++ [a]) (m ++ [b]) := by
  refine ⟨by simp [h.1], fun i x y hx hy => ?_⟩
  rcases Nat.lt_trichotomy i l.length with hi | hi | hi
  · rw [List.getElem?_append_left hi] at hx
    rw [List.getElem?_append_left (by rw [← h.1]; exact hi)] at hy
    exact h.2 i x y hx hy
  · subst hi
    rw [List.getElem?_append_right (by omega), Nat.sub_self] at hx
    rw [List.getElem?_append_right (by rw [h.1]; exact Nat.le_refl _), h.1, Nat.sub_self] at hy
    simp at hx hy
    subst hx hy
    exact hab
  · have := (List.getElem?_eq_some_iff.1 hx).1
    simp at this
    omega
/-- Two states, but for the letters of values. -/
structure LikeS (s u : RS) : Prop where
  st : s.st = u.st
  slash : s.slash = u.slash
  tn : s.tn = u.tn
  nm : s.nm = u.nm
  vl : lowL s.vl = lowL u.vl
  q : s.q = u.q
  l0 : LikeL s.«as» u.«as»
  q0 : s.st = 6 → s.q = 34 ∨ s.q = 39
  s6 : s.st ≤ 6
structure LikeT (t u : TG) : Prop where
  kind : t.kind = u.kind
  size : t.size = u.size
  name : t.name = u.name
  l0 : LikeL t.attrs u.attrs
  single : t.single = u.single
  closed : t.closed = u.closed
theorem LikeT.refl (t : TG) : LikeT t t := ⟨rfl, rfl, rfl, LikeL.refl _, rfl, rfl⟩
theorem lowL_append (a b : List Nat) : lowL (a ++ b) = lowL a ++ lowL b := by simp [lowL]
theorem like_step {s u : RS} (h : LikeS s u) (c : Nat) : LikeS (refStep s c).1 (refStep u (upN c)).1 ∧ (refStep s c).2 = (refStep u (upN c)).2 := by
  obtain ⟨st, sl, tn, nm, vl, q, l0⟩ := s
  obtain ⟨st', sl', tn', nm', vl', q', l0'⟩ := u
  obtain ⟨h1, h2, h3, h4, h5, h6, h7, h8, h9⟩ := h
  dsimp only at h1 h2 h3 h4 h5 h6 h7 h8 h9
  subst h1 h2 h3 h4 h6
  have e47 := up_eq c 47 (by omega)
  have e62 := up_eq c 62 (by omega)
  have e61 := up_eq c 61 (by omega)
  have e34 := up_eq c 34 (by omega)
  have e39 := up_eq c 39 (by omega)
  have eb := up_blk c
  have el := low_up c
  have lv : lowL (vl ++ [c]) = lowL (vl' ++ [upN c]) := by rw [lowL_append, lowL_append, h5]; simp [lowL, el]
  have lc : lowL [c] = lowL [upN c] := by simp [lowL, el]
  have hn : LikeL (l0 ++ [(nm, [])]) (l0' ++ [(nm, [])]) := h7.snoc ⟨rfl, rfl⟩
  have hv : LikeL (l0 ++ [(nm, vl)]) (l0' ++ [(nm, vl')]) := h7.snoc ⟨rfl, h5⟩
  rcases (show st = 0 ∨ st = 1 ∨ st = 2 ∨ st = 3 ∨ st = 4 ∨ st = 5 ∨ st = 6 by omega) with rfl | rfl | rfl | rfl | rfl | rfl | rfl
  · simp only [refStep, e47, e62, eb, el]
    split <;> exact ⟨⟨rfl, rfl, rfl, rfl, h5, rfl, h7, by simp, by simp⟩, rfl⟩
  · simp only [refStep, e47, e62, eb, el]
    split
    · exact ⟨⟨rfl, rfl, rfl, rfl, h5, rfl, h7, by simp, by simp⟩, rfl⟩
    · split <;> exact ⟨⟨rfl, rfl, rfl, rfl, by first | exact h5 | rfl, rfl, h7, by simp, by simp⟩, rfl⟩
  · simp only [refStep, e47, e62, e61, eb, el]
    split
    · exact ⟨⟨rfl, rfl, rfl, rfl, h5, rfl, h7, by simp, by simp⟩, rfl⟩
    · split
      · exact ⟨⟨rfl, rfl, rfl, rfl, h5, rfl, h7, by simp, by simp⟩, rfl⟩
      · split <;> exact ⟨⟨rfl, rfl, rfl, rfl, h5, rfl, by first | exact hn | exact h7, by simp, by simp⟩, rfl⟩
  · simp only [refStep, e47, e62, e61, eb, el]
    split
    · exact ⟨⟨rfl, rfl, rfl, rfl, h5, rfl, h7, by simp, by simp⟩, rfl⟩
    · split
      · exact ⟨⟨rfl, rfl, rfl, rfl, h5, rfl, h7, by simp, by simp⟩, rfl⟩
      · split <;> exact ⟨⟨rfl, rfl, rfl, rfl, by first | exact h5 | rfl, rfl, hn, by simp, by simp⟩, rfl⟩
  · simp only [refStep, e34, e39, e62, eb]
    split
    · exact ⟨⟨rfl, rfl, rfl, rfl, h5, rfl, h7, by simp, by simp⟩, rfl⟩
    · split
      · rename_i hq
        have hq : c = 34 ∨ c = 39 := by simpa using hq
        have : upN c = c := up_same (by omega)
        rw [this]
        exact ⟨⟨rfl, rfl, rfl, rfl, h5, rfl, h7, fun _ => hq, by simp⟩, rfl⟩
      · split <;> exact ⟨⟨rfl, rfl, rfl, rfl, by first | exact h5 | exact lc, rfl, by first | exact hn | exact h7, by simp, by simp⟩, rfl⟩
  · simp only [refStep, e62, eb]
    split <;> exact ⟨⟨rfl, rfl, rfl, rfl, by first | exact h5 | exact lv, rfl, by first | exact hv | exact h7, by simp, by simp⟩, rfl⟩
  · have hq := h8 rfl
    have eq : (upN c == q) = (c == q) := up_eq c q (by omega)
    simp only [refStep, eq]
    split <;> exact ⟨⟨rfl, rfl, rfl, rfl, by first | exact h5 | exact lv, rfl, by first | exact hv | exact h7, by first | (intro _; exact hq) | simp, by simp⟩, rfl⟩
theorem like_go (N k : Nat) : ∀ (l : List Nat) (s u : RS), LikeS s u → LikeT (refGo N k s l) (refGo N k u (upL l))
  | [], s, u, h => by
    show LikeT (refEnd N k s) (refEnd N k u)
    unfold refEnd
    rw [← h.st]
    refine ⟨rfl, rfl, h.tn, ?_, rfl, rfl⟩
    dsimp only
    split
    · exact h.l0.snoc ⟨h.nm, h.vl⟩
    · exact h.l0
  | c :: t, s, u, h => by
    obtain ⟨h1, h2⟩ := like_step h c
    have hu : upL (c :: t) = upN c :: upL t := rfl
    have hl : (upL t).length = t.length := by simp [upL]
    rw [hu]
    unfold refGo
    rw [← h2, hl]
    split
    · exact ⟨rfl, rfl, h1.tn, h1.l0, h1.slash, rfl⟩
    · exact like_go N k t _ _ h1
theorem up_isPrefix (e : List Nat) (he : ∀ d ∈ e, ¬ (65 ≤ d ∧ d ≤ 90) ∧ ¬ (97 ≤ d ∧ d ≤ 122)) : ∀ l, e.isPrefixOf (upL l) = e.isPrefixOf l := by
  induction e with
  | nil => intro l; cases l <;> rfl
  | cons d e ih =>
    intro l
    cases l with
    | nil => rfl
    | cons c l =>
      have h1 := up_eq c d (he d (by simp))
      have h2 := ih (fun x hx => he x (by simp [hx])) l
      show (d == upN c && e.isPrefixOf (upL l)) = (d == c && e.isPrefixOf l)
      rw [h2, bcomm d (upN c), h1, bcomm c d]
theorem up_upGo (N k : Nat) (e : List Nat) (he : ∀ d ∈ e, ¬ (65 ≤ d ∧ d ≤ 90) ∧ ¬ (97 ≤ d ∧ d ≤ 122)) : ∀ l, upGo N k e (upL l) = upGo N k e l
  | [] => rfl
  | c :: t => by
    have h := up_isPrefix e he (c :: t)
    have hu : upL (c :: t) = upN c :: upL t := rfl
    rw [hu] at h ⊢
    rw [upGo, upGo, h, up_upGo N k e he t]
    simp [upL]
/-- What is asked of both. -/
def LikeO (O U : Option TG) : Prop := O.isSome = U.isSome ∧ LikeT (O.getD tg0) (U.getD tg0)
theorem likeS0 : LikeS rs0 rs0 := ⟨rfl, rfl, rfl, rfl, rfl, rfl, LikeL.refl _, by decide, by decide⟩
theorem like_rd (l : List Nat) : LikeO (rdT l) (rdT (upL l)) := by
  match l with
  | [] => exact ⟨rfl, LikeT.refl _⟩
  | [d] => exact ⟨rfl, LikeT.refl _⟩
  | d :: c :: t =>
    have hu : upL (d :: c :: t) = upN d :: upN c :: upL t := rfl
    have hl : (upL t).length = t.length := by simp [upL]
    rw [hu]
    by_cases hd : d = 60
    case neg =>
      have h1 : upN d ≠ 60 := fun e => by have := up_eq d 60 (by omega); rw [e] at this; simp at this; exact hd this
      rw [show rdT (d :: c :: t) = none by simp [rdT, hd], show rdT (upN d :: upN c :: upL t) = none by simp [rdT, h1]]
      exact ⟨rfl, LikeT.refl _⟩
    subst hd
    rw [show upN 60 = 60 from rfl]
    simp only [rdT, ne_eq, not_true_eq_false, if_false, up_ltr, hl]
    split
    · exact ⟨rfl, like_go _ _ (c :: t) _ _ likeS0⟩
    · have e47 : (upN c = 47) = (c = 47) := up_eqP c 47 (by omega)
      have e33 : (upN c = 33) = (c = 33) := up_eqP c 33 (by omega)
      have e63 : (upN c = 63) = (c = 63) := up_eqP c 63 (by omega)
      have eh : (upL t).head?.map ltrB = t.head?.map ltrB := by
        cases t with
        | nil => rfl
        | cons a u => simp [upL, up_ltr]
      have et : ((upL t).take 2 = [45, 45]) = (t.take 2 = [45, 45]) := by
        have h45 : ∀ a, (upN a = 45) = (a = 45) := fun a => up_eqP a 45 (by omega)
        match t with
        | [] => rfl
        | [a] => simp [upL]
        | a :: b :: u => simp [upL, h45]
      have ed : (upL t).drop 2 = upL (t.drop 2) := by simp [upL]
      simp only [e47, e33, e63, eh, et, ed]
      split
      · exact ⟨rfl, like_go _ _ t _ _ likeS0⟩
      · split
        · rw [up_upGo _ _ _ (by decide)]
          exact ⟨rfl, LikeT.refl _⟩
        · split
          · rw [up_upGo _ _ _ (by decide)]
            exact ⟨rfl, LikeT.refl _⟩
          · exact ⟨rfl, LikeT.refl _⟩
end Go.Proofs.Ytplnkmojkdbbnaa
